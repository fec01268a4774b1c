/- Plain facts on levels: where each arc takes one, what goes yet is bounded by how far the sink is (DINIC). -/
import Derived.Test.YtlfhnhfhaifchaaCutM
namespace Go.Proofs.Ytlfhnhfhaifchaa
set_option linter.unusedVariables false

/-- of the nodes nearer than j: what may lead out of them yet, along an arc -/
def lvC (l : List Arc3) (f : Nat → Int) (d : Int → Nat) (j k : Nat) : Int :=
  if (f k < 1 ∧ d (at3 l k).1 < j ∧ j ≤ d (at3 l k).2.1) ∨ (0 < f k ∧ d (at3 l k).2.1 < j ∧ j ≤ d (at3 l k).1) then 1 else 0

/-- of all levels an arc stands in one at most -/
theorem lvC_once {l : List Arc3} {f : Nat → Int} {d : Int → Nat} {k : Nat} (hf : f k = 0 ∨ f k = 1) (h1 : f k < 1 → d (at3 l k).2.1 ≤ d (at3 l k).1 + 1) (h2 : 0 < f k → d (at3 l k).1 ≤ d (at3 l k).2.1 + 1) :
    ∀ D : Nat, sumN (fun j => lvC l f d (j + 1) k) D ≤ (if (f k < 1 ∧ d (at3 l k).1 < D) ∨ (0 < f k ∧ d (at3 l k).2.1 < D) then 1 else 0)
  | 0 => by
    show (0 : Int) ≤ _
    split <;> omega
  | D + 1 => by
    have ih := lvC_once hf h1 h2 D
    show sumN (fun j => lvC l f d (j + 1) k) D + lvC l f d (D + 1) k ≤ _
    unfold lvC at ih ⊢
    rcases hf with hf | hf
    · have a1 := h1 (by omega)
      rw [hf] at ih ⊢
      by_cases c1 : d (at3 l k).1 < D
      · rw [if_pos (Or.inl ⟨by omega, c1⟩)] at ih
        rw [if_neg (by omega), if_pos (Or.inl ⟨by omega, by omega⟩)]
        omega
      · rw [if_neg (by omega)] at ih
        by_cases c2 : d (at3 l k).1 < D + 1
        · rw [if_pos (show ((0 : Int) < 1 ∧ d (at3 l k).1 < D + 1) ∨ ((0 : Int) < 0 ∧ d (at3 l k).2.1 < D + 1) from Or.inl ⟨by omega, c2⟩)]
          split <;> omega
        · rw [if_neg (show ¬ (((0 : Int) < 1 ∧ d (at3 l k).1 < D + 1 ∧ D + 1 ≤ d (at3 l k).2.1) ∨ ((0 : Int) < 0 ∧ d (at3 l k).2.1 < D + 1 ∧ D + 1 ≤ d (at3 l k).1)) by omega), if_neg (by omega)]
          omega
    · have a2 := h2 (by omega)
      rw [hf] at ih ⊢
      by_cases c1 : d (at3 l k).2.1 < D
      · rw [if_pos (Or.inr ⟨by omega, c1⟩)] at ih
        rw [if_neg (by omega), if_pos (Or.inr ⟨by omega, by omega⟩)]
        omega
      · rw [if_neg (by omega)] at ih
        by_cases c2 : d (at3 l k).2.1 < D + 1
        · rw [if_pos (show ((1 : Int) < 1 ∧ d (at3 l k).1 < D + 1) ∨ ((0 : Int) < 1 ∧ d (at3 l k).2.1 < D + 1) from Or.inr ⟨by omega, c2⟩)]
          split <;> omega
        · rw [if_neg (show ¬ (((1 : Int) < 1 ∧ d (at3 l k).1 < D + 1 ∧ D + 1 ≤ d (at3 l k).2.1) ∨ ((0 : Int) < 1 ∧ d (at3 l k).2.1 < D + 1 ∧ D + 1 ≤ d (at3 l k).1)) by omega), if_neg (by omega)]
          omega

/-- what more another flow has goes out of the nodes nearer than j -/
theorem lv_cross {N : Nat} {s t : Int} {l : List Arc3} {f g : List Int} {d : Int → Nat} {j : Nat} (hE : netErr N s t l = 0) (h1 : ∀ k, k < l.length → (at3 l k).2.2 = 1) (hf : FlowIs N s t l f) (hg : FlowIs N s t l g) (hs : d s < j) (ht : j ≤ d t) :
    gone l (ati g) s - gone l (ati f) s ≤ sumN (fun k => lvC l (ati f) d j k) l.length := by
  have e1 := hg.side hE (fun v => if d v < j then 1 else 0)
  have e2 := hf.side hE (fun v => if d v < j then 1 else 0)
  simp only [if_pos hs, if_neg (show ¬ d t < j by omega)] at e1 e2
  have e3 : gone l (ati g) s - gone l (ati f) s = sumN (fun i => ((if d (at3 l i).1 < j then 1 else 0) * ati g i - (if d (at3 l i).2.1 < j then 1 else 0) * ati g i) - ((if d (at3 l i).1 < j then 1 else 0) * ati f i - (if d (at3 l i).2.1 < j then 1 else 0) * ati f i)) l.length := by
    rw [sumN_sub, e1, e2]; omega
  rw [e3]
  refine sumN_mono fun k hk => ?_
  have b1 := hf.bnd k hk
  have b2 := hg.bnd k hk
  rw [h1 k hk] at b1 b2
  unfold lvC
  by_cases p1 : d (at3 l k).1 < j <;> by_cases p2 : d (at3 l k).2.1 < j <;> simp only [p1, p2, if_true, if_false, true_and, false_and] <;> split <;> omega

/-- DINIC: the farther the sink, the less can go yet -/
theorem lv_bound {N : Nat} {s t v : Int} {l : List Arc3} {f : List Int} {d : Int → Nat} (hE : netErr N s t l = 0) (h1 : ∀ k, k < l.length → (at3 l k).2.2 = 1) (hf : FlowIs N s t l f) (hM : MaxIs N s t l v) (hs : d s = 0)
    (hd : ∀ k, k < l.length → (ati f k < 1 → d (at3 l k).2.1 ≤ d (at3 l k).1 + 1) ∧ (0 < ati f k → d (at3 l k).1 ≤ d (at3 l k).2.1 + 1)) : (d t : Int) * (v - gone l (ati f) s) ≤ l.length := by
  obtain ⟨g, hg, rfl⟩ := hM.flow
  have key : ∀ D : Nat, D ≤ d t → (D : Int) * (gone l (ati g) s - gone l (ati f) s) ≤ sumN (fun j => sumN (fun k => lvC l (ati f) d (j + 1) k) l.length) D := by
    intro D
    induction D with
    | zero => intro _; simp [sumN]
    | succ D ih =>
      intro hD
      have a := ih (by omega)
      have b := lv_cross (j := D + 1) hE h1 hf hg (by omega) hD
      show _ ≤ sumN _ D + sumN (fun k => lvC l (ati f) d (D + 1) k) l.length
      rw [Int.natCast_succ, Int.add_mul]
      omega
  have a := key (d t) (Nat.le_refl _)
  rw [sumN_swap] at a
  have b : sumN (fun k => sumN (fun j => lvC l (ati f) d (j + 1) k) (d t)) l.length ≤ sumN (fun _ => 1) l.length := sumN_mono fun k hk => by
    have b1 := hf.bnd k hk
    rw [h1 k hk] at b1
    have := lvC_once (l := l) (f := ati f) (d := d) (k := k) (by omega) (hd k hk).1 (hd k hk).2 (d t)
    split at this <;> omega
  have c : ∀ n : Nat, sumN (fun _ => (1 : Int)) n = n := fun n => by
    induction n with
    | zero => rfl
    | succ n ih => show sumN _ n + 1 = _; rw [ih]; omega
  rw [c] at b
  omega

end Go.Proofs.Ytlfhnhfhaifchaa
