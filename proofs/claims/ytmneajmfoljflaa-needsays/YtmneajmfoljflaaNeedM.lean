/- Plain facts on rounds that must take something: HOFFMAN's easy half. -/
import Derived.Test.YtmneajmfoljflaaCutM
namespace Go.Proofs.Ytmneajmfoljflaa
set_option linter.unusedVariables false

/-- from, to, low, cap -/
abbrev Need4 := Int × Int × Int × Int
def at4 (l : List Need4) (k : Nat) : Need4 := l.getD k (0, 0, 0, 0)
theorem at4_lt (l : List Need4) (k : Nat) (h : k < l.length) : at4 l k = l[k] := by simp [at4, h]
theorem at4_mem (l : List Need4) (k : Nat) (h : k < l.length) : at4 l k ∈ l := by rw [at4_lt l k h]; exact List.getElem_mem h

/-- P35, of one arc -/
def need1 (n : Int) (a : Need4) : Int := if (0 ≤ a.1 ∧ a.1 < n) ∧ (0 ≤ a.2.1 ∧ a.2.1 < n) then (if 0 ≤ a.2.2.1 ∧ a.2.2.1 ≤ a.2.2.2 ∧ a.2.2.2 ≤ 333 then 0 else 1) else 4
def needsErr (n : Int) : List Need4 → Int
  | [] => 0
  | a :: r => if need1 n a = 0 then needsErr n r else need1 n a
def needErr (n : Int) (l : List Need4) : Int := if n < 1 ∨ 10 < n then 1 else if 30 < l.length then 2 else needsErr n l

theorem need1_ok {n : Int} {a : Need4} (h : need1 n a = 0) : (0 ≤ a.1 ∧ a.1 < n) ∧ (0 ≤ a.2.1 ∧ a.2.1 < n) ∧ 0 ≤ a.2.2.1 ∧ a.2.2.1 ≤ a.2.2.2 ∧ a.2.2.2 ≤ 333 := by
  unfold need1 at h
  split at h
  · rename_i h1
    split at h
    · rename_i h2; exact ⟨h1.1, h1.2, h2.1, h2.2.1, h2.2.2⟩
    · cases h
  · cases h
theorem need1_mk {n : Int} {a : Need4} (h : (0 ≤ a.1 ∧ a.1 < n) ∧ (0 ≤ a.2.1 ∧ a.2.1 < n) ∧ 0 ≤ a.2.2.1 ∧ a.2.2.1 ≤ a.2.2.2 ∧ a.2.2.2 ≤ 333) : need1 n a = 0 := by
  unfold need1; rw [if_pos ⟨h.1, h.2.1⟩, if_pos h.2.2]
theorem needs_ok {n : Int} : ∀ {l : List Need4}, needsErr n l = 0 → ∀ a ∈ l, need1 n a = 0
  | [], _, a, ha => by cases ha
  | b :: l, h, a, ha => by
    unfold needsErr at h
    by_cases c : need1 n b = 0
    · rw [if_pos c] at h
      rcases List.mem_cons.1 ha with rfl | ha
      · exact c
      · exact needs_ok h a ha
    · rw [if_neg c] at h; exact absurd h c
theorem needs_mk {n : Int} : ∀ {l : List Need4}, (∀ a ∈ l, need1 n a = 0) → needsErr n l = 0
  | [], _ => rfl
  | b :: l, h => by
    unfold needsErr
    rw [if_pos (h b (by simp))]
    exact needs_mk fun a ha => h a (by simp [ha])
theorem needs_append {n : Int} {l m : List Need4} (h : needsErr n l = 0) : needsErr n (l ++ m) = needsErr n m := by
  induction l with
  | nil => rfl
  | cons a r ih =>
    simp only [needsErr, List.cons_append] at h ⊢
    by_cases e : need1 n a = 0
    · rw [if_pos e] at h ⊢; exact ih h
    · rw [if_neg e] at h; exact absurd h e
theorem need_ok {n : Int} {l : List Need4} (h : needErr n l = 0) : (1 ≤ n ∧ n ≤ 10) ∧ l.length ≤ 30 ∧ ∀ k, k < l.length → (0 ≤ (at4 l k).1 ∧ (at4 l k).1 < n) ∧ (0 ≤ (at4 l k).2.1 ∧ (at4 l k).2.1 < n) ∧ 0 ≤ (at4 l k).2.2.1 ∧ (at4 l k).2.2.1 ≤ (at4 l k).2.2.2 ∧ (at4 l k).2.2.2 ≤ 333 := by
  unfold needErr at h
  by_cases c : n < 1 ∨ 10 < n
  · rw [if_pos c] at h; cases h
  · rw [if_neg c] at h
    by_cases d : 30 < l.length
    · rw [if_pos d] at h; cases h
    · rw [if_neg d] at h
      exact ⟨by omega, by omega, fun k hk => need1_ok (needs_ok h _ (at4_mem l k hk))⟩
theorem need_mk {n : Int} {l : List Need4} (h1 : 1 ≤ n ∧ n ≤ 10) (h2 : l.length ≤ 30) (h3 : ∀ a ∈ l, need1 n a = 0) : needErr n l = 0 := by
  unfold needErr
  rw [if_neg (by omega), if_neg (by omega)]
  exact needs_mk h3

/-- the arcs, each with what it takes at most -/
def needA (l : List Need4) : List Arc3 := l.map fun a => (a.1, a.2.1, a.2.2.2)
theorem needA_len (l : List Need4) : (needA l).length = l.length := by unfold needA; rw [List.length_map]
theorem needA_at {l : List Need4} {k : Nat} (hk : k < l.length) : at3 (needA l) k = ((at4 l k).1, (at4 l k).2.1, (at4 l k).2.2.2) := by
  rw [at3_lt _ _ (by rw [needA_len]; exact hk), at4_lt _ _ hk]
  unfold needA
  rw [List.getElem_map]
theorem needA_nodes {N : Nat} {l : List Need4} (h : needErr N l = 0) : ∀ a ∈ needA l, (0 ≤ a.1 ∧ a.1 < (N : Int)) ∧ (0 ≤ a.2.1 ∧ a.2.1 < (N : Int)) := fun a ha => by
  obtain ⟨i, hi, rfl⟩ := List.mem_iff_getElem.1 ha
  rw [needA_len] at hi
  rw [← at3_lt _ _ (by rw [needA_len]; exact hi), needA_at hi]
  have := (need_ok h).2.2 i hi
  exact ⟨this.1, this.2.1⟩

/-- a ROUND -/
structure RoundIs (N : Nat) (l : List Need4) (f : List Int) : Prop where
  len : f.length = l.length
  bnd : ∀ k, k < l.length → (at4 l k).2.2.1 ≤ ati f k ∧ ati f k ≤ (at4 l k).2.2.2
  bal : ∀ v : Nat, v < N → gone (needA l) (ati f) v = 0

/-- what must come into a set; what can go out of it; along the first k arcs -/
def mustK (l : List Need4) (x : Int) (k : Nat) : Int := sumN (fun i => (1 - bt x (at4 l i).1) * bt x (at4 l i).2.1 * (at4 l i).2.2.1) k
def mayK (l : List Need4) (x : Int) (k : Nat) : Int := sumN (fun i => bt x (at4 l i).1 * (1 - bt x (at4 l i).2.1) * (at4 l i).2.2.2) k
def mustS (l : List Need4) (x : Int) : Int := mustK l x l.length
def mayS (l : List Need4) (x : Int) : Int := mayK l x l.length
/-- more is asked into it than goes out of it -/
def Strains (l : List Need4) (x : Int) : Prop := mayS l x < mustS l x
theorem must_bound {l : List Need4} {x : Int} {C : Int} (hC : 0 ≤ C) : ∀ k, (∀ i, i < k → 0 ≤ (at4 l i).2.2.1 ∧ (at4 l i).2.2.1 ≤ C) → 0 ≤ mustK l x k ∧ mustK l x k ≤ C * (k : Int)
  | 0, _ => by simp [mustK, sumN]
  | k + 1, h => by
    have ih := must_bound (l := l) (x := x) hC k fun i hi => h i (by omega)
    have h1 := h k (by omega)
    have e : C * ((k + 1 : Nat) : Int) = C * k + C := by rw [Int.natCast_add, Int.mul_add]; simp
    show 0 ≤ mustK l x k + (1 - bt x (at4 l k).1) * bt x (at4 l k).2.1 * (at4 l k).2.2.1 ∧ mustK l x k + (1 - bt x (at4 l k).1) * bt x (at4 l k).2.1 * (at4 l k).2.2.1 ≤ _
    rw [e]
    rcases bt_01 x (at4 l k).1 with e1 | e1 <;> rcases bt_01 x (at4 l k).2.1 with e2 | e2 <;> rw [e1, e2] <;> simp <;> omega
theorem may_bound {l : List Need4} {x : Int} {C : Int} (hC : 0 ≤ C) : ∀ k, (∀ i, i < k → 0 ≤ (at4 l i).2.2.2 ∧ (at4 l i).2.2.2 ≤ C) → 0 ≤ mayK l x k ∧ mayK l x k ≤ C * (k : Int)
  | 0, _ => by simp [mayK, sumN]
  | k + 1, h => by
    have ih := may_bound (l := l) (x := x) hC k fun i hi => h i (by omega)
    have h1 := h k (by omega)
    have e : C * ((k + 1 : Nat) : Int) = C * k + C := by rw [Int.natCast_add, Int.mul_add]; simp
    show 0 ≤ mayK l x k + bt x (at4 l k).1 * (1 - bt x (at4 l k).2.1) * (at4 l k).2.2.2 ∧ mayK l x k + bt x (at4 l k).1 * (1 - bt x (at4 l k).2.1) * (at4 l k).2.2.2 ≤ _
    rw [e]
    rcases bt_01 x (at4 l k).1 with e1 | e1 <;> rcases bt_01 x (at4 l k).2.1 with e2 | e2 <;> rw [e1, e2] <;> simp <;> omega

/-- where there is a round no set strains -/
theorem RoundIs.eased {N : Nat} {l : List Need4} {f : List Int} (hE : needErr N l = 0) (h : RoundIs N l f) (x : Int) : mustS l x ≤ mayS l x := by
  have e := gone_sum (N := N) (needA_nodes hE) (ati f) (bt x)
  have e0 : sumN (fun v => bt x (v : Int) * gone (needA l) (ati f) v) N = 0 := sumN_zero fun v hv => by rw [h.bal v hv]; simp
  rw [e0, needA_len] at e
  have h1 : sumN (fun i => (1 - bt x (at4 l i).1) * bt x (at4 l i).2.1 * (at4 l i).2.2.1 + (bt x (at3 (needA l) i).1 * ati f i - bt x (at3 (needA l) i).2.1 * ati f i)) l.length ≤ sumN (fun i => bt x (at4 l i).1 * (1 - bt x (at4 l i).2.1) * (at4 l i).2.2.2) l.length := sumN_mono fun i hi => by
    have hb := h.bnd i hi
    rw [needA_at hi]
    rcases bt_01 x (at4 l i).1 with e1 | e1 <;> rcases bt_01 x (at4 l i).2.1 with e2 | e2 <;> simp only [e1, e2] <;> simp <;> omega
  rw [sumN_add, ← e] at h1
  unfold mustS mayS mustK mayK
  omega

end Go.Proofs.Ytmneajmfoljflaa
