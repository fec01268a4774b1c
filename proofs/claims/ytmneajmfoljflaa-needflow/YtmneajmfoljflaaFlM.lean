/- Plain facts on nets and on what goes through them. -/
import Derived.Test.YtmneajmfoljflaaGErr
import Derived.Test.YtmneajmfoljflaaSums
namespace Go.Proofs.Ytmneajmfoljflaa
set_option linter.unusedVariables false

/-- P4 -/
def netErr (n s t : Int) (l : List Arc3) : Int :=
  if graphErr n 0 l ≠ 0 then graphErr n 0 l else if ¬ ((0 ≤ s ∧ s < n) ∧ (0 ≤ t ∧ t < n)) then 4 else if s = t then 3 else 0

theorem net_ok {n s t : Int} {l : List Arc3} (h : netErr n s t l = 0) : graphErr n 0 l = 0 ∧ (0 ≤ s ∧ s < n) ∧ (0 ≤ t ∧ t < n) ∧ s ≠ t := by
  unfold netErr at h
  by_cases c1 : graphErr n 0 l = 0
  · rw [if_neg (by simpa using c1)] at h
    by_cases c2 : (0 ≤ s ∧ s < n) ∧ (0 ≤ t ∧ t < n)
    · rw [if_neg (fun c => c c2)] at h
      by_cases c3 : s = t
      · rw [if_pos c3] at h; cases h
      · exact ⟨c1, c2.1, c2.2, c3⟩
    · rw [if_pos c2] at h; cases h
  · rw [if_pos c1] at h; exact absurd h c1
theorem net_mk {n s t : Int} {l : List Arc3} (h : graphErr n 0 l = 0 ∧ (0 ≤ s ∧ s < n) ∧ (0 ≤ t ∧ t < n) ∧ s ≠ t) : netErr n s t l = 0 := by
  unfold netErr
  rw [if_neg (by simpa using h.1), if_neg (fun c => c ⟨h.2.1, h.2.2.1⟩), if_neg h.2.2.2]

/-- how much more goes from a node than to it, along the first k arcs -/
def goneK (l : List Arc3) (f : Nat → Int) (v : Int) (k : Nat) : Int := sumN (fun i => (if (at3 l i).1 = v then f i else 0) - (if (at3 l i).2.1 = v then f i else 0)) k
def gone (l : List Arc3) (f : Nat → Int) (v : Int) : Int := goneK l f v l.length

theorem goneK_succ (l : List Arc3) (f : Nat → Int) (v : Int) (k : Nat) : goneK l f v (k + 1) = goneK l f v k + ((if (at3 l k).1 = v then f k else 0) - (if (at3 l k).2.1 = v then f k else 0)) := rfl
theorem goneK_bound {l : List Arc3} {f : Nat → Int} {v : Int} {C : Int} (hC : 0 ≤ C) : ∀ k, (∀ i, i < k → 0 ≤ f i ∧ f i ≤ C) → -(C * k) ≤ goneK l f v k ∧ goneK l f v k ≤ C * k
  | 0, _ => by simp [goneK, sumN]
  | k + 1, h => by
    have ih := goneK_bound (l := l) (f := f) (v := v) hC k fun i hi => h i (by omega)
    have h1 := h k (by omega)
    have e : C * ((k + 1 : Nat) : Int) = C * k + C := by rw [Int.natCast_add, Int.mul_add]; simp
    rw [goneK_succ, e]
    split <;> split <;> omega
theorem gone_congr {l : List Arc3} {f g : Nat → Int} (h : ∀ i, i < l.length → f i = g i) (v : Int) : gone l f v = gone l g v :=
  sumN_congr fun i hi => by rw [h i hi]
theorem gone_add (l : List Arc3) (f g : Nat → Int) (v : Int) : gone l (fun i => f i + g i) v = gone l f v + gone l g v := by
  unfold gone goneK
  rw [← sumN_add]
  refine sumN_congr fun i hi => ?_
  dsimp only
  split <;> split <;> omega
theorem gone_zero (l : List Arc3) (v : Int) : gone l (fun _ => 0) v = 0 := sumN_zero fun i hi => by simp

theorem sumN_hit {N : Nat} {u : Int} (hu : 0 ≤ u ∧ u < (N : Int)) (χ : Int → Int) (x : Int) : sumN (fun v => χ v * (if u = (v : Int) then x else 0)) N = χ u * x := by
  obtain ⟨u, rfl⟩ := Int.eq_ofNat_of_zero_le hu.1
  rw [sumN_single (k := u) (by omega)]
  · simp
  · intro v hv hne
    rw [if_neg (by omega), Int.mul_zero]

/-- across any set of nodes: what goes out of it, in all -/
theorem gone_sum {N : Nat} {l : List Arc3} (hl : ∀ a ∈ l, (0 ≤ a.1 ∧ a.1 < (N : Int)) ∧ (0 ≤ a.2.1 ∧ a.2.1 < (N : Int))) (f : Nat → Int) (χ : Int → Int) :
    sumN (fun v => χ v * gone l f v) N = sumN (fun i => χ (at3 l i).1 * f i - χ (at3 l i).2.1 * f i) l.length := by
  have h1 : sumN (fun v => χ v * gone l f v) N = sumN (fun v => sumN (fun i => χ v * ((if (at3 l i).1 = (v : Int) then f i else 0) - (if (at3 l i).2.1 = (v : Int) then f i else 0))) l.length) N :=
    sumN_congr fun v hv => by rw [sumN_mul]; rfl
  rw [h1, sumN_swap]
  refine sumN_congr fun i hi => ?_
  have hm := hl _ (at3_mem l i hi)
  rw [← sumN_hit hm.1 χ (f i), ← sumN_hit hm.2 χ (f i), ← sumN_sub]
  exact sumN_congr fun v hv => by rw [Int.mul_sub]

/-- a flow -/
structure FlowIs (N : Nat) (s t : Int) (l : List Arc3) (f : List Int) : Prop where
  len : f.length = l.length
  bnd : ∀ k, k < l.length → 0 ≤ ati f k ∧ ati f k ≤ (at3 l k).2.2
  bal : ∀ v : Nat, v < N → (v : Int) ≠ s → (v : Int) ≠ t → gone l (ati f) v = 0

/-- P22 -/
def flowErr (n s t : Int) (l : List Arc3) (f : List Int) : Int :=
  if netErr n s t l ≠ 0 then netErr n s t l else if f.length ≠ l.length then 3
  else if ¬ (∀ k, k < l.length → 0 ≤ ati f k ∧ ati f k ≤ (at3 l k).2.2) then 7
  else if ¬ (∀ v, v < n.toNat → (v : Int) ≠ s → (v : Int) ≠ t → gone l (ati f) v = 0) then 8 else 0

theorem flow_ok {n s t : Int} {l : List Arc3} {f : List Int} (h : flowErr n s t l f = 0) : netErr n s t l = 0 ∧ FlowIs n.toNat s t l f := by
  unfold flowErr at h
  by_cases c1 : netErr n s t l = 0
  · rw [if_neg (by simpa using c1)] at h
    by_cases c2 : f.length = l.length
    · rw [if_neg (by simpa using c2)] at h
      by_cases c3 : ∀ k, k < l.length → 0 ≤ ati f k ∧ ati f k ≤ (at3 l k).2.2
      · rw [if_neg (fun c => c c3)] at h
        by_cases c4 : ∀ v, v < n.toNat → (v : Int) ≠ s → (v : Int) ≠ t → gone l (ati f) v = 0
        · exact ⟨c1, c2, c3, c4⟩
        · rw [if_pos c4] at h; cases h
      · rw [if_pos c3] at h; cases h
    · rw [if_pos c2] at h; cases h
  · rw [if_pos c1] at h; exact absurd h c1
theorem flow_mk {n s t : Int} {l : List Arc3} {f : List Int} (h : netErr n s t l = 0) (hf : FlowIs n.toNat s t l f) : flowErr n s t l f = 0 := by
  unfold flowErr
  rw [if_neg (by simpa using h), if_neg (by simpa using hf.len), if_neg (fun c => c hf.bnd), if_neg (fun c => c hf.bal)]
theorem flow_bad {n s t : Int} {l : List Arc3} {f : List Int} (h : netErr n s t l ≠ 0) : flowErr n s t l f = netErr n s t l := by
  unfold flowErr; rw [if_pos h]
theorem flow_form {n s t : Int} {l : List Arc3} {f : List Int} (h : netErr n s t l = 0) (h2 : f.length ≠ l.length) : flowErr n s t l f = 3 := by
  unfold flowErr; rw [if_neg (by simpa using h), if_pos h2]
theorem flow_over {n s t : Int} {l : List Arc3} {f : List Int} (h : netErr n s t l = 0) (h2 : f.length = l.length) {k : Nat} (hk : k < l.length) (h3 : ¬ (0 ≤ ati f k ∧ ati f k ≤ (at3 l k).2.2)) : flowErr n s t l f = 7 := by
  unfold flowErr; rw [if_neg (by simpa using h), if_neg (by simpa using h2), if_pos (fun c => h3 (c k hk))]
theorem flow_lost {n s t : Int} {l : List Arc3} {f : List Int} (h : netErr n s t l = 0) (h2 : f.length = l.length) (h3 : ∀ k, k < l.length → 0 ≤ ati f k ∧ ati f k ≤ (at3 l k).2.2) {v : Nat} (hv : v < n.toNat) (h4 : (v : Int) ≠ s) (h5 : (v : Int) ≠ t) (h6 : gone l (ati f) v ≠ 0) : flowErr n s t l f = 8 := by
  unfold flowErr; rw [if_neg (by simpa using h), if_neg (by simpa using h2), if_neg (fun c => c h3), if_pos (fun c => h6 (c v hv h4 h5))]

theorem net_nodes {N : Nat} {s t : Int} {l : List Arc3} (h : netErr N s t l = 0) : ∀ a ∈ l, (0 ≤ a.1 ∧ a.1 < (N : Int)) ∧ (0 ≤ a.2.1 ∧ a.2.1 < (N : Int)) := fun a ha => by
  have := (err_ok (net_ok h).1).2.2 a ha
  exact ⟨this.1, this.2.1⟩

/-- across a side of the source just the Value goes -/
theorem FlowIs.side {N : Nat} {s t : Int} {l : List Arc3} {f : List Int} (hE : netErr N s t l = 0) (h : FlowIs N s t l f) (χ : Int → Int) :
    sumN (fun i => χ (at3 l i).1 * ati f i - χ (at3 l i).2.1 * ati f i) l.length = χ s * gone l (ati f) s + χ t * gone l (ati f) t := by
  obtain ⟨_, hs, ht, hst⟩ := net_ok hE
  rw [← gone_sum (net_nodes hE)]
  obtain ⟨s, rfl⟩ := Int.eq_ofNat_of_zero_le hs.1
  obtain ⟨t, rfl⟩ := Int.eq_ofNat_of_zero_le ht.1
  have h2 : sumN (fun v => χ v * gone l (ati f) v) N = sumN (fun v => (χ v * (if (s : Int) = (v : Int) then gone l (ati f) s else 0)) + (χ v * (if (t : Int) = (v : Int) then gone l (ati f) t else 0))) N := by
    refine sumN_congr fun v hv => ?_
    by_cases e1 : v = s
    · subst e1; rw [if_pos rfl, if_neg (by omega)]; simp
    · by_cases e2 : v = t
      · subst e2; rw [if_neg (by omega), if_pos rfl]; simp
      · rw [if_neg (by omega), if_neg (by omega), h.bal v hv (by omega) (by omega)]; simp
  rw [h2, sumN_add, sumN_hit (by omega), sumN_hit (by omega)]
/-- what leaves the source comes to the sink -/
theorem FlowIs.ends {N : Nat} {s t : Int} {l : List Arc3} {f : List Int} (hE : netErr N s t l = 0) (h : FlowIs N s t l f) : gone l (ati f) s + gone l (ati f) t = 0 := by
  have := h.side hE (fun _ => 1)
  have e : sumN (fun i => 1 * ati f i - 1 * ati f i) l.length = 0 := sumN_zero fun i _ => by omega
  rw [e] at this
  omega

/-! ### Turned -/

theorem at3_turn (l : List Arc3) (k : Nat) : at3 (l.map turnA) k = turnA (at3 l k) := by
  by_cases h : k < l.length
  · exact at3_map turnA l k h
  · have e1 : at3 l k = (0, 0, 0) := by simp [at3, show l[k]? = none from List.getElem?_eq_none (by omega)]
    have e2 : at3 (l.map turnA) k = (0, 0, 0) := by simp [at3, show l[k]? = none from List.getElem?_eq_none (by omega)]
    rw [e1, e2]; rfl
theorem gone_turn (l : List Arc3) (f : Nat → Int) (v : Int) : gone (l.map turnA) f v = - gone l f v := by
  unfold gone goneK
  rw [List.length_map, ← sumN_neg]
  refine sumN_congr fun i hi => ?_
  rw [at3_turn]
  simp only [turnA]
  omega
theorem net_turn {n s t : Int} {l : List Arc3} (h : netErr n s t l = 0) : netErr n t s (l.map turnA) = 0 := by
  obtain ⟨h1, h2, h3, h4⟩ := net_ok h
  obtain ⟨a1, a2, a3⟩ := err_ok h1
  refine net_mk ⟨err_mk ⟨a1, by simpa using a2, fun a ha => ?_⟩, h3, h2, Ne.symm h4⟩
  obtain ⟨b, hb, rfl⟩ := List.mem_map.1 ha
  have := a3 b hb
  exact ⟨this.2.1, this.1, this.2.2⟩
theorem FlowIs.turn {N : Nat} {s t : Int} {l : List Arc3} {f : List Int} (h : FlowIs N s t l f) : FlowIs N t s (l.map turnA) f := by
  refine ⟨by rw [List.length_map]; exact h.len, fun k hk => ?_, fun v hv h1 h2 => ?_⟩
  · rw [List.length_map] at hk
    rw [at3_turn]
    exact h.bnd k hk
  · rw [gone_turn, h.bal v hv h2 h1]; rfl

end Go.Proofs.Ytmneajmfoljflaa
