/- Plain facts on how many trees: KIRCHHOFF's table of a graph; an arc less, and its ends being one. -/
import Derived.Test.YtamckjbddnocpaaKMath
namespace Go.Proofs.Ytamckjbddnocpaa
set_option linter.unusedVariables false

def ev (a : Arc3) (i : Nat) : Int := one ((i : Int) = a.1) - one ((i : Int) = a.2.1)

/-- KIRCHHOFF's table -/
def lap : List Arc3 → Mtx
  | [], _, _ => 0
  | a :: r, i, j => ev a i * ev a j + lap r i j

theorem lap_symm (l : List Arc3) (i j : Nat) : lap l i j = lap l j i := by
  induction l with
  | nil => rfl
  | cons a r ih => simp only [lap, ih, Int.mul_comm]
theorem lap_append (l m : List Arc3) (i j : Nat) : lap (l ++ m) i j = lap l i j + lap m i j := by
  induction l with
  | nil => simp [lap]
  | cons a r ih => simp only [List.cons_append, lap, ih]; omega
theorem lap_mid (l m : List Arc3) (a : Arc3) (i j : Nat) : lap (l ++ a :: m) i j = lap (l ++ m) i j + ev a i * ev a j := by
  rw [lap_append, lap_append, lap]; omega

theorem ev_sum {N : Nat} {a : Arc3} (h : (0 ≤ a.1 ∧ a.1 < (N : Int)) ∧ (0 ≤ a.2.1 ∧ a.2.1 < (N : Int))) : sumN (ev a) N = 0 := by
  obtain ⟨f, hf⟩ := Int.eq_ofNat_of_zero_le h.1.1
  obtain ⟨t, ht⟩ := Int.eq_ofNat_of_zero_le h.2.1
  have e : sumN (ev a) N = sumN (fun i => one ((i : Int) = a.1) - one ((i : Int) = a.2.1)) N := rfl
  rw [e, sumN_sub, sumN_single (k := f) (by omega) fun v _ hv => one_no (by omega), sumN_single (k := t) (by omega) fun v _ hv => one_no (by omega), one_yes hf.symm, one_yes ht.symm]
  rfl

theorem lap_sum {N : Nat} {l : List Arc3} (h : ∀ a ∈ l, (0 ≤ a.1 ∧ a.1 < (N : Int)) ∧ (0 ≤ a.2.1 ∧ a.2.1 < (N : Int))) (c : Nat) : sumN (fun i => lap l i c) N = 0 := by
  induction l with
  | nil => exact sumN_zero fun _ _ => rfl
  | cons a r ih =>
    have e : sumN (fun i => lap (a :: r) i c) N = sumN (fun i => ev a c * ev a i + lap r i c) N := sumN_congr fun i _ => by rw [lap, Int.mul_comm]
    rw [e, sumN_add, sumN_mul, ih fun x hx => h x (List.mem_cons_of_mem _ hx)]
    have : sumN (fun i => ev a i) N = 0 := ev_sum (h a (List.mem_cons_self ..))
    rw [this]; simp

/-- the nodes, one being left out -/
def others (N x : Nat) : List Nat := (List.range N).filter (fun i => decide (i ≠ x))
def others2 (N x y : Nat) : List Nat := (List.range N).filter (fun i => decide (i ≠ x) && decide (i ≠ y))

theorem mem_others {N x i : Nat} : i ∈ others N x ↔ i < N ∧ i ≠ x := by simp [others]
theorem mem_others2 {N x y i : Nat} : i ∈ others2 N x y ↔ i < N ∧ i ≠ x ∧ i ≠ y := by simp [others2]
theorem others_nodup (N x : Nat) : (others N x).Nodup := List.nodup_range.filter _
theorem others2_nodup (N x y : Nat) : (others2 N x y).Nodup := List.nodup_range.filter _

theorem others_perm {N x y : Nat} (hx : x < N) (hne : x ≠ y) : (others N y).Perm (x :: others2 N x y) := by
  refine (List.perm_ext_iff_of_nodup (others_nodup N y) (List.nodup_cons.2 ⟨fun h => (mem_others2.1 h).2.1 rfl, others2_nodup N x y⟩)).2 fun i => ?_
  rw [mem_others, List.mem_cons, mem_others2]
  constructor
  · rintro ⟨h1, h2⟩
    by_cases c : i = x
    · exact Or.inl c
    · exact Or.inr ⟨h1, c, h2⟩
  · rintro (rfl | ⟨h1, h2, h3⟩)
    · exact ⟨hx, hne⟩
    · exact ⟨h1, h3⟩

theorem range_perm {N x y : Nat} (hx : x < N) (hy : y < N) (hne : x ≠ y) : (List.range N).Perm (x :: y :: others2 N x y) := by
  refine (List.perm_ext_iff_of_nodup List.nodup_range (List.nodup_cons.2 ⟨fun h => ?_, List.nodup_cons.2 ⟨fun h => (mem_others2.1 h).2.2 rfl, others2_nodup N x y⟩⟩)).2 fun i => ?_
  · rcases List.mem_cons.1 h with h | h
    · exact hne h
    · exact (mem_others2.1 h).2.1 rfl
  · rw [List.mem_range, List.mem_cons, List.mem_cons, mem_others2]
    constructor
    · intro h
      by_cases c : i = x
      · exact Or.inl c
      · by_cases d : i = y
        · exact Or.inr (Or.inl d)
        · exact Or.inr (Or.inr ⟨h, c, d⟩)
    · rintro (rfl | rfl | ⟨h, _⟩)
      · exact hx
      · exact hy
      · exact h

/-- whichever node is left out -/
theorem dd_any {N : Nat} {l : List Arc3} (h : ∀ a ∈ l, (0 ≤ a.1 ∧ a.1 < (N : Int)) ∧ (0 ≤ a.2.1 ∧ a.2.1 < (N : Int))) {x y : Nat} (hx : x < N) (hy : y < N) : dd (lap l) (others N x) = dd (lap l) (others N y) := by
  by_cases e : x = y
  · rw [e]
  · have p1 := dd_perm (lap l) (others_perm hx e) []
    have p2 := dd_perm (lap l) (others_perm hy (fun h => e h.symm)) []
    have p3 : (y :: others2 N y x).Perm (y :: others2 N x y) := by
      have : others2 N y x = others2 N x y := List.filter_congr fun i _ => Bool.and_comm _ _
      rw [this]
    have p4 := dd_perm (lap l) p3 []
    simp only [List.nil_append] at p1 p2 p4
    rw [p1, p2, p4]
    refine dd_other (lap l) (lap_symm l) fun c _ => ?_
    have := lap_sum h c
    rw [sumN_list, perm_sum ((range_perm hx hy e).map fun i => lap l i c)] at this
    simp only [List.map_cons, List.sum_cons] at this
    omega

/-- how many trees, by KIRCHHOFF -/
def trees (N : Nat) (l : List Arc3) : Int := dd (lap l) (others N 0)

theorem trees_any {N : Nat} {l : List Arc3} (h : ∀ a ∈ l, (0 ≤ a.1 ∧ a.1 < (N : Int)) ∧ (0 ≤ a.2.1 ∧ a.2.1 < (N : Int))) {x : Nat} (hx : x < N) : trees N l = dd (lap l) (others N x) := dd_any h (by omega) hx

theorem ev_else {a : Arc3} {i : Nat} (h1 : (i : Int) ≠ a.1) (h2 : (i : Int) ≠ a.2.1) : ev a i = 0 := by unfold ev; rw [one_no h1, one_no h2]; rfl

/-- an arc more: its end being left out, the other end first -/
theorem dd_arc (l m : List Arc3) {f t : Nat} (c : Int) (hne : f ≠ t) {R : List Nat} (hR : ∀ r ∈ R, r ≠ f ∧ r ≠ t) :
    dd (lap (l ++ ((f : Int), (t : Int), c) :: m)) (f :: R) = dd (lap (l ++ m)) (f :: R) + dd (lap (l ++ m)) R := by
  have hz : ∀ r ∈ R, ev ((f : Int), (t : Int), c) r = 0 := fun r hr => ev_else (by have := (hR r hr).1; simp only; omega) (by have := (hR r hr).2; simp only; omega)
  have hf : ev ((f : Int), (t : Int), c) f = 1 := by unfold ev; rw [one_yes rfl, one_no (by simp only; omega)]; rfl
  have e1 : dd (lap (l ++ ((f : Int), (t : Int), c) :: m)) (f :: R) = det (R.length + 1) (setRow (fun i j => lap (l ++ m) ((0 :: R).getD i 0) ((f :: R).getD j 0)) 0 (fun j => lap (l ++ m) f ((f :: R).getD j 0) + (if j = 0 then 1 else 0))) := by
    unfold dd
    rw [d2_row]
    refine det_congr fun i k hi hk => ?_
    have hk' : (f :: R).getD k 0 = f ∧ k = 0 ∨ (f :: R).getD k 0 ∈ R ∧ k ≠ 0 := by
      cases k with
      | zero => exact Or.inl ⟨rfl, rfl⟩
      | succ k => exact Or.inr ⟨by simp [show k < R.length by omega], by omega⟩
    by_cases c0 : i = 0
    · subst c0
      rw [setRow_at, setRow_at, lap_mid, hf, Int.one_mul]
      rcases hk' with ⟨e, e0⟩ | ⟨e, e0⟩
      · rw [e, hf, if_pos e0]
      · rw [hz _ e, if_neg e0]
    · rw [setRow_ne _ _ c0, setRow_ne _ _ c0]
      obtain ⟨i, rfl⟩ : ∃ j, i = j + 1 := ⟨i - 1, by omega⟩
      have : (0 :: R).getD (i + 1) 0 ∈ R := by simp [show i < R.length by omega]
      rw [lap_mid, hz _ this, Int.zero_mul]; omega
  rw [e1, det_add _ (by omega), det_unit, ← d2_row]
  rfl

/-- the ends of an arc being one -/
def ctr (N f t : Nat) (i : Int) : Int := if i = ((max f t : Nat) : Int) then ((min f t : Nat) : Int) else if i = (N : Int) - 1 then ((max f t : Nat) : Int) else i
def ctrA (N f t : Nat) (a : Arc3) : Arc3 := (ctr N f t a.1, ctr N f t a.2.1, 0)
def ctrN (N f t : Nat) (i : Nat) : Nat := if i = N - 1 then max f t else i

theorem one_congr {p q : Prop} [Decidable p] [Decidable q] (h : p ↔ q) : one p = one q := by
  by_cases c : p
  · rw [one_yes c, one_yes (h.1 c)]
  · rw [one_no c, one_no (fun k => c (h.2 k))]

theorem ctr_iff {N f t : Nat} (hf : f < N) (ht : t < N) (hne : f ≠ t) {i : Nat} (hi : i < N) (h1 : i ≠ f) (h2 : i ≠ t) {b : Int} (hb : 0 ≤ b ∧ b < (N : Int)) : (i : Int) = b ↔ ((ctrN N f t i : Nat) : Int) = ctr N f t b := by
  obtain ⟨k, rfl⟩ := Int.eq_ofNat_of_zero_le hb.1
  unfold ctrN ctr
  have hm : max f t = f ∧ min f t = t ∧ t < f ∨ max f t = t ∧ min f t = f ∧ f < t := by omega
  by_cases c1 : k = max f t
  · rw [if_pos (by omega : (k : Int) = ((max f t : Nat) : Int))]
    split <;> omega
  · rw [if_neg (by omega : ¬ (k : Int) = ((max f t : Nat) : Int))]
    by_cases c2 : k = N - 1
    · rw [if_pos (by omega : (k : Int) = (N : Int) - 1)]
      split <;> omega
    · rw [if_neg (by omega : ¬ (k : Int) = (N : Int) - 1)]
      split <;> omega

theorem lap_ctr {N f t : Nat} (hf : f < N) (ht : t < N) (hne : f ≠ t) {l : List Arc3} (h : ∀ a ∈ l, (0 ≤ a.1 ∧ a.1 < (N : Int)) ∧ (0 ≤ a.2.1 ∧ a.2.1 < (N : Int))) {i j : Nat} (hi : i < N ∧ i ≠ f ∧ i ≠ t) (hj : j < N ∧ j ≠ f ∧ j ≠ t) :
    lap l i j = lap (l.map (ctrA N f t)) (ctrN N f t i) (ctrN N f t j) := by
  induction l with
  | nil => rfl
  | cons a r ih =>
    have ha := h a (List.mem_cons_self ..)
    have he : ∀ {x : Nat}, x < N ∧ x ≠ f ∧ x ≠ t → ev a x = ev (ctrA N f t a) (ctrN N f t x) := fun {x} hx => by
      unfold ev
      rw [one_congr (ctr_iff hf ht hne hx.1 hx.2.1 hx.2.2 ha.1), one_congr (ctr_iff hf ht hne hx.1 hx.2.1 hx.2.2 ha.2)]
      rfl
    rw [List.map_cons, lap, lap, he hi, he hj, ih fun x hx => h x (List.mem_cons_of_mem _ hx)]

theorem ctr_node {N f t : Nat} (hf : f < N) (ht : t < N) (hne : f ≠ t) {b : Int} (hb : 0 ≤ b ∧ b < (N : Int)) : 0 ≤ ctr N f t b ∧ ctr N f t b < ((N - 1 : Nat) : Int) := by
  unfold ctr
  have hm : max f t = f ∧ min f t = t ∧ t < f ∨ max f t = t ∧ min f t = f ∧ f < t := by omega
  split
  · omega
  · split <;> omega

theorem ctr_perm {N f t : Nat} (hf : f < N) (ht : t < N) (hne : f ≠ t) : ((others2 N f t).map (ctrN N f t)).Perm (others (N - 1) (min f t)) := by
  have hm : max f t = f ∧ min f t = t ∧ t < f ∨ max f t = t ∧ min f t = f ∧ f < t := by omega
  refine (List.perm_ext_iff_of_nodup ?_ (others_nodup _ _)).2 fun j => ?_
  · refine List.pairwise_map.2 ((List.Pairwise.and_mem.1 (others2_nodup N f t)).imp ?_)
    rintro a b ⟨ha, hb, hab⟩ e
    have ha := mem_others2.1 ha
    have hb := mem_others2.1 hb
    unfold ctrN at e
    split at e <;> split at e <;> omega
  · rw [List.mem_map, mem_others]
    constructor
    · rintro ⟨i, hi, rfl⟩
      have hi := mem_others2.1 hi
      unfold ctrN
      split <;> omega
    · rintro ⟨h1, h2⟩
      by_cases c : j = max f t
      · refine ⟨N - 1, mem_others2.2 (by omega), ?_⟩
        unfold ctrN; rw [if_pos rfl, c]
      · refine ⟨j, mem_others2.2 (by omega), ?_⟩
        unfold ctrN; rw [if_neg (by omega)]

/-- KIRCHHOFF: as many as without an arc, and as those with it, its ends being one -/
theorem trees_less {N : Nat} {l m : List Arc3} {f t : Nat} (c : Int) (hf : f < N) (ht : t < N) (hne : f ≠ t) (h : ∀ a ∈ l ++ m, (0 ≤ a.1 ∧ a.1 < (N : Int)) ∧ (0 ≤ a.2.1 ∧ a.2.1 < (N : Int))) :
    trees N (l ++ ((f : Int), (t : Int), c) :: m) = trees N (l ++ m) + trees (N - 1) ((l ++ m).map (ctrA N f t)) := by
  have h' : ∀ a ∈ l ++ ((f : Int), (t : Int), c) :: m, (0 ≤ a.1 ∧ a.1 < (N : Int)) ∧ (0 ≤ a.2.1 ∧ a.2.1 < (N : Int)) := fun a ha => by
    rcases List.mem_append.1 ha with ha | ha
    · exact h a (List.mem_append.2 (Or.inl ha))
    · rcases List.mem_cons.1 ha with rfl | ha
      · simp only; omega
      · exact h a (List.mem_append.2 (Or.inr ha))
  have p := others_perm hf hne
  have p1 := dd_perm (lap (l ++ ((f : Int), (t : Int), c) :: m)) p []
  have p2 := dd_perm (lap (l ++ m)) p []
  simp only [List.nil_append] at p1 p2
  rw [trees_any h' ht, trees_any h ht, p1, p2, dd_arc l m c hne fun r hr => ⟨(mem_others2.1 hr).2.1, (mem_others2.1 hr).2.2⟩]
  congr 1
  have hN : ∀ a ∈ (l ++ m).map (ctrA N f t), (0 ≤ a.1 ∧ a.1 < ((N - 1 : Nat) : Int)) ∧ (0 ≤ a.2.1 ∧ a.2.1 < ((N - 1 : Nat) : Int)) := fun a ha => by
    obtain ⟨x, hx, rfl⟩ := List.mem_map.1 ha
    exact ⟨ctr_node hf ht hne (h x hx).1, ctr_node hf ht hne (h x hx).2⟩
  rw [trees_any hN (x := min f t) (by omega)]
  have p3 := dd_perm (lap ((l ++ m).map (ctrA N f t))) (ctr_perm hf ht hne) []
  simp only [List.nil_append] at p3
  rw [← p3]
  exact dd_map (ctrN N f t) fun i hi j hj => lap_ctr hf ht hne h (mem_others2.1 hi) (mem_others2.1 hj)

/-- an arc from a node to itself does not count -/
theorem trees_loop (N : Nat) (l m : List Arc3) (f : Int) (c : Int) : trees N (l ++ (f, f, c) :: m) = trees N (l ++ m) := by
  unfold trees dd
  refine d2_congr rfl fun i _ j _ => ?_
  have : ev (f, f, c) i = 0 := by unfold ev; simp only; omega
  rw [lap_mid, this, Int.zero_mul]; omega

end Go.Proofs.Ytamckjbddnocpaa
