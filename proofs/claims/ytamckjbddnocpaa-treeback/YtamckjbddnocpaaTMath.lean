/- Plain facts on graphs as lists of arcs: errors, degrees, turning. -/
import Derived.Test.YtamckjbddnocpaaGErr
import Derived.Test.YtamckjbddnocpaaDegM
namespace Go.Proofs.Ytamckjbddnocpaa
set_option linter.unusedVariables false

theorem turn_err {n least : Int} {l : List Arc3} (h : graphErr n least l = 0) : graphErr n least (l.map turnA) = 0 := by
  obtain ⟨h1, h2, h3⟩ := err_ok h
  refine err_mk ⟨h1, by simpa using h2, fun a ha => ?_⟩
  obtain ⟨x, hx, rfl⟩ := List.mem_map.1 ha
  have := h3 x hx
  exact ⟨this.2.1, this.1, this.2.2⟩

theorem turn_turn (l : List Arc3) : (l.map turnA).map turnA = l := by
  rw [List.map_map]
  have : turnA ∘ turnA = id := by funext a; rfl
  rw [this, List.map_id]

theorem outs_turn (N : Nat) (l : List Arc3) : outs N (l.map turnA) = ins N l := by
  refine List.map_congr_left fun v _ => ?_
  unfold outDeg inDeg
  rw [List.countP_map]; rfl
theorem ins_turn (N : Nat) (l : List Arc3) : ins N (l.map turnA) = outs N l := by
  rw [← outs_turn, turn_turn]

theorem outs_length (N : Nat) (l : List Arc3) : (outs N l).length = N := by simp [outs]
theorem ins_length (N : Nat) (l : List Arc3) : (ins N l).length = N := by simp [ins]

theorem sum_ite (N k : Nat) (f : Nat → Int) (hk : k < N) : ((List.range N).map fun v => if v = k then f v + 1 else f v).sum = ((List.range N).map f).sum + 1 := by
  induction N with
  | zero => omega
  | succ N ih =>
    rw [List.range_succ, List.map_append, List.map_append, List.sum_append, List.sum_append]
    by_cases e : k = N
    · subst e
      have : ((List.range k).map fun v => if v = k then f v + 1 else f v) = (List.range k).map f := List.map_congr_left fun v hv => if_neg (by have := List.mem_range.1 hv; omega)
      rw [this]; simp; omega
    · rw [ih (by omega)]
      simp [show ¬ N = k from fun h => e h.symm]; omega

theorem outDeg_cons (l : List Arc3) (f : Nat) (t c : Int) (v : Nat) : outDeg (((f : Int), t, c) :: l) v = if v = f then outDeg l v + 1 else outDeg l v := by
  unfold outDeg
  rw [List.countP_cons]
  by_cases e : v = f
  · subst e; simp
  · simp [e, show ¬ (f : Int) = v from fun h => e (by omega)]

theorem outs_sum_go (N : Nat) (l : List Arc3) (h : ∀ a ∈ l, 0 ≤ a.1 ∧ a.1 < (N : Int)) : (outs N l).sum = l.length := by
  induction l with
  | nil =>
    have : outs N [] = (List.range N).map fun _ => 0 := rfl
    rw [this]
    generalize List.range N = r
    induction r with
    | nil => rfl
    | cons a r ih => simpa using ih
  | cons a r ih =>
    have ha := h a (List.mem_cons_self ..)
    obtain ⟨f, t, c⟩ := a
    obtain ⟨k, hk⟩ := Int.eq_ofNat_of_zero_le ha.1
    simp only at hk ha
    subst hk
    have e : outs N (((k : Int), t, c) :: r) = (List.range N).map fun v => if v = k then outDeg r v + 1 else outDeg r v :=
      List.map_congr_left fun v _ => outDeg_cons r k t c v
    rw [e, sum_ite N k _ (by omega)]
    have := ih fun x hx => h x (List.mem_cons_of_mem _ hx)
    unfold outs at this
    rw [this]
    simp

theorem outs_sum {n least : Int} {N : Nat} {l : List Arc3} (h : graphErr n least l = 0) (hN : n = N) : (outs N l).sum = l.length := by
  subst hN
  exact outs_sum_go N l fun a ha => ((err_ok h).2.2 a ha).1

theorem ins_sum {n least : Int} {N : Nat} {l : List Arc3} (h : graphErr n least l = 0) (hN : n = N) : (ins N l).sum = l.length := by
  rw [← outs_turn, outs_sum (turn_err h) hN, List.length_map]

/-- sums of numbers from 0 to 60, at most 12 of them, fit -/
theorem sum_take_le (l : List Int) (b : Int) (hb : 0 ≤ b) (h : ∀ x ∈ l, 0 ≤ x ∧ x ≤ b) (k : Nat) : 0 ≤ (l.take k).sum ∧ (l.take k).sum ≤ l.length * b := by
  induction l generalizing k with
  | nil => simp
  | cons a r ih =>
    have ha := h a (List.mem_cons_self ..)
    cases k with
    | zero => simp only [List.take_zero, List.sum_nil]; exact ⟨by omega, Int.mul_nonneg (by omega) hb⟩
    | succ k =>
      have := ih (fun x hx => h x (List.mem_cons_of_mem _ hx)) k
      rw [List.take_succ_cons, List.sum_cons, List.length_cons]
      have e : ((r.length + 1 : Nat) : Int) * b = r.length * b + b := by rw [Int.natCast_add, Int.add_mul]; simp
      rw [e]; omega

theorem outs_mem {N : Nat} {l : List Arc3} : ∀ x ∈ outs N l, 0 ≤ x ∧ x ≤ l.length := by
  intro x hx
  obtain ⟨v, _, rfl⟩ := List.mem_map.1 hx
  exact outDeg_le l v
theorem ins_mem {N : Nat} {l : List Arc3} : ∀ x ∈ ins N l, 0 ≤ x ∧ x ≤ l.length := by
  intro x hx
  obtain ⟨v, _, rfl⟩ := List.mem_map.1 hx
  exact inDeg_le l v

theorem ati_outs (N : Nat) (l : List Arc3) (v : Nat) (h : v < N) : ati (outs N l) v = outDeg l v := by
  rw [ati_lt _ _ (by rw [outs_length]; exact h)]; simp [outs]

end Go.Proofs.Ytamckjbddnocpaa
