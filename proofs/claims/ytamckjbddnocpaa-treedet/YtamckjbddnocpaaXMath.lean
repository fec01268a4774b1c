/- Plain facts on determinants along one row after the other, the columns that are used being left out. -/
import Derived.Test.YtamckjbddnocpaaDMath
namespace Go.Proofs.Ytamckjbddnocpaa
set_option linter.unusedVariables false

/-- the columns below n that are not used -/
def cols (u n : Nat) : List Nat := (List.range n).filter (fun c => !u.testBit c)

def dx (M : Mtx) (row : Nat) (C : List Nat) : Int := det C.length (fun i j => M (row + i) (C.getD j 0))

theorem getD_erase (C : List Nat) (j k : Nat) : (C.eraseIdx j).getD k 0 = C.getD (skip j k) 0 := by
  unfold skip
  rw [List.getD_eq_getElem?_getD, List.getD_eq_getElem?_getD, List.getElem?_eraseIdx]
  split <;> rfl

/-- what stands at column j of those that are left, times what is left then -/
def term (M : Mtx) (row : Nat) (C : List Nat) (j : Nat) : Int := sgn j * M row (C.getD j 0) * dx M (row + 1) (C.eraseIdx j)

theorem dx_expand (M : Mtx) (row : Nat) (C : List Nat) (k : Nat) (h : C.length = k + 1) : dx M row C = sumN (term M row C) (k + 1) := by
  unfold dx
  rw [h, det_succ]
  refine sumN_congr fun j hj => ?_
  unfold term dx
  rw [List.length_eraseIdx_of_lt (by omega), h]
  congr 1
  refine det_congr fun i c _ _ => ?_
  show M (row + (i + 1)) (C.getD (skip j c) 0) = _
  rw [getD_erase, Nat.add_assoc, Nat.add_comm 1 i]

theorem dx_nil (M : Mtx) (row : Nat) : dx M row [] = 1 := rfl

theorem cols_split (u : Nat) {c n : Nat} (h : c < n) : ∃ T, (cols u n = cols u c ++ (if u.testBit c then T else c :: T)) ∧ (cols (u ||| 2 ^ c) n = cols u c ++ T) := by
  obtain ⟨r, rfl⟩ : ∃ r, n = c + (1 + r) := ⟨n - c - 1, by omega⟩
  refine ⟨(((List.range r).map (fun x => c + (1 + x)))).filter (fun c => !u.testBit c), ?_, ?_⟩
  · unfold cols
    rw [List.range_add, List.filter_append, List.range_add (n := 1) (m := r)]
    simp only [List.range_one, List.map_cons, List.map_map, List.singleton_append, Nat.add_zero]
    rw [List.filter_cons]
    cases u.testBit c <;> rfl
  · unfold cols
    rw [List.range_add, List.filter_append, List.range_add (n := 1) (m := r)]
    simp only [List.range_one, List.map_cons, List.map_map, List.singleton_append, Nat.add_zero]
    rw [List.filter_cons]
    simp only [Nat.testBit_or, Nat.testBit_two_pow_self, Bool.or_true, Bool.not_true]
    congr 1
    · refine List.filter_congr fun x hx => ?_
      have : x < c := by simpa using hx
      rw [Nat.testBit_two_pow_of_ne (by omega), Bool.or_false]
    · show List.filter _ _ = _
      refine List.filter_congr fun x hx => ?_
      obtain ⟨y, _, rfl⟩ := List.mem_map.1 hx
      show (!(_ || (2 ^ c).testBit (c + (1 + y)))) = _
      rw [Nat.testBit_two_pow_of_ne (by omega), Bool.or_false]

/-- how many are left below c -/
def cnt (u c : Nat) : Nat := (cols u c).length

theorem cnt_succ (u c : Nat) : cnt u (c + 1) = if u.testBit c then cnt u c else cnt u c + 1 := by
  unfold cnt cols
  rw [List.range_succ, List.filter_append, List.length_append]
  cases h : u.testBit c <;> simp [h]

theorem cols_at (u : Nat) {c n : Nat} (h : c < n) (hu : u.testBit c = false) : (cols u n).getD (cnt u c) 0 = c ∧ cnt u c < (cols u n).length ∧ (cols u n).eraseIdx (cnt u c) = cols (u ||| 2 ^ c) n := by
  obtain ⟨T, h1, h2⟩ := cols_split u h
  rw [hu] at h1
  simp only [Bool.false_eq_true, if_false] at h1
  rw [h1, h2]
  unfold cnt
  refine ⟨?_, by simp, ?_⟩
  · rw [List.getD_eq_getElem?_getD, List.getElem?_append_right (Nat.le_refl _)]; simp
  · rw [List.eraseIdx_append_of_length_le (Nat.le_refl _)]; simp

theorem cols_zero (n : Nat) : cols 0 n = List.range n := by unfold cols; simp

theorem dx_all (M : Mtx) (n : Nat) : dx M 0 (List.range n) = det n M := by
  unfold dx
  rw [List.length_range]
  refine det_congr fun i j hi hj => ?_
  rw [Nat.zero_add, List.getD_eq_getElem?_getD, List.getElem?_range hj]; rfl

/-! ### How great -/

def big : Nat → Nat := fun k => fact k * 60 ^ k

theorem cols_lt {u n j : Nat} (h : j < (cols u n).length) : (cols u n).getD j 0 < n := by
  have : (cols u n).getD j 0 ∈ cols u n := by rw [List.getD_eq_getElem?_getD, List.getElem?_eq_getElem h]; exact List.getElem_mem h
  unfold cols at this
  have h1 := (List.mem_filter.1 this).1
  rw [List.mem_range] at h1
  exact h1

theorem dx_abs {M : Mtx} {n row : Nat} (hM : ∀ i k, i < n → k < n → (M i k).natAbs ≤ 60) {u k : Nat} (hr : row + k = n) (hk : (cols u n).length = k) : (dx M row (cols u n)).natAbs ≤ big k := by
  unfold dx big
  rw [hk]
  exact det_abs 60 k _ fun i j hi hj => hM _ _ (by omega) (cols_lt (by omega))

theorem sum_abs {M : Mtx} {n row : Nat} (hM : ∀ i k, i < n → k < n → (M i k).natAbs ≤ 60) {u k : Nat} (hr : row + (k + 1) = n) (hk : (cols u n).length = k + 1) {p : Nat} (hp : p ≤ k + 1) :
    (sumN (term M row (cols u n)) p).natAbs ≤ big (k + 1) := by
  have each : ∀ j, j < p → (term M row (cols u n) j).natAbs ≤ 60 * big k := fun j hj => by
    unfold term
    rw [Int.natAbs_mul, Int.natAbs_mul, sgn_abs, Nat.one_mul]
    refine Nat.mul_le_mul (hM _ _ (by omega) (cols_lt (by omega))) ?_
    unfold dx big
    rw [List.length_eraseIdx_of_lt (by omega), hk]
    refine det_abs 60 k _ fun i c hi hc => ?_
    rw [getD_erase]
    have := skip_lt (j := j) hc
    exact hM _ _ (by omega) (cols_lt (by omega))
  refine Nat.le_trans (sumN_abs each) ?_
  refine Nat.le_trans (Nat.mul_le_mul_right _ hp) ?_
  unfold big
  rw [fact, Nat.pow_succ, Nat.mul_assoc, Nat.mul_left_comm 60, Nat.mul_comm 60 (60 ^ k)]
  exact Nat.le_refl _

theorem big_le {k : Nat} (h : k ≤ 7) : big k ≤ 14108774400000000 := by
  have : ∀ j, j ≤ 7 → big j ≤ 14108774400000000 := by decide
  exact this k h

end Go.Proofs.Ytamckjbddnocpaa
