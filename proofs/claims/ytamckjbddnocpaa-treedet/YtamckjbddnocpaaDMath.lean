/- Plain facts on determinants, by the first row. -/
import Derived.Test.YtamckjbddnocpaaSums
namespace Go.Proofs.Ytamckjbddnocpaa
set_option linter.unusedVariables false

def sgn (j : Nat) : Int := if j % 2 = 0 then 1 else -1

theorem sgn_succ (j : Nat) : sgn (j + 1) = - sgn j := by
  unfold sgn
  rcases Nat.mod_two_eq_zero_or_one j with h | h
  · rw [if_pos h, if_neg (show ¬ (j + 1) % 2 = 0 by omega)]
  · rw [if_neg (show ¬ j % 2 = 0 by omega), if_pos (show (j + 1) % 2 = 0 by omega)]; rfl

abbrev Mtx := Nat → Nat → Int

/-- the numbers, j being left out -/
def skip (j k : Nat) : Nat := if k < j then k else k + 1

theorem skip_lt {j k n : Nat} (hk : k < n) : skip j k < n + 1 := by unfold skip; split <;> omega
theorem skip_succ (j k : Nat) : skip (j + 1) (k + 1) = skip j k + 1 := by
  unfold skip
  by_cases h : k < j
  · rw [if_pos h, if_pos (by omega)]
  · rw [if_neg h, if_neg (by omega)]
theorem skip_zero (k : Nat) : skip 0 k = k + 1 := by unfold skip; rw [if_neg (by omega)]
theorem skip_first (j : Nat) : skip (j + 1) 0 = 0 := by unfold skip; rw [if_pos (by omega)]
/-- two left out, in either order -/
theorem skip_two {j k : Nat} (h : j ≤ k) (x : Nat) : skip j (skip k x) = skip (k + 1) (skip j x) := by
  unfold skip
  by_cases h1 : x < k
  · rw [if_pos h1]
    by_cases h2 : x < j
    · rw [if_pos h2, if_pos (by omega)]
    · rw [if_neg h2, if_pos (by omega)]
  · rw [if_neg h1, if_neg (by omega), if_neg (show ¬ x < j by omega), if_neg (by omega)]

def minor (M : Mtx) (j : Nat) : Mtx := fun i k => M (i + 1) (skip j k)

def det : Nat → Mtx → Int
  | 0, _ => 1
  | n + 1, M => sumN (fun j => sgn j * M 0 j * det n (minor M j)) (n + 1)

theorem det_succ (n : Nat) (M : Mtx) : det (n + 1) M = sumN (fun j => sgn j * M 0 j * det n (minor M j)) (n + 1) := rfl

theorem det_congr : ∀ {n : Nat} {M N : Mtx}, (∀ i k, i < n → k < n → M i k = N i k) → det n M = det n N
  | 0, _, _, _ => rfl
  | n + 1, M, N, h => by
    rw [det_succ, det_succ]
    refine sumN_congr fun j hj => ?_
    rw [h 0 j (by omega) hj, det_congr (M := minor M j) (N := minor N j) fun i k hi hk => h (i + 1) (skip j k) (by omega) (skip_lt hk)]

def setRow (M : Mtx) (r : Nat) (v : Nat → Int) : Mtx := fun i k => if i = r then v k else M i k

theorem setRow_at (M : Mtx) (r : Nat) (v : Nat → Int) : setRow M r v r = v := by funext k; simp [setRow]
theorem setRow_ne (M : Mtx) {r i : Nat} (v : Nat → Int) (h : i ≠ r) : setRow M r v i = M i := by funext k; simp [setRow, h]
theorem setRow_self (M : Mtx) (r : Nat) : setRow M r (M r) = M := by
  funext i k; unfold setRow; split
  · rename_i h; rw [h]
  · rfl
theorem setRow_twice (M : Mtx) (r : Nat) (u v : Nat → Int) : setRow (setRow M r u) r v = setRow M r v := by
  funext i k; unfold setRow; split <;> rfl
theorem setRow_comm (M : Mtx) {r s : Nat} (h : r ≠ s) (u v : Nat → Int) : setRow (setRow M r u) s v = setRow (setRow M s v) r u := by
  funext i k; unfold setRow
  by_cases e1 : i = r
  · subst e1; simp [h]
  · simp [e1]

theorem minor_set0 (M : Mtx) (v : Nat → Int) (j : Nat) : minor (setRow M 0 v) j = minor M j := by funext i k; simp [minor, setRow]
theorem minor_setS (M : Mtx) (r : Nat) (v : Nat → Int) (j : Nat) : minor (setRow M (r + 1) v) j = setRow (minor M j) r (fun k => v (skip j k)) := by
  funext i k; simp [minor, setRow]

theorem det_add : ∀ {n : Nat} (M : Mtx) {r : Nat} (_ : r < n) (u v : Nat → Int), det n (setRow M r fun k => u k + v k) = det n (setRow M r u) + det n (setRow M r v)
  | 0, _, _, h, _, _ => absurd h (Nat.not_lt_zero _)
  | n + 1, M, 0, _, u, v => by
    rw [det_succ, det_succ, det_succ, ← sumN_add]
    refine sumN_congr fun j _ => ?_
    simp only [minor_set0, setRow_at]
    rw [Int.mul_add, Int.add_mul]
  | n + 1, M, r + 1, h, u, v => by
    rw [det_succ, det_succ, det_succ, ← sumN_add]
    refine sumN_congr fun j _ => ?_
    simp only [minor_setS, setRow_ne M _ (show 0 ≠ r + 1 by omega)]
    rw [det_add (minor M j) (by omega) (fun k => u (skip j k)) (fun k => v (skip j k)), Int.mul_add]

theorem det_scale : ∀ {n : Nat} (M : Mtx) {r : Nat} (_ : r < n) (c : Int) (u : Nat → Int), det n (setRow M r fun k => c * u k) = c * det n (setRow M r u)
  | 0, _, _, h, _, _ => absurd h (Nat.not_lt_zero _)
  | n + 1, M, 0, _, c, u => by
    rw [det_succ, det_succ, ← sumN_mul]
    refine sumN_congr fun j _ => ?_
    simp only [minor_set0, setRow_at]
    rw [Int.mul_left_comm (sgn j) c (u j), Int.mul_assoc]
  | n + 1, M, r + 1, h, c, u => by
    rw [det_succ, det_succ, ← sumN_mul]
    refine sumN_congr fun j _ => ?_
    simp only [minor_setS, setRow_ne M _ (show 0 ≠ r + 1 by omega)]
    rw [det_scale (minor M j) (by omega) c (fun k => u (skip j k)), Int.mul_left_comm]

/-- what changes its sign, when two are changed, adds up to nothing -/
theorem sum_pairs (T : Nat → Nat → Int) (m : Nat) (h : ∀ j k, j ≤ k → k < m → T (k + 1) j = - T j k) : sumN (fun j => sumN (fun k => T j k) m) (m + 1) = 0 := by
  have e1 : sumN (fun j => sumN (fun k => T j k) m) (m + 1) = sumN (fun j => sumN (fun k => if j ≤ k then T j k else 0) m) (m + 1) + sumN (fun j => sumN (fun k => if k < j then T j k else 0) m) (m + 1) := by
    rw [← sumN_add]
    refine sumN_congr fun j _ => ?_
    rw [← sumN_add]
    refine sumN_congr fun k _ => ?_
    by_cases c : j ≤ k
    · rw [if_pos c, if_neg (by omega)]; omega
    · rw [if_neg c, if_pos (by omega)]; omega
  have e2 : sumN (fun j => sumN (fun k => if j ≤ k then T j k else 0) m) (m + 1) = sumN (fun j => sumN (fun k => if j ≤ k then T j k else 0) m) m := by
    rw [sumN, sumN_zero (n := m) (f := fun k => if m ≤ k then T m k else 0) fun k hk => if_neg (by omega)]; omega
  have e3 : sumN (fun j => sumN (fun k => if k < j then T j k else 0) m) (m + 1) = - sumN (fun j => sumN (fun k => if j ≤ k then T j k else 0) m) m := by
    rw [sumN_front, sumN_zero (n := m) (f := fun k => if k < 0 then T 0 k else 0) fun k _ => if_neg (by omega), sumN_swap (fun j k => if j ≤ k then T j k else 0) m m, ← sumN_neg]
    rw [Int.zero_add]
    refine sumN_congr fun j hj => ?_
    rw [← sumN_neg]
    refine sumN_congr fun k hk => ?_
    by_cases c : k ≤ j
    · rw [if_pos (by omega), if_pos c, h k j c hj]
    · rw [if_neg (by omega), if_neg c]; rfl
  rw [e1, e2, e3]; omega

theorem det_same01 {n : Nat} {M : Mtx} (h : ∀ k, k < n + 2 → M 0 k = M 1 k) : det (n + 2) M = 0 := by
  have e : det (n + 2) M = sumN (fun j => sumN (fun k => sgn j * sgn k * (M 0 j * M 1 (skip j k)) * det n (minor (minor M j) k)) (n + 1)) (n + 2) := by
    rw [det_succ]
    refine sumN_congr fun j _ => ?_
    rw [det_succ, ← sumN_mul]
    refine sumN_congr fun k _ => ?_
    show sgn j * M 0 j * (sgn k * M 1 (skip j k) * det n (minor (minor M j) k)) = _
    rw [← Int.mul_assoc]
    congr 1
    rw [Int.mul_assoc, Int.mul_assoc, Int.mul_left_comm (M 0 j)]
  rw [e]
  refine sum_pairs _ (n + 1) fun j k hjk hk => ?_
  have s1 : skip (k + 1) j = j := by unfold skip; rw [if_pos (by omega)]
  have s2 : skip j k = k + 1 := by unfold skip; rw [if_neg (by omega)]
  have hm : minor (minor M (k + 1)) j = minor (minor M j) k := by
    funext i x
    show M (i + 1 + 1) (skip (k + 1) (skip j x)) = M (i + 1 + 1) (skip j (skip k x))
    rw [skip_two hjk]
  rw [s1, s2, hm, sgn_succ, ← h j (by omega), ← h (k + 1) (by omega), Int.mul_comm (M 0 (k + 1)), Int.neg_mul, Int.neg_mul, Int.neg_mul, Int.mul_comm (sgn k)]

theorem det_adj : ∀ {n : Nat} {M : Mtx} {r : Nat}, r + 1 < n → (∀ k, k < n → M r k = M (r + 1) k) → det n M = 0
  | 0, _, _, h, _ => absurd h (Nat.not_lt_zero _)
  | 1, _, _, h, _ => by omega
  | n + 2, M, 0, _, h => det_same01 h
  | n + 2, M, r + 1, hr, h => by
    rw [det_succ]
    refine sumN_zero fun j _ => ?_
    rw [det_adj (M := minor M j) (r := r) (by omega) fun k hk => h (skip j k) (skip_lt hk), Int.mul_zero]

/-- rows r and s with what is given -/
def two (M : Mtx) (r s : Nat) (u v : Nat → Int) : Mtx := setRow (setRow M r u) s v

theorem two_add1 {n : Nat} (M : Mtx) {r s : Nat} (hr : r < n) (hs : s < n) (h : r ≠ s) (a b c : Nat → Int) : det n (two M r s (fun k => a k + b k) c) = det n (two M r s a c) + det n (two M r s b c) := by
  unfold two
  rw [setRow_comm M h, setRow_comm M h, setRow_comm M h, det_add _ hr]
theorem two_add2 {n : Nat} (M : Mtx) {r s : Nat} (hs : s < n) (a b c : Nat → Int) : det n (two M r s c (fun k => a k + b k)) = det n (two M r s c a) + det n (two M r s c b) := det_add _ hs _ _

/-- from 'alike: nothing' to 'changed: another sign' -/
theorem two_swap {n : Nat} (M : Mtx) {r s : Nat} (hr : r < n) (hs : s < n) (h : r ≠ s) (hz : ∀ v, det n (two M r s v v) = 0) (a b : Nat → Int) : det n (two M r s a b) = - det n (two M r s b a) := by
  have e := hz fun k => a k + b k
  rw [two_add1 M hr hs h, two_add2 M hs, two_add2 M hs, hz a, hz b] at e
  omega

theorem two_row1 (M : Mtx) {r s : Nat} (h : r ≠ s) (u v : Nat → Int) : two M r s u v r = u := by
  unfold two; rw [setRow_ne _ _ h, setRow_at]
theorem two_row2 (M : Mtx) {r s : Nat} (u v : Nat → Int) : two M r s u v s = v := setRow_at _ _ _
theorem two_else (M : Mtx) {r s i : Nat} (h1 : i ≠ r) (h2 : i ≠ s) (u v : Nat → Int) : two M r s u v i = M i := by
  unfold two; rw [setRow_ne _ _ h2, setRow_ne _ _ h1]
theorem two_self (M : Mtx) (r s : Nat) : two M r s (M r) (M s) = M := by
  unfold two; rw [setRow_self]
  exact setRow_self M s

theorem adj_swap {n : Nat} (M : Mtx) {r : Nat} (hr : r + 1 < n) (a b : Nat → Int) : det n (two M r (r + 1) a b) = - det n (two M r (r + 1) b a) :=
  two_swap M (by omega) hr (by omega) (fun v => det_adj hr fun k _ => by rw [two_row1 M (by omega), two_row2]) a b

/-- two rows alike -/
theorem det_same {n : Nat} : ∀ (d : Nat) (M : Mtx) {r : Nat}, r + d + 1 < n → (∀ k, k < n → M r k = M (r + d + 1) k) → det n M = 0
  | 0, M, r, hr, h => det_adj hr h
  | d + 1, M, r, hr, h => by
    have e := adj_swap M (r := r + d + 1) hr (M (r + d + 1)) (M (r + d + 1 + 1))
    rw [two_self] at e
    rw [e]
    have := det_same (n := n) d (two M (r + d + 1) (r + d + 1 + 1) (M (r + d + 1 + 1)) (M (r + d + 1))) (r := r) (by omega) fun k hk => by
      rw [two_row1 M (by omega), two_else M (i := r) (by omega) (by omega)]
      exact h k hk
    omega

theorem det_alike {n : Nat} {M : Mtx} {r s : Nat} (hr : r < n) (hs : s < n) (hne : r ≠ s) (h : ∀ k, k < n → M r k = M s k) : det n M = 0 := by
  rcases Nat.lt_or_gt_of_ne hne with hl | hl
  · exact det_same (s - r - 1) M (r := r) (by omega) (by rw [show r + (s - r - 1) + 1 = s by omega]; exact h)
  · exact det_same (r - s - 1) M (r := s) (by omega) (by rw [show s + (r - s - 1) + 1 = r by omega]; exact fun k hk => (h k hk).symm)

/-- with two rows changed: another sign -/
theorem det_swap {n : Nat} (M : Mtx) {r s : Nat} (hr : r < n) (hs : s < n) (hne : r ≠ s) : det n (two M r s (M s) (M r)) = - det n M := by
  have e := two_swap M hr hs hne (fun v => det_alike hr hs hne fun k _ => by rw [two_row1 M hne, two_row2]) (M s) (M r)
  rw [two_self] at e
  exact e

/-- a row more -/
theorem det_more {n : Nat} (M : Mtx) {r s : Nat} (hr : r < n) (hs : s < n) (hne : r ≠ s) (c : Int) : det n (setRow M r fun k => M r k + c * M s k) = det n M := by
  rw [det_add M hr (M r) (fun k => c * M s k), setRow_self, det_scale M hr, det_alike (M := setRow M r (M s)) hr hs hne fun k _ => by rw [setRow_at, setRow_ne M _ (fun h => hne h.symm)]]
  simp

/-! ### By the first column; turned -/

def minorC (M : Mtx) (i : Nat) : Mtx := fun r k => M (skip i r) (k + 1)

theorem det_col : ∀ (n : Nat) (M : Mtx), det (n + 1) M = sumN (fun i => sgn i * M i 0 * det n (minorC M i)) (n + 1)
  | 0, M => by simp [det, sumN]
  | n + 1, M => by
    have hm0 : minor M 0 = minorC M 0 := by funext i k; simp only [minor, minorC, skip_zero]
    rw [det_succ, sumN_front, sumN_front (fun i => sgn i * M i 0 * det (n + 1) (minorC M i)), hm0]
    congr 1
    have e1 : sumN (fun j => sgn (j + 1) * M 0 (j + 1) * det (n + 1) (minor M (j + 1))) (n + 1) =
        sumN (fun j => sumN (fun i => sgn (j + 1) * M 0 (j + 1) * (sgn i * M (i + 1) 0 * det n (minorC (minor M (j + 1)) i))) (n + 1)) (n + 1) := by
      refine sumN_congr fun j _ => ?_
      rw [det_col n (minor M (j + 1)), ← sumN_mul]
      refine sumN_congr fun i _ => ?_
      show _ * (sgn i * M (i + 1) (skip (j + 1) 0) * _) = _
      rw [skip_first]
    have e2 : sumN (fun i => sgn (i + 1) * M (i + 1) 0 * det (n + 1) (minorC M (i + 1))) (n + 1) =
        sumN (fun i => sumN (fun j => sgn (i + 1) * M (i + 1) 0 * (sgn j * M 0 (j + 1) * det n (minor (minorC M (i + 1)) j))) (n + 1)) (n + 1) := by
      refine sumN_congr fun i _ => ?_
      rw [det_succ, ← sumN_mul]
      refine sumN_congr fun j _ => ?_
      show _ * (sgn j * M (skip (i + 1) 0) (j + 1) * _) = _
      rw [skip_first]
    rw [e1, e2, sumN_swap]
    refine sumN_congr fun i _ => sumN_congr fun j _ => ?_
    have hmm : minorC (minor M (j + 1)) i = minor (minorC M (i + 1)) j := by
      funext r k
      show M (skip i r + 1) (skip (j + 1) (k + 1)) = M (skip (i + 1) (r + 1)) (skip j k + 1)
      rw [skip_succ, skip_succ]
    rw [hmm, sgn_succ, sgn_succ]
    generalize det n (minor (minorC M (i + 1)) j) = D
    generalize M 0 (j + 1) = x
    generalize M (i + 1) 0 = y
    simp only [Int.neg_mul]
    congr 1
    ac_rfl

def turnM (M : Mtx) : Mtx := fun i k => M k i

theorem det_turn : ∀ (n : Nat) (M : Mtx), det n (turnM M) = det n M
  | 0, _ => rfl
  | n + 1, M => by
    rw [det_col n M, det_succ]
    refine sumN_congr fun j _ => ?_
    have : minor (turnM M) j = turnM (minorC M j) := rfl
    rw [this, det_turn n]
    rfl

/-! ### How great it can be -/

def fact : Nat → Nat
  | 0 => 1
  | n + 1 => (n + 1) * fact n

theorem sumN_abs {f : Nat → Int} {n : Nat} {b : Nat} (h : ∀ j, j < n → (f j).natAbs ≤ b) : (sumN f n).natAbs ≤ n * b := by
  induction n with
  | zero => simp [sumN]
  | succ n ih =>
    have h1 := ih fun j hj => h j (by omega)
    have h2 := h n (by omega)
    have h3 := Int.natAbs_add_le (sumN f n) (f n)
    rw [sumN, Nat.succ_mul]
    omega

theorem sgn_abs (j : Nat) : (sgn j).natAbs = 1 := by unfold sgn; split <;> rfl

theorem det_abs (b : Nat) : ∀ (n : Nat) (M : Mtx), (∀ i k, i < n → k < n → (M i k).natAbs ≤ b) → (det n M).natAbs ≤ fact n * b ^ n
  | 0, _, _ => by simp [det, fact]
  | n + 1, M, h => by
    rw [det_succ]
    have : ∀ j, j < n + 1 → (sgn j * M 0 j * det n (minor M j)).natAbs ≤ b * (fact n * b ^ n) := fun j hj => by
      rw [Int.natAbs_mul, Int.natAbs_mul, sgn_abs, Nat.one_mul]
      exact Nat.mul_le_mul (h 0 j (by omega) hj) (det_abs b n (minor M j) fun i k hi hk => h (i + 1) (skip j k) (by omega) (skip_lt hk))
    refine Nat.le_trans (sumN_abs this) ?_
    rw [fact, Nat.pow_succ]
    rw [Nat.mul_assoc, Nat.mul_left_comm b, Nat.mul_comm b (b ^ n)]
    exact Nat.le_refl _

end Go.Proofs.Ytamckjbddnocpaa
