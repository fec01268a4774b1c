/- Plain facts on sums of so many numbers. -/
import Derived.Test.YtmneajmfoljflaaBase
namespace Go.Proofs.Ytmneajmfoljflaa
set_option linter.unusedVariables false

def sumN (f : Nat → Int) : Nat → Int
  | 0 => 0
  | n + 1 => sumN f n + f n

theorem sumN_add (f g : Nat → Int) (n : Nat) : sumN (fun v => f v + g v) n = sumN f n + sumN g n := by
  induction n with
  | zero => rfl
  | succ n ih => simp only [sumN, ih]; omega
theorem sumN_sub (f g : Nat → Int) (n : Nat) : sumN (fun v => f v - g v) n = sumN f n - sumN g n := by
  induction n with
  | zero => rfl
  | succ n ih => simp only [sumN, ih]; omega
theorem sumN_congr {f g : Nat → Int} {n : Nat} (h : ∀ v, v < n → f v = g v) : sumN f n = sumN g n := by
  induction n with
  | zero => rfl
  | succ n ih => simp only [sumN, ih (fun v hv => h v (by omega)), h n (by omega)]
theorem sumN_zero {f : Nat → Int} {n : Nat} (h : ∀ v, v < n → f v = 0) : sumN f n = 0 := by
  induction n with
  | zero => rfl
  | succ n ih => simp only [sumN, ih (fun v hv => h v (by omega)), h n (by omega)]; rfl
theorem sumN_single {f : Nat → Int} {n k : Nat} (hk : k < n) (h : ∀ v, v < n → v ≠ k → f v = 0) : sumN f n = f k := by
  induction n with
  | zero => omega
  | succ n ih =>
    by_cases e : k = n
    · subst e
      rw [sumN, sumN_zero fun v hv => h v (by omega) (by omega)]; omega
    · rw [sumN, ih (by omega) fun v hv => h v (by omega), h n (by omega) (by omega)]; omega
theorem sumN_nonneg {f : Nat → Int} {n : Nat} (h : ∀ v, v < n → 0 ≤ f v) : 0 ≤ sumN f n := by
  induction n with
  | zero => exact Int.le_refl _
  | succ n ih => have := ih fun v hv => h v (by omega); have := h n (by omega); simp only [sumN]; omega
theorem sumN_le {f : Nat → Int} {n : Nat} (h : ∀ v, v < n → 0 ≤ f v) {k : Nat} (hk : k < n) : f k ≤ sumN f n := by
  induction n with
  | zero => omega
  | succ n ih =>
    have h0 := sumN_nonneg (f := f) (n := n) fun v hv => h v (by omega)
    have h1 := h n (by omega)
    simp only [sumN]
    by_cases e : k = n
    · subst e; omega
    · have := ih (fun v hv => h v (by omega)) (by omega); omega
/-- numbers from 0 up whose sum is 0 -/
theorem sumN_none {f : Nat → Int} {n : Nat} (h : ∀ v, v < n → 0 ≤ f v) (e : sumN f n = 0) {k : Nat} (hk : k < n) : f k = 0 := by
  have := sumN_le h hk; have := h k hk; omega
/-- numbers from 0 up whose sum is 1 -/
theorem sumN_one {f : Nat → Int} {n : Nat} (h : ∀ v, v < n → 0 ≤ f v) (e : sumN f n = 1) : ∃ k, k < n ∧ f k = 1 ∧ ∀ v, v < n → v ≠ k → f v = 0 := by
  induction n with
  | zero => simp [sumN] at e
  | succ n ih =>
    simp only [sumN] at e
    have h0 := sumN_nonneg (f := f) (n := n) fun v hv => h v (by omega)
    have h1 := h n (by omega)
    by_cases e1 : f n = 0
    · obtain ⟨k, hk, hk1, hk0⟩ := ih (fun v hv => h v (by omega)) (by omega)
      refine ⟨k, by omega, hk1, fun v hv hne => ?_⟩
      by_cases ev : v = n
      · subst ev; exact e1
      · exact hk0 v (by omega) hne
    · refine ⟨n, by omega, by omega, fun v hv hne => sumN_none (n := n) (fun v hv => h v (by omega)) (by omega) (by omega)⟩

theorem sumN_front (f : Nat → Int) (n : Nat) : sumN f (n + 1) = f 0 + sumN (fun v => f (v + 1)) n := by
  induction n with
  | zero => simp [sumN]
  | succ n ih => rw [sumN, ih, sumN]; omega
theorem sumN_mul (c : Int) (f : Nat → Int) (n : Nat) : sumN (fun v => c * f v) n = c * sumN f n := by
  induction n with
  | zero => simp [sumN]
  | succ n ih => rw [sumN, sumN, ih, Int.mul_add]
theorem sumN_neg (f : Nat → Int) (n : Nat) : sumN (fun v => - f v) n = - sumN f n := by
  induction n with
  | zero => rfl
  | succ n ih => rw [sumN, sumN, ih]; omega
theorem sumN_swap (f : Nat → Nat → Int) (n m : Nat) : sumN (fun i => sumN (fun j => f i j) m) n = sumN (fun j => sumN (fun i => f i j) n) m := by
  induction n with
  | zero => rw [sumN, sumN_zero]; intro j _; rfl
  | succ n ih =>
    rw [sumN, ih, ← sumN_add]
    exact sumN_congr fun j _ => rfl

theorem perm_sum {a b : List Int} (h : a.Perm b) : a.sum = b.sum := by
  induction h with
  | nil => rfl
  | cons x _ ih => simp [ih]
  | swap x y l => simp only [List.sum_cons]; omega
  | trans _ _ h1 h2 => exact h1.trans h2

theorem sumN_list (f : Nat → Int) (n : Nat) : sumN f n = ((List.range n).map f).sum := by
  induction n with
  | zero => rfl
  | succ n ih => rw [List.range_succ, List.map_append, List.sum_append, ← ih]; simp [sumN]

end Go.Proofs.Ytmneajmfoljflaa
