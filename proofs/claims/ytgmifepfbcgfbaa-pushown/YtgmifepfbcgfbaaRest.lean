/- Contract of the document's own Rest. -/
import Derived.Test.YtgmifepfbcgfbaaRows
import Derived.Test.YtgmifepfbcgfbaaBase
namespace Go.Proofs.Ytgmifepfbcgfbaa
open Go.RowKit
set_option linter.unusedVariables false

def restV (n : Int) (m : Nat) : Int := if Int.tmod n m < 0 then Int.tmod n m + m else Int.tmod n m

theorem restV_in (n : Int) {m : Nat} (hm : 0 < m) : 0 ≤ restV n m ∧ restV n m < (m : Int) := by
  unfold restV
  have h1 := Int.tmod_lt_of_pos n (show (0 : Int) < m by omega)
  have h2 : -(m : Int) < Int.tmod n m := by
    have := Int.tmod_lt_of_pos (-n) (show (0 : Int) < m by omega)
    rw [Int.neg_tmod] at this; omega
  split <;> omega

set_option maxHeartbeats 400000 in
theorem rest_any (n : Int) (m : Nat) (hm : 0 < m) (hm2 : m ≤ 100) (w : World) :
    Calls Try.prog 23 #[.int .i64 n, .int .i64 (m : Int)] w fun e w' => e = .returned (.int .i64 (restV n m)) ∧ w' = w := by
  have h1 := Int.tmod_lt_of_pos n (show (0 : Int) < m by omega)
  have h2 : -(m : Int) < Int.tmod n m := by
    have := Int.tmod_lt_of_pos (-n) (show (0 : Int) < m by omega)
    rw [Int.neg_tmod] at this; omega
  have hm0 : ¬ (m : Int) = 0 := by omega
  by_cases h : Int.tmod n m < 0
  · rw [show restV n m = Int.tmod n m + m from if_pos h]
    go_enter Try.func23, Try.ntmps23
    go_wp2
    go_ret
    exact ⟨rfl, rfl⟩
  · rw [show restV n m = Int.tmod n m from if_neg h]
    go_enter Try.func23, Try.ntmps23
    go_wp2
    go_ret
    exact ⟨rfl, rfl⟩

set_option maxHeartbeats 400000 in
theorem rest_big (n : Int) (m : Nat) (hm : 0 < m) (hm2 : m ≤ 100000) (w : World) :
    Calls Try.prog 23 #[.int .i64 n, .int .i64 (m : Int)] w fun e w' => e = .returned (.int .i64 (restV n m)) ∧ w' = w := by
  have h1 := Int.tmod_lt_of_pos n (show (0 : Int) < m by omega)
  have h2 : -(m : Int) < Int.tmod n m := by
    have := Int.tmod_lt_of_pos (-n) (show (0 : Int) < m by omega)
    rw [Int.neg_tmod] at this; omega
  have hm0 : ¬ (m : Int) = 0 := by omega
  by_cases h : Int.tmod n m < 0
  · rw [show restV n m = Int.tmod n m + m from if_pos h]
    go_enter Try.func23, Try.ntmps23
    go_wp2
    go_ret
    exact ⟨rfl, rfl⟩
  · rw [show restV n m = Int.tmod n m from if_neg h]
    go_enter Try.func23, Try.ntmps23
    go_wp2
    go_ret
    exact ⟨rfl, rfl⟩

end Go.Proofs.Ytgmifepfbcgfbaa
