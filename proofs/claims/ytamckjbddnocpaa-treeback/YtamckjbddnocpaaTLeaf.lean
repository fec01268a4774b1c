/- Contracts of package tree: leaf, rising, standingByCode. -/
import Derived.Test.YtamckjbddnocpaaDecM
import Derived.Test.YtamckjbddnocpaaRepeat
import Derived.Test.YtamckjbddnocpaaMk
namespace Go.Proofs.Ytamckjbddnocpaa
open Go.RowKit
set_option linter.unusedVariables false

set_option maxHeartbeats 400000 in
theorem index_at (ao : Option Addr) (cap : Nat) (l : List Int) (x : Int) (j : Nat) (w : World) (hm : l.length ≤ maxLen) (hA : IntsAt w ao l) (hj : j < l.length) (hx : ati l j = x) (hb : ∀ i, i < j → ati l i ≠ x) :
    Calls Try.prog 41 #[.slice ao l.length cap, .int .i64 x] w fun e w' => e = .returned (.int .i64 (j : Int)) ∧ w' = w := by
  unfold maxLen at hm
  have HX : Hid (ati l j = x) := hx
  have HB : Hid (∀ i, i < j → ati l i ≠ x) := hb
  clear hx hb
  go_enter Try.func41, Try.ntmps41
  go_wp2
  go_loop [8] (fun i => ∃ k : Nat, k ≤ j ∧ i = .int .i64 k) (fun i => l.length - (intOf i).toNat)
  case atStart => exact ⟨0, Nat.zero_le _, rfl⟩
  case round =>
    obtain ⟨k, hk, rfl⟩ := hrel
    have hlt : k < l.length := by omega
    obtain ⟨b, off, rfl, hb, c0⟩ := hA k hlt
    by_cases e : k = j
    · subst e
      rw [HX.out] at c0
      have hxx : (x == x) = true := by simp
      go_wp2
      go_ret
      exact ⟨rfl, rfl⟩
    · have hne := HB.out k (by omega)
      have he' : (x == ati l k) = false := by simpa using fun h => hne h.symm
      clear hne
      generalize ati l k = y at *
      go_wp2
      go_round
      case rel => exact ⟨k + 1, by omega, by go_num⟩
      case measure => simp [intOf]; omega

set_option maxHeartbeats 400000 in
theorem leaf_at (ao : Option Addr) (cap : Nat) (l : List Int) (j : Nat) (w : World) (hm : l.length ≤ maxLen) (hA : IntsAt w ao l) (hj : j < l.length) (hx : ati l j = 1) (hb : ∀ i, i < j → ati l i ≠ 1) :
    Calls Try.prog 31 #[.slice ao l.length cap] w fun e w' => e = .returned (.int .i64 (j : Int)) ∧ w' = w := by
  have hcall := index_at ao cap l 1 j w hm hA hj hx hb
  go_enter Try.func31, Try.ntmps31
  go_wp2_with (go_at_call 41; refine (hcall).mono ?_; rintro e w' ⟨rfl, hw1⟩; subst hw1)
  go_ret
  exact ⟨rfl, rfl⟩

set_option maxHeartbeats 400000 in
theorem rising_any (v x : Nat) (hv : v ≤ 100) (hx : x ≤ 100) (w : World) :
    Calls Try.prog 32 #[.int .i64 (v : Int), .int .i64 (x : Int)] w fun e w' => Below w.heap.size w w' ∧ e = .returned (.agg #[.int .i64 (tells v x).1, .int .i64 (tells v x).2.1, .int .i64 0]) := by
  rcases Nat.lt_trichotomy v x with h | h | h
  · have e1 : (tells v x).1 = (v : Int) := by unfold tells; simp only; omega
    have e2 : (tells v x).2.1 = (x : Int) := by unfold tells; simp only; omega
    rw [e1, e2]
    have g1 : (v : Int) < x := by omega
    have g2 : ¬ (x : Int) < v := by omega
    clear e1 e2 h
    go_enter Try.func32, Try.ntmps32
    go_wp2
    refine bodyPost_ret (v := .agg #[.int .i64 (v : Int), .int .i64 (x : Int), .int .i64 0]) (by simp [results, Try.results32, go_sem]) rfl ⟨?_, rfl⟩
    exact below_one _ _
  · subst h
    have e1 : (tells v v).1 = (v : Int) := by unfold tells; simp only; omega
    have e2 : (tells v v).2.1 = (v : Int) := by unfold tells; simp only; omega
    rw [e1, e2]
    clear e1 e2
    go_enter Try.func32, Try.ntmps32
    go_wp2
    refine bodyPost_ret (v := .agg #[.int .i64 (v : Int), .int .i64 (v : Int), .int .i64 0]) (by simp [results, Try.results32, go_sem]) rfl ⟨?_, rfl⟩
    exact below_one _ _
  · have e1 : (tells v x).1 = (x : Int) := by unfold tells; simp only; omega
    have e2 : (tells v x).2.1 = (v : Int) := by unfold tells; simp only; omega
    rw [e1, e2]
    have g1 : ¬ (v : Int) < x := by omega
    have g2 : (x : Int) < v := by omega
    clear e1 e2 h
    go_enter Try.func32, Try.ntmps32
    go_wp2
    refine bodyPost_ret (v := .agg #[.int .i64 (x : Int), .int .i64 (v : Int), .int .i64 0]) (by simp [results, Try.results32, go_sem]) rfl ⟨?_, rfl⟩
    exact below_one _ _

end Go.Proofs.Ytamckjbddnocpaa
