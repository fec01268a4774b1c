/- Contract of slices.Contains at integers. -/
import Derived.Test.YthlcbhbjngcnkaaRows
import Derived.Test.YthlcbhbjngcnkaaBase
namespace Go.Proofs.Ythlcbhbjngcnkaa
open Go.RowKit
set_option linter.unusedVariables false

def idxOf (l : List Int) (x : Int) : Int := if x ∈ l then 0 else -1

set_option maxHeartbeats 400000 in
theorem indexInts (ao : Option Addr) (cap : Nat) (l : List Int) (x : Int) (w : World) (hm : l.length ≤ maxLen) (hA : IntsAt w ao l) :
    Calls Try.prog 37 #[.slice ao l.length cap, .int .i64 x] w fun e w' => (∃ k : Int, e = .returned (.int .i64 k) ∧ (0 ≤ k ↔ x ∈ l)) ∧ w' = w := by
  unfold maxLen at hm
  go_enter Try.func37, Try.ntmps37
  go_wp2
  go_loop [8] (fun i => ∃ k : Nat, k ≤ l.length ∧ i = .int .i64 k ∧ Hid (x ∉ l.take k)) (fun i => l.length - (intOf i).toNat)
  case atStart => exact ⟨0, Nat.zero_le _, rfl, by simp [Hid]⟩
  case round =>
    obtain ⟨k, hk, rfl, hno⟩ := hrel
    by_cases hlt : k < l.length
    · have hmem := ati_mem l k hlt
      have hsn := take_snoci l k hlt
      obtain ⟨b, off, rfl, hb, c0⟩ := hA k hlt
      generalize ati l k = y at *
      by_cases he : x = y
      · subst he
        have HM : Hid (x ∈ l) := hmem
        have hxx : (x == x) = true := by simp
        clear hmem hsn hno
        go_wp2
        go_ret
        exact ⟨⟨k, rfl, fun _ => HM.out, fun _ => by omega⟩, rfl⟩
      · have he' : (x == y) = false := by simpa using he
        have HN : Hid (x ∉ l.take (k + 1)) := by
          rw [Hid, hsn]
          intro h
          rcases List.mem_append.1 h with h | h
          · exact hno.out h
          · exact he (List.mem_singleton.1 h)
        clear hmem hsn hno he
        go_wp2
        go_round
        case rel => exact ⟨k + 1, by omega, by go_num, HN⟩
        case measure => simp [intOf]; omega
    · rw [List.take_of_length_le (by omega)] at hno
      go_wp2
      go_ret
      exact ⟨⟨-1, rfl, fun h => absurd h (by omega), fun h => absurd h hno.out⟩, rfl⟩

set_option maxHeartbeats 400000 in
theorem containsInts (ao : Option Addr) (cap : Nat) (l : List Int) (x : Int) (w : World) (hm : l.length ≤ maxLen) (hA : IntsAt w ao l) :
    Calls Try.prog 24 #[.slice ao l.length cap, .int .i64 x] w fun e w' => e = .returned (.bool (decide (x ∈ l))) ∧ w' = w := by
  go_enter Try.func24, Try.ntmps24
  go_wp2_with fail
  refine (indexInts ao cap l x w hm hA).mono ?_
  rintro e w' ⟨⟨k, rfl, hk⟩, hw⟩
  subst hw
  have HK : Hid (0 ≤ k ↔ x ∈ l) := hk
  clear hk
  go_wp2
  go_ret
  refine ⟨ret_bool ?_, rfl⟩
  by_cases c : 0 ≤ k
  · rw [decide_eq_true (HK.out.1 c)]; simpa using c
  · rw [decide_eq_false (fun h => c (HK.out.2 h))]; simpa using c

end Go.Proofs.Ythlcbhbjngcnkaa
