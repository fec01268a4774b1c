/- Package cut: bit, has, nodes, parts, and plain facts on the bits of a side. -/
import Derived.Test.YtmneajmfoljflaaCutC
import Derived.Test.YtmneajmfoljflaaCutL
import Derived.Test.YtmneajmfoljflaaJoinedB
namespace Go.Proofs.Ytmneajmfoljflaa
open Go.RowKit
set_option linter.unusedVariables false

theorem andNot_u16_nat (a b : Nat) (ha : a < 65536) (hb : b < 65536) : bits .andNot .u16 (a : Int) (b : Int) = ((a &&& (65535 - b) : Nat) : Int) := by
  have hx : a &&& (65535 - b) < 2 ^ 16 := Nat.and_lt_two_pow _ (by omega)
  have h1 : (BitVec.ofInt 16 (a : Int)).toNat = a := by
    rw [BitVec.ofInt_natCast, BitVec.toNat_ofNat]; exact Nat.mod_eq_of_lt (by omega)
  have h2 : (BitVec.ofInt 16 (b : Int)).toNat = b := by
    rw [BitVec.ofInt_natCast, BitVec.toNat_ofNat]; exact Nat.mod_eq_of_lt (by omega)
  show IntKind.u16.wrap ((BitVec.ofInt 16 (a : Int) &&& ~~~BitVec.ofInt 16 (b : Int)).toNat : Int) = _
  rw [BitVec.toNat_and, BitVec.toNat_not, h1, h2, IntKind.wrap_u16]
  have e : 2 ^ 16 - 1 - b = 65535 - b := by omega
  rw [e]
  omega
theorem testBit_without (a b i : Nat) (ha : a < 65536) (hb : b < 65536) : Nat.testBit (a &&& (65535 - b)) i = (Nat.testBit a i && !Nat.testBit b i) := by
  rw [Nat.testBit_and, show 65535 - b = 2 ^ 16 - (b + 1) by omega, Nat.testBit_two_pow_sub_succ (by omega)]
  by_cases h : i < 16
  · simp [h]
  · have : a < 2 ^ i := Nat.lt_of_lt_of_le (show a < 2 ^ 16 by omega) (Nat.pow_le_pow_right (by omega) (by omega))
    rw [Nat.testBit_lt_two_pow this]; simp
theorem and_bit (x v m : Nat) (hm : 2 ^ v = m) : (((x &&& m : Nat) : Int) != 0) = hasN x v := by
  subst hm
  cases h : hasN x v
  · have : x &&& 2 ^ v = 0 := Nat.eq_of_testBit_eq fun i => by
      rw [Nat.testBit_and, Nat.testBit_two_pow, Nat.zero_testBit]
      by_cases e : v = i
      · subst e; rw [show Nat.testBit x v = false from h]; rfl
      · simp [e]
    rw [this]; rfl
  · have : x &&& 2 ^ v ≠ 0 := fun e => by
      have h1 : Nat.testBit (x &&& 2 ^ v) v = true := by
        rw [Nat.testBit_and, Nat.testBit_two_pow, show Nat.testBit x v = true from h]; simp
      rw [e, Nat.zero_testBit] at h1
      cases h1
    simpa using this
theorem full_without {N x : Nat} (hN : N ≤ 12) (hx : x < 2 ^ N) : (2 ^ N - 1) &&& (65535 - x) = 2 ^ N - 1 - x := by
  have h12 : 2 ^ N ≤ 2 ^ 12 := Nat.pow_le_pow_right (by omega) hN
  refine Nat.eq_of_testBit_eq fun i => ?_
  rw [testBit_without _ _ _ (by omega) (by omega), testBit_other hx, Nat.testBit_two_pow_sub_one]
theorem outside_none {N x : Nat} (hN : N ≤ 12) (hx : x < 65536) : x &&& (65535 - (2 ^ N - 1)) = 0 ↔ x < 2 ^ N := by
  have h12 : 2 ^ N ≤ 2 ^ 12 := Nat.pow_le_pow_right (by omega) hN
  constructor
  · intro h
    refine Nat.lt_pow_two_of_testBit _ fun i hi => ?_
    have h1 : Nat.testBit (x &&& (65535 - (2 ^ N - 1))) i = false := by rw [h, Nat.zero_testBit]
    rw [testBit_without _ _ _ hx (by omega), Nat.testBit_two_pow_sub_one] at h1
    simpa [show ¬ i < N by omega] using h1
  · intro h
    refine Nat.eq_of_testBit_eq fun i => ?_
    rw [testBit_without _ _ _ hx (by omega), Nat.testBit_two_pow_sub_one, Nat.zero_testBit]
    by_cases c : i < N
    · simp [c]
    · have : x < 2 ^ i := Nat.lt_of_lt_of_le h (Nat.pow_le_pow_right (by omega) (by omega))
      rw [Nat.testBit_lt_two_pow this]; rfl
theorem bit_any (v m : Nat) (hv : v < 13) (hm : 2 ^ v = m) (w : World) :
    Calls Try.prog 31 #[.int .i64 (v : Int)] w fun e w' => e = .returned (.int .u16 (m : Int)) ∧ w' = w := by
  have hs := pow_small hv hm
  have hsh : IntKind.u16.wrap (2 ^ v) = (m : Int) := by
    rw [IntKind.wrap_u16, show ((2 : Int) ^ v) = ((2 ^ v : Nat) : Int) by simp, hm]; omega
  clear hm
  go_enter Try.func31, Try.ntmps31
  go_wp2
  go_ret
  exact ⟨rfl, rfl⟩

theorem has_any (x v : Nat) (hx : x < 65536) (hv : v < 13) (w : World) :
    Calls Try.prog 38 #[.int .u16 (x : Int), .int .i64 (v : Int)] w fun e w' => e = .returned (.bool (hasN x v)) ∧ w' = w := by
  obtain ⟨m, hm⟩ : ∃ m, 2 ^ v = m := ⟨_, rfl⟩
  have hs := pow_small hv hm
  have u1 := and_u16_nat x m hx (by omega)
  have u2 := and_bit x v m hm
  have HB := bit_any v m hv hm
  generalize hasN x v = b at *
  generalize x &&& m = y at *
  clear hm
  go_enter Try.func38, Try.ntmps38
  go_wp2_with (go_at_call 31; refine (HB _).mono ?_; rintro e w' ⟨rfl, hw⟩; rw [hw]; clear hw)
  go_ret
  exact ⟨rfl, rfl⟩



end Go.Proofs.Ytmneajmfoljflaa
