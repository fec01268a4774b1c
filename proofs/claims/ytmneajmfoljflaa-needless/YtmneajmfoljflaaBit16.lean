/- One node of a side, as a bit. -/
import Derived.Test.YtmneajmfoljflaaBase
namespace Go.Proofs.Ytmneajmfoljflaa
open Go.RowKit
set_option linter.unusedVariables false

theorem and_u16_nat (a b : Nat) (ha : a < 65536) (hb : b < 65536) : bits .and .u16 (a : Int) (b : Int) = ((a &&& b : Nat) : Int) := by
  have hx : a &&& b < 65536 := Nat.lt_of_le_of_lt Nat.and_le_left ha
  have h1 : (BitVec.ofInt 16 (a : Int)).toNat = a := by
    rw [BitVec.ofInt_natCast, BitVec.toNat_ofNat]; exact Nat.mod_eq_of_lt (by omega)
  have h2 : (BitVec.ofInt 16 (b : Int)).toNat = b := by
    rw [BitVec.ofInt_natCast, BitVec.toNat_ofNat]; exact Nat.mod_eq_of_lt (by omega)
  show IntKind.u16.wrap ((BitVec.ofInt 16 (a : Int) &&& BitVec.ofInt 16 (b : Int)).toNat : Int) = _
  rw [BitVec.toNat_and, h1, h2, IntKind.wrap_u16]
  omega

/-- does the side have the node? -/
def bt (side v : Int) : Int := side / 2 ^ v.toNat % 2
theorem bt_01 (side v : Int) : bt side v = 0 ∨ bt side v = 1 := by unfold bt; omega
theorem bt_bits {side : Int} (h : 0 ≤ side ∧ side < 65536) (v : Nat) : bits .and .u16 (side / 2 ^ v) 1 = bt side v := by
  obtain ⟨a, rfl⟩ := Int.eq_ofNat_of_zero_le h.1
  have h2 : a / 2 ^ v < 65536 := Nat.lt_of_le_of_lt (Nat.div_le_self _ _) (by omega)
  have e : ((a : Int) / 2 ^ v) = ((a / 2 ^ v : Nat) : Int) := by simp
  rw [e, show (1 : Int) = ((1 : Nat) : Int) from rfl, and_u16_nat _ _ h2 (by omega), Nat.and_one_is_mod]
  unfold bt
  rw [Int.toNat_natCast, e]
  simp

end Go.Proofs.Ytmneajmfoljflaa
