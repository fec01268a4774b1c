/- Texts joined: CapR, BitN. -/
import Derived.Test.YtmneajmfoljflaaPartM
import Derived.Test.YtmneajmfoljflaaNet

/- Contracts of the document's own CapOf, Parted and Value. -/
namespace Go.Proofs.Ytmneajmfoljflaa
open Go.RowKit
set_option linter.unusedVariables false

theorem or_u16_nat (a b : Nat) (ha : a < 65536) (hb : b < 65536) : bits .or .u16 (a : Int) (b : Int) = ((a ||| b : Nat) : Int) := by
  have hx : a ||| b < 65536 := Nat.or_lt_two_pow (n := 16) ha hb
  have h1 : (BitVec.ofInt 16 (a : Int)).toNat = a := by
    rw [BitVec.ofInt_natCast, BitVec.toNat_ofNat]; exact Nat.mod_eq_of_lt (by omega)
  have h2 : (BitVec.ofInt 16 (b : Int)).toNat = b := by
    rw [BitVec.ofInt_natCast, BitVec.toNat_ofNat]; exact Nat.mod_eq_of_lt (by omega)
  show IntKind.u16.wrap ((BitVec.ofInt 16 (a : Int) ||| BitVec.ofInt 16 (b : Int)).toNat : Int) = _
  rw [BitVec.toNat_or, h1, h2, IntKind.wrap_u16]
  omega

theorem cap_step {x y c : Int} (hx : x = 0 ∨ x = 1) (hy : y = 0 ∨ y = 1) (hc : 0 ≤ c ∧ c ≤ 10000) : (0 ≤ c * x ∧ c * x ≤ 10000) ∧ 0 ≤ c * x * (1 - y) ∧ c * x * (1 - y) ≤ 10000 := by
  rcases hx with rfl | rfl <;> rcases hy with rfl | rfl <;> simp <;> omega



end Go.Proofs.Ytmneajmfoljflaa

/- Which nodes a side has: plain facts on its bits. -/
namespace Go.Proofs.Ytmneajmfoljflaa
open Go.RowKit
set_option linter.unusedVariables false

/-- has the side the node? -/
def hasN (x v : Nat) : Bool := Nat.testBit x v
theorem hasN_bt (x v : Nat) : bt (x : Int) (v : Int) = if hasN x v then 1 else 0 := bt_nat x v
theorem hasN_or (x m v u : Nat) (hm : 2 ^ v = m) : hasN (x ||| m) u = (hasN x u || decide (v = u)) := by
  subst hm
  unfold hasN
  rw [Nat.testBit_or, Nat.testBit_two_pow]

theorem pow_small {v m : Nat} (hv : v < 13) (hm : 2 ^ v = m) : m ≤ 4096 := by
  rw [← hm]; exact Nat.pow_le_pow_right (n := 2) (by omega) (show v ≤ 12 by omega)

theorem shl_u16 {v m : Nat} (hv : v < 13) (hm : 2 ^ v = m) : IntKind.u16.wrap (2 ^ v) = (m : Int) := by
  have hs := pow_small hv hm
  rw [IntKind.wrap_u16, show ((2 : Int) ^ v) = ((2 ^ v : Nat) : Int) by simp, hm]; omega
theorem bit_is {x : Nat} (hx : x < 65536) (v : Nat) : bits .and .u16 ((x : Int) / 2 ^ v) 1 = if hasN x v then 1 else 0 := by
  rw [bt_bits (by omega), hasN_bt]

end Go.Proofs.Ytmneajmfoljflaa
