/- Contracts of the document's own CapOf, Parted and Value. -/
import Derived.Test.YtgmifepfbcgfbaaPartM
import Derived.Test.YtgmifepfbcgfbaaNet
namespace Go.Proofs.Ytgmifepfbcgfbaa
open Go.RowKit
set_option linter.unusedVariables false

theorem or_u16_nat (a b : Nat) (ha : a < 65536) (hb : b < 65536) : bits .or .u16 (a : Int) (b : Int) = ((a ||| b : Nat) : Int) := by
  have hx : a ||| b < 65536 := Nat.or_lt_two_pow (n := 16) ha hb
  have h1 : (BitVec.ofInt 16 (a : Int)).toNat = a := by
    rw [BitVec.ofInt_natCast, BitVec.toNat_ofNat]; exact Nat.mod_eq_of_lt (by omega)
  have h2 : (BitVec.ofInt 16 (b : Int)).toNat = b := by
    rw [BitVec.ofInt_natCast, BitVec.toNat_ofNat]; exact Nat.mod_eq_of_lt (by omega)
  show IntKind.u16.wrap ((BitVec.ofInt 16 (a : Int) ||| BitVec.ofInt 16 (b : Int)).toNat : Int) = _
  rw [BitVec.toNat_or, h1, h2, IntKind.wrap_u16]
  omega

theorem cap_step {x y c : Int} (hx : x = 0 ∨ x = 1) (hy : y = 0 ∨ y = 1) (hc : 0 ≤ c ∧ c ≤ 10000) : (0 ≤ c * x ∧ c * x ≤ 10000) ∧ 0 ≤ c * x * (1 - y) ∧ c * x * (1 - y) ≤ 10000 := by
  rcases hx with rfl | rfl <;> rcases hy with rfl | rfl <;> simp <;> omega



end Go.Proofs.Ytgmifepfbcgfbaa
