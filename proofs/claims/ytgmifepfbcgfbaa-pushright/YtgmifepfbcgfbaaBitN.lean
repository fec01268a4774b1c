/- Which nodes a side has: plain facts on its bits. -/
import Derived.Test.YtgmifepfbcgfbaaPartM
import Derived.Test.YtgmifepfbcgfbaaCapR
namespace Go.Proofs.Ytgmifepfbcgfbaa
open Go.RowKit
set_option linter.unusedVariables false

/-- has the side the node? -/
def hasN (x v : Nat) : Bool := Nat.testBit x v
theorem hasN_bt (x v : Nat) : bt (x : Int) (v : Int) = if hasN x v then 1 else 0 := bt_nat x v
theorem hasN_or (x m v u : Nat) (hm : 2 ^ v = m) : hasN (x ||| m) u = (hasN x u || decide (v = u)) := by
  subst hm
  unfold hasN
  rw [Nat.testBit_or, Nat.testBit_two_pow]

theorem pow_small {v m : Nat} (hv : v < 13) (hm : 2 ^ v = m) : m ≤ 4096 := by
  rw [← hm]; exact Nat.pow_le_pow_right (n := 2) (by omega) (show v ≤ 12 by omega)

theorem shl_u16 {v m : Nat} (hv : v < 13) (hm : 2 ^ v = m) : IntKind.u16.wrap (2 ^ v) = (m : Int) := by
  have hs := pow_small hv hm
  rw [IntKind.wrap_u16, show ((2 : Int) ^ v) = ((2 ^ v : Nat) : Int) by simp, hm]; omega
theorem bit_is {x : Nat} (hx : x < 65536) (v : Nat) : bits .and .u16 ((x : Int) / 2 ^ v) 1 = if hasN x v then 1 else 0 := by
  rw [bt_bits (by omega), hasN_bt]

end Go.Proofs.Ytgmifepfbcgfbaa
