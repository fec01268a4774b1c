/- Rows outlast draws. -/
import Derived.Test.YtakemienlmlgkaaBase
namespace Go.Proofs.Ytakemienlmlgkaa
open Go.RowKit
set_option linter.unusedVariables false

theorem row_drewN {w : World} {b : Nat} {t : TypeId} {n : Nat} {f : Nat → Value} (h : w.rowIs b t n f) (k : Nat) : (w.drewN k).rowIs b t n f := by
  induction k with
  | zero => exact h
  | succ k ih => exact ih.drew

end Go.Proofs.Ytakemienlmlgkaa
