/- Contract of the document's own IsWay, where it is a way. -/
import Derived.Test.YthlcbhbjngcnkaaWMath
namespace Go.Proofs.Ythlcbhbjngcnkaa
open Go.RowKit
set_option linter.unusedVariables false

/-- arcs by their numbers, each from where the one ahead leads to -/
def Chain (l : List Arc3) : Int → List Int → Int → Prop
  | s, [], t => s = t
  | s, k :: r, t => ∃ j : Nat, k = j ∧ j < l.length ∧ (at3 l j).1 = s ∧ Chain l (at3 l j).2.1 r t

end Go.Proofs.Ythlcbhbjngcnkaa
