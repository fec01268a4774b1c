/- Contracts of the laws' own helpers: arcs written out, a line of three nodes. -/
import Derived.Test.YtmneajmfoljflaaMk
import Derived.Test.YtmneajmfoljflaaFlat
namespace Go.Proofs.Ytmneajmfoljflaa
open Go.RowKit
set_option linter.unusedVariables false


def lineL : List Arc3 := [(0, 1, 4), (1, 2, 3)]


end Go.Proofs.Ytmneajmfoljflaa
