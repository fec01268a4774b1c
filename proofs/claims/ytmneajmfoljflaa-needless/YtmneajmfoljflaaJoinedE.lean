/- Texts joined: CutP, Turn, TurnG. -/
import Derived.Test.YtmneajmfoljflaaCutO
import Derived.Test.YtmneajmfoljflaaGErr
import Derived.Test.YtmneajmfoljflaaMk

/- Package cut: Cap. -/
namespace Go.Proofs.Ytmneajmfoljflaa
open Go.RowKit
set_option linter.unusedVariables false


end Go.Proofs.Ytmneajmfoljflaa

/- Contracts of package graph: Turn. -/
namespace Go.Proofs.Ytmneajmfoljflaa
open Go.RowKit
set_option linter.unusedVariables false


end Go.Proofs.Ytmneajmfoljflaa

/- What Turn answers is a graph, whatever is handed in. -/
namespace Go.Proofs.Ytmneajmfoljflaa
open Go.RowKit
set_option linter.unusedVariables false


end Go.Proofs.Ytmneajmfoljflaa
