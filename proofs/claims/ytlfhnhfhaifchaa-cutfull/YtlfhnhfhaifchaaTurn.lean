/- Contracts of package graph: Turn. -/
import Derived.Test.YtlfhnhfhaifchaaGErr
import Derived.Test.YtlfhnhfhaifchaaMk
namespace Go.Proofs.Ytlfhnhfhaifchaa
open Go.RowKit
set_option linter.unusedVariables false


end Go.Proofs.Ytlfhnhfhaifchaa
