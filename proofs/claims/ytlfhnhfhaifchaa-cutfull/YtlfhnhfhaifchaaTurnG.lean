/- What Turn answers is a graph, whatever is handed in. -/
import Derived.Test.YtlfhnhfhaifchaaTurn
import Derived.Test.YtlfhnhfhaifchaaGErr
namespace Go.Proofs.Ytlfhnhfhaifchaa
open Go.RowKit
set_option linter.unusedVariables false


end Go.Proofs.Ytlfhnhfhaifchaa
