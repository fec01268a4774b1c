/- Contracts of the document's own errors: GraphErr, LongErr. -/
import Derived.Test.YtgmifepfbcgfbaaGErr
namespace Go.Proofs.Ytgmifepfbcgfbaa
open Go.RowKit
set_option linter.unusedVariables false



end Go.Proofs.Ytgmifepfbcgfbaa
