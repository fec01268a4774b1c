/- Contracts of the document's own errors: GraphErr, LongErr. -/
import Derived.Test.YtmneajmfoljflaaGErr
namespace Go.Proofs.Ytmneajmfoljflaa
open Go.RowKit
set_option linter.unusedVariables false



end Go.Proofs.Ytmneajmfoljflaa
