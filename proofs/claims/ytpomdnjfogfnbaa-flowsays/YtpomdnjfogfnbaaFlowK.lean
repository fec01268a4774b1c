/- The contracts of package flow, as it landed at 77699b76. -/
import Derived.Test.YtpomdnjfogfnbaaFSplit
