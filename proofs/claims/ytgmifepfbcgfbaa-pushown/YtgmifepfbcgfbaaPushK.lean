/- Package push: all of it. -/
import Derived.Test.YtgmifepfbcgfbaaPNew
import Derived.Test.YtgmifepfbcgfbaaPBusy
import Derived.Test.YtgmifepfbcgfbaaPLift
import Derived.Test.YtgmifepfbcgfbaaPSend
