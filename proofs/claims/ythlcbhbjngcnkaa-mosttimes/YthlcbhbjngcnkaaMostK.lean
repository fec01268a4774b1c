/- The contracts of package most, as it landed at efeb941c. -/
import Derived.Test.YthlcbhbjngcnkaaMMore
