/- Readers: both sides of each law of the chapter. -/
import Derived.Test.YtidaoijpbdljbabRi9
import Derived.Test.YtidaoijpbdljbabRd11
import Derived.Test.YtidaoijpbdljbabRi0
