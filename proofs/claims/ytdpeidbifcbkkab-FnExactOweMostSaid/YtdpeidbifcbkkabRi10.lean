/- Readers: both sides of each law of the chapter. -/
import Derived.Test.YtdpeidbifcbkkabRi9
import Derived.Test.YtdpeidbifcbkkabRd11
import Derived.Test.YtdpeidbifcbkkabRi0
