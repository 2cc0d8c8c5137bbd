/- Flats and drawers: mathematics and memory together. -/
import Derived.Test.YtlmedhidkhphbaaFl4
import Derived.Test.YtlmedhidkhphbaaIntO
import Derived.Test.YtlmedhidkhphbaaFlatO
import Derived.Test.YtlmedhidkhphbaaDrawerT2
