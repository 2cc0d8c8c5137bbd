/- Flats and drawers: mathematics and memory together. -/
import Derived.Test.YtldanejdnbfbjaaFl4
import Derived.Test.YtldanejdnbfbjaaIntO
import Derived.Test.YtldanejdnbfbjaaFlatO
import Derived.Test.YtldanejdnbfbjaaDrawerT2
