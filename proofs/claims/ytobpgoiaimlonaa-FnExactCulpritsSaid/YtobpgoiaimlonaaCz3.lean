/- Culprits: both sides. -/
import Derived.Test.YtobpgoiaimlonaaM6
import Derived.Test.YtobpgoiaimlonaaM8
