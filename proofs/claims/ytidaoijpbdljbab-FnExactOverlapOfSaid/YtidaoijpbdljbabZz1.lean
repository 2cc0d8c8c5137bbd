/- Zones: the program's and the model's first functions together. -/
import Derived.Test.YtidaoijpbdljbabZi
import Derived.Test.YtidaoijpbdljbabZi3
import Derived.Test.YtidaoijpbdljbabZs
