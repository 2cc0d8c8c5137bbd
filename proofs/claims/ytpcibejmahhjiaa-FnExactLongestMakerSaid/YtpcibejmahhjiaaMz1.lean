/- Makers: both sides of each law of the chapter but Families and MakerText. -/
import Derived.Test.YtpcibejmahhjiaaM6
import Derived.Test.YtpcibejmahhjiaaM7
namespace Go.Proofs.Ytpcibejmahhjiaa
end Go.Proofs.Ytpcibejmahhjiaa
