/- Both sides of the chapter on water: Catchment, GreatestRiver. -/
import Derived.Test.YtodjgeffkfbpiaaM6
import Derived.Test.YtodjgeffkfbpiaaM8
namespace Go.Proofs.Ytodjgeffkfbpiaa
end Go.Proofs.Ytodjgeffkfbpiaa
