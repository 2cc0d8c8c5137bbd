/- Both sides of the chapter on water: FilledRelief. -/
import Derived.Test.YtodjgeffkfbpiaaM7
import Derived.Test.YtodjgeffkfbpiaaM9
namespace Go.Proofs.Ytodjgeffkfbpiaa
end Go.Proofs.Ytodjgeffkfbpiaa
