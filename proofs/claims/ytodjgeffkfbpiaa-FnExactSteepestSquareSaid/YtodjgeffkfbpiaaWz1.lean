/- Both sides of the chapter on water: IsRelief, NextSquare, RunOff, PitsOf, SteepestSquare. -/
import Derived.Test.YtodjgeffkfbpiaaWi8
import Derived.Test.YtodjgeffkfbpiaaWs5
namespace Go.Proofs.Ytodjgeffkfbpiaa
end Go.Proofs.Ytodjgeffkfbpiaa
