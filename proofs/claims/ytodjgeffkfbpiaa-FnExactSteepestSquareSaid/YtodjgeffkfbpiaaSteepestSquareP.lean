/- What SteepestSquare leaves, by its results. (made by genlaw2.py) -/
import Derived.Test.YtodjgeffkfbpiaaWd
namespace Go.Proofs.Ytodjgeffkfbpiaa
open Go.RowKit
def SteepestSquare_Post (z0 : List VIntS) (w : World) (e : Ending) (w' : World) : Prop :=
  e = .returned (.tuple #[.int .i64 (SteepestSquare_0 z0), .int .i64 (SteepestSquare_1 z0), .int .i64 (SteepestSquare_2 z0), .bool (SteepestSquare_3 z0)]) ∧ Below w.heap.size w w'
end Go.Proofs.Ytodjgeffkfbpiaa
