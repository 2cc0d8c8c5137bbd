/- What NextSquare leaves, by its results. (made by genlaw2.py) -/
import Derived.Test.YtodjgeffkfbpiaaWd
namespace Go.Proofs.Ytodjgeffkfbpiaa
open Go.RowKit
def NextSquare_Post (z0 : List VIntS) (z1 : Int) (z2 : Int) (w : World) (e : Ending) (w' : World) : Prop :=
  e = .returned (.tuple #[.int .i64 (NextSquare_0 z0 z1 z2), .int .i64 (NextSquare_1 z0 z1 z2), .bool (NextSquare_2 z0 z1 z2)]) ∧ Below w.heap.size w w'
end Go.Proofs.Ytodjgeffkfbpiaa
