/- What FixedSpot leaves, by its results. (made by genlaw.py) -/
import Derived.Test.YtghgipadogdfiaaPt3
namespace Go.Proofs.Ytghgipadogdfiaa
open Go.RowKit
def FixedSpot_Post (z0 : VGridTurn) (w : World) (e : Ending) (w' : World) : Prop :=
  e = .returned (.tuple #[.agg #[.int .i64 (FixedSpot_0 z0).X, .int .i64 (FixedSpot_0 z0).Y, .int .i64 (FixedSpot_0 z0).Den], .bool (FixedSpot_1 z0)]) ∧ Below w.heap.size w w'
end Go.Proofs.Ytghgipadogdfiaa
