/- What StretchOf leaves, by its results. (made by genlaw.py) -/
import Derived.Test.YtghgipadogdfiaaPt3
namespace Go.Proofs.Ytghgipadogdfiaa
open Go.RowKit
def StretchOf_Post (z0 : List VGridTurn) (w : World) (e : Ending) (w' : World) : Prop :=
  e = .returned (.tuple #[.int .i64 (StretchOf_0 z0), .int .i64 (StretchOf_1 z0), .int .i64 (StretchOf_2 z0), .bool (StretchOf_3 z0)]) ∧ Below w.heap.size w w'
end Go.Proofs.Ytghgipadogdfiaa
