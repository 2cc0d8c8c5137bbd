/- What TurnBack leaves, by its results. (made by genlaw.py) -/
import Derived.Test.YtghgipadogdfiaaPt3
namespace Go.Proofs.Ytghgipadogdfiaa
open Go.RowKit
def TurnBack_Post (z0 : List VGridTurn) (z1 : Int) (z2 : Int) (w : World) (e : Ending) (w' : World) : Prop :=
  e = .returned (.tuple #[.agg #[.int .i64 (TurnBack_0 z0 z1 z2).X, .int .i64 (TurnBack_0 z0 z1 z2).Y, .int .i64 (TurnBack_0 z0 z1 z2).Den], .bool (TurnBack_1 z0 z1 z2)]) ∧ Below w.heap.size w w'
end Go.Proofs.Ytghgipadogdfiaa
