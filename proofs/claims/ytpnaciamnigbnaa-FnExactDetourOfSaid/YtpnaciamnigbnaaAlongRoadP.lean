/- What AlongRoad leaves, by its results. (made by genlaw2.py) -/
import Derived.Test.YtpnaciamnigbnaaRo
namespace Go.Proofs.Ytpnaciamnigbnaa
open Go.RowKit
def AlongRoad_Post (z0 : List VCorner) (z1 : Int) (w : World) (e : Ending) (w' : World) : Prop :=
  e = .returned (.tuple #[.int .i64 (AlongRoad_0 z0 z1), .int .i64 (AlongRoad_1 z0 z1), .bool (AlongRoad_2 z0 z1)]) ∧ Below w.heap.size w w'
end Go.Proofs.Ytpnaciamnigbnaa
