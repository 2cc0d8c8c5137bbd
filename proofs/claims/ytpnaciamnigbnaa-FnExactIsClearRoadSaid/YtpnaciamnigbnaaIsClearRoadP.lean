/- What IsClearRoad leaves, by its results. (made by genlaw2.py) -/
import Derived.Test.YtpnaciamnigbnaaRo
namespace Go.Proofs.Ytpnaciamnigbnaa
open Go.RowKit
def IsClearRoad_Post (z0 : List VCorner) (w : World) (e : Ending) (w' : World) : Prop :=
  e = .returned (.tuple #[.bool (IsClearRoad_0 z0), .bool (IsClearRoad_1 z0)]) ∧ Below w.heap.size w w'
end Go.Proofs.Ytpnaciamnigbnaa
