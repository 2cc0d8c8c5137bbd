/- What IsRoadLine leaves, by its results. (made by genlaw2.py) -/
import Derived.Test.YtpnaciamnigbnaaRo
namespace Go.Proofs.Ytpnaciamnigbnaa
open Go.RowKit
def IsRoadLine_Post (z0 : List VCorner) (w : World) (e : Ending) (w' : World) : Prop :=
  e = .returned (.bool (IsRoadLine_0 z0)) ∧ Below w.heap.size w w'
end Go.Proofs.Ytpnaciamnigbnaa
