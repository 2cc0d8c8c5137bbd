/- What SpotText leaves, by its results. (made by genlaw.py) -/
import Derived.Test.YtghgipadogdfiaaDoorStt
namespace Go.Proofs.YtghgipadogdfiaaDoor
open Go.RowKit
def SpotText_Post (z0 : VSpot) (w : World) (e : Ending) (w' : World) : Prop :=
  e = .returned (.tuple #[.string (SpotText_0 z0), .bool (SpotText_1 z0)]) ∧ Below w.heap.size w w'
end Go.Proofs.YtghgipadogdfiaaDoor
