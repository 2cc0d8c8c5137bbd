/- What PlacesApart leaves, by its results. (made by genlaw.py) -/
import Derived.Test.YtghgipadogdfiaaPt3
namespace Go.Proofs.Ytghgipadogdfiaa
open Go.RowKit
def PlacesApart_Post (z0 : Int) (z1 : Int) (z2 : Int) (z3 : Int) (w : World) (e : Ending) (w' : World) : Prop :=
  e = .returned (.tuple #[.int .i64 (PlacesApart_0 z0 z1 z2 z3), .bool (PlacesApart_1 z0 z1 z2 z3)]) ∧ Below w.heap.size w w'
end Go.Proofs.Ytghgipadogdfiaa
