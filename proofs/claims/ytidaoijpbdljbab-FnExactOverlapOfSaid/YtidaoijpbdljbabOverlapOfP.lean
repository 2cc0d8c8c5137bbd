/- What OverlapOf leaves, by its results. (made by genlaw.py) -/
import Derived.Test.YtidaoijpbdljbabZd
namespace Go.Proofs.Ytidaoijpbdljbab
open Go.RowKit
def OverlapOf_Post (z0 : List VZone) (z1 : Int) (z2 : Int) (w : World) (e : Ending) (w' : World) : Prop :=
  e = .returned (.tuple #[.int .i64 (OverlapOf_0 z0 z1 z2), .bool (OverlapOf_1 z0 z1 z2)]) ∧ Below w.heap.size w w'
end Go.Proofs.Ytidaoijpbdljbab
