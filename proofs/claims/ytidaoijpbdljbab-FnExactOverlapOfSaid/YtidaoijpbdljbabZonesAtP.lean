/- What ZonesAt leaves, by its results. (made by genlaw.py) -/
import Derived.Test.YtidaoijpbdljbabZd
namespace Go.Proofs.Ytidaoijpbdljbab
open Go.RowKit
def ZonesAt_Post (z0 : List VZone) (z1 : Int) (z2 : Int) (w : World) (e : Ending) (w' : World) : Prop :=
  ∃ v0 : Value, e = .returned (.tuple #[v0, .bool (ZonesAt_1 z0 z1 z2)]) ∧ w'.ownsRow w.heap.size 3 1 v0 (ZonesAt_0 z0 z1 z2).length (intCells (ZonesAt_0 z0 z1 z2)) ∧ Below w.heap.size w w'
end Go.Proofs.Ytidaoijpbdljbab
