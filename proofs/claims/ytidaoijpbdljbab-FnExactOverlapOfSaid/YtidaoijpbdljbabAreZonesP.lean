/- What AreZones leaves, by its results. (made by genlaw.py) -/
import Derived.Test.YtidaoijpbdljbabZd
namespace Go.Proofs.Ytidaoijpbdljbab
open Go.RowKit
def AreZones_Post (z0 : List VZone) (w : World) (e : Ending) (w' : World) : Prop :=
  e = .returned (.bool (AreZones_0 z0)) ∧ Below w.heap.size w w'
end Go.Proofs.Ytidaoijpbdljbab
