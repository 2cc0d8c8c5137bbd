/- What IsZone leaves, by its results. (made by genlaw.py) -/
import Derived.Test.YtidaoijpbdljbabZd
namespace Go.Proofs.Ytidaoijpbdljbab
open Go.RowKit
def IsZone_Post (z0 : VZone) (w : World) (e : Ending) (w' : World) : Prop :=
  e = .returned (.bool (IsZone_0 z0)) ∧ Below w.heap.size w w'
end Go.Proofs.Ytidaoijpbdljbab
