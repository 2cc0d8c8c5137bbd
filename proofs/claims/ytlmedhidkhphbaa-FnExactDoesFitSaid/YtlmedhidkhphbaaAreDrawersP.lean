/- What AreDrawers leaves, by its results. (made by genlaw2.py) -/
import Derived.Test.YtlmedhidkhphbaaFd
namespace Go.Proofs.Ytlmedhidkhphbaa
open Go.RowKit
def AreDrawers_Post (z0 : List VFlat) (z1 : List VDrawer) (w : World) (e : Ending) (w' : World) : Prop :=
  e = .returned (.bool (AreDrawers_0 z0 z1)) ∧ Below w.heap.size w w'
end Go.Proofs.Ytlmedhidkhphbaa
