/- What AreFlats leaves, by its results. (made by genlaw2.py) -/
import Derived.Test.YtlmedhidkhphbaaFd
namespace Go.Proofs.Ytlmedhidkhphbaa
open Go.RowKit
def AreFlats_Post (z0 : List VFlat) (w : World) (e : Ending) (w' : World) : Prop :=
  e = .returned (.bool (AreFlats_0 z0)) ∧ Below w.heap.size w w'
end Go.Proofs.Ytlmedhidkhphbaa
