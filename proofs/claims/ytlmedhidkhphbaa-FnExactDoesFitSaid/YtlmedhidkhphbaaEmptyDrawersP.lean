/- What EmptyDrawers leaves, by its results. (made by genlaw2.py) -/
import Derived.Test.YtlmedhidkhphbaaFd
namespace Go.Proofs.Ytlmedhidkhphbaa
open Go.RowKit
def EmptyDrawers_Post (z0 : List VFlat) (z1 : List VDrawer) (w : World) (e : Ending) (w' : World) : Prop :=
  ∃ v0 : Value, e = .returned (.tuple #[v0, .bool (EmptyDrawers_1 z0 z1)]) ∧ OwnIntS w.heap.size w'.heap.size w' v0 (EmptyDrawers_0 z0 z1) ∧ Below w.heap.size w w'
end Go.Proofs.Ytlmedhidkhphbaa
