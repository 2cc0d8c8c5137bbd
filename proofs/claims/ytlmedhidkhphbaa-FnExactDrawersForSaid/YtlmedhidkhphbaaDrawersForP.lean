/- What DrawersFor leaves, by its results. (made by genlaw2.py) -/
import Derived.Test.YtlmedhidkhphbaaM9
namespace Go.Proofs.Ytlmedhidkhphbaa
open Go.RowKit
def DrawersFor_Post (z0 : List VFlat) (z1 : List VDrawer) (z2 : Int) (w : World) (e : Ending) (w' : World) : Prop :=
  ∃ v0 : Value, e = .returned (.tuple #[v0, .bool (DrawersFor_1 z0 z1 z2)]) ∧ OwnIntS w.heap.size w'.heap.size w' v0 (DrawersFor_0 z0 z1 z2) ∧ Below w.heap.size w w'
end Go.Proofs.Ytlmedhidkhphbaa
