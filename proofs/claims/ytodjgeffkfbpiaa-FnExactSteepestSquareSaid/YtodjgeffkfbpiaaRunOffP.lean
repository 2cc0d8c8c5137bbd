/- What RunOff leaves, by its results. (made by genlaw2.py) -/
import Derived.Test.YtodjgeffkfbpiaaWd
namespace Go.Proofs.Ytodjgeffkfbpiaa
open Go.RowKit
def RunOff_Post (z0 : List VIntS) (z1 : Int) (z2 : Int) (w : World) (e : Ending) (w' : World) : Prop :=
  ∃ v0 : Value, e = .returned (.tuple #[v0, .bool (RunOff_1 z0 z1 z2)]) ∧ OwnIntA2S w.heap.size w'.heap.size w' v0 (RunOff_0 z0 z1 z2) ∧ Below w.heap.size w w'
end Go.Proofs.Ytodjgeffkfbpiaa
