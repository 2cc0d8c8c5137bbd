/- What PitsOf leaves, by its results. (made by genlaw2.py) -/
import Derived.Test.YtodjgeffkfbpiaaWd
namespace Go.Proofs.Ytodjgeffkfbpiaa
open Go.RowKit
def PitsOf_Post (z0 : List VIntS) (w : World) (e : Ending) (w' : World) : Prop :=
  ∃ v0 : Value, e = .returned (.tuple #[v0, .bool (PitsOf_1 z0)]) ∧ OwnIntA2S w.heap.size w'.heap.size w' v0 (PitsOf_0 z0) ∧ Below w.heap.size w w'
end Go.Proofs.Ytodjgeffkfbpiaa
