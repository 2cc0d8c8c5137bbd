/- What IsRelief leaves, by its results. (made by genlaw2.py) -/
import Derived.Test.YtodjgeffkfbpiaaWd
namespace Go.Proofs.Ytodjgeffkfbpiaa
open Go.RowKit
def IsRelief_Post (z0 : List VIntS) (w : World) (e : Ending) (w' : World) : Prop :=
  e = .returned (.bool (IsRelief_0 z0)) ∧ Below w.heap.size w w'
end Go.Proofs.Ytodjgeffkfbpiaa
