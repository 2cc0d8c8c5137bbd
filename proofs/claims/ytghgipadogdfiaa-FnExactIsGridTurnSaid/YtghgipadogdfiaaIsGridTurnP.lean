/- What IsGridTurn leaves, by its results. (made by genlaw.py) -/
import Derived.Test.YtghgipadogdfiaaPt3
namespace Go.Proofs.Ytghgipadogdfiaa
open Go.RowKit
def IsGridTurn_Post (z0 : VGridTurn) (w : World) (e : Ending) (w' : World) : Prop :=
  e = .returned (.bool (IsGridTurn_0 z0)) ∧ Below w.heap.size w w'
end Go.Proofs.Ytghgipadogdfiaa
