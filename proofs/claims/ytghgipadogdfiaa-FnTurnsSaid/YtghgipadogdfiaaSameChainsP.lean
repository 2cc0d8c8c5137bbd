/- What SameChains leaves, by its results. (made by genlaw.py) -/
import Derived.Test.YtghgipadogdfiaaPt3
namespace Go.Proofs.Ytghgipadogdfiaa
open Go.RowKit
def SameChains_Post (z0 : List VGridTurn) (z1 : List VGridTurn) (w : World) (e : Ending) (w' : World) : Prop :=
  e = .returned (.tuple #[.bool (SameChains_0 z0 z1), .bool (SameChains_1 z0 z1)]) ∧ Below w.heap.size w w'
end Go.Proofs.Ytghgipadogdfiaa
