/- What CrossingParts leaves, by its results. (made by genlaw2.py) -/
import Derived.Test.YtpnaciamnigbnaaRo
namespace Go.Proofs.Ytpnaciamnigbnaa
open Go.RowKit
def CrossingParts_Post (z0 : List VCorner) (z1 : List VCorner) (w : World) (e : Ending) (w' : World) : Prop :=
  ∃ v0 : Value, e = .returned (.tuple #[v0, .bool (CrossingParts_1 z0 z1)]) ∧ OwnIntA2S w.heap.size w'.heap.size w' v0 (CrossingParts_0 z0 z1) ∧ Below w.heap.size w w'
end Go.Proofs.Ytpnaciamnigbnaa
