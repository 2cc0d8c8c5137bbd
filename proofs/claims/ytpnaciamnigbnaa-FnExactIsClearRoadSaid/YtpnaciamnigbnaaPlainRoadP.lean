/- What PlainRoad leaves, by its results. (made by genlaw2.py) -/
import Derived.Test.YtpnaciamnigbnaaRo
namespace Go.Proofs.Ytpnaciamnigbnaa
open Go.RowKit
def PlainRoad_Post (z0 : List VCorner) (w : World) (e : Ending) (w' : World) : Prop :=
  ∃ v0 : Value, e = .returned (.tuple #[v0, .bool (PlainRoad_1 z0)]) ∧ OwnCornerS w.heap.size w'.heap.size w' v0 (PlainRoad_0 z0) ∧ Below w.heap.size w w'
end Go.Proofs.Ytpnaciamnigbnaa
