/- What BendsOf leaves, by its results. (made by genlaw.py) -/
import Derived.Test.YtpnaciamnigbnaaRo
namespace Go.Proofs.Ytpnaciamnigbnaa
open Go.RowKit
def BendsOf_Post (z0 : List VCorner) (w : World) (e : Ending) (w' : World) : Prop :=
  e = .returned (.tuple #[.string (BendsOf_0 z0), .bool (BendsOf_1 z0)]) ∧ Below w.heap.size w w'
end Go.Proofs.Ytpnaciamnigbnaa
