/- What DetourOf leaves, by its results. (made by genlaw2.py) -/
import Derived.Test.YtpnaciamnigbnaaRo
namespace Go.Proofs.Ytpnaciamnigbnaa
open Go.RowKit
def DetourOf_Post (z0 : List VCorner) (w : World) (e : Ending) (w' : World) : Prop :=
  e = .returned (.tuple #[.int .i64 (DetourOf_0 z0), .int .i64 (DetourOf_1 z0), .bool (DetourOf_2 z0)]) ∧ Below w.heap.size w w'
end Go.Proofs.Ytpnaciamnigbnaa
