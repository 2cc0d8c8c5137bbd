/- What GramsIn leaves, by its results. (made by genlaw2.py) -/
import Derived.Test.YtlmedhidkhphbaaFd
namespace Go.Proofs.Ytlmedhidkhphbaa
open Go.RowKit
def GramsIn_Post (z0 : List VFlat) (z1 : List VDrawer) (z2 : Int) (w : World) (e : Ending) (w' : World) : Prop :=
  e = .returned (.tuple #[.int .i64 (GramsIn_0 z0 z1 z2), .bool (GramsIn_1 z0 z1 z2)]) ∧ Below w.heap.size w w'
end Go.Proofs.Ytlmedhidkhphbaa
