/- What LateOn leaves, by its results. (made by genlaw.py) -/
import Derived.Test.YtffbljbgmgifnaaLo
namespace Go.Proofs.Ytffbljbgmgifnaa
open Go.RowKit
def LateOn_Post (z0 : List VLoan) (z1 : Int) (w : World) (e : Ending) (w' : World) : Prop :=
  ∃ v0 : Value, e = .returned (.tuple #[v0, .bool (LateOn_1 z0 z1)]) ∧ w'.ownsRow w.heap.size 3 1 v0 (LateOn_0 z0 z1).length (intCells (LateOn_0 z0 z1)) ∧ Below w.heap.size w w'
end Go.Proofs.Ytffbljbgmgifnaa
