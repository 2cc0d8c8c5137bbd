/- What ReturnSheet leaves, by its results. (made by genlaw.py) -/
import Derived.Test.YtffbljbgmgifnaaLo
namespace Go.Proofs.Ytffbljbgmgifnaa
open Go.RowKit
def ReturnSheet_Post (z0 : List VLoan) (z1 : Int) (z2 : Int) (w : World) (e : Ending) (w' : World) : Prop :=
  ∃ v0 : Value, e = .returned (.tuple #[v0, .int .i64 (ReturnSheet_1 z0 z1 z2), .bool (ReturnSheet_2 z0 z1 z2)]) ∧ w'.ownsRow w.heap.size 101 5 v0 (ReturnSheet_0 z0 z1 z2).length (cellsLoan (ReturnSheet_0 z0 z1 z2)) ∧ Below w.heap.size w w'
end Go.Proofs.Ytffbljbgmgifnaa
