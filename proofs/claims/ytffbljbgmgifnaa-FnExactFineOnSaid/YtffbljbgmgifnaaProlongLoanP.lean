/- What ProlongLoan leaves, by its results. (made by genlaw.py) -/
import Derived.Test.YtffbljbgmgifnaaLo
namespace Go.Proofs.Ytffbljbgmgifnaa
open Go.RowKit
def ProlongLoan_Post (z0 : List VLoan) (z1 : Int) (z2 : Int) (z3 : Int) (w : World) (e : Ending) (w' : World) : Prop :=
  ∃ v0 : Value, e = .returned (.tuple #[v0, .bool (ProlongLoan_1 z0 z1 z2 z3)]) ∧ w'.ownsRow w.heap.size 101 5 v0 (ProlongLoan_0 z0 z1 z2 z3).length (cellsLoan (ProlongLoan_0 z0 z1 z2 z3)) ∧ Below w.heap.size w w'
end Go.Proofs.Ytffbljbgmgifnaa
