/- What OpenLoans leaves, by its results. (made by genlaw.py) -/
import Derived.Test.YtffbljbgmgifnaaLo
namespace Go.Proofs.Ytffbljbgmgifnaa
open Go.RowKit
def OpenLoans_Post (z0 : List VLoan) (z1 : Int) (z2 : Int) (w : World) (e : Ending) (w' : World) : Prop :=
  ∃ v0 : Value, e = .returned (.tuple #[v0, .bool (OpenLoans_1 z0 z1 z2)]) ∧ w'.ownsRow w.heap.size 3 1 v0 (OpenLoans_0 z0 z1 z2).length (intCells (OpenLoans_0 z0 z1 z2)) ∧ Below w.heap.size w w'
end Go.Proofs.Ytffbljbgmgifnaa
