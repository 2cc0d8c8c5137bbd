/- What DaysLent leaves, by its results. (made by genlaw.py) -/
import Derived.Test.YtffbljbgmgifnaaLo
namespace Go.Proofs.Ytffbljbgmgifnaa
open Go.RowKit
def DaysLent_Post (z0 : List VLoan) (z1 : Int) (z2 : Int) (w : World) (e : Ending) (w' : World) : Prop :=
  e = .returned (.tuple #[.int .i64 (DaysLent_0 z0 z1 z2), .bool (DaysLent_1 z0 z1 z2)]) ∧ Below w.heap.size w w'
end Go.Proofs.Ytffbljbgmgifnaa
