/- What AreLoans leaves, by its results. (made by genlaw.py) -/
import Derived.Test.YtffbljbgmgifnaaDoorLo
namespace Go.Proofs.YtffbljbgmgifnaaDoor
open Go.RowKit
def AreLoans_Post (z0 : List VLoan) (w : World) (e : Ending) (w' : World) : Prop :=
  e = .returned (.bool (AreLoans_0 z0)) ∧ Below w.heap.size w w'
end Go.Proofs.YtffbljbgmgifnaaDoor
