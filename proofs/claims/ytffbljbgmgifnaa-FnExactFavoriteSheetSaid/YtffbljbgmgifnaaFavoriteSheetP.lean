/- What FavoriteSheet leaves, by its results. (made by genlaw.py) -/
import Derived.Test.YtffbljbgmgifnaaLo
namespace Go.Proofs.Ytffbljbgmgifnaa
open Go.RowKit
def FavoriteSheet_Post (z0 : List VLoan) (w : World) (e : Ending) (w' : World) : Prop :=
  e = .returned (.tuple #[.int .i64 (FavoriteSheet_0 z0), .bool (FavoriteSheet_1 z0)]) ∧ Below w.heap.size w w'
end Go.Proofs.Ytffbljbgmgifnaa
