/- What CutZone leaves, by its results. (made by genlaw.py) -/
import Derived.Test.YtmjdldeoplopkaaZd
namespace Go.Proofs.Ytmjdldeoplopkaa
open Go.RowKit
def CutZone_Post (z0 : VZone) (z1 : VZone) (w : World) (e : Ending) (w' : World) : Prop :=
  ∃ v0 : Value, e = .returned (.tuple #[v0, .bool (CutZone_1 z0 z1)]) ∧ w'.ownsRow w.heap.size 36 4 v0 (CutZone_0 z0 z1).length (cellsIntA4 (CutZone_0 z0 z1)) ∧ Below w.heap.size w w'
end Go.Proofs.Ytmjdldeoplopkaa
