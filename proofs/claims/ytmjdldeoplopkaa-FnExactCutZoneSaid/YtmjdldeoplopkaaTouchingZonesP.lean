/- What TouchingZones leaves, by its results. (made by genlaw.py) -/
import Derived.Test.YtmjdldeoplopkaaZd
namespace Go.Proofs.Ytmjdldeoplopkaa
open Go.RowKit
def TouchingZones_Post (z0 : List VZone) (w : World) (e : Ending) (w' : World) : Prop :=
  ∃ v0 : Value, e = .returned (.tuple #[v0, .bool (TouchingZones_1 z0)]) ∧ w'.ownsRow w.heap.size 42 2 v0 (TouchingZones_0 z0).length (cellsIntA2 (TouchingZones_0 z0)) ∧ Below w.heap.size w w'
end Go.Proofs.Ytmjdldeoplopkaa
