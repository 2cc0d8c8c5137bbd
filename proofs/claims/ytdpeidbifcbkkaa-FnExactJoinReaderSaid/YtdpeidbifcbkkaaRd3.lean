/- Readers: the list in which one is replaced, and what the model's functions give over it. -/
import Derived.Test.YtdpeidbifcbkkaaRdP
import Derived.Test.YtdpeidbifcbkkaaAppL
namespace Go.Proofs.Ytdpeidbifcbkkaa
open Go.RowKit

theorem rd_sized_small {xs : List VReader} (h : ∀ s ∈ xs, s.sized) : ∀ s ∈ xs, s.small := fun s hs => sized_smallReader s (h s hs)
/-- A list of readers and whether it is valid. -/
def RdPair (p : List VReader × Bool) (w : World) (e : Ending) (w' : World) : Prop := ∃ v, e = .returned (.tuple #[v, .bool p.2]) ∧ w'.ownsRow w.heap.size 89 5 v p.1.length (cellsReader p.1) ∧ Below w.heap.size w w'
theorem made_own (w : World) (base : Nat) (h : base ≤ w.heap.size) : (w.alloc (.cells #[] 89)).ownsRow base 89 5 (.slice (some ⟨w.heap.size, 0, none⟩) 0 0) ([] : List VReader).length (cellsReader []) :=
  World.ownsRow_made (base := base) (e := 89) (size := 5) w #[] 0 h (Nat.zero_le _) rfl
theorem readers_one (xs : List VReader) : ∀ u ∈ cellsReader xs, u.oneCell' = true := by
  intro u hu
  obtain ⟨s, _, hs⟩ := List.mem_flatMap.1 hu
  exact s.vals_one u hs

end Go.Proofs.Ytdpeidbifcbkkaa
