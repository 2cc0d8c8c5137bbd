/- A reader read from a text: both sides of the law. -/
import Derived.Test.YtofgpiikhifiaabDoorRs
namespace Go.Proofs.YtofgpiikhifiaabDoor.fnExactParseReader
open Go.RowKit Go.Proofs.YtofgpiikhifiaabDoor

theorem specParseReader_any (s : ByteArray) (w : World) (hs : s.size ≤ 1048576) : Calls Tryd.prog 9 #[.string s] w (ParseReader_Post s w) := Go.Proofs.YtofgpiikhifiaabDoor.specParseReader_any s w hs
theorem implParseReader_any (s : ByteArray) (w : World) (hs : s.size ≤ 1048576) (h : TabPow w ∧ ∃ x : Int, w.cell? ⟨1, 0, none⟩ = some (.int .i64 x)) : Calls Tryd.prog 10 #[.string s] w (ParseReader_Post s w) := by
  obtain ⟨ht, x, hx⟩ := h
  exact Go.Proofs.YtofgpiikhifiaabDoor.implParseReader_any s x w hs ht hx
end Go.Proofs.YtofgpiikhifiaabDoor.fnExactParseReader
