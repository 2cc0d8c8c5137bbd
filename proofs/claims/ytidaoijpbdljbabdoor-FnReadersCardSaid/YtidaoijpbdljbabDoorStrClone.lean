/- strings.Clone, by the shelf's contract. -/
import Derived.Test.YtidaoijpbdljbabDoorReg
import Derived.Test.YtidaoijpbdljbabDoorShelf
namespace Go.Proofs.YtidaoijpbdljbabDoor
open Go.RowKit

theorem str_clone (s : ByteArray) (w : World) (hs : s.size ≤ 1048576) :
    Calls Tryd.prog 60 #[.string s] w fun e w' => e = .returned (.string s) ∧ Below w.heap.size w w' := by
  go_enter Tryd.func60, Tryd.ntmps60
  go_wp2_with (go_at_call 66; refine (Tryd.stringslite_Clone _ _ (by omega)).mono ?_; rintro e w' ⟨rfl, hb⟩)
  go_ret
  exact ⟨rfl, hb⟩
end Go.Proofs.YtidaoijpbdljbabDoor
