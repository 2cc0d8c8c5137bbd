/- strings.Clone, by the shelf's contract. -/
import Derived.Test.YtidaoijpbdljbabReg
import Derived.Test.YtidaoijpbdljbabShelf
namespace Go.Proofs.Ytidaoijpbdljbab
open Go.RowKit

theorem str_clone (s : ByteArray) (w : World) (hs : s.size ≤ 1048576) :
    Calls Try.prog 140 #[.string s] w fun e w' => e = .returned (.string s) ∧ Below w.heap.size w w' := by
  go_enter Try.func140, Try.ntmps140
  go_wp2_with (go_at_call 161; refine (Try.stringslite_Clone _ _ (by omega)).mono ?_; rintro e w' ⟨rfl, hb⟩)
  go_ret
  exact ⟨rfl, hb⟩
end Go.Proofs.Ytidaoijpbdljbab
