/- Readers: who joins. In the model. -/
import Derived.Test.YtidaoijpbdljbabRd7
namespace Go.Proofs.Ytidaoijpbdljbab
open Go.RowKit

theorem rdJoin_no (xs : List VReader) (nm : ByteArray) (d : Int) (h : areRd xs = false) : rdJoin xs nm d = ([], 0, false) := by unfold rdJoin; rw [h]; rfl
theorem rdJoin_bad (xs : List VReader) (nm : ByteArray) (d : Int) (h : areRd (xs ++ [⟨rdLast xs, nm, d, 1, 0⟩]) = false) : rdJoin xs nm d = ([], 0, false) := by
  unfold rdJoin; rw [h, Bool.and_false]; rfl
theorem rdJoin_yes (xs : List VReader) (nm : ByteArray) (d : Int) (h : areRd xs = true) (h2 : areRd (xs ++ [⟨rdLast xs, nm, d, 1, 0⟩]) = true) : rdJoin xs nm d = (xs ++ [⟨rdLast xs, nm, d, 1, 0⟩], rdLast xs, true) := by
  unfold rdJoin; rw [h, h2]; rfl
end Go.Proofs.Ytidaoijpbdljbab
