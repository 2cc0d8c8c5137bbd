/- Words, days and readers in the program: isWord, isDay, IsReader, AreReaders. -/
import Derived.Test.YtffbljbgmgifnaaDoorRd2
import Derived.Test.YtffbljbgmgifnaaDoorRdD
namespace Go.Proofs.YtffbljbgmgifnaaDoor
open Go.RowKit

/-- One number in a range, the list of one just made. -/
theorem areIn1 (lo hi x : Int) (t : TypeId) (w : World) (B : Nat) (hB : w.heap.size = B) :
    Calls Tryd.prog 15 #[.int .i64 lo, .int .i64 hi, .slice (some ⟨B, 0, none⟩) 1 1] (w.alloc (.cells #[.int .i64 x] t)) fun e w' => e = .returned (.bool (inB x lo hi)) ∧ w.alloc (.cells #[.int .i64 x] t) = w' :=
  (areInRange_any B 1 1 [x] lo hi _ rfl (by omega) (lit1 w x t B hB)).mono fun e w' h => ⟨by rw [h.1]; simp, h.2⟩
theorem isDay_any (d : Int) (w : World) :
    Calls Tryd.prog 14 #[.int .i64 d] w fun e w' => e = .returned (.bool (dayB d)) ∧ Below w.heap.size w w' := by
  go_enter Tryd.func14, Tryd.ntmps14
  go_wp2_with fail
  refine (areIn1 _ _ _ _ _ _ (by simp)).mono ?_
  rintro e w' ⟨rfl, rfl⟩
  go_wp2
  go_ret
  exact ⟨rfl, bel_al1 _ _⟩
theorem wordB_no {s : ByteArray} {k : Nat} (hlt : k < s.size) (h : lowB s[k] = false) : wordB s = false := by
  have h : s.data.toList.all lowB = false := by
    rw [List.all_eq_false]
    exact ⟨s[k], List.mem_of_getElem? (i := k) (by simp [hlt]; rfl), by simp [h]⟩
  unfold wordB; rw [h]; rfl
end Go.Proofs.YtffbljbgmgifnaaDoor
