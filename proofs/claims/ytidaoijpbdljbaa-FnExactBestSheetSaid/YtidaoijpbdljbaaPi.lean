/- Turns and chains in the program and in the model: what is valid. -/
import Derived.Test.YtidaoijpbdljbaaPt2
import Derived.Test.YtidaoijpbdljbaaGcd
import Derived.Test.YtidaoijpbdljbaaSheet2
import Derived.Test.YtidaoijpbdljbaaShs
namespace Go.Proofs.Ytidaoijpbdljbaa
open Go.RowKit

theorem areIn1 (lo hi x : Int) (t : TypeId) (w : World) (B : Nat) (hB : w.heap.size = B) :
    Calls Try.prog 66 #[.int .i64 lo, .int .i64 hi, .slice (some ⟨B, 0, none⟩) 1 1] (w.alloc (.cells #[.int .i64 x] t)) fun e w' => e = .returned (.bool (inB x lo hi)) ∧ w.alloc (.cells #[.int .i64 x] t) = w' :=
  (areInRange_any B 1 1 [x] lo hi _ rfl (by omega) (lit1 w x t B hB)).mono fun e w' h => ⟨by rw [h.1]; simp, h.2⟩
theorem areIn2 (lo hi x y : Int) (t : TypeId) (w : World) (B : Nat) (hB : w.heap.size = B) :
    Calls Try.prog 66 #[.int .i64 lo, .int .i64 hi, .slice (some ⟨B, 0, none⟩) 2 2] (w.alloc (.cells #[.int .i64 x, .int .i64 y] t)) fun e w' => e = .returned (.bool (inB x lo hi && inB y lo hi)) ∧ w.alloc (.cells #[.int .i64 x, .int .i64 y] t) = w' :=
  (areInRange_any B 2 2 [x, y] lo hi _ rfl (by omega) (lit2 w x y t B hB)).mono fun e w' h => ⟨by rw [h.1]; simp, h.2⟩
def BoolPost (q : Bool) (w : World) (e : Ending) (w' : World) : Prop := e = .returned (.bool q) ∧ Below w.heap.size w w'

set_option maxHeartbeats 400000 in
theorem l4Place_any (x y : Int) (w : World) :
    Calls Try.prog 78 #[.int .i64 x, .int .i64 y] w fun e w' => e = .returned (.bool (placeB x y)) ∧ w = w' := by
  go_enter Try.func78, Try.ntmps78
  go_wp2_with (go_at_call 64; refine (l1In_any _ _ _ _).mono ?_; rintro e w' ⟨rfl, rfl⟩)
  all_goals go_ret
  all_goals exact ⟨ret_bool (by simp [placeB, *]), rfl⟩
theorem isPlace_any (x y : Int) (w : World) :
    Calls Try.prog 98 #[.int .i64 x, .int .i64 y] w (BoolPost (placeB x y) w) := by
  go_enter Try.func98, Try.ntmps98
  go_wp2_with fail
  refine (areIn2 _ _ _ _ _ _ _ rfl).mono ?_
  rintro e w' ⟨rfl, rfl⟩
  go_wp2
  go_ret
  exact ⟨rfl, bel_al1 _ _⟩

theorem all_ok_snoc (xs : List VGridTurn) (k : Nat) (t : VGridTurn) (h : xs[k]? = some t) : (xs.take (k + 1)).all VGridTurn.ok = ((xs.take k).all VGridTurn.ok && t.ok) := by
  rw [List.take_add_one, h]; simp
theorem chOk_no {xs : List VGridTurn} {k : Nat} {t : VGridTurn} (h : xs[k]? = some t) (ht : t.ok = false) : chOk xs = false := by
  have : xs.all VGridTurn.ok = false := by rw [List.all_eq_false]; exact ⟨t, List.mem_of_getElem? h, by simp [ht]⟩
  unfold chOk; rw [this]; rfl
theorem turn_at {xs : List VGridTurn} {len k : Nat} (hl : Hid (len = xs.length)) (hk : k < len) : ∃ s, xs[k]? = some s := ⟨xs[k]'(by have := hl.out; omega), List.getElem?_eq_getElem _⟩
end Go.Proofs.Ytidaoijpbdljbaa
