/- What a search for a valid list's element leaves; words on searches. -/
import Derived.Test.YtidaoijpbdljbabDoorSw
import Derived.Test.YtidaoijpbdljbabDoorWh
namespace Go.Proofs.YtidaoijpbdljbabDoor
open Go.RowKit
/-- The place of the first element that fits, where the list is valid, and whether there is one. -/
def FoundBy {α : Type} (q : Bool) (f : α → Bool) (xs : List α) (w : World) (e : Ending) (w' : World) : Prop :=
  ∃ z : Int, e = .returned (.tuple #[.int .i64 z, .bool (q && decide (0 ≤ firstOf f xs))]) ∧ (q = true → z = firstOf f xs) ∧ Below w.heap.size w w'
theorem FoundBy.bad {α : Type} {q : Bool} {f : α → Bool} {xs : List α} {w w' : World} {e : Ending} (h : FoundBy q f xs w e w') (hq : q = false) : ∃ z : Int, e = .returned (.tuple #[.int .i64 z, .bool false]) ∧ Below w.heap.size w w' := by
  obtain ⟨z, rfl, _, hb⟩ := h
  exact ⟨z, by rw [hq]; rfl, hb⟩
theorem FoundBy.none {α : Type} {q : Bool} {f : α → Bool} {xs : List α} {w w' : World} {e : Ending} (h : FoundBy q f xs w e w') (hn : firstOf f xs = -1) : ∃ z : Int, e = .returned (.tuple #[.int .i64 z, .bool false]) ∧ Below w.heap.size w w' := by
  obtain ⟨z, rfl, _, hb⟩ := h
  exact ⟨z, by rw [hn]; simp, hb⟩
theorem FoundBy.some {α : Type} {q : Bool} {f : α → Bool} {xs : List α} {w w' : World} {e : Ending} {i : Nat} (h : FoundBy q f xs w e w') (hq : q = true) (hn : firstOf f xs = (i : Int)) : e = .returned (.tuple #[.int .i64 (i : Int), .bool true]) ∧ Below w.heap.size w w' := by
  obtain ⟨z, rfl, hz, hb⟩ := h
  rw [hz hq, hn, hq, decide_eq_true (by omega)]
  exact ⟨rfl, hb⟩
theorem firstOf_any {α : Type} (f : α → Bool) (xs : List α) : decide (0 ≤ firstOf f xs) = xs.any f := by
  rcases firstOf_cases f xs with ⟨h1, h2⟩ | ⟨i, s, h1, h2, h3, _⟩
  · rw [h1, show xs.any f = false from by rw [List.any_eq_false]; intro x hx; simp [h2 x hx]]; rfl
  · rw [h1, show xs.any f = true from List.any_eq_true.2 ⟨s, List.mem_of_getElem? h2, h3⟩, decide_eq_true (by omega)]
end Go.Proofs.YtidaoijpbdljbabDoor
