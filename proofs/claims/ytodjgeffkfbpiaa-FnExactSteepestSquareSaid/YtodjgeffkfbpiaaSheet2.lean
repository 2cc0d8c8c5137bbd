/- The laws' own copy of a sheet; whether two are equal. -/
import Derived.Test.YtodjgeffkfbpiaaSheet
namespace Go.Proofs.Ytodjgeffkfbpiaa
open Go.RowKit

/-- A sheet in a block of its own, as the box of a parameter. -/
def BoxAt (w : World) (b : Nat) (s : Sh) : Prop :=
  w.cell? ⟨b, 0, none⟩ = some (.int .i64 s.id) ∧ w.cell? ⟨b, 1, none⟩ = some (.int .i64 s.row) ∧ w.cell? ⟨b, 2, none⟩ = some (.int .i64 s.col) ∧ w.cell? ⟨b, 3, none⟩ = some (.int .i64 s.scale) ∧ w.cell? ⟨b, 4, none⟩ = some (.int .i64 s.year)
theorem boxAt_new (w : World) (t : TypeId) (s : Sh) (B : Nat) (hB : w.heap.size = B) : BoxAt (w.alloc (.cells #[.int .i64 s.id, .int .i64 s.row, .int .i64 s.col, .int .i64 s.scale, .int .i64 s.year] t)) B s := by
  subst hB
  refine ⟨?_, ?_, ?_, ?_, ?_⟩ <;> simp [World.cell?_alloc_new]
theorem BoxAt.lt {w : World} {b : Nat} {s : Sh} (h : BoxAt w b s) : b < w.heap.size := by
  by_cases hb : b < w.heap.size
  · exact hb
  · exfalso
    have := h.1
    rw [show w.cell? ⟨b, 0, none⟩ = none from by simp [World.cell?, Array.getElem?_eq_none (Nat.le_of_not_lt hb)]] at this
    cases this
theorem BoxAt.below {w w' : World} {b : Nat} {s : Sh} (h : BoxAt w b s) (hb : Below w.heap.size w w') : BoxAt w' b s :=
  ⟨(hb.cell (p := ⟨b, 0, none⟩) h.lt).trans h.1, (hb.cell (p := ⟨b, 1, none⟩) h.lt).trans h.2.1, (hb.cell (p := ⟨b, 2, none⟩) h.lt).trans h.2.2.1, (hb.cell (p := ⟨b, 3, none⟩) h.lt).trans h.2.2.2.1, (hb.cell (p := ⟨b, 4, none⟩) h.lt).trans h.2.2.2.2⟩
end Go.Proofs.Ytodjgeffkfbpiaa
