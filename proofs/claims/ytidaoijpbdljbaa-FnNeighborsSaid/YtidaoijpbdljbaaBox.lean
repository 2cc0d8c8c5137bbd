/- A struct of five integers in a block of its own, all of it known: what stores make of it, and of what stands beside it. -/
import Derived.Test.YtidaoijpbdljbaaShs
import Derived.Test.YtidaoijpbdljbaaReg
import Derived.Laws.IdiomRangeMap
import Derived.Laws.AppendOwn
namespace Go.Proofs.Ytidaoijpbdljbaa
open Go.RowKit

/-- Block b holds the sheet s, all of it, and may be written. -/
def HB (w : World) (b : Nat) (s : Sh) : Prop := w.heap[b]? = some (.cells #[.int .i64 s.id, .int .i64 s.row, .int .i64 s.col, .int .i64 s.scale, .int .i64 s.year] 35 (0, 0))
theorem HB.lt {w : World} {b : Nat} {s : Sh} (h : HB w b s) : b < w.heap.size := (Array.getElem?_eq_some_iff.1 h).1
theorem HB.new (w : World) (s : Sh) : HB (w.alloc (.cells #[.int .i64 s.id, .int .i64 s.row, .int .i64 s.col, .int .i64 s.scale, .int .i64 s.year] 35)) w.heap.size s := heap_alloc_new w _
theorem HB.below {w w' : World} {b : Nat} {s : Sh} (h : HB w b s) (hb : Below w.heap.size w w') : HB w' b s := (hb.block b h.lt).trans h
theorem HB.drew {w : World} {b : Nat} {s : Sh} (h : HB w b s) : HB w.drew b s := h
theorem HB.other {w : World} {b : Nat} {s : Sh} (h : HB w b s) {a : Addr} (hne : b ≠ a.block) (u : Value) : HB (w.setCell a u) b s := (heap_setCell_other w a b u hne).trans h
theorem HB.other1 {w : World} {b b' j : Nat} {s : Sh} (h : HB w b s) (hne : b ≠ b') (u : Value) : HB (w.setCell ⟨b', j, none⟩ u) b s := h.other hne u
theorem HB.cells {w : World} {b : Nat} {s : Sh} (h : HB w b s) : w.cell? ⟨b, 0, none⟩ = some (.int .i64 s.id) ∧ w.cell? ⟨b, 1, none⟩ = some (.int .i64 s.row) ∧ w.cell? ⟨b, 2, none⟩ = some (.int .i64 s.col) ∧ w.cell? ⟨b, 3, none⟩ = some (.int .i64 s.scale) ∧ w.cell? ⟨b, 4, none⟩ = some (.int .i64 s.year) := by
  unfold HB at h
  refine ⟨?_, ?_, ?_, ?_, ?_⟩ <;> simp [World.cell?, h]
theorem HB.free {w : World} {b : Nat} {s : Sh} (h : HB w b s) (j : Nat) : w.frozen? ⟨b, j, none⟩ = false := by
  unfold HB at h
  simp [World.frozen?, h]
theorem HB.other2 {w : World} {b b' : Nat} {s : Sh} (h : HB w b s) (hne : b ≠ b') (u v : Value) : HB ((w.setCell ⟨b', 1, none⟩ u).setCell ⟨b', 2, none⟩ v) b s := (h.other1 hne u).other1 hne v
theorem below_set2 {B : Nat} {w w' : World} (h : Below B w w') {b : Nat} (hb : B ≤ b) (x1 x2 : Value) : Below B w ((w'.setCell ⟨b, 1, none⟩ x1).setCell ⟨b, 2, none⟩ x2) :=
  (h.setCell (p := ⟨b, 1, none⟩) hb _).setCell (p := ⟨b, 2, none⟩) hb _
theorem HB.set1 {w : World} {b : Nat} {s : Sh} (h : HB w b s) (v : Int) : HB (w.setCell ⟨b, 1, none⟩ (.int .i64 v)) b ⟨s.id, v, s.col, s.scale, s.year⟩ := heap_setCell_same w b 1 _ _ _ h
theorem HB.set2 {w : World} {b : Nat} {s : Sh} (h : HB w b s) (v : Int) : HB (w.setCell ⟨b, 2, none⟩ (.int .i64 v)) b ⟨s.id, s.row, v, s.scale, s.year⟩ := heap_setCell_same w b 2 _ _ _ h
theorem HB.set12 {w : World} {b : Nat} {r0 lo le r3 r4 : Int} (h : HB w b ⟨r0, lo, le, r3, r4⟩) (u v : Int) : HB ((w.setCell ⟨b, 1, none⟩ (.int .i64 u)).setCell ⟨b, 2, none⟩ (.int .i64 v)) b ⟨r0, u, v, r3, r4⟩ := (h.set1 u).set2 v
theorem HB.set5 {w : World} {b : Nat} {s : Sh} (h : HB w b s) (t : Sh) : HB (((((w.setCell ⟨b, 0, none⟩ (.int .i64 t.id)).setCell ⟨b, 1, none⟩ (.int .i64 t.row)).setCell ⟨b, 2, none⟩ (.int .i64 t.col)).setCell ⟨b, 3, none⟩ (.int .i64 t.scale)).setCell ⟨b, 4, none⟩ (.int .i64 t.year)) b t :=
  heap_setCell_same _ b 4 _ _ _ (heap_setCell_same _ b 3 _ _ _ (heap_setCell_same _ b 2 _ _ _ (heap_setCell_same _ b 1 _ _ _ (heap_setCell_same w b 0 _ _ _ h))))
theorem HB.other5 {w : World} {b b' : Nat} {s : Sh} (h : HB w b s) (hne : b ≠ b') (x0 x1 x2 x3 x4 : Value) : HB (((((w.setCell ⟨b', 0, none⟩ x0).setCell ⟨b', 1, none⟩ x1).setCell ⟨b', 2, none⟩ x2).setCell ⟨b', 3, none⟩ x3).setCell ⟨b', 4, none⟩ x4) b s :=
  ((((h.other hne _).other hne _).other hne _).other hne _).other hne _
theorem below_set5 {B : Nat} {w w' : World} (h : Below B w w') {b : Nat} (hb : B ≤ b) (x0 x1 x2 x3 x4 : Value) : Below B w (((((w'.setCell ⟨b, 0, none⟩ x0).setCell ⟨b, 1, none⟩ x1).setCell ⟨b, 2, none⟩ x2).setCell ⟨b, 3, none⟩ x3).setCell ⟨b, 4, none⟩ x4) :=
  ((((h.setCell (p := ⟨b, 0, none⟩) hb _).setCell (p := ⟨b, 1, none⟩) hb _).setCell (p := ⟨b, 2, none⟩) hb _).setCell (p := ⟨b, 3, none⟩) hb _).setCell (p := ⟨b, 4, none⟩) hb _
theorem HB.set3 {w : World} {b : Nat} {s : Sh} (h : HB w b s) (v : Int) : HB (w.setCell ⟨b, 3, none⟩ (.int .i64 v)) b ⟨s.id, s.row, s.col, v, s.year⟩ := heap_setCell_same w b 3 _ _ _ h
theorem HB.set4 {w : World} {b : Nat} {s : Sh} (h : HB w b s) (v : Int) : HB (w.setCell ⟨b, 4, none⟩ (.int .i64 v)) b ⟨s.id, s.row, s.col, s.scale, v⟩ := heap_setCell_same w b 4 _ _ _ h
theorem HB.grown {w w' : World} {b : Nat} {s : Sh} {row : Option Nat} (h : HB w b s) (hg : w.grownBy w' row) (hne : some b ≠ row) : HB w' b s := (hg.block b h.lt hne).trans h
theorem HB.alloc {w : World} {b : Nat} {s : Sh} (h : HB w b s) (o : Obj) : HB (w.alloc o) b s := (Below.heap_alloc w o b h.lt).trans h
theorem HB.new' (w : World) (s : Sh) (B : Nat) (hB : w.heap.size = B) : HB (w.alloc (.cells #[.int .i64 s.id, .int .i64 s.row, .int .i64 s.col, .int .i64 s.scale, .int .i64 s.year] 35)) B s := hB ▸ HB.new w s
theorem grow_set {w w' : World} {row : Option Nat} (h : w.grownBy w' row) {p : Addr} (hp : w.heap.size ≤ p.block) (v : Value) : w.grownBy (w'.setCell p v) row :=
  ⟨h.os, h.tape, h.output, by rw [World.size_setCell]; exact h.size, fun k hk hr => (heap_setCell_other w' p k v (by omega)).trans (h.block k hk hr)⟩
theorem grow_set5 {w w' : World} {row : Option Nat} (h : w.grownBy w' row) {b : Nat} (hb : w.heap.size ≤ b) (x0 x1 x2 x3 x4 : Value) : w.grownBy (((((w'.setCell ⟨b, 0, none⟩ x0).setCell ⟨b, 1, none⟩ x1).setCell ⟨b, 2, none⟩ x2).setCell ⟨b, 3, none⟩ x3).setCell ⟨b, 4, none⟩ x4) row :=
  grow_set (p := ⟨b, 4, none⟩) (grow_set (p := ⟨b, 3, none⟩) (grow_set (p := ⟨b, 2, none⟩) (grow_set (p := ⟨b, 1, none⟩) (grow_set (p := ⟨b, 0, none⟩) h hb x0) hb x1) hb x2) hb x3) hb x4
theorem grow_alloc {w w' : World} {row : Option Nat} (h : w.grownBy w' row) (o : Obj) : w.grownBy (w'.alloc o) row := grown_trans h (grown_below ((Below.refl _ _).alloc (Nat.le_refl _) o) row)
/-- A write into a row that is not older than w leaves what w holds. -/
theorem grown_own {w w1 w2 : World} {r row : Option Nat} (h : w.grownBy w1 r) (k : w1.grownBy w2 row) (hr : ∀ j, row = some j → w.heap.size ≤ j) : w.grownBy w2 r :=
  ⟨k.os.trans h.os, k.tape.trans h.tape, k.output.trans h.output, Nat.le_trans h.size k.size, fun j hj hne => (k.block j (Nat.lt_of_lt_of_le hj h.size) (fun e => by have := hr j e.symm; omega)).trans (h.block j hj hne)⟩
theorem block_set5 (w : World) {b k : Nat} (hne : k ≠ b) (x0 x1 x2 x3 x4 : Value) : (((((w.setCell ⟨b, 0, none⟩ x0).setCell ⟨b, 1, none⟩ x1).setCell ⟨b, 2, none⟩ x2).setCell ⟨b, 3, none⟩ x3).setCell ⟨b, 4, none⟩ x4).heap[k]? = w.heap[k]? :=
  (heap_setCell_other _ ⟨b, 4, none⟩ k _ hne).trans ((heap_setCell_other _ ⟨b, 3, none⟩ k _ hne).trans ((heap_setCell_other _ ⟨b, 2, none⟩ k _ hne).trans ((heap_setCell_other _ ⟨b, 1, none⟩ k _ hne).trans (heap_setCell_other _ ⟨b, 0, none⟩ k _ hne))))
end Go.Proofs.Ytidaoijpbdljbaa
