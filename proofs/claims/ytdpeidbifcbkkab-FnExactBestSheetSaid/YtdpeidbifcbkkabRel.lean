/- Two sheets: neighbors; the beginning of one on the other. -/
import Derived.Test.YtdpeidbifcbkkabAre3
namespace Go.Proofs.Ytdpeidbifcbkkab
open Go.RowKit

theorem Sh.ok_iff {s : Sh} : s.ok = true ↔ (1 ≤ s.id ∧ s.id ≤ 999) ∧ (0 ≤ s.row ∧ s.row ≤ 99) ∧ (0 ≤ s.col ∧ s.col ≤ 99) ∧ (10 ≤ s.scale ∧ s.scale ≤ 500) ∧ (1500 ≤ s.year ∧ s.year ≤ 2100) := by
  unfold Sh.ok; simp only [Bool.and_eq_true, inB_iff]
def nearB (a b : Sh) : Bool := a.scale == b.scale && (inB (a.row - b.row) (-1) 1 && inB (a.col - b.col) (-1) 1)
def nbB (a b : Sh) : Bool := a.id != b.id && nearB a b
def ovB (s o : Sh) : Bool := decide (s.scale < o.scale) && (inB (s.row * s.scale - o.row * o.scale) 0 (o.scale - 1) && inB (s.col * s.scale - o.col * o.scale) 0 (o.scale - 1))
theorem mul_bd {r s : Int} (h1 : 0 ≤ r) (h2 : r ≤ 99) (h3 : 10 ≤ s) (h4 : s ≤ 500) : 0 ≤ r * s ∧ r * s ≤ 49500 :=
  ⟨Int.mul_nonneg h1 (by omega), Int.le_trans (Int.mul_le_mul h2 h4 (by omega) (by omega)) (by omega)⟩
theorem bel_alloc2 (w : World) (o o' : Obj) : Below w.heap.size w ((w.alloc o).alloc o') := Below.then' (bel_alloc1 _ _) (bel_alloc1 _ _)
theorem bel_alloc3 (w : World) (o o' o'' : Obj) : Below w.heap.size w (((w.alloc o).alloc o').alloc o'') := Below.then' (bel_alloc2 _ _ _) (bel_alloc1 _ _)
theorem wrapSub {a b : Int} (h0 : 0 ≤ a) (h1 : a ≤ 1000000) (h2 : 0 ≤ b) (h3 : b ≤ 1000000) : IntKind.i64.wrap (a - b) = a - b := IntWalk.i64_in _ (by omega)



end Go.Proofs.Ytdpeidbifcbkkab
