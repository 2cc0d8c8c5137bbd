/- Two sheets: neighbors; the beginning of one on the other. -/
import Derived.Test.YtidaoijpbdljbaaAre3
namespace Go.Proofs.Ytidaoijpbdljbaa
open Go.RowKit

theorem Sh.ok_iff {s : Sh} : s.ok = true ↔ (1 ≤ s.id ∧ s.id ≤ 999) ∧ (0 ≤ s.row ∧ s.row ≤ 99) ∧ (0 ≤ s.col ∧ s.col ≤ 99) ∧ (10 ≤ s.scale ∧ s.scale ≤ 500) ∧ (1500 ≤ s.year ∧ s.year ≤ 2100) := by
  unfold Sh.ok; simp only [Bool.and_eq_true, inB_iff]
def nearB (a b : Sh) : Bool := a.scale == b.scale && (inB (a.row - b.row) (-1) 1 && inB (a.col - b.col) (-1) 1)
def nbB (a b : Sh) : Bool := a.id != b.id && nearB a b
def ovB (s o : Sh) : Bool := decide (s.scale < o.scale) && (inB (s.row * s.scale - o.row * o.scale) 0 (o.scale - 1) && inB (s.col * s.scale - o.col * o.scale) 0 (o.scale - 1))
theorem mul_bd {r s : Int} (h1 : 0 ≤ r) (h2 : r ≤ 99) (h3 : 10 ≤ s) (h4 : s ≤ 500) : 0 ≤ r * s ∧ r * s ≤ 49500 :=
  ⟨Int.mul_nonneg h1 (by omega), Int.le_trans (Int.mul_le_mul h2 h4 (by omega) (by omega)) (by omega)⟩
theorem bel_alloc2 (w : World) (o o' : Obj) : Below w.heap.size w ((w.alloc o).alloc o') := Below.then' (bel_alloc1 _ _) (bel_alloc1 _ _)
theorem bel_alloc3 (w : World) (o o' o'' : Obj) : Below w.heap.size w (((w.alloc o).alloc o').alloc o'') := Below.then' (bel_alloc2 _ _ _) (bel_alloc1 _ _)
theorem wrapSub {a b : Int} (h0 : 0 ≤ a) (h1 : a ≤ 1000000) (h2 : 0 ≤ b) (h3 : b ≤ 1000000) : IntKind.i64.wrap (a - b) = a - b := IntWalk.i64_in _ (by omega)

set_option maxHeartbeats 1600000 in
set_option maxRecDepth 100000 in
theorem l2Near_any (a b : Sh) (w : World) (ha : a.ok = true) (hb : b.ok = true) :
    Calls Try.prog 57 #[.agg #[.int .i64 a.id, .int .i64 a.row, .int .i64 a.col, .int .i64 a.scale, .int .i64 a.year], .agg #[.int .i64 b.id, .int .i64 b.row, .int .i64 b.col, .int .i64 b.scale, .int .i64 b.year]] w
      fun e w' => e = .returned (.bool (nearB a b)) ∧ Below w.heap.size w w' := by
  obtain ⟨_, ⟨a1, a2⟩, ⟨a3, a4⟩, _, _⟩ := Sh.ok_iff.1 ha
  obtain ⟨_, ⟨b1, b2⟩, ⟨b3, b4⟩, _, _⟩ := Sh.ok_iff.1 hb
  clear ha hb
  by_cases h1 : a.scale = b.scale
  · have E := Lib.hid h1
    have h2 : (a.scale == b.scale) = true := by simpa using h1
    clear h1
    go_enter Try.func57, Try.ntmps57
    go_wp2_with (go_at_call 64; refine (l1In_any _ _ _ _).mono ?_; rintro e w' ⟨rfl, rfl⟩)
    all_goals go_ret
    all_goals exact ⟨ret_bool (by simp [nearB, *]), bel_alloc2 _ _ _⟩
  · have h2 : (a.scale == b.scale) = false := by simpa using h1
    go_enter Try.func57, Try.ntmps57
    go_wp2
    go_ret
    exact ⟨ret_bool (by simp [nearB, h2]), bel_alloc2 _ _ _⟩

set_option maxHeartbeats 1600000 in
set_option maxRecDepth 100000 in
theorem areNeighbors_any (a b : Sh) (w : World) (ha : a.ok = true) (hb : b.ok = true) :
    Calls Try.prog 54 #[.agg #[.int .i64 a.id, .int .i64 a.row, .int .i64 a.col, .int .i64 a.scale, .int .i64 a.year], .agg #[.int .i64 b.id, .int .i64 b.row, .int .i64 b.col, .int .i64 b.scale, .int .i64 b.year]] w
      fun e w' => e = .returned (.bool (nbB a b)) ∧ Below w.heap.size w w' := by
  obtain ⟨_, ⟨a1, a2⟩, ⟨a3, a4⟩, _, _⟩ := Sh.ok_iff.1 ha
  obtain ⟨_, ⟨b1, b2⟩, ⟨b3, b4⟩, _, _⟩ := Sh.ok_iff.1 hb
  clear ha hb
  by_cases h0 : a.id = b.id
  · have h2 : (a.id != b.id) = false := by simpa using h0
    have E := Lib.hid h2
    clear h0
    go_enter Try.func54, Try.ntmps54
    go_wp2
    go_ret
    exact ⟨ret_bool (by unfold nbB; rw [E.out]; rfl), bel_alloc2 _ _ _⟩
  have h2 : (a.id != b.id) = true := by simpa using h0
  have E := Lib.hid h2
  by_cases h1 : a.scale = b.scale
  · have F := Lib.hid (show (a.scale == b.scale) = true by simpa using h1)
    have h3 := F.out
    clear h1
    go_enter Try.func54, Try.ntmps54
    go_wp2_with fail
    refine (areInRange_any _ 2 2 [a.row - b.row, a.col - b.col] _ _ _ rfl (by omega) (lit2 _ _ _ _ _ (by simp))).mono ?_
    rintro e w' ⟨rfl, rfl⟩
    obtain ⟨q, hq⟩ : ∃ q, ([a.row - b.row, a.col - b.col].all fun z => inB z (-1) 1) = q := ⟨_, rfl⟩
    rw [hq]
    have Q := Lib.hid hq
    clear hq
    go_wp2
    go_ret
    refine ⟨ret_bool ?_, bel_alloc3 _ _ _ _⟩
    have := Q.out
    unfold nbB nearB
    rw [E.out, F.out, ← this]
    simp
  · have F := Lib.hid (show (a.scale == b.scale) = false by simpa using h1)
    have h3 := F.out
    go_enter Try.func54, Try.ntmps54
    go_wp2
    go_ret
    exact ⟨ret_bool (by unfold nbB nearB; rw [F.out]; simp), bel_alloc2 _ _ _⟩

set_option maxHeartbeats 1600000 in
set_option maxRecDepth 100000 in
theorem beginsOn_any (a b : Sh) (w : World) (ha : a.ok = true) (hb : b.ok = true) :
    Calls Try.prog 63 #[.agg #[.int .i64 a.id, .int .i64 a.row, .int .i64 a.col, .int .i64 a.scale, .int .i64 a.year], .agg #[.int .i64 b.id, .int .i64 b.row, .int .i64 b.col, .int .i64 b.scale, .int .i64 b.year]] w
      fun e w' => e = .returned (.bool (ovB a b)) ∧ Below w.heap.size w w' := by
  obtain ⟨_, ⟨a1, a2⟩, ⟨a3, a4⟩, ⟨a5, a6⟩, _⟩ := Sh.ok_iff.1 ha
  obtain ⟨_, ⟨b1, b2⟩, ⟨b3, b4⟩, ⟨b5, b6⟩, _⟩ := Sh.ok_iff.1 hb
  clear ha hb
  obtain ⟨m1, m2⟩ := mul_bd a1 a2 a5 a6
  obtain ⟨m3, m4⟩ := mul_bd a3 a4 a5 a6
  obtain ⟨n1, n2⟩ := mul_bd b1 b2 b5 b6
  obtain ⟨n3, n4⟩ := mul_bd b3 b4 b5 b6
  by_cases h1 : a.scale < b.scale
  · have F := Lib.hid h1
    go_enter Try.func63, Try.ntmps63
    go_wp2_with fail
    refine (areInRange_any _ 2 2 [a.row * a.scale - b.row * b.scale, a.col * a.scale - b.col * b.scale] _ _ _ rfl (by omega) (lit2 _ _ _ _ _ (by simp))).mono ?_
    rintro e w' ⟨rfl, rfl⟩
    obtain ⟨q, hq⟩ : ∃ q, ([a.row * a.scale - b.row * b.scale, a.col * a.scale - b.col * b.scale].all fun z => inB z 0 (b.scale - 1)) = q := ⟨_, rfl⟩
    rw [hq]
    have Q := Lib.hid hq
    clear hq
    go_wp2
    go_ret
    refine ⟨ret_bool ?_, bel_alloc3 _ _ _ _⟩
    have := Q.out
    unfold ovB
    rw [decide_eq_true F.out, ← this]
    simp
  · have F := Lib.hid h1
    have h2 : b.scale ≤ a.scale := by omega
    go_enter Try.func63, Try.ntmps63
    go_wp2
    go_ret
    exact ⟨ret_bool (by unfold ovB; rw [decide_eq_false (by have := F.out; omega)]; simp), bel_alloc2 _ _ _⟩
end Go.Proofs.Ytidaoijpbdljbaa
