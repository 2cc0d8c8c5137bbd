/- What two zones have in common, in the program: commonSides, OverlapOf, areTouching. -/
import Derived.Test.YtidaoijpbdljbabZi
namespace Go.Proofs.Ytidaoijpbdljbab
open Go.RowKit

theorem ret2_int {a b c d : Int} (h : a = c) (k : b = d) : Ending.returned (.tuple #[.int .i64 a, .int .i64 b]) = .returned (.tuple #[.int .i64 c, .int .i64 d]) := by rw [h, k]
set_option maxHeartbeats 64000000 in
set_option maxRecDepth 100000 in
theorem commonSides_any (a b : VZone) (w : World) (ha : a.ok = true) (hb : b.ok = true) :
    Calls Try.prog 87 #[.agg #[.int .i64 a.Id, .int .i64 a.West, .int .i64 a.South, .int .i64 a.East, .int .i64 a.North], .agg #[.int .i64 b.Id, .int .i64 b.West, .int .i64 b.South, .int .i64 b.East, .int .i64 b.North]] w fun e w' => e = .returned (.tuple #[.int .i64 (wideOf a b), .int .i64 (highOf a b)]) ∧ Below w.heap.size w w' := by
  obtain ⟨_, a1, a2, a3, a4, a5, a6⟩ := VZone.ok_iff.1 ha
  obtain ⟨_, b1, b2, b3, b4, b5, b6⟩ := VZone.ok_iff.1 hb
  have WD := Lib.hid (show wideOf a b = min a.East b.East - max a.West b.West from rfl)
  have HD := Lib.hid (show highOf a b = min a.North b.North - max a.South b.South from rfl)
  obtain ⟨x, hx⟩ : ∃ x, wideOf a b = x := ⟨_, rfl⟩
  obtain ⟨y, hy⟩ : ∃ y, highOf a b = y := ⟨_, rfl⟩
  rw [hx] at WD ⊢
  rw [hy] at HD ⊢
  clear hx hy ha hb
  have v : ∀ p q : Int, 0 ≤ p → p ≤ 9999 → 0 ≤ q → q ≤ 9999 → IntKind.i64.wrap (p - q) = p - q := fun p q _ _ _ _ => IntWalk.i64_in _ (by omega)
  have v1 := v a.East a.West (by omega) (by omega) (by omega) (by omega)
  have v2 := v a.East b.West (by omega) (by omega) (by omega) (by omega)
  have v3 := v b.East a.West (by omega) (by omega) (by omega) (by omega)
  have v4 := v b.East b.West (by omega) (by omega) (by omega) (by omega)
  have v5 := v a.North a.South (by omega) (by omega) (by omega) (by omega)
  have v6 := v a.North b.South (by omega) (by omega) (by omega) (by omega)
  have v7 := v b.North a.South (by omega) (by omega) (by omega) (by omega)
  have v8 := v b.North b.South (by omega) (by omega) (by omega) (by omega)
  clear v
  go_enter Try.func87, Try.ntmps87
  go_wp2
  refine wp_world (fun W => BoxZone W w.heap.size a ∧ BoxZone W (w.heap.size + 1) b ∧ Below w.heap.size w W) ⟨(BoxZone.new w 50 a _ rfl).below (bel_al1 _ _), BoxZone.new _ 50 b _ (by simp), bel_al2 _ _ _⟩ ?_
  rintro W ⟨hb1, hb2, hbw⟩
  have BW := Lib.hid hbw
  obtain ⟨d0, d1, d2, d3, d4⟩ := hb1
  obtain ⟨f0, f1, f2, f3, f4⟩ := hb2
  have k1 := cell_regrown d1
  have k2 := cell_regrown d2
  have k3 := cell_regrown d3
  have k4 := cell_regrown d4
  have j1 := cell_regrown f1
  have j2 := cell_regrown f2
  have j3 := cell_regrown f3
  have j4 := cell_regrown f4
  clear hbw d0 d1 d2 d3 d4 f0 f1 f2 f3 f4
  refine wp_region_quiet_below (by kernel_rfl) (by kernel_rfl) ?_
  repeat (any_goals (first | go_big_quiet_step (fail) | quiet_step (fail)))
  all_goals
    refine wpQuiet_nil ?_
    intro W2 hw2
    have B2 := Lib.hid (Below.then' BW.out (below_of_re hw2))
    have wd := WD.out
    have hdd := HD.out
    clear hw2 k1 k2 k3 k4 j1 j2 j3 j4 v1 v2 v3 v4 v5 v6 v7 v8
    have WD := Lib.hid wd
    have HD := Lib.hid hdd
    clear wd hdd
    go_wp2
    all_goals
      go_ret2
      exact ⟨ret2_int (by have := WD.out; omega) (by have := HD.out; omega), B2.out⟩
end Go.Proofs.Ytidaoijpbdljbab
