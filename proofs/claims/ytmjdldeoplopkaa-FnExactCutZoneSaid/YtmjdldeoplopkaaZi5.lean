/- CutZone in the program. -/
import Derived.Test.YtmjdldeoplopkaaZi
import Derived.Test.YtmjdldeoplopkaaIntA4Del
import Derived.Test.YtmjdldeoplopkaaCutZoneP
namespace Go.Proofs.Ytmjdldeoplopkaa
open Go.RowKit

theorem within_any (n lo hi : Int) (w : World) : Calls Try.prog 56 #[.int .i64 n, .int .i64 lo, .int .i64 hi] w fun e w' => e = .returned (.int .i64 (max lo (min n hi))) ∧ w = w' := by
  go_enter Try.func56, Try.ntmps56
  go_wp2
  all_goals
    go_ret
    exact ⟨ret_int (by omega), rfl⟩
set_option maxHeartbeats 1600000 in
theorem cutZone1_any (r : VIntA4) (w : World) : Calls Try.prog 58 #[.agg #[.int .i64 r.E0, .int .i64 r.E1, .int .i64 r.E2, .int .i64 r.E3]] w fun e w' => e = .returned (.bool (!fullB r)) ∧ Below w.heap.size w w' := by
  have U := Lib.hid (show (!fullB r) = (r.E0 == r.E2 || r.E1 == r.E3) from by unfold fullB; simp)
  cases h1 : (r.E0 == r.E2) with
  | true =>
    go_enter Try.func58, Try.ntmps58
    go_wp2
    go_ret
    exact ⟨ret_bool (by rw [U.out, h1]; rfl), bel_al1 _ _⟩
  | false =>
    cases h2 : (r.E1 == r.E3)
    all_goals
      go_enter Try.func58, Try.ntmps58
      go_wp2
      go_ret
      exact ⟨ret_bool (by rw [U.out, h1, h2]; rfl), bel_al1 _ _⟩
theorem own_four (w : World) (L : List VIntA4) (cur : Array Value) (hl : L.length = 4) (hc : cur.toList = cellsIntA4 L) : (w.alloc (.cells cur 36)).ownsRow w.heap.size 36 4 (.slice (some ⟨w.heap.size, 0, none⟩) L.length 4) L.length (cellsIntA4 L) := by
  have hs : cur.size = 16 := by rw [← Array.length_toList, hc, cellsIntA4_len, hl]
  refine ⟨by rw [cellsIntA4_len], .inr ⟨w.heap.size, 4, cur, rfl, Nat.le_refl _, heap_alloc_new w _, by omega, by decide, hs, ?_⟩⟩
  rw [hc, List.take_of_length_le (by rw [cellsIntA4_len]; omega)]
set_option maxHeartbeats 12800000 in
set_option maxRecDepth 100000 in
theorem implCutZone_any (a b : VZone) (w : World) : Calls Try.prog 16 #[.agg #[.int .i64 a.Id, .int .i64 a.West, .int .i64 a.South, .int .i64 a.East, .int .i64 a.North], .agg #[.int .i64 b.Id, .int .i64 b.West, .int .i64 b.South, .int .i64 b.East, .int .i64 b.North]] w (CutZone_Post a b w) := by
  have b2 := bel_al2 w (.cells #[.int .i64 a.Id, .int .i64 a.West, .int .i64 a.South, .int .i64 a.East, .int .i64 a.North] 25) (.cells #[.int .i64 b.Id, .int .i64 b.West, .int .i64 b.South, .int .i64 b.East, .int .i64 b.North] 25)
  have XA := Lib.hid ((BoxZone.new w 25 a _ rfl).below (bel_al1 _ (.cells #[.int .i64 b.Id, .int .i64 b.West, .int .i64 b.South, .int .i64 b.East, .int .i64 b.North] 25)))
  have XB := Lib.hid (BoxZone.new (w.alloc (.cells #[.int .i64 a.Id, .int .i64 a.West, .int .i64 a.South, .int .i64 a.East, .int .i64 a.North] 25)) 25 b (w.heap.size + 1) (size_al _ _))
  have B0 := Lib.hid b2
  have U1 := Lib.hid (show CutZone_1 a b = (a.ok && b.ok) from rfl)
  have U0 := Lib.hid (show CutZone_0 a b = if CutZone_1 a b then (cutParts a b).filter fullB else [] from rfl)
  clear b2
  go_enter Try.func16, Try.ntmps16
  go_wp2_with fail
  refine (isZone_any a _).mono ?_
  rintro e w1 ⟨rfl, hb⟩
  have B1 := Lib.hid (Below.then' B0.out hb)
  have XA1 := Lib.hid (XA.out.below hb)
  have XB1 := Lib.hid (XB.out.below hb)
  clear hb
  cases hq : a.ok with
  | false =>
    have Q := Lib.hid hq
    clear hq
    go_wp2
    go_ret2
    exact ⟨_, by rw [U1.out, Q.out]; rfl, by rw [U0.out, U1.out, Q.out]; exact nil_ownIntA4 _ _, B1.out⟩
  | true =>
  have Q := Lib.hid hq
  clear hq
  obtain ⟨d0, d1, d2, d3, d4⟩ := XB1.out
  go_wp2_with fail
  refine (isZone_any b _).mono ?_
  rintro e w2 ⟨rfl, hb⟩
  have B2 := Lib.hid (Below.then' B1.out hb)
  have XA2 := Lib.hid (XA1.out.below hb)
  have XB2 := Lib.hid (XB1.out.below hb)
  clear hb d0 d1 d2 d3 d4
  cases hq : b.ok with
  | false =>
    have Q2 := Lib.hid hq
    clear hq
    go_wp2
    go_ret2
    exact ⟨_, by rw [U1.out, Q.out, Q2.out]; rfl, by rw [U0.out, U1.out, Q.out, Q2.out]; exact nil_ownIntA4 _ _, B2.out⟩
  | true =>
  have Q2 := Lib.hid hq
  clear hq
  have PT := Lib.hid (show cutParts a b = [⟨a.West, a.South, a.East, max a.South (min b.South a.North)⟩, ⟨a.West, max a.South (min b.North a.North), a.East, a.North⟩, ⟨a.West, max a.South (min b.South a.North), max a.West (min b.West a.East), max a.South (min b.North a.North)⟩, ⟨max a.West (min b.East a.East), max a.South (min b.South a.North), a.East, max a.South (min b.North a.North)⟩] from rfl)
  obtain ⟨g1, hg1⟩ : ∃ g, max a.South (min b.South a.North) = g := ⟨_, rfl⟩
  obtain ⟨g2, hg2⟩ : ∃ g, max a.South (min b.North a.North) = g := ⟨_, rfl⟩
  obtain ⟨g3, hg3⟩ : ∃ g, max a.West (min b.West a.East) = g := ⟨_, rfl⟩
  obtain ⟨g4, hg4⟩ : ∃ g, max a.West (min b.East a.East) = g := ⟨_, rfl⟩
  rw [hg1, hg2, hg3, hg4] at PT
  obtain ⟨d0, d1, d2, d3, d4⟩ := XA2.out
  obtain ⟨f0, f1, f2, f3, f4⟩ := XB2.out
  have k1 := cell_regrown d2
  have k2 := cell_regrown d4
  have k3 := cell_regrown f2
  have k4 := cell_regrown f4
  have e1 := below_at (W := w2) (fun W' _ => same_below (hg1 ▸ within_any b.South a.South a.North W'))
  have e2 := below_at (W := w2) (fun W' _ => same_below (hg2 ▸ within_any b.North a.South a.North W'))
  clear d0 d1 d2 d3 d4 f0 f1 f2 f3 f4
  go_wp2
  refine wp_region_quiet_below (by kernel_rfl) (by kernel_rfl) ?_
  repeat (first | go_big_quiet_step (first | (with_reducible exact e1 _ _) | (with_reducible exact e2 _ _)) | quiet_step (first | (with_reducible exact e1 _ _) | (with_reducible exact e2 _ _)))
  refine wpQuiet_nil ?_
  intro w3 hw3
  have hb3 := below_of_re hw3
  have B3 := Lib.hid (Below.then' B2.out hb3)
  have XA3 := Lib.hid (XA2.out.below hb3)
  have XB3 := Lib.hid (XB2.out.below hb3)
  clear hw3 hb3 k1 k2 k3 k4 e1 e2
  obtain ⟨d0, d1, d2, d3, d4⟩ := XA3.out
  obtain ⟨f0, f1, f2, f3, f4⟩ := XB3.out
  have k1 := cell_regrown d1
  have k2 := cell_regrown d3
  have k3 := cell_regrown f1
  have k4 := cell_regrown f3
  have e1 := below_at (W := w3) (fun W' _ => same_below (hg3 ▸ within_any b.West a.West a.East W'))
  have e2 := below_at (W := w3) (fun W' _ => same_below (hg4 ▸ within_any b.East a.West a.East W'))
  clear d0 d1 d2 d3 d4 f0 f1 f2 f3 f4
  go_wp2
  refine wp_region_quiet_below (by kernel_rfl) (by kernel_rfl) ?_
  repeat (first | go_big_quiet_step (first | (with_reducible exact e1 _ _) | (with_reducible exact e2 _ _)) | quiet_step (first | (with_reducible exact e1 _ _) | (with_reducible exact e2 _ _)))
  refine wpQuiet_nil ?_
  intro w4 hw4
  have hb4 := below_of_re hw4
  have B4 := Lib.hid (Below.then' B3.out hb4)
  have XA4 := Lib.hid (XA3.out.below hb4)
  clear hw4 hb4 k1 k2 k3 k4 e1 e2 hg1 hg2 hg3 hg4
  obtain ⟨d0, d1, d2, d3, d4⟩ := XA4.out
  have OW := Lib.hid (own_four w4 [⟨a.West, a.South, a.East, g1⟩, ⟨a.West, g2, a.East, a.North⟩, ⟨a.West, g1, g3, g2⟩, ⟨g4, g1, a.East, g2⟩] #[.int .i64 a.West, .int .i64 a.South, .int .i64 a.East, .int .i64 g1, .int .i64 a.West, .int .i64 g2, .int .i64 a.East, .int .i64 a.North, .int .i64 a.West, .int .i64 g1, .int .i64 g3, .int .i64 g2, .int .i64 g4, .int .i64 g1, .int .i64 a.East, .int .i64 g2] rfl rfl)
  go_wp2_with fail
  refine (delIntA4_any 58 #[] (fun r => !fullB r) w4.heap.size w4.heap.size 4 [⟨a.West, a.South, a.East, g1⟩, ⟨a.West, g2, a.East, a.North⟩, ⟨a.West, g1, g3, g2⟩, ⟨g4, g1, a.East, g2⟩] _ OW.out (by rw [size_al]; omega) (enters_fn Try.func58 (by kernel_rfl) (by kernel_rfl)) (fun W s _ _ => by simpa using cutZone1_any s W)).mono ?_
  rintro e w5 ⟨rfl, hown, hb⟩
  have B5 := Lib.hid (B4.out.trans ((bel_al1 w4 (.cells #[.int .i64 a.West, .int .i64 a.South, .int .i64 a.East, .int .i64 g1, .int .i64 a.West, .int .i64 g2, .int .i64 a.East, .int .i64 a.North, .int .i64 a.West, .int .i64 g1, .int .i64 g3, .int .i64 g2, .int .i64 g4, .int .i64 g1, .int .i64 a.East, .int .i64 g2] 36)).trans hb |>.mono B4.out.size))
  have hff : (fun r : VIntA4 => !(!fullB r)) = fullB := by funext r; simp
  rw [hff] at hown ⊢
  have O := Lib.hid (ownsRow_base hown B4.out.size)
  clear hb hown d0 d1 d2 d3 d4
  have E1 := Lib.hid (show CutZone_1 a b = true from by rw [U1.out, Q.out, Q2.out]; rfl)
  have E0 := Lib.hid (show CutZone_0 a b = [⟨a.West, a.South, a.East, g1⟩, ⟨a.West, g2, a.East, a.North⟩, ⟨a.West, g1, g3, g2⟩, ⟨g4, g1, a.East, g2⟩].filter fullB from by rw [U0.out, E1.out, PT.out]; rfl)
  go_wp2
  go_ret2
  exact ⟨_, by rw [E1.out]; rfl, by rw [E0.out]; exact O.out, B5.out⟩
end Go.Proofs.Ytmjdldeoplopkaa
