/- SpotText in the model. -/
import Derived.Test.YtghgipadogdfiaaDoorStt2
namespace Go.Proofs.YtghgipadogdfiaaDoor
open Go.RowKit

theorem below_same {P : Program} {f : FuncId} {args : Array Value} {v : Value} {W : World} (h : Calls P f args W fun e w' => e = .returned v ∧ W = w') : Calls P f args W fun e w' => e = .returned v ∧ Below W.heap.size W w' :=
  h.mono fun _ _ ⟨he, hw⟩ => ⟨he, hw ▸ Below.refl _ _⟩
set_option maxHeartbeats 6400000 in
set_option maxRecDepth 100000 in
theorem specSpotText_any (s : VSpot) (w : World) :
    Calls Tryd.prog 4 #[.agg #[.int .i64 s.X, .int .i64 s.Y, .int .i64 s.Den]] w (SpotText_Post s w) := by
  obtain ⟨p, hp⟩ : ∃ p, inB s.Den 1 160000 = p := ⟨_, rfl⟩
  obtain ⟨q, hq⟩ : ∃ p, inB s.X (-2000000000000) 2000000000000 = p := ⟨_, rfl⟩
  obtain ⟨r, hr⟩ : ∃ p, inB s.Y (-2000000000000) 2000000000000 = p := ⟨_, rfl⟩
  obtain ⟨g, hg⟩ : ∃ g, spotGcd s = g := ⟨_, rfl⟩
  obtain ⟨m, hm⟩ : ∃ m, Int.gcd s.Y s.Den = m := ⟨_, rfl⟩
  have V := Lib.hid (show spotOk s = (p && ((q && r) && decide (g = 1))) by unfold spotOk; rw [hp, hq, hr, hg])
  have k1 : ∀ W, Calls Tryd.prog 7 #[.int .i64 s.Den, .int .i64 1, .int .i64 160000] W fun e w' => e = .returned (.bool p) ∧ Below W.heap.size W w' := fun W => hp ▸ below_same (l1In_any _ _ _ W)
  have k2 : ∀ W, Calls Tryd.prog 7 #[.int .i64 s.X, .int .i64 (-2000000000000), .int .i64 2000000000000] W fun e w' => e = .returned (.bool q) ∧ Below W.heap.size W w' := fun W => hq ▸ below_same (l1In_any _ _ _ W)
  have k3 : ∀ W, Calls Tryd.prog 7 #[.int .i64 s.Y, .int .i64 (-2000000000000), .int .i64 2000000000000] W fun e w' => e = .returned (.bool r) ∧ Below W.heap.size W w' := fun W => hr ▸ below_same (l1In_any _ _ _ W)
  have K4 := Lib.hid (show p = true → q = true → r = true → ∀ W, Calls Tryd.prog 8 #[.int .i64 s.Y, .int .i64 s.Den] W fun e w' => e = .returned (.int .i64 (m : Int)) ∧ Below W.heap.size W w' by
    intro h1 h2 h3 W
    have i1 := inB_iff.1 (hp.trans h1)
    have i3 := inB_iff.1 (hr.trans h3)
    rw [← hm]
    exact below_same (l4Divisor_any s.Y s.Den W (by omega) (by omega) (by omega)))
  have K5 := Lib.hid (show p = true → q = true → r = true → ∀ W, Calls Tryd.prog 8 #[.int .i64 s.X, .int .i64 (m : Int)] W fun e w' => e = .returned (.int .i64 (g : Int)) ∧ Below W.heap.size W w' by
    intro h1 h2 h3 W
    have i1 := inB_iff.1 (hp.trans h1)
    have i2 := inB_iff.1 (hq.trans h2)
    have hmd : m ≤ s.Den.natAbs := by rw [← hm]; exact Int.gcd_le_natAbs_right _ (by omega)
    have := below_same (l4Divisor_any s.X (m : Int) W (by omega) (by omega) (by omega))
    rw [← hg]
    unfold spotGcd
    rw [hm]
    exact this)
  have P := Lib.hid hp
  have Q := Lib.hid hq
  have R := Lib.hid hr
  clear hp hq hr hg hm
  go_enter Tryd.func4, Tryd.ntmps4
  go_wp2
  refine wp_world (fun W => BoxSpot W w.heap.size s ∧ Below w.heap.size w W) ⟨BoxSpot.new w 26 s _ rfl, bel_al1 _ _⟩ ?_
  rintro W ⟨hbox, hbw⟩
  have BX := Lib.hid hbox
  obtain ⟨e0, e1, e2⟩ := hbox
  have BW := Lib.hid hbw
  have g0 := cell_regrown e0
  have g1 := cell_regrown e1
  have g2 := cell_regrown e2
  have q1 := below_at (W := W) (fun W' _ => k1 W')
  have q2 := below_at (W := W) (fun W' _ => k2 W')
  have q3 := below_at (W := W) (fun W' _ => k3 W')
  clear e0 e1 e2 hbw k1 k2 k3
  cases p
  · have V1 := Lib.hid (show SpotText_0 s = ⟨#[]⟩ ∧ SpotText_1 s = false by unfold SpotText_0 SpotText_1; rw [V.out]; exact ⟨rfl, rfl⟩)
    refine wp_region_quiet_below (by kernel_rfl) (by kernel_rfl) ?_
    repeat (first | go_big_quiet_step (first | (with_reducible exact q1 _ _)) | quiet_step (first | (with_reducible exact q1 _ _)))
    refine wpQuiet_nil ?_
    intro W2 hw2
    have B2 := Lib.hid (Below.then' BW.out (below_of_re hw2))
    clear hw2 q1 g0 g1 g2
    go_wp2
    go_ret2
    exact ⟨ret_txt V1.out.1.symm V1.out.2.symm, B2.out⟩
  cases q
  · have V1 := Lib.hid (show SpotText_0 s = ⟨#[]⟩ ∧ SpotText_1 s = false by unfold SpotText_0 SpotText_1; rw [V.out]; exact ⟨rfl, rfl⟩)
    refine wp_region_quiet_below (by kernel_rfl) (by kernel_rfl) ?_
    repeat (first | go_big_quiet_step (first | (with_reducible exact q1 _ _) | (with_reducible exact q2 _ _)) | quiet_step (first | (with_reducible exact q1 _ _) | (with_reducible exact q2 _ _)))
    refine wpQuiet_nil ?_
    intro W2 hw2
    have B2 := Lib.hid (Below.then' BW.out (below_of_re hw2))
    clear hw2 q1 q2 g0 g1 g2
    go_wp2
    go_ret2
    exact ⟨ret_txt V1.out.1.symm V1.out.2.symm, B2.out⟩
  cases r
  · have V1 := Lib.hid (show SpotText_0 s = ⟨#[]⟩ ∧ SpotText_1 s = false by unfold SpotText_0 SpotText_1; rw [V.out]; exact ⟨rfl, rfl⟩)
    refine wp_region_quiet_below (by kernel_rfl) (by kernel_rfl) ?_
    repeat (first | go_big_quiet_step (first | (with_reducible exact q1 _ _) | (with_reducible exact q2 _ _) | (with_reducible exact q3 _ _)) | quiet_step (first | (with_reducible exact q1 _ _) | (with_reducible exact q2 _ _) | (with_reducible exact q3 _ _)))
    refine wpQuiet_nil ?_
    intro W2 hw2
    have B2 := Lib.hid (Below.then' BW.out (below_of_re hw2))
    clear hw2 q1 q2 q3 g0 g1 g2
    go_wp2
    go_ret2
    exact ⟨ret_txt V1.out.1.symm V1.out.2.symm, B2.out⟩
  have q4 := below_at (W := W) (fun W' _ => K4.out rfl rfl rfl W')
  have q5 := below_at (W := W) (fun W' _ => K5.out rfl rfl rfl W')
  by_cases hg1 : g = 1
  case neg =>
    have hg2 : ((g : Int) != 1) = true := by simp; omega
    have G1 := Lib.hid hg1
    clear hg1
    have V1 := Lib.hid (show SpotText_0 s = ⟨#[]⟩ ∧ SpotText_1 s = false by unfold SpotText_0 SpotText_1; rw [V.out]; rw [decide_eq_false G1.out]; exact ⟨rfl, rfl⟩)
    refine wp_region_quiet_below (by kernel_rfl) (by kernel_rfl) ?_
    repeat (first | go_big_quiet_step (first | (with_reducible exact q1 _ _) | (with_reducible exact q2 _ _) | (with_reducible exact q3 _ _) | (with_reducible exact q4 _ _) | (with_reducible exact q5 _ _)) | quiet_step (first | (with_reducible exact q1 _ _) | (with_reducible exact q2 _ _) | (with_reducible exact q3 _ _) | (with_reducible exact q4 _ _) | (with_reducible exact q5 _ _)))
    refine wpQuiet_nil ?_
    intro W2 hw2
    have B2 := Lib.hid (Below.then' BW.out (below_of_re hw2))
    clear hw2 q1 q2 q3 q4 q5 g0 g1 g2
    go_wp2
    go_ret2
    exact ⟨ret_txt V1.out.1.symm V1.out.2.symm, B2.out⟩
  subst hg1
  have OK : spotOk s = true := V.out
  have V1 := Lib.hid (show SpotText_0 s = spotText s ∧ SpotText_1 s = true by unfold SpotText_0 SpotText_1; rw [OK]; exact ⟨rfl, rfl⟩)
  have hP := inB_iff.1 P.out
  have hQ := inB_iff.1 Q.out
  have hR := inB_iff.1 R.out
  have zb := spotBase_size OK
  have z0 := textOf_sizeB s.X (by omega) (by omega)
  have z1 := textOf_sizeB s.Y (by omega) (by omega)
  have z2 := textOf_sizeB s.Den (by omega) (by omega)
  have K6 := Lib.hid (fun W => numB_any s.X (by omega) (by omega) W)
  have K7 := Lib.hid (fun W => numB_any s.Y (by omega) (by omega) W)
  have K8 := Lib.hid (fun W => numB_any s.Den (by omega) (by omega) W)
  have T : Hid (spotBase s = textOf s.X ++ ⟨#[44]⟩ ++ textOf s.Y) := Lib.hid rfl
  have TO := Lib.hid (spotText_long s)
  have TP := Lib.hid (spotText_plain s)
  generalize textOf s.X = t0 at *
  generalize textOf s.Y = t1 at *
  generalize textOf s.Den = t2 at *
  generalize spotText s = tt at *
  clear OK hQ hP hR
  refine wp_region_quiet_below (by kernel_rfl) (by kernel_rfl) ?_
  repeat (first | go_big_quiet_step (first | (with_reducible exact q1 _ _) | (with_reducible exact q2 _ _) | (with_reducible exact q3 _ _) | (with_reducible exact q4 _ _) | (with_reducible exact q5 _ _)) | quiet_step (first | (with_reducible exact q1 _ _) | (with_reducible exact q2 _ _) | (with_reducible exact q3 _ _) | (with_reducible exact q4 _ _) | (with_reducible exact q5 _ _)))
  refine wpQuiet_nil ?_
  intro W2 hw2
  have hb2 := below_of_re hw2
  have BX2 := BX.out.below hb2
  have B2 := Lib.hid (Below.then' BW.out hb2)
  clear hw2 hb2 q1 q2 q3 q4 q5 g0 g1 g2
  go_wp2
  have BX3 := Lib.hid BX2
  obtain ⟨e0, e1, e2⟩ := BX2
  have g0 := cell_regrown e0
  have g1 := cell_regrown e1
  have q6 := below_at (W := W2) (fun W' _ => K6.out W')
  have q7 := below_at (W := W2) (fun W' _ => K7.out W')
  clear e0 e1 e2
  refine wp_region_quiet_below (by kernel_rfl) (by kernel_rfl) ?_
  repeat (first | go_big_quiet_step (first | (with_reducible exact q6 _ _) | (with_reducible exact q7 _ _)) | quiet_step (first | (with_reducible exact q6 _ _) | (with_reducible exact q7 _ _)))
  refine wpQuiet_nil ?_
  intro W5 hw5
  have hb5 := below_of_re hw5
  have B5 := Lib.hid (Below.then' B2.out hb5)
  obtain ⟨e0, e1, e2⟩ := BX3.out.below hb5
  clear hw5 hb5 q6 q7 g0 g1
  rw [← T.out]
  generalize spotBase s = tb at *
  by_cases hf : 1 < s.Den
  · have E := Lib.hid (TO.out hf)
    have sl : (⟨#[47]⟩ : ByteArray).size = 1 := rfl
    go_wp2_with fail
    refine (K8.out _).mono ?_
    rintro e w6 ⟨rfl, hb⟩
    have B6 := Lib.hid (Below.then' B5.out hb)
    clear hb
    go_wp2
    go_ret2
    exact ⟨ret_txt (by rw [V1.out.1, E.out]) V1.out.2.symm, B6.out⟩
  · have E := Lib.hid (TP.out (by omega))
    go_wp2
    go_ret2
    exact ⟨ret_txt (by rw [V1.out.1, E.out]) V1.out.2.symm, B5.out⟩
end Go.Proofs.YtghgipadogdfiaaDoor
