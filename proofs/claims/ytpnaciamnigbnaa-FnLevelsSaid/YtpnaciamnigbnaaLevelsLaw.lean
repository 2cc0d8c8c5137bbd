/- FnLevels: for every code the law returns true and leaves it as it was. No condition. -/
import Derived.Test.YtpnaciamnigbnaaRows
import Derived.Test.YtpnaciamnigbnaaLz
import Derived.Test.YtpnaciamnigbnaaVars
import Derived.ProofKit
import Derived.OpenShut
import Derived.ShutString
import Derived.ChangeOld
import Derived.Carry
import Derived.Deep.DeepCutAuto
namespace Go.Proofs.Ytpnaciamnigbnaa.fnLevels
open Go.ChangeShapes Go.WideShapes Go.ChangeAt Go.RowKit
set_option linter.unusedVariables false

set_option maxHeartbeats 25600000 in
set_option maxRecDepth 100000 in
theorem walk (a0 : Option Addr) (len0 cap0 : Nat) (z0 : List Int) (w : World) (w0 : IsRow .u8 w a0 len0 cap0 z0) :
    Calls Try.prog 4 #[.slice a0 len0 cap0] w fun e w' => e = .returned (.bool true) ∧ Below w.heap.size w w' := by
  have I := Lib.hid (CodeIn.of_row w0)
  clear w0
  by_cases hbig : 65536 < len0
  · have hd : decide (65536 < len0) = true := by simpa using hbig
    go_enter Try.func4, Try.ntmps4
    go_wp2_with fail
    refine (vBigV_any _ _ _ _).mono ?_
    rw [hd]
    rintro e w' ⟨rfl, rfl⟩
    go_wp2
    go_ret
    exact ⟨rfl, Below.refl _ _⟩
  have hd : decide (65536 < len0) = false := by simp; omega
  go_enter Try.func4, Try.ntmps4
  go_wp2_with fail
  refine (vBigV_any _ _ _ _).mono ?_
  rw [hd]
  rintro e w' ⟨rfl, rfl⟩
  clear hd hbig
  go_wp2_with fail
  refine (drawFilledRelief_any _ _ _ _ I.out).mono ?_
  rintro e w1 ⟨a1, c1, D, rfl, h1, h2, hs, hb⟩
  have B1 := Lib.hid hb
  have S1 := Lib.hid hs
  have CD := Lib.hid (cond_small h1 h2)
  have L2 := Lib.hid h2
  clear hb hs h2
  obtain ⟨q, hq⟩ : ∃ q, rlB D = q := ⟨_, rfl⟩
  have Q := Lib.hid hq
  obtain ⟨F, hF⟩ : ∃ F, FilledRelief_0 D = F := ⟨_, rfl⟩
  have HF := Lib.hid hF
  have HK := Lib.hid (show q = true → RL D ∧ F = gridOf D (lev D) from fun h => ⟨rlB_iff.1 (hq.trans h), by rw [← hF]; unfold FilledRelief_0; rw [if_pos (hq.trans h)]⟩)
  obtain ⟨n, hn⟩ : ∃ n, LakesOf_0 D = n := ⟨_, rfl⟩
  obtain ⟨s, hs⟩ : ∃ n, LakesOf_1 D = n := ⟨_, rfl⟩
  have NN := Lib.hid hn
  have SS := Lib.hid hs
  have NS := (show n ≤ s from by
    rw [← hn, ← hs]
    unfold LakesOf_0 LakesOf_1
    by_cases h : rlB D = true
    · rw [if_pos h, if_pos h]; exact (lift_all (rlB_iff.1 h)).2
    · rw [if_neg h, if_neg h]; exact Int.le_refl _)
  have LS := Lib.hid (show q = true → s = liftTo D D.length from fun h => by
    rw [← hs]; unfold LakesOf_1; rw [if_pos (hq.trans h)]; exact (lift_all (rlB_iff.1 (hq.trans h))).1)
  clear hq hF hn hs
  go_wp2_with fail
  refine (implFilledRelief_any _ _ _ D _ S1.out).mono ?_
  rintro e w2 ⟨v, rfl, hown, hb⟩
  rw [HF.out] at hown
  rw [show FilledRelief_1 D = q from Q.out]
  obtain ⟨fa, fc, rfl⟩ := hown.form
  have B2 := Lib.hid (Below.then' B1.out hb)
  have S2 := Lib.hid (S1.out.below hb)
  have U2 := Lib.hid hown.is
  clear hb hown
  go_wp2_with fail
  refine (specFilledRelief_any _ _ _ D _ S2.out CD.out).mono ?_
  rintro e w3 ⟨v, rfl, hown, hb⟩
  rw [HF.out] at hown
  rw [show FilledRelief_1 D = q from Q.out]
  obtain ⟨ga, gc, rfl⟩ := hown.form
  have B3 := Lib.hid (Below.then' B2.out hb)
  have S3 := Lib.hid (S2.out.below hb)
  have U3 := Lib.hid (U2.out.below hb)
  have V3 := Lib.hid hown.is
  have hqq := bnnV q
  clear hb hown
  go_wp2_with fail
  refine (vGrid_yes _ _ _ _ _ _ F _ U3.out V3.out).mono ?_
  rintro e w4 ⟨rfl, hb⟩
  have B4 := Lib.hid (Below.then' B3.out hb)
  have S4 := Lib.hid (S3.out.below hb)
  have U4 := Lib.hid (U3.out.below hb)
  clear hb V3 U2 U3 S1 S2 S3
  go_wp2_with fail
  refine (implLakesOf_any _ _ _ D _ S4.out).mono ?_
  rintro e w5 ⟨rfl, hb⟩
  rw [NN.out, SS.out, show LakesOf_2 D = q from Q.out]
  have B5 := Lib.hid (Below.then' B4.out hb)
  have S5 := Lib.hid (S4.out.below hb)
  have U5 := Lib.hid (U4.out.below hb)
  clear hb S4 U4
  go_wp2_with fail
  refine (specLakesOf_any _ _ _ D _ S5.out CD.out).mono ?_
  rintro e w6 ⟨rfl, hb⟩
  rw [NN.out, SS.out, show LakesOf_2 D = q from Q.out]
  have B6 := Lib.hid (Below.then' B5.out hb)
  have S6 := Lib.hid (S5.out.below hb)
  have U6 := Lib.hid (U5.out.below hb)
  have n1 : (n != n) = false := by simp
  have n2 : (s != s) = false := by simp
  have n3 : ¬ s < n := by omega
  have n4 : decide (s < n) = false := by simpa using n3
  clear hb S5 U5
  go_upto_if 101 with (fail)
  go_cut [14, 15, 16, 17, 18, 19, 20] (fun s14 s15 s16 s17 s18 s19 s20 wx => Below w.heap.size w wx)
  case first =>
    cases q
    · go_wp2
      go_meet
      exact B6.out
    · obtain ⟨hD, hFg⟩ := HK.out rfl
      have RD := Lib.hid hD
      have FG := Lib.hid hFg
      have RF := Lib.hid (show rlB F = true from by rw [hFg]; exact rlB_iff.2 (full_RL hD))
      have K0 := Lib.hid (show LakesOf_0 F = 0 from by unfold LakesOf_0; rw [RF.out, if_pos rfl, hFg, full_lakes hD])
      have K1 := Lib.hid (show LakesOf_1 F = 0 from by unfold LakesOf_1; rw [RF.out, if_pos rfl, hFg, full_lakes hD])
      have K2 := Lib.hid (show FilledRelief_0 F = F from by unfold FilledRelief_0; rw [RF.out, if_pos rfl, hFg, full_full hD])
      have hFl : F.length = D.length := by rw [hFg, gridOf_len]
      have FL := Lib.hid hFl
      have LT := Lib.hid (LS.out rfl)
      clear hD hFg hFl
      go_wp2_with fail
      refine (implLakesOf_any _ _ _ F _ U6.out).mono ?_
      rintro e w7 ⟨rfl, hb⟩
      rw [K0.out, K1.out, show LakesOf_2 F = true from RF.out]
      have B7 := Lib.hid (Below.then' B6.out hb)
      have S7 := Lib.hid (S6.out.below hb)
      have U7 := Lib.hid (U6.out.below hb)
      clear hb
      go_wp2_with fail
      refine (implFilledRelief_any _ _ _ F _ U7.out).mono ?_
      rintro e w8 ⟨v, rfl, hown, hb⟩
      rw [K2.out] at hown
      rw [show FilledRelief_1 F = true from RF.out]
      obtain ⟨ha, hc, rfl⟩ := hown.form
      have B8 := Lib.hid (Below.then' B7.out hb)
      have S8 := Lib.hid (S7.out.below hb)
      have U8 := Lib.hid (U7.out.below hb)
      have V8 := Lib.hid hown.is
      clear hb hown S7 U7
      go_wp2_with fail
      refine (vGrid_yes _ _ _ _ _ _ F _ V8.out U8.out).mono ?_
      rintro e w9 ⟨rfl, hb⟩
      have B9 := Lib.hid (Below.then' B8.out hb)
      have S9 := Lib.hid (S8.out.below hb)
      have U9 := Lib.hid (U8.out.below hb)
      clear hb S8 U8 V8
      have dl := S9.out.2.1
      have dm := S9.out.2.2.1
      unfold maxLen at dm
      go_wp2
      go_loopw [20, 19] (fun i o wr => ∃ k : Nat, k ≤ D.length ∧ i = .int .i64 k ∧ o = .int .i64 (liftTo D k) ∧ Below w9.heap.size w9 wr) (fun i _ _ => D.length - (intOf i).toNat)
      case atStart => exact ⟨0, Nat.zero_le _, rfl, by simp [liftTo, sqsTo], Below.refl _ _⟩
      case round =>
        obtain ⟨k, hk, rfl, rfl, hbel⟩ := hrel
        have BR := Lib.hid hbel
        by_cases hlt : k < D.length
        · obtain ⟨x, hx⟩ : ∃ x, D[k]? = some x := ⟨D[k]'hlt, List.getElem?_eq_getElem _⟩
          obtain ⟨y, hy⟩ : ∃ y, F[k]? = some y := ⟨F[k]'(by have := FL.out; omega), List.getElem?_eq_getElem _⟩
          have hlF : k < F.length := by have := FL.out; omega
          obtain ⟨b, o, rfl, hb, hat⟩ := (S9.out.below hbel).at (by omega)
          obtain ⟨b', o', rfl, hb', hat'⟩ := (U9.out.below hbel).at (by omega)
          obtain ⟨hd, g0, g1⟩ := hat k x hx
          obtain ⟨hd', g0', g1'⟩ := hat' k y hy
          have LSUC := Lib.hid (liftTo_succ RD.out hx (by rw [← FG.out]; exact hy))
          have LB := liftTo_bd RD.out hk
          have LB2 := liftTo_bd RD.out (show k + 1 ≤ D.length by omega)
          have RX := Lib.hid (show x.length ≤ 100 ∧ ∀ z ∈ x, 0 ≤ z ∧ z ≤ 9999 from ⟨by have := RD.out.row x (List.mem_of_getElem? hx); have := RD.out.n8; omega, RD.out.val x (List.mem_of_getElem? hx)⟩)
          have RY := Lib.hid (show y.length ≤ 8 ∧ ∀ z ∈ y, 0 ≤ z ∧ z ≤ 9999 from full_row RD.out (by rw [← FG.out]; exact List.mem_of_getElem? hy))
          have YB := sum_bdI 9999 y RY.out.2
          have YL := RY.out.1
          obtain ⟨sx, hsx⟩ : ∃ u, x.sum = u := ⟨_, rfl⟩
          obtain ⟨sy, hsy⟩ : ∃ u, y.sum = u := ⟨_, rfl⟩
          have k0 := cell_regrown g0
          have k1 := cell_regrown g0'
          have I1 := Lib.hid g1
          have I2 := Lib.hid g1'
          have cX := below_at (W := wr) (fun W' hW => same_below (hsx ▸ vSum_any _ _ _ x W' (I1.out.below hW) RX.out.1 RX.out.2))
          have cY := below_at (W := wr) (fun W' hW => same_below (hsy ▸ vSum_any _ _ _ y W' (I2.out.below hW) (by have := RY.out.1; omega) RY.out.2))
          rw [hsx, hsy] at LSUC
          rw [hsy] at YB
          obtain ⟨l, hl⟩ : ∃ l, liftTo D k = l := ⟨_, rfl⟩
          obtain ⟨l2, hl2⟩ : ∃ l, liftTo D (k + 1) = l := ⟨_, rfl⟩
          rw [hl, hl2] at LSUC
          rw [hl] at LB
          rw [hl2] at LB2
          rw [hl]
          have HL2 := Lib.hid hl2
          have e2 := LSUC.out
          have yb2 : sy ≤ 79992 := by
            have h9 : (9999 : Int) * (y.length : Int) ≤ 79992 := by omega
            omega
          have v1 : IntKind.i64.wrap (l + sy) = l + sy := IntWalk.i64_in _ (by omega)
          have v2 : IntKind.i64.wrap (l + sy - sx) = l2 := (IntWalk.i64_in _ (by omega)).trans e2.symm
          have hi0 : (0 : Int) ≤ (k : Int) := by omega
          have hi1 : (k : Int) < (D.length : Int) := by omega
          have hi2 : (k : Int) < (F.length : Int) := by omega
          clear hbel hx hy hat hat' g0 g0' g1 g1' hsx hsy hl hl2 e2 YB yb2
          go_wp2
          refine wp_region_quiet_below (by kernel_rfl) (by kernel_rfl) ?_
          repeat (first | go_big_quiet_step (first | (with_reducible exact cX _ _) | (with_reducible exact cY _ _)) | quiet_step (first | (with_reducible exact cX _ _) | (with_reducible exact cY _ _)))
          refine wpQuiet_nil ?_
          intro W2 hw2
          have B10 := Lib.hid (Below.then' BR.out (below_of_re hw2))
          clear hw2 cX cY k0 k1
          go_wp2
          go_roundw
          case rel => exact ⟨k + 1, by omega, by go_num, by rw [HL2.out], B10.out⟩
          case measure => simp [intOf]; omega
        · obtain rfl : k = D.length := by omega
          have n5 : (liftTo D D.length != s) = false := by rw [LT.out]; simp
          clear hbel
          go_wp2
          go_meet
          exact Below.then' B9.out BR.out
  case rest =>
    have B7 := Lib.hid hcut
    clear hcut n1 n2 n3 n4 hqq NS
    go_wp2_with fail
    refine (drawLevelAt_any _ _ _ _ (I.out.below B7.out)).mono ?_
    rintro e w8 ⟨a2, c2, X, r, c, rfl, h1, h2, hs, hb⟩
    have B8 := Lib.hid (Below.then' B7.out hb)
    have S8 := Lib.hid hs
    have CX := Lib.hid (cond_small h1 h2)
    obtain ⟨lv, hlv⟩ : ∃ n, LevelAt_0 X r c = n := ⟨_, rfl⟩
    obtain ⟨p, hp⟩ : ∃ n, LevelAt_1 X r c = n := ⟨_, rfl⟩
    have LV := Lib.hid hlv
    have PP := Lib.hid hp
    clear hb hs h1 h2 hlv hp
    go_wp2_with fail
    refine (implLevelAt_any _ _ _ X r c _ S8.out).mono ?_
    rintro e w9 ⟨rfl, hb⟩
    rw [LV.out, PP.out]
    have B9 := Lib.hid (Below.then' B8.out hb)
    have S9 := Lib.hid (S8.out.below hb)
    clear hb
    go_wp2_with fail
    refine (specLevelAt_any _ _ _ X r c _ S9.out CX.out).mono ?_
    rintro e w10 ⟨rfl, hb⟩
    rw [LV.out, PP.out]
    have B10 := Lib.hid (Below.then' B9.out hb)
    have S10 := Lib.hid (S9.out.below hb)
    clear hb S8 S9
    have n1 : (lv != lv) = false := by simp
    have n2 := bnnV p
    go_upto_region 27 with (fail)
    go_cut [202] (fun s202 wx => s202 = .bool false ∧ Below w.heap.size w wx)
    case first =>
      cases p
      · go_wp2
        go_meet
        exact ⟨rfl, B10.out⟩
      · obtain ⟨hX, pt, hpt, hr, hcc, hle⟩ := lev_at (D := X) (r := r) (c := c) PP.out
        rw [LV.out] at hle
        obtain ⟨i, j⟩ := pt
        obtain ⟨hi1, hj1⟩ := hpt
        simp only [] at hi1 hj1 hr hcc
        obtain ⟨b, o, b', o', c', rfl, _, _, g0, g1, g2, hcells⟩ := relief_row S10.out hX hi1
        have g3 := hcells j hj1
        subst hr hcc
        have hl1 := S10.out.2.1
        have hl2 := S10.out.2.2.1
        unfold maxLen at hl2
        have x0 : (0 : Int) ≤ (i : Int) := by omega
        have x1 : (i : Int) < (X.length : Int) := by omega
        have x2 : (0 : Int) ≤ (j : Int) := by omega
        have x3 : (j : Int) < (colsN X : Int) := by omega
        obtain ⟨hh, hhh⟩ : ∃ z, hA X (i, j) = z := ⟨_, rfl⟩
        rw [hhh] at hle g3
        have n3 : ¬ lv < hh := by omega
        have n4 : decide (lv < hh) = false := by simpa using n3
        clear hcells hX hi1 hj1 hhh hle LV PP
        go_wp2
        go_meet
        exact ⟨rfl, B10.out⟩
    case rest =>
      obtain ⟨hs202, hcut2⟩ := hcut
      subst hs202
      have B11 := Lib.hid hcut2
      clear hcut2 n1 n2 LV PP S10
      go_wp2_with fail
      refine (drawSteepestSquare_any _ _ _ _ (I.out.below B11.out)).mono ?_
      rintro e w12 ⟨a3, c3, Y, rfl, h1, h2, hs, hb⟩
      have B12 := Lib.hid (Below.then' B11.out hb)
      have S12 := Lib.hid hs
      have CY := Lib.hid (cond_small h1 h2)
      obtain ⟨k, hk⟩ : ∃ n, SteepestSquare_3 Y = n := ⟨_, rfl⟩
      obtain ⟨s0, hs0⟩ : ∃ n, SteepestSquare_0 Y = n := ⟨_, rfl⟩
      obtain ⟨s1, hs1⟩ : ∃ n, SteepestSquare_1 Y = n := ⟨_, rfl⟩
      obtain ⟨s2, hs2⟩ : ∃ n, SteepestSquare_2 Y = n := ⟨_, rfl⟩
      have K := Lib.hid hk
      have E0 := Lib.hid hs0
      have E1 := Lib.hid hs1
      have E2 := Lib.hid hs2
      clear hb hs h1 h2 hk hs0 hs1 hs2
      go_wp2_with fail
      refine (implSteepestSquare_any _ _ _ Y _ S12.out).mono ?_
      rintro e w13 ⟨rfl, hb⟩
      rw [E0.out, E1.out, E2.out, K.out]
      have B13 := Lib.hid (Below.then' B12.out hb)
      have S13 := Lib.hid (S12.out.below hb)
      clear hb
      go_wp2_with fail
      refine (specSteepestSquare_any _ _ _ Y _ S13.out CY.out).mono ?_
      rintro e w14 ⟨rfl, hb⟩
      rw [E0.out, E1.out, E2.out, K.out]
      have B14 := Lib.hid (Below.then' B13.out hb)
      have S14 := Lib.hid (S13.out.below hb)
      have m0 : (s0 != s0) = false := by simp
      have m1 : (s1 != s1) = false := by simp
      have m2 : (s2 != s2) = false := by simp
      have m3 := bnnV k
      clear hb S12 S13
      cases k
      · go_wp2
        go_ret
        exact ⟨rfl, B14.out⟩
      obtain ⟨hY, ht, hnx, hru⟩ := steep_next (D := Y) K.out
      have T0 := Lib.hid (show s0 = ((topOf Y (fall Y)).1 : Int) from by rw [← E0.out]; unfold SteepestSquare_0; rw [if_pos (show steepB Y = true from K.out)])
      have T1 := Lib.hid (show s1 = ((topOf Y (fall Y)).2 : Int) from by rw [← E1.out]; unfold SteepestSquare_1; rw [if_pos (show steepB Y = true from K.out)])
      have T2 := Lib.hid (show s2 = hA Y (topOf Y (fall Y)) - hA Y (nextSq Y (topOf Y (fall Y))) from by rw [← E2.out]; unfold SteepestSquare_2; rw [if_pos (show steepB Y = true from K.out)]; rfl)
      have RU := Lib.hid hru
      have RY := Lib.hid hY
      obtain ⟨u, hu⟩ : ∃ u, topOf Y (fall Y) = u := ⟨_, rfl⟩
      have HU := Lib.hid hu
      have RU2 := Lib.hid (show runsB Y (u.1 : Int) (u.2 : Int) = true from by rw [← hu]; exact RU.out)
      have T0' := Lib.hid (show s0 = (u.1 : Int) from by rw [← hu]; exact T0.out)
      have T1' := Lib.hid (show s1 = (u.2 : Int) from by rw [← hu]; exact T1.out)
      have T2' := Lib.hid (show s2 = hA Y u - hA Y (nextSq Y u) from by rw [← hu]; exact T2.out)
      rw [hu] at ht hnx
      have N0 := Lib.hid (show NextSquare_0 Y (u.1 : Int) (u.2 : Int) = ((nextSq Y u).1 : Int) from by unfold NextSquare_0; rw [if_pos RU2.out, sqZ_nat])
      have N1 := Lib.hid (show NextSquare_1 Y (u.1 : Int) (u.2 : Int) = ((nextSq Y u).2 : Int) from by unfold NextSquare_1; rw [if_pos RU2.out, sqZ_nat])
      obtain ⟨v, hv⟩ : ∃ x, nextSq Y u = x := ⟨_, rfl⟩
      rw [hv] at hnx
      have N0' := Lib.hid (show NextSquare_0 Y (u.1 : Int) (u.2 : Int) = (v.1 : Int) from by rw [N0.out, hv])
      have N1' := Lib.hid (show NextSquare_1 Y (u.1 : Int) (u.2 : Int) = (v.2 : Int) from by rw [N1.out, hv])
      have N2' := Lib.hid (show NextSquare_2 Y (u.1 : Int) (u.2 : Int) = true from RU2.out)
      have T2v := Lib.hid (show s2 = hA Y u - hA Y v from by rw [T2'.out, hv])
      clear hu hv T0 T1 T2 RU N0 N1 T2' HU hru
      obtain ⟨i, j⟩ := u
      obtain ⟨p, r⟩ := v
      have e0 := T0'.out
      have e1 := T1'.out
      simp only [] at e0 e1 N0' N1' N2' T2v ht hnx
      clear T0' T1' RU2 E0 E1 E2 K
      subst e0 e1
      go_wp2_with fail
      refine (implNextSquare_any _ _ _ Y (i : Int) (j : Int) _ S14.out).mono ?_
      rintro e w15 ⟨rfl, hb⟩
      rw [N0'.out, N1'.out, N2'.out]
      have B15 := Lib.hid (Below.then' B14.out hb)
      have S15 := Lib.hid (S14.out.below hb)
      clear hb
      go_wp2_with fail
      refine (specNextSquare_any _ _ _ Y (i : Int) (j : Int) _ S15.out CY.out).mono ?_
      rintro e w16 ⟨rfl, hb⟩
      rw [N0'.out, N1'.out, N2'.out]
      have B16 := Lib.hid (Below.then' B15.out hb)
      have S16 := Lib.hid (S15.out.below hb)
      have q0 : ((p : Int) != (p : Int)) = false := by simp
      have q1 : ((r : Int) != (r : Int)) = false := by simp
      obtain ⟨hi1, hj1⟩ := ht
      obtain ⟨hp1, hr1⟩ := hnx
      simp only [] at hi1 hj1 hp1 hr1
      obtain ⟨b, o, b', o', c', rfl, _, _, g0, g1, g2, hcells⟩ := relief_row S16.out hY hi1
      have g3 := hcells j hj1
      obtain ⟨b2, o2, b2', o2', c2', e2, _, _, k0, k1, k2, hcells2⟩ := relief_row S16.out hY hp1
      simp only [Option.some.injEq, Addr.mk.injEq, and_true] at e2
      obtain ⟨rfl, rfl⟩ := e2
      have k3 := hcells2 r hr1
      obtain ⟨_, _, _, _, y0, y1⟩ := hY.at (p := (i, j)) ⟨hi1, hj1⟩
      obtain ⟨_, _, _, _, y2, y3⟩ := hY.at (p := (p, r)) ⟨hp1, hr1⟩
      have hl1 := S16.out.2.1
      have hl2 := S16.out.2.2.1
      unfold maxLen at hl2
      obtain ⟨g, hg⟩ : ∃ z, hA Y (i, j) = z := ⟨_, rfl⟩
      obtain ⟨d, hd⟩ : ∃ z, hA Y (p, r) = z := ⟨_, rfl⟩
      have T3 := Lib.hid (show s2 = g - d from by rw [T2v.out, hg, hd])
      rw [hg] at g3 y0 y1
      rw [hd] at k3 y2 y3
      have x0 : (0 : Int) ≤ (i : Int) := by omega
      have x1 : (i : Int) < (Y.length : Int) := by omega
      have x2 : (0 : Int) ≤ (j : Int) := by omega
      have x3 : (j : Int) < (colsN Y : Int) := by omega
      have x4 : (0 : Int) ≤ (p : Int) := by omega
      have x5 : (p : Int) < (Y.length : Int) := by omega
      have x6 : (0 : Int) ≤ (r : Int) := by omega
      have x7 : (r : Int) < (colsN Y : Int) := by omega
      have v1 : IntKind.i64.wrap (g - d) = g - d := IntWalk.i64_in _ (by omega)
      have e5 : (g - d == s2) = true := by rw [T3.out]; simp
      clear hcells hcells2 hY hi1 hj1 hp1 hr1 hg hd T2v N0' N1' N2' m0 m1 m2 m3 S14 S15
      go_wp2
      go_quiet (fail)
      have B17 := Lib.hid (Below.then' B16.out (bel_drawn w16 nq))
      go_wp2
      go_ret
      exact ⟨rfl, B17.out⟩

theorem own : ownKnob Try.prog.godebug = none := by kernel_rfl
theorem laidOut : laidOutB Try.prog = true := by kernel_rfl
set_option maxRecDepth 100000 in
theorem lifted (os : Os) (started : os.Started) (H : Type) (enc : TypeId × Value → H) :
    ReturnsInHanded {} Try.checked os 4 .any (Rows.fnLevelsSpec.pre6 enc Try.prog Try.f4 Rows.fnLevelsRow.domain false) (Rows.fnLevelsSpec.post enc Try.prog Try.f4 false true false false) := by
  refine returnsInHanded_of_change (C := Try.checked) own started (by kernel_rfl) Try.func4
    (ChangeSpec.witness6 (enc := enc) (C := Try.checked) false ⟨#[], #[.slice none 0 0], []⟩ 8 (by kernel_rfl) (by kernel_rfl) (by kernel_rfl) (by kernel_rfl)) ?_
  intro W base args ds gs before hval0 hW hcnd _
  have hval : ∀ (j : Nat) t v, Try.f4.params[j]? = some t → args[j]? = some v → Value.okWide Try.prog W .any base t v := hval0
  have hW' := hW
  obtain ⟨p, q, hA0, hV, rfl, hfz, hnd⟩ := hW
  have hA : DataW.TrodAll enc Try.prog W 0 (fun _ => true) true Try.f4.params.toList args.toList ds p := hA0
  rw [Try.params4] at hA hval
  obtain ⟨v0, vs0, d0, ds0, p0, q0, hargs, rfl, rfl, h0, r0⟩ := trodAll_cons hA
  obtain ⟨rfl, rfl, rfl⟩ := trodAll_nil r0
  obtain rfl : args = #[v0] := by cases args; simp_all
  obtain ⟨rfl, rfl⟩ := trodVars_none hV
  obtain ⟨a0, len0, cap0, rfl⟩ := okWide_slice Try.underlying22 (hval 0 22 v0 rfl rfl)
  have k0 := h0
  have lt0 : ∀ x ∈ p0, x.block < W.heap.size := by obtain ⟨m, hm⟩ := k0; exact DataW.trod_lt m _ _ _ hm
  obtain ⟨z0, w0⟩ : ∃ zs, IsRow .u8 W a0 len0 cap0 zs := by
    obtain ⟨fuel, hf⟩ := h0
    rcases open_ints Try.underlying22 Try.underlying5 (by kernel_rfl) hf with ⟨hcs, _⟩ | ⟨x, l, c, zs, hcs, _, hl, hm, hz, _, hcell, hwz⟩
    · simp [Value.cells] at hcs
      obtain ⟨rfl, rfl, rfl⟩ := hcs
      exact ⟨[], .inl ⟨rfl, rfl, rfl, rfl⟩⟩
    · simp [Value.cells] at hcs
      obtain ⟨rfl, rfl, rfl⟩ := hcs
      exact ⟨zs, .inr ⟨_, rfl, hl, hm, by simpa using hz, hcell, hwz⟩⟩
  clear hA0 hval0
  refine (walk a0 len0 cap0 z0 W w0).mono fun e W' ⟨he, bel⟩ => ?_
  subst he
  exact ⟨_, rfl, _, _, _, [], _, [], hW', trodAll_mk1 (shut_bool Try.underlying4 _), (trodAll_cons_mk (Below.trod laidOut (by kernel_rfl) (of_decide_eq_true (by kernel_rfl)) k0 bel lt0) trodAll_mk0), rfl, bel.frame _, fun h => by cases h⟩
theorem over : Rows.fnLevelsRow.holds Try.pinned (OpenSpec.ofChange Rows.fnLevelsSpec) :=
  OpenClaim.holds_of_wide 4 Try.f4 rfl rfl rfl rfl rfl rfl rfl ⟨rfl, rfl, rfl, rfl, rfl⟩ rfl rfl rfl rfl rfl (by kernel_rfl) Try.func4 (by kernel_rfl)
    (of_decide_eq_true (by kernel_rfl)) (by unfold Func.isWrapper; first | (rw [if_pos (by decide +kernel)]; kernel_rfl) | (rw [if_neg (by decide +kernel)]; exact ⟨rfl, rfl⟩))
    (fun os started H enc _ => lifted os started H enc)
theorem proved : Rows.FnLevelsSaid := over
#print axioms proved
end Go.Proofs.Ytpnaciamnigbnaa.fnLevels
