/- FnTurns: for every code the law returns true and leaves it as it was. No condition. -/
import Derived.Test.YtghgipadogdfiaaRows
import Derived.Test.YtghgipadogdfiaaTn
import Derived.Test.YtghgipadogdfiaaTnDr2
import Derived.Test.YtghgipadogdfiaaPi7
import Derived.Test.YtghgipadogdfiaaPi11
import Derived.ProofKit
import Derived.OpenShut
import Derived.ShutString
import Derived.ChangeOld
import Derived.Carry
import Derived.Deep.DeepCutAuto
namespace Go.Proofs.Ytghgipadogdfiaa.fnTurns
open Go.ChangeShapes Go.WideShapes Go.ChangeAt Go.RowKit
set_option linter.unusedVariables false

theorem vBig_any (a : Option Addr) (len cap : Nat) (w : World) :
    Calls Try.prog 14 #[.slice a len cap] w fun e w' => e = .returned (.bool (decide (65536 < len))) ∧ w = w' := by
  by_cases h : 65536 < len
  · go_enter Try.func14, Try.ntmps14
    go_wp2
    go_ret
    exact ⟨ret_bool (by simp; omega), rfl⟩
  · go_enter Try.func14, Try.ntmps14
    go_wp2
    go_ret
    exact ⟨ret_bool (by simp; omega), rfl⟩

set_option maxHeartbeats 12800000 in
set_option maxRecDepth 100000 in
theorem walk (a0 : Option Addr) (len0 cap0 : Nat) (z0 : List Int) (w : World) (w0 : IsRow .u8 w a0 len0 cap0 z0) :
    Calls Try.prog 3 #[.slice a0 len0 cap0] w fun e w' => e = .returned (.bool true) ∧ Below w.heap.size w w' := by
  have I := Lib.hid (CodeIn.of_row w0)
  clear w0
  by_cases hbig : 65536 < len0
  · have hd : decide (65536 < len0) = true := by simpa using hbig
    go_enter Try.func3, Try.ntmps3
    go_wp2_with fail
    refine (vBig_any _ _ _ _).mono ?_
    rw [hd]
    rintro e w' ⟨rfl, rfl⟩
    go_wp2
    go_ret
    exact ⟨rfl, Below.refl _ _⟩
  have hd : decide (65536 < len0) = false := by simp; omega
  go_enter Try.func3, Try.ntmps3
  go_wp2_with fail
  refine (vBig_any _ _ _ _).mono ?_
  rw [hd]
  rintro e w' ⟨rfl, rfl⟩
  clear hd hbig
  go_wp2_with fail
  refine (drawTurnPlace_any _ _ _ _ I.out).mono ?_
  rintro e w1 ⟨a1, c1, xs, x, y, rfl, hx, hs, hb⟩
  have B1 := Lib.hid hb
  have S1 := Lib.hid hs
  have hx2 : xs.length ≤ 1048576 := by omega
  clear hb hs
  obtain ⟨T, hT⟩ : ∃ T, TurnPlace_0 xs x y = T := ⟨_, rfl⟩
  obtain ⟨q, hq⟩ : ∃ q, TurnPlace_1 xs x y = q := ⟨_, rfl⟩
  have THERE := Lib.hid (@turn_there xs x y)
  rw [hT, hq] at THERE
  go_wp2_with fail
  refine (implTurnPlace_any _ _ _ xs x y _ S1.out hx2).mono ?_
  rintro e w2 ⟨rfl, hb⟩
  rw [hT, hq]
  have B2 := Lib.hid (Below.then' B1.out hb)
  have S2 := Lib.hid (S1.out.below hb)
  have X6 := Lib.hid (BoxSpot.new w2 28 T _ rfl)
  have B2' := Lib.hid (Below.then' B2.out (bel_al1 w2 (.cells #[.int .i64 T.X, .int .i64 T.Y, .int .i64 T.Den] 28)))
  have S2' := Lib.hid (S2.out.below (bel_al1 w2 (.cells #[.int .i64 T.X, .int .i64 T.Y, .int .i64 T.Den] 28)))
  clear hb
  go_wp2_with fail
  refine (specTurnPlace_any _ _ _ xs x y _ S2'.out hx2).mono ?_
  rintro e w3 ⟨rfl, hb⟩
  rw [hT, hq]
  have hb2 := Below.then' hb (bel_al1 w3 (.cells #[.int .i64 T.X, .int .i64 T.Y, .int .i64 T.Den] 28))
  have B3 := Lib.hid (Below.then' B2'.out hb2)
  have S3 := Lib.hid (S2'.out.below hb2)
  have X6' := Lib.hid (X6.out.below hb2)
  have X8 := Lib.hid (BoxSpot.new w3 28 T _ rfl)
  obtain ⟨d0, d1, d2⟩ := X6'.out
  obtain ⟨e0, e1, e2⟩ := X8.out
  have hqq : (q != q) = false := by simp
  have HQ := Lib.hid hq
  clear hb hb2 hq hT
  go_upto_region 8 with (fail)
  go_cut [91] (fun c wx => c = .bool (q && isPl T) ∧ wx = w3.alloc (.cells #[.int .i64 T.X, .int .i64 T.Y, .int .i64 T.Den] 28))
  case first => as_aux_lemma =>
    cases q
    · go_wp2
      go_meet
      exact ⟨rfl, rfl⟩
    by_cases h1 : T.Den = 1
    case neg =>
      have h1' : (T.Den == 1) = false := by simpa using h1
      have E := Lib.hid (show isPl T = false by unfold isPl; rw [decide_eq_false h1]; rfl)
      go_wp2
      go_meet
      exact ⟨congrArg Value.bool (by rw [E.out]; rfl), rfl⟩
    have h1' : (T.Den == 1) = true := by simpa using h1
    have H1 := Lib.hid h1
    clear h1
    by_cases h2 : 0 ≤ T.X
    case neg =>
      have E := Lib.hid (show isPl T = false by unfold isPl; rw [decide_eq_false h2]; simp)
      go_wp2
      go_meet
      exact ⟨congrArg Value.bool (by rw [E.out]; rfl), rfl⟩
    by_cases h3 : T.X ≤ 99999
    case neg =>
      have E := Lib.hid (show isPl T = false by unfold isPl; rw [decide_eq_false h3]; simp)
      go_wp2
      go_meet
      exact ⟨congrArg Value.bool (by rw [E.out]; rfl), rfl⟩
    by_cases h4 : 0 ≤ T.Y
    case neg =>
      have E := Lib.hid (show isPl T = false by unfold isPl; rw [decide_eq_false h4]; simp)
      go_wp2
      go_meet
      exact ⟨congrArg Value.bool (by rw [E.out]; rfl), rfl⟩
    by_cases h5 : T.Y ≤ 99999
    case neg =>
      have E := Lib.hid (show isPl T = false by unfold isPl; rw [decide_eq_false h5]; simp)
      go_wp2
      go_meet
      exact ⟨congrArg Value.bool (by rw [E.out]; rfl), rfl⟩
    have E := Lib.hid (show isPl T = true by unfold isPl; rw [decide_eq_true H1.out, decide_eq_true h2, decide_eq_true h3, decide_eq_true h4, decide_eq_true h5]; rfl)
    go_wp2
    go_meet
    exact ⟨congrArg Value.bool (by rw [E.out]; rfl), rfl⟩
  case rest =>
    obtain ⟨rfl, rfl⟩ := hcut
    have BW := Lib.hid (show Below w.heap.size w (w3.alloc (.cells #[.int .i64 T.X, .int .i64 T.Y, .int .i64 T.Den] 28)) from B3.out)
    obtain ⟨W, hW⟩ : ∃ W, w3.alloc (.cells #[.int .i64 T.X, .int .i64 T.Y, .int .i64 T.Den] 28) = W := ⟨_, rfl⟩
    rw [hW] at BW S3 X6' d0 d1 d2 ⊢
    clear hW e0 e1 e2 X8
    obtain ⟨g, hg⟩ : ∃ g, (q && isPl T) = g := ⟨_, rfl⟩
    have GG := Lib.hid hg
    rw [hg]
    clear hg
    go_upto_if 91 with (fail)
    go_cut [10, 11] (fun s10 s11 wx => Below W.heap.size W wx)
    case first => as_aux_lemma =>
      cases g
      · go_wp2
        go_meet
        exact Below.refl _ _
      · have hqp : q = true ∧ isPl T = true := by have := GG.out; simpa using this
        obtain ⟨t0, t1⟩ := THERE.out hqp.1 hqp.2
        have T0 := Lib.hid t0
        have T1 := Lib.hid t1
        clear t0 t1 hqp
        go_wp2_with fail
        refine (implTurnBack_any _ _ _ xs T.X T.Y _ S3.out hx2).mono ?_
        rintro e w4 ⟨rfl, hb⟩
        rw [T0.out, T1.out]
        dsimp only
        have B4 := Lib.hid (Below.then' hb (bel_al1 w4 (.cells #[.int .i64 x, .int .i64 y, .int .i64 1] 28)))
        have XN := BoxSpot.new w4 28 ⟨x, y, 1⟩ _ rfl
        obtain ⟨f0, f1, f2⟩ := XN
        dsimp only at f0 f1 f2
        clear hb
        go_wp2
        go_meet
        exact B4.out
    case rest =>
      have B4 := Lib.hid (Below.then' BW.out hcut)
      have S4 := Lib.hid (S3.out.below hcut)
      clear hcut THERE d0 d1 d2 X6' X6 BW S3 S2 S2' S1 B1 B2 B2' B3
      obtain ⟨F, hF⟩ : ∃ T, TurnBack_0 xs x y = T := ⟨_, rfl⟩
      obtain ⟨r, hr⟩ : ∃ q, TurnBack_1 xs x y = q := ⟨_, rfl⟩
      have FROM := Lib.hid (@turn_from xs x y)
      rw [hF, hr] at FROM
      have RQ := Lib.hid (show r = q by rw [← hr, ← HQ.out]; rfl)
      go_wp2_with fail
      refine (implTurnBack_any _ _ _ xs x y _ S4.out hx2).mono ?_
      rintro e w5 ⟨rfl, hb⟩
      rw [hF, hr, RQ.out]
      have hb2 := Below.then' hb (bel_al1 w5 (.cells #[.int .i64 F.X, .int .i64 F.Y, .int .i64 F.Den] 28))
      have B5 := Lib.hid (Below.then' B4.out hb2)
      have S5 := Lib.hid (S4.out.below hb2)
      have X12 := Lib.hid (BoxSpot.new w5 28 F _ rfl)
      clear hb hb2
      go_wp2_with fail
      refine (specTurnBack_any _ _ _ xs x y _ S5.out hx2).mono ?_
      rintro e w6 ⟨rfl, hb⟩
      rw [hF, hr, RQ.out]
      have hb2 := Below.then' hb (bel_al1 w6 (.cells #[.int .i64 F.X, .int .i64 F.Y, .int .i64 F.Den] 28))
      have B6 := Lib.hid (Below.then' B5.out hb2)
      have S6 := Lib.hid (S5.out.below hb2)
      have X12' := Lib.hid (X12.out.below hb2)
      have X14 := Lib.hid (BoxSpot.new w6 28 F _ rfl)
      obtain ⟨d0, d1, d2⟩ := X12'.out
      obtain ⟨e0, e1, e2⟩ := X14.out
      have RQ1 := RQ.out
      rw [RQ1] at FROM
      clear hb hb2 hF hr RQ1
      go_upto_region 16 with (fail)
      go_cut [172] (fun c wx => c = .bool (q && isPl F) ∧ wx = w6.alloc (.cells #[.int .i64 F.X, .int .i64 F.Y, .int .i64 F.Den] 28))
      case first => as_aux_lemma =>
        cases q
        · go_wp2
          go_meet
          exact ⟨rfl, rfl⟩
        by_cases h1 : F.Den = 1
        case neg =>
          have h1' : (F.Den == 1) = false := by simpa using h1
          have E := Lib.hid (show isPl F = false by unfold isPl; rw [decide_eq_false h1]; rfl)
          go_wp2
          go_meet
          exact ⟨congrArg Value.bool (by rw [E.out]; rfl), rfl⟩
        have h1' : (F.Den == 1) = true := by simpa using h1
        have H1 := Lib.hid h1
        clear h1
        by_cases h2 : 0 ≤ F.X
        case neg =>
          have E := Lib.hid (show isPl F = false by unfold isPl; rw [decide_eq_false h2]; simp)
          go_wp2
          go_meet
          exact ⟨congrArg Value.bool (by rw [E.out]; rfl), rfl⟩
        by_cases h3 : F.X ≤ 99999
        case neg =>
          have E := Lib.hid (show isPl F = false by unfold isPl; rw [decide_eq_false h3]; simp)
          go_wp2
          go_meet
          exact ⟨congrArg Value.bool (by rw [E.out]; rfl), rfl⟩
        by_cases h4 : 0 ≤ F.Y
        case neg =>
          have E := Lib.hid (show isPl F = false by unfold isPl; rw [decide_eq_false h4]; simp)
          go_wp2
          go_meet
          exact ⟨congrArg Value.bool (by rw [E.out]; rfl), rfl⟩
        by_cases h5 : F.Y ≤ 99999
        case neg =>
          have E := Lib.hid (show isPl F = false by unfold isPl; rw [decide_eq_false h5]; simp)
          go_wp2
          go_meet
          exact ⟨congrArg Value.bool (by rw [E.out]; rfl), rfl⟩
        have E := Lib.hid (show isPl F = true by unfold isPl; rw [decide_eq_true H1.out, decide_eq_true h2, decide_eq_true h3, decide_eq_true h4, decide_eq_true h5]; rfl)
        go_wp2
        go_meet
        exact ⟨congrArg Value.bool (by rw [E.out]; rfl), rfl⟩
      case rest =>
        obtain ⟨rfl, rfl⟩ := hcut
        have BW := Lib.hid (show Below w.heap.size w (w6.alloc (.cells #[.int .i64 F.X, .int .i64 F.Y, .int .i64 F.Den] 28)) from B6.out)
        obtain ⟨V, hV⟩ : ∃ V, w6.alloc (.cells #[.int .i64 F.X, .int .i64 F.Y, .int .i64 F.Den] 28) = V := ⟨_, rfl⟩
        rw [hV] at BW S6 X12' d0 d1 d2 ⊢
        clear hV e0 e1 e2 X14
        obtain ⟨g2, hg2⟩ : ∃ g, (q && isPl F) = g := ⟨_, rfl⟩
        have GG2 := Lib.hid hg2
        rw [hg2]
        clear hg2
        go_upto_if 172 with (fail)
        go_cut [16, 17] (fun s16 s17 wx => Below V.heap.size V wx)
        case first => as_aux_lemma =>
          cases g2
          · go_wp2
            go_meet
            exact Below.refl _ _
          · have hqp : q = true ∧ isPl F = true := by have := GG2.out; simpa using this
            obtain ⟨t0, t1⟩ := FROM.out hqp.1 hqp.2
            have T0 := Lib.hid t0
            have T1 := Lib.hid t1
            clear t0 t1 hqp
            go_wp2_with fail
            refine (implTurnPlace_any _ _ _ xs F.X F.Y _ S6.out hx2).mono ?_
            rintro e w7 ⟨rfl, hb⟩
            rw [T0.out, T1.out]
            dsimp only
            have B7 := Lib.hid (Below.then' hb (bel_al1 w7 (.cells #[.int .i64 x, .int .i64 y, .int .i64 1] 28)))
            have XN := BoxSpot.new w7 28 ⟨x, y, 1⟩ _ rfl
            obtain ⟨f0, f1, f2⟩ := XN
            dsimp only at f0 f1 f2
            clear hb
            go_wp2
            go_meet
            exact B7.out
        case rest =>
          have B7 := Lib.hid (Below.then' BW.out hcut)
          clear hcut FROM d0 d1 d2 X12' X12 BW S6 S5 S4
          go_wp2_with fail
          refine (drawSameChains_any _ _ _ _ (I.out.below B7.out)).mono ?_
          rintro e w8 ⟨a8, c8, a9, c9, us, vs, rfl, hu, hv, hsu, hsv, hb⟩
          have B8 := Lib.hid (Below.then' B7.out hb)
          have U8 := Lib.hid hsu
          have V8 := Lib.hid hsv
          have hu2 : us.length ≤ 1048576 := by omega
          have hv2 : vs.length ≤ 1048576 := by omega
          have SAME := Lib.hid (@same_all us vs)
          obtain ⟨m, hm⟩ : ∃ m, SameChains_0 us vs = m := ⟨_, rfl⟩
          obtain ⟨f, hf⟩ : ∃ m, SameChains_1 us vs = m := ⟨_, rfl⟩
          rw [hm] at SAME
          clear hb hsu hsv
          go_wp2_with fail
          refine (implSameChains_any _ _ _ us _ _ _ vs _ U8.out hu2 V8.out hv2).mono ?_
          rintro e w9 ⟨rfl, hb⟩
          rw [hm, hf]
          have B9 := Lib.hid (Below.then' B8.out hb)
          have U9 := Lib.hid (U8.out.below hb)
          have V9 := Lib.hid (V8.out.below hb)
          clear hb
          go_wp2_with fail
          refine (specSameChains_any _ _ _ us _ _ _ vs _ U9.out hu2 V9.out hv2).mono ?_
          rintro e w10 ⟨rfl, hb⟩
          rw [hm, hf]
          have B10 := Lib.hid (Below.then' B9.out hb)
          have U10 := Lib.hid (U9.out.below hb)
          have V10 := Lib.hid (V9.out.below hb)
          have hmm : (m != m) = false := by simp
          have hff : (f != f) = false := by simp
          clear hb hm hf
          cases m
          · go_wp2
            go_ret
            exact ⟨rfl, B10.out⟩
          · as_aux_lemma =>
            obtain ⟨k0, k1, k2, k3, k4, k5, k6, k7⟩ := SAME.out rfl
            have K0 := Lib.hid k0
            have K1 := Lib.hid k1
            have K2 := Lib.hid k2
            have K3 := Lib.hid k3
            have K4 := Lib.hid k4
            have K5 := Lib.hid k5
            have K6 := Lib.hid k6
            have K7 := Lib.hid k7
            clear k0 k1 k2 k3 k4 k5 k6 k7
            obtain ⟨P, hP⟩ : ∃ P, TurnPlace_0 vs 7 11 = P := ⟨_, rfl⟩
            obtain ⟨n0, hn0⟩ : ∃ P, StretchOf_0 vs = P := ⟨_, rfl⟩
            obtain ⟨n1, hn1⟩ : ∃ P, StretchOf_1 vs = P := ⟨_, rfl⟩
            obtain ⟨n2, hn2⟩ : ∃ P, StretchOf_2 vs = P := ⟨_, rfl⟩
            have HP := Lib.hid hP
            have N0 := Lib.hid hn0
            have N1 := Lib.hid hn1
            have N2 := Lib.hid hn2
            clear hP hn0 hn1 hn2
            go_wp2_with fail
            refine (implTurnPlace_any _ _ _ us 7 11 _ U10.out hu2).mono ?_
            rintro e w11 ⟨rfl, hb⟩
            rw [K0.out, HP.out, K1.out]
            have hb2 := Below.then' hb (bel_al1 w11 (.cells #[.int .i64 P.X, .int .i64 P.Y, .int .i64 P.Den] 28))
            have B11 := Lib.hid (Below.then' B10.out hb2)
            have U11 := Lib.hid (U10.out.below hb2)
            have V11 := Lib.hid (V10.out.below hb2)
            have Y1 := Lib.hid (BoxSpot.new w11 28 P _ rfl)
            clear hb hb2
            go_wp2_with fail
            refine (implTurnPlace_any _ _ _ vs 7 11 _ V11.out hv2).mono ?_
            rintro e w12 ⟨rfl, hb⟩
            rw [HP.out, K2.out]
            have hb2 := Below.then' hb (bel_al1 w12 (.cells #[.int .i64 P.X, .int .i64 P.Y, .int .i64 P.Den] 28))
            have B12 := Lib.hid (Below.then' B11.out hb2)
            have U12 := Lib.hid (U11.out.below hb2)
            have V12 := Lib.hid (V11.out.below hb2)
            have Y1' := Lib.hid (Y1.out.below hb2)
            have Y2 := Lib.hid (BoxSpot.new w12 28 P _ rfl)
            clear hb hb2
            go_wp2_with fail
            refine (implStretchOf_any _ _ _ us _ U12.out hu2).mono ?_
            rintro e w13 ⟨rfl, hb⟩
            rw [K3.out, K4.out, K5.out, K6.out, N0.out, N1.out, N2.out]
            have B13 := Lib.hid (Below.then' B12.out hb)
            have V13 := Lib.hid (V12.out.below hb)
            have Y3 := Lib.hid (Y1'.out.below hb)
            have Y4 := Lib.hid (Y2.out.below hb)
            clear hb
            go_wp2_with fail
            refine (implStretchOf_any _ _ _ vs _ V13.out hv2).mono ?_
            rintro e w14 ⟨rfl, hb⟩
            rw [N0.out, N1.out, N2.out, K7.out]
            have B14 := Lib.hid (Below.then' B13.out hb)
            obtain ⟨d0, d1, d2⟩ := Y3.out.below hb
            obtain ⟨e0, e1, e2⟩ := Y4.out.below hb
            have z0 : (n0 != n0) = false := by simp
            have z1 : (n1 != n1) = false := by simp
            have z2 : (n2 != n2) = false := by simp
            clear hb
            go_wp2
            go_ret
            exact ⟨rfl, B14.out⟩

theorem own : ownKnob Try.prog.godebug = none := by kernel_rfl
theorem laidOut : laidOutB Try.prog = true := by kernel_rfl
set_option maxRecDepth 100000 in
theorem lifted (os : Os) (started : os.Started) (H : Type) (enc : TypeId × Value → H) :
    ReturnsInHanded {} Try.checked os 3 .any (Rows.fnTurnsSpec.pre6 enc Try.prog Try.f3 Rows.fnTurnsRow.domain false) (Rows.fnTurnsSpec.post enc Try.prog Try.f3 false true false false) := by
  refine returnsInHanded_of_change (C := Try.checked) own started (by kernel_rfl) Try.func3
    (ChangeSpec.witness6 (enc := enc) (C := Try.checked) false ⟨#[], #[.slice none 0 0], []⟩ 8 (by kernel_rfl) (by kernel_rfl) (by kernel_rfl) (by kernel_rfl)) ?_
  intro W base args ds gs before hval0 hW hcnd _
  have hval : ∀ (j : Nat) t v, Try.f3.params[j]? = some t → args[j]? = some v → Value.okWide Try.prog W .any base t v := hval0
  have hW' := hW
  obtain ⟨p, q, hA0, hV, rfl, hfz, hnd⟩ := hW
  have hA : DataW.TrodAll enc Try.prog W 0 (fun _ => true) true Try.f3.params.toList args.toList ds p := hA0
  rw [Try.params3] at hA hval
  obtain ⟨v0, vs0, d0, ds0, p0, q0, hargs, rfl, rfl, h0, r0⟩ := trodAll_cons hA
  obtain ⟨rfl, rfl, rfl⟩ := trodAll_nil r0
  obtain rfl : args = #[v0] := by cases args; simp_all
  obtain ⟨rfl, rfl⟩ := trodVars_none hV
  obtain ⟨a0, len0, cap0, rfl⟩ := okWide_slice Try.underlying22 (hval 0 22 v0 rfl rfl)
  have k0 := h0
  have lt0 : ∀ x ∈ p0, x.block < W.heap.size := by obtain ⟨m, hm⟩ := k0; exact DataW.trod_lt m _ _ _ hm
  obtain ⟨z0, w0⟩ : ∃ zs, IsRow .u8 W a0 len0 cap0 zs := by
    obtain ⟨fuel, hf⟩ := h0
    rcases open_ints Try.underlying22 Try.underlying5 (by kernel_rfl) hf with ⟨hcs, _⟩ | ⟨x, l, c, zs, hcs, _, hl, hm, hz, _, hcell, hwz⟩
    · simp [Value.cells] at hcs
      obtain ⟨rfl, rfl, rfl⟩ := hcs
      exact ⟨[], .inl ⟨rfl, rfl, rfl, rfl⟩⟩
    · simp [Value.cells] at hcs
      obtain ⟨rfl, rfl, rfl⟩ := hcs
      exact ⟨zs, .inr ⟨_, rfl, hl, hm, by simpa using hz, hcell, hwz⟩⟩
  clear hA0 hval0
  refine (walk a0 len0 cap0 z0 W w0).mono fun e W' ⟨he, bel⟩ => ?_
  subst he
  exact ⟨_, rfl, _, _, _, [], _, [], hW', trodAll_mk1 (shut_bool Try.underlying4 _), (trodAll_cons_mk (Below.trod laidOut (by kernel_rfl) (of_decide_eq_true (by kernel_rfl)) k0 bel lt0) trodAll_mk0), rfl, bel.frame _, fun h => by cases h⟩
theorem over : Rows.fnTurnsRow.holds Try.pinned (OpenSpec.ofChange Rows.fnTurnsSpec) :=
  OpenClaim.holds_of_wide 3 Try.f3 rfl rfl rfl rfl rfl rfl rfl ⟨rfl, rfl, rfl, rfl, rfl⟩ rfl rfl rfl rfl rfl (by kernel_rfl) Try.func3 (by kernel_rfl)
    (of_decide_eq_true (by kernel_rfl)) (by unfold Func.isWrapper; first | (rw [if_pos (by decide +kernel)]; kernel_rfl) | (rw [if_neg (by decide +kernel)]; exact ⟨rfl, rfl⟩))
    (fun os started H enc _ => lifted os started H enc)
theorem proved : Rows.FnTurnsSaid := over
#print axioms proved
end Go.Proofs.Ytghgipadogdfiaa.fnTurns
