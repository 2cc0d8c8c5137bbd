/- FnReaderTexts: for every code the law returns true and leaves it as it was. No condition. -/
import Derived.Test.YtidaoijpbdljbabGreatDoorCards
import Derived.Test.YtidaoijpbdljbabGreatDoorTie
import Derived.Test.YtidaoijpbdljbabGreatDoorM10
import Derived.Test.YtidaoijpbdljbabGreatDoorM11
import Derived.Test.YtidaoijpbdljbabGreatDoorM6
import Derived.Test.YtidaoijpbdljbabGreatDoorM12
import Derived.ProofKit
import Derived.OpenShut
import Derived.ShutString
import Derived.ChangeOld
import Derived.Carry
import Derived.Deep.DeepHandedRow
import Derived.LaidMore
import Derived.Deep.DeepCutAuto
namespace Go.Proofs.YtidaoijpbdljbabGreatDoor.fnReaderTexts
open Go.ChangeShapes Go.WideShapes Go.ChangeAt Go.RowKit
set_option linter.unusedVariables false

theorem cell_keeps {w w' : World} {b o : Nat} {v : Value} (h : w.cell? ⟨b, o, none⟩ = some v) (hb : Below w.heap.size w w') : w'.cell? ⟨b, o, none⟩ = some v := (hb.cell (p := ⟨b, o, none⟩) (World.lt_of_cell h)).trans h
set_option maxHeartbeats 12800000 in
set_option maxRecDepth 100000 in
theorem walk (a0 : Option Addr) (len0 cap0 : Nat) (z0 : List Int) (w : World) (w0 : IsRow .u8 w a0 len0 cap0 z0) (hL : laidMetH Tryz.prog Rows.fnReaderTextsRow.laid w) (hS : w.ShapedOpen Tryz.prog) :
    Calls Tryz.prog 3 #[.slice a0 len0 cap0] w fun e w' => e = .returned (.bool true) ∧ Below w.heap.size w w' := by
  have TP := Lib.hid (tabPow_of hL)
  obtain ⟨xm, hxm⟩ := Tryz.laysM145.s1_3 w hS
  have HX := Lib.hid hxm
  clear hL hS hxm
  have I := Lib.hid (CodeIn.of_row w0)
  clear w0
  by_cases hbig : 65536 < len0
  · have hd : decide (65536 < len0) = true := by simpa using hbig
    go_enter Tryz.func3, Tryz.ntmps3
    go_wp2_with fail
    refine (rBig_any _ _ _ _).mono ?_
    rw [hd]
    rintro e w' ⟨rfl, rfl⟩
    go_wp2
    go_ret
    exact ⟨rfl, Below.refl _ _⟩
  have hd : decide (65536 < len0) = false := by simp; omega
  go_enter Tryz.func3, Tryz.ntmps3
  go_wp2_with fail
  refine (rBig_any _ _ _ _).mono ?_
  rw [hd]
  rintro e w' ⟨rfl, rfl⟩
  clear hd hbig
  go_wp2_with fail
  refine (drawReaderText_any _ _ _ _ I.out).mono ?_
  rintro e w1 ⟨r, rfl, hr, hb⟩
  have RS := Lib.hid hr
  have X1 := Lib.hid (BoxReader.new w1 25 r _ rfl)
  have B1 := Lib.hid (Below.then' hb (bel_al1 w1 (.cells #[.int .i64 r.Id, .string r.Name, .int .i64 r.Joined, .int .i64 r.Class, .int .i64 r.Fines] 25)))
  obtain ⟨s, hs⟩ : ∃ s, ReaderText_0 r = s := ⟨_, rfl⟩
  obtain ⟨ok, hok⟩ : ∃ s, ReaderText_1 r = s := ⟨_, rfl⟩
  have SZ := Lib.hid (show s.size ≤ 60 by rw [← hs]; exact ReaderText_0_size r)
  have BACK := Lib.hid (@text_back r)
  rw [hs, hok] at BACK
  have OKR := Lib.hid (show r.ok = ok from hok)
  obtain ⟨c0, c1, c2, c3, c4⟩ := X1.out
  clear hr hb
  go_wp2_with fail
  refine (implReaderText_any r _ RS.out (tabPow_below TP.out B1.out)).mono ?_
  rintro e w2 ⟨rfl, hb⟩
  rw [hs, hok]
  have B2 := Lib.hid (Below.then' B1.out hb)
  have X2 := Lib.hid (X1.out.below hb)
  clear hb c0 c1 c2 c3 c4
  obtain ⟨c0, c1, c2, c3, c4⟩ := X2.out
  go_wp2_with fail
  refine (specReaderText_any r _ RS.out).mono ?_
  rintro e w3 ⟨rfl, hb⟩
  rw [hs, hok]
  have B3 := Lib.hid (Below.then' B2.out hb)
  have X3 := Lib.hid (X2.out.below hb)
  have hqq := bnn ok
  clear hb hs hok c0 c1 c2 c3 c4
  obtain ⟨c0, c1, c2, c3, c4⟩ := X3.out
  go_wp2_with fail
  refine (isRd_any r _ (sized_smallReader r RS.out)).mono ?_
  rintro e w4 ⟨rfl, hb⟩
  rw [OKR.out]
  have B4 := Lib.hid (Below.then' B3.out hb)
  have X4 := Lib.hid (X3.out.below hb)
  clear hb c0 c1 c2 c3 c4 X1 X2 X3 B1 B2 B3
  go_upto_if 66 with (fail)
  go_cut [8, 9] (fun s8 s9 wx => Below w4.heap.size w4 wx)
  case first => as_aux_lemma =>
    cases ok
    · go_wp2
      go_meet
      exact Below.refl _ _
    · obtain ⟨t0, t1⟩ := BACK.out rfl
      have T0 := Lib.hid t0
      have T1 := Lib.hid t1
      clear t0 t1
      go_wp2_with fail
      refine (implParseReader_any s xm _ (by have := SZ.out; omega) (tabPow_below TP.out B4.out) (cell_keeps HX.out B4.out)).mono ?_
      rintro e w5 ⟨rfl, hb⟩
      rw [T0.out, T1.out]
      have hb2 := Below.then' hb (bel_al1 w5 (.cells #[.int .i64 r.Id, .string r.Name, .int .i64 r.Joined, .int .i64 r.Class, .int .i64 r.Fines] 25))
      obtain ⟨c0, c1, c2, c3, c4⟩ := X4.out.below hb2
      have XN := BoxReader.new w5 25 r _ rfl
      obtain ⟨d0, d1, d2, d3, d4⟩ := XN
      have B5 := Lib.hid hb2
      clear hb hb2
      go_wp2
      go_meet
      exact B5.out
  case rest =>
    have B5 := Lib.hid (Below.then' B4.out hcut)
    clear hcut BACK X4 B4
    go_wp2_with fail
    refine (drawParseReader_any _ _ _ _ (I.out.below B5.out)).mono ?_
    rintro e w6 ⟨x, rfl, hx, hb⟩
    have B6 := Lib.hid (Below.then' B5.out hb)
    obtain ⟨P, hP⟩ : ∃ s, ParseReader_0 x = s := ⟨_, rfl⟩
    obtain ⟨g, hg⟩ : ∃ s, ParseReader_1 x = s := ⟨_, rfl⟩
    clear hb
    go_wp2_with fail
    refine (implParseReader_any x xm _ (by omega) (tabPow_below TP.out B6.out) (cell_keeps HX.out B6.out)).mono ?_
    rintro e w7 ⟨rfl, hb⟩
    rw [hP, hg]
    have B7 := Lib.hid (Below.then' (Below.then' B6.out hb) (bel_al1 w7 (.cells #[.int .i64 P.Id, .string P.Name, .int .i64 P.Joined, .int .i64 P.Class, .int .i64 P.Fines] 25)))
    have X7 := Lib.hid (BoxReader.new w7 25 P _ rfl)
    clear hb
    go_wp2_with fail
    refine (specParseReader_any x _ (by omega)).mono ?_
    rintro e w8 ⟨rfl, hb⟩
    rw [hP, hg]
    have hb2 := Below.then' hb (bel_al1 w8 (.cells #[.int .i64 P.Id, .string P.Name, .int .i64 P.Joined, .int .i64 P.Class, .int .i64 P.Fines] 25))
    have B8 := Lib.hid (Below.then' B7.out hb2)
    obtain ⟨c0, c1, c2, c3, c4⟩ := X7.out.below hb2
    obtain ⟨d0, d1, d2, d3, d4⟩ := BoxReader.new w8 25 P _ rfl
    have hgg := bnn g
    clear hb hb2 hP hg B7 X7 B6 B5
    go_wp2_with fail
    refine (drawFineReader_any _ _ _ _ (I.out.below B8.out)).mono ?_
    rintro e w9 ⟨a9, c9, l, y, ct, rfl, hl, hls, hlr, hb⟩
    have B9 := Lib.hid (Below.then' B8.out hb)
    have L9 := Lib.hid hlr
    have LZ := Lib.hid hls
    have LSM := Lib.hid (show ∀ s ∈ l, s.small from fun s hs => sized_smallReader s (hls s hs))
    have F_small := Lib.hid (FineReader_0_small l y ct (by omega) hls)
    have F_sized := Lib.hid (show ∀ s ∈ FineReader_0 l y ct, s.sized from fun s hs => rdOk_sized ((rdFine_ok l y ct).2 s hs))
    have F_len := Lib.hid (show (FineReader_0 l y ct).length ≤ 10 from (rdFine_ok l y ct).1)
    have PAY := Lib.hid (@fine_pay l y ct)
    obtain ⟨F, hF⟩ : ∃ s, FineReader_0 l y ct = s := ⟨_, rfl⟩
    obtain ⟨q, hq⟩ : ∃ s, FineReader_1 l y ct = s := ⟨_, rfl⟩
    rw [hF] at F_small F_sized F_len PAY
    rw [hq] at PAY
    clear hb hls hlr hgg c0 c1 c2 c3 c4 d0 d1 d2 d3 d4 B8
    go_wp2_with fail
    refine (implFineReader_any _ _ _ l y ct _ L9.out (by omega) LZ.out).mono ?_
    rintro e w10 ⟨v, rfl, hown, hb⟩
    rw [hF] at hown
    rw [hq]
    obtain ⟨fa, fc, rfl, his, _⟩ := isReaderS_own hown F_small.out
    have B10 := Lib.hid (Below.then' B9.out hb)
    have L10 := Lib.hid (L9.out.below hb)
    have F10 := Lib.hid his
    clear hown his hb
    go_wp2_with fail
    refine (specFineReader_any _ _ _ l y ct _ L10.out (by omega) LZ.out).mono ?_
    rintro e w11 ⟨v, rfl, hown, hb⟩
    rw [hF] at hown
    rw [hq]
    obtain ⟨ga, gc, rfl, his, _⟩ := isReaderS_own hown F_small.out
    have B11 := Lib.hid (Below.then' B10.out hb)
    have L11 := Lib.hid (L10.out.below hb)
    have F11 := Lib.hid (F10.out.below hb)
    have W11 := Lib.hid his
    have hqq2 := bnn q
    clear hown his hb hF hq
    go_wp2_with fail
    refine (rReaders_yes _ _ _ _ _ _ F _ F11.out W11.out).mono ?_
    rintro e w12 ⟨rfl, hb⟩
    have B12 := Lib.hid (Below.then' B11.out hb)
    have L12 := Lib.hid (L11.out.below hb)
    have F12 := Lib.hid (F11.out.below hb)
    clear hb W11 L9 L10 L11 F10 F11 B9 B10 B11 hqq2
    go_upto_if 128 with (fail)
    go_cut [22, 23, 24] (fun s22 s23 s24 wx => Below w12.heap.size w12 wx)
    case first => as_aux_lemma =>
      cases q
      · go_wp2
        go_meet
        exact Below.refl _ _
      · obtain ⟨p0, p1, p2⟩ := PAY.out rfl
        have P0 := Lib.hid p0
        have P1 := Lib.hid p1
        have P2 := Lib.hid p2
        clear p0 p1 p2
        go_wp2_with fail
        refine (implPayFines_any _ _ _ F y ct _ F12.out (by have := F_len.out; omega) F_sized.out).mono ?_
        rintro e w13 ⟨v, rfl, hown, hb⟩
        rw [P0.out] at hown
        rw [P1.out, P2.out]
        obtain ⟨ga, gc, rfl, his, _⟩ := isReaderS_own hown LSM.out
        have B13 := Lib.hid hb
        have L13 := Lib.hid (L12.out.below hb)
        have W13 := Lib.hid his
        clear hown his hb
        go_wp2_with fail
        refine (rReaders_yes _ _ _ _ _ _ l _ W13.out L13.out).mono ?_
        rintro e w14 ⟨rfl, hb⟩
        have B14 := Lib.hid (Below.then' B13.out hb)
        clear hb
        go_wp2
        go_meet
        exact B14.out
    case rest =>
      have B13 := Lib.hid (Below.then' B12.out hcut)
      clear hcut PAY F12 L12 B12 LZ LSM F_small F_sized F_len hl
      go_wp2_with fail
      refine (drawOweMost_any _ _ _ _ (I.out.below B13.out)).mono ?_
      rintro e w14 ⟨a14, c14, m, n, rfl, hm, hms, hmr, hb⟩
      have B14 := Lib.hid (Below.then' B13.out hb)
      have M14 := Lib.hid hmr
      have MZ := Lib.hid hms
      have START := Lib.hid (OweTo.start m n)
      have hol := OweMost_0_len m n (by omega) hms
      have CS := Lib.hid (@class_sum m)
      obtain ⟨O, hO⟩ : ∃ s, OweMost_0 m n = s := ⟨_, rfl⟩
      obtain ⟨q2, hq2⟩ : ∃ s, OweMost_1 m n = s := ⟨_, rfl⟩
      obtain ⟨K, hK⟩ : ∃ s, ClassCounts_0 m = s := ⟨_, rfl⟩
      obtain ⟨k, hk⟩ : ∃ s, ClassCounts_1 m = s := ⟨_, rfl⟩
      rw [hK, hk] at CS
      rw [hO] at hol
      have OH := Lib.hid hO
      clear hb hms hmr
      go_wp2_with fail
      refine (implOweMost_any _ _ _ m n _ M14.out (by omega) MZ.out).mono ?_
      rintro e w15 ⟨v, rfl, hown, hb⟩
      rw [hO] at hown
      rw [hq2]
      obtain ⟨oa, oc, rfl, his, _⟩ := isInts_own hown
      have B15 := Lib.hid (Below.then' B14.out hb)
      have M15 := Lib.hid (M14.out.below hb)
      have O15 := Lib.hid his
      clear hown his hb
      go_wp2_with fail
      refine (specOweMost_any _ _ _ m n _ M15.out (by omega) MZ.out).mono ?_
      rintro e w16 ⟨v, rfl, hown, hb⟩
      rw [hO] at hown
      rw [hq2]
      obtain ⟨pa, pc, rfl, his, _⟩ := isInts_own hown
      have B16 := Lib.hid (Below.then' B15.out hb)
      have M16 := Lib.hid (M15.out.below hb)
      have O16 := Lib.hid (O15.out.below hb)
      have W16 := Lib.hid his
      have hqq3 := bnn q2
      clear hown his hb hO hq2
      go_wp2_with fail
      refine (rInts_yes _ _ _ _ _ _ O _ O16.out W16.out).mono ?_
      rintro e w17 ⟨rfl, hb⟩
      have B17 := Lib.hid (Below.then' B16.out hb)
      have M17 := Lib.hid (M16.out.below hb)
      have O17 := Lib.hid (O16.out.below hb)
      clear hb W16 hqq3 M14 M15 M16 O15 O16 B13 B14 B15 B16
      go_wp2_with fail
      refine (implClassCounts_any _ _ _ m _ M17.out (by omega) MZ.out).mono ?_
      rintro e w18 ⟨v, rfl, hown, hb⟩
      rw [hK] at hown
      rw [hk]
      obtain ⟨ka, kc, rfl, his, _⟩ := isInts_own hown
      have B18 := Lib.hid (Below.then' B17.out hb)
      have M18 := Lib.hid (M17.out.below hb)
      have O18 := Lib.hid (O17.out.below hb)
      have K18 := Lib.hid his
      clear hown his hb
      go_wp2_with fail
      refine (specClassCounts_any _ _ _ m _ M18.out (by omega) MZ.out).mono ?_
      rintro e w19 ⟨v, rfl, hown, hb⟩
      rw [hK] at hown
      rw [hk]
      obtain ⟨ja, jc, rfl, his, _⟩ := isInts_own hown
      have B19 := Lib.hid (Below.then' B18.out hb)
      have M19 := Lib.hid (M18.out.below hb)
      have O19 := Lib.hid (O18.out.below hb)
      have K19 := Lib.hid (K18.out.below hb)
      have W19 := Lib.hid his
      have hqq4 := bnn k
      clear hown his hb hK hk
      go_upto_region 33 with (fail)
      go_cut [203] (fun c wx => c = .bool false ∧ Below w19.heap.size w19 wx)
      case first => as_aux_lemma =>
        go_wp2_with fail
        refine (rInts_yes _ _ _ _ _ _ K _ K19.out W19.out).mono ?_
        rintro e w20 ⟨rfl, hb⟩
        have B20 := Lib.hid hb
        have K20 := Lib.hid (K19.out.below hb)
        clear hb
        cases k
        · go_wp2
          go_meet
          exact ⟨rfl, B20.out⟩
        · obtain ⟨s0, s1, s2⟩ := CS.out rfl
          have S0 := Lib.hid s0
          clear s0
          go_wp2_with fail
          refine (rSum_any _ _ _ K _ K20.out s1 s2).mono ?_
          rintro e w21 ⟨rfl, rfl⟩
          rw [S0.out]
          clear s1 s2
          go_wp2
          go_meet
          exact ⟨rfl, B20.out⟩
      case rest =>
        obtain ⟨rfl, hcb⟩ := hcut
        have B20 := Lib.hid (Below.then' B19.out hcb)
        have M20 := Lib.hid (M19.out.below hcb)
        have O20 := Lib.hid (O19.out.below hcb)
        clear hcb CS K18 K19 W19 M17 M18 M19 O17 O18 O19 B17 B18 B19 hqq4
        go_wp2
        go_loopw [35, 36, 37] (fun la i _ wr => ∃ (j : Nat) (x : Int), j ≤ O.length ∧ i = .int .i64 j ∧ la = .int .i64 x ∧ OweTo m n j x ∧ Below wc.heap.size wc wr) (fun _ i _ _ => O.length - (intOf i).toNat)
        case atStart => exact ⟨0, 10001, Nat.zero_le _, rfl, rfl, START.out, Below.refl _ _⟩
        case round =>
          obtain ⟨j, x1, hj, rfl, rfl, hto, hbel⟩ := hrel
          have TO := Lib.hid hto
          have BR := Lib.hid hbel
          clear hto
          by_cases hlt : j < O.length
          · obtain ⟨ox, hox⟩ : ∃ s, O[j]? = some s := ⟨O[j]'hlt, List.getElem?_eq_getElem _⟩
            have XO := Lib.hid (show (OweMost_0 m n)[j]? = some ox by rw [OH.out]; exact hox)
            have XO2 := Lib.hid hox
            have hi0 : (0 : Int) ≤ (j : Int) := by omega
            have hi1 : (j : Int) < (O.length : Int) := by omega
            clear hox hbel
            go_wp2
            go_loopw [35, 37] (fun la p wq => ∃ (t : Nat) (x : Int), t ≤ m.length ∧ p = .int .i64 t ∧ la = .int .i64 x ∧ OweTo m n j x ∧ Below wc.heap.size wc wq) (fun _ p _ => m.length - (intOf p).toNat)
            case atStart => exact ⟨0, x1, Nat.zero_le _, rfl, rfl, TO.out, BR.out⟩
            case round =>
              obtain ⟨t, x2, ht, rfl, rfl, hto, hbel⟩ := hrel
              have TI := Lib.hid hto
              have BQ := Lib.hid hbel
              clear hto
              by_cases hlt2 : t < m.length
              · obtain ⟨rr, hrr⟩ : ∃ s, m[t]? = some s := ⟨m[t]'hlt2, List.getElem?_eq_getElem _⟩
                have STEP := Lib.hid (fun he => TI.out.step XO.out hrr he)
                obtain ⟨mb, mo, rfl, _, hmat⟩ := (M20.out.below hbel).at (by omega)
                obtain ⟨c0, c1, c2, c3, c4, _⟩ := hmat t rr hrr
                obtain ⟨ob, oo, rfl, _, hoat⟩ := (O20.out.below hbel).at (by omega)
                have d0 := hoat j ox XO2.out
                have hk0 : (0 : Int) ≤ (t : Int) := by omega
                have hk1 : (t : Int) < (m.length : Int) := by omega
                clear hbel hrr hmat hoat
                by_cases he : rr.Id = ox
                · have t1 : (rr.Id == ox) = true := by simpa using he
                  obtain ⟨s1, s2⟩ := STEP.out he
                  have hn : ¬ x2 < rr.Fines := by omega
                  have NT := Lib.hid s2
                  have HE := Lib.hid he
                  clear s1 s2 he
                  go_wp2_with fail
                  go_quiet (fail)
                  have B21 := Lib.hid (Below.then' BQ.out (bel_drawn _ nq))
                  go_wp2
                  go_roundw
                  case rel => exact ⟨t + 1, rr.Fines, by omega, by go_num, rfl, NT.out, B21.out⟩
                  case measure => simp [intOf]; omega
                · have t1 : (rr.Id == ox) = false := by simpa using he
                  have HE := Lib.hid he
                  clear he
                  go_wp2_with fail
                  go_quiet (fail)
                  have B21 := Lib.hid (Below.then' BQ.out (bel_drawn _ nq))
                  go_wp2
                  go_roundw
                  case rel => exact ⟨t + 1, x2, by omega, by go_num, rfl, TI.out, B21.out⟩
                  case measure => simp [intOf]; omega
              · obtain rfl : t = m.length := by omega
                clear hbel
                go_wp2
                go_roundw
                case rel => exact ⟨j + 1, x2, by omega, by go_num, rfl, TI.out.next, BQ.out⟩
                case measure => simp [intOf]; omega
          · obtain rfl : j = O.length := by omega
            clear hbel
            go_wp2
            go_ret
            exact ⟨rfl, Below.then' B20.out BR.out⟩

set_option maxRecDepth 100000
theorem own : ownKnob Tryz.prog.godebug = none := by kernel_rfl
theorem laidOut : laidOutB Tryz.prog = true := by kernel_rfl
theorem contract (H : Type) (enc : TypeId × Value → H) (W : World) (base : Nat) (args : Array Value) (ds gs : List (DataW H)) (before : List MemPlace)
    (hval0 : ∀ (j : Nat) t v, Tryz.f3.params[j]? = some t → args[j]? = some v → Value.okWide Tryz.prog W .any base t v)
    (hW : DataW.Whole enc Tryz.prog Tryz.f3.params.toList Rows.fnReaderTextsSpec.vars false W args.toList ds gs before) (hL : laidMetH Tryz.prog Rows.fnReaderTextsRow.laid W) (hS : W.ShapedOpen Tryz.prog) :
    Calls Tryz.prog 3 args W fun e W' => ∃ v, e = .returned v ∧ Rows.fnReaderTextsSpec.post enc Tryz.prog Tryz.f3 false true false false W args v W' := by
  have hval : ∀ (j : Nat) t v, Tryz.f3.params[j]? = some t → args[j]? = some v → Value.okWide Tryz.prog W .any base t v := hval0
  have hW' := hW
  obtain ⟨p, q, hA0, hV, rfl, hfz, hnd⟩ := hW
  have hA : DataW.TrodAll enc Tryz.prog W 0 (fun _ => true) true Tryz.f3.params.toList args.toList ds p := hA0
  rw [Tryz.params3] at hA hval
  obtain ⟨v0, vs0, d0, ds0, p0, q0, hargs, rfl, rfl, h0, r0⟩ := trodAll_cons hA
  obtain ⟨rfl, rfl, rfl⟩ := trodAll_nil r0
  obtain rfl : args = #[v0] := by cases args; simp_all
  obtain ⟨rfl, rfl⟩ := trodVars_none hV
  obtain ⟨a0, len0, cap0, rfl⟩ := okWide_slice Tryz.underlying22 (hval 0 22 v0 rfl rfl)
  have k0 := h0
  have lt0 : ∀ x ∈ p0, x.block < W.heap.size := by obtain ⟨m, hm⟩ := k0; exact DataW.trod_lt m _ _ _ hm
  obtain ⟨z0, w0⟩ : ∃ zs, IsRow .u8 W a0 len0 cap0 zs := by
    obtain ⟨fuel, hf⟩ := h0
    rcases open_ints Tryz.underlying22 Tryz.underlying5 (by kernel_rfl) hf with ⟨hcs, _⟩ | ⟨x, l, c, zs, hcs, _, hl, hm, hz, _, hcell, hwz⟩
    · simp [Value.cells] at hcs
      obtain ⟨rfl, rfl, rfl⟩ := hcs
      exact ⟨[], .inl ⟨rfl, rfl, rfl, rfl⟩⟩
    · simp [Value.cells] at hcs
      obtain ⟨rfl, rfl, rfl⟩ := hcs
      exact ⟨zs, .inr ⟨_, rfl, hl, hm, by simpa using hz, hcell, hwz⟩⟩
  clear hA0 hval0
  refine (walk a0 len0 cap0 z0 W w0 hL hS).mono fun e W' ⟨he, bel⟩ => ?_
  subst he
  exact ⟨_, rfl, _, _, _, [], _, [], hW', trodAll_mk1 (shut_bool Tryz.underlying4 _), (trodAll_cons_mk (Below.trod laidOut (by kernel_rfl) (of_decide_eq_true (by kernel_rfl)) k0 bel lt0) trodAll_mk0), rfl, bel.frame _, fun h => by cases h⟩
theorem laid_met (os : Os) : laidMet Tryz.prog Rows.fnReaderTextsRow.laid ((World.doorLaid Tryz.prog 400 os).forCall (fun _ _ => 0) ⟨#[], #[.slice none 0 0], []⟩).memory :=
  laidMet_of_run' 8 (by kernel_rfl) (by kernel_rfl)
theorem reads (os : Os) {H : Type} (enc : TypeId × Value → H) : ∃ places, DataW.whole enc Tryz.prog ((World.doorLaid Tryz.prog 400 os).forCall (fun _ _ => 0) ⟨#[], #[.slice none 0 0], []⟩).memory Tryz.f3.params.toList Rows.fnReaderTextsSpec.vars false #[Value.slice none 0 0].toList 8 = some ([.nil], [], places) :=
  ⟨[], by kernel_rfl⟩
set_option maxRecDepth 100000 in
theorem lifted (os : Os) (started : os.Started) (H : Type) (enc : TypeId × Value → H) (F : Stop.Interp) :
    ReturnsInHanded {} Tryz.checked os 3 .any ((OpenSpec.ofChange Rows.fnReaderTextsSpec).preRow enc Tryz.prog Tryz.f3 Rows.fnReaderTextsRow.domain false Rows.fnReaderTextsRow.laid) (((OpenSpec.ofChange Rows.fnReaderTextsSpec).at F).post enc Tryz.prog Tryz.f3 false true false false) := by
  obtain ⟨places, hx⟩ := reads os enc
  refine returnsInHanded_of_row (C := Tryz.checked) (s := OpenSpec.ofChange Rows.fnReaderTextsSpec) own started (by kernel_rfl) Tryz.func3
    (witness_row_at (enc := enc) (C := Tryz.checked) false (World.doorLaid Tryz.prog 400 os) #[.slice none 0 0] rfl (by kernel_rfl) (by kernel_rfl) (by kernel_rfl)
      (OpenSpec.preRow_of_cond 8 hx (by kernel_rfl) (fun k hk => by cases hk) (by kernel_rfl) (laid_met os))) ?_
  intro W base args ds gs before hval hW _ _ _ hL hS _
  exact contract H enc W base args ds gs before hval hW hL hS
theorem said : Rows.FnReaderTextsSaid :=
  OpenClaim.holds_of_cond 3 Tryz.f3 rfl rfl rfl rfl rfl rfl rfl ⟨rfl, rfl, rfl, rfl, rfl⟩ rfl rfl rfl rfl rfl (by kernel_rfl) Tryz.func3 (by kernel_rfl)
    (of_decide_eq_true (by kernel_rfl)) (by unfold Func.isWrapper; first | (rw [if_pos (by decide +kernel)]; kernel_rfl) | (rw [if_neg (by decide +kernel)]; exact ⟨rfl, rfl⟩))
    (fun os started H enc _ F => by rw [OpenClaim.pre_eq_preRow]; exact lifted os started H enc F)
theorem plain (f : FuncId) (fn : Func) (hf : Tryz.pinned.checked.prog.funcNamed "loop.example/g01060/laws.FnReaderTexts" = some f) (hfn : Tryz.pinned.checked.prog.funcs[f]? = some fn) :
    false = Tryz.pinned.checked.prog.looks [] ∧ ∀ (j : Nat) t, fn.params[j]? = some t → Tryz.pinned.checked.prog.wantsStandIn t = false := by
  obtain rfl : f = 3 := Option.some.inj ((show Tryz.prog.funcNamed "loop.example/g01060/laws.FnReaderTexts" = some 3 by kernel_rfl).symm.trans hf) |>.symm
  obtain rfl : fn = Tryz.f3 := (Option.some.inj (Tryz.func3.symm.trans hfn)).symm
  refine ⟨by kernel_rfl, fun j t ht => ?_⟩
  rw [Tryz.params3] at ht
  have hm := Array.mem_of_getElem? ht
  simp only [List.mem_toArray, List.mem_cons, List.not_mem_nil, or_false] at hm
  subst hm
  exact (show Tryz.prog.wantsStandIn 22 = false by kernel_rfl)
theorem proved : Rows.FnReaderTextsCardSaid :=
  Claim7.holds_tied_plain_at .later [] _ _ _ _ said (fun _ h => by cases h) (by kernel_rfl) (fun _ h => by cases h) fnReaderTexts_row_tie rfl ⟨rfl, rfl⟩ (by kernel_rfl) rfl plain (by kernel_rfl)
#print axioms proved
end Go.Proofs.YtidaoijpbdljbabGreatDoor.fnReaderTexts
