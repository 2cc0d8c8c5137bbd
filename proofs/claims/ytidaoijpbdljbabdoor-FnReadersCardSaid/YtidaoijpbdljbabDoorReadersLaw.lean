/- FnReaders: for every code the law returns true and leaves it as it was. No condition. -/
import Derived.Test.YtidaoijpbdljbabDoorCards
import Derived.Test.YtidaoijpbdljbabDoorTie
import Derived.Test.YtidaoijpbdljbabDoorRl
import Derived.Test.YtidaoijpbdljbabDoorRdDr2
import Derived.Test.YtidaoijpbdljbabDoorReaderE
import Derived.Test.YtidaoijpbdljbabDoorVars
import Derived.ProofKit
import Derived.OpenShut
import Derived.ShutString
import Derived.ChangeOld
import Derived.Carry
import Derived.Deep.DeepHandedRow
import Derived.LaidMore
import Derived.Deep.DeepCutAuto
namespace Go.Proofs.YtidaoijpbdljbabDoor.fnReaders
open Go.ChangeShapes Go.WideShapes Go.ChangeAt Go.RowKit
set_option linter.unusedVariables false

set_option maxHeartbeats 12800000 in
set_option maxRecDepth 100000 in
theorem walk (a0 : Option Addr) (len0 cap0 : Nat) (z0 : List Int) (w : World) (w0 : IsRow .u8 w a0 len0 cap0 z0) (hL : laidMetH Tryd.prog Rows.fnReadersRow.laid w) (hS : w.ShapedOpen Tryd.prog) :
    Calls Tryd.prog 3 #[.slice a0 len0 cap0] w fun e w' => e = .returned (.bool true) ∧ Below w.heap.size w w' := by
  have TH := Lib.hid (tabHome_of hL)
  clear hL hS
  have I := Lib.hid (CodeIn.of_row w0)
  clear w0
  by_cases hbig : 65536 < len0
  · have hd : decide (65536 < len0) = true := by simpa using hbig
    go_enter Tryd.func3, Tryd.ntmps3
    go_wp2_with fail
    refine (rBig_any _ _ _ _).mono ?_
    rw [hd]
    rintro e w' ⟨rfl, rfl⟩
    go_wp2
    go_ret
    exact ⟨rfl, Below.refl _ _⟩
  have hd : decide (65536 < len0) = false := by simp; omega
  go_enter Tryd.func3, Tryd.ntmps3
  go_wp2_with fail
  refine (rBig_any _ _ _ _).mono ?_
  rw [hd]
  rintro e w' ⟨rfl, rfl⟩
  clear hd hbig
  go_wp2_with fail
  refine (drawJoinReader_any _ _ _ _ I.out).mono ?_
  rintro e w1 ⟨a1, c1, xs, nm, d, rfl, hx, hsz, hnm, hs, hb⟩
  have B1 := Lib.hid hb
  have S1 := Lib.hid hs
  have SZ := Lib.hid hsz
  have R_small := Lib.hid (JoinReader_0_small xs nm d (by omega) hsz (by omega))
  have R_sized := Lib.hid (show ∀ s ∈ JoinReader_0 xs nm d, s.sized from fun s hs => rdOk_sized ((rdJoin_ok xs nm d).2 s hs))
  have R_len := Lib.hid (show (JoinReader_0 xs nm d).length ≤ 10 from (rdJoin_ok xs nm d).1)
  have MAY := Lib.hid (@join_may xs nm d)
  clear hb hs hsz
  go_wp2_with fail
  refine (implJoinReader_any _ _ _ xs nm d _ S1.out (by omega) SZ.out (by omega)).mono ?_
  rintro e w2 ⟨v, rfl, hown, hb⟩
  obtain ⟨a2, c2, rfl, his, _⟩ := isReaderS_own hown R_small.out
  have B2 := Lib.hid (Below.then' B1.out hb)
  have S2 := Lib.hid (S1.out.below hb)
  have U2 := Lib.hid his
  clear hown his hb
  go_wp2_with fail
  refine (specJoinReader_any _ _ _ xs nm d _ S2.out (by omega) SZ.out (by omega)).mono ?_
  rintro e w3 ⟨v, rfl, hown, hb⟩
  obtain ⟨a3, c3, rfl, his, _⟩ := isReaderS_own hown R_small.out
  have B3 := Lib.hid (Below.then' B2.out hb)
  have U3 := Lib.hid (U2.out.below hb)
  have W3 := Lib.hid his
  clear hown his hb
  obtain ⟨L, hL⟩ : ∃ L, JoinReader_0 xs nm d = L := ⟨_, rfl⟩
  obtain ⟨nid, hnid⟩ : ∃ n, JoinReader_1 xs nm d = n := ⟨_, rfl⟩
  obtain ⟨q, hq⟩ : ∃ q, JoinReader_2 xs nm d = q := ⟨_, rfl⟩
  rw [hL] at U3 W3 R_small R_sized R_len MAY
  rw [hnid, hq] at MAY
  rw [hL, hnid, hq]
  have hqq := bnn q
  have hnn : (nid != nid) = false := by simp
  clear hL hnid hq U2 S2
  go_wp2_with fail
  refine (rReaders_yes _ _ _ _ _ _ L _ U3.out W3.out).mono ?_
  rintro e w4 ⟨rfl, hb⟩
  have B4 := Lib.hid (Below.then' B3.out hb)
  have U4 := Lib.hid (U3.out.below hb)
  clear hb hqq hnn U3 W3
  have HQ := Lib.hid (show ∀ p, q = p → p = q from fun _ h => h.symm)
  go_upto_if 73 with (fail)
  go_cut [12, 13] (fun s12 s13 wx => Below w.heap.size w wx)
  case first =>
    cases q
    · go_wp2
      go_meet
      exact B4.out
    · have hm := MAY.out rfl
      have HM := Lib.hid hm
      clear hm
      go_wp2_with fail
      refine (implMayTake_any _ _ _ L nid 0 _ U4.out (by have := R_len.out; omega) R_sized.out (TH.out.below B4.out)).mono ?_
      rintro e w5 ⟨rfl, hb⟩
      rw [HM.out.1, HM.out.2]
      have B5 := Lib.hid (Below.then' B4.out hb)
      clear hb
      go_wp2
      go_meet
      exact B5.out
  case rest =>
    have B5 := Lib.hid hcut
    clear hcut
    go_wp2_with fail
    refine (drawPayFines_any _ _ _ _ (I.out.below B5.out)).mono ?_
    rintro e w6 ⟨a6, c6, l, x, cents, rfl, hlx, hlsz, hls, hb⟩
    have B6 := Lib.hid (Below.then' B5.out hb)
    have S6 := Lib.hid hls
    have LZ := Lib.hid hlsz
    have P_small := Lib.hid (PayFines_0_small l x cents (by omega) hlsz)
    have P_len := Lib.hid (show (PayFines_0 l x cents).length ≤ 10 from (rdPay_ok l x cents).1)
    have PA := Lib.hid (@pay_all l x cents)
    clear hb hls hlsz
    go_wp2_with fail
    refine (implPayFines_any _ _ _ l x cents _ S6.out (by omega) LZ.out).mono ?_
    rintro e w7 ⟨v, rfl, hown, hb⟩
    obtain ⟨a7, c7, rfl, his, _⟩ := isReaderS_own hown P_small.out
    have B7 := Lib.hid (Below.then' B6.out hb)
    have S7 := Lib.hid (S6.out.below hb)
    have U7 := Lib.hid his
    clear hown his hb
    go_wp2_with fail
    refine (specPayFines_any _ _ _ l x cents _ S7.out (by omega) LZ.out).mono ?_
    rintro e w8 ⟨v, rfl, hown, hb⟩
    obtain ⟨a8, c8, rfl, his, _⟩ := isReaderS_own hown P_small.out
    have B8 := Lib.hid (Below.then' B7.out hb)
    have S8 := Lib.hid (S7.out.below hb)
    have U8 := Lib.hid (U7.out.below hb)
    have W8 := Lib.hid his
    clear hown his hb S6 S7 U7
    obtain ⟨P, hP⟩ : ∃ P, PayFines_0 l x cents = P := ⟨_, rfl⟩
    obtain ⟨bk, hbk⟩ : ∃ n, PayFines_1 l x cents = n := ⟨_, rfl⟩
    obtain ⟨f, hf⟩ : ∃ q, PayFines_2 l x cents = q := ⟨_, rfl⟩
    rw [hP] at U8 W8 P_small P_len PA
    rw [hbk, hf] at PA
    rw [hP, hbk, hf]
    have hqq := bnn f
    have hnn : (bk != bk) = false := by simp
    clear hP hbk hf
    go_wp2_with fail
    refine (rReaders_yes _ _ _ _ _ _ P _ U8.out W8.out).mono ?_
    rintro e w9 ⟨rfl, hb⟩
    have B9 := Lib.hid (Below.then' B8.out hb)
    have S9 := Lib.hid (S8.out.below hb)
    have U9 := Lib.hid (U8.out.below hb)
    clear hb hqq hnn U8 W8 S8
    go_wp2
    go_loopw [23] (fun i wr => ∃ k : Nat, k ≤ l.length ∧ i = .int .i64 k ∧ Below w9.heap.size w9 wr) (fun i _ => l.length - (intOf i).toNat)
    case atStart => exact ⟨0, Nat.zero_le _, rfl, Below.refl _ _⟩
    case round =>
      obtain ⟨k, hk, rfl, hbel⟩ := hrel
      have BR := Lib.hid hbel
      clear hbel
      have BX := Lib.hid (Below.then' B9.out BR.out)
      cases f
      case' false =>
        by_cases hlt : k < l.length
      case' true =>
        obtain ⟨ha, ⟨c1', c2'⟩, hPl, hPa, ⟨b1, b2⟩, hall⟩ := PA.out rfl
        by_cases hlt : k < l.length
        case' pos =>
          obtain ⟨s, hs⟩ : ∃ s, l[k]? = some s := ⟨l[k]'hlt, List.getElem?_eq_getElem _⟩
          have hlt2 : k < P.length := by omega
          obtain ⟨p, hp⟩ : ∃ p, P[k]? = some p := ⟨P[k]'hlt2, List.getElem?_eq_getElem _⟩
          obtain ⟨bb, oo, rfl, _, hat⟩ := (S9.out.below BR.out).at (by omega)
          obtain ⟨d0, d1, d2, d3, d4, _⟩ := hat k s hs
          obtain ⟨bb2, oo2, rfl, _, hat2⟩ := (U9.out.below BR.out).at (by omega)
          obtain ⟨e0, e1, e2, e3, e4, _⟩ := hat2 k p hp
          have os := (rdOk_iff.1 (areRd_ok ha (List.mem_of_getElem? hs))).2.2.2.2
          have op := (rdOk_iff.1 (areRd_ok hPa (List.mem_of_getElem? hp))).2.2.2.2
          have hi0 : (0 : Int) ≤ (k : Int) := by omega
          have hi1 : (k : Int) < (l.length : Int) := by omega
          have hi2 : (k : Int) < (P.length : Int) := by omega
          have v1 : IntKind.i64.wrap (s.Fines - p.Fines) = s.Fines - p.Fines := IntWalk.i64_in _ (by omega)
          have v2 : IntKind.i64.wrap (s.Fines - p.Fines + bk) = s.Fines - p.Fines + bk := IntWalk.i64_in _ (by omega)
          have AL := Lib.hid (hall k s p hs hp)
          clear hat hat2 hs hp hall ha hPa
          have HPL := Lib.hid hPl
          clear hPl d1 d2 d3 e0 e1 e2 e3
          by_cases hid : s.Id = x
          · have t1 : (s.Id == x) = true := by simpa using hid
            have t2 : (s.Fines - p.Fines + bk != cents) = false := by have := AL.out hid; simp; exact this
            have HID := Lib.hid hid
            clear hid
            go_wp2_with fail
            go_quiet (fail)
            have B10 := Lib.hid (Below.then' BR.out (bel_drawn wr nq))
            go_wp2
            go_roundw
            case rel => exact ⟨k + 1, by omega, by go_num, B10.out⟩
            case measure => simp [intOf]; omega
          · have t1 : (s.Id == x) = false := by simpa using hid
            have HID := Lib.hid hid
            clear hid
            go_wp2_with fail
            go_quiet (fail)
            have B10 := Lib.hid (Below.then' BR.out (bel_drawn wr nq))
            go_wp2
            go_roundw
            case rel => exact ⟨k + 1, by omega, by go_num, B10.out⟩
            case measure => simp [intOf]; omega
        case' neg =>
          obtain rfl : k = l.length := by omega
          clear ha hPl hPa hall
      all_goals
        go_wp2_with fail
        refine (drawRaiseClass_any _ _ _ _ (I.out.below BX.out)).mono ?_
        rintro e w10 ⟨a10, c10, m, y, dy, rfl, hmx, hmsz, hms, hb⟩
        have B10 := Lib.hid (Below.then' BX.out hb)
        have S10 := Lib.hid hms
        have MZ := Lib.hid hmsz
        have N_small := Lib.hid (RaiseClass_0_small m y dy (by omega) hmsz)
        have RI := Lib.hid (raise_iff m y dy)
        clear hb hms hmsz
        go_wp2_with fail
        refine (implRaiseClass_any _ _ _ m y dy _ S10.out (by omega) MZ.out).mono ?_
        rintro e w11 ⟨v, rfl, hown, hb⟩
        obtain ⟨a11, c11, rfl, his, _⟩ := isReaderS_own hown N_small.out
        have B11 := Lib.hid (Below.then' B10.out hb)
        have S11 := Lib.hid (S10.out.below hb)
        have U11 := Lib.hid his
        clear hown his hb
        go_wp2_with fail
        refine (specRaiseClass_any _ _ _ m y dy _ S11.out (by omega) MZ.out).mono ?_
        rintro e w12 ⟨v, rfl, hown, hb⟩
        obtain ⟨a12, c12, rfl, his, _⟩ := isReaderS_own hown N_small.out
        have B12 := Lib.hid (Below.then' B11.out hb)
        have S12 := Lib.hid (S11.out.below hb)
        have U12 := Lib.hid (U11.out.below hb)
        have W12 := Lib.hid his
        clear hown his hb
        obtain ⟨N, hN⟩ : ∃ P, RaiseClass_0 m y dy = P := ⟨_, rfl⟩
        obtain ⟨g, hg⟩ : ∃ q, RaiseClass_1 m y dy = q := ⟨_, rfl⟩
        rw [hN] at U12 W12
        rw [hg] at RI
        rw [hN, hg]
        have hqq := bnn g
        clear hN hg N_small S10 S11 U11
        go_wp2_with fail
        refine (rReaders_yes _ _ _ _ _ _ N _ U12.out W12.out).mono ?_
        rintro e w13 ⟨rfl, hb⟩
        have B13 := Lib.hid (Below.then' B12.out hb)
        have S13 := Lib.hid (S12.out.below hb)
        clear hb hqq U12 W12 S12
        go_wp2_with fail
        refine (implRipeReaders_any _ _ _ m dy _ S13.out (by omega) MZ.out).mono ?_
        rintro e w14 ⟨v, rfl, hown, hb⟩
        obtain ⟨a14, c14, rfl, his, _⟩ := isInts_own hown
        have B14 := Lib.hid (Below.then' B13.out hb)
        have S14 := Lib.hid (S13.out.below hb)
        have U14 := Lib.hid his
        clear hown his hb
        go_wp2_with fail
        refine (specRipeReaders_any _ _ _ m dy _ S14.out (by omega) MZ.out).mono ?_
        rintro e w15 ⟨v, rfl, hown, hb⟩
        obtain ⟨a15, c15, rfl, his, _⟩ := isInts_own hown
        have B15 := Lib.hid (Below.then' B14.out hb)
        have U15 := Lib.hid (U14.out.below hb)
        have W15 := Lib.hid his
        clear hown his hb
        obtain ⟨Q, hQ⟩ : ∃ P, RipeReaders_0 m dy = P := ⟨_, rfl⟩
        obtain ⟨t, ht⟩ : ∃ q, RipeReaders_1 m dy = q := ⟨_, rfl⟩
        rw [hQ] at U15 W15
        rw [hQ, ht] at RI
        rw [hQ, ht]
        have hqq := bnn t
        clear hQ ht S14 U14
        go_wp2_with fail
        refine (rInts_yes _ _ _ _ _ _ Q _ U15.out W15.out).mono ?_
        rintro e w16 ⟨rfl, hb⟩
        have B16 := Lib.hid (Below.then' B15.out hb)
        have U16 := Lib.hid (U15.out.below hb)
        clear hb hqq U15 W15
        cases t
        · obtain rfl : g = false := RI.out
          go_wp2
          go_ret
          exact ⟨rfl, B16.out⟩
        · obtain ⟨h, hh⟩ : ∃ h, hasB y Q = h := ⟨_, rfl⟩
          obtain rfl : g = h := RI.out.trans (by rw [hh]; rfl)
          have HH := Lib.hid hh
          have hgg : (g == g) = true := by simp
          clear hh
          go_wp2_with fail
          refine (rHas_any _ _ _ Q y _ U16.out).mono ?_
          rintro e w17 ⟨rfl, rfl⟩
          rw [HH.out]
          have B17 := B16
          go_wp2
          go_ret
          exact ⟨by first | rfl | simp, B17.out⟩
theorem own : ownKnob Tryd.prog.godebug = none := by kernel_rfl
theorem laidOut : laidOutB Tryd.prog = true := by kernel_rfl
theorem contract (H : Type) (enc : TypeId × Value → H) (W : World) (base : Nat) (args : Array Value) (ds gs : List (DataW H)) (before : List MemPlace)
    (hval0 : ∀ (j : Nat) t v, Tryd.f3.params[j]? = some t → args[j]? = some v → Value.okWide Tryd.prog W .any base t v)
    (hW : DataW.Whole enc Tryd.prog Tryd.f3.params.toList Rows.fnReadersSpec.vars false W args.toList ds gs before) (hL : laidMetH Tryd.prog Rows.fnReadersRow.laid W) (hS : W.ShapedOpen Tryd.prog) :
    Calls Tryd.prog 3 args W fun e W' => ∃ v, e = .returned v ∧ Rows.fnReadersSpec.post enc Tryd.prog Tryd.f3 false true false false W args v W' := by
  have hval : ∀ (j : Nat) t v, Tryd.f3.params[j]? = some t → args[j]? = some v → Value.okWide Tryd.prog W .any base t v := hval0
  have hW' := hW
  obtain ⟨p, q, hA0, hV, rfl, hfz, hnd⟩ := hW
  have hA : DataW.TrodAll enc Tryd.prog W 0 (fun _ => true) true Tryd.f3.params.toList args.toList ds p := hA0
  rw [Tryd.params3] at hA hval
  obtain ⟨v0, vs0, d0, ds0, p0, q0, hargs, rfl, rfl, h0, r0⟩ := trodAll_cons hA
  obtain ⟨rfl, rfl, rfl⟩ := trodAll_nil r0
  obtain rfl : args = #[v0] := by cases args; simp_all
  have hV1 : DataW.TrodVars enc Tryd.prog W (fun _ => true) ["loop.example/g01060/impl.homeByClass"] gs q := hV
  have hVV := hV1
  obtain ⟨gv0, tv0, cv0, fv0, dv0, pv0, rfl, _, _, _, _, rfl⟩ := trodVars_one hV1
  obtain ⟨a0, len0, cap0, rfl⟩ := okWide_slice Tryd.underlying22 (hval 0 22 v0 rfl rfl)
  have k0 := h0
  have lt0 : ∀ x ∈ p0, x.block < W.heap.size := by obtain ⟨m, hm⟩ := k0; exact DataW.trod_lt m _ _ _ hm
  obtain ⟨z0, w0⟩ : ∃ zs, IsRow .u8 W a0 len0 cap0 zs := by
    obtain ⟨fuel, hf⟩ := h0
    rcases open_ints Tryd.underlying22 Tryd.underlying5 (by kernel_rfl) hf with ⟨hcs, _⟩ | ⟨x, l, c, zs, hcs, _, hl, hm, hz, _, hcell, hwz⟩
    · simp [Value.cells] at hcs
      obtain ⟨rfl, rfl, rfl⟩ := hcs
      exact ⟨[], .inl ⟨rfl, rfl, rfl, rfl⟩⟩
    · simp [Value.cells] at hcs
      obtain ⟨rfl, rfl, rfl⟩ := hcs
      exact ⟨zs, .inr ⟨_, rfl, hl, hm, by simpa using hz, hcell, hwz⟩⟩
  clear hA0 hval0
  refine (walk a0 len0 cap0 z0 W w0 hL hS).mono fun e W' ⟨he, bel⟩ => ?_
  subst he
  obtain ⟨qv, hqv⟩ := trodVars_below laidOut bel (by kernel_rfl) hVV
  exact ⟨_, rfl, _, _, _, [], _, qv, hW', trodAll_mk1 (shut_bool Tryd.underlying4 _), (trodAll_cons_mk (Below.trod laidOut (by kernel_rfl) (of_decide_eq_true (by kernel_rfl)) k0 bel lt0) trodAll_mk0), hqv, bel.frame _, fun h => by cases h⟩
theorem laid_met (os : Os) : laidMet Tryd.prog Rows.fnReadersRow.laid ((World.doorLaid Tryd.prog 400 os).forCall (fun _ _ => 0) ⟨#[], #[.slice none 0 0], []⟩).memory :=
  laidMet_of_run' 8 (by kernel_rfl) (by kernel_rfl)
theorem reads (os : Os) {H : Type} (enc : TypeId × Value → H) : ∃ places, DataW.whole enc Tryd.prog ((World.doorLaid Tryd.prog 400 os).forCall (fun _ _ => 0) ⟨#[], #[.slice none 0 0], []⟩).memory Tryd.f3.params.toList Rows.fnReadersSpec.vars false #[Value.slice none 0 0].toList 8 = some ([.nil], [(Rows.laid_loop_example_g01060_impl_homeByClass)], places) :=
  ⟨(MemPlace.row ⟨0, 0, none⟩ 3 ++ []), by kernel_rfl⟩
set_option maxRecDepth 100000 in
theorem lifted (os : Os) (started : os.Started) (H : Type) (enc : TypeId × Value → H) (F : Stop.Interp) :
    ReturnsInHanded {} Tryd.checked os 3 .any ((OpenSpec.ofChange Rows.fnReadersSpec).preRow enc Tryd.prog Tryd.f3 Rows.fnReadersRow.domain false Rows.fnReadersRow.laid) (((OpenSpec.ofChange Rows.fnReadersSpec).at F).post enc Tryd.prog Tryd.f3 false true false false) := by
  obtain ⟨places, hx⟩ := reads os enc
  refine returnsInHanded_of_row (C := Tryd.checked) (s := OpenSpec.ofChange Rows.fnReadersSpec) own started (by kernel_rfl) Tryd.func3
    (witness_row_at (enc := enc) (C := Tryd.checked) false (World.doorLaid Tryd.prog 400 os) #[.slice none 0 0] rfl (by kernel_rfl) (by kernel_rfl) (by kernel_rfl)
      (OpenSpec.preRow_of_cond 8 hx (by kernel_rfl) (fun k hk => by cases hk) (by kernel_rfl) (laid_met os))) ?_
  intro W base args ds gs before hval hW _ _ _ hL hS _
  exact contract H enc W base args ds gs before hval hW hL hS
theorem said : Rows.FnReadersSaid :=
  OpenClaim.holds_of_cond 3 Tryd.f3 rfl rfl rfl rfl rfl rfl rfl ⟨rfl, rfl, rfl, rfl, rfl⟩ rfl rfl rfl rfl rfl (by kernel_rfl) Tryd.func3 (by kernel_rfl)
    (of_decide_eq_true (by kernel_rfl)) (by unfold Func.isWrapper; first | (rw [if_pos (by decide +kernel)]; kernel_rfl) | (rw [if_neg (by decide +kernel)]; exact ⟨rfl, rfl⟩))
    (fun os started H enc _ F => by rw [OpenClaim.pre_eq_preRow]; exact lifted os started H enc F)
theorem plain (f : FuncId) (fn : Func) (hf : Tryd.pinned.checked.prog.funcNamed "loop.example/g01060/laws.FnReaders" = some f) (hfn : Tryd.pinned.checked.prog.funcs[f]? = some fn) :
    false = Tryd.pinned.checked.prog.looks [] ∧ ∀ (j : Nat) t, fn.params[j]? = some t → Tryd.pinned.checked.prog.wantsStandIn t = false := by
  obtain rfl : f = 3 := Option.some.inj ((show Tryd.prog.funcNamed "loop.example/g01060/laws.FnReaders" = some 3 by kernel_rfl).symm.trans hf) |>.symm
  obtain rfl : fn = Tryd.f3 := (Option.some.inj (Tryd.func3.symm.trans hfn)).symm
  refine ⟨by kernel_rfl, fun j t ht => ?_⟩
  rw [Tryd.params3] at ht
  have hm := Array.mem_of_getElem? ht
  simp only [List.mem_toArray, List.mem_cons, List.not_mem_nil, or_false] at hm
  subst hm
  exact (show Tryd.prog.wantsStandIn 22 = false by kernel_rfl)
theorem proved : Rows.FnReadersCardSaid :=
  Claim7.holds_tied_plain_at .later [] _ _ _ _ said (fun _ h => by cases h) (by kernel_rfl) (fun _ h => by cases h) fnReaders_row_tie rfl ⟨rfl, rfl⟩ (by kernel_rfl) rfl plain (by kernel_rfl)
#print axioms proved
end Go.Proofs.YtidaoijpbdljbabDoor.fnReaders
