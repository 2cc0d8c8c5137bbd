/- FnLate: for every code the law returns true and leaves it as it was. No condition. -/
import Derived.Test.YtffbljbgmgifnaaGreatDoorCards
import Derived.Test.YtffbljbgmgifnaaGreatDoorTie
import Derived.Test.YtffbljbgmgifnaaGreatDoorLoz6
import Derived.Test.YtffbljbgmgifnaaGreatDoorVars
import Derived.ProofKit
import Derived.OpenShut
import Derived.ShutString
import Derived.ChangeOld
import Derived.Carry
import Derived.Deep.DeepHandedRow
import Derived.LaidMore
import Derived.SevenTiedAt
import Derived.Deep.DeepCutAuto
namespace Go.Proofs.YtffbljbgmgifnaaGreatDoor.fnLate
open Go.ChangeShapes Go.WideShapes Go.ChangeAt Go.RowKit
set_option linter.unusedVariables false

set_option maxHeartbeats 51200000 in
set_option maxRecDepth 100000 in
theorem walk (a0 : Option Addr) (len0 cap0 : Nat) (z0 : List Int) (w : World) (w0 : IsRow .u8 w a0 len0 cap0 z0) (hL : laidMetH Tryz.prog Rows.fnLateRow.laid w) (hS : w.ShapedOpen Tryz.prog) :
    Calls Tryz.prog 3 #[.slice a0 len0 cap0] w fun e w' => e = .returned (.bool true) ∧ Below w.heap.size w w' := by
  have TP := Lib.hid (tabPow_of hL)
  clear hL hS
  have I := Lib.hid (CodeIn.of_row w0)
  clear w0
  by_cases hbig : 65536 < len0
  · have hd : decide (65536 < len0) = true := by simpa using hbig
    go_enter Tryz.func3, Tryz.ntmps3
    go_wp2_with fail
    refine (rBig_any _ _ _ _).mono ?_
    rw [hd]
    rintro e w' ⟨rfl, rfl⟩
    go_wp2
    go_ret
    exact ⟨rfl, Below.refl _ _⟩
  have hd : decide (65536 < len0) = false := by simp; omega
  go_enter Tryz.func3, Tryz.ntmps3
  go_wp2_with fail
  refine (rBig_any _ _ _ _).mono ?_
  rw [hd]
  rintro e w' ⟨rfl, rfl⟩
  clear hd hbig
  go_wp2_with fail
  refine (drawLateOn_any _ _ _ _ I.out).mono ?_
  rintro e w1 ⟨la, lc, xs, d, rfl, hxl, hs, hb⟩
  have B1 := Lib.hid hb
  have S1 := Lib.hid hs
  have XL : xs.length ≤ 1048576 := by omega
  clear hb hs
  obtain ⟨q, hq⟩ : ∃ q, LateOn_1 xs d = q := ⟨_, rfl⟩
  obtain ⟨L, hL⟩ : ∃ R, LateOn_0 xs d = R := ⟨_, rfl⟩
  have Q := Lib.hid hq
  have HL := Lib.hid hL
  have WHO := Lib.hid (show ∀ x ∈ L, WhoHas_1 xs x d = true ∧ ¬ WhoHas_0 xs x d = 0 from fun x hx => by
    rw [← hL] at hx
    cases hh : LateOn_1 xs d with
    | true => exact late_who hh hx
    | false => unfold LateOn_0 at hx; rw [hh] at hx; simp at hx)
  have LL : L.length ≤ 20 := by
    rw [← hL]; unfold LateOn_0
    split
    · have := sheetsOf_len (lateOn d) xs; omega
    · simp
  clear hq hL hxl
  go_wp2_with fail
  refine (implLateOn_any _ _ _ xs d _ S1.out XL).mono ?_
  rintro e w2 ⟨v1, rfl, hown, hb⟩
  rw [Q.out]
  rw [HL.out] at hown
  have B2 := Lib.hid (Below.then' B1.out hb)
  have S2 := Lib.hid (S1.out.below hb)
  obtain ⟨ra, rc, rfl, his, _⟩ := isInts_own hown
  have R2 := Lib.hid his
  clear hb hown his
  go_wp2_with fail
  refine (specLateOn_any _ _ _ xs d _ S2.out XL).mono ?_
  rintro e w3 ⟨v1, rfl, hown, hb⟩
  rw [Q.out]
  rw [HL.out] at hown
  have B3 := Lib.hid (Below.then' B2.out hb)
  have S3 := Lib.hid (S2.out.below hb)
  have R3 := Lib.hid (R2.out.below hb)
  obtain ⟨ta, tc, rfl, his, _⟩ := isInts_own hown
  have T3 := Lib.hid his
  have bq := bnn q
  clear hb hown his
  go_wp2_with fail
  refine (rInts_yes _ _ _ _ _ _ L _ R3.out T3.out).mono ?_
  rintro e w4 ⟨rfl, hb⟩
  have B4 := Lib.hid (Below.then' B3.out hb)
  have S4 := Lib.hid (S3.out.below hb)
  have R4 := Lib.hid (R3.out.below hb)
  clear hb bq
  go_wp2
  go_loopw [9] (fun i wr => ∃ k : Nat, k ≤ L.length ∧ i = .int .i64 k ∧ Below w.heap.size w wr ∧ Below w4.heap.size w4 wr) (fun i _ => L.length - (intOf i).toNat)
  case atStart => exact ⟨0, Nat.zero_le _, rfl, B4.out, Below.refl _ _⟩
  case round =>
    obtain ⟨k, hk, rfl, hbel, hbel4⟩ := hrel
    have BR := Lib.hid hbel
    have B4R := Lib.hid hbel4
    have SR := Lib.hid (S4.out.below hbel4)
    by_cases hlt : k < L.length
    · obtain ⟨x, hx⟩ : ∃ x, L[k]? = some x := ⟨L[k], List.getElem?_eq_getElem _⟩
      obtain ⟨b, o, rfl, hbw, hat⟩ := (R4.out.below hbel4).at (by omega)
      have c0 := hat k x hx
      obtain ⟨h1, h0⟩ := WHO.out x (List.mem_of_getElem? hx)
      have hi0 : (0 : Int) ≤ (k : Int) := by omega
      have hi1 : (k : Int) < (L.length : Int) := by omega
      obtain ⟨g, hg⟩ : ∃ g, WhoHas_0 xs x d = g := ⟨_, rfl⟩
      have H1 := Lib.hid h1
      have HG := Lib.hid hg
      have gn : (g == 0) = false := by simpa [← hg] using h0
      clear hat hx h1 h0 hg hbel hbel4
      go_wp2_with fail
      refine (implWhoHas_any _ _ _ xs x d _ SR.out XL).mono ?_
      rintro e w5 ⟨rfl, hb⟩
      rw [HG.out, H1.out]
      have B5 := Lib.hid (Below.then' BR.out hb)
      have B45 := Lib.hid (Below.then' B4R.out hb)
      clear hb c0
      go_wp2
      go_roundw
      case rel => exact ⟨k + 1, by omega, by go_num, B5.out, B45.out⟩
      case measure => first | (simp [intOf]; done) | (simp [intOf]; omega)
    · obtain rfl : k = L.length := by omega
      have IC := Lib.hid (I.out.below BR.out)
      clear hbel hbel4
      clear S1 S2 S3 S4 R2 R3 R4 T3 B1 B2 B3 B4 WHO Q HL B4R
      go_wp2_with fail
      refine (drawProlongLoan_any _ _ _ _ IC.out).mono ?_
      rintro e w1 ⟨ma, mc, ys, s, t, n, rfl, hyl, hs, hb⟩
      have B1 := Lib.hid (Below.then' BR.out hb)
      have S1 := Lib.hid hs
      have X1 := Lib.hid (SR.out.below hb)
      have YL : ys.length ≤ 1048576 := by omega
      clear hb hs hyl
      obtain ⟨p, hp⟩ : ∃ q, ProlongLoan_1 ys s t n = q := ⟨_, rfl⟩
      obtain ⟨K, hK⟩ : ∃ R, ProlongLoan_0 ys s t n = R := ⟨_, rfl⟩
      have P := Lib.hid hp
      have HK := Lib.hid hK
      have PRO := Lib.hid (show p = true → LateOn_1 K t = true ∧ (¬ s ∈ LateOn_0 K t) ∧ FineOn_1 K s t = true ∧ FineOn_0 K s t = 0 from fun h => by rw [← hK]; exact pro_late (hp.trans h))
      have KLN : K.length ≤ 1048576 := by rw [← hK]; exact Nat.le_trans (ProlongLoan_0_len ys s t n YL) (by omega)
      clear hp hK
      go_wp2_with fail
      refine (implProlongLoan_any _ _ _ ys s t n _ S1.out YL).mono ?_
      rintro e w2 ⟨v1, rfl, hown, hb⟩
      rw [P.out]
      rw [HK.out] at hown
      have B2 := Lib.hid (Below.then' B1.out hb)
      have S2 := Lib.hid (S1.out.below hb)
      have X2 := Lib.hid (X1.out.below hb)
      obtain ⟨ka, kc, rfl, his, _⟩ := isLoanS_own hown
      have K2 := Lib.hid his
      clear hb hown his
      go_wp2_with fail
      refine (specProlongLoan_any _ _ _ ys s t n _ S2.out YL).mono ?_
      rintro e w3 ⟨v1, rfl, hown, hb⟩
      rw [P.out]
      rw [HK.out] at hown
      have B3 := Lib.hid (Below.then' B2.out hb)
      have X3 := Lib.hid (X2.out.below hb)
      have K3 := Lib.hid (K2.out.below hb)
      obtain ⟨ta, tc, rfl, his, _⟩ := isLoanS_own hown
      have T3 := Lib.hid his
      have bp := bnn p
      clear hb hown his
      go_wp2_with fail
      refine (rLoans_yes _ _ _ _ _ _ K _ K3.out T3.out).mono ?_
      rintro e w4 ⟨rfl, hb⟩
      have B4 := Lib.hid (Below.then' B3.out hb)
      have X4 := Lib.hid (X3.out.below hb)
      have K4 := Lib.hid (K3.out.below hb)
      clear hb bp
      go_upto_if 131 with (fail)
      go_cut [] (fun wx => Below w.heap.size w wx ∧ IsLoanS wx la xs.length lc xs)
      case first => as_aux_lemma =>
        cases p
        · go_wp2
          go_meet
          exact ⟨B4.out, X4.out⟩
        obtain ⟨h1, hm, f1, f0⟩ := PRO.out rfl
        have H1 := Lib.hid h1
        have F1 := Lib.hid f1
        have F0 := Lib.hid f0
        obtain ⟨M, hM⟩ : ∃ M, LateOn_0 K t = M := ⟨_, rfl⟩
        rw [hM] at hm
        have HM := Lib.hid hM
        have HS := Lib.hid (show hasB s M = false from by
          cases e : hasB s M with
          | false => rfl
          | true => exact absurd (hasB_iff.1 e) hm)
        clear h1 f1 f0 hm hM
        go_wp2_with fail
        refine (implLateOn_any _ _ _ K t _ K4.out KLN).mono ?_
        rintro e w5 ⟨v2, rfl, hown, hb⟩
        rw [H1.out]
        rw [HM.out] at hown
        have B5 := Lib.hid (Below.then' B4.out hb)
        have X5 := Lib.hid (X4.out.below hb)
        have K5 := Lib.hid (K4.out.below hb)
        obtain ⟨oa, oc, rfl, his, _⟩ := isInts_own hown
        have M5 := Lib.hid his
        clear hb hown his
        go_wp2_with fail
        refine (implFineOn_any _ _ _ K s t _ K5.out KLN).mono ?_
        rintro e w6 ⟨rfl, hb⟩
        rw [F0.out, F1.out]
        have B6 := Lib.hid (Below.then' B5.out hb)
        have X6 := Lib.hid (X5.out.below hb)
        have M6 := Lib.hid (M5.out.below hb)
        clear hb
        go_wp2_with fail
        refine (rHas_any _ _ _ M s _ M6.out).mono ?_
        rw [HS.out]
        rintro e w7 ⟨rfl, rfl⟩
        go_wp2
        go_meet
        exact ⟨B6.out, X6.out⟩
      case rest => as_aux_lemma =>
      obtain ⟨hb, hs⟩ := hcut
      rename World => wc
      have BC := Lib.hid hb
      have XC := Lib.hid hs
      clear hb hs S1 S2 K2 K3 K4 T3 B1 B2 B3 B4 X1 X2 X3 X4 PRO P HK KLN IC YL SR BR
      have IC := Lib.hid (I.out.below BC.out)
      go_wp2_with fail
      refine (drawDaysLent_any _ _ _ _ IC.out).mono ?_
      rintro e w1 ⟨na, nc, zs, y, u, rfl, hzl, hs, hb⟩
      have B1 := Lib.hid (Below.then' BC.out hb)
      have S1 := Lib.hid hs
      have X1 := Lib.hid (XC.out.below hb)
      have ZL : zs.length ≤ 1048576 := by omega
      clear hb hs hzl
      obtain ⟨g, hg⟩ : ∃ q, DaysLent_0 zs y u = q := ⟨_, rfl⟩
      obtain ⟨r, hr⟩ : ∃ q, DaysLent_1 zs y u = q := ⟨_, rfl⟩
      have G := Lib.hid hg
      have R := Lib.hid hr
      have NXT := Lib.hid (show r = true → u < 4000 → DaysLent_1 zs y (u + 1) = true ∧ g ≤ DaysLent_0 zs y (u + 1) ∧ DaysLent_0 zs y (u + 1) ≤ g + 1 ∧ (0 ≤ u ∧ u ≤ 4000) ∧ 0 ≤ g ∧ g ≤ 60000 from fun h hu => by
        have h1 := hr.trans h
        have h2 := next_day h1 hu
        have h3 : areLo zs = true ∧ idB y = true ∧ dayB u = true := by simpa [DaysLent_1] using h1
        have h4 : 0 ≤ u ∧ u ≤ 4000 := inB_iff.1 h3.2.2
        have h5 : 0 ≤ g ∧ g ≤ 60000 := by
          have := days_bdP (sh := y) h3.1 h4.1 h4.2 zs.length (Nat.le_refl _)
          rw [List.take_of_length_le (Nat.le_refl _)] at this
          rw [← hg]; unfold DaysLent_0; rw [h1, if_pos rfl]; exact this
        rw [← hg] at h5 ⊢
        exact ⟨h2.1, h2.2.1, h2.2.2, h4, h5⟩)
      clear hg hr
      go_wp2_with fail
      refine (implDaysLent_any _ _ _ zs y u _ S1.out ZL).mono ?_
      rintro e w2 ⟨rfl, hb⟩
      rw [G.out, R.out]
      have B2 := Lib.hid (Below.then' B1.out hb)
      have S2 := Lib.hid (S1.out.below hb)
      have X2 := Lib.hid (X1.out.below hb)
      clear hb
      go_wp2_with fail
      refine (specDaysLent_any _ _ _ zs y u _ S2.out ZL).mono ?_
      rintro e w3 ⟨rfl, hb⟩
      rw [G.out, R.out]
      have B3 := Lib.hid (Below.then' B2.out hb)
      have S3 := Lib.hid (S2.out.below hb)
      have X3 := Lib.hid (X2.out.below hb)
      have br := bnn r
      have bg : (g != g) = false := by simp
      clear hb
      obtain ⟨q, hq⟩ : ∃ q, (r && decide (u < 4000)) = q := ⟨_, rfl⟩
      have Q := Lib.hid hq
      clear hq
      go_upto_region 29 with (fail)
      go_cut [192] (fun c wx => c = .bool q ∧ Below w.heap.size w wx ∧ IsLoanS wx la xs.length lc xs ∧ IsLoanS wx na zs.length nc zs)
      case first => as_aux_lemma =>
        cases r
        · obtain rfl : q = false := by rw [← Q.out]; rfl
          go_wp2
          go_meet
          exact ⟨rfl, B3.out, X3.out, S3.out⟩
        · by_cases hu : u < 4000
          · have hu2 : decide (u < 4000) = true := decide_eq_true hu
            obtain rfl : q = true := by rw [← Q.out, hu2]; rfl
            go_wp2
            go_meet
            exact ⟨rfl, B3.out, X3.out, S3.out⟩
          · have hu2 : decide (u < 4000) = false := decide_eq_false hu
            obtain rfl : q = false := by rw [← Q.out, hu2]; rfl
            go_wp2
            go_meet
            exact ⟨rfl, B3.out, X3.out, S3.out⟩
      case rest =>
      obtain ⟨hc0, hb, hx0, hs0⟩ := hcut
      subst hc0
      rename World => wq
      have B3 := Lib.hid hb
      have X3 := Lib.hid hx0
      have S3 := Lib.hid hs0
      clear hb hx0 hs0 br bg
      go_upto_if 192 with (fail)
      go_cut [] (fun wx => Below w.heap.size w wx ∧ IsLoanS wx la xs.length lc xs)
      case first => as_aux_lemma =>
        cases q
        · go_wp2
          go_meet
          exact ⟨B3.out, X3.out⟩
        have hru : r = true ∧ u < 4000 := by simpa using Q.out
        obtain ⟨hr0, hu⟩ := hru
        obtain ⟨h1, h2, h3, ⟨h4, h5⟩, h6, h7⟩ := NXT.out hr0 hu
        obtain ⟨g2, hg2⟩ : ∃ q, DaysLent_0 zs y (u + 1) = q := ⟨_, rfl⟩
        have G2 := Lib.hid hg2
        have H1 := Lib.hid h1
        rw [hg2] at h2 h3
        have v1 : IntKind.i64.wrap (u + 1) = u + 1 := IntWalk.i64_in _ (by omega)
        have v2 : IntKind.i64.wrap (g + 1) = g + 1 := IntWalk.i64_in _ (by omega)
        have n1 : ¬ g2 < g := by omega
        have n2 : ¬ g + 1 < g2 := by omega
        have n3 : decide (g2 < g) = false := decide_eq_false n1
        have n4 : decide (g + 1 < g2) = false := decide_eq_false n2
        clear h1 h2 h3 hg2 hr0 hu Q
        go_wp2_with fail
        refine (implDaysLent_any _ _ _ zs y (u + 1) _ S3.out ZL).mono ?_
        rintro e w4 ⟨rfl, hb⟩
        rw [G2.out, H1.out]
        have B4 := Lib.hid (Below.then' B3.out hb)
        have X4 := Lib.hid (X3.out.below hb)
        clear hb
        go_wp2
        go_meet
        exact ⟨B4.out, X4.out⟩
      case rest => as_aux_lemma =>
      obtain ⟨hb, hs⟩ := hcut
      rename World => wd
      have BD := Lib.hid hb
      have XD := Lib.hid hs
      clear hb hs S1 S2 S3 B1 B2 B3 X1 X2 X3 NXT G R Q ZL BC XC IC
      obtain ⟨f0, hf0⟩ : ∃ q, FavoriteSheet_0 xs = q := ⟨_, rfl⟩
      obtain ⟨f1, hf1⟩ : ∃ q, FavoriteSheet_1 xs = q := ⟨_, rfl⟩
      have F0 := Lib.hid hf0
      have F1 := Lib.hid hf1
      clear hf0 hf1
      go_wp2_with fail
      refine (implFavoriteSheet_any _ _ _ xs _ XD.out XL).mono ?_
      rintro e w1 ⟨rfl, hb⟩
      rw [F0.out, F1.out]
      have B1 := Lib.hid (Below.then' BD.out hb)
      have X1 := Lib.hid (XD.out.below hb)
      clear hb
      go_wp2_with fail
      refine (specFavoriteSheet_any _ _ _ xs _ X1.out XL).mono ?_
      rintro e w2 ⟨rfl, hb⟩
      rw [F0.out, F1.out]
      have B2 := Lib.hid (Below.then' B1.out hb)
      have IC := Lib.hid (I.out.below B2.out)
      clear hb
      go_wp2_with fail
      refine (drawLoanText_any _ _ _ _ IC.out).mono ?_
      rintro e w3 ⟨l, rfl, hb⟩
      have B3 := Lib.hid (Below.then' B2.out hb)
      have Y3 := Lib.hid (BoxLoan.new w3 43 l _ rfl)
      have B4 := Lib.hid (Below.then' B3.out (bel_al1 w3 (.cells #[.int .i64 l.Sheet, .int .i64 l.Reader, .int .i64 l.Out, .int .i64 l.Due, .int .i64 l.Back] 43)))
      clear hb
      obtain ⟨t0, ht0⟩ : ∃ q, LoanText_0 l = q := ⟨_, rfl⟩
      obtain ⟨t1, ht1⟩ : ∃ q, LoanText_1 l = q := ⟨_, rfl⟩
      have T0 := Lib.hid ht0
      have T1 := Lib.hid ht1
      clear ht0 ht1
      go_wp2_with fail
      refine (implLoanText_any l _ (tabPow_below TP.out B4.out)).mono ?_
      rintro e w5 ⟨rfl, hb⟩
      rw [T0.out, T1.out]
      have B5 := Lib.hid (Below.then' B4.out hb)
      obtain ⟨y0, y1, y2, y3, y4⟩ := Y3.out.below hb
      clear hb
      go_wp2_with fail
      refine (specLoanText_any l _).mono ?_
      rintro e w6 ⟨rfl, hb⟩
      rw [T0.out, T1.out]
      have B6 := Lib.hid (Below.then' B5.out hb)
      have IC6 := Lib.hid (I.out.below B6.out)
      clear hb y0 y1 y2 y3 y4
      go_wp2_with fail
      refine (drawOpenLoans_any _ _ _ _ IC6.out).mono ?_
      rintro e w7 ⟨oa, oc, os, rd, wn, rfl, hol, hs, hb⟩
      have B7 := Lib.hid (Below.then' B6.out hb)
      have S7 := Lib.hid hs
      have OL : os.length ≤ 1048576 := by omega
      clear hb hs hol
      obtain ⟨o0, ho0⟩ : ∃ q, OpenLoans_0 os rd wn = q := ⟨_, rfl⟩
      obtain ⟨o1, ho1⟩ : ∃ q, OpenLoans_1 os rd wn = q := ⟨_, rfl⟩
      have O0 := Lib.hid ho0
      have O1 := Lib.hid ho1
      clear ho0 ho1
      go_wp2_with fail
      refine (implOpenLoans_any _ _ _ os rd wn _ S7.out OL).mono ?_
      rintro e w8 ⟨v1, rfl, hown, hb⟩
      rw [O1.out]
      rw [O0.out] at hown
      have B8 := Lib.hid (Below.then' B7.out hb)
      have S8 := Lib.hid (S7.out.below hb)
      obtain ⟨ra, rc, rfl, his, _⟩ := isInts_own hown
      have R8 := Lib.hid his
      clear hb hown his
      go_wp2_with fail
      refine (specOpenLoans_any _ _ _ os rd wn _ S8.out OL).mono ?_
      rintro e w9 ⟨v1, rfl, hown, hb⟩
      rw [O1.out]
      rw [O0.out] at hown
      have B9 := Lib.hid (Below.then' B8.out hb)
      have R9 := Lib.hid (R8.out.below hb)
      obtain ⟨ta, tc, rfl, his, _⟩ := isInts_own hown
      have T9 := Lib.hid his
      clear hb hown his
      have m0 : (f0 == f0) = true := by simp
      have m1 : (f1 == f1) = true := by simp
      have m2 : (t1 == t1) = true := by simp
      have m3 : (o1 == o1) = true := by simp
      go_wp2_with fail
      refine (rInts_yes _ _ _ _ _ _ o0 _ R9.out T9.out).mono ?_
      rintro e w10 ⟨rfl, hb⟩
      have B10 := Lib.hid (Below.then' B9.out hb)
      clear hb
      go_wp2
      go_ret
      exact ⟨rfl, B10.out⟩

theorem own : ownKnob Tryz.prog.godebug = none := by kernel_rfl
theorem laidOut : laidOutB Tryz.prog = true := by kernel_rfl
set_option maxRecDepth 100000 in
theorem contract (H : Type) (enc : TypeId × Value → H) (W : World) (base : Nat) (args : Array Value) (ds gs : List (DataW H)) (before : List MemPlace)
    (hval0 : ∀ (j : Nat) t v, Tryz.f3.params[j]? = some t → args[j]? = some v → Value.okWide Tryz.prog W .any base t v)
    (hW : DataW.Whole enc Tryz.prog Tryz.f3.params.toList Rows.fnLateSpec.vars false W args.toList ds gs before) (hL : laidMetH Tryz.prog Rows.fnLateRow.laid W) (hS : W.ShapedOpen Tryz.prog) :
    Calls Tryz.prog 3 args W fun e W' => ∃ v, e = .returned v ∧ Rows.fnLateSpec.post enc Tryz.prog Tryz.f3 false true false false W args v W' := by
  have hval : ∀ (j : Nat) t v, Tryz.f3.params[j]? = some t → args[j]? = some v → Value.okWide Tryz.prog W .any base t v := hval0
  have hW' := hW
  obtain ⟨p, q, hA0, hV, rfl, hfz, hnd⟩ := hW
  have hA : DataW.TrodAll enc Tryz.prog W 0 (fun _ => true) true Tryz.f3.params.toList args.toList ds p := hA0
  rw [Tryz.params3] at hA hval
  obtain ⟨v0, vs0, d0, ds0, p0, q0, hargs, rfl, rfl, h0, r0⟩ := trodAll_cons hA
  obtain ⟨rfl, rfl, rfl⟩ := trodAll_nil r0
  obtain rfl : args = #[v0] := by cases args; simp_all
  obtain ⟨rfl, rfl⟩ := trodVars_none hV
  obtain ⟨a0, len0, cap0, rfl⟩ := okWide_slice Tryz.underlying22 (hval 0 22 v0 rfl rfl)
  have k0 := h0
  have lt0 : ∀ x ∈ p0, x.block < W.heap.size := by obtain ⟨m, hm⟩ := k0; exact DataW.trod_lt m _ _ _ hm
  obtain ⟨z0, w0⟩ : ∃ zs, IsRow .u8 W a0 len0 cap0 zs := by
    obtain ⟨fuel, hf⟩ := h0
    rcases open_ints Tryz.underlying22 Tryz.underlying5 (by kernel_rfl) hf with ⟨hcs, _⟩ | ⟨x, l, c, zs, hcs, _, hl, hm, hz, _, hcell, hwz⟩
    · simp [Value.cells] at hcs
      obtain ⟨rfl, rfl, rfl⟩ := hcs
      exact ⟨[], .inl ⟨rfl, rfl, rfl, rfl⟩⟩
    · simp [Value.cells] at hcs
      obtain ⟨rfl, rfl, rfl⟩ := hcs
      exact ⟨zs, .inr ⟨_, rfl, hl, hm, by simpa using hz, hcell, hwz⟩⟩
  clear hA0 hval0
  refine (walk a0 len0 cap0 z0 W w0 hL hS).mono fun e W' ⟨he, bel⟩ => ?_
  subst he
  exact ⟨_, rfl, _, _, _, [], _, [], hW', trodAll_mk1 (shut_bool Tryz.underlying4 _), (trodAll_cons_mk (Below.trod laidOut (by kernel_rfl) (of_decide_eq_true (by kernel_rfl)) k0 bel lt0) trodAll_mk0), rfl, bel.frame _, fun h => by cases h⟩
theorem laid_met (os : Os) : laidMet Tryz.prog Rows.fnLateRow.laid ((World.doorLaid Tryz.prog 400 os).forCall (fun _ _ => 0) ⟨#[], #[.slice none 0 0], []⟩).memory :=
  laidMet_of_run' 8 (by kernel_rfl) (by kernel_rfl)
theorem reads (os : Os) {H : Type} (enc : TypeId × Value → H) : ∃ places, DataW.whole enc Tryz.prog ((World.doorLaid Tryz.prog 400 os).forCall (fun _ _ => 0) ⟨#[], #[.slice none 0 0], []⟩).memory Tryz.f3.params.toList Rows.fnLateSpec.vars false #[Value.slice none 0 0].toList 8 = some ([.nil], [], places) :=
  ⟨[], by kernel_rfl⟩
set_option maxRecDepth 100000 in
theorem lifted (os : Os) (started : os.Started) (H : Type) (enc : TypeId × Value → H) (F : Stop.Interp) :
    ReturnsInHanded {} Tryz.checked os 3 .any ((OpenSpec.ofChange Rows.fnLateSpec).preRow enc Tryz.prog Tryz.f3 Rows.fnLateRow.domain false Rows.fnLateRow.laid) (((OpenSpec.ofChange Rows.fnLateSpec).at F).post enc Tryz.prog Tryz.f3 false true false false) := by
  obtain ⟨places, hx⟩ := reads os enc
  refine returnsInHanded_of_row (C := Tryz.checked) (s := OpenSpec.ofChange Rows.fnLateSpec) own started (by kernel_rfl) Tryz.func3
    (witness_row_at (enc := enc) (C := Tryz.checked) false (World.doorLaid Tryz.prog 400 os) #[.slice none 0 0] rfl (by kernel_rfl) (by kernel_rfl) (by kernel_rfl)
      (OpenSpec.preRow_of_cond 8 hx (by kernel_rfl) (fun k hk => by cases hk) (by kernel_rfl) (laid_met os))) ?_
  intro W base args ds gs before hval hW _ _ _ hL hS _
  exact contract H enc W base args ds gs before hval hW hL hS
theorem said : Rows.FnLateSaid :=
  OpenClaim.holds_of_cond 3 Tryz.f3 rfl rfl rfl rfl rfl rfl rfl ⟨rfl, rfl, rfl, rfl, rfl⟩ rfl rfl rfl rfl rfl (by kernel_rfl) Tryz.func3 (by kernel_rfl)
    (of_decide_eq_true (by kernel_rfl)) (by unfold Func.isWrapper; first | (rw [if_pos (by decide +kernel)]; kernel_rfl) | (rw [if_neg (by decide +kernel)]; exact ⟨rfl, rfl⟩))
    (fun os started H enc _ F => by rw [OpenClaim.pre_eq_preRow]; exact lifted os started H enc F)
theorem plain (f : FuncId) (fn : Func) (hf : Tryz.pinned.checked.prog.funcNamed "loop.example/g01060/laws.FnLate" = some f) (hfn : Tryz.pinned.checked.prog.funcs[f]? = some fn) :
    false = Tryz.pinned.checked.prog.looks [] ∧ ∀ (j : Nat) t, fn.params[j]? = some t → Tryz.pinned.checked.prog.wantsStandIn t = false := by
  obtain rfl : f = 3 := Option.some.inj ((show Tryz.prog.funcNamed "loop.example/g01060/laws.FnLate" = some 3 by kernel_rfl).symm.trans hf) |>.symm
  obtain rfl : fn = Tryz.f3 := (Option.some.inj (Tryz.func3.symm.trans hfn)).symm
  refine ⟨by kernel_rfl, fun j t ht => ?_⟩
  rw [Tryz.params3] at ht
  have hm := Array.mem_of_getElem? ht
  simp only [List.mem_toArray, List.mem_cons, List.not_mem_nil, or_false] at hm
  subst hm
  exact (show Tryz.prog.wantsStandIn 22 = false by kernel_rfl)
theorem proved : Rows.FnLateCardSaid :=
  Claim7.holds_tied_plain_at .later [] _ _ _ _ said (fun _ h => by cases h) (by kernel_rfl) (fun _ h => by cases h) fnLate_row_tie rfl ⟨rfl, rfl⟩ (by kernel_rfl) rfl plain (by kernel_rfl)
#print axioms proved
end Go.Proofs.YtffbljbgmgifnaaGreatDoor.fnLate
