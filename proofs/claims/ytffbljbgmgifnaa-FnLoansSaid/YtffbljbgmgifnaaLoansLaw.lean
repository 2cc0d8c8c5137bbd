/- FnLoans: for every code the law returns true and leaves it as it was. No condition. -/
import Derived.Test.YtffbljbgmgifnaaRows
import Derived.Test.YtffbljbgmgifnaaLoz5
import Derived.Test.YtffbljbgmgifnaaVars
import Derived.ProofKit
import Derived.OpenShut
import Derived.ShutString
import Derived.ChangeOld
import Derived.Carry
import Derived.Deep.DeepCutAuto
namespace Go.Proofs.Ytffbljbgmgifnaa.fnLoans
open Go.ChangeShapes Go.WideShapes Go.ChangeAt Go.RowKit
set_option linter.unusedVariables false

set_option maxHeartbeats 51200000 in
set_option maxRecDepth 100000 in
theorem walk (a0 : Option Addr) (len0 cap0 : Nat) (z0 : List Int) (w : World) (w0 : IsRow .u8 w a0 len0 cap0 z0) :
    Calls Try.prog 4 #[.slice a0 len0 cap0] w fun e w' => e = .returned (.bool true) ∧ Below w.heap.size w w' := by
  have I := Lib.hid (CodeIn.of_row w0)
  clear w0
  by_cases hbig : 65536 < len0
  · have hd : decide (65536 < len0) = true := by simpa using hbig
    go_enter Try.func4, Try.ntmps4
    go_wp2_with fail
    refine (rBig_any _ _ _ _).mono ?_
    rw [hd]
    rintro e w' ⟨rfl, rfl⟩
    go_wp2
    go_ret
    exact ⟨rfl, Below.refl _ _⟩
  have hd : decide (65536 < len0) = false := by simp; omega
  go_enter Try.func4, Try.ntmps4
  go_wp2_with fail
  refine (rBig_any _ _ _ _).mono ?_
  rw [hd]
  rintro e w' ⟨rfl, rfl⟩
  clear hd hbig
  go_wp2_with fail
  refine (drawLendSheet_any _ _ _ _ I.out).mono ?_
  rintro e w1 ⟨la, lc, xs, x, r, d, n, rfl, hxl, hs, hb⟩
  have B1 := Lib.hid hb
  have S1 := Lib.hid hs
  have XL : xs.length ≤ 1048576 := by omega
  clear hb hs hxl
  obtain ⟨q, hq⟩ : ∃ q, LendSheet_1 xs x r d n = q := ⟨_, rfl⟩
  obtain ⟨R, hR⟩ : ∃ R, LendSheet_0 xs x r d n = R := ⟨_, rfl⟩
  have Q := Lib.hid hq
  have HR := Lib.hid hR
  have FREE := Lib.hid (show q = true → WhoHas_1 xs x d = true ∧ WhoHas_0 xs x d = 0 from fun h => lend_free (hq.trans h))
  have HAS := Lib.hid (show q = true → WhoHas_1 R x d = true ∧ WhoHas_0 R x d = r ∧ OpenLoans_1 R r d = true ∧ x ∈ OpenLoans_0 R r d from fun h => hR ▸ lend_has (hq.trans h))
  have RLN : R.length ≤ 1048576 := by rw [← hR]; exact Nat.le_trans (LendSheet_0_len xs x r d n XL) (by omega)
  clear hq hR
  go_wp2_with fail
  refine (implLendSheet_any _ _ _ xs x r d n _ S1.out XL).mono ?_
  rintro e w2 ⟨v1, rfl, hown, hb⟩
  rw [Q.out]
  rw [HR.out] at hown
  have B2 := Lib.hid (Below.then' B1.out hb)
  have S2 := Lib.hid (S1.out.below hb)
  obtain ⟨ra, rc, rfl, his, _⟩ := isLoanS_own hown
  have R2 := Lib.hid his
  clear hb hown his
  go_wp2_with fail
  refine (specLendSheet_any _ _ _ xs x r d n _ S2.out XL).mono ?_
  rintro e w3 ⟨v1, rfl, hown, hb⟩
  rw [Q.out]
  rw [HR.out] at hown
  have B3 := Lib.hid (Below.then' B2.out hb)
  have S3 := Lib.hid (S2.out.below hb)
  have R3 := Lib.hid (R2.out.below hb)
  obtain ⟨ta, tc, rfl, his, _⟩ := isLoanS_own hown
  have T3 := Lib.hid his
  have bq := bnn q
  clear hb hown his
  go_wp2_with fail
  refine (rLoans_yes _ _ _ _ _ _ R _ R3.out T3.out).mono ?_
  rintro e w4 ⟨rfl, hb⟩
  have B4 := Lib.hid (Below.then' B3.out hb)
  have S4 := Lib.hid (S3.out.below hb)
  have R4 := Lib.hid (R3.out.below hb)
  clear hb bq
  go_upto_if 76 with (fail)
  go_cut [] (fun wx => Below w.heap.size w wx)
  case first =>
    cases q
    · go_wp2
      go_meet
      exact B4.out
    obtain ⟨f1, f0⟩ := FREE.out rfl
    obtain ⟨h1, h0, o1, hm⟩ := HAS.out rfl
    have F1 := Lib.hid f1
    have F0 := Lib.hid f0
    have H1 := Lib.hid h1
    have H0 := Lib.hid h0
    have O1 := Lib.hid o1
    have HM := Lib.hid (hasB_iff.2 hm)
    have rr : (r != r) = false := by simp
    clear f1 f0 h1 h0 o1 hm
    go_wp2_with fail
    refine (implWhoHas_any _ _ _ xs x d _ S4.out XL).mono ?_
    rintro e w5 ⟨rfl, hb⟩
    rw [F0.out, F1.out]
    have B5 := Lib.hid (Below.then' B4.out hb)
    have R5 := Lib.hid (R4.out.below hb)
    clear hb
    go_wp2_with fail
    refine (implWhoHas_any _ _ _ R x d _ R5.out RLN).mono ?_
    rintro e w6 ⟨rfl, hb⟩
    rw [H0.out, H1.out]
    have B6 := Lib.hid (Below.then' B5.out hb)
    have R6 := Lib.hid (R5.out.below hb)
    clear hb
    go_wp2_with fail
    refine (implOpenLoans_any _ _ _ R r d _ R6.out RLN).mono ?_
    rintro e w7 ⟨v2, rfl, hown, hb⟩
    rw [O1.out]
    obtain ⟨L, hL⟩ : ∃ L, OpenLoans_0 R r d = L := ⟨_, rfl⟩
    rw [hL] at hown HM
    have B7 := Lib.hid (Below.then' B6.out hb)
    obtain ⟨oa, oc, rfl, his, _⟩ := isInts_own hown
    have L7 := Lib.hid his
    clear hb hown his hL
    go_wp2_with fail
    refine (rHas_any _ _ _ L x _ L7.out).mono ?_
    rw [HM.out]
    rintro e w8 ⟨rfl, rfl⟩
    go_wp2
    go_meet
    exact B7.out
  case rest =>
  have BC := Lib.hid hcut
  clear hcut S1 S2 S3 S4 R2 R3 R4 T3 B1 B2 B3 B4 FREE HAS Q HR RLN XL
  rename World => wc
  have IC := Lib.hid (I.out.below BC.out)
  go_wp2_with fail
  refine (drawReturnSheet_any _ _ _ _ IC.out).mono ?_
  rintro e w1 ⟨ma, mc, ys, s, t, rfl, hyl, hs, hb⟩
  have B1 := Lib.hid (Below.then' BC.out hb)
  have S1 := Lib.hid hs
  have YL : ys.length ≤ 1048576 := by omega
  clear hb hs hyl
  obtain ⟨p, hp⟩ : ∃ q, ReturnSheet_2 ys s t = q := ⟨_, rfl⟩
  obtain ⟨F, hF⟩ : ∃ F, ReturnSheet_1 ys s t = F := ⟨_, rfl⟩
  obtain ⟨K, hK⟩ : ∃ R, ReturnSheet_0 ys s t = R := ⟨_, rfl⟩
  have P := Lib.hid hp
  have HF := Lib.hid hF
  have HK := Lib.hid hK
  have BACK := Lib.hid (show p = true → WhoHas_1 K s t = true ∧ WhoHas_0 K s t = 0 ∧ FineOn_1 K s t = true ∧ FineOn_0 K s t = F from fun h => by rw [← hK, ← hF]; exact ret_free (hp.trans h))
  have KLN : K.length ≤ 1048576 := by rw [← hK]; exact Nat.le_trans (ReturnSheet_0_len ys s t YL) (by omega)
  clear hp hF hK
  go_wp2_with fail
  refine (implReturnSheet_any _ _ _ ys s t _ S1.out YL).mono ?_
  rintro e w2 ⟨v1, rfl, hown, hb⟩
  rw [P.out, HF.out]
  rw [HK.out] at hown
  have B2 := Lib.hid (Below.then' B1.out hb)
  have S2 := Lib.hid (S1.out.below hb)
  obtain ⟨ka, kc, rfl, his, _⟩ := isLoanS_own hown
  have K2 := Lib.hid his
  clear hb hown his
  go_wp2_with fail
  refine (specReturnSheet_any _ _ _ ys s t _ S2.out YL).mono ?_
  rintro e w3 ⟨v1, rfl, hown, hb⟩
  rw [P.out, HF.out]
  rw [HK.out] at hown
  have B3 := Lib.hid (Below.then' B2.out hb)
  have S3 := Lib.hid (S2.out.below hb)
  have K3 := Lib.hid (K2.out.below hb)
  obtain ⟨ta, tc, rfl, his, _⟩ := isLoanS_own hown
  have T3 := Lib.hid his
  have bp := bnn p
  have bf : (F != F) = false := by simp
  clear hb hown his
  go_wp2_with fail
  refine (rLoans_yes _ _ _ _ _ _ K _ K3.out T3.out).mono ?_
  rintro e w4 ⟨rfl, hb⟩
  have B4 := Lib.hid (Below.then' B3.out hb)
  have S4 := Lib.hid (S3.out.below hb)
  have K4 := Lib.hid (K3.out.below hb)
  clear hb bp bf
  go_upto_if 159 with (fail)
  go_cut [] (fun wx => Below w.heap.size w wx ∧ IsLoanS wx ma ys.length mc ys)
  case first =>
    cases p
    · go_wp2
      go_meet
      exact ⟨B4.out, S4.out⟩
    obtain ⟨h1, h0, f1, f0⟩ := BACK.out rfl
    have F1 := Lib.hid f1
    have F0 := Lib.hid f0
    have H1 := Lib.hid h1
    have H0 := Lib.hid h0
    have ff : (F != F) = false := by simp
    clear f1 f0 h1 h0
    go_wp2_with fail
    refine (implWhoHas_any _ _ _ K s t _ K4.out KLN).mono ?_
    rintro e w5 ⟨rfl, hb⟩
    rw [H0.out, H1.out]
    have B5 := Lib.hid (Below.then' B4.out hb)
    have S5 := Lib.hid (S4.out.below hb)
    have K5 := Lib.hid (K4.out.below hb)
    clear hb
    go_wp2_with fail
    refine (implFineOn_any _ _ _ K s t _ K5.out KLN).mono ?_
    rintro e w6 ⟨rfl, hb⟩
    rw [F0.out, F1.out]
    have B6 := Lib.hid (Below.then' B5.out hb)
    have S6 := Lib.hid (S5.out.below hb)
    clear hb
    go_wp2
    go_meet
    exact ⟨B6.out, S6.out⟩
  case rest =>
  obtain ⟨hb, hs⟩ := hcut
  rename World => wd
  have B5 := Lib.hid hb
  have S5 := Lib.hid hs
  clear hb hs S1 S2 S3 S4 K2 K3 K4 T3 B1 B2 B3 B4 BACK P HF HK KLN
  obtain ⟨k0, hk0⟩ : ∃ k, WhoHas_0 ys s t = k := ⟨_, rfl⟩
  obtain ⟨k1, hk1⟩ : ∃ k, WhoHas_1 ys s t = k := ⟨_, rfl⟩
  obtain ⟨g0, hg0⟩ : ∃ k, FineOn_0 ys s t = k := ⟨_, rfl⟩
  obtain ⟨g1, hg1⟩ : ∃ k, FineOn_1 ys s t = k := ⟨_, rfl⟩
  obtain ⟨u, hu⟩ : ∃ k, areLo ys = k := ⟨_, rfl⟩
  have K0 := Lib.hid hk0
  have K1 := Lib.hid hk1
  have G0 := Lib.hid hg0
  have G1 := Lib.hid hg1
  have U := Lib.hid hu
  clear hk0 hk1 hg0 hg1 hu
  go_wp2_with fail
  refine (implWhoHas_any _ _ _ ys s t _ S5.out YL).mono ?_
  rintro e w6 ⟨rfl, hb⟩
  rw [K0.out, K1.out]
  have B6 := Lib.hid (Below.then' B5.out hb)
  have S6 := Lib.hid (S5.out.below hb)
  clear hb
  go_wp2_with fail
  refine (specWhoHas_any _ _ _ ys s t _ S6.out YL).mono ?_
  rintro e w7 ⟨rfl, hb⟩
  rw [K0.out, K1.out]
  have B7 := Lib.hid (Below.then' B6.out hb)
  have S7 := Lib.hid (S6.out.below hb)
  clear hb
  go_wp2_with fail
  refine (implFineOn_any _ _ _ ys s t _ S7.out YL).mono ?_
  rintro e w8 ⟨rfl, hb⟩
  rw [G0.out, G1.out]
  have B8 := Lib.hid (Below.then' B7.out hb)
  have S8 := Lib.hid (S7.out.below hb)
  clear hb
  go_wp2_with fail
  refine (specFineOn_any _ _ _ ys s t _ S8.out YL).mono ?_
  rintro e w9 ⟨rfl, hb⟩
  rw [G0.out, G1.out]
  have B9 := Lib.hid (Below.then' B8.out hb)
  have S9 := Lib.hid (S8.out.below hb)
  clear hb
  have m0 : (k0 == k0) = true := by simp
  have m1 : (k1 == k1) = true := by simp
  have m2 : (g0 == g0) = true := by simp
  have m3 : (g1 == g1) = true := by simp
  have m4 : (u == u) = true := by simp
  go_wp2_with fail
  refine (areLoans_any _ _ _ ys _ S9.out).mono ?_
  rintro e w10 ⟨rfl, hb⟩
  rw [U.out]
  have B10 := Lib.hid (Below.then' B9.out hb)
  have S10 := Lib.hid (S9.out.below hb)
  clear hb
  go_wp2_with fail
  refine (specAreLoans_any _ _ _ ys _ S10.out YL).mono ?_
  rintro e w11 ⟨rfl, hb⟩
  rw [show AreLoans_0 ys = u from U.out]
  have B11 := Lib.hid (Below.then' B10.out hb)
  clear hb
  go_wp2
  go_ret
  exact ⟨rfl, B11.out⟩

theorem own : ownKnob Try.prog.godebug = none := by kernel_rfl
theorem laidOut : laidOutB Try.prog = true := by kernel_rfl
set_option maxRecDepth 100000 in
theorem lifted (os : Os) (started : os.Started) (H : Type) (enc : TypeId × Value → H) :
    ReturnsInHanded {} Try.checked os 4 .any (Rows.fnLoansSpec.pre6 enc Try.prog Try.f4 Rows.fnLoansRow.domain false) (Rows.fnLoansSpec.post enc Try.prog Try.f4 false true false false) := by
  refine returnsInHanded_of_change (C := Try.checked) own started (by kernel_rfl) Try.func4
    (ChangeSpec.witness6 (enc := enc) (C := Try.checked) false ⟨#[], #[.slice none 0 0], []⟩ 8 (by kernel_rfl) (by kernel_rfl) (by kernel_rfl) (by kernel_rfl)) ?_
  intro W base args ds gs before hval0 hW hcnd _
  have hval : ∀ (j : Nat) t v, Try.f4.params[j]? = some t → args[j]? = some v → Value.okWide Try.prog W .any base t v := hval0
  have hW' := hW
  obtain ⟨p, q, hA0, hV, rfl, hfz, hnd⟩ := hW
  have hA : DataW.TrodAll enc Try.prog W 0 (fun _ => true) true Try.f4.params.toList args.toList ds p := hA0
  rw [Try.params4] at hA hval
  obtain ⟨v0, vs0, d0, ds0, p0, q0, hargs, rfl, rfl, h0, r0⟩ := trodAll_cons hA
  obtain ⟨rfl, rfl, rfl⟩ := trodAll_nil r0
  obtain rfl : args = #[v0] := by cases args; simp_all
  obtain ⟨rfl, rfl⟩ := trodVars_none hV
  obtain ⟨a0, len0, cap0, rfl⟩ := okWide_slice Try.underlying22 (hval 0 22 v0 rfl rfl)
  have k0 := h0
  have lt0 : ∀ x ∈ p0, x.block < W.heap.size := by obtain ⟨m, hm⟩ := k0; exact DataW.trod_lt m _ _ _ hm
  obtain ⟨z0, w0⟩ : ∃ zs, IsRow .u8 W a0 len0 cap0 zs := by
    obtain ⟨fuel, hf⟩ := h0
    rcases open_ints Try.underlying22 Try.underlying5 (by kernel_rfl) hf with ⟨hcs, _⟩ | ⟨x, l, c, zs, hcs, _, hl, hm, hz, _, hcell, hwz⟩
    · simp [Value.cells] at hcs
      obtain ⟨rfl, rfl, rfl⟩ := hcs
      exact ⟨[], .inl ⟨rfl, rfl, rfl, rfl⟩⟩
    · simp [Value.cells] at hcs
      obtain ⟨rfl, rfl, rfl⟩ := hcs
      exact ⟨zs, .inr ⟨_, rfl, hl, hm, by simpa using hz, hcell, hwz⟩⟩
  clear hA0 hval0
  refine (walk a0 len0 cap0 z0 W w0).mono fun e W' ⟨he, bel⟩ => ?_
  subst he
  exact ⟨_, rfl, _, _, _, [], _, [], hW', trodAll_mk1 (shut_bool Try.underlying4 _), (trodAll_cons_mk (Below.trod laidOut (by kernel_rfl) (of_decide_eq_true (by kernel_rfl)) k0 bel lt0) trodAll_mk0), rfl, bel.frame _, fun h => by cases h⟩
theorem over : Rows.fnLoansRow.holds Try.pinned (OpenSpec.ofChange Rows.fnLoansSpec) :=
  OpenClaim.holds_of_wide 4 Try.f4 rfl rfl rfl rfl rfl rfl rfl ⟨rfl, rfl, rfl, rfl, rfl⟩ rfl rfl rfl rfl rfl (by kernel_rfl) Try.func4 (by kernel_rfl)
    (of_decide_eq_true (by kernel_rfl)) (by unfold Func.isWrapper; first | (rw [if_pos (by decide +kernel)]; kernel_rfl) | (rw [if_neg (by decide +kernel)]; exact ⟨rfl, rfl⟩))
    (fun os started H enc _ => lifted os started H enc)
theorem proved : Rows.FnLoansSaid := over
#print axioms proved
end Go.Proofs.Ytffbljbgmgifnaa.fnLoans
