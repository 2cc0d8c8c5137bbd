/- FnExactBrokenClaims: for every argument the law returns true and leaves all as it was. No condition. (the walk made by genlaw2.py) -/
import Derived.Test.YtobpgoiaimlonaaRows
import Derived.Test.YtobpgoiaimlonaaCz1
import Derived.Test.YtobpgoiaimlonaaVars
import Derived.ProofKit
import Derived.OpenShut
import Derived.ShutString
import Derived.ChangeOld
import Derived.Carry
namespace Go.Proofs.Ytobpgoiaimlonaa.fnExactBrokenClaims
open Go.ChangeShapes Go.WideShapes Go.ChangeAt Go.RowKit
open Go.ChangeMaps (open_string shut_string)
set_option linter.unusedVariables false

set_option maxHeartbeats 12800000 in
set_option maxRecDepth 100000 in
theorem walk (z0 : Int) (a1 : Option Addr) (len1 cap1 : Nat) (z1 : List VClaim) (a2 : Option Addr) (len2 cap2 : Nat) (z2 : List Int) (w : World) (_ : (Lit.int .i64 z0).wf = true) (fa1 : IsClaimS w a1 len1 cap1 z1) (fa2 : IsInts w a2 len2 cap2 z2) :
    Calls Try.prog 10 #[.int .i64 z0, .slice a1 len1 cap1, .slice a2 len2 cap2] w fun e w' => e = .returned (.bool true) ∧ Below w.heap.size w w' := by
  have hl1 : len1 ≤ maxLen := Nat.le_trans fa1.2.1 fa1.2.2.1
  have S1 := Lib.hid fa1
  have L1 := Lib.hid fa1.1
  clear fa1
  have hl2 : len2 ≤ maxLen := Nat.le_trans fa2.2.1 fa2.2.2.1
  have S2 := Lib.hid fa2
  have L2 := Lib.hid fa2.1
  clear fa2
  go_enter Try.func10, Try.ntmps10
  by_cases hbig2 : 1048576 < len2
  · have hbi2 : (1048576 : Int) < (len2 : Int) := by omega
    go_wp2
    go_ret
    exact ⟨rfl, (Below.refl _ _)⟩
  have hbi2 : (len2 : Int) ≤ 1048576 := by omega
  have C2 := Lib.hid (show condInt z2 from by unfold condInt; have := L2.out; omega)
  go_wp2_with fail
  refine (szClaimS_o _ _ _ z1 _ _ (S1.out) (by omega) (by omega)).mono ?_
  rintro e w1 ⟨left1, rfl, hle1, hsz, hb⟩
  have B1 := Lib.hid hb
  have s1 := hb.size
  have HZ1 := Lib.hid hsz
  clear hsz hb
  by_cases hneg1 : left1 < 0
  · go_wp2
    go_ret
    exact ⟨rfl, B1.out⟩
  have C1 := Lib.hid (HZ1.out (by omega))
  have hle1' : 0 ≤ left1 := by omega
  obtain ⟨q0, hqq0⟩ : ∃ q, BrokenClaims_0 z0 z1 z2 = q := ⟨_, rfl⟩
  have hq0 := BrokenClaims_0_cnt z0 z1 z2 C1.out C2.out
  rw [hqq0] at hq0
  have Q0 := Lib.hid hqq0
  clear hqq0
  obtain ⟨q1, hqq1⟩ : ∃ q, BrokenClaims_1 z0 z1 z2 = q := ⟨_, rfl⟩
  have Q1 := Lib.hid hqq1
  clear hqq1
  have hc1 := cntClaim_cond C1.out
  have hc2 := cntInt_cond C2.out
  go_wp2_with fail
  refine (toClaimS_o a1 len1 cap1 z1 _ (S1.out.below B1.out) C1.out).mono ?_
  rintro e w2 ⟨v, rfl, hown, hb⟩
  have B2 := Lib.hid (Below.then' B1.out hb)
  have s2 := hb.size
  obtain ⟨TW1a, TW1c, rfl⟩ := hown.form
  have TW1_2 := Lib.hid hown
  clear hown hb
  go_wp2_with fail
  refine (toIntS_o a2 len2 cap2 z2 _ (S2.out.below B2.out) C2.out).mono ?_
  rintro e w3 ⟨v, rfl, hown, hb⟩
  have B3 := Lib.hid (Below.then' B2.out hb)
  have s3 := hb.size
  have TW1_3 := Lib.hid (TW1_2.out.below hb)
  obtain ⟨TW2a, TW2c, rfl⟩ := hown.form
  have TW2_3 := Lib.hid hown
  clear hown hb
  go_wp2_with fail
  refine (specBrokenClaims_any z0 _ _ _ z1 _ _ _ z2 _ TW1_3.out.is C1.out TW2_3.out.is C2.out).mono ?_
  rintro e w4 ⟨v0, rfl, hown0, hb⟩
  rw [Q0.out] at hown0
  rw [Q1.out]
  have B4 := Lib.hid (Below.then' B3.out hb)
  have s4 := hb.size
  have TW1_4 := Lib.hid (TW1_3.out.below hb)
  have TW2_4 := Lib.hid (TW2_3.out.below hb)
  obtain ⟨W0a, W0c, rfl⟩ := hown0.form
  have W0_4 := Lib.hid hown0
  clear hown0
  clear hb
  go_wp2_with fail
  refine (toClaimS_o a1 len1 cap1 z1 _ (S1.out.below B4.out) C1.out).mono ?_
  rintro e w5 ⟨v, rfl, hown, hb⟩
  have B5 := Lib.hid (Below.then' B4.out hb)
  have s5 := hb.size
  have W0_5 := Lib.hid (W0_4.out.below hb)
  obtain ⟨X1a, X1c, rfl⟩ := hown.form
  have X1_5 := Lib.hid hown
  clear hown hb
  go_wp2_with fail
  refine (toIntS_o a2 len2 cap2 z2 _ (S2.out.below B5.out) C2.out).mono ?_
  rintro e w6 ⟨v, rfl, hown, hb⟩
  have B6 := Lib.hid (Below.then' B5.out hb)
  have s6 := hb.size
  have W0_6 := Lib.hid (W0_5.out.below hb)
  have X1_6 := Lib.hid (X1_5.out.below hb)
  obtain ⟨X2a, X2c, rfl⟩ := hown.form
  have X2_6 := Lib.hid hown
  clear hown hb
  go_wp2_with fail
  refine (implBrokenClaims_any z0 _ _ _ z1 _ _ _ z2 _ X1_6.out.is X2_6.out.is).mono ?_
  rintro e w7 ⟨v0, rfl, hown0, hb⟩
  rw [Q0.out] at hown0
  rw [Q1.out]
  have B7 := Lib.hid (Below.then' B6.out hb)
  have s7 := hb.size
  have W0_7 := Lib.hid (W0_6.out.below hb)
  have X1_7 := Lib.hid (X1_6.out.below hb)
  have X2_7 := Lib.hid (X2_6.out.below hb)
  obtain ⟨G0a, G0c, rfl⟩ := hown0.form
  have G0_7 := Lib.hid hown0
  clear hown0
  clear hb
  go_wp2_with fail
  refine (eqIntS_yes _ _ _ _ _ _ q0 _ G0_7.out.is W0_7.out.is).mono ?_
  rintro e w8 ⟨rfl, hb⟩
  have B8 := Lib.hid (Below.then' B7.out hb)
  have s8 := hb.size
  have W0_8 := Lib.hid (W0_7.out.below hb)
  have X1_8 := Lib.hid (X1_7.out.below hb)
  have X2_8 := Lib.hid (X2_7.out.below hb)
  have G0_8 := Lib.hid (G0_7.out.below hb)
  clear hb
  go_wp2_with fail
  refine (toClaimS_o a1 len1 cap1 z1 _ (S1.out.below B8.out) C1.out).mono ?_
  rintro e w9 ⟨v, rfl, hown, hb⟩
  have B9 := Lib.hid (Below.then' B8.out hb)
  have s9 := hb.size
  have W0_9 := Lib.hid (W0_8.out.below hb)
  have X1_9 := Lib.hid (X1_8.out.below hb)
  have X2_9 := Lib.hid (X2_8.out.below hb)
  have G0_9 := Lib.hid (G0_8.out.below hb)
  obtain ⟨E1a, E1c, rfl⟩ := hown.form
  have E1_9 := Lib.hid hown
  clear hown hb
  go_wp2_with fail
  refine (eqClaimS_yes _ _ _ _ _ _ z1 _ X1_9.out.is E1_9.out.is).mono ?_
  rintro e w10 ⟨rfl, hb⟩
  have B10 := Lib.hid (Below.then' B9.out hb)
  have s10 := hb.size
  have W0_10 := Lib.hid (W0_9.out.below hb)
  have X1_10 := Lib.hid (X1_9.out.below hb)
  have X2_10 := Lib.hid (X2_9.out.below hb)
  have G0_10 := Lib.hid (G0_9.out.below hb)
  have E1_10 := Lib.hid (E1_9.out.below hb)
  clear hb
  go_wp2_with fail
  refine (toIntS_o a2 len2 cap2 z2 _ (S2.out.below B10.out) C2.out).mono ?_
  rintro e w11 ⟨v, rfl, hown, hb⟩
  have B11 := Lib.hid (Below.then' B10.out hb)
  have s11 := hb.size
  have W0_11 := Lib.hid (W0_10.out.below hb)
  have X1_11 := Lib.hid (X1_10.out.below hb)
  have X2_11 := Lib.hid (X2_10.out.below hb)
  have G0_11 := Lib.hid (G0_10.out.below hb)
  obtain ⟨E2a, E2c, rfl⟩ := hown.form
  have E2_11 := Lib.hid hown
  clear hown hb
  go_wp2_with fail
  refine (eqIntS_yes _ _ _ _ _ _ z2 _ X2_11.out.is E2_11.out.is).mono ?_
  rintro e w12 ⟨rfl, hb⟩
  have B12 := Lib.hid (Below.then' B11.out hb)
  have s12 := hb.size
  have W0_12 := Lib.hid (W0_11.out.below hb)
  have X1_12 := Lib.hid (X1_11.out.below hb)
  have X2_12 := Lib.hid (X2_11.out.below hb)
  have G0_12 := Lib.hid (G0_11.out.below hb)
  have E2_12 := Lib.hid (E2_11.out.below hb)
  clear hb
  go_wp2_with fail
  refine (markClaimS_o _ _ _ z1 (1) _ X1_12.out (by omega)).mono ?_
  rintro e w13 ⟨rfl, hm, hg⟩
  have B13 := Lib.hid (Turned.below B12.out hg (by omega) (by omega))
  have s13 := hg.size
  have W0_13 := Lib.hid (W0_12.out.turned hg (by omega))
  have X2_13 := Lib.hid (X2_12.out.turned hg (by omega))
  have G0_13 := Lib.hid (G0_12.out.turned hg (by omega))
  clear hm hg
  go_wp2_with fail
  refine (markIntS_o _ _ _ z2 (1 + cntClaim z1) _ X2_13.out (by omega)).mono ?_
  rintro e w14 ⟨rfl, hm, hg⟩
  have B14 := Lib.hid (Turned.below B13.out hg (by omega) (by omega))
  have s14 := hg.size
  have W0_14 := Lib.hid (W0_13.out.turned hg (by omega))
  have G0_14 := Lib.hid (G0_13.out.turned hg (by omega))
  clear hm hg
  go_wp2_with fail
  refine (eqIntS_yes _ _ _ _ _ _ q0 _ G0_14.out.is W0_14.out.is).mono ?_
  rintro e w15 ⟨rfl, hb⟩
  have B15 := Lib.hid (Below.then' B14.out hb)
  have s15 := hb.size
  have W0_15 := Lib.hid (W0_14.out.below hb)
  have G0_15 := Lib.hid (G0_14.out.below hb)
  clear hb
  go_wp2_with fail
  refine (markIntS_o _ _ _ q0 (1) _ G0_15.out (by omega)).mono ?_
  rintro e w16 ⟨rfl, hm, hg⟩
  have B16 := Lib.hid (Turned.below B15.out hg (by omega) (by omega))
  have s16 := hg.size
  have W0_16 := Lib.hid (W0_15.out.turned hg (by omega))
  have G0_16 := Lib.hid hm
  clear hm hg
  go_wp2_with fail
  refine (heldIntS_o _ _ _ q0 (1) _ G0_16.out.is (by omega)).mono ?_
  rintro e w17 ⟨rfl, hb⟩
  have B17 := Lib.hid (Below.then' B16.out hb)
  have s17 := hb.size
  have W0_17 := Lib.hid (W0_16.out.below hb)
  have G0_17 := Lib.hid (G0_16.out.below hb)
  clear hb
  go_wp2_with fail
  refine (toClaimS_o a1 len1 cap1 z1 _ (S1.out.below B17.out) C1.out).mono ?_
  rintro e w18 ⟨v, rfl, hown, hb⟩
  have B18 := Lib.hid (Below.then' B17.out hb)
  have s18 := hb.size
  have W0_18 := Lib.hid (W0_17.out.below hb)
  have G0_18 := Lib.hid (G0_17.out.below hb)
  obtain ⟨TH1a, TH1c, rfl⟩ := hown.form
  have TH1_18 := Lib.hid hown
  clear hown hb
  go_wp2_with fail
  refine (toIntS_o a2 len2 cap2 z2 _ (S2.out.below B18.out) C2.out).mono ?_
  rintro e w19 ⟨v, rfl, hown, hb⟩
  have B19 := Lib.hid (Below.then' B18.out hb)
  have s19 := hb.size
  have W0_19 := Lib.hid (W0_18.out.below hb)
  have G0_19 := Lib.hid (G0_18.out.below hb)
  have TH1_19 := Lib.hid (TH1_18.out.below hb)
  obtain ⟨TH2a, TH2c, rfl⟩ := hown.form
  have TH2_19 := Lib.hid hown
  clear hown hb
  go_wp2_with fail
  refine (implBrokenClaims_any z0 _ _ _ z1 _ _ _ z2 _ TH1_19.out.is TH2_19.out.is).mono ?_
  rintro e w20 ⟨v0, rfl, hown0, hb⟩
  rw [Q0.out] at hown0
  rw [Q1.out]
  have B20 := Lib.hid (Below.then' B19.out hb)
  have s20 := hb.size
  have W0_20 := Lib.hid (W0_19.out.below hb)
  have G0_20 := Lib.hid (G0_19.out.below hb)
  have TH1_20 := Lib.hid (TH1_19.out.below hb)
  have TH2_20 := Lib.hid (TH2_19.out.below hb)
  obtain ⟨H0a, H0c, rfl⟩ := hown0.form
  have H0_20 := Lib.hid hown0
  clear hown0
  clear hb
  go_wp2_with fail
  refine (eqIntS_yes _ _ _ _ _ _ q0 _ H0_20.out.is W0_20.out.is).mono ?_
  rintro e w21 ⟨rfl, hb⟩
  have B21 := Lib.hid (Below.then' B20.out hb)
  have s21 := hb.size
  have W0_21 := Lib.hid (W0_20.out.below hb)
  have G0_21 := Lib.hid (G0_20.out.below hb)
  have H0_21 := Lib.hid (H0_20.out.below hb)
  clear hb
  go_wp2_with fail
  refine (heldIntS_o _ _ _ q0 (1) _ G0_21.out.is (by omega)).mono ?_
  rintro e w22 ⟨rfl, hb⟩
  have B22 := Lib.hid (Below.then' B21.out hb)
  have s22 := hb.size
  have W0_22 := Lib.hid (W0_21.out.below hb)
  have G0_22 := Lib.hid (G0_21.out.below hb)
  have H0_22 := Lib.hid (H0_21.out.below hb)
  clear hb
  go_wp2
  go_ret
  exact ⟨rfl, B22.out⟩

theorem own : ownKnob Try.prog.godebug = none := by kernel_rfl
theorem laidOut : laidOutB Try.prog = true := by kernel_rfl
set_option maxRecDepth 100000 in
theorem lifted (os : Os) (started : os.Started) (H : Type) (enc : TypeId × Value → H) :
    ReturnsInHanded {} Try.checked os 10 .any (Rows.fnExactBrokenClaimsSpec.pre6 enc Try.prog Try.f10 Rows.fnExactBrokenClaimsRow.domain false) (Rows.fnExactBrokenClaimsSpec.post enc Try.prog Try.f10 false true false false) := by
  refine returnsInHanded_of_change (C := Try.checked) own started (by kernel_rfl) Try.func10
    (ChangeSpec.witness6 (enc := enc) (C := Try.checked) false ⟨#[], #[.int .i64 0, .slice none 0 0, .slice none 0 0], []⟩ 8 (by kernel_rfl) (by kernel_rfl) (by kernel_rfl) (by kernel_rfl)) ?_
  intro W base args ds gs before hval0 hW hcnd _
  have hval : ∀ (j : Nat) t v, Try.f10.params[j]? = some t → args[j]? = some v → Value.okWide Try.prog W .any base t v := hval0
  have hW' := hW
  obtain ⟨p, q, hA0, hV, rfl, hfz, hnd⟩ := hW
  have hA : DataW.TrodAll enc Try.prog W 0 (fun _ => true) true Try.f10.params.toList args.toList ds p := hA0
  rw [Try.params10] at hA hval
  obtain ⟨v0, vs0, d0, ds0, p0, q0, hargs, rfl, rfl, h0, r0⟩ := trodAll_cons hA
  obtain ⟨v1, vs1, d1, ds1, p1, q1, rfl, rfl, rfl, h1, r1⟩ := trodAll_cons r0
  obtain ⟨v2, vs2, d2, ds2, p2, q2, rfl, rfl, rfl, h2, r2⟩ := trodAll_cons r1
  obtain ⟨rfl, rfl, rfl⟩ := trodAll_nil r2
  obtain rfl : args = #[v0, v1, v2] := by cases args; simp_all
  obtain ⟨rfl, rfl⟩ := trodVars_none hV
  obtain ⟨a0, rfl, rfl, rfl, w0⟩ := open_int Try.underlying3 (hval 0 3 v0 rfl rfl) h0
  obtain ⟨a1, len1, cap1, rfl⟩ := okWide_slice Try.underlying47 (hval 1 47 v1 rfl rfl)
  have k1 := h1
  have lt1 : ∀ x ∈ p1, x.block < W.heap.size := by obtain ⟨m, hm⟩ := k1; exact DataW.trod_lt m _ _ _ hm
  obtain ⟨z1, w1⟩ : ∃ zs, IsClaimS W a1 len1 cap1 zs := open_ClaimS h1
  obtain ⟨a2, len2, cap2, rfl⟩ := okWide_slice Try.underlying25 (hval 2 25 v2 rfl rfl)
  have k2 := h2
  have lt2 : ∀ x ∈ p2, x.block < W.heap.size := by obtain ⟨m, hm⟩ := k2; exact DataW.trod_lt m _ _ _ hm
  obtain ⟨z2, w2⟩ : ∃ zs, IsInts W a2 len2 cap2 zs := open_IntsA h2
  clear hA0 hval0
  refine (walk a0 a1 len1 cap1 z1 a2 len2 cap2 z2 W w0 w1 w2).mono fun e W' ⟨he, bel⟩ => ?_
  subst he
  exact ⟨_, rfl, _, _, _, [], _, [], hW', trodAll_mk1 (shut_bool Try.underlying4 _), (trodAll_cons_mk (shut_int Try.underlying3 w0) (trodAll_cons_mk (Below.trod laidOut (by kernel_rfl) (of_decide_eq_true (by kernel_rfl)) k1 bel lt1) (trodAll_cons_mk (Below.trod laidOut (by kernel_rfl) (of_decide_eq_true (by kernel_rfl)) k2 bel lt2) trodAll_mk0))), rfl, bel.frame _, fun h => by cases h⟩
theorem over : Rows.fnExactBrokenClaimsRow.holds Try.pinned (OpenSpec.ofChange Rows.fnExactBrokenClaimsSpec) :=
  OpenClaim.holds_of_wide 10 Try.f10 rfl rfl rfl rfl rfl rfl rfl ⟨rfl, rfl, rfl, rfl, rfl⟩ rfl rfl rfl rfl rfl (by kernel_rfl) Try.func10 (by kernel_rfl)
    (of_decide_eq_true (by kernel_rfl)) (by unfold Func.isWrapper; first | (rw [if_pos (by decide +kernel)]; kernel_rfl) | (rw [if_neg (by decide +kernel)]; exact ⟨rfl, rfl⟩))
    (fun os started H enc _ => lifted os started H enc)
theorem proved : Rows.FnExactBrokenClaimsSaid := over
#print axioms proved
end Go.Proofs.Ytobpgoiaimlonaa.fnExactBrokenClaims
