/- FnExactCrossingParts: for every argument the law returns true and leaves all as it was. No condition. (the walk made by genlaw2.py) -/
import Derived.Test.YtpnaciamnigbnaaRows
import Derived.Test.YtpnaciamnigbnaaRoz4
import Derived.Test.YtpnaciamnigbnaaVars
import Derived.ProofKit
import Derived.OpenShut
import Derived.ShutString
import Derived.ChangeOld
import Derived.Carry
namespace Go.Proofs.Ytpnaciamnigbnaa.fnExactCrossingParts
open Go.ChangeShapes Go.WideShapes Go.ChangeAt Go.RowKit
open Go.ChangeMaps (open_string shut_string)
set_option linter.unusedVariables false

set_option maxHeartbeats 12800000 in
set_option maxRecDepth 100000 in
theorem walk (a0 : Option Addr) (len0 cap0 : Nat) (z0 : List VCorner) (a1 : Option Addr) (len1 cap1 : Nat) (z1 : List VCorner) (w : World) (fa0 : IsCornerS w a0 len0 cap0 z0) (fa1 : IsCornerS w a1 len1 cap1 z1) :
    Calls Try.prog 14 #[.slice a0 len0 cap0, .slice a1 len1 cap1] w fun e w' => e = .returned (.bool true) ∧ Below w.heap.size w w' := by
  have hl0 : len0 ≤ maxLen := Nat.le_trans fa0.2.1 fa0.2.2.1
  have S0 := Lib.hid fa0
  have L0 := Lib.hid fa0.1
  clear fa0
  have hl1 : len1 ≤ maxLen := Nat.le_trans fa1.2.1 fa1.2.2.1
  have S1 := Lib.hid fa1
  have L1 := Lib.hid fa1.1
  clear fa1
  go_enter Try.func14, Try.ntmps14
  go_wp2_with fail
  refine (szCornerS_o _ _ _ z0 _ _ (S0.out) (by omega) (by omega)).mono ?_
  rintro e w1 ⟨left0, rfl, hle0, hsz, hb⟩
  have B1 := Lib.hid hb
  have s1 := hb.size
  have HZ0 := Lib.hid hsz
  clear hsz hb
  by_cases hneg0 : left0 < 0
  · go_wp2
    go_ret
    exact ⟨rfl, B1.out⟩
  have C0 := Lib.hid (HZ0.out (by omega))
  have hle0' : 0 ≤ left0 := by omega
  go_wp2_with fail
  refine (szCornerS_o _ _ _ z1 _ _ (S1.out.below B1.out) (by omega) (by omega)).mono ?_
  rintro e w2 ⟨left1, rfl, hle1, hsz, hb⟩
  have B2 := Lib.hid (Below.then' B1.out hb)
  have s2 := hb.size
  have HZ1 := Lib.hid hsz
  clear hsz hb
  by_cases hneg1 : left1 < 0
  · go_wp2
    go_ret
    exact ⟨rfl, B2.out⟩
  have C1 := Lib.hid (HZ1.out (by omega))
  have hle1' : 0 ≤ left1 := by omega
  obtain ⟨q0, hqq0⟩ : ∃ q, CrossingParts_0 z0 z1 = q := ⟨_, rfl⟩
  have hq0 := CrossingParts_0_cnt z0 z1 C0.out C1.out
  rw [hqq0] at hq0
  have Q0 := Lib.hid hqq0
  clear hqq0
  obtain ⟨q1, hqq1⟩ : ∃ q, CrossingParts_1 z0 z1 = q := ⟨_, rfl⟩
  have Q1 := Lib.hid hqq1
  clear hqq1
  have hc0 := cntCorner_cond C0.out
  have hc1 := cntCorner_cond C1.out
  go_wp2_with fail
  refine (toCornerS_o a0 len0 cap0 z0 _ (S0.out.below B2.out) C0.out).mono ?_
  rintro e w3 ⟨v, rfl, hown, hb⟩
  have B3 := Lib.hid (Below.then' B2.out hb)
  have s3 := hb.size
  obtain ⟨TW0a, TW0c, rfl⟩ := hown.form
  have TW0_3 := Lib.hid hown
  clear hown hb
  go_wp2_with fail
  refine (toCornerS_o a1 len1 cap1 z1 _ (S1.out.below B3.out) C1.out).mono ?_
  rintro e w4 ⟨v, rfl, hown, hb⟩
  have B4 := Lib.hid (Below.then' B3.out hb)
  have s4 := hb.size
  have TW0_4 := Lib.hid (TW0_3.out.below hb)
  obtain ⟨TW1a, TW1c, rfl⟩ := hown.form
  have TW1_4 := Lib.hid hown
  clear hown hb
  go_wp2_with fail
  refine (specCrossingParts_any _ _ _ z0 _ _ _ z1 _ TW0_4.out.is C0.out TW1_4.out.is C1.out).mono ?_
  rintro e w5 ⟨v0, rfl, hown0, hb⟩
  rw [Q0.out] at hown0
  rw [Q1.out]
  have B5 := Lib.hid (Below.then' B4.out hb)
  have s5 := hb.size
  have TW0_5 := Lib.hid (TW0_4.out.below hb)
  have TW1_5 := Lib.hid (TW1_4.out.below hb)
  obtain ⟨W0a, W0c, rfl⟩ := hown0.form
  have W0_5 := Lib.hid hown0
  clear hown0
  clear hb
  go_wp2_with fail
  refine (toCornerS_o a0 len0 cap0 z0 _ (S0.out.below B5.out) C0.out).mono ?_
  rintro e w6 ⟨v, rfl, hown, hb⟩
  have B6 := Lib.hid (Below.then' B5.out hb)
  have s6 := hb.size
  have W0_6 := Lib.hid (W0_5.out.below hb)
  obtain ⟨X0a, X0c, rfl⟩ := hown.form
  have X0_6 := Lib.hid hown
  clear hown hb
  go_wp2_with fail
  refine (toCornerS_o a1 len1 cap1 z1 _ (S1.out.below B6.out) C1.out).mono ?_
  rintro e w7 ⟨v, rfl, hown, hb⟩
  have B7 := Lib.hid (Below.then' B6.out hb)
  have s7 := hb.size
  have W0_7 := Lib.hid (W0_6.out.below hb)
  have X0_7 := Lib.hid (X0_6.out.below hb)
  obtain ⟨X1a, X1c, rfl⟩ := hown.form
  have X1_7 := Lib.hid hown
  clear hown hb
  go_wp2_with fail
  refine (implCrossingParts_any _ _ _ z0 _ _ _ z1 _ X0_7.out.is X1_7.out.is).mono ?_
  rintro e w8 ⟨v0, rfl, hown0, hb⟩
  rw [Q0.out] at hown0
  rw [Q1.out]
  have B8 := Lib.hid (Below.then' B7.out hb)
  have s8 := hb.size
  have W0_8 := Lib.hid (W0_7.out.below hb)
  have X0_8 := Lib.hid (X0_7.out.below hb)
  have X1_8 := Lib.hid (X1_7.out.below hb)
  obtain ⟨G0a, G0c, rfl⟩ := hown0.form
  have G0_8 := Lib.hid hown0
  clear hown0
  clear hb
  go_wp2_with fail
  refine (eqIntA2S_yes _ _ _ _ _ _ q0 _ G0_8.out.is W0_8.out.is).mono ?_
  rintro e w9 ⟨rfl, hb⟩
  have B9 := Lib.hid (Below.then' B8.out hb)
  have s9 := hb.size
  have W0_9 := Lib.hid (W0_8.out.below hb)
  have X0_9 := Lib.hid (X0_8.out.below hb)
  have X1_9 := Lib.hid (X1_8.out.below hb)
  have G0_9 := Lib.hid (G0_8.out.below hb)
  clear hb
  go_wp2_with fail
  refine (toCornerS_o a0 len0 cap0 z0 _ (S0.out.below B9.out) C0.out).mono ?_
  rintro e w10 ⟨v, rfl, hown, hb⟩
  have B10 := Lib.hid (Below.then' B9.out hb)
  have s10 := hb.size
  have W0_10 := Lib.hid (W0_9.out.below hb)
  have X0_10 := Lib.hid (X0_9.out.below hb)
  have X1_10 := Lib.hid (X1_9.out.below hb)
  have G0_10 := Lib.hid (G0_9.out.below hb)
  obtain ⟨E0a, E0c, rfl⟩ := hown.form
  have E0_10 := Lib.hid hown
  clear hown hb
  go_wp2_with fail
  refine (eqCornerS_yes _ _ _ _ _ _ z0 _ X0_10.out.is E0_10.out.is).mono ?_
  rintro e w11 ⟨rfl, hb⟩
  have B11 := Lib.hid (Below.then' B10.out hb)
  have s11 := hb.size
  have W0_11 := Lib.hid (W0_10.out.below hb)
  have X0_11 := Lib.hid (X0_10.out.below hb)
  have X1_11 := Lib.hid (X1_10.out.below hb)
  have G0_11 := Lib.hid (G0_10.out.below hb)
  have E0_11 := Lib.hid (E0_10.out.below hb)
  clear hb
  go_wp2_with fail
  refine (toCornerS_o a1 len1 cap1 z1 _ (S1.out.below B11.out) C1.out).mono ?_
  rintro e w12 ⟨v, rfl, hown, hb⟩
  have B12 := Lib.hid (Below.then' B11.out hb)
  have s12 := hb.size
  have W0_12 := Lib.hid (W0_11.out.below hb)
  have X0_12 := Lib.hid (X0_11.out.below hb)
  have X1_12 := Lib.hid (X1_11.out.below hb)
  have G0_12 := Lib.hid (G0_11.out.below hb)
  obtain ⟨E1a, E1c, rfl⟩ := hown.form
  have E1_12 := Lib.hid hown
  clear hown hb
  go_wp2_with fail
  refine (eqCornerS_yes _ _ _ _ _ _ z1 _ X1_12.out.is E1_12.out.is).mono ?_
  rintro e w13 ⟨rfl, hb⟩
  have B13 := Lib.hid (Below.then' B12.out hb)
  have s13 := hb.size
  have W0_13 := Lib.hid (W0_12.out.below hb)
  have X0_13 := Lib.hid (X0_12.out.below hb)
  have X1_13 := Lib.hid (X1_12.out.below hb)
  have G0_13 := Lib.hid (G0_12.out.below hb)
  have E1_13 := Lib.hid (E1_12.out.below hb)
  clear hb
  go_wp2_with fail
  refine (markCornerS_o _ _ _ z0 (1) _ X0_13.out (by omega)).mono ?_
  rintro e w14 ⟨rfl, hm, hg⟩
  have B14 := Lib.hid (Turned.below B13.out hg (by omega) (by omega))
  have s14 := hg.size
  have W0_14 := Lib.hid (W0_13.out.turned hg (by omega))
  have X1_14 := Lib.hid (X1_13.out.turned hg (by omega))
  have G0_14 := Lib.hid (G0_13.out.turned hg (by omega))
  clear hm hg
  go_wp2_with fail
  refine (markCornerS_o _ _ _ z1 (1 + cntCorner z0) _ X1_14.out (by omega)).mono ?_
  rintro e w15 ⟨rfl, hm, hg⟩
  have B15 := Lib.hid (Turned.below B14.out hg (by omega) (by omega))
  have s15 := hg.size
  have W0_15 := Lib.hid (W0_14.out.turned hg (by omega))
  have G0_15 := Lib.hid (G0_14.out.turned hg (by omega))
  clear hm hg
  go_wp2_with fail
  refine (eqIntA2S_yes _ _ _ _ _ _ q0 _ G0_15.out.is W0_15.out.is).mono ?_
  rintro e w16 ⟨rfl, hb⟩
  have B16 := Lib.hid (Below.then' B15.out hb)
  have s16 := hb.size
  have W0_16 := Lib.hid (W0_15.out.below hb)
  have G0_16 := Lib.hid (G0_15.out.below hb)
  clear hb
  go_wp2_with fail
  refine (markIntA2S_o _ _ _ q0 (1) _ G0_16.out (by omega)).mono ?_
  rintro e w17 ⟨rfl, hm, hg⟩
  have B17 := Lib.hid (Turned.below B16.out hg (by omega) (by omega))
  have s17 := hg.size
  have W0_17 := Lib.hid (W0_16.out.turned hg (by omega))
  have G0_17 := Lib.hid hm
  clear hm hg
  go_wp2_with fail
  refine (heldIntA2S_o _ _ _ q0 (1) _ G0_17.out.is (by omega)).mono ?_
  rintro e w18 ⟨rfl, hb⟩
  have B18 := Lib.hid (Below.then' B17.out hb)
  have s18 := hb.size
  have W0_18 := Lib.hid (W0_17.out.below hb)
  have G0_18 := Lib.hid (G0_17.out.below hb)
  clear hb
  go_wp2_with fail
  refine (toCornerS_o a0 len0 cap0 z0 _ (S0.out.below B18.out) C0.out).mono ?_
  rintro e w19 ⟨v, rfl, hown, hb⟩
  have B19 := Lib.hid (Below.then' B18.out hb)
  have s19 := hb.size
  have W0_19 := Lib.hid (W0_18.out.below hb)
  have G0_19 := Lib.hid (G0_18.out.below hb)
  obtain ⟨TH0a, TH0c, rfl⟩ := hown.form
  have TH0_19 := Lib.hid hown
  clear hown hb
  go_wp2_with fail
  refine (toCornerS_o a1 len1 cap1 z1 _ (S1.out.below B19.out) C1.out).mono ?_
  rintro e w20 ⟨v, rfl, hown, hb⟩
  have B20 := Lib.hid (Below.then' B19.out hb)
  have s20 := hb.size
  have W0_20 := Lib.hid (W0_19.out.below hb)
  have G0_20 := Lib.hid (G0_19.out.below hb)
  have TH0_20 := Lib.hid (TH0_19.out.below hb)
  obtain ⟨TH1a, TH1c, rfl⟩ := hown.form
  have TH1_20 := Lib.hid hown
  clear hown hb
  go_wp2_with fail
  refine (implCrossingParts_any _ _ _ z0 _ _ _ z1 _ TH0_20.out.is TH1_20.out.is).mono ?_
  rintro e w21 ⟨v0, rfl, hown0, hb⟩
  rw [Q0.out] at hown0
  rw [Q1.out]
  have B21 := Lib.hid (Below.then' B20.out hb)
  have s21 := hb.size
  have W0_21 := Lib.hid (W0_20.out.below hb)
  have G0_21 := Lib.hid (G0_20.out.below hb)
  have TH0_21 := Lib.hid (TH0_20.out.below hb)
  have TH1_21 := Lib.hid (TH1_20.out.below hb)
  obtain ⟨H0a, H0c, rfl⟩ := hown0.form
  have H0_21 := Lib.hid hown0
  clear hown0
  clear hb
  go_wp2_with fail
  refine (eqIntA2S_yes _ _ _ _ _ _ q0 _ H0_21.out.is W0_21.out.is).mono ?_
  rintro e w22 ⟨rfl, hb⟩
  have B22 := Lib.hid (Below.then' B21.out hb)
  have s22 := hb.size
  have W0_22 := Lib.hid (W0_21.out.below hb)
  have G0_22 := Lib.hid (G0_21.out.below hb)
  have H0_22 := Lib.hid (H0_21.out.below hb)
  clear hb
  go_wp2_with fail
  refine (heldIntA2S_o _ _ _ q0 (1) _ G0_22.out.is (by omega)).mono ?_
  rintro e w23 ⟨rfl, hb⟩
  have B23 := Lib.hid (Below.then' B22.out hb)
  have s23 := hb.size
  have W0_23 := Lib.hid (W0_22.out.below hb)
  have G0_23 := Lib.hid (G0_22.out.below hb)
  have H0_23 := Lib.hid (H0_22.out.below hb)
  clear hb
  go_wp2
  go_ret
  exact ⟨rfl, B23.out⟩

theorem own : ownKnob Try.prog.godebug = none := by kernel_rfl
theorem laidOut : laidOutB Try.prog = true := by kernel_rfl
set_option maxRecDepth 100000 in
theorem lifted (os : Os) (started : os.Started) (H : Type) (enc : TypeId × Value → H) :
    ReturnsInHanded {} Try.checked os 14 .any (Rows.fnExactCrossingPartsSpec.pre6 enc Try.prog Try.f14 Rows.fnExactCrossingPartsRow.domain false) (Rows.fnExactCrossingPartsSpec.post enc Try.prog Try.f14 false true false false) := by
  refine returnsInHanded_of_change (C := Try.checked) own started (by kernel_rfl) Try.func14
    (ChangeSpec.witness6 (enc := enc) (C := Try.checked) false ⟨#[], #[.slice none 0 0, .slice none 0 0], []⟩ 8 (by kernel_rfl) (by kernel_rfl) (by kernel_rfl) (by kernel_rfl)) ?_
  intro W base args ds gs before hval0 hW hcnd _
  have hval : ∀ (j : Nat) t v, Try.f14.params[j]? = some t → args[j]? = some v → Value.okWide Try.prog W .any base t v := hval0
  have hW' := hW
  obtain ⟨p, q, hA0, hV, rfl, hfz, hnd⟩ := hW
  have hA : DataW.TrodAll enc Try.prog W 0 (fun _ => true) true Try.f14.params.toList args.toList ds p := hA0
  rw [Try.params14] at hA hval
  obtain ⟨v0, vs0, d0, ds0, p0, q0, hargs, rfl, rfl, h0, r0⟩ := trodAll_cons hA
  obtain ⟨v1, vs1, d1, ds1, p1, q1, rfl, rfl, rfl, h1, r1⟩ := trodAll_cons r0
  obtain ⟨rfl, rfl, rfl⟩ := trodAll_nil r1
  obtain rfl : args = #[v0, v1] := by cases args; simp_all
  obtain ⟨rfl, rfl⟩ := trodVars_none hV
  obtain ⟨a0, len0, cap0, rfl⟩ := okWide_slice Try.underlying59 (hval 0 59 v0 rfl rfl)
  have k0 := h0
  have lt0 : ∀ x ∈ p0, x.block < W.heap.size := by obtain ⟨m, hm⟩ := k0; exact DataW.trod_lt m _ _ _ hm
  obtain ⟨z0, w0⟩ : ∃ zs, IsCornerS W a0 len0 cap0 zs := open_CornerS h0
  obtain ⟨a1, len1, cap1, rfl⟩ := okWide_slice Try.underlying59 (hval 1 59 v1 rfl rfl)
  have k1 := h1
  have lt1 : ∀ x ∈ p1, x.block < W.heap.size := by obtain ⟨m, hm⟩ := k1; exact DataW.trod_lt m _ _ _ hm
  obtain ⟨z1, w1⟩ : ∃ zs, IsCornerS W a1 len1 cap1 zs := open_CornerS h1
  clear hA0 hval0
  refine (walk a0 len0 cap0 z0 a1 len1 cap1 z1 W w0 w1).mono fun e W' ⟨he, bel⟩ => ?_
  subst he
  exact ⟨_, rfl, _, _, _, [], _, [], hW', trodAll_mk1 (shut_bool Try.underlying4 _), (trodAll_cons_mk (Below.trod laidOut (by kernel_rfl) (of_decide_eq_true (by kernel_rfl)) k0 bel lt0) (trodAll_cons_mk (Below.trod laidOut (by kernel_rfl) (of_decide_eq_true (by kernel_rfl)) k1 bel lt1) trodAll_mk0)), rfl, bel.frame _, fun h => by cases h⟩
theorem over : Rows.fnExactCrossingPartsRow.holds Try.pinned (OpenSpec.ofChange Rows.fnExactCrossingPartsSpec) :=
  OpenClaim.holds_of_wide 14 Try.f14 rfl rfl rfl rfl rfl rfl rfl ⟨rfl, rfl, rfl, rfl, rfl⟩ rfl rfl rfl rfl rfl (by kernel_rfl) Try.func14 (by kernel_rfl)
    (of_decide_eq_true (by kernel_rfl)) (by unfold Func.isWrapper; first | (rw [if_pos (by decide +kernel)]; kernel_rfl) | (rw [if_neg (by decide +kernel)]; exact ⟨rfl, rfl⟩))
    (fun os started H enc _ => lifted os started H enc)
theorem proved : Rows.FnExactCrossingPartsSaid := over
#print axioms proved
end Go.Proofs.Ytpnaciamnigbnaa.fnExactCrossingParts
