/- FnExactAreSoundClaims: for every argument the law returns true and leaves all as it was. No condition. (the walk made by genlaw2.py) -/
import Derived.Test.YtobpgoiaimlonaaRows
import Derived.Test.YtobpgoiaimlonaaCz2
import Derived.Test.YtobpgoiaimlonaaVars
import Derived.ProofKit
import Derived.OpenShut
import Derived.ShutString
import Derived.ChangeOld
import Derived.Carry
namespace Go.Proofs.Ytobpgoiaimlonaa.fnExactAreSoundClaims
open Go.ChangeShapes Go.WideShapes Go.ChangeAt Go.RowKit
open Go.ChangeMaps (open_string shut_string)
set_option linter.unusedVariables false

set_option maxHeartbeats 12800000 in
set_option maxRecDepth 100000 in
theorem walk (z0 : Int) (a1 : Option Addr) (len1 cap1 : Nat) (z1 : List VClaim) (w : World) (_ : (Lit.int .i64 z0).wf = true) (fa1 : IsClaimS w a1 len1 cap1 z1) :
    Calls Try.prog 5 #[.int .i64 z0, .slice a1 len1 cap1] w fun e w' => e = .returned (.bool true) ∧ Below w.heap.size w w' := by
  have hl1 : len1 ≤ maxLen := Nat.le_trans fa1.2.1 fa1.2.2.1
  have S1 := Lib.hid fa1
  have L1 := Lib.hid fa1.1
  clear fa1
  go_enter Try.func5, Try.ntmps5
  go_wp2_with fail
  refine (szClaimS_o _ _ _ z1 _ _ (S1.out) (by omega) (by omega)).mono ?_
  rintro e w1 ⟨left1, rfl, hle1, hsz, hb⟩
  have B1 := Lib.hid hb
  have s1 := hb.size
  have HZ1 := Lib.hid hsz
  clear hsz hb
  by_cases hneg1 : left1 < 0
  · go_wp2
    go_ret
    exact ⟨rfl, B1.out⟩
  have C1 := Lib.hid (HZ1.out (by omega))
  have hle1' : 0 ≤ left1 := by omega
  obtain ⟨q0, hqq0⟩ : ∃ q, AreSoundClaims_0 z0 z1 = q := ⟨_, rfl⟩
  have Q0 := Lib.hid hqq0
  clear hqq0
  obtain ⟨q1, hqq1⟩ : ∃ q, AreSoundClaims_1 z0 z1 = q := ⟨_, rfl⟩
  have Q1 := Lib.hid hqq1
  clear hqq1
  have hc1 := cntClaim_cond C1.out
  go_wp2_with fail
  refine (toClaimS_o a1 len1 cap1 z1 _ (S1.out.below B1.out) C1.out).mono ?_
  rintro e w2 ⟨v, rfl, hown, hb⟩
  have B2 := Lib.hid (Below.then' B1.out hb)
  have s2 := hb.size
  obtain ⟨TW1a, TW1c, rfl⟩ := hown.form
  have TW1_2 := Lib.hid hown
  clear hown hb
  go_wp2_with fail
  refine (specAreSoundClaims_any z0 _ _ _ z1 _ TW1_2.out.is C1.out).mono ?_
  rintro e w3 ⟨rfl, hb⟩
  rw [Q0.out, Q1.out]
  have B3 := Lib.hid (Below.then' B2.out hb)
  have s3 := hb.size
  have TW1_3 := Lib.hid (TW1_2.out.below hb)
  clear hb
  go_wp2_with fail
  refine (toClaimS_o a1 len1 cap1 z1 _ (S1.out.below B3.out) C1.out).mono ?_
  rintro e w4 ⟨v, rfl, hown, hb⟩
  have B4 := Lib.hid (Below.then' B3.out hb)
  have s4 := hb.size
  obtain ⟨X1a, X1c, rfl⟩ := hown.form
  have X1_4 := Lib.hid hown
  clear hown hb
  go_wp2_with fail
  refine (implAreSoundClaims_any z0 _ _ _ z1 _ X1_4.out.is).mono ?_
  rintro e w5 ⟨rfl, hb⟩
  rw [Q0.out, Q1.out]
  have B5 := Lib.hid (Below.then' B4.out hb)
  have s5 := hb.size
  have X1_5 := Lib.hid (X1_4.out.below hb)
  clear hb
  go_wp2_with fail
  refine (toClaimS_o a1 len1 cap1 z1 _ (S1.out.below B5.out) C1.out).mono ?_
  rintro e w6 ⟨v, rfl, hown, hb⟩
  have B6 := Lib.hid (Below.then' B5.out hb)
  have s6 := hb.size
  have X1_6 := Lib.hid (X1_5.out.below hb)
  obtain ⟨E1a, E1c, rfl⟩ := hown.form
  have E1_6 := Lib.hid hown
  clear hown hb
  go_wp2_with fail
  refine (eqClaimS_yes _ _ _ _ _ _ z1 _ X1_6.out.is E1_6.out.is).mono ?_
  rintro e w7 ⟨rfl, hb⟩
  have B7 := Lib.hid (Below.then' B6.out hb)
  have s7 := hb.size
  have X1_7 := Lib.hid (X1_6.out.below hb)
  have E1_7 := Lib.hid (E1_6.out.below hb)
  clear hb
  go_wp2
  go_ret
  exact ⟨rfl, B7.out⟩

theorem own : ownKnob Try.prog.godebug = none := by kernel_rfl
theorem laidOut : laidOutB Try.prog = true := by kernel_rfl
set_option maxRecDepth 100000 in
theorem lifted (os : Os) (started : os.Started) (H : Type) (enc : TypeId × Value → H) :
    ReturnsInHanded {} Try.checked os 5 .any (Rows.fnExactAreSoundClaimsSpec.pre6 enc Try.prog Try.f5 Rows.fnExactAreSoundClaimsRow.domain false) (Rows.fnExactAreSoundClaimsSpec.post enc Try.prog Try.f5 false true false false) := by
  refine returnsInHanded_of_change (C := Try.checked) own started (by kernel_rfl) Try.func5
    (ChangeSpec.witness6 (enc := enc) (C := Try.checked) false ⟨#[], #[.int .i64 0, .slice none 0 0], []⟩ 8 (by kernel_rfl) (by kernel_rfl) (by kernel_rfl) (by kernel_rfl)) ?_
  intro W base args ds gs before hval0 hW hcnd _
  have hval : ∀ (j : Nat) t v, Try.f5.params[j]? = some t → args[j]? = some v → Value.okWide Try.prog W .any base t v := hval0
  have hW' := hW
  obtain ⟨p, q, hA0, hV, rfl, hfz, hnd⟩ := hW
  have hA : DataW.TrodAll enc Try.prog W 0 (fun _ => true) true Try.f5.params.toList args.toList ds p := hA0
  rw [Try.params5] at hA hval
  obtain ⟨v0, vs0, d0, ds0, p0, q0, hargs, rfl, rfl, h0, r0⟩ := trodAll_cons hA
  obtain ⟨v1, vs1, d1, ds1, p1, q1, rfl, rfl, rfl, h1, r1⟩ := trodAll_cons r0
  obtain ⟨rfl, rfl, rfl⟩ := trodAll_nil r1
  obtain rfl : args = #[v0, v1] := by cases args; simp_all
  obtain ⟨rfl, rfl⟩ := trodVars_none hV
  obtain ⟨a0, rfl, rfl, rfl, w0⟩ := open_int Try.underlying3 (hval 0 3 v0 rfl rfl) h0
  obtain ⟨a1, len1, cap1, rfl⟩ := okWide_slice Try.underlying47 (hval 1 47 v1 rfl rfl)
  have k1 := h1
  have lt1 : ∀ x ∈ p1, x.block < W.heap.size := by obtain ⟨m, hm⟩ := k1; exact DataW.trod_lt m _ _ _ hm
  obtain ⟨z1, w1⟩ : ∃ zs, IsClaimS W a1 len1 cap1 zs := open_ClaimS h1
  clear hA0 hval0
  refine (walk a0 a1 len1 cap1 z1 W w0 w1).mono fun e W' ⟨he, bel⟩ => ?_
  subst he
  exact ⟨_, rfl, _, _, _, [], _, [], hW', trodAll_mk1 (shut_bool Try.underlying4 _), (trodAll_cons_mk (shut_int Try.underlying3 w0) (trodAll_cons_mk (Below.trod laidOut (by kernel_rfl) (of_decide_eq_true (by kernel_rfl)) k1 bel lt1) trodAll_mk0)), rfl, bel.frame _, fun h => by cases h⟩
theorem over : Rows.fnExactAreSoundClaimsRow.holds Try.pinned (OpenSpec.ofChange Rows.fnExactAreSoundClaimsSpec) :=
  OpenClaim.holds_of_wide 5 Try.f5 rfl rfl rfl rfl rfl rfl rfl ⟨rfl, rfl, rfl, rfl, rfl⟩ rfl rfl rfl rfl rfl (by kernel_rfl) Try.func5 (by kernel_rfl)
    (of_decide_eq_true (by kernel_rfl)) (by unfold Func.isWrapper; first | (rw [if_pos (by decide +kernel)]; kernel_rfl) | (rw [if_neg (by decide +kernel)]; exact ⟨rfl, rfl⟩))
    (fun os started H enc _ => lifted os started H enc)
theorem proved : Rows.FnExactAreSoundClaimsSaid := over
#print axioms proved
end Go.Proofs.Ytobpgoiaimlonaa.fnExactAreSoundClaims
