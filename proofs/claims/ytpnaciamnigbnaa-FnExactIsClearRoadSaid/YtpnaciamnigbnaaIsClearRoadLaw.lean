/- FnExactIsClearRoad: for every argument the law returns true and leaves all as it was. No condition. (the walk made by genlaw2.py) -/
import Derived.Test.YtpnaciamnigbnaaRows
import Derived.Test.YtpnaciamnigbnaaRoz5
import Derived.Test.YtpnaciamnigbnaaVars
import Derived.ProofKit
import Derived.OpenShut
import Derived.ShutString
import Derived.ChangeOld
import Derived.Carry
namespace Go.Proofs.Ytpnaciamnigbnaa.fnExactIsClearRoad
open Go.ChangeShapes Go.WideShapes Go.ChangeAt Go.RowKit
open Go.ChangeMaps (open_string shut_string)
set_option linter.unusedVariables false

set_option maxHeartbeats 12800000 in
set_option maxRecDepth 100000 in
theorem walk (a0 : Option Addr) (len0 cap0 : Nat) (z0 : List VCorner) (w : World) (fa0 : IsCornerS w a0 len0 cap0 z0) :
    Calls Try.prog 15 #[.slice a0 len0 cap0] w fun e w' => e = .returned (.bool true) ∧ Below w.heap.size w w' := by
  have hl0 : len0 ≤ maxLen := Nat.le_trans fa0.2.1 fa0.2.2.1
  have S0 := Lib.hid fa0
  have L0 := Lib.hid fa0.1
  clear fa0
  go_enter Try.func15, Try.ntmps15
  go_wp2_with fail
  refine (szCornerS_o _ _ _ z0 _ _ (S0.out) (by omega) (by omega)).mono ?_
  rintro e w1 ⟨left0, rfl, hle0, hsz, hb⟩
  have B1 := Lib.hid hb
  have s1 := hb.size
  have HZ0 := Lib.hid hsz
  clear hsz hb
  by_cases hneg0 : left0 < 0
  · go_wp2
    go_ret
    exact ⟨rfl, B1.out⟩
  have C0 := Lib.hid (HZ0.out (by omega))
  have hle0' : 0 ≤ left0 := by omega
  obtain ⟨q0, hqq0⟩ : ∃ q, IsClearRoad_0 z0 = q := ⟨_, rfl⟩
  have Q0 := Lib.hid hqq0
  clear hqq0
  obtain ⟨q1, hqq1⟩ : ∃ q, IsClearRoad_1 z0 = q := ⟨_, rfl⟩
  have Q1 := Lib.hid hqq1
  clear hqq1
  have hc0 := cntCorner_cond C0.out
  go_wp2_with fail
  refine (toCornerS_o a0 len0 cap0 z0 _ (S0.out.below B1.out) C0.out).mono ?_
  rintro e w2 ⟨v, rfl, hown, hb⟩
  have B2 := Lib.hid (Below.then' B1.out hb)
  have s2 := hb.size
  obtain ⟨TW0a, TW0c, rfl⟩ := hown.form
  have TW0_2 := Lib.hid hown
  clear hown hb
  go_wp2_with fail
  refine (specIsClearRoad_any _ _ _ z0 _ TW0_2.out.is C0.out).mono ?_
  rintro e w3 ⟨rfl, hb⟩
  rw [Q0.out, Q1.out]
  have B3 := Lib.hid (Below.then' B2.out hb)
  have s3 := hb.size
  have TW0_3 := Lib.hid (TW0_2.out.below hb)
  clear hb
  go_wp2_with fail
  refine (toCornerS_o a0 len0 cap0 z0 _ (S0.out.below B3.out) C0.out).mono ?_
  rintro e w4 ⟨v, rfl, hown, hb⟩
  have B4 := Lib.hid (Below.then' B3.out hb)
  have s4 := hb.size
  obtain ⟨X0a, X0c, rfl⟩ := hown.form
  have X0_4 := Lib.hid hown
  clear hown hb
  go_wp2_with fail
  refine (implIsClearRoad_any _ _ _ z0 _ X0_4.out.is).mono ?_
  rintro e w5 ⟨rfl, hb⟩
  rw [Q0.out, Q1.out]
  have B5 := Lib.hid (Below.then' B4.out hb)
  have s5 := hb.size
  have X0_5 := Lib.hid (X0_4.out.below hb)
  clear hb
  go_wp2_with fail
  refine (toCornerS_o a0 len0 cap0 z0 _ (S0.out.below B5.out) C0.out).mono ?_
  rintro e w6 ⟨v, rfl, hown, hb⟩
  have B6 := Lib.hid (Below.then' B5.out hb)
  have s6 := hb.size
  have X0_6 := Lib.hid (X0_5.out.below hb)
  obtain ⟨E0a, E0c, rfl⟩ := hown.form
  have E0_6 := Lib.hid hown
  clear hown hb
  go_wp2_with fail
  refine (eqCornerS_yes _ _ _ _ _ _ z0 _ X0_6.out.is E0_6.out.is).mono ?_
  rintro e w7 ⟨rfl, hb⟩
  have B7 := Lib.hid (Below.then' B6.out hb)
  have s7 := hb.size
  have X0_7 := Lib.hid (X0_6.out.below hb)
  have E0_7 := Lib.hid (E0_6.out.below hb)
  clear hb
  go_wp2
  go_ret
  exact ⟨rfl, B7.out⟩

theorem own : ownKnob Try.prog.godebug = none := by kernel_rfl
theorem laidOut : laidOutB Try.prog = true := by kernel_rfl
set_option maxRecDepth 100000 in
theorem lifted (os : Os) (started : os.Started) (H : Type) (enc : TypeId × Value → H) :
    ReturnsInHanded {} Try.checked os 15 .any (Rows.fnExactIsClearRoadSpec.pre6 enc Try.prog Try.f15 Rows.fnExactIsClearRoadRow.domain false) (Rows.fnExactIsClearRoadSpec.post enc Try.prog Try.f15 false true false false) := by
  refine returnsInHanded_of_change (C := Try.checked) own started (by kernel_rfl) Try.func15
    (ChangeSpec.witness6 (enc := enc) (C := Try.checked) false ⟨#[], #[.slice none 0 0], []⟩ 8 (by kernel_rfl) (by kernel_rfl) (by kernel_rfl) (by kernel_rfl)) ?_
  intro W base args ds gs before hval0 hW hcnd _
  have hval : ∀ (j : Nat) t v, Try.f15.params[j]? = some t → args[j]? = some v → Value.okWide Try.prog W .any base t v := hval0
  have hW' := hW
  obtain ⟨p, q, hA0, hV, rfl, hfz, hnd⟩ := hW
  have hA : DataW.TrodAll enc Try.prog W 0 (fun _ => true) true Try.f15.params.toList args.toList ds p := hA0
  rw [Try.params15] at hA hval
  obtain ⟨v0, vs0, d0, ds0, p0, q0, hargs, rfl, rfl, h0, r0⟩ := trodAll_cons hA
  obtain ⟨rfl, rfl, rfl⟩ := trodAll_nil r0
  obtain rfl : args = #[v0] := by cases args; simp_all
  obtain ⟨rfl, rfl⟩ := trodVars_none hV
  obtain ⟨a0, len0, cap0, rfl⟩ := okWide_slice Try.underlying59 (hval 0 59 v0 rfl rfl)
  have k0 := h0
  have lt0 : ∀ x ∈ p0, x.block < W.heap.size := by obtain ⟨m, hm⟩ := k0; exact DataW.trod_lt m _ _ _ hm
  obtain ⟨z0, w0⟩ : ∃ zs, IsCornerS W a0 len0 cap0 zs := open_CornerS h0
  clear hA0 hval0
  refine (walk a0 len0 cap0 z0 W w0).mono fun e W' ⟨he, bel⟩ => ?_
  subst he
  exact ⟨_, rfl, _, _, _, [], _, [], hW', trodAll_mk1 (shut_bool Try.underlying4 _), (trodAll_cons_mk (Below.trod laidOut (by kernel_rfl) (of_decide_eq_true (by kernel_rfl)) k0 bel lt0) trodAll_mk0), rfl, bel.frame _, fun h => by cases h⟩
theorem over : Rows.fnExactIsClearRoadRow.holds Try.pinned (OpenSpec.ofChange Rows.fnExactIsClearRoadSpec) :=
  OpenClaim.holds_of_wide 15 Try.f15 rfl rfl rfl rfl rfl rfl rfl ⟨rfl, rfl, rfl, rfl, rfl⟩ rfl rfl rfl rfl rfl (by kernel_rfl) Try.func15 (by kernel_rfl)
    (of_decide_eq_true (by kernel_rfl)) (by unfold Func.isWrapper; first | (rw [if_pos (by decide +kernel)]; kernel_rfl) | (rw [if_neg (by decide +kernel)]; exact ⟨rfl, rfl⟩))
    (fun os started H enc _ => lifted os started H enc)
theorem proved : Rows.FnExactIsClearRoadSaid := over
#print axioms proved
end Go.Proofs.Ytpnaciamnigbnaa.fnExactIsClearRoad
