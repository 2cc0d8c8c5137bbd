/- FnExactBestSheet: for every list of sheets and every two numbers the law returns true and leaves all as they were. No condition. -/
import Derived.Test.YtidaoijpbdljbaaRows
import Derived.Test.YtidaoijpbdljbaaPs5
import Derived.ProofKit
import Derived.OpenShut
import Derived.ShutString
import Derived.ChangeOld
import Derived.Carry
namespace Go.Proofs.Ytidaoijpbdljbaa.fnExactBestSheet
open Go.ChangeShapes Go.WideShapes Go.ChangeAt Go.RowKit
set_option linter.unusedVariables false

set_option maxHeartbeats 1600000 in
theorem walk (a : Option Addr) (len cap : Nat) (xs : List Sh) (x y : Int) (w : World) (h : IsSheetS w a len cap xs) (_ : (Lit.int .i64 x).wf = true) (_ : (Lit.int .i64 y).wf = true) :
    Calls Try.prog 13 #[.slice a len cap, .int .i64 x, .int .i64 y] w fun e w' => e = .returned (.bool true) ∧ Below w.heap.size w w' := by
  have hl : len ≤ maxLen := Nat.le_trans h.2.1 h.2.2.1
  have S := Lib.hid h
  have L := Lib.hid h.1
  clear h
  by_cases h1 : (1048576 : Int) < (len : Int)
  · go_enter Try.func13, Try.ntmps13
    go_wp2_with (go_at_call 29; refine (szSheetS_any _ _ _ _ _ (by omega) (by omega) hl).mono ?_; rintro e w' ⟨rfl, rfl⟩; rw [if_pos h1])
    go_ret
    exact ⟨rfl, Below.refl _ _⟩
  go_enter Try.func13, Try.ntmps13
  go_wp2_with fail
  refine (szSheetS_any _ _ _ _ _ (by omega) (by omega) hl).mono ?_
  rintro e w' ⟨rfl, rfl⟩
  rw [if_neg (by omega)]
  have hlen : len ≤ 1048576 := by omega
  have hle : 0 ≤ 1048576 - (len : Int) := by omega
  go_wp2_with fail
  refine (toSheetS_any a len cap xs _ S.out hlen).mono ?_
  rintro e w1 ⟨v, rfl, hown, hb1⟩
  obtain ⟨a1, c1, rfl, hi1⟩ := isSheetS_own hown
  have B1 := Lib.hid hb1
  have I1 := Lib.hid hi1
  clear hown hi1 hb1
  go_wp2_with fail
  refine (specBestSheet_any _ _ _ xs x y _ I1.out).mono ?_
  rintro e w2 ⟨rfl, hb2⟩
  have B2 := Lib.hid (Below.then' B1.out hb2)
  clear hb2
  generalize hq : BestSheet_1 xs x y = q
  generalize hz : BestSheet_0 xs x y = z
  have Q := Lib.hid hq
  have Z := Lib.hid hz
  clear hq hz
  go_wp2_with fail
  refine (toSheetS_any a len cap xs _ (S.out.below B2.out) hlen).mono ?_
  rintro e w3 ⟨v, rfl, hown, hb3⟩
  obtain ⟨a3, c3, rfl, hi3⟩ := isSheetS_own hown
  have B3 := Lib.hid (Below.then' B2.out hb3)
  have I3 := Lib.hid hi3
  clear hown hi3 hb3
  go_wp2_with fail
  refine (implBestSheet_any _ _ _ xs x y _ I3.out).mono ?_
  rintro e w4 ⟨rfl, hb4⟩
  rw [Q.out, Z.out]
  have B4 := Lib.hid (Below.then' B3.out hb4)
  have I4 := Lib.hid (I3.out.below hb4)
  clear hb4 Q Z
  cases q
  all_goals
    go_wp2_with fail
    refine (toSheetS_any a len cap xs _ (S.out.below B4.out) hlen).mono ?_
    rintro e w5 ⟨v, rfl, hown, hb5⟩
    obtain ⟨a5, c5, rfl, hi5⟩ := isSheetS_own hown
    have B5 := Lib.hid (Below.then' B4.out hb5)
    have I5 := Lib.hid hi5
    have J5 := Lib.hid (I4.out.below hb5)
    clear hown hi5 hb5
    go_wp2_with fail
    refine (eqSheetS_yes _ _ _ _ _ _ xs _ J5.out I5.out).mono ?_
    rintro e w6 ⟨rfl, hb6⟩
    have B6 := Lib.hid (Below.then' B5.out hb6)
    clear hb6
    go_wp2
    go_ret
    exact ⟨rfl, B6.out⟩

theorem own : ownKnob Try.prog.godebug = none := by kernel_rfl
theorem laidOut : laidOutB Try.prog = true := by kernel_rfl
set_option maxRecDepth 100000 in
theorem lifted (os : Os) (started : os.Started) (H : Type) (enc : TypeId × Value → H) :
    ReturnsInHanded {} Try.checked os 13 .any (Rows.fnExactBestSheetSpec.pre6 enc Try.prog Try.f13 Rows.fnExactBestSheetRow.domain false) (Rows.fnExactBestSheetSpec.post enc Try.prog Try.f13 false true false false) := by
  refine returnsInHanded_of_change (C := Try.checked) own started (by kernel_rfl) Try.func13
    (ChangeSpec.witness6 (enc := enc) (C := Try.checked) false ⟨#[], #[.slice none 0 0, .int .i64 0, .int .i64 0], []⟩ 8 (by kernel_rfl) (by kernel_rfl) (by kernel_rfl) (by kernel_rfl)) ?_
  intro W base args ds gs before hval0 hW hcnd _
  have hval : ∀ (j : Nat) t v, Try.f13.params[j]? = some t → args[j]? = some v → Value.okWide Try.prog W .any base t v := hval0
  have hW' := hW
  obtain ⟨p, q, hA0, hV, rfl, hfz, hnd⟩ := hW
  have hA : DataW.TrodAll enc Try.prog W 0 (fun _ => true) true Try.f13.params.toList args.toList ds p := hA0
  rw [Try.params13] at hA hval
  obtain ⟨v0, vs0, d0, ds0, p0, q0, hargs, rfl, rfl, h0, r0⟩ := trodAll_cons hA
  obtain ⟨v1, vs1, d1, ds1, p1, q1, rfl, rfl, rfl, h1, r1⟩ := trodAll_cons r0
  obtain ⟨v2, vs2, d2, ds2, p2, q2, rfl, rfl, rfl, h2, r2⟩ := trodAll_cons r1
  obtain ⟨rfl, rfl, rfl⟩ := trodAll_nil r2
  obtain rfl : args = #[v0, v1, v2] := by cases args; simp_all
  obtain ⟨rfl, rfl⟩ := trodVars_none hV
  obtain ⟨a0, len0, cap0, rfl⟩ := okWide_slice Try.underlying38 (hval 0 38 v0 rfl rfl)
  have k0 := h0
  have lt0 : ∀ x ∈ p0, x.block < W.heap.size := by obtain ⟨m, hm⟩ := k0; exact DataW.trod_lt m _ _ _ hm
  obtain ⟨z0, w0⟩ : ∃ zs, IsSheetS W a0 len0 cap0 zs := open_SheetS h0
  obtain ⟨a1, rfl, rfl, rfl, w1⟩ := open_int Try.underlying3 (hval 1 3 v1 rfl rfl) h1
  obtain ⟨a2, rfl, rfl, rfl, w2⟩ := open_int Try.underlying3 (hval 2 3 v2 rfl rfl) h2
  clear hA0 hval0
  refine (walk a0 len0 cap0 z0 a1 a2 W w0 w1 w2).mono fun e W' ⟨he, bel⟩ => ?_
  subst he
  exact ⟨_, rfl, _, _, _, [], _, [], hW', trodAll_mk1 (shut_bool Try.underlying4 _), (trodAll_cons_mk (Below.trod laidOut (by kernel_rfl) (of_decide_eq_true (by kernel_rfl)) k0 bel lt0) (trodAll_cons_mk (shut_int Try.underlying3 w1) (trodAll_cons_mk (shut_int Try.underlying3 w2) trodAll_mk0))), rfl, bel.frame _, fun h => by cases h⟩
theorem over : Rows.fnExactBestSheetRow.holds Try.pinned (OpenSpec.ofChange Rows.fnExactBestSheetSpec) :=
  OpenClaim.holds_of_wide 13 Try.f13 rfl rfl rfl rfl rfl rfl rfl ⟨rfl, rfl, rfl, rfl, rfl⟩ rfl rfl rfl rfl rfl (by kernel_rfl) Try.func13 (by kernel_rfl)
    (of_decide_eq_true (by kernel_rfl)) (by unfold Func.isWrapper; first | (rw [if_pos (by decide +kernel)]; kernel_rfl) | (rw [if_neg (by decide +kernel)]; exact ⟨rfl, rfl⟩))
    (fun os started H enc _ => lifted os started H enc)
theorem proved : Rows.FnExactBestSheetSaid := over
#print axioms proved
end Go.Proofs.Ytidaoijpbdljbaa.fnExactBestSheet
