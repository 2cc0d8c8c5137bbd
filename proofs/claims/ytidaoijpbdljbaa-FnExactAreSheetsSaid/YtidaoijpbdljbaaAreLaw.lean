/- FnExactAreSheets: for every list of sheets the law returns true and leaves it as it was. No condition. -/
import Derived.Test.YtidaoijpbdljbaaRows
import Derived.Test.YtidaoijpbdljbaaAre3
import Derived.ProofKit
import Derived.OpenShut
import Derived.ShutString
import Derived.ChangeOld
import Derived.Carry
namespace Go.Proofs.Ytidaoijpbdljbaa.fnExactAreSheets
open Go.ChangeShapes Go.WideShapes Go.ChangeAt Go.RowKit
set_option linter.unusedVariables false

set_option maxHeartbeats 1600000 in
theorem walk (a : Option Addr) (len cap : Nat) (xs : List Sh) (w : World) (h : IsSheetS w a len cap xs) :
    Calls Try.prog 5 #[.slice a len cap] w fun e w' => e = .returned (.bool true) ∧ Below w.heap.size w w' := by
  have hl : len ≤ maxLen := Nat.le_trans h.2.1 h.2.2.1
  have S := Lib.hid h
  have L := Lib.hid h.1
  clear h
  by_cases h1 : (1048576 : Int) < (len : Int)
  · go_enter Try.func5, Try.ntmps5
    go_wp2_with (go_at_call 29; refine (szSheetS_any _ _ _ _ _ (by omega) (by omega) hl).mono ?_; rintro e w' ⟨rfl, rfl⟩; rw [if_pos h1])
    go_ret
    exact ⟨rfl, Below.refl _ _⟩
  go_enter Try.func5, Try.ntmps5
  go_wp2_with fail
  refine (szSheetS_any _ _ _ _ _ (by omega) (by omega) hl).mono ?_
  rintro e w' ⟨rfl, rfl⟩
  rw [if_neg (by omega)]
  have hlen : len ≤ 1048576 := by omega
  have hle : 0 ≤ 1048576 - (len : Int) := by omega
  go_wp2_with fail
  refine (toSheetS_any a len cap xs _ S.out hlen).mono ?_
  rintro e w1 ⟨v, rfl, hown, hb1⟩
  obtain ⟨a1, c1, rfl, hi1⟩ := isSheetS_own hown
  have B1 := Lib.hid hb1
  have I1 := Lib.hid hi1
  clear hown hi1 hb1
  go_wp2_with fail
  refine (specAreSheets_any _ _ _ xs _ I1.out).mono ?_
  rintro e w2 ⟨rfl, hb2⟩
  have B2 := Lib.hid (Below.then' B1.out hb2)
  clear hb2
  go_wp2_with fail
  refine (toSheetS_any a len cap xs _ (S.out.below B2.out) hlen).mono ?_
  rintro e w3 ⟨v, rfl, hown, hb3⟩
  obtain ⟨a3, c3, rfl, hi3⟩ := isSheetS_own hown
  have B3 := Lib.hid (Below.then' B2.out hb3)
  have I3 := Lib.hid hi3
  clear hown hi3 hb3
  go_wp2_with fail
  refine (implAreSheets_any _ _ _ xs _ I3.out).mono ?_
  rintro e w4 ⟨rfl, hb4⟩
  have B4 := Lib.hid (Below.then' B3.out hb4)
  have I4 := Lib.hid (I3.out.below hb4)
  clear hb4
  obtain ⟨q, hq⟩ : ∃ q, areSh xs = q := ⟨_, rfl⟩
  rw [hq]
  clear hq
  cases q
  all_goals
    go_wp2_with fail
    refine (toSheetS_any a len cap xs _ (S.out.below B4.out) hlen).mono ?_
    rintro e w5 ⟨v, rfl, hown, hb5⟩
    obtain ⟨a5, c5, rfl, hi5⟩ := isSheetS_own hown
    have B5 := Lib.hid (Below.then' B4.out hb5)
    have I5 := Lib.hid hi5
    have J5 := Lib.hid (I4.out.below hb5)
    clear hown hi5 hb5
    go_wp2_with fail
    refine (eqSheetS_yes _ _ _ _ _ _ xs _ J5.out I5.out).mono ?_
    rintro e w6 ⟨rfl, hb6⟩
    have B6 := Lib.hid (Below.then' B5.out hb6)
    clear hb6
    go_wp2
    go_ret
    exact ⟨rfl, B6.out⟩

theorem own : ownKnob Try.prog.godebug = none := by kernel_rfl
theorem laidOut : laidOutB Try.prog = true := by kernel_rfl
set_option maxRecDepth 100000 in
theorem lifted (os : Os) (started : os.Started) (H : Type) (enc : TypeId × Value → H) :
    ReturnsInHanded {} Try.checked os 5 .any (Rows.fnExactAreSheetsSpec.pre6 enc Try.prog Try.f5 Rows.fnExactAreSheetsRow.domain false) (Rows.fnExactAreSheetsSpec.post enc Try.prog Try.f5 false true false false) := by
  refine returnsInHanded_of_change (C := Try.checked) own started (by kernel_rfl) Try.func5
    (ChangeSpec.witness6 (enc := enc) (C := Try.checked) false ⟨#[], #[.slice none 0 0], []⟩ 8 (by kernel_rfl) (by kernel_rfl) (by kernel_rfl) (by kernel_rfl)) ?_
  intro W base args ds gs before hval0 hW hcnd _
  have hval : ∀ (j : Nat) t v, Try.f5.params[j]? = some t → args[j]? = some v → Value.okWide Try.prog W .any base t v := hval0
  have hW' := hW
  obtain ⟨p, q, hA0, hV, rfl, hfz, hnd⟩ := hW
  have hA : DataW.TrodAll enc Try.prog W 0 (fun _ => true) true Try.f5.params.toList args.toList ds p := hA0
  rw [Try.params5] at hA hval
  obtain ⟨v0, vs0, d0, ds0, p0, q0, hargs, rfl, rfl, h0, r0⟩ := trodAll_cons hA
  obtain ⟨rfl, rfl, rfl⟩ := trodAll_nil r0
  obtain rfl : args = #[v0] := by cases args; simp_all
  obtain ⟨rfl, rfl⟩ := trodVars_none hV
  obtain ⟨a0, len0, cap0, rfl⟩ := okWide_slice Try.underlying38 (hval 0 38 v0 rfl rfl)
  have k0 := h0
  have lt0 : ∀ x ∈ p0, x.block < W.heap.size := by obtain ⟨m, hm⟩ := k0; exact DataW.trod_lt m _ _ _ hm
  obtain ⟨z0, w0⟩ : ∃ zs, IsSheetS W a0 len0 cap0 zs := open_SheetS h0
  clear hA0 hval0
  refine (walk a0 len0 cap0 z0 W w0).mono fun e W' ⟨he, bel⟩ => ?_
  subst he
  exact ⟨_, rfl, _, _, _, [], _, [], hW', trodAll_mk1 (shut_bool Try.underlying4 _), (trodAll_cons_mk (Below.trod laidOut (by kernel_rfl) (of_decide_eq_true (by kernel_rfl)) k0 bel lt0) trodAll_mk0), rfl, bel.frame _, fun h => by cases h⟩
theorem over : Rows.fnExactAreSheetsRow.holds Try.pinned (OpenSpec.ofChange Rows.fnExactAreSheetsSpec) :=
  OpenClaim.holds_of_wide 5 Try.f5 rfl rfl rfl rfl rfl rfl rfl ⟨rfl, rfl, rfl, rfl, rfl⟩ rfl rfl rfl rfl rfl (by kernel_rfl) Try.func5 (by kernel_rfl)
    (of_decide_eq_true (by kernel_rfl)) (by unfold Func.isWrapper; first | (rw [if_pos (by decide +kernel)]; kernel_rfl) | (rw [if_neg (by decide +kernel)]; exact ⟨rfl, rfl⟩))
    (fun os started H enc _ => lifted os started H enc)
theorem proved : Rows.FnExactAreSheetsSaid := over
#print axioms proved
end Go.Proofs.Ytidaoijpbdljbaa.fnExactAreSheets
