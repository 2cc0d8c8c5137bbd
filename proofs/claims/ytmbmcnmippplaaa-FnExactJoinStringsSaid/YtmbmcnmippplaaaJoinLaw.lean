/- FnExactJoinStrings: for every slice of strings and every string the law returns true and leaves both as they were. No condition. -/
import Derived.Test.YtmbmcnmippplaaaRows
import Derived.Test.YtmbmcnmippplaaaJoin
import Derived.ProofKit
import Derived.OpenShut
import Derived.ShutString
import Derived.ChangeOld
namespace Go.Proofs.Ytmbmcnmippplaaa.fnExactJoinStrings
open Go.ChangeShapes Go.WideShapes Go.ChangeAt Go.RowKit
open Go.ChangeMaps (open_string shut_string)
set_option linter.unusedVariables false

set_option maxHeartbeats 1600000 in
theorem walk (a0 : Option Addr) (len0 cap0 : Nat) (z0 : List ByteArray) (a1 : ByteArray) (w : World) (w0 : IsStrs w a0 len0 cap0 z0) (w1 : a1.size ≤ maxLen) :
    Calls Try.prog 5 #[.slice a0 len0 cap0, .string a1] w fun e w' => e = .returned (.bool true) ∧ Below w.heap.size w w' := by
  unfold maxLen at w1
  have I := Lib.hid w0
  have hz := w0.1
  have Z := Lib.hid hz
  obtain rfl := w0.len
  clear w0 hz
  by_cases h0 : 1048576 < a1.size
  · go_enter Try.func5, Try.ntmps5
    go_wp2
    go_ret
    exact ⟨rfl, Below.refl _ _⟩
  go_enter Try.func5, Try.ntmps5
  go_wp2_with fail
  refine (szStringS_any _ _ _ z0 _ _ I.out (by omega) (by omega)).mono ?_
  rintro e w' ⟨r, rfl, hr0, hr1, hr2, rfl⟩
  by_cases hr : 0 ≤ r
  case neg =>
    clear hr2
    go_wp2
    go_ret
    exact ⟨rfl, Below.refl _ _⟩
  have hsz : total z0 + z0.length ≤ 1048576 := by have := hr2 hr; omega
  clear hr2
  go_wp2_with fail
  refine (toStringS_any _ _ _ z0 _ I.out (by omega)).mono ?_
  rintro e wa ⟨v, rfl, hown, hba⟩
  obtain ⟨aa, ca, rfl, hia⟩ := isStrs_own hown Z.out
  have BA := Lib.hid hba
  have IA := Lib.hid hia
  clear hown hia hba
  go_wp2_with fail
  refine (specJoin _ _ _ z0 a1 _ IA.out hsz).mono ?_
  rintro e wb ⟨rs, bs, rfl, hj, hbb⟩
  have J := Lib.hid hj
  have BB := Lib.hid (Below.then' BA.out hbb)
  clear hj hbb
  go_wp2_with fail
  refine (toStringS_any _ _ _ z0 _ (I.out.below BB.out) (by omega)).mono ?_
  rintro e wc ⟨v, rfl, hown, hbc⟩
  obtain ⟨ac, cc, rfl, hic⟩ := isStrs_own hown Z.out
  have BC := Lib.hid (Below.then' BB.out hbc)
  have IC := Lib.hid hic
  clear hown hic hbc
  go_wp2_with fail
  refine (implJoin _ _ _ z0 a1 _ IC.out hsz).mono ?_
  rintro e wd ⟨rs', bs', rfl, hj, hbd⟩
  obtain ⟨rfl, rfl⟩ := J.out.one hj
  have ID := Lib.hid (IC.out.below hbd)
  have BD := Lib.hid (Below.then' BC.out hbd)
  clear hj hbd
  go_wp2_with fail
  refine (toStringS_any _ _ _ z0 _ (I.out.below BD.out) (by omega)).mono ?_
  rintro e we ⟨v, rfl, hown, hbe⟩
  obtain ⟨ae, ce, rfl, hie⟩ := isStrs_own hown Z.out
  have IE := Lib.hid hie
  have IX := Lib.hid (ID.out.below hbe)
  have BE := Lib.hid (Below.then' BD.out hbe)
  clear hown hie hbe
  go_wp2_with fail
  refine (eqStringS_any _ _ _ z0 _ _ _ z0 _ IX.out IE.out rfl).mono ?_
  rintro e wf ⟨rfl, m, rfl⟩
  go_wp2
  go_ret
  exact ⟨rfl, Below.then' BE.out (bel_drawn _ _)⟩

theorem own : ownKnob Try.prog.godebug = none := by kernel_rfl
theorem laidOut : laidOutB Try.prog = true := by kernel_rfl
set_option maxRecDepth 100000 in
theorem lifted (os : Os) (started : os.Started) (H : Type) (enc : TypeId × Value → H) :
    ReturnsInHanded {} Try.checked os 5 .any (Rows.fnExactJoinStringsSpec.pre6 enc Try.prog Try.f5 Rows.fnExactJoinStringsRow.domain false) (Rows.fnExactJoinStringsSpec.post enc Try.prog Try.f5 false true false false) := by
  refine returnsInHanded_of_change (C := Try.checked) own started (by kernel_rfl) Try.func5
    (ChangeSpec.witness6 (enc := enc) (C := Try.checked) false ⟨#[], #[.slice none 0 0, .string ByteArray.empty], []⟩ 8 (by kernel_rfl) (by kernel_rfl) (by kernel_rfl) (by kernel_rfl)) ?_
  intro W base args ds gs before hval0 hW hcnd _
  have hval : ∀ (j : Nat) t v, Try.f5.params[j]? = some t → args[j]? = some v → Value.okWide Try.prog W .any base t v := hval0
  have hW' := hW
  obtain ⟨p, q, hA0, hV, rfl, hfz, hnd⟩ := hW
  have hA : DataW.TrodAll enc Try.prog W 0 (fun _ => true) true Try.f5.params.toList args.toList ds p := hA0
  rw [Try.params5] at hA hval
  obtain ⟨v0, vs0, d0, ds0, p0, q0, hargs, rfl, rfl, h0, r0⟩ := trodAll_cons hA
  obtain ⟨v1, vs1, d1, ds1, p1, q1, rfl, rfl, rfl, h1, r1⟩ := trodAll_cons r0
  obtain ⟨rfl, rfl, rfl⟩ := trodAll_nil r1
  obtain rfl : args = #[v0, v1] := by cases args; simp_all
  obtain ⟨rfl, rfl⟩ := trodVars_none hV
  obtain ⟨a0, len0, cap0, rfl⟩ := okWide_slice Try.underlying26 (hval 0 26 v0 rfl rfl)
  have k0 := h0
  have lt0 : ∀ x ∈ p0, x.block < W.heap.size := by obtain ⟨m, hm⟩ := k0; exact DataW.trod_lt m _ _ _ hm
  obtain ⟨z0, w0⟩ : ∃ zs, IsStrs W a0 len0 cap0 zs := by
    obtain ⟨fuel, hf⟩ := h0
    exact isStrs_of Try.underlying26 Try.underlying9 (by kernel_rfl) hf
  obtain ⟨a1, rfl, rfl, rfl, w1⟩ := open_string Try.underlying9 (hval 1 9 v1 rfl rfl) h1
  clear hA0 hval0
  refine (walk a0 len0 cap0 z0 a1 W w0 w1).mono fun e W' ⟨he, bel⟩ => ?_
  subst he
  exact ⟨_, rfl, _, _, _, [], _, [], hW', trodAll_mk1 (shut_bool Try.underlying4 _), (trodAll_cons_mk (Below.trod laidOut (by kernel_rfl) (of_decide_eq_true (by kernel_rfl)) k0 bel lt0) (trodAll_cons_mk (shut_string Try.underlying9 w1) trodAll_mk0)), rfl, bel.frame _, fun h => by cases h⟩
theorem over : Rows.fnExactJoinStringsRow.holds Try.pinned (OpenSpec.ofChange Rows.fnExactJoinStringsSpec) :=
  OpenClaim.holds_of_wide 5 Try.f5 rfl rfl rfl rfl rfl rfl rfl ⟨rfl, rfl, rfl, rfl, rfl⟩ rfl rfl rfl rfl rfl (by kernel_rfl) Try.func5 (by kernel_rfl)
    (of_decide_eq_true (by kernel_rfl)) (by unfold Func.isWrapper; first | (rw [if_pos (by decide +kernel)]; kernel_rfl) | (rw [if_neg (by decide +kernel)]; exact ⟨rfl, rfl⟩))
    (fun os started H enc _ => lifted os started H enc)
theorem proved : Rows.FnExactJoinStringsSaid := over
#print axioms proved
end Go.Proofs.Ytmbmcnmippplaaa.fnExactJoinStrings
