/- FnExactParseSheet: for every string the law returns true and leaves it as it was; the library's tables hold what the program's text lays there (tied). -/
import Derived.Test.YtidaoijpbdljbaaDoorCards
import Derived.Test.YtidaoijpbdljbaaDoorTie
import Derived.Test.YtidaoijpbdljbaaDoorParseSpec
import Derived.ProofKit
import Derived.OpenShut
import Derived.ShutString
import Derived.ChangeOld
import Derived.Deep.DeepHandedRow
import Derived.LaidMore
namespace Go.Proofs.YtidaoijpbdljbaaDoor.fnExactParseSheet
open Go.ChangeShapes Go.WideShapes Go.ChangeAt Go.RowKit
open Go.ChangeMaps (open_string shut_string)
set_option linter.unusedVariables false

set_option maxHeartbeats 1600000 in
theorem walk (a0 : ByteArray) (w : World) (w0 : a0.size ≤ maxLen) (hL : laidMetH Tryd.prog Rows.fnExactParseSheetRow.laid w) (hS : w.ShapedOpen Tryd.prog) :
    Calls Tryd.prog 4 #[.string a0] w fun e w' => e = .returned (.bool true) ∧ Below w.heap.size w w' := by
  have T := Lib.hid (tabPow_of hL)
  obtain ⟨m, hm⟩ := Tryd.laysM145.s1_3 w hS
  have M := Lib.hid (show w.cell? ⟨1, 0, none⟩ = some (.int .i64 m) from hm)
  clear hL hS hm
  unfold maxLen at w0
  by_cases h0 : 1048576 < a0.size
  · go_enter Tryd.func4, Tryd.ntmps4
    go_wp2
    go_ret
    exact ⟨rfl, Below.refl _ _⟩
  have hs : a0.size ≤ 1048576 := by omega
  cases hp : implP a0 with
  | none =>
    have P := Lib.hid hp
    have Q := Lib.hid ((specP_eq a0).trans hp)
    clear hp h0
    go_enter Tryd.func4, Tryd.ntmps4
    go_wp2_with fail
    refine (specParseSheet_any a0 _ hs).mono ?_
    rintro e w1 (⟨x, hx, _⟩ | ⟨_, rfl, hb1⟩)
    · rw [Q.out] at hx; cases hx
    have B1 := Lib.hid (Below.then' hb1 (bel_alloc1 w1 (.cells #[.int .i64 0, .int .i64 0, .int .i64 0, .int .i64 0, .int .i64 0] 26)))
    have X1 := Lib.hid (boxAt_new w1 26 ⟨0, 0, 0, 0, 0⟩ _ rfl)
    clear hb1
    go_wp2_with fail
    refine (implParseSheet_any a0 m _ hs (tabPow_below T.out B1.out) (keepCell M.out B1.out)).mono ?_
    rintro e w2 (⟨x, hx, _⟩ | ⟨_, rfl, hb2⟩)
    · rw [P.out] at hx; cases hx
    have B2 := Lib.hid (Below.then' (Below.then' B1.out hb2) (bel_alloc1 w2 (.cells #[.int .i64 0, .int .i64 0, .int .i64 0, .int .i64 0, .int .i64 0] 26)))
    have Y1 := (X1.out.below hb2).below (bel_alloc1 w2 (.cells #[.int .i64 0, .int .i64 0, .int .i64 0, .int .i64 0, .int .i64 0] 26))
    have Y2 := boxAt_new w2 26 ⟨0, 0, 0, 0, 0⟩ _ rfl
    clear hb2
    obtain ⟨c0, c1, c2, c3, c4⟩ := Y1
    obtain ⟨d0, d1, d2, d3, d4⟩ := Y2
    simp only at c0 c1 c2 c3 c4 d0 d1 d2 d3 d4
    go_wp2_with fail
    refine (eqSheet_yes ⟨0, 0, 0, 0, 0⟩ _).mono ?_
    rintro e w3 ⟨rfl, hb3⟩
    have B3 := Lib.hid (Below.then' B2.out hb3)
    clear hb3
    go_wp2
    go_ret
    exact ⟨rfl, B3.out⟩
  | some x =>
    have P := Lib.hid hp
    have Q := Lib.hid ((specP_eq a0).trans hp)
    clear hp h0
    go_enter Tryd.func4, Tryd.ntmps4
    go_wp2_with fail
    refine (specParseSheet_any a0 _ hs).mono ?_
    rintro e w1 (⟨x', hx, rfl, hb1⟩ | ⟨hx, _⟩)
    rotate_left
    · rw [Q.out] at hx; cases hx
    rw [Q.out] at hx
    cases hx
    have B1 := Lib.hid (Below.then' hb1 (bel_alloc1 w1 (.cells #[.int .i64 x.id, .int .i64 x.row, .int .i64 x.col, .int .i64 x.scale, .int .i64 x.year] 26)))
    have X1 := Lib.hid (boxAt_new w1 26 x _ rfl)
    clear hb1
    go_wp2_with fail
    refine (implParseSheet_any a0 m _ hs (tabPow_below T.out B1.out) (keepCell M.out B1.out)).mono ?_
    rintro e w2 (⟨x', hx, rfl, hb2⟩ | ⟨hx, _⟩)
    rotate_left
    · rw [P.out] at hx; cases hx
    rw [P.out] at hx
    cases hx
    have B2 := Lib.hid (Below.then' (Below.then' B1.out hb2) (bel_alloc1 w2 (.cells #[.int .i64 x.id, .int .i64 x.row, .int .i64 x.col, .int .i64 x.scale, .int .i64 x.year] 26)))
    have Y1 := (X1.out.below hb2).below (bel_alloc1 w2 (.cells #[.int .i64 x.id, .int .i64 x.row, .int .i64 x.col, .int .i64 x.scale, .int .i64 x.year] 26))
    have Y2 := boxAt_new w2 26 x _ rfl
    clear hb2
    obtain ⟨c0, c1, c2, c3, c4⟩ := Y1
    obtain ⟨d0, d1, d2, d3, d4⟩ := Y2
    go_wp2_with fail
    refine (eqSheet_yes x _).mono ?_
    rintro e w3 ⟨rfl, hb3⟩
    have B3 := Lib.hid (Below.then' B2.out hb3)
    clear hb3
    go_wp2
    go_ret
    exact ⟨rfl, B3.out⟩

theorem own : ownKnob Tryd.prog.godebug = none := by kernel_rfl
theorem laidOut : laidOutB Tryd.prog = true := by kernel_rfl
theorem contract (H : Type) (enc : TypeId × Value → H) (W : World) (base : Nat) (args : Array Value) (ds gs : List (DataW H)) (before : List MemPlace)
    (hval0 : ∀ (j : Nat) t v, Tryd.f4.params[j]? = some t → args[j]? = some v → Value.okWide Tryd.prog W .any base t v)
    (hW : DataW.Whole enc Tryd.prog Tryd.f4.params.toList Rows.fnExactParseSheetSpec.vars false W args.toList ds gs before) (hL : laidMetH Tryd.prog Rows.fnExactParseSheetRow.laid W) (hS : W.ShapedOpen Tryd.prog) :
    Calls Tryd.prog 4 args W fun e W' => ∃ v, e = .returned v ∧ Rows.fnExactParseSheetSpec.post enc Tryd.prog Tryd.f4 false true false false W args v W' := by
  have hval : ∀ (j : Nat) t v, Tryd.f4.params[j]? = some t → args[j]? = some v → Value.okWide Tryd.prog W .any base t v := hval0
  have hW' := hW
  obtain ⟨p, q, hA0, hV, rfl, hfz, hnd⟩ := hW
  have hA : DataW.TrodAll enc Tryd.prog W 0 (fun _ => true) true Tryd.f4.params.toList args.toList ds p := hA0
  rw [Tryd.params4] at hA hval
  obtain ⟨v0, vs0, d0, ds0, p0, q0, hargs, rfl, rfl, h0, r0⟩ := trodAll_cons hA
  obtain ⟨rfl, rfl, rfl⟩ := trodAll_nil r0
  obtain rfl : args = #[v0] := by cases args; simp_all
  obtain ⟨rfl, rfl⟩ := trodVars_none hV
  obtain ⟨a0, rfl, rfl, rfl, w0⟩ := open_string Tryd.underlying9 (hval 0 9 v0 rfl rfl) h0
  clear hA0 hval0
  refine (walk a0 W w0 hL hS).mono fun e W' ⟨he, bel⟩ => ?_
  subst he
  exact ⟨_, rfl, _, _, _, [], _, [], hW', trodAll_mk1 (shut_bool Tryd.underlying4 _), (trodAll_cons_mk (shut_string Tryd.underlying9 w0) trodAll_mk0), rfl, bel.frame _, fun h => by cases h⟩
theorem laid_met (os : Os) : laidMet Tryd.prog Rows.fnExactParseSheetRow.laid ((World.doorLaid Tryd.prog 400 os).forCall (fun _ _ => 0) ⟨#[], #[.string ByteArray.empty], []⟩).memory :=
  laidMet_of_run' 8 (by kernel_rfl) (by kernel_rfl)
theorem reads (os : Os) {H : Type} (enc : TypeId × Value → H) : ∃ places, DataW.whole enc Tryd.prog ((World.doorLaid Tryd.prog 400 os).forCall (fun _ _ => 0) ⟨#[], #[.string ByteArray.empty], []⟩).memory Tryd.f4.params.toList Rows.fnExactParseSheetSpec.vars false #[Value.string ByteArray.empty].toList 8 = some ([.lit (.string [])], [], places) :=
  ⟨[], by kernel_rfl⟩
set_option maxRecDepth 100000 in
theorem lifted (os : Os) (started : os.Started) (H : Type) (enc : TypeId × Value → H) (F : Stop.Interp) :
    ReturnsInHanded {} Tryd.checked os 4 .any ((OpenSpec.ofChange Rows.fnExactParseSheetSpec).preRow enc Tryd.prog Tryd.f4 Rows.fnExactParseSheetRow.domain false Rows.fnExactParseSheetRow.laid) (((OpenSpec.ofChange Rows.fnExactParseSheetSpec).at F).post enc Tryd.prog Tryd.f4 false true false false) := by
  obtain ⟨places, hx⟩ := reads os enc
  refine returnsInHanded_of_row (C := Tryd.checked) (s := OpenSpec.ofChange Rows.fnExactParseSheetSpec) own started (by kernel_rfl) Tryd.func4
    (witness_row_at (enc := enc) (C := Tryd.checked) false (World.doorLaid Tryd.prog 400 os) #[.string ByteArray.empty] rfl (by kernel_rfl) (by kernel_rfl) (by kernel_rfl)
      (OpenSpec.preRow_of_cond 8 hx (by kernel_rfl) (fun k hk => by cases hk) (by kernel_rfl) (laid_met os))) ?_
  intro W base args ds gs before hval hW _ _ _ hL hS _
  exact contract H enc W base args ds gs before hval hW hL hS
theorem said : Rows.FnExactParseSheetSaid :=
  OpenClaim.holds_of_cond 4 Tryd.f4 rfl rfl rfl rfl rfl rfl rfl ⟨rfl, rfl, rfl, rfl, rfl⟩ rfl rfl rfl rfl rfl (by kernel_rfl) Tryd.func4 (by kernel_rfl)
    (of_decide_eq_true (by kernel_rfl)) (by unfold Func.isWrapper; first | (rw [if_pos (by decide +kernel)]; kernel_rfl) | (rw [if_neg (by decide +kernel)]; exact ⟨rfl, rfl⟩))
    (fun os started H enc _ F => by rw [OpenClaim.pre_eq_preRow]; exact lifted os started H enc F)
theorem plain (f : FuncId) (fn : Func) (hf : Tryd.pinned.checked.prog.funcNamed "loop.example/g01060/laws.FnExactParseSheet" = some f) (hfn : Tryd.pinned.checked.prog.funcs[f]? = some fn) :
    false = Tryd.pinned.checked.prog.looks [] ∧ ∀ (j : Nat) t, fn.params[j]? = some t → Tryd.pinned.checked.prog.wantsStandIn t = false := by
  obtain rfl : f = 4 := Option.some.inj ((show Tryd.prog.funcNamed "loop.example/g01060/laws.FnExactParseSheet" = some 4 by kernel_rfl).symm.trans hf) |>.symm
  obtain rfl : fn = Tryd.f4 := (Option.some.inj (Tryd.func4.symm.trans hfn)).symm
  refine ⟨by kernel_rfl, fun j t ht => ?_⟩
  rw [Tryd.params4] at ht
  have hm := Array.mem_of_getElem? ht
  simp only [List.mem_toArray, List.mem_cons, List.not_mem_nil, or_false] at hm
  subst hm
  exact (show Tryd.prog.wantsStandIn 9 = false by kernel_rfl)
theorem proved : Rows.FnExactParseSheetCardSaid :=
  Claim7.holds_tied_plain_at .later [] _ _ _ _ said (fun _ h => by cases h) (by kernel_rfl) (fun _ h => by cases h) fnExactParseSheet_row_tie rfl ⟨rfl, rfl⟩ (by kernel_rfl) rfl plain (by kernel_rfl)
#print axioms proved
end Go.Proofs.YtidaoijpbdljbaaDoor.fnExactParseSheet
