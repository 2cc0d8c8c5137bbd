/- FnExactParseReader: for every argument the law returns true and leaves all as it was. No condition. (the walk made by genlaw.py) -/
import Derived.Test.YtofgpiikhifiaabDoorCards
import Derived.Test.YtofgpiikhifiaabDoorTie
import Derived.Test.YtofgpiikhifiaabDoorRs2
import Derived.Test.YtofgpiikhifiaabDoorVars
import Derived.ProofKit
import Derived.OpenShut
import Derived.ShutString
import Derived.ChangeOld
import Derived.Carry
import Derived.Deep.DeepHandedRow
import Derived.LaidMore
namespace Go.Proofs.YtofgpiikhifiaabDoor.fnExactParseReader
open Go.ChangeShapes Go.WideShapes Go.ChangeAt Go.RowKit
open Go.ChangeMaps (open_string shut_string)
set_option linter.unusedVariables false

theorem row_lt {w : World} {base : Nat} {e : TypeId} {size n : Nat} {v : Value} {xs : List Value} (h : w.ownsRow base e size v n xs) {b : Nat} (hb : b < base) : some b ≠ v.ownBlock := fun e => by have := (h.lt b e.symm).1; omega
set_option maxHeartbeats 6400000 in
set_option maxRecDepth 100000 in
theorem walk (z0 : ByteArray) (w : World) (fa0 : z0.size ≤ maxLen) (hL : laidMetH Tryd.prog Rows.fnExactParseReaderRow.laid w) (hS : w.ShapedOpen Tryd.prog) :
    Calls Tryd.prog 4 #[.string z0] w fun e w' => e = .returned (.bool true) ∧ Below w.heap.size w w' := by
  have TP := Lib.hid (tabPow_of hL)
  obtain ⟨xm, hxm⟩ := Tryd.laysM145.s1_3 w hS
  have HX := Lib.hid hxm
  clear hxm
  clear hL hS
  unfold maxLen at fa0
  by_cases hbig0 : 1048576 < z0.size
  · go_enter Tryd.func4, Tryd.ntmps4
    go_wp2
    go_ret
    exact ⟨rfl, Below.refl _ _⟩
  have hs0 : z0.size ≤ 1048576 := by omega
  clear hbig0
  go_enter Tryd.func4, Tryd.ntmps4
  obtain ⟨q0, hqq0⟩ : ∃ q, ParseReader_0 z0 = q := ⟨_, rfl⟩
  have Q0 := Lib.hid hqq0
  clear hqq0
  obtain ⟨q1, hqq1⟩ : ∃ q, ParseReader_1 z0 = q := ⟨_, rfl⟩
  have Q1 := Lib.hid hqq1
  clear hqq1
  go_wp2_with fail
  refine (specParseReader_any z0 _ hs0).mono ?_
  rintro e w1 ⟨rfl, hb⟩
  simp only [Q0.out, Q1.out]
  have B1 := Lib.hid hb
  have s1 := hb.size
  clear hb
  have hb := bel_al1 w1 (.cells #[.int .i64 q0.Id, .string q0.Name, .int .i64 q0.Joined, .int .i64 q0.Class, .int .i64 q0.Fines] 27)
  have B2 := Lib.hid (Below.then' B1.out hb)
  have s2 := hb.size
  have W0b_2 := Lib.hid (BoxReader.new w1 27 q0 _ rfl)
  clear hb
  go_wp2_with fail
  refine (implParseReader_any z0 _ hs0 ⟨tabPow_below TP.out B2.out, _, keepCell HX.out B2.out⟩).mono ?_
  rintro e w3 ⟨rfl, hb⟩
  simp only [Q0.out, Q1.out]
  have B3 := Lib.hid (Below.then' B2.out hb)
  have s3 := hb.size
  have W0b_3 := Lib.hid (W0b_2.out.below hb)
  clear hb
  have hb := bel_al1 w3 (.cells #[.int .i64 q0.Id, .string q0.Name, .int .i64 q0.Joined, .int .i64 q0.Class, .int .i64 q0.Fines] 27)
  have B4 := Lib.hid (Below.then' B3.out hb)
  have s4 := hb.size
  have W0b_4 := Lib.hid (W0b_3.out.below hb)
  have G0b_4 := Lib.hid (BoxReader.new w3 27 q0 _ rfl)
  clear hb
  have hx := W0b_4.out
  obtain ⟨W0b0, W0b1, W0b2, W0b3, W0b4⟩ := hx
  have hx := G0b_4.out
  obtain ⟨G0b0, G0b1, G0b2, G0b3, G0b4⟩ := hx
  go_wp2_with fail
  refine (eqReader_yes q0 _).mono ?_
  rintro e w5 ⟨rfl, hb⟩
  have B5 := Lib.hid (Below.then' B4.out hb)
  have s5 := hb.size
  have W0b_5 := Lib.hid (W0b_4.out.below hb)
  have G0b_5 := Lib.hid (G0b_4.out.below hb)
  clear hb
  clear W0b0 W0b1 W0b2 W0b3 W0b4
  clear G0b0 G0b1 G0b2 G0b3 G0b4
  go_wp2
  go_ret
  exact ⟨rfl, B5.out⟩

theorem own : ownKnob Tryd.prog.godebug = none := by kernel_rfl
theorem laidOut : laidOutB Tryd.prog = true := by kernel_rfl
theorem contract (H : Type) (enc : TypeId × Value → H) (W : World) (base : Nat) (args : Array Value) (ds gs : List (DataW H)) (before : List MemPlace)
    (hval0 : ∀ (j : Nat) t v, Tryd.f4.params[j]? = some t → args[j]? = some v → Value.okWide Tryd.prog W .any base t v)
    (hW : DataW.Whole enc Tryd.prog Tryd.f4.params.toList Rows.fnExactParseReaderSpec.vars false W args.toList ds gs before) (hL : laidMetH Tryd.prog Rows.fnExactParseReaderRow.laid W) (hS : W.ShapedOpen Tryd.prog) :
    Calls Tryd.prog 4 args W fun e W' => ∃ v, e = .returned v ∧ Rows.fnExactParseReaderSpec.post enc Tryd.prog Tryd.f4 false true false false W args v W' := by
  have hval : ∀ (j : Nat) t v, Tryd.f4.params[j]? = some t → args[j]? = some v → Value.okWide Tryd.prog W .any base t v := hval0
  have hW' := hW
  obtain ⟨p, q, hA0, hV, rfl, hfz, hnd⟩ := hW
  have hA : DataW.TrodAll enc Tryd.prog W 0 (fun _ => true) true Tryd.f4.params.toList args.toList ds p := hA0
  rw [Tryd.params4] at hA hval
  obtain ⟨v0, vs0, d0, ds0, p0, q0, hargs, rfl, rfl, h0, r0⟩ := trodAll_cons hA
  obtain ⟨rfl, rfl, rfl⟩ := trodAll_nil r0
  obtain rfl : args = #[v0] := by cases args; simp_all
  obtain ⟨rfl, rfl⟩ := trodVars_none hV
  obtain ⟨a0, rfl, rfl, rfl, w0⟩ := open_string Tryd.underlying9 (hval 0 9 v0 rfl rfl) h0
  clear hA0 hval0
  refine (walk a0 W w0 hL hS).mono fun e W' ⟨he, bel⟩ => ?_
  subst he
  exact ⟨_, rfl, _, _, _, [], _, [], hW', trodAll_mk1 (shut_bool Tryd.underlying4 _), (trodAll_cons_mk (shut_string Tryd.underlying9 w0) trodAll_mk0), rfl, bel.frame _, fun h => by cases h⟩
theorem laid_met (os : Os) : laidMet Tryd.prog Rows.fnExactParseReaderRow.laid ((World.doorLaid Tryd.prog 400 os).forCall (fun _ _ => 0) ⟨#[], #[.string ByteArray.empty], []⟩).memory :=
  laidMet_of_run' 8 (by kernel_rfl) (by kernel_rfl)
theorem reads (os : Os) {H : Type} (enc : TypeId × Value → H) : ∃ places, DataW.whole enc Tryd.prog ((World.doorLaid Tryd.prog 400 os).forCall (fun _ _ => 0) ⟨#[], #[.string ByteArray.empty], []⟩).memory Tryd.f4.params.toList Rows.fnExactParseReaderSpec.vars false #[Value.string ByteArray.empty].toList 8 = some ([.lit (.string [])], [], places) :=
  ⟨[], by kernel_rfl⟩
set_option maxRecDepth 100000 in
theorem lifted (os : Os) (started : os.Started) (H : Type) (enc : TypeId × Value → H) (F : Stop.Interp) :
    ReturnsInHanded {} Tryd.checked os 4 .any ((OpenSpec.ofChange Rows.fnExactParseReaderSpec).preRow enc Tryd.prog Tryd.f4 Rows.fnExactParseReaderRow.domain false Rows.fnExactParseReaderRow.laid) (((OpenSpec.ofChange Rows.fnExactParseReaderSpec).at F).post enc Tryd.prog Tryd.f4 false true false false) := by
  obtain ⟨places, hx⟩ := reads os enc
  refine returnsInHanded_of_row (C := Tryd.checked) (s := OpenSpec.ofChange Rows.fnExactParseReaderSpec) own started (by kernel_rfl) Tryd.func4
    (witness_row_at (enc := enc) (C := Tryd.checked) false (World.doorLaid Tryd.prog 400 os) #[.string ByteArray.empty] rfl (by kernel_rfl) (by kernel_rfl) (by kernel_rfl)
      (OpenSpec.preRow_of_cond 8 hx (by kernel_rfl) (fun k hk => by cases hk) (by kernel_rfl) (laid_met os))) ?_
  intro W base args ds gs before hval hW _ _ _ hL hS _
  exact contract H enc W base args ds gs before hval hW hL hS
theorem said : Rows.FnExactParseReaderSaid :=
  OpenClaim.holds_of_cond 4 Tryd.f4 rfl rfl rfl rfl rfl rfl rfl ⟨rfl, rfl, rfl, rfl, rfl⟩ rfl rfl rfl rfl rfl (by kernel_rfl) Tryd.func4 (by kernel_rfl)
    (of_decide_eq_true (by kernel_rfl)) (by unfold Func.isWrapper; first | (rw [if_pos (by decide +kernel)]; kernel_rfl) | (rw [if_neg (by decide +kernel)]; exact ⟨rfl, rfl⟩))
    (fun os started H enc _ F => by rw [OpenClaim.pre_eq_preRow]; exact lifted os started H enc F)
theorem plain (f : FuncId) (fn : Func) (hf : Tryd.pinned.checked.prog.funcNamed "loop.example/g01060/laws.FnExactParseReader" = some f) (hfn : Tryd.pinned.checked.prog.funcs[f]? = some fn) :
    false = Tryd.pinned.checked.prog.looks [] ∧ ∀ (j : Nat) t, fn.params[j]? = some t → Tryd.pinned.checked.prog.wantsStandIn t = false := by
  obtain rfl : f = 4 := Option.some.inj ((show Tryd.prog.funcNamed "loop.example/g01060/laws.FnExactParseReader" = some 4 by kernel_rfl).symm.trans hf) |>.symm
  obtain rfl : fn = Tryd.f4 := (Option.some.inj (Tryd.func4.symm.trans hfn)).symm
  refine ⟨by kernel_rfl, fun j t ht => ?_⟩
  rw [Tryd.params4] at ht
  have hm := Array.mem_of_getElem? ht
  simp only [List.mem_toArray, List.mem_cons, List.not_mem_nil, or_false] at hm
  subst hm
  exact (show Tryd.prog.wantsStandIn 9 = false by kernel_rfl)
theorem proved : Rows.FnExactParseReaderCardSaid :=
  Claim7.holds_tied_plain_at .later [] _ _ _ _ said (fun _ h => by cases h) (by kernel_rfl) (fun _ h => by cases h) fnExactParseReader_row_tie rfl ⟨rfl, rfl⟩ (by kernel_rfl) rfl plain (by kernel_rfl)
#print axioms proved
end Go.Proofs.YtofgpiikhifiaabDoor.fnExactParseReader
