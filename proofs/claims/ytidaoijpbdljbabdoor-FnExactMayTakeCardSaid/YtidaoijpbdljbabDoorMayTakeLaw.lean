/- FnExactMayTake: for every argument the law returns true and leaves all as it was. No condition. (the walk made by genlaw.py) -/
import Derived.Test.YtidaoijpbdljbabDoorCards
import Derived.Test.YtidaoijpbdljbabDoorTie
import Derived.Test.YtidaoijpbdljbabDoorMt
import Derived.Test.YtidaoijpbdljbabDoorVars
import Derived.ProofKit
import Derived.OpenShut
import Derived.ShutString
import Derived.ChangeOld
import Derived.Carry
import Derived.Deep.DeepHandedRow
import Derived.LaidMore
namespace Go.Proofs.YtidaoijpbdljbabDoor.fnExactMayTake
open Go.ChangeShapes Go.WideShapes Go.ChangeAt Go.RowKit
open Go.ChangeMaps (open_string shut_string)
set_option linter.unusedVariables false

theorem row_lt {w : World} {base : Nat} {e : TypeId} {size n : Nat} {v : Value} {xs : List Value} (h : w.ownsRow base e size v n xs) {b : Nat} (hb : b < base) : some b ≠ v.ownBlock := fun e => by have := (h.lt b e.symm).1; omega
set_option maxHeartbeats 6400000 in
set_option maxRecDepth 100000 in
theorem walk (a0 : Option Addr) (len0 cap0 : Nat) (z0 : List VReader) (z1 : Int) (z2 : Int) (w : World) (fa0 : IsReaderS w a0 len0 cap0 z0) (_ : (Lit.int .i64 z1).wf = true) (_ : (Lit.int .i64 z2).wf = true) (hL : laidMetH Tryd.prog Rows.fnExactMayTakeRow.laid w) (hS : w.ShapedOpen Tryd.prog) :
    Calls Tryd.prog 4 #[.slice a0 len0 cap0, .int .i64 z1, .int .i64 z2] w fun e w' => e = .returned (.bool true) ∧ Below w.heap.size w w' := by
  have TH := Lib.hid (tabHome_of hL)
  clear hL hS
  have hl0 : len0 ≤ maxLen := Nat.le_trans fa0.2.1 fa0.2.2.1
  have S0 := Lib.hid fa0
  have L0 := Lib.hid fa0.1
  clear fa0
  go_enter Tryd.func4, Tryd.ntmps4
  go_wp2_with fail
  refine (szReaderS_any _ _ _ z0 _ _ (S0.out) (by omega) (by omega)).mono ?_
  rintro e w1 ⟨left0, rfl, hle0, hsz, hb⟩
  have B1 := Lib.hid hb
  have s1 := hb.size
  have HZ0 := Lib.hid hsz
  clear hsz hb
  by_cases hneg0 : left0 < 0
  · go_wp2
    go_ret
    exact ⟨rfl, B1.out⟩
  have hlen0 : len0 ≤ 1048576 := (HZ0.out (by omega)).1
  have SZ0 := Lib.hid (HZ0.out (by omega)).2
  have hz0 : z0.length ≤ 1048576 := by have := L0.out; omega
  have hle0' : 0 ≤ left0 := by omega
  obtain ⟨q0, hqq0⟩ : ∃ q, MayTake_0 z0 z1 z2 = q := ⟨_, rfl⟩
  have Q0 := Lib.hid hqq0
  clear hqq0
  obtain ⟨q1, hqq1⟩ : ∃ q, MayTake_1 z0 z1 z2 = q := ⟨_, rfl⟩
  have Q1 := Lib.hid hqq1
  clear hqq1
  go_wp2_with fail
  refine (toReaderS_any a0 len0 cap0 z0 _ (S0.out.below B1.out) hlen0).mono ?_
  rintro e w2 ⟨v, rfl, hown, hb⟩
  have B2 := Lib.hid (Below.then' B1.out hb)
  have s2 := hb.size
  have T0n1o_2 := Lib.hid hown
  obtain ⟨T0n1a, T0n1c, rfl, his, T0n1k⟩ := isReaderS_own hown (fun s hs => sized_smallReader s (SZ0.out s hs))
  have T0n1i_2 := Lib.hid his
  have T0n1kk := Lib.hid T0n1k
  clear hown his hb T0n1k
  go_wp2_with fail
  refine (specMayTake_any _ _ _ z0 z1 z2 _ T0n1i_2.out hz0 SZ0.out).mono ?_
  rintro e w3 ⟨rfl, hb⟩
  rw [Q0.out, Q1.out]
  have B3 := Lib.hid (Below.then' B2.out hb)
  have s3 := hb.size
  have T0n1o_3 := Lib.hid (ownsRow_below T0n1o_2.out hb)
  have T0n1i_3 := Lib.hid (T0n1i_2.out.below hb)
  clear hb
  go_wp2_with fail
  refine (toReaderS_any a0 len0 cap0 z0 _ (S0.out.below B3.out) hlen0).mono ?_
  rintro e w4 ⟨v, rfl, hown, hb⟩
  have B4 := Lib.hid (Below.then' B3.out hb)
  have s4 := hb.size
  have X0zo_4 := Lib.hid hown
  obtain ⟨X0za, X0zc, rfl, his, X0zk⟩ := isReaderS_own hown (fun s hs => sized_smallReader s (SZ0.out s hs))
  have X0zi_4 := Lib.hid his
  have X0zkk := Lib.hid X0zk
  clear hown his hb X0zk
  go_wp2_with fail
  refine (implMayTake_any _ _ _ z0 z1 z2 _ X0zi_4.out hz0 SZ0.out (TH.out.below B4.out)).mono ?_
  rintro e w5 ⟨rfl, hb⟩
  rw [Q0.out, Q1.out]
  have B5 := Lib.hid (Below.then' B4.out hb)
  have s5 := hb.size
  have X0zo_5 := Lib.hid (ownsRow_below X0zo_4.out hb)
  have X0zi_5 := Lib.hid (X0zi_4.out.below hb)
  clear hb
  go_wp2_with fail
  refine (toReaderS_any a0 len0 cap0 z0 _ (S0.out.below B5.out) hlen0).mono ?_
  rintro e w6 ⟨v, rfl, hown, hb⟩
  have B6 := Lib.hid (Below.then' B5.out hb)
  have s6 := hb.size
  have X0zo_6 := Lib.hid (ownsRow_below X0zo_5.out hb)
  have X0zi_6 := Lib.hid (X0zi_5.out.below hb)
  have E0o_6 := Lib.hid hown
  obtain ⟨E0a, E0c, rfl, his, E0k⟩ := isReaderS_own hown (fun s hs => sized_smallReader s (SZ0.out s hs))
  have E0i_6 := Lib.hid his
  have E0kk := Lib.hid E0k
  clear hown his hb E0k
  go_wp2_with fail
  refine (eqReaderS_yes _ _ _ _ _ _ z0 _ X0zi_6.out E0i_6.out).mono ?_
  rintro e w7 ⟨rfl, hb⟩
  have B7 := Lib.hid (Below.then' B6.out hb)
  have s7 := hb.size
  have X0zo_7 := Lib.hid (ownsRow_below X0zo_6.out hb)
  have X0zi_7 := Lib.hid (X0zi_6.out.below hb)
  have E0o_7 := Lib.hid (ownsRow_below E0o_6.out hb)
  have E0i_7 := Lib.hid (E0i_6.out.below hb)
  clear hb
  go_wp2
  go_ret
  exact ⟨rfl, B7.out⟩

theorem own : ownKnob Tryd.prog.godebug = none := by kernel_rfl
theorem laidOut : laidOutB Tryd.prog = true := by kernel_rfl
theorem contract (H : Type) (enc : TypeId × Value → H) (W : World) (base : Nat) (args : Array Value) (ds gs : List (DataW H)) (before : List MemPlace)
    (hval0 : ∀ (j : Nat) t v, Tryd.f4.params[j]? = some t → args[j]? = some v → Value.okWide Tryd.prog W .any base t v)
    (hW : DataW.Whole enc Tryd.prog Tryd.f4.params.toList Rows.fnExactMayTakeSpec.vars false W args.toList ds gs before) (hL : laidMetH Tryd.prog Rows.fnExactMayTakeRow.laid W) (hS : W.ShapedOpen Tryd.prog) :
    Calls Tryd.prog 4 args W fun e W' => ∃ v, e = .returned v ∧ Rows.fnExactMayTakeSpec.post enc Tryd.prog Tryd.f4 false true false false W args v W' := by
  have hval : ∀ (j : Nat) t v, Tryd.f4.params[j]? = some t → args[j]? = some v → Value.okWide Tryd.prog W .any base t v := hval0
  have hW' := hW
  obtain ⟨p, q, hA0, hV, rfl, hfz, hnd⟩ := hW
  have hA : DataW.TrodAll enc Tryd.prog W 0 (fun _ => true) true Tryd.f4.params.toList args.toList ds p := hA0
  rw [Tryd.params4] at hA hval
  obtain ⟨v0, vs0, d0, ds0, p0, q0, hargs, rfl, rfl, h0, r0⟩ := trodAll_cons hA
  obtain ⟨v1, vs1, d1, ds1, p1, q1, rfl, rfl, rfl, h1, r1⟩ := trodAll_cons r0
  obtain ⟨v2, vs2, d2, ds2, p2, q2, rfl, rfl, rfl, h2, r2⟩ := trodAll_cons r1
  obtain ⟨rfl, rfl, rfl⟩ := trodAll_nil r2
  obtain rfl : args = #[v0, v1, v2] := by cases args; simp_all
  have hV1 : DataW.TrodVars enc Tryd.prog W (fun _ => true) ["loop.example/g01060/impl.homeByClass"] gs q := hV
  have hVV := hV1
  obtain ⟨gv0, tv0, cv0, fv0, dv0, pv0, rfl, _, _, _, _, rfl⟩ := trodVars_one hV1
  obtain ⟨a0, len0, cap0, rfl⟩ := okWide_slice Tryd.underlying44 (hval 0 44 v0 rfl rfl)
  have k0 := h0
  have lt0 : ∀ x ∈ p0, x.block < W.heap.size := by obtain ⟨m, hm⟩ := k0; exact DataW.trod_lt m _ _ _ hm
  obtain ⟨z0, w0⟩ : ∃ zs, IsReaderS W a0 len0 cap0 zs := open_ReaderS h0
  obtain ⟨a1, rfl, rfl, rfl, w1⟩ := open_int Tryd.underlying3 (hval 1 3 v1 rfl rfl) h1
  obtain ⟨a2, rfl, rfl, rfl, w2⟩ := open_int Tryd.underlying3 (hval 2 3 v2 rfl rfl) h2
  clear hA0 hval0
  refine (walk a0 len0 cap0 z0 a1 a2 W w0 w1 w2 hL hS).mono fun e W' ⟨he, bel⟩ => ?_
  subst he
  obtain ⟨qv, hqv⟩ := trodVars_below laidOut bel (by kernel_rfl) hVV
  exact ⟨_, rfl, _, _, _, [], _, qv, hW', trodAll_mk1 (shut_bool Tryd.underlying4 _), (trodAll_cons_mk (Below.trod laidOut (by kernel_rfl) (of_decide_eq_true (by kernel_rfl)) k0 bel lt0) (trodAll_cons_mk (shut_int Tryd.underlying3 w1) (trodAll_cons_mk (shut_int Tryd.underlying3 w2) trodAll_mk0))), hqv, bel.frame _, fun h => by cases h⟩
theorem laid_met (os : Os) : laidMet Tryd.prog Rows.fnExactMayTakeRow.laid ((World.doorLaid Tryd.prog 400 os).forCall (fun _ _ => 0) ⟨#[], #[.slice none 0 0, .int .i64 0, .int .i64 0], []⟩).memory :=
  laidMet_of_run' 8 (by kernel_rfl) (by kernel_rfl)
theorem reads (os : Os) {H : Type} (enc : TypeId × Value → H) : ∃ places, DataW.whole enc Tryd.prog ((World.doorLaid Tryd.prog 400 os).forCall (fun _ _ => 0) ⟨#[], #[.slice none 0 0, .int .i64 0, .int .i64 0], []⟩).memory Tryd.f4.params.toList Rows.fnExactMayTakeSpec.vars false #[Value.slice none 0 0, Value.int .i64 0, Value.int .i64 0].toList 8 = some ([.nil, .lit (.int .i64 0), .lit (.int .i64 0)], [(Rows.laid_loop_example_g01060_impl_homeByClass)], places) :=
  ⟨(MemPlace.row ⟨0, 0, none⟩ 3 ++ []), by kernel_rfl⟩
set_option maxRecDepth 100000 in
theorem lifted (os : Os) (started : os.Started) (H : Type) (enc : TypeId × Value → H) (F : Stop.Interp) :
    ReturnsInHanded {} Tryd.checked os 4 .any ((OpenSpec.ofChange Rows.fnExactMayTakeSpec).preRow enc Tryd.prog Tryd.f4 Rows.fnExactMayTakeRow.domain false Rows.fnExactMayTakeRow.laid) (((OpenSpec.ofChange Rows.fnExactMayTakeSpec).at F).post enc Tryd.prog Tryd.f4 false true false false) := by
  obtain ⟨places, hx⟩ := reads os enc
  refine returnsInHanded_of_row (C := Tryd.checked) (s := OpenSpec.ofChange Rows.fnExactMayTakeSpec) own started (by kernel_rfl) Tryd.func4
    (witness_row_at (enc := enc) (C := Tryd.checked) false (World.doorLaid Tryd.prog 400 os) #[.slice none 0 0, .int .i64 0, .int .i64 0] rfl (by kernel_rfl) (by kernel_rfl) (by kernel_rfl)
      (OpenSpec.preRow_of_cond 8 hx (by kernel_rfl) (fun k hk => by cases hk) (by kernel_rfl) (laid_met os))) ?_
  intro W base args ds gs before hval hW _ _ _ hL hS _
  exact contract H enc W base args ds gs before hval hW hL hS
theorem said : Rows.FnExactMayTakeSaid :=
  OpenClaim.holds_of_cond 4 Tryd.f4 rfl rfl rfl rfl rfl rfl rfl ⟨rfl, rfl, rfl, rfl, rfl⟩ rfl rfl rfl rfl rfl (by kernel_rfl) Tryd.func4 (by kernel_rfl)
    (of_decide_eq_true (by kernel_rfl)) (by unfold Func.isWrapper; first | (rw [if_pos (by decide +kernel)]; kernel_rfl) | (rw [if_neg (by decide +kernel)]; exact ⟨rfl, rfl⟩))
    (fun os started H enc _ F => by rw [OpenClaim.pre_eq_preRow]; exact lifted os started H enc F)
theorem plain (f : FuncId) (fn : Func) (hf : Tryd.pinned.checked.prog.funcNamed "loop.example/g01060/laws.FnExactMayTake" = some f) (hfn : Tryd.pinned.checked.prog.funcs[f]? = some fn) :
    false = Tryd.pinned.checked.prog.looks [] ∧ ∀ (j : Nat) t, fn.params[j]? = some t → Tryd.pinned.checked.prog.wantsStandIn t = false := by
  obtain rfl : f = 4 := Option.some.inj ((show Tryd.prog.funcNamed "loop.example/g01060/laws.FnExactMayTake" = some 4 by kernel_rfl).symm.trans hf) |>.symm
  obtain rfl : fn = Tryd.f4 := (Option.some.inj (Tryd.func4.symm.trans hfn)).symm
  refine ⟨by kernel_rfl, fun j t ht => ?_⟩
  rw [Tryd.params4] at ht
  have hm := Array.mem_of_getElem? ht
  simp only [List.mem_toArray, List.mem_cons, List.not_mem_nil, or_false] at hm
  rcases hm with rfl | rfl | rfl
  · exact (show Tryd.prog.wantsStandIn 44 = false by kernel_rfl)
  · exact (show Tryd.prog.wantsStandIn 3 = false by kernel_rfl)
  · exact (show Tryd.prog.wantsStandIn 3 = false by kernel_rfl)
theorem proved : Rows.FnExactMayTakeCardSaid :=
  Claim7.holds_tied_plain_at .later [] _ _ _ _ said (fun _ h => by cases h) (by kernel_rfl) (fun _ h => by cases h) fnExactMayTake_row_tie rfl ⟨rfl, rfl⟩ (by kernel_rfl) rfl plain (by kernel_rfl)
#print axioms proved
end Go.Proofs.YtidaoijpbdljbabDoor.fnExactMayTake
