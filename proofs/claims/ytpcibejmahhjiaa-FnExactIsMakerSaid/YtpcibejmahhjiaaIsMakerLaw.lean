/- FnExactIsMaker: for every argument the law returns true and leaves all as it was. No condition. (the walk made by genlaw.py) -/
import Derived.Test.YtpcibejmahhjiaaRows
import Derived.Test.YtpcibejmahhjiaaMz1
import Derived.Test.YtpcibejmahhjiaaVars
import Derived.ProofKit
import Derived.OpenShut
import Derived.ShutString
import Derived.ChangeOld
import Derived.Carry
namespace Go.Proofs.Ytpcibejmahhjiaa.fnExactIsMaker
open Go.ChangeShapes Go.WideShapes Go.ChangeAt Go.RowKit
open Go.ChangeMaps (open_string shut_string)
set_option linter.unusedVariables false

theorem row_lt {w : World} {base : Nat} {e : TypeId} {size n : Nat} {v : Value} {xs : List Value} (h : w.ownsRow base e size v n xs) {b : Nat} (hb : b < base) : some b ≠ v.ownBlock := fun e => by have := (h.lt b e.symm).1; omega
set_option maxHeartbeats 6400000 in
set_option maxRecDepth 100000 in
theorem walk (z0 : VMaker) (w : World) (fa0 : z0.small) :
    Calls Try.prog 4 #[.agg #[.int .i64 z0.Id, .string z0.Name, .int .i64 z0.From, .int .i64 z0.Until, .int .i64 z0.Heir]] w fun e w' => e = .returned (.bool true) ∧ Below w.heap.size w w' := by
  have SM0 := Lib.hid fa0
  clear fa0
  have BE := Lib.hid (show Below w.heap.size w (w.alloc (.cells #[.int .i64 z0.Id, .string z0.Name, .int .i64 z0.From, .int .i64 z0.Until, .int .i64 z0.Heir] 39)) from bel_al1 _ _)
  have X0_0 := Lib.hid ((BoxMaker.new w 39 z0 _ rfl))
  go_enter Try.func4, Try.ntmps4
  have hx0 := X0_0.out
  obtain ⟨c0_0, c0_1, c0_2, c0_3, c0_4⟩ := hx0
  go_wp2_with fail
  refine (szMaker_any z0 _ _ SM0.out (by omega) (by omega)).mono ?_
  rintro e w1 ⟨left0, rfl, hle0, hsz, hb⟩
  have B1 := Lib.hid (Below.then' BE.out hb)
  have s1 := hb.size
  have X0_1 := Lib.hid (X0_0.out.below hb)
  clear c0_0 c0_1 c0_2 c0_3 c0_4
  have HZ0 := Lib.hid hsz
  clear hsz hb
  by_cases hneg0 : left0 < 0
  · go_wp2
    go_ret
    exact ⟨rfl, B1.out⟩
  have SZ0 := Lib.hid (HZ0.out (by omega))
  have hle0' : 0 ≤ left0 := by omega
  obtain ⟨q0, hqq0⟩ : ∃ q, IsMaker_0 z0 = q := ⟨_, rfl⟩
  have Q0 := Lib.hid hqq0
  clear hqq0
  have hx0 := X0_1.out
  obtain ⟨c0_0, c0_1, c0_2, c0_3, c0_4⟩ := hx0
  go_wp2_with fail
  refine (toMaker_any z0 _).mono ?_
  rintro e w2 ⟨rfl, hb⟩
  have B2 := Lib.hid (Below.then' B1.out hb)
  have s2 := hb.size
  have X0_2 := Lib.hid (X0_1.out.below hb)
  clear hb
  clear c0_0 c0_1 c0_2 c0_3 c0_4
  go_wp2_with fail
  refine (specIsMaker_any z0 _ SZ0.out).mono ?_
  rintro e w3 ⟨rfl, hb⟩
  rw [Q0.out]
  have B3 := Lib.hid (Below.then' B2.out hb)
  have s3 := hb.size
  have X0_3 := Lib.hid (X0_2.out.below hb)
  clear hb
  have hx0 := X0_3.out
  obtain ⟨c0_0, c0_1, c0_2, c0_3, c0_4⟩ := hx0
  go_wp2_with fail
  refine (toMaker_any z0 _).mono ?_
  rintro e w4 ⟨rfl, hb⟩
  have B4 := Lib.hid (Below.then' B3.out hb)
  have s4 := hb.size
  have X0_4 := Lib.hid (X0_3.out.below hb)
  clear hb
  clear c0_0 c0_1 c0_2 c0_3 c0_4
  go_wp2_with fail
  refine (implIsMaker_any z0 _ SZ0.out).mono ?_
  rintro e w5 ⟨rfl, hb⟩
  rw [Q0.out]
  have B5 := Lib.hid (Below.then' B4.out hb)
  have s5 := hb.size
  have X0_5 := Lib.hid (X0_4.out.below hb)
  clear hb
  go_wp2
  go_ret
  exact ⟨rfl, B5.out⟩

theorem own : ownKnob Try.prog.godebug = none := by kernel_rfl
theorem laidOut : laidOutB Try.prog = true := by kernel_rfl
set_option maxRecDepth 100000 in
theorem lifted (os : Os) (started : os.Started) (H : Type) (enc : TypeId × Value → H) :
    ReturnsInHanded {} Try.checked os 4 .any (Rows.fnExactIsMakerSpec.pre6 enc Try.prog Try.f4 Rows.fnExactIsMakerRow.domain false) (Rows.fnExactIsMakerSpec.post enc Try.prog Try.f4 false true false false) := by
  refine returnsInHanded_of_change (C := Try.checked) own started (by kernel_rfl) Try.func4
    (ChangeSpec.witness6 (enc := enc) (C := Try.checked) false ⟨#[], #[.agg #[.int .i64 0, .string ByteArray.empty, .int .i64 0, .int .i64 0, .int .i64 0]], []⟩ 8 (by kernel_rfl) (by kernel_rfl) (by kernel_rfl) (by kernel_rfl)) ?_
  intro W base args ds gs before hval0 hW hcnd _
  have hval : ∀ (j : Nat) t v, Try.f4.params[j]? = some t → args[j]? = some v → Value.okWide Try.prog W .any base t v := hval0
  have hW' := hW
  obtain ⟨p, q, hA0, hV, rfl, hfz, hnd⟩ := hW
  have hA : DataW.TrodAll enc Try.prog W 0 (fun _ => true) true Try.f4.params.toList args.toList ds p := hA0
  rw [Try.params4] at hA hval
  obtain ⟨v0, vs0, d0, ds0, p0, q0, hargs, rfl, rfl, h0, r0⟩ := trodAll_cons hA
  obtain ⟨rfl, rfl, rfl⟩ := trodAll_nil r0
  obtain rfl : args = #[v0] := by cases args; simp_all
  obtain ⟨rfl, rfl⟩ := trodVars_none hV
  have k0 := h0
  have lt0 : ∀ x ∈ p0, x.block < W.heap.size := by obtain ⟨m, hm⟩ := k0; exact DataW.trod_lt m _ _ _ hm
  obtain ⟨a0, rfl, w0⟩ := open_Maker (hval 0 39 v0 rfl rfl) h0
  clear hA0 hval0
  refine (walk a0 W w0).mono fun e W' ⟨he, bel⟩ => ?_
  subst he
  exact ⟨_, rfl, _, _, _, [], _, [], hW', trodAll_mk1 (shut_bool Try.underlying4 _), (trodAll_cons_mk (Below.trod laidOut (by kernel_rfl) (of_decide_eq_true (by kernel_rfl)) k0 bel lt0) trodAll_mk0), rfl, bel.frame _, fun h => by cases h⟩
theorem over : Rows.fnExactIsMakerRow.holds Try.pinned (OpenSpec.ofChange Rows.fnExactIsMakerSpec) :=
  OpenClaim.holds_of_wide 4 Try.f4 rfl rfl rfl rfl rfl rfl rfl ⟨rfl, rfl, rfl, rfl, rfl⟩ rfl rfl rfl rfl rfl (by kernel_rfl) Try.func4 (by kernel_rfl)
    (of_decide_eq_true (by kernel_rfl)) (by unfold Func.isWrapper; first | (rw [if_pos (by decide +kernel)]; kernel_rfl) | (rw [if_neg (by decide +kernel)]; exact ⟨rfl, rfl⟩))
    (fun os started H enc _ => lifted os started H enc)
theorem proved : Rows.FnExactIsMakerSaid := over
#print axioms proved
end Go.Proofs.Ytpcibejmahhjiaa.fnExactIsMaker
