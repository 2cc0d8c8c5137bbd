/- FnExactOnPaper: for every sheet and every number the law returns true and leaves both as they were. No condition. -/
import Derived.Test.YtidaoijpbdljbaaRows
import Derived.Test.YtidaoijpbdljbaaShs
import Derived.Test.YtidaoijpbdljbaaPaper2
import Derived.ProofKit
import Derived.OpenShut
import Derived.ShutString
import Derived.ChangeOld
import Derived.Lib.SmallJoins
namespace Go.Proofs.Ytidaoijpbdljbaa.fnExactOnPaper
open Go.ChangeShapes Go.WideShapes Go.ChangeAt Go.RowKit
set_option linter.unusedVariables false

set_option maxHeartbeats 1600000 in
theorem walk (s : Sh) (m : Int) (w : World) (_ : (Lit.int .i64 m).wf = true) :
    Calls Try.prog 10 #[.agg #[.int .i64 s.id, .int .i64 s.row, .int .i64 s.col, .int .i64 s.scale, .int .i64 s.year], .int .i64 m] w fun e w' => e = .returned (.bool true) ∧ Below w.heap.size w w' := by
  obtain ⟨num, den, ok, hspec, himpl⟩ : ∃ (num den : Int) (ok : Bool), (∀ w, Calls Try.prog 45 #[.agg #[.int .i64 s.id, .int .i64 s.row, .int .i64 s.col, .int .i64 s.scale, .int .i64 s.year], .int .i64 m] w fun e w' => e = .returned (.tuple #[.int .i64 num, .int .i64 den, .bool ok]) ∧ Below w.heap.size w w')
      ∧ (∀ w, Calls Try.prog 46 #[.agg #[.int .i64 s.id, .int .i64 s.row, .int .i64 s.col, .int .i64 s.scale, .int .i64 s.year], .int .i64 m] w fun e w' => e = .returned (.tuple #[.int .i64 num, .int .i64 den, .bool ok]) ∧ Below w.heap.size w w') := by
    by_cases h : (s.ok && inB m 1 1000000) = true
    · rw [Bool.and_eq_true] at h
      obtain ⟨hk, hi⟩ := h
      obtain ⟨i1, i2⟩ := inB_iff.1 hi
      have hsc : 10 ≤ s.scale ∧ s.scale ≤ 500 := by
        unfold Sh.ok at hk
        simp only [Bool.and_eq_true, inB_iff] at hk
        exact hk.2.2.2.1
      obtain ⟨n, rfl⟩ := Int.eq_ofNat_of_zero_le (show 0 ≤ m by omega)
      obtain ⟨d, hd⟩ := Int.eq_ofNat_of_zero_le (show 0 ≤ s.scale by omega)
      exact ⟨_, _, true, fun w => specOnPaper_yes s n d w hk hi hd (by omega) (by omega) (by omega), fun w => implOnPaper_yes s n d w hk hi hd (by omega) (by omega) (by omega)⟩
    · have h' : (s.ok && inB m 1 1000000) = false := by simpa using h
      exact ⟨0, 0, false, fun w => specOnPaper_no s m w h', fun w => implOnPaper_no s m w h'⟩
  have S := Lib.hid hspec
  have I := Lib.hid himpl
  clear hspec himpl
  go_enter Try.func10, Try.ntmps10
  go_wp2_with fail
  refine (toSheet_any s _).mono ?_
  rintro e w1 ⟨rfl, hb1⟩
  have B1 := Lib.hid (Below.then' (bel_alloc1 _ _) hb1)
  have X1 := Lib.hid ((boxAt_new w 33 s _ rfl).below hb1)
  clear hb1
  go_wp2_with fail
  refine (S.out _).mono ?_
  rintro e w2 ⟨rfl, hb2⟩
  have B2 := Lib.hid (Below.then' B1.out hb2)
  obtain ⟨c0, c1, c2, c3, c4⟩ := X1.out.below hb2
  clear hb2
  go_wp2_with fail
  refine (toSheet_any s _).mono ?_
  rintro e w3 ⟨rfl, hb3⟩
  have B3 := Lib.hid (Below.then' B2.out hb3)
  clear hb3
  go_wp2_with fail
  refine (I.out _).mono ?_
  rintro e w4 ⟨rfl, hb4⟩
  have B4 := Lib.hid (Below.then' B3.out hb4)
  clear hb4 c0 c1 c2 c3 c4
  cases ok
  all_goals
    go_wp2
    go_ret
    exact ⟨rfl, B4.out⟩

theorem own : ownKnob Try.prog.godebug = none := by kernel_rfl
theorem laidOut : laidOutB Try.prog = true := by kernel_rfl
set_option maxRecDepth 100000 in
theorem lifted (os : Os) (started : os.Started) (H : Type) (enc : TypeId × Value → H) :
    ReturnsInHanded {} Try.checked os 10 .any (Rows.fnExactOnPaperSpec.pre6 enc Try.prog Try.f10 Rows.fnExactOnPaperRow.domain false) (Rows.fnExactOnPaperSpec.post enc Try.prog Try.f10 false true false false) := by
  refine returnsInHanded_of_change (C := Try.checked) own started (by kernel_rfl) Try.func10
    (ChangeSpec.witness6 (enc := enc) (C := Try.checked) false ⟨#[], #[.agg #[.int .i64 0, .int .i64 0, .int .i64 0, .int .i64 0, .int .i64 0], .int .i64 0], []⟩ 8 (by kernel_rfl) (by kernel_rfl) (by kernel_rfl) (by kernel_rfl)) ?_
  intro W base args ds gs before hval0 hW hcnd _
  have hval : ∀ (j : Nat) t v, Try.f10.params[j]? = some t → args[j]? = some v → Value.okWide Try.prog W .any base t v := hval0
  have hW' := hW
  obtain ⟨p, q, hA0, hV, rfl, hfz, hnd⟩ := hW
  have hA : DataW.TrodAll enc Try.prog W 0 (fun _ => true) true Try.f10.params.toList args.toList ds p := hA0
  rw [Try.params10] at hA hval
  obtain ⟨v0, vs0, d0, ds0, p0, q0, hargs, rfl, rfl, h0, r0⟩ := trodAll_cons hA
  obtain ⟨v1, vs1, d1, ds1, p1, q1, rfl, rfl, rfl, h1, r1⟩ := trodAll_cons r0
  obtain ⟨rfl, rfl, rfl⟩ := trodAll_nil r1
  obtain rfl : args = #[v0, v1] := by cases args; simp_all
  obtain ⟨rfl, rfl⟩ := trodVars_none hV
  have k0 := h0
  have lt0 : ∀ x ∈ p0, x.block < W.heap.size := by obtain ⟨m, hm⟩ := k0; exact DataW.trod_lt m _ _ _ hm
  obtain ⟨a0, rfl⟩ := open_Sheet (hval 0 33 v0 rfl rfl) h0
  obtain ⟨a1, rfl, rfl, rfl, w1⟩ := open_int Try.underlying3 (hval 1 3 v1 rfl rfl) h1
  clear hA0 hval0
  refine (walk a0 a1 W w1).mono fun e W' ⟨he, bel⟩ => ?_
  subst he
  exact ⟨_, rfl, _, _, _, [], _, [], hW', trodAll_mk1 (shut_bool Try.underlying4 _), (trodAll_cons_mk (Below.trod laidOut (by kernel_rfl) (of_decide_eq_true (by kernel_rfl)) k0 bel lt0) (trodAll_cons_mk (shut_int Try.underlying3 w1) trodAll_mk0)), rfl, bel.frame _, fun h => by cases h⟩
theorem over : Rows.fnExactOnPaperRow.holds Try.pinned (OpenSpec.ofChange Rows.fnExactOnPaperSpec) :=
  OpenClaim.holds_of_wide 10 Try.f10 rfl rfl rfl rfl rfl rfl rfl ⟨rfl, rfl, rfl, rfl, rfl⟩ rfl rfl rfl rfl rfl (by kernel_rfl) Try.func10 (by kernel_rfl)
    (of_decide_eq_true (by kernel_rfl)) (by unfold Func.isWrapper; first | (rw [if_pos (by decide +kernel)]; kernel_rfl) | (rw [if_neg (by decide +kernel)]; exact ⟨rfl, rfl⟩))
    (fun os started H enc _ => lifted os started H enc)
theorem proved : Rows.FnExactOnPaperSaid := over
#print axioms proved
end Go.Proofs.Ytidaoijpbdljbaa.fnExactOnPaper
