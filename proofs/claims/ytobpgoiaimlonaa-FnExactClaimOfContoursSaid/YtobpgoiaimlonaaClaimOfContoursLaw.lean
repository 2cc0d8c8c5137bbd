/- FnExactClaimOfContours: for every argument the law returns true and leaves all as it was. No condition. (the walk made by genlaw.py) -/
import Derived.Test.YtobpgoiaimlonaaRows
import Derived.Test.YtobpgoiaimlonaaCz1
import Derived.Test.YtobpgoiaimlonaaVars
import Derived.ProofKit
import Derived.OpenShut
import Derived.ShutString
import Derived.ChangeOld
import Derived.Carry
namespace Go.Proofs.Ytobpgoiaimlonaa.fnExactClaimOfContours
open Go.ChangeShapes Go.WideShapes Go.ChangeAt Go.RowKit
open Go.ChangeMaps (open_string shut_string)
set_option linter.unusedVariables false

theorem row_lt {w : World} {base : Nat} {e : TypeId} {size n : Nat} {v : Value} {xs : List Value} (h : w.ownsRow base e size v n xs) {b : Nat} (hb : b < base) : some b ≠ v.ownBlock := fun e => by have := (h.lt b e.symm).1; omega
set_option maxHeartbeats 6400000 in
set_option maxRecDepth 100000 in
theorem walk (z0 : Int) (z1 : Int) (z2 : Int) (z3 : Int) (w : World) (_ : (Lit.int .i64 z0).wf = true) (_ : (Lit.int .i64 z1).wf = true) (_ : (Lit.int .i64 z2).wf = true) (_ : (Lit.int .i64 z3).wf = true) :
    Calls Try.prog 13 #[.int .i64 z0, .int .i64 z1, .int .i64 z2, .int .i64 z3] w fun e w' => e = .returned (.bool true) ∧ Below w.heap.size w w' := by
  go_enter Try.func13, Try.ntmps13
  obtain ⟨q0, hqq0⟩ : ∃ q, ClaimOfContours_0 z0 z1 z2 z3 = q := ⟨_, rfl⟩
  have Q0 := Lib.hid hqq0
  clear hqq0
  obtain ⟨q1, hqq1⟩ : ∃ q, ClaimOfContours_1 z0 z1 z2 z3 = q := ⟨_, rfl⟩
  have Q1 := Lib.hid hqq1
  clear hqq1
  go_wp2_with fail
  refine (specClaimOfContours_any z0 z1 z2 z3 _ ).mono ?_
  rintro e w1 ⟨rfl, hb⟩
  simp only [Q0.out, Q1.out]
  have B1 := Lib.hid hb
  have s1 := hb.size
  clear hb
  have hb := bel_al1 w1 (.cells #[.int .i64 q0.Low, .int .i64 q0.High, .int .i64 q0.Least, .int .i64 q0.Most] 38)
  have B2 := Lib.hid (Below.then' B1.out hb)
  have s2 := hb.size
  have W0b_2 := Lib.hid (BoxClaim.new w1 38 q0 _ rfl)
  clear hb
  go_wp2_with fail
  refine (implClaimOfContours_any z0 z1 z2 z3 _ ).mono ?_
  rintro e w3 ⟨rfl, hb⟩
  simp only [Q0.out, Q1.out]
  have B3 := Lib.hid (Below.then' B2.out hb)
  have s3 := hb.size
  have W0b_3 := Lib.hid (W0b_2.out.below hb)
  clear hb
  have hb := bel_al1 w3 (.cells #[.int .i64 q0.Low, .int .i64 q0.High, .int .i64 q0.Least, .int .i64 q0.Most] 38)
  have B4 := Lib.hid (Below.then' B3.out hb)
  have s4 := hb.size
  have W0b_4 := Lib.hid (W0b_3.out.below hb)
  have G0b_4 := Lib.hid (BoxClaim.new w3 38 q0 _ rfl)
  clear hb
  have hx := W0b_4.out
  obtain ⟨W0b0, W0b1, W0b2, W0b3⟩ := hx
  have hx := G0b_4.out
  obtain ⟨G0b0, G0b1, G0b2, G0b3⟩ := hx
  go_wp2_with fail
  refine (eqClaim_yes q0 _).mono ?_
  rintro e w5 ⟨rfl, hb⟩
  have B5 := Lib.hid (Below.then' B4.out hb)
  have s5 := hb.size
  have W0b_5 := Lib.hid (W0b_4.out.below hb)
  have G0b_5 := Lib.hid (G0b_4.out.below hb)
  clear hb
  clear W0b0 W0b1 W0b2 W0b3
  clear G0b0 G0b1 G0b2 G0b3
  go_wp2
  go_ret
  exact ⟨rfl, B5.out⟩

theorem own : ownKnob Try.prog.godebug = none := by kernel_rfl
theorem laidOut : laidOutB Try.prog = true := by kernel_rfl
set_option maxRecDepth 100000 in
theorem lifted (os : Os) (started : os.Started) (H : Type) (enc : TypeId × Value → H) :
    ReturnsInHanded {} Try.checked os 13 .any (Rows.fnExactClaimOfContoursSpec.pre6 enc Try.prog Try.f13 Rows.fnExactClaimOfContoursRow.domain false) (Rows.fnExactClaimOfContoursSpec.post enc Try.prog Try.f13 false true false false) := by
  refine returnsInHanded_of_change (C := Try.checked) own started (by kernel_rfl) Try.func13
    (ChangeSpec.witness6 (enc := enc) (C := Try.checked) false ⟨#[], #[.int .i64 0, .int .i64 0, .int .i64 0, .int .i64 0], []⟩ 8 (by kernel_rfl) (by kernel_rfl) (by kernel_rfl) (by kernel_rfl)) ?_
  intro W base args ds gs before hval0 hW hcnd _
  have hval : ∀ (j : Nat) t v, Try.f13.params[j]? = some t → args[j]? = some v → Value.okWide Try.prog W .any base t v := hval0
  have hW' := hW
  obtain ⟨p, q, hA0, hV, rfl, hfz, hnd⟩ := hW
  have hA : DataW.TrodAll enc Try.prog W 0 (fun _ => true) true Try.f13.params.toList args.toList ds p := hA0
  rw [Try.params13] at hA hval
  obtain ⟨v0, vs0, d0, ds0, p0, q0, hargs, rfl, rfl, h0, r0⟩ := trodAll_cons hA
  obtain ⟨v1, vs1, d1, ds1, p1, q1, rfl, rfl, rfl, h1, r1⟩ := trodAll_cons r0
  obtain ⟨v2, vs2, d2, ds2, p2, q2, rfl, rfl, rfl, h2, r2⟩ := trodAll_cons r1
  obtain ⟨v3, vs3, d3, ds3, p3, q3, rfl, rfl, rfl, h3, r3⟩ := trodAll_cons r2
  obtain ⟨rfl, rfl, rfl⟩ := trodAll_nil r3
  obtain rfl : args = #[v0, v1, v2, v3] := by cases args; simp_all
  obtain ⟨rfl, rfl⟩ := trodVars_none hV
  obtain ⟨a0, rfl, rfl, rfl, w0⟩ := open_int Try.underlying3 (hval 0 3 v0 rfl rfl) h0
  obtain ⟨a1, rfl, rfl, rfl, w1⟩ := open_int Try.underlying3 (hval 1 3 v1 rfl rfl) h1
  obtain ⟨a2, rfl, rfl, rfl, w2⟩ := open_int Try.underlying3 (hval 2 3 v2 rfl rfl) h2
  obtain ⟨a3, rfl, rfl, rfl, w3⟩ := open_int Try.underlying3 (hval 3 3 v3 rfl rfl) h3
  clear hA0 hval0
  refine (walk a0 a1 a2 a3 W w0 w1 w2 w3).mono fun e W' ⟨he, bel⟩ => ?_
  subst he
  exact ⟨_, rfl, _, _, _, [], _, [], hW', trodAll_mk1 (shut_bool Try.underlying4 _), (trodAll_cons_mk (shut_int Try.underlying3 w0) (trodAll_cons_mk (shut_int Try.underlying3 w1) (trodAll_cons_mk (shut_int Try.underlying3 w2) (trodAll_cons_mk (shut_int Try.underlying3 w3) trodAll_mk0)))), rfl, bel.frame _, fun h => by cases h⟩
theorem over : Rows.fnExactClaimOfContoursRow.holds Try.pinned (OpenSpec.ofChange Rows.fnExactClaimOfContoursSpec) :=
  OpenClaim.holds_of_wide 13 Try.f13 rfl rfl rfl rfl rfl rfl rfl ⟨rfl, rfl, rfl, rfl, rfl⟩ rfl rfl rfl rfl rfl (by kernel_rfl) Try.func13 (by kernel_rfl)
    (of_decide_eq_true (by kernel_rfl)) (by unfold Func.isWrapper; first | (rw [if_pos (by decide +kernel)]; kernel_rfl) | (rw [if_neg (by decide +kernel)]; exact ⟨rfl, rfl⟩))
    (fun os started H enc _ => lifted os started H enc)
theorem proved : Rows.FnExactClaimOfContoursSaid := over
#print axioms proved
end Go.Proofs.Ytobpgoiaimlonaa.fnExactClaimOfContours
