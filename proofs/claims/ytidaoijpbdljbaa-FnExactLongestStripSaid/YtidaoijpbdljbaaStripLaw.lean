/- FnExactLongestStrip: for every list of sheets and every number the law returns true and leaves both as they were. No condition. -/
import Derived.Test.YtidaoijpbdljbaaRows
import Derived.Test.YtidaoijpbdljbaaStrip3
import Derived.ProofKit
import Derived.OpenShut
import Derived.ShutString
import Derived.ChangeOld
import Derived.Carry
namespace Go.Proofs.Ytidaoijpbdljbaa.fnExactLongestStrip
open Go.ChangeShapes Go.WideShapes Go.ChangeAt Go.RowKit
set_option linter.unusedVariables false

theorem strip_same {xs : List Sh} {sc : Int} {L M : List Int} (h : (areSh xs = true ∧ StripIs xs sc L) ∨ (areSh xs = false ∧ L = [])) (h' : (areSh xs = true ∧ StripIs xs sc M) ∨ (areSh xs = false ∧ M = [])) : L = M := by
  rcases h with ⟨a, b⟩ | ⟨a, b⟩ <;> rcases h' with ⟨c, d⟩ | ⟨c, d⟩
  · exact strip_one a b d
  · rw [a] at c; cases c
  · rw [a] at c; cases c
  · rw [b, d]
theorem row_lt {w : World} {base : Nat} {e : TypeId} {size n : Nat} {v : Value} {xs : List Value} (h : w.ownsRow base e size v n xs) {b : Nat} (hb : b < base) : some b ≠ v.ownBlock := fun e => by have := (h.lt b e.symm).1; omega

set_option maxHeartbeats 3200000 in
set_option maxRecDepth 100000 in
theorem walk (a : Option Addr) (len cap : Nat) (xs : List Sh) (id : Int) (w : World) (h : IsSheetS w a len cap xs) (_ : (Lit.int .i64 id).wf = true) :
    Calls Try.prog 9 #[.slice a len cap, .int .i64 id] w fun e w' => e = .returned (.bool true) ∧ Below w.heap.size w w' := by
  have hl : len ≤ maxLen := Nat.le_trans h.2.1 h.2.2.1
  have S := Lib.hid h
  have L := Lib.hid h.1
  clear h
  by_cases h1 : (1048576 : Int) < (len : Int)
  · go_enter Try.func9, Try.ntmps9
    go_wp2_with (go_at_call 29; refine (szSheetS_any _ _ _ _ _ (by omega) (by omega) hl).mono ?_; rintro e w' ⟨rfl, rfl⟩; rw [if_pos h1])
    go_ret
    exact ⟨rfl, Below.refl _ _⟩
  have hlen : len ≤ 1048576 := by omega
  have hle : 0 ≤ 1048576 - (len : Int) := by omega
  have hxl := L.out
  clear hxl
  go_enter Try.func9, Try.ntmps9
  go_wp2_with fail
  refine (szSheetS_any _ _ _ _ _ (by omega) (by omega) hl).mono ?_
  rintro e w' ⟨rfl, rfl⟩
  rw [if_neg (by omega)]
  go_wp2_with fail
  refine (toSheetS_any a len cap xs _ S.out hlen).mono ?_
  rintro e w1 ⟨v, rfl, hown, hb1⟩
  obtain ⟨a1, c1, rfl, hi1⟩ := isSheetS_own hown
  have B1 := Lib.hid hb1
  have I1 := Lib.hid hi1
  clear hown hi1 hb1
  go_wp2_with fail
  refine (specLongestStrip_any _ _ _ xs id _ I1.out).mono ?_
  rintro e w2 ⟨ys, v, rfl, hcs, hy100, hown, hb2⟩
  obtain ⟨q, hq⟩ : ∃ q, decide (0 < ys.length) = q := ⟨_, rfl⟩
  rw [hq]
  have hyl : ys.length ≤ 1000000 := by omega
  have CS := Lib.hid hcs
  have Q := Lib.hid hq
  clear hcs hq hy100
  obtain ⟨a2, c2, rfl, hi2, hk2⟩ := isInts_own hown
  have B2 := Lib.hid (Below.then' B1.out hb2)
  have W2 := Lib.hid hi2
  have K2 := Lib.hid (show ∀ b o, a2 = some ⟨b, o, none⟩ → b < w2.heap.size from fun b o e => (hown.lt b (hk2 b o e)).2)
  clear hown hb2 hi2 hk2
  go_wp2_with fail
  refine (toSheetS_any a len cap xs _ (S.out.below B2.out) hlen).mono ?_
  rintro e w3 ⟨v, rfl, hown, hb3⟩
  have X3 := Lib.hid hown
  obtain ⟨a3, c3, rfl, hi3⟩ := isSheetS_own hown
  have B3 := Lib.hid (Below.then' B2.out hb3)
  have W3 := Lib.hid (W2.out.below hb3)
  have I3 := Lib.hid hi3
  have s23 := hb3.size
  clear hown hi3 hb3
  go_wp2_with fail
  refine (implLongestStrip_any _ _ _ xs id _ I3.out).mono ?_
  rintro e w4 ⟨zs, v, rfl, hcs, _, hown, hb4⟩
  have hz := strip_same CS.out hcs
  subst hz
  rw [Q.out]
  clear hcs
  have G4 := Lib.hid hown
  obtain ⟨a4, c4, rfl, hi4, hk4⟩ := isInts_own hown
  have B4 := Lib.hid (Below.then' B3.out hb4)
  have W4 := Lib.hid (W3.out.below hb4)
  have X4 := Lib.hid (ownsRow_below X3.out hb4)
  have I4 := Lib.hid (I3.out.below hb4)
  have J4 := Lib.hid hi4
  have s34 := hb4.size
  clear hown hi4 hb4 hk4
  go_wp2_with fail
  refine (eqIntS_yes _ _ _ _ _ _ ys _ J4.out W4.out).mono ?_
  rintro e w5 ⟨rfl, hb5⟩
  have B5 := Lib.hid (Below.then' B4.out hb5)
  have W5 := Lib.hid (W4.out.below hb5)
  have X5 := Lib.hid (ownsRow_below X4.out hb5)
  have G5 := Lib.hid (ownsRow_below G4.out hb5)
  have I5 := Lib.hid (I4.out.below hb5)
  clear hb5
  go_wp2_with fail
  refine (toSheetS_any a len cap xs _ (S.out.below B5.out) hlen).mono ?_
  rintro e w6 ⟨v, rfl, hown, hb6⟩
  obtain ⟨a6, c6, rfl, hi6⟩ := isSheetS_own hown
  have B6 := Lib.hid (Below.then' B5.out hb6)
  have W6 := Lib.hid (W5.out.below hb6)
  have X6 := Lib.hid (ownsRow_below X5.out hb6)
  have G6 := Lib.hid (ownsRow_below G5.out hb6)
  have I6 := Lib.hid (I5.out.below hb6)
  have N6 := Lib.hid hi6
  clear hown hi6 hb6
  go_wp2_with fail
  refine (eqSheetS_yes _ _ _ _ _ _ xs _ I6.out N6.out).mono ?_
  rintro e w7 ⟨rfl, hb7⟩
  have B7 := Lib.hid (Below.then' B6.out hb7)
  have W7 := Lib.hid (W6.out.below hb7)
  have X7 := Lib.hid (ownsRow_below X6.out hb7)
  have G7 := Lib.hid (ownsRow_below G6.out hb7)
  clear hb7
  go_wp2_with fail
  refine (markSheetS_any w2.heap.size _ xs.length 1 _ _ X7.out (by omega) (by have := L.out; omega)).mono ?_
  rintro e w8 ⟨rfl, hg8⟩
  have B8 := Lib.hid (B7.out.grown hg8 B7.out.size (fun k e => Nat.le_trans B2.out.size (X7.out.lt k e).1))
  have W8 := Lib.hid (W7.out.grown hg8 (fun b o e => row_lt X7.out (K2.out b o e)))
  have G8 := Lib.hid (ownsRow_grown' G7.out hg8 (fun k e => (X3.out.lt k e).2))
  have J8 : ∃ c, IsInts w8 a4 ys.length c ys ∧ c = c4 := by
    obtain ⟨a', c', e', hi', _⟩ := isInts_own G8.out
    cases e'
    exact ⟨c4, hi', rfl⟩
  obtain ⟨c, hJ8, rfl⟩ := J8
  have J8 := Lib.hid hJ8
  clear hg8 hJ8
  go_wp2_with fail
  refine (eqIntS_yes _ _ _ _ _ _ ys _ J8.out W8.out).mono ?_
  rintro e w9 ⟨rfl, hb9⟩
  have B9 := Lib.hid (Below.then' B8.out hb9)
  have W9 := Lib.hid (W8.out.below hb9)
  have G9 := Lib.hid (ownsRow_below G8.out hb9)
  clear hb9
  go_wp2_with fail
  refine (markIntS_any w3.heap.size _ ys.length 1 _ _ G9.out (by omega) (by omega)).mono ?_
  rintro e w10 ⟨rfl, hm10, hg10⟩
  have B10 := Lib.hid (B9.out.grown hg10 B9.out.size (fun k e => Nat.le_trans B3.out.size (G9.out.lt k e).1))
  have W10 := Lib.hid (W9.out.grown hg10 (fun b o e => row_lt G9.out (Nat.lt_of_lt_of_le (K2.out b o e) s23)))
  have M10 : IsInts w10 a4 ys.length c (marksI 1 ys.length) := by
    have hm := hm10
    rw [show ys.length = (marksI 1 ys.length).length from (marksI_len _ _).symm] at hm
    obtain ⟨a', c', e', hi', _⟩ := isInts_own (xs := marksI 1 ys.length) (by simpa [marksI_len] using hm10)
    rw [marksI_len] at e' hi'
    cases e'
    exact hi'
  have M10 := Lib.hid M10
  clear hm10 hg10
  go_wp2_with fail
  refine (heldIntS_any _ _ _ 1 _ M10.out (by omega) (by omega)).mono ?_
  rintro e w11 ⟨rfl, rfl⟩
  go_wp2_with fail
  refine (toSheetS_any a len cap xs _ (S.out.below B10.out) hlen).mono ?_
  rintro e w12 ⟨v, rfl, hown, hb12⟩
  obtain ⟨a12, c12, rfl, hi12⟩ := isSheetS_own hown
  have B12 := Lib.hid (Below.then' B10.out hb12)
  have W12 := Lib.hid (W10.out.below hb12)
  have M12 := Lib.hid (M10.out.below hb12)
  have N12 := Lib.hid hi12
  clear hown hi12 hb12
  go_wp2_with fail
  refine (implLongestStrip_any _ _ _ xs id _ N12.out).mono ?_
  rintro e w13 ⟨zs, v, rfl, hcs, _, hown, hb13⟩
  have hz := strip_same CS.out hcs
  subst hz
  rw [Q.out]
  clear hcs
  obtain ⟨a13, c13, rfl, hi13, _⟩ := isInts_own hown
  have B13 := Lib.hid (Below.then' B12.out hb13)
  have W13 := Lib.hid (W12.out.below hb13)
  have M13 := Lib.hid (M12.out.below hb13)
  have J13 := Lib.hid hi13
  clear hown hi13 hb13
  go_wp2_with fail
  refine (eqIntS_yes _ _ _ _ _ _ ys _ J13.out W13.out).mono ?_
  rintro e w14 ⟨rfl, hb14⟩
  have B14 := Lib.hid (Below.then' B13.out hb14)
  have M14 := Lib.hid (M13.out.below hb14)
  clear hb14
  go_wp2_with fail
  refine (heldIntS_any _ _ _ 1 _ M14.out (by omega) (by omega)).mono ?_
  rintro e w15 ⟨rfl, rfl⟩
  go_wp2
  go_ret
  exact ⟨rfl, B14.out⟩

theorem own : ownKnob Try.prog.godebug = none := by kernel_rfl
theorem laidOut : laidOutB Try.prog = true := by kernel_rfl
set_option maxRecDepth 100000 in
theorem lifted (os : Os) (started : os.Started) (H : Type) (enc : TypeId × Value → H) :
    ReturnsInHanded {} Try.checked os 9 .any (Rows.fnExactLongestStripSpec.pre6 enc Try.prog Try.f9 Rows.fnExactLongestStripRow.domain false) (Rows.fnExactLongestStripSpec.post enc Try.prog Try.f9 false true false false) := by
  refine returnsInHanded_of_change (C := Try.checked) own started (by kernel_rfl) Try.func9
    (ChangeSpec.witness6 (enc := enc) (C := Try.checked) false ⟨#[], #[.slice none 0 0, .int .i64 0], []⟩ 8 (by kernel_rfl) (by kernel_rfl) (by kernel_rfl) (by kernel_rfl)) ?_
  intro W base args ds gs before hval0 hW hcnd _
  have hval : ∀ (j : Nat) t v, Try.f9.params[j]? = some t → args[j]? = some v → Value.okWide Try.prog W .any base t v := hval0
  have hW' := hW
  obtain ⟨p, q, hA0, hV, rfl, hfz, hnd⟩ := hW
  have hA : DataW.TrodAll enc Try.prog W 0 (fun _ => true) true Try.f9.params.toList args.toList ds p := hA0
  rw [Try.params9] at hA hval
  obtain ⟨v0, vs0, d0, ds0, p0, q0, hargs, rfl, rfl, h0, r0⟩ := trodAll_cons hA
  obtain ⟨v1, vs1, d1, ds1, p1, q1, rfl, rfl, rfl, h1, r1⟩ := trodAll_cons r0
  obtain ⟨rfl, rfl, rfl⟩ := trodAll_nil r1
  obtain rfl : args = #[v0, v1] := by cases args; simp_all
  obtain ⟨rfl, rfl⟩ := trodVars_none hV
  obtain ⟨a0, len0, cap0, rfl⟩ := okWide_slice Try.underlying38 (hval 0 38 v0 rfl rfl)
  have k0 := h0
  have lt0 : ∀ x ∈ p0, x.block < W.heap.size := by obtain ⟨m, hm⟩ := k0; exact DataW.trod_lt m _ _ _ hm
  obtain ⟨z0, w0⟩ : ∃ zs, IsSheetS W a0 len0 cap0 zs := open_SheetS h0
  obtain ⟨a1, rfl, rfl, rfl, w1⟩ := open_int Try.underlying3 (hval 1 3 v1 rfl rfl) h1
  clear hA0 hval0
  refine (walk a0 len0 cap0 z0 a1 W w0 w1).mono fun e W' ⟨he, bel⟩ => ?_
  subst he
  exact ⟨_, rfl, _, _, _, [], _, [], hW', trodAll_mk1 (shut_bool Try.underlying4 _), (trodAll_cons_mk (Below.trod laidOut (by kernel_rfl) (of_decide_eq_true (by kernel_rfl)) k0 bel lt0) (trodAll_cons_mk (shut_int Try.underlying3 w1) trodAll_mk0)), rfl, bel.frame _, fun h => by cases h⟩
theorem over : Rows.fnExactLongestStripRow.holds Try.pinned (OpenSpec.ofChange Rows.fnExactLongestStripSpec) :=
  OpenClaim.holds_of_wide 9 Try.f9 rfl rfl rfl rfl rfl rfl rfl ⟨rfl, rfl, rfl, rfl, rfl⟩ rfl rfl rfl rfl rfl (by kernel_rfl) Try.func9 (by kernel_rfl)
    (of_decide_eq_true (by kernel_rfl)) (by unfold Func.isWrapper; first | (rw [if_pos (by decide +kernel)]; kernel_rfl) | (rw [if_neg (by decide +kernel)]; exact ⟨rfl, rfl⟩))
    (fun os started H enc _ => lifted os started H enc)
theorem proved : Rows.FnExactLongestStripSaid := over
#print axioms proved
end Go.Proofs.Ytidaoijpbdljbaa.fnExactLongestStrip
