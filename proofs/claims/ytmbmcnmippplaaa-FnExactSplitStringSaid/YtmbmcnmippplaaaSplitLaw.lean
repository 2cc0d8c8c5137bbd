/- FnExactSplitString: for every two strings the law returns true and leaves both as they were. No condition. -/
import Derived.Test.YtmbmcnmippplaaaRows
import Derived.Test.YtmbmcnmippplaaaSplits
import Derived.Test.YtmbmcnmippplaaaMark
import Derived.ProofKit
import Derived.OpenShut
import Derived.ShutString
import Derived.ChangeOld
namespace Go.Proofs.Ytmbmcnmippplaaa.fnExactSplitString
open Go.ChangeShapes Go.WideShapes Go.ChangeAt Go.RowKit
open Go.ChangeMaps (open_string shut_string)
set_option linter.unusedVariables false

theorem ownBlock_ge {w : World} {base : Nat} {v : Value} {n : Nat} {xs : List Value} (h : w.ownsRow base 9 1 v n xs) {b : Nat} (hb : b < base) : some b ≠ v.ownBlock := fun e => by have := (h.lt b e.symm).1; omega
/-- A slice of texts whose block is another than the one that has turned. -/
theorem strs_grown {w w' : World} {a : Option Addr} {len cap : Nat} {xs : List ByteArray} {row : Option Nat} (h : IsStrs w a len cap xs) (hg : w.grownBy w' row) (hne : ∀ b o, a = some ⟨b, o, none⟩ → some b ≠ row) : IsStrs w' a len cap xs := by
  refine ⟨h.1, h.2.1, ?_⟩
  rcases h.2.2 with h0 | ⟨b, o, rfl, h1, h2, h3, h4, h5, h6⟩
  · exact .inl h0
  · exact .inr ⟨b, o, rfl, h1, h2, h3, h4, Nat.lt_of_lt_of_le h5 hg.size, fun j x hx => (World.cell?_of_block (w := w) (a := ⟨b, o + j, none⟩) (hg.block b h5 (hne b o rfl))).trans (h6 j x hx)⟩

set_option maxHeartbeats 1600000 in
theorem walk (a0 : ByteArray) (a1 : ByteArray) (w : World) (w0 : a0.size ≤ maxLen) (w1 : a1.size ≤ maxLen) :
    Calls Try.prog 4 #[.string a0, .string a1] w fun e w' => e = .returned (.bool true) ∧ Below w.heap.size w w' := by
  unfold maxLen at w0 w1
  by_cases h0 : 1048576 < a0.size
  · go_enter Try.func4, Try.ntmps4
    go_wp2
    go_ret
    exact ⟨rfl, Below.refl _ _⟩
  by_cases h1 : 1048576 < a1.size
  · go_enter Try.func4, Try.ntmps4
    go_wp2
    go_ret
    exact ⟨rfl, Below.refl _ _⟩
  obtain ⟨xs, hxs⟩ : ∃ xs, splitXs a0 a1 = xs := ⟨_, rfl⟩
  obtain ⟨ok, hok⟩ : ∃ ok, okSplit a0 a1 = ok := ⟨_, rfl⟩
  have hlen : xs.length ≤ 4001 := by rw [← hxs]; exact splitXs_len _ _
  have Z := Lib.hid (show ∀ x ∈ xs, x.size ≤ maxLen by rw [← hxs]; exact splitXs_small _ _)
  have XS := Lib.hid hxs
  have OK := Lib.hid hok
  clear hxs hok
  go_enter Try.func4, Try.ntmps4
  go_wp2_with fail
  refine (specSplit a0 a1 _ (by omega)).mono ?_
  rintro e wa ⟨v, rfl, hown, hba⟩
  rw [XS.out] at hown
  rw [OK.out]
  have hv0 := hown.lt
  obtain ⟨aa, ca, rfl, hia⟩ := isStrs_own hown Z.out
  have BA := Lib.hid hba
  have IA := Lib.hid hia
  have VA := Lib.hid hv0
  clear hown hia hba hv0
  go_wp2_with fail
  refine (implSplit a0 a1 _ (by omega)).mono ?_
  rintro e wb ⟨v, rfl, hown, hbb⟩
  rw [XS.out] at hown
  rw [OK.out]
  have RB := Lib.hid hown
  obtain ⟨ab, cb, rfl, hib⟩ := isStrs_own hown Z.out
  have IB := Lib.hid hib
  have IA1 := Lib.hid (IA.out.below hbb)
  have BB := Lib.hid (Below.then' BA.out hbb)
  have NE := Lib.hid (show ∀ b o, aa = some ⟨b, o, none⟩ → some b ≠ (Value.slice ab xs.length cb).ownBlock from fun b o e => by
    subst e
    exact ownBlock_ge RB.out ((VA.out b rfl).2))
  have hszb := hbb.size
  clear hown hib hbb
  go_wp2_with fail
  refine (eqStringS_any _ _ _ xs _ _ _ xs _ IB.out IA1.out rfl).mono ?_
  rintro e wc ⟨rfl, m, rfl⟩
  go_wp2_with fail
  refine (markStringS_any wa.heap.size _ xs.length 1 _ _ (ownsRow_below RB.out (bel_drawn _ _)) (by omega) (by omega)).mono ?_
  rintro e wd ⟨rfl, hmk, hgd⟩
  have MK := Lib.hid hmk
  have IA2 := Lib.hid (strs_grown (IA1.out.below (bel_drawn _ m)) hgd NE.out)
  have BD := Lib.hid ((Below.then' BB.out (bel_drawn _ m)).grown hgd (Nat.le_trans BB.out.size (bel_drawn wb m).size) (fun k e => Nat.le_trans BA.out.size ((RB.out.lt k e).1)))
  clear hmk hgd
  go_wp2_with fail
  refine (heldStringS_any wa.heap.size _ xs.length 1 _ MK.out (by omega) (by omega)).mono ?_
  rintro e we ⟨rfl, hbe⟩
  have MK2 := Lib.hid (ownsRow_below MK.out hbe)
  have IA3 := Lib.hid (IA2.out.below hbe)
  have BE := Lib.hid (Below.then' BD.out hbe)
  clear hbe
  go_wp2_with fail
  refine (implSplit a0 a1 _ (by omega)).mono ?_
  rintro e wf ⟨v, rfl, hown, hbf⟩
  rw [XS.out] at hown
  rw [OK.out]
  obtain ⟨af, cf, rfl, hif⟩ := isStrs_own hown Z.out
  have IF := Lib.hid hif
  have IA4 := Lib.hid (IA3.out.below hbf)
  have MK3 := Lib.hid (ownsRow_below MK2.out hbf)
  have BF := Lib.hid (Below.then' BE.out hbf)
  clear hown hif hbf
  go_wp2_with fail
  refine (eqStringS_any _ _ _ xs _ _ _ xs _ IF.out IA4.out rfl).mono ?_
  rintro e wg ⟨rfl, m2, rfl⟩
  go_wp2_with fail
  refine (heldStringS_any wa.heap.size _ xs.length 1 _ (ownsRow_below MK3.out (bel_drawn _ _)) (by omega) (by omega)).mono ?_
  rintro e wh ⟨rfl, hbh⟩
  have BH := Lib.hid (Below.then' (Below.then' BF.out (bel_drawn _ _)) hbh)
  clear hbh
  go_wp2
  go_ret
  exact ⟨rfl, BH.out⟩

theorem own : ownKnob Try.prog.godebug = none := by kernel_rfl
theorem laidOut : laidOutB Try.prog = true := by kernel_rfl
set_option maxRecDepth 100000 in
theorem lifted (os : Os) (started : os.Started) (H : Type) (enc : TypeId × Value → H) :
    ReturnsInHanded {} Try.checked os 4 .any (Rows.fnExactSplitStringSpec.pre6 enc Try.prog Try.f4 Rows.fnExactSplitStringRow.domain false) (Rows.fnExactSplitStringSpec.post enc Try.prog Try.f4 false true false false) := by
  refine returnsInHanded_of_change (C := Try.checked) own started (by kernel_rfl) Try.func4
    (ChangeSpec.witness6 (enc := enc) (C := Try.checked) false ⟨#[], #[.string ByteArray.empty, .string ByteArray.empty], []⟩ 8 (by kernel_rfl) (by kernel_rfl) (by kernel_rfl) (by kernel_rfl)) ?_
  intro W base args ds gs before hval0 hW hcnd _
  have hval : ∀ (j : Nat) t v, Try.f4.params[j]? = some t → args[j]? = some v → Value.okWide Try.prog W .any base t v := hval0
  have hW' := hW
  obtain ⟨p, q, hA0, hV, rfl, hfz, hnd⟩ := hW
  have hA : DataW.TrodAll enc Try.prog W 0 (fun _ => true) true Try.f4.params.toList args.toList ds p := hA0
  rw [Try.params4] at hA hval
  obtain ⟨v0, vs0, d0, ds0, p0, q0, hargs, rfl, rfl, h0, r0⟩ := trodAll_cons hA
  obtain ⟨v1, vs1, d1, ds1, p1, q1, rfl, rfl, rfl, h1, r1⟩ := trodAll_cons r0
  obtain ⟨rfl, rfl, rfl⟩ := trodAll_nil r1
  obtain rfl : args = #[v0, v1] := by cases args; simp_all
  obtain ⟨rfl, rfl⟩ := trodVars_none hV
  obtain ⟨a0, rfl, rfl, rfl, w0⟩ := open_string Try.underlying9 (hval 0 9 v0 rfl rfl) h0
  obtain ⟨a1, rfl, rfl, rfl, w1⟩ := open_string Try.underlying9 (hval 1 9 v1 rfl rfl) h1
  clear hA0 hval0
  refine (walk a0 a1 W w0 w1).mono fun e W' ⟨he, bel⟩ => ?_
  subst he
  exact ⟨_, rfl, _, _, _, [], _, [], hW', trodAll_mk1 (shut_bool Try.underlying4 _), (trodAll_cons_mk (shut_string Try.underlying9 w0) (trodAll_cons_mk (shut_string Try.underlying9 w1) trodAll_mk0)), rfl, bel.frame _, fun h => by cases h⟩
theorem over : Rows.fnExactSplitStringRow.holds Try.pinned (OpenSpec.ofChange Rows.fnExactSplitStringSpec) :=
  OpenClaim.holds_of_wide 4 Try.f4 rfl rfl rfl rfl rfl rfl rfl ⟨rfl, rfl, rfl, rfl, rfl⟩ rfl rfl rfl rfl rfl (by kernel_rfl) Try.func4 (by kernel_rfl)
    (of_decide_eq_true (by kernel_rfl)) (by unfold Func.isWrapper; first | (rw [if_pos (by decide +kernel)]; kernel_rfl) | (rw [if_neg (by decide +kernel)]; exact ⟨rfl, rfl⟩))
    (fun os started H enc _ => lifted os started H enc)
theorem proved : Rows.FnExactSplitStringSaid := over
#print axioms proved
end Go.Proofs.Ytmbmcnmippplaaa.fnExactSplitString
