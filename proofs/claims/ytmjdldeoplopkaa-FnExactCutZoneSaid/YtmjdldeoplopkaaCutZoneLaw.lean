/- FnExactCutZone: for every two zones the law returns true and leaves all as it was. No condition. -/
import Derived.Test.YtmjdldeoplopkaaRows
import Derived.Test.YtmjdldeoplopkaaZz3
import Derived.Test.YtmjdldeoplopkaaVars
import Derived.Test.YtmjdldeoplopkaaHeld
import Derived.ProofKit
import Derived.OpenShut
import Derived.ShutString
import Derived.ChangeOld
import Derived.Carry
namespace Go.Proofs.Ytmjdldeoplopkaa.fnExactCutZone
open Go.ChangeShapes Go.WideShapes Go.ChangeAt Go.RowKit
open Go.ChangeMaps (open_string shut_string)
set_option linter.unusedVariables false

theorem row_lt {w : World} {base : Nat} {e : TypeId} {size n : Nat} {v : Value} {xs : List Value} (h : w.ownsRow base e size v n xs) {b : Nat} (hb : b < base) : some b ≠ v.ownBlock := fun e => by have := (h.lt b e.symm).1; omega
set_option maxHeartbeats 25600000 in
set_option maxRecDepth 100000 in
theorem walk (a b : VZone) (w : World) :
    Calls Try.prog 12 #[.agg #[.int .i64 a.Id, .int .i64 a.West, .int .i64 a.South, .int .i64 a.East, .int .i64 a.North], .agg #[.int .i64 b.Id, .int .i64 b.West, .int .i64 b.South, .int .i64 b.East, .int .i64 b.North]] w fun e w' => e = .returned (.bool true) ∧ Below w.heap.size w w' := by
  have hq0 := CutZone_0_len a b
  obtain ⟨q0, hqq0⟩ : ∃ q, CutZone_0 a b = q := ⟨_, rfl⟩
  rw [hqq0] at hq0
  obtain ⟨q1, hqq1⟩ : ∃ q, CutZone_1 a b = q := ⟨_, rfl⟩
  have Q0 := Lib.hid hqq0
  have Q1 := Lib.hid hqq1
  clear hqq0 hqq1
  have XA := Lib.hid ((BoxZone.new w 48 a _ rfl).below (bel_al1 _ (.cells #[.int .i64 b.Id, .int .i64 b.West, .int .i64 b.South, .int .i64 b.East, .int .i64 b.North] 48)))
  have XB := Lib.hid (BoxZone.new (w.alloc (.cells #[.int .i64 a.Id, .int .i64 a.West, .int .i64 a.South, .int .i64 a.East, .int .i64 a.North] 48)) 48 b (w.heap.size + 1) (size_al _ _))
  have B0 := Lib.hid (bel_al2 w (.cells #[.int .i64 a.Id, .int .i64 a.West, .int .i64 a.South, .int .i64 a.East, .int .i64 a.North] 48) (.cells #[.int .i64 b.Id, .int .i64 b.West, .int .i64 b.South, .int .i64 b.East, .int .i64 b.North] 48))
  go_enter Try.func12, Try.ntmps12
  go_wp2
  refine wp_world (fun W => Below w.heap.size w W ∧ BoxZone W w.heap.size a ∧ BoxZone W (w.heap.size + 1) b) ⟨B0.out, XA.out, XB.out⟩ ?_
  rintro W ⟨hb0, xa, xb⟩
  have BW := Lib.hid hb0
  have XAW := Lib.hid xa
  have XBW := Lib.hid xb
  clear hb0 xa xb XA XB B0
  have KD := Lib.hid (show Below W.heap.size W W.drew ∧ W.drew.cell? ⟨w.heap.size, 0, none⟩ = some (.int .i64 a.Id) ∧ W.drew.cell? ⟨w.heap.size, 1, none⟩ = some (.int .i64 a.West) ∧ W.drew.cell? ⟨w.heap.size, 2, none⟩ = some (.int .i64 a.South) ∧ W.drew.cell? ⟨w.heap.size, 3, none⟩ = some (.int .i64 a.East) ∧ W.drew.cell? ⟨w.heap.size, 4, none⟩ = some (.int .i64 a.North) ∧ W.drew.cell? ⟨w.heap.size + 1, 0, none⟩ = some (.int .i64 b.Id) ∧ W.drew.cell? ⟨w.heap.size + 1, 1, none⟩ = some (.int .i64 b.West) ∧ W.drew.cell? ⟨w.heap.size + 1, 2, none⟩ = some (.int .i64 b.South) ∧ W.drew.cell? ⟨w.heap.size + 1, 3, none⟩ = some (.int .i64 b.East) ∧ W.drew.cell? ⟨w.heap.size + 1, 4, none⟩ = some (.int .i64 b.North) from by
    obtain ⟨c0, c1, c2, c3, c4⟩ := XAW.out
    obtain ⟨e0, e1, e2, e3, e4⟩ := XBW.out
    exact ⟨(Below.refl _ _).drew, c0, c1, c2, c3, c4, e0, e1, e2, e3, e4⟩)
  have KP := Lib.hid (show ∀ u1 u2 : World, (Below W.heap.size W u1 ∧ u1.cell? ⟨w.heap.size, 0, none⟩ = some (.int .i64 a.Id) ∧ u1.cell? ⟨w.heap.size, 1, none⟩ = some (.int .i64 a.West) ∧ u1.cell? ⟨w.heap.size, 2, none⟩ = some (.int .i64 a.South) ∧ u1.cell? ⟨w.heap.size, 3, none⟩ = some (.int .i64 a.East) ∧ u1.cell? ⟨w.heap.size, 4, none⟩ = some (.int .i64 a.North) ∧ u1.cell? ⟨w.heap.size + 1, 0, none⟩ = some (.int .i64 b.Id) ∧ u1.cell? ⟨w.heap.size + 1, 1, none⟩ = some (.int .i64 b.West) ∧ u1.cell? ⟨w.heap.size + 1, 2, none⟩ = some (.int .i64 b.South) ∧ u1.cell? ⟨w.heap.size + 1, 3, none⟩ = some (.int .i64 b.East) ∧ u1.cell? ⟨w.heap.size + 1, 4, none⟩ = some (.int .i64 b.North)) → Below u1.heap.size u1 u2 → (Below W.heap.size W u2 ∧ u2.cell? ⟨w.heap.size, 0, none⟩ = some (.int .i64 a.Id) ∧ u2.cell? ⟨w.heap.size, 1, none⟩ = some (.int .i64 a.West) ∧ u2.cell? ⟨w.heap.size, 2, none⟩ = some (.int .i64 a.South) ∧ u2.cell? ⟨w.heap.size, 3, none⟩ = some (.int .i64 a.East) ∧ u2.cell? ⟨w.heap.size, 4, none⟩ = some (.int .i64 a.North) ∧ u2.cell? ⟨w.heap.size + 1, 0, none⟩ = some (.int .i64 b.Id) ∧ u2.cell? ⟨w.heap.size + 1, 1, none⟩ = some (.int .i64 b.West) ∧ u2.cell? ⟨w.heap.size + 1, 2, none⟩ = some (.int .i64 b.South) ∧ u2.cell? ⟨w.heap.size + 1, 3, none⟩ = some (.int .i64 b.East) ∧ u2.cell? ⟨w.heap.size + 1, 4, none⟩ = some (.int .i64 b.North)) from by
    rintro u1 u2 ⟨h0, c0, c1, c2, c3, c4, e0, e1, e2, e3, e4⟩ hb
    exact ⟨Below.then' h0 hb, cell_stay c0 hb, cell_stay c1 hb, cell_stay c2 hb, cell_stay c3 hb, cell_stay c4 hb, cell_stay e0 hb, cell_stay e1 hb, cell_stay e2 hb, cell_stay e3 hb, cell_stay e4 hb⟩)
  have KS := Lib.hid (show ∀ u1 : World, (Below W.heap.size W u1 ∧ u1.cell? ⟨w.heap.size, 0, none⟩ = some (.int .i64 a.Id) ∧ u1.cell? ⟨w.heap.size, 1, none⟩ = some (.int .i64 a.West) ∧ u1.cell? ⟨w.heap.size, 2, none⟩ = some (.int .i64 a.South) ∧ u1.cell? ⟨w.heap.size, 3, none⟩ = some (.int .i64 a.East) ∧ u1.cell? ⟨w.heap.size, 4, none⟩ = some (.int .i64 a.North) ∧ u1.cell? ⟨w.heap.size + 1, 0, none⟩ = some (.int .i64 b.Id) ∧ u1.cell? ⟨w.heap.size + 1, 1, none⟩ = some (.int .i64 b.West) ∧ u1.cell? ⟨w.heap.size + 1, 2, none⟩ = some (.int .i64 b.South) ∧ u1.cell? ⟨w.heap.size + 1, 3, none⟩ = some (.int .i64 b.East) ∧ u1.cell? ⟨w.heap.size + 1, 4, none⟩ = some (.int .i64 b.North)) → W.heap.size ≤ u1.heap.size from fun u1 h => h.1.size)
  go_region_held3 (fun w' => Below W.heap.size W w' ∧ w'.cell? ⟨w.heap.size, 0, none⟩ = some (.int .i64 a.Id) ∧ w'.cell? ⟨w.heap.size, 1, none⟩ = some (.int .i64 a.West) ∧ w'.cell? ⟨w.heap.size, 2, none⟩ = some (.int .i64 a.South) ∧ w'.cell? ⟨w.heap.size, 3, none⟩ = some (.int .i64 a.East) ∧ w'.cell? ⟨w.heap.size, 4, none⟩ = some (.int .i64 a.North) ∧ w'.cell? ⟨w.heap.size + 1, 0, none⟩ = some (.int .i64 b.Id) ∧ w'.cell? ⟨w.heap.size + 1, 1, none⟩ = some (.int .i64 b.West) ∧ w'.cell? ⟨w.heap.size + 1, 2, none⟩ = some (.int .i64 b.South) ∧ w'.cell? ⟨w.heap.size + 1, 3, none⟩ = some (.int .i64 b.East) ∧ w'.cell? ⟨w.heap.size + 1, 4, none⟩ = some (.int .i64 b.North))
    (first | exact KD.out | exact KP.out _ _ (by assumption) (by assumption))
    (first | (go_at_call 31; refine (toZone_any _ _).mono ?_; rintro e w' ⟨rfl, hb⟩) | (go_at_call 17; have hks := KS.out _ (by assumption); refine (specCutZone_any a b _).mono ?_; rintro e w' ⟨v0, rfl, hown0, hb⟩; have hown := ownsRow_base hown0 hks; clear hown0 hks))
  rename_i HH
  rw [Q0.out] at hown
  obtain ⟨u1, rfl⟩ : ∃ u : World, u = w' := ⟨_, rfl⟩
  have BU := Lib.hid (Below.then' BW.out HH.1)
  have XAu := Lib.hid (XAW.out.below HH.1)
  have XBu := Lib.hid (XBW.out.below HH.1)
  obtain ⟨wa, wc, rfl, his, hk⟩ := isIntA4S_own hown
  have WI := Lib.hid his
  have WK := Lib.hid (show ∀ b o, wa = some ⟨b, o, none⟩ → b < u1.heap.size from fun b o e => (hown.lt b (hk b o e)).2)
  clear HH KD KP KS hown hb his hk
  rw [Q1.out]
  go_wp2
  refine wp_world (fun W => Below u1.heap.size u1 W) (Below.refl _ _) ?_
  intro V hbv
  have BV := Lib.hid (Below.then' BU.out hbv)
  have XAV := Lib.hid (XAu.out.below hbv)
  have XBV := Lib.hid (XBu.out.below hbv)
  have WV := Lib.hid (WI.out.below hbv)
  have s1 := hbv.size
  clear hbv
  have KD := Lib.hid (show Below V.heap.size V V.drew ∧ V.drew.cell? ⟨w.heap.size, 0, none⟩ = some (.int .i64 a.Id) ∧ V.drew.cell? ⟨w.heap.size, 1, none⟩ = some (.int .i64 a.West) ∧ V.drew.cell? ⟨w.heap.size, 2, none⟩ = some (.int .i64 a.South) ∧ V.drew.cell? ⟨w.heap.size, 3, none⟩ = some (.int .i64 a.East) ∧ V.drew.cell? ⟨w.heap.size, 4, none⟩ = some (.int .i64 a.North) ∧ V.drew.cell? ⟨w.heap.size + 1, 0, none⟩ = some (.int .i64 b.Id) ∧ V.drew.cell? ⟨w.heap.size + 1, 1, none⟩ = some (.int .i64 b.West) ∧ V.drew.cell? ⟨w.heap.size + 1, 2, none⟩ = some (.int .i64 b.South) ∧ V.drew.cell? ⟨w.heap.size + 1, 3, none⟩ = some (.int .i64 b.East) ∧ V.drew.cell? ⟨w.heap.size + 1, 4, none⟩ = some (.int .i64 b.North) from by
    obtain ⟨c0, c1, c2, c3, c4⟩ := XAV.out
    obtain ⟨e0, e1, e2, e3, e4⟩ := XBV.out
    exact ⟨(Below.refl _ _).drew, c0, c1, c2, c3, c4, e0, e1, e2, e3, e4⟩)
  have KP := Lib.hid (show ∀ u1 u2 : World, (Below V.heap.size V u1 ∧ u1.cell? ⟨w.heap.size, 0, none⟩ = some (.int .i64 a.Id) ∧ u1.cell? ⟨w.heap.size, 1, none⟩ = some (.int .i64 a.West) ∧ u1.cell? ⟨w.heap.size, 2, none⟩ = some (.int .i64 a.South) ∧ u1.cell? ⟨w.heap.size, 3, none⟩ = some (.int .i64 a.East) ∧ u1.cell? ⟨w.heap.size, 4, none⟩ = some (.int .i64 a.North) ∧ u1.cell? ⟨w.heap.size + 1, 0, none⟩ = some (.int .i64 b.Id) ∧ u1.cell? ⟨w.heap.size + 1, 1, none⟩ = some (.int .i64 b.West) ∧ u1.cell? ⟨w.heap.size + 1, 2, none⟩ = some (.int .i64 b.South) ∧ u1.cell? ⟨w.heap.size + 1, 3, none⟩ = some (.int .i64 b.East) ∧ u1.cell? ⟨w.heap.size + 1, 4, none⟩ = some (.int .i64 b.North)) → Below u1.heap.size u1 u2 → (Below V.heap.size V u2 ∧ u2.cell? ⟨w.heap.size, 0, none⟩ = some (.int .i64 a.Id) ∧ u2.cell? ⟨w.heap.size, 1, none⟩ = some (.int .i64 a.West) ∧ u2.cell? ⟨w.heap.size, 2, none⟩ = some (.int .i64 a.South) ∧ u2.cell? ⟨w.heap.size, 3, none⟩ = some (.int .i64 a.East) ∧ u2.cell? ⟨w.heap.size, 4, none⟩ = some (.int .i64 a.North) ∧ u2.cell? ⟨w.heap.size + 1, 0, none⟩ = some (.int .i64 b.Id) ∧ u2.cell? ⟨w.heap.size + 1, 1, none⟩ = some (.int .i64 b.West) ∧ u2.cell? ⟨w.heap.size + 1, 2, none⟩ = some (.int .i64 b.South) ∧ u2.cell? ⟨w.heap.size + 1, 3, none⟩ = some (.int .i64 b.East) ∧ u2.cell? ⟨w.heap.size + 1, 4, none⟩ = some (.int .i64 b.North)) from by
    rintro u1 u2 ⟨h0, c0, c1, c2, c3, c4, e0, e1, e2, e3, e4⟩ hb
    exact ⟨Below.then' h0 hb, cell_stay c0 hb, cell_stay c1 hb, cell_stay c2 hb, cell_stay c3 hb, cell_stay c4 hb, cell_stay e0 hb, cell_stay e1 hb, cell_stay e2 hb, cell_stay e3 hb, cell_stay e4 hb⟩)
  have KS := Lib.hid (show ∀ u1 : World, (Below V.heap.size V u1 ∧ u1.cell? ⟨w.heap.size, 0, none⟩ = some (.int .i64 a.Id) ∧ u1.cell? ⟨w.heap.size, 1, none⟩ = some (.int .i64 a.West) ∧ u1.cell? ⟨w.heap.size, 2, none⟩ = some (.int .i64 a.South) ∧ u1.cell? ⟨w.heap.size, 3, none⟩ = some (.int .i64 a.East) ∧ u1.cell? ⟨w.heap.size, 4, none⟩ = some (.int .i64 a.North) ∧ u1.cell? ⟨w.heap.size + 1, 0, none⟩ = some (.int .i64 b.Id) ∧ u1.cell? ⟨w.heap.size + 1, 1, none⟩ = some (.int .i64 b.West) ∧ u1.cell? ⟨w.heap.size + 1, 2, none⟩ = some (.int .i64 b.South) ∧ u1.cell? ⟨w.heap.size + 1, 3, none⟩ = some (.int .i64 b.East) ∧ u1.cell? ⟨w.heap.size + 1, 4, none⟩ = some (.int .i64 b.North)) → V.heap.size ≤ u1.heap.size from fun u1 h => h.1.size)
  go_region_held3 (fun w' => Below V.heap.size V w' ∧ w'.cell? ⟨w.heap.size, 0, none⟩ = some (.int .i64 a.Id) ∧ w'.cell? ⟨w.heap.size, 1, none⟩ = some (.int .i64 a.West) ∧ w'.cell? ⟨w.heap.size, 2, none⟩ = some (.int .i64 a.South) ∧ w'.cell? ⟨w.heap.size, 3, none⟩ = some (.int .i64 a.East) ∧ w'.cell? ⟨w.heap.size, 4, none⟩ = some (.int .i64 a.North) ∧ w'.cell? ⟨w.heap.size + 1, 0, none⟩ = some (.int .i64 b.Id) ∧ w'.cell? ⟨w.heap.size + 1, 1, none⟩ = some (.int .i64 b.West) ∧ w'.cell? ⟨w.heap.size + 1, 2, none⟩ = some (.int .i64 b.South) ∧ w'.cell? ⟨w.heap.size + 1, 3, none⟩ = some (.int .i64 b.East) ∧ w'.cell? ⟨w.heap.size + 1, 4, none⟩ = some (.int .i64 b.North))
    (first | exact KD.out | exact KP.out _ _ (by assumption) (by assumption))
    (first | (go_at_call 31; refine (toZone_any _ _).mono ?_; rintro e w' ⟨rfl, hb⟩) | (go_at_call 16; have hks := KS.out _ (by assumption); refine (implCutZone_any a b _).mono ?_; rintro e w' ⟨v0, rfl, hown0, hb⟩; have hown := ownsRow_base hown0 hks; clear hown0 hks))
  rename_i HH
  rw [Q0.out] at hown
  obtain ⟨u2, rfl⟩ : ∃ u : World, u = w' := ⟨_, rfl⟩
  have B2 := Lib.hid (Below.then' BV.out HH.1)
  have XA2 := Lib.hid (XAV.out.below HH.1)
  have XB2 := Lib.hid (XBV.out.below HH.1)
  have W2 := Lib.hid (WV.out.below HH.1)
  obtain ⟨ga, gc, rfl, his, hk⟩ := isIntA4S_own hown
  have GI := Lib.hid his
  have GO := Lib.hid hown
  have s2 := HH.1.size
  clear HH KD KP KS hown hb his hk
  rw [Q1.out]
  go_wp2_with fail
  refine (eqIntA4S_yes _ _ _ _ _ _ q0 _ GI.out W2.out).mono ?_
  rintro e w3 ⟨rfl, hb⟩
  have B3 := Lib.hid (Below.then' B2.out hb)
  have XA3 := Lib.hid (XA2.out.below hb)
  have XB3 := Lib.hid (XB2.out.below hb)
  have W3 := Lib.hid (W2.out.below hb)
  have G3 := Lib.hid (ownsRow_below GO.out hb)
  have s3 := hb.size
  clear hb
  go_wp2_with fail
  refine (markIntA4S_any V.heap.size _ q0.length 1 _ _ G3.out (by omega) (by omega) (by omega)).mono ?_
  rintro e w4 ⟨rfl, hm, hg⟩
  have B4 := Lib.hid (B3.out.grown hg B3.out.size (fun k e => Nat.le_trans BV.out.size (G3.out.lt k e).1))
  have XA4 := Lib.hid (XA3.out.grown hg (row_lt G3.out XAV.out.lt))
  have XB4 := Lib.hid (XB3.out.grown hg (row_lt G3.out XBV.out.lt))
  have W4 := Lib.hid (W3.out.grown hg (fun b o e => row_lt G3.out (Nat.lt_of_lt_of_le (WK.out b o e) s1)))
  have G4 := Lib.hid (show IsIntA4S w4 ga q0.length gc (marksIntA4 1 q0.length) from by
    obtain ⟨a', c', e', hi', _⟩ := isIntA4S_own (xs := marksIntA4 1 q0.length) (by simpa [marksIntA4_len] using hm)
    rw [marksIntA4_len] at e' hi'
    cases e'
    exact hi')
  have s4 := hg.size
  clear hm hg
  go_wp2_with fail
  refine (heldIntA4S_any _ _ _ 1 _ G4.out (by omega) (by omega) (by omega)).mono ?_
  rintro e w5 ⟨rfl, hb⟩
  have B5 := Lib.hid (Below.then' B4.out hb)
  have XA5 := Lib.hid (XA4.out.below hb)
  have XB5 := Lib.hid (XB4.out.below hb)
  have W5 := Lib.hid (W4.out.below hb)
  have G5 := Lib.hid (G4.out.below hb)
  clear hb
  go_wp2
  refine wp_world (fun W => Below w5.heap.size w5 W) (Below.refl _ _) ?_
  intro U hbu
  have BU' := Lib.hid (Below.then' B5.out hbu)
  have XAU := Lib.hid (XA5.out.below hbu)
  have XBU := Lib.hid (XB5.out.below hbu)
  have WU := Lib.hid (W5.out.below hbu)
  have GU := Lib.hid (G5.out.below hbu)
  clear hbu
  have KD := Lib.hid (show Below U.heap.size U U.drew ∧ U.drew.cell? ⟨w.heap.size, 0, none⟩ = some (.int .i64 a.Id) ∧ U.drew.cell? ⟨w.heap.size, 1, none⟩ = some (.int .i64 a.West) ∧ U.drew.cell? ⟨w.heap.size, 2, none⟩ = some (.int .i64 a.South) ∧ U.drew.cell? ⟨w.heap.size, 3, none⟩ = some (.int .i64 a.East) ∧ U.drew.cell? ⟨w.heap.size, 4, none⟩ = some (.int .i64 a.North) ∧ U.drew.cell? ⟨w.heap.size + 1, 0, none⟩ = some (.int .i64 b.Id) ∧ U.drew.cell? ⟨w.heap.size + 1, 1, none⟩ = some (.int .i64 b.West) ∧ U.drew.cell? ⟨w.heap.size + 1, 2, none⟩ = some (.int .i64 b.South) ∧ U.drew.cell? ⟨w.heap.size + 1, 3, none⟩ = some (.int .i64 b.East) ∧ U.drew.cell? ⟨w.heap.size + 1, 4, none⟩ = some (.int .i64 b.North) from by
    obtain ⟨c0, c1, c2, c3, c4⟩ := XAU.out
    obtain ⟨e0, e1, e2, e3, e4⟩ := XBU.out
    exact ⟨(Below.refl _ _).drew, c0, c1, c2, c3, c4, e0, e1, e2, e3, e4⟩)
  have KP := Lib.hid (show ∀ u1 u2 : World, (Below U.heap.size U u1 ∧ u1.cell? ⟨w.heap.size, 0, none⟩ = some (.int .i64 a.Id) ∧ u1.cell? ⟨w.heap.size, 1, none⟩ = some (.int .i64 a.West) ∧ u1.cell? ⟨w.heap.size, 2, none⟩ = some (.int .i64 a.South) ∧ u1.cell? ⟨w.heap.size, 3, none⟩ = some (.int .i64 a.East) ∧ u1.cell? ⟨w.heap.size, 4, none⟩ = some (.int .i64 a.North) ∧ u1.cell? ⟨w.heap.size + 1, 0, none⟩ = some (.int .i64 b.Id) ∧ u1.cell? ⟨w.heap.size + 1, 1, none⟩ = some (.int .i64 b.West) ∧ u1.cell? ⟨w.heap.size + 1, 2, none⟩ = some (.int .i64 b.South) ∧ u1.cell? ⟨w.heap.size + 1, 3, none⟩ = some (.int .i64 b.East) ∧ u1.cell? ⟨w.heap.size + 1, 4, none⟩ = some (.int .i64 b.North)) → Below u1.heap.size u1 u2 → (Below U.heap.size U u2 ∧ u2.cell? ⟨w.heap.size, 0, none⟩ = some (.int .i64 a.Id) ∧ u2.cell? ⟨w.heap.size, 1, none⟩ = some (.int .i64 a.West) ∧ u2.cell? ⟨w.heap.size, 2, none⟩ = some (.int .i64 a.South) ∧ u2.cell? ⟨w.heap.size, 3, none⟩ = some (.int .i64 a.East) ∧ u2.cell? ⟨w.heap.size, 4, none⟩ = some (.int .i64 a.North) ∧ u2.cell? ⟨w.heap.size + 1, 0, none⟩ = some (.int .i64 b.Id) ∧ u2.cell? ⟨w.heap.size + 1, 1, none⟩ = some (.int .i64 b.West) ∧ u2.cell? ⟨w.heap.size + 1, 2, none⟩ = some (.int .i64 b.South) ∧ u2.cell? ⟨w.heap.size + 1, 3, none⟩ = some (.int .i64 b.East) ∧ u2.cell? ⟨w.heap.size + 1, 4, none⟩ = some (.int .i64 b.North)) from by
    rintro u1 u2 ⟨h0, c0, c1, c2, c3, c4, e0, e1, e2, e3, e4⟩ hb
    exact ⟨Below.then' h0 hb, cell_stay c0 hb, cell_stay c1 hb, cell_stay c2 hb, cell_stay c3 hb, cell_stay c4 hb, cell_stay e0 hb, cell_stay e1 hb, cell_stay e2 hb, cell_stay e3 hb, cell_stay e4 hb⟩)
  have KS := Lib.hid (show ∀ u1 : World, (Below U.heap.size U u1 ∧ u1.cell? ⟨w.heap.size, 0, none⟩ = some (.int .i64 a.Id) ∧ u1.cell? ⟨w.heap.size, 1, none⟩ = some (.int .i64 a.West) ∧ u1.cell? ⟨w.heap.size, 2, none⟩ = some (.int .i64 a.South) ∧ u1.cell? ⟨w.heap.size, 3, none⟩ = some (.int .i64 a.East) ∧ u1.cell? ⟨w.heap.size, 4, none⟩ = some (.int .i64 a.North) ∧ u1.cell? ⟨w.heap.size + 1, 0, none⟩ = some (.int .i64 b.Id) ∧ u1.cell? ⟨w.heap.size + 1, 1, none⟩ = some (.int .i64 b.West) ∧ u1.cell? ⟨w.heap.size + 1, 2, none⟩ = some (.int .i64 b.South) ∧ u1.cell? ⟨w.heap.size + 1, 3, none⟩ = some (.int .i64 b.East) ∧ u1.cell? ⟨w.heap.size + 1, 4, none⟩ = some (.int .i64 b.North)) → U.heap.size ≤ u1.heap.size from fun u1 h => h.1.size)
  go_region_held3 (fun w' => Below U.heap.size U w' ∧ w'.cell? ⟨w.heap.size, 0, none⟩ = some (.int .i64 a.Id) ∧ w'.cell? ⟨w.heap.size, 1, none⟩ = some (.int .i64 a.West) ∧ w'.cell? ⟨w.heap.size, 2, none⟩ = some (.int .i64 a.South) ∧ w'.cell? ⟨w.heap.size, 3, none⟩ = some (.int .i64 a.East) ∧ w'.cell? ⟨w.heap.size, 4, none⟩ = some (.int .i64 a.North) ∧ w'.cell? ⟨w.heap.size + 1, 0, none⟩ = some (.int .i64 b.Id) ∧ w'.cell? ⟨w.heap.size + 1, 1, none⟩ = some (.int .i64 b.West) ∧ w'.cell? ⟨w.heap.size + 1, 2, none⟩ = some (.int .i64 b.South) ∧ w'.cell? ⟨w.heap.size + 1, 3, none⟩ = some (.int .i64 b.East) ∧ w'.cell? ⟨w.heap.size + 1, 4, none⟩ = some (.int .i64 b.North))
    (first | exact KD.out | exact KP.out _ _ (by assumption) (by assumption))
    (first | (go_at_call 31; refine (toZone_any _ _).mono ?_; rintro e w' ⟨rfl, hb⟩) | (go_at_call 16; have hks := KS.out _ (by assumption); refine (implCutZone_any a b _).mono ?_; rintro e w' ⟨v0, rfl, hown0, hb⟩; have hown := ownsRow_base hown0 hks; clear hown0 hks))
  rename_i HH
  rw [Q0.out] at hown
  obtain ⟨u6, rfl⟩ : ∃ u : World, u = w' := ⟨_, rfl⟩
  have B6 := Lib.hid (Below.then' BU'.out HH.1)
  have W6 := Lib.hid (WU.out.below HH.1)
  have G6 := Lib.hid (GU.out.below HH.1)
  obtain ⟨ha, hc, rfl, his, hk⟩ := isIntA4S_own hown
  have HI := Lib.hid his
  clear HH KD KP KS hown hb his hk
  rw [Q1.out]
  go_wp2_with fail
  refine (eqIntA4S_yes _ _ _ _ _ _ q0 _ HI.out W6.out).mono ?_
  rintro e w7 ⟨rfl, hb⟩
  have B7 := Lib.hid (Below.then' B6.out hb)
  have G7 := Lib.hid (G6.out.below hb)
  clear hb
  go_wp2_with fail
  refine (heldIntA4S_any _ _ _ 1 _ G7.out (by omega) (by omega) (by omega)).mono ?_
  rintro e w8 ⟨rfl, hb⟩
  have B8 := Lib.hid (Below.then' B7.out hb)
  clear hb
  go_wp2
  go_ret
  exact ⟨rfl, B8.out⟩

theorem own : ownKnob Try.prog.godebug = none := by kernel_rfl
theorem laidOut : laidOutB Try.prog = true := by kernel_rfl
set_option maxRecDepth 100000 in
theorem lifted (os : Os) (started : os.Started) (H : Type) (enc : TypeId × Value → H) :
    ReturnsInHanded {} Try.checked os 12 .any (Rows.fnExactCutZoneSpec.pre6 enc Try.prog Try.f12 Rows.fnExactCutZoneRow.domain false) (Rows.fnExactCutZoneSpec.post enc Try.prog Try.f12 false true false false) := by
  refine returnsInHanded_of_change (C := Try.checked) own started (by kernel_rfl) Try.func12
    (ChangeSpec.witness6 (enc := enc) (C := Try.checked) false ⟨#[], #[.agg #[.int .i64 0, .int .i64 0, .int .i64 0, .int .i64 0, .int .i64 0], .agg #[.int .i64 0, .int .i64 0, .int .i64 0, .int .i64 0, .int .i64 0]], []⟩ 8 (by kernel_rfl) (by kernel_rfl) (by kernel_rfl) (by kernel_rfl)) ?_
  intro W base args ds gs before hval0 hW hcnd _
  have hval : ∀ (j : Nat) t v, Try.f12.params[j]? = some t → args[j]? = some v → Value.okWide Try.prog W .any base t v := hval0
  have hW' := hW
  obtain ⟨p, q, hA0, hV, rfl, hfz, hnd⟩ := hW
  have hA : DataW.TrodAll enc Try.prog W 0 (fun _ => true) true Try.f12.params.toList args.toList ds p := hA0
  rw [Try.params12] at hA hval
  obtain ⟨v0, vs0, d0, ds0, p0, q0, hargs, rfl, rfl, h0, r0⟩ := trodAll_cons hA
  obtain ⟨v1, vs1, d1, ds1, p1, q1, rfl, rfl, rfl, h1, r1⟩ := trodAll_cons r0
  obtain ⟨rfl, rfl, rfl⟩ := trodAll_nil r1
  obtain rfl : args = #[v0, v1] := by cases args; simp_all
  obtain ⟨rfl, rfl⟩ := trodVars_none hV
  have k0 := h0
  have lt0 : ∀ x ∈ p0, x.block < W.heap.size := by obtain ⟨m, hm⟩ := k0; exact DataW.trod_lt m _ _ _ hm
  obtain ⟨a0, rfl⟩ := open_Zone (hval 0 48 v0 rfl rfl) h0
  have k1 := h1
  have lt1 : ∀ x ∈ p1, x.block < W.heap.size := by obtain ⟨m, hm⟩ := k1; exact DataW.trod_lt m _ _ _ hm
  obtain ⟨a1, rfl⟩ := open_Zone (hval 1 48 v1 rfl rfl) h1
  clear hA0 hval0
  refine (walk a0 a1 W ).mono fun e W' ⟨he, bel⟩ => ?_
  subst he
  exact ⟨_, rfl, _, _, _, [], _, [], hW', trodAll_mk1 (shut_bool Try.underlying4 _), (trodAll_cons_mk (Below.trod laidOut (by kernel_rfl) (of_decide_eq_true (by kernel_rfl)) k0 bel lt0) (trodAll_cons_mk (Below.trod laidOut (by kernel_rfl) (of_decide_eq_true (by kernel_rfl)) k1 bel lt1) trodAll_mk0)), rfl, bel.frame _, fun h => by cases h⟩
theorem over : Rows.fnExactCutZoneRow.holds Try.pinned (OpenSpec.ofChange Rows.fnExactCutZoneSpec) :=
  OpenClaim.holds_of_wide 12 Try.f12 rfl rfl rfl rfl rfl rfl rfl ⟨rfl, rfl, rfl, rfl, rfl⟩ rfl rfl rfl rfl rfl (by kernel_rfl) Try.func12 (by kernel_rfl)
    (of_decide_eq_true (by kernel_rfl)) (by unfold Func.isWrapper; first | (rw [if_pos (by decide +kernel)]; kernel_rfl) | (rw [if_neg (by decide +kernel)]; exact ⟨rfl, rfl⟩))
    (fun os started H enc _ => lifted os started H enc)
theorem proved : Rows.FnExactCutZoneSaid := over
#print axioms proved
end Go.Proofs.Ytmjdldeoplopkaa.fnExactCutZone
