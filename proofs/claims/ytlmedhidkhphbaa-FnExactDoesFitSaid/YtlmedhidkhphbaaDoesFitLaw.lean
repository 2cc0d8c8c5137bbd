/- FnExactDoesFit: for every flat and every drawer the law returns true and leaves all as it was. No condition. -/
import Derived.Test.YtlmedhidkhphbaaRows
import Derived.Test.YtlmedhidkhphbaaDof
import Derived.Test.YtlmedhidkhphbaaVars
import Derived.Test.YtlmedhidkhphbaaHeld
import Derived.ProofKit
import Derived.OpenShut
import Derived.ShutString
import Derived.ChangeOld
import Derived.Carry
import Derived.Deep.RegionHeld3
namespace Go.Proofs.Ytlmedhidkhphbaa.fnExactDoesFit
open Go.ChangeShapes Go.WideShapes Go.ChangeAt Go.RowKit
open Go.ChangeMaps (open_string shut_string)
set_option linter.unusedVariables false

set_option maxHeartbeats 12800000 in
set_option maxRecDepth 100000 in
theorem walk (f : VFlat) (x : VDrawer) (h : Hd) (w : World) (hi : IsInts w h.a h.n h.c x.Flats) :
    Calls Try.prog 6 #[.agg #[.int .i64 f.Id, .int .i64 f.Wide, .int .i64 f.High, .int .i64 f.Grams], .agg #[.int .i64 x.Id, .int .i64 x.Wide, .int .i64 x.High, .int .i64 x.Holds, .slice h.a h.n h.c]] w fun e w' => e = .returned (.bool true) ∧ Below w.heap.size w w' := by
  have b2 := bel_al2 w (.cells #[.int .i64 f.Id, .int .i64 f.Wide, .int .i64 f.High, .int .i64 f.Grams] 58) (.cells #[.int .i64 x.Id, .int .i64 x.Wide, .int .i64 x.High, .int .i64 x.Holds, .slice h.a h.n h.c] 59)
  have HI := Lib.hid (hi.below b2)
  have XF := Lib.hid ((BoxFlat.new w 58 f _ rfl).below (bel_al1 _ (.cells #[.int .i64 x.Id, .int .i64 x.Wide, .int .i64 x.High, .int .i64 x.Holds, .slice h.a h.n h.c] 59)))
  have XD := Lib.hid (BoxDrawer.new (w.alloc (.cells #[.int .i64 f.Id, .int .i64 f.Wide, .int .i64 f.High, .int .i64 f.Grams] 58)) 59 ⟨x, h⟩ (w.heap.size + 1) (size_al _ _))
  have B0 := Lib.hid b2
  clear b2 hi
  obtain ⟨q0, hq0⟩ : ∃ q, DoesFit_0 f x = q := ⟨_, rfl⟩
  obtain ⟨q1, hq1⟩ : ∃ q, DoesFit_1 f x = q := ⟨_, rfl⟩
  have Q0 := Lib.hid hq0
  have Q1 := Lib.hid hq1
  clear hq0 hq1
  go_enter Try.func6, Try.ntmps6
  go_wp2_with fail
  refine (szDrawer_any x h _ _ HI.out (by omega) (by omega)).mono ?_
  rintro e w1 ⟨⟨z, rfl, hz⟩, hb⟩
  have B1 := Lib.hid (Below.then' B0.out hb)
  have HI1 := Lib.hid (HI.out.below hb)
  have XF1 := Lib.hid (XF.out.below hb)
  have XD1 := Lib.hid (XD.out.below hb)
  have HZ := Lib.hid hz
  clear hb hz
  by_cases hneg : z < 0
  · go_wp2
    go_ret
    exact ⟨rfl, B1.out⟩
  have hl : x.Flats.length ≤ 1048576 := by rcases HZ.out with h | h <;> omega
  go_wp2
  refine wp_world (fun W => Below w.heap.size w W ∧ IsInts W h.a h.n h.c x.Flats ∧ BoxFlat W w.heap.size f ∧ BoxDrawer W (w.heap.size + 1) ⟨x, h⟩) ⟨B1.out, HI1.out, XF1.out, XD1.out⟩ ?_
  rintro W ⟨hb1, hi1, xf, xd⟩
  have BW := Lib.hid hb1
  have IW := Lib.hid hi1
  have XFW := Lib.hid xf
  have XDW := Lib.hid xd
  clear hb1 hi1 xf xd
  have KD := Lib.hid (show Below W.heap.size W W.drew ∧ W.drew.cell? ⟨w.heap.size, 0, none⟩ = some (.int .i64 f.Id) ∧ W.drew.cell? ⟨w.heap.size, 1, none⟩ = some (.int .i64 f.Wide) ∧ W.drew.cell? ⟨w.heap.size, 2, none⟩ = some (.int .i64 f.High) ∧ W.drew.cell? ⟨w.heap.size, 3, none⟩ = some (.int .i64 f.Grams) ∧ W.drew.cell? ⟨w.heap.size + 1, 0, none⟩ = some (.int .i64 x.Id) ∧ W.drew.cell? ⟨w.heap.size + 1, 1, none⟩ = some (.int .i64 x.Wide) ∧ W.drew.cell? ⟨w.heap.size + 1, 2, none⟩ = some (.int .i64 x.High) ∧ W.drew.cell? ⟨w.heap.size + 1, 3, none⟩ = some (.int .i64 x.Holds) ∧ W.drew.cell? ⟨w.heap.size + 1, 4, none⟩ = some (.slice h.a h.n h.c) from by
    obtain ⟨f0, f1, f2, f3⟩ := XFW.out
    obtain ⟨d0, d1, d2, d3, d4⟩ := XDW.out
    exact ⟨(Below.refl _ _).drew, f0, f1, f2, f3, d0, d1, d2, d3, d4⟩)
  have KP := Lib.hid (show ∀ w1 w2 : World, (Below W.heap.size W w1 ∧ w1.cell? ⟨w.heap.size, 0, none⟩ = some (.int .i64 f.Id) ∧ w1.cell? ⟨w.heap.size, 1, none⟩ = some (.int .i64 f.Wide) ∧ w1.cell? ⟨w.heap.size, 2, none⟩ = some (.int .i64 f.High) ∧ w1.cell? ⟨w.heap.size, 3, none⟩ = some (.int .i64 f.Grams) ∧ w1.cell? ⟨w.heap.size + 1, 0, none⟩ = some (.int .i64 x.Id) ∧ w1.cell? ⟨w.heap.size + 1, 1, none⟩ = some (.int .i64 x.Wide) ∧ w1.cell? ⟨w.heap.size + 1, 2, none⟩ = some (.int .i64 x.High) ∧ w1.cell? ⟨w.heap.size + 1, 3, none⟩ = some (.int .i64 x.Holds) ∧ w1.cell? ⟨w.heap.size + 1, 4, none⟩ = some (.slice h.a h.n h.c)) → Below w1.heap.size w1 w2 → (Below W.heap.size W w2 ∧ w2.cell? ⟨w.heap.size, 0, none⟩ = some (.int .i64 f.Id) ∧ w2.cell? ⟨w.heap.size, 1, none⟩ = some (.int .i64 f.Wide) ∧ w2.cell? ⟨w.heap.size, 2, none⟩ = some (.int .i64 f.High) ∧ w2.cell? ⟨w.heap.size, 3, none⟩ = some (.int .i64 f.Grams) ∧ w2.cell? ⟨w.heap.size + 1, 0, none⟩ = some (.int .i64 x.Id) ∧ w2.cell? ⟨w.heap.size + 1, 1, none⟩ = some (.int .i64 x.Wide) ∧ w2.cell? ⟨w.heap.size + 1, 2, none⟩ = some (.int .i64 x.High) ∧ w2.cell? ⟨w.heap.size + 1, 3, none⟩ = some (.int .i64 x.Holds) ∧ w2.cell? ⟨w.heap.size + 1, 4, none⟩ = some (.slice h.a h.n h.c)) from by
    rintro w1 w2 ⟨h0, f0, f1, f2, f3, d0, d1, d2, d3, d4⟩ hb
    exact ⟨Below.then' h0 hb, cell_stay f0 hb, cell_stay f1 hb, cell_stay f2 hb, cell_stay f3 hb, cell_stay d0 hb, cell_stay d1 hb, cell_stay d2 hb, cell_stay d3 hb, cell_stay d4 hb⟩)
  have KI := Lib.hid (show ∀ W', (Below W.heap.size W W' ∧ W'.cell? ⟨w.heap.size, 0, none⟩ = some (.int .i64 f.Id) ∧ W'.cell? ⟨w.heap.size, 1, none⟩ = some (.int .i64 f.Wide) ∧ W'.cell? ⟨w.heap.size, 2, none⟩ = some (.int .i64 f.High) ∧ W'.cell? ⟨w.heap.size, 3, none⟩ = some (.int .i64 f.Grams) ∧ W'.cell? ⟨w.heap.size + 1, 0, none⟩ = some (.int .i64 x.Id) ∧ W'.cell? ⟨w.heap.size + 1, 1, none⟩ = some (.int .i64 x.Wide) ∧ W'.cell? ⟨w.heap.size + 1, 2, none⟩ = some (.int .i64 x.High) ∧ W'.cell? ⟨w.heap.size + 1, 3, none⟩ = some (.int .i64 x.Holds) ∧ W'.cell? ⟨w.heap.size + 1, 4, none⟩ = some (.slice h.a h.n h.c)) → IsInts W' h.a h.n h.c x.Flats from fun W' hs => IW.out.below hs.1)
  go_region_held3 (fun w' => Below W.heap.size W w' ∧ w'.cell? ⟨w.heap.size, 0, none⟩ = some (.int .i64 f.Id) ∧ w'.cell? ⟨w.heap.size, 1, none⟩ = some (.int .i64 f.Wide) ∧ w'.cell? ⟨w.heap.size, 2, none⟩ = some (.int .i64 f.High) ∧ w'.cell? ⟨w.heap.size, 3, none⟩ = some (.int .i64 f.Grams) ∧ w'.cell? ⟨w.heap.size + 1, 0, none⟩ = some (.int .i64 x.Id) ∧ w'.cell? ⟨w.heap.size + 1, 1, none⟩ = some (.int .i64 x.Wide) ∧ w'.cell? ⟨w.heap.size + 1, 2, none⟩ = some (.int .i64 x.High) ∧ w'.cell? ⟨w.heap.size + 1, 3, none⟩ = some (.int .i64 x.Holds) ∧ w'.cell? ⟨w.heap.size + 1, 4, none⟩ = some (.slice h.a h.n h.c))
    (first | exact KD.out | exact KP.out _ _ (by assumption) (by assumption))
    (first | (go_at_call 41; refine (toFlat_any f _).mono ?_; rintro e w' ⟨rfl, hb⟩) | (go_at_call 42; refine (toDrawer_any x h _ (KI.out _ (by assumption)) hl).mono ?_; rintro e w' ⟨h3, rfl, hown, hb⟩) | (go_at_call 29; refine (specDoesFit_any f x _ _ hown.is.1).mono ?_; rintro e w' ⟨rfl, hb⟩))
  rename_i HH
  clear KD KP KI hown
  refine held_exit (fun V => Below W.heap.size W V) HH.1 ?_
  intro V hV
  have B4 := Lib.hid (Below.then' BW.out hV)
  have HI4 := Lib.hid (IW.out.below hV)
  have XF4 := Lib.hid (XFW.out.below hV)
  have XD4 := Lib.hid (XDW.out.below hV)
  clear hV
  rw [Q0.out, Q1.out]
  obtain ⟨d0, d1, d2, d3, d4⟩ := XD4.out
  go_wp2_with fail
  refine (toDrawer_any x h _ HI4.out hl).mono ?_
  rintro e w5 ⟨h5, rfl, hown, hb⟩
  have BX := bel_al1 w5 (.cells #[.int .i64 x.Id, .int .i64 x.Wide, .int .i64 x.High, .int .i64 x.Holds, .slice h5.a h5.n h5.c] 42)
  have B5 := Lib.hid (Below.then' (Below.then' B4.out hb) BX)
  have HI5 := Lib.hid ((HI4.out.below hb).below BX)
  have XF5 := Lib.hid ((XF4.out.below hb).below BX)
  have XD5 := Lib.hid ((XD4.out.below hb).below BX)
  have I5 := Lib.hid (hown.is.1.below BX)
  have Y5 := Lib.hid (BoxDrawer.new w5 42 ⟨x, h5⟩ _ rfl)
  clear hb hown d0 d1 d2 d3 d4 BX
  go_wp2
  refine wp_world (fun W => Below w.heap.size w W ∧ IsInts W h.a h.n h.c x.Flats ∧ BoxFlat W w.heap.size f ∧ BoxDrawer W (w.heap.size + 1) ⟨x, h⟩ ∧ IsInts W h5.a h5.n h5.c x.Flats ∧ BoxDrawer W w5.heap.size ⟨x, h5⟩) ⟨B5.out, HI5.out, XF5.out, XD5.out, I5.out, Y5.out⟩ ?_
  rintro W2 ⟨hb1, hi1, xf, xd, i5, y5⟩
  obtain ⟨b5, hb5⟩ : ∃ b, w5.heap.size = b := ⟨_, rfl⟩
  rw [hb5] at y5 ⊢
  have BW2 := Lib.hid hb1
  have IW2 := Lib.hid hi1
  have XFW2 := Lib.hid xf
  have XDW2 := Lib.hid xd
  have I52 := Lib.hid i5
  have Y52 := Lib.hid y5
  clear hb1 hi1 xf xd i5 y5 hb5
  have KD := Lib.hid (show Below W2.heap.size W2 W2.drew ∧ W2.drew.cell? ⟨w.heap.size, 0, none⟩ = some (.int .i64 f.Id) ∧ W2.drew.cell? ⟨w.heap.size, 1, none⟩ = some (.int .i64 f.Wide) ∧ W2.drew.cell? ⟨w.heap.size, 2, none⟩ = some (.int .i64 f.High) ∧ W2.drew.cell? ⟨w.heap.size, 3, none⟩ = some (.int .i64 f.Grams) ∧ W2.drew.cell? ⟨b5, 0, none⟩ = some (.int .i64 x.Id) ∧ W2.drew.cell? ⟨b5, 1, none⟩ = some (.int .i64 x.Wide) ∧ W2.drew.cell? ⟨b5, 2, none⟩ = some (.int .i64 x.High) ∧ W2.drew.cell? ⟨b5, 3, none⟩ = some (.int .i64 x.Holds) ∧ W2.drew.cell? ⟨b5, 4, none⟩ = some (.slice h5.a h5.n h5.c) from by
    obtain ⟨f0, f1, f2, f3⟩ := XFW2.out
    obtain ⟨d0, d1, d2, d3, d4⟩ := Y52.out
    exact ⟨(Below.refl _ _).drew, f0, f1, f2, f3, d0, d1, d2, d3, d4⟩)
  have KP := Lib.hid (show ∀ w1 w2 : World, (Below W2.heap.size W2 w1 ∧ w1.cell? ⟨w.heap.size, 0, none⟩ = some (.int .i64 f.Id) ∧ w1.cell? ⟨w.heap.size, 1, none⟩ = some (.int .i64 f.Wide) ∧ w1.cell? ⟨w.heap.size, 2, none⟩ = some (.int .i64 f.High) ∧ w1.cell? ⟨w.heap.size, 3, none⟩ = some (.int .i64 f.Grams) ∧ w1.cell? ⟨b5, 0, none⟩ = some (.int .i64 x.Id) ∧ w1.cell? ⟨b5, 1, none⟩ = some (.int .i64 x.Wide) ∧ w1.cell? ⟨b5, 2, none⟩ = some (.int .i64 x.High) ∧ w1.cell? ⟨b5, 3, none⟩ = some (.int .i64 x.Holds) ∧ w1.cell? ⟨b5, 4, none⟩ = some (.slice h5.a h5.n h5.c)) → Below w1.heap.size w1 w2 → (Below W2.heap.size W2 w2 ∧ w2.cell? ⟨w.heap.size, 0, none⟩ = some (.int .i64 f.Id) ∧ w2.cell? ⟨w.heap.size, 1, none⟩ = some (.int .i64 f.Wide) ∧ w2.cell? ⟨w.heap.size, 2, none⟩ = some (.int .i64 f.High) ∧ w2.cell? ⟨w.heap.size, 3, none⟩ = some (.int .i64 f.Grams) ∧ w2.cell? ⟨b5, 0, none⟩ = some (.int .i64 x.Id) ∧ w2.cell? ⟨b5, 1, none⟩ = some (.int .i64 x.Wide) ∧ w2.cell? ⟨b5, 2, none⟩ = some (.int .i64 x.High) ∧ w2.cell? ⟨b5, 3, none⟩ = some (.int .i64 x.Holds) ∧ w2.cell? ⟨b5, 4, none⟩ = some (.slice h5.a h5.n h5.c)) from by
    rintro w1 w2 ⟨h0, f0, f1, f2, f3, d0, d1, d2, d3, d4⟩ hb
    exact ⟨Below.then' h0 hb, cell_stay f0 hb, cell_stay f1 hb, cell_stay f2 hb, cell_stay f3 hb, cell_stay d0 hb, cell_stay d1 hb, cell_stay d2 hb, cell_stay d3 hb, cell_stay d4 hb⟩)
  have KI := Lib.hid (show ∀ W', (Below W2.heap.size W2 W' ∧ W'.cell? ⟨w.heap.size, 0, none⟩ = some (.int .i64 f.Id) ∧ W'.cell? ⟨w.heap.size, 1, none⟩ = some (.int .i64 f.Wide) ∧ W'.cell? ⟨w.heap.size, 2, none⟩ = some (.int .i64 f.High) ∧ W'.cell? ⟨w.heap.size, 3, none⟩ = some (.int .i64 f.Grams) ∧ W'.cell? ⟨b5, 0, none⟩ = some (.int .i64 x.Id) ∧ W'.cell? ⟨b5, 1, none⟩ = some (.int .i64 x.Wide) ∧ W'.cell? ⟨b5, 2, none⟩ = some (.int .i64 x.High) ∧ W'.cell? ⟨b5, 3, none⟩ = some (.int .i64 x.Holds) ∧ W'.cell? ⟨b5, 4, none⟩ = some (.slice h5.a h5.n h5.c)) → IsInts W' h5.a h5.n h5.c x.Flats from fun W' hs => I52.out.below hs.1)
  go_region_held3 (fun w' => Below W2.heap.size W2 w' ∧ w'.cell? ⟨w.heap.size, 0, none⟩ = some (.int .i64 f.Id) ∧ w'.cell? ⟨w.heap.size, 1, none⟩ = some (.int .i64 f.Wide) ∧ w'.cell? ⟨w.heap.size, 2, none⟩ = some (.int .i64 f.High) ∧ w'.cell? ⟨w.heap.size, 3, none⟩ = some (.int .i64 f.Grams) ∧ w'.cell? ⟨b5, 0, none⟩ = some (.int .i64 x.Id) ∧ w'.cell? ⟨b5, 1, none⟩ = some (.int .i64 x.Wide) ∧ w'.cell? ⟨b5, 2, none⟩ = some (.int .i64 x.High) ∧ w'.cell? ⟨b5, 3, none⟩ = some (.int .i64 x.Holds) ∧ w'.cell? ⟨b5, 4, none⟩ = some (.slice h5.a h5.n h5.c))
    (first | exact KD.out | exact KP.out _ _ (by assumption) (by assumption))
    (first | (go_at_call 41; refine (toFlat_any f _).mono ?_; rintro e w' ⟨rfl, hb⟩) | (go_at_call 28; refine (implDoesFit_any f x h5 _ (KI.out _ (by assumption))).mono ?_; rintro e w' ⟨rfl, hb⟩))
  rename_i HH
  clear KD KP KI
  refine held_exit (fun V => Below W2.heap.size W2 V) HH.1 ?_
  intro V7 hV
  have B7 := Lib.hid (Below.then' BW2.out hV)
  have HI7 := Lib.hid (IW2.out.below hV)
  have XD7 := Lib.hid (XDW2.out.below hV)
  have I7 := Lib.hid (I52.out.below hV)
  have Y7 := Lib.hid (Y52.out.below hV)
  clear hV
  rw [Q0.out, Q1.out]
  go_wp2
  refine wp_world (fun W => Below w.heap.size w W ∧ IsInts W h.a h.n h.c x.Flats ∧ BoxDrawer W (w.heap.size + 1) ⟨x, h⟩ ∧ IsInts W h5.a h5.n h5.c x.Flats ∧ BoxDrawer W b5 ⟨x, h5⟩) ⟨B7.out, HI7.out, XD7.out, I7.out, Y7.out⟩ ?_
  rintro W3 ⟨hb1, hi1, xd, i5, y5⟩
  have BW3 := Lib.hid hb1
  have IW3 := Lib.hid hi1
  have XDW3 := Lib.hid xd
  have I53 := Lib.hid i5
  have Y53 := Lib.hid y5
  clear hb1 hi1 xd i5 y5
  have KD := Lib.hid (show Below W3.heap.size W3 W3.drew ∧ W3.drew.cell? ⟨w.heap.size + 1, 0, none⟩ = some (.int .i64 x.Id) ∧ W3.drew.cell? ⟨w.heap.size + 1, 1, none⟩ = some (.int .i64 x.Wide) ∧ W3.drew.cell? ⟨w.heap.size + 1, 2, none⟩ = some (.int .i64 x.High) ∧ W3.drew.cell? ⟨w.heap.size + 1, 3, none⟩ = some (.int .i64 x.Holds) ∧ W3.drew.cell? ⟨w.heap.size + 1, 4, none⟩ = some (.slice h.a h.n h.c) ∧ W3.drew.cell? ⟨b5, 0, none⟩ = some (.int .i64 x.Id) ∧ W3.drew.cell? ⟨b5, 1, none⟩ = some (.int .i64 x.Wide) ∧ W3.drew.cell? ⟨b5, 2, none⟩ = some (.int .i64 x.High) ∧ W3.drew.cell? ⟨b5, 3, none⟩ = some (.int .i64 x.Holds) ∧ W3.drew.cell? ⟨b5, 4, none⟩ = some (.slice h5.a h5.n h5.c) from by
    obtain ⟨f0, f1, f2, f3, f4⟩ := XDW3.out
    obtain ⟨d0, d1, d2, d3, d4⟩ := Y53.out
    exact ⟨(Below.refl _ _).drew, f0, f1, f2, f3, f4, d0, d1, d2, d3, d4⟩)
  have KP := Lib.hid (show ∀ w1 w2 : World, (Below W3.heap.size W3 w1 ∧ w1.cell? ⟨w.heap.size + 1, 0, none⟩ = some (.int .i64 x.Id) ∧ w1.cell? ⟨w.heap.size + 1, 1, none⟩ = some (.int .i64 x.Wide) ∧ w1.cell? ⟨w.heap.size + 1, 2, none⟩ = some (.int .i64 x.High) ∧ w1.cell? ⟨w.heap.size + 1, 3, none⟩ = some (.int .i64 x.Holds) ∧ w1.cell? ⟨w.heap.size + 1, 4, none⟩ = some (.slice h.a h.n h.c) ∧ w1.cell? ⟨b5, 0, none⟩ = some (.int .i64 x.Id) ∧ w1.cell? ⟨b5, 1, none⟩ = some (.int .i64 x.Wide) ∧ w1.cell? ⟨b5, 2, none⟩ = some (.int .i64 x.High) ∧ w1.cell? ⟨b5, 3, none⟩ = some (.int .i64 x.Holds) ∧ w1.cell? ⟨b5, 4, none⟩ = some (.slice h5.a h5.n h5.c)) → Below w1.heap.size w1 w2 → (Below W3.heap.size W3 w2 ∧ w2.cell? ⟨w.heap.size + 1, 0, none⟩ = some (.int .i64 x.Id) ∧ w2.cell? ⟨w.heap.size + 1, 1, none⟩ = some (.int .i64 x.Wide) ∧ w2.cell? ⟨w.heap.size + 1, 2, none⟩ = some (.int .i64 x.High) ∧ w2.cell? ⟨w.heap.size + 1, 3, none⟩ = some (.int .i64 x.Holds) ∧ w2.cell? ⟨w.heap.size + 1, 4, none⟩ = some (.slice h.a h.n h.c) ∧ w2.cell? ⟨b5, 0, none⟩ = some (.int .i64 x.Id) ∧ w2.cell? ⟨b5, 1, none⟩ = some (.int .i64 x.Wide) ∧ w2.cell? ⟨b5, 2, none⟩ = some (.int .i64 x.High) ∧ w2.cell? ⟨b5, 3, none⟩ = some (.int .i64 x.Holds) ∧ w2.cell? ⟨b5, 4, none⟩ = some (.slice h5.a h5.n h5.c)) from by
    rintro w1 w2 ⟨h0, f0, f1, f2, f3, f4, d0, d1, d2, d3, d4⟩ hb
    exact ⟨Below.then' h0 hb, cell_stay f0 hb, cell_stay f1 hb, cell_stay f2 hb, cell_stay f3 hb, cell_stay f4 hb, cell_stay d0 hb, cell_stay d1 hb, cell_stay d2 hb, cell_stay d3 hb, cell_stay d4 hb⟩)
  have KI := Lib.hid (show ∀ W', (Below W3.heap.size W3 W' ∧ W'.cell? ⟨w.heap.size + 1, 0, none⟩ = some (.int .i64 x.Id) ∧ W'.cell? ⟨w.heap.size + 1, 1, none⟩ = some (.int .i64 x.Wide) ∧ W'.cell? ⟨w.heap.size + 1, 2, none⟩ = some (.int .i64 x.High) ∧ W'.cell? ⟨w.heap.size + 1, 3, none⟩ = some (.int .i64 x.Holds) ∧ W'.cell? ⟨w.heap.size + 1, 4, none⟩ = some (.slice h.a h.n h.c) ∧ W'.cell? ⟨b5, 0, none⟩ = some (.int .i64 x.Id) ∧ W'.cell? ⟨b5, 1, none⟩ = some (.int .i64 x.Wide) ∧ W'.cell? ⟨b5, 2, none⟩ = some (.int .i64 x.High) ∧ W'.cell? ⟨b5, 3, none⟩ = some (.int .i64 x.Holds) ∧ W'.cell? ⟨b5, 4, none⟩ = some (.slice h5.a h5.n h5.c)) → IsInts W' h.a h.n h.c x.Flats from fun W' hs => IW3.out.below hs.1)
  have KJ := Lib.hid (show ∀ W', (Below W3.heap.size W3 W' ∧ W'.cell? ⟨w.heap.size + 1, 0, none⟩ = some (.int .i64 x.Id) ∧ W'.cell? ⟨w.heap.size + 1, 1, none⟩ = some (.int .i64 x.Wide) ∧ W'.cell? ⟨w.heap.size + 1, 2, none⟩ = some (.int .i64 x.High) ∧ W'.cell? ⟨w.heap.size + 1, 3, none⟩ = some (.int .i64 x.Holds) ∧ W'.cell? ⟨w.heap.size + 1, 4, none⟩ = some (.slice h.a h.n h.c) ∧ W'.cell? ⟨b5, 0, none⟩ = some (.int .i64 x.Id) ∧ W'.cell? ⟨b5, 1, none⟩ = some (.int .i64 x.Wide) ∧ W'.cell? ⟨b5, 2, none⟩ = some (.int .i64 x.High) ∧ W'.cell? ⟨b5, 3, none⟩ = some (.int .i64 x.Holds) ∧ W'.cell? ⟨b5, 4, none⟩ = some (.slice h5.a h5.n h5.c)) → IsInts W' h5.a h5.n h5.c x.Flats from fun W' hs => I53.out.below hs.1)
  go_region_held3 (fun w' => Below W3.heap.size W3 w' ∧ w'.cell? ⟨w.heap.size + 1, 0, none⟩ = some (.int .i64 x.Id) ∧ w'.cell? ⟨w.heap.size + 1, 1, none⟩ = some (.int .i64 x.Wide) ∧ w'.cell? ⟨w.heap.size + 1, 2, none⟩ = some (.int .i64 x.High) ∧ w'.cell? ⟨w.heap.size + 1, 3, none⟩ = some (.int .i64 x.Holds) ∧ w'.cell? ⟨w.heap.size + 1, 4, none⟩ = some (.slice h.a h.n h.c) ∧ w'.cell? ⟨b5, 0, none⟩ = some (.int .i64 x.Id) ∧ w'.cell? ⟨b5, 1, none⟩ = some (.int .i64 x.Wide) ∧ w'.cell? ⟨b5, 2, none⟩ = some (.int .i64 x.High) ∧ w'.cell? ⟨b5, 3, none⟩ = some (.int .i64 x.Holds) ∧ w'.cell? ⟨b5, 4, none⟩ = some (.slice h5.a h5.n h5.c))
    (first | exact KD.out | exact KP.out _ _ (by assumption) (by assumption))
    (first | (go_at_call 42; refine (toDrawer_any x h _ (KI.out _ (by assumption)) hl).mono ?_; rintro e w' ⟨h8, rfl, hown, hb⟩) | (go_at_call 43; refine (eqDrawer_yes x h5 _ _ (KJ.out _ (by assumption)) hown.is.1).mono ?_; rintro e w' ⟨rfl, hb⟩))
  rename_i HH
  clear KD KP KI KJ hown
  refine held_exit (fun V => Below W3.heap.size W3 V) HH.1 ?_
  intro V9 hV
  have B9 := Lib.hid (Below.then' BW3.out hV)
  clear hV
  go_wp2
  go_ret
  exact ⟨rfl, B9.out⟩

theorem own : ownKnob Try.prog.godebug = none := by kernel_rfl
theorem laidOut : laidOutB Try.prog = true := by kernel_rfl
set_option maxRecDepth 100000 in
theorem lifted (os : Os) (started : os.Started) (H : Type) (enc : TypeId × Value → H) :
    ReturnsInHanded {} Try.checked os 6 .any (Rows.fnExactDoesFitSpec.pre6 enc Try.prog Try.f6 Rows.fnExactDoesFitRow.domain false) (Rows.fnExactDoesFitSpec.post enc Try.prog Try.f6 false true false false) := by
  refine returnsInHanded_of_change (C := Try.checked) own started (by kernel_rfl) Try.func6
    (ChangeSpec.witness6 (enc := enc) (C := Try.checked) false ⟨#[], #[.agg #[.int .i64 0, .int .i64 0, .int .i64 0, .int .i64 0], .agg #[.int .i64 0, .int .i64 0, .int .i64 0, .int .i64 0, .slice none 0 0]], []⟩ 8 (by kernel_rfl) (by kernel_rfl) (by kernel_rfl) (by kernel_rfl)) ?_
  intro W base args ds gs before hval0 hW hcnd _
  have hval : ∀ (j : Nat) t v, Try.f6.params[j]? = some t → args[j]? = some v → Value.okWide Try.prog W .any base t v := hval0
  have hW' := hW
  obtain ⟨p, q, hA0, hV, rfl, hfz, hnd⟩ := hW
  have hA : DataW.TrodAll enc Try.prog W 0 (fun _ => true) true Try.f6.params.toList args.toList ds p := hA0
  rw [Try.params6] at hA hval
  obtain ⟨v0, vs0, d0, ds0, p0, q0, hargs, rfl, rfl, h0, r0⟩ := trodAll_cons hA
  obtain ⟨v1, vs1, d1, ds1, p1, q1, rfl, rfl, rfl, h1, r1⟩ := trodAll_cons r0
  obtain ⟨rfl, rfl, rfl⟩ := trodAll_nil r1
  obtain rfl : args = #[v0, v1] := by cases args; simp_all
  obtain ⟨rfl, rfl⟩ := trodVars_none hV
  have k0 := h0
  have lt0 : ∀ x ∈ p0, x.block < W.heap.size := by obtain ⟨m, hm⟩ := k0; exact DataW.trod_lt m _ _ _ hm
  obtain ⟨a0, rfl⟩ := open_Flat (hval 0 58 v0 rfl rfl) h0
  have k1 := h1
  have lt1 : ∀ x ∈ p1, x.block < W.heap.size := by obtain ⟨m, hm⟩ := k1; exact DataW.trod_lt m _ _ _ hm
  obtain ⟨a1, b1, rfl, w1⟩ := open_Drawer (hval 1 59 v1 rfl rfl) h1
  clear hA0 hval0
  refine (walk a0 a1 b1 W w1).mono fun e W' ⟨he, bel⟩ => ?_
  subst he
  exact ⟨_, rfl, _, _, _, [], _, [], hW', trodAll_mk1 (shut_bool Try.underlying4 _), (trodAll_cons_mk (Below.trod laidOut (by kernel_rfl) (of_decide_eq_true (by kernel_rfl)) k0 bel lt0) (trodAll_cons_mk (Below.trod laidOut (by kernel_rfl) (of_decide_eq_true (by kernel_rfl)) k1 bel lt1) trodAll_mk0)), rfl, bel.frame _, fun h => by cases h⟩
theorem over : Rows.fnExactDoesFitRow.holds Try.pinned (OpenSpec.ofChange Rows.fnExactDoesFitSpec) :=
  OpenClaim.holds_of_wide 6 Try.f6 rfl rfl rfl rfl rfl rfl rfl ⟨rfl, rfl, rfl, rfl, rfl⟩ rfl rfl rfl rfl rfl (by kernel_rfl) Try.func6 (by kernel_rfl)
    (of_decide_eq_true (by kernel_rfl)) (by unfold Func.isWrapper; first | (rw [if_pos (by decide +kernel)]; kernel_rfl) | (rw [if_neg (by decide +kernel)]; exact ⟨rfl, rfl⟩))
    (fun os started H enc _ => lifted os started H enc)
theorem proved : Rows.FnExactDoesFitSaid := over
#print axioms proved
end Go.Proofs.Ytlmedhidkhphbaa.fnExactDoesFit
