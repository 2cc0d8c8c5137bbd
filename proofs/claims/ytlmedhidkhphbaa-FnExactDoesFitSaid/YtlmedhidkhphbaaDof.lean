/- DoesFit, in the program and in the model. -/
import Derived.Test.YtlmedhidkhphbaaDz1
namespace Go.Proofs.Ytlmedhidkhphbaa
open Go.RowKit
set_option maxHeartbeats 3200000 in
theorem implDoesFit_any (f : VFlat) (x : VDrawer) (h : Hd) (w : World) (hi : IsInts w h.a h.n h.c x.Flats) :
    Calls Try.prog 28 #[.agg #[.int .i64 f.Id, .int .i64 f.Wide, .int .i64 f.High, .int .i64 f.Grams], .agg #[.int .i64 x.Id, .int .i64 x.Wide, .int .i64 x.High, .int .i64 x.Holds, .slice h.a h.n h.c]] w fun e w' => e = .returned (.tuple #[.bool (DoesFit_0 f x), .bool (DoesFit_1 f x)]) ∧ Below w.heap.size w w' := by
  have b2 := bel_al2 w (.cells #[.int .i64 f.Id, .int .i64 f.Wide, .int .i64 f.High, .int .i64 f.Grams] 40) (.cells #[.int .i64 x.Id, .int .i64 x.Wide, .int .i64 x.High, .int .i64 x.Holds, .slice h.a h.n h.c] 42)
  have HI := Lib.hid (hi.below b2)
  have XF := Lib.hid ((BoxFlat.new w 40 f _ rfl).below (bel_al1 _ (.cells #[.int .i64 x.Id, .int .i64 x.Wide, .int .i64 x.High, .int .i64 x.Holds, .slice h.a h.n h.c] 42)))
  have XD := Lib.hid (BoxDrawer.new (w.alloc (.cells #[.int .i64 f.Id, .int .i64 f.Wide, .int .i64 f.High, .int .i64 f.Grams] 40)) 42 ⟨x, h⟩ (w.heap.size + 1) (size_al _ _))
  have B0 := Lib.hid b2
  have U1 := Lib.hid (show DoesFit_1 f x = (f.ok && x.ok) from rfl)
  have U0 := Lib.hid (show DoesFit_0 f x = (DoesFit_1 f x && fitsB f x) from rfl)
  clear b2 hi
  go_enter Try.func28, Try.ntmps28
  go_wp2_with fail
  refine (isFlat_any f _).mono ?_
  rintro e w1 ⟨rfl, hb⟩
  have B1 := Lib.hid (Below.then' B0.out hb)
  have XF1 := Lib.hid (XF.out.below hb)
  have XD1 := Lib.hid (XD.out.below hb)
  have HI1 := Lib.hid (HI.out.below hb)
  clear hb
  cases hq : f.ok with
  | false =>
    have Q := Lib.hid hq
    clear hq
    go_wp2
    go_ret2
    exact ⟨by rw [U0.out, U1.out, Q.out]; rfl, B1.out⟩
  | true =>
  have Q := Lib.hid hq
  clear hq
  obtain ⟨d0, d1, d2, d3, d4⟩ := XD1.out
  go_wp2_with fail
  refine (isDrawer_any x h _ HI1.out).mono ?_
  rintro e w2 ⟨rfl, hb⟩
  have B2 := Lib.hid (Below.then' B1.out hb)
  have XF2 := Lib.hid (XF1.out.below hb)
  have XD2 := Lib.hid (XD1.out.below hb)
  clear hb d0 d1 d2 d3 d4
  cases hq : x.ok with
  | false =>
    have Q2 := Lib.hid hq
    clear hq
    go_wp2
    go_ret2
    exact ⟨by rw [U0.out, U1.out, Q.out, Q2.out]; rfl, B2.out⟩
  | true =>
  have Q2 := Lib.hid hq
  clear hq
  obtain ⟨d0, d1, d2, d3, d4⟩ := XD2.out
  obtain ⟨f0, f1, f2, f3⟩ := XF2.out
  go_wp2_with fail
  refine (fitsInto_any f x h _).mono ?_
  rintro e w3 ⟨rfl, hb⟩
  have B3 := Lib.hid (Below.then' B2.out hb)
  clear hb d0 d1 d2 d3 d4 f0 f1 f2 f3
  go_wp2
  go_ret2
  exact ⟨by rw [U0.out, U1.out, Q.out, Q2.out]; rfl, B3.out⟩
set_option maxHeartbeats 3200000 in
theorem specDoesFit_any (f : VFlat) (x : VDrawer) (h : Hd) (w : World) (hi : IsInts w h.a h.n h.c x.Flats) :
    Calls Try.prog 29 #[.agg #[.int .i64 f.Id, .int .i64 f.Wide, .int .i64 f.High, .int .i64 f.Grams], .agg #[.int .i64 x.Id, .int .i64 x.Wide, .int .i64 x.High, .int .i64 x.Holds, .slice h.a h.n h.c]] w fun e w' => e = .returned (.tuple #[.bool (DoesFit_0 f x), .bool (DoesFit_1 f x)]) ∧ Below w.heap.size w w' := by
  have b2 := bel_al2 w (.cells #[.int .i64 f.Id, .int .i64 f.Wide, .int .i64 f.High, .int .i64 f.Grams] 40) (.cells #[.int .i64 x.Id, .int .i64 x.Wide, .int .i64 x.High, .int .i64 x.Holds, .slice h.a h.n h.c] 42)
  have HI := Lib.hid (hi.below b2)
  have XF := Lib.hid ((BoxFlat.new w 40 f _ rfl).below (bel_al1 _ (.cells #[.int .i64 x.Id, .int .i64 x.Wide, .int .i64 x.High, .int .i64 x.Holds, .slice h.a h.n h.c] 42)))
  have XD := Lib.hid (BoxDrawer.new (w.alloc (.cells #[.int .i64 f.Id, .int .i64 f.Wide, .int .i64 f.High, .int .i64 f.Grams] 40)) 42 ⟨x, h⟩ (w.heap.size + 1) (size_al _ _))
  have B0 := Lib.hid b2
  have U1 := Lib.hid (show DoesFit_1 f x = (f.ok && x.ok) from rfl)
  have U0 := Lib.hid (show DoesFit_0 f x = (DoesFit_1 f x && fitsB f x) from rfl)
  clear b2 hi
  go_enter Try.func29, Try.ntmps29
  go_wp2_with fail
  refine (l5Flat_any f _).mono ?_
  rintro e w1 ⟨rfl, hb⟩
  have B1 := Lib.hid (Below.then' B0.out hb)
  have XF1 := Lib.hid (XF.out.below hb)
  have XD1 := Lib.hid (XD.out.below hb)
  have HI1 := Lib.hid (HI.out.below hb)
  clear hb
  cases hq : f.ok with
  | false =>
    have Q := Lib.hid hq
    clear hq
    go_wp2
    go_ret2
    exact ⟨by rw [U0.out, U1.out, Q.out]; rfl, B1.out⟩
  | true =>
  have Q := Lib.hid hq
  clear hq
  obtain ⟨d0, d1, d2, d3, d4⟩ := XD1.out
  go_wp2_with fail
  refine (l5Drawer_any x h _ HI1.out).mono ?_
  rintro e w2 ⟨rfl, hb⟩
  have B2 := Lib.hid (Below.then' B1.out hb)
  have XF2 := Lib.hid (XF1.out.below hb)
  have XD2 := Lib.hid (XD1.out.below hb)
  clear hb d0 d1 d2 d3 d4
  cases hq : x.ok with
  | false =>
    have Q2 := Lib.hid hq
    clear hq
    go_wp2
    go_ret2
    exact ⟨by rw [U0.out, U1.out, Q.out, Q2.out]; rfl, B2.out⟩
  | true =>
  have Q2 := Lib.hid hq
  clear hq
  obtain ⟨d0, d1, d2, d3, d4⟩ := XD2.out
  obtain ⟨f0, f1, f2, f3⟩ := XF2.out
  go_wp2_with fail
  refine (l5Fits_any f x h _).mono ?_
  rintro e w3 ⟨rfl, hb⟩
  have B3 := Lib.hid (Below.then' B2.out hb)
  clear hb d0 d1 d2 d3 d4 f0 f1 f2 f3
  go_wp2
  go_ret2
  exact ⟨by rw [U0.out, U1.out, Q.out, Q2.out]; rfl, B3.out⟩
end Go.Proofs.Ytlmedhidkhphbaa
