/- What two zones have in common, and whether they touch, in the program: OverlapOf, areTouching. -/
import Derived.Test.YtidaoijpbdljbabZi2
namespace Go.Proofs.Ytidaoijpbdljbab
open Go.RowKit

set_option maxHeartbeats 12800000 in
set_option maxRecDepth 100000 in
theorem implOverlapOf_any (a : Option Addr) (len cap : Nat) (xs : List VZone) (p q : Int) (w : World) (h : IsZoneS w a len cap xs) (_ : xs.length ≤ 1048576) :
    Calls Try.prog 32 #[.slice a len cap, .int .i64 p, .int .i64 q] w (OverlapOf_Post xs p q w) := by
  have S := Lib.hid h
  clear h
  obtain ⟨r1, hr1⟩ : ∃ r, (zoneFor xs p).isSome = r := ⟨_, rfl⟩
  obtain ⟨r2, hr2⟩ : ∃ r, (zoneFor xs q).isSome = r := ⟨_, rfl⟩
  have R1 := Lib.hid hr1
  have R2 := Lib.hid hr2
  clear hr1 hr2
  go_enter Try.func32, Try.ntmps32
  go_wp2_with fail
  refine (findZone_any _ _ _ xs p _ S.out).mono ?_
  rintro e w1 ⟨z1, hz1, rfl, hb⟩
  rw [R1.out]
  have G1 := Lib.hid hz1
  have B1 := Lib.hid (Below.then' hb (bel_al1 w1 (.cells #[.int .i64 z1.Id, .int .i64 z1.West, .int .i64 z1.South, .int .i64 z1.East, .int .i64 z1.North] 50)))
  have X1 := Lib.hid (BoxZone.new w1 50 z1 _ rfl)
  have S1 := Lib.hid ((S.out.below hb).below (bel_al1 w1 (.cells #[.int .i64 z1.Id, .int .i64 z1.West, .int .i64 z1.South, .int .i64 z1.East, .int .i64 z1.North] 50)))
  clear hb hz1
  go_wp2_with fail
  refine (findZone_any _ _ _ xs q _ S1.out).mono ?_
  rintro e w2 ⟨z2, hz2, rfl, hb⟩
  rw [R2.out]
  have G2 := Lib.hid hz2
  have B2 := Lib.hid (Below.then' B1.out (Below.then' hb (bel_al1 w2 (.cells #[.int .i64 z2.Id, .int .i64 z2.West, .int .i64 z2.South, .int .i64 z2.East, .int .i64 z2.North] 50))))
  have Y1 := Lib.hid ((X1.out.below hb).below (bel_al1 w2 (.cells #[.int .i64 z2.Id, .int .i64 z2.West, .int .i64 z2.South, .int .i64 z2.East, .int .i64 z2.North] 50)))
  have Y2 := Lib.hid (BoxZone.new w2 50 z2 _ rfl)
  clear hb hz2
  have none1 : r1 = false → OverlapOf_1 xs p q = false ∧ OverlapOf_0 xs p q = 0 := fun e => overlap_none (.inl (by have := R1.out; rw [e] at this; simpa using this))
  have none2 : r2 = false → OverlapOf_1 xs p q = false ∧ OverlapOf_0 xs p q = 0 := fun e => overlap_none (.inr (by have := R2.out; rw [e] at this; simpa using this))
  have N1 := Lib.hid none1
  have N2 := Lib.hid none2
  clear none1 none2
  cases r1
  · go_wp2
    go_ret2
    exact ⟨by rw [(N1.out trivial).1, (N1.out trivial).2]; rfl, B2.out⟩
  cases r2
  · go_wp2
    go_ret2
    exact ⟨by rw [(N2.out trivial).1, (N2.out trivial).2]; rfl, B2.out⟩
  obtain ⟨u1, hu1⟩ := Option.isSome_iff_exists.1 R1.out
  obtain ⟨u2, hu2⟩ := Option.isSome_iff_exists.1 R2.out
  obtain rfl : u1 = z1 := by have := G1.out; rw [hu1] at this; exact this
  obtain rfl : u2 = z2 := by have := G2.out; rw [hu2] at this; exact this
  have OV := Lib.hid (overlap_some hu1 hu2)
  have O1 := Lib.hid (zoneFor_ok hu1).1
  have O2 := Lib.hid (zoneFor_ok hu2).1
  obtain ⟨d0, d1, d2, d3, d4⟩ := Y1.out
  obtain ⟨f0, f1, f2, f3, f4⟩ := Y2.out
  clear hu1 hu2
  go_wp2_with fail
  refine (commonSides_any u1 u2 _ O1.out O2.out).mono ?_
  rintro e w3 ⟨rfl, hb⟩
  have B3 := Lib.hid (Below.then' B2.out hb)
  clear hb d0 d1 d2 d3 d4 f0 f1 f2 f3 f4
  obtain ⟨⟨p1, p2⟩, p3, p4⟩ := bothOf_bd O1.out O2.out
  have U := Lib.hid (show bothOf u1 u2 = max 0 (wideOf u1 u2) * max 0 (highOf u1 u2) from rfl)
  obtain ⟨m0, m1⟩ := mul_bd (x := max 0 (wideOf u1 u2)) (y := max 0 (highOf u1 u2)) (by omega) (by omega) (by omega) (by omega)
  obtain ⟨x, hx⟩ : ∃ x, wideOf u1 u2 = x := ⟨_, rfl⟩
  obtain ⟨y, hy⟩ : ∃ y, highOf u1 u2 = y := ⟨_, rfl⟩
  rw [hx] at p1 p2 m0 m1 U ⊢
  rw [hy] at p3 p4 m0 m1 U ⊢
  clear hx hy
  by_cases hx : 0 ≤ x
  · by_cases hy : 0 ≤ y
    · rw [show max 0 x = x by omega, show max 0 y = y by omega] at m0 m1 U
      go_wp2
      all_goals
        go_ret2
        exact ⟨by rw [OV.out.1, OV.out.2, U.out]; first | rfl | (simp; omega), B3.out⟩
    · rw [show max 0 y = 0 by omega, Int.mul_zero] at m0 m1 U
      go_wp2
      all_goals
        go_ret2
        exact ⟨by rw [OV.out.1, OV.out.2, U.out]; first | rfl | (simp; done) | (simp; omega), B3.out⟩
  · rw [show max 0 x = 0 by omega, Int.zero_mul] at m0 m1 U
    go_wp2
    all_goals
      go_ret2
      exact ⟨by rw [OV.out.1, OV.out.2, U.out]; first | rfl | (simp; done) | (simp; omega), B3.out⟩
theorem touch_eq (x y : Int) : ((decide (x = 0) && decide (0 < y)) || (decide (0 < x) && decide (y = 0))) = (decide (min x y = 0) && decide (0 < max x y)) := by
  rw [Bool.eq_iff_iff]
  simp only [Bool.or_eq_true, Bool.and_eq_true, decide_eq_true_eq]
  omega
set_option maxHeartbeats 6400000 in
set_option maxRecDepth 100000 in
theorem areTouching_any (a b : VZone) (w : World) (ha : a.ok = true) (hb : b.ok = true) :
    Calls Try.prog 98 #[.agg #[.int .i64 a.Id, .int .i64 a.West, .int .i64 a.South, .int .i64 a.East, .int .i64 a.North], .agg #[.int .i64 b.Id, .int .i64 b.West, .int .i64 b.South, .int .i64 b.East, .int .i64 b.North]] w fun e w' => e = .returned (.bool (touchB a b)) ∧ Below w.heap.size w w' := by
  have O1 := Lib.hid ha
  have O2 := Lib.hid hb
  have B0 := Lib.hid (bel_al2 w (.cells #[.int .i64 a.Id, .int .i64 a.West, .int .i64 a.South, .int .i64 a.East, .int .i64 a.North] 50) (.cells #[.int .i64 b.Id, .int .i64 b.West, .int .i64 b.South, .int .i64 b.East, .int .i64 b.North] 50))
  clear ha hb
  go_enter Try.func98, Try.ntmps98
  go_wp2_with fail
  refine (commonSides_any a b _ O1.out O2.out).mono ?_
  rintro e w3 ⟨rfl, hb⟩
  have B3 := Lib.hid (Below.then' B0.out hb)
  clear hb
  have U := Lib.hid (show touchB a b = ((decide (wideOf a b = 0) && decide (0 < highOf a b)) || (decide (0 < wideOf a b) && decide (highOf a b = 0))) from rfl)
  obtain ⟨x, hx⟩ : ∃ x, wideOf a b = x := ⟨_, rfl⟩
  obtain ⟨y, hy⟩ : ∃ y, highOf a b = y := ⟨_, rfl⟩
  rw [hx] at U ⊢
  rw [hy] at U ⊢
  clear hx hy
  have T := Lib.hid (touch_eq x y)
  rcases Int.lt_trichotomy x y with h | h | h
  all_goals rcases Int.lt_trichotomy x 0 with hx | hx | hx <;> rcases Int.lt_trichotomy y 0 with hy | hy | hy
  all_goals try (exfalso; omega)
  all_goals
    go_wp2
    all_goals
      go_ret
      exact ⟨ret_bool (by rw [U.out, T.out, Bool.eq_iff_iff]; simp <;> omega), B3.out⟩
end Go.Proofs.Ytidaoijpbdljbab
