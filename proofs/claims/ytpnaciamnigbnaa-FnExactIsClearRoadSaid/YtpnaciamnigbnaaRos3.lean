/- Roads in the model: sides, bends, their texts, plain roads. -/
import Derived.Test.YtpnaciamnigbnaaRos1
import Derived.Test.YtpnaciamnigbnaaBendsOfP
import Derived.Test.YtpnaciamnigbnaaPlainRoadP
namespace Go.Proofs.Ytpnaciamnigbnaa
open Go.RowKit

theorem ret_strM {a b : ByteArray} (h : a = b) : Ending.returned (.string a) = .returned (.string b) := by rw [h]
theorem ret_sbM {a b : ByteArray} {p q : Bool} (h : a = b) (k : p = q) : Ending.returned (.tuple #[.string a, .bool p]) = .returned (.tuple #[.string b, .bool q]) := by rw [h, k]
theorem bel_al3M (w : World) (o1 o2 o3 : Obj) : Below w.heap.size w (((w.alloc o1).alloc o2).alloc o3) := Below.then' (bel_al2 w o1 o2) (bel_al1 _ o3)
set_option maxHeartbeats 3200000 in
set_option maxRecDepth 100000 in
theorem l10Side_any (a b x : VCorner) (w : World) (ha : okC a = true) (hb : okC b = true) (hx : okC x = true) :
    Calls Try.prog 152 #[.agg #[.int .i64 a.X, .int .i64 a.Y], .agg #[.int .i64 b.X, .int .i64 b.Y], .agg #[.int .i64 x.X, .int .i64 x.Y]] w fun e w' => e = .returned (.int .i64 (sideZ a b x)) ∧ Below w.heap.size w w' := by
  have f1 := okC_iff.1 ha
  have f2 := okC_iff.1 hb
  have f3 := okC_iff.1 hx
  have hs := (show sideZ a b x = (b.X - a.X) * (x.Y - b.Y) - (b.Y - a.Y) * (x.X - b.X) from rfl)
  obtain ⟨ux, hux⟩ : ∃ z, b.X - a.X = z := ⟨_, rfl⟩
  obtain ⟨uy, huy⟩ : ∃ z, b.Y - a.Y = z := ⟨_, rfl⟩
  obtain ⟨vx, hvx⟩ : ∃ z, x.X - b.X = z := ⟨_, rfl⟩
  obtain ⟨vy, hvy⟩ : ∃ z, x.Y - b.Y = z := ⟨_, rfl⟩
  have m1 := mul_bd2 (x := ux) (y := vy) (A := 9999) (by omega) (by omega) (by omega) (by omega)
  have m2 := mul_bd2 (x := uy) (y := vx) (A := 9999) (by omega) (by omega) (by omega) (by omega)
  rw [hux, huy, hvx, hvy] at hs
  have w1 : IntKind.i64.wrap (b.X - a.X) = ux := (IntWalk.i64_in _ (by omega)).trans hux
  have w2 : IntKind.i64.wrap (b.Y - a.Y) = uy := (IntWalk.i64_in _ (by omega)).trans huy
  have w3 : IntKind.i64.wrap (x.X - b.X) = vx := (IntWalk.i64_in _ (by omega)).trans hvx
  have w4 : IntKind.i64.wrap (x.Y - b.Y) = vy := (IntWalk.i64_in _ (by omega)).trans hvy
  have v1 : IntKind.i64.wrap (ux * vy) = ux * vy := IntWalk.i64_in _ (by omega)
  have v2 : IntKind.i64.wrap (uy * vx) = uy * vx := IntWalk.i64_in _ (by omega)
  obtain ⟨t, ht⟩ : ∃ t, sideZ a b x = t := ⟨_, rfl⟩
  rw [ht] at hs
  rw [ht]
  have v5 : IntKind.i64.wrap (ux * vy - uy * vx) = t := (IntWalk.i64_in _ (by omega)).trans hs.symm
  clear f1 f2 f3 hs hux huy hvx hvy m1 m2 ht
  go_enter Try.func152, Try.ntmps152
  go_wp2
  go_ret
  exact ⟨rfl, bel_al3M _ _ _ _⟩
set_option maxHeartbeats 3200000 in
set_option maxRecDepth 100000 in
theorem l10Ahead_any (a b x : VCorner) (w : World) (ha : okC a = true) (hb : okC b = true) (hx : okC x = true) :
    Calls Try.prog 153 #[.agg #[.int .i64 a.X, .int .i64 a.Y], .agg #[.int .i64 b.X, .int .i64 b.Y], .agg #[.int .i64 x.X, .int .i64 x.Y]] w fun e w' => e = .returned (.int .i64 (aheadZ a b x)) ∧ Below w.heap.size w w' := by
  have f1 := okC_iff.1 ha
  have f2 := okC_iff.1 hb
  have f3 := okC_iff.1 hx
  have hs := (show aheadZ a b x = (b.X - a.X) * (x.X - b.X) + (b.Y - a.Y) * (x.Y - b.Y) from rfl)
  obtain ⟨ux, hux⟩ : ∃ z, b.X - a.X = z := ⟨_, rfl⟩
  obtain ⟨uy, huy⟩ : ∃ z, b.Y - a.Y = z := ⟨_, rfl⟩
  obtain ⟨vx, hvx⟩ : ∃ z, x.X - b.X = z := ⟨_, rfl⟩
  obtain ⟨vy, hvy⟩ : ∃ z, x.Y - b.Y = z := ⟨_, rfl⟩
  have m1 := mul_bd2 (x := ux) (y := vx) (A := 9999) (by omega) (by omega) (by omega) (by omega)
  have m2 := mul_bd2 (x := uy) (y := vy) (A := 9999) (by omega) (by omega) (by omega) (by omega)
  rw [hux, huy, hvx, hvy] at hs
  have w1 : IntKind.i64.wrap (b.X - a.X) = ux := (IntWalk.i64_in _ (by omega)).trans hux
  have w2 : IntKind.i64.wrap (b.Y - a.Y) = uy := (IntWalk.i64_in _ (by omega)).trans huy
  have w3 : IntKind.i64.wrap (x.X - b.X) = vx := (IntWalk.i64_in _ (by omega)).trans hvx
  have w4 : IntKind.i64.wrap (x.Y - b.Y) = vy := (IntWalk.i64_in _ (by omega)).trans hvy
  have v1 : IntKind.i64.wrap (ux * vx) = ux * vx := IntWalk.i64_in _ (by omega)
  have v2 : IntKind.i64.wrap (uy * vy) = uy * vy := IntWalk.i64_in _ (by omega)
  obtain ⟨t, ht⟩ : ∃ t, aheadZ a b x = t := ⟨_, rfl⟩
  rw [ht] at hs
  rw [ht]
  have v5 : IntKind.i64.wrap (ux * vx + uy * vy) = t := (IntWalk.i64_in _ (by omega)).trans hs.symm
  clear f1 f2 f3 hs hux huy hvx hvy m1 m2 ht
  go_enter Try.func153, Try.ntmps153
  go_wp2
  go_ret
  exact ⟨rfl, bel_al3M _ _ _ _⟩
def bendS (a b x : VCorner) : ByteArray := ⟨#[bendU a b x]⟩
set_option maxHeartbeats 3200000 in
set_option maxRecDepth 100000 in
theorem l10Bend_any (a b x : VCorner) (w : World) (ha : okC a = true) (hb : okC b = true) (hx : okC x = true) :
    Calls Try.prog 122 #[.agg #[.int .i64 a.X, .int .i64 a.Y], .agg #[.int .i64 b.X, .int .i64 b.Y], .agg #[.int .i64 x.X, .int .i64 x.Y]] w fun e w' => e = .returned (.string (bendS a b x)) ∧ Below w.heap.size w w' := by
  have A1 := Lib.hid ha
  have A2 := Lib.hid hb
  have A3 := Lib.hid hx
  clear ha hb hx
  have B0 := Lib.hid (bel_al3M w (.cells #[.int .i64 a.X, .int .i64 a.Y] 103) (.cells #[.int .i64 b.X, .int .i64 b.Y] 103) (.cells #[.int .i64 x.X, .int .i64 x.Y] 103))
  have X1 := Lib.hid (show BoxCorner (((w.alloc (.cells #[.int .i64 a.X, .int .i64 a.Y] 103)).alloc (.cells #[.int .i64 b.X, .int .i64 b.Y] 103)).alloc (.cells #[.int .i64 x.X, .int .i64 x.Y] 103)) w.heap.size a from ((BoxCorner.new w 103 a _ rfl).below (bel_al1 _ _)).below (bel_al1 _ _))
  have X2 := Lib.hid (show BoxCorner (((w.alloc (.cells #[.int .i64 a.X, .int .i64 a.Y] 103)).alloc (.cells #[.int .i64 b.X, .int .i64 b.Y] 103)).alloc (.cells #[.int .i64 x.X, .int .i64 x.Y] 103)) (w.heap.size + 1) b from (BoxCorner.new (w.alloc (.cells #[.int .i64 a.X, .int .i64 a.Y] 103)) 103 b _ (by simp)).below (bel_al1 _ _))
  have X3 := Lib.hid (BoxCorner.new ((w.alloc (.cells #[.int .i64 a.X, .int .i64 a.Y] 103)).alloc (.cells #[.int .i64 b.X, .int .i64 b.Y] 103)) 103 x (w.heap.size + 2) (by simp))
  obtain ⟨t, ht⟩ : ∃ t, sideZ a b x = t := ⟨_, rfl⟩
  obtain ⟨h, hh⟩ : ∃ t, aheadZ a b x = t := ⟨_, rfl⟩
  have T := Lib.hid ht
  have HH := Lib.hid hh
  have BU := Lib.hid (show bendU a b x = if 0 < t then 108 else if t < 0 then 114 else if 0 < h then 115 else 98 from by unfold bendU; rw [ht, hh])
  clear ht hh
  go_enter Try.func122, Try.ntmps122
  go_wp2_with fail
  refine (l10Side_any a b x _ A1.out A2.out A3.out).mono ?_
  rintro e w1 ⟨rfl, hb⟩
  rw [T.out]
  have B1 := Lib.hid (Below.then' B0.out hb)
  obtain ⟨c0, c1⟩ := X1.out.below hb
  obtain ⟨c2, c3⟩ := X2.out.below hb
  obtain ⟨c4, c5⟩ := X3.out.below hb
  clear hb X1 X2 X3
  by_cases t0 : 0 < t
  · have F := Lib.hid (show bendS a b x = ⟨#[108]⟩ from by unfold bendS; rw [BU.out, if_pos t0])
    go_wp2
    go_ret
    exact ⟨ret_strM F.out.symm, B1.out⟩
  by_cases t1 : t < 0
  · have F := Lib.hid (show bendS a b x = ⟨#[114]⟩ from by unfold bendS; rw [BU.out, if_neg t0, if_pos t1])
    go_wp2
    go_ret
    exact ⟨ret_strM F.out.symm, B1.out⟩
  have F := Lib.hid (show bendS a b x = if 0 < h then ⟨#[115]⟩ else ⟨#[98]⟩ from by unfold bendS; rw [BU.out, if_neg t0, if_neg t1]; split <;> rfl)
  go_wp2_with fail
  refine (l10Ahead_any a b x _ A1.out A2.out A3.out).mono ?_
  rintro e w2 ⟨rfl, hb⟩
  rw [HH.out]
  have B2 := Lib.hid (Below.then' B1.out hb)
  clear hb c0 c1 c2 c3 c4 c5
  by_cases t2 : 0 < h
  · have F2 := Lib.hid (show bendS a b x = ⟨#[115]⟩ from by rw [F.out, if_pos t2])
    clear F
    go_wp2
    go_ret
    exact ⟨ret_strM F2.out.symm, B2.out⟩
  · have F2 := Lib.hid (show bendS a b x = ⟨#[98]⟩ from by rw [F.out, if_neg t2])
    clear F
    go_wp2
    go_ret
    exact ⟨ret_strM F2.out.symm, B2.out⟩
end Go.Proofs.Ytpnaciamnigbnaa
