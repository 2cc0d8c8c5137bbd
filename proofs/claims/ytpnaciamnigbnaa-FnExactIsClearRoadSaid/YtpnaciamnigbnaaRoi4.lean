/- Roads in the program: bends, plain roads. -/
import Derived.Test.YtpnaciamnigbnaaRoi2
import Derived.Test.YtpnaciamnigbnaaBendsOfP
import Derived.Test.YtpnaciamnigbnaaPlainRoadP
namespace Go.Proofs.Ytpnaciamnigbnaa
open Go.RowKit

theorem ret_u8 {a b : Int} (h : a = b) : Ending.returned (.int .u8 a) = .returned (.int .u8 b) := by rw [h]
theorem bend_of {a b x : VCorner} {t h : Int} (e1 : (b.X - a.X) * (x.Y - b.Y) - (b.Y - a.Y) * (x.X - b.X) = t) (e2 : (b.X - a.X) * (x.X - b.X) + (b.Y - a.Y) * (x.Y - b.Y) = h) : bendU a b x = if 0 < t then 108 else if t < 0 then 114 else if 0 < h then 115 else 98 := by
  unfold bendU sideZ aheadZ Seg.side
  rw [e1, e2]
set_option maxHeartbeats 6400000 in
set_option maxRecDepth 100000 in
theorem bendAt_any (a : Option Addr) (len cap : Nat) (xs : List VCorner) (i : Nat) (w : World) (h : IsCornerS w a len cap xs) (hr : Road xs) (hi : i + 2 < xs.length) :
    Calls Try.prog 121 #[.slice a len cap, .int .i64 ((i + 1 : Nat) : Int)] w fun e w' => e = .returned (.int .u8 ((bendAtU xs (i + 1)).toNat : Int)) ∧ Below w.heap.size w w' := by
  have hm := h.2.2.1
  have hcl := h.2.1
  unfold maxLen at hm
  obtain rfl := h.1
  obtain ⟨b, o, rfl, hb, hat⟩ := h.at (by omega)
  obtain ⟨c0, c1⟩ := hat i _ (at_ptC (by omega))
  obtain ⟨d0, d1⟩ := hat (i + 1) _ (at_ptC (by omega))
  obtain ⟨e0, e1⟩ := hat (i + 2) _ (at_ptC (by omega))
  have k1 := hr.ok (i := i) (by omega)
  have k2 := hr.ok (i := i + 1) (by omega)
  have k3 := hr.ok (i := i + 2) (by omega)
  have l12 := hr.l12
  have BU0 := (show bendAtU xs (i + 1) = bendU (ptC xs i) (ptC xs (i + 1)) (ptC xs (i + 2)) from rfl)
  generalize ptC xs i = p at *
  generalize ptC xs (i + 1) = q at *
  generalize ptC xs (i + 2) = r at *
  have f1 := okC_iff.1 k1
  have f2 := okC_iff.1 k2
  have f3 := okC_iff.1 k3
  obtain ⟨ux, hux⟩ : ∃ x, q.X - p.X = x := ⟨_, rfl⟩
  obtain ⟨uy, huy⟩ : ∃ x, q.Y - p.Y = x := ⟨_, rfl⟩
  obtain ⟨vx, hvx⟩ : ∃ x, r.X - q.X = x := ⟨_, rfl⟩
  obtain ⟨vy, hvy⟩ : ∃ x, r.Y - q.Y = x := ⟨_, rfl⟩
  have m1 := mul_bd2 (x := ux) (y := vy) (A := 9999) (by omega) (by omega) (by omega) (by omega)
  have m2 := mul_bd2 (x := uy) (y := vx) (A := 9999) (by omega) (by omega) (by omega) (by omega)
  have m3 := mul_bd2 (x := ux) (y := vx) (A := 9999) (by omega) (by omega) (by omega) (by omega)
  have m4 := mul_bd2 (x := uy) (y := vy) (A := 9999) (by omega) (by omega) (by omega) (by omega)
  have v1 : IntKind.i64.wrap (ux * vy) = ux * vy := IntWalk.i64_in _ (by omega)
  have v2 : IntKind.i64.wrap (uy * vx) = uy * vx := IntWalk.i64_in _ (by omega)
  have v3 : IntKind.i64.wrap (ux * vx) = ux * vx := IntWalk.i64_in _ (by omega)
  have v4 : IntKind.i64.wrap (uy * vy) = uy * vy := IntWalk.i64_in _ (by omega)
  obtain ⟨t, ht⟩ : ∃ t, ux * vy - uy * vx = t := ⟨_, rfl⟩
  obtain ⟨g, hg⟩ : ∃ t, ux * vx + uy * vy = t := ⟨_, rfl⟩
  have v5 : IntKind.i64.wrap (ux * vy - uy * vx) = t := (IntWalk.i64_in _ (by omega)).trans ht
  have v6 : IntKind.i64.wrap (ux * vx + uy * vy) = g := (IntWalk.i64_in _ (by omega)).trans hg
  have v7 : IntKind.i64.wrap (((i + 1 : Nat) : Int) - 1) = (i : Int) := by rw [IntWalk.i64_in _ (by omega)]; omega
  have v8 : IntKind.i64.wrap (((i + 1 : Nat) : Int) + 1) = ((i + 2 : Nat) : Int) := by rw [IntWalk.i64_in _ (by omega)]; omega
  have BU := Lib.hid (BU0.trans (bend_of (t := t) (h := g) (by rw [hux, huy, hvx, hvy]; exact ht) (by rw [hux, huy, hvx, hvy]; exact hg)))
  have UX := Lib.hid hux
  have UY := Lib.hid huy
  have VX := Lib.hid hvx
  have VY := Lib.hid hvy
  have K1 := Lib.hid k1
  have K2 := Lib.hid k2
  have K3 := Lib.hid k3
  have j0 : (0 : Int) ≤ (i : Int) := by omega
  have j1 : (i : Int) < (xs.length : Int) := by omega
  have j2 : (0 : Int) ≤ ((i + 1 : Nat) : Int) := by omega
  have j3 : ((i + 1 : Nat) : Int) < (xs.length : Int) := by omega
  have j4 : (0 : Int) ≤ ((i + 2 : Nat) : Int) := by omega
  have j5 : ((i + 2 : Nat) : Int) < (xs.length : Int) := by omega
  have g0 := cell_regrown c0
  have g1 := cell_regrown c1
  have g2 := cell_regrown d0
  have g3 := cell_regrown d1
  have cQ := below_at (W := w) (fun W' _ => stepBetween_any p q W' K1.out K2.out)
  have KP := Lib.hid (show ∀ W, Below w.heap.size w W → CornerAt W b (o + (i + 1) * 2) q ∧ CornerAt W b (o + (i + 2) * 2) r from fun W hW => ⟨CornerAt.below ⟨d0, d1⟩ hW hb, CornerAt.below ⟨e0, e1⟩ hW hb⟩)
  clear h hat hr hi k1 k2 k3 f1 f2 f3 m1 m2 m3 m4 ht hg hux huy hvx hvy c0 c1 d0 d1 e0 e1 BU0
  go_enter Try.func121, Try.ntmps121
  go_wp2
  refine wp_region_quiet_below (by kernel_rfl) (by kernel_rfl) ?_
  repeat (first | go_big_quiet_step (exact cQ _ _) | quiet_step (exact cQ _ _))
  refine wpQuiet_nil ?_
  intro W2 hw2
  have bw := below_of_re hw2
  rw [UX.out, UY.out]
  have B2 := Lib.hid bw
  obtain ⟨⟨d0, d1⟩, e0, e1⟩ := KP.out _ bw
  have g4 := cell_regrown d0
  have g5 := cell_regrown d1
  have g6 := cell_regrown e0
  have g7 := cell_regrown e1
  clear hw2 bw cQ g0 g1 g2 g3 d0 d1 e0 e1
  have cR := below_at (W := W2) (fun W' _ => stepBetween_any q r W' K2.out K3.out)
  go_wp2
  refine wp_region_quiet_below (by kernel_rfl) (by kernel_rfl) ?_
  repeat (first | go_big_quiet_step (exact cR _ _) | quiet_step (exact cR _ _))
  refine wpQuiet_nil ?_
  intro W3 hw3
  have B3 := Lib.hid (Below.then' B2.out (below_of_re hw3))
  rw [VX.out, VY.out]
  clear hw3 cR g4 g5 g6 g7
  by_cases t0 : 0 < t
  · have F := Lib.hid (show (bendAtU xs (i + 1)).toNat = 108 from by rw [BU.out, if_pos t0]; rfl)
    go_wp2
    go_ret
    exact ⟨ret_u8 (by rw [F.out]; rfl), B3.out⟩
  by_cases t1 : t < 0
  · have F := Lib.hid (show (bendAtU xs (i + 1)).toNat = 114 from by rw [BU.out, if_neg t0, if_pos t1]; rfl)
    go_wp2
    go_ret
    exact ⟨ret_u8 (by rw [F.out]; rfl), B3.out⟩
  by_cases t2 : 0 < g
  · have F := Lib.hid (show (bendAtU xs (i + 1)).toNat = 115 from by rw [BU.out, if_neg t0, if_neg t1, if_pos t2]; rfl)
    go_wp2
    go_ret
    exact ⟨ret_u8 (by rw [F.out]; rfl), B3.out⟩
  · have F := Lib.hid (show (bendAtU xs (i + 1)).toNat = 98 from by rw [BU.out, if_neg t0, if_neg t1, if_neg t2]; rfl)
    go_wp2
    go_ret
    exact ⟨ret_u8 (by rw [F.out]; rfl), B3.out⟩
end Go.Proofs.Ytpnaciamnigbnaa
