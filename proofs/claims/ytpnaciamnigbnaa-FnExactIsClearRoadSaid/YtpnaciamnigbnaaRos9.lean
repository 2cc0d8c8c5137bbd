/- Roads in the model: whether parts have a place in common. -/
import Derived.Test.YtpnaciamnigbnaaRos3
import Derived.Test.YtpnaciamnigbnaaMnMx
namespace Go.Proofs.Ytpnaciamnigbnaa
open Go.RowKit

def betB (a b x : VCorner) : Bool := inB x.X (min a.X b.X) (max a.X b.X) && inB x.Y (min a.Y b.Y) (max a.Y b.Y)
def onB (a b x : VCorner) : Bool := decide (sideZ a b x = 0) && betB a b x
def splB (a b x y : VCorner) : Bool := (decide (0 < sideZ a b x) && decide (sideZ a b y < 0)) || (decide (sideZ a b x < 0) && decide (0 < sideZ a b y))
theorem onB_iff {a b x : VCorner} : onB a b x = true ↔ Seg.On a.X a.Y b.X b.Y x.X x.Y := by
  unfold onB betB Seg.On inB sideZ
  simp only [Bool.and_eq_true, decide_eq_true_eq]
theorem splB_iff {a b x y : VCorner} : splB a b x y = true ↔ Seg.Split a.X a.Y b.X b.Y x.X x.Y y.X y.Y := by
  unfold splB Seg.Split sideZ
  simp only [Bool.and_eq_true, Bool.or_eq_true, decide_eq_true_eq]
theorem crossB_or (a b x y : VCorner) : crossB a b x y = (onB a b x || (onB a b y || (onB x y a || (onB x y b || (splB a b x y && splB x y a b))))) := by
  rw [Bool.eq_iff_iff, crossB_iff]
  unfold crossP Seg.Cross
  simp only [Bool.or_eq_true, Bool.and_eq_true, onB_iff, splB_iff]
set_option maxHeartbeats 6400000 in
set_option maxRecDepth 100000 in
theorem l10Between_any (a b x : VCorner) (w : World) :
    Calls Try.prog 157 #[.agg #[.int .i64 a.X, .int .i64 a.Y], .agg #[.int .i64 b.X, .int .i64 b.Y], .agg #[.int .i64 x.X, .int .i64 x.Y]] w fun e w' => e = .returned (.bool (betB a b x)) ∧ Below w.heap.size w w' := by
  obtain ⟨q, hq⟩ : ∃ q, inB x.X (min a.X b.X) (max a.X b.X) = q := ⟨_, rfl⟩
  obtain ⟨r, hr⟩ : ∃ q, inB x.Y (min a.Y b.Y) (max a.Y b.Y) = q := ⟨_, rfl⟩
  have BB := Lib.hid (show betB a b x = (q && r) from by unfold betB; rw [hq, hr])
  obtain ⟨m1, h1⟩ : ∃ m, min a.X b.X = m := ⟨_, rfl⟩
  obtain ⟨m2, h2⟩ : ∃ m, max a.X b.X = m := ⟨_, rfl⟩
  obtain ⟨m3, h3⟩ : ∃ m, min a.Y b.Y = m := ⟨_, rfl⟩
  obtain ⟨m4, h4⟩ : ∃ m, max a.Y b.Y = m := ⟨_, rfl⟩
  rw [h1, h2] at hq
  rw [h3, h4] at hr
  have H1 := Lib.hid h1
  have H2 := Lib.hid h2
  have H3 := Lib.hid h3
  have H4 := Lib.hid h4
  have HQ := Lib.hid hq
  have HR := Lib.hid hr
  clear h1 h2 h3 h4 hq hr
  have X0 := Lib.hid (show BoxCorner (((w.alloc (.cells #[.int .i64 a.X, .int .i64 a.Y] 103)).alloc (.cells #[.int .i64 b.X, .int .i64 b.Y] 103)).alloc (.cells #[.int .i64 x.X, .int .i64 x.Y] 103)) (w.heap.size) a from ((BoxCorner.new w 103 a _ rfl).below (bel_al1 _ _)).below (bel_al1 _ _))
  have X1 := Lib.hid (show BoxCorner (((w.alloc (.cells #[.int .i64 a.X, .int .i64 a.Y] 103)).alloc (.cells #[.int .i64 b.X, .int .i64 b.Y] 103)).alloc (.cells #[.int .i64 x.X, .int .i64 x.Y] 103)) (w.heap.size + 1) b from (BoxCorner.new (w.alloc (.cells #[.int .i64 a.X, .int .i64 a.Y] 103)) 103 b (w.heap.size + 1) (by simp)).below (bel_al1 _ _))
  have X2 := Lib.hid (show BoxCorner (((w.alloc (.cells #[.int .i64 a.X, .int .i64 a.Y] 103)).alloc (.cells #[.int .i64 b.X, .int .i64 b.Y] 103)).alloc (.cells #[.int .i64 x.X, .int .i64 x.Y] 103)) (w.heap.size + 2) x from BoxCorner.new ((w.alloc (.cells #[.int .i64 a.X, .int .i64 a.Y] 103)).alloc (.cells #[.int .i64 b.X, .int .i64 b.Y] 103)) 103 x (w.heap.size + 2) (by simp))
  have B0 := Lib.hid (show Below w.heap.size w (((w.alloc (.cells #[.int .i64 a.X, .int .i64 a.Y] 103)).alloc (.cells #[.int .i64 b.X, .int .i64 b.Y] 103)).alloc (.cells #[.int .i64 x.X, .int .i64 x.Y] 103)) from (Below.then' (Below.then' (Below.then' (Below.refl w.heap.size w) (bel_al1 _ (.cells #[.int .i64 a.X, .int .i64 a.Y] 103))) (bel_al1 _ (.cells #[.int .i64 b.X, .int .i64 b.Y] 103))) (bel_al1 _ (.cells #[.int .i64 x.X, .int .i64 x.Y] 103))))
  go_enter Try.func157, Try.ntmps157
  go_wp2
  refine wp_world (fun W => BoxCorner W (w.heap.size) a ∧ BoxCorner W (w.heap.size + 1) b ∧ BoxCorner W (w.heap.size + 2) x ∧ Below w.heap.size w W) ⟨X0.out, X1.out, X2.out, B0.out⟩ ?_
  rintro W ⟨⟨c0, c1⟩, ⟨c2, c3⟩, ⟨c4, c5⟩, hbw⟩
  have BW := Lib.hid hbw
  have k0 := cell_regrown c0
  have k1 := cell_regrown c1
  have k2 := cell_regrown c2
  have k3 := cell_regrown c3
  have k4 := cell_regrown c4
  have k5 := cell_regrown c5
  clear hbw c0 c1 c2 c3 c4 c5 X0 X1 X2 B0
  have cA := below_at (W := W) (fun W' _ => same_below (H1.out ▸ l1Least_any a.X b.X W'))
  have cB := below_at (W := W) (fun W' _ => same_below (H2.out ▸ l1Most_any a.X b.X W'))
  have cC := below_at (W := W) (fun W' _ => same_below (HQ.out ▸ l1In_any x.X m1 m2 W'))
  have cD := below_at (W := W) (fun W' _ => same_below (H3.out ▸ l1Least_any a.Y b.Y W'))
  have cE := below_at (W := W) (fun W' _ => same_below (H4.out ▸ l1Most_any a.Y b.Y W'))
  have cF := below_at (W := W) (fun W' _ => same_below (HR.out ▸ l1In_any x.Y m3 m4 W'))
  cases q
  · skip
    refine wp_region_quiet_below (by kernel_rfl) (by kernel_rfl) ?_
    repeat (first | go_big_quiet_step (first | (with_reducible exact cA _ _) | (with_reducible exact cB _ _) | (with_reducible exact cC _ _) | (with_reducible exact cD _ _) | (with_reducible exact cE _ _) | (with_reducible exact cF _ _)) | quiet_step (first | (with_reducible exact cA _ _) | (with_reducible exact cB _ _) | (with_reducible exact cC _ _) | (with_reducible exact cD _ _) | (with_reducible exact cE _ _) | (with_reducible exact cF _ _)))
    refine wpQuiet_nil ?_
    intro W2 hw2
    have bw2 := below_of_re hw2
    have B2 := Lib.hid (Below.then' BW.out bw2)
    clear hw2 bw2 cA cB cC cD cE cF k0 k1 k2 k3 k4 k5
    go_wp2
    go_ret
    exact ⟨ret_boolM (by rw [BB.out]; rfl), B2.out⟩
  · skip
    refine wp_region_quiet_below (by kernel_rfl) (by kernel_rfl) ?_
    repeat (first | go_big_quiet_step (first | (with_reducible exact cA _ _) | (with_reducible exact cB _ _) | (with_reducible exact cC _ _) | (with_reducible exact cD _ _) | (with_reducible exact cE _ _) | (with_reducible exact cF _ _)) | quiet_step (first | (with_reducible exact cA _ _) | (with_reducible exact cB _ _) | (with_reducible exact cC _ _) | (with_reducible exact cD _ _) | (with_reducible exact cE _ _) | (with_reducible exact cF _ _)))
    refine wpQuiet_nil ?_
    intro W2 hw2
    have bw2 := below_of_re hw2
    have B2 := Lib.hid (Below.then' BW.out bw2)
    clear hw2 bw2 cA cB cC cD cE cF k0 k1 k2 k3 k4 k5
    go_wp2
    go_ret
    exact ⟨ret_boolM (by rw [BB.out]; rfl), B2.out⟩
set_option maxHeartbeats 6400000 in
set_option maxRecDepth 100000 in
theorem l10On_any (a b x : VCorner) (w : World) (ha : okC a = true) (hb : okC b = true) (hx : okC x = true) :
    Calls Try.prog 145 #[.agg #[.int .i64 a.X, .int .i64 a.Y], .agg #[.int .i64 b.X, .int .i64 b.Y], .agg #[.int .i64 x.X, .int .i64 x.Y]] w fun e w' => e = .returned (.bool (onB a b x)) ∧ Below w.heap.size w w' := by
  have O1 := Lib.hid ha
  have O2 := Lib.hid hb
  have O3 := Lib.hid hx
  obtain ⟨t, ht⟩ : ∃ t, sideZ a b x = t := ⟨_, rfl⟩
  obtain ⟨r, hr⟩ : ∃ t, betB a b x = t := ⟨_, rfl⟩
  have BB := Lib.hid (show onB a b x = (decide (t = 0) && r) from by unfold onB; rw [ht, hr])
  have T := Lib.hid ht
  have RR := Lib.hid hr
  clear ha hb hx ht hr
  have X0 := Lib.hid (show BoxCorner (((w.alloc (.cells #[.int .i64 a.X, .int .i64 a.Y] 103)).alloc (.cells #[.int .i64 b.X, .int .i64 b.Y] 103)).alloc (.cells #[.int .i64 x.X, .int .i64 x.Y] 103)) (w.heap.size) a from ((BoxCorner.new w 103 a _ rfl).below (bel_al1 _ _)).below (bel_al1 _ _))
  have X1 := Lib.hid (show BoxCorner (((w.alloc (.cells #[.int .i64 a.X, .int .i64 a.Y] 103)).alloc (.cells #[.int .i64 b.X, .int .i64 b.Y] 103)).alloc (.cells #[.int .i64 x.X, .int .i64 x.Y] 103)) (w.heap.size + 1) b from (BoxCorner.new (w.alloc (.cells #[.int .i64 a.X, .int .i64 a.Y] 103)) 103 b (w.heap.size + 1) (by simp)).below (bel_al1 _ _))
  have X2 := Lib.hid (show BoxCorner (((w.alloc (.cells #[.int .i64 a.X, .int .i64 a.Y] 103)).alloc (.cells #[.int .i64 b.X, .int .i64 b.Y] 103)).alloc (.cells #[.int .i64 x.X, .int .i64 x.Y] 103)) (w.heap.size + 2) x from BoxCorner.new ((w.alloc (.cells #[.int .i64 a.X, .int .i64 a.Y] 103)).alloc (.cells #[.int .i64 b.X, .int .i64 b.Y] 103)) 103 x (w.heap.size + 2) (by simp))
  have B0 := Lib.hid (show Below w.heap.size w (((w.alloc (.cells #[.int .i64 a.X, .int .i64 a.Y] 103)).alloc (.cells #[.int .i64 b.X, .int .i64 b.Y] 103)).alloc (.cells #[.int .i64 x.X, .int .i64 x.Y] 103)) from (Below.then' (Below.then' (Below.then' (Below.refl w.heap.size w) (bel_al1 _ (.cells #[.int .i64 a.X, .int .i64 a.Y] 103))) (bel_al1 _ (.cells #[.int .i64 b.X, .int .i64 b.Y] 103))) (bel_al1 _ (.cells #[.int .i64 x.X, .int .i64 x.Y] 103))))
  go_enter Try.func145, Try.ntmps145
  go_wp2_with fail
  refine (l10Side_any a b x _ O1.out O2.out O3.out).mono ?_
  rintro e w1 ⟨rfl, hb⟩
  rw [T.out]
  have B1 := Lib.hid (Below.then' B0.out hb)
  obtain ⟨c0, c1⟩ := X0.out.below hb
  obtain ⟨c2, c3⟩ := X1.out.below hb
  obtain ⟨c4, c5⟩ := X2.out.below hb
  clear hb X0 X1 X2
  by_cases t0 : t = 0
  · have e1 : (t == 0) = true := by simp [t0]
    have G := Lib.hid (show onB a b x = r from by rw [BB.out, t0]; simp)
    clear t0 BB
    go_wp2_with fail
    refine (l10Between_any a b x _).mono ?_
    rintro e w2 ⟨rfl, hb⟩
    rw [RR.out]
    have B2 := Lib.hid (Below.then' B1.out hb)
    clear hb c0 c1 c2 c3 c4 c5
    go_wp2
    go_ret
    exact ⟨ret_boolM G.out.symm, B2.out⟩
  · have e1 : (t == 0) = false := by simp [t0]
    have G := Lib.hid (show onB a b x = false from by rw [BB.out, decide_eq_false t0]; rfl)
    clear t0 BB
    go_wp2
    go_ret
    exact ⟨ret_boolM G.out.symm, B1.out⟩
set_option maxHeartbeats 6400000 in
set_option maxRecDepth 100000 in
theorem l10Split_any (a b x y : VCorner) (w : World) (ha : okC a = true) (hb : okC b = true) (hx : okC x = true) (hy : okC y = true) :
    Calls Try.prog 146 #[.agg #[.int .i64 a.X, .int .i64 a.Y], .agg #[.int .i64 b.X, .int .i64 b.Y], .agg #[.int .i64 x.X, .int .i64 x.Y], .agg #[.int .i64 y.X, .int .i64 y.Y]] w fun e w' => e = .returned (.bool (splB a b x y)) ∧ Below w.heap.size w w' := by
  obtain ⟨p, hp⟩ : ∃ t, sideZ a b x = t := ⟨_, rfl⟩
  obtain ⟨q, hq⟩ : ∃ t, sideZ a b y = t := ⟨_, rfl⟩
  have BB := Lib.hid (show splB a b x y = ((decide (0 < p) && decide (q < 0)) || (decide (p < 0) && decide (0 < q))) from by unfold splB; rw [hp, hq])
  have P := Lib.hid (show ∀ W', Calls Try.prog 152 #[.agg #[.int .i64 a.X, .int .i64 a.Y], .agg #[.int .i64 b.X, .int .i64 b.Y], .agg #[.int .i64 x.X, .int .i64 x.Y]] W' fun e w' => e = .returned (.int .i64 p) ∧ Below W'.heap.size W' w' from fun W' => hp ▸ l10Side_any a b x W' ha hb hx)
  have Q := Lib.hid (show ∀ W', Calls Try.prog 152 #[.agg #[.int .i64 a.X, .int .i64 a.Y], .agg #[.int .i64 b.X, .int .i64 b.Y], .agg #[.int .i64 y.X, .int .i64 y.Y]] W' fun e w' => e = .returned (.int .i64 q) ∧ Below W'.heap.size W' w' from fun W' => hq ▸ l10Side_any a b y W' ha hb hy)
  clear ha hb hx hy hp hq
  have X0 := Lib.hid (show BoxCorner ((((w.alloc (.cells #[.int .i64 a.X, .int .i64 a.Y] 103)).alloc (.cells #[.int .i64 b.X, .int .i64 b.Y] 103)).alloc (.cells #[.int .i64 x.X, .int .i64 x.Y] 103)).alloc (.cells #[.int .i64 y.X, .int .i64 y.Y] 103)) (w.heap.size) a from (((BoxCorner.new w 103 a _ rfl).below (bel_al1 _ _)).below (bel_al1 _ _)).below (bel_al1 _ _))
  have X1 := Lib.hid (show BoxCorner ((((w.alloc (.cells #[.int .i64 a.X, .int .i64 a.Y] 103)).alloc (.cells #[.int .i64 b.X, .int .i64 b.Y] 103)).alloc (.cells #[.int .i64 x.X, .int .i64 x.Y] 103)).alloc (.cells #[.int .i64 y.X, .int .i64 y.Y] 103)) (w.heap.size + 1) b from ((BoxCorner.new (w.alloc (.cells #[.int .i64 a.X, .int .i64 a.Y] 103)) 103 b (w.heap.size + 1) (by simp)).below (bel_al1 _ _)).below (bel_al1 _ _))
  have X2 := Lib.hid (show BoxCorner ((((w.alloc (.cells #[.int .i64 a.X, .int .i64 a.Y] 103)).alloc (.cells #[.int .i64 b.X, .int .i64 b.Y] 103)).alloc (.cells #[.int .i64 x.X, .int .i64 x.Y] 103)).alloc (.cells #[.int .i64 y.X, .int .i64 y.Y] 103)) (w.heap.size + 2) x from (BoxCorner.new ((w.alloc (.cells #[.int .i64 a.X, .int .i64 a.Y] 103)).alloc (.cells #[.int .i64 b.X, .int .i64 b.Y] 103)) 103 x (w.heap.size + 2) (by simp)).below (bel_al1 _ _))
  have X3 := Lib.hid (show BoxCorner ((((w.alloc (.cells #[.int .i64 a.X, .int .i64 a.Y] 103)).alloc (.cells #[.int .i64 b.X, .int .i64 b.Y] 103)).alloc (.cells #[.int .i64 x.X, .int .i64 x.Y] 103)).alloc (.cells #[.int .i64 y.X, .int .i64 y.Y] 103)) (w.heap.size + 3) y from BoxCorner.new (((w.alloc (.cells #[.int .i64 a.X, .int .i64 a.Y] 103)).alloc (.cells #[.int .i64 b.X, .int .i64 b.Y] 103)).alloc (.cells #[.int .i64 x.X, .int .i64 x.Y] 103)) 103 y (w.heap.size + 3) (by simp))
  have B0 := Lib.hid (show Below w.heap.size w ((((w.alloc (.cells #[.int .i64 a.X, .int .i64 a.Y] 103)).alloc (.cells #[.int .i64 b.X, .int .i64 b.Y] 103)).alloc (.cells #[.int .i64 x.X, .int .i64 x.Y] 103)).alloc (.cells #[.int .i64 y.X, .int .i64 y.Y] 103)) from (Below.then' (Below.then' (Below.then' (Below.then' (Below.refl w.heap.size w) (bel_al1 _ (.cells #[.int .i64 a.X, .int .i64 a.Y] 103))) (bel_al1 _ (.cells #[.int .i64 b.X, .int .i64 b.Y] 103))) (bel_al1 _ (.cells #[.int .i64 x.X, .int .i64 x.Y] 103))) (bel_al1 _ (.cells #[.int .i64 y.X, .int .i64 y.Y] 103))))
  go_enter Try.func146, Try.ntmps146
  go_wp2
  refine wp_world (fun W => BoxCorner W (w.heap.size) a ∧ BoxCorner W (w.heap.size + 1) b ∧ BoxCorner W (w.heap.size + 2) x ∧ BoxCorner W (w.heap.size + 3) y ∧ Below w.heap.size w W) ⟨X0.out, X1.out, X2.out, X3.out, B0.out⟩ ?_
  rintro W ⟨⟨c0, c1⟩, ⟨c2, c3⟩, ⟨c4, c5⟩, ⟨c6, c7⟩, hbw⟩
  have BW := Lib.hid hbw
  have k0 := cell_regrown c0
  have k1 := cell_regrown c1
  have k2 := cell_regrown c2
  have k3 := cell_regrown c3
  have k4 := cell_regrown c4
  have k5 := cell_regrown c5
  have k6 := cell_regrown c6
  have k7 := cell_regrown c7
  clear hbw c0 c1 c2 c3 c4 c5 c6 c7 X0 X1 X2 X3 B0
  have cA := below_at (W := W) (fun W' _ => P.out W')
  have cB := below_at (W := W) (fun W' _ => Q.out W')
  refine wp_region_quiet_below (by kernel_rfl) (by kernel_rfl) ?_
  repeat (first | go_big_quiet_step (first | (with_reducible exact cA _ _) | (with_reducible exact cB _ _)) | quiet_step (first | (with_reducible exact cA _ _) | (with_reducible exact cB _ _)))
  refine wpQuiet_nil ?_
  intro W2 hw2
  have bw2 := below_of_re hw2
  have B2 := Lib.hid (Below.then' BW.out bw2)
  clear hw2 bw2 cA cB k0 k1 k2 k3 k4 k5 k6 k7
  rcases Int.lt_trichotomy p 0 with p0 | p0 | p0
  · have d1 : ¬ 0 < p := by omega
    by_cases q0 : 0 < q
    · have G := Lib.hid (show splB a b x y = true from by rw [BB.out]; simp [p0, q0])
      go_wp2
      go_ret
      exact ⟨ret_boolM G.out.symm, B2.out⟩
    · have G := Lib.hid (show splB a b x y = false from by rw [BB.out]; simp [d1, q0])
      go_wp2
      go_ret
      exact ⟨ret_boolM G.out.symm, B2.out⟩
  · have d1 : ¬ 0 < p := by omega
    have d2 : ¬ p < 0 := by omega
    have G := Lib.hid (show splB a b x y = false from by rw [BB.out]; simp [d1, d2])
    clear p0
    go_wp2
    go_ret
    exact ⟨ret_boolM G.out.symm, B2.out⟩
  · have d2 : ¬ p < 0 := by omega
    by_cases q0 : q < 0
    · have G := Lib.hid (show splB a b x y = true from by rw [BB.out]; simp [p0, q0])
      go_wp2
      go_ret
      exact ⟨ret_boolM G.out.symm, B2.out⟩
    · have G := Lib.hid (show splB a b x y = false from by rw [BB.out]; simp [d2, q0])
      go_wp2
      go_ret
      exact ⟨ret_boolM G.out.symm, B2.out⟩
set_option maxHeartbeats 6400000 in
set_option maxRecDepth 100000 in
theorem l10Cross_any (a b x y : VCorner) (w : World) (ha : okC a = true) (hb : okC b = true) (hx : okC x = true) (hy : okC y = true) :
    Calls Try.prog 111 #[.agg #[.int .i64 a.X, .int .i64 a.Y], .agg #[.int .i64 b.X, .int .i64 b.Y], .agg #[.int .i64 x.X, .int .i64 x.Y], .agg #[.int .i64 y.X, .int .i64 y.Y]] w fun e w' => e = .returned (.bool (crossB a b x y)) ∧ Below w.heap.size w w' := by
  have O1 := Lib.hid ha
  have O2 := Lib.hid hb
  have O3 := Lib.hid hx
  have O4 := Lib.hid hy
  obtain ⟨q1, h1⟩ : ∃ t, onB a b x = t := ⟨_, rfl⟩
  obtain ⟨q2, h2⟩ : ∃ t, onB a b y = t := ⟨_, rfl⟩
  obtain ⟨q3, h3⟩ : ∃ t, onB x y a = t := ⟨_, rfl⟩
  obtain ⟨q4, h4⟩ : ∃ t, onB x y b = t := ⟨_, rfl⟩
  obtain ⟨q5, h5⟩ : ∃ t, splB a b x y = t := ⟨_, rfl⟩
  obtain ⟨q6, h6⟩ : ∃ t, splB x y a b = t := ⟨_, rfl⟩
  have BB := Lib.hid (show crossB a b x y = (q1 || (q2 || (q3 || (q4 || (q5 && q6))))) from by rw [crossB_or, h1, h2, h3, h4, h5, h6])
  have H1 := Lib.hid h1
  have H2 := Lib.hid h2
  have H3 := Lib.hid h3
  have H4 := Lib.hid h4
  have H5 := Lib.hid h5
  have H6 := Lib.hid h6
  clear ha hb hx hy h1 h2 h3 h4 h5 h6
  have X0 := Lib.hid (show BoxCorner ((((w.alloc (.cells #[.int .i64 a.X, .int .i64 a.Y] 103)).alloc (.cells #[.int .i64 b.X, .int .i64 b.Y] 103)).alloc (.cells #[.int .i64 x.X, .int .i64 x.Y] 103)).alloc (.cells #[.int .i64 y.X, .int .i64 y.Y] 103)) (w.heap.size) a from (((BoxCorner.new w 103 a _ rfl).below (bel_al1 _ _)).below (bel_al1 _ _)).below (bel_al1 _ _))
  have X1 := Lib.hid (show BoxCorner ((((w.alloc (.cells #[.int .i64 a.X, .int .i64 a.Y] 103)).alloc (.cells #[.int .i64 b.X, .int .i64 b.Y] 103)).alloc (.cells #[.int .i64 x.X, .int .i64 x.Y] 103)).alloc (.cells #[.int .i64 y.X, .int .i64 y.Y] 103)) (w.heap.size + 1) b from ((BoxCorner.new (w.alloc (.cells #[.int .i64 a.X, .int .i64 a.Y] 103)) 103 b (w.heap.size + 1) (by simp)).below (bel_al1 _ _)).below (bel_al1 _ _))
  have X2 := Lib.hid (show BoxCorner ((((w.alloc (.cells #[.int .i64 a.X, .int .i64 a.Y] 103)).alloc (.cells #[.int .i64 b.X, .int .i64 b.Y] 103)).alloc (.cells #[.int .i64 x.X, .int .i64 x.Y] 103)).alloc (.cells #[.int .i64 y.X, .int .i64 y.Y] 103)) (w.heap.size + 2) x from (BoxCorner.new ((w.alloc (.cells #[.int .i64 a.X, .int .i64 a.Y] 103)).alloc (.cells #[.int .i64 b.X, .int .i64 b.Y] 103)) 103 x (w.heap.size + 2) (by simp)).below (bel_al1 _ _))
  have X3 := Lib.hid (show BoxCorner ((((w.alloc (.cells #[.int .i64 a.X, .int .i64 a.Y] 103)).alloc (.cells #[.int .i64 b.X, .int .i64 b.Y] 103)).alloc (.cells #[.int .i64 x.X, .int .i64 x.Y] 103)).alloc (.cells #[.int .i64 y.X, .int .i64 y.Y] 103)) (w.heap.size + 3) y from BoxCorner.new (((w.alloc (.cells #[.int .i64 a.X, .int .i64 a.Y] 103)).alloc (.cells #[.int .i64 b.X, .int .i64 b.Y] 103)).alloc (.cells #[.int .i64 x.X, .int .i64 x.Y] 103)) 103 y (w.heap.size + 3) (by simp))
  have B0 := Lib.hid (show Below w.heap.size w ((((w.alloc (.cells #[.int .i64 a.X, .int .i64 a.Y] 103)).alloc (.cells #[.int .i64 b.X, .int .i64 b.Y] 103)).alloc (.cells #[.int .i64 x.X, .int .i64 x.Y] 103)).alloc (.cells #[.int .i64 y.X, .int .i64 y.Y] 103)) from (Below.then' (Below.then' (Below.then' (Below.then' (Below.refl w.heap.size w) (bel_al1 _ (.cells #[.int .i64 a.X, .int .i64 a.Y] 103))) (bel_al1 _ (.cells #[.int .i64 b.X, .int .i64 b.Y] 103))) (bel_al1 _ (.cells #[.int .i64 x.X, .int .i64 x.Y] 103))) (bel_al1 _ (.cells #[.int .i64 y.X, .int .i64 y.Y] 103))))
  go_enter Try.func111, Try.ntmps111
  go_wp2_with fail
  refine (l10On_any a b x _ O1.out O2.out O3.out).mono ?_
  rintro e w1 ⟨rfl, hb⟩
  rw [H1.out]
  have B1 := Lib.hid (Below.then' B0.out hb)
  have Y0 := Lib.hid (X0.out.below hb)
  have Y1 := Lib.hid (X1.out.below hb)
  have Y2 := Lib.hid (X2.out.below hb)
  have Y3 := Lib.hid (X3.out.below hb)
  obtain ⟨c0, c1⟩ := Y0.out
  obtain ⟨c2, c3⟩ := Y1.out
  obtain ⟨c4, c5⟩ := Y2.out
  obtain ⟨c6, c7⟩ := Y3.out
  clear hb X0 X1 X2 X3
  have X0 := Y0
  have X1 := Y1
  have X2 := Y2
  have X3 := Y3
  clear Y0 Y1 Y2 Y3
  cases q1
  case true =>
    go_wp2
    go_ret
    exact ⟨ret_boolM (by rw [BB.out]; rfl), B1.out⟩
  go_wp2_with fail
  refine (l10On_any a b y _ O1.out O2.out O4.out).mono ?_
  rintro e w2 ⟨rfl, hb⟩
  rw [H2.out]
  have B2 := Lib.hid (Below.then' B1.out hb)
  clear c0 c1 c2 c3 c4 c5 c6 c7
  have Y0 := Lib.hid (X0.out.below hb)
  have Y1 := Lib.hid (X1.out.below hb)
  have Y2 := Lib.hid (X2.out.below hb)
  have Y3 := Lib.hid (X3.out.below hb)
  obtain ⟨c0, c1⟩ := Y0.out
  obtain ⟨c2, c3⟩ := Y1.out
  obtain ⟨c4, c5⟩ := Y2.out
  obtain ⟨c6, c7⟩ := Y3.out
  clear hb X0 X1 X2 X3
  have X0 := Y0
  have X1 := Y1
  have X2 := Y2
  have X3 := Y3
  clear Y0 Y1 Y2 Y3
  cases q2
  case true =>
    go_wp2
    go_ret
    exact ⟨ret_boolM (by rw [BB.out]; rfl), B2.out⟩
  go_wp2_with fail
  refine (l10On_any x y a _ O3.out O4.out O1.out).mono ?_
  rintro e w3 ⟨rfl, hb⟩
  rw [H3.out]
  have B3 := Lib.hid (Below.then' B2.out hb)
  clear c0 c1 c2 c3 c4 c5 c6 c7
  have Y0 := Lib.hid (X0.out.below hb)
  have Y1 := Lib.hid (X1.out.below hb)
  have Y2 := Lib.hid (X2.out.below hb)
  have Y3 := Lib.hid (X3.out.below hb)
  obtain ⟨c0, c1⟩ := Y0.out
  obtain ⟨c2, c3⟩ := Y1.out
  obtain ⟨c4, c5⟩ := Y2.out
  obtain ⟨c6, c7⟩ := Y3.out
  clear hb X0 X1 X2 X3
  have X0 := Y0
  have X1 := Y1
  have X2 := Y2
  have X3 := Y3
  clear Y0 Y1 Y2 Y3
  cases q3
  case true =>
    go_wp2
    go_ret
    exact ⟨ret_boolM (by rw [BB.out]; rfl), B3.out⟩
  go_wp2_with fail
  refine (l10On_any x y b _ O3.out O4.out O2.out).mono ?_
  rintro e w4 ⟨rfl, hb⟩
  rw [H4.out]
  have B4 := Lib.hid (Below.then' B3.out hb)
  clear c0 c1 c2 c3 c4 c5 c6 c7
  have Y0 := Lib.hid (X0.out.below hb)
  have Y1 := Lib.hid (X1.out.below hb)
  have Y2 := Lib.hid (X2.out.below hb)
  have Y3 := Lib.hid (X3.out.below hb)
  obtain ⟨c0, c1⟩ := Y0.out
  obtain ⟨c2, c3⟩ := Y1.out
  obtain ⟨c4, c5⟩ := Y2.out
  obtain ⟨c6, c7⟩ := Y3.out
  clear hb X0 X1 X2 X3
  have X0 := Y0
  have X1 := Y1
  have X2 := Y2
  have X3 := Y3
  clear Y0 Y1 Y2 Y3
  cases q4
  case true =>
    go_wp2
    go_ret
    exact ⟨ret_boolM (by rw [BB.out]; rfl), B4.out⟩
  go_wp2_with fail
  refine (l10Split_any a b x y _ O1.out O2.out O3.out O4.out).mono ?_
  rintro e w5 ⟨rfl, hb⟩
  rw [H5.out]
  have B5 := Lib.hid (Below.then' B4.out hb)
  clear c0 c1 c2 c3 c4 c5 c6 c7
  have Y0 := Lib.hid (X0.out.below hb)
  have Y1 := Lib.hid (X1.out.below hb)
  have Y2 := Lib.hid (X2.out.below hb)
  have Y3 := Lib.hid (X3.out.below hb)
  obtain ⟨c0, c1⟩ := Y0.out
  obtain ⟨c2, c3⟩ := Y1.out
  obtain ⟨c4, c5⟩ := Y2.out
  obtain ⟨c6, c7⟩ := Y3.out
  clear hb X0 X1 X2 X3
  have X0 := Y0
  have X1 := Y1
  have X2 := Y2
  have X3 := Y3
  clear Y0 Y1 Y2 Y3
  cases q5
  case false =>
    go_wp2
    go_ret
    exact ⟨ret_boolM (by rw [BB.out]; rfl), B5.out⟩
  go_wp2_with fail
  refine (l10Split_any x y a b _ O3.out O4.out O1.out O2.out).mono ?_
  rintro e w6 ⟨rfl, hb⟩
  rw [H6.out]
  have B6 := Lib.hid (Below.then' B5.out hb)
  clear c0 c1 c2 c3 c4 c5 c6 c7
  have Y0 := Lib.hid (X0.out.below hb)
  have Y1 := Lib.hid (X1.out.below hb)
  have Y2 := Lib.hid (X2.out.below hb)
  have Y3 := Lib.hid (X3.out.below hb)
  obtain ⟨c0, c1⟩ := Y0.out
  obtain ⟨c2, c3⟩ := Y1.out
  obtain ⟨c4, c5⟩ := Y2.out
  obtain ⟨c6, c7⟩ := Y3.out
  clear hb X0 X1 X2 X3
  have X0 := Y0
  have X1 := Y1
  have X2 := Y2
  have X3 := Y3
  clear Y0 Y1 Y2 Y3
  go_wp2
  go_ret
  exact ⟨ret_boolM (by rw [BB.out]; cases q6 <;> rfl), B6.out⟩
end Go.Proofs.Ytpnaciamnigbnaa
