/- Roads in the program: joined. -/
import Derived.Test.YtpnaciamnigbnaaRoi1
import Derived.Test.YtpnaciamnigbnaaRcat
import Derived.Test.YtpnaciamnigbnaaRneq
import Derived.Test.YtpnaciamnigbnaaJoinRoadsP
namespace Go.Proofs.Ytpnaciamnigbnaa
open Go.RowKit

set_option maxHeartbeats 6400000 in
set_option maxRecDepth 100000 in
theorem implJoinRoads_any (a0 : Option Addr) (n0 c0 : Nat) (xs : List VCorner) (a1 : Option Addr) (n1 c1 : Nat) (ys : List VCorner) (w : World) (h0 : IsCornerS w a0 n0 c0 xs) (h1 : IsCornerS w a1 n1 c1 ys) :
    Calls Try.prog 51 #[.slice a0 n0 c0, .slice a1 n1 c1] w (JoinRoads_Post xs ys w) := by
  obtain ⟨ri, hi, hz0, hz1, hz2⟩ := info_parts infoCorner
  have S0 := Lib.hid h0
  have S1 := Lib.hid h1
  obtain rfl := h0.1
  obtain rfl := h1.1
  clear h0 h1
  obtain ⟨qa, hqa⟩ : ∃ q, roadB xs = q := ⟨_, rfl⟩
  obtain ⟨qb, hqb⟩ : ∃ q, roadB ys = q := ⟨_, rfl⟩
  have QA := Lib.hid hqa
  have QB := Lib.hid hqb
  have cA := below_at (W := w) (fun W' hW => hqa ▸ isRoad_any _ _ _ xs W' (S0.out.below hW))
  have cB := below_at (W := w) (fun W' hW => hqb ▸ isRoad_any _ _ _ ys W' (S1.out.below hW))
  clear hqa hqb
  go_enter Try.func51, Try.ntmps51
  cases qa
  · skip
    have F := Lib.hid (show joinB xs ys = false from by unfold joinB; rw [QA.out]; rfl)
    have F0 := Lib.hid (show JoinRoads_0 xs ys = [] from by unfold JoinRoads_0; rw [F.out]; rfl)
    have F1 := Lib.hid (show JoinRoads_1 xs ys = false from F.out)
    go_wp2
    refine wp_region_quiet_below (by kernel_rfl) (by kernel_rfl) ?_
    repeat (first | go_big_quiet_step (first | (with_reducible exact cA _ _) | (with_reducible exact cB _ _)) | quiet_step (first | (with_reducible exact cA _ _) | (with_reducible exact cB _ _)))
    refine wpQuiet_nil ?_
    intro W2 hw2
    have B2 := Lib.hid (below_of_re hw2)
    clear hw2 cA cB
    go_wp2
    go_ret2
    exact ⟨_, by rw [F1.out]; rfl, by rw [F0.out]; exact nil_OwnCornerS _ _ _, B2.out⟩
  cases qb
  · skip
    have F := Lib.hid (show joinB xs ys = false from by unfold joinB; rw [QA.out, QB.out]; rfl)
    have F0 := Lib.hid (show JoinRoads_0 xs ys = [] from by unfold JoinRoads_0; rw [F.out]; rfl)
    have F1 := Lib.hid (show JoinRoads_1 xs ys = false from F.out)
    go_wp2
    refine wp_region_quiet_below (by kernel_rfl) (by kernel_rfl) ?_
    repeat (first | go_big_quiet_step (first | (with_reducible exact cA _ _) | (with_reducible exact cB _ _)) | quiet_step (first | (with_reducible exact cA _ _) | (with_reducible exact cB _ _)))
    refine wpQuiet_nil ?_
    intro W2 hw2
    have B2 := Lib.hid (below_of_re hw2)
    clear hw2 cA cB
    go_wp2
    go_ret2
    exact ⟨_, by rw [F1.out]; rfl, by rw [F0.out]; exact nil_OwnCornerS _ _ _, B2.out⟩
  have RA := Lib.hid (road_iff.1 QA.out)
  have RB := Lib.hid (road_iff.1 QB.out)
  have la2 := RA.out.l2
  have la12 := RA.out.l12
  have lb2 := RB.out.l2
  have lb12 := RB.out.l12
  obtain ⟨b0, o0, rfl, hb0, hat0⟩ := S0.out.at (by omega)
  obtain ⟨b1, o1, rfl, hb1, hat1⟩ := S1.out.at (by omega)
  obtain ⟨d0, d1⟩ := hat0 (xs.length - 1) _ (at_ptC (by omega))
  obtain ⟨e0, e1⟩ := hat1 0 _ (at_ptC (by omega))
  have LC := Lib.hid (show lastC xs = ptC xs (xs.length - 1) from rfl)
  obtain ⟨r, hr⟩ : ∃ r, eqvCorner (lastC xs) (ptC ys 0) = r := ⟨_, rfl⟩
  have RR := Lib.hid (show joinB xs ys = (r && roadB (xs ++ ys.drop 1)) from by unfold joinB; rw [QA.out, QB.out, hr]; rfl)
  rw [LC.out] at hr
  obtain ⟨j, hj⟩ : ∃ j, xs.length - 1 = j := ⟨_, rfl⟩
  rw [hj] at d0 d1 hr
  generalize ptC xs j = p at *
  generalize ptC ys 0 = s at *
  have hneq : ∀ W : World, (binOp .neq 103 (.agg #[.int .i64 p.X, .int .i64 p.Y]) (.agg #[.int .i64 s.X, .int .i64 s.Y])).run Try.prog W = .ok (.bool (!r)) W := fun W => by rw [← hr]; exact neqCorner W p s
  simp only [Nat.zero_mul, Nat.add_zero] at e0 e1
  have v1 : IntKind.i64.wrap ((xs.length : Int) - 1) = (j : Int) := by rw [IntWalk.i64_in _ (by omega)]; omega
  have j0 : (0 : Int) ≤ (j : Int) := by omega
  have j1 : (j : Int) < (xs.length : Int) := by omega
  have j2 : (0 : Int) < (ys.length : Int) := by omega
  have k0 := cell_regrown d0
  have k1 := cell_regrown d1
  have k2 := cell_regrown e0
  have k3 := cell_regrown e1
  clear hat0 hat1 d0 d1 e0 e1 hr hj LC
  cases r
  · skip
    have F := Lib.hid (show joinB xs ys = false from by rw [RR.out]; rfl)
    have F0 := Lib.hid (show JoinRoads_0 xs ys = [] from by unfold JoinRoads_0; rw [F.out]; rfl)
    have F1 := Lib.hid (show JoinRoads_1 xs ys = false from F.out)
    go_wp2
    refine wp_region_quiet_below (by kernel_rfl) (by kernel_rfl) ?_
    repeat (first | go_big_quiet_step (first | (with_reducible exact cA _ _) | (with_reducible exact cB _ _)) | quiet_step (first | (with_reducible exact cA _ _) | (with_reducible exact cB _ _)))
    refine wpQuiet_nil ?_
    intro W2 hw2
    have B2 := Lib.hid (below_of_re hw2)
    clear hw2 cA cB k0 k1 k2 k3
    go_wp2
    go_ret2
    exact ⟨_, by rw [F1.out]; rfl, by rw [F0.out]; exact nil_OwnCornerS _ _ _, B2.out⟩
  go_wp2
  refine wp_region_quiet_below (by kernel_rfl) (by kernel_rfl) ?_
  repeat (first | go_big_quiet_step (first | (with_reducible exact cA _ _) | (with_reducible exact cB _ _)) | quiet_step (first | (with_reducible exact cA _ _) | (with_reducible exact cB _ _)))
  refine wpQuiet_nil ?_
  intro W2 hw2
  have B2 := Lib.hid (below_of_re hw2)
  have SA := Lib.hid (S0.out.below B2.out)
  have SB := Lib.hid (S1.out.below B2.out)
  have ldr : (ys.drop 1).length = ys.length - 1 := by simp
  obtain ⟨L, hL⟩ : ∃ L, xs ++ ys.drop 1 = L := ⟨_, rfl⟩
  have lL : L.length = xs.length + (ys.length - 1) := by rw [← hL, List.length_append, ldr]
  have HL := Lib.hid hL
  have hcap : ¬ c1 = 1 := by have := SB.out.2.1; omega
  have cp1 : (1 : Int) ≤ (ys.length : Int) := by omega
  have cp2 : (ys.length : Int) ≤ (c1 : Int) := by have := SB.out.2.1; omega
  have cm : c1 ≤ maxLen := SB.out.2.2.1
  unfold maxLen at cm
  have DR := Lib.hid (dropR (k := 1) SB.out (by omega))
  have bs2 := B2.out.size
  have JB := Lib.hid (show joinB xs ys = roadB L from by rw [RR.out, hL]; rfl)
  have J0 := Lib.hid (show JoinRoads_0 xs ys = if roadB L = true then L else [] from by unfold JoinRoads_0; rw [JB.out, hL])
  have J1 := Lib.hid (show JoinRoads_1 xs ys = roadB L from JB.out)
  clear hw2 cA cB k0 k1 k2 k3 hneq hL
  go_wp2_with fail
  refine (concatR_any W2.heap.size _ _ _ xs _ _ _ (ys.drop 1) _ (by simp [World.cell?_alloc_new]) (by simp [World.cell?_alloc_new]) (SA.out.below (bel_al1 _ _)) (IsCornerS.below DR.out (bel_al1 _ _)) (by omega)).mono ?_
  rintro e w3 ⟨v, rfl, hown, hb⟩
  have B3 := Lib.hid (Below.then' (Below.then' B2.out (bel_al1 _ _)) hb)
  rw [HL.out] at hown
  obtain ⟨va, vc, rfl, his, _⟩ := isCornerS_own hown
  have OO := Lib.hid (OwnIn.of_row (lo := w.heap.size) (hi := w3.heap.size) hown (by simp; omega) (Nat.le_refl _))
  have IS := Lib.hid his
  clear hb hown his lL ldr cp1 cp2 hcap
  obtain ⟨q, hq⟩ : ∃ q, roadB L = q := ⟨_, rfl⟩
  have Q := Lib.hid hq
  rw [hq] at J0 J1
  clear hq
  go_wp2_with fail
  refine (isRoad_any _ _ _ L _ IS.out).mono ?_
  rintro e w4 ⟨rfl, hb⟩
  rw [Q.out]
  have B4 := Lib.hid (Below.then' B3.out hb)
  have O4 := Lib.hid ((show OwnCornerS w.heap.size w3.heap.size w3 (.slice va L.length vc) L from OO.out).below hb)
  have s4 := hb.size
  clear hb
  cases q
  · go_wp2
    go_ret2
    exact ⟨_, by rw [J1.out]; rfl, by rw [J0.out]; exact nil_OwnCornerS _ _ _, B4.out⟩
  · go_wp2
    go_ret2
    exact ⟨_, by rw [J1.out]; rfl, by rw [J0.out]; exact O4.out.mono (Nat.le_refl _) s4, B4.out⟩
end Go.Proofs.Ytpnaciamnigbnaa
