/- Roads in the model: joined. -/
import Derived.Test.YtpnaciamnigbnaaRos5
import Derived.Test.YtpnaciamnigbnaaRcat
import Derived.Test.YtpnaciamnigbnaaRneq
import Derived.Test.YtpnaciamnigbnaaJoinRoadsP
namespace Go.Proofs.Ytpnaciamnigbnaa
open Go.RowKit

set_option maxHeartbeats 6400000 in
set_option maxRecDepth 100000 in
theorem specJoinRoads_any (a0 : Option Addr) (n0 c0 : Nat) (xs : List VCorner) (a1 : Option Addr) (n1 c1 : Nat) (ys : List VCorner) (w : World) (h0 : IsCornerS w a0 n0 c0 xs) (_ : condCorner xs) (h1 : IsCornerS w a1 n1 c1 ys) (_ : condCorner ys) :
    Calls Try.prog 52 #[.slice a0 n0 c0, .slice a1 n1 c1] w (JoinRoads_Post xs ys w) := by
  obtain ⟨ri, hi, hz0, hz1, hz2⟩ := info_parts infoCorner
  have S0 := Lib.hid h0
  have S1 := Lib.hid h1
  obtain rfl := h0.1
  obtain rfl := h1.1
  clear h0 h1
  obtain ⟨qa, hqa⟩ : ∃ q, roadB xs = q := ⟨_, rfl⟩
  obtain ⟨qb, hqb⟩ : ∃ q, roadB ys = q := ⟨_, rfl⟩
  have QA := Lib.hid hqa
  have QB := Lib.hid hqb
  have cA := below_at (W := w) (fun W' hW => hqa ▸ l10Good_any _ _ _ xs W' (S0.out.below hW))
  have cB := below_at (W := w) (fun W' hW => hqb ▸ l10Good_any _ _ _ ys W' (S1.out.below hW))
  clear hqa hqb
  go_enter Try.func52, Try.ntmps52
  cases qa
  · skip
    have F := Lib.hid (show joinB xs ys = false from by unfold joinB; rw [QA.out]; rfl)
    have F0 := Lib.hid (show JoinRoads_0 xs ys = [] from by unfold JoinRoads_0; rw [F.out]; rfl)
    have F1 := Lib.hid (show JoinRoads_1 xs ys = false from F.out)
    go_wp2
    refine wp_region_quiet_below (by kernel_rfl) (by kernel_rfl) ?_
    repeat (first | go_big_quiet_step (first | (with_reducible exact cA _ _) | (with_reducible exact cB _ _)) | quiet_step (first | (with_reducible exact cA _ _) | (with_reducible exact cB _ _)))
    refine wpQuiet_nil ?_
    intro W2 hw2
    have B2 := Lib.hid (below_of_re hw2)
    clear hw2 cA cB
    have OO := Lib.hid (OwnIn.of_row (lo := w.heap.size) (hi := (W2.alloc (.cells #[] 103)).heap.size) (made_ownCornerM W2 w.heap.size B2.out.size) (Nat.le_refl _) (Nat.le_refl _))
    go_wp2
    go_ret2
    exact ⟨_, by rw [F1.out]; rfl, by rw [F0.out]; exact OO.out, Below.then' B2.out (bel_al1 _ _)⟩
  cases qb
  · skip
    have F := Lib.hid (show joinB xs ys = false from by unfold joinB; rw [QA.out, QB.out]; rfl)
    have F0 := Lib.hid (show JoinRoads_0 xs ys = [] from by unfold JoinRoads_0; rw [F.out]; rfl)
    have F1 := Lib.hid (show JoinRoads_1 xs ys = false from F.out)
    go_wp2
    refine wp_region_quiet_below (by kernel_rfl) (by kernel_rfl) ?_
    repeat (first | go_big_quiet_step (first | (with_reducible exact cA _ _) | (with_reducible exact cB _ _)) | quiet_step (first | (with_reducible exact cA _ _) | (with_reducible exact cB _ _)))
    refine wpQuiet_nil ?_
    intro W2 hw2
    have B2 := Lib.hid (below_of_re hw2)
    clear hw2 cA cB
    have OO := Lib.hid (OwnIn.of_row (lo := w.heap.size) (hi := (W2.alloc (.cells #[] 103)).heap.size) (made_ownCornerM W2 w.heap.size B2.out.size) (Nat.le_refl _) (Nat.le_refl _))
    go_wp2
    go_ret2
    exact ⟨_, by rw [F1.out]; rfl, by rw [F0.out]; exact OO.out, Below.then' B2.out (bel_al1 _ _)⟩
  have RA := Lib.hid (road_iff.1 QA.out)
  have RB := Lib.hid (road_iff.1 QB.out)
  have la2 := RA.out.l2
  have la12 := RA.out.l12
  have lb2 := RB.out.l2
  have lb12 := RB.out.l12
  obtain ⟨b0, o0, rfl, hb0, hat0⟩ := S0.out.at (by omega)
  obtain ⟨b1, o1, rfl, hb1, hat1⟩ := S1.out.at (by omega)
  obtain ⟨d0, d1⟩ := hat0 (xs.length - 1) _ (at_ptC (by omega))
  obtain ⟨e0, e1⟩ := hat1 0 _ (at_ptC (by omega))
  have LC := Lib.hid (show lastC xs = ptC xs (xs.length - 1) from rfl)
  obtain ⟨r, hr⟩ : ∃ r, eqvCorner (lastC xs) (ptC ys 0) = r := ⟨_, rfl⟩
  have RR := Lib.hid (show joinB xs ys = (r && roadB (xs ++ ys.drop 1)) from by unfold joinB; rw [QA.out, QB.out, hr]; rfl)
  rw [LC.out] at hr
  obtain ⟨j, hj⟩ : ∃ j, xs.length - 1 = j := ⟨_, rfl⟩
  rw [hj] at d0 d1 hr
  generalize ptC xs j = p at *
  generalize ptC ys 0 = s at *
  have hneq : ∀ W : World, (binOp .neq 103 (.agg #[.int .i64 p.X, .int .i64 p.Y]) (.agg #[.int .i64 s.X, .int .i64 s.Y])).run Try.prog W = .ok (.bool (!r)) W := fun W => by rw [← hr]; exact neqCorner W p s
  simp only [Nat.zero_mul, Nat.add_zero] at e0 e1
  have v1 : IntKind.i64.wrap ((xs.length : Int) - 1) = (j : Int) := by rw [IntWalk.i64_in _ (by omega)]; omega
  have j0 : (0 : Int) ≤ (j : Int) := by omega
  have j1 : (j : Int) < (xs.length : Int) := by omega
  have j2 : (0 : Int) < (ys.length : Int) := by omega
  have k0 := cell_regrown d0
  have k1 := cell_regrown d1
  have k2 := cell_regrown e0
  have k3 := cell_regrown e1
  clear hat0 hat1 d0 d1 e0 e1 hr hj LC
  cases r
  · skip
    have F := Lib.hid (show joinB xs ys = false from by rw [RR.out]; rfl)
    have F0 := Lib.hid (show JoinRoads_0 xs ys = [] from by unfold JoinRoads_0; rw [F.out]; rfl)
    have F1 := Lib.hid (show JoinRoads_1 xs ys = false from F.out)
    go_wp2
    refine wp_region_quiet_below (by kernel_rfl) (by kernel_rfl) ?_
    repeat (first | go_big_quiet_step (first | (with_reducible exact cA _ _) | (with_reducible exact cB _ _)) | quiet_step (first | (with_reducible exact cA _ _) | (with_reducible exact cB _ _)))
    refine wpQuiet_nil ?_
    intro W2 hw2
    have B2 := Lib.hid (below_of_re hw2)
    clear hw2 cA cB k0 k1 k2 k3
    have OO := Lib.hid (OwnIn.of_row (lo := w.heap.size) (hi := (W2.alloc (.cells #[] 103)).heap.size) (made_ownCornerM W2 w.heap.size B2.out.size) (Nat.le_refl _) (Nat.le_refl _))
    go_wp2
    go_ret2
    exact ⟨_, by rw [F1.out]; rfl, by rw [F0.out]; exact OO.out, Below.then' B2.out (bel_al1 _ _)⟩
  go_wp2
  refine wp_region_quiet_below (by kernel_rfl) (by kernel_rfl) ?_
  repeat (first | go_big_quiet_step (first | (with_reducible exact cA _ _) | (with_reducible exact cB _ _)) | quiet_step (first | (with_reducible exact cA _ _) | (with_reducible exact cB _ _)))
  refine wpQuiet_nil ?_
  intro W2 hw2
  have B2 := Lib.hid (below_of_re hw2)
  have SA := Lib.hid (S0.out.below B2.out)
  have SB := Lib.hid (S1.out.below B2.out)
  have ldr : (ys.drop 1).length = ys.length - 1 := by simp
  obtain ⟨L, hL⟩ : ∃ L, xs ++ ys.drop 1 = L := ⟨_, rfl⟩
  have lL : L.length = xs.length + (ys.length - 1) := by rw [← hL, List.length_append, ldr]
  have HL := Lib.hid hL
  have hcap : ¬ c1 = 1 := by have := SB.out.2.1; omega
  have cp1 : (1 : Int) ≤ (ys.length : Int) := by omega
  have cp2 : (ys.length : Int) ≤ (c1 : Int) := by have := SB.out.2.1; omega
  have cm : c1 ≤ maxLen := SB.out.2.2.1
  unfold maxLen at cm
  have DR := Lib.hid (dropR (k := 1) SB.out (by omega))
  have bs2 := B2.out.size
  have JB := Lib.hid (show joinB xs ys = roadB L from by rw [RR.out, hL]; rfl)
  have J0 := Lib.hid (show JoinRoads_0 xs ys = if roadB L = true then L else [] from by unfold JoinRoads_0; rw [JB.out, hL])
  have J1 := Lib.hid (show JoinRoads_1 xs ys = roadB L from JB.out)
  clear hw2 cA cB k0 k1 k2 k3 hneq hL
  have M0 := Lib.hid (show ((W2.alloc (.cells #[] 103)).drew).ownsRow W2.heap.size 103 2 (.slice (some ⟨W2.heap.size, 0, none⟩) 0 0) 0 [] from ownsRow_below (made_ownCornerM W2 W2.heap.size (Nat.le_refl _)) (bel_drew' (Below.refl _ _)))
  have BD := Lib.hid (show Below W2.heap.size W2 (W2.alloc (.cells #[] 103)).drew from bel_drew' (bel_al1 _ _))
  have SA2 := Lib.hid (srcCorner (SA.out.below BD.out))
  have la := Lib.hid (show xs.length ≤ 1000 by omega)
  have EC := Lib.hid (show cellsCorner xs ++ cellsCorner (ys.drop 1) = cellsCorner L from by rw [← cellsCorner_append, HL.out])
  go_wp2
  go_region_held3 (fun _ => True) (exact trivial)
    (first
      | (refine step_append_list (by rfl) (.tmp 28) (.tmp 29) 47 (by rfl) W2.heap.size 103 ri (.agg #[.int .i64 0, .int .i64 0]) 2 16 Try.underlying47 hi hz0 hz1 hz2 (by rfl) (by decide) _ 0 [] (by rfl) M0.out _ xs.length _ (cellsCorner xs) (by rfl) SA2.out (one_Corner _) (by unfold maxLen; omega) (by omega) BD.out.size ?_; intro v5 w5 hown5 hgrow5; have O5 := Lib.hid hown5; have B5 := Lib.hid (BD.out.grown hgrow5 BD.out.size (fun p e => (M0.out.lt p e).1)); clear hown5 hgrow5)
      | (refine step_append_list (by rfl) (.tmp 30) (.tmp 32) 47 (by rfl) W2.heap.size 103 ri (.agg #[.int .i64 0, .int .i64 0]) 2 16 Try.underlying47 hi hz0 hz1 hz2 (by rfl) (by decide) _ _ _ (by rfl) O5.out _ (ys.length - 1) _ (cellsCorner (ys.drop 1)) (by rfl) (srcCorner (IsCornerS.below DR.out B5.out)) (one_Corner _) (by unfold maxLen; omega) (by omega) B5.out.size ?_; intro v6 w6 hown6 hgrow6; have O6 := Lib.hid hown6; have B6 := Lib.hid (B5.out.grown hgrow6 B5.out.size (fun p e => (O5.out.lt p e).1)); clear hown6 hgrow6))
  have hown := O6.out
  rw [List.nil_append, EC.out] at hown
  have hown7 := (show w6.ownsRow W2.heap.size 103 2 v6 L.length (cellsCorner L) from by rw [lL, show xs.length + (ys.length - 1) = 0 + xs.length + (ys.length - 1) by omega]; exact hown)
  obtain ⟨va, vc, rfl, his, _⟩ := isCornerS_own hown7
  have OO := Lib.hid (OwnIn.of_row (lo := w.heap.size) (hi := w6.heap.size) hown7 bs2 (Nat.le_refl _))
  have IS := Lib.hid his
  have B7 := Lib.hid (Below.then' B2.out B6.out)
  clear hown hown7 his lL ldr cp1 cp2 hcap O6 O5
  obtain ⟨q, hq⟩ : ∃ q, roadB L = q := ⟨_, rfl⟩
  have Q := Lib.hid hq
  rw [hq] at J0 J1
  clear hq
  go_wp2_with fail
  refine (l10Good_any _ _ _ L _ IS.out).mono ?_
  rintro e w4 ⟨rfl, hb⟩
  rw [Q.out]
  have B4 := Lib.hid (Below.then' B7.out hb)
  have O4 := Lib.hid ((show OwnCornerS w.heap.size w6.heap.size w6 (.slice va L.length vc) L from OO.out).below hb)
  have s4 := hb.size
  clear hb
  cases q
  · have ON := Lib.hid (OwnIn.of_row (lo := w.heap.size) (hi := (w4.alloc (.cells #[] 103)).heap.size) (made_ownCornerM w4 w.heap.size B4.out.size) (Nat.le_refl _) (Nat.le_refl _))
    go_wp2
    go_ret2
    exact ⟨_, by rw [J1.out]; rfl, by rw [J0.out]; exact ON.out, Below.then' B4.out (bel_al1 _ _)⟩
  · go_wp2
    go_ret2
    exact ⟨_, by rw [J1.out]; rfl, by rw [J0.out]; exact O4.out.mono (Nat.le_refl _) s4, B4.out⟩
end Go.Proofs.Ytpnaciamnigbnaa
