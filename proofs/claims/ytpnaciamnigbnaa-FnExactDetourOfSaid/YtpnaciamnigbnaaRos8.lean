/- Roads in the model: places along, detours. -/
import Derived.Test.YtpnaciamnigbnaaRos2
import Derived.Test.YtpnaciamnigbnaaPaper
import Derived.Test.YtpnaciamnigbnaaAlongRoadP
import Derived.Test.YtpnaciamnigbnaaDetourOfP
namespace Go.Proofs.Ytpnaciamnigbnaa
open Go.RowKit

theorem ret_iibM {a b c d : Int} {p q : Bool} (h : a = b) (h' : c = d) (k : p = q) : Ending.returned (.tuple #[.int .i64 a, .int .i64 c, .bool p]) = .returned (.tuple #[.int .i64 b, .int .i64 d, .bool q]) := by rw [h, h', k]
set_option maxHeartbeats 6400000 in
set_option maxRecDepth 100000 in
theorem specAlongRoad_any (a : Option Addr) (len cap : Nat) (xs : List VCorner) (n : Int) (w : World) (h : IsCornerS w a len cap xs) (_ : condCorner xs) :
    Calls Try.prog 75 #[.slice a len cap, .int .i64 n] w (AlongRoad_Post xs n w) := by
  have S := Lib.hid h
  obtain rfl := h.1
  clear h
  obtain ⟨q, hq⟩ : ∃ q, roadB xs = q := ⟨_, rfl⟩
  have Q := Lib.hid hq
  clear hq
  go_enter Try.func75, Try.ntmps75
  go_wp2_with fail
  refine (l10Good_any _ _ _ xs _ S.out).mono ?_
  rintro e w1 ⟨rfl, hb⟩
  rw [Q.out]
  have B1 := Lib.hid hb
  clear hb
  cases q
  · have AB := Lib.hid (show alongB xs n = false from by unfold alongB; rw [Q.out]; rfl)
    have F0 := Lib.hid (show AlongRoad_0 xs n = 0 from by unfold AlongRoad_0; rw [AB.out]; rfl)
    have F1 := Lib.hid (show AlongRoad_1 xs n = 0 from by unfold AlongRoad_1; rw [AB.out]; rfl)
    have F2 := Lib.hid (show AlongRoad_2 xs n = false from AB.out)
    go_wp2
    go_ret3
    exact ⟨ret_iibM F0.out.symm F1.out.symm F2.out.symm, B1.out⟩
  have R := Lib.hid (road_iff.1 Q.out)
  by_cases hn0 : n < 0
  · have AB := Lib.hid (show alongB xs n = false from by unfold alongB inB; rw [Q.out]; simp; omega)
    have F0 := Lib.hid (show AlongRoad_0 xs n = 0 from by unfold AlongRoad_0; rw [AB.out]; rfl)
    have F1 := Lib.hid (show AlongRoad_1 xs n = 0 from by unfold AlongRoad_1; rw [AB.out]; rfl)
    have F2 := Lib.hid (show AlongRoad_2 xs n = false from AB.out)
    go_wp2
    go_ret3
    exact ⟨ret_iibM F0.out.symm F1.out.symm F2.out.symm, B1.out⟩
  have lb := R.out.lenR_bd
  have l2 := R.out.l2
  have l12 := R.out.l12
  obtain ⟨T, hT⟩ : ∃ T, lenR xs = T := ⟨_, rfl⟩
  have HT := Lib.hid hT
  rw [hT] at lb
  clear hT
  go_wp2_with fail
  refine (l10Length_any _ _ _ xs _ (S.out.below B1.out) R.out).mono ?_
  rintro e w2 ⟨rfl, hb⟩
  rw [HT.out]
  have B2 := Lib.hid (Below.then' B1.out hb)
  clear hb
  by_cases hnT : (T : Int) < n
  · have AB := Lib.hid (show alongB xs n = false from by unfold alongB inB; rw [Q.out, HT.out]; simp; omega)
    have F0 := Lib.hid (show AlongRoad_0 xs n = 0 from by unfold AlongRoad_0; rw [AB.out]; rfl)
    have F1 := Lib.hid (show AlongRoad_1 xs n = 0 from by unfold AlongRoad_1; rw [AB.out]; rfl)
    have F2 := Lib.hid (show AlongRoad_2 xs n = false from AB.out)
    go_wp2
    go_ret3
    exact ⟨ret_iibM F0.out.symm F1.out.symm F2.out.symm, B2.out⟩
  have AB := Lib.hid (show alongB xs n = true from by unfold alongB inB; rw [Q.out, HT.out]; simp; omega)
  have F0 := Lib.hid (show AlongRoad_0 xs n = ((alongF xs xs.length 0 n).1 : Int) from by unfold AlongRoad_0; rw [AB.out]; rfl)
  have F1 := Lib.hid (show AlongRoad_1 xs n = (alongF xs xs.length 0 n).2 from by unfold AlongRoad_1; rw [AB.out]; rfl)
  have F2 := Lib.hid (show AlongRoad_2 xs n = true from AB.out)
  go_wp2
  go_loopw [7, 1] (fun i o wr => ∃ (p : Nat) (z : Int), p + 2 ≤ xs.length ∧ i = .int .i64 (p : Int) ∧ o = .int .i64 z ∧ 0 ≤ z ∧ z ≤ n ∧ alongF xs xs.length 0 n = alongF xs (xs.length - p) p z ∧ Below w.heap.size w wr) (fun i _ _ => xs.length - (intOf i).toNat)
  case atStart => exact ⟨0, n, by omega, rfl, rfl, by omega, Int.le_refl _, rfl, B2.out⟩
  case round =>
    obtain ⟨p, z, hp, rfl, rfl, z0, z1, hal, hbel⟩ := hrel
    have AL := Lib.hid hal
    have B := Lib.hid hbel
    clear hal
    have v1 : IntKind.i64.wrap ((p : Int) + 1) = ((p + 1 : Nat) : Int) := by rw [IntWalk.i64_in _ (by omega)]; omega
    have v3 : IntKind.i64.wrap ((p : Int) + 2) = (p : Int) + 2 := IntWalk.i64_in _ (by omega)
    by_cases hlt : p + 2 < xs.length
    · obtain ⟨b, o, rfl, hb, hat⟩ := (S.out.below hbel).at (by omega)
      obtain ⟨c0, c1⟩ := hat p _ (at_ptC (by omega))
      obtain ⟨d0, d1⟩ := hat (p + 1) _ (at_ptC (by omega))
      have AY := Lib.hid (show (partAt xs p : Int) ≤ z → alongF xs (xs.length - p) p z = alongF xs (xs.length - (p + 1)) (p + 1) (z - partAt xs p) from fun h2 => alongF_yes (by omega) h2)
      have AN := Lib.hid (show ¬ ((partAt xs p : Int) ≤ z) → alongF xs (xs.length - p) p z = (p, z) from fun h2 => alongF_no (fun h => h2 h.2) (xs.length - p))
      have O1 := Lib.hid (R.out.ok (i := p) (by omega))
      have O2 := Lib.hid (R.out.ok (i := p + 1) (by omega))
      have PB := R.out.part_bd (i := p) (by omega)
      have PP := Lib.hid (show partAt xs p = partL (ptC xs p) (ptC xs (p + 1)) from rfl)
      obtain ⟨d, hd⟩ : ∃ d, partAt xs p = d := ⟨_, rfl⟩
      rw [hd] at PB AY AN PP
      generalize ptC xs p = r at *
      generalize ptC xs (p + 1) = s at *
      have KP := Lib.hid (show ∀ W, Below wr.heap.size wr W → CornerAt W b (o + p * 2) r ∧ CornerAt W b (o + (p + 1) * 2) s from fun W hW => ⟨CornerAt.below ⟨c0, c1⟩ hW hb, CornerAt.below ⟨d0, d1⟩ hW hb⟩)
      have k0 := cell_regrown c0
      have k1 := cell_regrown c1
      have k2 := cell_regrown d0
      have k3 := cell_regrown d1
      have cP := below_at (W := wr) (fun W' _ => PP.out ▸ l10Part_any r s W' O1.out O2.out)
      have j0 : (0 : Int) ≤ (p : Int) := by omega
      have j1 : (p : Int) < (xs.length : Int) := by omega
      have j2 : (0 : Int) ≤ ((p + 1 : Nat) : Int) := by omega
      have j3 : ((p + 1 : Nat) : Int) < (xs.length : Int) := by omega
      have e1 : decide ((p : Int) + 2 < (xs.length : Int)) = true := by simp; omega
      have e2 : (p : Int) + 2 < (xs.length : Int) := by omega
      clear hat hd c0 c1 d0 d1 hbel
      by_cases hz : (d : Int) ≤ z
      · have AY2 := Lib.hid (AY.out hz)
        have v2 : IntKind.i64.wrap (z - (d : Int)) = z - (d : Int) := IntWalk.i64_in _ (by omega)
        go_wp2
        refine wp_region_quiet_below (by kernel_rfl) (by kernel_rfl) ?_
        repeat (first | go_big_quiet_step (exact cP _ _) | quiet_step (exact cP _ _))
        refine wpQuiet_nil ?_
        intro W2 hw2
        have bw := below_of_re hw2
        have B4 := Lib.hid (Below.then' B.out bw)
        obtain ⟨⟨c0, c1⟩, d0, d1⟩ := KP.out _ bw
        clear hw2 bw cP k0 k1 k2 k3
        have k0 := cell_regrown c0
        have k1 := cell_regrown c1
        have k2 := cell_regrown d0
        have k3 := cell_regrown d1
        have cP := below_at (W := W2) (fun W' _ => PP.out ▸ l10Part_any r s W' O1.out O2.out)
        clear c0 c1 d0 d1
        go_wp2
        refine wp_region_quiet_below (by kernel_rfl) (by kernel_rfl) ?_
        repeat (first | go_big_quiet_step (exact cP _ _) | quiet_step (exact cP _ _))
        refine wpQuiet_nil ?_
        intro W3 hw3
        have B5 := Lib.hid (Below.then' B4.out (below_of_re hw3))
        clear hw3 cP k0 k1 k2 k3
        go_wp2
        go_roundw
        case rel => exact ⟨p + 1, z - (d : Int), by omega, rfl, rfl, by omega, by omega, by rw [AL.out, AY2.out], B5.out⟩
        case measure => simp [intOf]; omega
      · have AE := Lib.hid (show alongF xs xs.length 0 n = (p, z) from by rw [AL.out, AN.out (by omega)])
        have cz : ¬ (d : Int) ≤ z := hz
        have cz2 : decide ((d : Int) ≤ z) = false := by simpa using hz
        clear hz AY AN AL
        go_wp2
        refine wp_region_quiet_below (by kernel_rfl) (by kernel_rfl) ?_
        repeat (first | go_big_quiet_step (exact cP _ _) | quiet_step (exact cP _ _))
        refine wpQuiet_nil ?_
        intro W2 hw2
        have B4 := Lib.hid (Below.then' B.out (below_of_re hw2))
        clear hw2 cP k0 k1 k2 k3
        go_wp2
        go_ret3
        exact ⟨ret_iibM (by rw [F0.out, AE.out]) (by rw [F1.out, AE.out]) F2.out.symm, B4.out⟩
    · have AE := Lib.hid (show alongF xs xs.length 0 n = (p, z) from by rw [AL.out]; exact alongF_no (fun h => by omega) _)
      have e1 : decide ((p : Int) + 2 < (xs.length : Int)) = false := by simp; omega
      have e2 : ¬ (p : Int) + 2 < (xs.length : Int) := by omega
      clear AL hbel
      go_wp2
      go_quiet (fail)
      have B4 := Lib.hid (Below.then' B.out (bel_drawn _ nq))
      go_wp2
      go_ret3
      exact ⟨ret_iibM (by rw [F0.out, AE.out]) (by rw [F1.out, AE.out]) F2.out.symm, B4.out⟩
set_option maxHeartbeats 6400000 in
set_option maxRecDepth 100000 in
theorem specDetourOf_any (a : Option Addr) (len cap : Nat) (xs : List VCorner) (w : World) (h : IsCornerS w a len cap xs) (_ : condCorner xs) :
    Calls Try.prog 57 #[.slice a len cap] w (DetourOf_Post xs w) := by
  have S := Lib.hid h
  obtain rfl := h.1
  clear h
  obtain ⟨q, hq⟩ : ∃ q, roadB xs = q := ⟨_, rfl⟩
  have Q := Lib.hid hq
  have cG := below_at (W := w) (fun W' hW => hq ▸ l10Good_any _ _ _ xs W' (S.out.below hW))
  clear hq
  go_enter Try.func57, Try.ntmps57
  cases q
  · have AB := Lib.hid (show detB xs = false from by unfold detB; rw [Q.out]; rfl)
    have F0 := Lib.hid (show DetourOf_0 xs = 0 from by unfold DetourOf_0; rw [AB.out]; rfl)
    have F1 := Lib.hid (show DetourOf_1 xs = 0 from by unfold DetourOf_1; rw [AB.out]; rfl)
    have F2 := Lib.hid (show DetourOf_2 xs = false from AB.out)
    go_wp2
    refine wp_region_quiet_below (by kernel_rfl) (by kernel_rfl) ?_
    repeat (first | go_big_quiet_step (exact cG _ _) | quiet_step (exact cG _ _))
    refine wpQuiet_nil ?_
    intro W2 hw2
    have B2 := Lib.hid (below_of_re hw2)
    clear hw2 cG
    go_wp2
    go_ret3
    exact ⟨ret_iibM F0.out.symm F1.out.symm F2.out.symm, B2.out⟩
  have R := Lib.hid (road_iff.1 Q.out)
  have lb := R.out.lenR_bd
  have l2 := R.out.l2
  have l12 := R.out.l12
  obtain ⟨T, hT⟩ : ∃ T, lenR xs = T := ⟨_, rfl⟩
  have HT := Lib.hid hT
  rw [hT] at lb
  obtain ⟨b, o, rfl, hb0, hat⟩ := S.out.at (by omega)
  have C0 := Lib.hid (hat 0 _ (at_ptC (by omega)))
  have C1 := Lib.hid (hat (xs.length - 1) _ (at_ptC (by omega)))
  have LC := Lib.hid (show lastC xs = ptC xs (xs.length - 1) from rfl)
  obtain ⟨r, hr⟩ : ∃ r, eqvCorner (ptC xs 0) (lastC xs) = r := ⟨_, rfl⟩
  have AB := Lib.hid (show detB xs = !r from by unfold detB; rw [Q.out, hr]; rfl)
  have DD := Lib.hid (show detD xs = partL (ptC xs 0) (lastC xs) from rfl)
  have OK0 := R.out.ok (i := 0) (by omega)
  have OK1 := R.out.ok (i := xs.length - 1) (by omega)
  have POS := Lib.hid (fun (h : r = false) => partL_pos OK0 (LC.out ▸ OK1) (hr.trans h))
  have PB := partL_bd OK0 (LC.out ▸ OK1 : okC (lastC xs) = true)
  rw [LC.out] at hr DD PB
  have POS2 := Lib.hid (LC.out ▸ POS.out)
  clear POS
  obtain ⟨j, hj⟩ : ∃ j, xs.length - 1 = j := ⟨_, rfl⟩
  rw [hj] at C1 hr OK1 DD PB POS2
  generalize ptC xs 0 = p at *
  generalize ptC xs j = s at *
  have O1 := Lib.hid OK0
  have O2 := Lib.hid OK1
  have heq : ∀ W : World, (binOp .eql 103 (.agg #[.int .i64 p.X, .int .i64 p.Y]) (.agg #[.int .i64 s.X, .int .i64 s.Y])).run Try.prog W = .ok (.bool r) W := fun W => by rw [← hr]; exact eqlCorner W p s
  have v1 : IntKind.i64.wrap ((xs.length : Int) - 1) = (j : Int) := by rw [IntWalk.i64_in _ (by omega)]; omega
  have j0 : (0 : Int) ≤ (j : Int) := by omega
  have j1 : (j : Int) < (xs.length : Int) := by omega
  have j2 : (0 : Int) < (xs.length : Int) := by omega
  have j3 : 0 < xs.length := by omega
  have KP := Lib.hid (show ∀ W, Below w.heap.size w W → CornerAt W b o p ∧ CornerAt W b (o + j * 2) s from fun W hW => ⟨by have := CornerAt.below C0.out hW hb0; simpa using this, CornerAt.below C1.out hW hb0⟩)
  obtain ⟨⟨c0, c1⟩, d0, d1⟩ := KP.out _ (Below.refl _ w)
  have k0 := cell_regrown c0
  have k1 := cell_regrown c1
  have k2 := cell_regrown d0
  have k3 := cell_regrown d1
  clear hat hT hj hr OK0 OK1 C0 C1 c0 c1 d0 d1
  cases r
  · have F0 := Lib.hid (show DetourOf_0 xs = ((T / Nat.gcd T (detD xs) : Nat) : Int) from by unfold DetourOf_0; rw [AB.out, HT.out]; rfl)
    have F1 := Lib.hid (show DetourOf_1 xs = ((detD xs / Nat.gcd T (detD xs) : Nat) : Int) from by unfold DetourOf_1; rw [AB.out, HT.out]; rfl)
    have F2 := Lib.hid (show DetourOf_2 xs = true from AB.out)
    have pos := POS2.out rfl
    obtain ⟨D, hD⟩ : ∃ D, detD xs = D := ⟨_, rfl⟩
    rw [← DD.out, hD] at pos PB
    rw [hD] at F0 F1 DD
    obtain ⟨u, hu⟩ : ∃ u, T / Nat.gcd T D = u := ⟨_, rfl⟩
    obtain ⟨v, hv⟩ : ∃ u, D / Nat.gcd T D = u := ⟨_, rfl⟩
    rw [hu] at F0
    rw [hv] at F1
    have RED := Lib.hid (show ∀ W', Calls Try.prog 116 #[.int .i64 (T : Int), .int .i64 (D : Int)] W' fun e w' => e = .returned (.tuple #[.int .i64 (u : Int), .int .i64 (v : Int)]) ∧ Below W'.heap.size W' w' from fun W' => by
      have h := l2Reduce_any T D W' (by omega) (by omega) (by omega)
      unfold LowPost at h
      rw [hu, hv] at h
      exact h)
    clear hD POS2 hu hv
    go_wp2
    refine wp_region_quiet_below (by kernel_rfl) (by kernel_rfl) ?_
    repeat (first | go_big_quiet_step (exact cG _ _) | quiet_step (exact cG _ _))
    refine wpQuiet_nil ?_
    intro W2 hw2
    have bw := below_of_re hw2
    have B2 := Lib.hid bw
    obtain ⟨⟨c0, c1⟩, d0, d1⟩ := KP.out _ bw
    clear hw2 cG k0 k1 k2 k3 heq bw
    have k0 := cell_regrown c0
    have k1 := cell_regrown c1
    have k2 := cell_regrown d0
    have k3 := cell_regrown d1
    have cL := below_at (W := W2) (fun W' hW => HT.out ▸ l10Length_any _ _ _ xs W' ((S.out.below B2.out).below hW) R.out)
    have cP := below_at (W := W2) (fun W' _ => DD.out.symm ▸ l10Part_any p s W' O1.out O2.out)
    have cR := below_at (W := W2) (fun W' _ => RED.out W')
    clear c0 c1 d0 d1
    go_wp2
    refine wp_region_quiet_below (by kernel_rfl) (by kernel_rfl) ?_
    repeat (first | go_big_quiet_step (first | (with_reducible exact cL _ _) | (with_reducible exact cP _ _) | (with_reducible exact cR _ _)) | quiet_step (first | (with_reducible exact cL _ _) | (with_reducible exact cP _ _) | (with_reducible exact cR _ _)))
    refine wpQuiet_nil ?_
    intro W3 hw3
    have B3 := Lib.hid (Below.then' B2.out (below_of_re hw3))
    clear hw3 cL cP cR k0 k1 k2 k3
    go_wp2
    go_ret3
    exact ⟨ret_iibM F0.out.symm F1.out.symm F2.out.symm, B3.out⟩
  · have F0 := Lib.hid (show DetourOf_0 xs = 0 from by unfold DetourOf_0; rw [AB.out]; rfl)
    have F1 := Lib.hid (show DetourOf_1 xs = 0 from by unfold DetourOf_1; rw [AB.out]; rfl)
    have F2 := Lib.hid (show DetourOf_2 xs = false from AB.out)
    go_wp2
    refine wp_region_quiet_below (by kernel_rfl) (by kernel_rfl) ?_
    repeat (first | go_big_quiet_step (exact cG _ _) | quiet_step (exact cG _ _))
    refine wpQuiet_nil ?_
    intro W2 hw2
    have B2 := Lib.hid (below_of_re hw2)
    clear hw2 cG k0 k1 k2 k3
    go_wp2
    go_ret3
    exact ⟨ret_iibM F0.out.symm F1.out.symm F2.out.symm, B2.out⟩
end Go.Proofs.Ytpnaciamnigbnaa
