/- Roads in the model: crossing parts, clear roads. -/
import Derived.Test.YtpnaciamnigbnaaRos9
import Derived.Test.YtpnaciamnigbnaaCrossingPartsP
import Derived.Test.YtpnaciamnigbnaaIsClearRoadP
namespace Go.Proofs.Ytpnaciamnigbnaa
open Go.RowKit

theorem made_ownIntA2M (w : World) (base : Nat) (h : base ≤ w.heap.size) : (w.alloc (.cells #[] 34)).ownsRow base 34 2 (.slice (some ⟨w.heap.size, 0, none⟩) 0 0) ([] : List VIntA2).length (cellsIntA2 []) :=
  World.ownsRow_made (base := base) (e := 34) (size := 2) w #[] 0 h (Nat.zero_le _) rfl
theorem ret_bbM {a b p q : Bool} (h : a = b) (k : p = q) : Ending.returned (.tuple #[.bool a, .bool p]) = .returned (.tuple #[.bool b, .bool q]) := by rw [h, k]
set_option maxHeartbeats 12800000 in
set_option maxRecDepth 100000 in
theorem specCrossingParts_any (a0 : Option Addr) (n0 c0 : Nat) (xs : List VCorner) (a1 : Option Addr) (n1 c1 : Nat) (ys : List VCorner) (w : World) (h0 : IsCornerS w a0 n0 c0 xs) (_ : condCorner xs) (h1 : IsCornerS w a1 n1 c1 ys) (_ : condCorner ys) :
    Calls Try.prog 49 #[.slice a0 n0 c0, .slice a1 n1 c1] w (CrossingParts_Post xs ys w) := by
  obtain ⟨ri, hi, hz0, hz1, hz2⟩ := info_parts infoIntA2
  have S0 := Lib.hid h0
  have S1 := Lib.hid h1
  obtain rfl := h0.1
  obtain rfl := h1.1
  clear h0 h1
  obtain ⟨qa, hqa⟩ : ∃ q, roadB xs = q := ⟨_, rfl⟩
  obtain ⟨qb, hqb⟩ : ∃ q, roadB ys = q := ⟨_, rfl⟩
  have QA := Lib.hid hqa
  have QB := Lib.hid hqb
  have F1 := Lib.hid (show CrossingParts_1 xs ys = (qa && qb) from by unfold CrossingParts_1; rw [hqa, hqb])
  have F0 := Lib.hid (show CrossingParts_0 xs ys = if (qa && qb) = true then pairsTo (crossAt xs ys) (ys.length - 1) (xs.length - 1) else [] from by unfold CrossingParts_0; rw [hqa, hqb])
  clear hqa hqb
  have B0 := Lib.hid (bel_al1 w (.cells #[] 34))
  have M0 := Lib.hid (made_ownIntA2M w w.heap.size (Nat.le_refl _))
  go_enter Try.func49, Try.ntmps49
  go_wp2_with fail
  refine (l10Good_any _ _ _ xs _ (S0.out.below B0.out)).mono ?_
  rintro e w1 ⟨rfl, hb⟩
  rw [QA.out]
  have B1 := Lib.hid (Below.then' B0.out hb)
  have M1 := Lib.hid (ownsRow_below M0.out hb)
  clear hb
  cases qa
  · have G0 := Lib.hid (show CrossingParts_0 xs ys = [] from F0.out)
    have G1 := Lib.hid (show CrossingParts_1 xs ys = false from F1.out)
    have OO := Lib.hid (OwnIn.of_row (lo := w.heap.size) (hi := w1.heap.size) M1.out (Nat.le_refl _) (Nat.le_refl _))
    clear F0 F1
    go_wp2
    go_ret2
    exact ⟨_, by rw [G1.out]; rfl, by rw [G0.out]; exact OO.out, B1.out⟩
  go_wp2_with fail
  refine (l10Good_any _ _ _ ys _ (S1.out.below B1.out)).mono ?_
  rintro e w2 ⟨rfl, hb⟩
  rw [QB.out]
  have B2 := Lib.hid (Below.then' B1.out hb)
  have M2 := Lib.hid (ownsRow_below M1.out hb)
  clear hb
  cases qb
  · have G0 := Lib.hid (show CrossingParts_0 xs ys = [] from F0.out)
    have G1 := Lib.hid (show CrossingParts_1 xs ys = false from F1.out)
    have OO := Lib.hid (OwnIn.of_row (lo := w.heap.size) (hi := w2.heap.size) M2.out (Nat.le_refl _) (Nat.le_refl _))
    clear F0 F1
    go_wp2
    go_ret2
    exact ⟨_, by rw [G1.out]; rfl, by rw [G0.out]; exact OO.out, B2.out⟩
  have G0 := Lib.hid (show CrossingParts_0 xs ys = pairsTo (crossAt xs ys) (ys.length - 1) (xs.length - 1) from F0.out)
  have G1 := Lib.hid (show CrossingParts_1 xs ys = true from F1.out)
  have RA := Lib.hid (road_iff.1 QA.out)
  have RB := Lib.hid (road_iff.1 QB.out)
  have la := RA.out.l12
  have la2 := RA.out.l2
  have lb := RB.out.l12
  have lb2 := RB.out.l2
  clear F0 F1
  go_wp2
  go_loopw [7, 6] (fun i o wr => ∃ k : Nat, k + 1 ≤ xs.length ∧ i = .int .i64 ((k + 1 : Nat) : Int) ∧ wr.ownsRow w.heap.size 34 2 o (pairsTo (crossAt xs ys) (ys.length - 1) k).length (cellsIntA2 (pairsTo (crossAt xs ys) (ys.length - 1) k)) ∧ Below w.heap.size w wr) (fun i _ _ => xs.length - (intOf i).toNat)
  case atStart => exact ⟨0, by omega, rfl, M2.out, B2.out⟩
  case round =>
    obtain ⟨i, hi1, rfl, hown, hbel⟩ := hrel
    have B := Lib.hid hbel
    have O := Lib.hid hown
    clear hown hbel
    have vi : IntKind.i64.wrap (((i + 1 : Nat) : Int) + 1) = ((i + 1 + 1 : Nat) : Int) := by rw [IntWalk.i64_in _ (by omega)]; omega
    by_cases hlt : i + 1 < xs.length
    · have hlt2 : ((i + 1 : Nat) : Int) < (xs.length : Int) := by omega
      have PS := Lib.hid (show pairsTo (crossAt xs ys) (ys.length - 1) (i + 1) = pairsTo (crossAt xs ys) (ys.length - 1) i ++ pairRow (crossAt xs ys) i (ys.length - 1) from rfl)
      have PL2 : (pairsTo (crossAt xs ys) (ys.length - 1) i).length ≤ 400 := Nat.le_trans (pairsTo_len _ _ i) (Nat.mul_le_mul (show i ≤ 20 by omega) (show ys.length - 1 ≤ 20 by omega))
      rename World => w0
      go_wp2
      go_loopw [8, 6] (fun j ov wr => ∃ k : Nat, k + 1 ≤ ys.length ∧ j = .int .i64 ((k + 1 : Nat) : Int) ∧ wr.ownsRow w.heap.size 34 2 ov (pairsTo (crossAt xs ys) (ys.length - 1) i ++ pairRow (crossAt xs ys) i k).length (cellsIntA2 (pairsTo (crossAt xs ys) (ys.length - 1) i ++ pairRow (crossAt xs ys) i k)) ∧ Below w.heap.size w wr) (fun j _ _ => ys.length - (intOf j).toNat)
      case atStart => exact ⟨0, by omega, rfl, by rw [show pairRow (crossAt xs ys) i 0 = [] from rfl, List.append_nil]; exact O.out, B.out⟩
      case round =>
        obtain ⟨k, hk, rfl, hown, hbel⟩ := hrel
        have BI := Lib.hid hbel
        have vk : IntKind.i64.wrap (((k + 1 : Nat) : Int) + 1) = ((k + 1 + 1 : Nat) : Int) := by rw [IntWalk.i64_in _ (by omega)]; omega
        by_cases hlk : k + 1 < ys.length
        · have hlk2 : ((k + 1 : Nat) : Int) < (ys.length : Int) := by omega
          have RS := Lib.hid (show pairsTo (crossAt xs ys) (ys.length - 1) i ++ pairRow (crossAt xs ys) i (k + 1) = (pairsTo (crossAt xs ys) (ys.length - 1) i ++ pairRow (crossAt xs ys) i k) ++ (if crossAt xs ys i k = true then [⟨(i : Int), (k : Int)⟩] else []) from by rw [pairRow_succ, List.append_assoc])
          have hle : (pairsTo (crossAt xs ys) (ys.length - 1) i ++ pairRow (crossAt xs ys) i k).length ≤ 420 := by rw [List.length_append]; have := pairRow_len (crossAt xs ys) i k; omega
          obtain ⟨G, hG⟩ : ∃ G, pairsTo (crossAt xs ys) (ys.length - 1) i ++ pairRow (crossAt xs ys) i k = G := ⟨_, rfl⟩
          rw [hG] at hown RS hle
          have OI := Lib.hid hown
          obtain ⟨r, hr⟩ : ∃ r, crossAt xs ys i k = r := ⟨_, rfl⟩
          rw [hr] at RS
          obtain ⟨b0, o0, rfl, hb0, hat0⟩ := (S0.out.below hbel).at (by omega)
          obtain ⟨b1, o1, rfl, hb1, hat1⟩ := (S1.out.below hbel).at (by omega)
          obtain ⟨c0, c1⟩ := hat0 i _ (at_ptC (by omega))
          obtain ⟨c2, c3⟩ := hat0 (i + 1) _ (at_ptC hlt)
          obtain ⟨d0, d1⟩ := hat1 k _ (at_ptC (by omega))
          obtain ⟨d2, d3⟩ := hat1 (k + 1) _ (at_ptC hlk)
          have A1 := RA.out.ok (i := i) (by omega)
          have A2 := RA.out.ok hlt
          have A3 := RB.out.ok (i := k) (by omega)
          have A4 := RB.out.ok hlk
          have HR := Lib.hid (show crossB (ptC xs i) (ptC xs (i + 1)) (ptC ys k) (ptC ys (k + 1)) = r from hr)
          have cC0 := Lib.hid (below_at (W := wr) (fun W' _ => HR.out ▸ l10Cross_any _ _ _ _ W' A1 A2 A3 A4))
          have hsz := BI.out.size
          clear hown hbel hG hr A1 A2 A3 A4 hat0 hat1 HR
          generalize ptC xs i = p1 at *
          generalize ptC xs (i + 1) = p2 at *
          generalize ptC ys k = p3 at *
          generalize ptC ys (k + 1) = p4 at *
          have cC := cC0.out
          have k0 := cell_regrown c0
          have k1 := cell_regrown c1
          have k2 := cell_regrown c2
          have k3 := cell_regrown c3
          have k4 := cell_regrown d0
          have k5 := cell_regrown d1
          have k6 := cell_regrown d2
          have k7 := cell_regrown d3
          have w1 : IntKind.i64.wrap (((i + 1 : Nat) : Int) - 1) = (i : Int) := by rw [IntWalk.i64_in _ (by omega)]; omega
          have w2 : IntKind.i64.wrap (((k + 1 : Nat) : Int) - 1) = (k : Int) := by rw [IntWalk.i64_in _ (by omega)]; omega
          have i0 : (0 : Int) ≤ (i : Int) := by omega
          have i1 : (i : Int) < (xs.length : Int) := by omega
          have i2 : (0 : Int) ≤ ((i + 1 : Nat) : Int) := by omega
          have i4 : (0 : Int) ≤ (k : Int) := by omega
          have i5 : (k : Int) < (ys.length : Int) := by omega
          have i6 : (0 : Int) ≤ ((k + 1 : Nat) : Int) := by omega
          clear c0 c1 c2 c3 d0 d1 d2 d3 cC0
          go_wp2
          refine wp_region_quiet_below (by kernel_rfl) (by kernel_rfl) ?_
          repeat (first | go_big_quiet_step (with_reducible exact cC _ _) | quiet_step (with_reducible exact cC _ _))
          refine wpQuiet_nil ?_
          intro W2 hw2
          have bw2 := below_of_re hw2
          have B3 := Lib.hid (Below.then' BI.out bw2)
          have O2 := Lib.hid (ownsRow_below OI.out bw2)
          have hs2 := B3.out.size
          clear hw2 bw2 cC k0 k1 k2 k3 k4 k5 k6 k7
          cases r
          · go_wp2
            go_roundw
            case rel => exact ⟨k + 1, by omega, rfl, by rw [RS.out]; simpa using O2.out, B3.out⟩
            case measure => simp [intOf]; omega
          · have hown3 := World.ownsRow.alloc O2.out (.cells #[.int .i64 (i : Int), .int .i64 (k : Int)] 34)
            have CELL := Lib.hid (cell_IntA2 W2 (⟨(i : Int), (k : Int)⟩ : VIntA2) 34)
            go_wp2_with (at_builtin; refine wpList_append_own _ rfl _ _ 27 rfl w.heap.size 34 ri (.agg #[.int .i64 0, .int .i64 0]) 2 16 Try.underlying27 hi hz0 hz1 hz2 rfl (by decide) _ _ _ rfl hown3 ⟨W2.heap.size, 0, none⟩ 1 1 (VIntA2.vals ⟨(i : Int), (k : Int)⟩) rfl rfl CELL.out (VIntA2.vals_one _) (by unfold maxLen; omega) (by omega) (by simp; omega) ?_; intro v' w4 hown' hgrow4 _)
            have FIN := Lib.hid (show w4.ownsRow w.heap.size 34 2 v' (pairsTo (crossAt xs ys) (ys.length - 1) i ++ pairRow (crossAt xs ys) i (k + 1)).length (cellsIntA2 (pairsTo (crossAt xs ys) (ys.length - 1) i ++ pairRow (crossAt xs ys) i (k + 1))) from by
              rw [RS.out, if_pos trivial, cellsIntA2_snoc, List.length_append]
              exact hown')
            go_roundw
            case rel => exact ⟨k + 1, by omega, rfl, by first | exact FIN.out | (have h := FIN.out; rw [List.length_append] at h; exact h), (Below.then' B3.out (wh_al1 _ _)).grown hgrow4 (by simp; omega) (fun j e => (hown3.lt j e).1)⟩
            case measure => simp [intOf]; omega
        · obtain rfl : k = ys.length - 1 := by omega
          have O2 := Lib.hid (show wr.ownsRow w.heap.size 34 2 _ (pairsTo (crossAt xs ys) (ys.length - 1) (i + 1)).length (cellsIntA2 (pairsTo (crossAt xs ys) (ys.length - 1) (i + 1))) from by rw [PS.out]; exact hown)
          have cn : ¬ ((ys.length - 1 + 1 : Nat) : Int) < (ys.length : Int) := by omega
          clear hown hbel
          go_wp2
          go_roundw
          case rel => exact ⟨i + 1, by omega, rfl, O2.out, BI.out⟩
          case measure => simp [intOf]; omega
    · obtain rfl : i = xs.length - 1 := by omega
      have cn : ¬ ((xs.length - 1 + 1 : Nat) : Int) < (xs.length : Int) := by omega
      have OO := Lib.hid (OwnIn.of_row (lo := w.heap.size) (hi := wr.heap.size) O.out (Nat.le_refl _) (Nat.le_refl _))
      go_wp2
      go_ret2
      exact ⟨_, by rw [G1.out]; rfl, by rw [G0.out]; exact OO.out, B.out⟩
end Go.Proofs.Ytpnaciamnigbnaa
