/- Roads in the model: clear roads. -/
import Derived.Test.YtpnaciamnigbnaaRos10
import Derived.Test.YtpnaciamnigbnaaRos5
namespace Go.Proofs.Ytpnaciamnigbnaa
open Go.RowKit

/-- What clear roads are, by the first part. -/
theorem clear_iff (xs : List VCorner) : clearB xs = true ↔ ∀ i, i < xs.length - 1 → ∀ j, j < xs.length - 1 → spoilC xs i j = false := by
  unfold clearB
  rw [List.isEmpty_iff, pairsTo_nil]
/-- Nothing spoils the road that begins at a part below i. -/
def clearTo (xs : List VCorner) (i : Nat) : Prop := ∀ p, p < i → ∀ j, j < xs.length - 1 → spoilC xs p j = false
def clearTo2 (xs : List VCorner) (i k : Nat) : Prop := ∀ j, j < k → j < xs.length - 1 → spoilC xs i j = false
theorem clear_bad {xs : List VCorner} {i j : Nat} (hi : i < xs.length - 1) (hj : j < xs.length - 1) (h : spoilC xs i j = true) : clearB xs = false := by
  cases hc : clearB xs
  · rfl
  · rw [clear_iff] at hc
    rw [hc i hi j hj] at h; cases h
theorem spoil_next (xs : List VCorner) (i : Nat) : spoilC xs i (i + 1) = (bendAtU xs (i + 1) == 98) := by unfold spoilC; rw [if_pos rfl]
theorem spoil_far (xs : List VCorner) {i j : Nat} (h : i + 1 < j) : spoilC xs i j = crossAt xs xs i j := by unfold spoilC; rw [if_neg (by omega), decide_eq_true (by omega)]; rfl
theorem spoil_near (xs : List VCorner) {i j : Nat} (h : j ≤ i) : spoilC xs i j = false := by unfold spoilC; rw [if_neg (by omega), decide_eq_false (by omega)]; rfl
set_option maxHeartbeats 12800000 in
set_option maxRecDepth 100000 in
theorem specIsClearRoad_any (a : Option Addr) (len cap : Nat) (xs : List VCorner) (w : World) (h : IsCornerS w a len cap xs) (_ : condCorner xs) :
    Calls Try.prog 60 #[.slice a len cap] w (IsClearRoad_Post xs w) := by
  have S := Lib.hid h
  obtain rfl := h.1
  clear h
  obtain ⟨q, hq⟩ : ∃ q, roadB xs = q := ⟨_, rfl⟩
  have Q := Lib.hid hq
  have F1 := Lib.hid (show IsClearRoad_1 xs = q from hq)
  have F0 := Lib.hid (show IsClearRoad_0 xs = (q && clearB xs) from by unfold IsClearRoad_0; rw [hq])
  clear hq
  go_enter Try.func60, Try.ntmps60
  go_wp2_with fail
  refine (l10Good_any _ _ _ xs _ S.out).mono ?_
  rintro e w1 ⟨rfl, hb⟩
  rw [Q.out]
  have B1 := Lib.hid hb
  clear hb
  cases q
  · have G0 := Lib.hid (show IsClearRoad_0 xs = false from F0.out)
    clear F0
    go_wp2
    go_ret2
    exact ⟨ret_bbM G0.out.symm F1.out.symm, B1.out⟩
  have R := Lib.hid (road_iff.1 Q.out)
  have G0 := Lib.hid (show IsClearRoad_0 xs = clearB xs from F0.out)
  have l12 := R.out.l12
  have l2 := R.out.l2
  clear F0
  go_wp2
  go_loopw [4] (fun i wr => ∃ k : Nat, k + 1 ≤ xs.length ∧ i = .int .i64 ((k + 1 : Nat) : Int) ∧ clearTo xs k ∧ Below w.heap.size w wr) (fun i _ => xs.length - (intOf i).toNat)
  case atStart => exact ⟨0, by omega, rfl, fun p hp => by omega, B1.out⟩
  case round =>
    obtain ⟨i, hi1, rfl, hcl, hbel⟩ := hrel
    have B := Lib.hid hbel
    have CL := Lib.hid hcl
    clear hcl
    have vi : IntKind.i64.wrap (((i + 1 : Nat) : Int) + 1) = ((i + 1 + 1 : Nat) : Int) := by rw [IntWalk.i64_in _ (by omega)]; omega
    have vj : IntKind.i64.wrap (((i + 1 : Nat) : Int) + 2) = ((i + 1 + 2 : Nat) : Int) := by rw [IntWalk.i64_in _ (by omega)]; omega
    by_cases hlt : i + 1 < xs.length
    · have hlt2 : ((i + 1 : Nat) : Int) < (xs.length : Int) := by omega
      obtain ⟨b, o, rfl, hb, hat⟩ := (S.out.below hbel).at (by omega)
      obtain ⟨c0, c1⟩ := hat i _ (at_ptC (by omega))
      obtain ⟨c2, c3⟩ := hat (i + 1) _ (at_ptC hlt)
      have w1 : IntKind.i64.wrap (((i + 1 : Nat) : Int) - 1) = (i : Int) := by rw [IntWalk.i64_in _ (by omega)]; omega
      have i0 : (0 : Int) ≤ (i : Int) := by omega
      have i1 : (i : Int) < (xs.length : Int) := by omega
      have i2 : (0 : Int) ≤ ((i + 1 : Nat) : Int) := by omega
      have k0 := cell_regrown c0
      have k1 := cell_regrown c1
      have k2 := cell_regrown c2
      have k3 := cell_regrown c3
      by_cases h2 : i + 2 < xs.length
      · obtain ⟨c4, c5⟩ := hat (i + 2) _ (at_ptC h2)
        have k4 := cell_regrown c4
        have k5 := cell_regrown c5
        have A1 := R.out.ok (i := i) (by omega)
        have A2 := R.out.ok hlt
        have A3 := R.out.ok h2
        obtain ⟨u, hu⟩ : ∃ u, bendAtU xs (i + 1) = u := ⟨_, rfl⟩
        have SN := Lib.hid (show spoilC xs i (i + 1) = (u == 98) from by rw [spoil_next, hu])
        have BA := Lib.hid (show bendS (ptC xs i) (ptC xs (i + 1)) (ptC xs (i + 2)) = strOf [u] from by rw [bendS_at, hu])
        have TL := strOf_toList [u]
        obtain ⟨U, hU⟩ : ∃ U, strOf [u] = U := ⟨_, rfl⟩
        rw [hU] at TL BA
        have cP0 := Lib.hid (below_at (W := wr) (fun W' _ => BA.out ▸ l10Bend_any _ _ _ W' A1 A2 A3))
        have v1 : IntKind.i64.wrap (((i + 1 : Nat) : Int) + 1) = ((i + 2 : Nat) : Int) := by rw [IntWalk.i64_in _ (by omega)]; omega
        have v2 : ((i + 2 : Nat) : Int) < (xs.length : Int) := by omega
        have v3 : (0 : Int) ≤ ((i + 2 : Nat) : Int) := by omega
        have dv : decide (((i + 2 : Nat) : Int) < (xs.length : Int)) = true := by simp; omega
        have dv2 : decide ((i : Int) + 1 + 1 < (xs.length : Int)) = true := by simp; omega
        have v4 : (i : Int) + 1 + 1 < (xs.length : Int) := by omega
        have v5 : (0 : Int) ≤ (i : Int) + 1 + 1 := by omega
        have v6 : ((i : Int) + 1 + 1).toNat = i + 2 := by omega
        have AT := Lib.hid (show ∀ W, Below wr.heap.size wr W → CornerAt W b (o + i * 2) (ptC xs i) ∧ CornerAt W b (o + (i + 1) * 2) (ptC xs (i + 1)) from fun W hW => ⟨CornerAt.below ⟨c0, c1⟩ hW hb, CornerAt.below ⟨c2, c3⟩ hW hb⟩)
        clear hu hU BA A1 A2 A3 c0 c1 c2 c3 c4 c5 hat hbel
        have OK1 := Lib.hid (R.out.ok (i := i) (by omega))
        have OK2 := Lib.hid (R.out.ok hlt)
        have CR0 := Lib.hid (show ∀ k, crossAt xs xs i k = crossB (ptC xs i) (ptC xs (i + 1)) (ptC xs k) (ptC xs (k + 1)) from fun k => rfl)
        generalize ptC xs i = p1 at *
        generalize ptC xs (i + 1) = p2 at *
        generalize ptC xs (i + 2) = p3 at *
        have cP := cP0.out
        clear cP0 vi
        by_cases h98 : u = 98
        · have e1 : (U.toList == [98]) = true := by rw [TL, h98]; rfl
          have G := Lib.hid (show clearB xs = false from clear_bad (i := i) (j := i + 1) (by omega) (by omega) (by rw [SN.out, h98]; rfl))
          clear h98 TL
          go_wp2
          refine wp_region_quiet_below (by kernel_rfl) (by kernel_rfl) ?_
          repeat (first | go_big_quiet_step (with_reducible exact cP _ _) | quiet_step (with_reducible exact cP _ _))
          refine wpQuiet_nil ?_
          intro W2 hw2
          have bw2 := below_of_re hw2
          have B3 := Lib.hid (Below.then' B.out bw2)
          clear hw2 bw2 cP k0 k1 k2 k3 k4 k5
          go_wp2
          go_ret2
          exact ⟨ret_bbM (by rw [G0.out, G.out]) F1.out.symm, B3.out⟩
        · have e1 : (U.toList == [98]) = false := by rw [TL]; simp [h98]
          have SF := Lib.hid (show spoilC xs i (i + 1) = false from by rw [SN.out]; simp [h98])
          clear h98 TL SN
          go_wp2
          refine wp_region_quiet_below (by kernel_rfl) (by kernel_rfl) ?_
          repeat (first | go_big_quiet_step (with_reducible exact cP _ _) | quiet_step (with_reducible exact cP _ _))
          refine wpQuiet_nil ?_
          intro W2 hw2
          have bw2 := below_of_re hw2
          have B3 := Lib.hid (Below.then' B.out bw2)
          have AT2 := Lib.hid (fun W hW => AT.out W (Below.then' bw2 hW))
          clear hw2 bw2 cP k0 k1 k2 k3 k4 k5 AT
          have vi : IntKind.i64.wrap (((i + 1 : Nat) : Int) + 1) = ((i + 1 + 1 : Nat) : Int) := by rw [IntWalk.i64_in _ (by omega)]; omega
          clear v1
          rename World => w0
          go_wp2
          go_loopw [5] (fun j wr => ∃ k : Nat, i + 2 ≤ k ∧ k + 1 ≤ xs.length ∧ j = .int .i64 ((k + 1 : Nat) : Int) ∧ clearTo2 xs i k ∧ Below w.heap.size w wr ∧ Below w0.heap.size w0 wr) (fun j _ => xs.length - (intOf j).toNat)
          case atStart => exact ⟨i + 2, by omega, by omega, by first | rfl | (congr 1; omega), fun j hj _ => by
            by_cases e : j = i + 1
            · subst e; exact SF.out
            · exact spoil_near xs (by omega), B3.out, Below.refl _ _⟩
          case round =>
            obtain ⟨k, hk0, hk, rfl, hc2, hbel, hbel2⟩ := hrel
            have C2 := Lib.hid hc2
            have BI := Lib.hid hbel
            have BI2 := Lib.hid hbel2
            have vk : IntKind.i64.wrap (((k + 1 : Nat) : Int) + 1) = ((k + 1 + 1 : Nat) : Int) := by rw [IntWalk.i64_in _ (by omega)]; omega
            clear hc2
            by_cases hlk : k + 1 < xs.length
            · have hlk2 : ((k + 1 : Nat) : Int) < (xs.length : Int) := by omega
              obtain ⟨⟨c0, c1⟩, c2, c3⟩ := AT2.out _ hbel2
              obtain ⟨b', o', e', _, hat⟩ := (S.out.below hbel).at (by omega)
              simp only [Option.some.injEq, Addr.mk.injEq, and_true] at e'
              obtain ⟨rfl, rfl⟩ := e'
              obtain ⟨d0, d1⟩ := hat k _ (at_ptC (by omega))
              obtain ⟨d2, d3⟩ := hat (k + 1) _ (at_ptC hlk)
              have A3 := R.out.ok (i := k) (by omega)
              have A4 := R.out.ok hlk
              obtain ⟨r, hr⟩ : ∃ r, crossAt xs xs i k = r := ⟨_, rfl⟩
              have SP := Lib.hid (show spoilC xs i k = r from by rw [spoil_far xs (by omega), hr])
              have HR := Lib.hid (show crossB p1 p2 (ptC xs k) (ptC xs (k + 1)) = r from by rw [← CR0.out k]; exact hr)
              have cC0 := Lib.hid (below_at (W := wr) (fun W' _ => HR.out ▸ l10Cross_any p1 p2 _ _ W' OK1.out OK2.out A3 A4))
              clear hr HR hat A3 A4 hbel hbel2
              generalize ptC xs k = p4 at *
              generalize ptC xs (k + 1) = p5 at *
              have cC := cC0.out
              have k0 := cell_regrown c0
              have k1 := cell_regrown c1
              have k2 := cell_regrown c2
              have k3 := cell_regrown c3
              have k4 := cell_regrown d0
              have k5 := cell_regrown d1
              have k6 := cell_regrown d2
              have k7 := cell_regrown d3
              have w2 : IntKind.i64.wrap (((k + 1 : Nat) : Int) - 1) = (k : Int) := by rw [IntWalk.i64_in _ (by omega)]; omega
              have i4 : (0 : Int) ≤ (k : Int) := by omega
              have i5 : (k : Int) < (xs.length : Int) := by omega
              have i6 : (0 : Int) ≤ ((k + 1 : Nat) : Int) := by omega
              clear c0 c1 c2 c3 d0 d1 d2 d3 cC0
              go_wp2
              refine wp_region_quiet_below (by kernel_rfl) (by kernel_rfl) ?_
              repeat (first | go_big_quiet_step (with_reducible exact cC _ _) | quiet_step (with_reducible exact cC _ _))
              refine wpQuiet_nil ?_
              intro W4 hw2
              have bw2 := below_of_re hw2
              have B5 := Lib.hid (Below.then' BI.out bw2)
              have BW := Lib.hid bw2
              clear hw2 bw2 cC k0 k1 k2 k3 k4 k5 k6 k7
              cases r
              · go_wp2
                go_roundw
                case rel => exact ⟨k + 1, by omega, by omega, rfl, fun j hj hj2 => by
                  by_cases e : j = k
                  · subst e; exact SP.out
                  · exact C2.out j (by omega) hj2, B5.out, Below.then' BI2.out BW.out⟩
                case measure => simp [intOf]; omega
              · have G := Lib.hid (show clearB xs = false from clear_bad (i := i) (j := k) (by omega) (by omega) SP.out)
                go_wp2
                go_ret2
                exact ⟨ret_bbM (by rw [G0.out, G.out]) F1.out.symm, B5.out⟩
            · obtain rfl : k = xs.length - 1 := by omega
              have cn : ¬ ((xs.length - 1 + 1 : Nat) : Int) < (xs.length : Int) := by omega
              clear hbel hbel2
              go_wp2
              go_roundw
              case rel => exact ⟨i + 1, by omega, rfl, fun p hp j hj => by
                by_cases e : p = i
                · subst e; exact C2.out j hj hj
                · exact CL.out p (by omega) j hj, BI.out⟩
              case measure => simp [intOf]; omega
      · have dv : decide (((i + 1 + 1 : Nat) : Int) < (xs.length : Int)) = false := by simp; omega
        have dv2 : decide ((i : Int) + 1 + 1 < (xs.length : Int)) = false := by simp; omega
        have dv3 : ¬ ((i + 1 + 1 : Nat) : Int) < (xs.length : Int) := by omega
        have dv4 : ¬ ((i + 1 + 2 : Nat) : Int) < (xs.length : Int) := by omega
        clear c0 c1 c2 c3 hat hbel
        go_wp2
        go_quiet (fail)
        have B3 := Lib.hid (Below.then' B.out (bel_drawn wr nq))
        clear k0 k1 k2 k3
        rename World => w0
        go_wp2
        go_loopw [5] (fun j wr => j = .int .i64 ((i + 1 + 2 : Nat) : Int) ∧ Below w.heap.size w wr) (fun j _ => 0)
        case atStart => exact ⟨by first | rfl | (congr 1; omega), B3.out⟩
        case round =>
          obtain ⟨rfl, hbel⟩ := hrel
          have BI := Lib.hid hbel
          clear hbel
          go_wp2
          go_roundw
          case rel => exact ⟨i + 1, by omega, rfl, fun p hp j hj => by
            by_cases e : p = i
            · subst e; exact spoil_near xs (by omega)
            · exact CL.out p (by omega) j hj, BI.out⟩
          case measure => simp [intOf]; omega
    · obtain rfl : i = xs.length - 1 := by omega
      have cn : ¬ ((xs.length - 1 + 1 : Nat) : Int) < (xs.length : Int) := by omega
      have G := Lib.hid (show clearB xs = true from (clear_iff xs).2 CL.out)
      clear hbel
      go_wp2
      go_ret2
      exact ⟨ret_bbM (by rw [G0.out, G.out]) F1.out.symm, B.out⟩
end Go.Proofs.Ytpnaciamnigbnaa
