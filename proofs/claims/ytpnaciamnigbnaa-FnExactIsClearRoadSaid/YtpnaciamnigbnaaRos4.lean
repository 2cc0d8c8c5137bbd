/- Roads in the model: texts of bends, plain roads, roads turned around. -/
import Derived.Test.YtpnaciamnigbnaaRos3
import Derived.Test.YtpnaciamnigbnaaReverseRoadP
namespace Go.Proofs.Ytpnaciamnigbnaa
open Go.RowKit

theorem bendS_at (xs : List VCorner) (k : Nat) : bendS (ptC xs k) (ptC xs (k + 1)) (ptC xs (k + 2)) = strOf [bendAtU xs (k + 1)] := rfl
theorem strOf_more (l : List UInt8) (x : UInt8) : strOf l ++ strOf [x] = strOf (l ++ [x]) := strOf_append l [x]
set_option maxHeartbeats 6400000 in
set_option maxRecDepth 100000 in
theorem specBendsOf_any (a : Option Addr) (len cap : Nat) (xs : List VCorner) (w : World) (h : IsCornerS w a len cap xs) (_ : condCorner xs) :
    Calls Try.prog 67 #[.slice a len cap] w (BendsOf_Post xs w) := by
  have hm := h.2.2.1
  have hcl := h.2.1
  unfold maxLen at hm
  obtain rfl := h.1
  have S := Lib.hid h
  clear h
  obtain ⟨q, hq⟩ : ∃ q, roadB xs = q := ⟨_, rfl⟩
  have Q := Lib.hid hq
  clear hq
  go_enter Try.func67, Try.ntmps67
  go_wp2_with fail
  refine (l10Good_any _ _ _ xs _ S.out).mono ?_
  rintro e w1 ⟨rfl, hb⟩
  rw [Q.out]
  have B1 := Lib.hid hb
  clear hb
  cases q
  · have F0 := Lib.hid (show BendsOf_0 xs = ByteArray.empty from by unfold BendsOf_0; rw [Q.out]; rfl)
    have F1 := Lib.hid (show BendsOf_1 xs = false from Q.out)
    go_wp2
    go_ret2
    exact ⟨ret_sbM F0.out.symm F1.out.symm, B1.out⟩
  have R := Lib.hid (road_iff.1 Q.out)
  have l2 := R.out.l2
  have l12 := R.out.l12
  have F0 := Lib.hid (show BendsOf_0 xs = strOf (bendsTo xs (xs.length - 2)) from by unfold BendsOf_0; rw [Q.out]; rfl)
  have F1 := Lib.hid (show BendsOf_1 xs = true from Q.out)
  go_wp2
  go_loopw [5, 4] (fun i o wr => ∃ k : Nat, k + 2 ≤ xs.length ∧ i = .int .i64 ((k + 2 : Nat) : Int) ∧ o = .string (strOf (bendsTo xs k)) ∧ Below w.heap.size w wr) (fun i _ _ => xs.length - (intOf i).toNat)
  case atStart => exact ⟨0, by omega, rfl, rfl, B1.out⟩
  case round =>
    obtain ⟨k, hk, rfl, rfl, hbel⟩ := hrel
    have B := Lib.hid hbel
    by_cases hlt : k + 2 < xs.length
    · obtain ⟨b, o, rfl, hb, hat⟩ := (S.out.below hbel).at (by omega)
      obtain ⟨c0, c1⟩ := hat k _ (at_ptC (by omega))
      obtain ⟨d0, d1⟩ := hat (k + 1) _ (at_ptC (by omega))
      obtain ⟨e0, e1⟩ := hat (k + 2) _ (at_ptC hlt)
      have o1 := R.out.ok (i := k) (by omega)
      have o2 := R.out.ok (i := k + 1) (by omega)
      have o3 := R.out.ok hlt
      have BS := Lib.hid (bendsTo_succ xs k)
      have BL := bendsTo_len xs k
      have BA := Lib.hid (bendS_at xs k)
      have SZ : (strOf (bendsTo xs k)).size ≤ 12 := by rw [strOf_size]; omega
      have SY := strOf_size [bendAtU xs (k + 1)]
      have SM := Lib.hid (strOf_more (bendsTo xs k) (bendAtU xs (k + 1)))
      obtain ⟨T, hT⟩ : ∃ T, strOf (bendsTo xs k) = T := ⟨_, rfl⟩
      obtain ⟨U, hU⟩ : ∃ T, strOf [bendAtU xs (k + 1)] = T := ⟨_, rfl⟩
      rw [hU] at BA SY SM
      rw [hT] at SZ SM
      rw [hT]
      have O1 := Lib.hid o1
      have O2 := Lib.hid o2
      have O3 := Lib.hid o3
      generalize ptC xs k = p at *
      generalize ptC xs (k + 1) = r at *
      generalize ptC xs (k + 2) = s at *
      have k0 := cell_regrown c0
      have k1 := cell_regrown c1
      have k2 := cell_regrown d0
      have k3 := cell_regrown d1
      have k4 := cell_regrown e0
      have k5 := cell_regrown e1
      have cP := below_at (W := wr) (fun W' _ => BA.out ▸ l10Bend_any p r s W' O1.out O2.out O3.out)
      have v1 : IntKind.i64.wrap (((k + 2 : Nat) : Int) - 2) = (k : Int) := by rw [IntWalk.i64_in _ (by omega)]; omega
      have v2 : IntKind.i64.wrap (((k + 2 : Nat) : Int) - 1) = ((k + 1 : Nat) : Int) := by rw [IntWalk.i64_in _ (by omega)]; omega
      have v6 : IntKind.i64.wrap (((k + 2 : Nat) : Int) + 1) = ((k + 1 + 2 : Nat) : Int) := by rw [IntWalk.i64_in _ (by omega)]; omega
      have SS : T.size + U.size ≤ 9223372036854775807 := by
        have : U.size = 1 := SY
        omega
      have j0 : (0 : Int) ≤ (k : Int) := by omega
      have j1 : (k : Int) < (xs.length : Int) := by omega
      have j2 : (0 : Int) ≤ ((k + 1 : Nat) : Int) := by omega
      have j3 : ((k + 1 : Nat) : Int) < (xs.length : Int) := by omega
      have j4 : (0 : Int) ≤ ((k + 2 : Nat) : Int) := by omega
      have j5 : ((k + 2 : Nat) : Int) < (xs.length : Int) := by omega
      clear hat c0 c1 d0 d1 e0 e1 hbel o1 o2 o3 hT hU BL SZ SY
      go_wp2
      refine wp_region_quiet_below (by kernel_rfl) (by kernel_rfl) ?_
      repeat (first | go_big_quiet_step (exact cP _ _) | quiet_step (exact cP _ _))
      refine wpQuiet_nil ?_
      intro W2 hw2
      have B2 := Lib.hid (Below.then' B.out (below_of_re hw2))
      clear hw2 cP k0 k1 k2 k3 k4 k5
      go_wp2
      go_roundw
      case rel => exact ⟨k + 1, by omega, rfl, by rw [BS.out, ← SM.out], B2.out⟩
      case measure => simp [intOf]; omega
    · obtain rfl : k = xs.length - 2 := by omega
      clear hbel
      go_wp2
      go_ret2
      exact ⟨ret_sbM F0.out.symm F1.out.symm, B.out⟩
end Go.Proofs.Ytpnaciamnigbnaa
