/- Roads in the model: lengths. -/
import Derived.Test.YtpnaciamnigbnaaRos1
import Derived.Test.YtpnaciamnigbnaaRow
import Derived.Test.YtpnaciamnigbnaaRoadLengthP
namespace Go.Proofs.Ytpnaciamnigbnaa
open Go.RowKit

theorem ret_iM {a b : Int} {p q : Bool} (h : a = b) (k : p = q) : Ending.returned (.tuple #[.int .i64 a, .bool p]) = .returned (.tuple #[.int .i64 b, .bool q]) := by rw [h, k]
set_option maxHeartbeats 3200000 in
set_option maxRecDepth 100000 in
theorem l10Part_any (a b : VCorner) (w : World) (ha : okC a = true) (hb : okC b = true) :
    Calls Try.prog 118 #[.agg #[.int .i64 a.X, .int .i64 a.Y], .agg #[.int .i64 b.X, .int .i64 b.Y]] w fun e w' => e = .returned (.int .i64 (partL a b : Int)) ∧ Below w.heap.size w w' := by
  have h := okC_iff.1 ha
  have k := okC_iff.1 hb
  have hd := dist2_bd ha hb
  have hp := (show dist2 a b = 10000 * ((a.X - b.X) * (a.X - b.X) + (a.Y - b.Y) * (a.Y - b.Y)) from rfl)
  obtain ⟨N, hN⟩ : ∃ N : Nat, dist2 a b = (N : Int) := ⟨(dist2 a b).toNat, by omega⟩
  have PL := Lib.hid (show partL a b = qroot N from by unfold partL; rw [hN]; simp)
  rw [hN] at hp hd
  obtain ⟨x, hx⟩ : ∃ x, a.X - b.X = x := ⟨_, rfl⟩
  obtain ⟨y, hy⟩ : ∃ y, a.Y - b.Y = y := ⟨_, rfl⟩
  have m1 := mul_bd (x := x) (A := 9999) (by omega) (by omega)
  have m2 := mul_bd (x := y) (A := 9999) (by omega) (by omega)
  rw [hx, hy] at hp
  have v1 : IntKind.i64.wrap (a.X - b.X) = x := (IntWalk.i64_in _ (by omega)).trans hx
  have v2 : IntKind.i64.wrap (a.Y - b.Y) = y := (IntWalk.i64_in _ (by omega)).trans hy
  have v3 : IntKind.i64.wrap (x * x) = x * x := IntWalk.i64_in _ (by omega)
  have v4 : IntKind.i64.wrap (y * y) = y * y := IntWalk.i64_in _ (by omega)
  have v5 : IntKind.i64.wrap (x * x + y * y) = x * x + y * y := IntWalk.i64_in _ (by omega)
  have v6 : IntKind.i64.wrap (10000 * (x * x + y * y)) = (N : Int) := (IntWalk.i64_in _ (by omega)).trans hp.symm
  have NN := Lib.hid (show N < 2199023255552 by omega)
  have NP := Lib.hid hp
  clear h k hd hp hN m1 m2 hx hy
  go_enter Try.func118, Try.ntmps118
  go_wp2_with fail
  refine (l10Root_any N _ NN.out).mono ?_
  rintro e w' ⟨rfl, rfl⟩
  rw [← PL.out]
  go_wp2
  go_ret
  exact ⟨rfl, bel_al2 _ _ _⟩
theorem lenTo_succ (xs : List VCorner) (k : Nat) : lenTo xs (k + 1) = lenTo xs k + partAt xs k := rfl
set_option maxHeartbeats 6400000 in
set_option maxRecDepth 100000 in
theorem l10Length_any (a : Option Addr) (len cap : Nat) (xs : List VCorner) (w : World) (h : IsCornerS w a len cap xs) (hr : Road xs) :
    Calls Try.prog 117 #[.slice a len cap] w fun e w' => e = .returned (.int .i64 (lenR xs : Int)) ∧ Below w.heap.size w w' := by
  have hm := h.2.2.1
  have hcl := h.2.1
  unfold maxLen at hm
  obtain rfl := h.1
  have S := Lib.hid h
  have R := Lib.hid hr
  have l2 := hr.l2
  have l12 := hr.l12
  clear h hr
  go_enter Try.func117, Try.ntmps117
  go_wp2
  go_loopw [4, 3] (fun i o wr => ∃ k : Nat, k + 1 ≤ xs.length ∧ i = .int .i64 ((k + 1 : Nat) : Int) ∧ o = .int .i64 (lenTo xs k : Int) ∧ Below w.heap.size w wr) (fun i _ _ => xs.length - (intOf i).toNat)
  case atStart => exact ⟨0, by omega, rfl, rfl, Below.refl _ _⟩
  case round =>
    obtain ⟨k, hk, rfl, rfl, hbel⟩ := hrel
    have B := Lib.hid hbel
    by_cases hlt : k + 1 < xs.length
    · obtain ⟨b, o, rfl, hb, hat⟩ := (S.out.below hbel).at (by omega)
      obtain ⟨c0, c1⟩ := hat k _ (at_ptC (by omega))
      obtain ⟨d0, d1⟩ := hat (k + 1) _ (at_ptC hlt)
      have o1 := R.out.ok (i := k) (by omega)
      have o2 := R.out.ok hlt
      have LS := Lib.hid (lenTo_succ xs k)
      have lb := R.out.len_bd k (by omega)
      have pb := R.out.part_bd hlt
      have PP := Lib.hid (show partAt xs k = partL (ptC xs k) (ptC xs (k + 1)) from rfl)
      obtain ⟨q, hq⟩ : ∃ q, partAt xs k = q := ⟨_, rfl⟩
      obtain ⟨l, hl⟩ : ∃ l, lenTo xs k = l := ⟨_, rfl⟩
      rw [hq] at PP pb LS
      rw [hl] at lb LS
      rw [hl]
      have O1 := Lib.hid o1
      have O2 := Lib.hid o2
      generalize ptC xs k = p at *
      generalize ptC xs (k + 1) = r at *
      have k0 := cell_regrown c0
      have k1 := cell_regrown c1
      have k2 := cell_regrown d0
      have k3 := cell_regrown d1
      have cP := below_at (W := wr) (fun W' _ => PP.out ▸ l10Part_any p r W' O1.out O2.out)
      have v1 : IntKind.i64.wrap (((k + 1 : Nat) : Int) - 1) = (k : Int) := by rw [IntWalk.i64_in _ (by omega)]; omega
      have v5 : IntKind.i64.wrap ((l : Int) + (q : Int)) = ((l + q : Nat) : Int) := by rw [IntWalk.i64_in _ (by omega)]; omega
      have v6 : IntKind.i64.wrap (((k + 1 : Nat) : Int) + 1) = ((k + 1 + 1 : Nat) : Int) := by rw [IntWalk.i64_in _ (by omega)]; omega
      have j0 : (0 : Int) ≤ (k : Int) := by omega
      have j1 : (k : Int) < (xs.length : Int) := by omega
      have j2 : (0 : Int) ≤ ((k + 1 : Nat) : Int) := by omega
      have j3 : ((k + 1 : Nat) : Int) < (xs.length : Int) := by omega
      clear hat c0 c1 d0 d1 hbel o1 o2 hl hq lb pb
      go_wp2
      refine wp_region_quiet_below (by kernel_rfl) (by kernel_rfl) ?_
      repeat (first | go_big_quiet_step (exact cP _ _) | quiet_step (exact cP _ _))
      refine wpQuiet_nil ?_
      intro W2 hw2
      have B2 := Lib.hid (Below.then' B.out (below_of_re hw2))
      clear hw2 cP k0 k1 k2 k3
      go_wp2
      go_roundw
      case rel => exact ⟨k + 1, by omega, rfl, by rw [LS.out]; simp, B2.out⟩
      case measure => simp [intOf]; omega
    · obtain rfl : k = xs.length - 1 := by omega
      clear hbel
      go_wp2
      go_ret
      exact ⟨rfl, B.out⟩
theorem specRoadLength_any (a : Option Addr) (len cap : Nat) (xs : List VCorner) (w : World) (h : IsCornerS w a len cap xs) (_ : condCorner xs) :
    Calls Try.prog 66 #[.slice a len cap] w (RoadLength_Post xs w) := by
  have S := Lib.hid h
  clear h
  obtain ⟨q, hq⟩ : ∃ q, roadB xs = q := ⟨_, rfl⟩
  have Q := Lib.hid hq
  clear hq
  go_enter Try.func66, Try.ntmps66
  go_wp2_with fail
  refine (l10Good_any _ _ _ xs _ S.out).mono ?_
  rintro e w1 ⟨rfl, hb⟩
  rw [Q.out]
  have B1 := Lib.hid hb
  clear hb
  cases q
  · have F0 := Lib.hid (show RoadLength_0 xs = 0 from by unfold RoadLength_0; rw [Q.out]; rfl)
    have F1 := Lib.hid (show RoadLength_1 xs = false from Q.out)
    go_wp2
    go_ret2
    exact ⟨ret_iM F0.out.symm F1.out.symm, B1.out⟩
  have R := Lib.hid (road_iff.1 Q.out)
  have F0 := Lib.hid (show RoadLength_0 xs = (lenR xs : Int) from by unfold RoadLength_0; rw [Q.out]; rfl)
  have F1 := Lib.hid (show RoadLength_1 xs = true from Q.out)
  go_wp2_with fail
  refine (l10Length_any _ _ _ xs _ (S.out.below B1.out) R.out).mono ?_
  rintro e w2 ⟨rfl, hb⟩
  have B2 := Lib.hid (Below.then' B1.out hb)
  clear hb
  go_wp2
  go_ret2
  exact ⟨ret_iM F0.out.symm F1.out.symm, B2.out⟩
end Go.Proofs.Ytpnaciamnigbnaa
