/- Lowest terms, one turn and one turn back, in the model. -/
import Derived.Test.YtghgipadogdfiaaPi3
namespace Go.Proofs.Ytghgipadogdfiaa
open Go.RowKit

set_option maxHeartbeats 3200000 in
set_option maxRecDepth 100000 in
theorem l4Lowest_any (x y d : Int) (w : World) (hx : x.natAbs ≤ 4000000000000000000) (hy : y.natAbs ≤ 4000000000000000000) (hd0 : 0 < d) (hd : d ≤ 4000000000000000000) :
    Calls Try.prog 70 #[.int .i64 x, .int .i64 y, .int .i64 d] w (SpotPost (low x y d) w) := by
  obtain ⟨g, hg⟩ : ∃ g, gcd3 x y d = g := ⟨_, rfl⟩
  obtain ⟨m, hm⟩ : ∃ m, Int.gcd y d = m := ⟨_, rfl⟩
  have hmd : m ≤ d.natAbs := by rw [← hm]; exact Int.gcd_le_natAbs_right _ (by omega)
  have g0 : 0 < g := by rw [← hg]; exact gcd3_pos hd0
  have g2 : ¬ g = 0 := by omega
  obtain ⟨q1, q2, q3⟩ := quos x y d g hx hy (by omega)
  have E := Lib.hid (show low x y d = ⟨x.tdiv g, y.tdiv g, d.tdiv g⟩ by unfold low; rw [hg])
  have G := Lib.hid (show Int.gcd x (m : Int) = g by rw [← hg, ← hm]; rfl)
  have M := Lib.hid hm
  have Z := Lib.hid (HBSpot.new w spot0 _ rfl)
  have B0 := Lib.hid (bel_al1 w (.cells #[.int .i64 spot0.X, .int .i64 spot0.Y, .int .i64 spot0.Den] 28))
  clear hg hm
  go_enter Try.func70, Try.ntmps70
  go_wp2_with fail
  refine (l4Divisor_any _ _ _ hy (by omega) hd).mono ?_
  rintro e w1 ⟨rfl, rfl⟩
  rw [M.out]
  go_wp2_with fail
  refine (l4Divisor_any _ _ _ hx (by omega) (by omega)).mono ?_
  rintro e w1 ⟨rfl, rfl⟩
  rw [G.out]
  obtain ⟨W, hW⟩ : ∃ W, w.alloc (.cells #[.int .i64 0, .int .i64 0, .int .i64 0] 28) = W := ⟨_, rfl⟩
  have hz : HBSpot W w.heap.size spot0 := by rw [← hW]; exact Z.out
  have B : Below w.heap.size w W := by rw [← hW]; exact B0.out
  rw [hW]
  have BB := Lib.hid B
  clear hW B hx hy hd0 hd
  have h0 := hz.free 0
  have h1 := hz.free 1
  have h2 := hz.free 2
  obtain ⟨d0, d1, d2⟩ := hz.cells
  have ZZ := Lib.hid hz
  clear hz
  go_wp2_with fail
  go_still_tail 10, (by kernel_rfl)
  change wpList _ _ _ _ _ W.drew
  have ZW := Lib.hid ((ZZ.out.drew).setAll ⟨x.tdiv g, y.tdiv g, d.tdiv g⟩)
  go_wp2
  rw [E.out]
  refine bodyPost_ret (resultsSpot1 rfl rfl ZW.out) rfl ⟨rfl, ?_⟩
  exact ((((bel_drew' BB.out).setCell (by simp) _).setCell (by simp) _).setCell (by simp) _)

def spotRot (n : Nat) (s : VSpot) : VSpot := ⟨(rotN n s.X s.Y).1, (rotN n s.X s.Y).2, s.Den⟩
set_option maxHeartbeats 3200000 in
set_option maxRecDepth 100000 in
theorem l4Rotate_any (s : VSpot) (q : Int) (w : World) (hq0 : 0 ≤ q) (hq : q ≤ 4) (hx : s.X.natAbs ≤ 4000000000000000000) (hy : s.Y.natAbs ≤ 4000000000000000000) :
    Calls Try.prog 90 #[.agg #[.int .i64 s.X, .int .i64 s.Y, .int .i64 s.Den], .int .i64 q] w (SpotPost (spotRot q.toNat s) w) := by
  obtain ⟨n, rfl⟩ := Int.eq_ofNat_of_zero_le hq0
  rw [Int.toNat_natCast]
  have Z0 := Lib.hid ((HBSpot.new w s _ rfl).alloc (.cells #[.int .i64 spot0.X, .int .i64 spot0.Y, .int .i64 spot0.Den] 28))
  have Z1 := Lib.hid (HBSpot.new (w.alloc (.cells #[.int .i64 s.X, .int .i64 s.Y, .int .i64 s.Den] 28)) spot0 (w.heap.size + 1) (size_al _ _))
  have B0 := Lib.hid (bel_al2 w (.cells #[.int .i64 s.X, .int .i64 s.Y, .int .i64 s.Den] 28) (.cells #[.int .i64 spot0.X, .int .i64 spot0.Y, .int .i64 spot0.Den] 28))
  go_enter Try.func90, Try.ntmps90
  go_wp2
  go_loopw [5] (fun i wr => ∃ k : Nat, k ≤ n ∧ i = .int .i64 k ∧ HBSpot wr w.heap.size (spotRot k s) ∧ HBSpot wr (w.heap.size + 1) spot0 ∧ Below w.heap.size w wr) (fun i _ => n - (intOf i).toNat)
  case atStart => exact ⟨0, Nat.zero_le _, rfl, Z0.out, Z1.out, B0.out⟩
  case round =>
    obtain ⟨k, hk, rfl, hz0, hz1, hb⟩ := hrel
    obtain ⟨b1, b2⟩ := rotN_abs k s.X s.Y _ hx hy
    obtain ⟨u, hu⟩ : ∃ u, (rotN k s.X s.Y).1 = u := ⟨_, rfl⟩
    obtain ⟨v, hv⟩ : ∃ v, (rotN k s.X s.Y).2 = v := ⟨_, rfl⟩
    have SR := Lib.hid (show spotRot k s = ⟨u, v, s.Den⟩ by unfold spotRot; rw [hu, hv])
    have SR1 := Lib.hid (show spotRot (k + 1) s = ⟨-v, u, s.Den⟩ by unfold spotRot; rw [show rotN (k + 1) s.X s.Y = (-(rotN k s.X s.Y).2, (rotN k s.X s.Y).1) from rfl, hu, hv])
    rw [hu] at b1
    rw [hv] at b2
    have hw : IntKind.i64.wrap (-v) = -v := IntWalk.i64_in _ (by omega)
    rw [SR.out] at hz0
    obtain ⟨c0, c1, c2⟩ := hz0.cells
    obtain ⟨d0, d1, d2⟩ := hz1.cells
    dsimp only at c0 c1 c2
    have f0 := hz0.free 0
    have f1 := hz0.free 1
    have f2 := hz0.free 2
    have e0 := hz1.free 0
    have e1 := hz1.free 1
    have e2 := hz1.free 2
    have H0 := Lib.hid hz0
    have H1 := Lib.hid hz1
    have B := Lib.hid hb
    clear hu hv hz0 hz1 hb
    by_cases hlt : k < n
    · go_wp2
      go_roundw
      case rel =>
        refine ⟨k + 1, by omega, by go_num, ?_, H1.out.otherAll (by omega) _ _ _, (((B.out).setCell (by simp) _).setCell (by simp) _).setCell (by simp) _⟩
        rw [SR1.out]
        exact H0.out.setAll ⟨-v, u, s.Den⟩
      case measure => simp [intOf]; omega
    · obtain rfl : k = n := by omega
      have ZW := Lib.hid (H1.out.setAll ⟨u, v, s.Den⟩)
      go_wp2
      rw [SR.out]
      refine bodyPost_ret (resultsSpot1 rfl rfl ZW.out) rfl ⟨rfl, ?_⟩
      exact (((B.out).setCell (by simp) _).setCell (by simp) _).setCell (by simp) _
set_option maxHeartbeats 3200000 in
set_option maxRecDepth 100000 in
theorem l4On_any (t : VGridTurn) (s : VSpot) (w : World) (ht : t.ok = true) (hs : s.mid) :
    Calls Try.prog 88 #[.agg #[.int .i64 t.Quarters, .int .i64 t.Num, .int .i64 t.Den, .int .i64 t.East, .int .i64 t.North], .agg #[.int .i64 s.X, .int .i64 s.Y, .int .i64 s.Den]] w (SpotPost (spotOn t s) w) := by
  obtain ⟨⟨tq0, tq1⟩, ⟨tn0, tn1⟩, ⟨td0, td1⟩, ⟨te0, te1⟩, ⟨tf0, tf1⟩⟩ := turn_iff.1 ht
  obtain ⟨b1, b2, b3, b4⟩ := hs
  obtain ⟨r1, r2⟩ := rotN_abs t.Quarters.toNat s.X s.Y _ b1 b2
  obtain ⟨p, hp⟩ : ∃ p, (rotN t.Quarters.toNat s.X s.Y).1 = p := ⟨_, rfl⟩
  obtain ⟨q, hq⟩ : ∃ q, (rotN t.Quarters.toNat s.X s.Y).2 = q := ⟨_, rfl⟩
  rw [hp] at r1
  rw [hq] at r2
  obtain ⟨r, hr⟩ : ∃ r, spotOn t s = r := ⟨_, rfl⟩
  have SO := Lib.hid (show low (p * t.Num + t.East * (s.Den * t.Den)) (q * t.Num + t.North * (s.Den * t.Den)) (s.Den * t.Den) = r by rw [← hr]; unfold spotOn; rw [hp, hq])
  have RO := Lib.hid (show spotRot t.Quarters.toNat s = ⟨p, q, s.Den⟩ by unfold spotRot; rw [hp, hq])
  have m1 := abs_mul (b := t.Num) (B := 20) r1 (by omega)
  have m2 := abs_mul (b := t.Num) (B := 20) r2 (by omega)
  have m3 := abs_mul (a := s.Den) (b := t.Den) (A := 160000) (B := 20) (by omega) (by omega)
  have m3' : 0 < s.Den * t.Den := Int.mul_pos (by omega) (by omega)
  have m4 := abs_mul (a := t.East) (A := 99999) (by omega) m3
  have m5 := abs_mul (a := t.North) (A := 99999) (by omega) m3
  have v1 : IntKind.i64.wrap (s.Den * t.Den) = s.Den * t.Den := IntWalk.i64_in _ (by omega)
  have v2 : IntKind.i64.wrap (p * t.Num) = p * t.Num := IntWalk.i64_in _ (by omega)
  have v3 : IntKind.i64.wrap (q * t.Num) = q * t.Num := IntWalk.i64_in _ (by omega)
  have v4 : IntKind.i64.wrap (t.East * (s.Den * t.Den)) = t.East * (s.Den * t.Den) := IntWalk.i64_in _ (by omega)
  have v5 : IntKind.i64.wrap (t.North * (s.Den * t.Den)) = t.North * (s.Den * t.Den) := IntWalk.i64_in _ (by omega)
  have v6 : IntKind.i64.wrap (p * t.Num + t.East * (s.Den * t.Den)) = p * t.Num + t.East * (s.Den * t.Den) := IntWalk.i64_in _ (by omega)
  have v7 : IntKind.i64.wrap (q * t.Num + t.North * (s.Den * t.Den)) = q * t.Num + t.North * (s.Den * t.Den) := IntWalk.i64_in _ (by omega)
  have K0 := Lib.hid (show s.X.natAbs ≤ 4000000000000000000 ∧ s.Y.natAbs ≤ 4000000000000000000 by omega)
  have K1 := Lib.hid (show (p * t.Num + t.East * (s.Den * t.Den)).natAbs ≤ 4000000000000000000 by omega)
  have K2 := Lib.hid (show (q * t.Num + t.North * (s.Den * t.Den)).natAbs ≤ 4000000000000000000 by omega)
  have K3 := Lib.hid (show s.Den * t.Den ≤ 4000000000000000000 by omega)
  have M3 := Lib.hid m3'
  have X1 := Lib.hid ((BoxGridTurn.new w 40 t _ rfl).below (Below.then' (bel_al1 _ (.cells #[.int .i64 s.X, .int .i64 s.Y, .int .i64 s.Den] 28)) (bel_al1 _ (.cells #[.int .i64 spot0.X, .int .i64 spot0.Y, .int .i64 spot0.Den] 28))))
  have X2 := Lib.hid ((BoxSpot.new (w.alloc (.cells #[.int .i64 t.Quarters, .int .i64 t.Num, .int .i64 t.Den, .int .i64 t.East, .int .i64 t.North] 40)) 28 s _ (size_al _ _)).below (bel_al1 _ (.cells #[.int .i64 spot0.X, .int .i64 spot0.Y, .int .i64 spot0.Den] 28)))
  have Z := Lib.hid (HBSpot.new ((w.alloc (.cells #[.int .i64 t.Quarters, .int .i64 t.Num, .int .i64 t.Den, .int .i64 t.East, .int .i64 t.North] 40)).alloc (.cells #[.int .i64 s.X, .int .i64 s.Y, .int .i64 s.Den] 28)) spot0 (w.heap.size + 1 + 1) (by simp))
  have B0 := Lib.hid (below_al3 w (.cells #[.int .i64 t.Quarters, .int .i64 t.Num, .int .i64 t.Den, .int .i64 t.East, .int .i64 t.North] 40) (.cells #[.int .i64 s.X, .int .i64 s.Y, .int .i64 s.Den] 28) (.cells #[.int .i64 spot0.X, .int .i64 spot0.Y, .int .i64 spot0.Den] 28))
  clear hp hq m1 m2 m3 m3' m4 m5 ht
  rw [hr]
  clear hr
  obtain ⟨c0, c1, c2, c3, c4⟩ := X1.out
  obtain ⟨d0, d1, d2⟩ := X2.out
  go_enter Try.func88, Try.ntmps88
  go_wp2_with fail
  refine (l4Rotate_any s _ _ tq0 (by omega) K0.out.1 K0.out.2).mono ?_
  rintro e w1 ⟨rfl, hb⟩
  rw [RO.out]
  dsimp only
  clear c0 c1 c2 c3 c4 d0 d1 d2
  have B1 := Lib.hid (Below.then' B0.out hb)
  have Z1 := Lib.hid (Z.out.below hb)
  have XA := Lib.hid (X1.out.below hb)
  clear hb
  have X3 := Lib.hid (XA.out.below (bel_al1 _ (.cells #[.int .i64 p, .int .i64 q, .int .i64 s.Den] 28)))
  have X4 := BoxSpot.new w1 28 ⟨p, q, s.Den⟩ _ rfl
  have Z2 := Lib.hid (Z1.out.below (bel_al1 _ (.cells #[.int .i64 p, .int .i64 q, .int .i64 s.Den] 28)))
  have B2 := Lib.hid (Below.then' B1.out (bel_al1 _ (.cells #[.int .i64 p, .int .i64 q, .int .i64 s.Den] 28)))
  dsimp only at X4
  obtain ⟨c0, c1, c2, c3, c4⟩ := X3.out
  obtain ⟨d0, d1, d2⟩ := X4
  go_wp2_with fail
  refine (l4Lowest_any _ _ _ _ K1.out K2.out M3.out K3.out).mono ?_
  rintro e w2 ⟨rfl, hb⟩
  rw [SO.out]
  have B := Lib.hid (Below.then' B2.out hb)
  have hz := Z2.out.below hb
  have h0 := hz.free 0
  have h1 := hz.free 1
  have h2 := hz.free 2
  obtain ⟨z0, z1, z2⟩ := hz.cells
  have ZW := Lib.hid (hz.setAll r)
  clear hb hz c0 c1 c2 c3 c4 d0 d1 d2
  go_wp2
  refine bodyPost_ret (resultsSpot1 rfl rfl ZW.out) rfl ⟨rfl, ?_⟩
  exact (((B.out).setCell (by simp; omega) _).setCell (by simp; omega) _).setCell (by simp; omega) _
theorem rot_mod {t : VGridTurn} (ht : t.ok = true) (x y : Int) : rotN ((4 - t.Quarters) % 4).toNat x y = rotN (4 - t.Quarters).toNat x y := by
  obtain ⟨⟨h0, h1⟩, _⟩ := turn_iff.1 ht
  rcases (by omega : t.Quarters = 0 ∨ t.Quarters = 1 ∨ t.Quarters = 2 ∨ t.Quarters = 3) with h | h | h | h <;> rw [h] <;> simp [rotN]
set_option maxHeartbeats 3200000 in
set_option maxRecDepth 100000 in
theorem l4Back_any (t : VGridTurn) (s : VSpot) (w : World) (ht : t.ok = true) (hs : s.mid) :
    Calls Try.prog 60 #[.agg #[.int .i64 t.Quarters, .int .i64 t.Num, .int .i64 t.Den, .int .i64 t.East, .int .i64 t.North], .agg #[.int .i64 s.X, .int .i64 s.Y, .int .i64 s.Den]] w (SpotPost (spotBack t s) w) := by
  obtain ⟨⟨tq0, tq1⟩, ⟨tn0, tn1⟩, ⟨td0, td1⟩, ⟨te0, te1⟩, ⟨tf0, tf1⟩⟩ := turn_iff.1 ht
  obtain ⟨b1, b2, b3, b4⟩ := hs
  have m4 := abs_mul (a := t.East) (A := 99999) (b := s.Den) (B := 160000) (by omega) (by omega)
  have m5 := abs_mul (a := t.North) (A := 99999) (b := s.Den) (B := 160000) (by omega) (by omega)
  have n1 := abs_mul (a := s.X - t.East * s.Den) (A := 200000000000) (b := t.Den) (B := 20) (by omega) (by omega)
  have n2 := abs_mul (a := s.Y - t.North * s.Den) (A := 200000000000) (b := t.Den) (B := 20) (by omega) (by omega)
  obtain ⟨r1, r2⟩ := rotN_abs (4 - t.Quarters).toNat ((s.X - t.East * s.Den) * t.Den) ((s.Y - t.North * s.Den) * t.Den) _ n1 n2
  obtain ⟨p, hp⟩ : ∃ p, (rotN (4 - t.Quarters).toNat ((s.X - t.East * s.Den) * t.Den) ((s.Y - t.North * s.Den) * t.Den)).1 = p := ⟨_, rfl⟩
  obtain ⟨q, hq⟩ : ∃ q, (rotN (4 - t.Quarters).toNat ((s.X - t.East * s.Den) * t.Den) ((s.Y - t.North * s.Den) * t.Den)).2 = q := ⟨_, rfl⟩
  rw [hp] at r1
  rw [hq] at r2
  obtain ⟨r, hr⟩ : ∃ r, spotBack t s = r := ⟨_, rfl⟩
  have SO := Lib.hid (show low p q (s.Den * t.Num) = r by rw [← hr]; unfold spotBack; rw [← hp, ← hq, rotN_mul])
  have RO := Lib.hid (show spotRot (-t.Quarters % 4).toNat ⟨(s.X - t.East * s.Den) * t.Den, (s.Y - t.North * s.Den) * t.Den, s.Den * t.Num⟩ = ⟨p, q, s.Den * t.Num⟩ by rw [show -t.Quarters % 4 = (4 - t.Quarters) % 4 from by omega]; unfold spotRot; rw [rot_mod ht, hp, hq])
  have m3 := abs_mul (a := s.Den) (b := t.Num) (A := 160000) (B := 20) (by omega) (by omega)
  have m3' : 0 < s.Den * t.Num := Int.mul_pos (by omega) (by omega)
  have v1 : IntKind.i64.wrap (t.East * s.Den) = t.East * s.Den := IntWalk.i64_in _ (by omega)
  have v2 : IntKind.i64.wrap (t.North * s.Den) = t.North * s.Den := IntWalk.i64_in _ (by omega)
  have v3 : IntKind.i64.wrap (s.X - t.East * s.Den) = s.X - t.East * s.Den := IntWalk.i64_in _ (by omega)
  have v4 : IntKind.i64.wrap (s.Y - t.North * s.Den) = s.Y - t.North * s.Den := IntWalk.i64_in _ (by omega)
  have v5 : IntKind.i64.wrap ((s.X - t.East * s.Den) * t.Den) = (s.X - t.East * s.Den) * t.Den := IntWalk.i64_in _ (by omega)
  have v6 : IntKind.i64.wrap ((s.Y - t.North * s.Den) * t.Den) = (s.Y - t.North * s.Den) * t.Den := IntWalk.i64_in _ (by omega)
  have v7 : IntKind.i64.wrap (s.Den * t.Num) = s.Den * t.Num := IntWalk.i64_in _ (by omega)
  have v8 : IntKind.i64.wrap (4 - t.Quarters) = 4 - t.Quarters := IntWalk.i64_in _ (by omega)
  have v9 : IntKind.i64.wrap ((4 - t.Quarters) % 4) = (4 - t.Quarters) % 4 := IntWalk.i64_in _ (by omega)
  have v10 : (4 - t.Quarters).tmod 4 = (4 - t.Quarters) % 4 := Int.tmod_eq_emod_of_nonneg (by omega)
  have K0 := Lib.hid (show ((s.X - t.East * s.Den) * t.Den).natAbs ≤ 4000000000000000000 ∧ ((s.Y - t.North * s.Den) * t.Den).natAbs ≤ 4000000000000000000 by omega)
  have K1 := Lib.hid (show p.natAbs ≤ 4000000000000000000 by omega)
  have K2 := Lib.hid (show q.natAbs ≤ 4000000000000000000 by omega)
  have K3 := Lib.hid (show s.Den * t.Num ≤ 4000000000000000000 by omega)
  have M3 := Lib.hid m3'
  have X1 := Lib.hid ((BoxGridTurn.new w 40 t _ rfl).below (Below.then' (bel_al1 _ (.cells #[.int .i64 s.X, .int .i64 s.Y, .int .i64 s.Den] 28)) (bel_al1 _ (.cells #[.int .i64 spot0.X, .int .i64 spot0.Y, .int .i64 spot0.Den] 28))))
  have X2 := Lib.hid ((BoxSpot.new (w.alloc (.cells #[.int .i64 t.Quarters, .int .i64 t.Num, .int .i64 t.Den, .int .i64 t.East, .int .i64 t.North] 40)) 28 s _ (size_al _ _)).below (bel_al1 _ (.cells #[.int .i64 spot0.X, .int .i64 spot0.Y, .int .i64 spot0.Den] 28)))
  have Z := Lib.hid (HBSpot.new ((w.alloc (.cells #[.int .i64 t.Quarters, .int .i64 t.Num, .int .i64 t.Den, .int .i64 t.East, .int .i64 t.North] 40)).alloc (.cells #[.int .i64 s.X, .int .i64 s.Y, .int .i64 s.Den] 28)) spot0 (w.heap.size + 1 + 1) (by simp))
  have B0 := Lib.hid (below_al3 w (.cells #[.int .i64 t.Quarters, .int .i64 t.Num, .int .i64 t.Den, .int .i64 t.East, .int .i64 t.North] 40) (.cells #[.int .i64 s.X, .int .i64 s.Y, .int .i64 s.Den] 28) (.cells #[.int .i64 spot0.X, .int .i64 spot0.Y, .int .i64 spot0.Den] 28))
  clear hp hq m3 m3' m4 m5 n1 n2 ht
  rw [hr]
  clear hr
  obtain ⟨c0, c1, c2, c3, c4⟩ := X1.out
  obtain ⟨d0, d1, d2⟩ := X2.out
  go_enter Try.func60, Try.ntmps60
  go_wp2_with fail
  refine (l4Rotate_any ⟨(s.X - t.East * s.Den) * t.Den, (s.Y - t.North * s.Den) * t.Den, s.Den * t.Num⟩ _ _ (by omega) (by omega) K0.out.1 K0.out.2).mono ?_
  rintro e w1 ⟨rfl, hb⟩
  rw [RO.out]
  dsimp only
  clear c0 c1 c2 c3 c4 d0 d1 d2
  have hb2 := Below.then' (bel_al1 (((w.alloc (.cells #[.int .i64 t.Quarters, .int .i64 t.Num, .int .i64 t.Den, .int .i64 t.East, .int .i64 t.North] 40)).alloc (.cells #[.int .i64 s.X, .int .i64 s.Y, .int .i64 s.Den] 28)).alloc (.cells #[.int .i64 spot0.X, .int .i64 spot0.Y, .int .i64 spot0.Den] 28)) (.cells #[.int .i64 ((s.X - t.East * s.Den) * t.Den), .int .i64 ((s.Y - t.North * s.Den) * t.Den), .int .i64 (s.Den * t.Num)] 28)) hb
  have B1 := Lib.hid (Below.then' B0.out hb2)
  have Z1 := Lib.hid (Z.out.below hb2)
  have X4 := (HBSpot.new (((w.alloc (.cells #[.int .i64 t.Quarters, .int .i64 t.Num, .int .i64 t.Den, .int .i64 t.East, .int .i64 t.North] 40)).alloc (.cells #[.int .i64 s.X, .int .i64 s.Y, .int .i64 s.Den] 28)).alloc (.cells #[.int .i64 spot0.X, .int .i64 spot0.Y, .int .i64 spot0.Den] 28)) ⟨(s.X - t.East * s.Den) * t.Den, (s.Y - t.North * s.Den) * t.Den, s.Den * t.Num⟩ (w.heap.size + 1 + 1 + 1) (by simp)).below hb
  have e0 := X4.free 0
  have e1 := X4.free 1
  have e2 := X4.free 2
  have X5 := Lib.hid (X4.setAll ⟨p, q, s.Den * t.Num⟩)
  obtain ⟨d0, d1, d2⟩ := X4.cells
  clear hb hb2
  have hl := X4.lt
  have hzl := Z1.out.lt
  have Z2 := Lib.hid (Z1.out.otherAll (b' := w.heap.size + 1 + 1 + 1) (by omega) (.int .i64 p) (.int .i64 q) (.int .i64 (s.Den * t.Num)))
  have B2 := Lib.hid (((B1.out.setCell (p := ⟨w.heap.size + 1 + 1 + 1, 0, none⟩) (by simp; omega) (.int .i64 p)).setCell (p := ⟨w.heap.size + 1 + 1 + 1, 1, none⟩) (by simp; omega) (.int .i64 q)).setCell (p := ⟨w.heap.size + 1 + 1 + 1, 2, none⟩) (by simp; omega) (.int .i64 (s.Den * t.Num)))
  clear X4
  go_wp2_with fail
  refine (l4Lowest_any _ _ _ _ K1.out K2.out M3.out K3.out).mono ?_
  rintro e w2 ⟨rfl, hb⟩
  rw [SO.out]
  have B := Lib.hid (Below.then' B2.out hb)
  have hz := Z2.out.below hb
  have h0 := hz.free 0
  have h1 := hz.free 1
  have h2 := hz.free 2
  obtain ⟨z0, z1, z2⟩ := hz.cells
  have ZW := Lib.hid (hz.setAll r)
  clear hb hz d0 d1 d2 e0 e1 e2
  go_wp2
  refine bodyPost_ret (resultsSpot1 rfl rfl ZW.out) rfl ⟨rfl, ?_⟩
  exact (((B.out).setCell (by simp; omega) _).setCell (by simp; omega) _).setCell (by simp; omega) _
end Go.Proofs.Ytghgipadogdfiaa
