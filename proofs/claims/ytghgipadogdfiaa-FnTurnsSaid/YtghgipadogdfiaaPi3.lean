/- One turn and one turn back, in the program. -/
import Derived.Test.YtghgipadogdfiaaPi2
namespace Go.Proofs.Ytghgipadogdfiaa
open Go.RowKit

theorem below_al3 (w : World) (o1 o2 o3 : Obj) : Below w.heap.size w (((w.alloc o1).alloc o2).alloc o3) := (Below.then' (bel_al2 w o1 o2) (bel_al1 _ o3))
set_option maxHeartbeats 1600000 in
theorem turnLeft_any (q x y : Int) (w : World) (hq0 : 0 ≤ q) (hq : q ≤ 4) (hx : x.natAbs ≤ 4000000000000000000) (hy : y.natAbs ≤ 4000000000000000000) :
    Calls Try.prog 71 #[.int .i64 q, .int .i64 x, .int .i64 y] w fun e w' => e = .returned (.tuple #[.int .i64 (rotN q.toNat x y).1, .int .i64 (rotN q.toNat x y).2]) ∧ w = w' := by
  obtain ⟨n, rfl⟩ := Int.eq_ofNat_of_zero_le hq0
  rw [Int.toNat_natCast]
  go_enter Try.func71, Try.ntmps71
  go_wp2
  go_loop [1, 2, 9] (fun a b i => ∃ k : Nat, k ≤ n ∧ i = .int .i64 k ∧ a = .int .i64 (rotN k x y).1 ∧ b = .int .i64 (rotN k x y).2) (fun _ _ i => n - (intOf i).toNat)
  case atStart => exact ⟨0, Nat.zero_le _, rfl, rfl, rfl⟩
  case round =>
    obtain ⟨k, hk, rfl, rfl, rfl⟩ := hrel
    obtain ⟨b1, b2⟩ := rotN_abs k x y _ hx hy
    obtain ⟨u, hu⟩ : ∃ u, (rotN k x y).1 = u := ⟨_, rfl⟩
    obtain ⟨v, hv⟩ : ∃ v, (rotN k x y).2 = v := ⟨_, rfl⟩
    rw [hu, hv]
    rw [hu] at b1
    rw [hv] at b2
    have U := Lib.hid hu
    have V := Lib.hid hv
    clear hu hv
    have hw : IntKind.i64.wrap (-v) = -v := IntWalk.i64_in _ (by omega)
    by_cases hlt : k < n
    · go_wp2
      go_round
      case rel => exact ⟨k + 1, by omega, by go_num, by rw [show (rotN (k + 1) x y).1 = -(rotN k x y).2 from rfl, V.out], by rw [show (rotN (k + 1) x y).2 = (rotN k x y).1 from rfl, U.out]⟩
      case measure => simp [intOf]; omega
    · obtain rfl : k = n := by omega
      go_wp2
      go_ret2
      exact ⟨ret_two U.out.symm V.out.symm, rfl⟩

set_option maxHeartbeats 3200000 in
set_option maxRecDepth 100000 in
theorem afterTurn_any (t : VGridTurn) (s : VSpot) (w : World) (ht : t.ok = true) (hs : s.mid) :
    Calls Try.prog 87 #[.agg #[.int .i64 t.Quarters, .int .i64 t.Num, .int .i64 t.Den, .int .i64 t.East, .int .i64 t.North], .agg #[.int .i64 s.X, .int .i64 s.Y, .int .i64 s.Den]] w (SpotPost (spotOn t s) w) := by
  obtain ⟨⟨tq0, tq1⟩, ⟨tn0, tn1⟩, ⟨td0, td1⟩, ⟨te0, te1⟩, ⟨tf0, tf1⟩⟩ := turn_iff.1 ht
  obtain ⟨b1, b2, b3, b4⟩ := hs
  obtain ⟨r1, r2⟩ := rotN_abs t.Quarters.toNat s.X s.Y _ b1 b2
  obtain ⟨p, hp⟩ : ∃ p, (rotN t.Quarters.toNat s.X s.Y).1 = p := ⟨_, rfl⟩
  obtain ⟨q, hq⟩ : ∃ q, (rotN t.Quarters.toNat s.X s.Y).2 = q := ⟨_, rfl⟩
  rw [hp] at r1
  rw [hq] at r2
  obtain ⟨r, hr⟩ : ∃ r, spotOn t s = r := ⟨_, rfl⟩
  have SO := Lib.hid (show low (p * t.Num + t.East * (s.Den * t.Den)) (q * t.Num + t.North * (s.Den * t.Den)) (s.Den * t.Den) = r by rw [← hr]; unfold spotOn; rw [hp, hq])
  have m1 := abs_mul (b := t.Num) (B := 20) r1 (by omega)
  have m2 := abs_mul (b := t.Num) (B := 20) r2 (by omega)
  have m3 := abs_mul (a := s.Den) (b := t.Den) (A := 160000) (B := 20) (by omega) (by omega)
  have m3' : 0 < s.Den * t.Den := Int.mul_pos (by omega) (by omega)
  have m4 := abs_mul (a := t.East) (A := 99999) (by omega) m3
  have m5 := abs_mul (a := t.North) (A := 99999) (by omega) m3
  have v1 : IntKind.i64.wrap (s.Den * t.Den) = s.Den * t.Den := IntWalk.i64_in _ (by omega)
  have v2 : IntKind.i64.wrap (p * t.Num) = p * t.Num := IntWalk.i64_in _ (by omega)
  have v3 : IntKind.i64.wrap (q * t.Num) = q * t.Num := IntWalk.i64_in _ (by omega)
  have v4 : IntKind.i64.wrap (t.East * (s.Den * t.Den)) = t.East * (s.Den * t.Den) := IntWalk.i64_in _ (by omega)
  have v5 : IntKind.i64.wrap (t.North * (s.Den * t.Den)) = t.North * (s.Den * t.Den) := IntWalk.i64_in _ (by omega)
  have v6 : IntKind.i64.wrap (p * t.Num + t.East * (s.Den * t.Den)) = p * t.Num + t.East * (s.Den * t.Den) := IntWalk.i64_in _ (by omega)
  have v7 : IntKind.i64.wrap (q * t.Num + t.North * (s.Den * t.Den)) = q * t.Num + t.North * (s.Den * t.Den) := IntWalk.i64_in _ (by omega)
  have K1 := Lib.hid (show (p * t.Num + t.East * (s.Den * t.Den)).natAbs ≤ 4000000000000000000 by omega)
  have K2 := Lib.hid (show (q * t.Num + t.North * (s.Den * t.Den)).natAbs ≤ 4000000000000000000 by omega)
  have K3 := Lib.hid (show s.Den * t.Den ≤ 4000000000000000000 by omega)
  have HP := Lib.hid hp
  have HQ := Lib.hid hq
  have M3 := Lib.hid m3'
  have X1 := Lib.hid ((BoxGridTurn.new w 40 t _ rfl).below (Below.then' (bel_al1 _ (.cells #[.int .i64 s.X, .int .i64 s.Y, .int .i64 s.Den] 28)) (bel_al1 _ (.cells #[.int .i64 spot0.X, .int .i64 spot0.Y, .int .i64 spot0.Den] 28))))
  have X2 := Lib.hid ((BoxSpot.new (w.alloc (.cells #[.int .i64 t.Quarters, .int .i64 t.Num, .int .i64 t.Den, .int .i64 t.East, .int .i64 t.North] 40)) 28 s _ (size_al _ _)).below (bel_al1 _ (.cells #[.int .i64 spot0.X, .int .i64 spot0.Y, .int .i64 spot0.Den] 28)))
  have Z := Lib.hid (HBSpot.new ((w.alloc (.cells #[.int .i64 t.Quarters, .int .i64 t.Num, .int .i64 t.Den, .int .i64 t.East, .int .i64 t.North] 40)).alloc (.cells #[.int .i64 s.X, .int .i64 s.Y, .int .i64 s.Den] 28)) spot0 (w.heap.size + 1 + 1) (by simp))
  have B0 := Lib.hid (below_al3 w (.cells #[.int .i64 t.Quarters, .int .i64 t.Num, .int .i64 t.Den, .int .i64 t.East, .int .i64 t.North] 40) (.cells #[.int .i64 s.X, .int .i64 s.Y, .int .i64 s.Den] 28) (.cells #[.int .i64 spot0.X, .int .i64 spot0.Y, .int .i64 spot0.Den] 28))
  clear hp hq m1 m2 m3 m3' m4 m5 ht
  rw [hr]
  clear hr
  obtain ⟨c0, c1, c2, c3, c4⟩ := X1.out
  obtain ⟨d0, d1, d2⟩ := X2.out
  go_enter Try.func87, Try.ntmps87
  go_wp2_with fail
  refine (turnLeft_any _ _ _ _ tq0 (by omega) (by omega) (by omega)).mono ?_
  rintro e w1 ⟨rfl, rfl⟩
  rw [HP.out, HQ.out]
  go_wp2_with fail
  refine (leastSpot_any _ _ _ _ K1.out K2.out M3.out K3.out).mono ?_
  rintro e w1 ⟨rfl, hb⟩
  rw [SO.out]
  have B := Lib.hid (Below.then' B0.out hb)
  have hz := Z.out.below hb
  have h0 := hz.free 0
  have h1 := hz.free 1
  have h2 := hz.free 2
  obtain ⟨z0, z1, z2⟩ := hz.cells
  have ZW := Lib.hid (hz.setAll r)
  clear hb hz c0 c1 c2 c3 c4 d0 d1 d2
  go_wp2
  refine bodyPost_ret (resultsSpot1 rfl rfl ZW.out) rfl ⟨rfl, ?_⟩
  exact (((B.out).setCell (by simp; omega) _).setCell (by simp; omega) _).setCell (by simp; omega) _
set_option maxHeartbeats 3200000 in
set_option maxRecDepth 100000 in
theorem beforeTurn_any (t : VGridTurn) (s : VSpot) (w : World) (ht : t.ok = true) (hs : s.mid) :
    Calls Try.prog 59 #[.agg #[.int .i64 t.Quarters, .int .i64 t.Num, .int .i64 t.Den, .int .i64 t.East, .int .i64 t.North], .agg #[.int .i64 s.X, .int .i64 s.Y, .int .i64 s.Den]] w (SpotPost (spotBack t s) w) := by
  obtain ⟨⟨tq0, tq1⟩, ⟨tn0, tn1⟩, ⟨td0, td1⟩, ⟨te0, te1⟩, ⟨tf0, tf1⟩⟩ := turn_iff.1 ht
  obtain ⟨b1, b2, b3, b4⟩ := hs
  have m4 := abs_mul (a := t.East) (A := 99999) (b := s.Den) (B := 160000) (by omega) (by omega)
  have m5 := abs_mul (a := t.North) (A := 99999) (b := s.Den) (B := 160000) (by omega) (by omega)
  obtain ⟨r1, r2⟩ := rotN_abs (4 - t.Quarters).toNat (s.X - t.East * s.Den) (s.Y - t.North * s.Den) 200000000000 (by omega) (by omega)
  obtain ⟨p, hp⟩ : ∃ p, (rotN (4 - t.Quarters).toNat (s.X - t.East * s.Den) (s.Y - t.North * s.Den)).1 = p := ⟨_, rfl⟩
  obtain ⟨q, hq⟩ : ∃ q, (rotN (4 - t.Quarters).toNat (s.X - t.East * s.Den) (s.Y - t.North * s.Den)).2 = q := ⟨_, rfl⟩
  rw [hp] at r1
  rw [hq] at r2
  obtain ⟨r, hr⟩ : ∃ r, spotBack t s = r := ⟨_, rfl⟩
  have SO := Lib.hid (show low (p * t.Den) (q * t.Den) (s.Den * t.Num) = r by rw [← hr]; unfold spotBack; rw [hp, hq])
  have m1 := abs_mul (b := t.Den) (B := 20) r1 (by omega)
  have m2 := abs_mul (b := t.Den) (B := 20) r2 (by omega)
  have m3 := abs_mul (a := s.Den) (b := t.Num) (A := 160000) (B := 20) (by omega) (by omega)
  have m3' : 0 < s.Den * t.Num := Int.mul_pos (by omega) (by omega)
  have v1 : IntKind.i64.wrap (4 - t.Quarters) = 4 - t.Quarters := IntWalk.i64_in _ (by omega)
  have v2 : IntKind.i64.wrap (t.East * s.Den) = t.East * s.Den := IntWalk.i64_in _ (by omega)
  have v3 : IntKind.i64.wrap (t.North * s.Den) = t.North * s.Den := IntWalk.i64_in _ (by omega)
  have v4 : IntKind.i64.wrap (s.X - t.East * s.Den) = s.X - t.East * s.Den := IntWalk.i64_in _ (by omega)
  have v5 : IntKind.i64.wrap (s.Y - t.North * s.Den) = s.Y - t.North * s.Den := IntWalk.i64_in _ (by omega)
  have v6 : IntKind.i64.wrap (p * t.Den) = p * t.Den := IntWalk.i64_in _ (by omega)
  have v7 : IntKind.i64.wrap (q * t.Den) = q * t.Den := IntWalk.i64_in _ (by omega)
  have v8 : IntKind.i64.wrap (s.Den * t.Num) = s.Den * t.Num := IntWalk.i64_in _ (by omega)
  have K0 := Lib.hid (show (s.X - t.East * s.Den).natAbs ≤ 4000000000000000000 ∧ (s.Y - t.North * s.Den).natAbs ≤ 4000000000000000000 by omega)
  have K1 := Lib.hid (show (p * t.Den).natAbs ≤ 4000000000000000000 by omega)
  have K2 := Lib.hid (show (q * t.Den).natAbs ≤ 4000000000000000000 by omega)
  have K3 := Lib.hid (show s.Den * t.Num ≤ 4000000000000000000 by omega)
  have M3 := Lib.hid m3'
  have HP := Lib.hid hp
  have HQ := Lib.hid hq
  have X1 := Lib.hid ((BoxGridTurn.new w 40 t _ rfl).below (Below.then' (bel_al1 _ (.cells #[.int .i64 s.X, .int .i64 s.Y, .int .i64 s.Den] 28)) (bel_al1 _ (.cells #[.int .i64 spot0.X, .int .i64 spot0.Y, .int .i64 spot0.Den] 28))))
  have X2 := Lib.hid ((BoxSpot.new (w.alloc (.cells #[.int .i64 t.Quarters, .int .i64 t.Num, .int .i64 t.Den, .int .i64 t.East, .int .i64 t.North] 40)) 28 s _ (size_al _ _)).below (bel_al1 _ (.cells #[.int .i64 spot0.X, .int .i64 spot0.Y, .int .i64 spot0.Den] 28)))
  have Z := Lib.hid (HBSpot.new ((w.alloc (.cells #[.int .i64 t.Quarters, .int .i64 t.Num, .int .i64 t.Den, .int .i64 t.East, .int .i64 t.North] 40)).alloc (.cells #[.int .i64 s.X, .int .i64 s.Y, .int .i64 s.Den] 28)) spot0 (w.heap.size + 1 + 1) (by simp))
  have B0 := Lib.hid (below_al3 w (.cells #[.int .i64 t.Quarters, .int .i64 t.Num, .int .i64 t.Den, .int .i64 t.East, .int .i64 t.North] 40) (.cells #[.int .i64 s.X, .int .i64 s.Y, .int .i64 s.Den] 28) (.cells #[.int .i64 spot0.X, .int .i64 spot0.Y, .int .i64 spot0.Den] 28))
  clear hp hq m1 m2 m3 m3' m4 m5 ht
  rw [hr]
  clear hr
  obtain ⟨c0, c1, c2, c3, c4⟩ := X1.out
  obtain ⟨d0, d1, d2⟩ := X2.out
  go_enter Try.func59, Try.ntmps59
  go_wp2_with fail
  refine (turnLeft_any _ _ _ _ (by omega) (by omega) K0.out.1 K0.out.2).mono ?_
  rintro e w1 ⟨rfl, rfl⟩
  rw [HP.out, HQ.out]
  go_wp2_with fail
  refine (leastSpot_any _ _ _ _ K1.out K2.out M3.out K3.out).mono ?_
  rintro e w1 ⟨rfl, hb⟩
  rw [SO.out]
  have B := Lib.hid (Below.then' B0.out hb)
  have hz := Z.out.below hb
  have h0 := hz.free 0
  have h1 := hz.free 1
  have h2 := hz.free 2
  obtain ⟨z0, z1, z2⟩ := hz.cells
  have ZW := Lib.hid (hz.setAll r)
  clear hb hz c0 c1 c2 c3 c4 d0 d1 d2
  go_wp2
  refine bodyPost_ret (resultsSpot1 rfl rfl ZW.out) rfl ⟨rfl, ?_⟩
  exact (((B.out).setCell (by simp; omega) _).setCell (by simp; omega) _).setCell (by simp; omega) _
end Go.Proofs.Ytghgipadogdfiaa
