/- FixedSpot, in the program and in the model. -/
import Derived.Test.YtghgipadogdfiaaPi7
import Derived.Test.YtghgipadogdfiaaFixedSpotP
namespace Go.Proofs.Ytghgipadogdfiaa
open Go.RowKit

def fixedTo (t : VGridTurn) (f : Int) : VSpot := if 0 < f then low (t.East * t.Den) (t.North * t.Den) f else low (-t.East * t.Den) (-t.North * t.Den) (-f)
set_option maxHeartbeats 3200000 in
set_option maxRecDepth 100000 in
theorem l4Fixed_any (t : VGridTurn) (f : Int) (w : World) (ht : t.ok = true) (hf : f ≠ 0) (h1 : f.natAbs ≤ 40) :
    Calls Try.prog 69 #[.agg #[.int .i64 t.Quarters, .int .i64 t.Num, .int .i64 t.Den, .int .i64 t.East, .int .i64 t.North], .int .i64 f] w (SpotPost (fixedTo t f) w) := by
  obtain ⟨⟨tq0, tq1⟩, ⟨tn0, tn1⟩, ⟨td0, td1⟩, ⟨te0, te1⟩, ⟨tf0, tf1⟩⟩ := turn_iff.1 ht
  have m1 := abs_mul (a := t.East) (A := 99999) (b := t.Den) (B := 20) (by omega) (by omega)
  have m2 := abs_mul (a := t.North) (A := 99999) (b := t.Den) (B := 20) (by omega) (by omega)
  have m3 := abs_mul (a := -t.East) (A := 99999) (b := t.Den) (B := 20) (by omega) (by omega)
  have m4 := abs_mul (a := -t.North) (A := 99999) (b := t.Den) (B := 20) (by omega) (by omega)
  have v1 : IntKind.i64.wrap (t.East * t.Den) = t.East * t.Den := IntWalk.i64_in _ (by omega)
  have v2 : IntKind.i64.wrap (t.North * t.Den) = t.North * t.Den := IntWalk.i64_in _ (by omega)
  have v3 : IntKind.i64.wrap (-t.East) = -t.East := IntWalk.i64_in _ (by omega)
  have v4 : IntKind.i64.wrap (-t.North) = -t.North := IntWalk.i64_in _ (by omega)
  have v5 : IntKind.i64.wrap (-t.East * t.Den) = -t.East * t.Den := IntWalk.i64_in _ (by omega)
  have v6 : IntKind.i64.wrap (-t.North * t.Den) = -t.North * t.Den := IntWalk.i64_in _ (by omega)
  have v7 : IntKind.i64.wrap (-f) = -f := IntWalk.i64_in _ (by omega)
  have K1 := Lib.hid (show (t.East * t.Den).natAbs ≤ 4000000000000000000 ∧ (t.North * t.Den).natAbs ≤ 4000000000000000000 by omega)
  have K2 := Lib.hid (show (-t.East * t.Den).natAbs ≤ 4000000000000000000 ∧ (-t.North * t.Den).natAbs ≤ 4000000000000000000 by omega)
  have X1 := Lib.hid ((BoxGridTurn.new w 40 t _ rfl).below (bel_al1 _ (.cells #[.int .i64 spot0.X, .int .i64 spot0.Y, .int .i64 spot0.Den] 28)))
  have Z := Lib.hid (HBSpot.new (w.alloc (.cells #[.int .i64 t.Quarters, .int .i64 t.Num, .int .i64 t.Den, .int .i64 t.East, .int .i64 t.North] 40)) spot0 (w.heap.size + 1) (size_al _ _))
  have B0 := Lib.hid (bel_al2 w (.cells #[.int .i64 t.Quarters, .int .i64 t.Num, .int .i64 t.Den, .int .i64 t.East, .int .i64 t.North] 40) (.cells #[.int .i64 spot0.X, .int .i64 spot0.Y, .int .i64 spot0.Den] 28))
  clear m1 m2 m3 m4
  obtain ⟨c0, c1, c2, c3, c4⟩ := X1.out
  by_cases hp : 0 < f
  · have E := Lib.hid (show low (t.East * t.Den) (t.North * t.Den) f = fixedTo t f by unfold fixedTo; rw [if_pos hp])
    obtain ⟨r, hr⟩ : ∃ r, fixedTo t f = r := ⟨_, rfl⟩
    rw [hr]
    have R := Lib.hid hr
    clear hr
    go_enter Try.func69, Try.ntmps69
    go_wp2_with fail
    refine (l4Lowest_any _ _ _ _ K1.out.1 K1.out.2 hp (by omega)).mono ?_
    rintro e w2 ⟨rfl, hb⟩
    rw [E.out, R.out]
    have B := Lib.hid (Below.then' B0.out hb)
    have hz := Z.out.below hb
    have h0 := hz.free 0
    have h1 := hz.free 1
    have h2 := hz.free 2
    obtain ⟨z0, z1, z2⟩ := hz.cells
    have ZW := Lib.hid (hz.setAll r)
    clear hb hz c0 c1 c2 c3 c4
    go_wp2
    refine bodyPost_ret (resultsSpot1 rfl rfl ZW.out) rfl ⟨rfl, ?_⟩
    exact (((B.out).setCell (by simp) _).setCell (by simp) _).setCell (by simp) _
  · have E := Lib.hid (show low (-t.East * t.Den) (-t.North * t.Den) (-f) = fixedTo t f by unfold fixedTo; rw [if_neg hp])
    obtain ⟨r, hr⟩ : ∃ r, fixedTo t f = r := ⟨_, rfl⟩
    rw [hr]
    have R := Lib.hid hr
    clear hr
    have N := Lib.hid (show 0 < -f ∧ -f ≤ 4000000000000000000 by omega)
    clear v1 v2
    go_enter Try.func69, Try.ntmps69
    go_wp2_with fail
    refine (l4Lowest_any _ _ _ _ (by simpa using K2.out.1) (by simpa using K2.out.2) N.out.1 N.out.2).mono ?_
    rintro e w2 ⟨rfl, hb⟩
    try rw [E.out, R.out]
    have B := Lib.hid (Below.then' B0.out hb)
    have hz := Z.out.below hb
    have h0 := hz.free 0
    have h1 := hz.free 1
    have h2 := hz.free 2
    obtain ⟨z0, z1, z2⟩ := hz.cells
    have ZW := Lib.hid (hz.setAll r)
    clear hb hz c0 c1 c2 c3 c4
    go_wp2
    refine bodyPost_ret (resultsSpot1 rfl rfl ZW.out) rfl ⟨rfl, ?_⟩
    exact (((B.out).setCell (by simp) _).setCell (by simp) _).setCell (by simp) _

set_option maxHeartbeats 3200000 in
set_option maxRecDepth 100000 in
theorem implFixedSpot_any (t : VGridTurn) (w : World) :
    Calls Try.prog 33 #[.agg #[.int .i64 t.Quarters, .int .i64 t.Num, .int .i64 t.Den, .int .i64 t.East, .int .i64 t.North]] w (FixedSpot_Post t w) := by
  have X1 := Lib.hid ((BoxGridTurn.new w 40 t _ rfl).below (bel_al1 _ (.cells #[.int .i64 spot0.X, .int .i64 spot0.Y, .int .i64 spot0.Den] 28)))
  have Z := Lib.hid (HBSpot.new (w.alloc (.cells #[.int .i64 t.Quarters, .int .i64 t.Num, .int .i64 t.Den, .int .i64 t.East, .int .i64 t.North] 40)) spot0 (w.heap.size + 1) (size_al _ _))
  have B0 := Lib.hid (bel_al2 w (.cells #[.int .i64 t.Quarters, .int .i64 t.Num, .int .i64 t.Den, .int .i64 t.East, .int .i64 t.North] 40) (.cells #[.int .i64 spot0.X, .int .i64 spot0.Y, .int .i64 spot0.Den] 28))
  obtain ⟨q, hq⟩ : ∃ q, t.ok = q := ⟨_, rfl⟩
  have Q := Lib.hid hq
  clear hq
  obtain ⟨c0, c1, c2, c3, c4⟩ := X1.out
  go_enter Try.func33, Try.ntmps33
  go_wp2_with fail
  refine (implIsGridTurn_any t _).mono ?_
  rintro e w1 ⟨rfl, hb⟩
  rw [Q.out]
  have B1 := Lib.hid (Below.then' B0.out hb)
  have Z1 := Lib.hid (Z.out.below hb)
  have Y1 := Lib.hid (X1.out.below hb)
  clear hb c0 c1 c2 c3 c4
  cases q
  · have V1 := Lib.hid (show FixedSpot_1 t = false by unfold FixedSpot_1; rw [Q.out]; rfl)
    have V0 := Lib.hid (show FixedSpot_0 t = spot0 by unfold FixedSpot_0; rw [V1.out]; rfl)
    obtain ⟨z0, z1, z2⟩ := Z1.out.cells
    have f0 := Z1.out.free 0
    have f1 := Z1.out.free 1
    have f2 := Z1.out.free 2
    have ZW := Lib.hid (Z1.out.setAll spot0)
    go_wp2
    refine bodyPost_ret (resultsSpot2 rfl rfl rfl ZW.out) rfl ⟨ret_sb V0.out.symm V1.out.symm, ?_⟩
    exact (((B1.out).setCell (by simp) _).setCell (by simp) _).setCell (by simp) _
  obtain ⟨⟨tq0, tq1⟩, ⟨tn0, tn1⟩, ⟨td0, td1⟩, ⟨te0, te1⟩, ⟨tf0, tf1⟩⟩ := turn_iff.1 Q.out
  obtain ⟨r1, r2⟩ := rotN_abs t.Quarters.toNat t.Num 0 20 (by omega) (by omega)
  obtain ⟨p, hp⟩ : ∃ p, (rotN t.Quarters.toNat t.Num 0).1 = p := ⟨_, rfl⟩
  obtain ⟨u, hu⟩ : ∃ q, (rotN t.Quarters.toNat t.Num 0).2 = q := ⟨_, rfl⟩
  rw [hp] at r1
  rw [hu] at r2
  obtain ⟨a, ha⟩ : ∃ a, t.Den - p = a := ⟨_, rfl⟩
  obtain ⟨b, hb⟩ : ∃ b, -u = b := ⟨_, rfl⟩
  have eA : fixedA t = a := by unfold fixedA; rw [hp, ha]
  have eB : fixedB t = b := by unfold fixedB; rw [hu, hb]
  obtain ⟨sq1, sq2⟩ := fixed_square Q.out
  rw [eA, eB] at sq1 sq2
  have m1 := abs_mul (a := a) (b := a) (A := 40) (B := 40) (by omega) (by omega)
  have m2 := abs_mul (a := b) (b := b) (A := 40) (B := 40) (by omega) (by omega)
  have m3 := abs_mul (a := t.East) (b := a) (A := 99999) (B := 40) (by omega) (by omega)
  have m4 := abs_mul (a := t.North) (b := b) (A := 99999) (B := 40) (by omega) (by omega)
  have m5 := abs_mul (a := t.North) (b := a) (A := 99999) (B := 40) (by omega) (by omega)
  have m6 := abs_mul (a := t.East) (b := b) (A := 99999) (B := 40) (by omega) (by omega)
  have m7 := abs_mul (a := t.Den) (b := t.East * a + t.North * b) (A := 20) (B := 8000000) (by omega) (by omega)
  have m8 := abs_mul (a := t.Den) (b := t.North * a - t.East * b) (A := 20) (B := 8000000) (by omega) (by omega)
  have v1 : IntKind.i64.wrap (t.Den - p) = a := (IntWalk.i64_in _ (by omega)).trans ha
  have v2 : IntKind.i64.wrap (-u) = b := (IntWalk.i64_in _ (by omega)).trans hb
  have v3 : IntKind.i64.wrap (a * a) = a * a := IntWalk.i64_in _ (by omega)
  have v4 : IntKind.i64.wrap (b * b) = b * b := IntWalk.i64_in _ (by omega)
  have v5 : IntKind.i64.wrap (a * a + b * b) = a * a + b * b := IntWalk.i64_in _ (by omega)
  have v6 : IntKind.i64.wrap (t.East * a) = t.East * a := IntWalk.i64_in _ (by omega)
  have v7 : IntKind.i64.wrap (t.North * b) = t.North * b := IntWalk.i64_in _ (by omega)
  have v8 : IntKind.i64.wrap (t.East * a + t.North * b) = t.East * a + t.North * b := IntWalk.i64_in _ (by omega)
  have v9 : IntKind.i64.wrap (t.North * a) = t.North * a := IntWalk.i64_in _ (by omega)
  have v10 : IntKind.i64.wrap (t.East * b) = t.East * b := IntWalk.i64_in _ (by omega)
  have v11 : IntKind.i64.wrap (t.North * a - t.East * b) = t.North * a - t.East * b := IntWalk.i64_in _ (by omega)
  have v12 : IntKind.i64.wrap (t.Den * (t.East * a + t.North * b)) = t.Den * (t.East * a + t.North * b) := IntWalk.i64_in _ (by omega)
  have v13 : IntKind.i64.wrap (t.Den * (t.North * a - t.East * b)) = t.Den * (t.North * a - t.East * b) := IntWalk.i64_in _ (by omega)
  have K1 := Lib.hid (show (t.Den * (t.East * a + t.North * b)).natAbs ≤ 4000000000000000000 by omega)
  have K2 := Lib.hid (show (t.Den * (t.North * a - t.East * b)).natAbs ≤ 4000000000000000000 by omega)
  have K3 := Lib.hid (show a * a + b * b ≤ 4000000000000000000 by omega)
  have HP := Lib.hid hp
  have HU := Lib.hid hu
  have TN := Lib.hid (show t.Num.natAbs ≤ 4000000000000000000 by omega)
  obtain ⟨ok, hok⟩ : ∃ ok, FixedSpot_1 t = ok := ⟨_, rfl⟩
  have V1 := Lib.hid hok
  rw [hok] at sq1
  have V0 := Lib.hid (show FixedSpot_0 t = if ok then low (t.Den * (t.East * a + t.North * b)) (t.Den * (t.North * a - t.East * b)) (a * a + b * b) else ⟨0, 0, 0⟩ by unfold FixedSpot_0; rw [hok, eA, eB])
  have SQ := Lib.hid sq1
  have SP := Lib.hid sq2
  clear hp hu ha hb m1 m2 m3 m4 m5 m6 m7 m8 eA eB hok r1 r2 sq1 sq2
  obtain ⟨c0, c1, c2, c3, c4⟩ := Y1.out
  cases ok
  · have h0 : a * a + b * b = 0 := SQ.out.2 rfl
    rw [h0] at v5
    obtain ⟨z0, z1, z2⟩ := Z1.out.cells
    have f0 := Z1.out.free 0
    have f1 := Z1.out.free 1
    have f2 := Z1.out.free 2
    have ZW := Lib.hid (Z1.out.setAll spot0)
    have H0 := Lib.hid h0
    clear h0
    go_wp2_with fail
    refine (turnLeft_any _ _ _ _ tq0 (by omega) TN.out (by omega)).mono ?_
    rintro e w2 ⟨rfl, rfl⟩
    rw [HP.out, HU.out]
    have h0 := H0.out
    go_wp2
    refine bodyPost_ret (resultsSpot2 rfl rfl rfl ZW.out) rfl ⟨ret_sb V0.out.symm V1.out.symm, ?_⟩
    exact (((B1.out).setCell (by simp) _).setCell (by simp) _).setCell (by simp) _
  · have h0 : ¬ (a * a + b * b = 0) := fun h => Bool.noConfusion (SQ.out.1 h)
    have H1 := Lib.hid (show 0 < a * a + b * b by have := SP.out; omega)
    go_wp2_with fail
    refine (turnLeft_any _ _ _ _ tq0 (by omega) TN.out (by omega)).mono ?_
    rintro e w2 ⟨rfl, rfl⟩
    rw [HP.out, HU.out]
    go_wp2_with fail
    refine (leastSpot_any _ _ _ _ K1.out K2.out H1.out K3.out).mono ?_
    rintro e w3 ⟨rfl, hb⟩
    have V2 := Lib.hid (show FixedSpot_0 t = low (t.Den * (t.East * a + t.North * b)) (t.Den * (t.North * a - t.East * b)) (a * a + b * b) from V0.out.trans (by simp))
    rw [← V2.out]
    obtain ⟨r, hr⟩ : ∃ r, FixedSpot_0 t = r := ⟨_, rfl⟩
    have R := Lib.hid hr
    rw [hr]
    clear hr
    have B := Lib.hid (Below.then' B1.out hb)
    have hz := Z1.out.below hb
    have f0 := hz.free 0
    have f1 := hz.free 1
    have f2 := hz.free 2
    obtain ⟨z0, z1, z2⟩ := hz.cells
    have ZW := Lib.hid (hz.setAll r)
    clear hb hz c0 c1 c2 c3 c4
    go_wp2
    refine bodyPost_ret (resultsSpot2 rfl rfl rfl ZW.out) rfl ⟨ret_sb R.out.symm V1.out.symm, ?_⟩
    exact (((B.out).setCell (by simp) _).setCell (by simp) _).setCell (by simp) _
end Go.Proofs.Ytghgipadogdfiaa
