/- FixedSpot, in the model. -/
import Derived.Test.YtghgipadogdfiaaPi8
namespace Go.Proofs.Ytghgipadogdfiaa
open Go.RowKit

theorem fixedTo_0 {t : VGridTurn} (h : FixedSpot_1 t = true) (hq : t.Quarters = 0) : t.Den - t.Num ≠ 0 ∧ FixedSpot_0 t = fixedTo t (t.Den - t.Num) := fixed_0 h hq
theorem fixedTo_2 {t : VGridTurn} (h : FixedSpot_1 t = true) (hok : t.ok = true) (hq : t.Quarters = 2) : FixedSpot_0 t = fixedTo t (t.Den + t.Num) := by
  have := turn_iff.1 hok
  rw [fixed_2 h hok hq]; unfold fixedTo; rw [if_pos (by omega)]
theorem turn_ext {t : VGridTurn} {q n d ea no : Int} (h0 : t.Quarters = q) (h1 : t.Num = n) (h2 : t.Den = d) (h3 : t.East = ea) (h4 : t.North = no) : t = ⟨q, n, d, ea, no⟩ := by cases t; simp at h0 h1 h2 h3 h4; subst h0 h1 h2 h3 h4; rfl
set_option maxHeartbeats 6400000 in
set_option maxRecDepth 100000 in
theorem specFixedSpot_any (t : VGridTurn) (w : World) :
    Calls Try.prog 32 #[.agg #[.int .i64 t.Quarters, .int .i64 t.Num, .int .i64 t.Den, .int .i64 t.East, .int .i64 t.North]] w (FixedSpot_Post t w) := by
  have X1 := Lib.hid ((BoxGridTurn.new w 40 t _ rfl).below (bel_al1 _ (.cells #[.int .i64 spot0.X, .int .i64 spot0.Y, .int .i64 spot0.Den] 28)))
  have Z := Lib.hid (HBSpot.new (w.alloc (.cells #[.int .i64 t.Quarters, .int .i64 t.Num, .int .i64 t.Den, .int .i64 t.East, .int .i64 t.North] 40)) spot0 (w.heap.size + 1) (size_al _ _))
  have B0 := Lib.hid (bel_al2 w (.cells #[.int .i64 t.Quarters, .int .i64 t.Num, .int .i64 t.Den, .int .i64 t.East, .int .i64 t.North] 40) (.cells #[.int .i64 spot0.X, .int .i64 spot0.Y, .int .i64 spot0.Den] 28))
  obtain ⟨q, hq⟩ : ∃ q, t.ok = q := ⟨_, rfl⟩
  have Q := Lib.hid hq
  clear hq
  obtain ⟨c0, c1, c2, c3, c4⟩ := X1.out
  go_enter Try.func32, Try.ntmps32
  go_wp2_with fail
  refine (l4Turn_any t _).mono ?_
  rintro e w1 ⟨rfl, hb⟩
  rw [Q.out]
  have B1 := Lib.hid (Below.then' B0.out hb)
  have Z1 := Lib.hid (Z.out.below hb)
  have Y1 := Lib.hid (X1.out.below hb)
  clear hb c0 c1 c2 c3 c4
  obtain ⟨ok, hok⟩ : ∃ ok, FixedSpot_1 t = ok := ⟨_, rfl⟩
  have V1 := Lib.hid hok
  clear hok
  cases q
  · obtain rfl : ok = false := by rw [← V1.out]; unfold FixedSpot_1; rw [Q.out]; rfl
    have V0 := Lib.hid (show FixedSpot_0 t = spot0 by unfold FixedSpot_0; rw [V1.out]; rfl)
    obtain ⟨z0, z1, z2⟩ := Z1.out.cells
    have f0 := Z1.out.free 0
    have f1 := Z1.out.free 1
    have f2 := Z1.out.free 2
    have ZW := Lib.hid (Z1.out.setAll spot0)
    go_wp2
    refine bodyPost_ret (resultsSpot2 rfl rfl rfl ZW.out) rfl ⟨ret_sb V0.out.symm V1.out.symm, ?_⟩
    exact (((B1.out).setCell (by simp) _).setCell (by simp) _).setCell (by simp) _
  have ht := turn_iff.1 Q.out
  obtain ⟨⟨tq0, tq1⟩, ⟨tn0, tn1⟩, ⟨td0, td1⟩, ⟨te0, te1⟩, ⟨tf0, tf1⟩⟩ := ht
  cases ok
  · have V0 := Lib.hid (show FixedSpot_0 t = spot0 by unfold FixedSpot_0; rw [V1.out]; rfl)
    have hh : t.Quarters = 0 ∧ t.Num = t.Den := by
      have h := V1.out
      unfold FixedSpot_1 at h
      rw [Q.out] at h
      simpa using h
    obtain ⟨h1, h2⟩ := hh
    obtain ⟨c0, c1, c2, c3, c4⟩ := Y1.out
    rw [h1] at c0
    rw [h2] at c1
    obtain ⟨z0, z1, z2⟩ := Z1.out.cells
    have f0 := Z1.out.free 0
    have f1 := Z1.out.free 1
    have f2 := Z1.out.free 2
    have ZW := Lib.hid (Z1.out.setAll spot0)
    clear h1 h2
    go_wp2
    refine bodyPost_ret (resultsSpot2 rfl rfl rfl ZW.out) rfl ⟨ret_sb V0.out.symm V1.out.symm, ?_⟩
    exact (((B1.out).setCell (by simp) _).setCell (by simp) _).setCell (by simp) _
  obtain ⟨r, hr⟩ : ∃ r, FixedSpot_0 t = r := ⟨_, rfl⟩
  have R := Lib.hid hr
  obtain ⟨n, hn⟩ : ∃ n, t.Num = n := ⟨_, rfl⟩
  obtain ⟨d, hd⟩ : ∃ n, t.Den = n := ⟨_, rfl⟩
  obtain ⟨ea, hea⟩ : ∃ n, t.East = n := ⟨_, rfl⟩
  obtain ⟨no, hno⟩ : ∃ n, t.North = n := ⟨_, rfl⟩
  rcases (by omega : t.Quarters = 0 ∨ t.Quarters = 1 ∨ t.Quarters = 2 ∨ t.Quarters = 3) with hq | hq | hq | hq
  · rw [hn] at tn0 tn1
    rw [hd] at td0 td1
    rw [hea] at te0 te1
    rw [hno] at tf0 tf1
    obtain ⟨c0, c1, c2, c3, c4⟩ := Y1.out
    have HQ := Lib.hid hq
    rw [hq] at c0
    obtain ⟨hf, hr2⟩ := fixedTo_0 V1.out hq
    have E := Lib.hid (hr2.symm.trans hr)
    rw [hn, hd] at hf
    rw [hn, hd] at E
    have HF := Lib.hid (show d - n ≠ 0 ∧ (d - n).natAbs ≤ 40 by omega)
    have v1 : IntKind.i64.wrap (d - n) = d - n := IntWalk.i64_in _ (by omega)
    have hne : ¬ (n = d) := by omega
    have ET := turn_ext hq hn hd hea hno
    have OK := Q.out
    rw [ET] at OK
    have E' := E.out
    rw [ET] at E'
    have KO := Lib.hid OK
    have KE := Lib.hid E'
    clear ET OK E'
    rw [hn] at c1
    rw [hd] at c2
    rw [hea] at c3
    rw [hno] at c4
    have HN := Lib.hid hn
    have HD := Lib.hid hd
    have HE := Lib.hid hea
    have HO := Lib.hid hno
    clear hr hn hd hea hno hq
    go_wp2_with fail
    go_quiet (fail)
    have Y2 := Lib.hid (Y1.out.below (bel_drawn w1 nq))
    have Z2 := Lib.hid (Z1.out.below (bel_drawn w1 nq))
    have B2 := Lib.hid (Below.then' B1.out (bel_drawn w1 nq))
    clear c0 c1 c2 c3 c4
    obtain ⟨c0, c1, c2, c3, c4⟩ := Y2.out
    rw [HN.out] at c1
    rw [HD.out] at c2
    rw [HE.out] at c3
    rw [HO.out] at c4
    rw [HQ.out] at c0
    go_wp2_with fail
    refine (l4Fixed_any ⟨0, n, d, ea, no⟩ (d - n) _ KO.out HF.out.1 HF.out.2).mono ?_
    rintro e w3 ⟨rfl, hb⟩
    rw [KE.out]
    have B := Lib.hid (Below.then' (B2.out) hb)
    have hz := (Z2.out).below hb
    have f0 := hz.free 0
    have f1 := hz.free 1
    have f2 := hz.free 2
    obtain ⟨z0, z1, z2⟩ := hz.cells
    have ZW := Lib.hid (hz.setAll r)
    clear hb hz
    go_wp2
    refine bodyPost_ret (resultsSpot2 rfl rfl rfl ZW.out) rfl ⟨ret_sb R.out.symm V1.out.symm, ?_⟩
    exact (((B.out).setCell (by simp) _).setCell (by simp) _).setCell (by simp) _
  · rw [hn] at tn0 tn1
    rw [hd] at td0 td1
    rw [hea] at te0 te1
    rw [hno] at tf0 tf1
    obtain ⟨c0, c1, c2, c3, c4⟩ := Y1.out
    have HQ := Lib.hid hq
    rw [hq] at c0
    have E := Lib.hid ((fixed_1 V1.out hq).symm.trans hr)
    rw [hn, hd, hea, hno] at E
    have m1 := abs_mul (a := d) (b := ea) (A := 20) (B := 99999) (by omega) (by omega)
    have m2 := abs_mul (a := n) (b := no) (A := 20) (B := 99999) (by omega) (by omega)
    have m3 := abs_mul (a := d) (b := no) (A := 20) (B := 99999) (by omega) (by omega)
    have m4 := abs_mul (a := n) (b := ea) (A := 20) (B := 99999) (by omega) (by omega)
    have m5 := abs_mul (a := d) (b := d * ea - n * no) (A := 20) (B := 8000000) (by omega) (by omega)
    have m6 := abs_mul (a := d) (b := d * no + n * ea) (A := 20) (B := 8000000) (by omega) (by omega)
    have m7 := abs_mul (a := d) (b := d) (A := 20) (B := 20) (by omega) (by omega)
    have m8 := abs_mul (a := n) (b := n) (A := 20) (B := 20) (by omega) (by omega)
    have m9 : 0 < d * d := Int.mul_pos (by omega) (by omega)
    have m10 : 0 < n * n := Int.mul_pos (by omega) (by omega)
    have v1 : IntKind.i64.wrap (d * ea) = d * ea := IntWalk.i64_in _ (by omega)
    have v2 : IntKind.i64.wrap (n * no) = n * no := IntWalk.i64_in _ (by omega)
    have v3 : IntKind.i64.wrap (d * no) = d * no := IntWalk.i64_in _ (by omega)
    have v4 : IntKind.i64.wrap (n * ea) = n * ea := IntWalk.i64_in _ (by omega)
    have v5 : IntKind.i64.wrap (d * ea - n * no) = d * ea - n * no := IntWalk.i64_in _ (by omega)
    have v6 : IntKind.i64.wrap (d * no + n * ea) = d * no + n * ea := IntWalk.i64_in _ (by omega)
    have v7 : IntKind.i64.wrap (d * (d * ea - n * no)) = d * (d * ea - n * no) := IntWalk.i64_in _ (by omega)
    have v8 : IntKind.i64.wrap (d * (d * no + n * ea)) = d * (d * no + n * ea) := IntWalk.i64_in _ (by omega)
    have v9 : IntKind.i64.wrap (d * d) = d * d := IntWalk.i64_in _ (by omega)
    have v10 : IntKind.i64.wrap (n * n) = n * n := IntWalk.i64_in _ (by omega)
    have v11 : IntKind.i64.wrap (d * d + n * n) = d * d + n * n := IntWalk.i64_in _ (by omega)
    have K1 := Lib.hid (show (d * (d * ea - n * no)).natAbs ≤ 4000000000000000000 by omega)
    have K2 := Lib.hid (show (d * (d * no + n * ea)).natAbs ≤ 4000000000000000000 by omega)
    have K3 := Lib.hid (show 0 < d * d + n * n ∧ d * d + n * n ≤ 4000000000000000000 by omega)
    clear m1 m2 m3 m4 m5 m6 m7 m8 m9 m10
    rw [hn] at c1
    rw [hd] at c2
    rw [hea] at c3
    rw [hno] at c4
    have HN := Lib.hid hn
    have HD := Lib.hid hd
    have HE := Lib.hid hea
    have HO := Lib.hid hno
    clear hr hn hd hea hno hq
    go_wp2_with fail
    go_quiet (fail)
    have Y2 := Lib.hid (Y1.out.below (bel_drawn w1 nq))
    have Z2 := Lib.hid (Z1.out.below (bel_drawn w1 nq))
    have B2 := Lib.hid (Below.then' B1.out (bel_drawn w1 nq))
    clear c0 c1 c2 c3 c4
    obtain ⟨c0, c1, c2, c3, c4⟩ := Y2.out
    rw [HN.out] at c1
    rw [HD.out] at c2
    rw [HE.out] at c3
    rw [HO.out] at c4
    rw [HQ.out] at c0
    go_wp2_with fail
    refine (l4Lowest_any _ _ _ _ K1.out K2.out K3.out.1 K3.out.2).mono ?_
    rintro e w3 ⟨rfl, hb⟩
    rw [E.out]
    have B := Lib.hid (Below.then' (B2.out) hb)
    have hz := (Z2.out).below hb
    have f0 := hz.free 0
    have f1 := hz.free 1
    have f2 := hz.free 2
    obtain ⟨z0, z1, z2⟩ := hz.cells
    have ZW := Lib.hid (hz.setAll r)
    clear hb hz
    go_wp2
    refine bodyPost_ret (resultsSpot2 rfl rfl rfl ZW.out) rfl ⟨ret_sb R.out.symm V1.out.symm, ?_⟩
    exact (((B.out).setCell (by simp) _).setCell (by simp) _).setCell (by simp) _
  · rw [hn] at tn0 tn1
    rw [hd] at td0 td1
    rw [hea] at te0 te1
    rw [hno] at tf0 tf1
    obtain ⟨c0, c1, c2, c3, c4⟩ := Y1.out
    have HQ := Lib.hid hq
    rw [hq] at c0
    have E := Lib.hid ((fixedTo_2 V1.out Q.out hq).symm.trans hr)
    rw [hn, hd] at E
    have HF := Lib.hid (show d + n ≠ 0 ∧ (d + n).natAbs ≤ 40 by omega)
    have v1 : IntKind.i64.wrap (d + n) = d + n := IntWalk.i64_in _ (by omega)
    have ET := turn_ext hq hn hd hea hno
    have OK := Q.out
    rw [ET] at OK
    have E' := E.out
    rw [ET] at E'
    have KO := Lib.hid OK
    have KE := Lib.hid E'
    clear ET OK E'
    rw [hn] at c1
    rw [hd] at c2
    rw [hea] at c3
    rw [hno] at c4
    have HN := Lib.hid hn
    have HD := Lib.hid hd
    have HE := Lib.hid hea
    have HO := Lib.hid hno
    clear hr hn hd hea hno hq
    go_wp2_with fail
    go_quiet (fail)
    have Y2 := Lib.hid (Y1.out.below (bel_drawn w1 nq))
    have Z2 := Lib.hid (Z1.out.below (bel_drawn w1 nq))
    have B2 := Lib.hid (Below.then' B1.out (bel_drawn w1 nq))
    clear c0 c1 c2 c3 c4
    obtain ⟨c0, c1, c2, c3, c4⟩ := Y2.out
    rw [HN.out] at c1
    rw [HD.out] at c2
    rw [HE.out] at c3
    rw [HO.out] at c4
    rw [HQ.out] at c0
    go_wp2_with fail
    refine (l4Fixed_any ⟨2, n, d, ea, no⟩ (d + n) _ KO.out HF.out.1 HF.out.2).mono ?_
    rintro e w3 ⟨rfl, hb⟩
    rw [KE.out]
    have B := Lib.hid (Below.then' (B2.out) hb)
    have hz := (Z2.out).below hb
    have f0 := hz.free 0
    have f1 := hz.free 1
    have f2 := hz.free 2
    obtain ⟨z0, z1, z2⟩ := hz.cells
    have ZW := Lib.hid (hz.setAll r)
    clear hb hz
    go_wp2
    refine bodyPost_ret (resultsSpot2 rfl rfl rfl ZW.out) rfl ⟨ret_sb R.out.symm V1.out.symm, ?_⟩
    exact (((B.out).setCell (by simp) _).setCell (by simp) _).setCell (by simp) _
  · rw [hn] at tn0 tn1
    rw [hd] at td0 td1
    rw [hea] at te0 te1
    rw [hno] at tf0 tf1
    obtain ⟨c0, c1, c2, c3, c4⟩ := Y1.out
    have HQ := Lib.hid hq
    rw [hq] at c0
    have E := Lib.hid ((fixed_3 V1.out hq).symm.trans hr)
    rw [hn, hd, hea, hno] at E
    have m1 := abs_mul (a := d) (b := ea) (A := 20) (B := 99999) (by omega) (by omega)
    have m2 := abs_mul (a := n) (b := no) (A := 20) (B := 99999) (by omega) (by omega)
    have m3 := abs_mul (a := d) (b := no) (A := 20) (B := 99999) (by omega) (by omega)
    have m4 := abs_mul (a := n) (b := ea) (A := 20) (B := 99999) (by omega) (by omega)
    have m5 := abs_mul (a := d) (b := d * ea + n * no) (A := 20) (B := 8000000) (by omega) (by omega)
    have m6 := abs_mul (a := d) (b := d * no - n * ea) (A := 20) (B := 8000000) (by omega) (by omega)
    have m7 := abs_mul (a := d) (b := d) (A := 20) (B := 20) (by omega) (by omega)
    have m8 := abs_mul (a := n) (b := n) (A := 20) (B := 20) (by omega) (by omega)
    have m9 : 0 < d * d := Int.mul_pos (by omega) (by omega)
    have m10 : 0 < n * n := Int.mul_pos (by omega) (by omega)
    have v1 : IntKind.i64.wrap (d * ea) = d * ea := IntWalk.i64_in _ (by omega)
    have v2 : IntKind.i64.wrap (n * no) = n * no := IntWalk.i64_in _ (by omega)
    have v3 : IntKind.i64.wrap (d * no) = d * no := IntWalk.i64_in _ (by omega)
    have v4 : IntKind.i64.wrap (n * ea) = n * ea := IntWalk.i64_in _ (by omega)
    have v5 : IntKind.i64.wrap (d * ea + n * no) = d * ea + n * no := IntWalk.i64_in _ (by omega)
    have v6 : IntKind.i64.wrap (d * no - n * ea) = d * no - n * ea := IntWalk.i64_in _ (by omega)
    have v7 : IntKind.i64.wrap (d * (d * ea + n * no)) = d * (d * ea + n * no) := IntWalk.i64_in _ (by omega)
    have v8 : IntKind.i64.wrap (d * (d * no - n * ea)) = d * (d * no - n * ea) := IntWalk.i64_in _ (by omega)
    have v9 : IntKind.i64.wrap (d * d) = d * d := IntWalk.i64_in _ (by omega)
    have v10 : IntKind.i64.wrap (n * n) = n * n := IntWalk.i64_in _ (by omega)
    have v11 : IntKind.i64.wrap (d * d + n * n) = d * d + n * n := IntWalk.i64_in _ (by omega)
    have K1 := Lib.hid (show (d * (d * ea + n * no)).natAbs ≤ 4000000000000000000 by omega)
    have K2 := Lib.hid (show (d * (d * no - n * ea)).natAbs ≤ 4000000000000000000 by omega)
    have K3 := Lib.hid (show 0 < d * d + n * n ∧ d * d + n * n ≤ 4000000000000000000 by omega)
    clear m1 m2 m3 m4 m5 m6 m7 m8 m9 m10
    rw [hn] at c1
    rw [hd] at c2
    rw [hea] at c3
    rw [hno] at c4
    have HN := Lib.hid hn
    have HD := Lib.hid hd
    have HE := Lib.hid hea
    have HO := Lib.hid hno
    clear hr hn hd hea hno hq
    go_wp2_with fail
    go_quiet (fail)
    have Y2 := Lib.hid (Y1.out.below (bel_drawn w1 nq))
    have Z2 := Lib.hid (Z1.out.below (bel_drawn w1 nq))
    have B2 := Lib.hid (Below.then' B1.out (bel_drawn w1 nq))
    clear c0 c1 c2 c3 c4
    obtain ⟨c0, c1, c2, c3, c4⟩ := Y2.out
    rw [HN.out] at c1
    rw [HD.out] at c2
    rw [HE.out] at c3
    rw [HO.out] at c4
    rw [HQ.out] at c0
    go_wp2_with fail
    refine (l4Lowest_any _ _ _ _ K1.out K2.out K3.out.1 K3.out.2).mono ?_
    rintro e w3 ⟨rfl, hb⟩
    rw [E.out]
    have B := Lib.hid (Below.then' (B2.out) hb)
    have hz := (Z2.out).below hb
    have f0 := hz.free 0
    have f1 := hz.free 1
    have f2 := hz.free 2
    obtain ⟨z0, z1, z2⟩ := hz.cells
    have ZW := Lib.hid (hz.setAll r)
    clear hb hz
    go_wp2
    refine bodyPost_ret (resultsSpot2 rfl rfl rfl ZW.out) rfl ⟨ret_sb R.out.symm V1.out.symm, ?_⟩
    exact (((B.out).setCell (by simp) _).setCell (by simp) _).setCell (by simp) _
end Go.Proofs.Ytghgipadogdfiaa
