/- TouchingZones and CutZone in the model, whole. -/
import Derived.Test.YtmjdldeoplopkaaZs3
import Derived.Test.YtmjdldeoplopkaaHeld
import Derived.Maps.AppendAt
namespace Go.Proofs.Ytmjdldeoplopkaa
open Go.RowKit

theorem made_A4 (w : World) : (w.alloc (.cells #[] 36)).ownsRow w.heap.size 36 4 (.slice (some ⟨w.heap.size, 0, none⟩) 0 0) ([] : List VIntA4).length (cellsIntA4 []) :=
  World.ownsRow_made (base := w.heap.size) (e := 36) (size := 4) w #[] 0 (Nat.le_refl _) (Nat.zero_le _) rfl
theorem made_A2 (w : World) : (w.alloc (.cells #[] 42)).ownsRow w.heap.size 42 2 (.slice (some ⟨w.heap.size, 0, none⟩) 0 0) ([] : List VIntA2).length (cellsIntA2 []) :=
  World.ownsRow_made (base := w.heap.size) (e := 42) (size := 2) w #[] 0 (Nat.le_refl _) (Nat.zero_le _) rfl
set_option maxHeartbeats 25600000 in
set_option maxRecDepth 100000 in
theorem specCutZone_any (a b : VZone) (w : World) : Calls Try.prog 17 #[.agg #[.int .i64 a.Id, .int .i64 a.West, .int .i64 a.South, .int .i64 a.East, .int .i64 a.North], .agg #[.int .i64 b.Id, .int .i64 b.West, .int .i64 b.South, .int .i64 b.East, .int .i64 b.North]] w (CutZone_Post a b w) := by
  have b2 := bel_al2 w (.cells #[.int .i64 a.Id, .int .i64 a.West, .int .i64 a.South, .int .i64 a.East, .int .i64 a.North] 25) (.cells #[.int .i64 b.Id, .int .i64 b.West, .int .i64 b.South, .int .i64 b.East, .int .i64 b.North] 25)
  have s2 : ((w.alloc (.cells #[.int .i64 a.Id, .int .i64 a.West, .int .i64 a.South, .int .i64 a.East, .int .i64 a.North] 25)).alloc (.cells #[.int .i64 b.Id, .int .i64 b.West, .int .i64 b.South, .int .i64 b.East, .int .i64 b.North] 25)).heap.size = w.heap.size + 2 := by rw [size_al, size_al]
  have b3 := Below.then' b2 (bel_al1 ((w.alloc (.cells #[.int .i64 a.Id, .int .i64 a.West, .int .i64 a.South, .int .i64 a.East, .int .i64 a.North] 25)).alloc (.cells #[.int .i64 b.Id, .int .i64 b.West, .int .i64 b.South, .int .i64 b.East, .int .i64 b.North] 25)) (.cells #[] 36))
  have XA := Lib.hid (((BoxZone.new w 25 a _ rfl).below (bel_al1 _ (.cells #[.int .i64 b.Id, .int .i64 b.West, .int .i64 b.South, .int .i64 b.East, .int .i64 b.North] 25))).below (bel_al1 _ (.cells #[] 36)))
  have XB := Lib.hid ((BoxZone.new (w.alloc (.cells #[.int .i64 a.Id, .int .i64 a.West, .int .i64 a.South, .int .i64 a.East, .int .i64 a.North] 25)) 25 b (w.heap.size + 1) (size_al _ _)).below (bel_al1 _ (.cells #[] 36)))
  have O0 := made_A4 ((w.alloc (.cells #[.int .i64 a.Id, .int .i64 a.West, .int .i64 a.South, .int .i64 a.East, .int .i64 a.North] 25)).alloc (.cells #[.int .i64 b.Id, .int .i64 b.West, .int .i64 b.South, .int .i64 b.East, .int .i64 b.North] 25))
  rw [s2] at O0
  have O0 := Lib.hid O0
  have SZ := Lib.hid (show (((w.alloc (.cells #[.int .i64 a.Id, .int .i64 a.West, .int .i64 a.South, .int .i64 a.East, .int .i64 a.North] 25)).alloc (.cells #[.int .i64 b.Id, .int .i64 b.West, .int .i64 b.South, .int .i64 b.East, .int .i64 b.North] 25)).alloc (.cells #[] 36)).heap.size = w.heap.size + 3 from by rw [size_al, s2])
  have B0 := Lib.hid b3
  have U1 := Lib.hid (show CutZone_1 a b = (a.ok && b.ok) from rfl)
  have U0 := Lib.hid (show CutZone_0 a b = if CutZone_1 a b then (cutParts a b).filter fullB else [] from rfl)
  clear b2 b3 s2
  go_enter Try.func17, Try.ntmps17
  go_wp2_with fail
  refine (l6Zone_any a _).mono ?_
  rintro e w1 ⟨rfl, hb⟩
  have B1 := Lib.hid (Below.then' B0.out hb)
  have XA1 := Lib.hid (XA.out.below hb)
  have XB1 := Lib.hid (XB.out.below hb)
  have O1 := Lib.hid (ownsRow_below O0.out hb)
  have z1 := hb.size
  rw [SZ.out] at z1
  clear hb
  cases hq : a.ok with
  | false =>
    have Q := Lib.hid hq
    clear hq
    go_wp2
    go_ret2
    exact ⟨_, by rw [U1.out, Q.out]; rfl, by rw [U0.out, U1.out, Q.out]; exact ownsRow_base O1.out (by omega), B1.out⟩
  | true =>
  have Q := Lib.hid hq
  clear hq
  obtain ⟨d0, d1, d2, d3, d4⟩ := XB1.out
  go_wp2_with fail
  refine (l6Zone_any b _).mono ?_
  rintro e w2 ⟨rfl, hb⟩
  have B2 := Lib.hid (Below.then' B1.out hb)
  have XA2 := Lib.hid (XA1.out.below hb)
  have XB2 := Lib.hid (XB1.out.below hb)
  have O2 := Lib.hid (ownsRow_below O1.out hb)
  have z2 := hb.size
  clear hb d0 d1 d2 d3 d4
  cases hq : b.ok with
  | false =>
    have Q2 := Lib.hid hq
    clear hq
    go_wp2
    go_ret2
    exact ⟨_, by rw [U1.out, Q.out, Q2.out]; rfl, by rw [U0.out, U1.out, Q.out, Q2.out]; exact ownsRow_base O2.out (by omega), B2.out⟩
  | true =>
  have Q2 := Lib.hid hq
  have CS := Lib.hid (cut_some Q.out Q2.out)
  have E1 := Lib.hid (show CutZone_1 a b = true from by rw [U1.out, Q.out, Q2.out]; rfl)
  clear hq
  obtain ⟨g1, hg1⟩ : ∃ g, min a.North (max a.South b.South) = g := ⟨_, rfl⟩
  obtain ⟨g2, hg2⟩ : ∃ g, max a.South (min a.North b.North) = g := ⟨_, rfl⟩
  rw [hg1, hg2] at CS
  have G1 := Lib.hid hg1
  have G2 := Lib.hid hg2
  clear hg1 hg2
  obtain ⟨d0, d1, d2, d3, d4⟩ := XA2.out
  obtain ⟨f0, f1, f2, f3, f4⟩ := XB2.out
  have k1 := cell_regrown d2
  have k2 := cell_regrown d4
  have k3 := cell_regrown f2
  have k4 := cell_regrown f4
  have c1 := fun p q => below_at (W := w2) (fun W' _ => same_below (l1Least_any p q W'))
  have c2 := fun p q => below_at (W := w2) (fun W' _ => same_below (l1Most_any p q W'))
  clear d0 d1 d2 d3 d4 f0 f1 f2 f3 f4
  go_wp2
  refine wp_region_quiet_below (by kernel_rfl) (by kernel_rfl) ?_
  repeat (first | go_big_quiet_step (first | (with_reducible exact c1 _ _ _ _) | (with_reducible exact c2 _ _ _ _)) | quiet_step (first | (with_reducible exact c1 _ _ _ _) | (with_reducible exact c2 _ _ _ _)))
  refine wpQuiet_nil ?_
  intro w4 hw4
  have hb4 := below_of_re hw4
  have B4 := Lib.hid (Below.then' B2.out hb4)
  have XA4 := Lib.hid (XA2.out.below hb4)
  have XB4 := Lib.hid (XB2.out.below hb4)
  have O4 := Lib.hid (ownsRow_below O2.out hb4)
  have z4 := hb4.size
  clear hw4 hb4 k1 k2 k3 k4 c1 c2
  rw [G1.out, G2.out]
  have hz : w.heap.size + 2 ≤ w4.heap.size := by omega
  clear z1 z2 z4
  obtain ⟨d0, d1, d2, d3, d4⟩ := XA4.out
  go_wp2_with fail
  refine (l6Some_any (w.heap.size + 2) _ [] ⟨a.West, a.South, a.East, g1⟩ _ O4.out (by simp) hz).mono ?_
  rintro e w5 ⟨v5, rfl, hown, hb, hs5⟩
  have O5 := Lib.hid hown
  have BB5 := Lib.hid (B4.out.trans (hb.mono (by omega)))
  have A5 := Lib.hid (show w5.cell? ⟨w.heap.size, 1, none⟩ = some (.int .i64 a.West) ∧ w5.cell? ⟨w.heap.size, 2, none⟩ = some (.int .i64 a.South) ∧ w5.cell? ⟨w.heap.size, 3, none⟩ = some (.int .i64 a.East) ∧ w5.cell? ⟨w.heap.size, 4, none⟩ = some (.int .i64 a.North) from by
    obtain ⟨d0, d1, d2, d3, d4⟩ := XA4.out
    exact ⟨(hb.cell (p := ⟨w.heap.size, 1, none⟩) (by show w.heap.size < _; omega)).trans d1, (hb.cell (p := ⟨w.heap.size, 2, none⟩) (by show w.heap.size < _; omega)).trans d2, (hb.cell (p := ⟨w.heap.size, 3, none⟩) (by show w.heap.size < _; omega)).trans d3, (hb.cell (p := ⟨w.heap.size, 4, none⟩) (by show w.heap.size < _; omega)).trans d4⟩)
  have C5 := Lib.hid (show w5.cell? ⟨w.heap.size + 1, 1, none⟩ = some (.int .i64 b.West) ∧ w5.cell? ⟨w.heap.size + 1, 2, none⟩ = some (.int .i64 b.South) ∧ w5.cell? ⟨w.heap.size + 1, 3, none⟩ = some (.int .i64 b.East) ∧ w5.cell? ⟨w.heap.size + 1, 4, none⟩ = some (.int .i64 b.North) from by
    obtain ⟨d0, d1, d2, d3, d4⟩ := XB4.out
    exact ⟨(hb.cell (p := ⟨w.heap.size + 1, 1, none⟩) (by show w.heap.size + 1 < _; omega)).trans d1, (hb.cell (p := ⟨w.heap.size + 1, 2, none⟩) (by show w.heap.size + 1 < _; omega)).trans d2, (hb.cell (p := ⟨w.heap.size + 1, 3, none⟩) (by show w.heap.size + 1 < _; omega)).trans d3, (hb.cell (p := ⟨w.heap.size + 1, 4, none⟩) (by show w.heap.size + 1 < _; omega)).trans d4⟩)
  clear hb hown d0 d1 d2 d3 d4
  obtain ⟨P1, hP1⟩ : ∃ P, somePart [] ⟨a.West, a.South, a.East, g1⟩ = P := ⟨_, rfl⟩
  have l1 : P1.length ≤ 1 := by rw [← hP1]; exact some_len [] _
  rw [hP1] at O5 CS
  clear hP1
  have KD := Lib.hid (show Below (w.heap.size + 2) w5 w5.drew ∧ w.heap.size + 2 ≤ w5.drew.heap.size ∧ w5.drew.cell? ⟨w.heap.size, 1, none⟩ = some (.int .i64 a.West) ∧ w5.drew.cell? ⟨w.heap.size, 2, none⟩ = some (.int .i64 a.South) ∧ w5.drew.cell? ⟨w.heap.size, 3, none⟩ = some (.int .i64 a.East) ∧ w5.drew.cell? ⟨w.heap.size, 4, none⟩ = some (.int .i64 a.North) ∧ w5.drew.cell? ⟨w.heap.size + 1, 1, none⟩ = some (.int .i64 b.West) ∧ w5.drew.cell? ⟨w.heap.size + 1, 2, none⟩ = some (.int .i64 b.South) ∧ w5.drew.cell? ⟨w.heap.size + 1, 3, none⟩ = some (.int .i64 b.East) ∧ w5.drew.cell? ⟨w.heap.size + 1, 4, none⟩ = some (.int .i64 b.North) from by
    obtain ⟨c1, c2, c3, c4⟩ := A5.out
    obtain ⟨e1, e2, e3, e4⟩ := C5.out
    exact ⟨(Below.refl _ _).drew, hs5, c1, c2, c3, c4, e1, e2, e3, e4⟩)
  have KP := Lib.hid (show ∀ u1 u2 : World, (Below (w.heap.size + 2) w5 u1 ∧ w.heap.size + 2 ≤ u1.heap.size ∧ u1.cell? ⟨w.heap.size, 1, none⟩ = some (.int .i64 a.West) ∧ u1.cell? ⟨w.heap.size, 2, none⟩ = some (.int .i64 a.South) ∧ u1.cell? ⟨w.heap.size, 3, none⟩ = some (.int .i64 a.East) ∧ u1.cell? ⟨w.heap.size, 4, none⟩ = some (.int .i64 a.North) ∧ u1.cell? ⟨w.heap.size + 1, 1, none⟩ = some (.int .i64 b.West) ∧ u1.cell? ⟨w.heap.size + 1, 2, none⟩ = some (.int .i64 b.South) ∧ u1.cell? ⟨w.heap.size + 1, 3, none⟩ = some (.int .i64 b.East) ∧ u1.cell? ⟨w.heap.size + 1, 4, none⟩ = some (.int .i64 b.North)) → Below (w.heap.size + 2) u1 u2 → w.heap.size + 2 ≤ u2.heap.size → (Below (w.heap.size + 2) w5 u2 ∧ w.heap.size + 2 ≤ u2.heap.size ∧ u2.cell? ⟨w.heap.size, 1, none⟩ = some (.int .i64 a.West) ∧ u2.cell? ⟨w.heap.size, 2, none⟩ = some (.int .i64 a.South) ∧ u2.cell? ⟨w.heap.size, 3, none⟩ = some (.int .i64 a.East) ∧ u2.cell? ⟨w.heap.size, 4, none⟩ = some (.int .i64 a.North) ∧ u2.cell? ⟨w.heap.size + 1, 1, none⟩ = some (.int .i64 b.West) ∧ u2.cell? ⟨w.heap.size + 1, 2, none⟩ = some (.int .i64 b.South) ∧ u2.cell? ⟨w.heap.size + 1, 3, none⟩ = some (.int .i64 b.East) ∧ u2.cell? ⟨w.heap.size + 1, 4, none⟩ = some (.int .i64 b.North)) from by
    rintro u1 u2 ⟨h0, h1, c1, c2, c3, c4, e1, e2, e3, e4⟩ hb hz
    exact ⟨h0.trans hb, hz, (hb.cell (p := ⟨w.heap.size, 1, none⟩) (by show w.heap.size < _; omega)).trans c1, (hb.cell (p := ⟨w.heap.size, 2, none⟩) (by show w.heap.size < _; omega)).trans c2, (hb.cell (p := ⟨w.heap.size, 3, none⟩) (by show w.heap.size < _; omega)).trans c3, (hb.cell (p := ⟨w.heap.size, 4, none⟩) (by show w.heap.size < _; omega)).trans c4, (hb.cell (p := ⟨w.heap.size + 1, 1, none⟩) (by show w.heap.size + 1 < _; omega)).trans e1, (hb.cell (p := ⟨w.heap.size + 1, 2, none⟩) (by show w.heap.size + 1 < _; omega)).trans e2, (hb.cell (p := ⟨w.heap.size + 1, 3, none⟩) (by show w.heap.size + 1 < _; omega)).trans e3, (hb.cell (p := ⟨w.heap.size + 1, 4, none⟩) (by show w.heap.size + 1 < _; omega)).trans e4⟩)
  have KO := Lib.hid (show w5.drew.ownsRow (w.heap.size + 2) 36 4 v5 P1.length (cellsIntA4 P1) from O5.out)
  have KZ := Lib.hid (show w.heap.size + 2 ≤ w5.drew.heap.size from hs5)
  go_wp2
  go_region_held3 (fun w' => Below (w.heap.size + 2) w5 w' ∧ w.heap.size + 2 ≤ w'.heap.size ∧ w'.cell? ⟨w.heap.size, 1, none⟩ = some (.int .i64 a.West) ∧ w'.cell? ⟨w.heap.size, 2, none⟩ = some (.int .i64 a.South) ∧ w'.cell? ⟨w.heap.size, 3, none⟩ = some (.int .i64 a.East) ∧ w'.cell? ⟨w.heap.size, 4, none⟩ = some (.int .i64 a.North) ∧ w'.cell? ⟨w.heap.size + 1, 1, none⟩ = some (.int .i64 b.West) ∧ w'.cell? ⟨w.heap.size + 1, 2, none⟩ = some (.int .i64 b.South) ∧ w'.cell? ⟨w.heap.size + 1, 3, none⟩ = some (.int .i64 b.East) ∧ w'.cell? ⟨w.heap.size + 1, 4, none⟩ = some (.int .i64 b.North))
    (first | exact KD.out | exact KP.out _ _ (by assumption) (by assumption) (by assumption))
    (first | (go_at_call 61; refine (l1Most_any _ _ _).mono ?_; rintro e w' ⟨rfl, rfl⟩) | (go_at_call 62; refine (l6Some_any (w.heap.size + 2) v5 P1 ⟨a.West, max g1 g2, a.East, a.North⟩ _ KO.out (by omega) KZ.out).mono ?_; rintro e w' ⟨v', rfl, hown, hb, hbs⟩))
  rename_i HH
  obtain ⟨hb0, hs6, c1, c2, c3, c4, e1, e2, e3, e4⟩ := HH
  obtain ⟨w6, rfl⟩ : ∃ u : World, u = w' := ⟨_, rfl⟩
  obtain ⟨v6, rfl⟩ : ∃ u : Value, u = v' := ⟨_, rfl⟩
  have O6 := Lib.hid hown
  have BB6 := Lib.hid (BB5.out.trans (hb0.mono (by omega)))
  have A6 := Lib.hid (show w6.cell? ⟨w.heap.size, 1, none⟩ = some (.int .i64 a.West) ∧ w6.cell? ⟨w.heap.size, 2, none⟩ = some (.int .i64 a.South) ∧ w6.cell? ⟨w.heap.size, 3, none⟩ = some (.int .i64 a.East) ∧ w6.cell? ⟨w.heap.size, 4, none⟩ = some (.int .i64 a.North) from ⟨c1, c2, c3, c4⟩)
  have C6 := Lib.hid (show w6.cell? ⟨w.heap.size + 1, 1, none⟩ = some (.int .i64 b.West) ∧ w6.cell? ⟨w.heap.size + 1, 2, none⟩ = some (.int .i64 b.South) ∧ w6.cell? ⟨w.heap.size + 1, 3, none⟩ = some (.int .i64 b.East) ∧ w6.cell? ⟨w.heap.size + 1, 4, none⟩ = some (.int .i64 b.North) from ⟨e1, e2, e3, e4⟩)
  clear KD KP KO KZ hown hb hbs hb0 c1 c2 c3 c4 e1 e2 e3 e4
  obtain ⟨P2, hP⟩ : ∃ P, somePart P1 ⟨a.West, max g1 g2, a.East, a.North⟩ = P := ⟨_, rfl⟩
  have l2 : P2.length ≤ 2 := by rw [← hP]; have := some_len P1 ⟨a.West, max g1 g2, a.East, a.North⟩; omega
  rw [hP] at O6 CS
  clear hP
  have KD := Lib.hid (show Below (w.heap.size + 2) w6 w6.drew ∧ w.heap.size + 2 ≤ w6.drew.heap.size ∧ w6.drew.cell? ⟨w.heap.size, 1, none⟩ = some (.int .i64 a.West) ∧ w6.drew.cell? ⟨w.heap.size, 2, none⟩ = some (.int .i64 a.South) ∧ w6.drew.cell? ⟨w.heap.size, 3, none⟩ = some (.int .i64 a.East) ∧ w6.drew.cell? ⟨w.heap.size, 4, none⟩ = some (.int .i64 a.North) ∧ w6.drew.cell? ⟨w.heap.size + 1, 1, none⟩ = some (.int .i64 b.West) ∧ w6.drew.cell? ⟨w.heap.size + 1, 2, none⟩ = some (.int .i64 b.South) ∧ w6.drew.cell? ⟨w.heap.size + 1, 3, none⟩ = some (.int .i64 b.East) ∧ w6.drew.cell? ⟨w.heap.size + 1, 4, none⟩ = some (.int .i64 b.North) from by
    obtain ⟨c1, c2, c3, c4⟩ := A6.out
    obtain ⟨e1, e2, e3, e4⟩ := C6.out
    exact ⟨(Below.refl _ _).drew, hs6, c1, c2, c3, c4, e1, e2, e3, e4⟩)
  have KP := Lib.hid (show ∀ u1 u2 : World, (Below (w.heap.size + 2) w6 u1 ∧ w.heap.size + 2 ≤ u1.heap.size ∧ u1.cell? ⟨w.heap.size, 1, none⟩ = some (.int .i64 a.West) ∧ u1.cell? ⟨w.heap.size, 2, none⟩ = some (.int .i64 a.South) ∧ u1.cell? ⟨w.heap.size, 3, none⟩ = some (.int .i64 a.East) ∧ u1.cell? ⟨w.heap.size, 4, none⟩ = some (.int .i64 a.North) ∧ u1.cell? ⟨w.heap.size + 1, 1, none⟩ = some (.int .i64 b.West) ∧ u1.cell? ⟨w.heap.size + 1, 2, none⟩ = some (.int .i64 b.South) ∧ u1.cell? ⟨w.heap.size + 1, 3, none⟩ = some (.int .i64 b.East) ∧ u1.cell? ⟨w.heap.size + 1, 4, none⟩ = some (.int .i64 b.North)) → Below (w.heap.size + 2) u1 u2 → w.heap.size + 2 ≤ u2.heap.size → (Below (w.heap.size + 2) w6 u2 ∧ w.heap.size + 2 ≤ u2.heap.size ∧ u2.cell? ⟨w.heap.size, 1, none⟩ = some (.int .i64 a.West) ∧ u2.cell? ⟨w.heap.size, 2, none⟩ = some (.int .i64 a.South) ∧ u2.cell? ⟨w.heap.size, 3, none⟩ = some (.int .i64 a.East) ∧ u2.cell? ⟨w.heap.size, 4, none⟩ = some (.int .i64 a.North) ∧ u2.cell? ⟨w.heap.size + 1, 1, none⟩ = some (.int .i64 b.West) ∧ u2.cell? ⟨w.heap.size + 1, 2, none⟩ = some (.int .i64 b.South) ∧ u2.cell? ⟨w.heap.size + 1, 3, none⟩ = some (.int .i64 b.East) ∧ u2.cell? ⟨w.heap.size + 1, 4, none⟩ = some (.int .i64 b.North)) from by
    rintro u1 u2 ⟨h0, h1, c1, c2, c3, c4, e1, e2, e3, e4⟩ hb hz
    exact ⟨h0.trans hb, hz, (hb.cell (p := ⟨w.heap.size, 1, none⟩) (by show w.heap.size < _; omega)).trans c1, (hb.cell (p := ⟨w.heap.size, 2, none⟩) (by show w.heap.size < _; omega)).trans c2, (hb.cell (p := ⟨w.heap.size, 3, none⟩) (by show w.heap.size < _; omega)).trans c3, (hb.cell (p := ⟨w.heap.size, 4, none⟩) (by show w.heap.size < _; omega)).trans c4, (hb.cell (p := ⟨w.heap.size + 1, 1, none⟩) (by show w.heap.size + 1 < _; omega)).trans e1, (hb.cell (p := ⟨w.heap.size + 1, 2, none⟩) (by show w.heap.size + 1 < _; omega)).trans e2, (hb.cell (p := ⟨w.heap.size + 1, 3, none⟩) (by show w.heap.size + 1 < _; omega)).trans e3, (hb.cell (p := ⟨w.heap.size + 1, 4, none⟩) (by show w.heap.size + 1 < _; omega)).trans e4⟩)
  have KO := Lib.hid (show w6.drew.ownsRow (w.heap.size + 2) 36 4 v6 P2.length (cellsIntA4 P2) from O6.out)
  have KZ := Lib.hid (show w.heap.size + 2 ≤ w6.drew.heap.size from hs6)
  go_wp2
  go_region_held3 (fun w' => Below (w.heap.size + 2) w6 w' ∧ w.heap.size + 2 ≤ w'.heap.size ∧ w'.cell? ⟨w.heap.size, 1, none⟩ = some (.int .i64 a.West) ∧ w'.cell? ⟨w.heap.size, 2, none⟩ = some (.int .i64 a.South) ∧ w'.cell? ⟨w.heap.size, 3, none⟩ = some (.int .i64 a.East) ∧ w'.cell? ⟨w.heap.size, 4, none⟩ = some (.int .i64 a.North) ∧ w'.cell? ⟨w.heap.size + 1, 1, none⟩ = some (.int .i64 b.West) ∧ w'.cell? ⟨w.heap.size + 1, 2, none⟩ = some (.int .i64 b.South) ∧ w'.cell? ⟨w.heap.size + 1, 3, none⟩ = some (.int .i64 b.East) ∧ w'.cell? ⟨w.heap.size + 1, 4, none⟩ = some (.int .i64 b.North))
    (first | exact KD.out | exact KP.out _ _ (by assumption) (by assumption) (by assumption))
    (first | (go_at_call 60; refine (l1Least_any _ _ _).mono ?_; rintro e w' ⟨rfl, rfl⟩) | (go_at_call 62; refine (l6Some_any (w.heap.size + 2) v6 P2 ⟨a.West, g1, min a.East b.West, g2⟩ _ KO.out (by omega) KZ.out).mono ?_; rintro e w' ⟨v', rfl, hown, hb, hbs⟩))
  rename_i HH
  obtain ⟨hb0, hs7, c1, c2, c3, c4, e1, e2, e3, e4⟩ := HH
  obtain ⟨w7, rfl⟩ : ∃ u : World, u = w' := ⟨_, rfl⟩
  obtain ⟨v7, rfl⟩ : ∃ u : Value, u = v' := ⟨_, rfl⟩
  have O7 := Lib.hid hown
  have BB7 := Lib.hid (BB6.out.trans (hb0.mono (by omega)))
  have A7 := Lib.hid (show w7.cell? ⟨w.heap.size, 1, none⟩ = some (.int .i64 a.West) ∧ w7.cell? ⟨w.heap.size, 2, none⟩ = some (.int .i64 a.South) ∧ w7.cell? ⟨w.heap.size, 3, none⟩ = some (.int .i64 a.East) ∧ w7.cell? ⟨w.heap.size, 4, none⟩ = some (.int .i64 a.North) from ⟨c1, c2, c3, c4⟩)
  have C7 := Lib.hid (show w7.cell? ⟨w.heap.size + 1, 1, none⟩ = some (.int .i64 b.West) ∧ w7.cell? ⟨w.heap.size + 1, 2, none⟩ = some (.int .i64 b.South) ∧ w7.cell? ⟨w.heap.size + 1, 3, none⟩ = some (.int .i64 b.East) ∧ w7.cell? ⟨w.heap.size + 1, 4, none⟩ = some (.int .i64 b.North) from ⟨e1, e2, e3, e4⟩)
  clear KD KP KO KZ hown hb hbs hb0 c1 c2 c3 c4 e1 e2 e3 e4
  obtain ⟨P3, hP⟩ : ∃ P, somePart P2 ⟨a.West, g1, min a.East b.West, g2⟩ = P := ⟨_, rfl⟩
  have l3 : P3.length ≤ 3 := by rw [← hP]; have := some_len P2 ⟨a.West, g1, min a.East b.West, g2⟩; omega
  rw [hP] at O7 CS
  clear hP
  have KD := Lib.hid (show Below (w.heap.size + 2) w7 w7.drew ∧ w.heap.size + 2 ≤ w7.drew.heap.size ∧ w7.drew.cell? ⟨w.heap.size, 1, none⟩ = some (.int .i64 a.West) ∧ w7.drew.cell? ⟨w.heap.size, 2, none⟩ = some (.int .i64 a.South) ∧ w7.drew.cell? ⟨w.heap.size, 3, none⟩ = some (.int .i64 a.East) ∧ w7.drew.cell? ⟨w.heap.size, 4, none⟩ = some (.int .i64 a.North) ∧ w7.drew.cell? ⟨w.heap.size + 1, 1, none⟩ = some (.int .i64 b.West) ∧ w7.drew.cell? ⟨w.heap.size + 1, 2, none⟩ = some (.int .i64 b.South) ∧ w7.drew.cell? ⟨w.heap.size + 1, 3, none⟩ = some (.int .i64 b.East) ∧ w7.drew.cell? ⟨w.heap.size + 1, 4, none⟩ = some (.int .i64 b.North) from by
    obtain ⟨c1, c2, c3, c4⟩ := A7.out
    obtain ⟨e1, e2, e3, e4⟩ := C7.out
    exact ⟨(Below.refl _ _).drew, hs7, c1, c2, c3, c4, e1, e2, e3, e4⟩)
  have KP := Lib.hid (show ∀ u1 u2 : World, (Below (w.heap.size + 2) w7 u1 ∧ w.heap.size + 2 ≤ u1.heap.size ∧ u1.cell? ⟨w.heap.size, 1, none⟩ = some (.int .i64 a.West) ∧ u1.cell? ⟨w.heap.size, 2, none⟩ = some (.int .i64 a.South) ∧ u1.cell? ⟨w.heap.size, 3, none⟩ = some (.int .i64 a.East) ∧ u1.cell? ⟨w.heap.size, 4, none⟩ = some (.int .i64 a.North) ∧ u1.cell? ⟨w.heap.size + 1, 1, none⟩ = some (.int .i64 b.West) ∧ u1.cell? ⟨w.heap.size + 1, 2, none⟩ = some (.int .i64 b.South) ∧ u1.cell? ⟨w.heap.size + 1, 3, none⟩ = some (.int .i64 b.East) ∧ u1.cell? ⟨w.heap.size + 1, 4, none⟩ = some (.int .i64 b.North)) → Below (w.heap.size + 2) u1 u2 → w.heap.size + 2 ≤ u2.heap.size → (Below (w.heap.size + 2) w7 u2 ∧ w.heap.size + 2 ≤ u2.heap.size ∧ u2.cell? ⟨w.heap.size, 1, none⟩ = some (.int .i64 a.West) ∧ u2.cell? ⟨w.heap.size, 2, none⟩ = some (.int .i64 a.South) ∧ u2.cell? ⟨w.heap.size, 3, none⟩ = some (.int .i64 a.East) ∧ u2.cell? ⟨w.heap.size, 4, none⟩ = some (.int .i64 a.North) ∧ u2.cell? ⟨w.heap.size + 1, 1, none⟩ = some (.int .i64 b.West) ∧ u2.cell? ⟨w.heap.size + 1, 2, none⟩ = some (.int .i64 b.South) ∧ u2.cell? ⟨w.heap.size + 1, 3, none⟩ = some (.int .i64 b.East) ∧ u2.cell? ⟨w.heap.size + 1, 4, none⟩ = some (.int .i64 b.North)) from by
    rintro u1 u2 ⟨h0, h1, c1, c2, c3, c4, e1, e2, e3, e4⟩ hb hz
    exact ⟨h0.trans hb, hz, (hb.cell (p := ⟨w.heap.size, 1, none⟩) (by show w.heap.size < _; omega)).trans c1, (hb.cell (p := ⟨w.heap.size, 2, none⟩) (by show w.heap.size < _; omega)).trans c2, (hb.cell (p := ⟨w.heap.size, 3, none⟩) (by show w.heap.size < _; omega)).trans c3, (hb.cell (p := ⟨w.heap.size, 4, none⟩) (by show w.heap.size < _; omega)).trans c4, (hb.cell (p := ⟨w.heap.size + 1, 1, none⟩) (by show w.heap.size + 1 < _; omega)).trans e1, (hb.cell (p := ⟨w.heap.size + 1, 2, none⟩) (by show w.heap.size + 1 < _; omega)).trans e2, (hb.cell (p := ⟨w.heap.size + 1, 3, none⟩) (by show w.heap.size + 1 < _; omega)).trans e3, (hb.cell (p := ⟨w.heap.size + 1, 4, none⟩) (by show w.heap.size + 1 < _; omega)).trans e4⟩)
  have KO := Lib.hid (show w7.drew.ownsRow (w.heap.size + 2) 36 4 v7 P3.length (cellsIntA4 P3) from O7.out)
  have KZ := Lib.hid (show w.heap.size + 2 ≤ w7.drew.heap.size from hs7)
  go_wp2
  go_region_held3 (fun w' => Below (w.heap.size + 2) w7 w' ∧ w.heap.size + 2 ≤ w'.heap.size ∧ w'.cell? ⟨w.heap.size, 1, none⟩ = some (.int .i64 a.West) ∧ w'.cell? ⟨w.heap.size, 2, none⟩ = some (.int .i64 a.South) ∧ w'.cell? ⟨w.heap.size, 3, none⟩ = some (.int .i64 a.East) ∧ w'.cell? ⟨w.heap.size, 4, none⟩ = some (.int .i64 a.North) ∧ w'.cell? ⟨w.heap.size + 1, 1, none⟩ = some (.int .i64 b.West) ∧ w'.cell? ⟨w.heap.size + 1, 2, none⟩ = some (.int .i64 b.South) ∧ w'.cell? ⟨w.heap.size + 1, 3, none⟩ = some (.int .i64 b.East) ∧ w'.cell? ⟨w.heap.size + 1, 4, none⟩ = some (.int .i64 b.North))
    (first | exact KD.out | exact KP.out _ _ (by assumption) (by assumption) (by assumption))
    (first | (go_at_call 61; refine (l1Most_any _ _ _).mono ?_; rintro e w' ⟨rfl, rfl⟩) | (go_at_call 62; refine (l6Some_any (w.heap.size + 2) v7 P3 ⟨max a.West b.East, g1, a.East, g2⟩ _ KO.out (by omega) KZ.out).mono ?_; rintro e w' ⟨v', rfl, hown, hb, hbs⟩))
  rename_i HH
  obtain ⟨hb0, hs8, c1, c2, c3, c4, e1, e2, e3, e4⟩ := HH
  obtain ⟨w8, rfl⟩ : ∃ u : World, u = w' := ⟨_, rfl⟩
  obtain ⟨v8, rfl⟩ : ∃ u : Value, u = v' := ⟨_, rfl⟩
  have O8 := Lib.hid hown
  have BB8 := Lib.hid (BB7.out.trans (hb0.mono (by omega)))
  have A8 := Lib.hid (show w8.cell? ⟨w.heap.size, 1, none⟩ = some (.int .i64 a.West) ∧ w8.cell? ⟨w.heap.size, 2, none⟩ = some (.int .i64 a.South) ∧ w8.cell? ⟨w.heap.size, 3, none⟩ = some (.int .i64 a.East) ∧ w8.cell? ⟨w.heap.size, 4, none⟩ = some (.int .i64 a.North) from ⟨c1, c2, c3, c4⟩)
  have C8 := Lib.hid (show w8.cell? ⟨w.heap.size + 1, 1, none⟩ = some (.int .i64 b.West) ∧ w8.cell? ⟨w.heap.size + 1, 2, none⟩ = some (.int .i64 b.South) ∧ w8.cell? ⟨w.heap.size + 1, 3, none⟩ = some (.int .i64 b.East) ∧ w8.cell? ⟨w.heap.size + 1, 4, none⟩ = some (.int .i64 b.North) from ⟨e1, e2, e3, e4⟩)
  clear KD KP KO KZ hown hb hbs hb0 c1 c2 c3 c4 e1 e2 e3 e4
  obtain ⟨P4, hP⟩ : ∃ P, somePart P3 ⟨max a.West b.East, g1, a.East, g2⟩ = P := ⟨_, rfl⟩
  have l4 : P4.length ≤ 4 := by rw [← hP]; have := some_len P3 ⟨max a.West b.East, g1, a.East, g2⟩; omega
  rw [hP] at O8 CS
  clear hP
  go_wp2
  go_ret2
  exact ⟨v8, by rw [E1.out]; rfl, by rw [← CS.out]; exact ownsRow_base O8.out (by omega), BB8.out⟩
end Go.Proofs.Ytmjdldeoplopkaa
