/- A reader read from a text: the program's guess. -/
import Derived.Test.YtofgpiikhifiaabDoorRp
import Derived.Test.YtofgpiikhifiaabDoorReaderR
import Derived.Laws.OwnMore
import Derived.WalkLawsBesides
namespace Go.Proofs.YtofgpiikhifiaabDoor
open Go.RowKit

def rd0 : VReader := ⟨0, ByteArray.empty, 0, 0, 0⟩
theorem HBReader.keep {w w' : World} {b : Nat} {s : VReader} (h : HBReader w b s) (hb : Below w.heap.size w w') : HBReader w' b s := h.below hb
set_option maxHeartbeats 6400000 in
set_option maxRecDepth 100000 in
theorem guessReader_any (s : ByteArray) (x : Int) (w : World) (hs : s.size ≤ 1048576) (ht : TabPow w) (hx : w.cell? ⟨1, 0, none⟩ = some (.int .i64 x)) :
    Calls Tryd.prog 18 #[.string s] w fun e w' => e = .returned (.agg #[.int .i64 (candI s).Id, .string (candI s).Name, .int .i64 (candI s).Joined, .int .i64 (candI s).Class, .int .i64 (candI s).Fines]) ∧ Below w.heap.size w w' := by
  obtain ⟨p, hp⟩ : ∃ p, cutB s mSp = p := ⟨_, rfl⟩
  obtain ⟨q, hq⟩ : ∃ q, cutB p.2.1 mCl = q := ⟨_, rfl⟩
  obtain ⟨r, hr⟩ : ∃ r, cutB q.2.1 mSi = r := ⟨_, rfl⟩
  obtain ⟨o, ho⟩ : ∃ o, cutB r.2.1 mOw = o := ⟨_, rfl⟩
  have z1 := cut_size s mSp
  have z2 := cut_size p.2.1 mCl
  have z3 := cut_size q.2.1 mSi
  have z4 := cut_size r.2.1 mOw
  rw [hp] at z1; rw [hq] at z2; rw [hr] at z3; rw [ho] at z4
  obtain ⟨n1, hn1⟩ : ∃ n, parseV p.1 = n := ⟨_, rfl⟩
  obtain ⟨n2, hn2⟩ : ∃ n, parseV r.1 = n := ⟨_, rfl⟩
  obtain ⟨n3, hn3⟩ : ∃ n, parseV o.1 = n := ⟨_, rfl⟩
  obtain ⟨n4, hn4⟩ : ∃ n, parseV o.2.1 = n := ⟨_, rfl⟩
  have E := Lib.hid (show candI s = ⟨n1.1, q.1, n3.1, n2.1, n4.1⟩ from by unfold candI; rw [hp, hq, hr, ho, hn1, hn2, hn3, hn4])
  have B0 := Lib.hid (bel_al1 w (.cells #[.int .i64 0, .string ByteArray.empty, .int .i64 0, .int .i64 0, .int .i64 0] 27))
  have Z0 := Lib.hid (HBReader.new w rd0 _ rfl)
  have T := Lib.hid ht
  have X := Lib.hid hx
  have Hp := Lib.hid hp
  have Hq := Lib.hid hq
  have Hr := Lib.hid hr
  have Ho := Lib.hid ho
  have H1 := Lib.hid hn1
  have H2 := Lib.hid hn2
  have H3 := Lib.hid hn3
  have H4 := Lib.hid hn4
  clear hp hq hr ho hn1 hn2 hn3 hn4 ht hx
  go_enter Tryd.func18, Tryd.ntmps18
  go_wp2_with fail
  refine (cut_any s mSp x _ hs (keepCell X.out B0.out)).mono ?_
  rintro e w1 ⟨rfl, hb⟩
  rw [Hp.out]
  have B1 := Lib.hid (Below.then' B0.out hb)
  have Z1 := Lib.hid (Z0.out.below hb)
  clear hb
  go_wp2_with fail
  refine (cut_any p.2.1 mCl x _ (by omega) (keepCell X.out B1.out)).mono ?_
  rintro e w2 ⟨rfl, hb⟩
  rw [Hq.out]
  have B2 := Lib.hid (Below.then' B1.out hb)
  have Z2 := Lib.hid (Z1.out.below hb)
  clear hb
  go_wp2_with fail
  refine (cut_any q.2.1 mSi x _ (by omega) (keepCell X.out B2.out)).mono ?_
  rintro e w3 ⟨rfl, hb⟩
  rw [Hr.out]
  have B3 := Lib.hid (Below.then' B2.out hb)
  have Z3 := Lib.hid (Z2.out.below hb)
  clear hb
  go_wp2_with fail
  refine (cut_any r.2.1 mOw x _ (by omega) (keepCell X.out B3.out)).mono ?_
  rintro e w4 ⟨rfl, hb⟩
  rw [Ho.out]
  have B4 := Lib.hid (Below.then' B3.out hb)
  have Z4 := Lib.hid (Z3.out.below hb)
  clear hb
  have hlt : w.heap.size < w4.heap.size := Z4.out.lt
  have hne : w.heap.size ≠ w4.heap.size := by omega
  have hle : w.heap.size ≤ w4.heap.size := by omega
  have B5 := Lib.hid (Below.then' B4.out (bel_al1 w4 (.cells #[.int .i64 0, .string q.1, .int .i64 0, .int .i64 0, .int .i64 0] 27)))
  have Z5 := Lib.hid (Z4.out.alloc (.cells #[.int .i64 0, .string q.1, .int .i64 0, .int .i64 0, .int .i64 0] 27))
  have R5 := Lib.hid (HBReader.new w4 ⟨0, q.1, 0, 0, 0⟩ _ rfl)
  go_wp2_with fail
  refine (implParseV p.1 _ (by omega) (tabPow_below T.out B5.out)).mono ?_
  rintro e w6 ⟨rfl, hb⟩
  rw [H1.out]
  have B6 := Lib.hid (Below.then' B5.out hb)
  have Z6 := Lib.hid (Z5.out.below hb)
  have R6 := Lib.hid (R5.out.below hb)
  clear hb
  obtain ⟨c0, c1, c2, c3, c4⟩ := R6.out.cells
  have f0 := R6.out.free 0
  have B7 := Lib.hid (B6.out.setCell (p := ⟨w4.heap.size, 0, none⟩) hle (.int .i64 n1.1))
  have Z7 := Lib.hid (Z6.out.other (j := 0) hne (.int .i64 n1.1))
  have R7 := Lib.hid (R6.out.set0 n1.1)
  go_wp2_with fail
  refine (implParseV r.1 _ (by omega) (tabPow_below T.out B7.out)).mono ?_
  rintro e w8 ⟨rfl, hb⟩
  rw [H2.out]
  have B8 := Lib.hid (Below.then' B7.out hb)
  have Z8 := Lib.hid (Z7.out.below hb)
  have R8 := Lib.hid (R7.out.below hb)
  clear hb c0 c1 c2 c3 c4 f0
  obtain ⟨c0, c1, c2, c3, c4⟩ := R8.out.cells
  have f3 := R8.out.free 3
  have B9 := Lib.hid (B8.out.setCell (p := ⟨w4.heap.size, 3, none⟩) hle (.int .i64 n2.1))
  have Z9 := Lib.hid (Z8.out.other (j := 3) hne (.int .i64 n2.1))
  have R9 := Lib.hid (R8.out.set3 n2.1)
  go_wp2_with fail
  refine (implParseV o.1 _ (by omega) (tabPow_below T.out B9.out)).mono ?_
  rintro e w10 ⟨rfl, hb⟩
  rw [H3.out]
  have B10 := Lib.hid (Below.then' B9.out hb)
  have Z10 := Lib.hid (Z9.out.below hb)
  have R10 := Lib.hid (R9.out.below hb)
  clear hb c0 c1 c2 c3 c4 f3
  obtain ⟨c0, c1, c2, c3, c4⟩ := R10.out.cells
  have f2 := R10.out.free 2
  have B11 := Lib.hid (B10.out.setCell (p := ⟨w4.heap.size, 2, none⟩) hle (.int .i64 n3.1))
  have Z11 := Lib.hid (Z10.out.other (j := 2) hne (.int .i64 n3.1))
  have R11 := Lib.hid (R10.out.set2 n3.1)
  go_wp2_with fail
  refine (implParseV o.2.1 _ (by omega) (tabPow_below T.out B11.out)).mono ?_
  rintro e w12 ⟨rfl, hb⟩
  rw [H4.out]
  have B12 := Lib.hid (Below.then' B11.out hb)
  have Z12 := Lib.hid (Z11.out.below hb)
  have R12 := Lib.hid (R11.out.below hb)
  clear hb c0 c1 c2 c3 c4 f2
  obtain ⟨c0, c1, c2, c3, c4⟩ := R12.out.cells
  have f4 := R12.out.free 4
  have B13 := Lib.hid (B12.out.setCell (p := ⟨w4.heap.size, 4, none⟩) hle (.int .i64 n4.1))
  obtain ⟨d0, d1, d2, d3, d4⟩ := Z12.out.cells
  have g0 := Z12.out.free 0
  have g1 := Z12.out.free 1
  have g2 := Z12.out.free 2
  have g3 := Z12.out.free 3
  have g4 := Z12.out.free 4
  have hne2 : ¬ w4.heap.size = w.heap.size := by omega
  have RES := Lib.hid ((Z12.out.other (j := 4) hne (.int .i64 n4.1)).setAll ⟨n1.1, q.1, n3.1, n2.1, n4.1⟩)
  go_wp2
  refine bodyPost_ret (resultsReader1 rfl rfl RES.out) rfl ⟨?_, ?_⟩
  · rw [E.out]
  · exact ((((B13.out.setCell (by simp) _).setCell (by simp) _).setCell (by simp) _).setCell (by simp) _).setCell (by simp) _
end Go.Proofs.YtofgpiikhifiaabDoor
