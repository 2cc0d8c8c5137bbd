/- Texts in one: Rq2. -/
import Derived.Test.YtdpeidbifcbkkaaGreatDoorM7
namespace Go.Proofs.YtdpeidbifcbkkaaGreatDoor
open Go.RowKit

def ParseReader_0 (s : ByteArray) : VReader := match rdRead s with | some r => r | none => rd0
def ParseReader_1 (s : ByteArray) : Bool := match rdRead s with | some _ => true | none => false
def ParseReader_Post (z0 : ByteArray) (w : World) (e : Ending) (w' : World) : Prop :=
  e = .returned (.tuple #[.agg #[.int .i64 (ParseReader_0 z0).Id, .string (ParseReader_0 z0).Name, .int .i64 (ParseReader_0 z0).Joined, .int .i64 (ParseReader_0 z0).Class, .int .i64 (ParseReader_0 z0).Fines], .bool (ParseReader_1 z0)]) ∧ Below w.heap.size w w'
theorem parse_some {s : ByteArray} {r : VReader} (h : rdRead s = some r) : ParseReader_0 s = r ∧ ParseReader_1 s = true := by unfold ParseReader_0 ParseReader_1; rw [h]; exact ⟨rfl, rfl⟩
theorem parse_none {s : ByteArray} (h : rdRead s = none) : ParseReader_0 s = rd0 ∧ ParseReader_1 s = false := by unfold ParseReader_0 ParseReader_1; rw [h]; exact ⟨rfl, rfl⟩
theorem candI_sized {s : ByteArray} (hs : s.size ≤ 1048576) : (candI s).sized := by
  have z1 := cut_size s mSp
  have z2 := cut_size (cutB s mSp).2.1 mCl
  unfold VReader.sized candI
  show (cutB (cutB s mSp).2.1 mCl).1.size ≤ 1048576
  omega
theorem read_yes {s : ByteArray} (h1 : (candI s).ok = true) (h2 : rdText (candI s) = s) : rdRead s = some (candI s) := by
  unfold rdRead; rw [if_pos ⟨h1, by rw [h2]⟩]
theorem read_no1 {s : ByteArray} (h1 : (candI s).ok = false) : rdRead s = none := by unfold rdRead; rw [if_neg (by rw [h1]; simp)]
theorem read_no2 {s : ByteArray} (h2 : rdText (candI s) ≠ s) : rdRead s = none := by unfold rdRead; rw [if_neg (fun h => h2 (bytes_ext h.2))]
theorem str_cloneR (s : ByteArray) (w : World) (hs : s.size ≤ 1048576) :
    Calls Tryz.prog 32 #[.string s] w fun e w' => e = .returned (.string s) ∧ Below w.heap.size w w' := by
  go_enter Tryz.func32, Tryz.ntmps32
  go_wp2_with (go_at_call 62; refine (Tryz.stringslite_Clone _ _ (by omega)).mono ?_; rintro e w' ⟨rfl, hb⟩)
  go_ret
  exact ⟨rfl, hb⟩
set_option maxHeartbeats 6400000 in
set_option maxRecDepth 100000 in
theorem implParseReader_any (s : ByteArray) (x : Int) (w : World) (hs : s.size ≤ 1048576) (ht : TabPow w) (hx : w.cell? ⟨1, 0, none⟩ = some (.int .i64 x)) :
    Calls Tryz.prog 9 #[.string s] w (ParseReader_Post s w) := by
  have SC := Lib.hid (candI_sized hs)
  obtain ⟨c, hc⟩ : ∃ c, candI s = c := ⟨_, rfl⟩
  have HC := Lib.hid hc
  rw [hc] at SC
  have B0 := Lib.hid (bel_al1 w (.cells #[.int .i64 0, .string ByteArray.empty, .int .i64 0, .int .i64 0, .int .i64 0] 25))
  have Z0 := Lib.hid (HBReader.new w rd0 _ rfl)
  have T := Lib.hid ht
  have X := Lib.hid hx
  clear ht hx hc
  go_enter Tryz.func9, Tryz.ntmps9
  go_wp2_with fail
  refine (guessReader_any s x _ hs (tabPow_below T.out B0.out) (keepCell X.out B0.out)).mono ?_
  rintro e w1 ⟨rfl, hb⟩
  rw [HC.out]
  have B1 := Lib.hid (Below.then' B0.out hb)
  have Z1 := Lib.hid (Z0.out.below hb)
  clear hb
  have hlt : w.heap.size < w1.heap.size := Z1.out.lt
  have hne : w.heap.size ≠ w1.heap.size := by omega
  have hne2 : ¬ w1.heap.size = w.heap.size := by omega
  have hle : w.heap.size ≤ w1.heap.size := by omega
  have B2 := Lib.hid (Below.then' B1.out (bel_al1 w1 (.cells #[.int .i64 c.Id, .string c.Name, .int .i64 c.Joined, .int .i64 c.Class, .int .i64 c.Fines] 25)))
  have Z2 := Lib.hid (Z1.out.alloc (.cells #[.int .i64 c.Id, .string c.Name, .int .i64 c.Joined, .int .i64 c.Class, .int .i64 c.Fines] 25))
  have R2 := Lib.hid (HBReader.new w1 c _ rfl)
  go_wp2_with fail
  refine (implReaderText_any c _ SC.out (tabPow_below T.out B2.out)).mono ?_
  rintro e w3 ⟨rfl, hb⟩
  have B3 := Lib.hid (Below.then' B2.out hb)
  have Z3 := Lib.hid (Z2.out.below hb)
  have R3 := Lib.hid (R2.out.below hb)
  clear hb
  obtain ⟨d0, d1, d2, d3, d4⟩ := Z3.out.cells
  have g0 := Z3.out.free 0
  have g1 := Z3.out.free 1
  have g2 := Z3.out.free 2
  have g3 := Z3.out.free 3
  have g4 := Z3.out.free 4
  cases hok : c.ok with
  | false =>
    have E := Lib.hid (parse_none (read_no1 (by rw [HC.out]; exact hok)))
    obtain ⟨e1, e2⟩ := rdText_no hok
    rw [e1, e2]
    clear e1 e2 hok
    go_wp2
    refine bodyPost_ret (resultsReader2 rfl rfl rfl (Z3.out.setAll rd0)) rfl ⟨?_, ?_⟩
    · first | (rw [E.out.1, E.out.2]; done) | (rw [E.out.1, E.out.2]; rfl)
    · exact ((((B3.out.setCell (by simp) _).setCell (by simp) _).setCell (by simp) _).setCell (by simp) _).setCell (by simp) _
  | true =>
    obtain ⟨e1, e2⟩ := rdText_yes hok
    rw [e1, e2]
    clear e1 e2
    have OK := Lib.hid hok
    clear hok
    by_cases heq : rdText c = s
    · have E := Lib.hid (parse_some (read_yes (by rw [HC.out]; exact OK.out) (by rw [HC.out]; exact heq)))
      rw [HC.out] at E
      have t1 := eq_testT heq
      have NS := Lib.hid (show c.Name.size ≤ 1048576 from SC.out)
      clear heq
      obtain ⟨c0, c1, c2, c3, c4⟩ := R3.out.cells
      go_wp2_with fail
      refine (str_cloneR c.Name _ NS.out).mono ?_
      rintro e w4 ⟨rfl, hb⟩
      have B4 := Lib.hid (Below.then' B3.out hb)
      have Z4 := Lib.hid (Z3.out.below hb)
      have R4 := Lib.hid (R3.out.below hb)
      clear hb d0 d1 d2 d3 d4 g0 g1 g2 g3 g4 c0 c1 c2 c3 c4 t1
      obtain ⟨d0, d1, d2, d3, d4⟩ := Z4.out.cells
      have g0 := Z4.out.free 0
      have g1 := Z4.out.free 1
      have g2 := Z4.out.free 2
      have g3 := Z4.out.free 3
      have g4 := Z4.out.free 4
      obtain ⟨c0, c1, c2, c3, c4⟩ := R4.out.cells
      have f1 := R4.out.free 1
      have B5 := Lib.hid (B4.out.setCell (p := ⟨w1.heap.size, 1, none⟩) hle (.string c.Name))
      have RES := Lib.hid ((Z4.out.other (j := 1) hne (.string c.Name)).setAll c)
      go_wp2
      refine bodyPost_ret (resultsReader2 rfl rfl rfl RES.out) rfl ⟨?_, ?_⟩
      · first | (rw [E.out.1, E.out.2]; done) | (rw [E.out.1, E.out.2]; rfl)
      · exact ((((B5.out.setCell (by simp) _).setCell (by simp) _).setCell (by simp) _).setCell (by simp) _).setCell (by simp) _
    · have E := Lib.hid (parse_none (read_no2 (by rw [HC.out]; exact heq)))
      have t1 := ne_testT heq
      clear heq
      go_wp2
      refine bodyPost_ret (resultsReader2 rfl rfl rfl (Z3.out.setAll rd0)) rfl ⟨?_, ?_⟩
      · first | (rw [E.out.1, E.out.2]; done) | (rw [E.out.1, E.out.2]; rfl)
      · exact ((((B3.out.setCell (by simp) _).setCell (by simp) _).setCell (by simp) _).setCell (by simp) _).setCell (by simp) _
end Go.Proofs.YtdpeidbifcbkkaaGreatDoor
