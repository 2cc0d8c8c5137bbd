/- Readers: how many sheets one may take, in the program. -/
import Derived.Test.YtidaoijpbdljbabDoorRows
import Derived.Test.YtidaoijpbdljbabDoorRi3
import Derived.Test.YtidaoijpbdljbabDoorRd6
import Derived.Lib.LaidTab
import Derived.Lib.SmallJoins
import Derived.Stop.LaidErr
namespace Go.Proofs.YtidaoijpbdljbabDoor
open Go.RowKit

theorem gHome : Tryd.prog.globalNamed "loop.example/g01060/impl.homeByClass" = some 0 := by kernel_rfl
theorem gHomeType : (Tryd.prog.globals[0]?).map (·.type) = some 81 := by kernel_rfl
theorem cellsHome : Tryd.prog.cellsOf 81 = 3 := by kernel_rfl
theorem cellsIntOf : Tryd.prog.cellsOf 3 = 1 := by kernel_rfl
/-- The table of the most sheets at home lies as the program's text has it. -/
def TabHome (w : World) : Prop := Lib.TabIs Tryd.prog w "loop.example/g01060/impl.homeByClass" .i64 [2, 5, 10]
theorem TabHome.below {w w' : World} (h : TabHome w) (hb : Below w.heap.size w w') : TabHome w' := Go.Joins.tab_stays gHome h hb (Nat.le_refl _)
theorem TabHome.at {w : World} (h : TabHome w) : w.cell? ⟨0, 0, none⟩ = some (.int .i64 2) ∧ w.cell? ⟨0, 1, none⟩ = some (.int .i64 5) ∧ w.cell? ⟨0, 2, none⟩ = some (.int .i64 10) :=
  ⟨h.cell gHome 0 (by simp), h.cell gHome 1 (by simp), h.cell gHome 2 (by simp)⟩
theorem tabHome_of {W : World} (h : laidMetH Tryd.prog [("loop.example/g01060/impl.homeByClass", Rows.laid_loop_example_g01060_impl_homeByClass)] W) : TabHome W :=
  Lib.tabIs_of_head (rest := []) gHome gHomeType Tryd.underlying81 Tryd.underlying3 cellsIntOf cellsHome h
set_option maxHeartbeats 1600000 in
theorem mostAtHome_any (s : VReader) (w : World) (hs : s.ok = true) (ht : TabHome w) :
    Calls Tryd.prog 34 #[.agg #[.int .i64 s.Id, .string s.Name, .int .i64 s.Joined, .int .i64 s.Class, .int .i64 s.Fines]] w fun e w' => e = .returned (.int .i64 (if 500 ≤ s.Fines then 0 else mayOf s.Class)) ∧ Below w.heap.size w w' := by
  obtain ⟨_, _, _, ⟨c0, c1⟩, f0, f1⟩ := rdOk_iff.1 hs
  obtain ⟨t0, t1, t2⟩ := ht.at
  have t3 : 0 < w.heap.size := World.lt_of_cell t0
  have t4 : ¬ 0 = w.heap.size := by omega
  clear hs ht
  by_cases hf : 500 ≤ s.Fines
  · go_enter Tryd.func34, Tryd.ntmps34
    go_wp2
    go_ret
    exact ⟨ret_int (by simp), bel_al1 _ _⟩
  · have HF := Lib.hid hf
    obtain ⟨c, hc⟩ : ∃ c, s.Class = c := ⟨_, rfl⟩
    rw [hc] at c0 c1
    rcases (show c = 1 ∨ c = 2 ∨ c = 3 by omega) with rfl | rfl | rfl
    all_goals
      go_enter Tryd.func34, Tryd.ntmps34
      go_wp2
      go_ret
      exact ⟨ret_int (by first | (simp [mayOf]; done) | (rw [if_neg (by have := HF.out; omega), hc]; rfl)), bel_al1 _ _⟩
set_option maxHeartbeats 3200000 in
set_option maxRecDepth 100000 in
theorem implMayTake_any (a : Option Addr) (len cap : Nat) (xs : List VReader) (id c : Int) (w : World) (h : IsReaderS w a len cap xs) (_ : xs.length ≤ 1048576) (_ : ∀ s ∈ xs, s.sized) (ht : TabHome w) :
    Calls Tryd.prog 10 #[.slice a len cap, .int .i64 id, .int .i64 c] w (MayTake_Post xs id c w) := by
  have hm := h.2.2.1
  have hcl := h.2.1
  unfold maxLen at hm
  obtain rfl := h.1
  have S := Lib.hid h
  have TH := Lib.hid ht
  clear h ht
  rcases rdSel_ways xs id with ⟨h1, h2⟩ | ⟨i, s, ha, h1, hs, hi, hid, h2⟩
  · have F := Lib.hid h1
    have E := Lib.hid (show rdMay xs id c = (0, false) from by unfold rdMay; rw [h2])
    clear h1 h2
    go_enter Tryd.func10, Tryd.ntmps10
    go_wp2_with fail
    refine (findReader_any _ _ _ xs id _ S.out).mono ?_
    intro e w1 hp
    obtain ⟨z, rfl, hb⟩ := find_no hp F.out
    have B1 := Lib.hid hb
    clear hb hp
    go_wp2
    go_ret2
    exact ⟨by unfold MayTake_0 MayTake_1; rw [E.out]; rfl, B1.out⟩
  · have F := Lib.hid h1
    have H2 := Lib.hid h2
    have HS := Lib.hid hs
    obtain ⟨q, hq⟩ : ∃ q, inB c 0 99 = q := ⟨_, rfl⟩
    have Q := Lib.hid hq
    have OKB := Lib.hid (areRd_ok ha (List.mem_of_getElem? hs))
    have i1 : (i : Int) < (xs.length : Int) := by omega
    have i2 : (0 : Int) ≤ (i : Int) := by omega
    clear h1 h2 hs hq ha hid
    go_enter Tryd.func10, Tryd.ntmps10
    go_wp2_with fail
    refine (findReader_any _ _ _ xs id _ S.out).mono ?_
    intro e w1 hp
    obtain ⟨rfl, hb⟩ := find_yes hp F.out
    have B1 := Lib.hid hb
    clear hb hp
    go_wp2_with fail
    refine (areIn1 _ _ _ _ _ _ rfl).mono ?_
    rintro e w' ⟨rfl, rfl⟩
    rw [Q.out]
    have B2 := Lib.hid (Below.then' B1.out (bel_al1 w1 (.cells #[.int .i64 c] 3)))
    cases q
    · have E := Lib.hid (show rdMay xs id c = (0, false) from by unfold rdMay; rw [H2.out]; simp [Q.out])
      go_wp2
      go_ret2
      exact ⟨by unfold MayTake_0 MayTake_1; rw [E.out]; rfl, B2.out⟩
    · have hc := inB_iff.1 Q.out
      have TH2 := Lib.hid (TH.out.below B2.out)
      obtain ⟨_, _, _, ⟨g0, g1⟩, f0, f1⟩ := rdOk_iff.1 OKB.out
      obtain ⟨m, hm'⟩ : ∃ m, (if 500 ≤ s.Fines then 0 else mayOf s.Class) = m := ⟨_, rfl⟩
      have hm1 : 0 ≤ m ∧ m ≤ 10 := by
        rw [← hm']; unfold mayOf; split
        · omega
        · split
          · omega
          · split <;> omega
      have M := Lib.hid hm'
      have E := Lib.hid (show rdMay xs id c = (max 0 (m - c), true) from by
        unfold rdMay; rw [H2.out]; simp only [Q.out, if_true]
        rw [← M.out]
        split
        · rw [show max 0 (0 - c) = 0 by omega]
        · rfl)
      have hw : IntKind.i64.wrap (m - c) = m - c := IntWalk.i64_in _ (by omega)
      obtain ⟨b, o, rfl, hbw, hat⟩ := (S.out.below B2.out).at (by omega)
      obtain ⟨d0, d1, d2, d3, d4, _⟩ := hat i s HS.out
      clear hat hm'
      go_wp2_with fail
      refine (mostAtHome_any s _ OKB.out TH2.out).mono ?_
      rintro e w3 ⟨rfl, hb⟩
      rw [M.out]
      have B3 := Lib.hid (Below.then' B2.out hb)
      clear hb
      go_wp2
      go_ret2
      exact ⟨by unfold MayTake_0 MayTake_1; rw [E.out]; rfl, B3.out⟩
end Go.Proofs.YtidaoijpbdljbabDoor
