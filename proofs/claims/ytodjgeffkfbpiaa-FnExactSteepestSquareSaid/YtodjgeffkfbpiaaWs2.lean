/- Reliefs in the model: l9Near. -/
import Derived.Test.YtodjgeffkfbpiaaWs
import Derived.Test.YtodjgeffkfbpiaaWi3
import Derived.Test.YtodjgeffkfbpiaaIntA2L
import Derived.Deep.DeepCutAuto
namespace Go.Proofs.Ytodjgeffkfbpiaa
open Go.RowKit

def nPart (D : List VIntS) (r c : Nat) : Nat → List Sq
  | 0 => if 0 < r then [(r - 1, c)] else []
  | 1 => if c + 1 < colsN D then [(r, c + 1)] else []
  | 2 => if r + 1 < D.length then [(r + 1, c)] else []
  | _ => if 0 < c then [(r, c - 1)] else []
theorem nPart_all (D : List VIntS) (r c : Nat) : ((nPart D r c 0 ++ nPart D r c 1) ++ nPart D r c 2) ++ nPart D r c 3 = nears D (r, c) := by
  rw [List.append_assoc, List.append_assoc]; rfl
theorem nPart_len (D : List VIntS) (r c k : Nat) : (nPart D r c k).length ≤ 1 := by
  unfold nPart
  split <;> split <;> simp
theorem SqRow.snoc {base : Nat} {w : World} {v : Value} {l : List Sq} {p : Sq} {x y : Int} (h : w.ownsRow base 34 2 v (l.length + 1) (cellsIntA2 (sqV l) ++ VIntA2.vals ⟨x, y⟩)) (hx : x = (p.1 : Int)) (hy : y = (p.2 : Int)) : SqRow base w v (l ++ [p]) := by
  subst hx
  subst hy
  unfold SqRow
  rw [sqV_snoc, cellsIntA2_snoc, List.length_append]
  exact h
set_option maxHeartbeats 12800000 in
set_option maxRecDepth 100000 in
theorem l9Near_any (a : Option Addr) (len cap : Nat) (D : List VIntS) (r c : Nat) (w : World) (h : IsIntSS w a len cap D) (hD : RL D) (hr : r < D.length) (hc : c < colsN D) :
    Calls Try.prog 89 #[.slice a len cap, .int .i64 (r : Int), .int .i64 (c : Int)] w (SqPost (nears D (r, c)) w) := by
  have hl := h.1
  obtain ⟨i0, hi, hz0, hz1, hz2⟩ := info_parts infoIntA2
  have hm8 := hD.m8
  have hn8 := hD.n8
  have HD := Lib.hid hD
  obtain ⟨b, o, b', o', c', rfl, hb, g0⟩ := relief_row0 h hD
  have G0 := Lib.hid g0
  have L := Lib.hid hl
  have B0 := Lib.hid (bel_al1 w (.cells #[] 34))
  have O0 := Lib.hid (show SqRow w.heap.size (w.alloc (.cells #[] 34)) (.slice (some ⟨w.heap.size, 0, none⟩) 0 0) [] from made_ownIntA2 w w.heap.size (Nat.le_refl _))
  have r0 : (0 : Int) ≤ (r : Int) := by omega
  have c0 : (0 : Int) ≤ (c : Int) := by omega
  have NA := Lib.hid (nPart_all D r c)
  have l0 := nPart_len D r c 0
  have l1 := nPart_len D r c 1
  have l2 := nPart_len D r c 2
  have N0 := Lib.hid (show nPart D r c 0 = if 0 < r then [(r - 1, c)] else [] from rfl)
  have N1 := Lib.hid (show nPart D r c 1 = if c + 1 < colsN D then [(r, c + 1)] else [] from rfl)
  have N2 := Lib.hid (show nPart D r c 2 = if r + 1 < D.length then [(r + 1, c)] else [] from rfl)
  have N3 := Lib.hid (show nPart D r c 3 = if 0 < c then [(r, c - 1)] else [] from rfl)
  generalize nPart D r c 0 = n0 at NA N0 l0
  generalize nPart D r c 1 = n1 at NA N1 l1
  generalize nPart D r c 2 = n2 at NA N2 l2
  generalize nPart D r c 3 = n3 at NA N3
  have E0 := Lib.hid (show ([] : List Sq) ++ n0 = n0 from rfl)
  have z0 : (0 : Int) < (len : Int) := by have := hD.m1; omega
  have hlr : (r : Int) < (len : Int) := by omega
  clear h hD hl g0
  go_enter Try.func89, Try.ntmps89
  have g := cell_stay G0.out B0.out
  go_upto_if 10 with (fail)
  clear g
  obtain ⟨W0, hW0⟩ : ∃ W0, w.alloc (.cells #[] 34) = W0 := ⟨_, rfl⟩
  rw [hW0] at B0 O0
  simp only [hW0]
  clear hW0
  go_cut [7] (fun v wx => SqRow w.heap.size wx v n0 ∧ Below w.heap.size w wx)
  case first =>
    by_cases ht : 0 < r
    · have ti : (0 : Int) < (r : Int) := by omega
      have hw : IntKind.i64.wrap ((r : Int) - 1) = (r : Int) - 1 := IntWalk.i64_in _ (by omega)
      have NK := Lib.hid (show n0 = [(r - 1, c)] from by rw [N0.out, if_pos ht])
      have HT := Lib.hid ht
      have hs3 := B0.out.size
      have hown3 := World.ownsRow.alloc O0.out (.cells #[.int .i64 ((r : Int) - 1), .int .i64 ((c : Int))] 34)
      have B3 := Lib.hid (Below.then' B0.out (bel_al1 _ (.cells #[.int .i64 ((r : Int) - 1), .int .i64 ((c : Int))] 34)))
      clear ht
      go_wp2_with (at_builtin; refine wpList_append_own _ rfl _ _ 27 rfl w.heap.size 34 i0 (.agg #[.int .i64 0, .int .i64 0]) 2 16 Try.underlying27 hi hz0 hz1 hz2 rfl (by decide) _ _ _ rfl hown3 ⟨_, 0, none⟩ 1 1 (VIntA2.vals ⟨(r : Int) - 1, (c : Int)⟩) rfl rfl (cell_IntA2 _ ⟨(r : Int) - 1, (c : Int)⟩ _) (VIntA2.vals_one _) (by unfold maxLen; simp only [List.length_nil]; omega) (by simp only [List.length_nil]; omega) (by simp; try omega) ?_; intro v' w4 hown' hgrow4 _)
      go_meet
      refine ⟨?_, B3.out.grown hgrow4 (by simp; try omega) (fun q e => (hown3.lt q e).1)⟩
      rw [NK.out]
      exact SqRow.snoc hown' (by have := HT.out; show _ = ((_ : Nat) : Int); omega) (by have := HT.out; show _ = ((_ : Nat) : Int); omega)
    · have ti : ¬ (0 : Int) < (r : Int) := by omega
      have NK := Lib.hid (show n0 = [] from by rw [N0.out, if_neg ht])
      clear ht
      go_wp2
      go_meet
      exact ⟨by rw [NK.out]; exact O0.out, B0.out⟩
  case rest =>
  obtain ⟨hown, hbel⟩ := hcut
  have O1 := Lib.hid hown
  have B1 := Lib.hid hbel
  clear hown hbel
  rename World => w1
  have g := cell_stay G0.out B1.out
  go_upto_if 24 with (fail)
  clear g
  go_cut [7] (fun v wx => SqRow w.heap.size wx v (n0 ++ n1) ∧ Below w.heap.size w wx)
  case first =>
    by_cases ht : c + 1 < colsN D
    · have ti : (c : Int) + 1 < (colsN D : Int) := by omega
      have hw : IntKind.i64.wrap ((c : Int) + 1) = (c : Int) + 1 := IntWalk.i64_in _ (by omega)
      have NK := Lib.hid (show n1 = [(r, c + 1)] from by rw [N1.out, if_pos ht])
      have HT := Lib.hid ht
      have hs3 := B1.out.size
      have hown3 := World.ownsRow.alloc O1.out (.cells #[.int .i64 ((r : Int)), .int .i64 ((c : Int) + 1)] 34)
      have B3 := Lib.hid (Below.then' B1.out (bel_al1 _ (.cells #[.int .i64 ((r : Int)), .int .i64 ((c : Int) + 1)] 34)))
      clear ht
      go_wp2_with (at_builtin; refine wpList_append_own _ rfl _ _ 27 rfl w.heap.size 34 i0 (.agg #[.int .i64 0, .int .i64 0]) 2 16 Try.underlying27 hi hz0 hz1 hz2 rfl (by decide) _ _ _ rfl hown3 ⟨_, 0, none⟩ 1 1 (VIntA2.vals ⟨(r : Int), (c : Int) + 1⟩) rfl rfl (cell_IntA2 _ ⟨(r : Int), (c : Int) + 1⟩ _) (VIntA2.vals_one _) (by unfold maxLen; skip; omega) (by skip; omega) (by simp; try omega) ?_; intro v' w4 hown' hgrow4 _)
      go_meet
      refine ⟨?_, B3.out.grown hgrow4 (by simp; try omega) (fun q e => (hown3.lt q e).1)⟩
      rw [NK.out]
      exact SqRow.snoc hown' (by have := HT.out; show _ = ((_ : Nat) : Int); omega) (by have := HT.out; show _ = ((_ : Nat) : Int); omega)
    · have ti : ¬ (c : Int) + 1 < (colsN D : Int) := by omega
      have NK := Lib.hid (show n1 = [] from by rw [N1.out, if_neg ht])
      clear ht
      go_wp2
      go_meet
      exact ⟨by rw [NK.out, List.append_nil]; exact O1.out, B1.out⟩
  case rest =>
  obtain ⟨hown, hbel⟩ := hcut
  have O2 := Lib.hid hown
  have B2 := Lib.hid hbel
  clear hown hbel
  rename World => w2
  have g := cell_stay G0.out B2.out
  go_upto_if 36 with (fail)
  clear g
  go_cut [7] (fun v wx => SqRow w.heap.size wx v ((n0 ++ n1) ++ n2) ∧ Below w.heap.size w wx)
  case first =>
    by_cases ht : r + 1 < D.length
    · have ti : (r : Int) + 1 < (len : Int) := by have := L.out; omega
      have hw : IntKind.i64.wrap ((r : Int) + 1) = (r : Int) + 1 := IntWalk.i64_in _ (by omega)
      have NK := Lib.hid (show n2 = [(r + 1, c)] from by rw [N2.out, if_pos ht])
      have HT := Lib.hid ht
      have hs3 := B2.out.size
      have hown3 := World.ownsRow.alloc O2.out (.cells #[.int .i64 ((r : Int) + 1), .int .i64 ((c : Int))] 34)
      have B3 := Lib.hid (Below.then' B2.out (bel_al1 _ (.cells #[.int .i64 ((r : Int) + 1), .int .i64 ((c : Int))] 34)))
      clear ht
      go_wp2_with (at_builtin; refine wpList_append_own _ rfl _ _ 27 rfl w.heap.size 34 i0 (.agg #[.int .i64 0, .int .i64 0]) 2 16 Try.underlying27 hi hz0 hz1 hz2 rfl (by decide) _ _ _ rfl hown3 ⟨_, 0, none⟩ 1 1 (VIntA2.vals ⟨(r : Int) + 1, (c : Int)⟩) rfl rfl (cell_IntA2 _ ⟨(r : Int) + 1, (c : Int)⟩ _) (VIntA2.vals_one _) (by unfold maxLen; simp only [List.length_append]; omega) (by simp only [List.length_append]; omega) (by simp; try omega) ?_; intro v' w4 hown' hgrow4 _)
      go_meet
      refine ⟨?_, B3.out.grown hgrow4 (by simp; try omega) (fun q e => (hown3.lt q e).1)⟩
      rw [NK.out]
      exact SqRow.snoc hown' (by have := HT.out; show _ = ((_ : Nat) : Int); omega) (by have := HT.out; show _ = ((_ : Nat) : Int); omega)
    · have ti : ¬ (r : Int) + 1 < (len : Int) := by have := L.out; omega
      have NK := Lib.hid (show n2 = [] from by rw [N2.out, if_neg ht])
      clear ht
      go_wp2
      go_meet
      exact ⟨by rw [NK.out, List.append_nil]; exact O2.out, B2.out⟩
  case rest =>
  obtain ⟨hown, hbel⟩ := hcut
  have O3 := Lib.hid hown
  have B3 := Lib.hid hbel
  clear hown hbel
  rename World => w3
  have g := cell_stay G0.out B3.out
  go_upto_if 45 with (fail)
  clear g
  go_cut [7] (fun v wx => SqRow w.heap.size wx v (((n0 ++ n1) ++ n2) ++ n3) ∧ Below w.heap.size w wx)
  case first =>
    by_cases ht : 0 < c
    · have ti : (0 : Int) < (c : Int) := by omega
      have hw : IntKind.i64.wrap ((c : Int) - 1) = (c : Int) - 1 := IntWalk.i64_in _ (by omega)
      have NK := Lib.hid (show n3 = [(r, c - 1)] from by rw [N3.out, if_pos ht])
      have HT := Lib.hid ht
      have hs3 := B3.out.size
      have hown3 := World.ownsRow.alloc O3.out (.cells #[.int .i64 ((r : Int)), .int .i64 ((c : Int) - 1)] 34)
      have B3 := Lib.hid (Below.then' B3.out (bel_al1 _ (.cells #[.int .i64 ((r : Int)), .int .i64 ((c : Int) - 1)] 34)))
      clear ht
      go_wp2_with (at_builtin; refine wpList_append_own _ rfl _ _ 27 rfl w.heap.size 34 i0 (.agg #[.int .i64 0, .int .i64 0]) 2 16 Try.underlying27 hi hz0 hz1 hz2 rfl (by decide) _ _ _ rfl hown3 ⟨_, 0, none⟩ 1 1 (VIntA2.vals ⟨(r : Int), (c : Int) - 1⟩) rfl rfl (cell_IntA2 _ ⟨(r : Int), (c : Int) - 1⟩ _) (VIntA2.vals_one _) (by unfold maxLen; simp only [List.length_append]; omega) (by simp only [List.length_append]; omega) (by simp; try omega) ?_; intro v' w4 hown' hgrow4 _)
      go_meet
      refine ⟨?_, B3.out.grown hgrow4 (by simp; try omega) (fun q e => (hown3.lt q e).1)⟩
      rw [NK.out]
      exact SqRow.snoc hown' (by have := HT.out; show _ = ((_ : Nat) : Int); omega) (by have := HT.out; show _ = ((_ : Nat) : Int); omega)
    · have ti : ¬ (0 : Int) < (c : Int) := by omega
      have NK := Lib.hid (show n3 = [] from by rw [N3.out, if_neg ht])
      clear ht
      go_wp2
      go_meet
      exact ⟨by rw [NK.out, List.append_nil]; exact O3.out, B3.out⟩
  case rest =>
  obtain ⟨hown, hbel⟩ := hcut
  have O4 := Lib.hid hown
  have B4 := Lib.hid hbel
  clear hown hbel
  rename World => w4
  go_wp2
  go_ret
  exact ⟨_, rfl, by rw [← NA.out]; exact O4.out, B4.out⟩
end Go.Proofs.Ytodjgeffkfbpiaa
