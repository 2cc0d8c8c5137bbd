/- Texts in one: Ws2, Ws3, Ws4, Ws5, Wz1, Ws6, Ws7, Wz2. -/
import Derived.Test.YtpnaciamnigbnaaM8
import Derived.Test.YtpnaciamnigbnaaM4
import Derived.Test.YtpnaciamnigbnaaM5
import Derived.Deep.DeepCutAuto
import Derived.Deep.RegionWith
import Derived.Deep.RegionHeld3
import Derived.Deep.LoopGhost
import Derived.Test.YtpnaciamnigbnaaM6
import Derived.Test.YtpnaciamnigbnaaM7
namespace Go.Proofs.Ytpnaciamnigbnaa
open Go.RowKit

def nPart (D : List VIntS) (r c : Nat) : Nat → List Sq
  | 0 => if 0 < r then [(r - 1, c)] else []
  | 1 => if c + 1 < colsN D then [(r, c + 1)] else []
  | 2 => if r + 1 < D.length then [(r + 1, c)] else []
  | _ => if 0 < c then [(r, c - 1)] else []
theorem nPart_all (D : List VIntS) (r c : Nat) : ((nPart D r c 0 ++ nPart D r c 1) ++ nPart D r c 2) ++ nPart D r c 3 = nears D (r, c) := by
  rw [List.append_assoc, List.append_assoc]; rfl
theorem nPart_len (D : List VIntS) (r c k : Nat) : (nPart D r c k).length ≤ 1 := by
  unfold nPart
  split <;> split <;> simp
theorem SqRow.snoc {base : Nat} {w : World} {v : Value} {l : List Sq} {p : Sq} {x y : Int} (h : w.ownsRow base 34 2 v (l.length + 1) (cellsIntA2 (sqV l) ++ VIntA2.vals ⟨x, y⟩)) (hx : x = (p.1 : Int)) (hy : y = (p.2 : Int)) : SqRow base w v (l ++ [p]) := by
  subst hx
  subst hy
  unfold SqRow
  rw [sqV_snoc, cellsIntA2_snoc, List.length_append]
  exact h
set_option maxHeartbeats 12800000 in
set_option maxRecDepth 100000 in
theorem l9Near_any (a : Option Addr) (len cap : Nat) (D : List VIntS) (r c : Nat) (w : World) (h : IsIntSS w a len cap D) (hD : RL D) (hr : r < D.length) (hc : c < colsN D) :
    Calls Try.prog 132 #[.slice a len cap, .int .i64 (r : Int), .int .i64 (c : Int)] w (SqPost (nears D (r, c)) w) := by
  have hl := h.1
  obtain ⟨i0, hi, hz0, hz1, hz2⟩ := info_parts infoIntA2
  have hm8 := hD.m8
  have hn8 := hD.n8
  have HD := Lib.hid hD
  obtain ⟨b, o, b', o', c', rfl, hb, g0⟩ := relief_row0 h hD
  have G0 := Lib.hid g0
  have L := Lib.hid hl
  have B0 := Lib.hid (bel_al1 w (.cells #[] 34))
  have O0 := Lib.hid (show SqRow w.heap.size (w.alloc (.cells #[] 34)) (.slice (some ⟨w.heap.size, 0, none⟩) 0 0) [] from made_ownIntA2 w w.heap.size (Nat.le_refl _))
  have r0 : (0 : Int) ≤ (r : Int) := by omega
  have c0 : (0 : Int) ≤ (c : Int) := by omega
  have NA := Lib.hid (nPart_all D r c)
  have l0 := nPart_len D r c 0
  have l1 := nPart_len D r c 1
  have l2 := nPart_len D r c 2
  have N0 := Lib.hid (show nPart D r c 0 = if 0 < r then [(r - 1, c)] else [] from rfl)
  have N1 := Lib.hid (show nPart D r c 1 = if c + 1 < colsN D then [(r, c + 1)] else [] from rfl)
  have N2 := Lib.hid (show nPart D r c 2 = if r + 1 < D.length then [(r + 1, c)] else [] from rfl)
  have N3 := Lib.hid (show nPart D r c 3 = if 0 < c then [(r, c - 1)] else [] from rfl)
  generalize nPart D r c 0 = n0 at NA N0 l0
  generalize nPart D r c 1 = n1 at NA N1 l1
  generalize nPart D r c 2 = n2 at NA N2 l2
  generalize nPart D r c 3 = n3 at NA N3
  have E0 := Lib.hid (show ([] : List Sq) ++ n0 = n0 from rfl)
  have z0 : (0 : Int) < (len : Int) := by have := hD.m1; omega
  have hlr : (r : Int) < (len : Int) := by omega
  clear h hD hl g0
  go_enter Try.func132, Try.ntmps132
  have g := cell_stay G0.out B0.out
  go_upto_if 10 with (fail)
  clear g
  obtain ⟨W0, hW0⟩ : ∃ W0, w.alloc (.cells #[] 34) = W0 := ⟨_, rfl⟩
  rw [hW0] at B0 O0
  simp only [hW0]
  clear hW0
  go_cut [7] (fun v wx => SqRow w.heap.size wx v n0 ∧ Below w.heap.size w wx)
  case first =>
    by_cases ht : 0 < r
    · have ti : (0 : Int) < (r : Int) := by omega
      have hw : IntKind.i64.wrap ((r : Int) - 1) = (r : Int) - 1 := IntWalk.i64_in _ (by omega)
      have NK := Lib.hid (show n0 = [(r - 1, c)] from by rw [N0.out, if_pos ht])
      have HT := Lib.hid ht
      have hs3 := B0.out.size
      have hown3 := World.ownsRow.alloc O0.out (.cells #[.int .i64 ((r : Int) - 1), .int .i64 ((c : Int))] 34)
      have B3 := Lib.hid (Below.then' B0.out (bel_al1 _ (.cells #[.int .i64 ((r : Int) - 1), .int .i64 ((c : Int))] 34)))
      clear ht
      go_wp2_with (at_builtin; refine wpList_append_own _ rfl _ _ 27 rfl w.heap.size 34 i0 (.agg #[.int .i64 0, .int .i64 0]) 2 16 Try.underlying27 hi hz0 hz1 hz2 rfl (by decide) _ _ _ rfl hown3 ⟨_, 0, none⟩ 1 1 (VIntA2.vals ⟨(r : Int) - 1, (c : Int)⟩) rfl rfl (cell_IntA2 _ ⟨(r : Int) - 1, (c : Int)⟩ _) (VIntA2.vals_one _) (by unfold maxLen; simp only [List.length_nil]; omega) (by simp only [List.length_nil]; omega) (by simp; try omega) ?_; intro v' w4 hown' hgrow4 _)
      go_meet
      refine ⟨?_, B3.out.grown hgrow4 (by simp; try omega) (fun q e => (hown3.lt q e).1)⟩
      rw [NK.out]
      exact SqRow.snoc hown' (by have := HT.out; show _ = ((_ : Nat) : Int); omega) (by have := HT.out; show _ = ((_ : Nat) : Int); omega)
    · have ti : ¬ (0 : Int) < (r : Int) := by omega
      have NK := Lib.hid (show n0 = [] from by rw [N0.out, if_neg ht])
      clear ht
      go_wp2
      go_meet
      exact ⟨by rw [NK.out]; exact O0.out, B0.out⟩
  case rest =>
  obtain ⟨hown, hbel⟩ := hcut
  have O1 := Lib.hid hown
  have B1 := Lib.hid hbel
  clear hown hbel
  rename World => w1
  have g := cell_stay G0.out B1.out
  go_upto_if 24 with (fail)
  clear g
  go_cut [7] (fun v wx => SqRow w.heap.size wx v (n0 ++ n1) ∧ Below w.heap.size w wx)
  case first =>
    by_cases ht : c + 1 < colsN D
    · have ti : (c : Int) + 1 < (colsN D : Int) := by omega
      have hw : IntKind.i64.wrap ((c : Int) + 1) = (c : Int) + 1 := IntWalk.i64_in _ (by omega)
      have NK := Lib.hid (show n1 = [(r, c + 1)] from by rw [N1.out, if_pos ht])
      have HT := Lib.hid ht
      have hs3 := B1.out.size
      have hown3 := World.ownsRow.alloc O1.out (.cells #[.int .i64 ((r : Int)), .int .i64 ((c : Int) + 1)] 34)
      have B3 := Lib.hid (Below.then' B1.out (bel_al1 _ (.cells #[.int .i64 ((r : Int)), .int .i64 ((c : Int) + 1)] 34)))
      clear ht
      go_wp2_with (at_builtin; refine wpList_append_own _ rfl _ _ 27 rfl w.heap.size 34 i0 (.agg #[.int .i64 0, .int .i64 0]) 2 16 Try.underlying27 hi hz0 hz1 hz2 rfl (by decide) _ _ _ rfl hown3 ⟨_, 0, none⟩ 1 1 (VIntA2.vals ⟨(r : Int), (c : Int) + 1⟩) rfl rfl (cell_IntA2 _ ⟨(r : Int), (c : Int) + 1⟩ _) (VIntA2.vals_one _) (by unfold maxLen; skip; omega) (by skip; omega) (by simp; try omega) ?_; intro v' w4 hown' hgrow4 _)
      go_meet
      refine ⟨?_, B3.out.grown hgrow4 (by simp; try omega) (fun q e => (hown3.lt q e).1)⟩
      rw [NK.out]
      exact SqRow.snoc hown' (by have := HT.out; show _ = ((_ : Nat) : Int); omega) (by have := HT.out; show _ = ((_ : Nat) : Int); omega)
    · have ti : ¬ (c : Int) + 1 < (colsN D : Int) := by omega
      have NK := Lib.hid (show n1 = [] from by rw [N1.out, if_neg ht])
      clear ht
      go_wp2
      go_meet
      exact ⟨by rw [NK.out, List.append_nil]; exact O1.out, B1.out⟩
  case rest =>
  obtain ⟨hown, hbel⟩ := hcut
  have O2 := Lib.hid hown
  have B2 := Lib.hid hbel
  clear hown hbel
  rename World => w2
  have g := cell_stay G0.out B2.out
  go_upto_if 36 with (fail)
  clear g
  go_cut [7] (fun v wx => SqRow w.heap.size wx v ((n0 ++ n1) ++ n2) ∧ Below w.heap.size w wx)
  case first =>
    by_cases ht : r + 1 < D.length
    · have ti : (r : Int) + 1 < (len : Int) := by have := L.out; omega
      have hw : IntKind.i64.wrap ((r : Int) + 1) = (r : Int) + 1 := IntWalk.i64_in _ (by omega)
      have NK := Lib.hid (show n2 = [(r + 1, c)] from by rw [N2.out, if_pos ht])
      have HT := Lib.hid ht
      have hs3 := B2.out.size
      have hown3 := World.ownsRow.alloc O2.out (.cells #[.int .i64 ((r : Int) + 1), .int .i64 ((c : Int))] 34)
      have B3 := Lib.hid (Below.then' B2.out (bel_al1 _ (.cells #[.int .i64 ((r : Int) + 1), .int .i64 ((c : Int))] 34)))
      clear ht
      go_wp2_with (at_builtin; refine wpList_append_own _ rfl _ _ 27 rfl w.heap.size 34 i0 (.agg #[.int .i64 0, .int .i64 0]) 2 16 Try.underlying27 hi hz0 hz1 hz2 rfl (by decide) _ _ _ rfl hown3 ⟨_, 0, none⟩ 1 1 (VIntA2.vals ⟨(r : Int) + 1, (c : Int)⟩) rfl rfl (cell_IntA2 _ ⟨(r : Int) + 1, (c : Int)⟩ _) (VIntA2.vals_one _) (by unfold maxLen; simp only [List.length_append]; omega) (by simp only [List.length_append]; omega) (by simp; try omega) ?_; intro v' w4 hown' hgrow4 _)
      go_meet
      refine ⟨?_, B3.out.grown hgrow4 (by simp; try omega) (fun q e => (hown3.lt q e).1)⟩
      rw [NK.out]
      exact SqRow.snoc hown' (by have := HT.out; show _ = ((_ : Nat) : Int); omega) (by have := HT.out; show _ = ((_ : Nat) : Int); omega)
    · have ti : ¬ (r : Int) + 1 < (len : Int) := by have := L.out; omega
      have NK := Lib.hid (show n2 = [] from by rw [N2.out, if_neg ht])
      clear ht
      go_wp2
      go_meet
      exact ⟨by rw [NK.out, List.append_nil]; exact O2.out, B2.out⟩
  case rest =>
  obtain ⟨hown, hbel⟩ := hcut
  have O3 := Lib.hid hown
  have B3 := Lib.hid hbel
  clear hown hbel
  rename World => w3
  have g := cell_stay G0.out B3.out
  go_upto_if 45 with (fail)
  clear g
  go_cut [7] (fun v wx => SqRow w.heap.size wx v (((n0 ++ n1) ++ n2) ++ n3) ∧ Below w.heap.size w wx)
  case first =>
    by_cases ht : 0 < c
    · have ti : (0 : Int) < (c : Int) := by omega
      have hw : IntKind.i64.wrap ((c : Int) - 1) = (c : Int) - 1 := IntWalk.i64_in _ (by omega)
      have NK := Lib.hid (show n3 = [(r, c - 1)] from by rw [N3.out, if_pos ht])
      have HT := Lib.hid ht
      have hs3 := B3.out.size
      have hown3 := World.ownsRow.alloc O3.out (.cells #[.int .i64 ((r : Int)), .int .i64 ((c : Int) - 1)] 34)
      have B3 := Lib.hid (Below.then' B3.out (bel_al1 _ (.cells #[.int .i64 ((r : Int)), .int .i64 ((c : Int) - 1)] 34)))
      clear ht
      go_wp2_with (at_builtin; refine wpList_append_own _ rfl _ _ 27 rfl w.heap.size 34 i0 (.agg #[.int .i64 0, .int .i64 0]) 2 16 Try.underlying27 hi hz0 hz1 hz2 rfl (by decide) _ _ _ rfl hown3 ⟨_, 0, none⟩ 1 1 (VIntA2.vals ⟨(r : Int), (c : Int) - 1⟩) rfl rfl (cell_IntA2 _ ⟨(r : Int), (c : Int) - 1⟩ _) (VIntA2.vals_one _) (by unfold maxLen; simp only [List.length_append]; omega) (by simp only [List.length_append]; omega) (by simp; try omega) ?_; intro v' w4 hown' hgrow4 _)
      go_meet
      refine ⟨?_, B3.out.grown hgrow4 (by simp; try omega) (fun q e => (hown3.lt q e).1)⟩
      rw [NK.out]
      exact SqRow.snoc hown' (by have := HT.out; show _ = ((_ : Nat) : Int); omega) (by have := HT.out; show _ = ((_ : Nat) : Int); omega)
    · have ti : ¬ (0 : Int) < (c : Int) := by omega
      have NK := Lib.hid (show n3 = [] from by rw [N3.out, if_neg ht])
      clear ht
      go_wp2
      go_meet
      exact ⟨by rw [NK.out, List.append_nil]; exact O3.out, B3.out⟩
  case rest =>
  obtain ⟨hown, hbel⟩ := hcut
  have O4 := Lib.hid hown
  have B4 := Lib.hid hbel
  clear hown hbel
  rename World => w4
  go_wp2
  go_ret
  exact ⟨_, rfl, by rw [← NA.out]; exact O4.out, B4.out⟩
end Go.Proofs.Ytpnaciamnigbnaa
namespace Go.Proofs.Ytpnaciamnigbnaa
open Go.RowKit

/-- A square in a block of its own, and a row of squares. -/
def BestNear (W0 : World) (N : List Sq) (s : VIntA2) (p v : Value) (wx : World) : Prop :=
  ∃ b, p = .pointer (some ⟨b, 0, none⟩) ∧ W0.heap.size ≤ b ∧ HBIntA2 wx b s ∧ SqRow W0.heap.size wx v N ∧ (∀ q, v.ownBlock = some q → q ≠ b) ∧ Below W0.heap.size W0 wx
set_option maxHeartbeats 12800000 in
set_option maxRecDepth 100000 in
theorem l9Next_any (a : Option Addr) (len cap : Nat) (D : List VIntS) (r c : Nat) (w : World) (h : IsIntSS w a len cap D) (hD : RL D) (hr : r < D.length) (hc : c < colsN D) :
    Calls Try.prog 90 #[.slice a len cap, .agg #[.int .i64 (r : Int), .int .i64 (c : Int)]] w (NextPost D (r, c) w) := by
  have hm := h.2.2.1
  have hcl := h.2.1
  unfold maxLen at hm
  have HD := Lib.hid hD
  have HP := Lib.hid (show inR D (r, c) from ⟨hr, hc⟩)
  have Z3 := Lib.hid ((HBIntA2.new w ⟨(r : Int), (c : Int)⟩ _ rfl).alloc (.cells #[.int .i64 0, .int .i64 0] 34))
  have Z4 := Lib.hid (HBIntA2.new (w.alloc (.cells #[.int .i64 (r : Int), .int .i64 (c : Int)] 34)) ⟨0, 0⟩ (w.heap.size + 1) (by simp))
  have B0 := Lib.hid (bel_al2 w (.cells #[.int .i64 (r : Int), .int .i64 (c : Int)] 34) (.cells #[.int .i64 0, .int .i64 0] 34))
  have S := Lib.hid h
  have LD := Lib.hid h.1
  have hs0 : ((w.alloc (.cells #[.int .i64 (r : Int), .int .i64 (c : Int)] 34)).alloc (.cells #[.int .i64 0, .int .i64 0] 34)).heap.size = w.heap.size + 2 := by simp
  clear h hD
  go_enter Try.func90, Try.ntmps90
  go_wp2
  obtain ⟨W0, hW0⟩ : ∃ W0, (w.alloc (.cells #[.int .i64 (r : Int), .int .i64 (c : Int)] 34)).alloc (.cells #[.int .i64 0, .int .i64 0] 34) = W0 := ⟨_, rfl⟩
  rw [hW0] at Z3 Z4 B0 hs0
  simp only [hW0]
  have HS := Lib.hid hs0
  clear hW0 hs0
  go_upto_region 1 with (fail)
  go_cut [6, 7] (fun p v wx => BestNear W0 (nears D (r, c)) ⟨(r : Int), (c : Int)⟩ p v wx)
  case first =>
    obtain ⟨c0, c1⟩ := Z3.out.cells
    simp only [] at c0 c1
    have S2 := Lib.hid (S.out.below B0.out)
    have KD := Lib.hid (show Below W0.heap.size W0 W0.drew ∧ W0.drew.cell? ⟨w.heap.size, 0, none⟩ = some (.int .i64 (r : Int)) ∧ W0.drew.cell? ⟨w.heap.size, 1, none⟩ = some (.int .i64 (c : Int)) from ⟨bel_drew' (Below.refl _ _), c0, c1⟩)
    have KP := Lib.hid (show ∀ u v : World, (Below W0.heap.size W0 u ∧ u.cell? ⟨w.heap.size, 0, none⟩ = some (.int .i64 (r : Int)) ∧ u.cell? ⟨w.heap.size, 1, none⟩ = some (.int .i64 (c : Int))) → Below u.heap.size u v → (Below W0.heap.size W0 v ∧ v.cell? ⟨w.heap.size, 0, none⟩ = some (.int .i64 (r : Int)) ∧ v.cell? ⟨w.heap.size, 1, none⟩ = some (.int .i64 (c : Int))) from
      fun u v ⟨k0, k1, k2⟩ hb => ⟨Below.then' k0 hb, cell_stay k1 hb, cell_stay k2 hb⟩)
    have KS := Lib.hid (show ∀ u : World, (Below W0.heap.size W0 u ∧ u.cell? ⟨w.heap.size, 0, none⟩ = some (.int .i64 (r : Int)) ∧ u.cell? ⟨w.heap.size, 1, none⟩ = some (.int .i64 (c : Int))) → ∀ v0 v1, (Below W0.heap.size W0 ((u.setCell ⟨W0.heap.size, 0, none⟩ v0).setCell ⟨W0.heap.size, 1, none⟩ v1) ∧ ((u.setCell ⟨W0.heap.size, 0, none⟩ v0).setCell ⟨W0.heap.size, 1, none⟩ v1).cell? ⟨w.heap.size, 0, none⟩ = some (.int .i64 (r : Int)) ∧ ((u.setCell ⟨W0.heap.size, 0, none⟩ v0).setCell ⟨W0.heap.size, 1, none⟩ v1).cell? ⟨w.heap.size, 1, none⟩ = some (.int .i64 (c : Int))) from by
      rintro u ⟨k0, k1, k2⟩ v0 v1
      have hne : w.heap.size ≠ W0.heap.size := by have := HS.out; omega
      have hg := grown_trans (grown_set u W0.heap.size 0 v0) (grown_set (u.setCell ⟨W0.heap.size, 0, none⟩ v0) W0.heap.size 1 v1)
      exact ⟨(k0.setCell (Nat.le_refl _) _).setCell (Nat.le_refl _) _, hg.cell k1 (by simp [hne]), hg.cell k2 (by simp [hne])⟩)
    have KI := Lib.hid (show ∀ u : World, (Below W0.heap.size W0 u ∧ u.cell? ⟨w.heap.size, 0, none⟩ = some (.int .i64 (r : Int)) ∧ u.cell? ⟨w.heap.size, 1, none⟩ = some (.int .i64 (c : Int))) → Calls Try.prog 132 #[.slice a len cap, .int .i64 (r : Int), .int .i64 (c : Int)] u (SqPost (nears D (r, c)) u) from fun u ⟨k0, _, _⟩ => l9Near_any _ _ _ D r c _ (S2.out.below k0) HD.out hr hc)
    have NEW := Lib.hid (fun (v : World) (hb : Below (W0.drew.alloc (.cells #[.int .i64 0, .int .i64 0] 34)).heap.size (W0.drew.alloc (.cells #[.int .i64 0, .int .i64 0] 34)) v) => (HBIntA2.new W0.drew ⟨0, 0⟩ W0.heap.size rfl).below hb)
    go_region_held3 (fun u => Below W0.heap.size W0 u ∧ u.cell? ⟨w.heap.size, 0, none⟩ = some (.int .i64 (r : Int)) ∧ u.cell? ⟨w.heap.size, 1, none⟩ = some (.int .i64 (c : Int)))
      (first | exact KD.out | exact KP.out _ _ (by assumption) (by assumption) | exact KP.out _ _ KD.out (by assumption) | exact KP.out _ _ KD.out (bel_al1 _ _) | exact KP.out _ _ (by assumption) (bel_al1 _ _) | exact KP.out _ _ (KP.out _ _ KD.out (bel_al1 _ _)) (by assumption) | exact KP.out _ _ (KP.out _ _ KD.out (by assumption)) (bel_al1 _ _) | exact KS.out _ (by assumption) _ _)
      (first | (go_at_call 132; refine (KI.out _ (by assumption)).mono ?_; rintro e w' ⟨v, rfl, hown, hb⟩; (try (have NB := NEW.out _ hb; obtain ⟨n0, n1⟩ := NB.cells; simp only [] at n0 n1; have m0 := NB.free 0; have m1 := NB.free 1))))
    · rename_i HH
      have hsw : W0.heap.size ≤ w'.heap.size := hb.size
      go_wp2
      go_meet
      exact ⟨w'.heap.size, rfl, hsw, HBIntA2.new w' ⟨(r : Int), (c : Int)⟩ _ rfl, hown.below (bel_al1 _ _), fun q e => by have := (World.ownsRow.lt hown q e).2; omega, HH.1⟩
    · rename_i HH
      have hg := grown_trans (grown_set w' W0.heap.size 0 (.int .i64 (r : Int))) (grown_set (w'.setCell ⟨W0.heap.size, 0, none⟩ (.int .i64 (r : Int))) W0.heap.size 1 (.int .i64 (c : Int)))
      have hlt : ∀ q, v.ownBlock = some q → q ≠ W0.heap.size := fun q e => by
        have h3 := (World.ownsRow.lt hown q e).1
        simp at h3
        omega
      go_wp2
      go_meet
      refine ⟨W0.heap.size, rfl, Nat.le_refl _, NB.setAll ⟨(r : Int), (c : Int)⟩, ownsRow_base (World.ownsRow.kept hown hg ?_) (by simp), hlt, HH.1⟩
      cases hv : v.ownBlock with
      | none => exact .inl rfl
      | some q => exact .inr (by simp only [ne_eq, Option.some.injEq]; exact hlt q hv)
  case rest =>
  obtain ⟨b6, rfl, hb6, hx6, hown, hnb, hbel⟩ := hcut
  rename World => w1
  have Y3 := Lib.hid (Z3.out.below hbel)
  have Y4 := Lib.hid (Z4.out.below hbel)
  have Y6 := Lib.hid hx6
  have B1 := Lib.hid (Below.then' B0.out hbel)
  have O1 := Lib.hid hown
  have hs1 : w.heap.size + 2 ≤ b6 := by have := HS.out; omega
  obtain ⟨a4, c4, rfl, _⟩ := hown.is
  have NL := Lib.hid (show (nextSq D (r, c)) = (nears D (r, c)).foldl (lowerOf D) (r, c) from rfl)
  have hln := nears_len D (r, c)
  have NB := Lib.hid hnb
  clear hown hbel hx6 hnb
  have HN := Lib.hid (fun (k : Nat) (q : Sq) (hq : (nears D (r, c))[k]? = some q) => nears_in HP.out (List.mem_of_getElem? hq))
  have HF := Lib.hid (fun k : Nat => fold_in HP.out k)
  obtain ⟨N, hN⟩ : ∃ N, nears D (r, c) = N := ⟨_, rfl⟩
  rw [hN] at O1 NL hln HN HF NB ⊢
  clear hN
  go_wp2
  go_loopw [8] (fun i wr => ∃ k : Nat, k ≤ N.length ∧ i = .int .i64 k ∧ HBIntA2 wr w.heap.size ⟨(r : Int), (c : Int)⟩ ∧ HBIntA2 wr (w.heap.size + 1) ⟨0, 0⟩ ∧ HBIntA2 wr b6 (vsq ((N.take k).foldl (lowerOf D) (r, c))) ∧ SqRow W0.heap.size wr (.slice a4 N.length c4) N ∧ Below w.heap.size w wr) (fun i _ => N.length - (intOf i).toNat)
  case atStart => exact ⟨0, Nat.zero_le _, rfl, Y3.out, Y4.out, Y6.out, O1.out, B1.out⟩
  case round =>
    obtain ⟨k, hk, rfl, h3, h4, h6, hown, hbel⟩ := hrel
    have B := Lib.hid hbel
    have O := Lib.hid hown
    have X3 := Lib.hid h3
    have X4 := Lib.hid h4
    have X6 := Lib.hid h6
    by_cases hlt : k < N.length
    · obtain ⟨q, hq⟩ : ∃ q, N[k]? = some q := ⟨N[k]'hlt, List.getElem?_eq_getElem _⟩
      obtain ⟨b, o, e4, hb, hat⟩ := hown.isAt.2.at (by omega)
      subst e4
      obtain ⟨d0, d1⟩ := hat k (vsq q) (sqV_at hq)
      have QI := HN.out k q hq
      have BI := HF.out k
      have FM := Lib.hid (fold_more (lowerOf D) (r, c) hq)
      obtain ⟨m, hm'⟩ : ∃ m, (N.take k).foldl (lowerOf D) (r, c) = m := ⟨_, rfl⟩
      rw [hm'] at X6 h6 BI FM
      obtain ⟨x, y⟩ := q
      obtain ⟨mx, my⟩ := m
      simp only [vsq] at d0 d1
      have QX := QI.1
      have QY := QI.2
      have MX := BI.1
      have MY := BI.2
      simp only [] at QX QY MX MY
      have hc4 := hown.isAt.2.2.1
      have hc5 := hown.isAt.2.2.2.1
      unfold maxLen at hc5
      have j0 : (0 : Int) ≤ (k : Int) := by omega
      have j1 : (k : Int) < (N.length : Int) := by omega
      obtain ⟨e0, e1⟩ := h6.cells
      simp only [vsq] at e0 e1
      have D0 := Lib.hid d0
      have D1 := Lib.hid d1
      obtain ⟨b1, o1, b2, o2, c2, ha, _, _, g0, hg1, hg2, g1⟩ := relief_row (S.out.below hbel) HD.out QX
      have g2 := g1 y QY
      obtain ⟨b3, o3, b4, o4, c3, ha', _, _, p0, hp1, hp2, p1⟩ := relief_row (S.out.below hbel) HD.out MX
      have p2 := p1 my MY
      subst ha
      simp only [Option.some.injEq, Addr.mk.injEq, and_true] at ha'
      obtain ⟨rfl, rfl⟩ := ha'
      have ld := LD.out
      have x0 : (0 : Int) ≤ (x : Int) := by omega
      have x1 : (x : Int) < (len : Int) := by omega
      have y0 : (0 : Int) ≤ (y : Int) := by omega
      have y1 : (y : Int) < (colsN D : Int) := by omega
      have mx0 : (0 : Int) ≤ (mx : Int) := by omega
      have mx1 : (mx : Int) < (len : Int) := by omega
      have my0 : (0 : Int) ≤ (my : Int) := by omega
      have my1 : (my : Int) < (colsN D : Int) := by omega
      clear h3 h4 h6 hown hbel hat hq hm' QI BI g1 p1 QX QY MX MY ld
      go_wp2
      go_quiet (fail)
      have bw := bel_drawn wr nq
      have V3 := Lib.hid (X3.out.below bw)
      have V4 := Lib.hid (X4.out.below bw)
      have V6 := Lib.hid (X6.out.below bw)
      have VO := Lib.hid (O.out.below bw)
      have VB := Lib.hid (Below.then' B.out bw)
      clear bw d0 d1 e0 e1 g0 g2 p0 p2
      by_cases hlo : hA D (x, y) < hA D (mx, my)
      · have dl : decide (hA D (x, y) < hA D (mx, my)) = true := decide_eq_true hlo
        have FX := Lib.hid (show (N.take (k + 1)).foldl (lowerOf D) (r, c) = (x, y) from by rw [FM.out]; unfold lowerOf; rw [if_pos hlo])
        have g0 := D0.out
        have g1 := D1.out
        obtain ⟨p0, p1⟩ := V6.out.cells
        have q0 := V6.out.free 0
        have q1 := V6.out.free 1
        have HG := Lib.hid (show (wr.drewN nq).grownBy (((wr.drewN nq).setCell ⟨b6, 0, none⟩ (.int .i64 (x : Int))).setCell ⟨b6, 1, none⟩ (.int .i64 (y : Int))) (some b6) from grown_trans (grown_set _ _ _ _) (grown_set _ _ _ _))
        clear hlo
        rw [dl]
        go_wp2
        go_roundw
        case rel =>
          refine ⟨k + 1, by omega, by go_num, V3.out.otherAll (by omega) _ _, V4.out.otherAll (by omega) _ _, ?_, World.ownsRow.kept VO.out HG.out (by simp only [Value.ownBlock]; exact .inr (fun e => NB.out b rfl (Option.some.inj e))), VB.out.grown HG.out VB.out.size (fun j e => by cases e; omega)⟩
          rw [FX.out]
          exact V6.out.setAll (vsq (x, y))
        case measure => simp [intOf]; omega
      · have dl : decide (hA D (x, y) < hA D (mx, my)) = false := decide_eq_false hlo
        have FX := Lib.hid (show (N.take (k + 1)).foldl (lowerOf D) (r, c) = (mx, my) from by rw [FM.out]; unfold lowerOf; rw [if_neg hlo])
        clear hlo
        rw [dl]
        go_wp2
        go_roundw
        case rel => exact ⟨k + 1, by omega, by go_num, V3.out, V4.out, by rw [FX.out]; exact V6.out, VO.out, VB.out⟩
        case measure => simp [intOf]; omega
    · obtain rfl : k = N.length := by omega
      have E := List.take_of_length_le (Nat.le_refl N.length)
      rw [E, ← NL.out] at X6
      obtain ⟨m, hm'⟩ : ∃ m, nextSq D (r, c) = m := ⟨_, rfl⟩
      have SE := Lib.hid (sq_eq m (r, c))
      rw [hm'] at X6
      have M := Lib.hid hm'
      obtain ⟨mx, my⟩ := m
      obtain ⟨e0, e1⟩ := X6.out.cells
      obtain ⟨f0, f1⟩ := X3.out.cells
      obtain ⟨g0, g1⟩ := X4.out.cells
      have q0 := X4.out.free 0
      have q1 := X4.out.free 1
      simp only [vsq] at e0 e1 f0 f1
      have ZW := Lib.hid (X4.out.setAll ⟨(mx : Int), (my : Int)⟩)
      have heq : ∀ W : World, (binOp .neq 34 (.agg #[.int .i64 (mx : Int), .int .i64 (my : Int)]) (.agg #[.int .i64 (r : Int), .int .i64 (c : Int)])).run Try.prog W = .ok (.bool (!((mx, my) == (r, c)))) W := fun W => by rw [eqA2, ← SE.out]
      clear h3 h4 h6 hown hbel E hm'
      go_wp2
      go_region
      all_goals go_wp2
      all_goals refine bodyPost_ret (resultsIntA22 rfl rfl rfl (show HBIntA2 _ _ _ from ZW.out.drew)) rfl ⟨by rw [M.out]; rfl, ?_⟩
      all_goals exact bel_drew' ((B.out.setCell (by simp) _).setCell (by simp) _)
end Go.Proofs.Ytpnaciamnigbnaa
namespace Go.Proofs.Ytpnaciamnigbnaa
open Go.RowKit

theorem made_OwnA2 (w : World) (lo : Nat) (h : lo ≤ w.heap.size) : OwnIntA2S lo (w.alloc (.cells #[] 34)).heap.size (w.alloc (.cells #[] 34)) (.slice (some ⟨w.heap.size, 0, none⟩) 0 0) [] :=
  OwnIn.of_row (made_ownIntA2 w w.heap.size (Nat.le_refl _)) h (Nat.le_refl _)
set_option maxHeartbeats 6400000 in
set_option maxRecDepth 100000 in
theorem specNextSquare_any (a : Option Addr) (len cap : Nat) (D : List VIntS) (r c : Int) (w : World) (h : IsIntSS w a len cap D) (_ : condIntS D) :
    Calls Try.prog 33 #[.slice a len cap, .int .i64 r, .int .i64 c] w (NextSquare_Post D r c w) := by
  have S := Lib.hid h
  clear h
  obtain ⟨q, hq⟩ : ∃ q, hasB D r c = q := ⟨_, rfl⟩
  have Q := Lib.hid hq
  clear hq
  go_enter Try.func33, Try.ntmps33
  go_wp2_with fail
  refine (l9Square_any _ _ _ D r c _ S.out).mono ?_
  rintro e w1 ⟨rfl, hb⟩
  rw [Q.out]
  have B1 := Lib.hid hb
  have S1 := Lib.hid (S.out.below hb)
  clear hb
  cases q
  · have F := Lib.hid (show runsB D r c = false from by unfold runsB; rw [Q.out]; rfl)
    have P := Lib.hid (show NextSquare_0 D r c = 0 ∧ NextSquare_1 D r c = 0 ∧ NextSquare_2 D r c = false from by unfold NextSquare_0 NextSquare_1 NextSquare_2; rw [F.out]; exact ⟨rfl, rfl, rfl⟩)
    go_wp2
    go_ret3
    exact ⟨by rw [P.out.1, P.out.2.1, P.out.2.2]; rfl, B1.out⟩
  obtain ⟨hD, p, hp, e1, e2⟩ := hasB_yes Q.out
  subst e1
  subst e2
  have SZ := Lib.hid (sqZ_nat p)
  obtain ⟨x, y⟩ := p
  obtain ⟨hx, hy⟩ := hp
  simp only [] at SZ Q hx hy ⊢
  obtain ⟨q, hq⟩ : ∃ q, (nextSq D (x, y) == (x, y)) = q := ⟨_, rfl⟩
  have F := Lib.hid (show runsB D (x : Int) (y : Int) = !q from by unfold runsB; rw [Q.out, SZ.out, hq]; rfl)
  have P := Lib.hid (show NextSquare_0 D (x : Int) (y : Int) = (if (!q) = true then ((nextSq D (x, y)).1 : Int) else 0) ∧ NextSquare_1 D (x : Int) (y : Int) = (if (!q) = true then ((nextSq D (x, y)).2 : Int) else 0) ∧ NextSquare_2 D (x : Int) (y : Int) = !q from by unfold NextSquare_0 NextSquare_1 NextSquare_2; rw [F.out, SZ.out]; exact ⟨rfl, rfl, rfl⟩)
  have HQ := Lib.hid hq
  clear hq
  go_wp2_with fail
  refine (l9Next_any _ _ _ D x y _ S1.out hD hx hy).mono ?_
  rintro e w2 ⟨rfl, hb⟩
  rw [HQ.out]
  have B2 := Lib.hid (Below.then' B1.out hb)
  obtain ⟨m, hm⟩ : ∃ m, nextSq D (x, y) = m := ⟨_, rfl⟩
  rw [hm] at P ⊢
  obtain ⟨mx, my⟩ := m
  simp only [] at P ⊢
  have B3 := Lib.hid (Below.then' B2.out (bel_al1 w2 (.cells #[.int .i64 (mx : Int), .int .i64 (my : Int)] 34)))
  obtain ⟨c0, c1⟩ := BoxIntA2.new w2 34 ⟨(mx : Int), (my : Int)⟩ _ rfl
  simp only [] at c0 c1
  clear hb hm
  cases q
  · go_wp2
    go_quiet (fail)
    go_wp2
    go_ret3
    exact ⟨by rw [P.out.1, P.out.2.1, P.out.2.2]; rfl, Below.then' B3.out (bel_drawn _ _)⟩
  · go_wp2
    go_ret3
    exact ⟨by rw [P.out.1, P.out.2.1, P.out.2.2]; rfl, B3.out⟩
set_option maxHeartbeats 12800000 in
set_option maxRecDepth 100000 in
theorem l9Run_any (a : Option Addr) (len cap : Nat) (D : List VIntS) (r c : Nat) (w : World) (h : IsIntSS w a len cap D) (hD : RL D) (hr : r < D.length) (hc : c < colsN D) :
    Calls Try.prog 83 #[.slice a len cap, .agg #[.int .i64 (r : Int), .int .i64 (c : Int)]] w (SqPost (runOf D (r, c)) w) := by
  have HD := Lib.hid hD
  obtain ⟨i0, hi, hz0, hz1, hz2⟩ := info_parts infoIntA2
  have RL0 := Lib.hid (runOf_len hD (p := (r, c)) ⟨hr, hc⟩)
  have B0 := Lib.hid (bel_al2 w (.cells #[.int .i64 (r : Int), .int .i64 (c : Int)] 34) (.cells #[.int .i64 (r : Int), .int .i64 (c : Int)] 34))
  have S := Lib.hid h
  have O0' := lit_one (w.alloc (.cells #[.int .i64 (r : Int), .int .i64 (c : Int)] 34)) r c w.heap.size (by simp)
  rw [size_al] at O0'
  have O0 := Lib.hid O0'
  clear O0'
  obtain ⟨c0, c1⟩ := (BoxIntA2.new w 34 ⟨(r : Int), (c : Int)⟩ _ rfl)
  obtain ⟨d0, d1⟩ := (BoxIntA2.new w 34 ⟨(r : Int), (c : Int)⟩ _ rfl).below (bel_al1 _ (.cells #[.int .i64 (r : Int), .int .i64 (c : Int)] 34))
  simp only [] at c0 c1 d0 d1
  clear h hD
  go_enter Try.func83, Try.ntmps83
  go_wp2_with fail
  refine (l9Next_any _ _ _ D r c _ (S.out.below B0.out) HD.out hr hc).mono ?_
  rintro e w1 ⟨rfl, hb⟩
  have B1 := Lib.hid (Below.then' B0.out hb)
  have O1 := Lib.hid (O0.out.below hb)
  have hs1 : w.heap.size + 1 < w1.heap.size := by have := hb.size; simp at this; omega
  have X1 := Lib.hid (HBIntA2.new w1 (vsq (nextSq D (r, c))) _ rfl)
  have B2 := Lib.hid (Below.then' B1.out (bel_al1 w1 (.cells #[.int .i64 ((nextSq D (r, c)).1 : Int), .int .i64 ((nextSq D (r, c)).2 : Int)] 34)))
  have O2 := Lib.hid (O1.out.below (bel_al1 w1 (.cells #[.int .i64 ((nextSq D (r, c)).1 : Int), .int .i64 ((nextSq D (r, c)).2 : Int)] 34)))
  have IN := Lib.hid (show inR D (r, c) from ⟨hr, hc⟩)
  have ST := Lib.hid (show runOf D (r, c) = [(r, c)] ++ (runOf D (r, c)).tail from by rw [runOf_step HD.out ⟨hr, hc⟩]; rfl)
  clear hb c0 c1 d0 d1
  go_wp2
  go_loopg [5, 6, 7] ((hA D (r, c)).toNat) (fun g o p t wr => ∃ (G : List Sq) (cur : Sq) (b : Nat), inR D cur ∧ (hA D cur).toNat = g ∧ runOf D (r, c) = G ++ (runOf D cur).tail ∧ p = .pointer (some ⟨b, 0, none⟩) ∧ t = .bool (!(nextSq D cur == cur)) ∧ HBIntA2 wr b (vsq (nextSq D cur)) ∧ SqRow w.heap.size wr o G ∧ (∀ q, o.ownBlock = some q → q < b) ∧ w.heap.size ≤ b ∧ Below w.heap.size w wr)
  case atStart =>
    refine ⟨[(r, c)], (r, c), w1.heap.size, IN.out, rfl, ST.out, rfl, rfl, X1.out, O2.out, fun q e => ?_, by omega, B2.out⟩
    simp [Value.ownBlock] at e
    omega
  case round =>
    obtain ⟨G, cur, b, hin, hg, hru, rfl, rfl, hx, hown, hne, hlb, hbel⟩ := hrel
    have B := Lib.hid hbel
    have O := Lib.hid hown
    have X := Lib.hid hx
    have HI := Lib.hid hin
    have RU := Lib.hid hru
    have NE := Lib.hid hne
    have HG := Lib.hid hg
    clear hg hne
    by_cases hq : nextSq D cur = cur
    · have dq : (!(nextSq D cur == cur)) = false := by simp [hq]
      have E := Lib.hid (show runOf D (r, c) = G from by rw [hru, runOf_step HD.out hin, if_pos hq]; simp)
      clear hx hown hbel hru hin hq
      rw [dq]
      go_wp2
      go_ret
      exact ⟨_, rfl, by rw [E.out]; exact O.out, B.out⟩
    · have dq : (!(nextSq D cur == cur)) = true := by simp [hq]
      have LT := next_lt hq
      have NI := Lib.hid (next_in hin)
      have hge : 0 ≤ hA D (nextSq D cur) := by obtain ⟨_, _, _, _, h0, _⟩ := HD.out.at NI.out; exact h0
      have E := Lib.hid (show runOf D (r, c) = (G ++ [nextSq D cur]) ++ (runOf D (nextSq D cur)).tail from by
        rw [hru, runOf_step HD.out hin, if_neg hq, List.tail_cons, List.append_assoc]
        congr 1
        rw [runOf_step HD.out NI.out]; rfl)
      have hgl : G.length ≤ 10000 := by have := RL0.out; rw [hru, List.length_append] at this; omega
      rw [dq]
      clear hru hq dq
      obtain ⟨m, hm⟩ : ∃ m, nextSq D cur = m := ⟨_, rfl⟩
      rw [hm] at NI E X hx LT hge
      clear hm
      obtain ⟨mx, my⟩ := m
      obtain ⟨f0, f1⟩ := hx.cells
      simp only [vsq] at f0 f1
      have hs3 := B.out.size
      have ba := bel_al1 wr (.cells #[.int .i64 (mx : Int), .int .i64 (my : Int)] 34)
      have X2 := Lib.hid (X.out.below ba)
      have hown3 := World.ownsRow.alloc hown (.cells #[.int .i64 (mx : Int), .int .i64 (my : Int)] 34)
      clear hown hbel hx ba
      go_wp2_with (at_builtin; refine wpList_append_own _ rfl _ _ 27 rfl w.heap.size 34 i0 (.agg #[.int .i64 0, .int .i64 0]) 2 16 Try.underlying27 hi hz0 hz1 hz2 rfl (by decide) _ _ _ rfl hown3 ⟨wr.heap.size, 0, none⟩ 1 1 (VIntA2.vals (vsq (mx, my))) rfl rfl (cell_IntA2 _ (vsq (mx, my)) _) (VIntA2.vals_one _) (by unfold maxLen; omega) (by omega) (by simp; omega) ?_; intro v' w4 hown' hgrow4 _; have X4 := X2.out.grown hgrow4 (fun e => by have := NE.out b e.symm; omega); obtain ⟨p0, p1⟩ := X4.cells; simp only [vsq] at p0 p1; clear X4)
      have B4 := Lib.hid ((Below.then' B.out (bel_al1 _ _)).grown hgrow4 (by simp; omega) (fun q e => (hown3.lt q e).1))
      have O4 := Lib.hid (show SqRow w.heap.size w4 v' (G ++ [(mx, my)]) from by
        unfold SqRow
        rw [sqV_snoc, cellsIntA2_snoc, List.length_append]
        exact hown')
      have hl4 : ∀ q, v'.ownBlock = some q → q < w4.heap.size := fun q e => (hown'.lt q e).2
      have HL := Lib.hid hl4
      have hs4 := B4.out.size
      have B5 := Lib.hid (Below.then' B4.out (bel_al1 w4 (.cells #[.int .i64 (mx : Int), .int .i64 (my : Int)] 34)))
      have O5 := Lib.hid (O4.out.below (bel_al1 w4 (.cells #[.int .i64 (mx : Int), .int .i64 (my : Int)] 34)))
      have X5 := Lib.hid (HBIntA2.new w4 ⟨(mx : Int), (my : Int)⟩ _ rfl)
      clear hown3 hown' hgrow4 p0 p1 hl4
      refine (l9Next_any _ _ _ D mx my _ (S.out.below B5.out) HD.out NI.out.1 NI.out.2).mono ?_
      rintro e w6 ⟨rfl, hb⟩
      have B6 := Lib.hid (Below.then' B5.out hb)
      have O6 := Lib.hid (O5.out.below hb)
      have X6 := Lib.hid (X5.out.below hb)
      obtain ⟨e0, e1⟩ := X6.out.cells
      have q0 := X6.out.free 0
      have q1 := X6.out.free 1
      simp only [] at e0 e1
      have hz : w4.heap.size < w6.heap.size := by have := hb.size; simp at this; omega
      clear hb
      obtain ⟨n, hn⟩ : ∃ n, nextSq D (mx, my) = n := ⟨_, rfl⟩
      have NN := Lib.hid hn
      rw [hn]
      obtain ⟨nx, ny⟩ := n
      clear hn
      have HGR := Lib.hid (show w6.grownBy ((w6.setCell ⟨w4.heap.size, 0, none⟩ (.int .i64 (nx : Int))).setCell ⟨w4.heap.size, 1, none⟩ (.int .i64 (ny : Int))) (some w4.heap.size) from grown_trans (grown_set _ _ _ _) (grown_set _ _ _ _))
      go_wp2
      go_roundg ((hA D (mx, my)).toNat)
      case rel =>
        refine ⟨G ++ [(mx, my)], (mx, my), w4.heap.size, NI.out, rfl, E.out, rfl, by rw [NN.out], by rw [NN.out]; exact X6.out.setAll (vsq (nx, ny)), ?_, HL.out, by omega, B6.out.grown HGR.out B6.out.size (fun j e => by cases e; omega)⟩
        exact World.ownsRow.kept O6.out HGR.out (by
          cases hv : v'.ownBlock with
          | none => exact .inl rfl
          | some q => exact .inr (by simp only [ne_eq, Option.some.injEq]; have := HL.out q hv; omega))
      case measure => have := HG.out; omega
set_option maxHeartbeats 6400000 in
set_option maxRecDepth 100000 in
theorem specRunOff_any (a : Option Addr) (len cap : Nat) (D : List VIntS) (r c : Int) (w : World) (h : IsIntSS w a len cap D) (_ : condIntS D) :
    Calls Try.prog 19 #[.slice a len cap, .int .i64 r, .int .i64 c] w (RunOff_Post D r c w) := by
  have S := Lib.hid h
  clear h
  obtain ⟨q, hq⟩ : ∃ q, hasB D r c = q := ⟨_, rfl⟩
  have Q := Lib.hid hq
  clear hq
  go_enter Try.func19, Try.ntmps19
  go_wp2_with fail
  refine (l9Square_any _ _ _ D r c _ S.out).mono ?_
  rintro e w1 ⟨rfl, hb⟩
  rw [Q.out]
  have B1 := Lib.hid hb
  have S1 := Lib.hid (S.out.below hb)
  clear hb
  cases q
  · have P0 := Lib.hid (show RunOff_0 D r c = [] from by unfold RunOff_0; rw [Q.out]; rfl)
    go_wp2
    go_ret2
    exact ⟨_, by rw [show RunOff_1 D r c = false from Q.out]; rfl, by rw [P0.out]; exact made_OwnA2 w1 w.heap.size B1.out.size, Below.then' B1.out (bel_al1 _ _)⟩
  obtain ⟨hD, p, hp, e1, e2⟩ := hasB_yes Q.out
  subst e1
  subst e2
  have SZ := Lib.hid (sqZ_nat p)
  obtain ⟨x, y⟩ := p
  obtain ⟨hx, hy⟩ := hp
  simp only [] at SZ Q hx hy ⊢
  have P0 := Lib.hid (show RunOff_0 D (x : Int) (y : Int) = sqV (runOf D (x, y)) from by unfold RunOff_0; rw [Q.out, SZ.out, if_pos rfl]; rfl)
  go_wp2_with fail
  refine (l9Run_any _ _ _ D x y _ S1.out hD hx hy).mono ?_
  rintro e w2 ⟨v, rfl, hown, hb⟩
  have B2 := Lib.hid (Below.then' B1.out hb)
  have O2 := Lib.hid hown
  have hs := B1.out.size
  clear hown hb
  go_wp2
  go_ret2
  exact ⟨_, by rw [show RunOff_1 D (x : Int) (y : Int) = true from Q.out]; rfl, by rw [P0.out]; exact O2.out.ownS (by omega) (Nat.le_refl _), B2.out⟩
end Go.Proofs.Ytpnaciamnigbnaa
namespace Go.Proofs.Ytpnaciamnigbnaa
open Go.RowKit

theorem filt_snoc (f : Sq → Bool) (l : List Sq) (p : Sq) : (l ++ [p]).filter f = l.filter f ++ (if f p = true then [p] else []) := by
  rw [List.filter_append]
  simp only [List.filter_cons, List.filter_nil]
theorem sq_le {n k c : Nat} (hk : k ≤ 8) (hn : n ≤ 8) (hc : c ≤ n) : (sqsTo n k ++ sqRow c k).length ≤ 72 := by
  rw [List.length_append, sqsTo_len, sqRow_len]
  have := Nat.mul_le_mul hk hn
  omega
theorem sq_more (n k c : Nat) : sqsTo n k ++ sqRow (c + 1) k = (sqsTo n k ++ sqRow c k) ++ [(k, c)] := by rw [sqRow_succ, List.append_assoc]
set_option maxHeartbeats 12800000 in
set_option maxRecDepth 100000 in
theorem specPitsOf_any (a : Option Addr) (len cap : Nat) (D : List VIntS) (w : World) (h : IsIntSS w a len cap D) (_ : condIntS D) :
    Calls Try.prog 25 #[.slice a len cap] w (PitsOf_Post D w) := by
  have hm := h.2.2.1
  have hcl := h.2.1
  unfold maxLen at hm
  obtain rfl := h.1
  obtain ⟨i0, hi, hz0, hz1, hz2⟩ := info_parts infoIntA2
  have b0 := bel_al1 w (.cells #[] 34)
  have S := Lib.hid (h.below b0)
  have S0 := Lib.hid h
  have B0 := Lib.hid b0
  have O0 := Lib.hid (show SqRow w.heap.size (w.alloc (.cells #[] 34)) (.slice (some ⟨w.heap.size, 0, none⟩) 0 0) [] from made_ownIntA2 w w.heap.size (Nat.le_refl _))
  clear h b0
  obtain ⟨q, hq⟩ : ∃ q, rlB D = q := ⟨_, rfl⟩
  have Q := Lib.hid hq
  clear hq
  go_enter Try.func25, Try.ntmps25
  go_wp2_with fail
  refine (l9Good_any _ _ _ D _ S.out).mono ?_
  rintro e w1 ⟨rfl, hb⟩
  rw [Q.out]
  have B1 := Lib.hid (Below.then' B0.out hb)
  have S1 := Lib.hid (S.out.below hb)
  have O1 := Lib.hid (O0.out.below hb)
  clear hb
  cases q
  · have P0 := Lib.hid (show PitsOf_0 D = [] from by unfold PitsOf_0; rw [Q.out]; rfl)
    go_wp2
    go_ret2
    exact ⟨_, by rw [show PitsOf_1 D = false from Q.out]; rfl, by rw [P0.out]; exact O1.out.ownS (Nat.le_refl _) (Nat.le_refl _), B1.out⟩
  have HD := Lib.hid (rlB_iff.1 Q.out)
  have hm8 := HD.out.m8
  have hn8 := HD.out.n8
  have P0 := Lib.hid (show PitsOf_0 D = sqV ((sqsTo (colsN D) D.length).filter (pitB D)) from by unfold PitsOf_0; rw [Q.out]; rfl)
  have P1 := Lib.hid (show PitsOf_1 D = true from Q.out)
  go_wp2
  go_loopw [5, 4] (fun i o wr => ∃ k : Nat, k ≤ D.length ∧ i = .int .i64 k ∧ SqRow w.heap.size wr o ((sqsTo (colsN D) k).filter (pitB D)) ∧ Below w.heap.size w wr ∧ IsIntSS wr a D.length cap D) (fun i _ _ => D.length - (intOf i).toNat)
  case atStart => exact ⟨0, Nat.zero_le _, rfl, O1.out, B1.out, S1.out⟩
  case round =>
    obtain ⟨k, hk, rfl, hown, hbel, his⟩ := hrel
    have O := Lib.hid hown
    have B := Lib.hid hbel
    have SR := Lib.hid his
    by_cases hlt : k < D.length
    · have k0 : (0 : Int) ≤ (k : Int) := by omega
      have k1 : (k : Int) < (D.length : Int) := by omega
      clear hown hbel his
      rename World => w0
      go_wp2
      go_loopw [6, 4] (fun j ov wr => ∃ c : Nat, c ≤ colsN D ∧ j = .int .i64 c ∧ SqRow w.heap.size wr ov ((sqsTo (colsN D) k ++ sqRow c k).filter (pitB D)) ∧ Below w.heap.size w wr ∧ IsIntSS wr a D.length cap D) (fun j _ _ => colsN D - (intOf j).toNat)
      case atStart => exact ⟨0, Nat.zero_le _, rfl, by rw [show sqRow 0 k = [] from rfl, List.append_nil]; exact O.out, B.out, SR.out⟩
      case round =>
        obtain ⟨c, hc, rfl, hown, hbel, his⟩ := hrel
        have OI := Lib.hid hown
        have BI := Lib.hid hbel
        have SI := Lib.hid his
        obtain ⟨b, o, b', o', c', ha, hb, hb', g0, hc1, hc2, g1⟩ := relief_row his HD.out hlt
        subst ha
        by_cases hlc : c < colsN D
        · have RS := Lib.hid (filt_snoc (pitB D) (sqsTo (colsN D) k ++ sqRow c k) (k, c))
          rw [← sq_more] at RS
          have hle : ((sqsTo (colsN D) k ++ sqRow c k).filter (pitB D)).length ≤ 72 := Nat.le_trans (List.length_filter_le _ _) (sq_le (by omega) hn8 (by omega))
          obtain ⟨G, hG⟩ : ∃ G, (sqsTo (colsN D) k ++ sqRow c k).filter (pitB D) = G := ⟨_, rfl⟩
          rw [hG] at OI RS hle
          have ba := bel_al1 wr (.cells #[.int .i64 (k : Int), .int .i64 (c : Int)] 34)
          have B2 := Lib.hid (Below.then' hbel ba)
          have S2 := Lib.hid (his.below ba)
          have O2 := Lib.hid (OI.out.below ba)
          have X2 := Lib.hid (HBIntA2.new wr ⟨(k : Int), (c : Int)⟩ _ rfl)
          obtain ⟨d0, d1⟩ := X2.out.cells
          simp only [] at d0 d1
          have u0 : (0 : Int) ≤ (c : Int) := by omega
          have u1 : (c : Int) < (colsN D : Int) := by omega
          clear hown hbel hG ba his g1
          go_wp2_with fail
          refine (l9Next_any _ _ _ D k c _ S2.out HD.out hlt hlc).mono ?_
          rintro e w3 ⟨rfl, hb3⟩
          obtain ⟨q, hq⟩ : ∃ q, (nextSq D (k, c) == (k, c)) = q := ⟨_, rfl⟩
          have PB := Lib.hid (show pitB D (k, c) = q from hq)
          rw [hq]
          obtain ⟨m, hm'⟩ : ∃ m, nextSq D (k, c) = m := ⟨_, rfl⟩
          rw [hm']
          obtain ⟨mx, my⟩ := m
          have ba := bel_al1 w3 (.cells #[.int .i64 (mx : Int), .int .i64 (my : Int)] 34)
          have B3 := Lib.hid (Below.then' (Below.then' B2.out hb3) ba)
          have S3 := Lib.hid (S2.out.below (Below.then' hb3 ba))
          have O3 := Lib.hid (O2.out.below (Below.then' hb3 ba))
          have X3 := Lib.hid (X2.out.below (Below.then' hb3 ba))
          obtain ⟨f0, f1⟩ := X3.out.cells
          simp only [] at f0 f1
          have hs3 := B3.out.size
          have hown3 := World.ownsRow.alloc O3.out (.cells #[.int .i64 (k : Int), .int .i64 (c : Int)] 34)
          clear hb3 ba hq hm' d0 d1 g0
          cases q
          · clear hown3
            go_wp2
            go_roundw
            case rel => exact ⟨c + 1, by omega, by go_num, by rw [RS.out, PB.out]; simpa using O3.out, B3.out, S3.out⟩
            case measure => simp [intOf]; omega
          · obtain ⟨w4, hw4⟩ : ∃ w4, w3.alloc (.cells #[.int .i64 (mx : Int), .int .i64 (my : Int)] 34) = w4 := ⟨_, rfl⟩
            rw [hw4] at B3 S3 O3 X3 f0 f1 hs3 hown3
            go_wp2_with (at_builtin; refine wpList_append_own _ rfl _ _ 27 rfl w.heap.size 34 i0 (.agg #[.int .i64 0, .int .i64 0]) 2 16 Try.underlying27 hi hz0 hz1 hz2 rfl (by decide) _ _ _ rfl hown3 ⟨_, 0, none⟩ 1 1 (VIntA2.vals (vsq (k, c))) rfl rfl (cell_IntA2 _ (vsq (k, c)) _) (VIntA2.vals_one _) (by unfold maxLen; omega) (by omega) (by simp; omega) ?_; intro v' w5 hown' hgrow4 _)
            have B5 := Lib.hid ((Below.then' B3.out (bel_al1 _ _)).grown hgrow4 (by simp; omega) (fun q e => (hown3.lt q e).1))
            have S5 := Lib.hid (S0.out.below B5.out)
            have O5 := Lib.hid (show SqRow w.heap.size w5 v' (G ++ [(k, c)]) from by
              unfold SqRow
              rw [sqV_snoc, cellsIntA2_snoc, List.length_append]
              exact hown')
            clear hown' hgrow4 hown3
            go_roundw
            case rel => exact ⟨c + 1, by omega, by go_num, by rw [RS.out, PB.out]; exact O5.out, B5.out, S5.out⟩
            case measure => simp [intOf]; omega
        · obtain rfl : c = colsN D := by omega
          have O2 := Lib.hid (show SqRow w.heap.size wr _ ((sqsTo (colsN D) (k + 1)).filter (pitB D)) from by rw [sqsTo_succ]; exact OI.out)
          clear hown hbel g1 his
          go_wp2
          go_roundw
          case rel => exact ⟨k + 1, by omega, by go_num, O2.out, BI.out, SI.out⟩
          case measure => simp [intOf]; omega
    · obtain rfl : k = D.length := by omega
      clear hown hbel his
      go_wp2
      go_ret2
      exact ⟨_, by rw [P1.out]; rfl, by rw [P0.out]; exact O.out.ownS (Nat.le_refl _) (Nat.le_refl _), B.out⟩
def stS (D : List VIntS) (l : List Sq) : Sq × Int := l.foldl (steepS D) ((0, 0), 0)
theorem stS_snoc (D : List VIntS) (l : List Sq) (p : Sq) : stS D (l ++ [p]) = steepS D (stS D l) p := by simp [stS]
set_option maxHeartbeats 12800000 in
set_option maxRecDepth 100000 in
theorem specSteepestSquare_any (a : Option Addr) (len cap : Nat) (D : List VIntS) (w : World) (h : IsIntSS w a len cap D) (_ : condIntS D) :
    Calls Try.prog 46 #[.slice a len cap] w (SteepestSquare_Post D w) := by
  have hm := h.2.2.1
  have hcl := h.2.1
  unfold maxLen at hm
  obtain rfl := h.1
  have S := Lib.hid h
  clear h
  obtain ⟨q, hq⟩ : ∃ q, rlB D = q := ⟨_, rfl⟩
  have Q := Lib.hid hq
  clear hq
  go_enter Try.func46, Try.ntmps46
  go_wp2_with fail
  refine (l9Good_any _ _ _ D _ S.out).mono ?_
  rintro e w1 ⟨rfl, hb⟩
  rw [Q.out]
  have B1 := Lib.hid hb
  clear hb
  cases q
  · have F := Lib.hid (show steepB D = false from by unfold steepB; rw [Q.out]; rfl)
    have P0 := Lib.hid (show SteepestSquare_0 D = 0 ∧ SteepestSquare_1 D = 0 ∧ SteepestSquare_2 D = 0 ∧ SteepestSquare_3 D = false from by unfold SteepestSquare_0 SteepestSquare_1 SteepestSquare_2 SteepestSquare_3; rw [F.out]; exact ⟨rfl, rfl, rfl, rfl⟩)
    go_wp2
    refine bodyPost_ret (results_4w rfl _ _ _) rfl ⟨?_, B1.out⟩
    rw [P0.out.1, P0.out.2.1, P0.out.2.2.1, P0.out.2.2.2]; rfl
  have HD := Lib.hid (rlB_iff.1 Q.out)
  have hm8 := HD.out.m8
  have hn8 := HD.out.n8
  have ST := Lib.hid (show stS D (sqsTo (colsN D) D.length) = (topOf D (fall D), fall D (topOf D (fall D))) from steep_top HD.out)
  have SB := Lib.hid (show steepB D = !(fall D (topOf D (fall D)) == 0) from by unfold steepB; rw [Q.out]; rfl)
  have P0 := Lib.hid (show SteepestSquare_0 D = (if steepB D = true then ((topOf D (fall D)).1 : Int) else 0) ∧ SteepestSquare_1 D = (if steepB D = true then ((topOf D (fall D)).2 : Int) else 0) ∧ SteepestSquare_2 D = (if steepB D = true then fall D (topOf D (fall D)) else 0) ∧ SteepestSquare_3 D = steepB D from ⟨rfl, rfl, rfl, rfl⟩)
  have B2 := Lib.hid (Below.then' B1.out (bel_al1 w1 (.cells #[.int .i64 0, .int .i64 0] 34)))
  have X2 := Lib.hid (HBIntA2.new w1 ⟨0, 0⟩ _ rfl)
  have hs1 := B1.out.size
  go_wp2
  go_loopw [8, 7] (fun i mo wr => ∃ k : Nat, k ≤ D.length ∧ i = .int .i64 k ∧ mo = .int .i64 (stS D (sqsTo (colsN D) k)).2 ∧ HBIntA2 wr w1.heap.size (vsq (stS D (sqsTo (colsN D) k)).1) ∧ Below w.heap.size w wr) (fun i _ _ => D.length - (intOf i).toNat)
  case atStart => exact ⟨0, Nat.zero_le _, rfl, rfl, X2.out, B2.out⟩
  case round =>
    obtain ⟨k, hk, rfl, rfl, hx, hbel⟩ := hrel
    have X := Lib.hid hx
    have B := Lib.hid hbel
    by_cases hlt : k < D.length
    · have k0 : (0 : Int) ≤ (k : Int) := by omega
      have k1 : (k : Int) < (D.length : Int) := by omega
      clear hx hbel
      rename World => w0
      go_wp2
      go_loopw [9, 7] (fun j mo wr => ∃ c : Nat, c ≤ colsN D ∧ j = .int .i64 c ∧ mo = .int .i64 (stS D (sqsTo (colsN D) k ++ sqRow c k)).2 ∧ HBIntA2 wr w1.heap.size (vsq (stS D (sqsTo (colsN D) k ++ sqRow c k)).1) ∧ Below w.heap.size w wr) (fun j _ _ => colsN D - (intOf j).toNat)
      case atStart => exact ⟨0, Nat.zero_le _, rfl, by rw [show sqRow 0 k = [] from rfl, List.append_nil], by rw [show sqRow 0 k = [] from rfl, List.append_nil]; exact X.out, B.out⟩
      case round =>
        obtain ⟨c, hc, rfl, rfl, hx, hbel⟩ := hrel
        have XI := Lib.hid hx
        have BI := Lib.hid hbel
        obtain ⟨b, o, b', o', c', ha, hb, hb', g0, hc1, hc2, g1⟩ := relief_row (S.out.below hbel) HD.out hlt
        subst ha
        by_cases hlc : c < colsN D
        · have RS := Lib.hid (stS_snoc D (sqsTo (colsN D) k ++ sqRow c k) (k, c))
          rw [← sq_more] at RS
          obtain ⟨G, hG⟩ : ∃ G, stS D (sqsTo (colsN D) k ++ sqRow c k) = G := ⟨_, rfl⟩
          rw [hG] at XI RS ⊢
          obtain ⟨⟨gx, gy⟩, gm⟩ := G
          have ba := bel_al1 wr (.cells #[.int .i64 (k : Int), .int .i64 (c : Int)] 34)
          have B2 := Lib.hid (Below.then' hbel ba)
          have X2 := Lib.hid (XI.out.below ba)
          have A2 := Lib.hid (HBIntA2.new wr ⟨(k : Int), (c : Int)⟩ _ rfl)
          obtain ⟨d0, d1⟩ := A2.out.cells
          simp only [] at d0 d1
          have u0 : (0 : Int) ≤ (c : Int) := by omega
          have u1 : (c : Int) < (colsN D : Int) := by omega
          have hne : wr.heap.size ≠ w1.heap.size := by have := XI.out.lt; omega
          clear hx hbel hG ba g1
          go_wp2_with fail
          refine (l9Next_any _ _ _ D k c _ (S.out.below B2.out) HD.out hlt hlc).mono ?_
          rintro e w3 ⟨rfl, hb3⟩
          have NI := next_in (show inR D (k, c) from ⟨hlt, hlc⟩)
          obtain ⟨_, _, _, _, y0, y1⟩ := HD.out.at (show inR D (k, c) from ⟨hlt, hlc⟩)
          obtain ⟨_, _, _, _, y2, y3⟩ := HD.out.at NI
          have FF := Lib.hid (show fall D (k, c) = hA D (k, c) - hA D (nextSq D (k, c)) from rfl)
          obtain ⟨q, hq⟩ : ∃ q, (nextSq D (k, c) == (k, c)) = q := ⟨_, rfl⟩
          rw [hq]
          obtain ⟨m, hm'⟩ : ∃ m, nextSq D (k, c) = m := ⟨_, rfl⟩
          rw [hm'] at FF NI y2 y3 ⊢
          obtain ⟨mx, my⟩ := m
          obtain ⟨hmx, hmy⟩ := NI
          simp only [] at hmx hmy
          have ba := bel_al1 w3 (.cells #[.int .i64 (mx : Int), .int .i64 (my : Int)] 34)
          have B3 := Lib.hid (Below.then' (Below.then' B2.out hb3) ba)
          have X3 := Lib.hid (X2.out.below (Below.then' hb3 ba))
          have A3 := Lib.hid (A2.out.below (Below.then' hb3 ba))
          obtain ⟨f0, f1⟩ := BoxIntA2.new w3 34 ⟨(mx : Int), (my : Int)⟩ _ rfl
          simp only [] at f0 f1
          obtain ⟨b1, o1, b2, o2, c2, ha, _, _, p0, hp1, hp2, p1⟩ := relief_row (S.out.below B3.out) HD.out hlt
          have p2 := p1 c hlc
          obtain ⟨b3, o3, b4, o4, c3, ha2, _, _, r0, hr1, hr2, r1⟩ := relief_row (S.out.below B3.out) HD.out hmx
          have r2 := r1 my hmy
          simp only [Option.some.injEq, Addr.mk.injEq, and_true] at ha ha2
          obtain ⟨rfl, rfl⟩ := ha
          obtain ⟨rfl, rfl⟩ := ha2
          have v0 : (0 : Int) ≤ (mx : Int) := by omega
          have v1 : (mx : Int) < (D.length : Int) := by omega
          have v2 : (0 : Int) ≤ (my : Int) := by omega
          have v3 : (my : Int) < (colsN D : Int) := by omega
          have ws : IntKind.i64.wrap (hA D (k, c) - hA D (mx, my)) = hA D (k, c) - hA D (mx, my) := IntWalk.i64_in _ (by omega)
          clear hb3 ba hq hm' d0 d1 g0 p1 r1
          go_wp2
          go_quiet (fail)
          have bd := bel_drawn (w3.alloc (.cells #[.int .i64 (mx : Int), .int .i64 (my : Int)] 34)) nq
          have B4 := Lib.hid (Below.then' B3.out bd)
          have X4 := Lib.hid (X3.out.below bd)
          have A4 := Lib.hid (A3.out.below bd)
          obtain ⟨d, hd⟩ : ∃ d, hA D (k, c) - hA D (mx, my) = d := ⟨_, rfl⟩
          rw [hd] at FF ⊢
          clear bd p0 p2 r0 r2 f0 f1 ws hd
          obtain ⟨w4, hw4⟩ : ∃ w4, (w3.alloc (.cells #[.int .i64 (mx : Int), .int .i64 (my : Int)] 34)).drewN nq = w4 := ⟨_, rfl⟩
          rw [hw4] at B4 X4 A4 ⊢
          clear hw4
          by_cases hlo : gm < d
          · have RX := Lib.hid (show stS D (sqsTo (colsN D) k ++ sqRow (c + 1) k) = ((k, c), d) from by rw [RS.out]; unfold steepS; rw [FF.out, if_pos hlo])
            obtain ⟨e0, e1⟩ := A4.out.cells
            obtain ⟨q0, q1⟩ := X4.out.cells
            have q2 := X4.out.free 0
            have q3 := X4.out.free 1
            simp only [vsq] at e0 e1 q0 q1
            go_wp2
            go_roundw
            case rel => exact ⟨c + 1, by omega, by go_num, by rw [RX.out], by rw [RX.out]; exact X4.out.setAll (vsq (k, c)), (B4.out.setCell hs1 _).setCell hs1 _⟩
            case measure => simp [intOf]; omega
          · have RX := Lib.hid (show stS D (sqsTo (colsN D) k ++ sqRow (c + 1) k) = ((gx, gy), gm) from by rw [RS.out]; unfold steepS; rw [FF.out, if_neg hlo])
            have dl : decide (gm < d) = false := decide_eq_false hlo
            clear hlo
            go_wp2
            go_roundw
            case rel => exact ⟨c + 1, by omega, by go_num, by rw [RX.out], by rw [RX.out]; exact X4.out, B4.out⟩
            case measure => simp [intOf]; omega
        · obtain rfl : c = colsN D := by omega
          have RX := Lib.hid (show stS D (sqsTo (colsN D) k ++ sqRow (colsN D) k) = stS D (sqsTo (colsN D) (k + 1)) from by rw [sqsTo_succ])
          rw [RX.out] at XI ⊢
          clear hx hbel g1
          go_wp2
          go_roundw
          case rel => exact ⟨k + 1, by omega, by go_num, rfl, XI.out, BI.out⟩
          case measure => simp [intOf]; omega
    · obtain rfl : k = D.length := by omega
      rw [ST.out] at X ⊢
      obtain ⟨t, ht⟩ : ∃ t, topOf D (fall D) = t := ⟨_, rfl⟩
      rw [ht] at X SB P0 ⊢
      obtain ⟨x, y⟩ := t
      simp only [] at X P0 ⊢
      obtain ⟨d, hd⟩ : ∃ d, fall D (x, y) = d := ⟨_, rfl⟩
      rw [hd] at SB P0 ⊢
      obtain ⟨f0, f1⟩ := X.out.cells
      simp only [vsq] at f0 f1
      clear hd hx hbel ht
      by_cases hz : d = 0
      · have F := Lib.hid (show steepB D = false from by rw [SB.out, hz]; rfl)
        rw [F.out] at P0
        subst hz
        clear f0 f1
        go_wp2
        refine bodyPost_ret (results_4w rfl _ _ _) rfl ⟨?_, B.out⟩
        rw [P0.out.1, P0.out.2.1, P0.out.2.2.1, P0.out.2.2.2]; rfl
      · have F := Lib.hid (show steepB D = true from by rw [SB.out]; simp [hz])
        have c1 : (d == (0 : Int)) = false := by simp [hz]
        rw [F.out] at P0
        clear hz
        go_wp2
        go_quiet (fail)
        go_wp2
        refine bodyPost_ret (results_4w rfl _ _ _) rfl ⟨?_, Below.then' B.out (bel_drawn _ _)⟩
        rw [P0.out.1, P0.out.2.1, P0.out.2.2.1, P0.out.2.2.2]; rfl
end Go.Proofs.Ytpnaciamnigbnaa
namespace Go.Proofs.Ytpnaciamnigbnaa
end Go.Proofs.Ytpnaciamnigbnaa
namespace Go.Proofs.Ytpnaciamnigbnaa
open Go.RowKit Go.Deep

/-- How much water has run over each square: whole runs from P, and the part R of one more. -/
def metG (D : List VIntS) (P R : List Sq) (q : Sq) : Int := ((P.flatMap (runOf D) ++ R).count q : Nat)
theorem metG_up (D : List VIntS) (P R : List Sq) (q : Sq) : upL (metG D P R) q (metG D P R q + 1) = metG D P (R ++ [q]) := by
  funext x
  unfold upL metG
  rw [← List.append_assoc, List.count_append]
  by_cases e : x = q
  · subst e; simp; omega
  · rw [if_neg e]
    simp [Ne.symm e]
theorem metG_next (D : List VIntS) (P : List Sq) (p : Sq) : metG D P (runOf D p) = metG D (P ++ [p]) [] := by
  funext x
  unfold metG
  simp
theorem metG_all (D : List VIntS) : metG D (sqs D) [] = rivI D := by
  funext x
  unfold metG rivI riv rivTo
  simp
theorem metG_nil (D : List VIntS) : metG D [] [] = fun _ => 0 := by
  funext x; simp [metG]
theorem metG_bd {D : List VIntS} (hD : RL D) {P R : List Sq} (hP : ∀ p ∈ P, inR D p) (hl : P.length ≤ 72) (hR : R.length ≤ 10000) (q : Sq) : 0 ≤ metG D P R q ∧ metG D P R q ≤ 730000 := by
  unfold metG
  have h1 : (P.flatMap (runOf D) ++ R).count q ≤ 730000 := by
    refine Nat.le_trans List.count_le_length ?_
    rw [List.length_append]
    have h2 := flat_len D hD P hP
    omega
  omega
theorem sq_part {D : List VIntS} {k c : Nat} (hk : k < D.length) (hc : c ≤ colsN D) : ∀ p ∈ sqsTo (colsN D) k ++ sqRow c k, inR D p := by
  intro p hp
  rcases List.mem_append.1 hp with h | h
  · have := mem_sqsTo.1 h
    exact ⟨by omega, this.2⟩
  · have := mem_sqRow.1 h
    exact ⟨by omega, by omega⟩
theorem grid0 (D : List VIntS) : gridOf D (fun _ => 0) = List.replicate D.length (List.replicate (colsN D) 0) := by
  unfold gridOf
  simp [List.map_const']
set_option maxHeartbeats 12800000 in
set_option maxRecDepth 100000 in
theorem l9Rivers_any (a : Option Addr) (len cap : Nat) (D : List VIntS) (w : World) (h : IsIntSS w a len cap D) (hD : RL D) :
    Calls Try.prog 95 #[.slice a len cap] w (GridPost D (rivI D) w) := by
  have hm := h.2.2.1
  have hcl := h.2.1
  unfold maxLen at hm
  obtain rfl := h.1
  obtain ⟨i0, hi, hz0, hz1, hz2⟩ := info_parts infoIntS
  obtain ⟨i1, hj, hy0, hy1, hy2⟩ := info_parts infoInt
  have S := Lib.hid h
  have HD := Lib.hid hD
  have hm8 := hD.m8
  have hn8 := hD.n8
  have hn1 := hD.n1
  clear h hD
  go_enter Try.func95, Try.ntmps95
  go_wp2
  go_loopw [4, 3] (fun i v wr => ∃ (k g c : Nat) (ps : List PIntS), k ≤ D.length ∧ i = .int .i64 k ∧ v = .slice (some ⟨g, 0, none⟩) k c ∧ ps.map PIntS.x = List.replicate k (List.replicate (colsN D) 0) ∧ RawIntS w.heap.size wr.heap.size wr (.slice (some ⟨g, 0, none⟩) k c) ps ∧ Below w.heap.size w wr) (fun i _ _ => D.length - (intOf i).toNat)
  case atStart => exact ⟨0, w.heap.size, 0, [], Nat.zero_le _, rfl, rfl, rfl, made_rows w, bel_al1 _ _⟩
  case round =>
    obtain ⟨k, g, c, ps, hk, rfl, rfl, hps, hraw, hbel⟩ := hrel
    have O := Lib.hid hraw
    have B := Lib.hid hbel
    have PS := Lib.hid hps
    have hsz := hbel.size
    have hgl := hraw.1.lt (b := g) rfl
    by_cases hlt : k < D.length
    · obtain ⟨b, o, b', o', c', ha, hb, hb', g0, hc1, hc2, g1⟩ := relief_row (S.out.below hbel) HD.out hlt
      subst ha
      have k0 : (0 : Int) ≤ (k : Int) := by omega
      have k1 : (k : Int) < (D.length : Int) := by omega
      clear hraw hbel hps g1
      go_wp2_with (first
        | (refine wpList_make_full _ rfl _ _ 38 rfl wr.heap.size 3 i1 (.int .i64 0) 1 Try.underlying38 hj hy0 hy1 .i64 .i64 _ _ (colsN D) rfl rfl rfl rfl (by rw [hy2]; omega) (by unfold maxLen; omega) (Nat.le_refl _) ?_; intro w1 hown1 hgrow1; rw [madeZ] at hown1; have BM := Lib.hid ((Below.refl wr.heap.size wr).grown hgrow1 (Nat.le_refl _) (fun k e => by cases e)); have OM := Lib.hid hown1; have hs1 := BM.out.size; clear hown1 hgrow1)
        | (at_builtin; refine wpList_append_lies _ rfl _ _ 24 rfl w.heap.size 38 i0 (.slice none 0 0) 1 24 Try.underlying24 hi hz0 hz1 hz2 rfl (by decide) _ _ _ rfl (World.ownsRow.alloc (ownsRow_below O.out.row BM.out) _) ⟨_, 0, none⟩ 1 1 (PIntS.vals ⟨List.replicate (colsN D) 0, ⟨some ⟨wr.heap.size, 0, none⟩, colsN D, colsN D⟩⟩) rfl rfl (cell_IntS _ ⟨List.replicate (colsN D) 0, ⟨some ⟨wr.heap.size, 0, none⟩, colsN D, colsN D⟩⟩ _ _ rfl) (PIntS.vals_one _) (by decide) (by unfold maxLen; omega) (by omega) (by rw [size_al]; omega) _ rfl ?_; intro g4 cap4 w4 hown4 hgrow4 hg4 hlt4))
      have BA := Below.then' BM.out (bel_al1 w1 (.cells #[.slice (some ⟨wr.heap.size, 0, none⟩) (colsN D) (colsN D)] 38))
      have HM : HInts wr.heap.size w1.heap.size w1 ⟨some ⟨wr.heap.size, 0, none⟩, colsN D, colsN D⟩ (List.replicate (colsN D) 0) := by
        unfold HInts
        rw [List.length_replicate]
        exact OwnIn.of_row OM.out (Nat.le_refl _) (Nat.le_refl _)
      have HM2 := (HM.below (bel_al1 w1 (.cells #[.slice (some ⟨wr.heap.size, 0, none⟩) (colsN D) (colsN D)] 38))).mono (Nat.le_refl _) (bel_al1 w1 (.cells #[.slice (some ⟨wr.heap.size, 0, none⟩) (colsN D) (colsN D)] 38)).size
      have N4 := Lib.hid (O.out.snoc (p := ⟨List.replicate (colsN D) 0, ⟨some ⟨wr.heap.size, 0, none⟩, colsN D, colsN D⟩⟩) hsz BA HM2 hown4 hgrow4 hg4)
      have B4 := Lib.hid ((Below.then' B.out BA).grown hgrow4 (Below.then' B.out BA).size (fun j e => by cases e; exact hgl.1))
      clear HM HM2 BA hown4 hgrow4 hg4
      go_roundw
      case rel => exact ⟨k + 1, g4, cap4, ps ++ [⟨List.replicate (colsN D) 0, ⟨some ⟨wr.heap.size, 0, none⟩, colsN D, colsN D⟩⟩], by omega, by go_num, rfl, by rw [List.map_append, PS.out, List.replicate_succ']; rfl, N4.out, B4.out⟩
      case measure => simp [intOf]; omega
    · obtain rfl : k = D.length := by omega
      have G := Lib.hid (show GridIn w.heap.size wr.heap.size wr g D.length c (gridOf D (metG D (sqsTo (colsN D) 0 ) [])) from ⟨ps, by rw [PS.out, show sqsTo (colsN D) 0 = [] from rfl, metG_nil, grid0], O.out⟩)
      clear hraw hbel hps O PS
      rename World => w2
      go_wp2
      go_loopw [5] (fun i wr => ∃ k : Nat, k ≤ D.length ∧ i = .int .i64 k ∧ GridIn w.heap.size w2.heap.size wr g D.length c (gridOf D (metG D (sqsTo (colsN D) k) [])) ∧ Below w.heap.size w wr ∧ w2.heap.size ≤ wr.heap.size) (fun i _ => D.length - (intOf i).toNat)
      case atStart => exact ⟨0, Nat.zero_le _, rfl, G.out, B.out, Nat.le_refl _⟩
      case round =>
        obtain ⟨k, hk, rfl, hgr, hbel, hsw⟩ := hrel
        have GK := Lib.hid hgr
        have BK := Lib.hid hbel
        by_cases hlt : k < D.length
        · have k0 : (0 : Int) ≤ (k : Int) := by omega
          have k1 : (k : Int) < (D.length : Int) := by omega
          clear hgr hbel
          rename World => w3
          go_wp2
          go_loopw [6] (fun j wr => ∃ x : Nat, x ≤ colsN D ∧ j = .int .i64 x ∧ GridIn w.heap.size w2.heap.size wr g D.length c (gridOf D (metG D (sqsTo (colsN D) k ++ sqRow x k) [])) ∧ Below w.heap.size w wr ∧ w2.heap.size ≤ wr.heap.size) (fun j _ => colsN D - (intOf j).toNat)
          case atStart => exact ⟨0, Nat.zero_le _, rfl, by rw [show sqRow 0 k = [] from rfl, List.append_nil]; exact GK.out, BK.out, hsw⟩
          case round =>
            obtain ⟨x, hx, rfl, hgr, hbel, hsw'⟩ := hrel
            have GX := Lib.hid hgr
            have BX := Lib.hid hbel
            have SX := Lib.hid (S.out.below hbel)
            obtain ⟨b, o, b', o', c', ha, hb, hb', g0, hc1, hc2, g1⟩ := relief_row (S.out.below hbel) HD.out hlt
            subst ha
            by_cases hlx : x < colsN D
            · have u0 : (0 : Int) ≤ (x : Int) := by omega
              have u1 : (x : Int) < (colsN D : Int) := by omega
              clear hgr hbel g1
              go_wp2_with fail
              refine (l9Run_any _ _ _ D k x _ SX.out HD.out hlt hlx).mono ?_
              rintro e w4 ⟨v, rfl, hrun, hb4⟩
              have G4 := Lib.hid (GX.out.below hb4)
              have B4 := Lib.hid (Below.then' BX.out hb4)
              have hs4 := hb4.size
              have R4 := Lib.hid (hrun.base (base' := w2.heap.size) hsw')
              obtain ⟨a5, c5, rfl, _⟩ := hrun.is
              have RI := Lib.hid (fun (j : Nat) (q : Sq) (hq : (runOf D (k, x))[j]? = some q) => runOf_in (D := D) (p := (k, x)) ⟨hlt, hlx⟩ q (List.mem_of_getElem? hq))
              have hrl := runOf_len HD.out (p := (k, x)) ⟨hlt, hlx⟩
              have SP := Lib.hid (sq_part hlt (Nat.le_of_lt hlx))
              have hpl := sq_le (c := x) (Nat.le_trans (Nat.le_of_lt hlt) hm8) hn8 (Nat.le_of_lt hlx)
              have MN := Lib.hid (metG_next D (sqsTo (colsN D) k ++ sqRow x k) (k, x))
              rw [← sq_more] at MN
              obtain ⟨P, hP⟩ : ∃ P, sqsTo (colsN D) k ++ sqRow x k = P := ⟨_, rfl⟩
              obtain ⟨N, hN⟩ : ∃ N, runOf D (k, x) = N := ⟨_, rfl⟩
              rw [hP] at G4 SP hpl MN
              rw [hN] at R4 RI hrl MN ⊢
              clear hrun hb4 hN hP g0
              rename World => w4
              go_wp2
              go_loopw [8] (fun i wr => ∃ j : Nat, j ≤ N.length ∧ i = .int .i64 j ∧ GridIn w.heap.size w2.heap.size wr g D.length c (gridOf D (metG D P (N.take j))) ∧ SqRow w2.heap.size wr (.slice a5 N.length c5) N ∧ Below w.heap.size w wr ∧ w2.heap.size ≤ wr.heap.size) (fun i _ => N.length - (intOf i).toNat)
              case atStart => exact ⟨0, Nat.zero_le _, rfl, G4.out, R4.out, B4.out, by omega⟩
              case round =>
                obtain ⟨j, hj, rfl, hgr, hrun, hbel, hsj⟩ := hrel
                have GJ := Lib.hid hgr
                have RJ := Lib.hid hrun
                have BJ := Lib.hid hbel
                by_cases hlj : j < N.length
                · obtain ⟨q, hq⟩ : ∃ q, N[j]? = some q := ⟨N[j]'hlj, List.getElem?_eq_getElem _⟩
                  obtain ⟨b5, o5, e5, hb5, hat⟩ := hrun.isAt.2.at (by omega)
                  subst e5
                  obtain ⟨d0, d1⟩ := hat j (vsq q) (sqV_at hq)
                  have QI := RI.out j q hq
                  have MU := Lib.hid (metG_up D P (N.take j) q)
                  have bd := metG_bd HD.out SP.out hpl (R := N.take j) (by rw [List.length_take]; omega) q
                  have TK := Lib.hid (show N.take (j + 1) = N.take j ++ [q] from by rw [List.take_add_one, hq]; rfl)
                  obtain ⟨u, v⟩ := q
                  simp only [vsq] at d0 d1
                  obtain ⟨hu, hv⟩ := QI
                  simp only [] at hu hv
                  obtain ⟨b6, c6, e0, hne, hrng, e1, e2, hst⟩ := hgr.sq hu (by omega)
                  have e3 := e1 v hv
                  have e4 := e2 v
                  have hc6 := hrun.isAt.2.2.1
                  have hc7 := hrun.isAt.2.2.2.1
                  unfold maxLen at hc7
                  have i0' : (0 : Int) ≤ (j : Int) := by omega
                  have i1' : (j : Int) < (N.length : Int) := by omega
                  have u0 : (0 : Int) ≤ (u : Int) := by omega
                  have u1 : (u : Int) < (D.length : Int) := by omega
                  have v0 : (0 : Int) ≤ (v : Int) := by omega
                  have v1 : (v : Int) < (colsN D : Int) := by omega
                  obtain ⟨z, hz⟩ : ∃ z, metG D P (N.take j) (u, v) = z := ⟨_, rfl⟩
                  rw [hz] at e3 bd
                  have wz : IntKind.i64.wrap (z + 1) = z + 1 := IntWalk.i64_in _ (by omega)
                  have ST := Lib.hid (hst v (z + 1) hv)
                  rw [hz] at MU
                  rw [MU.out, ← TK.out] at ST
                  have RD := hrun.lt
                  clear hgr hrun hbel hat hq hz e1 e2 hst
                  go_wp2
                  go_still_tail 30, (by kernel_rfl)
                  change wpList _ _ _ _ _ wr.drew
                  go_wp2
                  go_roundw
                  case rel =>
                    refine ⟨j + 1, by omega, by go_num, ?_, RJ.out.grown (grown_drew' ST.out.2) (fun k e => by cases e; omega), bel_drew' (BJ.out.setCell (by simp; omega) _), by simpa using hsj⟩
                    exact ST.out.1
                  case measure => simp [intOf]; omega
                · obtain rfl : j = N.length := by omega
                  have G5 := Lib.hid (show GridIn w.heap.size w2.heap.size wr g D.length c (gridOf D (metG D (sqsTo (colsN D) k ++ sqRow (x + 1) k) [])) from by rw [← MN.out, ← List.take_length (l := N)]; exact hgr)
                  clear hgr hrun hbel
                  go_wp2
                  go_roundw
                  case rel => exact ⟨x + 1, by omega, by go_num, G5.out, BJ.out, hsj⟩
                  case measure => simp [intOf]; omega
            · obtain rfl : x = colsN D := by omega
              have G5 := Lib.hid (show GridIn w.heap.size w2.heap.size wr g D.length c (gridOf D (metG D (sqsTo (colsN D) (k + 1)) [])) from by rw [sqsTo_succ]; exact hgr)
              clear hgr hbel g1
              go_wp2
              go_roundw
              case rel => exact ⟨k + 1, by omega, by go_num, G5.out, BX.out, hsw'⟩
              case measure => simp [intOf]; omega
        · obtain rfl : k = D.length := by omega
          have G5 := Lib.hid (show GridIn w.heap.size wr.heap.size wr g D.length c (gridOf D (rivI D)) from by rw [← metG_all]; exact hgr.mono (Nat.le_refl _) hsw)
          clear hgr hbel
          go_wp2
          go_ret
          exact ⟨_, _, rfl, G5.out, BK.out⟩
end Go.Proofs.Ytpnaciamnigbnaa
namespace Go.Proofs.Ytpnaciamnigbnaa
open Go.RowKit

set_option maxHeartbeats 6400000 in
set_option maxRecDepth 100000 in
theorem specCatchment_any (a : Option Addr) (len cap : Nat) (D : List VIntS) (r c : Int) (w : World) (h : IsIntSS w a len cap D) (_ : condIntS D) :
    Calls Try.prog 31 #[.slice a len cap, .int .i64 r, .int .i64 c] w (Catchment_Post D r c w) := by
  have S := Lib.hid h
  clear h
  obtain ⟨q, hq⟩ : ∃ q, hasB D r c = q := ⟨_, rfl⟩
  have Q := Lib.hid hq
  clear hq
  go_enter Try.func31, Try.ntmps31
  go_wp2_with fail
  refine (l9Square_any _ _ _ D r c _ S.out).mono ?_
  rintro e w1 ⟨rfl, hb⟩
  rw [Q.out]
  have B1 := Lib.hid hb
  have S1 := Lib.hid (S.out.below hb)
  clear hb
  cases q
  · have P := Lib.hid (show Catchment_0 D r c = 0 ∧ Catchment_1 D r c = false from by unfold Catchment_0 Catchment_1; rw [Q.out]; exact ⟨rfl, rfl⟩)
    go_wp2
    go_ret2
    exact ⟨by rw [P.out.1, P.out.2]; rfl, B1.out⟩
  obtain ⟨hD, p, hp, e1, e2⟩ := hasB_yes Q.out
  subst e1
  subst e2
  have SZ := Lib.hid (sqZ_nat p)
  obtain ⟨x, y⟩ := p
  obtain ⟨hx, hy⟩ := hp
  simp only [] at SZ Q hx hy ⊢
  have P := Lib.hid (show Catchment_0 D (x : Int) (y : Int) = rivI D (x, y) ∧ Catchment_1 D (x : Int) (y : Int) = true from by unfold Catchment_0 Catchment_1; rw [Q.out, SZ.out]; exact ⟨rfl, rfl⟩)
  have x0 : (0 : Int) ≤ (x : Int) := by omega
  have x1 : (x : Int) < (D.length : Int) := by omega
  have y0 : (0 : Int) ≤ (y : Int) := by omega
  have y1 : (y : Int) < (colsN D : Int) := by omega
  go_wp2_with fail
  refine (l9Rivers_any _ _ _ D _ S1.out hD).mono ?_
  rintro e w2 ⟨g, cg, rfl, hg, hb⟩
  have B2 := Lib.hid (Below.then' B1.out hb)
  obtain ⟨b, cb, e0, _, _, e1, _, _⟩ := hg.sq hx (by omega)
  have e2 := e1 y hy
  clear hb hg e1
  go_wp2
  go_ret2
  exact ⟨by rw [P.out.1, P.out.2]; rfl, B2.out⟩
theorem maxFrom_snoc (f : Sq → Int) (b : Sq) (l : List Sq) (p : Sq) : maxFrom f b (l ++ [p]) = maxS f (maxFrom f b l) p := by simp [maxFrom]
set_option maxHeartbeats 12800000 in
set_option maxRecDepth 100000 in
theorem specGreatestRiver_any (a : Option Addr) (len cap : Nat) (D : List VIntS) (w : World) (h : IsIntSS w a len cap D) (_ : condIntS D) :
    Calls Try.prog 29 #[.slice a len cap] w (GreatestRiver_Post D w) := by
  have hm := h.2.2.1
  have hcl := h.2.1
  unfold maxLen at hm
  obtain rfl := h.1
  have S := Lib.hid h
  clear h
  obtain ⟨q, hq⟩ : ∃ q, rlB D = q := ⟨_, rfl⟩
  have Q := Lib.hid hq
  clear hq
  go_enter Try.func29, Try.ntmps29
  go_wp2_with fail
  refine (l9Good_any _ _ _ D _ S.out).mono ?_
  rintro e w1 ⟨rfl, hb⟩
  rw [Q.out]
  have B1 := Lib.hid hb
  have S1 := Lib.hid (S.out.below hb)
  clear hb
  cases q
  · have P := Lib.hid (show GreatestRiver_0 D = 0 ∧ GreatestRiver_1 D = 0 ∧ GreatestRiver_2 D = false from by unfold GreatestRiver_0 GreatestRiver_1 GreatestRiver_2; rw [Q.out]; exact ⟨rfl, rfl, rfl⟩)
    go_wp2
    go_ret3
    exact ⟨by rw [P.out.1, P.out.2.1, P.out.2.2]; rfl, B1.out⟩
  have HD := Lib.hid (rlB_iff.1 Q.out)
  have hm8 := HD.out.m8
  have hn8 := HD.out.n8
  have hn1 := HD.out.n1
  have hm1 := HD.out.m1
  have P := Lib.hid (show GreatestRiver_0 D = ((topOf D (rivI D)).1 : Int) ∧ GreatestRiver_1 D = ((topOf D (rivI D)).2 : Int) ∧ GreatestRiver_2 D = true from by unfold GreatestRiver_0 GreatestRiver_1 GreatestRiver_2; rw [Q.out]; exact ⟨rfl, rfl, rfl⟩)
  go_wp2_with fail
  refine (l9Rivers_any _ _ _ D _ S1.out HD.out).mono ?_
  rintro e w2 ⟨g, cg, rfl, hg, hb⟩
  have B2 := Lib.hid (Below.then' B1.out hb)
  have S2 := Lib.hid (S1.out.below hb)
  have G2 := Lib.hid hg
  have hcg := hg.head.2.2.2.2
  unfold maxLen at hcg
  have X2 := Lib.hid (HBIntA2.new w2 ⟨0, 0⟩ _ rfl)
  have TP := Lib.hid (show maxFrom (rivI D) (0, 0) (sqsTo (colsN D) D.length) = topOf D (rivI D) from rfl)
  have hs2 := B2.out.size
  clear hg hb
  go_wp2
  go_loopw [7] (fun i wr => ∃ k : Nat, k ≤ D.length ∧ i = .int .i64 k ∧ HBIntA2 wr w2.heap.size (vsq (maxFrom (rivI D) (0, 0) (sqsTo (colsN D) k))) ∧ Below w2.heap.size w2 wr) (fun i _ => D.length - (intOf i).toNat)
  case atStart => exact ⟨0, Nat.zero_le _, rfl, X2.out, bel_al1 _ _⟩
  case round =>
    obtain ⟨k, hk, rfl, hx, hbel⟩ := hrel
    have X := Lib.hid hx
    have B := Lib.hid hbel
    by_cases hlt : k < D.length
    · have k0 : (0 : Int) ≤ (k : Int) := by omega
      have k1 : (k : Int) < (D.length : Int) := by omega
      clear hx hbel
      rename World => w0
      go_wp2
      go_loopw [8] (fun j wr => ∃ c : Nat, c ≤ colsN D ∧ j = .int .i64 c ∧ HBIntA2 wr w2.heap.size (vsq (maxFrom (rivI D) (0, 0) (sqsTo (colsN D) k ++ sqRow c k))) ∧ Below w2.heap.size w2 wr) (fun j _ => colsN D - (intOf j).toNat)
      case atStart => exact ⟨0, Nat.zero_le _, rfl, by rw [show sqRow 0 k = [] from rfl, List.append_nil]; exact X.out, B.out⟩
      case round =>
        obtain ⟨c, hc, rfl, hx, hbel⟩ := hrel
        have XI := Lib.hid hx
        have BI := Lib.hid hbel
        obtain ⟨b, o, b', o', c', ha, hb, hb', g0, hc1, hc2, g1⟩ := relief_row (S2.out.below hbel) HD.out hlt
        subst ha
        by_cases hlc : c < colsN D
        · have RS := Lib.hid (maxFrom_snoc (rivI D) (0, 0) (sqsTo (colsN D) k ++ sqRow c k) (k, c))
          rw [← sq_more] at RS
          have MI : inR D (maxFrom (rivI D) (0, 0) (sqsTo (colsN D) k ++ sqRow c k)) := by
            rcases maxFrom_mem (rivI D) (sqsTo (colsN D) k ++ sqRow c k) (0, 0) with e | e
            · rw [e]; exact ⟨hm1, hn1⟩
            · exact sq_part hlt (Nat.le_of_lt hlc) _ e
          obtain ⟨G, hG⟩ : ∃ G, maxFrom (rivI D) (0, 0) (sqsTo (colsN D) k ++ sqRow c k) = G := ⟨_, rfl⟩
          rw [hG] at XI RS MI
          obtain ⟨mx, my⟩ := G
          obtain ⟨hmx, hmy⟩ := MI
          simp only [] at hmx hmy
          have GI := G2.out.below hbel
          obtain ⟨b1, c1, p0, _, _, p1, _, _⟩ := GI.sq hlt (by omega)
          have p2 := p1 c hlc
          obtain ⟨b2, c2, r0, _, _, r1, _, _⟩ := GI.sq hmx (by omega)
          have r2 := r1 my hmy
          obtain ⟨q0, q1⟩ := XI.out.cells
          simp only [vsq] at q0 q1
          have u0 : (0 : Int) ≤ (c : Int) := by omega
          have u1 : (c : Int) < (colsN D : Int) := by omega
          have v0 : (0 : Int) ≤ (mx : Int) := by omega
          have v1 : (mx : Int) < (D.length : Int) := by omega
          have v2 : (0 : Int) ≤ (my : Int) := by omega
          have v3 : (my : Int) < (colsN D : Int) := by omega
          obtain ⟨z1, hz1⟩ : ∃ z, rivI D (mx, my) = z := ⟨_, rfl⟩
          obtain ⟨z2, hz2⟩ : ∃ z, rivI D (k, c) = z := ⟨_, rfl⟩
          have RZ := Lib.hid (show maxFrom (rivI D) (0, 0) (sqsTo (colsN D) k ++ sqRow (c + 1) k) = if z1 < z2 then (k, c) else (mx, my) from by rw [RS.out]; unfold maxS; rw [hz1, hz2])
          rw [hz2] at p2
          rw [hz1] at r2
          clear hx hbel hG p1 r1 GI g1 hz1 hz2
          go_wp2
          go_quiet (fail)
          have bd := bel_drawn wr nq
          have B4 := Lib.hid (Below.then' BI.out bd)
          have X4 := Lib.hid (XI.out.below bd)
          clear bd p0 p2 r0 r2 q0 q1 g0
          obtain ⟨w4, hw4⟩ : ∃ w4, wr.drewN nq = w4 := ⟨_, rfl⟩
          rw [hw4] at B4 X4 ⊢
          clear hw4
          by_cases hlo : z1 < z2
          · have RX := Lib.hid (show maxFrom (rivI D) (0, 0) (sqsTo (colsN D) k ++ sqRow (c + 1) k) = (k, c) from by rw [RZ.out, if_pos hlo])
            have dl : decide (z1 < z2) = true := decide_eq_true hlo
            rw [dl]
            clear hlo dl
            obtain ⟨q0, q1⟩ := X4.out.cells
            have q2 := X4.out.free 0
            have q3 := X4.out.free 1
            simp only [vsq] at q0 q1
            go_wp2
            go_roundw
            case rel => exact ⟨c + 1, by omega, by go_num, by rw [RX.out]; exact X4.out.setAll (vsq (k, c)), (B4.out.setCell (Nat.le_refl _) _).setCell (Nat.le_refl _) _⟩
            case measure => simp [intOf]; omega
          · have RX := Lib.hid (show maxFrom (rivI D) (0, 0) (sqsTo (colsN D) k ++ sqRow (c + 1) k) = (mx, my) from by rw [RZ.out, if_neg hlo])
            have dl : decide (z1 < z2) = false := decide_eq_false hlo
            rw [dl]
            clear hlo dl
            go_wp2
            go_roundw
            case rel => exact ⟨c + 1, by omega, by go_num, by rw [RX.out]; exact X4.out, B4.out⟩
            case measure => simp [intOf]; omega
        · obtain rfl : c = colsN D := by omega
          have RX := Lib.hid (show maxFrom (rivI D) (0, 0) (sqsTo (colsN D) k ++ sqRow (colsN D) k) = maxFrom (rivI D) (0, 0) (sqsTo (colsN D) (k + 1)) from by rw [sqsTo_succ])
          rw [RX.out] at XI
          clear hx hbel g1
          go_wp2
          go_roundw
          case rel => exact ⟨k + 1, by omega, by go_num, XI.out, BI.out⟩
          case measure => simp [intOf]; omega
    · obtain rfl : k = D.length := by omega
      rw [TP.out] at X
      obtain ⟨t, ht⟩ : ∃ t, topOf D (rivI D) = t := ⟨_, rfl⟩
      rw [ht] at X P
      obtain ⟨x, y⟩ := t
      simp only [] at X P
      obtain ⟨f0, f1⟩ := X.out.cells
      simp only [vsq] at f0 f1
      clear hx hbel ht
      go_wp2
      go_quiet (fail)
      go_wp2
      go_ret3
      exact ⟨by rw [P.out.1, P.out.2.1, P.out.2.2]; rfl, Below.then' B2.out (Below.then' B.out (bel_drawn _ _))⟩
end Go.Proofs.Ytpnaciamnigbnaa
namespace Go.Proofs.Ytpnaciamnigbnaa
end Go.Proofs.Ytpnaciamnigbnaa
