/- Reliefs in the model: l9Next. -/
import Derived.Test.YtodjgeffkfbpiaaWs2
import Derived.Test.YtodjgeffkfbpiaaWi6
import Derived.Deep.RegionWith
import Derived.Deep.RegionHeld3
namespace Go.Proofs.Ytodjgeffkfbpiaa
open Go.RowKit

/-- A square in a block of its own, and a row of squares. -/
def BestNear (W0 : World) (N : List Sq) (s : VIntA2) (p v : Value) (wx : World) : Prop :=
  ∃ b, p = .pointer (some ⟨b, 0, none⟩) ∧ W0.heap.size ≤ b ∧ HBIntA2 wx b s ∧ SqRow W0.heap.size wx v N ∧ (∀ q, v.ownBlock = some q → q ≠ b) ∧ Below W0.heap.size W0 wx
set_option maxHeartbeats 12800000 in
set_option maxRecDepth 100000 in
theorem l9Next_any (a : Option Addr) (len cap : Nat) (D : List VIntS) (r c : Nat) (w : World) (h : IsIntSS w a len cap D) (hD : RL D) (hr : r < D.length) (hc : c < colsN D) :
    Calls Try.prog 64 #[.slice a len cap, .agg #[.int .i64 (r : Int), .int .i64 (c : Int)]] w (NextPost D (r, c) w) := by
  have hm := h.2.2.1
  have hcl := h.2.1
  unfold maxLen at hm
  have HD := Lib.hid hD
  have HP := Lib.hid (show inR D (r, c) from ⟨hr, hc⟩)
  have Z3 := Lib.hid ((HBIntA2.new w ⟨(r : Int), (c : Int)⟩ _ rfl).alloc (.cells #[.int .i64 0, .int .i64 0] 34))
  have Z4 := Lib.hid (HBIntA2.new (w.alloc (.cells #[.int .i64 (r : Int), .int .i64 (c : Int)] 34)) ⟨0, 0⟩ (w.heap.size + 1) (by simp))
  have B0 := Lib.hid (bel_al2 w (.cells #[.int .i64 (r : Int), .int .i64 (c : Int)] 34) (.cells #[.int .i64 0, .int .i64 0] 34))
  have S := Lib.hid h
  have LD := Lib.hid h.1
  have hs0 : ((w.alloc (.cells #[.int .i64 (r : Int), .int .i64 (c : Int)] 34)).alloc (.cells #[.int .i64 0, .int .i64 0] 34)).heap.size = w.heap.size + 2 := by simp
  clear h hD
  go_enter Try.func64, Try.ntmps64
  go_wp2
  obtain ⟨W0, hW0⟩ : ∃ W0, (w.alloc (.cells #[.int .i64 (r : Int), .int .i64 (c : Int)] 34)).alloc (.cells #[.int .i64 0, .int .i64 0] 34) = W0 := ⟨_, rfl⟩
  rw [hW0] at Z3 Z4 B0 hs0
  simp only [hW0]
  have HS := Lib.hid hs0
  clear hW0 hs0
  go_upto_region 1 with (fail)
  go_cut [6, 7] (fun p v wx => BestNear W0 (nears D (r, c)) ⟨(r : Int), (c : Int)⟩ p v wx)
  case first =>
    obtain ⟨c0, c1⟩ := Z3.out.cells
    simp only [] at c0 c1
    have S2 := Lib.hid (S.out.below B0.out)
    have KD := Lib.hid (show Below W0.heap.size W0 W0.drew ∧ W0.drew.cell? ⟨w.heap.size, 0, none⟩ = some (.int .i64 (r : Int)) ∧ W0.drew.cell? ⟨w.heap.size, 1, none⟩ = some (.int .i64 (c : Int)) from ⟨bel_drew' (Below.refl _ _), c0, c1⟩)
    have KP := Lib.hid (show ∀ u v : World, (Below W0.heap.size W0 u ∧ u.cell? ⟨w.heap.size, 0, none⟩ = some (.int .i64 (r : Int)) ∧ u.cell? ⟨w.heap.size, 1, none⟩ = some (.int .i64 (c : Int))) → Below u.heap.size u v → (Below W0.heap.size W0 v ∧ v.cell? ⟨w.heap.size, 0, none⟩ = some (.int .i64 (r : Int)) ∧ v.cell? ⟨w.heap.size, 1, none⟩ = some (.int .i64 (c : Int))) from
      fun u v ⟨k0, k1, k2⟩ hb => ⟨Below.then' k0 hb, cell_stay k1 hb, cell_stay k2 hb⟩)
    have KS := Lib.hid (show ∀ u : World, (Below W0.heap.size W0 u ∧ u.cell? ⟨w.heap.size, 0, none⟩ = some (.int .i64 (r : Int)) ∧ u.cell? ⟨w.heap.size, 1, none⟩ = some (.int .i64 (c : Int))) → ∀ v0 v1, (Below W0.heap.size W0 ((u.setCell ⟨W0.heap.size, 0, none⟩ v0).setCell ⟨W0.heap.size, 1, none⟩ v1) ∧ ((u.setCell ⟨W0.heap.size, 0, none⟩ v0).setCell ⟨W0.heap.size, 1, none⟩ v1).cell? ⟨w.heap.size, 0, none⟩ = some (.int .i64 (r : Int)) ∧ ((u.setCell ⟨W0.heap.size, 0, none⟩ v0).setCell ⟨W0.heap.size, 1, none⟩ v1).cell? ⟨w.heap.size, 1, none⟩ = some (.int .i64 (c : Int))) from by
      rintro u ⟨k0, k1, k2⟩ v0 v1
      have hne : w.heap.size ≠ W0.heap.size := by have := HS.out; omega
      have hg := grown_trans (grown_set u W0.heap.size 0 v0) (grown_set (u.setCell ⟨W0.heap.size, 0, none⟩ v0) W0.heap.size 1 v1)
      exact ⟨(k0.setCell (Nat.le_refl _) _).setCell (Nat.le_refl _) _, hg.cell k1 (by simp [hne]), hg.cell k2 (by simp [hne])⟩)
    have KI := Lib.hid (show ∀ u : World, (Below W0.heap.size W0 u ∧ u.cell? ⟨w.heap.size, 0, none⟩ = some (.int .i64 (r : Int)) ∧ u.cell? ⟨w.heap.size, 1, none⟩ = some (.int .i64 (c : Int))) → Calls Try.prog 89 #[.slice a len cap, .int .i64 (r : Int), .int .i64 (c : Int)] u (SqPost (nears D (r, c)) u) from fun u ⟨k0, _, _⟩ => l9Near_any _ _ _ D r c _ (S2.out.below k0) HD.out hr hc)
    have NEW := Lib.hid (fun (v : World) (hb : Below (W0.drew.alloc (.cells #[.int .i64 0, .int .i64 0] 34)).heap.size (W0.drew.alloc (.cells #[.int .i64 0, .int .i64 0] 34)) v) => (HBIntA2.new W0.drew ⟨0, 0⟩ W0.heap.size rfl).below hb)
    go_region_held3 (fun u => Below W0.heap.size W0 u ∧ u.cell? ⟨w.heap.size, 0, none⟩ = some (.int .i64 (r : Int)) ∧ u.cell? ⟨w.heap.size, 1, none⟩ = some (.int .i64 (c : Int)))
      (first | exact KD.out | exact KP.out _ _ (by assumption) (by assumption) | exact KP.out _ _ KD.out (by assumption) | exact KP.out _ _ KD.out (bel_al1 _ _) | exact KP.out _ _ (by assumption) (bel_al1 _ _) | exact KP.out _ _ (KP.out _ _ KD.out (bel_al1 _ _)) (by assumption) | exact KP.out _ _ (KP.out _ _ KD.out (by assumption)) (bel_al1 _ _) | exact KS.out _ (by assumption) _ _)
      (first | (go_at_call 89; refine (KI.out _ (by assumption)).mono ?_; rintro e w' ⟨v, rfl, hown, hb⟩; (try (have NB := NEW.out _ hb; obtain ⟨n0, n1⟩ := NB.cells; simp only [] at n0 n1; have m0 := NB.free 0; have m1 := NB.free 1))))
    · rename_i HH
      have hsw : W0.heap.size ≤ w'.heap.size := hb.size
      go_wp2
      go_meet
      exact ⟨w'.heap.size, rfl, hsw, HBIntA2.new w' ⟨(r : Int), (c : Int)⟩ _ rfl, hown.below (bel_al1 _ _), fun q e => by have := (World.ownsRow.lt hown q e).2; omega, HH.1⟩
    · rename_i HH
      have hg := grown_trans (grown_set w' W0.heap.size 0 (.int .i64 (r : Int))) (grown_set (w'.setCell ⟨W0.heap.size, 0, none⟩ (.int .i64 (r : Int))) W0.heap.size 1 (.int .i64 (c : Int)))
      have hlt : ∀ q, v.ownBlock = some q → q ≠ W0.heap.size := fun q e => by
        have h3 := (World.ownsRow.lt hown q e).1
        simp at h3
        omega
      go_wp2
      go_meet
      refine ⟨W0.heap.size, rfl, Nat.le_refl _, NB.setAll ⟨(r : Int), (c : Int)⟩, ownsRow_base (World.ownsRow.kept hown hg ?_) (by simp), hlt, HH.1⟩
      cases hv : v.ownBlock with
      | none => exact .inl rfl
      | some q => exact .inr (by simp only [ne_eq, Option.some.injEq]; exact hlt q hv)
  case rest =>
  obtain ⟨b6, rfl, hb6, hx6, hown, hnb, hbel⟩ := hcut
  rename World => w1
  have Y3 := Lib.hid (Z3.out.below hbel)
  have Y4 := Lib.hid (Z4.out.below hbel)
  have Y6 := Lib.hid hx6
  have B1 := Lib.hid (Below.then' B0.out hbel)
  have O1 := Lib.hid hown
  have hs1 : w.heap.size + 2 ≤ b6 := by have := HS.out; omega
  obtain ⟨a4, c4, rfl, _⟩ := hown.is
  have NL := Lib.hid (show (nextSq D (r, c)) = (nears D (r, c)).foldl (lowerOf D) (r, c) from rfl)
  have hln := nears_len D (r, c)
  have NB := Lib.hid hnb
  clear hown hbel hx6 hnb
  have HN := Lib.hid (fun (k : Nat) (q : Sq) (hq : (nears D (r, c))[k]? = some q) => nears_in HP.out (List.mem_of_getElem? hq))
  have HF := Lib.hid (fun k : Nat => fold_in HP.out k)
  obtain ⟨N, hN⟩ : ∃ N, nears D (r, c) = N := ⟨_, rfl⟩
  rw [hN] at O1 NL hln HN HF NB ⊢
  clear hN
  go_wp2
  go_loopw [8] (fun i wr => ∃ k : Nat, k ≤ N.length ∧ i = .int .i64 k ∧ HBIntA2 wr w.heap.size ⟨(r : Int), (c : Int)⟩ ∧ HBIntA2 wr (w.heap.size + 1) ⟨0, 0⟩ ∧ HBIntA2 wr b6 (vsq ((N.take k).foldl (lowerOf D) (r, c))) ∧ SqRow W0.heap.size wr (.slice a4 N.length c4) N ∧ Below w.heap.size w wr) (fun i _ => N.length - (intOf i).toNat)
  case atStart => exact ⟨0, Nat.zero_le _, rfl, Y3.out, Y4.out, Y6.out, O1.out, B1.out⟩
  case round =>
    obtain ⟨k, hk, rfl, h3, h4, h6, hown, hbel⟩ := hrel
    have B := Lib.hid hbel
    have O := Lib.hid hown
    have X3 := Lib.hid h3
    have X4 := Lib.hid h4
    have X6 := Lib.hid h6
    by_cases hlt : k < N.length
    · obtain ⟨q, hq⟩ : ∃ q, N[k]? = some q := ⟨N[k]'hlt, List.getElem?_eq_getElem _⟩
      obtain ⟨b, o, e4, hb, hat⟩ := hown.isAt.2.at (by omega)
      subst e4
      obtain ⟨d0, d1⟩ := hat k (vsq q) (sqV_at hq)
      have QI := HN.out k q hq
      have BI := HF.out k
      have FM := Lib.hid (fold_more (lowerOf D) (r, c) hq)
      obtain ⟨m, hm'⟩ : ∃ m, (N.take k).foldl (lowerOf D) (r, c) = m := ⟨_, rfl⟩
      rw [hm'] at X6 h6 BI FM
      obtain ⟨x, y⟩ := q
      obtain ⟨mx, my⟩ := m
      simp only [vsq] at d0 d1
      have QX := QI.1
      have QY := QI.2
      have MX := BI.1
      have MY := BI.2
      simp only [] at QX QY MX MY
      have hc4 := hown.isAt.2.2.1
      have hc5 := hown.isAt.2.2.2.1
      unfold maxLen at hc5
      have j0 : (0 : Int) ≤ (k : Int) := by omega
      have j1 : (k : Int) < (N.length : Int) := by omega
      obtain ⟨e0, e1⟩ := h6.cells
      simp only [vsq] at e0 e1
      have D0 := Lib.hid d0
      have D1 := Lib.hid d1
      obtain ⟨b1, o1, b2, o2, c2, ha, _, _, g0, hg1, hg2, g1⟩ := relief_row (S.out.below hbel) HD.out QX
      have g2 := g1 y QY
      obtain ⟨b3, o3, b4, o4, c3, ha', _, _, p0, hp1, hp2, p1⟩ := relief_row (S.out.below hbel) HD.out MX
      have p2 := p1 my MY
      subst ha
      simp only [Option.some.injEq, Addr.mk.injEq, and_true] at ha'
      obtain ⟨rfl, rfl⟩ := ha'
      have ld := LD.out
      have x0 : (0 : Int) ≤ (x : Int) := by omega
      have x1 : (x : Int) < (len : Int) := by omega
      have y0 : (0 : Int) ≤ (y : Int) := by omega
      have y1 : (y : Int) < (colsN D : Int) := by omega
      have mx0 : (0 : Int) ≤ (mx : Int) := by omega
      have mx1 : (mx : Int) < (len : Int) := by omega
      have my0 : (0 : Int) ≤ (my : Int) := by omega
      have my1 : (my : Int) < (colsN D : Int) := by omega
      clear h3 h4 h6 hown hbel hat hq hm' QI BI g1 p1 QX QY MX MY ld
      go_wp2
      go_quiet (fail)
      have bw := bel_drawn wr nq
      have V3 := Lib.hid (X3.out.below bw)
      have V4 := Lib.hid (X4.out.below bw)
      have V6 := Lib.hid (X6.out.below bw)
      have VO := Lib.hid (O.out.below bw)
      have VB := Lib.hid (Below.then' B.out bw)
      clear bw d0 d1 e0 e1 g0 g2 p0 p2
      by_cases hlo : hA D (x, y) < hA D (mx, my)
      · have dl : decide (hA D (x, y) < hA D (mx, my)) = true := decide_eq_true hlo
        have FX := Lib.hid (show (N.take (k + 1)).foldl (lowerOf D) (r, c) = (x, y) from by rw [FM.out]; unfold lowerOf; rw [if_pos hlo])
        have g0 := D0.out
        have g1 := D1.out
        obtain ⟨p0, p1⟩ := V6.out.cells
        have q0 := V6.out.free 0
        have q1 := V6.out.free 1
        have HG := Lib.hid (show (wr.drewN nq).grownBy (((wr.drewN nq).setCell ⟨b6, 0, none⟩ (.int .i64 (x : Int))).setCell ⟨b6, 1, none⟩ (.int .i64 (y : Int))) (some b6) from grown_trans (grown_set _ _ _ _) (grown_set _ _ _ _))
        clear hlo
        rw [dl]
        go_wp2
        go_roundw
        case rel =>
          refine ⟨k + 1, by omega, by go_num, V3.out.otherAll (by omega) _ _, V4.out.otherAll (by omega) _ _, ?_, World.ownsRow.kept VO.out HG.out (by simp only [Value.ownBlock]; exact .inr (fun e => NB.out b rfl (Option.some.inj e))), VB.out.grown HG.out VB.out.size (fun j e => by cases e; omega)⟩
          rw [FX.out]
          exact V6.out.setAll (vsq (x, y))
        case measure => simp [intOf]; omega
      · have dl : decide (hA D (x, y) < hA D (mx, my)) = false := decide_eq_false hlo
        have FX := Lib.hid (show (N.take (k + 1)).foldl (lowerOf D) (r, c) = (mx, my) from by rw [FM.out]; unfold lowerOf; rw [if_neg hlo])
        clear hlo
        rw [dl]
        go_wp2
        go_roundw
        case rel => exact ⟨k + 1, by omega, by go_num, V3.out, V4.out, by rw [FX.out]; exact V6.out, VO.out, VB.out⟩
        case measure => simp [intOf]; omega
    · obtain rfl : k = N.length := by omega
      have E := List.take_of_length_le (Nat.le_refl N.length)
      rw [E, ← NL.out] at X6
      obtain ⟨m, hm'⟩ : ∃ m, nextSq D (r, c) = m := ⟨_, rfl⟩
      have SE := Lib.hid (sq_eq m (r, c))
      rw [hm'] at X6
      have M := Lib.hid hm'
      obtain ⟨mx, my⟩ := m
      obtain ⟨e0, e1⟩ := X6.out.cells
      obtain ⟨f0, f1⟩ := X3.out.cells
      obtain ⟨g0, g1⟩ := X4.out.cells
      have q0 := X4.out.free 0
      have q1 := X4.out.free 1
      simp only [vsq] at e0 e1 f0 f1
      have ZW := Lib.hid (X4.out.setAll ⟨(mx : Int), (my : Int)⟩)
      have heq : ∀ W : World, (binOp .neq 34 (.agg #[.int .i64 (mx : Int), .int .i64 (my : Int)]) (.agg #[.int .i64 (r : Int), .int .i64 (c : Int)])).run Try.prog W = .ok (.bool (!((mx, my) == (r, c)))) W := fun W => by rw [eqA2, ← SE.out]
      clear h3 h4 h6 hown hbel E hm'
      go_wp2
      go_region
      all_goals go_wp2
      all_goals refine bodyPost_ret (resultsIntA22 rfl rfl rfl (show HBIntA2 _ _ _ from ZW.out.drew)) rfl ⟨by rw [M.out]; rfl, ?_⟩
      all_goals exact bel_drew' ((B.out.setCell (by simp) _).setCell (by simp) _)
end Go.Proofs.Ytodjgeffkfbpiaa
