/- Reliefs in the program: nextSquare. -/
import Derived.Test.YtodjgeffkfbpiaaWi4
import Derived.Test.YtodjgeffkfbpiaaArrEq
import Derived.Test.YtodjgeffkfbpiaaOpen3
import Derived.Deep.RegionHeld3
namespace Go.Proofs.Ytodjgeffkfbpiaa
open Go.RowKit

theorem SqRow.isAt {base : Nat} {w : World} {a : Option Addr} {n c : Nat} {l : List Sq} (h : SqRow base w (.slice a n c) l) : n = l.length ∧ IsIntA2S w a n c (sqV l) := by
  obtain ⟨a', c', e, hi⟩ := h.is
  simp only [Value.slice.injEq] at e
  obtain ⟨rfl, rfl, rfl⟩ := e
  exact ⟨rfl, hi⟩
theorem SqRow.grown {base : Nat} {w w' : World} {v : Value} {l : List Sq} {row : Option Nat} (h : SqRow base w v l) (hg : w.grownBy w' row) (hne : ∀ k, row = some k → k < base) : SqRow base w' v l := ownsRow_grown' h hg hne
/-- To where water runs, and whether it does. -/
def NextPost (D : List VIntS) (p : Sq) (w : World) (e : Ending) (w' : World) : Prop :=
  e = .returned (.tuple #[.agg #[.int .i64 ((nextSq D p).1 : Int), .int .i64 ((nextSq D p).2 : Int)], .bool (!(nextSq D p == p))]) ∧ Below w.heap.size w w'
theorem grown_set (w : World) (b j : Nat) (u : Value) : w.grownBy (w.setCell ⟨b, j, none⟩ u) (some b) :=
  ⟨rfl, rfl, rfl, by simp [World.setCell], fun k _ hne => Below.heap_setCell _ _ _ _ (by intro e; exact hne (by rw [e]))⟩
theorem fold_more {α β : Type} (f : β → α → β) (b : β) {xs : List α} {k : Nat} {x : α} (h : xs[k]? = some x) : (xs.take (k + 1)).foldl f b = f ((xs.take k).foldl f b) x := by
  rw [List.take_add_one, h]; simp
theorem fold_in {D : List VIntS} {p : Sq} (hp : inR D p) (k : Nat) : inR D (((nears D p).take k).foldl (lowerOf D) p) := by
  rcases fold_lower D ((nears D p).take k) p with e | ⟨e, _⟩
  · rw [e]; exact hp
  · exact nears_in hp (List.mem_of_mem_take e)
theorem sq_eq (p q : Sq) : ((p.1 : Int) == (q.1 : Int) && (p.2 : Int) == (q.2 : Int)) = (p == q) := by
  obtain ⟨a, b⟩ := p
  obtain ⟨c, d⟩ := q
  rw [Bool.eq_iff_iff]
  simp
  omega
set_option maxHeartbeats 12800000 in
set_option maxRecDepth 100000 in
theorem nextSquare_any (a : Option Addr) (len cap : Nat) (D : List VIntS) (r c : Nat) (w : World) (h : IsIntSS w a len cap D) (hD : RL D) (hr : r < D.length) (hc : c < colsN D) :
    Calls Try.prog 60 #[.slice a len cap, .agg #[.int .i64 (r : Int), .int .i64 (c : Int)]] w (NextPost D (r, c) w) := by
  have hm := h.2.2.1
  have hcl := h.2.1
  unfold maxLen at hm
  have HD := Lib.hid hD
  have HP := Lib.hid (show inR D (r, c) from ⟨hr, hc⟩)
  have Z3 := Lib.hid (((HBIntA2.new w ⟨(r : Int), (c : Int)⟩ _ rfl).alloc (.cells #[.int .i64 0, .int .i64 0] 34)).alloc (.cells #[.int .i64 (r : Int), .int .i64 (c : Int)] 34))
  have Z4 := Lib.hid ((HBIntA2.new (w.alloc (.cells #[.int .i64 (r : Int), .int .i64 (c : Int)] 34)) ⟨0, 0⟩ (w.heap.size + 1) (by simp)).alloc (.cells #[.int .i64 (r : Int), .int .i64 (c : Int)] 34))
  have Z6 := Lib.hid (HBIntA2.new ((w.alloc (.cells #[.int .i64 (r : Int), .int .i64 (c : Int)] 34)).alloc (.cells #[.int .i64 0, .int .i64 0] 34)) ⟨(r : Int), (c : Int)⟩ (w.heap.size + 2) (by simp))
  have B0 := Lib.hid (Below.then' (bel_al2 w (.cells #[.int .i64 (r : Int), .int .i64 (c : Int)] 34) (.cells #[.int .i64 0, .int .i64 0] 34)) (bel_al1 _ (.cells #[.int .i64 (r : Int), .int .i64 (c : Int)] 34)))
  have S := Lib.hid h
  clear h hD
  go_enter Try.func60, Try.ntmps60
  obtain ⟨c0, c1⟩ := (HBIntA2.new w ⟨(r : Int), (c : Int)⟩ _ rfl).cells
  go_wp2_with fail
  refine (squaresBeside_any _ _ _ D r c _ (S.out.below B0.out) HD.out hr hc).mono ?_
  rintro e w1 ⟨v, rfl, hown, hb⟩
  clear c0 c1
  have Y3 := Lib.hid (Z3.out.below hb)
  have Y4 := Lib.hid (Z4.out.below hb)
  have Y6 := Lib.hid (Z6.out.below hb)
  have B1 := Lib.hid (Below.then' B0.out hb)
  have O1 := Lib.hid (hown.base (base' := w.heap.size + 3) (by simp))
  have hs1 : w.heap.size + 3 ≤ w1.heap.size := by have := hb.size; simp at this; omega
  obtain ⟨a4, c4, rfl, _⟩ := hown.is
  have NL := Lib.hid (show (nextSq D (r, c)) = (nears D (r, c)).foldl (lowerOf D) (r, c) from rfl)
  have hln := nears_len D (r, c)
  clear hown hb
  have HN := Lib.hid (fun (k : Nat) (q : Sq) (hq : (nears D (r, c))[k]? = some q) => nears_in HP.out (List.mem_of_getElem? hq))
  have HF := Lib.hid (fun k : Nat => fold_in HP.out k)
  obtain ⟨N, hN⟩ : ∃ N, nears D (r, c) = N := ⟨_, rfl⟩
  rw [hN] at O1 NL hln HN HF ⊢
  clear hN
  go_wp2
  go_loopw [14] (fun i wr => ∃ k : Nat, k ≤ N.length ∧ i = .int .i64 k ∧ HBIntA2 wr w.heap.size ⟨(r : Int), (c : Int)⟩ ∧ HBIntA2 wr (w.heap.size + 1) ⟨0, 0⟩ ∧ HBIntA2 wr (w.heap.size + 2) (vsq ((N.take k).foldl (lowerOf D) (r, c))) ∧ SqRow (w.heap.size + 3) wr (.slice a4 N.length c4) N ∧ Below w.heap.size w wr) (fun i _ => N.length - (intOf i).toNat)
  case atStart => exact ⟨0, Nat.zero_le _, rfl, Y3.out, Y4.out, Y6.out, O1.out, B1.out⟩
  case round =>
    obtain ⟨k, hk, rfl, h3, h4, h6, hown, hbel⟩ := hrel
    have B := Lib.hid hbel
    have O := Lib.hid hown
    have X3 := Lib.hid h3
    have X4 := Lib.hid h4
    have X6 := Lib.hid h6
    by_cases hlt : k < N.length
    · obtain ⟨q, hq⟩ : ∃ q, N[k]? = some q := ⟨N[k]'hlt, List.getElem?_eq_getElem _⟩
      obtain ⟨b, o, rfl, hb, hat⟩ := hown.isAt.2.at (by omega)
      obtain ⟨d0, d1⟩ := hat k (vsq q) (sqV_at hq)
      have QI := HN.out k q hq
      have BI := HF.out k
      have FM := Lib.hid (fold_more (lowerOf D) (r, c) hq)
      obtain ⟨m, hm'⟩ : ∃ m, (N.take k).foldl (lowerOf D) (r, c) = m := ⟨_, rfl⟩
      rw [hm'] at X6 h6 BI FM
      obtain ⟨x, y⟩ := q
      obtain ⟨mx, my⟩ := m
      simp only [vsq] at d0 d1
      have QX := QI.1
      have QY := QI.2
      have MX := BI.1
      have MY := BI.2
      simp only [] at QX QY MX MY
      have hc4 := hown.isAt.2.2.1
      have hc5 := hown.isAt.2.2.2.1
      unfold maxLen at hc5
      have j0 : (0 : Int) ≤ (k : Int) := by omega
      have j1 : (k : Int) < (N.length : Int) := by omega
      have ba := bel_al1 wr (.cells #[.int .i64 (x : Int), .int .i64 (y : Int)] 34)
      have B2 := Lib.hid (Below.then' B.out ba)
      have S2 := Lib.hid (S.out.below B2.out)
      obtain ⟨e0, e1⟩ := (h6.below ba).cells
      obtain ⟨f0, f1⟩ := BoxIntA2.new wr 34 ⟨(x : Int), (y : Int)⟩ _ rfl
      simp only [vsq] at e0 e1 f0 f1
      have A3 := Lib.hid (h3.below ba)
      have A4 := Lib.hid (h4.below ba)
      have A6 := Lib.hid (h6.below ba)
      have AO := Lib.hid (hown.below ba)
      have k0 := cell_regrown e0
      have k1 := cell_regrown e1
      have k2 := cell_regrown f0
      have k3 := cell_regrown f1
      have cQ := below_at (W := wr.alloc (.cells #[.int .i64 (x : Int), .int .i64 (y : Int)] 34)) (fun W' hW => heightOf_any _ _ _ D x y W' (S2.out.below hW) HD.out QX QY)
      have cM := below_at (W := wr.alloc (.cells #[.int .i64 (x : Int), .int .i64 (y : Int)] 34)) (fun W' hW => heightOf_any _ _ _ D mx my W' (S2.out.below hW) HD.out MX MY)
      clear h3 h4 h6 hown hbel hat hq hm' ba e0 e1 f0 f1 QI BI
      go_wp2
      refine wp_region_quiet_below (by kernel_rfl) (by kernel_rfl) ?_
      repeat (first | go_big_quiet_step (first | (with_reducible exact cQ _ _) | (with_reducible exact cM _ _)) | quiet_step (first | (with_reducible exact cQ _ _) | (with_reducible exact cM _ _)))
      refine wpQuiet_nil ?_
      intro W2 hw2
      have bw := below_of_re hw2
      have V3 := Lib.hid (A3.out.below bw)
      have V4 := Lib.hid (A4.out.below bw)
      have V6 := Lib.hid (A6.out.below bw)
      have VO := Lib.hid (AO.out.below bw)
      have VB := Lib.hid (Below.then' B2.out bw)
      have V8 := (HBIntA2.new wr ⟨(x : Int), (y : Int)⟩ _ rfl).below bw
      have hne : wr.heap.size ≠ w.heap.size + 2 := by have := X6.out.lt; omega
      clear hw2 cQ cM k0 k1 k2 k3 d0 d1 bw
      by_cases hlo : hA D (x, y) < hA D (mx, my)
      · have dl : decide (hA D (x, y) < hA D (mx, my)) = true := decide_eq_true hlo
        have FX := Lib.hid (show (N.take (k + 1)).foldl (lowerOf D) (r, c) = (x, y) from by rw [FM.out]; unfold lowerOf; rw [if_pos hlo])
        obtain ⟨g0, g1⟩ := V8.cells
        obtain ⟨p0, p1⟩ := V6.out.cells
        have q0 := V6.out.free 0
        have q1 := V6.out.free 1
        have hgr : W2.grownBy ((W2.setCell ⟨w.heap.size + 2, 0, none⟩ (.int .i64 (x : Int))).setCell ⟨w.heap.size + 2, 1, none⟩ (.int .i64 (y : Int))) (some (w.heap.size + 2)) := grown_trans (grown_set _ _ _ _) (grown_set _ _ _ _)
        have HG := Lib.hid hgr
        simp only [] at g0 g1
        clear hlo hgr
        rw [dl]
        go_wp2
        go_roundw
        case rel =>
          refine ⟨k + 1, by omega, by go_num, V3.out.otherAll (by omega) _ _, V4.out.otherAll (by omega) _ _, ?_, VO.out.grown HG.out (fun k e => by cases e; omega), VB.out.grown HG.out VB.out.size (fun j e => by cases e; omega)⟩
          rw [FX.out]
          exact V6.out.setAll (vsq (x, y))
        case measure => simp [intOf]; omega
      · have dl : decide (hA D (x, y) < hA D (mx, my)) = false := decide_eq_false hlo
        have FX := Lib.hid (show (N.take (k + 1)).foldl (lowerOf D) (r, c) = (mx, my) from by rw [FM.out]; unfold lowerOf; rw [if_neg hlo])
        clear hlo V8
        rw [dl]
        go_wp2
        go_roundw
        case rel => exact ⟨k + 1, by omega, by go_num, V3.out, V4.out, by rw [FX.out]; exact V6.out, VO.out, VB.out⟩
        case measure => simp [intOf]; omega
    · obtain rfl : k = N.length := by omega
      have E := List.take_of_length_le (Nat.le_refl N.length)
      rw [E, ← NL.out] at X6
      have NI := next_in HP.out
      obtain ⟨m, hm'⟩ : ∃ m, nextSq D (r, c) = m := ⟨_, rfl⟩
      have SE := Lib.hid (sq_eq m (r, c))
      rw [hm'] at X6
      have M := Lib.hid hm'
      obtain ⟨mx, my⟩ := m
      obtain ⟨e0, e1⟩ := X6.out.cells
      obtain ⟨f0, f1⟩ := X3.out.cells
      obtain ⟨g0, g1⟩ := X4.out.cells
      have q0 := X4.out.free 0
      have q1 := X4.out.free 1
      simp only [vsq] at e0 e1 f0 f1
      have ZW := Lib.hid (X4.out.setAll ⟨(mx : Int), (my : Int)⟩)
      have heq : ∀ W : World, (binOp .neq 34 (.agg #[.int .i64 (mx : Int), .int .i64 (my : Int)]) (.agg #[.int .i64 (r : Int), .int .i64 (c : Int)])).run Try.prog W = .ok (.bool (!((mx, my) == (r, c)))) W := fun W => by rw [eqA2, ← SE.out]
      clear h3 h4 h6 hown hbel E NI hm'
      go_wp2
      go_region
      all_goals go_wp2
      all_goals refine bodyPost_ret (resultsIntA22 rfl rfl rfl (show HBIntA2 _ _ _ from ZW.out.drew)) rfl ⟨by rw [M.out]; rfl, ?_⟩
      all_goals exact bel_drew' ((B.out.setCell (by simp) _).setCell (by simp) _)
end Go.Proofs.Ytodjgeffkfbpiaa
