/- Reliefs in the model: NextSquare, runFrom, RunOff. -/
import Derived.Test.YtodjgeffkfbpiaaWs3
import Derived.Test.YtodjgeffkfbpiaaNextSquareP
import Derived.Test.YtodjgeffkfbpiaaRunOffP
import Derived.Deep.LoopGhost
namespace Go.Proofs.Ytodjgeffkfbpiaa
open Go.RowKit

theorem made_OwnA2 (w : World) (lo : Nat) (h : lo ≤ w.heap.size) : OwnIntA2S lo (w.alloc (.cells #[] 34)).heap.size (w.alloc (.cells #[] 34)) (.slice (some ⟨w.heap.size, 0, none⟩) 0 0) [] :=
  OwnIn.of_row (made_ownIntA2 w w.heap.size (Nat.le_refl _)) h (Nat.le_refl _)
set_option maxHeartbeats 6400000 in
set_option maxRecDepth 100000 in
theorem specNextSquare_any (a : Option Addr) (len cap : Nat) (D : List VIntS) (r c : Int) (w : World) (h : IsIntSS w a len cap D) (_ : condIntS D) :
    Calls Try.prog 32 #[.slice a len cap, .int .i64 r, .int .i64 c] w (NextSquare_Post D r c w) := by
  have S := Lib.hid h
  clear h
  obtain ⟨q, hq⟩ : ∃ q, hasB D r c = q := ⟨_, rfl⟩
  have Q := Lib.hid hq
  clear hq
  go_enter Try.func32, Try.ntmps32
  go_wp2_with fail
  refine (l9Square_any _ _ _ D r c _ S.out).mono ?_
  rintro e w1 ⟨rfl, hb⟩
  rw [Q.out]
  have B1 := Lib.hid hb
  have S1 := Lib.hid (S.out.below hb)
  clear hb
  cases q
  · have F := Lib.hid (show runsB D r c = false from by unfold runsB; rw [Q.out]; rfl)
    have P := Lib.hid (show NextSquare_0 D r c = 0 ∧ NextSquare_1 D r c = 0 ∧ NextSquare_2 D r c = false from by unfold NextSquare_0 NextSquare_1 NextSquare_2; rw [F.out]; exact ⟨rfl, rfl, rfl⟩)
    go_wp2
    go_ret3
    exact ⟨by rw [P.out.1, P.out.2.1, P.out.2.2]; rfl, B1.out⟩
  obtain ⟨hD, p, hp, e1, e2⟩ := hasB_yes Q.out
  subst e1
  subst e2
  have SZ := Lib.hid (sqZ_nat p)
  obtain ⟨x, y⟩ := p
  obtain ⟨hx, hy⟩ := hp
  simp only [] at SZ Q hx hy ⊢
  obtain ⟨q, hq⟩ : ∃ q, (nextSq D (x, y) == (x, y)) = q := ⟨_, rfl⟩
  have F := Lib.hid (show runsB D (x : Int) (y : Int) = !q from by unfold runsB; rw [Q.out, SZ.out, hq]; rfl)
  have P := Lib.hid (show NextSquare_0 D (x : Int) (y : Int) = (if (!q) = true then ((nextSq D (x, y)).1 : Int) else 0) ∧ NextSquare_1 D (x : Int) (y : Int) = (if (!q) = true then ((nextSq D (x, y)).2 : Int) else 0) ∧ NextSquare_2 D (x : Int) (y : Int) = !q from by unfold NextSquare_0 NextSquare_1 NextSquare_2; rw [F.out, SZ.out]; exact ⟨rfl, rfl, rfl⟩)
  have HQ := Lib.hid hq
  clear hq
  go_wp2_with fail
  refine (l9Next_any _ _ _ D x y _ S1.out hD hx hy).mono ?_
  rintro e w2 ⟨rfl, hb⟩
  rw [HQ.out]
  have B2 := Lib.hid (Below.then' B1.out hb)
  obtain ⟨m, hm⟩ : ∃ m, nextSq D (x, y) = m := ⟨_, rfl⟩
  rw [hm] at P ⊢
  obtain ⟨mx, my⟩ := m
  simp only [] at P ⊢
  have B3 := Lib.hid (Below.then' B2.out (bel_al1 w2 (.cells #[.int .i64 (mx : Int), .int .i64 (my : Int)] 34)))
  obtain ⟨c0, c1⟩ := BoxIntA2.new w2 34 ⟨(mx : Int), (my : Int)⟩ _ rfl
  simp only [] at c0 c1
  clear hb hm
  cases q
  · go_wp2
    go_quiet (fail)
    go_wp2
    go_ret3
    exact ⟨by rw [P.out.1, P.out.2.1, P.out.2.2]; rfl, Below.then' B3.out (bel_drawn _ _)⟩
  · go_wp2
    go_ret3
    exact ⟨by rw [P.out.1, P.out.2.1, P.out.2.2]; rfl, B3.out⟩
set_option maxHeartbeats 12800000 in
set_option maxRecDepth 100000 in
theorem l9Run_any (a : Option Addr) (len cap : Nat) (D : List VIntS) (r c : Nat) (w : World) (h : IsIntSS w a len cap D) (hD : RL D) (hr : r < D.length) (hc : c < colsN D) :
    Calls Try.prog 57 #[.slice a len cap, .agg #[.int .i64 (r : Int), .int .i64 (c : Int)]] w (SqPost (runOf D (r, c)) w) := by
  have HD := Lib.hid hD
  obtain ⟨i0, hi, hz0, hz1, hz2⟩ := info_parts infoIntA2
  have RL0 := Lib.hid (runOf_len hD (p := (r, c)) ⟨hr, hc⟩)
  have B0 := Lib.hid (bel_al2 w (.cells #[.int .i64 (r : Int), .int .i64 (c : Int)] 34) (.cells #[.int .i64 (r : Int), .int .i64 (c : Int)] 34))
  have S := Lib.hid h
  have O0' := lit_one (w.alloc (.cells #[.int .i64 (r : Int), .int .i64 (c : Int)] 34)) r c w.heap.size (by simp)
  rw [size_al] at O0'
  have O0 := Lib.hid O0'
  clear O0'
  obtain ⟨c0, c1⟩ := (BoxIntA2.new w 34 ⟨(r : Int), (c : Int)⟩ _ rfl)
  obtain ⟨d0, d1⟩ := (BoxIntA2.new w 34 ⟨(r : Int), (c : Int)⟩ _ rfl).below (bel_al1 _ (.cells #[.int .i64 (r : Int), .int .i64 (c : Int)] 34))
  simp only [] at c0 c1 d0 d1
  clear h hD
  go_enter Try.func57, Try.ntmps57
  go_wp2_with fail
  refine (l9Next_any _ _ _ D r c _ (S.out.below B0.out) HD.out hr hc).mono ?_
  rintro e w1 ⟨rfl, hb⟩
  have B1 := Lib.hid (Below.then' B0.out hb)
  have O1 := Lib.hid (O0.out.below hb)
  have hs1 : w.heap.size + 1 < w1.heap.size := by have := hb.size; simp at this; omega
  have X1 := Lib.hid (HBIntA2.new w1 (vsq (nextSq D (r, c))) _ rfl)
  have B2 := Lib.hid (Below.then' B1.out (bel_al1 w1 (.cells #[.int .i64 ((nextSq D (r, c)).1 : Int), .int .i64 ((nextSq D (r, c)).2 : Int)] 34)))
  have O2 := Lib.hid (O1.out.below (bel_al1 w1 (.cells #[.int .i64 ((nextSq D (r, c)).1 : Int), .int .i64 ((nextSq D (r, c)).2 : Int)] 34)))
  have IN := Lib.hid (show inR D (r, c) from ⟨hr, hc⟩)
  have ST := Lib.hid (show runOf D (r, c) = [(r, c)] ++ (runOf D (r, c)).tail from by rw [runOf_step HD.out ⟨hr, hc⟩]; rfl)
  clear hb c0 c1 d0 d1
  go_wp2
  go_loopg [5, 6, 7] ((hA D (r, c)).toNat) (fun g o p t wr => ∃ (G : List Sq) (cur : Sq) (b : Nat), inR D cur ∧ (hA D cur).toNat = g ∧ runOf D (r, c) = G ++ (runOf D cur).tail ∧ p = .pointer (some ⟨b, 0, none⟩) ∧ t = .bool (!(nextSq D cur == cur)) ∧ HBIntA2 wr b (vsq (nextSq D cur)) ∧ SqRow w.heap.size wr o G ∧ (∀ q, o.ownBlock = some q → q < b) ∧ w.heap.size ≤ b ∧ Below w.heap.size w wr)
  case atStart =>
    refine ⟨[(r, c)], (r, c), w1.heap.size, IN.out, rfl, ST.out, rfl, rfl, X1.out, O2.out, fun q e => ?_, by omega, B2.out⟩
    simp [Value.ownBlock] at e
    omega
  case round =>
    obtain ⟨G, cur, b, hin, hg, hru, rfl, rfl, hx, hown, hne, hlb, hbel⟩ := hrel
    have B := Lib.hid hbel
    have O := Lib.hid hown
    have X := Lib.hid hx
    have HI := Lib.hid hin
    have RU := Lib.hid hru
    have NE := Lib.hid hne
    have HG := Lib.hid hg
    clear hg hne
    by_cases hq : nextSq D cur = cur
    · have dq : (!(nextSq D cur == cur)) = false := by simp [hq]
      have E := Lib.hid (show runOf D (r, c) = G from by rw [hru, runOf_step HD.out hin, if_pos hq]; simp)
      clear hx hown hbel hru hin hq
      rw [dq]
      go_wp2
      go_ret
      exact ⟨_, rfl, by rw [E.out]; exact O.out, B.out⟩
    · have dq : (!(nextSq D cur == cur)) = true := by simp [hq]
      have LT := next_lt hq
      have NI := Lib.hid (next_in hin)
      have hge : 0 ≤ hA D (nextSq D cur) := by obtain ⟨_, _, _, _, h0, _⟩ := HD.out.at NI.out; exact h0
      have E := Lib.hid (show runOf D (r, c) = (G ++ [nextSq D cur]) ++ (runOf D (nextSq D cur)).tail from by
        rw [hru, runOf_step HD.out hin, if_neg hq, List.tail_cons, List.append_assoc]
        congr 1
        rw [runOf_step HD.out NI.out]; rfl)
      have hgl : G.length ≤ 10000 := by have := RL0.out; rw [hru, List.length_append] at this; omega
      rw [dq]
      clear hru hq dq
      obtain ⟨m, hm⟩ : ∃ m, nextSq D cur = m := ⟨_, rfl⟩
      rw [hm] at NI E X hx LT hge
      clear hm
      obtain ⟨mx, my⟩ := m
      obtain ⟨f0, f1⟩ := hx.cells
      simp only [vsq] at f0 f1
      have hs3 := B.out.size
      have ba := bel_al1 wr (.cells #[.int .i64 (mx : Int), .int .i64 (my : Int)] 34)
      have X2 := Lib.hid (X.out.below ba)
      have hown3 := World.ownsRow.alloc hown (.cells #[.int .i64 (mx : Int), .int .i64 (my : Int)] 34)
      clear hown hbel hx ba
      go_wp2_with (at_builtin; refine wpList_append_own _ rfl _ _ 27 rfl w.heap.size 34 i0 (.agg #[.int .i64 0, .int .i64 0]) 2 16 Try.underlying27 hi hz0 hz1 hz2 rfl (by decide) _ _ _ rfl hown3 ⟨wr.heap.size, 0, none⟩ 1 1 (VIntA2.vals (vsq (mx, my))) rfl rfl (cell_IntA2 _ (vsq (mx, my)) _) (VIntA2.vals_one _) (by unfold maxLen; omega) (by omega) (by simp; omega) ?_; intro v' w4 hown' hgrow4 _; have X4 := X2.out.grown hgrow4 (fun e => by have := NE.out b e.symm; omega); obtain ⟨p0, p1⟩ := X4.cells; simp only [vsq] at p0 p1; clear X4)
      have B4 := Lib.hid ((Below.then' B.out (bel_al1 _ _)).grown hgrow4 (by simp; omega) (fun q e => (hown3.lt q e).1))
      have O4 := Lib.hid (show SqRow w.heap.size w4 v' (G ++ [(mx, my)]) from by
        unfold SqRow
        rw [sqV_snoc, cellsIntA2_snoc, List.length_append]
        exact hown')
      have hl4 : ∀ q, v'.ownBlock = some q → q < w4.heap.size := fun q e => (hown'.lt q e).2
      have HL := Lib.hid hl4
      have hs4 := B4.out.size
      have B5 := Lib.hid (Below.then' B4.out (bel_al1 w4 (.cells #[.int .i64 (mx : Int), .int .i64 (my : Int)] 34)))
      have O5 := Lib.hid (O4.out.below (bel_al1 w4 (.cells #[.int .i64 (mx : Int), .int .i64 (my : Int)] 34)))
      have X5 := Lib.hid (HBIntA2.new w4 ⟨(mx : Int), (my : Int)⟩ _ rfl)
      clear hown3 hown' hgrow4 p0 p1 hl4
      refine (l9Next_any _ _ _ D mx my _ (S.out.below B5.out) HD.out NI.out.1 NI.out.2).mono ?_
      rintro e w6 ⟨rfl, hb⟩
      have B6 := Lib.hid (Below.then' B5.out hb)
      have O6 := Lib.hid (O5.out.below hb)
      have X6 := Lib.hid (X5.out.below hb)
      obtain ⟨e0, e1⟩ := X6.out.cells
      have q0 := X6.out.free 0
      have q1 := X6.out.free 1
      simp only [] at e0 e1
      have hz : w4.heap.size < w6.heap.size := by have := hb.size; simp at this; omega
      clear hb
      obtain ⟨n, hn⟩ : ∃ n, nextSq D (mx, my) = n := ⟨_, rfl⟩
      have NN := Lib.hid hn
      rw [hn]
      obtain ⟨nx, ny⟩ := n
      clear hn
      have HGR := Lib.hid (show w6.grownBy ((w6.setCell ⟨w4.heap.size, 0, none⟩ (.int .i64 (nx : Int))).setCell ⟨w4.heap.size, 1, none⟩ (.int .i64 (ny : Int))) (some w4.heap.size) from grown_trans (grown_set _ _ _ _) (grown_set _ _ _ _))
      go_wp2
      go_roundg ((hA D (mx, my)).toNat)
      case rel =>
        refine ⟨G ++ [(mx, my)], (mx, my), w4.heap.size, NI.out, rfl, E.out, rfl, by rw [NN.out], by rw [NN.out]; exact X6.out.setAll (vsq (nx, ny)), ?_, HL.out, by omega, B6.out.grown HGR.out B6.out.size (fun j e => by cases e; omega)⟩
        exact World.ownsRow.kept O6.out HGR.out (by
          cases hv : v'.ownBlock with
          | none => exact .inl rfl
          | some q => exact .inr (by simp only [ne_eq, Option.some.injEq]; have := HL.out q hv; omega))
      case measure => have := HG.out; omega
set_option maxHeartbeats 6400000 in
set_option maxRecDepth 100000 in
theorem specRunOff_any (a : Option Addr) (len cap : Nat) (D : List VIntS) (r c : Int) (w : World) (h : IsIntSS w a len cap D) (_ : condIntS D) :
    Calls Try.prog 18 #[.slice a len cap, .int .i64 r, .int .i64 c] w (RunOff_Post D r c w) := by
  have S := Lib.hid h
  clear h
  obtain ⟨q, hq⟩ : ∃ q, hasB D r c = q := ⟨_, rfl⟩
  have Q := Lib.hid hq
  clear hq
  go_enter Try.func18, Try.ntmps18
  go_wp2_with fail
  refine (l9Square_any _ _ _ D r c _ S.out).mono ?_
  rintro e w1 ⟨rfl, hb⟩
  rw [Q.out]
  have B1 := Lib.hid hb
  have S1 := Lib.hid (S.out.below hb)
  clear hb
  cases q
  · have P0 := Lib.hid (show RunOff_0 D r c = [] from by unfold RunOff_0; rw [Q.out]; rfl)
    go_wp2
    go_ret2
    exact ⟨_, by rw [show RunOff_1 D r c = false from Q.out]; rfl, by rw [P0.out]; exact made_OwnA2 w1 w.heap.size B1.out.size, Below.then' B1.out (bel_al1 _ _)⟩
  obtain ⟨hD, p, hp, e1, e2⟩ := hasB_yes Q.out
  subst e1
  subst e2
  have SZ := Lib.hid (sqZ_nat p)
  obtain ⟨x, y⟩ := p
  obtain ⟨hx, hy⟩ := hp
  simp only [] at SZ Q hx hy ⊢
  have P0 := Lib.hid (show RunOff_0 D (x : Int) (y : Int) = sqV (runOf D (x, y)) from by unfold RunOff_0; rw [Q.out, SZ.out, if_pos rfl]; rfl)
  go_wp2_with fail
  refine (l9Run_any _ _ _ D x y _ S1.out hD hx hy).mono ?_
  rintro e w2 ⟨v, rfl, hown, hb⟩
  have B2 := Lib.hid (Below.then' B1.out hb)
  have O2 := Lib.hid hown
  have hs := B1.out.size
  clear hown hb
  go_wp2
  go_ret2
  exact ⟨_, by rw [show RunOff_1 D (x : Int) (y : Int) = true from Q.out]; rfl, by rw [P0.out]; exact O2.out.ownS (by omega) (Nat.le_refl _), B2.out⟩
end Go.Proofs.Ytodjgeffkfbpiaa
