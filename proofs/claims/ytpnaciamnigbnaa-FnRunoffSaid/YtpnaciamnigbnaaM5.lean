/- Texts in one: NextSquareP, RunOffP, Wi6, Wh, Spl, IntA2Del, IntA2L, Pick. -/
import Derived.Test.YtpnaciamnigbnaaM3
import Derived.Test.YtpnaciamnigbnaaM4
import Derived.Deep.LoopGhost
import Derived.Test.YtpnaciamnigbnaaM2
import Derived.Laws.IdiomCopy
import Derived.Laws.OwnMore
import Derived.Lib.SliceRun
namespace Go.Proofs.Ytpnaciamnigbnaa
open Go.RowKit
def NextSquare_Post (z0 : List VIntS) (z1 : Int) (z2 : Int) (w : World) (e : Ending) (w' : World) : Prop :=
  e = .returned (.tuple #[.int .i64 (NextSquare_0 z0 z1 z2), .int .i64 (NextSquare_1 z0 z1 z2), .bool (NextSquare_2 z0 z1 z2)]) ∧ Below w.heap.size w w'
end Go.Proofs.Ytpnaciamnigbnaa
namespace Go.Proofs.Ytpnaciamnigbnaa
open Go.RowKit
def RunOff_Post (z0 : List VIntS) (z1 : Int) (z2 : Int) (w : World) (e : Ending) (w' : World) : Prop :=
  ∃ v0 : Value, e = .returned (.tuple #[v0, .bool (RunOff_1 z0 z1 z2)]) ∧ OwnIntA2S w.heap.size w'.heap.size w' v0 (RunOff_0 z0 z1 z2) ∧ Below w.heap.size w w'
end Go.Proofs.Ytpnaciamnigbnaa
namespace Go.Proofs.Ytpnaciamnigbnaa
open Go.RowKit

set_option maxHeartbeats 6400000 in
set_option maxRecDepth 100000 in
theorem implNextSquare_any (a : Option Addr) (len cap : Nat) (D : List VIntS) (r c : Int) (w : World) (h : IsIntSS w a len cap D) :
    Calls Try.prog 23 #[.slice a len cap, .int .i64 r, .int .i64 c] w (NextSquare_Post D r c w) := by
  have S := Lib.hid h
  clear h
  obtain ⟨q, hq⟩ : ∃ q, hasB D r c = q := ⟨_, rfl⟩
  have Q := Lib.hid hq
  clear hq
  go_enter Try.func23, Try.ntmps23
  go_wp2_with fail
  refine (isReliefWith_any _ _ _ D r c _ S.out).mono ?_
  rintro e w1 ⟨rfl, hb⟩
  rw [Q.out]
  have B1 := Lib.hid hb
  have S1 := Lib.hid (S.out.below hb)
  clear hb
  cases q
  · have F := Lib.hid (show runsB D r c = false from by unfold runsB; rw [Q.out]; rfl)
    have P := Lib.hid (show NextSquare_0 D r c = 0 ∧ NextSquare_1 D r c = 0 ∧ NextSquare_2 D r c = false from by unfold NextSquare_0 NextSquare_1 NextSquare_2; rw [F.out]; exact ⟨rfl, rfl, rfl⟩)
    go_wp2
    go_ret3
    exact ⟨by rw [P.out.1, P.out.2.1, P.out.2.2]; rfl, B1.out⟩
  obtain ⟨hD, p, hp, e1, e2⟩ := hasB_yes Q.out
  subst e1
  subst e2
  have SZ := Lib.hid (sqZ_nat p)
  obtain ⟨x, y⟩ := p
  obtain ⟨hx, hy⟩ := hp
  simp only [] at SZ Q hx hy ⊢
  obtain ⟨q, hq⟩ : ∃ q, (nextSq D (x, y) == (x, y)) = q := ⟨_, rfl⟩
  have F := Lib.hid (show runsB D (x : Int) (y : Int) = !q from by unfold runsB; rw [Q.out, SZ.out, hq]; rfl)
  have P := Lib.hid (show NextSquare_0 D (x : Int) (y : Int) = (if (!q) = true then ((nextSq D (x, y)).1 : Int) else 0) ∧ NextSquare_1 D (x : Int) (y : Int) = (if (!q) = true then ((nextSq D (x, y)).2 : Int) else 0) ∧ NextSquare_2 D (x : Int) (y : Int) = !q from by unfold NextSquare_0 NextSquare_1 NextSquare_2; rw [F.out, SZ.out]; exact ⟨rfl, rfl, rfl⟩)
  have HQ := Lib.hid hq
  clear hq
  go_wp2_with fail
  refine (nextSquare_any _ _ _ D x y _ S1.out hD hx hy).mono ?_
  rintro e w2 ⟨rfl, hb⟩
  rw [HQ.out]
  have B2 := Lib.hid (Below.then' B1.out hb)
  obtain ⟨m, hm⟩ : ∃ m, nextSq D (x, y) = m := ⟨_, rfl⟩
  rw [hm] at P ⊢
  obtain ⟨mx, my⟩ := m
  simp only [] at P ⊢
  have B3 := Lib.hid (Below.then' B2.out (bel_al1 w2 (.cells #[.int .i64 (mx : Int), .int .i64 (my : Int)] 34)))
  obtain ⟨c0, c1⟩ := BoxIntA2.new w2 34 ⟨(mx : Int), (my : Int)⟩ _ rfl
  simp only [] at c0 c1
  clear hb hm
  cases q
  · go_wp2
    go_quiet (fail)
    go_wp2
    go_ret3
    exact ⟨by rw [P.out.1, P.out.2.1, P.out.2.2]; rfl, Below.then' B3.out (bel_drawn _ _)⟩
  · go_wp2
    go_ret3
    exact ⟨by rw [P.out.1, P.out.2.1, P.out.2.2]; rfl, B3.out⟩
theorem lit_one (w : World) (x y : Nat) (base : Nat) (hb : base ≤ w.heap.size) : SqRow base (w.alloc (.cells #[.int .i64 (x : Int), .int .i64 (y : Int)] 34)) (.slice (some ⟨w.heap.size, 0, none⟩) 1 1) [(x, y)] :=
  World.ownsRow_lit (e := 34) (size := 2) w #[.int .i64 (x : Int), .int .i64 (y : Int)] 1 hb (by simp [maxLen]) rfl
set_option maxHeartbeats 12800000 in
set_option maxRecDepth 100000 in
theorem runFrom_any (a : Option Addr) (len cap : Nat) (D : List VIntS) (r c : Nat) (w : World) (h : IsIntSS w a len cap D) (hD : RL D) (hr : r < D.length) (hc : c < colsN D) :
    Calls Try.prog 81 #[.slice a len cap, .agg #[.int .i64 (r : Int), .int .i64 (c : Int)]] w (SqPost (runOf D (r, c)) w) := by
  have HD := Lib.hid hD
  obtain ⟨i0, hi, hz0, hz1, hz2⟩ := info_parts infoIntA2
  have RL0 := Lib.hid (runOf_len hD (p := (r, c)) ⟨hr, hc⟩)
  have B0 := Lib.hid (bel_al2 w (.cells #[.int .i64 (r : Int), .int .i64 (c : Int)] 34) (.cells #[.int .i64 (r : Int), .int .i64 (c : Int)] 34))
  have S := Lib.hid h
  have O0' := lit_one (w.alloc (.cells #[.int .i64 (r : Int), .int .i64 (c : Int)] 34)) r c w.heap.size (by simp)
  rw [size_al] at O0'
  have O0 := Lib.hid O0'
  clear O0'
  obtain ⟨c0, c1⟩ := (BoxIntA2.new w 34 ⟨(r : Int), (c : Int)⟩ _ rfl)
  obtain ⟨d0, d1⟩ := (BoxIntA2.new w 34 ⟨(r : Int), (c : Int)⟩ _ rfl).below (bel_al1 _ (.cells #[.int .i64 (r : Int), .int .i64 (c : Int)] 34))
  simp only [] at c0 c1 d0 d1
  clear h hD
  go_enter Try.func81, Try.ntmps81
  go_wp2_with fail
  refine (nextSquare_any _ _ _ D r c _ (S.out.below B0.out) HD.out hr hc).mono ?_
  rintro e w1 ⟨rfl, hb⟩
  have B1 := Lib.hid (Below.then' B0.out hb)
  have O1 := Lib.hid (O0.out.below hb)
  have hs1 : w.heap.size + 1 < w1.heap.size := by have := hb.size; simp at this; omega
  have X1 := Lib.hid (HBIntA2.new w1 (vsq (nextSq D (r, c))) _ rfl)
  have B2 := Lib.hid (Below.then' B1.out (bel_al1 w1 (.cells #[.int .i64 ((nextSq D (r, c)).1 : Int), .int .i64 ((nextSq D (r, c)).2 : Int)] 34)))
  have O2 := Lib.hid (O1.out.below (bel_al1 w1 (.cells #[.int .i64 ((nextSq D (r, c)).1 : Int), .int .i64 ((nextSq D (r, c)).2 : Int)] 34)))
  have IN := Lib.hid (show inR D (r, c) from ⟨hr, hc⟩)
  have ST := Lib.hid (show runOf D (r, c) = [(r, c)] ++ (runOf D (r, c)).tail from by rw [runOf_step HD.out ⟨hr, hc⟩]; rfl)
  clear hb c0 c1 d0 d1
  go_wp2
  go_loopg [5, 6, 7] ((hA D (r, c)).toNat) (fun g o p t wr => ∃ (G : List Sq) (cur : Sq) (b : Nat), inR D cur ∧ (hA D cur).toNat = g ∧ runOf D (r, c) = G ++ (runOf D cur).tail ∧ p = .pointer (some ⟨b, 0, none⟩) ∧ t = .bool (!(nextSq D cur == cur)) ∧ HBIntA2 wr b (vsq (nextSq D cur)) ∧ SqRow w.heap.size wr o G ∧ (∀ q, o.ownBlock = some q → q < b) ∧ w.heap.size ≤ b ∧ Below w.heap.size w wr)
  case atStart =>
    refine ⟨[(r, c)], (r, c), w1.heap.size, IN.out, rfl, ST.out, rfl, rfl, X1.out, O2.out, fun q e => ?_, by omega, B2.out⟩
    simp [Value.ownBlock] at e
    omega
  case round =>
    obtain ⟨G, cur, b, hin, hg, hru, rfl, rfl, hx, hown, hne, hlb, hbel⟩ := hrel
    have B := Lib.hid hbel
    have O := Lib.hid hown
    have X := Lib.hid hx
    have HI := Lib.hid hin
    have RU := Lib.hid hru
    have NE := Lib.hid hne
    have HG := Lib.hid hg
    clear hg hne
    by_cases hq : nextSq D cur = cur
    · have dq : (!(nextSq D cur == cur)) = false := by simp [hq]
      have E := Lib.hid (show runOf D (r, c) = G from by rw [hru, runOf_step HD.out hin, if_pos hq]; simp)
      clear hx hown hbel hru hin hq
      rw [dq]
      go_wp2
      go_ret
      exact ⟨_, rfl, by rw [E.out]; exact O.out, B.out⟩
    · have dq : (!(nextSq D cur == cur)) = true := by simp [hq]
      have LT := next_lt hq
      have NI := Lib.hid (next_in hin)
      have hge : 0 ≤ hA D (nextSq D cur) := by obtain ⟨_, _, _, _, h0, _⟩ := HD.out.at NI.out; exact h0
      have E := Lib.hid (show runOf D (r, c) = (G ++ [nextSq D cur]) ++ (runOf D (nextSq D cur)).tail from by
        rw [hru, runOf_step HD.out hin, if_neg hq, List.tail_cons, List.append_assoc]
        congr 1
        rw [runOf_step HD.out NI.out]; rfl)
      have hgl : G.length ≤ 10000 := by have := RL0.out; rw [hru, List.length_append] at this; omega
      rw [dq]
      clear hru hq dq
      obtain ⟨m, hm⟩ : ∃ m, nextSq D cur = m := ⟨_, rfl⟩
      rw [hm] at NI E X hx LT hge
      clear hm
      obtain ⟨mx, my⟩ := m
      obtain ⟨f0, f1⟩ := hx.cells
      simp only [vsq] at f0 f1
      have hs3 := B.out.size
      have ba := bel_al1 wr (.cells #[.int .i64 (mx : Int), .int .i64 (my : Int)] 34)
      have X2 := Lib.hid (X.out.below ba)
      have hown3 := World.ownsRow.alloc hown (.cells #[.int .i64 (mx : Int), .int .i64 (my : Int)] 34)
      clear hown hbel hx ba
      go_wp2_with (at_builtin; refine wpList_append_own _ rfl _ _ 27 rfl w.heap.size 34 i0 (.agg #[.int .i64 0, .int .i64 0]) 2 16 Try.underlying27 hi hz0 hz1 hz2 rfl (by decide) _ _ _ rfl hown3 ⟨wr.heap.size, 0, none⟩ 1 1 (VIntA2.vals (vsq (mx, my))) rfl rfl (cell_IntA2 _ (vsq (mx, my)) _) (VIntA2.vals_one _) (by unfold maxLen; omega) (by omega) (by simp; omega) ?_; intro v' w4 hown' hgrow4 _; have X4 := X2.out.grown hgrow4 (fun e => by have := NE.out b e.symm; omega); obtain ⟨p0, p1⟩ := X4.cells; simp only [vsq] at p0 p1; clear X4)
      have B4 := Lib.hid ((Below.then' B.out (bel_al1 _ _)).grown hgrow4 (by simp; omega) (fun q e => (hown3.lt q e).1))
      have O4 := Lib.hid (show SqRow w.heap.size w4 v' (G ++ [(mx, my)]) from by
        unfold SqRow
        rw [sqV_snoc, cellsIntA2_snoc, List.length_append]
        exact hown')
      have hl4 : ∀ q, v'.ownBlock = some q → q < w4.heap.size := fun q e => (hown'.lt q e).2
      have HL := Lib.hid hl4
      have hs4 := B4.out.size
      have B5 := Lib.hid (Below.then' B4.out (bel_al1 w4 (.cells #[.int .i64 (mx : Int), .int .i64 (my : Int)] 34)))
      have O5 := Lib.hid (O4.out.below (bel_al1 w4 (.cells #[.int .i64 (mx : Int), .int .i64 (my : Int)] 34)))
      have X5 := Lib.hid (HBIntA2.new w4 ⟨(mx : Int), (my : Int)⟩ _ rfl)
      clear hown3 hown' hgrow4 p0 p1 hl4
      refine (nextSquare_any _ _ _ D mx my _ (S.out.below B5.out) HD.out NI.out.1 NI.out.2).mono ?_
      rintro e w6 ⟨rfl, hb⟩
      have B6 := Lib.hid (Below.then' B5.out hb)
      have O6 := Lib.hid (O5.out.below hb)
      have X6 := Lib.hid (X5.out.below hb)
      obtain ⟨e0, e1⟩ := X6.out.cells
      have q0 := X6.out.free 0
      have q1 := X6.out.free 1
      simp only [] at e0 e1
      have hz : w4.heap.size < w6.heap.size := by have := hb.size; simp at this; omega
      clear hb
      obtain ⟨n, hn⟩ : ∃ n, nextSq D (mx, my) = n := ⟨_, rfl⟩
      have NN := Lib.hid hn
      rw [hn]
      obtain ⟨nx, ny⟩ := n
      clear hn
      have HGR := Lib.hid (show w6.grownBy ((w6.setCell ⟨w4.heap.size, 0, none⟩ (.int .i64 (nx : Int))).setCell ⟨w4.heap.size, 1, none⟩ (.int .i64 (ny : Int))) (some w4.heap.size) from grown_trans (grown_set _ _ _ _) (grown_set _ _ _ _))
      go_wp2
      go_roundg ((hA D (mx, my)).toNat)
      case rel =>
        refine ⟨G ++ [(mx, my)], (mx, my), w4.heap.size, NI.out, rfl, E.out, rfl, by rw [NN.out], by rw [NN.out]; exact X6.out.setAll (vsq (nx, ny)), ?_, HL.out, by omega, B6.out.grown HGR.out B6.out.size (fun j e => by cases e; omega)⟩
        exact World.ownsRow.kept O6.out HGR.out (by
          cases hv : v'.ownBlock with
          | none => exact .inl rfl
          | some q => exact .inr (by simp only [ne_eq, Option.some.injEq]; have := HL.out q hv; omega))
      case measure => have := HG.out; omega
set_option maxHeartbeats 6400000 in
set_option maxRecDepth 100000 in
theorem implRunOff_any (a : Option Addr) (len cap : Nat) (D : List VIntS) (r c : Int) (w : World) (h : IsIntSS w a len cap D) :
    Calls Try.prog 18 #[.slice a len cap, .int .i64 r, .int .i64 c] w (RunOff_Post D r c w) := by
  have S := Lib.hid h
  clear h
  obtain ⟨q, hq⟩ : ∃ q, hasB D r c = q := ⟨_, rfl⟩
  have Q := Lib.hid hq
  clear hq
  go_enter Try.func18, Try.ntmps18
  go_wp2_with fail
  refine (isReliefWith_any _ _ _ D r c _ S.out).mono ?_
  rintro e w1 ⟨rfl, hb⟩
  rw [Q.out]
  have B1 := Lib.hid hb
  have S1 := Lib.hid (S.out.below hb)
  clear hb
  cases q
  · have P0 := Lib.hid (show RunOff_0 D r c = [] from by unfold RunOff_0; rw [Q.out]; rfl)
    go_wp2
    go_ret2
    exact ⟨_, by rw [show RunOff_1 D r c = false from Q.out]; rfl, by rw [P0.out]; exact nil_OwnIntA2S _ _ _, B1.out⟩
  obtain ⟨hD, p, hp, e1, e2⟩ := hasB_yes Q.out
  subst e1
  subst e2
  have SZ := Lib.hid (sqZ_nat p)
  obtain ⟨x, y⟩ := p
  obtain ⟨hx, hy⟩ := hp
  simp only [] at SZ Q hx hy ⊢
  have P0 := Lib.hid (show RunOff_0 D (x : Int) (y : Int) = sqV (runOf D (x, y)) from by unfold RunOff_0; rw [Q.out, SZ.out, if_pos rfl]; rfl)
  go_wp2_with fail
  refine (runFrom_any _ _ _ D x y _ S1.out hD hx hy).mono ?_
  rintro e w2 ⟨v, rfl, hown, hb⟩
  have B2 := Lib.hid (Below.then' B1.out hb)
  have O2 := Lib.hid hown
  have hs := B1.out.size
  clear hown hb
  go_wp2
  go_ret2
  exact ⟨_, by rw [show RunOff_1 D (x : Int) (y : Int) = true from Q.out]; rfl, by rw [P0.out]; exact O2.out.ownS (by omega) (Nat.le_refl _), B2.out⟩
end Go.Proofs.Ytpnaciamnigbnaa
namespace Go.Proofs.Ytpnaciamnigbnaa
open Go.RowKit
/-- A row of integers of the call's own, and the world below as it was. -/
def IdsOwn (xs : List Int) (w : World) (e : Ending) (w' : World) : Prop := ∃ v, e = .returned v ∧ w'.ownsRow w.heap.size 3 1 v xs.length (intCells xs) ∧ Below w.heap.size w w'
theorem where_more {α : Type} {xs : List α} {k : Nat} {s : α} (f : α → Bool) (g : α → Int) (hs : xs[k]? = some s) : ((xs.take (k + 1)).filter f).map g = ((xs.take k).filter f).map g ++ (if f s = true then [g s] else []) := by
  rw [List.take_add_one, hs, List.filter_append, List.map_append]
  cases h : f s <;> simp [h]
theorem where_len {α : Type} (f : α → Bool) (g : α → Int) (xs : List α) (k : Nat) : (((xs.take k).filter f).map g).length ≤ k := by
  rw [List.length_map]
  exact Nat.le_trans (List.length_filter_le _ _) (by rw [List.length_take]; omega)
theorem nil_ids (w : World) (base : Nat) : w.ownsRow base 3 1 (.slice none 0 0) ([] : List Int).length (intCells []) := ⟨by simp [intCells], .inl ⟨rfl, rfl⟩⟩
theorem made_ids (w : World) : (w.alloc (.cells #[] 3)).ownsRow w.heap.size 3 1 (.slice (some ⟨w.heap.size, 0, none⟩) 0 0) ([] : List Int).length (intCells []) :=
  World.ownsRow_made (base := w.heap.size) (e := 3) (size := 1) w #[] 0 (Nat.le_refl _) (Nat.zero_le _) rfl
theorem wh_al1 (w : World) (o : Obj) : Below w.heap.size w (w.alloc o) := (Below.refl _ _).alloc (Nat.le_refl _) _
theorem cell_box' (w : World) (v : Value) (t : TypeId) (B : Nat) (hB : w.heap.size = B) : (w.alloc (.cells #[v] t)).cell? ⟨B, 0, none⟩ = some v := by
  subst hB
  simp [World.cell?_alloc_new]
theorem cell_stay' {w w' : World} {b o : Nat} {v : Value} (h : w.cell? ⟨b, o, none⟩ = some v) (hb : Below w.heap.size w w') : w'.cell? ⟨b, o, none⟩ = some v := (hb.cell (p := ⟨b, o, none⟩) (World.lt_of_cell h)).trans h
/-- A call of a function value enters the function. -/
theorem enters_fn' {P : Program} {K : FuncId} {fn : Func} (hf : P.funcs[K]? = some fn) (h1 : (fn.name == "runtime.NumGoroutine") = false) (h2 : fn.body.isNone = false) : ∀ args W, (callFunc K args).run P W = .ok (.enter K args) W := by
  intro args W
  have h1' : ¬ fn.name = "runtime.NumGoroutine" := by simpa using h1
  have h2' : ¬ fn.body = none := by intro h; rw [h] at h2; cases h2
  simp [callFunc, go_sem, hf, h1', h2']
end Go.Proofs.Ytpnaciamnigbnaa
namespace Go.Proofs.Ytpnaciamnigbnaa
open Go.RowKit

def setL : List Value → Nat → List Value → List Value
  | xs, _, [] => xs
  | xs, o, v :: r => setL (xs.set o v) (o + 1) r
theorem setL_eq (vs : List Value) : ∀ (xs : List Value) (o : Nat), o + vs.length ≤ xs.length → setL xs o vs = xs.take o ++ (vs ++ xs.drop (o + vs.length)) := by
  induction vs with
  | nil => intro xs o _; simp [setL]
  | cons v r ih =>
    intro xs o h
    simp only [List.length_cons] at h
    show setL (xs.set o v) (o + 1) r = _
    rw [ih _ _ (by rw [List.length_set]; omega), List.drop_set, if_pos (by omega)]
    have e : (xs.set o v).take (o + 1) = xs.take o ++ [v] := by
      rw [List.take_add_one, List.take_set, List.set_eq_of_length_le (by rw [List.length_take]; omega), List.getElem?_set_self (by omega)]
      rfl
    rw [e, List.append_assoc]
    simp only [List.length_cons, List.cons_append, List.nil_append]
    rw [show o + 1 + r.length = o + (r.length + 1) by omega]
theorem own_setCells {base size n cap g : Nat} {e : TypeId} : ∀ (vs xs : List Value) (o : Nat) (w : World), w.ownsRow base e size (.slice (some ⟨g, 0, none⟩) n cap) n xs →
    (w.setCells g o vs).ownsRow base e size (.slice (some ⟨g, 0, none⟩) n cap) n (setL xs o vs) ∧ w.grownBy (w.setCells g o vs) (some g)
  | [], _, _, w, h => ⟨h, World.grownBy.refl w _⟩
  | v :: r, xs, o, w, h => by
    have h1 := h.stored o v
    have h2 := own_setCells r _ (o + 1) _ h1.1
    exact ⟨h2.1, grown_trans h1.2 h2.2⟩
/-- The row with some of the spare cells behind it. -/
theorem own_wider {w : World} {base size n cap g m : Nat} {e : TypeId} {xs : List Value} (h : w.ownsRow base e size (.slice (some ⟨g, 0, none⟩) n cap) n xs) (hm : n + m ≤ cap) :
    ∃ L : List Value, L.length = m * size ∧ w.ownsRow base e size (.slice (some ⟨g, 0, none⟩) (n + m) cap) (n + m) (xs ++ L) := by
  rcases h.2 with ⟨e0, _⟩ | ⟨g', cap', cur, e0, hg, hh, hn, hc, hs, ht⟩
  · cases e0
  · cases e0
    have hl : cur.toList.length = cap * size := by simpa using hs
    have hle : (n + m) * size ≤ cap * size := Nat.mul_le_mul_right _ hm
    have hle2 : n * size + m * size = (n + m) * size := (Nat.add_mul n m size).symm
    refine ⟨(cur.toList.drop (n * size)).take (m * size), by rw [List.length_take, List.length_drop, hl]; omega, ⟨?_, .inr ⟨g, cap, cur, rfl, hg, hh, hm, hc, hs, ?_⟩⟩⟩
    · rw [List.length_append, h.1, List.length_take, List.length_drop, hl]; omega
    · rw [← hle2, List.take_add, ht]
/-- Less of a row. -/
theorem own_cells_at {w : World} {base size n cap g : Nat} {e : TypeId} {xs : List Value} (h : w.ownsRow base e size (.slice (some ⟨g, 0, none⟩) n cap) n xs) (j : Nat) (v : Value) (hj : xs[j]? = some v) : w.cell? ⟨g, 0 + j, none⟩ = some v := by
  have := h.cells (g := g) rfl j v hj
  rwa [add_plain] at this
theorem own_some_at {w : World} {base size n cap g : Nat} {e : TypeId} {xs : List Value} (h : w.ownsRow base e size (.slice (some ⟨g, 0, none⟩) n cap) n xs) (j : Nat) (hj : j < xs.length) : (w.cell? ⟨g, 0 + j, none⟩).isSome = true := by
  rw [own_cells_at h j _ (List.getElem?_eq_getElem hj)]; rfl
end Go.Proofs.Ytpnaciamnigbnaa
namespace Go.Proofs.Ytpnaciamnigbnaa
open Go.RowKit
set_option maxHeartbeats 1600000 in
set_option maxRecDepth 100000 in
/-- The index of the first element that a function value likes. -/
theorem ixfIntA2_any (K : FuncId) (caps : Array Value) (f : VIntA2 → Bool) (a : Option Addr) (len cap : Nat) (xs : List VIntA2) (w : World) (h : IsIntA2S w a len cap xs)
    (hcall : ∀ args W, (callFunc K args).run Try.prog W = .ok (.enter K args) W)
    (hf : ∀ W s, s ∈ xs → Below w.heap.size w W → Calls Try.prog K (#[.agg #[.int .i64 s.E0, .int .i64 s.E1]] ++ caps) W fun e w' => e = .returned (.bool (f s)) ∧ Below W.heap.size W w') :
    Calls Try.prog 131 #[.slice a len cap, .func (.func K) #[] caps] w fun e w' => e = .returned (.int .i64 (firstOf f xs)) ∧ Below w.heap.size w w' := by
  have hm := h.2.2.1
  have hcl := h.2.1
  unfold maxLen at hm
  have S := Lib.hid h
  have L := Lib.hid h.1
  have F := Lib.hid hf
  clear h hf
  go_enter Try.func131, Try.ntmps131
  go_wp2
  go_loopw [8, 5] (fun i _ wr => ∃ k : Nat, k ≤ len ∧ i = .int .i64 k ∧ Below w.heap.size w wr ∧ ∀ (j : Nat) t, j < k → xs[j]? = some t → f t = false) (fun i _ _ => len - (intOf i).toNat)
  case atStart => exact ⟨0, Nat.zero_le _, rfl, Below.refl _ _, by omega⟩
  case round =>
    obtain ⟨k, hk, rfl, hbel, hall⟩ := hrel
    have A := Lib.hid hall
    have B := Lib.hid hbel
    clear hall
    by_cases hlt : k < len
    · obtain ⟨s, hs⟩ := el_at L hlt
      obtain ⟨b, o, rfl, hb, hat⟩ := (S.out.below hbel).at (by omega)
      obtain ⟨c0, c1⟩ := hat k s hs
      have X := Lib.hid hs
      have hi0 : (0 : Int) ≤ (k : Int) := by omega
      have hi1 : (k : Int) < (len : Int) := by omega
      clear hs hat hbel
      go_wp2_with fail
      refine (F.out wr s (List.mem_of_getElem? X.out) B.out).mono ?_
      rintro e w1 ⟨rfl, hb1⟩
      have B1 := Lib.hid (Below.then' B.out hb1)
      clear hb1
      by_cases hfs : f s = true
      · have FS := Lib.hid hfs
        rw [hfs]
        clear hfs
        go_wp2
        go_ret
        exact ⟨ret_int (firstOf_at X.out FS.out A.out).symm, B1.out⟩
      · have hfs' : f s = false := by simpa using hfs
        have FS := Lib.hid hfs'
        rw [hfs']
        clear hfs hfs'
        go_wp2
        go_roundw
        case rel => exact ⟨k + 1, by omega, by go_num, B1.out, fun j t hj ht => by
          by_cases e : j = k
          · subst e; rw [X.out] at ht; cases ht; exact FS.out
          · exact A.out j t (by omega) ht⟩
        case measure => simp [intOf]; omega
    · obtain rfl : k = len := by omega
      clear hbel
      go_wp2
      go_ret
      exact ⟨ret_int (firstOf_no fun j t hj ht => A.out j t (by have := L.out; omega) ht).symm, B.out⟩
/-- clear, at a row. -/
theorem clearIntA2 (P : Program) (w : World) (t e ty : TypeId) (ht : P.underlying t = some (.slice e)) (hv : ∀ w, (zeroValue e).run P w = .ok (.agg #[.int .i64 0, .int .i64 0]) w) (b o m c : Nat) (hm : 0 < m)
    (hc : ∀ j, j < m * 2 → (w.cell? ⟨b, o + j, none⟩).isSome = true) (hf : ∀ j, j < m * 2 → w.frozen? ⟨b, o + j, none⟩ = false) :
    (Builtin.clear_ #[t] ty #[.slice (some ⟨b, o, none⟩) m c]).run P w = .ok (.tuple #[]) (w.setCells b o (List.replicate (m * 2) (.int .i64 0))) := by
  have hzc : (Builtin.zeroCells (.agg #[.int .i64 0, .int .i64 0] : Value).cells m).toList = List.replicate (m * 2) (.int .i64 0) := by
    apply List.ext_getElem
    · simp [Builtin.zeroCells, Value.cells]
    · intro i h1 h2
      simp only [List.length_replicate] at h2
      simp [Builtin.zeroCells, Value.cells]
      have h3 : i % 2 < 2 := Nat.mod_lt _ (by decide)
      rcases (show i % 2 = 0 ∨ i % 2 = 1 by omega) with h | h <;> simp [h]
  have hst := run_storeCells_cells (P := P) b o (List.replicate (m * 2) (.int .i64 0)) 0 w (by simpa using hc) (by simpa using hf) (by intro v hv'; rw [List.eq_of_mem_replicate hv']; rfl)
  simp only [Nat.add_zero] at hst
  obtain ⟨k, rfl⟩ : ∃ k, m = k + 1 := ⟨m - 1, by omega⟩
  simp [Builtin.clear_, run_underlying ht, hv, hzc, hst]
theorem own_zerosIntA2 {w : World} {base g c i : Nat} {ys : List VIntA2} (h : w.ownsRow base 34 2 (.slice (some ⟨g, 0, none⟩) ys.length c) ys.length (cellsIntA2 ys)) (hi : i ≤ ys.length) :
    (w.setCells g (i * 2) (List.replicate ((ys.length - i) * 2) (.int .i64 0))).ownsRow base 34 2 (.slice (some ⟨g, 0, none⟩) i c) i (cellsIntA2 (ys.take i)) ∧ w.grownBy (w.setCells g (i * 2) (List.replicate ((ys.length - i) * 2) (.int .i64 0))) (some g) := by
  have h1 := own_setCells (List.replicate ((ys.length - i) * 2) (.int .i64 0)) _ (i * 2) _ h
  refine ⟨?_, h1.2⟩
  have e0 : i * 2 + (ys.length - i) * 2 = ys.length * 2 := by rw [← Nat.add_mul]; congr 1; omega
  have e1 : (cellsIntA2 ys).take (i * 2) = cellsIntA2 (ys.take i) := by
    have := cellsIntA2_take ys i
    rw [this, List.take_append_of_le_length (by rw [cellsIntA2_len, List.length_take]; omega), List.take_of_length_le (by rw [cellsIntA2_len, List.length_take]; omega)]
  have e2 : ∀ k, List.replicate (k * 2) (.int .i64 0) = cellsIntA2 (List.replicate k ⟨0, 0⟩) := by
    intro k
    induction k with
    | zero => simp [cellsIntA2]
    | succ k ih => rw [List.replicate_succ, show cellsIntA2 (⟨0, 0⟩ :: List.replicate k ⟨0, 0⟩) = VIntA2.vals ⟨0, 0⟩ ++ cellsIntA2 (List.replicate k ⟨0, 0⟩) from rfl, ← ih, show (k + 1) * 2 = k * 2 + 1 + 1 by omega]; simp [List.replicate_succ, VIntA2.vals]
  obtain ⟨zs, hz⟩ : ∃ zs, ys.take i ++ List.replicate (ys.length - i) (⟨0, 0⟩ : VIntA2) = zs := ⟨_, rfl⟩
  have hc : setL (cellsIntA2 ys) (i * 2) (List.replicate ((ys.length - i) * 2) (.int .i64 0)) = cellsIntA2 zs := by
    rw [setL_eq _ _ _ (by rw [List.length_replicate, cellsIntA2_len]; omega), List.length_replicate, e0, List.drop_of_length_le (by rw [cellsIntA2_len]; exact Nat.le_refl _), List.append_nil, e1, e2, ← cellsIntA2_append, hz]
  have hlen : zs.length = ys.length := by rw [← hz, List.length_append, List.length_take, List.length_replicate]; omega
  have h2 := h1.1
  rw [hc] at h2
  have h3 := take_ownIntA2 (xs := zs) (k := i) (by rw [hlen]; exact h2) (by rw [hlen]; exact hi)
  have ht : zs.take i = ys.take i := by rw [← hz, List.take_append_of_le_length (by rw [List.length_take]; omega), List.take_of_length_le (by rw [List.length_take]; omega)]
  rwa [ht] at h3
theorem take_filterIntA2 {f : VIntA2 → Bool} {xs : List VIntA2} {j : Nat} {x : VIntA2} (h : xs[j]? = some x) : (xs.take (j + 1)).filter f = (xs.take j).filter f ++ (if f x = true then [x] else []) := filter_snoc' f h
theorem zeroIntA2_run (w : World) : (zeroValue 34).run Try.prog w = .ok (.agg #[.int .i64 0, .int .i64 0]) w := by kernel_rfl
set_option maxHeartbeats 6400000 in
set_option maxRecDepth 100000 in
theorem delIntA2_any (K : FuncId) (caps : Array Value) (f : VIntA2 → Bool) (base g c : Nat) (xs : List VIntA2) (w : World) (h : w.ownsRow base 34 2 (.slice (some ⟨g, 0, none⟩) xs.length c) xs.length (cellsIntA2 xs)) (hbase : base ≤ w.heap.size)
    (hcall : ∀ args W, (callFunc K args).run Try.prog W = .ok (.enter K args) W)
    (hf : ∀ W s, s ∈ xs → Below base w W → Calls Try.prog K (#[.agg #[.int .i64 s.E0, .int .i64 s.E1]] ++ caps) W fun e w' => e = .returned (.bool (f s)) ∧ Below W.heap.size W w') :
    Calls Try.prog 87 #[.slice (some ⟨g, 0, none⟩) xs.length c, .func (.func K) #[] caps] w fun e w' =>
      e = .returned (.slice (some ⟨g, 0, none⟩) (xs.filter fun s => !f s).length c) ∧ w'.ownsRow base 34 2 (.slice (some ⟨g, 0, none⟩) (xs.filter fun s => !f s).length c) (xs.filter fun s => !f s).length (cellsIntA2 (xs.filter fun s => !f s)) ∧ Below base w w' := by
  obtain ⟨a', c', e', hi', _⟩ := isIntA2S_own h
  simp only [Value.slice.injEq] at e'
  obtain ⟨rfl, _, rfl⟩ := e'
  have hm := hi'.2.2.1
  have hcl := hi'.2.1
  unfold maxLen at hm
  have hgb := (h.lt g rfl).1
  have S := Lib.hid hi'
  have O0 := Lib.hid h
  have F := Lib.hid hf
  have HB := Lib.hid hbase
  have HC := Lib.hid hcall
  clear h hi' hf hbase hcall
  go_enter Try.func87, Try.ntmps87
  go_wp2_with fail
  refine (ixfIntA2_any K caps f _ _ _ xs _ S.out HC.out (fun W s hs hW => F.out W s hs (hW.mono HB.out))).mono ?_
  rintro e w1 ⟨rfl, hb⟩
  have B1 := Lib.hid (hb.mono HB.out)
  have O1 := Lib.hid (ownsRow_below O0.out hb)
  have hs1 := hb.size
  clear hb
  rcases firstOf_cases f xs with ⟨h1, h2⟩ | ⟨i, s, h1, h2, h3, h4⟩
  · have E := Lib.hid (show (xs.filter fun s => !f s) = xs from List.filter_eq_self.2 (fun s hs => by rw [h2 s hs]; rfl))
    rw [h1]
    clear h1 h2
    go_wp2
    go_ret
    exact ⟨by rw [E.out]; rfl, by rw [E.out]; exact O1.out, B1.out⟩
  · have hil := (List.getElem?_eq_some_iff.1 h2).1
    have N0 := Lib.hid (show xs.take i = (xs.take (i + 1)).filter (fun s => !f s) from by
      rw [filter_snoc' _ h2, h3]
      simp only [Bool.not_true, if_neg (show ¬ false = true by simp), List.append_nil]
      refine (List.filter_eq_self.2 fun t ht => ?_).symm
      obtain ⟨j, hj⟩ := List.getElem?_of_mem ht
      have hjl := (List.getElem?_eq_some_iff.1 hj).1
      rw [List.length_take] at hjl
      rw [List.getElem?_take_of_lt (by omega)] at hj
      rw [h4 j t (by omega) hj]; rfl)
    rw [h1]
    have hne : ((i : Int) == -1) = false := beq_eq_false_iff_ne.2 (by omega)
    have hne2 : ¬ (i : Int) = -1 := by omega
    clear h1 h2 h3 h4
    go_wp2
    clear hne hne2
    go_loopw [6, 5] (fun jv iv wr => ∃ (j i : Nat) (ys : List VIntA2), i < j ∧ j ≤ xs.length ∧ jv = .int .i64 j ∧ iv = .int .i64 i ∧ ys.length = xs.length ∧ ys.take i = (xs.take j).filter (fun s => !f s) ∧ ys.drop j = xs.drop j ∧ wr.ownsRow base 34 2 (.slice (some ⟨g, 0, none⟩) xs.length c) xs.length (cellsIntA2 ys) ∧ Below base w wr ∧ base ≤ wr.heap.size) (fun jv _ _ => xs.length - (intOf jv).toNat)
    case atStart => exact ⟨i + 1, i, xs, by omega, by omega, by go_num, rfl, rfl, N0.out, rfl, O1.out, B1.out, Nat.le_trans HB.out hs1⟩
    case round =>
      obtain ⟨j, i, ys, hij, hj, rfl, rfl, hyl, hyt, hyd, hown, hbel, hbs⟩ := hrel
      have YL := Lib.hid hyl
      have YT := Lib.hid hyt
      have YD := Lib.hid hyd
      have O := Lib.hid hown
      have B := Lib.hid hbel
      have hx0 : (0 : Int) ≤ (j : Int) := by omega
      by_cases hlt : j < xs.length
      · obtain ⟨x, hx⟩ : ∃ x, xs[j]? = some x := ⟨xs[j]'hlt, List.getElem?_eq_getElem _⟩
        have hyx : ys[j]? = some x := by
          have := congrArg (fun l : List VIntA2 => l[0]?) YD.out
          simp only [List.getElem?_drop, Nat.add_zero] at this
          rw [this, hx]
        have hx1 : (j : Int) < (xs.length : Int) := by omega
        rw [← hyl] at hown
        obtain ⟨a2, c2, e2, hi2, _⟩ := isIntA2S_own hown
        simp only [Value.slice.injEq] at e2
        obtain ⟨rfl, _, rfl⟩ := e2
        obtain ⟨b3, o3, e3, hb3, hat⟩ := hi2.at (by omega)
        cases e3
        obtain ⟨c0, c1⟩ := hat j x hyx
        simp only [Nat.zero_add] at c0 c1
        have X := Lib.hid hx
        have FS := Lib.hid (filter_snoc' (fun s => !f s) hx)
        obtain ⟨r, hr⟩ : ∃ r, f x = r := ⟨_, rfl⟩
        have RR := Lib.hid hr
        have BW := Lib.hid (bel_al1 wr (.cells #[.int .i64 x.E0, .int .i64 x.E1] 34))
        have BX := Lib.hid (BoxIntA2.new wr 34 x _ rfl)
        have hcall := HC.out
        clear hx hyx hi2 hat hown hbel hr hyl hyt hyd
        go_wp2_with fail
        refine (F.out _ x (List.mem_of_getElem? X.out) (B.out.trans (BW.out.mono hbs))).mono ?_
        rintro e w2 ⟨rfl, hb⟩
        rw [RR.out]
        have hb' := Below.then' BW.out hb
        have B2 := Lib.hid (B.out.trans (hb'.mono hbs))
        have O2 := Lib.hid (ownsRow_below O.out hb')
        have BX2 := Lib.hid (BX.out.below hb)
        have hs2 : base ≤ w2.heap.size := Nat.le_trans hbs hb'.size
        clear hb hb' c0 c1 hcall
        cases r
        · obtain ⟨e0, e1⟩ := BX2.out
          have O := O2
          obtain ⟨u0, d0⟩ := own_cell O.out (i * 2) (by rw [cellsIntA2_len, YL.out]; omega)
          obtain ⟨u1, d1⟩ := own_cell O.out (i * 2 + 1) (by rw [cellsIntA2_len, YL.out]; omega)
          have fz0 := O.out.frozenAt (i * 2)
          have fz1 := O.out.frozenAt (i * 2 + 1)
          have hi0 : (0 : Int) ≤ (i : Int) := by omega
          have hi1 : (i : Int) < (xs.length : Int) := by omega
          have SET := Lib.hid (own_setIntA2 (i := i) O2.out (by rw [YL.out]; omega) x)
          go_wp2
          go_roundw
          case rel =>
            refine ⟨j + 1, i + 1, ys.set i x, by omega, by omega, by go_num, by go_num, by rw [List.length_set]; exact YL.out, ?_, ?_, SET.out.1, B2.out.grown SET.out.2 hs2 (fun k e => by cases e; exact hgb), Nat.le_trans hs2 SET.out.2.size⟩
            · rw [FS.out, RR.out, ← YT.out, List.take_add_one, List.take_set, List.set_eq_of_length_le (by rw [List.length_take]; omega), List.getElem?_set_self (by rw [YL.out]; omega)]
              rfl
            · rw [List.drop_set, if_pos (by omega), ← List.drop_drop, YD.out, List.drop_drop]
          case measure => simp [intOf]; omega
        · go_wp2
          go_roundw
          case rel => exact ⟨j + 1, i, ys, by omega, by omega, by go_num, rfl, YL.out, by rw [FS.out, RR.out]; simpa using YT.out, by rw [← List.drop_drop, YD.out, List.drop_drop], O2.out, B2.out, hs2⟩
          case measure => simp [intOf]; omega
      · obtain rfl : j = xs.length := by omega
        have hY : ys.take i = xs.filter (fun s => !f s) := by rw [YT.out, List.take_of_length_le (Nat.le_refl _)]
        have hl : i = (xs.filter (fun s => !f s)).length := by rw [← hY, List.length_take, YL.out]; omega
        have E := Lib.hid hY
        have HLN := Lib.hid hl
        have Z := own_zerosIntA2 (i := i) (by rw [YL.out]; exact O.out) (by rw [YL.out]; omega)
        rw [YL.out] at Z
        have ZZ := Lib.hid Z
        have hcells : ∀ q, q < (xs.length - i) * 2 → (wr.cell? ⟨g, i * 2 + q, none⟩).isSome = true ∧ wr.frozen? ⟨g, i * 2 + q, none⟩ = false := fun q hq => by
          have hq2 : i * 2 + q < (cellsIntA2 ys).length := by
            rw [cellsIntA2_len, YL.out]
            have := Nat.mul_le_mul_right 2 (show i ≤ xs.length by omega)
            have e0 : (xs.length - i) * 2 = xs.length * 2 - i * 2 := Nat.sub_mul _ _ _
            omega
          obtain ⟨u, d⟩ := own_cell O.out (i * 2 + q) hq2
          exact ⟨by rw [d]; rfl, O.out.frozenAt (i * 2 + q)⟩
        have hclr : ∀ ty, (Builtin.clear_ #[27] ty #[.slice (some ⟨g, i * 2, none⟩) (xs.length - i) (c - i)]).run Try.prog wr = .ok (.tuple #[]) (wr.setCells g (i * 2) (List.replicate ((xs.length - i) * 2) (.int .i64 0))) :=
          fun ty => clearIntA2 Try.prog wr _ _ ty Try.underlying27 zeroIntA2_run g (i * 2) _ _ (by omega) (fun q hq => (hcells q hq).1) (fun q hq => (hcells q hq).2)
        have hci : ¬ c = i := by omega
        have hci2 : ¬ i = c := by omega
        have hi0 : (0 : Int) ≤ (i : Int) := by omega
        have hi1 : (i : Int) ≤ (xs.length : Int) := by omega
        have hi2 : (i : Int) ≤ (c : Int) := by omega
        have hlc : (xs.length : Int) ≤ (c : Int) := by omega
        clear hown hbel Z hcells hl hY hyl hyt hyd
        go_wp2
        go_ret
        have h1 := ZZ.out.1
        rw [E.out, HLN.out] at h1
        refine ⟨by rw [← HLN.out]; rfl, ?_, B.out.grown (by rw [← HLN.out] at *; exact ZZ.out.2) hbs (fun k e => by cases e; exact hgb)⟩
        have h2 := ZZ.out.1
        rw [E.out] at h2
        rw [← HLN.out]
        exact h2
end Go.Proofs.Ytpnaciamnigbnaa
namespace Go.Proofs.Ytpnaciamnigbnaa
open Go.RowKit
theorem list_atIntA2 {xs : List VIntA2} {len k : Nat} (hl : Hid (len = xs.length)) (hk : k < len) : ∃ s, xs[k]? = some s := ⟨xs[k]'(by have := hl.out; omega), List.getElem?_eq_getElem _⟩
theorem made_ownIntA2 (w : World) (base : Nat) (h : base ≤ w.heap.size) : (w.alloc (.cells #[] 34)).ownsRow base 34 2 (.slice (some ⟨w.heap.size, 0, none⟩) 0 0) ([] : List VIntA2).length (cellsIntA2 []) :=
  World.ownsRow_made (base := base) (e := 34) (size := 2) w #[] 0 h (Nat.zero_le _) rfl
theorem one_IntA2 (xs : List VIntA2) : ∀ u ∈ cellsIntA2 xs, u.oneCell' = true := by
  intro u hu
  obtain ⟨s, _, hs⟩ := List.mem_flatMap.1 hu
  exact s.vals_one u hs
set_option maxHeartbeats 1600000 in
set_option maxRecDepth 100000 in
/-- The index of the first element that a function value likes. -/
theorem idxIntA2_any (K : FuncId) (caps : Array Value) (f : VIntA2 → Bool) (a : Option Addr) (len cap : Nat) (xs : List VIntA2) (w : World) (h : IsIntA2S w a len cap xs)
    (hcall : ∀ args W, (callFunc K args).run Try.prog W = .ok (.enter K args) W)
    (hf : ∀ W s, s ∈ xs → Below w.heap.size w W → Calls Try.prog K (#[.agg #[.int .i64 s.E0, .int .i64 s.E1]] ++ caps) W fun e w' => e = .returned (.bool (f s)) ∧ Below W.heap.size W w') :
    Calls Try.prog 131 #[.slice a len cap, .func (.func K) #[] caps] w fun e w' => e = .returned (.int .i64 (firstOf f xs)) ∧ Below w.heap.size w w' := by
  have hm := h.2.2.1
  have hcl := h.2.1
  unfold maxLen at hm
  have S := Lib.hid h
  have L := Lib.hid h.1
  have F := Lib.hid hf
  clear h hf
  go_enter Try.func131, Try.ntmps131
  go_wp2
  go_loopw [8, 5] (fun i _ wr => ∃ k : Nat, k ≤ len ∧ i = .int .i64 k ∧ Below w.heap.size w wr ∧ ∀ (j : Nat) t, j < k → xs[j]? = some t → f t = false) (fun i _ _ => len - (intOf i).toNat)
  case atStart => exact ⟨0, Nat.zero_le _, rfl, Below.refl _ _, by omega⟩
  case round =>
    obtain ⟨k, hk, rfl, hbel, hall⟩ := hrel
    have A := Lib.hid hall
    have B := Lib.hid hbel
    clear hall
    by_cases hlt : k < len
    · obtain ⟨s, hs⟩ := list_atIntA2 L hlt
      obtain ⟨b, o, rfl, hb, hat⟩ := (S.out.below hbel).at (by omega)
      obtain ⟨c0, c1⟩ := hat k s hs
      have X := Lib.hid hs
      clear hs hat hbel
      go_wp2_with fail
      refine (F.out wr s (List.mem_of_getElem? X.out) B.out).mono ?_
      rintro e w1 ⟨rfl, hb1⟩
      have B1 := Lib.hid (Below.then' B.out hb1)
      clear hb1
      by_cases hfs : f s = true
      · have FS := Lib.hid hfs
        rw [hfs]
        clear hfs
        go_wp2
        go_ret
        exact ⟨ret_int (firstOf_at X.out FS.out A.out).symm, B1.out⟩
      · have hfs' : f s = false := by simpa using hfs
        have FS := Lib.hid hfs'
        rw [hfs']
        clear hfs hfs'
        go_wp2
        go_roundw
        case rel => exact ⟨k + 1, by omega, by go_num, B1.out, fun j t hj ht => by
          by_cases e : j = k
          · subst e; rw [X.out] at ht; cases ht; exact FS.out
          · exact A.out j t (by omega) ht⟩
        case measure => simp [intOf]; omega
    · obtain rfl : k = len := by omega
      clear hbel
      go_wp2
      go_ret
      exact ⟨ret_int (firstOf_no fun j t hj ht => A.out j t (by have := L.out; omega) ht).symm, B.out⟩
/-- A call of a function value enters the function. -/
theorem callf_ofIntA2 {P : Program} {K : FuncId} {fn : Func} (hf : P.funcs[K]? = some fn) (h1 : (fn.name == "runtime.NumGoroutine") = false) (h2 : fn.body.isNone = false) : ∀ args W, (callFunc K args).run P W = .ok (.enter K args) W := by
  intro args W
  have h1' : ¬ fn.name = "runtime.NumGoroutine" := by simpa using h1
  have h2' : ¬ fn.body = none := by intro h; rw [h] at h2; cases h2
  simp [callFunc, go_sem, hf, h1', h2']
end Go.Proofs.Ytpnaciamnigbnaa
namespace Go.Proofs.Ytpnaciamnigbnaa
section
variable {α : Type}
def pickB (b : α → α → Bool) (d : α) : List α → α
  | [] => d
  | s :: l => l.foldl (fun m x => if b x m then x else m) s
theorem pickB_snoc (b : α → α → Bool) (d : α) {ys : List α} (h : ys ≠ []) (x : α) : pickB b d (ys ++ [x]) = if b x (pickB b d ys) then x else pickB b d ys := by
  cases ys with
  | nil => exact absurd rfl h
  | cons s l => show List.foldl _ s (l ++ [x]) = _; rw [List.foldl_append]; rfl
theorem pickB_one (b : α → α → Bool) (d x : α) : pickB b d [x] = x := rfl
theorem take_nee {ys : List α} {k : Nat} (h0 : 0 < k) (h : k ≤ ys.length) : ys.take k ≠ [] := fun e => by
  have := congrArg List.length e
  rw [List.length_take, List.length_nil] at this
  omega
theorem take_one {ys : List α} {k : Nat} {x : α} (h : ys[k]? = some x) : ys.take (k + 1) = ys.take k ++ [x] := by rw [List.take_add_one, h]; rfl
theorem pickB_take (b : α → α → Bool) (d : α) {ys : List α} {k : Nat} {x : α} (h0 : 0 < k) (h : ys[k]? = some x) : pickB b d (ys.take (k + 1)) = if b x (pickB b d (ys.take k)) then x else pickB b d (ys.take k) := by
  have hk : k < ys.length := (List.getElem?_eq_some_iff.1 h).1
  rw [take_one h, pickB_snoc b d (take_nee h0 (by omega))]
theorem pickB_mem (b : α → α → Bool) (d : α) {ys : List α} : ∀ k, 0 < k → k ≤ ys.length → pickB b d (ys.take k) ∈ ys.take k := by
  intro k
  induction k with
  | zero => intro h; omega
  | succ k ih =>
    intro _ hk
    have hx : ys[k]? = some (ys[k]'(by omega)) := List.getElem?_eq_getElem _
    by_cases h0 : k = 0
    · subst h0
      rw [take_one hx]
      simp [pickB]
    · rw [pickB_take b d (by omega) hx, take_one hx]
      split
      · exact List.mem_append_right _ (List.mem_singleton.2 rfl)
      · exact List.mem_append_left _ (ih (by omega) (by omega))
end
end Go.Proofs.Ytpnaciamnigbnaa
