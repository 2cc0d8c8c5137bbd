/- What the laws do with Drawers: copies, sizes, comparisons, marks. (made by gen2.py) -/
import Derived.Test.YtlmedhidkhphbaaDrawerT
import Derived.Test.YtlmedhidkhphbaaIntO
namespace Go.Proofs.Ytlmedhidkhphbaa
open Go.RowKit

def condDrawer1 (x : VDrawer) : Prop := x.Flats.length ≤ 1048576
def sizeDrawer : List VDrawer → Nat
  | [] => 0
  | x :: l => 1 + x.Flats.length + sizeDrawer l
theorem sizeDrawer_app (a b : List VDrawer) : sizeDrawer (a ++ b) = sizeDrawer a + sizeDrawer b := by
  induction a with
  | nil => simp [sizeDrawer]
  | cons x l ih => simp [sizeDrawer, ih]; omega
def condDrawer (xs : List VDrawer) : Prop := sizeDrawer xs ≤ 1048576
def cntDrawer : List VDrawer → Nat
  | [] => 0
  | x :: l => 4 + x.Flats.length + cntDrawer l
theorem cntDrawer_app (a b : List VDrawer) : cntDrawer (a ++ b) = cntDrawer a + cntDrawer b := by
  induction a with
  | nil => simp [cntDrawer]
  | cons x l ih => simp [cntDrawer, ih]; omega
theorem cntDrawer_size (xs : List VDrawer) : cntDrawer xs ≤ 4 * sizeDrawer xs := by
  induction xs with
  | nil => simp [cntDrawer, sizeDrawer]
  | cons x l ih => simp [cntDrawer, sizeDrawer]; omega
theorem sizeDrawer_len (xs : List VDrawer) : xs.length ≤ sizeDrawer xs := by
  induction xs with
  | nil => simp [sizeDrawer]
  | cons x l ih => simp [sizeDrawer]; omega
theorem cntDrawer_cond {xs : List VDrawer} (h : condDrawer xs) : cntDrawer xs ≤ 4194304 := by
  have := cntDrawer_size xs
  unfold condDrawer at h
  omega
theorem condDrawer_len {xs : List VDrawer} (h : condDrawer xs) : xs.length ≤ 1048576 := Nat.le_trans (sizeDrawer_len xs) h
theorem condDrawer_at {xs : List VDrawer} (h : condDrawer xs) {k : Nat} {x : VDrawer} (hx : xs[k]? = some x) : x.Flats.length ≤ 1048576 := by
  unfold condDrawer at h
  have hk := (List.getElem?_eq_some_iff.1 hx).1
  have e : xs = xs.take k ++ x :: xs.drop (k + 1) := by
    have h2 := List.take_append_drop k xs
    rw [List.drop_eq_getElem_cons hk] at h2
    have : xs[k] = x := by rw [List.getElem?_eq_getElem hk] at hx; simpa using hx
    rw [this] at h2; exact h2.symm
  rw [e, sizeDrawer_app] at h
  simp [sizeDrawer] at h
  omega
theorem sizeDrawer_take {xs : List VDrawer} {k : Nat} {x : VDrawer} (hx : xs[k]? = some x) : sizeDrawer (xs.take (k + 1)) = sizeDrawer (xs.take k) + (1 + x.Flats.length) := by
  rw [List.take_add_one, hx, sizeDrawer_app]
  simp [sizeDrawer]
theorem cntDrawer_take {xs : List VDrawer} {k : Nat} {x : VDrawer} (hx : xs[k]? = some x) : cntDrawer (xs.take (k + 1)) = cntDrawer (xs.take k) + (4 + x.Flats.length) := by
  rw [List.take_add_one, hx, cntDrawer_app]
  simp [cntDrawer]
theorem cntDrawer_take_le (xs : List VDrawer) (k : Nat) : cntDrawer (xs.take k) ≤ cntDrawer xs := by
  conv => rhs; rw [← List.take_append_drop k xs, cntDrawer_app]
  omega
/-- The marks of one, from k on. -/
def mkDrawer1 (k : Nat) (x : VDrawer) : VDrawer := ⟨((k : Nat) : Int), ((k + 1 : Nat) : Int), ((k + 2 : Nat) : Int), ((k + 3 : Nat) : Int), marksI (k + 4) x.Flats.length⟩
def mkDrawer : Nat → List VDrawer → List VDrawer
  | _, [] => []
  | k, x :: l => mkDrawer1 k x :: mkDrawer (k + (4 + x.Flats.length)) l
theorem mkDrawer_app (k : Nat) (a b : List VDrawer) : mkDrawer k (a ++ b) = mkDrawer k a ++ mkDrawer (k + cntDrawer a) b := by
  induction a generalizing k with
  | nil => simp [mkDrawer, cntDrawer]
  | cons x l ih =>
    simp only [List.cons_append, mkDrawer, ih, cntDrawer]
    rw [show k + (4 + x.Flats.length) + cntDrawer l = k + (4 + x.Flats.length + cntDrawer l) by omega]
theorem mkDrawer_len (k : Nat) (xs : List VDrawer) : (mkDrawer k xs).length = xs.length := by
  induction xs generalizing k with
  | nil => rfl
  | cons x l ih => simp [mkDrawer, ih]
theorem mkDrawer_take {xs : List VDrawer} {j : Nat} {x : VDrawer} (hx : xs[j]? = some x) (k : Nat) : mkDrawer k (xs.take (j + 1)) = mkDrawer k (xs.take j) ++ [mkDrawer1 (k + cntDrawer (xs.take j)) x] := by
  rw [List.take_add_one, hx, mkDrawer_app]
  rfl
theorem mkDrawer_at {xs : List VDrawer} {j : Nat} {x : VDrawer} (hx : xs[j]? = some x) (k : Nat) : (mkDrawer k xs)[j]? = some (mkDrawer1 (k + cntDrawer (xs.take j)) x) := by
  have hj := (List.getElem?_eq_some_iff.1 hx).1
  have e : xs = xs.take j ++ x :: xs.drop (j + 1) := by
    have h2 := List.take_append_drop j xs
    rw [List.drop_eq_getElem_cons hj] at h2
    have : xs[j] = x := by rw [List.getElem?_eq_getElem hj] at hx; simpa using hx
    rw [this] at h2; exact h2.symm
  have hl : (mkDrawer k (xs.take j)).length = j := by rw [mkDrawer_len, List.length_take]; omega
  conv => lhs; rw [e, mkDrawer_app]
  rw [List.getElem?_append_right (by omega), hl, Nat.sub_self]
  rfl
/-- A copy of one. -/
def DrawerPost (x : VDrawer) (w : World) (e : Ending) (w' : World) : Prop := ∃ h : Hd, e = .returned (.agg #[.int .i64 x.Id, .int .i64 x.Wide, .int .i64 x.High, .int .i64 x.Holds, .slice h.a h.n h.c]) ∧ HInts w.heap.size w'.heap.size w' h x.Flats ∧ Below w.heap.size w w'
def DrawerOPost (xs : List VDrawer) (w : World) (e : Ending) (w' : World) : Prop := ∃ v, e = .returned v ∧ OwnDrawerS w.heap.size w'.heap.size w' v xs ∧ Below w.heap.size w w'
set_option maxHeartbeats 3200000 in
set_option maxRecDepth 100000 in
theorem toDrawer_any (x : VDrawer) (h : Hd) (w : World) (hi : IsInts w h.a h.n h.c x.Flats) (hsz : x.Flats.length ≤ 1048576) :
    Calls Try.prog 42 #[.agg #[.int .i64 x.Id, .int .i64 x.Wide, .int .i64 x.High, .int .i64 x.Holds, .slice h.a h.n h.c]] w (DrawerPost x w) := by
  have b0 := bel_al3 w (.cells #[.int .i64 x.Id, .int .i64 x.Wide, .int .i64 x.High, .int .i64 x.Holds, .slice h.a h.n h.c] 59) (.cells #[.int .i64 0, .int .i64 0, .int .i64 0, .int .i64 0, .slice none 0 0] 42) (.cells #[.int .i64 x.Id, .int .i64 x.Wide, .int .i64 x.High, .int .i64 x.Holds, .slice none 0 0] 42)
  have S := Lib.hid (hi.below b0)
  have B0 := Lib.hid b0
  have Z1 := Lib.hid ((HBDrawer.new (w.alloc (.cells #[.int .i64 x.Id, .int .i64 x.Wide, .int .i64 x.High, .int .i64 x.Holds, .slice h.a h.n h.c] 59)) ⟨⟨0, 0, 0, 0, []⟩, ⟨none, 0, 0⟩⟩ (w.heap.size + 1) (size_al _ _)).alloc (.cells #[.int .i64 x.Id, .int .i64 x.Wide, .int .i64 x.High, .int .i64 x.Holds, .slice none 0 0] 42))
  have Z2 := Lib.hid (HBDrawer.new ((w.alloc (.cells #[.int .i64 x.Id, .int .i64 x.Wide, .int .i64 x.High, .int .i64 x.Holds, .slice h.a h.n h.c] 59)).alloc (.cells #[.int .i64 0, .int .i64 0, .int .i64 0, .int .i64 0, .slice none 0 0] 42)) ⟨⟨x.Id, x.Wide, x.High, x.Holds, []⟩, ⟨none, 0, 0⟩⟩ (w.heap.size + 1 + 1) (by rw [size_al, size_al]))
  have Y := Lib.hid (show w.heap.size + 3 = _ from (by rw [size_al, size_al, size_al] : (((w.alloc (.cells #[.int .i64 x.Id, .int .i64 x.Wide, .int .i64 x.High, .int .i64 x.Holds, .slice h.a h.n h.c] 59)).alloc (.cells #[.int .i64 0, .int .i64 0, .int .i64 0, .int .i64 0, .slice none 0 0] 42)).alloc (.cells #[.int .i64 x.Id, .int .i64 x.Wide, .int .i64 x.High, .int .i64 x.Holds, .slice none 0 0] 42)).heap.size = w.heap.size + 3).symm)
  clear hi b0
  go_enter Try.func42, Try.ntmps42
  go_wp2_with fail
  refine (toIntS_h _ _ _ x.Flats _ S.out hsz).mono ?_
  rintro e w4 ⟨h', rfl, H', hb⟩
  have y1 := Z1.out.below hb
  have y2 := Z2.out.below hb
  have hl : w.heap.size ≤ w4.heap.size := Nat.le_trans B0.out.size hb.size
  have B4 := Lib.hid (Below.then' B0.out hb)
  have HH := Lib.hid H'
  have Y2 := Lib.hid (y2.setS x.Flats h')
  have Y1 := Lib.hid (y1.other (j := 4) (b' := w.heap.size + 1 + 1) (by omega) (.slice h'.a h'.n h'.c))
  obtain ⟨d0, d1, d2, d3, d4⟩ := y2.cells
  have f0 := y1.free 0
  have f1 := y1.free 1
  have f2 := y1.free 2
  have f3 := y1.free 3
  have f4 := y1.free 4
  have g4 := y2.free 4
  obtain ⟨c0, c1, c2, c3, c4⟩ := y1.cells
  clear hb H' y1 y2
  go_wp2
  refine bodyPost_ret (resultsDrawer1 rfl rfl (Y1.out.setAll ⟨x, h'⟩)) rfl ⟨h', rfl, ?_, ?_⟩
  · have y0 := Y.out
    have H := HH.out
    refine (H.turned (lo' := w.heap.size + 1) (hi' := w.heap.size + 3) ?_ (.inr (by omega))).mono (by omega) (by simp)
    exact ((((((Turned.refl (w.heap.size + 1) (w.heap.size + 3) w4).setCell (by simp; try omega) (by simp; try omega) _).setCell (by simp; try omega) (by simp; try omega) _).setCell (by simp; try omega) (by simp; try omega) _).setCell (by simp; try omega) (by simp; try omega) _).setCell (by simp; try omega) (by simp; try omega) _).setCell (by simp; try omega) (by simp; try omega) _
  · exact ((((((B4.out).setCell (by simp; try omega) _).setCell (by simp; try omega) _).setCell (by simp; try omega) _).setCell (by simp; try omega) _).setCell (by simp; try omega) _).setCell (by simp; try omega) _

set_option maxHeartbeats 6400000 in
set_option maxRecDepth 100000 in
theorem toDrawerS_o (a : Option Addr) (len cap : Nat) (xs : List VDrawer) (w : World) (h : IsDrawerS w a len cap xs) (hsz : condDrawer xs) :
    Calls Try.prog 38 #[.slice a len cap] w (DrawerOPost xs w) := by
  obtain rfl := h.1
  obtain ⟨i0, hi, hz0, hz1, hz2⟩ := info_parts infoDrawer
  have S := Lib.hid h
  have C := Lib.hid hsz
  have hx := condDrawer_len hsz
  clear h hsz
  go_enter Try.func38, Try.ntmps38
  go_wp2_with (refine wpList_make_full _ rfl _ _ 25 rfl w.heap.size 42 i0 (.agg #[.int .i64 0, .int .i64 0, .int .i64 0, .int .i64 0, .slice none 0 0]) 5 Try.underlying25 hi hz0 hz1 .i64 .i64 _ _ xs.length rfl rfl rfl rfl (by rw [hz2]; omega) (by unfold maxLen; omega) (Nat.le_refl _) ?_; intro w1 hown hgrow)
  have hb1 : Below w.heap.size w w1 := (Below.refl _ _).grown hgrow (Nat.le_refl _) (fun k e => by cases e)
  have H1 := Lib.hid hown
  have hg1 := (hown.lt w.heap.size rfl).2
  clear hown hgrow
  go_loopw [4] (fun i wr => ∃ (k : Nat) (ps : List PDrawer), k ≤ xs.length ∧ i = .int .i64 k ∧ ps.map PDrawer.x = xs.take k ∧ Below w.heap.size w wr ∧ w.heap.size < wr.heap.size ∧ wr.ownsRow w.heap.size 42 5 (.slice (some ⟨w.heap.size, 0, none⟩) xs.length xs.length) xs.length (cellsDrawer ps ++ (zerosDrawer xs.length).drop (k * 5)) ∧ InnerDrawer w.heap.size wr.heap.size wr (some w.heap.size) ps) (fun i _ => xs.length - (intOf i).toNat)
  case atStart => exact ⟨0, [], Nat.zero_le _, rfl, rfl, hb1, hg1, by have h := H1.out; rw [madeDrawer] at h; simpa [cellsDrawer] using h, nil_InnerDrawer _ _ _ _⟩
  case round =>
    obtain ⟨k, ps, hk, rfl, hps, hbel, hgw, hown, hinn⟩ := hrel
    have O := Lib.hid hown
    have B := Lib.hid hbel
    have N := Lib.hid hinn
    have PS := Lib.hid hps
    have hpl : ps.length = k := by have := congrArg List.length PS.out; rw [List.length_map, List.length_take] at this; omega
    have PL := Lib.hid hpl
    clear hps hinn hpl
    by_cases hlt : k < xs.length
    · obtain ⟨x, hx1⟩ : ∃ x, xs[k]? = some x := ⟨xs[k]'hlt, List.getElem?_eq_getElem _⟩
      obtain ⟨b, o, rfl, hb, hat⟩ := (S.out.below hbel).at (by omega)
      obtain ⟨hd, c0, c1, c2, c3, c4, hi4⟩ := hat k x hx1
      have K := Lib.hid hx1
      have I4 := Lib.hid hi4
      have hm := S.out.2.2.1
      unfold maxLen at hm
      clear hown hbel hx1 hat hi4
      go_wp2_with fail
      refine (toDrawer_any x hd _ I4.out (condDrawer_at C.out K.out)).mono ?_
      rintro e w2 ⟨h', rfl, H', hb2⟩
      have O2 := Lib.hid (ownsRow_below O.out hb2)
      have B2 := Lib.hid (Below.then' B.out hb2)
      have N2 := Lib.hid (N.out.below hb2)
      have HH := Lib.hid H'
      have hs2 := hb2.size
      clear hb2 H' c0 c1 c2 c3 c4
      have f0 := O2.out.frozenAt (k * 5)
      have f1 := O2.out.frozenAt (k * 5 + 1)
      have f2 := O2.out.frozenAt (k * 5 + 2)
      have f3 := O2.out.frozenAt (k * 5 + 3)
      have f4 := O2.out.frozenAt (k * 5 + 4)
      obtain ⟨u0, d0⟩ := own_cell O2.out (k * 5) (by have := PL.out; rw [List.length_append, cellsDrawer_len, List.length_drop, zerosDrawer_len]; omega)
      obtain ⟨u1, d1⟩ := own_cell O2.out (k * 5 + 1) (by have := PL.out; rw [List.length_append, cellsDrawer_len, List.length_drop, zerosDrawer_len]; omega)
      obtain ⟨u2, d2⟩ := own_cell O2.out (k * 5 + 2) (by have := PL.out; rw [List.length_append, cellsDrawer_len, List.length_drop, zerosDrawer_len]; omega)
      obtain ⟨u3, d3⟩ := own_cell O2.out (k * 5 + 3) (by have := PL.out; rw [List.length_append, cellsDrawer_len, List.length_drop, zerosDrawer_len]; omega)
      obtain ⟨u4, d4⟩ := own_cell O2.out (k * 5 + 4) (by have := PL.out; rw [List.length_append, cellsDrawer_len, List.length_drop, zerosDrawer_len]; omega)
      go_wp2
      go_roundw
      case rel =>
        have h5 := storedDrawer O2.out (by rw [cellsDrawer_len, PL.out]) (by rw [zerosDrawer_len]; omega) (.int .i64 x.Id) (.int .i64 x.Wide) (.int .i64 x.High) (.int .i64 x.Holds) (.slice h'.a h'.n h'.c)
        refine ⟨k + 1, ps ++ [⟨x, h'⟩], by omega, by go_num, ?_, B2.out.grown h5.2 B2.out.size (fun j e => by cases e; exact Nat.le_refl _), Nat.lt_of_lt_of_le (by omega) h5.2.size, ?_, ?_⟩
        · rw [List.map_append, PS.out, List.take_add_one, K.out]; rfl
        · rw [cellsDrawer_snoc, List.append_assoc, show (k + 1) * 5 = k * 5 + 5 by omega]
          exact h5.1
        · have H2 := OwnIn.turned HH.out (Turned.of_grown (lo := w.heap.size) (hi := w.heap.size + 1) h5.2 (fun b e => by cases e; omega)) (.inr (by omega))
          exact ((N2.out.grown h5.2).snoc (p := ⟨x, h'⟩) H2 (by omega) (by omega) (fun b e => by cases e; omega)).mono (Nat.le_refl _) h5.2.size
      case measure => simp [intOf]; omega
    · obtain rfl : k = xs.length := by omega
      clear hown hbel
      have hm := S.out.2.2.1
      unfold maxLen at hm
      go_wp2
      go_ret
      refine ⟨_, rfl, ⟨ps, by rw [PS.out, List.take_of_length_le (Nat.le_refl _)], OwnIn.of_row ?_ (Nat.le_refl _) (Nat.le_refl _), N.out⟩, B.out⟩
      have h := O.out
      rw [List.drop_of_length_le (by rw [zerosDrawer_len]; omega), List.append_nil] at h
      rw [PL.out]
      exact h
set_option maxHeartbeats 3200000 in
theorem szDrawer_any (x : VDrawer) (h : Hd) (left : Int) (w : World) (hi : IsInts w h.a h.n h.c x.Flats) (h0 : 0 ≤ left) (h1 : left ≤ 1048576) :
    Calls Try.prog 40 #[.agg #[.int .i64 x.Id, .int .i64 x.Wide, .int .i64 x.High, .int .i64 x.Holds, .slice h.a h.n h.c], .int .i64 left] w fun e w' => (∃ z : Int, e = .returned (.int .i64 z) ∧ (z < 0 ∨ (z = left - (x.Flats.length : Int) ∧ 0 ≤ z))) ∧ Below w.heap.size w w' := by
  have b0 := bel_al1 w (.cells #[.int .i64 x.Id, .int .i64 x.Wide, .int .i64 x.High, .int .i64 x.Holds, .slice h.a h.n h.c] 59)
  have S := Lib.hid (hi.below b0)
  have B0 := Lib.hid b0
  clear hi b0
  go_enter Try.func40, Try.ntmps40
  go_wp2_with fail
  refine (szIntS_left _ _ _ x.Flats left _ S.out h0 h1).mono ?_
  rintro e w2 ⟨⟨z, rfl, hz⟩, rfl⟩
  by_cases hn : z < 0
  · go_wp2
    go_ret
    exact ⟨⟨-1, rfl, .inl (by omega)⟩, B0.out⟩
  · go_wp2
    go_ret
    exact ⟨⟨z, rfl, hz⟩, B0.out⟩
set_option maxHeartbeats 3200000 in
theorem szDrawerS_o (a : Option Addr) (len cap : Nat) (xs : List VDrawer) (left : Int) (w : World) (h : IsDrawerS w a len cap xs) (h0 : 0 ≤ left) (h1 : left ≤ 1048576) :
    Calls Try.prog 37 #[.slice a len cap, .int .i64 left] w fun e w' => ∃ z : Int, e = .returned (.int .i64 z) ∧ z ≤ left ∧ (0 ≤ z → condDrawer xs) ∧ Below w.heap.size w w' := by
  obtain rfl := h.1
  have hm := h.2.2.1
  have hcl := h.2.1
  unfold maxLen at hm
  have S := Lib.hid h
  clear h
  by_cases hlt : left < (xs.length : Int)
  · have hn : left - (xs.length : Int) < 0 := by omega
    go_enter Try.func37, Try.ntmps37
    go_wp2
    go_ret
    exact ⟨-1, rfl, by omega, by omega, Below.refl _ _⟩
  · have hn : ¬ left - (xs.length : Int) < 0 := by omega
    have hn2 : 0 ≤ left - (xs.length : Int) := by omega
    obtain ⟨l0, hl0⟩ : ∃ l0, left - (xs.length : Int) = l0 := ⟨_, rfl⟩
    have b0 : 0 ≤ l0 := by omega
    have b1 : l0 ≤ left := by omega
    have L0 := Lib.hid hl0
    clear hl0
    go_enter Try.func37, Try.ntmps37
    go_wp2
    go_loopw [1, 5] (fun l i wr => ∃ (k : Nat) (y : Int), k ≤ xs.length ∧ i = .int .i64 k ∧ l = .int .i64 y ∧ 0 ≤ y ∧ y ≤ left ∧ y + ((xs.length - k : Nat) : Int) + (sizeDrawer (xs.take k) : Int) = left ∧ Below w.heap.size w wr) (fun _ i _ => xs.length - (intOf i).toNat)
    case atStart => exact ⟨0, l0, Nat.zero_le _, rfl, by rw [L0.out], b0, b1, by have := L0.out; simp [sizeDrawer]; omega, Below.refl _ _⟩
    case round =>
      obtain ⟨k, y, hk, rfl, rfl, y0, y1, hsum, hbel⟩ := hrel
      have SM := Lib.hid hsum
      have B := Lib.hid hbel
      clear hsum
      by_cases hlt2 : k < xs.length
      · obtain ⟨x, hx⟩ : ∃ x, xs[k]? = some x := ⟨xs[k]'hlt2, List.getElem?_eq_getElem _⟩
        obtain ⟨b, o, rfl, hb, hat⟩ := (S.out.below hbel).at (by omega)
        obtain ⟨hd, c0, c1, c2, c3, c4, hi4⟩ := hat k x hx
        have I4 := Lib.hid hi4
        have K := Lib.hid hx
        have hi0 : (0 : Int) ≤ (k : Int) := by omega
        have hi1 : (k : Int) < (xs.length : Int) := by omega
        clear hbel hx hat hi4
        go_wp2_with fail
        refine (szDrawer_any x hd y _ I4.out y0 (by omega)).mono ?_
        rintro e w2 ⟨⟨z, rfl, hz⟩, hb2⟩
        have B2 := Lib.hid (Below.then' B.out hb2)
        have Z := Lib.hid hz
        clear hb2 hz
        by_cases hz0 : z < 0
        · go_wp2
          go_ret
          exact ⟨-1, rfl, by omega, by omega, B2.out⟩
        · go_wp2
          go_roundw
          case rel =>
            have h3 : z = y - (x.Flats.length : Int) := by rcases Z.out with h | h <;> omega
            have h4 := SM.out
            have h5 := sizeDrawer_take K.out
            exact ⟨k + 1, z, by omega, by go_num, rfl, by omega, by omega, by omega, B2.out⟩
          case measure => simp [intOf]; omega
      · obtain rfl : k = xs.length := by omega
        clear hbel
        go_wp2
        go_ret
        refine ⟨y, rfl, by omega, fun _ => ?_, B.out⟩
        have h4 := SM.out
        rw [List.take_of_length_le (Nat.le_refl _)] at h4
        unfold condDrawer
        omega
set_option maxHeartbeats 3200000 in
set_option maxRecDepth 100000 in
theorem eqDrawer_yes (x : VDrawer) (h h' : Hd) (w : World) (hi : IsInts w h.a h.n h.c x.Flats) (hi' : IsInts w h'.a h'.n h'.c x.Flats) :
    Calls Try.prog 43 #[.agg #[.int .i64 x.Id, .int .i64 x.Wide, .int .i64 x.High, .int .i64 x.Holds, .slice h.a h.n h.c], .agg #[.int .i64 x.Id, .int .i64 x.Wide, .int .i64 x.High, .int .i64 x.Holds, .slice h'.a h'.n h'.c]] w fun e w' => e = .returned (.bool true) ∧ Below w.heap.size w w' := by
  have b0 := bel_al2 w (.cells #[.int .i64 x.Id, .int .i64 x.Wide, .int .i64 x.High, .int .i64 x.Holds, .slice h.a h.n h.c] 42) (.cells #[.int .i64 x.Id, .int .i64 x.Wide, .int .i64 x.High, .int .i64 x.Holds, .slice h'.a h'.n h'.c] 42)
  have S := Lib.hid (hi.below b0)
  have S' := Lib.hid (hi'.below b0)
  have B0 := Lib.hid b0
  clear hi hi' b0
  go_enter Try.func43, Try.ntmps43
  go_wp2_with fail
  first
    | (refine (eqIntS_yes _ _ _ _ _ _ x.Flats _ S.out S'.out).mono ?_; rintro e w2 ⟨rfl, hb⟩; have B2 := Lib.hid (Below.then' B0.out hb); clear hb; go_wp2; go_ret; exact ⟨rfl, B2.out⟩)
    | (go_region_with (go_at_call 50; refine (eqIntS_yes _ _ _ _ _ _ x.Flats _ (S.out.below (bel_drew' (Below.refl _ _))) (S'.out.below (bel_drew' (Below.refl _ _)))).mono ?_; rintro e w2 ⟨rfl, hb⟩; have B2 := Lib.hid (Below.then' (bel_drew' B0.out) hb); clear hb)
       all_goals go_wp2
       all_goals go_ret
       all_goals exact ⟨rfl, B2.out⟩)
set_option maxHeartbeats 6400000 in
set_option maxRecDepth 100000 in
theorem eqDrawerS_yes (a : Option Addr) (len cap : Nat) (a' : Option Addr) (len' cap' : Nat) (xs : List VDrawer) (w : World) (h : IsDrawerS w a len cap xs) (h' : IsDrawerS w a' len' cap' xs) :
    Calls Try.prog 39 #[.slice a len cap, .slice a' len' cap'] w fun e w' => e = .returned (.bool true) ∧ Below w.heap.size w w' := by
  obtain rfl := h.1
  obtain rfl := h'.1
  have hm := h.2.2.1
  have hcl := h.2.1
  unfold maxLen at hm
  have S := Lib.hid h
  have S' := Lib.hid h'
  clear h h'
  go_enter Try.func39, Try.ntmps39
  go_wp2
  go_loopw [5] (fun i wr => ∃ k : Nat, k ≤ xs.length ∧ i = .int .i64 k ∧ Below w.heap.size w wr) (fun i _ => xs.length - (intOf i).toNat)
  case atStart => exact ⟨0, Nat.zero_le _, rfl, Below.refl _ _⟩
  case round =>
    obtain ⟨k, hk, rfl, hbel⟩ := hrel
    have B := Lib.hid hbel
    by_cases hlt : k < xs.length
    · obtain ⟨x, hx⟩ : ∃ x, xs[k]? = some x := ⟨xs[k]'hlt, List.getElem?_eq_getElem _⟩
      obtain ⟨b, o, rfl, hb, hat⟩ := (S.out.below hbel).at (by omega)
      obtain ⟨b', o', rfl, hb', hat'⟩ := (S'.out.below hbel).at (by omega)
      obtain ⟨hd, c0, c1, c2, c3, c4, hi4⟩ := hat k x hx
      obtain ⟨hd', d0, d1, d2, d3, d4, hi4'⟩ := hat' k x hx
      have I4 := Lib.hid hi4
      have I4' := Lib.hid hi4'
      have hi0 : (0 : Int) ≤ (k : Int) := by omega
      have hi1 : (k : Int) < (xs.length : Int) := by omega
      clear hbel hx hat hat' hi4 hi4'
      go_wp2
      go_region_with (go_at_call 43; refine (eqDrawer_yes x hd hd' _ (I4.out.below (bel_drew' (Below.refl _ _))) (I4'.out.below (bel_drew' (Below.refl _ _)))).mono ?_; rintro e w1 ⟨rfl, hb1⟩; have B1 := Lib.hid (Below.then' (bel_drew' B.out) hb1); clear hb1)
      all_goals go_wp2
      all_goals go_roundw
      all_goals first
        | exact ⟨k + 1, by omega, by go_num, B1.out⟩
        | (simp [intOf]; omega)
    · obtain rfl : k = xs.length := by omega
      clear hbel
      go_wp2
      go_ret
      exact ⟨rfl, B.out⟩
theorem markIntS_Drawer (lo : Nat) (h : Hd) (zs : List Int) (kk : Nat) (y : Int) (w : World) (hy : ((kk : Nat) : Int) = y) (hown : w.ownsRow lo 3 1 (.slice h.a h.n h.c) zs.length (intCells zs)) (hk : kk ≤ 1000000000) (hn : zs.length ≤ 1000000000) :
    Calls Try.prog 51 #[.slice h.a h.n h.c, .int .i64 y] w fun e w' => (∃ u : Int, e = .returned (.int .i64 u) ∧ u = y + (zs.length : Int)) ∧ w'.ownsRow lo 3 1 (.slice h.a h.n h.c) zs.length (intCells (marksI kk zs.length)) ∧ w.grownBy w' h.blk := by
  rw [← hy]
  exact (markIntS_any lo _ zs.length kk (intCells zs) w hown hk hn).mono fun e w' ⟨h1, h2, h3⟩ => ⟨⟨_, h1, by omega⟩, h2, h3⟩
/-- What one row's marks leave. -/
def DrawerSMarked (lo hi : Nat) (v : Value) (xs : List VDrawer) (k : Nat) (w : World) (e : Ending) (w' : World) : Prop := e = .returned (.int .i64 ((k + cntDrawer xs : Nat) : Int)) ∧ OwnDrawerS lo hi w' v (mkDrawer k xs) ∧ Turned lo hi w w'
set_option maxHeartbeats 6400000 in
set_option maxRecDepth 100000 in
theorem markDrawerS_o (lo hi : Nat) (v : Value) (xs : List VDrawer) (k : Nat) (w : World) (h : OwnDrawerS lo hi w v xs) (hk : k + cntDrawer xs ≤ 100000000) :
    Calls Try.prog 47 #[v, .int .i64 (k : Int)] w (DrawerSMarked lo hi v xs k w) := by
  obtain ⟨ps, hps, hraw⟩ := h
  have hpl : ps.length = xs.length := by rw [← hps, List.length_map]
  have hraw0 := hraw
  rcases hraw0.1.1.2 with ⟨rfl, h0⟩ | ⟨g, cap, cur, rfl, hg, hh, hncap, hcap, _⟩
  · have hx : xs = [] := List.length_eq_zero_iff.1 (by omega)
    subst hx
    have H := Lib.hid hraw
    have hp0 : ps = [] := List.length_eq_zero_iff.1 (by omega)
    have P0 := Lib.hid hp0
    clear hraw hraw0 hps hpl hp0 h0
    go_enter Try.func47, Try.ntmps47
    go_wp2
    refine wp_loop_rounds 1 ?_
    rw [rounds_succ]
    go_wp2
    go_ret
    exact ⟨rfl, ⟨ps, by rw [P0.out]; rfl, H.out⟩, Turned.refl _ _ _⟩
  clear hh hraw0
  have glt := (hraw.1.lt (b := g) rfl)
  have H := Lib.hid hraw
  have PS := Lib.hid hps
  rw [hpl]
  rw [hpl] at hncap H
  unfold maxLen at hcap
  have PL := Lib.hid hpl
  have HK := Lib.hid hk
  clear hraw hps hpl hk
  go_enter Try.func47, Try.ntmps47
  go_wp2
  go_loopw [1, 5] (fun q i wr => ∃ (j : Nat) (ps : List PDrawer), j ≤ xs.length ∧ i = .int .i64 j ∧ q = .int .i64 ((k + cntDrawer (xs.take j) : Nat) : Int) ∧ ps.map PDrawer.x = mkDrawer k (xs.take j) ++ xs.drop j ∧ RawDrawer lo hi wr (.slice (some ⟨g, 0, none⟩) xs.length cap) ps ∧ Turned lo hi w wr) (fun _ i _ => xs.length - (intOf i).toNat)
  case atStart => exact ⟨0, ps, Nat.zero_le _, rfl, by simp [cntDrawer], by rw [PS.out]; simp [mkDrawer], H.out, Turned.refl _ _ _⟩
  case round =>
    obtain ⟨j, ps, hj, rfl, rfl, hps, hraw, htn⟩ := hrel
    have R := Lib.hid hraw
    have T0 := Lib.hid htn
    have PS := Lib.hid hps
    clear hraw htn hps
    by_cases hlt : j < xs.length
    · obtain ⟨x, hx⟩ : ∃ x, xs[j]? = some x := ⟨xs[j]'hlt, List.getElem?_eq_getElem _⟩
      have hml : (mkDrawer k (xs.take j)).length = j := by rw [mkDrawer_len, List.length_take]; omega
      obtain ⟨p, hp, hpx⟩ : ∃ p, ps[j]? = some p ∧ p.x = x := by
        have h1 := congrArg (fun l : List VDrawer => l[j]?) PS.out
        simp only [List.getElem?_map] at h1
        rw [List.getElem?_append_right (by omega), hml, Nat.sub_self, List.getElem?_drop, Nat.add_zero, hx] at h1
        cases hq : ps[j]? with
        | none => rw [hq] at h1; cases h1
        | some p => rw [hq] at h1; exact ⟨p, rfl, by simpa using h1⟩
      obtain ⟨px, hp'⟩ := p
      obtain rfl : px = x := hpx
      obtain ⟨c0, c1, c2, c3, c4, _⟩ := R.out.elem hp
      have hcl := cntDrawer_take_le xs (j + 1)
      rw [cntDrawer_take hx] at hcl
      obtain ⟨y, hy⟩ : ∃ y : Int, ((k + cntDrawer (xs.take j) : Nat) : Int) = y := ⟨_, rfl⟩
      have y0 : 0 ≤ y := by omega
      have y1 : y ≤ 100000000 := by have := HK.out; omega
      have hx2 : px.Flats.length ≤ 100000000 := by have := HK.out; omega
      rw [hy]
      have HY := Lib.hid hy
      have K := Lib.hid hx
      have KP := Lib.hid hp
      have ML := Lib.hid hml
      have CL := Lib.hid hcl
      have f0 := R.out.free (j * 5)
      have f1 := R.out.free (j * 5 + 1)
      have f2 := R.out.free (j * 5 + 2)
      have f3 := R.out.free (j * 5 + 3)
      have i0 : (0 : Int) ≤ (j : Int) := by omega
      have i1 : (j : Int) < (xs.length : Int) := by omega
      have SI := Lib.hid (R.out.setInts KP.out y (y + 1) (y + 1 + 1) (y + 1 + 1 + 1))
      clear hy hx hp hml hcl
      have hset : (ps.set j ⟨⟨y, (y + 1), (y + 1 + 1), (y + 1 + 1 + 1), px.Flats⟩, hp'⟩)[j]? = some ⟨⟨y, (y + 1), (y + 1 + 1), (y + 1 + 1 + 1), px.Flats⟩, hp'⟩ := List.getElem?_set_self (List.getElem?_eq_some_iff.1 KP.out).1
      have HS := Lib.hid hset
      clear hset
      go_wp2_with fail
      refine (markIntS_Drawer lo hp' px.Flats (k + cntDrawer (xs.take j) + 4) (y + 1 + 1 + 1 + 1) _ (by have := HY.out; omega) (SI.out.1.2.1 j _ HS.out).1 (by have := HK.out; have := CL.out; omega) (by omega)).mono ?_
      rintro e w2 ⟨⟨u, rfl, hu⟩, hown2, hg2⟩
      have U := Lib.hid hu
      have R2 := Lib.hid (SI.out.1.inner HS.out (zs := marksI (k + cntDrawer (xs.take j) + 4) px.Flats.length) (by rw [marksI_len]) hown2 hg2)
      have T2 := Lib.hid ((T0.out.trans (Turned.of_grown SI.out.2 (fun b e => by cases e; omega))).trans (Turned.of_grown hg2 (fun b e => by have := (SI.out.1.2.1 j _ HS.out).lt e; omega)))
      clear hu hown2 hg2 c0 c1 c2 c3 c4 f0 f1 f2 f3
      go_wp2
      go_roundw
      case rel =>
        have hcnt := cntDrawer_take K.out
        refine ⟨j + 1, _, by omega, by go_num, int_eq (by have := U.out; have := HY.out; omega), ?_, R2.out, T2.out⟩
        rw [List.set_set, List.map_set, PS.out, mkDrawer_take K.out, List.set_append_right _ _ (by rw [ML.out]; exact Nat.le_refl _), ML.out, Nat.sub_self, List.append_assoc]
        refine congrArg (fun l => mkDrawer k (xs.take j) ++ l) ?_
        rw [List.drop_eq_getElem_cons hlt, List.set_cons_zero]
        refine cons_congr ?_ rfl
        have hy := HY.out
        unfold mkDrawer1
        simp only [VDrawer.mk.injEq]
        first | exact ⟨by omega, by omega, by omega, by omega, trivial⟩ | exact ⟨by omega, by omega, by omega, by omega, rfl⟩ | exact ⟨by omega, by omega, by omega, by omega⟩
      case measure => simp [intOf]; omega
    · obtain rfl : j = xs.length := by omega
      go_wp2
      go_ret
      refine ⟨?_, ⟨ps, ?_, R.out⟩, T0.out⟩
      · rw [List.take_of_length_le (Nat.le_refl _)]; rfl
      · have h := PS.out
        rw [List.take_of_length_le (Nat.le_refl _), List.drop_of_length_le (Nat.le_refl _), List.append_nil] at h
        exact h
theorem heldIntS_Drawer (h : Hd) (kk n0 : Nat) (y : Int) (w : World) (hy : ((kk : Nat) : Int) = y) (hi : IsInts w h.a h.n h.c (marksI kk n0)) (hk : kk ≤ 1000000000) (hn : n0 ≤ 1000000000) :
    Calls Try.prog 52 #[.slice h.a h.n h.c, .int .i64 y] w fun e w' => (∃ u : Int, e = .returned (.int .i64 u) ∧ u = y + (n0 : Int)) ∧ w = w' := by
  rw [← hy]
  have e : h.n = n0 := by rw [hi.1, marksI_len]
  rw [e] at hi
  rw [e]
  exact (heldIntS_any h.a n0 h.c kk w hi hk hn).mono fun e w' ⟨h1, h2⟩ => ⟨⟨_, h1, by omega⟩, h2⟩
set_option maxHeartbeats 6400000 in
set_option maxRecDepth 100000 in
theorem heldDrawerS_o (a : Option Addr) (n c : Nat) (xs : List VDrawer) (k : Nat) (w : World) (h : IsDrawerS w a n c (mkDrawer k xs)) (hk : k + cntDrawer xs ≤ 100000000) :
    Calls Try.prog 48 #[.slice a n c, .int .i64 (k : Int)] w fun e w' => e = .returned (.int .i64 ((k + cntDrawer xs : Nat) : Int)) ∧ Below w.heap.size w w' := by
  have hn : n = xs.length := by rw [h.1, mkDrawer_len]
  subst hn
  have hm := h.2.2.1
  have hcl := h.2.1
  unfold maxLen at hm
  have S := Lib.hid h
  have HK := Lib.hid hk
  clear h hk
  go_enter Try.func48, Try.ntmps48
  go_wp2
  go_loopw [1, 5] (fun q i wr => ∃ j : Nat, j ≤ xs.length ∧ i = .int .i64 j ∧ q = .int .i64 ((k + cntDrawer (xs.take j) : Nat) : Int) ∧ Below w.heap.size w wr) (fun _ i _ => xs.length - (intOf i).toNat)
  case atStart => exact ⟨0, Nat.zero_le _, rfl, by simp [cntDrawer], Below.refl _ _⟩
  case round =>
    obtain ⟨j, hj, rfl, rfl, hbel⟩ := hrel
    have B := Lib.hid hbel
    by_cases hlt : j < xs.length
    · obtain ⟨x, hx⟩ : ∃ x, xs[j]? = some x := ⟨xs[j]'hlt, List.getElem?_eq_getElem _⟩
      obtain ⟨b, o, rfl, hb, hat⟩ := (S.out.below hbel).at (by omega)
      obtain ⟨hd, e0, e1, e2, e3, e4, hi4⟩ := hat j _ (mkDrawer_at hx k)
      have hcl := cntDrawer_take_le xs (j + 1)
      rw [cntDrawer_take hx] at hcl
      obtain ⟨y, hy⟩ : ∃ y : Int, ((k + cntDrawer (xs.take j) : Nat) : Int) = y := ⟨_, rfl⟩
      have y0 : 0 ≤ y := by omega
      have y1 : y ≤ 100000000 := by have := HK.out; omega
      have hx2 : x.Flats.length ≤ 100000000 := by have := HK.out; omega
      rw [hy]
      have HY := Lib.hid hy
      have K := Lib.hid hx
      have CL := Lib.hid hcl
      have I4 := Lib.hid hi4
      have c0 : wr.cell? ⟨b, o + j * 5, none⟩ = some (.int .i64 y) := e0.trans (congrArg some (int_eq (by simp only [mkDrawer1]; have := HY.out; omega)))
      have c1 : wr.cell? ⟨b, o + j * 5 + 1, none⟩ = some (.int .i64 (y + 1)) := e1.trans (congrArg some (int_eq (by simp only [mkDrawer1]; have := HY.out; omega)))
      have c2 : wr.cell? ⟨b, o + j * 5 + 2, none⟩ = some (.int .i64 (y + 1 + 1)) := e2.trans (congrArg some (int_eq (by simp only [mkDrawer1]; have := HY.out; omega)))
      have c3 : wr.cell? ⟨b, o + j * 5 + 3, none⟩ = some (.int .i64 (y + 1 + 1 + 1)) := e3.trans (congrArg some (int_eq (by simp only [mkDrawer1]; have := HY.out; omega)))
      have c4 := e4
      have i0 : (0 : Int) ≤ (j : Int) := by omega
      have i1 : (j : Int) < (xs.length : Int) := by omega
      clear hy hx hcl hi4 hat hbel e0 e1 e2 e3 e4
      go_wp2_with fail
      refine (heldIntS_Drawer hd (k + cntDrawer (xs.take j) + 4) x.Flats.length (y + 1 + 1 + 1 + 1) _ (by have := HY.out; omega) I4.out (by have := HK.out; have := CL.out; omega) (by omega)).mono ?_
      rintro e w2 ⟨⟨u, rfl, hu⟩, rfl⟩
      have hu0 : 0 ≤ u := by omega
      have U := Lib.hid hu
      clear hu c0 c1 c2 c3 c4
      go_wp2
      go_roundw
      case rel =>
        have hcnt := cntDrawer_take K.out
        exact ⟨j + 1, by omega, by go_num, int_eq (by have := U.out; have := HY.out; omega), B.out⟩
      case measure => simp [intOf]; omega
    · obtain rfl : j = xs.length := by omega
      clear hbel
      go_wp2
      go_ret
      exact ⟨by rw [List.take_of_length_le (Nat.le_refl _)]; rfl, B.out⟩
end Go.Proofs.Ytlmedhidkhphbaa
