/- Texts in one: DrawerL, Sheet2, Shs, Box, Ds6, FlatBy, DrawerBy, IntBy. -/
import Derived.Test.YtlmedhidkhphbaaM2
import Derived.Test.YtlmedhidkhphbaaM3
import Derived.Lib.SliceRun
import Derived.Test.YtlmedhidkhphbaaM1
import Derived.Laws.OwnMore
import Derived.Handy
import Derived.Laws.IdiomRangeMap
import Derived.Laws.AppendOwn
import Derived.Test.YtlmedhidkhphbaaM5
import Derived.Deep.AppendLies
namespace Go.Proofs.Ytlmedhidkhphbaa
open Go.RowKit
set_option maxHeartbeats 3200000 in
set_option maxRecDepth 100000 in
/-- The index of the first element that a function value likes. -/
theorem idxDrawer_any (K : FuncId) (caps : Array Value) (f : VDrawer → Bool) (a : Option Addr) (len cap : Nat) (xs : List VDrawer) (w : World) (h : IsDrawerS w a len cap xs)
    (hcall : ∀ args W, (callFunc K args).run Try.prog W = .ok (.enter K args) W)
    (hf : ∀ (W : World) (s : VDrawer) (hd : Hd), s ∈ xs → IsInts W hd.a hd.n hd.c s.Flats → Below w.heap.size w W → Calls Try.prog K (#[.agg #[.int .i64 s.Id, .int .i64 s.Wide, .int .i64 s.High, .int .i64 s.Holds, .slice hd.a hd.n hd.c]] ++ caps) W fun e w' => e = .returned (.bool (f s)) ∧ Below W.heap.size W w') :
    Calls Try.prog 111 #[.slice a len cap, .func (.func K) #[] caps] w fun e w' => e = .returned (.int .i64 (firstOf f xs)) ∧ Below w.heap.size w w' := by
  have hm := h.2.2.1
  have hcl := h.2.1
  unfold maxLen at hm
  have S := Lib.hid h
  have L := Lib.hid h.1
  have F := Lib.hid hf
  clear h hf
  go_enter Try.func111, Try.ntmps111
  go_wp2
  go_loopw [8, 5] (fun i _ wr => ∃ k : Nat, k ≤ len ∧ i = .int .i64 k ∧ Below w.heap.size w wr ∧ ∀ (j : Nat) t, j < k → xs[j]? = some t → f t = false) (fun i _ _ => len - (intOf i).toNat)
  case atStart => exact ⟨0, Nat.zero_le _, rfl, Below.refl _ _, by omega⟩
  case round =>
    obtain ⟨k, hk, rfl, hbel, hall⟩ := hrel
    have A := Lib.hid hall
    have B := Lib.hid hbel
    clear hall
    by_cases hlt : k < len
    · obtain ⟨s, hs⟩ := el_at L hlt
      obtain ⟨b, o, rfl, hb, hat⟩ := (S.out.below hbel).at (by omega)
      obtain ⟨hd, c0, c1, c2, c3, c4, hin⟩ := hat k s hs
      have HI := Lib.hid hin
      clear hin
      have X := Lib.hid hs
      clear hs hat hbel
      go_wp2_with fail
      refine (F.out wr s hd (List.mem_of_getElem? X.out) HI.out B.out).mono ?_
      rintro e w1 ⟨rfl, hb1⟩
      have B1 := Lib.hid (Below.then' B.out hb1)
      clear hb1
      by_cases hfs : f s = true
      · have FS := Lib.hid hfs
        rw [hfs]
        clear hfs
        go_wp2
        go_ret
        exact ⟨ret_int (firstOf_at X.out FS.out A.out).symm, B1.out⟩
      · have hfs' : f s = false := by simpa using hfs
        have FS := Lib.hid hfs'
        rw [hfs']
        clear hfs hfs'
        go_wp2
        go_roundw
        case rel => exact ⟨k + 1, by omega, by go_num, B1.out, fun j t hj ht => by
          by_cases e : j = k
          · subst e; rw [X.out] at ht; cases ht; exact FS.out
          · exact A.out j t (by omega) ht⟩
        case measure => simp [intOf]; omega
    · obtain rfl : k = len := by omega
      clear hbel
      go_wp2
      go_ret
      exact ⟨ret_int (firstOf_no fun j t hj ht => A.out j t (by have := L.out; omega) ht).symm, B.out⟩
/-- A clone: a row of the call's own; the slices inside are still those of the argument. -/
def DrawerCloned (xs : List VDrawer) (w : World) (e : Ending) (w' : World) : Prop := ∃ (v : Value) (ps : List PDrawer), e = .returned v ∧ ps.map PDrawer.x = xs ∧ w'.ownsRow w.heap.size 42 5 v xs.length (cellsDrawer ps) ∧ (∀ (k : Nat) p, ps[k]? = some p → IsInts w p.h.a p.h.n p.h.c p.x.Flats) ∧ Below w.heap.size w w'
theorem made_ownDrawer (w : World) (base : Nat) (h : base ≤ w.heap.size) : (w.alloc (.cells #[] 42)).ownsRow base 42 5 (.slice (some ⟨w.heap.size, 0, none⟩) 0 0) 0 [] :=
  World.ownsRow_made (base := base) (e := 42) (size := 5) w #[] 0 h (Nat.zero_le _) rfl
set_option maxHeartbeats 3200000 in
set_option maxRecDepth 100000 in
theorem cloneDrawer_any (a : Option Addr) (len cap : Nat) (xs : List VDrawer) (w : World) (h : IsDrawerS w a len cap xs) (hx : xs.length ≤ 1048576) :
    Calls Try.prog 113 #[.slice a len cap] w (DrawerCloned xs w) := by
  obtain rfl := h.1
  obtain ⟨i0, hi, hz0, hz1, hz2⟩ := info_parts infoDrawer
  cases a with
  | none =>
    have h0 : xs.length = 0 := by
      rcases h.2.2.2 with h0 | ⟨b, o, e, _⟩
      · exact h0
      · cases e
    obtain rfl : xs = [] := List.length_eq_zero_iff.1 h0
    clear h h0
    have hnil := fun w a n c n' c' => Lib.run_eql_slice_nil (P := Try.prog) w 25 42 a n c n' c' Try.underlying25
    go_enter Try.func113, Try.ntmps113
    go_wp2
    go_ret
    exact ⟨_, [], rfl, rfl, ⟨by simp [cellsDrawer], .inl ⟨rfl, rfl⟩⟩, fun k p hp => by simp at hp, Below.refl _ _⟩
  | some ad =>
    obtain ⟨ps, hps, hsrc, hin⟩ := h.src
    have PS := Lib.hid hps
    have IN := Lib.hid hin
    have B0 := Lib.hid (bel_al1 w (.cells #[] 42))
    have O0 := made_ownDrawer w w.heap.size (Nat.le_refl _)
    have SRC : SrcAt (w.alloc (.cells #[] 42)) (some ad) xs.length 5 (cellsDrawer ps) := by
      refine ⟨hsrc.1, hsrc.2.imp id ?_⟩
      rintro ⟨ad', e', hc⟩
      exact ⟨ad', e', fun j u hj => (B0.out.cell (World.block_lt_of_cell? w _ (hc j u hj))).trans (hc j u hj)⟩
    have SZ := Lib.hid (size_al w (.cells #[] 42))
    clear h hps hsrc hin
    have hnil := fun w a n c n' c' => Lib.run_eql_slice_nil (P := Try.prog) w 25 42 a n c n' c' Try.underlying25
    go_enter Try.func113, Try.ntmps113
    go_wp2_with (at_builtin; refine wpList_append_list rfl _ _ 25 rfl w.heap.size 42 i0 (.agg #[.int .i64 0, .int .i64 0, .int .i64 0, .int .i64 0, .slice none 0 0]) 5 56 Try.underlying25 hi hz0 hz1 hz2 rfl (by decide) _ _ _ rfl O0 _ xs.length cap (cellsDrawer ps) rfl SRC (one_Drawer ps) (by simp; unfold maxLen; omega) (by simp; omega) (by rw [SZ.out]; omega) ?_; intro v1 w1 hown1 hgrow1; have B1 := Lib.hid (B0.out.grown hgrow1 (by rw [SZ.out]; omega) (fun k e => by have := own_is e; omega)); have O1 := Lib.hid hown1; clear hown1 hgrow1)
    go_ret
    refine ⟨v1, ps, rfl, PS.out, ?_, IN.out, B1.out⟩
    have h := O1.out
    simpa [cellsDrawer] using h
end Go.Proofs.Ytlmedhidkhphbaa
namespace Go.Proofs.Ytlmedhidkhphbaa
open Go.RowKit

/-- A sheet in a block of its own, as the box of a parameter. -/
def BoxAt (w : World) (b : Nat) (s : Sh) : Prop :=
  w.cell? ⟨b, 0, none⟩ = some (.int .i64 s.id) ∧ w.cell? ⟨b, 1, none⟩ = some (.int .i64 s.row) ∧ w.cell? ⟨b, 2, none⟩ = some (.int .i64 s.col) ∧ w.cell? ⟨b, 3, none⟩ = some (.int .i64 s.scale) ∧ w.cell? ⟨b, 4, none⟩ = some (.int .i64 s.year)
theorem boxAt_new (w : World) (t : TypeId) (s : Sh) (B : Nat) (hB : w.heap.size = B) : BoxAt (w.alloc (.cells #[.int .i64 s.id, .int .i64 s.row, .int .i64 s.col, .int .i64 s.scale, .int .i64 s.year] t)) B s := by
  subst hB
  refine ⟨?_, ?_, ?_, ?_, ?_⟩ <;> simp [World.cell?_alloc_new]
theorem BoxAt.lt {w : World} {b : Nat} {s : Sh} (h : BoxAt w b s) : b < w.heap.size := by
  by_cases hb : b < w.heap.size
  · exact hb
  · exfalso
    have := h.1
    rw [show w.cell? ⟨b, 0, none⟩ = none from by simp [World.cell?, Array.getElem?_eq_none (Nat.le_of_not_lt hb)]] at this
    cases this
theorem BoxAt.below {w w' : World} {b : Nat} {s : Sh} (h : BoxAt w b s) (hb : Below w.heap.size w w') : BoxAt w' b s :=
  ⟨(hb.cell (p := ⟨b, 0, none⟩) h.lt).trans h.1, (hb.cell (p := ⟨b, 1, none⟩) h.lt).trans h.2.1, (hb.cell (p := ⟨b, 2, none⟩) h.lt).trans h.2.2.1, (hb.cell (p := ⟨b, 3, none⟩) h.lt).trans h.2.2.2.1, (hb.cell (p := ⟨b, 4, none⟩) h.lt).trans h.2.2.2.2⟩
end Go.Proofs.Ytlmedhidkhphbaa
namespace Go.Proofs.Ytlmedhidkhphbaa
open Go.RowKit Go.ChangeShapes Go.WideShapes Go.Deep

/-- A sheet lies at block b from offset o on. -/
def ShAt (w : World) (b o : Nat) (s : Sh) : Prop :=
  w.cell? ⟨b, o, none⟩ = some (.int .i64 s.id) ∧ w.cell? ⟨b, o + 1, none⟩ = some (.int .i64 s.row) ∧ w.cell? ⟨b, o + 2, none⟩ = some (.int .i64 s.col) ∧ w.cell? ⟨b, o + 3, none⟩ = some (.int .i64 s.scale) ∧ w.cell? ⟨b, o + 4, none⟩ = some (.int .i64 s.year)
/-- The slice 'a len cap' holds the sheets xs. -/
def IsSheetS (w : World) (a : Option Addr) (len cap : Nat) (xs : List Sh) : Prop :=
  len = xs.length ∧ len ≤ cap ∧ cap ≤ maxLen ∧ (len = 0 ∨ ∃ b o, a = some ⟨b, o, none⟩ ∧ b < w.heap.size ∧ ∀ (k : Nat) s, xs[k]? = some s → ShAt w b (o + k * 5) s)

theorem ShAt.below {w w' : World} {b o : Nat} {s : Sh} (h : ShAt w b o s) (hb : Below w.heap.size w w') (hlt : b < w.heap.size) : ShAt w' b o s :=
  ⟨(hb.cell (p := ⟨b, o, none⟩) hlt).trans h.1, (hb.cell (p := ⟨b, o + 1, none⟩) hlt).trans h.2.1, (hb.cell (p := ⟨b, o + 2, none⟩) hlt).trans h.2.2.1, (hb.cell (p := ⟨b, o + 3, none⟩) hlt).trans h.2.2.2.1, (hb.cell (p := ⟨b, o + 4, none⟩) hlt).trans h.2.2.2.2⟩
theorem ShAt.block {w w' : World} {b o : Nat} {s : Sh} (h : ShAt w b o s) (hb : w'.heap[b]? = w.heap[b]?) : ShAt w' b o s :=
  ⟨(World.cell?_of_block (w := w) (a := ⟨b, o, none⟩) hb).trans h.1, (World.cell?_of_block (w := w) (a := ⟨b, o + 1, none⟩) hb).trans h.2.1, (World.cell?_of_block (w := w) (a := ⟨b, o + 2, none⟩) hb).trans h.2.2.1, (World.cell?_of_block (w := w) (a := ⟨b, o + 3, none⟩) hb).trans h.2.2.2.1, (World.cell?_of_block (w := w) (a := ⟨b, o + 4, none⟩) hb).trans h.2.2.2.2⟩
theorem IsSheetS.below {w w' : World} {a : Option Addr} {len cap : Nat} {xs : List Sh} (h : IsSheetS w a len cap xs) (hb : Below w.heap.size w w') : IsSheetS w' a len cap xs := by
  refine ⟨h.1, h.2.1, h.2.2.1, ?_⟩
  rcases h.2.2.2 with h0 | ⟨b, o, rfl, h1, h2⟩
  · exact .inl h0
  · exact .inr ⟨b, o, rfl, Nat.lt_of_lt_of_le h1 hb.size, fun k s hs => (h2 k s hs).below hb h1⟩
theorem IsSheetS.grown {w w' : World} {a : Option Addr} {len cap : Nat} {xs : List Sh} {row : Option Nat} (h : IsSheetS w a len cap xs) (hg : w.grownBy w' row) (hne : ∀ b o, a = some ⟨b, o, none⟩ → some b ≠ row) : IsSheetS w' a len cap xs := by
  refine ⟨h.1, h.2.1, h.2.2.1, ?_⟩
  rcases h.2.2.2 with h0 | ⟨b, o, rfl, h1, h2⟩
  · exact .inl h0
  · exact .inr ⟨b, o, rfl, Nat.lt_of_lt_of_le h1 hg.size, fun k s hs => (h2 k s hs).block (hg.block b h1 (hne b o rfl))⟩
theorem IsSheetS.at {w : World} {a : Option Addr} {len cap : Nat} {xs : List Sh} (h : IsSheetS w a len cap xs) (hpos : 0 < len) : ∃ b o, a = some ⟨b, o, none⟩ ∧ b < w.heap.size ∧ ∀ (k : Nat) s, xs[k]? = some s → ShAt w b (o + k * 5) s := by
  rcases h.2.2.2 with h0 | h1
  · omega
  · exact h1

theorem five {α : Type} (f : Nat → α) : (List.range 5).map f = [f 0, f 1, f 2, f 3, f 4] := rfl
/-- A sheet's five cells. -/
def Sh.cells (s : Sh) : List Value := [.int .i64 s.id, .int .i64 s.row, .int .i64 s.col, .int .i64 s.scale, .int .i64 s.year]
theorem Sh.cells_len (s : Sh) : s.cells.length = 5 := rfl
def shCells (xs : List Sh) : List Value := xs.flatMap Sh.cells
theorem shCells_len (xs : List Sh) : (shCells xs).length = xs.length * 5 := by
  induction xs with
  | nil => rfl
  | cons x xs ih => simp [shCells, Sh.cells_len] at *; omega
theorem shCells_snoc (xs : List Sh) (s : Sh) : shCells (xs ++ [s]) = shCells xs ++ s.cells := by simp [shCells]
theorem shCells_at {xs : List Sh} {k : Nat} {s : Sh} (h : xs[k]? = some s) (j : Nat) (hj : j < 5) : (shCells xs)[k * 5 + j]? = s.cells[j]? := by
  have hk : k < xs.length := (List.getElem?_eq_some_iff.1 h).1
  have e : xs = xs.take k ++ s :: xs.drop (k + 1) := by
    have h2 := List.take_append_drop k xs
    rw [List.drop_eq_getElem_cons hk] at h2
    have : xs[k] = s := by rw [List.getElem?_eq_getElem hk] at h; simpa using h
    rw [this] at h2; exact h2.symm
  have hl : (shCells (xs.take k)).length = k * 5 := by rw [shCells_len, List.length_take]; omega
  rw [e, show shCells (xs.take k ++ s :: xs.drop (k + 1)) = shCells (xs.take k) ++ (s.cells ++ shCells (xs.drop (k + 1))) from by simp [shCells], List.getElem?_append_right (by omega), hl, show k * 5 + j - k * 5 = j from by omega, List.getElem?_append_left (by rw [Sh.cells_len]; exact hj)]
theorem set5 (L1 L2 : List Value) (a0 a1 a2 a3 a4 v0 v1 v2 v3 v4 : Value) (o : Nat) (h : L1.length = o) :
    (((((L1 ++ a0 :: a1 :: a2 :: a3 :: a4 :: L2).set o v0).set (o + 1) v1).set (o + 2) v2).set (o + 3) v3).set (o + 4) v4 = L1 ++ v0 :: v1 :: v2 :: v3 :: v4 :: L2 := by
  subst h
  simp [List.set_append_right]
def zeros5 (n : Nat) : List Value := List.replicate (n * 5) (.int .i64 0)
theorem zeros5_succ (n : Nat) : zeros5 (n + 1) = .int .i64 0 :: .int .i64 0 :: .int .i64 0 :: .int .i64 0 :: .int .i64 0 :: zeros5 n := by
  unfold zeros5; rw [show (n + 1) * 5 = n * 5 + 1 + 1 + 1 + 1 + 1 from by omega]; simp [List.replicate_succ]
theorem made5 (n : Nat) : (madeCells (Value.agg #[.int .i64 0, .int .i64 0, .int .i64 0, .int .i64 0, .int .i64 0]).cells (n * 5)).toList = zeros5 n := by
  apply List.ext_getElem?
  intro j
  rw [Array.getElem?_toList]
  unfold zeros5
  by_cases h : j < n * 5
  · have hm : j % 5 < 5 := Nat.mod_lt _ (by decide)
    have e : ∀ m (hm : m < [Value.int .i64 0, Value.int .i64 0, Value.int .i64 0, Value.int .i64 0, Value.int .i64 0].length), [Value.int .i64 0, Value.int .i64 0, Value.int .i64 0, Value.int .i64 0, Value.int .i64 0][m]'hm = Value.int .i64 0 := by
      intro m hm
      have : m = 0 ∨ m = 1 ∨ m = 2 ∨ m = 3 ∨ m = 4 := by simp at hm; omega
      rcases this with rfl | rfl | rfl | rfl | rfl <;> rfl
    simp [madeCells, h, Value.cells, hm]
    exact e _ hm
  · simp [madeCells, h]
theorem stored5 {w : World} {base n c g : Nat} {e : TypeId} {size : Nat} {L1 L2 : List Value} {a0 a1 a2 a3 a4 : Value} (h : w.ownsRow base e size (.slice (some ⟨g, 0, none⟩) n c) n (L1 ++ a0 :: a1 :: a2 :: a3 :: a4 :: L2)) (o : Nat) (hl : L1.length = o) (v0 v1 v2 v3 v4 : Value) :
    (((((w.setCell ⟨g, o, none⟩ v0).setCell ⟨g, o + 1, none⟩ v1).setCell ⟨g, o + 2, none⟩ v2).setCell ⟨g, o + 3, none⟩ v3).setCell ⟨g, o + 4, none⟩ v4).ownsRow base e size (.slice (some ⟨g, 0, none⟩) n c) n (L1 ++ v0 :: v1 :: v2 :: v3 :: v4 :: L2) ∧
    w.grownBy (((((w.setCell ⟨g, o, none⟩ v0).setCell ⟨g, o + 1, none⟩ v1).setCell ⟨g, o + 2, none⟩ v2).setCell ⟨g, o + 3, none⟩ v3).setCell ⟨g, o + 4, none⟩ v4) (some g) := by
  have h0 := h.stored o v0
  have h1 := h0.1.stored (o + 1) v1
  have h2 := h1.1.stored (o + 2) v2
  have h3 := h2.1.stored (o + 3) v3
  have h4 := h3.1.stored (o + 4) v4
  refine ⟨?_, grown_trans (grown_trans (grown_trans (grown_trans h0.2 h1.2) h2.2) h3.2) h4.2⟩
  have := h4.1
  rw [set5 _ _ _ _ _ _ _ _ _ _ _ _ _ hl] at this
  exact this
end Go.Proofs.Ytlmedhidkhphbaa
namespace Go.Proofs.Ytlmedhidkhphbaa
open Go.RowKit

theorem below_set2 {B : Nat} {w w' : World} (h : Below B w w') {b : Nat} (hb : B ≤ b) (x1 x2 : Value) : Below B w ((w'.setCell ⟨b, 1, none⟩ x1).setCell ⟨b, 2, none⟩ x2) :=
  (h.setCell (p := ⟨b, 1, none⟩) hb _).setCell (p := ⟨b, 2, none⟩) hb _
theorem below_set5 {B : Nat} {w w' : World} (h : Below B w w') {b : Nat} (hb : B ≤ b) (x0 x1 x2 x3 x4 : Value) : Below B w (((((w'.setCell ⟨b, 0, none⟩ x0).setCell ⟨b, 1, none⟩ x1).setCell ⟨b, 2, none⟩ x2).setCell ⟨b, 3, none⟩ x3).setCell ⟨b, 4, none⟩ x4) :=
  ((((h.setCell (p := ⟨b, 0, none⟩) hb _).setCell (p := ⟨b, 1, none⟩) hb _).setCell (p := ⟨b, 2, none⟩) hb _).setCell (p := ⟨b, 3, none⟩) hb _).setCell (p := ⟨b, 4, none⟩) hb _
theorem grow_set {w w' : World} {row : Option Nat} (h : w.grownBy w' row) {p : Addr} (hp : w.heap.size ≤ p.block) (v : Value) : w.grownBy (w'.setCell p v) row :=
  ⟨h.os, h.tape, h.output, by rw [World.size_setCell]; exact h.size, fun k hk hr => (heap_setCell_other w' p k v (by omega)).trans (h.block k hk hr)⟩
theorem grow_set5 {w w' : World} {row : Option Nat} (h : w.grownBy w' row) {b : Nat} (hb : w.heap.size ≤ b) (x0 x1 x2 x3 x4 : Value) : w.grownBy (((((w'.setCell ⟨b, 0, none⟩ x0).setCell ⟨b, 1, none⟩ x1).setCell ⟨b, 2, none⟩ x2).setCell ⟨b, 3, none⟩ x3).setCell ⟨b, 4, none⟩ x4) row :=
  grow_set (p := ⟨b, 4, none⟩) (grow_set (p := ⟨b, 3, none⟩) (grow_set (p := ⟨b, 2, none⟩) (grow_set (p := ⟨b, 1, none⟩) (grow_set (p := ⟨b, 0, none⟩) h hb x0) hb x1) hb x2) hb x3) hb x4
theorem grow_alloc {w w' : World} {row : Option Nat} (h : w.grownBy w' row) (o : Obj) : w.grownBy (w'.alloc o) row := grown_trans h (grown_below ((Below.refl _ _).alloc (Nat.le_refl _) o) row)
/-- A write into a row that is not older than w leaves what w holds. -/
theorem grown_own {w w1 w2 : World} {r row : Option Nat} (h : w.grownBy w1 r) (k : w1.grownBy w2 row) (hr : ∀ j, row = some j → w.heap.size ≤ j) : w.grownBy w2 r :=
  ⟨k.os.trans h.os, k.tape.trans h.tape, k.output.trans h.output, Nat.le_trans h.size k.size, fun j hj hne => (k.block j (Nat.lt_of_lt_of_le hj h.size) (fun e => by have := hr j e.symm; omega)).trans (h.block j hj hne)⟩
theorem block_set5 (w : World) {b k : Nat} (hne : k ≠ b) (x0 x1 x2 x3 x4 : Value) : (((((w.setCell ⟨b, 0, none⟩ x0).setCell ⟨b, 1, none⟩ x1).setCell ⟨b, 2, none⟩ x2).setCell ⟨b, 3, none⟩ x3).setCell ⟨b, 4, none⟩ x4).heap[k]? = w.heap[k]? :=
  (heap_setCell_other _ ⟨b, 4, none⟩ k _ hne).trans ((heap_setCell_other _ ⟨b, 3, none⟩ k _ hne).trans ((heap_setCell_other _ ⟨b, 2, none⟩ k _ hne).trans ((heap_setCell_other _ ⟨b, 1, none⟩ k _ hne).trans (heap_setCell_other _ ⟨b, 0, none⟩ k _ hne))))
end Go.Proofs.Ytlmedhidkhphbaa
namespace Go.Proofs.Ytlmedhidkhphbaa
open Go.RowKit

/-- Other flats in the drawer at a place. -/
def withAt (i : Int) (zs : List Int) (ds : List VDrawer) : List VDrawer := ds.mapIdx fun k d => if (k : Int) = i then withF d zs else d
theorem withAt_len (i : Int) (zs : List Int) (ds : List VDrawer) : (withAt i zs ds).length = ds.length := by simp [withAt]
theorem withAt_get {i : Int} {zs : List Int} {ds : List VDrawer} {k : Nat} {x : VDrawer} (hx : ds[k]? = some x) : (withAt i zs ds)[k]? = some (if (k : Int) = i then withF x zs else x) := by
  simp [withAt, List.getElem?_mapIdx, hx]
theorem withAt_set {i : Nat} {zs : List Int} {ds : List VDrawer} {x : VDrawer} (hx : ds[i]? = some x) : withAt i zs ds = ds.set i (withF x zs) := by
  apply List.ext_getElem?
  intro k
  by_cases e : k = i
  · subst e
    rw [withAt_get hx, if_pos rfl, List.getElem?_set_self (List.getElem?_eq_some_iff.1 hx).1]
  · rw [List.getElem?_set_ne (Ne.symm e)]
    cases hk : ds[k]? with
    | none => rw [List.getElem?_eq_none (by rw [withAt_len]; exact List.getElem?_eq_none_iff.1 hk)]
    | some y => rw [withAt_get hk, if_neg (by omega)]
theorem InnerDrawer.reblock {lo hi : Nat} {w : World} {g0 g1 : Option Nat} {ps : List PDrawer} (h : InnerDrawer lo hi w g0 ps) (hg : g0 = g1 ∨ ∀ b, g1 = some b → hi ≤ b) : InnerDrawer lo hi w g1 ps := by
  rcases hg with rfl | hg
  · exact h
  · refine ⟨h.1, fun k p b hp hb e => ?_, h.2.2⟩
    have h1 := ((h.1 k p hp).lt hb).2.1
    have h2 := hg b e
    omega
theorem cell_Drawer (w : World) (p : PDrawer) (t : TypeId) (B : Nat) (hB : w.heap.size = B) : ∀ j u, p.vals[j]? = some u → (w.alloc (.cells #[.int .i64 p.x.Id, .int .i64 p.x.Wide, .int .i64 p.x.High, .int .i64 p.x.Holds, .slice p.h.a p.h.n p.h.c] t)).cell? ((⟨B, 0, none⟩ : Addr).add j) = some u := by
  subst hB
  intro j u hj
  rw [add_plain, Nat.zero_add, World.cell?_alloc_new]
  simpa [PDrawer.vals] using hj
theorem cells_snoc (ps : List PDrawer) (p : PDrawer) : cellsDrawer (ps ++ [p]) = cellsDrawer ps ++ p.vals := by simp [cellsDrawer]
set_option maxHeartbeats 25600000 in
set_option maxRecDepth 100000 in
theorem l5With_any (a : Option Addr) (len cap : Nat) (xs : List VDrawer) (i : Int) (a1 : Option Addr) (len1 cap1 : Nat) (zs : List Int) (w : World) (h : IsDrawerS w a len cap xs) (h' : IsInts w a1 len1 cap1 zs) (hx : xs.length ≤ 1000) (hf : ∀ x ∈ xs, x.Flats.length ≤ 1000) (hz : zs.length ≤ 1001) :
    Calls Try.prog 72 #[.slice a len cap, .int .i64 i, .slice a1 len1 cap1] w (DrawerOPost (withAt i zs xs) w) := by
  obtain rfl := h.1
  obtain ⟨i0, hi, hz0, hz1, hz2⟩ := info_parts infoDrawer
  have hm := h.2.2.1
  have hcl := h.2.1
  unfold maxLen at hm
  have S := Lib.hid h
  have Z := Lib.hid h'
  have F := Lib.hid hf
  clear h h' hf
  go_enter Try.func72, Try.ntmps72
  go_wp2
  go_loopw [8, 7, 9] (fun i' v _ wr => ∃ (k : Nat) (ps : List PDrawer) (g c : Nat), k ≤ xs.length ∧ i' = .int .i64 k ∧ v = .slice (some ⟨g, 0, none⟩) k c ∧ ps.map PDrawer.x = (withAt i zs xs).take k ∧ Below w.heap.size w wr ∧ g < wr.heap.size ∧ wr.ownsRow w.heap.size 42 5 (.slice (some ⟨g, 0, none⟩) k c) k (cellsDrawer ps) ∧ InnerDrawer w.heap.size wr.heap.size wr (some g) ps) (fun i' _ _ _ => xs.length - (intOf i').toNat)
  case atStart => exact ⟨0, [], w.heap.size, 0, Nat.zero_le _, rfl, rfl, rfl, bel_al1 _ _, by rw [size_al]; omega, made_ownDrawer w _ (Nat.le_refl _), nil_InnerDrawer _ _ _ _⟩
  case round =>
    obtain ⟨k, ps, g, c, hk, rfl, rfl, hps, hbel, hgw, hown, hinn⟩ := hrel
    have O := Lib.hid hown
    have B := Lib.hid hbel
    have N := Lib.hid hinn
    have PS := Lib.hid hps
    have PL := Lib.hid (show ps.length = k from by have := congrArg List.length PS.out; rw [List.length_map, List.length_take, withAt_len] at this; omega)
    have hsz := hbel.size
    clear hps hinn hown
    by_cases hlt : k < xs.length
    · obtain ⟨x, hx1⟩ : ∃ x, xs[k]? = some x := ⟨xs[k]'hlt, List.getElem?_eq_getElem _⟩
      obtain ⟨b, o, rfl, hb, hat⟩ := (S.out.below hbel).at (by omega)
      obtain ⟨hd, c0, c1, c2, c3, c4, hin⟩ := hat k x hx1
      have hxl := F.out x (List.mem_of_getElem? hx1)
      have K := Lib.hid hx1
      have X1 := Lib.hid (HBDrawer.new wr ⟨x, hd⟩ _ rfl)
      have B1 := Lib.hid (bel_al1 wr (.cells #[.int .i64 x.Id, .int .i64 x.Wide, .int .i64 x.High, .int .i64 x.Holds, .slice hd.a hd.n hd.c] 42))
      have HI := Lib.hid (hin.below B1.out)
      have hi0 : (0 : Int) ≤ (k : Int) := by omega
      have hi1 : (k : Int) < (xs.length : Int) := by omega
      clear hx1 hat hin
      go_wp2_with fail
      refine (l1Own_any _ _ _ x.Flats _ HI.out (by omega)).mono ?_
      rintro e w2 ⟨h', rfl, H', hb2⟩
      have X2 := Lib.hid (X1.out.below hb2)
      have B2 := Lib.hid (Below.then' B1.out hb2)
      have f4 := X2.out.free 4
      have d4 := X2.out.cells.2.2.2.2
      have X3 := Lib.hid (X2.out.setS x.Flats h')
      have B3 := Lib.hid ((B2.out).setCell (p := ⟨wr.heap.size, 4, none⟩) (Nat.le_refl _) (.slice h'.a h'.n h'.c))
      have H2 := Lib.hid (H'.mono (show wr.heap.size ≤ _ from by rw [size_al]; omega) (Nat.le_refl _))
      have hlt2 := X2.out.lt
      have H3 := Lib.hid (show HInts wr.heap.size (w2.setCell ⟨wr.heap.size, 4, none⟩ (.slice h'.a h'.n h'.c)).heap.size (w2.setCell ⟨wr.heap.size, 4, none⟩ (.slice h'.a h'.n h'.c)) h' x.Flats from by
        have hsame : w2.heap.size ≤ (w2.setCell ⟨wr.heap.size, 4, none⟩ (.slice h'.a h'.n h'.c)).heap.size := by rw [show ∀ (W : World) (p : Addr) (v : Value), (W.setCell p v).heap.size = W.heap.size from fun W p v => by simp [World.setCell]]; exact Nat.le_refl _
        refine OwnIn.mono (OwnIn.keep H2.out fun b hb => ?_) (Nat.le_refl _) hsame
        refine Below.heap_setCell _ _ _ _ (fun e => ?_)
        have := (H'.lt hb).1
        rw [size_al] at this
        simp only at e
        omega)
      clear hb2 H' c0 c1 c2 c3 c4 hbel
      by_cases hki : (k : Int) = i
      · have ZI := Lib.hid (Z.out.below (Below.then' B.out B3.out))
        have hke : ((k : Int) == i) = true := by simpa using hki
        subst hki
        go_wp2_with fail
        refine (l1Own_any _ _ _ zs _ ZI.out (by omega)).mono ?_
        rintro e w5 ⟨h5, rfl, H5, hb5⟩
        have Y2 := Lib.hid (X3.out.below hb5)
        have g4' := Y2.out.free 4
        have e4 := Y2.out.cells.2.2.2.2
        have C2 := Lib.hid (Below.then' B3.out hb5)
        have hs5 := B3.out.size
        have G3 := Lib.hid (show HInts wr.heap.size (w5.setCell ⟨wr.heap.size, 4, none⟩ (.slice h5.a h5.n h5.c)).heap.size (w5.setCell ⟨wr.heap.size, 4, none⟩ (.slice h5.a h5.n h5.c)) h5 zs from by
          have hsame : w5.heap.size ≤ (w5.setCell ⟨wr.heap.size, 4, none⟩ (.slice h5.a h5.n h5.c)).heap.size := by rw [show ∀ (W : World) (p : Addr) (v : Value), (W.setCell p v).heap.size = W.heap.size from fun W p v => by simp [World.setCell]]; exact Nat.le_refl _
          refine OwnIn.mono (OwnIn.keep H5 fun b hb => ?_) hs5 hsame
          refine Below.heap_setCell _ _ _ _ (fun e => ?_)
          have := (H5.lt hb).1
          have h9 := X3.out.lt
          simp only at e
          omega)
        have Y3 := Lib.hid (Y2.out.setS zs h5)
        have D3 := Lib.hid ((C2.out).setCell (p := ⟨wr.heap.size, 4, none⟩) (Nat.le_refl _) (.slice h5.a h5.n h5.c))
        clear X3 B3 H3 hb5 H5
        have X3 := Y3
        have B3 := D3
        have H3 := G3
        have Q3 := Lib.hid (ownsRow_below O.out B3.out)
        obtain ⟨q0, q1, q2, q3, q4⟩ := X3.out.cells
        have BA := Lib.hid (Below.then' B3.out (bel_al1 _ (.cells #[.int .i64 x.Id, .int .i64 x.Wide, .int .i64 x.High, .int .i64 x.Holds, .slice h5.a h5.n h5.c] 42)))
        have HA := Lib.hid (H3.out.below (bel_al1 _ (.cells #[.int .i64 x.Id, .int .i64 x.Wide, .int .i64 x.High, .int .i64 x.Holds, .slice h5.a h5.n h5.c] 42)))
        have hs3 := B3.out.size
        go_wp2_with (at_builtin; refine wpList_append_lies _ rfl _ _ 25 rfl w.heap.size 42 i0 (.agg #[.int .i64 0, .int .i64 0, .int .i64 0, .int .i64 0, .slice none 0 0]) 5 56 Try.underlying25 hi hz0 hz1 hz2 rfl (by decide) _ _ _ rfl (Q3.out.alloc _) ⟨_, 0, none⟩ 1 1 (PDrawer.vals ⟨withF x zs, h5⟩) rfl rfl (cell_Drawer _ ⟨withF x zs, h5⟩ _ _ (by simp [World.setCell])) (PDrawer.vals_one _) (by decide) (by unfold maxLen; omega) (by omega) (by rw [size_al]; omega) _ rfl ?_; intro g4 cap4 w4 hown4 hgrow4 hg4 hlt4)
        go_roundw
        case rel =>
          have hgl := O.out.lt g rfl
          refine ⟨k + 1, ps ++ [⟨withF x zs, h5⟩], g4, cap4, by omega, by go_num, rfl, ?_, (Below.then' B.out BA.out).grown hgrow4 (Below.then' B.out BA.out).size (fun j e => by cases e; exact hgl.1), hlt4, ?_, ?_⟩
          · rw [List.map_append, PS.out, List.take_add_one, withAt_get K.out, if_pos rfl]; rfl
          · rw [cells_snoc]; exact hown4
          · have N4 := (N.out.below BA.out).grown hgrow4
            have H4 := OwnIn.turned HA.out (Turned.of_grown (lo := w.heap.size) (hi := wr.heap.size) hgrow4 (fun b e => by cases e; omega)) (.inr (Nat.le_refl _))
            have N5 := N4.snoc (p := ⟨withF x zs, h5⟩) (H4.mono (Nat.le_refl _) (bel_al1 _ _).size) hsz (BA.out.size) (fun b e => by cases e; exact hgw)
            exact (N5.reblock (hg4.imp id (fun e b hb => by cases hb; omega))).mono (Nat.le_refl _) hgrow4.size
        case measure => simp [intOf]; omega
      · have hke : ((k : Int) == i) = false := by simpa using hki
        have Q3 := Lib.hid (ownsRow_below O.out B3.out)
        obtain ⟨q0, q1, q2, q3, q4⟩ := X3.out.cells
        have BA := Lib.hid (Below.then' B3.out (bel_al1 _ (.cells #[.int .i64 x.Id, .int .i64 x.Wide, .int .i64 x.High, .int .i64 x.Holds, .slice h'.a h'.n h'.c] 42)))
        have HA := Lib.hid (H3.out.below (bel_al1 _ (.cells #[.int .i64 x.Id, .int .i64 x.Wide, .int .i64 x.High, .int .i64 x.Holds, .slice h'.a h'.n h'.c] 42)))
        have hs3 := B3.out.size
        go_wp2_with (at_builtin; refine wpList_append_lies _ rfl _ _ 25 rfl w.heap.size 42 i0 (.agg #[.int .i64 0, .int .i64 0, .int .i64 0, .int .i64 0, .slice none 0 0]) 5 56 Try.underlying25 hi hz0 hz1 hz2 rfl (by decide) _ _ _ rfl (Q3.out.alloc _) ⟨_, 0, none⟩ 1 1 (PDrawer.vals ⟨x, h'⟩) rfl rfl (cell_Drawer _ ⟨x, h'⟩ _ _ (by simp [World.setCell])) (PDrawer.vals_one _) (by decide) (by unfold maxLen; omega) (by omega) (by rw [size_al]; omega) _ rfl ?_; intro g4 cap4 w4 hown4 hgrow4 hg4 hlt4)
        go_roundw
        case rel =>
          have hgl := O.out.lt g rfl
          refine ⟨k + 1, ps ++ [⟨x, h'⟩], g4, cap4, by omega, by go_num, rfl, ?_, (Below.then' B.out BA.out).grown hgrow4 (Below.then' B.out BA.out).size (fun j e => by cases e; exact hgl.1), hlt4, ?_, ?_⟩
          · rw [List.map_append, PS.out, List.take_add_one, withAt_get K.out, if_neg hki]; rfl
          · rw [cells_snoc]; exact hown4
          · have N4 := (N.out.below BA.out).grown hgrow4
            have H4 := OwnIn.turned HA.out (Turned.of_grown (lo := w.heap.size) (hi := wr.heap.size) hgrow4 (fun b e => by cases e; omega)) (.inr (Nat.le_refl _))
            have N5 := N4.snoc (p := ⟨x, h'⟩) (H4.mono (Nat.le_refl _) (bel_al1 _ _).size) hsz (BA.out.size) (fun b e => by cases e; exact hgw)
            exact (N5.reblock (hg4.imp id (fun e b hb => by cases hb; omega))).mono (Nat.le_refl _) hgrow4.size
        case measure => simp [intOf]; omega
    · obtain rfl : k = xs.length := by omega
      clear hbel
      go_wp2
      go_ret
      have hnl := PL.out
      refine ⟨_, rfl, ⟨ps, by rw [PS.out, List.take_of_length_le (by rw [withAt_len]; exact Nat.le_refl _)], OwnIn.of_row (by rw [hnl]; exact O.out) (Nat.le_refl _) (Nat.le_refl _), N.out⟩, B.out⟩
end Go.Proofs.Ytlmedhidkhphbaa
namespace Go.Proofs.Ytlmedhidkhphbaa
open Go.RowKit

set_option maxHeartbeats 12800000 in
set_option maxRecDepth 100000 in
theorem byFlat_any (K1 K2 : FuncId) (ok : VFlat → Bool) (id : VFlat → Int) (limit : Int) (a : Option Addr) (len cap : Nat) (xs : List VFlat) (w : World) (h : IsFlatS w a len cap xs)
    (hc1 : ∀ args W, (callFunc K1 args).run Try.prog W = .ok (.enter K1 args) W) (hc2 : ∀ args W, (callFunc K2 args).run Try.prog W = .ok (.enter K2 args) W)
    (h1 : ∀ (W : World) (s : VFlat), s ∈ xs → Calls Try.prog K1 #[.agg #[.int .i64 s.Id, .int .i64 s.Wide, .int .i64 s.High, .int .i64 s.Grams]] W fun e w' => e = .returned (.bool (ok s)) ∧ Below W.heap.size W w')
    (h2 : ∀ (W : World) (s : VFlat), Calls Try.prog K2 #[.agg #[.int .i64 s.Id, .int .i64 s.Wide, .int .i64 s.High, .int .i64 s.Grams]] W fun e w' => e = .returned (.int .i64 (id s)) ∧ Below W.heap.size W w') :
    Calls Try.prog 90 #[.slice a len cap, .int .i64 limit, .func (.func K1) #[] #[], .func (.func K2) #[] #[]] w fun e w' => e = .returned (.bool (upB ok id xs && decide ((xs.length : Int) ≤ limit))) ∧ Below w.heap.size w w' := by
  have hm := h.2.2.1
  have hcl := h.2.1
  unfold maxLen at hm
  have S := Lib.hid h
  have L := Lib.hid h.1
  have F1 := Lib.hid h1
  have F2 := Lib.hid h2
  clear h h1 h2
  by_cases hl : limit < (len : Int)
  · go_enter Try.func90, Try.ntmps90
    go_wp2
    go_ret
    exact ⟨ret_bool (by have e := L.out; rw [decide_eq_false (by omega)]; simp), Below.refl _ _⟩
  go_enter Try.func90, Try.ntmps90
  go_wp2
  go_loopw [17] (fun i wr => ∃ k : Nat, k ≤ len ∧ i = .int .i64 k ∧ Below w.heap.size w wr ∧ ∀ j, j < k → upStep ok id xs j = true) (fun i _ => len - (intOf i).toNat)
  case atStart => exact ⟨0, Nat.zero_le _, rfl, Below.refl _ _, by omega⟩
  case round =>
    obtain ⟨k, hk, rfl, hbel, hall⟩ := hrel
    have A := Lib.hid hall
    have B := Lib.hid hbel
    clear hall
    by_cases hlt : k < len
    · obtain ⟨s, hs⟩ := el_at L hlt
      obtain ⟨b, o, rfl, hb, hat⟩ := (S.out.below hbel).at (by omega)
      obtain ⟨c0, c1, c2, c3⟩ := hat k s hs
      have AT := Lib.hid hat
      have K := Lib.hid hs
      clear hs hat hbel
      go_wp2
      refine wp_world (fun W => BoxFlat W wr.heap.size s ∧ Below wr.heap.size wr W) ⟨BoxFlat.new _ _ s _ rfl, bel_al1 _ _⟩ ?_
      rintro W ⟨hbox, hbw⟩
      have BW := Lib.hid hbw
      obtain ⟨e0, e1, e2, e3⟩ := hbox
      clear c0 c1 c2 c3 hbw
      have k0 := cell_regrown e0
      have k1 := cell_regrown e1
      have k2 := cell_regrown e2
      have k3 := cell_regrown e3
      clear e0 e1 e2 e3
      have hi0 : (0 : Int) ≤ (k : Int) := by omega
      have hi1 : (k : Int) < (len : Int) := by omega
      rcases up_ways (ok := ok) (id := id) K.out with ⟨h1, h2⟩ | ⟨h1, rfl, h2⟩ | ⟨h1, j, p, rfl, hp, h2⟩
      · have cQ := below_at (W := W) (fun W' hbW => h1 ▸ F1.out W' s (List.mem_of_getElem? K.out))
        have Z := Lib.hid h2
        clear h1 h2
        refine wp_region_quiet_below (by kernel_rfl) (by kernel_rfl) ?_
        repeat (first | go_big_quiet_step (first | (with_reducible exact cQ _ _)) | quiet_step (first | (with_reducible exact cQ _ _)))
        refine wpQuiet_nil ?_
        intro W2 hw2
        have B2 := Lib.hid (Below.then' (Below.then' B.out BW.out) (below_of_re hw2))
        clear hw2 cQ k0 k1 k2 k3
        go_wp2
        go_ret
        exact ⟨ret_bool (by rw [upB_bad Z.out (by have := L.out; omega)]; rfl), B2.out⟩
      · have cQ := below_at (W := W) (fun W' hbW => h1 ▸ F1.out W' s (List.mem_of_getElem? K.out))
        have Z := Lib.hid h2
        clear h1 h2
        refine wp_region_quiet_below (by kernel_rfl) (by kernel_rfl) ?_
        repeat (first | go_big_quiet_step (first | (with_reducible exact cQ _ _)) | quiet_step (first | (with_reducible exact cQ _ _)))
        refine wpQuiet_nil ?_
        intro W2 hw2
        have B2 := Lib.hid (Below.then' (Below.then' B.out BW.out) (below_of_re hw2))
        clear hw2 cQ k0 k1 k2 k3
        go_wp2
        go_roundw
        case rel => exact ⟨1, by omega, by go_num, B2.out, all_more A.out Z.out⟩
        case measure => simp [intOf]; omega
      · have cQ := below_at (W := W) (fun W' hbW => h1 ▸ F1.out W' s (List.mem_of_getElem? K.out))
        obtain ⟨p0, p1, p2, p3⟩ := (AT.out j p hp).below BW.out hb
        have q0 := cell_regrown p0
        have q1 := cell_regrown p1
        have q2 := cell_regrown p2
        have q3 := cell_regrown p3
        clear p0 p1 p2 p3
        obtain ⟨u, hu⟩ : ∃ u, id p = u := ⟨_, rfl⟩
        obtain ⟨v, hv⟩ : ∃ v, id s = v := ⟨_, rfl⟩
        rw [hu, hv] at h2
        have cP := below_at (W := W) (fun W' _ => hu ▸ F2.out W' p)
        have cS := below_at (W := W) (fun W' _ => hv ▸ F2.out W' s)
        have hp0 : (0 : Int) ≤ (j : Int) := by omega
        have hp1 : (j : Int) < (len : Int) := by omega
        clear h1 hp hu hv
        rcases h2 with ⟨h2, h3⟩ | ⟨h2, h3⟩
        · have Z := Lib.hid h3
          clear h3
          refine wp_region_quiet_below (by kernel_rfl) (by kernel_rfl) ?_
          repeat (first | go_big_quiet_step (first | (with_reducible exact cQ _ _) | (with_reducible exact cP _ _) | (with_reducible exact cS _ _)) | quiet_step (first | (with_reducible exact cQ _ _) | (with_reducible exact cP _ _) | (with_reducible exact cS _ _)))
          refine wpQuiet_nil ?_
          intro W2 hw2
          have B2 := Lib.hid (Below.then' (Below.then' B.out BW.out) (below_of_re hw2))
          clear hw2 cQ cP cS k0 k1 k2 k3 q0 q1 q2 q3
          go_wp2
          go_roundw
          case rel => exact ⟨j + 1 + 1, by omega, by go_num, B2.out, all_more A.out Z.out⟩
          case measure => simp [intOf]; omega
        · have Z := Lib.hid h3
          clear h3
          refine wp_region_quiet_below (by kernel_rfl) (by kernel_rfl) ?_
          repeat (first | go_big_quiet_step (first | (with_reducible exact cQ _ _) | (with_reducible exact cP _ _) | (with_reducible exact cS _ _)) | quiet_step (first | (with_reducible exact cQ _ _) | (with_reducible exact cP _ _) | (with_reducible exact cS _ _)))
          refine wpQuiet_nil ?_
          intro W2 hw2
          have B2 := Lib.hid (Below.then' (Below.then' B.out BW.out) (below_of_re hw2))
          clear hw2 cQ cP cS k0 k1 k2 k3 q0 q1 q2 q3
          go_wp2
          go_ret
          exact ⟨ret_bool (by rw [upB_bad Z.out (by have := L.out; omega)]; rfl), B2.out⟩
    · obtain rfl : k = len := by omega
      have U := Lib.hid (show (upB ok id xs && decide ((xs.length : Int) ≤ limit)) = true from by
        rw [upB_iff.2 (fun i hi => A.out i (by have := L.out; omega)), decide_eq_true (by have := L.out; omega)]; rfl)
      clear hbel
      go_wp2
      go_ret
      exact ⟨ret_bool U.out.symm, B.out⟩
end Go.Proofs.Ytlmedhidkhphbaa
namespace Go.Proofs.Ytlmedhidkhphbaa
open Go.RowKit

set_option maxHeartbeats 12800000 in
set_option maxRecDepth 100000 in
theorem byDrawer_any (K1 K2 : FuncId) (ok : VDrawer → Bool) (id : VDrawer → Int) (limit : Int) (a : Option Addr) (len cap : Nat) (xs : List VDrawer) (w : World) (h : IsDrawerS w a len cap xs)
    (hc1 : ∀ args W, (callFunc K1 args).run Try.prog W = .ok (.enter K1 args) W) (hc2 : ∀ args W, (callFunc K2 args).run Try.prog W = .ok (.enter K2 args) W)
    (h1 : ∀ (W : World) (s : VDrawer) (hd : Hd), s ∈ xs → IsInts W hd.a hd.n hd.c s.Flats → Calls Try.prog K1 #[.agg #[.int .i64 s.Id, .int .i64 s.Wide, .int .i64 s.High, .int .i64 s.Holds, .slice hd.a hd.n hd.c]] W fun e w' => e = .returned (.bool (ok s)) ∧ Below W.heap.size W w')
    (h2 : ∀ (W : World) (s : VDrawer) (hd : Hd), Calls Try.prog K2 #[.agg #[.int .i64 s.Id, .int .i64 s.Wide, .int .i64 s.High, .int .i64 s.Holds, .slice hd.a hd.n hd.c]] W fun e w' => e = .returned (.int .i64 (id s)) ∧ Below W.heap.size W w') :
    Calls Try.prog 92 #[.slice a len cap, .int .i64 limit, .func (.func K1) #[] #[], .func (.func K2) #[] #[]] w fun e w' => e = .returned (.bool (upB ok id xs && decide ((xs.length : Int) ≤ limit))) ∧ Below w.heap.size w w' := by
  have hm := h.2.2.1
  have hcl := h.2.1
  unfold maxLen at hm
  have S := Lib.hid h
  have L := Lib.hid h.1
  have F1 := Lib.hid h1
  have F2 := Lib.hid h2
  clear h h1 h2
  by_cases hl : limit < (len : Int)
  · go_enter Try.func92, Try.ntmps92
    go_wp2
    go_ret
    exact ⟨ret_bool (by have e := L.out; rw [decide_eq_false (by omega)]; simp), Below.refl _ _⟩
  go_enter Try.func92, Try.ntmps92
  go_wp2
  go_loopw [17] (fun i wr => ∃ k : Nat, k ≤ len ∧ i = .int .i64 k ∧ Below w.heap.size w wr ∧ ∀ j, j < k → upStep ok id xs j = true) (fun i _ => len - (intOf i).toNat)
  case atStart => exact ⟨0, Nat.zero_le _, rfl, Below.refl _ _, by omega⟩
  case round =>
    obtain ⟨k, hk, rfl, hbel, hall⟩ := hrel
    have A := Lib.hid hall
    have B := Lib.hid hbel
    clear hall
    by_cases hlt : k < len
    · obtain ⟨s, hs⟩ := el_at L hlt
      obtain ⟨b, o, rfl, hb, hat⟩ := (S.out.below hbel).at (by omega)
      obtain ⟨hd, c0, c1, c2, c3, c4, hin⟩ := hat k s hs
      have HI := Lib.hid hin
      clear hin
      have AT := Lib.hid hat
      have K := Lib.hid hs
      clear hs hat hbel
      go_wp2
      refine wp_world (fun W => BoxDrawer W wr.heap.size ⟨s, hd⟩ ∧ Below wr.heap.size wr W) ⟨BoxDrawer.new _ _ ⟨s, hd⟩ _ rfl, bel_al1 _ _⟩ ?_
      rintro W ⟨hbox, hbw⟩
      have BW := Lib.hid hbw
      obtain ⟨e0, e1, e2, e3, e4⟩ := hbox
      clear c0 c1 c2 c3 c4 hbw
      have k0 := cell_regrown e0
      have k1 := cell_regrown e1
      have k2 := cell_regrown e2
      have k3 := cell_regrown e3
      have k4 := cell_regrown e4
      clear e0 e1 e2 e3 e4
      have hi0 : (0 : Int) ≤ (k : Int) := by omega
      have hi1 : (k : Int) < (len : Int) := by omega
      rcases up_ways (ok := ok) (id := id) K.out with ⟨h1, h2⟩ | ⟨h1, rfl, h2⟩ | ⟨h1, j, p, rfl, hp, h2⟩
      · have cQ := below_at (W := W) (fun W' hbW => h1 ▸ F1.out W' s hd (List.mem_of_getElem? K.out) (HI.out.below (Below.then' BW.out hbW)))
        have Z := Lib.hid h2
        clear h1 h2
        refine wp_region_quiet_below (by kernel_rfl) (by kernel_rfl) ?_
        repeat (first | go_big_quiet_step (first | (with_reducible exact cQ _ _)) | quiet_step (first | (with_reducible exact cQ _ _)))
        refine wpQuiet_nil ?_
        intro W2 hw2
        have B2 := Lib.hid (Below.then' (Below.then' B.out BW.out) (below_of_re hw2))
        clear hw2 cQ k0 k1 k2 k3 k4
        go_wp2
        go_ret
        exact ⟨ret_bool (by rw [upB_bad Z.out (by have := L.out; omega)]; rfl), B2.out⟩
      · have cQ := below_at (W := W) (fun W' hbW => h1 ▸ F1.out W' s hd (List.mem_of_getElem? K.out) (HI.out.below (Below.then' BW.out hbW)))
        have Z := Lib.hid h2
        clear h1 h2
        refine wp_region_quiet_below (by kernel_rfl) (by kernel_rfl) ?_
        repeat (first | go_big_quiet_step (first | (with_reducible exact cQ _ _)) | quiet_step (first | (with_reducible exact cQ _ _)))
        refine wpQuiet_nil ?_
        intro W2 hw2
        have B2 := Lib.hid (Below.then' (Below.then' B.out BW.out) (below_of_re hw2))
        clear hw2 cQ k0 k1 k2 k3 k4
        go_wp2
        go_roundw
        case rel => exact ⟨1, by omega, by go_num, B2.out, all_more A.out Z.out⟩
        case measure => simp [intOf]; omega
      · have cQ := below_at (W := W) (fun W' hbW => h1 ▸ F1.out W' s hd (List.mem_of_getElem? K.out) (HI.out.below (Below.then' BW.out hbW)))
        obtain ⟨hd2, hat2⟩ := AT.out j p hp
        obtain ⟨p0, p1, p2, p3, p4, _⟩ := hat2.below BW.out hb
        have q0 := cell_regrown p0
        have q1 := cell_regrown p1
        have q2 := cell_regrown p2
        have q3 := cell_regrown p3
        have q4 := cell_regrown p4
        clear p0 p1 p2 p3 p4 hat2
        obtain ⟨u, hu⟩ : ∃ u, id p = u := ⟨_, rfl⟩
        obtain ⟨v, hv⟩ : ∃ v, id s = v := ⟨_, rfl⟩
        rw [hu, hv] at h2
        have cP := below_at (W := W) (fun W' _ => hu ▸ F2.out W' p hd2)
        have cS := below_at (W := W) (fun W' _ => hv ▸ F2.out W' s hd)
        have hp0 : (0 : Int) ≤ (j : Int) := by omega
        have hp1 : (j : Int) < (len : Int) := by omega
        clear h1 hp hu hv
        rcases h2 with ⟨h2, h3⟩ | ⟨h2, h3⟩
        · have Z := Lib.hid h3
          clear h3
          refine wp_region_quiet_below (by kernel_rfl) (by kernel_rfl) ?_
          repeat (first | go_big_quiet_step (first | (with_reducible exact cQ _ _) | (with_reducible exact cP _ _) | (with_reducible exact cS _ _)) | quiet_step (first | (with_reducible exact cQ _ _) | (with_reducible exact cP _ _) | (with_reducible exact cS _ _)))
          refine wpQuiet_nil ?_
          intro W2 hw2
          have B2 := Lib.hid (Below.then' (Below.then' B.out BW.out) (below_of_re hw2))
          clear hw2 cQ cP cS k0 k1 k2 k3 k4 q0 q1 q2 q3 q4
          go_wp2
          go_roundw
          case rel => exact ⟨j + 1 + 1, by omega, by go_num, B2.out, all_more A.out Z.out⟩
          case measure => simp [intOf]; omega
        · have Z := Lib.hid h3
          clear h3
          refine wp_region_quiet_below (by kernel_rfl) (by kernel_rfl) ?_
          repeat (first | go_big_quiet_step (first | (with_reducible exact cQ _ _) | (with_reducible exact cP _ _) | (with_reducible exact cS _ _)) | quiet_step (first | (with_reducible exact cQ _ _) | (with_reducible exact cP _ _) | (with_reducible exact cS _ _)))
          refine wpQuiet_nil ?_
          intro W2 hw2
          have B2 := Lib.hid (Below.then' (Below.then' B.out BW.out) (below_of_re hw2))
          clear hw2 cQ cP cS k0 k1 k2 k3 k4 q0 q1 q2 q3 q4
          go_wp2
          go_ret
          exact ⟨ret_bool (by rw [upB_bad Z.out (by have := L.out; omega)]; rfl), B2.out⟩
    · obtain rfl : k = len := by omega
      have U := Lib.hid (show (upB ok id xs && decide ((xs.length : Int) ≤ limit)) = true from by
        rw [upB_iff.2 (fun i hi => A.out i (by have := L.out; omega)), decide_eq_true (by have := L.out; omega)]; rfl)
      clear hbel
      go_wp2
      go_ret
      exact ⟨ret_bool U.out.symm, B.out⟩
end Go.Proofs.Ytlmedhidkhphbaa
namespace Go.Proofs.Ytlmedhidkhphbaa
open Go.RowKit

set_option maxHeartbeats 12800000 in
set_option maxRecDepth 100000 in
theorem byint_any (K1 K2 : FuncId) (ok : Int → Bool) (id : Int → Int) (limit : Int) (a : Option Addr) (len cap : Nat) (xs : List Int) (w : World) (h : IsInts w a len cap xs)
    (hc1 : ∀ args W, (callFunc K1 args).run Try.prog W = .ok (.enter K1 args) W) (hc2 : ∀ args W, (callFunc K2 args).run Try.prog W = .ok (.enter K2 args) W)
    (h1 : ∀ (W : World) (s : Int), s ∈ xs → Calls Try.prog K1 #[.int .i64 s] W fun e w' => e = .returned (.bool (ok s)) ∧ Below W.heap.size W w')
    (h2 : ∀ (W : World) (s : Int), Calls Try.prog K2 #[.int .i64 s] W fun e w' => e = .returned (.int .i64 (id s)) ∧ Below W.heap.size W w') :
    Calls Try.prog 135 #[.slice a len cap, .int .i64 limit, .func (.func K1) #[] #[], .func (.func K2) #[] #[]] w fun e w' => e = .returned (.bool (upB ok id xs && decide ((xs.length : Int) ≤ limit))) ∧ Below w.heap.size w w' := by
  have hm := h.2.2.1
  have hcl := h.2.1
  unfold maxLen at hm
  have S := Lib.hid h
  have L := Lib.hid h.1
  have F1 := Lib.hid h1
  have F2 := Lib.hid h2
  clear h h1 h2
  by_cases hl : limit < (len : Int)
  · go_enter Try.func135, Try.ntmps135
    go_wp2
    go_ret
    exact ⟨ret_bool (by have e := L.out; rw [decide_eq_false (by omega)]; simp), Below.refl _ _⟩
  go_enter Try.func135, Try.ntmps135
  go_wp2
  go_loopw [17] (fun i wr => ∃ k : Nat, k ≤ len ∧ i = .int .i64 k ∧ Below w.heap.size w wr ∧ ∀ j, j < k → upStep ok id xs j = true) (fun i _ => len - (intOf i).toNat)
  case atStart => exact ⟨0, Nat.zero_le _, rfl, Below.refl _ _, by omega⟩
  case round =>
    obtain ⟨k, hk, rfl, hbel, hall⟩ := hrel
    have A := Lib.hid hall
    have B := Lib.hid hbel
    clear hall
    by_cases hlt : k < len
    · obtain ⟨s, hs⟩ := el_at L hlt
      obtain ⟨b, o, rfl, hb, hat⟩ := (S.out.below hbel).at (by omega)
      have c0 := hat k s hs
      have AT := Lib.hid hat
      have K := Lib.hid hs
      have hi0 : (0 : Int) ≤ (k : Int) := by omega
      have hi1 : (k : Int) < (len : Int) := by omega
      clear hs hat hbel
      rcases up_ways (ok := ok) (id := id) K.out with ⟨h1, h2⟩ | ⟨h1, rfl, h2⟩ | ⟨h1, j, p, rfl, hp, h2⟩
      · have Z := Lib.hid h2
        have H1 := Lib.hid h1
        clear h1 h2
        go_wp2_with fail
        refine (F1.out _ s (List.mem_of_getElem? K.out)).mono ?_
        rintro e w2 ⟨rfl, hb2⟩
        rw [H1.out]
        have B2 := Lib.hid (Below.then' B.out hb2)
        clear hb2
        go_wp2
        go_ret
        exact ⟨ret_bool (by rw [upB_bad Z.out (by have := L.out; omega)]; rfl), B2.out⟩
      · have Z := Lib.hid h2
        have H1 := Lib.hid h1
        rw [Nat.add_zero] at c0
        clear h1 h2
        go_wp2_with fail
        refine (F1.out _ s (List.mem_of_getElem? K.out)).mono ?_
        rintro e w2 ⟨rfl, hb2⟩
        rw [H1.out]
        have B2 := Lib.hid (Below.then' B.out hb2)
        clear hb2
        go_wp2
        go_roundw
        case rel => exact ⟨1, by omega, by go_num, B2.out, all_more A.out Z.out⟩
        case measure => simp [intOf]; omega
      · have H1 := Lib.hid h1
        have pc := AT.out j p hp
        have PC := Lib.hid pc
        obtain ⟨u, hu⟩ : ∃ u, id p = u := ⟨_, rfl⟩
        obtain ⟨v, hv⟩ : ∃ v, id s = v := ⟨_, rfl⟩
        rw [hu, hv] at h2
        have HU := Lib.hid hu
        have HV := Lib.hid hv
        have hp0 : (0 : Int) ≤ (j : Int) := by omega
        have hp1 : (j : Int) < (len : Int) := by omega
        clear h1 hp hu hv pc
        go_wp2_with fail
        refine (F1.out _ s (List.mem_of_getElem? K.out)).mono ?_
        rintro e w2 ⟨rfl, hb2⟩
        rw [H1.out]
        have B2 := Lib.hid (Below.then' B.out hb2)
        have pc := (hb2.cell (p := ⟨b, o + j, none⟩) hb).trans PC.out
        clear hb2
        go_wp2_with fail
        refine (F2.out _ p).mono ?_
        rintro e w3 ⟨rfl, hb3⟩
        rw [HU.out]
        have B3 := Lib.hid (Below.then' B2.out hb3)
        clear hb3 pc
        go_wp2_with fail
        refine (F2.out _ s).mono ?_
        rintro e w4 ⟨rfl, hb4⟩
        rw [HV.out]
        have B4 := Lib.hid (Below.then' B3.out hb4)
        clear hb4
        rcases h2 with ⟨h2, h3⟩ | ⟨h2, h3⟩
        · have Z := Lib.hid h3
          clear h3
          go_wp2
          go_roundw
          case rel => exact ⟨j + 1 + 1, by omega, by go_num, B4.out, all_more A.out Z.out⟩
          case measure => simp [intOf]; omega
        · have Z := Lib.hid h3
          clear h3
          go_wp2
          go_ret
          exact ⟨ret_bool (by rw [upB_bad Z.out (by have := L.out; omega)]; rfl), B4.out⟩
    · obtain rfl : k = len := by omega
      have U := Lib.hid (show (upB ok id xs && decide ((xs.length : Int) ≤ limit)) = true from by
        rw [upB_iff.2 (fun i hi => A.out i (by have := L.out; omega)), decide_eq_true (by have := L.out; omega)]; rfl)
      clear hbel
      go_wp2
      go_ret
      exact ⟨ret_bool U.out.symm, B.out⟩
end Go.Proofs.Ytlmedhidkhphbaa
