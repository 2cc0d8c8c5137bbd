/- Slices of sheets: what is known of one, and the laws' own helpers over them: the size that is left, a copy, whether two are equal, marks. -/
import Derived.Test.YtidaoijpbdljbaaDoorOpen
import Derived.Test.YtidaoijpbdljbaaDoorSheet2
import Derived.Laws.OwnMore
import Derived.Handy
namespace Go.Proofs.YtidaoijpbdljbaaDoor
open Go.RowKit Go.ChangeShapes Go.WideShapes Go.Deep

/-- A sheet lies at block b from offset o on. -/
def ShAt (w : World) (b o : Nat) (s : Sh) : Prop :=
  w.cell? ⟨b, o, none⟩ = some (.int .i64 s.id) ∧ w.cell? ⟨b, o + 1, none⟩ = some (.int .i64 s.row) ∧ w.cell? ⟨b, o + 2, none⟩ = some (.int .i64 s.col) ∧ w.cell? ⟨b, o + 3, none⟩ = some (.int .i64 s.scale) ∧ w.cell? ⟨b, o + 4, none⟩ = some (.int .i64 s.year)
/-- The slice 'a len cap' holds the sheets xs. -/
def IsSheetS (w : World) (a : Option Addr) (len cap : Nat) (xs : List Sh) : Prop :=
  len = xs.length ∧ len ≤ cap ∧ cap ≤ maxLen ∧ (len = 0 ∨ ∃ b o, a = some ⟨b, o, none⟩ ∧ b < w.heap.size ∧ ∀ (k : Nat) s, xs[k]? = some s → ShAt w b (o + k * 5) s)

theorem ShAt.below {w w' : World} {b o : Nat} {s : Sh} (h : ShAt w b o s) (hb : Below w.heap.size w w') (hlt : b < w.heap.size) : ShAt w' b o s :=
  ⟨(hb.cell (p := ⟨b, o, none⟩) hlt).trans h.1, (hb.cell (p := ⟨b, o + 1, none⟩) hlt).trans h.2.1, (hb.cell (p := ⟨b, o + 2, none⟩) hlt).trans h.2.2.1, (hb.cell (p := ⟨b, o + 3, none⟩) hlt).trans h.2.2.2.1, (hb.cell (p := ⟨b, o + 4, none⟩) hlt).trans h.2.2.2.2⟩
theorem ShAt.block {w w' : World} {b o : Nat} {s : Sh} (h : ShAt w b o s) (hb : w'.heap[b]? = w.heap[b]?) : ShAt w' b o s :=
  ⟨(World.cell?_of_block (w := w) (a := ⟨b, o, none⟩) hb).trans h.1, (World.cell?_of_block (w := w) (a := ⟨b, o + 1, none⟩) hb).trans h.2.1, (World.cell?_of_block (w := w) (a := ⟨b, o + 2, none⟩) hb).trans h.2.2.1, (World.cell?_of_block (w := w) (a := ⟨b, o + 3, none⟩) hb).trans h.2.2.2.1, (World.cell?_of_block (w := w) (a := ⟨b, o + 4, none⟩) hb).trans h.2.2.2.2⟩
theorem IsSheetS.below {w w' : World} {a : Option Addr} {len cap : Nat} {xs : List Sh} (h : IsSheetS w a len cap xs) (hb : Below w.heap.size w w') : IsSheetS w' a len cap xs := by
  refine ⟨h.1, h.2.1, h.2.2.1, ?_⟩
  rcases h.2.2.2 with h0 | ⟨b, o, rfl, h1, h2⟩
  · exact .inl h0
  · exact .inr ⟨b, o, rfl, Nat.lt_of_lt_of_le h1 hb.size, fun k s hs => (h2 k s hs).below hb h1⟩
theorem IsSheetS.grown {w w' : World} {a : Option Addr} {len cap : Nat} {xs : List Sh} {row : Option Nat} (h : IsSheetS w a len cap xs) (hg : w.grownBy w' row) (hne : ∀ b o, a = some ⟨b, o, none⟩ → some b ≠ row) : IsSheetS w' a len cap xs := by
  refine ⟨h.1, h.2.1, h.2.2.1, ?_⟩
  rcases h.2.2.2 with h0 | ⟨b, o, rfl, h1, h2⟩
  · exact .inl h0
  · exact .inr ⟨b, o, rfl, Nat.lt_of_lt_of_le h1 hg.size, fun k s hs => (h2 k s hs).block (hg.block b h1 (hne b o rfl))⟩
theorem IsSheetS.at {w : World} {a : Option Addr} {len cap : Nat} {xs : List Sh} (h : IsSheetS w a len cap xs) (hpos : 0 < len) : ∃ b o, a = some ⟨b, o, none⟩ ∧ b < w.heap.size ∧ ∀ (k : Nat) s, xs[k]? = some s → ShAt w b (o + k * 5) s := by
  rcases h.2.2.2 with h0 | h1
  · omega
  · exact h1

theorem five {α : Type} (f : Nat → α) : (List.range 5).map f = [f 0, f 1, f 2, f 3, f 4] := rfl
set_option maxRecDepth 100000 in
theorem open_Sheet {H : Type} {enc : TypeId × Value → H} {w : World} {base : Nat} {spare : Nat → Bool} {held : Bool} {r : Reach} {b0 : Nat} {v : Value} {d : DataW H} {p : List MemPlace}
    (hv : Value.okWide Tryd.prog w r b0 23 v) (h : DataW.Trod enc Tryd.prog w base spare held 23 v d p) : ∃ s : Sh, v = .agg #[.int .i64 s.id, .int .i64 s.row, .int .i64 s.col, .int .i64 s.scale, .int .i64 s.year] := by
  have h1 := fun hone hints hC => open_ints_struct (P := Tryd.prog) Tryd.underlying23 hone hints hC hv h
  obtain ⟨f, hf⟩ := h1 (by kernel_rfl) (AllInts.mk (t := 3) (by kernel_rfl) Tryd.underlying3) (by kernel_rfl)
  exact ⟨⟨f 0, f 1, f 2, f 3, f 4⟩, hf⟩
/-- A sheet's five cells. -/
def Sh.cells (s : Sh) : List Value := [.int .i64 s.id, .int .i64 s.row, .int .i64 s.col, .int .i64 s.scale, .int .i64 s.year]
theorem Sh.cells_len (s : Sh) : s.cells.length = 5 := rfl
def shCells (xs : List Sh) : List Value := xs.flatMap Sh.cells
theorem shCells_len (xs : List Sh) : (shCells xs).length = xs.length * 5 := by
  induction xs with
  | nil => rfl
  | cons x xs ih => simp [shCells, Sh.cells_len] at *; omega
theorem shCells_snoc (xs : List Sh) (s : Sh) : shCells (xs ++ [s]) = shCells xs ++ s.cells := by simp [shCells]
theorem shCells_at {xs : List Sh} {k : Nat} {s : Sh} (h : xs[k]? = some s) (j : Nat) (hj : j < 5) : (shCells xs)[k * 5 + j]? = s.cells[j]? := by
  have hk : k < xs.length := (List.getElem?_eq_some_iff.1 h).1
  have e : xs = xs.take k ++ s :: xs.drop (k + 1) := by
    have h2 := List.take_append_drop k xs
    rw [List.drop_eq_getElem_cons hk] at h2
    have : xs[k] = s := by rw [List.getElem?_eq_getElem hk] at h; simpa using h
    rw [this] at h2; exact h2.symm
  have hl : (shCells (xs.take k)).length = k * 5 := by rw [shCells_len, List.length_take]; omega
  rw [e, show shCells (xs.take k ++ s :: xs.drop (k + 1)) = shCells (xs.take k) ++ (s.cells ++ shCells (xs.drop (k + 1))) from by simp [shCells], List.getElem?_append_right (by omega), hl, show k * 5 + j - k * 5 = j from by omega, List.getElem?_append_left (by rw [Sh.cells_len]; exact hj)]
theorem set5 (L1 L2 : List Value) (a0 a1 a2 a3 a4 v0 v1 v2 v3 v4 : Value) (o : Nat) (h : L1.length = o) :
    (((((L1 ++ a0 :: a1 :: a2 :: a3 :: a4 :: L2).set o v0).set (o + 1) v1).set (o + 2) v2).set (o + 3) v3).set (o + 4) v4 = L1 ++ v0 :: v1 :: v2 :: v3 :: v4 :: L2 := by
  subst h
  simp [List.set_append_right]
theorem isSheetS_own {w : World} {base : Nat} {v : Value} {xs : List Sh} (h : w.ownsRow base 26 5 v xs.length (shCells xs)) :
    ∃ a cap, v = .slice a xs.length cap ∧ IsSheetS w a xs.length cap xs := by
  have hlt := h.lt
  rcases h.2 with ⟨rfl, h0⟩ | ⟨g, cap, cur, rfl, hg, hh, hn, hcap, hsz, htake⟩
  · exact ⟨none, 0, by rw [h0], by rw [h0], by omega, by simp [maxLen], .inl h0⟩
  · refine ⟨some ⟨g, 0, none⟩, cap, rfl, rfl, hn, hcap, ?_⟩
    by_cases hz : xs.length = 0
    · exact .inl hz
    · refine .inr ⟨g, 0, rfl, (hlt g rfl).2, fun k s hs => ?_⟩
      have each : ∀ j u, j < 5 → s.cells[j]? = some u → w.cell? ⟨g, 0 + k * 5 + j, none⟩ = some u := fun j u hj hu => by
        have hc := h.cells (g := g) rfl (k * 5 + j) u ((shCells_at hs j hj).trans hu)
        rw [add_plain, ← Nat.add_assoc] at hc; exact hc
      exact ⟨each 0 _ (by decide) rfl, each 1 _ (by decide) rfl, each 2 _ (by decide) rfl, each 3 _ (by decide) rfl, each 4 _ (by decide) rfl⟩
theorem infoSheet : (Tryd.prog.info? 26).map (fun i => (i.zero, i.size, i.bytes)) = some (some (.agg #[.int .i64 0, .int .i64 0, .int .i64 0, .int .i64 0, .int .i64 0]), 5, 40) := by kernel_rfl
def zeros5 (n : Nat) : List Value := List.replicate (n * 5) (.int .i64 0)
theorem zeros5_succ (n : Nat) : zeros5 (n + 1) = .int .i64 0 :: .int .i64 0 :: .int .i64 0 :: .int .i64 0 :: .int .i64 0 :: zeros5 n := by
  unfold zeros5; rw [show (n + 1) * 5 = n * 5 + 1 + 1 + 1 + 1 + 1 from by omega]; simp [List.replicate_succ]
theorem made5 (n : Nat) : (madeCells (Value.agg #[.int .i64 0, .int .i64 0, .int .i64 0, .int .i64 0, .int .i64 0]).cells (n * 5)).toList = zeros5 n := by
  apply List.ext_getElem?
  intro j
  rw [Array.getElem?_toList]
  unfold zeros5
  by_cases h : j < n * 5
  · have hm : j % 5 < 5 := Nat.mod_lt _ (by decide)
    have e : ∀ m (hm : m < [Value.int .i64 0, Value.int .i64 0, Value.int .i64 0, Value.int .i64 0, Value.int .i64 0].length), [Value.int .i64 0, Value.int .i64 0, Value.int .i64 0, Value.int .i64 0, Value.int .i64 0][m]'hm = Value.int .i64 0 := by
      intro m hm
      have : m = 0 ∨ m = 1 ∨ m = 2 ∨ m = 3 ∨ m = 4 := by simp at hm; omega
      rcases this with rfl | rfl | rfl | rfl | rfl <;> rfl
    simp [madeCells, h, Value.cells, hm]
    exact e _ hm
  · simp [madeCells, h]
theorem stored5 {w : World} {base n c g : Nat} {e : TypeId} {size : Nat} {L1 L2 : List Value} {a0 a1 a2 a3 a4 : Value} (h : w.ownsRow base e size (.slice (some ⟨g, 0, none⟩) n c) n (L1 ++ a0 :: a1 :: a2 :: a3 :: a4 :: L2)) (o : Nat) (hl : L1.length = o) (v0 v1 v2 v3 v4 : Value) :
    (((((w.setCell ⟨g, o, none⟩ v0).setCell ⟨g, o + 1, none⟩ v1).setCell ⟨g, o + 2, none⟩ v2).setCell ⟨g, o + 3, none⟩ v3).setCell ⟨g, o + 4, none⟩ v4).ownsRow base e size (.slice (some ⟨g, 0, none⟩) n c) n (L1 ++ v0 :: v1 :: v2 :: v3 :: v4 :: L2) ∧
    w.grownBy (((((w.setCell ⟨g, o, none⟩ v0).setCell ⟨g, o + 1, none⟩ v1).setCell ⟨g, o + 2, none⟩ v2).setCell ⟨g, o + 3, none⟩ v3).setCell ⟨g, o + 4, none⟩ v4) (some g) := by
  have h0 := h.stored o v0
  have h1 := h0.1.stored (o + 1) v1
  have h2 := h1.1.stored (o + 2) v2
  have h3 := h2.1.stored (o + 3) v3
  have h4 := h3.1.stored (o + 4) v4
  refine ⟨?_, grown_trans (grown_trans (grown_trans (grown_trans h0.2 h1.2) h2.2) h3.2) h4.2⟩
  have := h4.1
  rw [set5 _ _ _ _ _ _ _ _ _ _ _ _ _ hl] at this
  exact this
/-- A row of sheets of the call's own, and the world below as it was. -/
def ShsPost (xs : List Sh) (w : World) (e : Ending) (w' : World) : Prop := ∃ v, e = .returned v ∧ w'.ownsRow w.heap.size 26 5 v xs.length (shCells xs) ∧ Below w.heap.size w w'

end Go.Proofs.YtidaoijpbdljbaaDoor
