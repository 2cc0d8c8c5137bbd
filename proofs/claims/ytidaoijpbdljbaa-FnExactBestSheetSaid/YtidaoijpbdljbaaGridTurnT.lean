/- The struct GridTurn: its fields; one read from an argument; slices of it; and the laws' own helpers over it. (made by gen.py) -/
import Derived.Test.YtidaoijpbdljbaaOpen2
import Derived.Test.YtidaoijpbdljbaaBox0
import Derived.Test.YtidaoijpbdljbaaAppL
import Derived.Test.YtidaoijpbdljbaaReg
import Derived.Deep.RegionWith
import Derived.Laws.OwnMore
import Derived.Handy
import Derived.Laws.IdiomRangeMap
namespace Go.Proofs.Ytidaoijpbdljbaa
open Go.RowKit Go.ChangeShapes Go.WideShapes Go.Deep

structure VGridTurn where
  Quarters : Int
  Num : Int
  Den : Int
  East : Int
  North : Int
def VGridTurn.vals (s : VGridTurn) : List Value := [.int .i64 s.Quarters, .int .i64 s.Num, .int .i64 s.Den, .int .i64 s.East, .int .i64 s.North]
theorem VGridTurn.vals_len (s : VGridTurn) : s.vals.length = 5 := rfl
theorem VGridTurn.vals_one (s : VGridTurn) : ∀ u ∈ s.vals, u.oneCell' = true := by
  intro u hu
  simp [VGridTurn.vals] at hu
  rcases hu with rfl | rfl | rfl | rfl | rfl <;> rfl
/-- It lies at block b from offset o on. -/
def GridTurnAt (w : World) (b o : Nat) (s : VGridTurn) : Prop :=
  w.cell? ⟨b, o, none⟩ = some (.int .i64 s.Quarters) ∧ w.cell? ⟨b, o + 1, none⟩ = some (.int .i64 s.Num) ∧ w.cell? ⟨b, o + 2, none⟩ = some (.int .i64 s.Den) ∧ w.cell? ⟨b, o + 3, none⟩ = some (.int .i64 s.East) ∧ w.cell? ⟨b, o + 4, none⟩ = some (.int .i64 s.North)
def IsGridTurnS (w : World) (a : Option Addr) (len cap : Nat) (xs : List VGridTurn) : Prop :=
  len = xs.length ∧ len ≤ cap ∧ cap ≤ maxLen ∧ (len = 0 ∨ ∃ b o, a = some ⟨b, o, none⟩ ∧ b < w.heap.size ∧ ∀ (k : Nat) s, xs[k]? = some s → GridTurnAt w b (o + k * 5) s)
theorem GridTurnAt.below {w w' : World} {b o : Nat} {s : VGridTurn} (h : GridTurnAt w b o s) (hb : Below w.heap.size w w') (hlt : b < w.heap.size) : GridTurnAt w' b o s :=
  ⟨(hb.cell (p := ⟨b, o, none⟩) hlt).trans h.1, (hb.cell (p := ⟨b, o + 1, none⟩) hlt).trans h.2.1, (hb.cell (p := ⟨b, o + 2, none⟩) hlt).trans h.2.2.1, (hb.cell (p := ⟨b, o + 3, none⟩) hlt).trans h.2.2.2.1, (hb.cell (p := ⟨b, o + 4, none⟩) hlt).trans h.2.2.2.2⟩
theorem GridTurnAt.block {w w' : World} {b o : Nat} {s : VGridTurn} (h : GridTurnAt w b o s) (hb : w'.heap[b]? = w.heap[b]?) : GridTurnAt w' b o s :=
  ⟨(World.cell?_of_block (w := w) (a := ⟨b, o, none⟩) hb).trans h.1, (World.cell?_of_block (w := w) (a := ⟨b, o + 1, none⟩) hb).trans h.2.1, (World.cell?_of_block (w := w) (a := ⟨b, o + 2, none⟩) hb).trans h.2.2.1, (World.cell?_of_block (w := w) (a := ⟨b, o + 3, none⟩) hb).trans h.2.2.2.1, (World.cell?_of_block (w := w) (a := ⟨b, o + 4, none⟩) hb).trans h.2.2.2.2⟩
theorem IsGridTurnS.below {w w' : World} {a : Option Addr} {len cap : Nat} {xs : List VGridTurn} (h : IsGridTurnS w a len cap xs) (hb : Below w.heap.size w w') : IsGridTurnS w' a len cap xs := by
  refine ⟨h.1, h.2.1, h.2.2.1, ?_⟩
  rcases h.2.2.2 with h0 | ⟨b, o, rfl, h1, h2⟩
  · exact .inl h0
  · exact .inr ⟨b, o, rfl, Nat.lt_of_lt_of_le h1 hb.size, fun k s hs => (h2 k s hs).below hb h1⟩
theorem IsGridTurnS.grown {w w' : World} {a : Option Addr} {len cap : Nat} {xs : List VGridTurn} {row : Option Nat} (h : IsGridTurnS w a len cap xs) (hg : w.grownBy w' row) (hne : ∀ b o, a = some ⟨b, o, none⟩ → some b ≠ row) : IsGridTurnS w' a len cap xs := by
  refine ⟨h.1, h.2.1, h.2.2.1, ?_⟩
  rcases h.2.2.2 with h0 | ⟨b, o, rfl, h1, h2⟩
  · exact .inl h0
  · exact .inr ⟨b, o, rfl, Nat.lt_of_lt_of_le h1 hg.size, fun k s hs => (h2 k s hs).block (hg.block b h1 (hne b o rfl))⟩
theorem IsGridTurnS.at {w : World} {a : Option Addr} {len cap : Nat} {xs : List VGridTurn} (h : IsGridTurnS w a len cap xs) (hpos : 0 < len) : ∃ b o, a = some ⟨b, o, none⟩ ∧ b < w.heap.size ∧ ∀ (k : Nat) s, xs[k]? = some s → GridTurnAt w b (o + k * 5) s := by
  rcases h.2.2.2 with h0 | h1
  · omega
  · exact h1
theorem nil_IsGridTurnS (w : World) : IsGridTurnS w none 0 0 [] := ⟨rfl, Nat.le_refl _, by simp [maxLen], .inl rfl⟩
def cellsGridTurn (xs : List VGridTurn) : List Value := xs.flatMap VGridTurn.vals
theorem cellsGridTurn_len (xs : List VGridTurn) : (cellsGridTurn xs).length = xs.length * 5 := by
  induction xs with
  | nil => rfl
  | cons x xs ih => simp [cellsGridTurn, VGridTurn.vals_len] at *; omega
theorem cellsGridTurn_append (xs ys : List VGridTurn) : cellsGridTurn (xs ++ ys) = cellsGridTurn xs ++ cellsGridTurn ys := by simp [cellsGridTurn]
theorem cellsGridTurn_snoc (xs : List VGridTurn) (s : VGridTurn) : cellsGridTurn (xs ++ [s]) = cellsGridTurn xs ++ s.vals := by simp [cellsGridTurn]
theorem cellsGridTurn_at {xs : List VGridTurn} {k : Nat} {s : VGridTurn} (h : xs[k]? = some s) (j : Nat) (hj : j < 5) : (cellsGridTurn xs)[k * 5 + j]? = s.vals[j]? := by
  have hk : k < xs.length := (List.getElem?_eq_some_iff.1 h).1
  have e : xs = xs.take k ++ s :: xs.drop (k + 1) := by
    have h2 := List.take_append_drop k xs
    rw [List.drop_eq_getElem_cons hk] at h2
    have : xs[k] = s := by rw [List.getElem?_eq_getElem hk] at h; simpa using h
    rw [this] at h2; exact h2.symm
  have hl : (cellsGridTurn (xs.take k)).length = k * 5 := by rw [cellsGridTurn_len, List.length_take]; omega
  rw [e, show cellsGridTurn (xs.take k ++ s :: xs.drop (k + 1)) = cellsGridTurn (xs.take k) ++ (s.vals ++ cellsGridTurn (xs.drop (k + 1))) from by simp [cellsGridTurn], List.getElem?_append_right (by omega), hl, show k * 5 + j - k * 5 = j from by omega, List.getElem?_append_left (by rw [VGridTurn.vals_len]; exact hj)]
theorem cell_GridTurn (w : World) (s : VGridTurn) (t : TypeId) : ∀ j u, s.vals[j]? = some u → (w.alloc (.cells #[.int .i64 s.Quarters, .int .i64 s.Num, .int .i64 s.Den, .int .i64 s.East, .int .i64 s.North] t)).cell? ((⟨w.heap.size, 0, none⟩ : Addr).add j) = some u := by
  intro j u hj
  rw [add_plain, Nat.zero_add, World.cell?_alloc_new]
  simpa [VGridTurn.vals] using hj
theorem cell_GridTurn2 (w : World) (o : Obj) (s : VGridTurn) (t : TypeId) : ∀ j u, s.vals[j]? = some u → ((w.alloc o).alloc (.cells #[.int .i64 s.Quarters, .int .i64 s.Num, .int .i64 s.Den, .int .i64 s.East, .int .i64 s.North] t)).cell? ((⟨w.heap.size + 1, 0, none⟩ : Addr).add j) = some u := by
  have h := cell_GridTurn (w.alloc o) s t
  rw [show (w.alloc o).heap.size = w.heap.size + 1 from by show (w.heap.push o).size = _; simp] at h
  exact h
/-- A slice of them, as what is appended. -/
theorem srcGridTurn {w : World} {a : Option Addr} {len cap : Nat} {xs : List VGridTurn} (h : IsGridTurnS w a len cap xs) : SrcAt w a len 5 (cellsGridTurn xs) := by
  refine ⟨by rw [cellsGridTurn_len, h.1], ?_⟩
  rcases h.2.2.2 with h0 | ⟨b, o, rfl, hb, hat⟩
  · exact .inl h0
  · refine .inr ⟨_, rfl, fun j u hj => ?_⟩
    rw [add_plain]
    have hl := (List.getElem?_eq_some_iff.1 hj).1
    rw [cellsGridTurn_len] at hl
    obtain ⟨k, r, rfl, hr⟩ : ∃ k r, j = k * 5 + r ∧ r < 5 := ⟨j / 5, j % 5, by omega, Nat.mod_lt _ (by decide)⟩
    have hk : k < xs.length := by omega
    have hs : xs[k]? = some xs[k] := List.getElem?_eq_getElem hk
    have hu := cellsGridTurn_at hs r hr
    rw [hj] at hu
    have ha := hat k _ hs
    rw [← Nat.add_assoc]
    rcases (show r = 0 ∨ r = 1 ∨ r = 2 ∨ r = 3 ∨ r = 4 by omega) with rfl | rfl | rfl | rfl | rfl
    · rw [hu]; exact ha.1
    · rw [hu]; exact ha.2.1
    · rw [hu]; exact ha.2.2.1
    · rw [hu]; exact ha.2.2.2.1
    · rw [hu]; exact ha.2.2.2.2
/-- It lies in the box b of some type. -/
def BoxGridTurn (w : World) (b : Nat) (s : VGridTurn) : Prop := w.cell? ⟨b, 0, none⟩ = some (.int .i64 s.Quarters) ∧ w.cell? ⟨b, 1, none⟩ = some (.int .i64 s.Num) ∧ w.cell? ⟨b, 2, none⟩ = some (.int .i64 s.Den) ∧ w.cell? ⟨b, 3, none⟩ = some (.int .i64 s.East) ∧ w.cell? ⟨b, 4, none⟩ = some (.int .i64 s.North)
theorem BoxGridTurn.new (w : World) (t : TypeId) (s : VGridTurn) (B : Nat) (hB : w.heap.size = B) : BoxGridTurn (w.alloc (.cells #[.int .i64 s.Quarters, .int .i64 s.Num, .int .i64 s.Den, .int .i64 s.East, .int .i64 s.North] t)) B s := by
  subst hB
  refine ⟨?_, ?_, ?_, ?_, ?_⟩ <;> simp [World.cell?_alloc_new]
theorem BoxGridTurn.lt {w : World} {b : Nat} {s : VGridTurn} (h : BoxGridTurn w b s) : b < w.heap.size := World.lt_of_cell h.1
theorem BoxGridTurn.below {w w' : World} {b : Nat} {s : VGridTurn} (h : BoxGridTurn w b s) (hb : Below w.heap.size w w') : BoxGridTurn w' b s :=
  ⟨(hb.cell (p := ⟨b, 0, none⟩) h.lt).trans h.1, (hb.cell (p := ⟨b, 1, none⟩) h.lt).trans h.2.1, (hb.cell (p := ⟨b, 2, none⟩) h.lt).trans h.2.2.1, (hb.cell (p := ⟨b, 3, none⟩) h.lt).trans h.2.2.2.1, (hb.cell (p := ⟨b, 4, none⟩) h.lt).trans h.2.2.2.2⟩
theorem BoxGridTurn.grown {w w' : World} {b : Nat} {s : VGridTurn} {row : Option Nat} (h : BoxGridTurn w b s) (hg : w.grownBy w' row) (hne : some b ≠ row) : BoxGridTurn w' b s :=
  ⟨(World.cell?_of_block (w := w) (a := ⟨b, 0, none⟩) (hg.block b h.lt hne)).trans h.1, (World.cell?_of_block (w := w) (a := ⟨b, 1, none⟩) (hg.block b h.lt hne)).trans h.2.1, (World.cell?_of_block (w := w) (a := ⟨b, 2, none⟩) (hg.block b h.lt hne)).trans h.2.2.1, (World.cell?_of_block (w := w) (a := ⟨b, 3, none⟩) (hg.block b h.lt hne)).trans h.2.2.2.1, (World.cell?_of_block (w := w) (a := ⟨b, 4, none⟩) (hg.block b h.lt hne)).trans h.2.2.2.2⟩
def zerosGridTurn (n : Nat) : List Value := (List.replicate n [.int .i64 0, .int .i64 0, .int .i64 0, .int .i64 0, .int .i64 0]).flatten
theorem zerosGridTurn_succ (n : Nat) : zerosGridTurn (n + 1) = .int .i64 0 :: .int .i64 0 :: .int .i64 0 :: .int .i64 0 :: .int .i64 0 :: zerosGridTurn n := by
  unfold zerosGridTurn; rw [List.replicate_succ]; rfl
theorem zerosGridTurn_len (n : Nat) : (zerosGridTurn n).length = n * 5 := by
  induction n with
  | zero => rfl
  | succ n ih => rw [zerosGridTurn_succ]; simp [ih]; omega
theorem zerosGridTurn_at (n j : Nat) (h : j < n * 5) : (zerosGridTurn n)[j]? = [.int .i64 0, .int .i64 0, .int .i64 0, .int .i64 0, .int .i64 0][j % 5]? := by
  induction n generalizing j with
  | zero => omega
  | succ n ih =>
    rw [zerosGridTurn_succ]
    by_cases hj : j < 5
    · rw [Nat.mod_eq_of_lt hj]
      rcases (show j = 0 ∨ j = 1 ∨ j = 2 ∨ j = 3 ∨ j = 4 by omega) with rfl | rfl | rfl | rfl | rfl <;> rfl
    · obtain ⟨i, rfl⟩ : ∃ i, j = i + 5 := ⟨j - 5, by omega⟩
      rw [Nat.add_mod_right, ← ih i (by omega)]
      rfl
theorem madeGridTurn (n : Nat) : (madeCells (.agg #[.int .i64 0, .int .i64 0, .int .i64 0, .int .i64 0, .int .i64 0] : Value).cells (n * 5)).toList = zerosGridTurn n := by
  apply List.ext_getElem?
  intro j
  rw [Array.getElem?_toList]
  by_cases h : j < n * 5
  · rw [zerosGridTurn_at n j h]
    have hm : j % 5 < 5 := Nat.mod_lt _ (by decide)
    simp only [madeCells, Value.cells]
    rw [Array.getElem?_eq_getElem (by simpa using h)]
    rcases (show j % 5 = 0 ∨ j % 5 = 1 ∨ j % 5 = 2 ∨ j % 5 = 3 ∨ j % 5 = 4 by omega) with e | e | e | e | e <;> simp [e]
  · rw [List.getElem?_eq_none (by rw [zerosGridTurn_len]; omega)]
    simp [madeCells, h]
theorem setGridTurn (A L : List Value) (v0 v1 v2 v3 v4 : Value) (o : Nat) (hA : A.length = o) (hL : o + 5 ≤ L.length) :
    ((((((A ++ L.drop o).set (o) v0).set (o + 1) v1).set (o + 2) v2).set (o + 3) v3).set (o + 4) v4) = A ++ v0 :: v1 :: v2 :: v3 :: v4 :: L.drop (o + 5) := by
  subst hA
  obtain ⟨a0, a1, a2, a3, a4, e⟩ : ∃ a0 a1 a2 a3 a4, L.drop A.length = a0 :: a1 :: a2 :: a3 :: a4 :: L.drop (A.length + 5) := ⟨_, _, _, _, _, by rw [List.drop_eq_getElem_cons (show A.length < L.length by omega), List.drop_eq_getElem_cons (show A.length + 1 < L.length by omega), List.drop_eq_getElem_cons (show A.length + 2 < L.length by omega), List.drop_eq_getElem_cons (show A.length + 3 < L.length by omega), List.drop_eq_getElem_cons (show A.length + 4 < L.length by omega)]⟩
  rw [e]
  generalize L.drop (A.length + 5) = D
  simp [List.set_append_right]
theorem storedGridTurn {w : World} {base n c g o : Nat} {e : TypeId} {size : Nat} {A L : List Value} (h : w.ownsRow base e size (.slice (some ⟨g, 0, none⟩) n c) n (A ++ L.drop o)) (hA : A.length = o) (hL : o + 5 ≤ L.length) (v0 v1 v2 v3 v4 : Value) :
    (((((w.setCell ⟨g, o, none⟩ v0).setCell ⟨g, o + 1, none⟩ v1).setCell ⟨g, o + 2, none⟩ v2).setCell ⟨g, o + 3, none⟩ v3).setCell ⟨g, o + 4, none⟩ v4).ownsRow base e size (.slice (some ⟨g, 0, none⟩) n c) n (A ++ v0 :: v1 :: v2 :: v3 :: v4 :: L.drop (o + 5)) ∧ w.grownBy (((((w.setCell ⟨g, o, none⟩ v0).setCell ⟨g, o + 1, none⟩ v1).setCell ⟨g, o + 2, none⟩ v2).setCell ⟨g, o + 3, none⟩ v3).setCell ⟨g, o + 4, none⟩ v4) (some g) := by
  have h0 := h.stored (o) v0
  have h1 := h0.1.stored (o + 1) v1
  have h2 := h1.1.stored (o + 2) v2
  have h3 := h2.1.stored (o + 3) v3
  have h4 := h3.1.stored (o + 4) v4
  refine ⟨?_, (grown_trans (grown_trans (grown_trans (grown_trans h0.2 h1.2) h2.2) h3.2) h4.2)⟩
  have := h4.1
  rw [setGridTurn A L v0 v1 v2 v3 v4 o hA hL] at this
  exact this
theorem cellsGridTurn_drop (xs : List VGridTurn) (i : Nat) : (cellsGridTurn xs).drop (i * 5) = cellsGridTurn (xs.drop i) := by
  by_cases h : i ≤ xs.length
  · have e : cellsGridTurn xs = cellsGridTurn (xs.take i) ++ cellsGridTurn (xs.drop i) := by
      unfold cellsGridTurn
      rw [← List.flatMap_append, List.take_append_drop]
    have hl : (cellsGridTurn (xs.take i)).length = i * 5 := by rw [cellsGridTurn_len, List.length_take]; omega
    rw [e, List.drop_append_of_le_length (by omega), List.drop_of_length_le (by omega), List.nil_append]
  · rw [List.drop_of_length_le (show xs.length ≤ i by omega), List.drop_of_length_le (by rw [cellsGridTurn_len]; omega)]; rfl
theorem cellsGridTurn_take (xs : List VGridTurn) (i : Nat) : cellsGridTurn xs = cellsGridTurn (xs.take i) ++ (cellsGridTurn xs).drop (i * 5) := by
  rw [cellsGridTurn_drop]
  unfold cellsGridTurn
  rw [← List.flatMap_append, List.take_append_drop]
theorem cellsGridTurn_set (xs : List VGridTurn) (i : Nat) (r : VGridTurn) (h : i < xs.length) : cellsGridTurn (xs.set i r) = cellsGridTurn (xs.take i) ++ (r.vals ++ (cellsGridTurn xs).drop (i * 5 + 5)) := by
  rw [List.set_eq_take_append_cons_drop, if_pos h, show i * 5 + 5 = (i + 1) * 5 by omega, cellsGridTurn_drop]
  simp [cellsGridTurn]
/-- The marks from b on, and n of them. -/
def markGridTurn (b : Nat) : VGridTurn := ⟨((b : Nat) : Int), ((b + 1 : Nat) : Int), ((b + 2 : Nat) : Int), ((b + 3 : Nat) : Int), ((b + 4 : Nat) : Int)⟩
def marksGridTurn (k n : Nat) : List VGridTurn := (List.range n).map fun i => markGridTurn (k + i * 5)
theorem marksGridTurn_len (k n : Nat) : (marksGridTurn k n).length = n := by simp [marksGridTurn]
theorem marksGridTurn_succ (k n : Nat) : marksGridTurn k (n + 1) = marksGridTurn k n ++ [markGridTurn (k + n * 5)] := by simp [marksGridTurn, List.range_succ]
theorem marksGridTurn_at (k n i : Nat) (h : i < n) : (marksGridTurn k n)[i]? = some (markGridTurn (k + i * 5)) := by simp [marksGridTurn, h]
end Go.Proofs.Ytidaoijpbdljbaa
