/- The struct Spot: its fields; one read from an argument; slices of it; and the laws' own helpers over it. (made by gen.py) -/
import Derived.Test.YtidaoijpbdljbaaOpen2
import Derived.Test.YtidaoijpbdljbaaBox0
import Derived.Test.YtidaoijpbdljbaaAppL
import Derived.Test.YtidaoijpbdljbaaReg
import Derived.Deep.RegionWith
import Derived.Laws.OwnMore
import Derived.Handy
import Derived.Laws.IdiomRangeMap
namespace Go.Proofs.Ytidaoijpbdljbaa
open Go.RowKit Go.ChangeShapes Go.WideShapes Go.Deep

structure VSpot where
  X : Int
  Y : Int
  Den : Int
def VSpot.vals (s : VSpot) : List Value := [.int .i64 s.X, .int .i64 s.Y, .int .i64 s.Den]
theorem VSpot.vals_len (s : VSpot) : s.vals.length = 3 := rfl
theorem VSpot.vals_one (s : VSpot) : ∀ u ∈ s.vals, u.oneCell' = true := by
  intro u hu
  simp [VSpot.vals] at hu
  rcases hu with rfl | rfl | rfl <;> rfl
/-- It lies at block b from offset o on. -/
def SpotAt (w : World) (b o : Nat) (s : VSpot) : Prop :=
  w.cell? ⟨b, o, none⟩ = some (.int .i64 s.X) ∧ w.cell? ⟨b, o + 1, none⟩ = some (.int .i64 s.Y) ∧ w.cell? ⟨b, o + 2, none⟩ = some (.int .i64 s.Den)
def IsSpotS (w : World) (a : Option Addr) (len cap : Nat) (xs : List VSpot) : Prop :=
  len = xs.length ∧ len ≤ cap ∧ cap ≤ maxLen ∧ (len = 0 ∨ ∃ b o, a = some ⟨b, o, none⟩ ∧ b < w.heap.size ∧ ∀ (k : Nat) s, xs[k]? = some s → SpotAt w b (o + k * 3) s)
theorem SpotAt.below {w w' : World} {b o : Nat} {s : VSpot} (h : SpotAt w b o s) (hb : Below w.heap.size w w') (hlt : b < w.heap.size) : SpotAt w' b o s :=
  ⟨(hb.cell (p := ⟨b, o, none⟩) hlt).trans h.1, (hb.cell (p := ⟨b, o + 1, none⟩) hlt).trans h.2.1, (hb.cell (p := ⟨b, o + 2, none⟩) hlt).trans h.2.2⟩
theorem SpotAt.block {w w' : World} {b o : Nat} {s : VSpot} (h : SpotAt w b o s) (hb : w'.heap[b]? = w.heap[b]?) : SpotAt w' b o s :=
  ⟨(World.cell?_of_block (w := w) (a := ⟨b, o, none⟩) hb).trans h.1, (World.cell?_of_block (w := w) (a := ⟨b, o + 1, none⟩) hb).trans h.2.1, (World.cell?_of_block (w := w) (a := ⟨b, o + 2, none⟩) hb).trans h.2.2⟩
theorem IsSpotS.below {w w' : World} {a : Option Addr} {len cap : Nat} {xs : List VSpot} (h : IsSpotS w a len cap xs) (hb : Below w.heap.size w w') : IsSpotS w' a len cap xs := by
  refine ⟨h.1, h.2.1, h.2.2.1, ?_⟩
  rcases h.2.2.2 with h0 | ⟨b, o, rfl, h1, h2⟩
  · exact .inl h0
  · exact .inr ⟨b, o, rfl, Nat.lt_of_lt_of_le h1 hb.size, fun k s hs => (h2 k s hs).below hb h1⟩
theorem IsSpotS.grown {w w' : World} {a : Option Addr} {len cap : Nat} {xs : List VSpot} {row : Option Nat} (h : IsSpotS w a len cap xs) (hg : w.grownBy w' row) (hne : ∀ b o, a = some ⟨b, o, none⟩ → some b ≠ row) : IsSpotS w' a len cap xs := by
  refine ⟨h.1, h.2.1, h.2.2.1, ?_⟩
  rcases h.2.2.2 with h0 | ⟨b, o, rfl, h1, h2⟩
  · exact .inl h0
  · exact .inr ⟨b, o, rfl, Nat.lt_of_lt_of_le h1 hg.size, fun k s hs => (h2 k s hs).block (hg.block b h1 (hne b o rfl))⟩
theorem IsSpotS.at {w : World} {a : Option Addr} {len cap : Nat} {xs : List VSpot} (h : IsSpotS w a len cap xs) (hpos : 0 < len) : ∃ b o, a = some ⟨b, o, none⟩ ∧ b < w.heap.size ∧ ∀ (k : Nat) s, xs[k]? = some s → SpotAt w b (o + k * 3) s := by
  rcases h.2.2.2 with h0 | h1
  · omega
  · exact h1
theorem nil_IsSpotS (w : World) : IsSpotS w none 0 0 [] := ⟨rfl, Nat.le_refl _, by simp [maxLen], .inl rfl⟩
def cellsSpot (xs : List VSpot) : List Value := xs.flatMap VSpot.vals
theorem cellsSpot_len (xs : List VSpot) : (cellsSpot xs).length = xs.length * 3 := by
  induction xs with
  | nil => rfl
  | cons x xs ih => simp [cellsSpot, VSpot.vals_len] at *; omega
theorem cellsSpot_append (xs ys : List VSpot) : cellsSpot (xs ++ ys) = cellsSpot xs ++ cellsSpot ys := by simp [cellsSpot]
theorem cellsSpot_snoc (xs : List VSpot) (s : VSpot) : cellsSpot (xs ++ [s]) = cellsSpot xs ++ s.vals := by simp [cellsSpot]
theorem cellsSpot_at {xs : List VSpot} {k : Nat} {s : VSpot} (h : xs[k]? = some s) (j : Nat) (hj : j < 3) : (cellsSpot xs)[k * 3 + j]? = s.vals[j]? := by
  have hk : k < xs.length := (List.getElem?_eq_some_iff.1 h).1
  have e : xs = xs.take k ++ s :: xs.drop (k + 1) := by
    have h2 := List.take_append_drop k xs
    rw [List.drop_eq_getElem_cons hk] at h2
    have : xs[k] = s := by rw [List.getElem?_eq_getElem hk] at h; simpa using h
    rw [this] at h2; exact h2.symm
  have hl : (cellsSpot (xs.take k)).length = k * 3 := by rw [cellsSpot_len, List.length_take]; omega
  rw [e, show cellsSpot (xs.take k ++ s :: xs.drop (k + 1)) = cellsSpot (xs.take k) ++ (s.vals ++ cellsSpot (xs.drop (k + 1))) from by simp [cellsSpot], List.getElem?_append_right (by omega), hl, show k * 3 + j - k * 3 = j from by omega, List.getElem?_append_left (by rw [VSpot.vals_len]; exact hj)]
theorem cell_Spot (w : World) (s : VSpot) (t : TypeId) : ∀ j u, s.vals[j]? = some u → (w.alloc (.cells #[.int .i64 s.X, .int .i64 s.Y, .int .i64 s.Den] t)).cell? ((⟨w.heap.size, 0, none⟩ : Addr).add j) = some u := by
  intro j u hj
  rw [add_plain, Nat.zero_add, World.cell?_alloc_new]
  simpa [VSpot.vals] using hj
theorem cell_Spot2 (w : World) (o : Obj) (s : VSpot) (t : TypeId) : ∀ j u, s.vals[j]? = some u → ((w.alloc o).alloc (.cells #[.int .i64 s.X, .int .i64 s.Y, .int .i64 s.Den] t)).cell? ((⟨w.heap.size + 1, 0, none⟩ : Addr).add j) = some u := by
  have h := cell_Spot (w.alloc o) s t
  rw [show (w.alloc o).heap.size = w.heap.size + 1 from by show (w.heap.push o).size = _; simp] at h
  exact h
/-- A slice of them, as what is appended. -/
theorem srcSpot {w : World} {a : Option Addr} {len cap : Nat} {xs : List VSpot} (h : IsSpotS w a len cap xs) : SrcAt w a len 3 (cellsSpot xs) := by
  refine ⟨by rw [cellsSpot_len, h.1], ?_⟩
  rcases h.2.2.2 with h0 | ⟨b, o, rfl, hb, hat⟩
  · exact .inl h0
  · refine .inr ⟨_, rfl, fun j u hj => ?_⟩
    rw [add_plain]
    have hl := (List.getElem?_eq_some_iff.1 hj).1
    rw [cellsSpot_len] at hl
    obtain ⟨k, r, rfl, hr⟩ : ∃ k r, j = k * 3 + r ∧ r < 3 := ⟨j / 3, j % 3, by omega, Nat.mod_lt _ (by decide)⟩
    have hk : k < xs.length := by omega
    have hs : xs[k]? = some xs[k] := List.getElem?_eq_getElem hk
    have hu := cellsSpot_at hs r hr
    rw [hj] at hu
    have ha := hat k _ hs
    rw [← Nat.add_assoc]
    rcases (show r = 0 ∨ r = 1 ∨ r = 2 by omega) with rfl | rfl | rfl
    · rw [hu]; exact ha.1
    · rw [hu]; exact ha.2.1
    · rw [hu]; exact ha.2.2
/-- It lies in the box b of some type. -/
def BoxSpot (w : World) (b : Nat) (s : VSpot) : Prop := w.cell? ⟨b, 0, none⟩ = some (.int .i64 s.X) ∧ w.cell? ⟨b, 1, none⟩ = some (.int .i64 s.Y) ∧ w.cell? ⟨b, 2, none⟩ = some (.int .i64 s.Den)
theorem BoxSpot.new (w : World) (t : TypeId) (s : VSpot) (B : Nat) (hB : w.heap.size = B) : BoxSpot (w.alloc (.cells #[.int .i64 s.X, .int .i64 s.Y, .int .i64 s.Den] t)) B s := by
  subst hB
  refine ⟨?_, ?_, ?_⟩ <;> simp [World.cell?_alloc_new]
theorem BoxSpot.lt {w : World} {b : Nat} {s : VSpot} (h : BoxSpot w b s) : b < w.heap.size := World.lt_of_cell h.1
theorem BoxSpot.below {w w' : World} {b : Nat} {s : VSpot} (h : BoxSpot w b s) (hb : Below w.heap.size w w') : BoxSpot w' b s :=
  ⟨(hb.cell (p := ⟨b, 0, none⟩) h.lt).trans h.1, (hb.cell (p := ⟨b, 1, none⟩) h.lt).trans h.2.1, (hb.cell (p := ⟨b, 2, none⟩) h.lt).trans h.2.2⟩
theorem BoxSpot.grown {w w' : World} {b : Nat} {s : VSpot} {row : Option Nat} (h : BoxSpot w b s) (hg : w.grownBy w' row) (hne : some b ≠ row) : BoxSpot w' b s :=
  ⟨(World.cell?_of_block (w := w) (a := ⟨b, 0, none⟩) (hg.block b h.lt hne)).trans h.1, (World.cell?_of_block (w := w) (a := ⟨b, 1, none⟩) (hg.block b h.lt hne)).trans h.2.1, (World.cell?_of_block (w := w) (a := ⟨b, 2, none⟩) (hg.block b h.lt hne)).trans h.2.2⟩
def zerosSpot (n : Nat) : List Value := (List.replicate n [.int .i64 0, .int .i64 0, .int .i64 0]).flatten
theorem zerosSpot_succ (n : Nat) : zerosSpot (n + 1) = .int .i64 0 :: .int .i64 0 :: .int .i64 0 :: zerosSpot n := by
  unfold zerosSpot; rw [List.replicate_succ]; rfl
theorem zerosSpot_len (n : Nat) : (zerosSpot n).length = n * 3 := by
  induction n with
  | zero => rfl
  | succ n ih => rw [zerosSpot_succ]; simp [ih]; omega
theorem zerosSpot_at (n j : Nat) (h : j < n * 3) : (zerosSpot n)[j]? = [.int .i64 0, .int .i64 0, .int .i64 0][j % 3]? := by
  induction n generalizing j with
  | zero => omega
  | succ n ih =>
    rw [zerosSpot_succ]
    by_cases hj : j < 3
    · rw [Nat.mod_eq_of_lt hj]
      rcases (show j = 0 ∨ j = 1 ∨ j = 2 by omega) with rfl | rfl | rfl <;> rfl
    · obtain ⟨i, rfl⟩ : ∃ i, j = i + 3 := ⟨j - 3, by omega⟩
      rw [Nat.add_mod_right, ← ih i (by omega)]
      rfl
theorem madeSpot (n : Nat) : (madeCells (.agg #[.int .i64 0, .int .i64 0, .int .i64 0] : Value).cells (n * 3)).toList = zerosSpot n := by
  apply List.ext_getElem?
  intro j
  rw [Array.getElem?_toList]
  by_cases h : j < n * 3
  · rw [zerosSpot_at n j h]
    have hm : j % 3 < 3 := Nat.mod_lt _ (by decide)
    simp only [madeCells, Value.cells]
    rw [Array.getElem?_eq_getElem (by simpa using h)]
    rcases (show j % 3 = 0 ∨ j % 3 = 1 ∨ j % 3 = 2 by omega) with e | e | e <;> simp [e]
  · rw [List.getElem?_eq_none (by rw [zerosSpot_len]; omega)]
    simp [madeCells, h]
theorem setSpot (A L : List Value) (v0 v1 v2 : Value) (o : Nat) (hA : A.length = o) (hL : o + 3 ≤ L.length) :
    ((((A ++ L.drop o).set (o) v0).set (o + 1) v1).set (o + 2) v2) = A ++ v0 :: v1 :: v2 :: L.drop (o + 3) := by
  subst hA
  obtain ⟨a0, a1, a2, e⟩ : ∃ a0 a1 a2, L.drop A.length = a0 :: a1 :: a2 :: L.drop (A.length + 3) := ⟨_, _, _, by rw [List.drop_eq_getElem_cons (show A.length < L.length by omega), List.drop_eq_getElem_cons (show A.length + 1 < L.length by omega), List.drop_eq_getElem_cons (show A.length + 2 < L.length by omega)]⟩
  rw [e]
  generalize L.drop (A.length + 3) = D
  simp [List.set_append_right]
theorem storedSpot {w : World} {base n c g o : Nat} {e : TypeId} {size : Nat} {A L : List Value} (h : w.ownsRow base e size (.slice (some ⟨g, 0, none⟩) n c) n (A ++ L.drop o)) (hA : A.length = o) (hL : o + 3 ≤ L.length) (v0 v1 v2 : Value) :
    (((w.setCell ⟨g, o, none⟩ v0).setCell ⟨g, o + 1, none⟩ v1).setCell ⟨g, o + 2, none⟩ v2).ownsRow base e size (.slice (some ⟨g, 0, none⟩) n c) n (A ++ v0 :: v1 :: v2 :: L.drop (o + 3)) ∧ w.grownBy (((w.setCell ⟨g, o, none⟩ v0).setCell ⟨g, o + 1, none⟩ v1).setCell ⟨g, o + 2, none⟩ v2) (some g) := by
  have h0 := h.stored (o) v0
  have h1 := h0.1.stored (o + 1) v1
  have h2 := h1.1.stored (o + 2) v2
  refine ⟨?_, (grown_trans (grown_trans h0.2 h1.2) h2.2)⟩
  have := h2.1
  rw [setSpot A L v0 v1 v2 o hA hL] at this
  exact this
theorem cellsSpot_drop (xs : List VSpot) (i : Nat) : (cellsSpot xs).drop (i * 3) = cellsSpot (xs.drop i) := by
  by_cases h : i ≤ xs.length
  · have e : cellsSpot xs = cellsSpot (xs.take i) ++ cellsSpot (xs.drop i) := by
      unfold cellsSpot
      rw [← List.flatMap_append, List.take_append_drop]
    have hl : (cellsSpot (xs.take i)).length = i * 3 := by rw [cellsSpot_len, List.length_take]; omega
    rw [e, List.drop_append_of_le_length (by omega), List.drop_of_length_le (by omega), List.nil_append]
  · rw [List.drop_of_length_le (show xs.length ≤ i by omega), List.drop_of_length_le (by rw [cellsSpot_len]; omega)]; rfl
theorem cellsSpot_take (xs : List VSpot) (i : Nat) : cellsSpot xs = cellsSpot (xs.take i) ++ (cellsSpot xs).drop (i * 3) := by
  rw [cellsSpot_drop]
  unfold cellsSpot
  rw [← List.flatMap_append, List.take_append_drop]
theorem cellsSpot_set (xs : List VSpot) (i : Nat) (r : VSpot) (h : i < xs.length) : cellsSpot (xs.set i r) = cellsSpot (xs.take i) ++ (r.vals ++ (cellsSpot xs).drop (i * 3 + 3)) := by
  rw [List.set_eq_take_append_cons_drop, if_pos h, show i * 3 + 3 = (i + 1) * 3 by omega, cellsSpot_drop]
  simp [cellsSpot]
/-- The marks from b on, and n of them. -/
def markSpot (b : Nat) : VSpot := ⟨((b : Nat) : Int), ((b + 1 : Nat) : Int), ((b + 2 : Nat) : Int)⟩
def marksSpot (k n : Nat) : List VSpot := (List.range n).map fun i => markSpot (k + i * 3)
theorem marksSpot_len (k n : Nat) : (marksSpot k n).length = n := by simp [marksSpot]
theorem marksSpot_succ (k n : Nat) : marksSpot k (n + 1) = marksSpot k n ++ [markSpot (k + n * 3)] := by simp [marksSpot, List.range_succ]
theorem marksSpot_at (k n i : Nat) (h : i < n) : (marksSpot k n)[i]? = some (markSpot (k + i * 3)) := by simp [marksSpot, h]
end Go.Proofs.Ytidaoijpbdljbaa
