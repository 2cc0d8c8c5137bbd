/- The struct Reader: its fields; one read from an argument; slices of it; and the laws' own helpers over it. (made by gen.py) -/
import Derived.Test.YtffbljbgmgifnaaDoorOpen2
import Derived.Test.YtffbljbgmgifnaaDoorBox0
import Derived.Test.YtffbljbgmgifnaaDoorAppL
import Derived.Test.YtffbljbgmgifnaaDoorReg
import Derived.Test.YtffbljbgmgifnaaDoorMarkT
import Derived.Deep.RegionWith
import Derived.Laws.OwnMore
import Derived.Handy
import Derived.Laws.IdiomRangeMap
namespace Go.Proofs.YtffbljbgmgifnaaDoor
open Go.RowKit Go.ChangeShapes Go.WideShapes Go.Deep

structure VReader where
  Id : Int
  Name : ByteArray
  Joined : Int
  Class : Int
  Fines : Int
def VReader.vals (s : VReader) : List Value := [.int .i64 s.Id, .string s.Name, .int .i64 s.Joined, .int .i64 s.Class, .int .i64 s.Fines]
theorem VReader.vals_len (s : VReader) : s.vals.length = 5 := rfl
theorem VReader.vals_one (s : VReader) : ∀ u ∈ s.vals, u.oneCell' = true := by
  intro u hu
  simp [VReader.vals] at hu
  rcases hu with rfl | rfl | rfl | rfl | rfl <;> rfl
/-- Its texts are no longer than any text may be. -/
def VReader.small (s : VReader) : Prop := s.Name.size ≤ maxLen
/-- It lies at block b from offset o on. -/
def ReaderAt (w : World) (b o : Nat) (s : VReader) : Prop :=
  w.cell? ⟨b, o, none⟩ = some (.int .i64 s.Id) ∧ w.cell? ⟨b, o + 1, none⟩ = some (.string s.Name) ∧ w.cell? ⟨b, o + 2, none⟩ = some (.int .i64 s.Joined) ∧ w.cell? ⟨b, o + 3, none⟩ = some (.int .i64 s.Class) ∧ w.cell? ⟨b, o + 4, none⟩ = some (.int .i64 s.Fines) ∧ s.small
def IsReaderS (w : World) (a : Option Addr) (len cap : Nat) (xs : List VReader) : Prop :=
  len = xs.length ∧ len ≤ cap ∧ cap ≤ maxLen ∧ (len = 0 ∨ ∃ b o, a = some ⟨b, o, none⟩ ∧ b < w.heap.size ∧ ∀ (k : Nat) s, xs[k]? = some s → ReaderAt w b (o + k * 5) s)
theorem ReaderAt.below {w w' : World} {b o : Nat} {s : VReader} (h : ReaderAt w b o s) (hb : Below w.heap.size w w') (hlt : b < w.heap.size) : ReaderAt w' b o s :=
  ⟨(hb.cell (p := ⟨b, o, none⟩) hlt).trans h.1, (hb.cell (p := ⟨b, o + 1, none⟩) hlt).trans h.2.1, (hb.cell (p := ⟨b, o + 2, none⟩) hlt).trans h.2.2.1, (hb.cell (p := ⟨b, o + 3, none⟩) hlt).trans h.2.2.2.1, (hb.cell (p := ⟨b, o + 4, none⟩) hlt).trans h.2.2.2.2.1, h.2.2.2.2.2⟩
theorem ReaderAt.block {w w' : World} {b o : Nat} {s : VReader} (h : ReaderAt w b o s) (hb : w'.heap[b]? = w.heap[b]?) : ReaderAt w' b o s :=
  ⟨(World.cell?_of_block (w := w) (a := ⟨b, o, none⟩) hb).trans h.1, (World.cell?_of_block (w := w) (a := ⟨b, o + 1, none⟩) hb).trans h.2.1, (World.cell?_of_block (w := w) (a := ⟨b, o + 2, none⟩) hb).trans h.2.2.1, (World.cell?_of_block (w := w) (a := ⟨b, o + 3, none⟩) hb).trans h.2.2.2.1, (World.cell?_of_block (w := w) (a := ⟨b, o + 4, none⟩) hb).trans h.2.2.2.2.1, h.2.2.2.2.2⟩
theorem IsReaderS.below {w w' : World} {a : Option Addr} {len cap : Nat} {xs : List VReader} (h : IsReaderS w a len cap xs) (hb : Below w.heap.size w w') : IsReaderS w' a len cap xs := by
  refine ⟨h.1, h.2.1, h.2.2.1, ?_⟩
  rcases h.2.2.2 with h0 | ⟨b, o, rfl, h1, h2⟩
  · exact .inl h0
  · exact .inr ⟨b, o, rfl, Nat.lt_of_lt_of_le h1 hb.size, fun k s hs => (h2 k s hs).below hb h1⟩
theorem IsReaderS.grown {w w' : World} {a : Option Addr} {len cap : Nat} {xs : List VReader} {row : Option Nat} (h : IsReaderS w a len cap xs) (hg : w.grownBy w' row) (hne : ∀ b o, a = some ⟨b, o, none⟩ → some b ≠ row) : IsReaderS w' a len cap xs := by
  refine ⟨h.1, h.2.1, h.2.2.1, ?_⟩
  rcases h.2.2.2 with h0 | ⟨b, o, rfl, h1, h2⟩
  · exact .inl h0
  · exact .inr ⟨b, o, rfl, Nat.lt_of_lt_of_le h1 hg.size, fun k s hs => (h2 k s hs).block (hg.block b h1 (hne b o rfl))⟩
theorem IsReaderS.at {w : World} {a : Option Addr} {len cap : Nat} {xs : List VReader} (h : IsReaderS w a len cap xs) (hpos : 0 < len) : ∃ b o, a = some ⟨b, o, none⟩ ∧ b < w.heap.size ∧ ∀ (k : Nat) s, xs[k]? = some s → ReaderAt w b (o + k * 5) s := by
  rcases h.2.2.2 with h0 | h1
  · omega
  · exact h1
theorem nil_IsReaderS (w : World) : IsReaderS w none 0 0 [] := ⟨rfl, Nat.le_refl _, by simp [maxLen], .inl rfl⟩
def cellsReader (xs : List VReader) : List Value := xs.flatMap VReader.vals
theorem cellsReader_len (xs : List VReader) : (cellsReader xs).length = xs.length * 5 := by
  induction xs with
  | nil => rfl
  | cons x xs ih => simp [cellsReader, VReader.vals_len] at *; omega
theorem cellsReader_append (xs ys : List VReader) : cellsReader (xs ++ ys) = cellsReader xs ++ cellsReader ys := by simp [cellsReader]
theorem cellsReader_snoc (xs : List VReader) (s : VReader) : cellsReader (xs ++ [s]) = cellsReader xs ++ s.vals := by simp [cellsReader]
theorem cellsReader_at {xs : List VReader} {k : Nat} {s : VReader} (h : xs[k]? = some s) (j : Nat) (hj : j < 5) : (cellsReader xs)[k * 5 + j]? = s.vals[j]? := by
  have hk : k < xs.length := (List.getElem?_eq_some_iff.1 h).1
  have e : xs = xs.take k ++ s :: xs.drop (k + 1) := by
    have h2 := List.take_append_drop k xs
    rw [List.drop_eq_getElem_cons hk] at h2
    have : xs[k] = s := by rw [List.getElem?_eq_getElem hk] at h; simpa using h
    rw [this] at h2; exact h2.symm
  have hl : (cellsReader (xs.take k)).length = k * 5 := by rw [cellsReader_len, List.length_take]; omega
  rw [e, show cellsReader (xs.take k ++ s :: xs.drop (k + 1)) = cellsReader (xs.take k) ++ (s.vals ++ cellsReader (xs.drop (k + 1))) from by simp [cellsReader], List.getElem?_append_right (by omega), hl, show k * 5 + j - k * 5 = j from by omega, List.getElem?_append_left (by rw [VReader.vals_len]; exact hj)]
theorem cell_Reader (w : World) (s : VReader) (t : TypeId) : ∀ j u, s.vals[j]? = some u → (w.alloc (.cells #[.int .i64 s.Id, .string s.Name, .int .i64 s.Joined, .int .i64 s.Class, .int .i64 s.Fines] t)).cell? ((⟨w.heap.size, 0, none⟩ : Addr).add j) = some u := by
  intro j u hj
  rw [add_plain, Nat.zero_add, World.cell?_alloc_new]
  simpa [VReader.vals] using hj
theorem cell_Reader2 (w : World) (o : Obj) (s : VReader) (t : TypeId) : ∀ j u, s.vals[j]? = some u → ((w.alloc o).alloc (.cells #[.int .i64 s.Id, .string s.Name, .int .i64 s.Joined, .int .i64 s.Class, .int .i64 s.Fines] t)).cell? ((⟨w.heap.size + 1, 0, none⟩ : Addr).add j) = some u := by
  have h := cell_Reader (w.alloc o) s t
  rw [show (w.alloc o).heap.size = w.heap.size + 1 from by show (w.heap.push o).size = _; simp] at h
  exact h
/-- A slice of them, as what is appended. -/
theorem srcReader {w : World} {a : Option Addr} {len cap : Nat} {xs : List VReader} (h : IsReaderS w a len cap xs) : SrcAt w a len 5 (cellsReader xs) := by
  refine ⟨by rw [cellsReader_len, h.1], ?_⟩
  rcases h.2.2.2 with h0 | ⟨b, o, rfl, hb, hat⟩
  · exact .inl h0
  · refine .inr ⟨_, rfl, fun j u hj => ?_⟩
    rw [add_plain]
    have hl := (List.getElem?_eq_some_iff.1 hj).1
    rw [cellsReader_len] at hl
    obtain ⟨k, r, rfl, hr⟩ : ∃ k r, j = k * 5 + r ∧ r < 5 := ⟨j / 5, j % 5, by omega, Nat.mod_lt _ (by decide)⟩
    have hk : k < xs.length := by omega
    have hs : xs[k]? = some xs[k] := List.getElem?_eq_getElem hk
    have hu := cellsReader_at hs r hr
    rw [hj] at hu
    have ha := hat k _ hs
    rw [← Nat.add_assoc]
    rcases (show r = 0 ∨ r = 1 ∨ r = 2 ∨ r = 3 ∨ r = 4 by omega) with rfl | rfl | rfl | rfl | rfl
    · rw [hu]; exact ha.1
    · rw [hu]; exact ha.2.1
    · rw [hu]; exact ha.2.2.1
    · rw [hu]; exact ha.2.2.2.1
    · rw [hu]; exact ha.2.2.2.2.1
/-- It lies in the box b of some type. -/
def BoxReader (w : World) (b : Nat) (s : VReader) : Prop := w.cell? ⟨b, 0, none⟩ = some (.int .i64 s.Id) ∧ w.cell? ⟨b, 1, none⟩ = some (.string s.Name) ∧ w.cell? ⟨b, 2, none⟩ = some (.int .i64 s.Joined) ∧ w.cell? ⟨b, 3, none⟩ = some (.int .i64 s.Class) ∧ w.cell? ⟨b, 4, none⟩ = some (.int .i64 s.Fines)
theorem BoxReader.new (w : World) (t : TypeId) (s : VReader) (B : Nat) (hB : w.heap.size = B) : BoxReader (w.alloc (.cells #[.int .i64 s.Id, .string s.Name, .int .i64 s.Joined, .int .i64 s.Class, .int .i64 s.Fines] t)) B s := by
  subst hB
  refine ⟨?_, ?_, ?_, ?_, ?_⟩ <;> simp [World.cell?_alloc_new]
theorem BoxReader.lt {w : World} {b : Nat} {s : VReader} (h : BoxReader w b s) : b < w.heap.size := World.lt_of_cell h.1
theorem BoxReader.below {w w' : World} {b : Nat} {s : VReader} (h : BoxReader w b s) (hb : Below w.heap.size w w') : BoxReader w' b s :=
  ⟨(hb.cell (p := ⟨b, 0, none⟩) h.lt).trans h.1, (hb.cell (p := ⟨b, 1, none⟩) h.lt).trans h.2.1, (hb.cell (p := ⟨b, 2, none⟩) h.lt).trans h.2.2.1, (hb.cell (p := ⟨b, 3, none⟩) h.lt).trans h.2.2.2.1, (hb.cell (p := ⟨b, 4, none⟩) h.lt).trans h.2.2.2.2⟩
theorem BoxReader.grown {w w' : World} {b : Nat} {s : VReader} {row : Option Nat} (h : BoxReader w b s) (hg : w.grownBy w' row) (hne : some b ≠ row) : BoxReader w' b s :=
  ⟨(World.cell?_of_block (w := w) (a := ⟨b, 0, none⟩) (hg.block b h.lt hne)).trans h.1, (World.cell?_of_block (w := w) (a := ⟨b, 1, none⟩) (hg.block b h.lt hne)).trans h.2.1, (World.cell?_of_block (w := w) (a := ⟨b, 2, none⟩) (hg.block b h.lt hne)).trans h.2.2.1, (World.cell?_of_block (w := w) (a := ⟨b, 3, none⟩) (hg.block b h.lt hne)).trans h.2.2.2.1, (World.cell?_of_block (w := w) (a := ⟨b, 4, none⟩) (hg.block b h.lt hne)).trans h.2.2.2.2⟩
def zerosReader (n : Nat) : List Value := (List.replicate n [.int .i64 0, .string ByteArray.empty, .int .i64 0, .int .i64 0, .int .i64 0]).flatten
theorem zerosReader_succ (n : Nat) : zerosReader (n + 1) = .int .i64 0 :: .string ByteArray.empty :: .int .i64 0 :: .int .i64 0 :: .int .i64 0 :: zerosReader n := by
  unfold zerosReader; rw [List.replicate_succ]; rfl
theorem zerosReader_len (n : Nat) : (zerosReader n).length = n * 5 := by
  induction n with
  | zero => rfl
  | succ n ih => rw [zerosReader_succ]; simp [ih]; omega
theorem zerosReader_at (n j : Nat) (h : j < n * 5) : (zerosReader n)[j]? = [.int .i64 0, .string ByteArray.empty, .int .i64 0, .int .i64 0, .int .i64 0][j % 5]? := by
  induction n generalizing j with
  | zero => omega
  | succ n ih =>
    rw [zerosReader_succ]
    by_cases hj : j < 5
    · rw [Nat.mod_eq_of_lt hj]
      rcases (show j = 0 ∨ j = 1 ∨ j = 2 ∨ j = 3 ∨ j = 4 by omega) with rfl | rfl | rfl | rfl | rfl <;> rfl
    · obtain ⟨i, rfl⟩ : ∃ i, j = i + 5 := ⟨j - 5, by omega⟩
      rw [Nat.add_mod_right, ← ih i (by omega)]
      rfl
theorem madeReader (n : Nat) : (madeCells (.agg #[.int .i64 0, .string ByteArray.empty, .int .i64 0, .int .i64 0, .int .i64 0] : Value).cells (n * 5)).toList = zerosReader n := by
  apply List.ext_getElem?
  intro j
  rw [Array.getElem?_toList]
  by_cases h : j < n * 5
  · rw [zerosReader_at n j h]
    have hm : j % 5 < 5 := Nat.mod_lt _ (by decide)
    simp only [madeCells, Value.cells]
    rw [Array.getElem?_eq_getElem (by simpa using h)]
    rcases (show j % 5 = 0 ∨ j % 5 = 1 ∨ j % 5 = 2 ∨ j % 5 = 3 ∨ j % 5 = 4 by omega) with e | e | e | e | e <;> simp [e]
  · rw [List.getElem?_eq_none (by rw [zerosReader_len]; omega)]
    simp [madeCells, h]
theorem setReader (A L : List Value) (v0 v1 v2 v3 v4 : Value) (o : Nat) (hA : A.length = o) (hL : o + 5 ≤ L.length) :
    ((((((A ++ L.drop o).set (o) v0).set (o + 1) v1).set (o + 2) v2).set (o + 3) v3).set (o + 4) v4) = A ++ v0 :: v1 :: v2 :: v3 :: v4 :: L.drop (o + 5) := by
  subst hA
  obtain ⟨a0, a1, a2, a3, a4, e⟩ : ∃ a0 a1 a2 a3 a4, L.drop A.length = a0 :: a1 :: a2 :: a3 :: a4 :: L.drop (A.length + 5) := ⟨_, _, _, _, _, by rw [List.drop_eq_getElem_cons (show A.length < L.length by omega), List.drop_eq_getElem_cons (show A.length + 1 < L.length by omega), List.drop_eq_getElem_cons (show A.length + 2 < L.length by omega), List.drop_eq_getElem_cons (show A.length + 3 < L.length by omega), List.drop_eq_getElem_cons (show A.length + 4 < L.length by omega)]⟩
  rw [e]
  generalize L.drop (A.length + 5) = D
  simp [List.set_append_right]
theorem storedReader {w : World} {base n c g o : Nat} {e : TypeId} {size : Nat} {A L : List Value} (h : w.ownsRow base e size (.slice (some ⟨g, 0, none⟩) n c) n (A ++ L.drop o)) (hA : A.length = o) (hL : o + 5 ≤ L.length) (v0 v1 v2 v3 v4 : Value) :
    (((((w.setCell ⟨g, o, none⟩ v0).setCell ⟨g, o + 1, none⟩ v1).setCell ⟨g, o + 2, none⟩ v2).setCell ⟨g, o + 3, none⟩ v3).setCell ⟨g, o + 4, none⟩ v4).ownsRow base e size (.slice (some ⟨g, 0, none⟩) n c) n (A ++ v0 :: v1 :: v2 :: v3 :: v4 :: L.drop (o + 5)) ∧ w.grownBy (((((w.setCell ⟨g, o, none⟩ v0).setCell ⟨g, o + 1, none⟩ v1).setCell ⟨g, o + 2, none⟩ v2).setCell ⟨g, o + 3, none⟩ v3).setCell ⟨g, o + 4, none⟩ v4) (some g) := by
  have h0 := h.stored (o) v0
  have h1 := h0.1.stored (o + 1) v1
  have h2 := h1.1.stored (o + 2) v2
  have h3 := h2.1.stored (o + 3) v3
  have h4 := h3.1.stored (o + 4) v4
  refine ⟨?_, (grown_trans (grown_trans (grown_trans (grown_trans h0.2 h1.2) h2.2) h3.2) h4.2)⟩
  have := h4.1
  rw [setReader A L v0 v1 v2 v3 v4 o hA hL] at this
  exact this
theorem cellsReader_drop (xs : List VReader) (i : Nat) : (cellsReader xs).drop (i * 5) = cellsReader (xs.drop i) := by
  by_cases h : i ≤ xs.length
  · have e : cellsReader xs = cellsReader (xs.take i) ++ cellsReader (xs.drop i) := by
      unfold cellsReader
      rw [← List.flatMap_append, List.take_append_drop]
    have hl : (cellsReader (xs.take i)).length = i * 5 := by rw [cellsReader_len, List.length_take]; omega
    rw [e, List.drop_append_of_le_length (by omega), List.drop_of_length_le (by omega), List.nil_append]
  · rw [List.drop_of_length_le (show xs.length ≤ i by omega), List.drop_of_length_le (by rw [cellsReader_len]; omega)]; rfl
theorem cellsReader_take (xs : List VReader) (i : Nat) : cellsReader xs = cellsReader (xs.take i) ++ (cellsReader xs).drop (i * 5) := by
  rw [cellsReader_drop]
  unfold cellsReader
  rw [← List.flatMap_append, List.take_append_drop]
theorem cellsReader_set (xs : List VReader) (i : Nat) (r : VReader) (h : i < xs.length) : cellsReader (xs.set i r) = cellsReader (xs.take i) ++ (r.vals ++ (cellsReader xs).drop (i * 5 + 5)) := by
  rw [List.set_eq_take_append_cons_drop, if_pos h, show i * 5 + 5 = (i + 1) * 5 by omega, cellsReader_drop]
  simp [cellsReader]
def VReader.sized (s : VReader) : Prop := s.Name.size ≤ 1048576
theorem sized_smallReader (s : VReader) (h : s.sized) : s.small := by unfold VReader.sized at h; unfold VReader.small; unfold maxLen; omega
/-- The marks from b on, and n of them. -/
def markReader (b : Nat) : VReader := ⟨((b : Nat) : Int), markOf (b + 1), ((b + 2 : Nat) : Int), ((b + 3 : Nat) : Int), ((b + 4 : Nat) : Int)⟩
def marksReader (k n : Nat) : List VReader := (List.range n).map fun i => markReader (k + i * 5)
theorem marksReader_len (k n : Nat) : (marksReader k n).length = n := by simp [marksReader]
theorem marksReader_succ (k n : Nat) : marksReader k (n + 1) = marksReader k n ++ [markReader (k + n * 5)] := by simp [marksReader, List.range_succ]
theorem marksReader_at (k n i : Nat) (h : i < n) : (marksReader k n)[i]? = some (markReader (k + i * 5)) := by simp [marksReader, h]
theorem markReader_small (b : Nat) (h : b + 5 ≤ 100000000) : (markReader b).small := markOf_size _ (by omega)
theorem marksReader_small (k n : Nat) (h : k + n * 5 + 5 ≤ 100000000) : ∀ s ∈ marksReader k n, s.small := by
  intro s hs
  obtain ⟨i, hi⟩ := List.getElem?_of_mem hs
  have hlt := (List.getElem?_eq_some_iff.1 hi).1
  rw [marksReader_len] at hlt
  rw [marksReader_at k n i hlt] at hi
  cases hi
  exact markReader_small _ (by have := Nat.mul_le_mul_right 5 (Nat.le_of_lt hlt); omega)
end Go.Proofs.YtffbljbgmgifnaaDoor
