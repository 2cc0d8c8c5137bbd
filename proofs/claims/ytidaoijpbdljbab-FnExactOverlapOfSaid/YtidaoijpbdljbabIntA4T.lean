/- The struct IntA4: its fields; one read from an argument; slices of it; and the laws' own helpers over it. (made by gen.py) -/
import Derived.Test.YtidaoijpbdljbabOpen2
import Derived.Test.YtidaoijpbdljbabBox0
import Derived.Test.YtidaoijpbdljbabAppL
import Derived.Test.YtidaoijpbdljbabReg
import Derived.Test.YtidaoijpbdljbabSw
import Derived.Deep.RegionWith
import Derived.Laws.OwnMore
import Derived.Handy
import Derived.Laws.IdiomRangeMap
namespace Go.Proofs.Ytidaoijpbdljbab
open Go.RowKit Go.ChangeShapes Go.WideShapes Go.Deep

structure VIntA4 where
  E0 : Int
  E1 : Int
  E2 : Int
  E3 : Int
def VIntA4.vals (s : VIntA4) : List Value := [.int .i64 s.E0, .int .i64 s.E1, .int .i64 s.E2, .int .i64 s.E3]
theorem VIntA4.vals_len (s : VIntA4) : s.vals.length = 4 := rfl
theorem VIntA4.vals_one (s : VIntA4) : ∀ u ∈ s.vals, u.oneCell' = true := by
  intro u hu
  simp [VIntA4.vals] at hu
  rcases hu with rfl | rfl | rfl | rfl <;> rfl
/-- It lies at block b from offset o on. -/
def IntA4At (w : World) (b o : Nat) (s : VIntA4) : Prop :=
  w.cell? ⟨b, o, none⟩ = some (.int .i64 s.E0) ∧ w.cell? ⟨b, o + 1, none⟩ = some (.int .i64 s.E1) ∧ w.cell? ⟨b, o + 2, none⟩ = some (.int .i64 s.E2) ∧ w.cell? ⟨b, o + 3, none⟩ = some (.int .i64 s.E3)
def IsIntA4S (w : World) (a : Option Addr) (len cap : Nat) (xs : List VIntA4) : Prop :=
  len = xs.length ∧ len ≤ cap ∧ cap ≤ maxLen ∧ (len = 0 ∨ ∃ b o, a = some ⟨b, o, none⟩ ∧ b < w.heap.size ∧ ∀ (k : Nat) s, xs[k]? = some s → IntA4At w b (o + k * 4) s)
theorem IntA4At.below {w w' : World} {b o : Nat} {s : VIntA4} (h : IntA4At w b o s) (hb : Below w.heap.size w w') (hlt : b < w.heap.size) : IntA4At w' b o s :=
  ⟨(hb.cell (p := ⟨b, o, none⟩) hlt).trans h.1, (hb.cell (p := ⟨b, o + 1, none⟩) hlt).trans h.2.1, (hb.cell (p := ⟨b, o + 2, none⟩) hlt).trans h.2.2.1, (hb.cell (p := ⟨b, o + 3, none⟩) hlt).trans h.2.2.2⟩
theorem IntA4At.block {w w' : World} {b o : Nat} {s : VIntA4} (h : IntA4At w b o s) (hb : w'.heap[b]? = w.heap[b]?) : IntA4At w' b o s :=
  ⟨(World.cell?_of_block (w := w) (a := ⟨b, o, none⟩) hb).trans h.1, (World.cell?_of_block (w := w) (a := ⟨b, o + 1, none⟩) hb).trans h.2.1, (World.cell?_of_block (w := w) (a := ⟨b, o + 2, none⟩) hb).trans h.2.2.1, (World.cell?_of_block (w := w) (a := ⟨b, o + 3, none⟩) hb).trans h.2.2.2⟩
theorem IsIntA4S.below {w w' : World} {a : Option Addr} {len cap : Nat} {xs : List VIntA4} (h : IsIntA4S w a len cap xs) (hb : Below w.heap.size w w') : IsIntA4S w' a len cap xs := by
  refine ⟨h.1, h.2.1, h.2.2.1, ?_⟩
  rcases h.2.2.2 with h0 | ⟨b, o, rfl, h1, h2⟩
  · exact .inl h0
  · exact .inr ⟨b, o, rfl, Nat.lt_of_lt_of_le h1 hb.size, fun k s hs => (h2 k s hs).below hb h1⟩
theorem IsIntA4S.grown {w w' : World} {a : Option Addr} {len cap : Nat} {xs : List VIntA4} {row : Option Nat} (h : IsIntA4S w a len cap xs) (hg : w.grownBy w' row) (hne : ∀ b o, a = some ⟨b, o, none⟩ → some b ≠ row) : IsIntA4S w' a len cap xs := by
  refine ⟨h.1, h.2.1, h.2.2.1, ?_⟩
  rcases h.2.2.2 with h0 | ⟨b, o, rfl, h1, h2⟩
  · exact .inl h0
  · exact .inr ⟨b, o, rfl, Nat.lt_of_lt_of_le h1 hg.size, fun k s hs => (h2 k s hs).block (hg.block b h1 (hne b o rfl))⟩
theorem IsIntA4S.at {w : World} {a : Option Addr} {len cap : Nat} {xs : List VIntA4} (h : IsIntA4S w a len cap xs) (hpos : 0 < len) : ∃ b o, a = some ⟨b, o, none⟩ ∧ b < w.heap.size ∧ ∀ (k : Nat) s, xs[k]? = some s → IntA4At w b (o + k * 4) s := by
  rcases h.2.2.2 with h0 | h1
  · omega
  · exact h1
theorem nil_IsIntA4S (w : World) : IsIntA4S w none 0 0 [] := ⟨rfl, Nat.le_refl _, by simp [maxLen], .inl rfl⟩
theorem infoIntA4 : (Try.prog.info? 58).map (fun i => (i.zero, i.size, i.bytes)) = some (some (.agg #[.int .i64 0, .int .i64 0, .int .i64 0, .int .i64 0]), 4, 32) := by kernel_rfl
def cellsIntA4 (xs : List VIntA4) : List Value := xs.flatMap VIntA4.vals
theorem cellsIntA4_len (xs : List VIntA4) : (cellsIntA4 xs).length = xs.length * 4 := by
  induction xs with
  | nil => rfl
  | cons x xs ih => simp [cellsIntA4, VIntA4.vals_len] at *; omega
theorem cellsIntA4_append (xs ys : List VIntA4) : cellsIntA4 (xs ++ ys) = cellsIntA4 xs ++ cellsIntA4 ys := by simp [cellsIntA4]
theorem cellsIntA4_snoc (xs : List VIntA4) (s : VIntA4) : cellsIntA4 (xs ++ [s]) = cellsIntA4 xs ++ s.vals := by simp [cellsIntA4]
theorem cellsIntA4_at {xs : List VIntA4} {k : Nat} {s : VIntA4} (h : xs[k]? = some s) (j : Nat) (hj : j < 4) : (cellsIntA4 xs)[k * 4 + j]? = s.vals[j]? := by
  have hk : k < xs.length := (List.getElem?_eq_some_iff.1 h).1
  have e : xs = xs.take k ++ s :: xs.drop (k + 1) := by
    have h2 := List.take_append_drop k xs
    rw [List.drop_eq_getElem_cons hk] at h2
    have : xs[k] = s := by rw [List.getElem?_eq_getElem hk] at h; simpa using h
    rw [this] at h2; exact h2.symm
  have hl : (cellsIntA4 (xs.take k)).length = k * 4 := by rw [cellsIntA4_len, List.length_take]; omega
  rw [e, show cellsIntA4 (xs.take k ++ s :: xs.drop (k + 1)) = cellsIntA4 (xs.take k) ++ (s.vals ++ cellsIntA4 (xs.drop (k + 1))) from by simp [cellsIntA4], List.getElem?_append_right (by omega), hl, show k * 4 + j - k * 4 = j from by omega, List.getElem?_append_left (by rw [VIntA4.vals_len]; exact hj)]
theorem isIntA4S_own {w : World} {base : Nat} {v : Value} {xs : List VIntA4} (h : w.ownsRow base 58 4 v xs.length (cellsIntA4 xs)) :
    ∃ a cap, v = .slice a xs.length cap ∧ IsIntA4S w a xs.length cap xs ∧ ∀ b o, a = some ⟨b, o, none⟩ → v.ownBlock = some b := by
  have hlt := h.lt
  rcases h.2 with ⟨rfl, h0⟩ | ⟨g, cap, cur, rfl, hg, hh, hn, hcap, hsz, htake⟩
  · exact ⟨none, 0, by rw [h0], ⟨by rw [h0], by omega, by simp [maxLen], .inl h0⟩, fun _ _ h => by cases h⟩
  · refine ⟨some ⟨g, 0, none⟩, cap, rfl, ⟨rfl, hn, hcap, ?_⟩, fun b o h => by cases h; rfl⟩
    by_cases hz : xs.length = 0
    · exact .inl hz
    · refine .inr ⟨g, 0, rfl, (hlt g rfl).2, fun k s hs => ?_⟩
      have each : ∀ j u, j < 4 → s.vals[j]? = some u → w.cell? ⟨g, 0 + k * 4 + j, none⟩ = some u := fun j u hj hu => by
        have hc := h.cells (g := g) rfl (k * 4 + j) u ((cellsIntA4_at hs j hj).trans hu)
        rw [add_plain, ← Nat.add_assoc] at hc; exact hc
      exact ⟨each 0 _ (by decide) rfl, each 1 _ (by decide) rfl, each 2 _ (by decide) rfl, each 3 _ (by decide) rfl⟩
theorem nil_ownIntA4 (w : World) (base : Nat) : w.ownsRow base 58 4 (.slice none 0 0) ([] : List VIntA4).length (cellsIntA4 []) := ⟨by simp [cellsIntA4], .inl ⟨rfl, rfl⟩⟩
theorem cell_IntA4 (w : World) (s : VIntA4) (t : TypeId) : ∀ j u, s.vals[j]? = some u → (w.alloc (.cells #[.int .i64 s.E0, .int .i64 s.E1, .int .i64 s.E2, .int .i64 s.E3] t)).cell? ((⟨w.heap.size, 0, none⟩ : Addr).add j) = some u := by
  intro j u hj
  rw [add_plain, Nat.zero_add, World.cell?_alloc_new]
  simpa [VIntA4.vals] using hj
theorem cell_IntA42 (w : World) (o : Obj) (s : VIntA4) (t : TypeId) : ∀ j u, s.vals[j]? = some u → ((w.alloc o).alloc (.cells #[.int .i64 s.E0, .int .i64 s.E1, .int .i64 s.E2, .int .i64 s.E3] t)).cell? ((⟨w.heap.size + 1, 0, none⟩ : Addr).add j) = some u := by
  have h := cell_IntA4 (w.alloc o) s t
  rw [show (w.alloc o).heap.size = w.heap.size + 1 from by show (w.heap.push o).size = _; simp] at h
  exact h
/-- What is left of a row of the call's own when it is cut behind some elements. -/
theorem take_ownIntA4 {w : World} {base : Nat} {a : Option Addr} {cap k : Nat} {xs : List VIntA4} (h : w.ownsRow base 58 4 (.slice a xs.length cap) xs.length (cellsIntA4 xs)) (hk : k ≤ xs.length) :
    w.ownsRow base 58 4 (.slice a k cap) k (cellsIntA4 (xs.take k)) := by
  have hl : (cellsIntA4 (xs.take k)).length = k * 4 := by rw [cellsIntA4_len, List.length_take]; omega
  refine ⟨hl, ?_⟩
  rcases h.2 with ⟨h0, h1⟩ | ⟨g, cap', cur, e, hg, hh, hn, hcap, hsz, htake⟩
  · simp only [Value.slice.injEq] at h0
    obtain ⟨rfl, h2, rfl⟩ := h0
    exact .inl ⟨by rw [show k = 0 by omega], by omega⟩
  · cases e
    refine .inr ⟨g, cap, cur, rfl, hg, hh, by omega, hcap, hsz, ?_⟩
    have e2 : cellsIntA4 xs = cellsIntA4 (xs.take k) ++ cellsIntA4 (xs.drop k) := by
      unfold cellsIntA4
      rw [← List.flatMap_append, List.take_append_drop]
    have h3 := congrArg (List.take (k * 4)) htake
    rw [List.take_take, Nat.min_eq_left (by have := Nat.mul_le_mul_right 4 hk; omega), e2, List.take_append_of_le_length (by omega), List.take_of_length_le (show (cellsIntA4 (xs.take k)).length ≤ k * 4 by omega)] at h3
    exact h3
/-- A slice of them, as what is appended. -/
theorem srcIntA4 {w : World} {a : Option Addr} {len cap : Nat} {xs : List VIntA4} (h : IsIntA4S w a len cap xs) : SrcAt w a len 4 (cellsIntA4 xs) := by
  refine ⟨by rw [cellsIntA4_len, h.1], ?_⟩
  rcases h.2.2.2 with h0 | ⟨b, o, rfl, hb, hat⟩
  · exact .inl h0
  · refine .inr ⟨_, rfl, fun j u hj => ?_⟩
    rw [add_plain]
    have hl := (List.getElem?_eq_some_iff.1 hj).1
    rw [cellsIntA4_len] at hl
    obtain ⟨k, r, rfl, hr⟩ : ∃ k r, j = k * 4 + r ∧ r < 4 := ⟨j / 4, j % 4, by omega, Nat.mod_lt _ (by decide)⟩
    have hk : k < xs.length := by omega
    have hs : xs[k]? = some xs[k] := List.getElem?_eq_getElem hk
    have hu := cellsIntA4_at hs r hr
    rw [hj] at hu
    have ha := hat k _ hs
    rw [← Nat.add_assoc]
    rcases (show r = 0 ∨ r = 1 ∨ r = 2 ∨ r = 3 by omega) with rfl | rfl | rfl | rfl
    · rw [hu]; exact ha.1
    · rw [hu]; exact ha.2.1
    · rw [hu]; exact ha.2.2.1
    · rw [hu]; exact ha.2.2.2
/-- Block b holds it, all of it, and may be written. -/
def HBIntA4 (w : World) (b : Nat) (s : VIntA4) : Prop := w.heap[b]? = some (.cells #[.int .i64 s.E0, .int .i64 s.E1, .int .i64 s.E2, .int .i64 s.E3] 58 (0, 0))
theorem HBIntA4.lt {w : World} {b : Nat} {s : VIntA4} (h : HBIntA4 w b s) : b < w.heap.size := (Array.getElem?_eq_some_iff.1 h).1
theorem HBIntA4.new (w : World) (s : VIntA4) (B : Nat) (hB : w.heap.size = B) : HBIntA4 (w.alloc (.cells #[.int .i64 s.E0, .int .i64 s.E1, .int .i64 s.E2, .int .i64 s.E3] 58)) B s := hB ▸ heap_alloc_new w _
theorem HBIntA4.below {w w' : World} {b : Nat} {s : VIntA4} (h : HBIntA4 w b s) (hb : Below w.heap.size w w') : HBIntA4 w' b s := (hb.block b h.lt).trans h
theorem HBIntA4.grown {w w' : World} {b : Nat} {s : VIntA4} {row : Option Nat} (h : HBIntA4 w b s) (hg : w.grownBy w' row) (hne : some b ≠ row) : HBIntA4 w' b s := (hg.block b h.lt hne).trans h
theorem HBIntA4.drew {w : World} {b : Nat} {s : VIntA4} (h : HBIntA4 w b s) : HBIntA4 w.drew b s := h
theorem HBIntA4.alloc {w : World} {b : Nat} {s : VIntA4} (h : HBIntA4 w b s) (o : Obj) : HBIntA4 (w.alloc o) b s := (Below.heap_alloc w o b h.lt).trans h
theorem HBIntA4.other {w : World} {b b' j : Nat} {s : VIntA4} (h : HBIntA4 w b s) (hne : b ≠ b') (u : Value) : HBIntA4 (w.setCell ⟨b', j, none⟩ u) b s := (heap_setCell_other w ⟨b', j, none⟩ b u hne).trans h
theorem HBIntA4.cells {w : World} {b : Nat} {s : VIntA4} (h : HBIntA4 w b s) : w.cell? ⟨b, 0, none⟩ = some (.int .i64 s.E0) ∧ w.cell? ⟨b, 1, none⟩ = some (.int .i64 s.E1) ∧ w.cell? ⟨b, 2, none⟩ = some (.int .i64 s.E2) ∧ w.cell? ⟨b, 3, none⟩ = some (.int .i64 s.E3) := by
  unfold HBIntA4 at h
  refine ⟨?_, ?_, ?_, ?_⟩ <;> simp [World.cell?, h]
theorem HBIntA4.free {w : World} {b : Nat} {s : VIntA4} (h : HBIntA4 w b s) (j : Nat) : w.frozen? ⟨b, j, none⟩ = false := by
  unfold HBIntA4 at h
  simp [World.frozen?, h]
theorem HBIntA4.set0 {w : World} {b : Nat} {s : VIntA4} (h : HBIntA4 w b s) (v : Int) : HBIntA4 (w.setCell ⟨b, 0, none⟩ (.int .i64 v)) b ⟨v, s.E1, s.E2, s.E3⟩ := heap_setCell_same w b 0 _ _ _ h
theorem HBIntA4.set1 {w : World} {b : Nat} {s : VIntA4} (h : HBIntA4 w b s) (v : Int) : HBIntA4 (w.setCell ⟨b, 1, none⟩ (.int .i64 v)) b ⟨s.E0, v, s.E2, s.E3⟩ := heap_setCell_same w b 1 _ _ _ h
theorem HBIntA4.set2 {w : World} {b : Nat} {s : VIntA4} (h : HBIntA4 w b s) (v : Int) : HBIntA4 (w.setCell ⟨b, 2, none⟩ (.int .i64 v)) b ⟨s.E0, s.E1, v, s.E3⟩ := heap_setCell_same w b 2 _ _ _ h
theorem HBIntA4.set3 {w : World} {b : Nat} {s : VIntA4} (h : HBIntA4 w b s) (v : Int) : HBIntA4 (w.setCell ⟨b, 3, none⟩ (.int .i64 v)) b ⟨s.E0, s.E1, s.E2, v⟩ := heap_setCell_same w b 3 _ _ _ h
theorem HBIntA4.setAll {w : World} {b : Nat} {s : VIntA4} (h : HBIntA4 w b s) (t : VIntA4) : HBIntA4 ((((w.setCell ⟨b, 0, none⟩ (.int .i64 t.E0)).setCell ⟨b, 1, none⟩ (.int .i64 t.E1)).setCell ⟨b, 2, none⟩ (.int .i64 t.E2)).setCell ⟨b, 3, none⟩ (.int .i64 t.E3)) b t :=
  (heap_setCell_same _ b 3 _ _ _ (heap_setCell_same _ b 2 _ _ _ (heap_setCell_same _ b 1 _ _ _ (heap_setCell_same _ b 0 _ _ _ h))))
theorem HBIntA4.otherAll {w : World} {b b' : Nat} {s : VIntA4} (h : HBIntA4 w b s) (hne : b ≠ b') (x0 x1 x2 x3 : Value) : HBIntA4 ((((w.setCell ⟨b', 0, none⟩ x0).setCell ⟨b', 1, none⟩ x1).setCell ⟨b', 2, none⟩ x2).setCell ⟨b', 3, none⟩ x3) b s :=
  ((((h.other hne x0).other hne x1).other hne x2).other hne x3)
/-- It lies in the box b of some type. -/
def BoxIntA4 (w : World) (b : Nat) (s : VIntA4) : Prop := w.cell? ⟨b, 0, none⟩ = some (.int .i64 s.E0) ∧ w.cell? ⟨b, 1, none⟩ = some (.int .i64 s.E1) ∧ w.cell? ⟨b, 2, none⟩ = some (.int .i64 s.E2) ∧ w.cell? ⟨b, 3, none⟩ = some (.int .i64 s.E3)
theorem BoxIntA4.new (w : World) (t : TypeId) (s : VIntA4) (B : Nat) (hB : w.heap.size = B) : BoxIntA4 (w.alloc (.cells #[.int .i64 s.E0, .int .i64 s.E1, .int .i64 s.E2, .int .i64 s.E3] t)) B s := by
  subst hB
  refine ⟨?_, ?_, ?_, ?_⟩ <;> simp [World.cell?_alloc_new]
theorem BoxIntA4.lt {w : World} {b : Nat} {s : VIntA4} (h : BoxIntA4 w b s) : b < w.heap.size := World.lt_of_cell h.1
theorem BoxIntA4.below {w w' : World} {b : Nat} {s : VIntA4} (h : BoxIntA4 w b s) (hb : Below w.heap.size w w') : BoxIntA4 w' b s :=
  ⟨(hb.cell (p := ⟨b, 0, none⟩) h.lt).trans h.1, (hb.cell (p := ⟨b, 1, none⟩) h.lt).trans h.2.1, (hb.cell (p := ⟨b, 2, none⟩) h.lt).trans h.2.2.1, (hb.cell (p := ⟨b, 3, none⟩) h.lt).trans h.2.2.2⟩
theorem BoxIntA4.grown {w w' : World} {b : Nat} {s : VIntA4} {row : Option Nat} (h : BoxIntA4 w b s) (hg : w.grownBy w' row) (hne : some b ≠ row) : BoxIntA4 w' b s :=
  ⟨(World.cell?_of_block (w := w) (a := ⟨b, 0, none⟩) (hg.block b h.lt hne)).trans h.1, (World.cell?_of_block (w := w) (a := ⟨b, 1, none⟩) (hg.block b h.lt hne)).trans h.2.1, (World.cell?_of_block (w := w) (a := ⟨b, 2, none⟩) (hg.block b h.lt hne)).trans h.2.2.1, (World.cell?_of_block (w := w) (a := ⟨b, 3, none⟩) (hg.block b h.lt hne)).trans h.2.2.2⟩
def zerosIntA4 (n : Nat) : List Value := (List.replicate n [.int .i64 0, .int .i64 0, .int .i64 0, .int .i64 0]).flatten
theorem zerosIntA4_succ (n : Nat) : zerosIntA4 (n + 1) = .int .i64 0 :: .int .i64 0 :: .int .i64 0 :: .int .i64 0 :: zerosIntA4 n := by
  unfold zerosIntA4; rw [List.replicate_succ]; rfl
theorem zerosIntA4_len (n : Nat) : (zerosIntA4 n).length = n * 4 := by
  induction n with
  | zero => rfl
  | succ n ih => rw [zerosIntA4_succ]; simp [ih]; omega
theorem zerosIntA4_at (n j : Nat) (h : j < n * 4) : (zerosIntA4 n)[j]? = [.int .i64 0, .int .i64 0, .int .i64 0, .int .i64 0][j % 4]? := by
  induction n generalizing j with
  | zero => omega
  | succ n ih =>
    rw [zerosIntA4_succ]
    by_cases hj : j < 4
    · rw [Nat.mod_eq_of_lt hj]
      rcases (show j = 0 ∨ j = 1 ∨ j = 2 ∨ j = 3 by omega) with rfl | rfl | rfl | rfl <;> rfl
    · obtain ⟨i, rfl⟩ : ∃ i, j = i + 4 := ⟨j - 4, by omega⟩
      rw [Nat.add_mod_right, ← ih i (by omega)]
      rfl
theorem madeIntA4 (n : Nat) : (madeCells (.agg #[.int .i64 0, .int .i64 0, .int .i64 0, .int .i64 0] : Value).cells (n * 4)).toList = zerosIntA4 n := by
  apply List.ext_getElem?
  intro j
  rw [Array.getElem?_toList]
  by_cases h : j < n * 4
  · rw [zerosIntA4_at n j h]
    have hm : j % 4 < 4 := Nat.mod_lt _ (by decide)
    simp only [madeCells, Value.cells]
    rw [Array.getElem?_eq_getElem (by simpa using h)]
    rcases (show j % 4 = 0 ∨ j % 4 = 1 ∨ j % 4 = 2 ∨ j % 4 = 3 by omega) with e | e | e | e <;> simp [e]
  · rw [List.getElem?_eq_none (by rw [zerosIntA4_len]; omega)]
    simp [madeCells, h]
theorem setIntA4 (A L : List Value) (v0 v1 v2 v3 : Value) (o : Nat) (hA : A.length = o) (hL : o + 4 ≤ L.length) :
    (((((A ++ L.drop o).set (o) v0).set (o + 1) v1).set (o + 2) v2).set (o + 3) v3) = A ++ v0 :: v1 :: v2 :: v3 :: L.drop (o + 4) := by
  subst hA
  obtain ⟨a0, a1, a2, a3, e⟩ : ∃ a0 a1 a2 a3, L.drop A.length = a0 :: a1 :: a2 :: a3 :: L.drop (A.length + 4) := ⟨_, _, _, _, by rw [List.drop_eq_getElem_cons (show A.length < L.length by omega), List.drop_eq_getElem_cons (show A.length + 1 < L.length by omega), List.drop_eq_getElem_cons (show A.length + 2 < L.length by omega), List.drop_eq_getElem_cons (show A.length + 3 < L.length by omega)]⟩
  rw [e]
  generalize L.drop (A.length + 4) = D
  simp [List.set_append_right]
theorem storedIntA4 {w : World} {base n c g o : Nat} {e : TypeId} {size : Nat} {A L : List Value} (h : w.ownsRow base e size (.slice (some ⟨g, 0, none⟩) n c) n (A ++ L.drop o)) (hA : A.length = o) (hL : o + 4 ≤ L.length) (v0 v1 v2 v3 : Value) :
    ((((w.setCell ⟨g, o, none⟩ v0).setCell ⟨g, o + 1, none⟩ v1).setCell ⟨g, o + 2, none⟩ v2).setCell ⟨g, o + 3, none⟩ v3).ownsRow base e size (.slice (some ⟨g, 0, none⟩) n c) n (A ++ v0 :: v1 :: v2 :: v3 :: L.drop (o + 4)) ∧ w.grownBy ((((w.setCell ⟨g, o, none⟩ v0).setCell ⟨g, o + 1, none⟩ v1).setCell ⟨g, o + 2, none⟩ v2).setCell ⟨g, o + 3, none⟩ v3) (some g) := by
  have h0 := h.stored (o) v0
  have h1 := h0.1.stored (o + 1) v1
  have h2 := h1.1.stored (o + 2) v2
  have h3 := h2.1.stored (o + 3) v3
  refine ⟨?_, (grown_trans (grown_trans (grown_trans h0.2 h1.2) h2.2) h3.2)⟩
  have := h3.1
  rw [setIntA4 A L v0 v1 v2 v3 o hA hL] at this
  exact this
/-- A row of the call's own, and the world below as it was. -/
def IntA4Row (xs : List VIntA4) (w : World) (e : Ending) (w' : World) : Prop := ∃ v, e = .returned v ∧ w'.ownsRow w.heap.size 58 4 v xs.length (cellsIntA4 xs) ∧ Below w.heap.size w w'
theorem cellsIntA4_drop (xs : List VIntA4) (i : Nat) : (cellsIntA4 xs).drop (i * 4) = cellsIntA4 (xs.drop i) := by
  by_cases h : i ≤ xs.length
  · have e : cellsIntA4 xs = cellsIntA4 (xs.take i) ++ cellsIntA4 (xs.drop i) := by
      unfold cellsIntA4
      rw [← List.flatMap_append, List.take_append_drop]
    have hl : (cellsIntA4 (xs.take i)).length = i * 4 := by rw [cellsIntA4_len, List.length_take]; omega
    rw [e, List.drop_append_of_le_length (by omega), List.drop_of_length_le (by omega), List.nil_append]
  · rw [List.drop_of_length_le (show xs.length ≤ i by omega), List.drop_of_length_le (by rw [cellsIntA4_len]; omega)]; rfl
theorem cellsIntA4_take (xs : List VIntA4) (i : Nat) : cellsIntA4 xs = cellsIntA4 (xs.take i) ++ (cellsIntA4 xs).drop (i * 4) := by
  rw [cellsIntA4_drop]
  unfold cellsIntA4
  rw [← List.flatMap_append, List.take_append_drop]
theorem cellsIntA4_set (xs : List VIntA4) (i : Nat) (r : VIntA4) (h : i < xs.length) : cellsIntA4 (xs.set i r) = cellsIntA4 (xs.take i) ++ (r.vals ++ (cellsIntA4 xs).drop (i * 4 + 4)) := by
  rw [List.set_eq_take_append_cons_drop, if_pos h, show i * 4 + 4 = (i + 1) * 4 by omega, cellsIntA4_drop]
  simp [cellsIntA4]
/-- An element of a row of the call's own is replaced. -/
theorem own_setIntA4 {w : World} {base m c g i : Nat} {xs : List VIntA4} (h : w.ownsRow base 58 4 (.slice (some ⟨g, 0, none⟩) m c) m (cellsIntA4 xs)) (hi : i < xs.length) (r : VIntA4) :
    ((((w.setCell ⟨g, i * 4, none⟩ (.int .i64 r.E0)).setCell ⟨g, i * 4 + 1, none⟩ (.int .i64 r.E1)).setCell ⟨g, i * 4 + 2, none⟩ (.int .i64 r.E2)).setCell ⟨g, i * 4 + 3, none⟩ (.int .i64 r.E3)).ownsRow base 58 4 (.slice (some ⟨g, 0, none⟩) m c) m (cellsIntA4 (xs.set i r)) ∧ w.grownBy ((((w.setCell ⟨g, i * 4, none⟩ (.int .i64 r.E0)).setCell ⟨g, i * 4 + 1, none⟩ (.int .i64 r.E1)).setCell ⟨g, i * 4 + 2, none⟩ (.int .i64 r.E2)).setCell ⟨g, i * 4 + 3, none⟩ (.int .i64 r.E3)) (some g) := by
  rw [cellsIntA4_set xs i r hi]
  rw [cellsIntA4_take xs i] at h
  exact storedIntA4 h (by rw [cellsIntA4_len, List.length_take]; omega) (by rw [cellsIntA4_len]; omega) (.int .i64 r.E0) (.int .i64 r.E1) (.int .i64 r.E2) (.int .i64 r.E3)
/-- The marks from b on, and n of them. -/
def markIntA4 (b : Nat) : VIntA4 := ⟨((b : Nat) : Int), ((b + 1 : Nat) : Int), ((b + 2 : Nat) : Int), ((b + 3 : Nat) : Int)⟩
def marksIntA4 (k n : Nat) : List VIntA4 := (List.range n).map fun i => markIntA4 (k + i * 4)
theorem marksIntA4_len (k n : Nat) : (marksIntA4 k n).length = n := by simp [marksIntA4]
theorem marksIntA4_succ (k n : Nat) : marksIntA4 k (n + 1) = marksIntA4 k n ++ [markIntA4 (k + n * 4)] := by simp [marksIntA4, List.range_succ]
theorem marksIntA4_at (k n i : Nat) (h : i < n) : (marksIntA4 k n)[i]? = some (markIntA4 (k + i * 4)) := by simp [marksIntA4, h]
def IntA4Marked (base k n : Nat) (v : Value) (w : World) (e : Ending) (w' : World) : Prop := e = .returned (.int .i64 ((k + n * 4 : Nat) : Int)) ∧ w'.ownsRow base 58 4 v n (cellsIntA4 (marksIntA4 k n)) ∧ w.grownBy w' v.ownBlock
theorem marksIntA4_flat (k n : Nat) : cellsIntA4 (marksIntA4 k n) = intCells (marksI k (n * 4)) := by
  induction n with
  | zero => simp [marksIntA4, cellsIntA4, marksI, intCells]
  | succ n ih =>
    rw [marksIntA4_succ, cellsIntA4_snoc, ih, show (n + 1) * 4 = n * 4 + 1 + 1 + 1 + 1 by omega, marksI_succ, marksI_succ, marksI_succ, marksI_succ, intCells_snoc, intCells_snoc, intCells_snoc, intCells_snoc]
    simp [VIntA4.vals, markIntA4, Nat.add_assoc]
end Go.Proofs.Ytidaoijpbdljbab
