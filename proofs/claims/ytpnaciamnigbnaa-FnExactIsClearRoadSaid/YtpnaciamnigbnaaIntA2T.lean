/- The struct IntA2: its fields; one read from an argument; slices of it; and the laws' own helpers over it. (made by gen.py) -/
import Derived.Test.YtpnaciamnigbnaaOpen2
import Derived.Test.YtpnaciamnigbnaaBox0
import Derived.Test.YtpnaciamnigbnaaAppL
import Derived.Test.YtpnaciamnigbnaaReg
import Derived.Test.YtpnaciamnigbnaaSw
import Derived.Deep.RegionWith
import Derived.Laws.OwnMore
import Derived.Handy
import Derived.Laws.IdiomRangeMap
namespace Go.Proofs.Ytpnaciamnigbnaa
open Go.RowKit Go.ChangeShapes Go.WideShapes Go.Deep

structure VIntA2 where
  E0 : Int
  E1 : Int
def VIntA2.vals (s : VIntA2) : List Value := [.int .i64 s.E0, .int .i64 s.E1]
theorem VIntA2.vals_len (s : VIntA2) : s.vals.length = 2 := rfl
theorem VIntA2.vals_one (s : VIntA2) : ∀ u ∈ s.vals, u.oneCell' = true := by
  intro u hu
  simp [VIntA2.vals] at hu
  rcases hu with rfl | rfl <;> rfl
/-- It lies at block b from offset o on. -/
def IntA2At (w : World) (b o : Nat) (s : VIntA2) : Prop :=
  w.cell? ⟨b, o, none⟩ = some (.int .i64 s.E0) ∧ w.cell? ⟨b, o + 1, none⟩ = some (.int .i64 s.E1)
def IsIntA2S (w : World) (a : Option Addr) (len cap : Nat) (xs : List VIntA2) : Prop :=
  len = xs.length ∧ len ≤ cap ∧ cap ≤ maxLen ∧ (len = 0 ∨ ∃ b o, a = some ⟨b, o, none⟩ ∧ b < w.heap.size ∧ ∀ (k : Nat) s, xs[k]? = some s → IntA2At w b (o + k * 2) s)
theorem IntA2At.below {w w' : World} {b o : Nat} {s : VIntA2} (h : IntA2At w b o s) (hb : Below w.heap.size w w') (hlt : b < w.heap.size) : IntA2At w' b o s :=
  ⟨(hb.cell (p := ⟨b, o, none⟩) hlt).trans h.1, (hb.cell (p := ⟨b, o + 1, none⟩) hlt).trans h.2⟩
theorem IntA2At.block {w w' : World} {b o : Nat} {s : VIntA2} (h : IntA2At w b o s) (hb : w'.heap[b]? = w.heap[b]?) : IntA2At w' b o s :=
  ⟨(World.cell?_of_block (w := w) (a := ⟨b, o, none⟩) hb).trans h.1, (World.cell?_of_block (w := w) (a := ⟨b, o + 1, none⟩) hb).trans h.2⟩
theorem IsIntA2S.below {w w' : World} {a : Option Addr} {len cap : Nat} {xs : List VIntA2} (h : IsIntA2S w a len cap xs) (hb : Below w.heap.size w w') : IsIntA2S w' a len cap xs := by
  refine ⟨h.1, h.2.1, h.2.2.1, ?_⟩
  rcases h.2.2.2 with h0 | ⟨b, o, rfl, h1, h2⟩
  · exact .inl h0
  · exact .inr ⟨b, o, rfl, Nat.lt_of_lt_of_le h1 hb.size, fun k s hs => (h2 k s hs).below hb h1⟩
theorem IsIntA2S.grown {w w' : World} {a : Option Addr} {len cap : Nat} {xs : List VIntA2} {row : Option Nat} (h : IsIntA2S w a len cap xs) (hg : w.grownBy w' row) (hne : ∀ b o, a = some ⟨b, o, none⟩ → some b ≠ row) : IsIntA2S w' a len cap xs := by
  refine ⟨h.1, h.2.1, h.2.2.1, ?_⟩
  rcases h.2.2.2 with h0 | ⟨b, o, rfl, h1, h2⟩
  · exact .inl h0
  · exact .inr ⟨b, o, rfl, Nat.lt_of_lt_of_le h1 hg.size, fun k s hs => (h2 k s hs).block (hg.block b h1 (hne b o rfl))⟩
theorem IsIntA2S.at {w : World} {a : Option Addr} {len cap : Nat} {xs : List VIntA2} (h : IsIntA2S w a len cap xs) (hpos : 0 < len) : ∃ b o, a = some ⟨b, o, none⟩ ∧ b < w.heap.size ∧ ∀ (k : Nat) s, xs[k]? = some s → IntA2At w b (o + k * 2) s := by
  rcases h.2.2.2 with h0 | h1
  · omega
  · exact h1
theorem nil_IsIntA2S (w : World) : IsIntA2S w none 0 0 [] := ⟨rfl, Nat.le_refl _, by simp [maxLen], .inl rfl⟩
theorem infoIntA2 : (Try.prog.info? 34).map (fun i => (i.zero, i.size, i.bytes)) = some (some (.agg #[.int .i64 0, .int .i64 0]), 2, 16) := by kernel_rfl
def cellsIntA2 (xs : List VIntA2) : List Value := xs.flatMap VIntA2.vals
theorem cellsIntA2_len (xs : List VIntA2) : (cellsIntA2 xs).length = xs.length * 2 := by
  induction xs with
  | nil => rfl
  | cons x xs ih => simp [cellsIntA2, VIntA2.vals_len] at *; omega
theorem cellsIntA2_append (xs ys : List VIntA2) : cellsIntA2 (xs ++ ys) = cellsIntA2 xs ++ cellsIntA2 ys := by simp [cellsIntA2]
theorem cellsIntA2_snoc (xs : List VIntA2) (s : VIntA2) : cellsIntA2 (xs ++ [s]) = cellsIntA2 xs ++ s.vals := by simp [cellsIntA2]
theorem cellsIntA2_at {xs : List VIntA2} {k : Nat} {s : VIntA2} (h : xs[k]? = some s) (j : Nat) (hj : j < 2) : (cellsIntA2 xs)[k * 2 + j]? = s.vals[j]? := by
  have hk : k < xs.length := (List.getElem?_eq_some_iff.1 h).1
  have e : xs = xs.take k ++ s :: xs.drop (k + 1) := by
    have h2 := List.take_append_drop k xs
    rw [List.drop_eq_getElem_cons hk] at h2
    have : xs[k] = s := by rw [List.getElem?_eq_getElem hk] at h; simpa using h
    rw [this] at h2; exact h2.symm
  have hl : (cellsIntA2 (xs.take k)).length = k * 2 := by rw [cellsIntA2_len, List.length_take]; omega
  rw [e, show cellsIntA2 (xs.take k ++ s :: xs.drop (k + 1)) = cellsIntA2 (xs.take k) ++ (s.vals ++ cellsIntA2 (xs.drop (k + 1))) from by simp [cellsIntA2], List.getElem?_append_right (by omega), hl, show k * 2 + j - k * 2 = j from by omega, List.getElem?_append_left (by rw [VIntA2.vals_len]; exact hj)]
theorem isIntA2S_own {w : World} {base : Nat} {v : Value} {xs : List VIntA2} (h : w.ownsRow base 34 2 v xs.length (cellsIntA2 xs)) :
    ∃ a cap, v = .slice a xs.length cap ∧ IsIntA2S w a xs.length cap xs ∧ ∀ b o, a = some ⟨b, o, none⟩ → v.ownBlock = some b := by
  have hlt := h.lt
  rcases h.2 with ⟨rfl, h0⟩ | ⟨g, cap, cur, rfl, hg, hh, hn, hcap, hsz, htake⟩
  · exact ⟨none, 0, by rw [h0], ⟨by rw [h0], by omega, by simp [maxLen], .inl h0⟩, fun _ _ h => by cases h⟩
  · refine ⟨some ⟨g, 0, none⟩, cap, rfl, ⟨rfl, hn, hcap, ?_⟩, fun b o h => by cases h; rfl⟩
    by_cases hz : xs.length = 0
    · exact .inl hz
    · refine .inr ⟨g, 0, rfl, (hlt g rfl).2, fun k s hs => ?_⟩
      have each : ∀ j u, j < 2 → s.vals[j]? = some u → w.cell? ⟨g, 0 + k * 2 + j, none⟩ = some u := fun j u hj hu => by
        have hc := h.cells (g := g) rfl (k * 2 + j) u ((cellsIntA2_at hs j hj).trans hu)
        rw [add_plain, ← Nat.add_assoc] at hc; exact hc
      exact ⟨each 0 _ (by decide) rfl, each 1 _ (by decide) rfl⟩
theorem nil_ownIntA2 (w : World) (base : Nat) : w.ownsRow base 34 2 (.slice none 0 0) ([] : List VIntA2).length (cellsIntA2 []) := ⟨by simp [cellsIntA2], .inl ⟨rfl, rfl⟩⟩
theorem cell_IntA2 (w : World) (s : VIntA2) (t : TypeId) : ∀ j u, s.vals[j]? = some u → (w.alloc (.cells #[.int .i64 s.E0, .int .i64 s.E1] t)).cell? ((⟨w.heap.size, 0, none⟩ : Addr).add j) = some u := by
  intro j u hj
  rw [add_plain, Nat.zero_add, World.cell?_alloc_new]
  simpa [VIntA2.vals] using hj
theorem cell_IntA22 (w : World) (o : Obj) (s : VIntA2) (t : TypeId) : ∀ j u, s.vals[j]? = some u → ((w.alloc o).alloc (.cells #[.int .i64 s.E0, .int .i64 s.E1] t)).cell? ((⟨w.heap.size + 1, 0, none⟩ : Addr).add j) = some u := by
  have h := cell_IntA2 (w.alloc o) s t
  rw [show (w.alloc o).heap.size = w.heap.size + 1 from by show (w.heap.push o).size = _; simp] at h
  exact h
/-- What is left of a row of the call's own when it is cut behind some elements. -/
theorem take_ownIntA2 {w : World} {base : Nat} {a : Option Addr} {cap k : Nat} {xs : List VIntA2} (h : w.ownsRow base 34 2 (.slice a xs.length cap) xs.length (cellsIntA2 xs)) (hk : k ≤ xs.length) :
    w.ownsRow base 34 2 (.slice a k cap) k (cellsIntA2 (xs.take k)) := by
  have hl : (cellsIntA2 (xs.take k)).length = k * 2 := by rw [cellsIntA2_len, List.length_take]; omega
  refine ⟨hl, ?_⟩
  rcases h.2 with ⟨h0, h1⟩ | ⟨g, cap', cur, e, hg, hh, hn, hcap, hsz, htake⟩
  · simp only [Value.slice.injEq] at h0
    obtain ⟨rfl, h2, rfl⟩ := h0
    exact .inl ⟨by rw [show k = 0 by omega], by omega⟩
  · cases e
    refine .inr ⟨g, cap, cur, rfl, hg, hh, by omega, hcap, hsz, ?_⟩
    have e2 : cellsIntA2 xs = cellsIntA2 (xs.take k) ++ cellsIntA2 (xs.drop k) := by
      unfold cellsIntA2
      rw [← List.flatMap_append, List.take_append_drop]
    have h3 := congrArg (List.take (k * 2)) htake
    rw [List.take_take, Nat.min_eq_left (by have := Nat.mul_le_mul_right 2 hk; omega), e2, List.take_append_of_le_length (by omega), List.take_of_length_le (show (cellsIntA2 (xs.take k)).length ≤ k * 2 by omega)] at h3
    exact h3
/-- A slice of them, as what is appended. -/
theorem srcIntA2 {w : World} {a : Option Addr} {len cap : Nat} {xs : List VIntA2} (h : IsIntA2S w a len cap xs) : SrcAt w a len 2 (cellsIntA2 xs) := by
  refine ⟨by rw [cellsIntA2_len, h.1], ?_⟩
  rcases h.2.2.2 with h0 | ⟨b, o, rfl, hb, hat⟩
  · exact .inl h0
  · refine .inr ⟨_, rfl, fun j u hj => ?_⟩
    rw [add_plain]
    have hl := (List.getElem?_eq_some_iff.1 hj).1
    rw [cellsIntA2_len] at hl
    obtain ⟨k, r, rfl, hr⟩ : ∃ k r, j = k * 2 + r ∧ r < 2 := ⟨j / 2, j % 2, by omega, Nat.mod_lt _ (by decide)⟩
    have hk : k < xs.length := by omega
    have hs : xs[k]? = some xs[k] := List.getElem?_eq_getElem hk
    have hu := cellsIntA2_at hs r hr
    rw [hj] at hu
    have ha := hat k _ hs
    rw [← Nat.add_assoc]
    rcases (show r = 0 ∨ r = 1 by omega) with rfl | rfl
    · rw [hu]; exact ha.1
    · rw [hu]; exact ha.2
/-- Block b holds it, all of it, and may be written. -/
def HBIntA2 (w : World) (b : Nat) (s : VIntA2) : Prop := w.heap[b]? = some (.cells #[.int .i64 s.E0, .int .i64 s.E1] 34 (0, 0))
theorem HBIntA2.lt {w : World} {b : Nat} {s : VIntA2} (h : HBIntA2 w b s) : b < w.heap.size := (Array.getElem?_eq_some_iff.1 h).1
theorem HBIntA2.new (w : World) (s : VIntA2) (B : Nat) (hB : w.heap.size = B) : HBIntA2 (w.alloc (.cells #[.int .i64 s.E0, .int .i64 s.E1] 34)) B s := hB ▸ heap_alloc_new w _
theorem HBIntA2.below {w w' : World} {b : Nat} {s : VIntA2} (h : HBIntA2 w b s) (hb : Below w.heap.size w w') : HBIntA2 w' b s := (hb.block b h.lt).trans h
theorem HBIntA2.grown {w w' : World} {b : Nat} {s : VIntA2} {row : Option Nat} (h : HBIntA2 w b s) (hg : w.grownBy w' row) (hne : some b ≠ row) : HBIntA2 w' b s := (hg.block b h.lt hne).trans h
theorem HBIntA2.drew {w : World} {b : Nat} {s : VIntA2} (h : HBIntA2 w b s) : HBIntA2 w.drew b s := h
theorem HBIntA2.alloc {w : World} {b : Nat} {s : VIntA2} (h : HBIntA2 w b s) (o : Obj) : HBIntA2 (w.alloc o) b s := (Below.heap_alloc w o b h.lt).trans h
theorem HBIntA2.other {w : World} {b b' j : Nat} {s : VIntA2} (h : HBIntA2 w b s) (hne : b ≠ b') (u : Value) : HBIntA2 (w.setCell ⟨b', j, none⟩ u) b s := (heap_setCell_other w ⟨b', j, none⟩ b u hne).trans h
theorem HBIntA2.cells {w : World} {b : Nat} {s : VIntA2} (h : HBIntA2 w b s) : w.cell? ⟨b, 0, none⟩ = some (.int .i64 s.E0) ∧ w.cell? ⟨b, 1, none⟩ = some (.int .i64 s.E1) := by
  unfold HBIntA2 at h
  refine ⟨?_, ?_⟩ <;> simp [World.cell?, h]
theorem HBIntA2.free {w : World} {b : Nat} {s : VIntA2} (h : HBIntA2 w b s) (j : Nat) : w.frozen? ⟨b, j, none⟩ = false := by
  unfold HBIntA2 at h
  simp [World.frozen?, h]
theorem HBIntA2.set0 {w : World} {b : Nat} {s : VIntA2} (h : HBIntA2 w b s) (v : Int) : HBIntA2 (w.setCell ⟨b, 0, none⟩ (.int .i64 v)) b ⟨v, s.E1⟩ := heap_setCell_same w b 0 _ _ _ h
theorem HBIntA2.set1 {w : World} {b : Nat} {s : VIntA2} (h : HBIntA2 w b s) (v : Int) : HBIntA2 (w.setCell ⟨b, 1, none⟩ (.int .i64 v)) b ⟨s.E0, v⟩ := heap_setCell_same w b 1 _ _ _ h
theorem HBIntA2.setAll {w : World} {b : Nat} {s : VIntA2} (h : HBIntA2 w b s) (t : VIntA2) : HBIntA2 ((w.setCell ⟨b, 0, none⟩ (.int .i64 t.E0)).setCell ⟨b, 1, none⟩ (.int .i64 t.E1)) b t :=
  (heap_setCell_same _ b 1 _ _ _ (heap_setCell_same _ b 0 _ _ _ h))
theorem HBIntA2.otherAll {w : World} {b b' : Nat} {s : VIntA2} (h : HBIntA2 w b s) (hne : b ≠ b') (x0 x1 : Value) : HBIntA2 ((w.setCell ⟨b', 0, none⟩ x0).setCell ⟨b', 1, none⟩ x1) b s :=
  ((h.other hne x0).other hne x1)
/-- It lies in the box b of some type. -/
def BoxIntA2 (w : World) (b : Nat) (s : VIntA2) : Prop := w.cell? ⟨b, 0, none⟩ = some (.int .i64 s.E0) ∧ w.cell? ⟨b, 1, none⟩ = some (.int .i64 s.E1)
theorem BoxIntA2.new (w : World) (t : TypeId) (s : VIntA2) (B : Nat) (hB : w.heap.size = B) : BoxIntA2 (w.alloc (.cells #[.int .i64 s.E0, .int .i64 s.E1] t)) B s := by
  subst hB
  refine ⟨?_, ?_⟩ <;> simp [World.cell?_alloc_new]
theorem BoxIntA2.lt {w : World} {b : Nat} {s : VIntA2} (h : BoxIntA2 w b s) : b < w.heap.size := World.lt_of_cell h.1
theorem BoxIntA2.below {w w' : World} {b : Nat} {s : VIntA2} (h : BoxIntA2 w b s) (hb : Below w.heap.size w w') : BoxIntA2 w' b s :=
  ⟨(hb.cell (p := ⟨b, 0, none⟩) h.lt).trans h.1, (hb.cell (p := ⟨b, 1, none⟩) h.lt).trans h.2⟩
theorem BoxIntA2.grown {w w' : World} {b : Nat} {s : VIntA2} {row : Option Nat} (h : BoxIntA2 w b s) (hg : w.grownBy w' row) (hne : some b ≠ row) : BoxIntA2 w' b s :=
  ⟨(World.cell?_of_block (w := w) (a := ⟨b, 0, none⟩) (hg.block b h.lt hne)).trans h.1, (World.cell?_of_block (w := w) (a := ⟨b, 1, none⟩) (hg.block b h.lt hne)).trans h.2⟩
def zerosIntA2 (n : Nat) : List Value := (List.replicate n [.int .i64 0, .int .i64 0]).flatten
theorem zerosIntA2_succ (n : Nat) : zerosIntA2 (n + 1) = .int .i64 0 :: .int .i64 0 :: zerosIntA2 n := by
  unfold zerosIntA2; rw [List.replicate_succ]; rfl
theorem zerosIntA2_len (n : Nat) : (zerosIntA2 n).length = n * 2 := by
  induction n with
  | zero => rfl
  | succ n ih => rw [zerosIntA2_succ]; simp [ih]; omega
theorem zerosIntA2_at (n j : Nat) (h : j < n * 2) : (zerosIntA2 n)[j]? = [.int .i64 0, .int .i64 0][j % 2]? := by
  induction n generalizing j with
  | zero => omega
  | succ n ih =>
    rw [zerosIntA2_succ]
    by_cases hj : j < 2
    · rw [Nat.mod_eq_of_lt hj]
      rcases (show j = 0 ∨ j = 1 by omega) with rfl | rfl <;> rfl
    · obtain ⟨i, rfl⟩ : ∃ i, j = i + 2 := ⟨j - 2, by omega⟩
      rw [Nat.add_mod_right, ← ih i (by omega)]
      rfl
theorem madeIntA2 (n : Nat) : (madeCells (.agg #[.int .i64 0, .int .i64 0] : Value).cells (n * 2)).toList = zerosIntA2 n := by
  apply List.ext_getElem?
  intro j
  rw [Array.getElem?_toList]
  by_cases h : j < n * 2
  · rw [zerosIntA2_at n j h]
    have hm : j % 2 < 2 := Nat.mod_lt _ (by decide)
    simp only [madeCells, Value.cells]
    rw [Array.getElem?_eq_getElem (by simpa using h)]
    rcases (show j % 2 = 0 ∨ j % 2 = 1 by omega) with e | e <;> simp [e]
  · rw [List.getElem?_eq_none (by rw [zerosIntA2_len]; omega)]
    simp [madeCells, h]
theorem setIntA2 (A L : List Value) (v0 v1 : Value) (o : Nat) (hA : A.length = o) (hL : o + 2 ≤ L.length) :
    (((A ++ L.drop o).set (o) v0).set (o + 1) v1) = A ++ v0 :: v1 :: L.drop (o + 2) := by
  subst hA
  obtain ⟨a0, a1, e⟩ : ∃ a0 a1, L.drop A.length = a0 :: a1 :: L.drop (A.length + 2) := ⟨_, _, by rw [List.drop_eq_getElem_cons (show A.length < L.length by omega), List.drop_eq_getElem_cons (show A.length + 1 < L.length by omega)]⟩
  rw [e]
  generalize L.drop (A.length + 2) = D
  simp [List.set_append_right]
theorem storedIntA2 {w : World} {base n c g o : Nat} {e : TypeId} {size : Nat} {A L : List Value} (h : w.ownsRow base e size (.slice (some ⟨g, 0, none⟩) n c) n (A ++ L.drop o)) (hA : A.length = o) (hL : o + 2 ≤ L.length) (v0 v1 : Value) :
    ((w.setCell ⟨g, o, none⟩ v0).setCell ⟨g, o + 1, none⟩ v1).ownsRow base e size (.slice (some ⟨g, 0, none⟩) n c) n (A ++ v0 :: v1 :: L.drop (o + 2)) ∧ w.grownBy ((w.setCell ⟨g, o, none⟩ v0).setCell ⟨g, o + 1, none⟩ v1) (some g) := by
  have h0 := h.stored (o) v0
  have h1 := h0.1.stored (o + 1) v1
  refine ⟨?_, (grown_trans h0.2 h1.2)⟩
  have := h1.1
  rw [setIntA2 A L v0 v1 o hA hL] at this
  exact this
/-- A row of the call's own, and the world below as it was. -/
def IntA2Row (xs : List VIntA2) (w : World) (e : Ending) (w' : World) : Prop := ∃ v, e = .returned v ∧ w'.ownsRow w.heap.size 34 2 v xs.length (cellsIntA2 xs) ∧ Below w.heap.size w w'
theorem cellsIntA2_drop (xs : List VIntA2) (i : Nat) : (cellsIntA2 xs).drop (i * 2) = cellsIntA2 (xs.drop i) := by
  by_cases h : i ≤ xs.length
  · have e : cellsIntA2 xs = cellsIntA2 (xs.take i) ++ cellsIntA2 (xs.drop i) := by
      unfold cellsIntA2
      rw [← List.flatMap_append, List.take_append_drop]
    have hl : (cellsIntA2 (xs.take i)).length = i * 2 := by rw [cellsIntA2_len, List.length_take]; omega
    rw [e, List.drop_append_of_le_length (by omega), List.drop_of_length_le (by omega), List.nil_append]
  · rw [List.drop_of_length_le (show xs.length ≤ i by omega), List.drop_of_length_le (by rw [cellsIntA2_len]; omega)]; rfl
theorem cellsIntA2_take (xs : List VIntA2) (i : Nat) : cellsIntA2 xs = cellsIntA2 (xs.take i) ++ (cellsIntA2 xs).drop (i * 2) := by
  rw [cellsIntA2_drop]
  unfold cellsIntA2
  rw [← List.flatMap_append, List.take_append_drop]
theorem cellsIntA2_set (xs : List VIntA2) (i : Nat) (r : VIntA2) (h : i < xs.length) : cellsIntA2 (xs.set i r) = cellsIntA2 (xs.take i) ++ (r.vals ++ (cellsIntA2 xs).drop (i * 2 + 2)) := by
  rw [List.set_eq_take_append_cons_drop, if_pos h, show i * 2 + 2 = (i + 1) * 2 by omega, cellsIntA2_drop]
  simp [cellsIntA2]
/-- An element of a row of the call's own is replaced. -/
theorem own_setIntA2 {w : World} {base m c g i : Nat} {xs : List VIntA2} (h : w.ownsRow base 34 2 (.slice (some ⟨g, 0, none⟩) m c) m (cellsIntA2 xs)) (hi : i < xs.length) (r : VIntA2) :
    ((w.setCell ⟨g, i * 2, none⟩ (.int .i64 r.E0)).setCell ⟨g, i * 2 + 1, none⟩ (.int .i64 r.E1)).ownsRow base 34 2 (.slice (some ⟨g, 0, none⟩) m c) m (cellsIntA2 (xs.set i r)) ∧ w.grownBy ((w.setCell ⟨g, i * 2, none⟩ (.int .i64 r.E0)).setCell ⟨g, i * 2 + 1, none⟩ (.int .i64 r.E1)) (some g) := by
  rw [cellsIntA2_set xs i r hi]
  rw [cellsIntA2_take xs i] at h
  exact storedIntA2 h (by rw [cellsIntA2_len, List.length_take]; omega) (by rw [cellsIntA2_len]; omega) (.int .i64 r.E0) (.int .i64 r.E1)
/-- The marks from b on, and n of them. -/
def markIntA2 (b : Nat) : VIntA2 := ⟨((b : Nat) : Int), ((b + 1 : Nat) : Int)⟩
def marksIntA2 (k n : Nat) : List VIntA2 := (List.range n).map fun i => markIntA2 (k + i * 2)
theorem marksIntA2_len (k n : Nat) : (marksIntA2 k n).length = n := by simp [marksIntA2]
theorem marksIntA2_succ (k n : Nat) : marksIntA2 k (n + 1) = marksIntA2 k n ++ [markIntA2 (k + n * 2)] := by simp [marksIntA2, List.range_succ]
theorem marksIntA2_at (k n i : Nat) (h : i < n) : (marksIntA2 k n)[i]? = some (markIntA2 (k + i * 2)) := by simp [marksIntA2, h]
def IntA2Marked (base k n : Nat) (v : Value) (w : World) (e : Ending) (w' : World) : Prop := e = .returned (.int .i64 ((k + n * 2 : Nat) : Int)) ∧ w'.ownsRow base 34 2 v n (cellsIntA2 (marksIntA2 k n)) ∧ w.grownBy w' v.ownBlock
set_option maxHeartbeats 3200000 in
set_option maxRecDepth 100000 in
theorem eqIntA2_yes (x0 x1 : Int) (w : World) :
    Calls Try.prog 127 #[.agg #[.int .i64 x0, .int .i64 x1], .agg #[.int .i64 x0, .int .i64 x1]] w fun e w' => e = .returned (.bool true) ∧ Below w.heap.size w w' := by
  have B0 := Lib.hid (bel_al2 w (.cells #[.int .i64 x0, .int .i64 x1] 34) (.cells #[.int .i64 x0, .int .i64 x1] 34))
  go_enter Try.func127, Try.ntmps127
  go_wp2
  refine wp_world (fun wr => Below w.heap.size w wr ∧ wr.cell? ⟨w.heap.size, 0, none⟩ = some (.int .i64 x0) ∧ wr.cell? ⟨w.heap.size, 1, none⟩ = some (.int .i64 x1) ∧ wr.cell? ⟨w.heap.size + 1, 0, none⟩ = some (.int .i64 x0) ∧ wr.cell? ⟨w.heap.size + 1, 1, none⟩ = some (.int .i64 x1)) ⟨B0.out, by simp, by simp, by simp, by simp⟩ ?_
  rintro W ⟨hb, c0, c1, d0, d1⟩
  have BW := Lib.hid hb
  clear hb
  go_loopw [5] (fun i wr => ∃ k : Nat, k ≤ 2 ∧ i = .int .i64 k ∧ Below w.heap.size w wr ∧ wr.cell? ⟨w.heap.size, 0, none⟩ = some (.int .i64 x0) ∧ wr.cell? ⟨w.heap.size, 1, none⟩ = some (.int .i64 x1) ∧ wr.cell? ⟨w.heap.size + 1, 0, none⟩ = some (.int .i64 x0) ∧ wr.cell? ⟨w.heap.size + 1, 1, none⟩ = some (.int .i64 x1)) (fun i _ => 2 - (intOf i).toNat)
  case atStart => exact ⟨0, by omega, rfl, BW.out, c0, c1, d0, d1⟩
  case round =>
    clear c0 c1 d0 d1
    obtain ⟨k, hk, rfl, hbel, c0, c1, d0, d1⟩ := hrel
    have B := Lib.hid hbel
    clear hbel
    rcases (show k = 0 ∨ k = 1 ∨ k = 2 by omega) with rfl | rfl | rfl
    · go_wp2
      go_quiet (fail)
      have B1 := Lib.hid (Below.then' B.out (bel_drawn wr nq))
      go_wp2
      go_roundw
      case rel => exact ⟨1, by omega, by go_num, B1.out, c0, c1, d0, d1⟩
      case measure => simp [intOf]
    · go_wp2
      go_quiet (fail)
      have B1 := Lib.hid (Below.then' B.out (bel_drawn wr nq))
      go_wp2
      go_roundw
      case rel => exact ⟨2, by omega, by go_num, B1.out, c0, c1, d0, d1⟩
      case measure => simp [intOf]
    · go_wp2
      go_ret
      exact ⟨rfl, B.out⟩
set_option maxHeartbeats 3200000 in
set_option maxRecDepth 100000 in
theorem eqIntA2S_yes (a : Option Addr) (len cap : Nat) (a' : Option Addr) (len' cap' : Nat) (xs : List VIntA2) (w : World) (h : IsIntA2S w a len cap xs) (h' : IsIntA2S w a' len' cap' xs) :
    Calls Try.prog 77 #[.slice a len cap, .slice a' len' cap'] w fun e w' => e = .returned (.bool true) ∧ Below w.heap.size w w' := by
  obtain rfl := h.1
  obtain rfl := h'.1
  have hm := h.2.2.1
  have hcl := h.2.1
  unfold maxLen at hm
  have S := Lib.hid h
  have S' := Lib.hid h'
  clear h h'
  go_enter Try.func77, Try.ntmps77
  go_wp2
  go_loopw [5] (fun i wr => ∃ k : Nat, k ≤ xs.length ∧ i = .int .i64 k ∧ Below w.heap.size w wr) (fun i _ => xs.length - (intOf i).toNat)
  case atStart => exact ⟨0, Nat.zero_le _, rfl, Below.refl _ _⟩
  case round =>
    obtain ⟨k, hk, rfl, hbel⟩ := hrel
    have B := Lib.hid hbel
    by_cases hlt : k < xs.length
    · obtain ⟨s, hs⟩ : ∃ s, xs[k]? = some s := ⟨xs[k]'hlt, List.getElem?_eq_getElem _⟩
      obtain ⟨b, o, rfl, hb, hat⟩ := (S.out.below hbel).at (by omega)
      obtain ⟨b', o', rfl, hb', hat'⟩ := (S'.out.below hbel).at (by omega)
      obtain ⟨c0, c1⟩ := hat k s hs
      obtain ⟨d0, d1⟩ := hat' k s hs
      obtain ⟨x0, x1⟩ := s
      simp only at c0 c1 d0 d1
      have hi0 : (0 : Int) ≤ (k : Int) := by omega
      have hi1 : (k : Int) < (xs.length : Int) := by omega
      clear hbel hs hat hat'
      have k0 := cell_regrown c0
      have k1 := cell_regrown c1
      have m0 := cell_regrown d0
      have m1 := cell_regrown d1
      clear c0 c1 d0 d1
      have cQ := below_at (W := wr) (fun W' _ => eqIntA2_yes x0 x1 W')
      go_wp2
      refine wp_region_quiet_below (by kernel_rfl) (by kernel_rfl) ?_
      repeat (first | go_big_quiet_step (with_reducible exact cQ _ _) | quiet_step (with_reducible exact cQ _ _))
      refine wpQuiet_nil ?_
      intro W2 hw2
      have B1 := Lib.hid (Below.then' B.out (below_of_re hw2))
      clear hw2 cQ k0 m0 k1 m1
      go_wp2
      go_roundw
      case rel => exact ⟨k + 1, by omega, by go_num, B1.out⟩
      case measure => simp [intOf]; omega
    · obtain rfl : k = xs.length := by omega
      clear hbel
      go_wp2
      go_ret
      exact ⟨rfl, B.out⟩
theorem marksIntA2_flat (k n : Nat) : cellsIntA2 (marksIntA2 k n) = intCells (marksI k (n * 2)) := by
  induction n with
  | zero => simp [marksIntA2, cellsIntA2, marksI, intCells]
  | succ n ih =>
    rw [marksIntA2_succ, cellsIntA2_snoc, ih, show (n + 1) * 2 = n * 2 + 1 + 1 by omega, marksI_succ, marksI_succ, intCells_snoc, intCells_snoc]
    simp [VIntA2.vals, markIntA2, Nat.add_assoc]
set_option maxHeartbeats 3200000 in
set_option maxRecDepth 100000 in
theorem markIntA2S_any (base : Nat) (v : Value) (n k : Nat) (L : List Value) (w : World) (hown : w.ownsRow base 34 2 v n L) (hk1 : 1 ≤ k) (hk : k ≤ 1000000) (hn : n ≤ 1048576) :
    Calls Try.prog 78 #[v, .int .i64 (k : Int)] w (IntA2Marked base k n v w) := by
  have hlen : L.length = n * 2 := by have := hown.1; omega
  rcases hown.2 with ⟨rfl, rfl⟩ | ⟨g, cap, cur, rfl, hg, hh, hncap, hcap, _⟩
  · have hL : L = [] := List.length_eq_zero_iff.1 (by omega)
    subst hL
    have H := Lib.hid hown
    clear hown
    go_enter Try.func78, Try.ntmps78
    go_wp2
    refine wp_loop_rounds 1 ?_
    rw [rounds_succ]
    go_wp2
    go_ret
    exact ⟨rfl, H.out, World.grownBy.refl _ _⟩
  clear hh
  have H := Lib.hid hown
  have L0 := Lib.hid hlen
  unfold maxLen at hcap
  clear hown hlen
  go_enter Try.func78, Try.ntmps78
  go_wp2
  go_loopw [1, 5] (fun q i wr => ∃ j : Nat, j ≤ n ∧ i = .int .i64 j ∧ q = .int .i64 ((k + j * 2 : Nat) : Int) ∧ wr.ownsRow base 34 2 (.slice (some ⟨g, 0, none⟩) n cap) n (intCells (marksI k (j * 2)) ++ L.drop (j * 2)) ∧ w.grownBy wr (some g)) (fun _ i _ => n - (intOf i).toNat)
  case atStart => exact ⟨0, Nat.zero_le _, rfl, rfl, by simpa [marksI, intCells] using H.out, World.grownBy.refl _ _⟩
  case round =>
    obtain ⟨j, hj, rfl, rfl, hrow, hgr⟩ := hrel
    have R := Lib.hid hrow
    have G := Lib.hid hgr
    clear hrow hgr
    by_cases hlt : j < n
    · go_wp2
      go_loopw [1, 6] (fun q i wr => ∃ c : Nat, c ≤ 2 ∧ i = .int .i64 c ∧ q = .int .i64 ((k + (j * 2 + c) : Nat) : Int) ∧ wr.ownsRow base 34 2 (.slice (some ⟨g, 0, none⟩) n cap) n (intCells (marksI k (j * 2 + c)) ++ L.drop (j * 2 + c)) ∧ w.grownBy wr (some g)) (fun _ i _ => 2 - (intOf i).toNat)
      case atStart => exact ⟨0, by omega, rfl, by simp, R.out, G.out⟩
      case round =>
        obtain ⟨c, hc, rfl, rfl, hrow, hgr⟩ := hrel
        have R2 := Lib.hid hrow
        have G2 := Lib.hid hgr
        clear hrow hgr
        by_cases hc2 : c < 2
        · have hfr := R2.out.frozenAt (j * 2 + c)
          obtain ⟨u, hu⟩ : ∃ u, wr.cell? ⟨g, j * 2 + c, none⟩ = some u := by
            have hlt2 : j * 2 + c < (intCells (marksI k (j * 2 + c)) ++ L.drop (j * 2 + c)).length := by rw [List.length_append, intCells_len, marksI_len, List.length_drop, L0.out]; omega
            have h := R2.out.cells (g := g) rfl (j * 2 + c) _ (List.getElem?_eq_getElem hlt2)
            rw [add_plain, Nat.zero_add] at h
            exact ⟨_, h⟩
          have hj0 : (0 : Int) ≤ (j : Int) := by omega
          have hj1 : (j : Int) < (n : Int) := by omega
          have hc0 : (0 : Int) ≤ (c : Int) := by omega
          have hc1 : (c : Int) < 2 := by omega
          go_wp2
          go_roundw
          case rel => exact ⟨c + 1, by omega, by go_num, by go_num, by
            have h := (R2.out.stored (j * 2 + c) (.int .i64 ((k + (j * 2 + c) : Nat) : Int))).1
            rw [set_markI (by rw [L0.out]; omega), show j * 2 + c + 1 = j * 2 + (c + 1) from rfl] at h
            simpa using h, grown_trans G2.out (by simpa using (R2.out.stored (j * 2 + c) (.int .i64 ((k + (j * 2 + c) : Nat) : Int))).2)⟩
          case measure => simp [intOf]; omega
        · obtain rfl : c = 2 := by omega
          go_wp2
          go_roundw
          case rel => exact ⟨j + 1, by omega, by go_num, by go_num, by rw [show (j + 1) * 2 = j * 2 + 2 by omega]; exact R2.out, G2.out⟩
          case measure => simp [intOf]; omega
    · obtain rfl : j = n := by omega
      go_wp2
      go_ret
      refine ⟨rfl, ?_, G.out⟩
      have h := R.out
      rw [List.drop_of_length_le (by rw [L0.out]; omega), List.append_nil] at h
      rw [marksIntA2_flat]
      exact h
set_option maxHeartbeats 3200000 in
set_option maxRecDepth 100000 in
theorem heldIntA2S_any (a : Option Addr) (n cap k : Nat) (w : World) (h : IsIntA2S w a n cap (marksIntA2 k n)) (hk1 : 1 ≤ k) (hk : k ≤ 1000000) (hn : n ≤ 1048576) :
    Calls Try.prog 79 #[.slice a n cap, .int .i64 (k : Int)] w fun e w' => e = .returned (.int .i64 ((k + n * 2 : Nat) : Int)) ∧ Below w.heap.size w w' := by
  have hm := h.2.2.1
  have hcl := h.2.1
  unfold maxLen at hm
  have S := Lib.hid h
  clear h
  go_enter Try.func79, Try.ntmps79
  go_wp2
  go_loop [1, 5] (fun q i => ∃ j : Nat, j ≤ n ∧ i = .int .i64 j ∧ q = .int .i64 ((k + j * 2 : Nat) : Int)) (fun _ i => n - (intOf i).toNat)
  case atStart => exact ⟨0, Nat.zero_le _, rfl, rfl⟩
  case round =>
    obtain ⟨j, hj, rfl, rfl⟩ := hrel
    by_cases hlt : j < n
    · obtain ⟨b, o, rfl, hb, hat⟩ := S.out.at (by omega)
      obtain ⟨c0, c1⟩ := hat j _ (marksIntA2_at k n j hlt)
      have hj0 : (0 : Int) ≤ (j : Int) := by omega
      have hj1 : (j : Int) < (n : Int) := by omega
      simp only [markIntA2] at c0 c1
      clear hat
      go_wp2
      go_loop [1, 6] (fun q i => ∃ c : Nat, c ≤ 2 ∧ i = .int .i64 c ∧ q = .int .i64 ((k + j * 2 + c : Nat) : Int)) (fun _ i => 2 - (intOf i).toNat)
      case atStart => exact ⟨0, by omega, rfl, by simp⟩
      case round =>
        obtain ⟨c, hc, rfl, rfl⟩ := hrel
        rcases (show c = 0 ∨ c = 1 ∨ c = 2 by omega) with rfl | rfl | rfl
        · go_wp2
          go_round
          case rel => exact ⟨1, by omega, by go_num, by go_num⟩
          case measure => simp [intOf]
        · go_wp2
          go_round
          case rel => exact ⟨2, by omega, by go_num, by go_num⟩
          case measure => simp [intOf]
        · go_wp2
          go_round
          case rel => exact ⟨j + 1, by omega, by go_num, by go_num⟩
          case measure => simp [intOf]; omega
    · obtain rfl : j = n := by omega
      go_wp2
      go_ret
      exact ⟨rfl, Below.refl _ _⟩
end Go.Proofs.Ytpnaciamnigbnaa
