/- The struct roadPart: its fields; one read from an argument; slices of it; and the laws' own helpers over it. (made by gen.py) -/
import Derived.Test.YtpnaciamnigbnaaOpen2
import Derived.Test.YtpnaciamnigbnaaBox0
import Derived.Test.YtpnaciamnigbnaaAppL
import Derived.Test.YtpnaciamnigbnaaReg
import Derived.Deep.RegionWith
import Derived.Laws.OwnMore
import Derived.Handy
import Derived.Laws.IdiomRangeMap
namespace Go.Proofs.Ytpnaciamnigbnaa
open Go.RowKit Go.ChangeShapes Go.WideShapes Go.Deep

structure VroadPart where
  FX : Int
  FY : Int
  TX : Int
  TY : Int
def VroadPart.vals (s : VroadPart) : List Value := [.int .i64 s.FX, .int .i64 s.FY, .int .i64 s.TX, .int .i64 s.TY]
theorem VroadPart.vals_len (s : VroadPart) : s.vals.length = 4 := rfl
theorem VroadPart.vals_one (s : VroadPart) : ∀ u ∈ s.vals, u.oneCell' = true := by
  intro u hu
  simp [VroadPart.vals] at hu
  rcases hu with rfl | rfl | rfl | rfl <;> rfl
/-- It lies at block b from offset o on. -/
def roadPartAt (w : World) (b o : Nat) (s : VroadPart) : Prop :=
  w.cell? ⟨b, o, none⟩ = some (.int .i64 s.FX) ∧ w.cell? ⟨b, o + 1, none⟩ = some (.int .i64 s.FY) ∧ w.cell? ⟨b, o + 2, none⟩ = some (.int .i64 s.TX) ∧ w.cell? ⟨b, o + 3, none⟩ = some (.int .i64 s.TY)
def IsroadPartS (w : World) (a : Option Addr) (len cap : Nat) (xs : List VroadPart) : Prop :=
  len = xs.length ∧ len ≤ cap ∧ cap ≤ maxLen ∧ (len = 0 ∨ ∃ b o, a = some ⟨b, o, none⟩ ∧ b < w.heap.size ∧ ∀ (k : Nat) s, xs[k]? = some s → roadPartAt w b (o + k * 4) s)
theorem roadPartAt.below {w w' : World} {b o : Nat} {s : VroadPart} (h : roadPartAt w b o s) (hb : Below w.heap.size w w') (hlt : b < w.heap.size) : roadPartAt w' b o s :=
  ⟨(hb.cell (p := ⟨b, o, none⟩) hlt).trans h.1, (hb.cell (p := ⟨b, o + 1, none⟩) hlt).trans h.2.1, (hb.cell (p := ⟨b, o + 2, none⟩) hlt).trans h.2.2.1, (hb.cell (p := ⟨b, o + 3, none⟩) hlt).trans h.2.2.2⟩
theorem roadPartAt.block {w w' : World} {b o : Nat} {s : VroadPart} (h : roadPartAt w b o s) (hb : w'.heap[b]? = w.heap[b]?) : roadPartAt w' b o s :=
  ⟨(World.cell?_of_block (w := w) (a := ⟨b, o, none⟩) hb).trans h.1, (World.cell?_of_block (w := w) (a := ⟨b, o + 1, none⟩) hb).trans h.2.1, (World.cell?_of_block (w := w) (a := ⟨b, o + 2, none⟩) hb).trans h.2.2.1, (World.cell?_of_block (w := w) (a := ⟨b, o + 3, none⟩) hb).trans h.2.2.2⟩
theorem IsroadPartS.below {w w' : World} {a : Option Addr} {len cap : Nat} {xs : List VroadPart} (h : IsroadPartS w a len cap xs) (hb : Below w.heap.size w w') : IsroadPartS w' a len cap xs := by
  refine ⟨h.1, h.2.1, h.2.2.1, ?_⟩
  rcases h.2.2.2 with h0 | ⟨b, o, rfl, h1, h2⟩
  · exact .inl h0
  · exact .inr ⟨b, o, rfl, Nat.lt_of_lt_of_le h1 hb.size, fun k s hs => (h2 k s hs).below hb h1⟩
theorem IsroadPartS.grown {w w' : World} {a : Option Addr} {len cap : Nat} {xs : List VroadPart} {row : Option Nat} (h : IsroadPartS w a len cap xs) (hg : w.grownBy w' row) (hne : ∀ b o, a = some ⟨b, o, none⟩ → some b ≠ row) : IsroadPartS w' a len cap xs := by
  refine ⟨h.1, h.2.1, h.2.2.1, ?_⟩
  rcases h.2.2.2 with h0 | ⟨b, o, rfl, h1, h2⟩
  · exact .inl h0
  · exact .inr ⟨b, o, rfl, Nat.lt_of_lt_of_le h1 hg.size, fun k s hs => (h2 k s hs).block (hg.block b h1 (hne b o rfl))⟩
theorem IsroadPartS.at {w : World} {a : Option Addr} {len cap : Nat} {xs : List VroadPart} (h : IsroadPartS w a len cap xs) (hpos : 0 < len) : ∃ b o, a = some ⟨b, o, none⟩ ∧ b < w.heap.size ∧ ∀ (k : Nat) s, xs[k]? = some s → roadPartAt w b (o + k * 4) s := by
  rcases h.2.2.2 with h0 | h1
  · omega
  · exact h1
theorem nil_IsroadPartS (w : World) : IsroadPartS w none 0 0 [] := ⟨rfl, Nat.le_refl _, by simp [maxLen], .inl rfl⟩
theorem inforoadPart : (Try.prog.info? 105).map (fun i => (i.zero, i.size, i.bytes)) = some (some (.agg #[.int .i64 0, .int .i64 0, .int .i64 0, .int .i64 0]), 4, 32) := by kernel_rfl
def cellsroadPart (xs : List VroadPart) : List Value := xs.flatMap VroadPart.vals
theorem cellsroadPart_len (xs : List VroadPart) : (cellsroadPart xs).length = xs.length * 4 := by
  induction xs with
  | nil => rfl
  | cons x xs ih => simp [cellsroadPart, VroadPart.vals_len] at *; omega
theorem cellsroadPart_append (xs ys : List VroadPart) : cellsroadPart (xs ++ ys) = cellsroadPart xs ++ cellsroadPart ys := by simp [cellsroadPart]
theorem cellsroadPart_snoc (xs : List VroadPart) (s : VroadPart) : cellsroadPart (xs ++ [s]) = cellsroadPart xs ++ s.vals := by simp [cellsroadPart]
theorem cellsroadPart_at {xs : List VroadPart} {k : Nat} {s : VroadPart} (h : xs[k]? = some s) (j : Nat) (hj : j < 4) : (cellsroadPart xs)[k * 4 + j]? = s.vals[j]? := by
  have hk : k < xs.length := (List.getElem?_eq_some_iff.1 h).1
  have e : xs = xs.take k ++ s :: xs.drop (k + 1) := by
    have h2 := List.take_append_drop k xs
    rw [List.drop_eq_getElem_cons hk] at h2
    have : xs[k] = s := by rw [List.getElem?_eq_getElem hk] at h; simpa using h
    rw [this] at h2; exact h2.symm
  have hl : (cellsroadPart (xs.take k)).length = k * 4 := by rw [cellsroadPart_len, List.length_take]; omega
  rw [e, show cellsroadPart (xs.take k ++ s :: xs.drop (k + 1)) = cellsroadPart (xs.take k) ++ (s.vals ++ cellsroadPart (xs.drop (k + 1))) from by simp [cellsroadPart], List.getElem?_append_right (by omega), hl, show k * 4 + j - k * 4 = j from by omega, List.getElem?_append_left (by rw [VroadPart.vals_len]; exact hj)]
theorem isroadPartS_own {w : World} {base : Nat} {v : Value} {xs : List VroadPart} (h : w.ownsRow base 105 4 v xs.length (cellsroadPart xs)) :
    ∃ a cap, v = .slice a xs.length cap ∧ IsroadPartS w a xs.length cap xs ∧ ∀ b o, a = some ⟨b, o, none⟩ → v.ownBlock = some b := by
  have hlt := h.lt
  rcases h.2 with ⟨rfl, h0⟩ | ⟨g, cap, cur, rfl, hg, hh, hn, hcap, hsz, htake⟩
  · exact ⟨none, 0, by rw [h0], ⟨by rw [h0], by omega, by simp [maxLen], .inl h0⟩, fun _ _ h => by cases h⟩
  · refine ⟨some ⟨g, 0, none⟩, cap, rfl, ⟨rfl, hn, hcap, ?_⟩, fun b o h => by cases h; rfl⟩
    by_cases hz : xs.length = 0
    · exact .inl hz
    · refine .inr ⟨g, 0, rfl, (hlt g rfl).2, fun k s hs => ?_⟩
      have each : ∀ j u, j < 4 → s.vals[j]? = some u → w.cell? ⟨g, 0 + k * 4 + j, none⟩ = some u := fun j u hj hu => by
        have hc := h.cells (g := g) rfl (k * 4 + j) u ((cellsroadPart_at hs j hj).trans hu)
        rw [add_plain, ← Nat.add_assoc] at hc; exact hc
      exact ⟨each 0 _ (by decide) rfl, each 1 _ (by decide) rfl, each 2 _ (by decide) rfl, each 3 _ (by decide) rfl⟩
theorem nil_ownroadPart (w : World) (base : Nat) : w.ownsRow base 105 4 (.slice none 0 0) ([] : List VroadPart).length (cellsroadPart []) := ⟨by simp [cellsroadPart], .inl ⟨rfl, rfl⟩⟩
theorem cell_roadPart (w : World) (s : VroadPart) (t : TypeId) : ∀ j u, s.vals[j]? = some u → (w.alloc (.cells #[.int .i64 s.FX, .int .i64 s.FY, .int .i64 s.TX, .int .i64 s.TY] t)).cell? ((⟨w.heap.size, 0, none⟩ : Addr).add j) = some u := by
  intro j u hj
  rw [add_plain, Nat.zero_add, World.cell?_alloc_new]
  simpa [VroadPart.vals] using hj
theorem cell_roadPart2 (w : World) (o : Obj) (s : VroadPart) (t : TypeId) : ∀ j u, s.vals[j]? = some u → ((w.alloc o).alloc (.cells #[.int .i64 s.FX, .int .i64 s.FY, .int .i64 s.TX, .int .i64 s.TY] t)).cell? ((⟨w.heap.size + 1, 0, none⟩ : Addr).add j) = some u := by
  have h := cell_roadPart (w.alloc o) s t
  rw [show (w.alloc o).heap.size = w.heap.size + 1 from by show (w.heap.push o).size = _; simp] at h
  exact h
/-- What is left of a row of the call's own when it is cut behind some elements. -/
theorem take_ownroadPart {w : World} {base : Nat} {a : Option Addr} {cap k : Nat} {xs : List VroadPart} (h : w.ownsRow base 105 4 (.slice a xs.length cap) xs.length (cellsroadPart xs)) (hk : k ≤ xs.length) :
    w.ownsRow base 105 4 (.slice a k cap) k (cellsroadPart (xs.take k)) := by
  have hl : (cellsroadPart (xs.take k)).length = k * 4 := by rw [cellsroadPart_len, List.length_take]; omega
  refine ⟨hl, ?_⟩
  rcases h.2 with ⟨h0, h1⟩ | ⟨g, cap', cur, e, hg, hh, hn, hcap, hsz, htake⟩
  · simp only [Value.slice.injEq] at h0
    obtain ⟨rfl, h2, rfl⟩ := h0
    exact .inl ⟨by rw [show k = 0 by omega], by omega⟩
  · cases e
    refine .inr ⟨g, cap, cur, rfl, hg, hh, by omega, hcap, hsz, ?_⟩
    have e2 : cellsroadPart xs = cellsroadPart (xs.take k) ++ cellsroadPart (xs.drop k) := by
      unfold cellsroadPart
      rw [← List.flatMap_append, List.take_append_drop]
    have h3 := congrArg (List.take (k * 4)) htake
    rw [List.take_take, Nat.min_eq_left (by have := Nat.mul_le_mul_right 4 hk; omega), e2, List.take_append_of_le_length (by omega), List.take_of_length_le (show (cellsroadPart (xs.take k)).length ≤ k * 4 by omega)] at h3
    exact h3
/-- A slice of them, as what is appended. -/
theorem srcroadPart {w : World} {a : Option Addr} {len cap : Nat} {xs : List VroadPart} (h : IsroadPartS w a len cap xs) : SrcAt w a len 4 (cellsroadPart xs) := by
  refine ⟨by rw [cellsroadPart_len, h.1], ?_⟩
  rcases h.2.2.2 with h0 | ⟨b, o, rfl, hb, hat⟩
  · exact .inl h0
  · refine .inr ⟨_, rfl, fun j u hj => ?_⟩
    rw [add_plain]
    have hl := (List.getElem?_eq_some_iff.1 hj).1
    rw [cellsroadPart_len] at hl
    obtain ⟨k, r, rfl, hr⟩ : ∃ k r, j = k * 4 + r ∧ r < 4 := ⟨j / 4, j % 4, by omega, Nat.mod_lt _ (by decide)⟩
    have hk : k < xs.length := by omega
    have hs : xs[k]? = some xs[k] := List.getElem?_eq_getElem hk
    have hu := cellsroadPart_at hs r hr
    rw [hj] at hu
    have ha := hat k _ hs
    rw [← Nat.add_assoc]
    rcases (show r = 0 ∨ r = 1 ∨ r = 2 ∨ r = 3 by omega) with rfl | rfl | rfl | rfl
    · rw [hu]; exact ha.1
    · rw [hu]; exact ha.2.1
    · rw [hu]; exact ha.2.2.1
    · rw [hu]; exact ha.2.2.2
/-- Block b holds it, all of it, and may be written. -/
def HBroadPart (w : World) (b : Nat) (s : VroadPart) : Prop := w.heap[b]? = some (.cells #[.int .i64 s.FX, .int .i64 s.FY, .int .i64 s.TX, .int .i64 s.TY] 105 (0, 0))
theorem HBroadPart.lt {w : World} {b : Nat} {s : VroadPart} (h : HBroadPart w b s) : b < w.heap.size := (Array.getElem?_eq_some_iff.1 h).1
theorem HBroadPart.new (w : World) (s : VroadPart) (B : Nat) (hB : w.heap.size = B) : HBroadPart (w.alloc (.cells #[.int .i64 s.FX, .int .i64 s.FY, .int .i64 s.TX, .int .i64 s.TY] 105)) B s := hB ▸ heap_alloc_new w _
theorem HBroadPart.below {w w' : World} {b : Nat} {s : VroadPart} (h : HBroadPart w b s) (hb : Below w.heap.size w w') : HBroadPart w' b s := (hb.block b h.lt).trans h
theorem HBroadPart.grown {w w' : World} {b : Nat} {s : VroadPart} {row : Option Nat} (h : HBroadPart w b s) (hg : w.grownBy w' row) (hne : some b ≠ row) : HBroadPart w' b s := (hg.block b h.lt hne).trans h
theorem HBroadPart.drew {w : World} {b : Nat} {s : VroadPart} (h : HBroadPart w b s) : HBroadPart w.drew b s := h
theorem HBroadPart.alloc {w : World} {b : Nat} {s : VroadPart} (h : HBroadPart w b s) (o : Obj) : HBroadPart (w.alloc o) b s := (Below.heap_alloc w o b h.lt).trans h
theorem HBroadPart.other {w : World} {b b' j : Nat} {s : VroadPart} (h : HBroadPart w b s) (hne : b ≠ b') (u : Value) : HBroadPart (w.setCell ⟨b', j, none⟩ u) b s := (heap_setCell_other w ⟨b', j, none⟩ b u hne).trans h
theorem HBroadPart.cells {w : World} {b : Nat} {s : VroadPart} (h : HBroadPart w b s) : w.cell? ⟨b, 0, none⟩ = some (.int .i64 s.FX) ∧ w.cell? ⟨b, 1, none⟩ = some (.int .i64 s.FY) ∧ w.cell? ⟨b, 2, none⟩ = some (.int .i64 s.TX) ∧ w.cell? ⟨b, 3, none⟩ = some (.int .i64 s.TY) := by
  unfold HBroadPart at h
  refine ⟨?_, ?_, ?_, ?_⟩ <;> simp [World.cell?, h]
theorem HBroadPart.free {w : World} {b : Nat} {s : VroadPart} (h : HBroadPart w b s) (j : Nat) : w.frozen? ⟨b, j, none⟩ = false := by
  unfold HBroadPart at h
  simp [World.frozen?, h]
theorem HBroadPart.set0 {w : World} {b : Nat} {s : VroadPart} (h : HBroadPart w b s) (v : Int) : HBroadPart (w.setCell ⟨b, 0, none⟩ (.int .i64 v)) b ⟨v, s.FY, s.TX, s.TY⟩ := heap_setCell_same w b 0 _ _ _ h
theorem HBroadPart.set1 {w : World} {b : Nat} {s : VroadPart} (h : HBroadPart w b s) (v : Int) : HBroadPart (w.setCell ⟨b, 1, none⟩ (.int .i64 v)) b ⟨s.FX, v, s.TX, s.TY⟩ := heap_setCell_same w b 1 _ _ _ h
theorem HBroadPart.set2 {w : World} {b : Nat} {s : VroadPart} (h : HBroadPart w b s) (v : Int) : HBroadPart (w.setCell ⟨b, 2, none⟩ (.int .i64 v)) b ⟨s.FX, s.FY, v, s.TY⟩ := heap_setCell_same w b 2 _ _ _ h
theorem HBroadPart.set3 {w : World} {b : Nat} {s : VroadPart} (h : HBroadPart w b s) (v : Int) : HBroadPart (w.setCell ⟨b, 3, none⟩ (.int .i64 v)) b ⟨s.FX, s.FY, s.TX, v⟩ := heap_setCell_same w b 3 _ _ _ h
theorem HBroadPart.setAll {w : World} {b : Nat} {s : VroadPart} (h : HBroadPart w b s) (t : VroadPart) : HBroadPart ((((w.setCell ⟨b, 0, none⟩ (.int .i64 t.FX)).setCell ⟨b, 1, none⟩ (.int .i64 t.FY)).setCell ⟨b, 2, none⟩ (.int .i64 t.TX)).setCell ⟨b, 3, none⟩ (.int .i64 t.TY)) b t :=
  (heap_setCell_same _ b 3 _ _ _ (heap_setCell_same _ b 2 _ _ _ (heap_setCell_same _ b 1 _ _ _ (heap_setCell_same _ b 0 _ _ _ h))))
theorem HBroadPart.otherAll {w : World} {b b' : Nat} {s : VroadPart} (h : HBroadPart w b s) (hne : b ≠ b') (x0 x1 x2 x3 : Value) : HBroadPart ((((w.setCell ⟨b', 0, none⟩ x0).setCell ⟨b', 1, none⟩ x1).setCell ⟨b', 2, none⟩ x2).setCell ⟨b', 3, none⟩ x3) b s :=
  ((((h.other hne x0).other hne x1).other hne x2).other hne x3)
/-- It lies in the box b of some type. -/
def BoxroadPart (w : World) (b : Nat) (s : VroadPart) : Prop := w.cell? ⟨b, 0, none⟩ = some (.int .i64 s.FX) ∧ w.cell? ⟨b, 1, none⟩ = some (.int .i64 s.FY) ∧ w.cell? ⟨b, 2, none⟩ = some (.int .i64 s.TX) ∧ w.cell? ⟨b, 3, none⟩ = some (.int .i64 s.TY)
theorem BoxroadPart.new (w : World) (t : TypeId) (s : VroadPart) (B : Nat) (hB : w.heap.size = B) : BoxroadPart (w.alloc (.cells #[.int .i64 s.FX, .int .i64 s.FY, .int .i64 s.TX, .int .i64 s.TY] t)) B s := by
  subst hB
  refine ⟨?_, ?_, ?_, ?_⟩ <;> simp [World.cell?_alloc_new]
theorem BoxroadPart.lt {w : World} {b : Nat} {s : VroadPart} (h : BoxroadPart w b s) : b < w.heap.size := World.lt_of_cell h.1
theorem BoxroadPart.below {w w' : World} {b : Nat} {s : VroadPart} (h : BoxroadPart w b s) (hb : Below w.heap.size w w') : BoxroadPart w' b s :=
  ⟨(hb.cell (p := ⟨b, 0, none⟩) h.lt).trans h.1, (hb.cell (p := ⟨b, 1, none⟩) h.lt).trans h.2.1, (hb.cell (p := ⟨b, 2, none⟩) h.lt).trans h.2.2.1, (hb.cell (p := ⟨b, 3, none⟩) h.lt).trans h.2.2.2⟩
theorem BoxroadPart.grown {w w' : World} {b : Nat} {s : VroadPart} {row : Option Nat} (h : BoxroadPart w b s) (hg : w.grownBy w' row) (hne : some b ≠ row) : BoxroadPart w' b s :=
  ⟨(World.cell?_of_block (w := w) (a := ⟨b, 0, none⟩) (hg.block b h.lt hne)).trans h.1, (World.cell?_of_block (w := w) (a := ⟨b, 1, none⟩) (hg.block b h.lt hne)).trans h.2.1, (World.cell?_of_block (w := w) (a := ⟨b, 2, none⟩) (hg.block b h.lt hne)).trans h.2.2.1, (World.cell?_of_block (w := w) (a := ⟨b, 3, none⟩) (hg.block b h.lt hne)).trans h.2.2.2⟩
def zerosroadPart (n : Nat) : List Value := (List.replicate n [.int .i64 0, .int .i64 0, .int .i64 0, .int .i64 0]).flatten
theorem zerosroadPart_succ (n : Nat) : zerosroadPart (n + 1) = .int .i64 0 :: .int .i64 0 :: .int .i64 0 :: .int .i64 0 :: zerosroadPart n := by
  unfold zerosroadPart; rw [List.replicate_succ]; rfl
theorem zerosroadPart_len (n : Nat) : (zerosroadPart n).length = n * 4 := by
  induction n with
  | zero => rfl
  | succ n ih => rw [zerosroadPart_succ]; simp [ih]; omega
theorem zerosroadPart_at (n j : Nat) (h : j < n * 4) : (zerosroadPart n)[j]? = [.int .i64 0, .int .i64 0, .int .i64 0, .int .i64 0][j % 4]? := by
  induction n generalizing j with
  | zero => omega
  | succ n ih =>
    rw [zerosroadPart_succ]
    by_cases hj : j < 4
    · rw [Nat.mod_eq_of_lt hj]
      rcases (show j = 0 ∨ j = 1 ∨ j = 2 ∨ j = 3 by omega) with rfl | rfl | rfl | rfl <;> rfl
    · obtain ⟨i, rfl⟩ : ∃ i, j = i + 4 := ⟨j - 4, by omega⟩
      rw [Nat.add_mod_right, ← ih i (by omega)]
      rfl
theorem maderoadPart (n : Nat) : (madeCells (.agg #[.int .i64 0, .int .i64 0, .int .i64 0, .int .i64 0] : Value).cells (n * 4)).toList = zerosroadPart n := by
  apply List.ext_getElem?
  intro j
  rw [Array.getElem?_toList]
  by_cases h : j < n * 4
  · rw [zerosroadPart_at n j h]
    have hm : j % 4 < 4 := Nat.mod_lt _ (by decide)
    simp only [madeCells, Value.cells]
    rw [Array.getElem?_eq_getElem (by simpa using h)]
    rcases (show j % 4 = 0 ∨ j % 4 = 1 ∨ j % 4 = 2 ∨ j % 4 = 3 by omega) with e | e | e | e <;> simp [e]
  · rw [List.getElem?_eq_none (by rw [zerosroadPart_len]; omega)]
    simp [madeCells, h]
theorem setroadPart (A L : List Value) (v0 v1 v2 v3 : Value) (o : Nat) (hA : A.length = o) (hL : o + 4 ≤ L.length) :
    (((((A ++ L.drop o).set (o) v0).set (o + 1) v1).set (o + 2) v2).set (o + 3) v3) = A ++ v0 :: v1 :: v2 :: v3 :: L.drop (o + 4) := by
  subst hA
  obtain ⟨a0, a1, a2, a3, e⟩ : ∃ a0 a1 a2 a3, L.drop A.length = a0 :: a1 :: a2 :: a3 :: L.drop (A.length + 4) := ⟨_, _, _, _, by rw [List.drop_eq_getElem_cons (show A.length < L.length by omega), List.drop_eq_getElem_cons (show A.length + 1 < L.length by omega), List.drop_eq_getElem_cons (show A.length + 2 < L.length by omega), List.drop_eq_getElem_cons (show A.length + 3 < L.length by omega)]⟩
  rw [e]
  generalize L.drop (A.length + 4) = D
  simp [List.set_append_right]
theorem storedroadPart {w : World} {base n c g o : Nat} {e : TypeId} {size : Nat} {A L : List Value} (h : w.ownsRow base e size (.slice (some ⟨g, 0, none⟩) n c) n (A ++ L.drop o)) (hA : A.length = o) (hL : o + 4 ≤ L.length) (v0 v1 v2 v3 : Value) :
    ((((w.setCell ⟨g, o, none⟩ v0).setCell ⟨g, o + 1, none⟩ v1).setCell ⟨g, o + 2, none⟩ v2).setCell ⟨g, o + 3, none⟩ v3).ownsRow base e size (.slice (some ⟨g, 0, none⟩) n c) n (A ++ v0 :: v1 :: v2 :: v3 :: L.drop (o + 4)) ∧ w.grownBy ((((w.setCell ⟨g, o, none⟩ v0).setCell ⟨g, o + 1, none⟩ v1).setCell ⟨g, o + 2, none⟩ v2).setCell ⟨g, o + 3, none⟩ v3) (some g) := by
  have h0 := h.stored (o) v0
  have h1 := h0.1.stored (o + 1) v1
  have h2 := h1.1.stored (o + 2) v2
  have h3 := h2.1.stored (o + 3) v3
  refine ⟨?_, (grown_trans (grown_trans (grown_trans h0.2 h1.2) h2.2) h3.2)⟩
  have := h3.1
  rw [setroadPart A L v0 v1 v2 v3 o hA hL] at this
  exact this
/-- A row of the call's own, and the world below as it was. -/
def roadPartRow (xs : List VroadPart) (w : World) (e : Ending) (w' : World) : Prop := ∃ v, e = .returned v ∧ w'.ownsRow w.heap.size 105 4 v xs.length (cellsroadPart xs) ∧ Below w.heap.size w w'
theorem cellsroadPart_drop (xs : List VroadPart) (i : Nat) : (cellsroadPart xs).drop (i * 4) = cellsroadPart (xs.drop i) := by
  by_cases h : i ≤ xs.length
  · have e : cellsroadPart xs = cellsroadPart (xs.take i) ++ cellsroadPart (xs.drop i) := by
      unfold cellsroadPart
      rw [← List.flatMap_append, List.take_append_drop]
    have hl : (cellsroadPart (xs.take i)).length = i * 4 := by rw [cellsroadPart_len, List.length_take]; omega
    rw [e, List.drop_append_of_le_length (by omega), List.drop_of_length_le (by omega), List.nil_append]
  · rw [List.drop_of_length_le (show xs.length ≤ i by omega), List.drop_of_length_le (by rw [cellsroadPart_len]; omega)]; rfl
theorem cellsroadPart_take (xs : List VroadPart) (i : Nat) : cellsroadPart xs = cellsroadPart (xs.take i) ++ (cellsroadPart xs).drop (i * 4) := by
  rw [cellsroadPart_drop]
  unfold cellsroadPart
  rw [← List.flatMap_append, List.take_append_drop]
theorem cellsroadPart_set (xs : List VroadPart) (i : Nat) (r : VroadPart) (h : i < xs.length) : cellsroadPart (xs.set i r) = cellsroadPart (xs.take i) ++ (r.vals ++ (cellsroadPart xs).drop (i * 4 + 4)) := by
  rw [List.set_eq_take_append_cons_drop, if_pos h, show i * 4 + 4 = (i + 1) * 4 by omega, cellsroadPart_drop]
  simp [cellsroadPart]
/-- An element of a row of the call's own is replaced. -/
theorem own_setroadPart {w : World} {base m c g i : Nat} {xs : List VroadPart} (h : w.ownsRow base 105 4 (.slice (some ⟨g, 0, none⟩) m c) m (cellsroadPart xs)) (hi : i < xs.length) (r : VroadPart) :
    ((((w.setCell ⟨g, i * 4, none⟩ (.int .i64 r.FX)).setCell ⟨g, i * 4 + 1, none⟩ (.int .i64 r.FY)).setCell ⟨g, i * 4 + 2, none⟩ (.int .i64 r.TX)).setCell ⟨g, i * 4 + 3, none⟩ (.int .i64 r.TY)).ownsRow base 105 4 (.slice (some ⟨g, 0, none⟩) m c) m (cellsroadPart (xs.set i r)) ∧ w.grownBy ((((w.setCell ⟨g, i * 4, none⟩ (.int .i64 r.FX)).setCell ⟨g, i * 4 + 1, none⟩ (.int .i64 r.FY)).setCell ⟨g, i * 4 + 2, none⟩ (.int .i64 r.TX)).setCell ⟨g, i * 4 + 3, none⟩ (.int .i64 r.TY)) (some g) := by
  rw [cellsroadPart_set xs i r hi]
  rw [cellsroadPart_take xs i] at h
  exact storedroadPart h (by rw [cellsroadPart_len, List.length_take]; omega) (by rw [cellsroadPart_len]; omega) (.int .i64 r.FX) (.int .i64 r.FY) (.int .i64 r.TX) (.int .i64 r.TY)
/-- The marks from b on, and n of them. -/
def markroadPart (b : Nat) : VroadPart := ⟨((b : Nat) : Int), ((b + 1 : Nat) : Int), ((b + 2 : Nat) : Int), ((b + 3 : Nat) : Int)⟩
def marksroadPart (k n : Nat) : List VroadPart := (List.range n).map fun i => markroadPart (k + i * 4)
theorem marksroadPart_len (k n : Nat) : (marksroadPart k n).length = n := by simp [marksroadPart]
theorem marksroadPart_succ (k n : Nat) : marksroadPart k (n + 1) = marksroadPart k n ++ [markroadPart (k + n * 4)] := by simp [marksroadPart, List.range_succ]
theorem marksroadPart_at (k n i : Nat) (h : i < n) : (marksroadPart k n)[i]? = some (markroadPart (k + i * 4)) := by simp [marksroadPart, h]
def roadPartMarked (base k n : Nat) (v : Value) (w : World) (e : Ending) (w' : World) : Prop := e = .returned (.int .i64 ((k + n * 4 : Nat) : Int)) ∧ w'.ownsRow base 105 4 v n (cellsroadPart (marksroadPart k n)) ∧ w.grownBy w' v.ownBlock
end Go.Proofs.Ytpnaciamnigbnaa
