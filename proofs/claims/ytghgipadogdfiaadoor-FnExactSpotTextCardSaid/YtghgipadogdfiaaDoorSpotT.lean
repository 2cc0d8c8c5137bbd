/- The struct Spot: its fields; one read from an argument; slices of it; and the laws' own helpers over it. (made by gen.py) -/
import Derived.Test.YtghgipadogdfiaaDoorOpen2
import Derived.Test.YtghgipadogdfiaaDoorBox0
import Derived.Test.YtghgipadogdfiaaDoorAppL
import Derived.Test.YtghgipadogdfiaaDoorReg
import Derived.Deep.RegionWith
import Derived.Laws.OwnMore
import Derived.Handy
import Derived.Laws.IdiomRangeMap
namespace Go.Proofs.YtghgipadogdfiaaDoor
open Go.RowKit Go.ChangeShapes Go.WideShapes Go.Deep

structure VSpot where
  X : Int
  Y : Int
  Den : Int
def VSpot.vals (s : VSpot) : List Value := [.int .i64 s.X, .int .i64 s.Y, .int .i64 s.Den]
theorem VSpot.vals_len (s : VSpot) : s.vals.length = 3 := rfl
theorem VSpot.vals_one (s : VSpot) : ∀ u ∈ s.vals, u.oneCell' = true := by
  intro u hu
  simp [VSpot.vals] at hu
  rcases hu with rfl | rfl | rfl <;> rfl
/-- It lies at block b from offset o on. -/
def SpotAt (w : World) (b o : Nat) (s : VSpot) : Prop :=
  w.cell? ⟨b, o, none⟩ = some (.int .i64 s.X) ∧ w.cell? ⟨b, o + 1, none⟩ = some (.int .i64 s.Y) ∧ w.cell? ⟨b, o + 2, none⟩ = some (.int .i64 s.Den)
def IsSpotS (w : World) (a : Option Addr) (len cap : Nat) (xs : List VSpot) : Prop :=
  len = xs.length ∧ len ≤ cap ∧ cap ≤ maxLen ∧ (len = 0 ∨ ∃ b o, a = some ⟨b, o, none⟩ ∧ b < w.heap.size ∧ ∀ (k : Nat) s, xs[k]? = some s → SpotAt w b (o + k * 3) s)
theorem SpotAt.below {w w' : World} {b o : Nat} {s : VSpot} (h : SpotAt w b o s) (hb : Below w.heap.size w w') (hlt : b < w.heap.size) : SpotAt w' b o s :=
  ⟨(hb.cell (p := ⟨b, o, none⟩) hlt).trans h.1, (hb.cell (p := ⟨b, o + 1, none⟩) hlt).trans h.2.1, (hb.cell (p := ⟨b, o + 2, none⟩) hlt).trans h.2.2⟩
theorem SpotAt.block {w w' : World} {b o : Nat} {s : VSpot} (h : SpotAt w b o s) (hb : w'.heap[b]? = w.heap[b]?) : SpotAt w' b o s :=
  ⟨(World.cell?_of_block (w := w) (a := ⟨b, o, none⟩) hb).trans h.1, (World.cell?_of_block (w := w) (a := ⟨b, o + 1, none⟩) hb).trans h.2.1, (World.cell?_of_block (w := w) (a := ⟨b, o + 2, none⟩) hb).trans h.2.2⟩
theorem IsSpotS.below {w w' : World} {a : Option Addr} {len cap : Nat} {xs : List VSpot} (h : IsSpotS w a len cap xs) (hb : Below w.heap.size w w') : IsSpotS w' a len cap xs := by
  refine ⟨h.1, h.2.1, h.2.2.1, ?_⟩
  rcases h.2.2.2 with h0 | ⟨b, o, rfl, h1, h2⟩
  · exact .inl h0
  · exact .inr ⟨b, o, rfl, Nat.lt_of_lt_of_le h1 hb.size, fun k s hs => (h2 k s hs).below hb h1⟩
theorem IsSpotS.grown {w w' : World} {a : Option Addr} {len cap : Nat} {xs : List VSpot} {row : Option Nat} (h : IsSpotS w a len cap xs) (hg : w.grownBy w' row) (hne : ∀ b o, a = some ⟨b, o, none⟩ → some b ≠ row) : IsSpotS w' a len cap xs := by
  refine ⟨h.1, h.2.1, h.2.2.1, ?_⟩
  rcases h.2.2.2 with h0 | ⟨b, o, rfl, h1, h2⟩
  · exact .inl h0
  · exact .inr ⟨b, o, rfl, Nat.lt_of_lt_of_le h1 hg.size, fun k s hs => (h2 k s hs).block (hg.block b h1 (hne b o rfl))⟩
theorem IsSpotS.at {w : World} {a : Option Addr} {len cap : Nat} {xs : List VSpot} (h : IsSpotS w a len cap xs) (hpos : 0 < len) : ∃ b o, a = some ⟨b, o, none⟩ ∧ b < w.heap.size ∧ ∀ (k : Nat) s, xs[k]? = some s → SpotAt w b (o + k * 3) s := by
  rcases h.2.2.2 with h0 | h1
  · omega
  · exact h1
theorem nil_IsSpotS (w : World) : IsSpotS w none 0 0 [] := ⟨rfl, Nat.le_refl _, by simp [maxLen], .inl rfl⟩
set_option maxRecDepth 100000 in
theorem open_Spot {H : Type} {enc : TypeId × Value → H} {w : World} {base : Nat} {spare : Nat → Bool} {held : Bool} {r : Reach} {b0 : Nat} {v : Value} {d : DataW H} {p : List MemPlace}
    (hv : Value.okWide Tryd.prog w r b0 23 v) (h : DataW.Trod enc Tryd.prog w base spare held 23 v d p) : ∃ s : VSpot, v = .agg #[.int .i64 s.X, .int .i64 s.Y, .int .i64 s.Den] := by
  obtain ⟨cs, rfl, hl, hc⟩ := open_one_struct (P := Tryd.prog) Tryd.underlying23 (by kernel_rfl) (by kernel_rfl) hv h
  obtain ⟨c0, h0, k0⟩ := hc 0 _ rfl
  obtain ⟨z0, rfl⟩ := k0.1 Tryd.underlying3
  obtain ⟨c1, h1, k1⟩ := hc 1 _ rfl
  obtain ⟨z1, rfl⟩ := k1.1 Tryd.underlying3
  obtain ⟨c2, h2, k2⟩ := hc 2 _ rfl
  obtain ⟨z2, rfl⟩ := k2.1 Tryd.underlying3
  have e : cs = [.int .i64 z0, .int .i64 z1, .int .i64 z2] := by
    apply List.ext_getElem?
    intro j
    by_cases hj : j < 3
    · rcases (show j = 0 ∨ j = 1 ∨ j = 2 by omega) with rfl | rfl | rfl
      all_goals first | exact h0 | exact h1 | exact h2
    · rw [List.getElem?_eq_none (by simp at hl; omega), List.getElem?_eq_none (by simp; omega)]
  subst e
  exact ⟨⟨z0, z1, z2⟩, rfl⟩
theorem infoSpot : (Tryd.prog.info? 26).map (fun i => (i.zero, i.size, i.bytes)) = some (some (.agg #[.int .i64 0, .int .i64 0, .int .i64 0]), 3, 24) := by kernel_rfl
def cellsSpot (xs : List VSpot) : List Value := xs.flatMap VSpot.vals
theorem cellsSpot_len (xs : List VSpot) : (cellsSpot xs).length = xs.length * 3 := by
  induction xs with
  | nil => rfl
  | cons x xs ih => simp [cellsSpot, VSpot.vals_len] at *; omega
theorem cellsSpot_append (xs ys : List VSpot) : cellsSpot (xs ++ ys) = cellsSpot xs ++ cellsSpot ys := by simp [cellsSpot]
theorem cellsSpot_snoc (xs : List VSpot) (s : VSpot) : cellsSpot (xs ++ [s]) = cellsSpot xs ++ s.vals := by simp [cellsSpot]
theorem cellsSpot_at {xs : List VSpot} {k : Nat} {s : VSpot} (h : xs[k]? = some s) (j : Nat) (hj : j < 3) : (cellsSpot xs)[k * 3 + j]? = s.vals[j]? := by
  have hk : k < xs.length := (List.getElem?_eq_some_iff.1 h).1
  have e : xs = xs.take k ++ s :: xs.drop (k + 1) := by
    have h2 := List.take_append_drop k xs
    rw [List.drop_eq_getElem_cons hk] at h2
    have : xs[k] = s := by rw [List.getElem?_eq_getElem hk] at h; simpa using h
    rw [this] at h2; exact h2.symm
  have hl : (cellsSpot (xs.take k)).length = k * 3 := by rw [cellsSpot_len, List.length_take]; omega
  rw [e, show cellsSpot (xs.take k ++ s :: xs.drop (k + 1)) = cellsSpot (xs.take k) ++ (s.vals ++ cellsSpot (xs.drop (k + 1))) from by simp [cellsSpot], List.getElem?_append_right (by omega), hl, show k * 3 + j - k * 3 = j from by omega, List.getElem?_append_left (by rw [VSpot.vals_len]; exact hj)]
theorem isSpotS_own {w : World} {base : Nat} {v : Value} {xs : List VSpot} (h : w.ownsRow base 26 3 v xs.length (cellsSpot xs)) :
    ∃ a cap, v = .slice a xs.length cap ∧ IsSpotS w a xs.length cap xs ∧ ∀ b o, a = some ⟨b, o, none⟩ → v.ownBlock = some b := by
  have hlt := h.lt
  rcases h.2 with ⟨rfl, h0⟩ | ⟨g, cap, cur, rfl, hg, hh, hn, hcap, hsz, htake⟩
  · exact ⟨none, 0, by rw [h0], ⟨by rw [h0], by omega, by simp [maxLen], .inl h0⟩, fun _ _ h => by cases h⟩
  · refine ⟨some ⟨g, 0, none⟩, cap, rfl, ⟨rfl, hn, hcap, ?_⟩, fun b o h => by cases h; rfl⟩
    by_cases hz : xs.length = 0
    · exact .inl hz
    · refine .inr ⟨g, 0, rfl, (hlt g rfl).2, fun k s hs => ?_⟩
      have each : ∀ j u, j < 3 → s.vals[j]? = some u → w.cell? ⟨g, 0 + k * 3 + j, none⟩ = some u := fun j u hj hu => by
        have hc := h.cells (g := g) rfl (k * 3 + j) u ((cellsSpot_at hs j hj).trans hu)
        rw [add_plain, ← Nat.add_assoc] at hc; exact hc
      exact ⟨each 0 _ (by decide) rfl, each 1 _ (by decide) rfl, each 2 _ (by decide) rfl⟩
theorem nil_ownSpot (w : World) (base : Nat) : w.ownsRow base 26 3 (.slice none 0 0) ([] : List VSpot).length (cellsSpot []) := ⟨by simp [cellsSpot], .inl ⟨rfl, rfl⟩⟩
theorem cell_Spot (w : World) (s : VSpot) (t : TypeId) : ∀ j u, s.vals[j]? = some u → (w.alloc (.cells #[.int .i64 s.X, .int .i64 s.Y, .int .i64 s.Den] t)).cell? ((⟨w.heap.size, 0, none⟩ : Addr).add j) = some u := by
  intro j u hj
  rw [add_plain, Nat.zero_add, World.cell?_alloc_new]
  simpa [VSpot.vals] using hj
theorem cell_Spot2 (w : World) (o : Obj) (s : VSpot) (t : TypeId) : ∀ j u, s.vals[j]? = some u → ((w.alloc o).alloc (.cells #[.int .i64 s.X, .int .i64 s.Y, .int .i64 s.Den] t)).cell? ((⟨w.heap.size + 1, 0, none⟩ : Addr).add j) = some u := by
  have h := cell_Spot (w.alloc o) s t
  rw [show (w.alloc o).heap.size = w.heap.size + 1 from by show (w.heap.push o).size = _; simp] at h
  exact h
/-- What is left of a row of the call's own when it is cut behind some elements. -/
theorem take_ownSpot {w : World} {base : Nat} {a : Option Addr} {cap k : Nat} {xs : List VSpot} (h : w.ownsRow base 26 3 (.slice a xs.length cap) xs.length (cellsSpot xs)) (hk : k ≤ xs.length) :
    w.ownsRow base 26 3 (.slice a k cap) k (cellsSpot (xs.take k)) := by
  have hl : (cellsSpot (xs.take k)).length = k * 3 := by rw [cellsSpot_len, List.length_take]; omega
  refine ⟨hl, ?_⟩
  rcases h.2 with ⟨h0, h1⟩ | ⟨g, cap', cur, e, hg, hh, hn, hcap, hsz, htake⟩
  · simp only [Value.slice.injEq] at h0
    obtain ⟨rfl, h2, rfl⟩ := h0
    exact .inl ⟨by rw [show k = 0 by omega], by omega⟩
  · cases e
    refine .inr ⟨g, cap, cur, rfl, hg, hh, by omega, hcap, hsz, ?_⟩
    have e2 : cellsSpot xs = cellsSpot (xs.take k) ++ cellsSpot (xs.drop k) := by
      unfold cellsSpot
      rw [← List.flatMap_append, List.take_append_drop]
    have h3 := congrArg (List.take (k * 3)) htake
    rw [List.take_take, Nat.min_eq_left (by have := Nat.mul_le_mul_right 3 hk; omega), e2, List.take_append_of_le_length (by omega), List.take_of_length_le (show (cellsSpot (xs.take k)).length ≤ k * 3 by omega)] at h3
    exact h3
/-- A slice of them, as what is appended. -/
theorem srcSpot {w : World} {a : Option Addr} {len cap : Nat} {xs : List VSpot} (h : IsSpotS w a len cap xs) : SrcAt w a len 3 (cellsSpot xs) := by
  refine ⟨by rw [cellsSpot_len, h.1], ?_⟩
  rcases h.2.2.2 with h0 | ⟨b, o, rfl, hb, hat⟩
  · exact .inl h0
  · refine .inr ⟨_, rfl, fun j u hj => ?_⟩
    rw [add_plain]
    have hl := (List.getElem?_eq_some_iff.1 hj).1
    rw [cellsSpot_len] at hl
    obtain ⟨k, r, rfl, hr⟩ : ∃ k r, j = k * 3 + r ∧ r < 3 := ⟨j / 3, j % 3, by omega, Nat.mod_lt _ (by decide)⟩
    have hk : k < xs.length := by omega
    have hs : xs[k]? = some xs[k] := List.getElem?_eq_getElem hk
    have hu := cellsSpot_at hs r hr
    rw [hj] at hu
    have ha := hat k _ hs
    rw [← Nat.add_assoc]
    rcases (show r = 0 ∨ r = 1 ∨ r = 2 by omega) with rfl | rfl | rfl
    · rw [hu]; exact ha.1
    · rw [hu]; exact ha.2.1
    · rw [hu]; exact ha.2.2
/-- Block b holds it, all of it, and may be written. -/
def HBSpot (w : World) (b : Nat) (s : VSpot) : Prop := w.heap[b]? = some (.cells #[.int .i64 s.X, .int .i64 s.Y, .int .i64 s.Den] 26 (0, 0))
theorem HBSpot.lt {w : World} {b : Nat} {s : VSpot} (h : HBSpot w b s) : b < w.heap.size := (Array.getElem?_eq_some_iff.1 h).1
theorem HBSpot.new (w : World) (s : VSpot) (B : Nat) (hB : w.heap.size = B) : HBSpot (w.alloc (.cells #[.int .i64 s.X, .int .i64 s.Y, .int .i64 s.Den] 26)) B s := hB ▸ heap_alloc_new w _
theorem HBSpot.below {w w' : World} {b : Nat} {s : VSpot} (h : HBSpot w b s) (hb : Below w.heap.size w w') : HBSpot w' b s := (hb.block b h.lt).trans h
theorem HBSpot.grown {w w' : World} {b : Nat} {s : VSpot} {row : Option Nat} (h : HBSpot w b s) (hg : w.grownBy w' row) (hne : some b ≠ row) : HBSpot w' b s := (hg.block b h.lt hne).trans h
theorem HBSpot.drew {w : World} {b : Nat} {s : VSpot} (h : HBSpot w b s) : HBSpot w.drew b s := h
theorem HBSpot.alloc {w : World} {b : Nat} {s : VSpot} (h : HBSpot w b s) (o : Obj) : HBSpot (w.alloc o) b s := (Below.heap_alloc w o b h.lt).trans h
theorem HBSpot.other {w : World} {b b' j : Nat} {s : VSpot} (h : HBSpot w b s) (hne : b ≠ b') (u : Value) : HBSpot (w.setCell ⟨b', j, none⟩ u) b s := (heap_setCell_other w ⟨b', j, none⟩ b u hne).trans h
theorem HBSpot.cells {w : World} {b : Nat} {s : VSpot} (h : HBSpot w b s) : w.cell? ⟨b, 0, none⟩ = some (.int .i64 s.X) ∧ w.cell? ⟨b, 1, none⟩ = some (.int .i64 s.Y) ∧ w.cell? ⟨b, 2, none⟩ = some (.int .i64 s.Den) := by
  unfold HBSpot at h
  refine ⟨?_, ?_, ?_⟩ <;> simp [World.cell?, h]
theorem HBSpot.free {w : World} {b : Nat} {s : VSpot} (h : HBSpot w b s) (j : Nat) : w.frozen? ⟨b, j, none⟩ = false := by
  unfold HBSpot at h
  simp [World.frozen?, h]
theorem HBSpot.set0 {w : World} {b : Nat} {s : VSpot} (h : HBSpot w b s) (v : Int) : HBSpot (w.setCell ⟨b, 0, none⟩ (.int .i64 v)) b ⟨v, s.Y, s.Den⟩ := heap_setCell_same w b 0 _ _ _ h
theorem HBSpot.set1 {w : World} {b : Nat} {s : VSpot} (h : HBSpot w b s) (v : Int) : HBSpot (w.setCell ⟨b, 1, none⟩ (.int .i64 v)) b ⟨s.X, v, s.Den⟩ := heap_setCell_same w b 1 _ _ _ h
theorem HBSpot.set2 {w : World} {b : Nat} {s : VSpot} (h : HBSpot w b s) (v : Int) : HBSpot (w.setCell ⟨b, 2, none⟩ (.int .i64 v)) b ⟨s.X, s.Y, v⟩ := heap_setCell_same w b 2 _ _ _ h
theorem HBSpot.setAll {w : World} {b : Nat} {s : VSpot} (h : HBSpot w b s) (t : VSpot) : HBSpot (((w.setCell ⟨b, 0, none⟩ (.int .i64 t.X)).setCell ⟨b, 1, none⟩ (.int .i64 t.Y)).setCell ⟨b, 2, none⟩ (.int .i64 t.Den)) b t :=
  (heap_setCell_same _ b 2 _ _ _ (heap_setCell_same _ b 1 _ _ _ (heap_setCell_same _ b 0 _ _ _ h)))
theorem HBSpot.otherAll {w : World} {b b' : Nat} {s : VSpot} (h : HBSpot w b s) (hne : b ≠ b') (x0 x1 x2 : Value) : HBSpot (((w.setCell ⟨b', 0, none⟩ x0).setCell ⟨b', 1, none⟩ x1).setCell ⟨b', 2, none⟩ x2) b s :=
  (((h.other hne x0).other hne x1).other hne x2)
/-- It lies in the box b of some type. -/
def BoxSpot (w : World) (b : Nat) (s : VSpot) : Prop := w.cell? ⟨b, 0, none⟩ = some (.int .i64 s.X) ∧ w.cell? ⟨b, 1, none⟩ = some (.int .i64 s.Y) ∧ w.cell? ⟨b, 2, none⟩ = some (.int .i64 s.Den)
theorem BoxSpot.new (w : World) (t : TypeId) (s : VSpot) (B : Nat) (hB : w.heap.size = B) : BoxSpot (w.alloc (.cells #[.int .i64 s.X, .int .i64 s.Y, .int .i64 s.Den] t)) B s := by
  subst hB
  refine ⟨?_, ?_, ?_⟩ <;> simp [World.cell?_alloc_new]
theorem BoxSpot.lt {w : World} {b : Nat} {s : VSpot} (h : BoxSpot w b s) : b < w.heap.size := World.lt_of_cell h.1
theorem BoxSpot.below {w w' : World} {b : Nat} {s : VSpot} (h : BoxSpot w b s) (hb : Below w.heap.size w w') : BoxSpot w' b s :=
  ⟨(hb.cell (p := ⟨b, 0, none⟩) h.lt).trans h.1, (hb.cell (p := ⟨b, 1, none⟩) h.lt).trans h.2.1, (hb.cell (p := ⟨b, 2, none⟩) h.lt).trans h.2.2⟩
theorem BoxSpot.grown {w w' : World} {b : Nat} {s : VSpot} {row : Option Nat} (h : BoxSpot w b s) (hg : w.grownBy w' row) (hne : some b ≠ row) : BoxSpot w' b s :=
  ⟨(World.cell?_of_block (w := w) (a := ⟨b, 0, none⟩) (hg.block b h.lt hne)).trans h.1, (World.cell?_of_block (w := w) (a := ⟨b, 1, none⟩) (hg.block b h.lt hne)).trans h.2.1, (World.cell?_of_block (w := w) (a := ⟨b, 2, none⟩) (hg.block b h.lt hne)).trans h.2.2⟩
set_option maxHeartbeats 3200000 in
theorem toSpot_any (s : VSpot) (w : World) :
    Calls Tryd.prog 5 #[.agg #[.int .i64 s.X, .int .i64 s.Y, .int .i64 s.Den]] w fun e w' => e = .returned (.agg #[.int .i64 s.X, .int .i64 s.Y, .int .i64 s.Den]) ∧ Below w.heap.size w w' := by
  go_enter Tryd.func5, Tryd.ntmps5
  go_wp2
  refine bodyPost_ret (v := .agg #[.int .i64 s.X, .int .i64 s.Y, .int .i64 s.Den]) (by simp [results, Tryd.results5, go_sem]) rfl ⟨rfl, ?_⟩
  repeat (first | exact Below.refl _ _ | refine Below.setCell ?_ (by simp; try omega) _ | refine Below.alloc ?_ (by simp; try omega) _)
def zerosSpot (n : Nat) : List Value := (List.replicate n [.int .i64 0, .int .i64 0, .int .i64 0]).flatten
theorem zerosSpot_succ (n : Nat) : zerosSpot (n + 1) = .int .i64 0 :: .int .i64 0 :: .int .i64 0 :: zerosSpot n := by
  unfold zerosSpot; rw [List.replicate_succ]; rfl
theorem zerosSpot_len (n : Nat) : (zerosSpot n).length = n * 3 := by
  induction n with
  | zero => rfl
  | succ n ih => rw [zerosSpot_succ]; simp [ih]; omega
theorem zerosSpot_at (n j : Nat) (h : j < n * 3) : (zerosSpot n)[j]? = [.int .i64 0, .int .i64 0, .int .i64 0][j % 3]? := by
  induction n generalizing j with
  | zero => omega
  | succ n ih =>
    rw [zerosSpot_succ]
    by_cases hj : j < 3
    · rw [Nat.mod_eq_of_lt hj]
      rcases (show j = 0 ∨ j = 1 ∨ j = 2 by omega) with rfl | rfl | rfl <;> rfl
    · obtain ⟨i, rfl⟩ : ∃ i, j = i + 3 := ⟨j - 3, by omega⟩
      rw [Nat.add_mod_right, ← ih i (by omega)]
      rfl
theorem madeSpot (n : Nat) : (madeCells (.agg #[.int .i64 0, .int .i64 0, .int .i64 0] : Value).cells (n * 3)).toList = zerosSpot n := by
  apply List.ext_getElem?
  intro j
  rw [Array.getElem?_toList]
  by_cases h : j < n * 3
  · rw [zerosSpot_at n j h]
    have hm : j % 3 < 3 := Nat.mod_lt _ (by decide)
    simp only [madeCells, Value.cells]
    rw [Array.getElem?_eq_getElem (by simpa using h)]
    rcases (show j % 3 = 0 ∨ j % 3 = 1 ∨ j % 3 = 2 by omega) with e | e | e <;> simp [e]
  · rw [List.getElem?_eq_none (by rw [zerosSpot_len]; omega)]
    simp [madeCells, h]
theorem setSpot (A L : List Value) (v0 v1 v2 : Value) (o : Nat) (hA : A.length = o) (hL : o + 3 ≤ L.length) :
    ((((A ++ L.drop o).set (o) v0).set (o + 1) v1).set (o + 2) v2) = A ++ v0 :: v1 :: v2 :: L.drop (o + 3) := by
  subst hA
  obtain ⟨a0, a1, a2, e⟩ : ∃ a0 a1 a2, L.drop A.length = a0 :: a1 :: a2 :: L.drop (A.length + 3) := ⟨_, _, _, by rw [List.drop_eq_getElem_cons (show A.length < L.length by omega), List.drop_eq_getElem_cons (show A.length + 1 < L.length by omega), List.drop_eq_getElem_cons (show A.length + 2 < L.length by omega)]⟩
  rw [e]
  generalize L.drop (A.length + 3) = D
  simp [List.set_append_right]
theorem storedSpot {w : World} {base n c g o : Nat} {e : TypeId} {size : Nat} {A L : List Value} (h : w.ownsRow base e size (.slice (some ⟨g, 0, none⟩) n c) n (A ++ L.drop o)) (hA : A.length = o) (hL : o + 3 ≤ L.length) (v0 v1 v2 : Value) :
    (((w.setCell ⟨g, o, none⟩ v0).setCell ⟨g, o + 1, none⟩ v1).setCell ⟨g, o + 2, none⟩ v2).ownsRow base e size (.slice (some ⟨g, 0, none⟩) n c) n (A ++ v0 :: v1 :: v2 :: L.drop (o + 3)) ∧ w.grownBy (((w.setCell ⟨g, o, none⟩ v0).setCell ⟨g, o + 1, none⟩ v1).setCell ⟨g, o + 2, none⟩ v2) (some g) := by
  have h0 := h.stored (o) v0
  have h1 := h0.1.stored (o + 1) v1
  have h2 := h1.1.stored (o + 2) v2
  refine ⟨?_, (grown_trans (grown_trans h0.2 h1.2) h2.2)⟩
  have := h2.1
  rw [setSpot A L v0 v1 v2 o hA hL] at this
  exact this
/-- A row of the call's own, and the world below as it was. -/
def SpotRow (xs : List VSpot) (w : World) (e : Ending) (w' : World) : Prop := ∃ v, e = .returned v ∧ w'.ownsRow w.heap.size 26 3 v xs.length (cellsSpot xs) ∧ Below w.heap.size w w'
theorem cellsSpot_drop (xs : List VSpot) (i : Nat) : (cellsSpot xs).drop (i * 3) = cellsSpot (xs.drop i) := by
  by_cases h : i ≤ xs.length
  · have e : cellsSpot xs = cellsSpot (xs.take i) ++ cellsSpot (xs.drop i) := by
      unfold cellsSpot
      rw [← List.flatMap_append, List.take_append_drop]
    have hl : (cellsSpot (xs.take i)).length = i * 3 := by rw [cellsSpot_len, List.length_take]; omega
    rw [e, List.drop_append_of_le_length (by omega), List.drop_of_length_le (by omega), List.nil_append]
  · rw [List.drop_of_length_le (show xs.length ≤ i by omega), List.drop_of_length_le (by rw [cellsSpot_len]; omega)]; rfl
theorem cellsSpot_take (xs : List VSpot) (i : Nat) : cellsSpot xs = cellsSpot (xs.take i) ++ (cellsSpot xs).drop (i * 3) := by
  rw [cellsSpot_drop]
  unfold cellsSpot
  rw [← List.flatMap_append, List.take_append_drop]
theorem cellsSpot_set (xs : List VSpot) (i : Nat) (r : VSpot) (h : i < xs.length) : cellsSpot (xs.set i r) = cellsSpot (xs.take i) ++ (r.vals ++ (cellsSpot xs).drop (i * 3 + 3)) := by
  rw [List.set_eq_take_append_cons_drop, if_pos h, show i * 3 + 3 = (i + 1) * 3 by omega, cellsSpot_drop]
  simp [cellsSpot]
/-- An element of a row of the call's own is replaced. -/
theorem own_setSpot {w : World} {base m c g i : Nat} {xs : List VSpot} (h : w.ownsRow base 26 3 (.slice (some ⟨g, 0, none⟩) m c) m (cellsSpot xs)) (hi : i < xs.length) (r : VSpot) :
    (((w.setCell ⟨g, i * 3, none⟩ (.int .i64 r.X)).setCell ⟨g, i * 3 + 1, none⟩ (.int .i64 r.Y)).setCell ⟨g, i * 3 + 2, none⟩ (.int .i64 r.Den)).ownsRow base 26 3 (.slice (some ⟨g, 0, none⟩) m c) m (cellsSpot (xs.set i r)) ∧ w.grownBy (((w.setCell ⟨g, i * 3, none⟩ (.int .i64 r.X)).setCell ⟨g, i * 3 + 1, none⟩ (.int .i64 r.Y)).setCell ⟨g, i * 3 + 2, none⟩ (.int .i64 r.Den)) (some g) := by
  rw [cellsSpot_set xs i r hi]
  rw [cellsSpot_take xs i] at h
  exact storedSpot h (by rw [cellsSpot_len, List.length_take]; omega) (by rw [cellsSpot_len]; omega) (.int .i64 r.X) (.int .i64 r.Y) (.int .i64 r.Den)
/-- The marks from b on, and n of them. -/
def markSpot (b : Nat) : VSpot := ⟨((b : Nat) : Int), ((b + 1 : Nat) : Int), ((b + 2 : Nat) : Int)⟩
def marksSpot (k n : Nat) : List VSpot := (List.range n).map fun i => markSpot (k + i * 3)
theorem marksSpot_len (k n : Nat) : (marksSpot k n).length = n := by simp [marksSpot]
theorem marksSpot_succ (k n : Nat) : marksSpot k (n + 1) = marksSpot k n ++ [markSpot (k + n * 3)] := by simp [marksSpot, List.range_succ]
theorem marksSpot_at (k n i : Nat) (h : i < n) : (marksSpot k n)[i]? = some (markSpot (k + i * 3)) := by simp [marksSpot, h]
def SpotMarked (base k n : Nat) (v : Value) (w : World) (e : Ending) (w' : World) : Prop := e = .returned (.int .i64 ((k + n * 3 : Nat) : Int)) ∧ w'.ownsRow base 26 3 v n (cellsSpot (marksSpot k n)) ∧ w.grownBy w' v.ownBlock
end Go.Proofs.YtghgipadogdfiaaDoor
