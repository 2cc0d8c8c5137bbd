/- The struct Corner: its fields; one read from an argument; slices of it; and the laws' own helpers over it. (made by gen.py) -/
import Derived.Test.YtpnaciamnigbnaaOpen2
import Derived.Test.YtpnaciamnigbnaaBox0
import Derived.Test.YtpnaciamnigbnaaAppL
import Derived.Test.YtpnaciamnigbnaaReg
import Derived.Deep.RegionWith
import Derived.Laws.OwnMore
import Derived.Handy
import Derived.Laws.IdiomRangeMap
namespace Go.Proofs.Ytpnaciamnigbnaa
open Go.RowKit Go.ChangeShapes Go.WideShapes Go.Deep

structure VCorner where
  X : Int
  Y : Int
def VCorner.vals (s : VCorner) : List Value := [.int .i64 s.X, .int .i64 s.Y]
theorem VCorner.vals_len (s : VCorner) : s.vals.length = 2 := rfl
theorem VCorner.vals_one (s : VCorner) : ∀ u ∈ s.vals, u.oneCell' = true := by
  intro u hu
  simp [VCorner.vals] at hu
  rcases hu with rfl | rfl <;> rfl
/-- It lies at block b from offset o on. -/
def CornerAt (w : World) (b o : Nat) (s : VCorner) : Prop :=
  w.cell? ⟨b, o, none⟩ = some (.int .i64 s.X) ∧ w.cell? ⟨b, o + 1, none⟩ = some (.int .i64 s.Y)
def IsCornerS (w : World) (a : Option Addr) (len cap : Nat) (xs : List VCorner) : Prop :=
  len = xs.length ∧ len ≤ cap ∧ cap ≤ maxLen ∧ (len = 0 ∨ ∃ b o, a = some ⟨b, o, none⟩ ∧ b < w.heap.size ∧ ∀ (k : Nat) s, xs[k]? = some s → CornerAt w b (o + k * 2) s)
theorem CornerAt.below {w w' : World} {b o : Nat} {s : VCorner} (h : CornerAt w b o s) (hb : Below w.heap.size w w') (hlt : b < w.heap.size) : CornerAt w' b o s :=
  ⟨(hb.cell (p := ⟨b, o, none⟩) hlt).trans h.1, (hb.cell (p := ⟨b, o + 1, none⟩) hlt).trans h.2⟩
theorem CornerAt.block {w w' : World} {b o : Nat} {s : VCorner} (h : CornerAt w b o s) (hb : w'.heap[b]? = w.heap[b]?) : CornerAt w' b o s :=
  ⟨(World.cell?_of_block (w := w) (a := ⟨b, o, none⟩) hb).trans h.1, (World.cell?_of_block (w := w) (a := ⟨b, o + 1, none⟩) hb).trans h.2⟩
theorem IsCornerS.below {w w' : World} {a : Option Addr} {len cap : Nat} {xs : List VCorner} (h : IsCornerS w a len cap xs) (hb : Below w.heap.size w w') : IsCornerS w' a len cap xs := by
  refine ⟨h.1, h.2.1, h.2.2.1, ?_⟩
  rcases h.2.2.2 with h0 | ⟨b, o, rfl, h1, h2⟩
  · exact .inl h0
  · exact .inr ⟨b, o, rfl, Nat.lt_of_lt_of_le h1 hb.size, fun k s hs => (h2 k s hs).below hb h1⟩
theorem IsCornerS.grown {w w' : World} {a : Option Addr} {len cap : Nat} {xs : List VCorner} {row : Option Nat} (h : IsCornerS w a len cap xs) (hg : w.grownBy w' row) (hne : ∀ b o, a = some ⟨b, o, none⟩ → some b ≠ row) : IsCornerS w' a len cap xs := by
  refine ⟨h.1, h.2.1, h.2.2.1, ?_⟩
  rcases h.2.2.2 with h0 | ⟨b, o, rfl, h1, h2⟩
  · exact .inl h0
  · exact .inr ⟨b, o, rfl, Nat.lt_of_lt_of_le h1 hg.size, fun k s hs => (h2 k s hs).block (hg.block b h1 (hne b o rfl))⟩
theorem IsCornerS.at {w : World} {a : Option Addr} {len cap : Nat} {xs : List VCorner} (h : IsCornerS w a len cap xs) (hpos : 0 < len) : ∃ b o, a = some ⟨b, o, none⟩ ∧ b < w.heap.size ∧ ∀ (k : Nat) s, xs[k]? = some s → CornerAt w b (o + k * 2) s := by
  rcases h.2.2.2 with h0 | h1
  · omega
  · exact h1
theorem nil_IsCornerS (w : World) : IsCornerS w none 0 0 [] := ⟨rfl, Nat.le_refl _, by simp [maxLen], .inl rfl⟩
set_option maxRecDepth 100000 in
theorem open_Corner {H : Type} {enc : TypeId × Value → H} {w : World} {base : Nat} {spare : Nat → Bool} {held : Bool} {r : Reach} {b0 : Nat} {v : Value} {d : DataW H} {p : List MemPlace}
    (hv : Value.okWide Try.prog w r b0 117 v) (h : DataW.Trod enc Try.prog w base spare held 117 v d p) : ∃ s : VCorner, v = .agg #[.int .i64 s.X, .int .i64 s.Y] := by
  obtain ⟨cs, rfl, hl, hc⟩ := open_one_struct (P := Try.prog) Try.underlying117 (by kernel_rfl) (by kernel_rfl) hv h
  obtain ⟨c0, h0, k0⟩ := hc 0 _ rfl
  obtain ⟨z0, rfl⟩ := k0.1 Try.underlying3
  obtain ⟨c1, h1, k1⟩ := hc 1 _ rfl
  obtain ⟨z1, rfl⟩ := k1.1 Try.underlying3
  have e : cs = [.int .i64 z0, .int .i64 z1] := by
    apply List.ext_getElem?
    intro j
    by_cases hj : j < 2
    · rcases (show j = 0 ∨ j = 1 by omega) with rfl | rfl
      all_goals first | exact h0 | exact h1
    · rw [List.getElem?_eq_none (by simp at hl; omega), List.getElem?_eq_none (by simp; omega)]
  subst e
  exact ⟨⟨z0, z1⟩, rfl⟩
set_option maxRecDepth 100000 in
theorem open_CornerS {H : Type} {enc : TypeId × Value → H} {W : World} {base : Nat} {held : Bool} {a : Option Addr} {len cap : Nat} {d : DataW H} {p : List MemPlace}
    (h : DataW.Trod enc Try.prog W base (fun _ => true) held 59 (.slice a len cap) d p) : ∃ xs : List VCorner, IsCornerS W a len cap xs := by
  obtain ⟨fuel, hf⟩ := h
  rcases open_one_structs Try.underlying59 Try.underlying117 (by kernel_rfl) (by kernel_rfl) (by decide) hf with ⟨rfl, rfl, rfl⟩ | ⟨b, o, ha, hl, hm, hb, hc⟩
  · exact ⟨[], nil_IsCornerS W⟩
  · have each : ∀ i, i < len → ∃ s : VCorner, CornerAt W b (o + i * 2) s := by
      intro i hi
      obtain ⟨c0, h0, k0⟩ := hc i hi 0 _ rfl
      obtain ⟨z0, rfl⟩ := k0.1 Try.underlying3
      obtain ⟨c1, h1, k1⟩ := hc i hi 1 _ rfl
      obtain ⟨z1, rfl⟩ := k1.1 Try.underlying3
      exact ⟨⟨z0, z1⟩, h0, h1⟩
    obtain ⟨pick, hpick⟩ := Classical.axiomOfChoice (r := fun (i : Fin len) (s : VCorner) => CornerAt W b (o + i.1 * 2) s) (fun i => each i.1 i.2)
    refine ⟨(List.finRange len).map pick, by simp, hl, hm, ?_⟩
    rcases ha with h0 | rfl
    · exact .inl h0
    · by_cases h0 : len = 0
      · exact .inl h0
      · refine .inr ⟨b, o, rfl, hb (by omega), fun k s hs => ?_⟩
        obtain ⟨hk, rfl⟩ := List.getElem?_eq_some_iff.1 hs
        have hk' : k < len := by simpa using hk
        have := hpick ⟨k, hk'⟩
        simpa using this
theorem infoCorner : (Try.prog.info? 103).map (fun i => (i.zero, i.size, i.bytes)) = some (some (.agg #[.int .i64 0, .int .i64 0]), 2, 16) := by kernel_rfl
def cellsCorner (xs : List VCorner) : List Value := xs.flatMap VCorner.vals
theorem cellsCorner_len (xs : List VCorner) : (cellsCorner xs).length = xs.length * 2 := by
  induction xs with
  | nil => rfl
  | cons x xs ih => simp [cellsCorner, VCorner.vals_len] at *; omega
theorem cellsCorner_append (xs ys : List VCorner) : cellsCorner (xs ++ ys) = cellsCorner xs ++ cellsCorner ys := by simp [cellsCorner]
theorem cellsCorner_snoc (xs : List VCorner) (s : VCorner) : cellsCorner (xs ++ [s]) = cellsCorner xs ++ s.vals := by simp [cellsCorner]
theorem cellsCorner_at {xs : List VCorner} {k : Nat} {s : VCorner} (h : xs[k]? = some s) (j : Nat) (hj : j < 2) : (cellsCorner xs)[k * 2 + j]? = s.vals[j]? := by
  have hk : k < xs.length := (List.getElem?_eq_some_iff.1 h).1
  have e : xs = xs.take k ++ s :: xs.drop (k + 1) := by
    have h2 := List.take_append_drop k xs
    rw [List.drop_eq_getElem_cons hk] at h2
    have : xs[k] = s := by rw [List.getElem?_eq_getElem hk] at h; simpa using h
    rw [this] at h2; exact h2.symm
  have hl : (cellsCorner (xs.take k)).length = k * 2 := by rw [cellsCorner_len, List.length_take]; omega
  rw [e, show cellsCorner (xs.take k ++ s :: xs.drop (k + 1)) = cellsCorner (xs.take k) ++ (s.vals ++ cellsCorner (xs.drop (k + 1))) from by simp [cellsCorner], List.getElem?_append_right (by omega), hl, show k * 2 + j - k * 2 = j from by omega, List.getElem?_append_left (by rw [VCorner.vals_len]; exact hj)]
theorem isCornerS_own {w : World} {base : Nat} {v : Value} {xs : List VCorner} (h : w.ownsRow base 103 2 v xs.length (cellsCorner xs)) :
    ∃ a cap, v = .slice a xs.length cap ∧ IsCornerS w a xs.length cap xs ∧ ∀ b o, a = some ⟨b, o, none⟩ → v.ownBlock = some b := by
  have hlt := h.lt
  rcases h.2 with ⟨rfl, h0⟩ | ⟨g, cap, cur, rfl, hg, hh, hn, hcap, hsz, htake⟩
  · exact ⟨none, 0, by rw [h0], ⟨by rw [h0], by omega, by simp [maxLen], .inl h0⟩, fun _ _ h => by cases h⟩
  · refine ⟨some ⟨g, 0, none⟩, cap, rfl, ⟨rfl, hn, hcap, ?_⟩, fun b o h => by cases h; rfl⟩
    by_cases hz : xs.length = 0
    · exact .inl hz
    · refine .inr ⟨g, 0, rfl, (hlt g rfl).2, fun k s hs => ?_⟩
      have each : ∀ j u, j < 2 → s.vals[j]? = some u → w.cell? ⟨g, 0 + k * 2 + j, none⟩ = some u := fun j u hj hu => by
        have hc := h.cells (g := g) rfl (k * 2 + j) u ((cellsCorner_at hs j hj).trans hu)
        rw [add_plain, ← Nat.add_assoc] at hc; exact hc
      exact ⟨each 0 _ (by decide) rfl, each 1 _ (by decide) rfl⟩
theorem nil_ownCorner (w : World) (base : Nat) : w.ownsRow base 103 2 (.slice none 0 0) ([] : List VCorner).length (cellsCorner []) := ⟨by simp [cellsCorner], .inl ⟨rfl, rfl⟩⟩
theorem cell_Corner (w : World) (s : VCorner) (t : TypeId) : ∀ j u, s.vals[j]? = some u → (w.alloc (.cells #[.int .i64 s.X, .int .i64 s.Y] t)).cell? ((⟨w.heap.size, 0, none⟩ : Addr).add j) = some u := by
  intro j u hj
  rw [add_plain, Nat.zero_add, World.cell?_alloc_new]
  simpa [VCorner.vals] using hj
theorem cell_Corner2 (w : World) (o : Obj) (s : VCorner) (t : TypeId) : ∀ j u, s.vals[j]? = some u → ((w.alloc o).alloc (.cells #[.int .i64 s.X, .int .i64 s.Y] t)).cell? ((⟨w.heap.size + 1, 0, none⟩ : Addr).add j) = some u := by
  have h := cell_Corner (w.alloc o) s t
  rw [show (w.alloc o).heap.size = w.heap.size + 1 from by show (w.heap.push o).size = _; simp] at h
  exact h
/-- What is left of a row of the call's own when it is cut behind some elements. -/
theorem take_ownCorner {w : World} {base : Nat} {a : Option Addr} {cap k : Nat} {xs : List VCorner} (h : w.ownsRow base 103 2 (.slice a xs.length cap) xs.length (cellsCorner xs)) (hk : k ≤ xs.length) :
    w.ownsRow base 103 2 (.slice a k cap) k (cellsCorner (xs.take k)) := by
  have hl : (cellsCorner (xs.take k)).length = k * 2 := by rw [cellsCorner_len, List.length_take]; omega
  refine ⟨hl, ?_⟩
  rcases h.2 with ⟨h0, h1⟩ | ⟨g, cap', cur, e, hg, hh, hn, hcap, hsz, htake⟩
  · simp only [Value.slice.injEq] at h0
    obtain ⟨rfl, h2, rfl⟩ := h0
    exact .inl ⟨by rw [show k = 0 by omega], by omega⟩
  · cases e
    refine .inr ⟨g, cap, cur, rfl, hg, hh, by omega, hcap, hsz, ?_⟩
    have e2 : cellsCorner xs = cellsCorner (xs.take k) ++ cellsCorner (xs.drop k) := by
      unfold cellsCorner
      rw [← List.flatMap_append, List.take_append_drop]
    have h3 := congrArg (List.take (k * 2)) htake
    rw [List.take_take, Nat.min_eq_left (by have := Nat.mul_le_mul_right 2 hk; omega), e2, List.take_append_of_le_length (by omega), List.take_of_length_le (show (cellsCorner (xs.take k)).length ≤ k * 2 by omega)] at h3
    exact h3
/-- A slice of them, as what is appended. -/
theorem srcCorner {w : World} {a : Option Addr} {len cap : Nat} {xs : List VCorner} (h : IsCornerS w a len cap xs) : SrcAt w a len 2 (cellsCorner xs) := by
  refine ⟨by rw [cellsCorner_len, h.1], ?_⟩
  rcases h.2.2.2 with h0 | ⟨b, o, rfl, hb, hat⟩
  · exact .inl h0
  · refine .inr ⟨_, rfl, fun j u hj => ?_⟩
    rw [add_plain]
    have hl := (List.getElem?_eq_some_iff.1 hj).1
    rw [cellsCorner_len] at hl
    obtain ⟨k, r, rfl, hr⟩ : ∃ k r, j = k * 2 + r ∧ r < 2 := ⟨j / 2, j % 2, by omega, Nat.mod_lt _ (by decide)⟩
    have hk : k < xs.length := by omega
    have hs : xs[k]? = some xs[k] := List.getElem?_eq_getElem hk
    have hu := cellsCorner_at hs r hr
    rw [hj] at hu
    have ha := hat k _ hs
    rw [← Nat.add_assoc]
    rcases (show r = 0 ∨ r = 1 by omega) with rfl | rfl
    · rw [hu]; exact ha.1
    · rw [hu]; exact ha.2
/-- Block b holds it, all of it, and may be written. -/
def HBCorner (w : World) (b : Nat) (s : VCorner) : Prop := w.heap[b]? = some (.cells #[.int .i64 s.X, .int .i64 s.Y] 103 (0, 0))
theorem HBCorner.lt {w : World} {b : Nat} {s : VCorner} (h : HBCorner w b s) : b < w.heap.size := (Array.getElem?_eq_some_iff.1 h).1
theorem HBCorner.new (w : World) (s : VCorner) (B : Nat) (hB : w.heap.size = B) : HBCorner (w.alloc (.cells #[.int .i64 s.X, .int .i64 s.Y] 103)) B s := hB ▸ heap_alloc_new w _
theorem HBCorner.below {w w' : World} {b : Nat} {s : VCorner} (h : HBCorner w b s) (hb : Below w.heap.size w w') : HBCorner w' b s := (hb.block b h.lt).trans h
theorem HBCorner.grown {w w' : World} {b : Nat} {s : VCorner} {row : Option Nat} (h : HBCorner w b s) (hg : w.grownBy w' row) (hne : some b ≠ row) : HBCorner w' b s := (hg.block b h.lt hne).trans h
theorem HBCorner.drew {w : World} {b : Nat} {s : VCorner} (h : HBCorner w b s) : HBCorner w.drew b s := h
theorem HBCorner.alloc {w : World} {b : Nat} {s : VCorner} (h : HBCorner w b s) (o : Obj) : HBCorner (w.alloc o) b s := (Below.heap_alloc w o b h.lt).trans h
theorem HBCorner.other {w : World} {b b' j : Nat} {s : VCorner} (h : HBCorner w b s) (hne : b ≠ b') (u : Value) : HBCorner (w.setCell ⟨b', j, none⟩ u) b s := (heap_setCell_other w ⟨b', j, none⟩ b u hne).trans h
theorem HBCorner.cells {w : World} {b : Nat} {s : VCorner} (h : HBCorner w b s) : w.cell? ⟨b, 0, none⟩ = some (.int .i64 s.X) ∧ w.cell? ⟨b, 1, none⟩ = some (.int .i64 s.Y) := by
  unfold HBCorner at h
  refine ⟨?_, ?_⟩ <;> simp [World.cell?, h]
theorem HBCorner.free {w : World} {b : Nat} {s : VCorner} (h : HBCorner w b s) (j : Nat) : w.frozen? ⟨b, j, none⟩ = false := by
  unfold HBCorner at h
  simp [World.frozen?, h]
theorem HBCorner.set0 {w : World} {b : Nat} {s : VCorner} (h : HBCorner w b s) (v : Int) : HBCorner (w.setCell ⟨b, 0, none⟩ (.int .i64 v)) b ⟨v, s.Y⟩ := heap_setCell_same w b 0 _ _ _ h
theorem HBCorner.set1 {w : World} {b : Nat} {s : VCorner} (h : HBCorner w b s) (v : Int) : HBCorner (w.setCell ⟨b, 1, none⟩ (.int .i64 v)) b ⟨s.X, v⟩ := heap_setCell_same w b 1 _ _ _ h
theorem HBCorner.setAll {w : World} {b : Nat} {s : VCorner} (h : HBCorner w b s) (t : VCorner) : HBCorner ((w.setCell ⟨b, 0, none⟩ (.int .i64 t.X)).setCell ⟨b, 1, none⟩ (.int .i64 t.Y)) b t :=
  (heap_setCell_same _ b 1 _ _ _ (heap_setCell_same _ b 0 _ _ _ h))
theorem HBCorner.otherAll {w : World} {b b' : Nat} {s : VCorner} (h : HBCorner w b s) (hne : b ≠ b') (x0 x1 : Value) : HBCorner ((w.setCell ⟨b', 0, none⟩ x0).setCell ⟨b', 1, none⟩ x1) b s :=
  ((h.other hne x0).other hne x1)
/-- It lies in the box b of some type. -/
def BoxCorner (w : World) (b : Nat) (s : VCorner) : Prop := w.cell? ⟨b, 0, none⟩ = some (.int .i64 s.X) ∧ w.cell? ⟨b, 1, none⟩ = some (.int .i64 s.Y)
theorem BoxCorner.new (w : World) (t : TypeId) (s : VCorner) (B : Nat) (hB : w.heap.size = B) : BoxCorner (w.alloc (.cells #[.int .i64 s.X, .int .i64 s.Y] t)) B s := by
  subst hB
  refine ⟨?_, ?_⟩ <;> simp [World.cell?_alloc_new]
theorem BoxCorner.lt {w : World} {b : Nat} {s : VCorner} (h : BoxCorner w b s) : b < w.heap.size := World.lt_of_cell h.1
theorem BoxCorner.below {w w' : World} {b : Nat} {s : VCorner} (h : BoxCorner w b s) (hb : Below w.heap.size w w') : BoxCorner w' b s :=
  ⟨(hb.cell (p := ⟨b, 0, none⟩) h.lt).trans h.1, (hb.cell (p := ⟨b, 1, none⟩) h.lt).trans h.2⟩
theorem BoxCorner.grown {w w' : World} {b : Nat} {s : VCorner} {row : Option Nat} (h : BoxCorner w b s) (hg : w.grownBy w' row) (hne : some b ≠ row) : BoxCorner w' b s :=
  ⟨(World.cell?_of_block (w := w) (a := ⟨b, 0, none⟩) (hg.block b h.lt hne)).trans h.1, (World.cell?_of_block (w := w) (a := ⟨b, 1, none⟩) (hg.block b h.lt hne)).trans h.2⟩
set_option maxHeartbeats 3200000 in
theorem toCorner_any (s : VCorner) (w : World) :
    Calls Try.prog 123 #[.agg #[.int .i64 s.X, .int .i64 s.Y]] w fun e w' => e = .returned (.agg #[.int .i64 s.X, .int .i64 s.Y]) ∧ Below w.heap.size w w' := by
  go_enter Try.func123, Try.ntmps123
  go_wp2
  refine bodyPost_ret (v := .agg #[.int .i64 s.X, .int .i64 s.Y]) (by simp [results, Try.results123, go_sem]) rfl ⟨rfl, ?_⟩
  repeat (first | exact Below.refl _ _ | refine Below.setCell ?_ (by simp; try omega) _ | refine Below.alloc ?_ (by simp; try omega) _)
set_option maxHeartbeats 3200000 in
theorem eqCorner_yes (s : VCorner) (w : World) :
    Calls Try.prog 124 #[.agg #[.int .i64 s.X, .int .i64 s.Y], .agg #[.int .i64 s.X, .int .i64 s.Y]] w fun e w' => e = .returned (.bool true) ∧ Below w.heap.size w w' := by
  go_enter Try.func124, Try.ntmps124
  go_wp2
  go_ret
  exact ⟨rfl, by repeat (first | exact Below.refl _ _ | refine Below.alloc ?_ (by simp; try omega) _)⟩
set_option maxHeartbeats 400000 in
theorem szCornerS_any (a : Option Addr) (len cap : Nat) (xs : List VCorner) (left : Int) (w : World) (h : IsCornerS w a len cap xs) (h0 : 0 ≤ left) (h1 : left ≤ 1048576) :
    Calls Try.prog 61 #[.slice a len cap, .int .i64 left] w fun e w' => ∃ z : Int, e = .returned (.int .i64 z) ∧ z ≤ left ∧ (0 ≤ z → len ≤ 1048576) ∧ Below w.heap.size w w' := by
  have hl : len ≤ maxLen := Nat.le_trans h.2.1 h.2.2.1
  unfold maxLen at hl
  clear h
  by_cases hlt : left < (len : Int)
  · have hn : left - (len : Int) < 0 := by omega
    go_enter Try.func61, Try.ntmps61
    go_wp2
    go_ret
    exact ⟨-1, rfl, by omega, by omega, Below.refl _ _⟩
  · have hn : 0 ≤ left - (len : Int) := by omega
    go_enter Try.func61, Try.ntmps61
    go_wp2
    go_ret
    exact ⟨_, rfl, by omega, fun _ => by omega, Below.refl _ _⟩
def zerosCorner (n : Nat) : List Value := (List.replicate n [.int .i64 0, .int .i64 0]).flatten
theorem zerosCorner_succ (n : Nat) : zerosCorner (n + 1) = .int .i64 0 :: .int .i64 0 :: zerosCorner n := by
  unfold zerosCorner; rw [List.replicate_succ]; rfl
theorem zerosCorner_len (n : Nat) : (zerosCorner n).length = n * 2 := by
  induction n with
  | zero => rfl
  | succ n ih => rw [zerosCorner_succ]; simp [ih]; omega
theorem zerosCorner_at (n j : Nat) (h : j < n * 2) : (zerosCorner n)[j]? = [.int .i64 0, .int .i64 0][j % 2]? := by
  induction n generalizing j with
  | zero => omega
  | succ n ih =>
    rw [zerosCorner_succ]
    by_cases hj : j < 2
    · rw [Nat.mod_eq_of_lt hj]
      rcases (show j = 0 ∨ j = 1 by omega) with rfl | rfl <;> rfl
    · obtain ⟨i, rfl⟩ : ∃ i, j = i + 2 := ⟨j - 2, by omega⟩
      rw [Nat.add_mod_right, ← ih i (by omega)]
      rfl
theorem madeCorner (n : Nat) : (madeCells (.agg #[.int .i64 0, .int .i64 0] : Value).cells (n * 2)).toList = zerosCorner n := by
  apply List.ext_getElem?
  intro j
  rw [Array.getElem?_toList]
  by_cases h : j < n * 2
  · rw [zerosCorner_at n j h]
    have hm : j % 2 < 2 := Nat.mod_lt _ (by decide)
    simp only [madeCells, Value.cells]
    rw [Array.getElem?_eq_getElem (by simpa using h)]
    rcases (show j % 2 = 0 ∨ j % 2 = 1 by omega) with e | e <;> simp [e]
  · rw [List.getElem?_eq_none (by rw [zerosCorner_len]; omega)]
    simp [madeCells, h]
theorem setCorner (A L : List Value) (v0 v1 : Value) (o : Nat) (hA : A.length = o) (hL : o + 2 ≤ L.length) :
    (((A ++ L.drop o).set (o) v0).set (o + 1) v1) = A ++ v0 :: v1 :: L.drop (o + 2) := by
  subst hA
  obtain ⟨a0, a1, e⟩ : ∃ a0 a1, L.drop A.length = a0 :: a1 :: L.drop (A.length + 2) := ⟨_, _, by rw [List.drop_eq_getElem_cons (show A.length < L.length by omega), List.drop_eq_getElem_cons (show A.length + 1 < L.length by omega)]⟩
  rw [e]
  generalize L.drop (A.length + 2) = D
  simp [List.set_append_right]
theorem storedCorner {w : World} {base n c g o : Nat} {e : TypeId} {size : Nat} {A L : List Value} (h : w.ownsRow base e size (.slice (some ⟨g, 0, none⟩) n c) n (A ++ L.drop o)) (hA : A.length = o) (hL : o + 2 ≤ L.length) (v0 v1 : Value) :
    ((w.setCell ⟨g, o, none⟩ v0).setCell ⟨g, o + 1, none⟩ v1).ownsRow base e size (.slice (some ⟨g, 0, none⟩) n c) n (A ++ v0 :: v1 :: L.drop (o + 2)) ∧ w.grownBy ((w.setCell ⟨g, o, none⟩ v0).setCell ⟨g, o + 1, none⟩ v1) (some g) := by
  have h0 := h.stored (o) v0
  have h1 := h0.1.stored (o + 1) v1
  refine ⟨?_, (grown_trans h0.2 h1.2)⟩
  have := h1.1
  rw [setCorner A L v0 v1 o hA hL] at this
  exact this
/-- A row of the call's own, and the world below as it was. -/
def CornerRow (xs : List VCorner) (w : World) (e : Ending) (w' : World) : Prop := ∃ v, e = .returned v ∧ w'.ownsRow w.heap.size 103 2 v xs.length (cellsCorner xs) ∧ Below w.heap.size w w'
theorem cellsCorner_drop (xs : List VCorner) (i : Nat) : (cellsCorner xs).drop (i * 2) = cellsCorner (xs.drop i) := by
  by_cases h : i ≤ xs.length
  · have e : cellsCorner xs = cellsCorner (xs.take i) ++ cellsCorner (xs.drop i) := by
      unfold cellsCorner
      rw [← List.flatMap_append, List.take_append_drop]
    have hl : (cellsCorner (xs.take i)).length = i * 2 := by rw [cellsCorner_len, List.length_take]; omega
    rw [e, List.drop_append_of_le_length (by omega), List.drop_of_length_le (by omega), List.nil_append]
  · rw [List.drop_of_length_le (show xs.length ≤ i by omega), List.drop_of_length_le (by rw [cellsCorner_len]; omega)]; rfl
theorem cellsCorner_take (xs : List VCorner) (i : Nat) : cellsCorner xs = cellsCorner (xs.take i) ++ (cellsCorner xs).drop (i * 2) := by
  rw [cellsCorner_drop]
  unfold cellsCorner
  rw [← List.flatMap_append, List.take_append_drop]
theorem cellsCorner_set (xs : List VCorner) (i : Nat) (r : VCorner) (h : i < xs.length) : cellsCorner (xs.set i r) = cellsCorner (xs.take i) ++ (r.vals ++ (cellsCorner xs).drop (i * 2 + 2)) := by
  rw [List.set_eq_take_append_cons_drop, if_pos h, show i * 2 + 2 = (i + 1) * 2 by omega, cellsCorner_drop]
  simp [cellsCorner]
/-- An element of a row of the call's own is replaced. -/
theorem own_setCorner {w : World} {base m c g i : Nat} {xs : List VCorner} (h : w.ownsRow base 103 2 (.slice (some ⟨g, 0, none⟩) m c) m (cellsCorner xs)) (hi : i < xs.length) (r : VCorner) :
    ((w.setCell ⟨g, i * 2, none⟩ (.int .i64 r.X)).setCell ⟨g, i * 2 + 1, none⟩ (.int .i64 r.Y)).ownsRow base 103 2 (.slice (some ⟨g, 0, none⟩) m c) m (cellsCorner (xs.set i r)) ∧ w.grownBy ((w.setCell ⟨g, i * 2, none⟩ (.int .i64 r.X)).setCell ⟨g, i * 2 + 1, none⟩ (.int .i64 r.Y)) (some g) := by
  rw [cellsCorner_set xs i r hi]
  rw [cellsCorner_take xs i] at h
  exact storedCorner h (by rw [cellsCorner_len, List.length_take]; omega) (by rw [cellsCorner_len]; omega) (.int .i64 r.X) (.int .i64 r.Y)
set_option maxHeartbeats 3200000 in
set_option maxRecDepth 100000 in
theorem toCornerS_any (a : Option Addr) (len cap : Nat) (xs : List VCorner) (w : World) (h : IsCornerS w a len cap xs) (hsz : len ≤ 1048576) :
    Calls Try.prog 63 #[.slice a len cap] w (CornerRow xs w) := by
  obtain rfl := h.1
  obtain ⟨i0, hi, hz0, hz1, hz2⟩ := info_parts infoCorner
  have S := Lib.hid h
  clear h
  go_enter Try.func63, Try.ntmps63
  go_wp2_with (refine wpList_make_full _ rfl _ _ 47 rfl w.heap.size 103 i0 (.agg #[.int .i64 0, .int .i64 0]) 2 Try.underlying47 hi hz0 hz1 .i64 .i64 _ _ xs.length rfl rfl rfl rfl (by rw [hz2]; omega) (by unfold maxLen; omega) (Nat.le_refl _) ?_; intro w1 hown hgrow)
  have hb1 : Below w.heap.size w w1 := (Below.refl _ _).grown hgrow (Nat.le_refl _) (fun k e => by cases e)
  have H1 := Lib.hid hown
  have hg1 := (hown.lt w.heap.size rfl).2
  clear hown hgrow
  go_loopw [4] (fun i wr => ∃ k : Nat, k ≤ xs.length ∧ i = .int .i64 k ∧ Below w.heap.size w wr ∧ wr.ownsRow w.heap.size 103 2 (.slice (some ⟨w.heap.size, 0, none⟩) xs.length xs.length) xs.length (cellsCorner (xs.take k) ++ (zerosCorner xs.length).drop (k * 2))) (fun i _ => xs.length - (intOf i).toNat)
  case atStart => exact ⟨0, Nat.zero_le _, rfl, hb1, by have h := H1.out; rw [madeCorner] at h; simpa [cellsCorner] using h⟩
  case round =>
    obtain ⟨k, hk, rfl, hbel, hown⟩ := hrel
    have O := Lib.hid hown
    have B := Lib.hid hbel
    by_cases hlt : k < xs.length
    · obtain ⟨s, hs⟩ : ∃ s, xs[k]? = some s := ⟨xs[k]'hlt, List.getElem?_eq_getElem _⟩
      obtain ⟨b, o, rfl, hb, hat⟩ := (S.out.below hbel).at (by omega)
      obtain ⟨c0, c1⟩ := hat k s hs
      have K := Lib.hid hs
      have hm := S.out.2.2.1
      unfold maxLen at hm
      clear hown hbel hs hat
      go_wp2_with fail
      refine (toCorner_any s _).mono ?_
      rintro e w2 ⟨rfl, hb2⟩
      have O2 := Lib.hid (ownsRow_below O.out hb2)
      have B2 := Lib.hid (Below.then' B.out hb2)
      clear hb2 c0 c1
      have f0 := O2.out.frozenAt (k * 2)
      have f1 := O2.out.frozenAt (k * 2 + 1)
      obtain ⟨u0, d0⟩ := own_cell O2.out (k * 2) (by rw [List.length_append, cellsCorner_len, List.length_take, List.length_drop, zerosCorner_len]; omega)
      obtain ⟨u1, d1⟩ := own_cell O2.out (k * 2 + 1) (by rw [List.length_append, cellsCorner_len, List.length_take, List.length_drop, zerosCorner_len]; omega)
      go_wp2
      go_roundw
      case rel =>
        have h5 := storedCorner O2.out (by rw [cellsCorner_len, List.length_take]; omega) (by rw [zerosCorner_len]; omega) (.int .i64 s.X) (.int .i64 s.Y)
        refine ⟨k + 1, by omega, by go_num, B2.out.grown h5.2 B2.out.size (fun j e => by cases e; exact Nat.le_refl _), ?_⟩
        rw [List.take_add_one, K.out, show (some s).toList = [s] from rfl, cellsCorner_snoc, List.append_assoc, show (k + 1) * 2 = k * 2 + 2 by omega]
        exact h5.1
      case measure => simp [intOf]; omega
    · obtain rfl : k = xs.length := by omega
      clear hown hbel
      have hm := S.out.2.2.1
      unfold maxLen at hm
      go_wp2
      go_ret
      refine ⟨_, rfl, ?_, B.out⟩
      have h := O.out
      rw [List.drop_of_length_le (by rw [zerosCorner_len]; omega), List.append_nil, List.take_of_length_le (Nat.le_refl _)] at h
      exact h
set_option maxHeartbeats 3200000 in
set_option maxRecDepth 100000 in
theorem eqCornerS_yes (a : Option Addr) (len cap : Nat) (a' : Option Addr) (len' cap' : Nat) (xs : List VCorner) (w : World) (h : IsCornerS w a len cap xs) (h' : IsCornerS w a' len' cap' xs) :
    Calls Try.prog 65 #[.slice a len cap, .slice a' len' cap'] w fun e w' => e = .returned (.bool true) ∧ Below w.heap.size w w' := by
  obtain rfl := h.1
  obtain rfl := h'.1
  have hm := h.2.2.1
  have hcl := h.2.1
  unfold maxLen at hm
  have S := Lib.hid h
  have S' := Lib.hid h'
  clear h h'
  go_enter Try.func65, Try.ntmps65
  go_wp2
  go_loopw [5] (fun i wr => ∃ k : Nat, k ≤ xs.length ∧ i = .int .i64 k ∧ Below w.heap.size w wr) (fun i _ => xs.length - (intOf i).toNat)
  case atStart => exact ⟨0, Nat.zero_le _, rfl, Below.refl _ _⟩
  case round =>
    obtain ⟨k, hk, rfl, hbel⟩ := hrel
    have B := Lib.hid hbel
    by_cases hlt : k < xs.length
    · obtain ⟨s, hs⟩ : ∃ s, xs[k]? = some s := ⟨xs[k]'hlt, List.getElem?_eq_getElem _⟩
      obtain ⟨b, o, rfl, hb, hat⟩ := (S.out.below hbel).at (by omega)
      obtain ⟨b', o', rfl, hb', hat'⟩ := (S'.out.below hbel).at (by omega)
      obtain ⟨c0, c1⟩ := hat k s hs
      obtain ⟨d0, d1⟩ := hat' k s hs
      have hi0 : (0 : Int) ≤ (k : Int) := by omega
      have hi1 : (k : Int) < (xs.length : Int) := by omega
      clear hbel hs hat hat'
      go_wp2
      go_region_with (go_at_call 124; refine (eqCorner_yes s _).mono ?_; rintro e w1 ⟨rfl, hb1⟩; have B1 := Lib.hid (Below.then' (bel_drew' B.out) hb1); clear hb1)
      all_goals go_wp2
      all_goals go_roundw
      all_goals first
        | exact ⟨k + 1, by omega, by go_num, B1.out⟩
        | (simp [intOf]; omega)
    · obtain rfl : k = xs.length := by omega
      clear hbel
      go_wp2
      go_ret
      exact ⟨rfl, B.out⟩
/-- The marks from b on, and n of them. -/
def markCorner (b : Nat) : VCorner := ⟨((b : Nat) : Int), ((b + 1 : Nat) : Int)⟩
def marksCorner (k n : Nat) : List VCorner := (List.range n).map fun i => markCorner (k + i * 2)
theorem marksCorner_len (k n : Nat) : (marksCorner k n).length = n := by simp [marksCorner]
theorem marksCorner_succ (k n : Nat) : marksCorner k (n + 1) = marksCorner k n ++ [markCorner (k + n * 2)] := by simp [marksCorner, List.range_succ]
theorem marksCorner_at (k n i : Nat) (h : i < n) : (marksCorner k n)[i]? = some (markCorner (k + i * 2)) := by simp [marksCorner, h]
def CornerMarked (base k n : Nat) (v : Value) (w : World) (e : Ending) (w' : World) : Prop := e = .returned (.int .i64 ((k + n * 2 : Nat) : Int)) ∧ w'.ownsRow base 103 2 v n (cellsCorner (marksCorner k n)) ∧ w.grownBy w' v.ownBlock
set_option maxHeartbeats 3200000 in
set_option maxRecDepth 100000 in
theorem markCornerS_any (base : Nat) (v : Value) (n k : Nat) (L : List Value) (w : World) (hown : w.ownsRow base 103 2 v n L) (hk1 : 1 ≤ k) (hk : k ≤ 4000000) (hn : n ≤ 1048576) :
    Calls Try.prog 71 #[v, .int .i64 (k : Int)] w (CornerMarked base k n v w) := by
  have hlen : L.length = n * 2 := by have := hown.1; omega
  rcases hown.2 with ⟨rfl, rfl⟩ | ⟨g, cap, cur, rfl, hg, hh, hncap, hcap, _⟩
  · have hL : L = [] := List.length_eq_zero_iff.1 (by omega)
    subst hL
    have H := Lib.hid hown
    clear hown
    go_enter Try.func71, Try.ntmps71
    go_wp2
    refine wp_loop_rounds 1 ?_
    rw [rounds_succ]
    go_wp2
    go_ret
    exact ⟨rfl, H.out, World.grownBy.refl _ _⟩
  clear hh
  have H := Lib.hid hown
  have L0 := Lib.hid hlen
  unfold maxLen at hcap
  clear hown hlen
  go_enter Try.func71, Try.ntmps71
  go_wp2
  go_loopw [1, 5] (fun q i wr => ∃ j : Nat, j ≤ n ∧ i = .int .i64 j ∧ q = .int .i64 ((k + j * 2 : Nat) : Int) ∧ wr.ownsRow base 103 2 (.slice (some ⟨g, 0, none⟩) n cap) n (cellsCorner (marksCorner k j) ++ L.drop (j * 2)) ∧ w.grownBy wr (some g)) (fun _ i _ => n - (intOf i).toNat)
  case atStart => exact ⟨0, Nat.zero_le _, rfl, by simp, by simpa [marksCorner, cellsCorner] using H.out, World.grownBy.refl _ _⟩
  case round =>
    obtain ⟨j, hj, rfl, rfl, hrow, hgr⟩ := hrel
    have R := Lib.hid hrow
    have G := Lib.hid hgr
    clear hrow hgr
    by_cases hlt : j < n
    · obtain ⟨x, hx⟩ : ∃ x : Int, ((k + j * 2 : Nat) : Int) = x := ⟨_, rfl⟩
      rw [hx]
      have x0 : 1 ≤ x := by omega
      have x1 : x ≤ 20000000 := by omega
      have HX := Lib.hid hx
      have i0 : (0 : Int) ≤ (j : Int) := by omega
      have i1 : (j : Int) < (n : Int) := by omega
      clear hx
      have R0 := R
      have G0 := G
      have f0 := R0.out.frozenAt (j * 2)
      obtain ⟨u0, d0⟩ := own_cell R0.out (j * 2) (by have e := L0.out; simp [cellsCorner_len, marksCorner_len]; omega)
      have f1 := R0.out.frozenAt (j * 2 + 1)
      obtain ⟨u1, d1⟩ := own_cell R0.out (j * 2 + 1) (by have e := L0.out; simp [cellsCorner_len, marksCorner_len]; omega)
      go_wp2
      go_roundw
      case rel =>
        refine ⟨j + 1, by omega, by go_num, by have := HX.out; first | (rw [← this]; go_num) | (exact int_eq (by omega)), own_eq ((R0.out.stored (j * 2) _).1.stored (j * 2 + 1) _).1 ?_, (grown_trans (grown_trans G0.out (R0.out.stored (j * 2) _).2) ((R0.out.stored (j * 2) _).1.stored (j * 2 + 1) _).2)⟩
        rw [show cellsCorner (marksCorner k (j + 1)) ++ L.drop ((j + 1) * 2) = cellsCorner (marksCorner k j) ++ ((markCorner (k + j * 2)).vals ++ L.drop (j * 2 + 2)) from by rw [marksCorner_succ, cellsCorner_snoc, List.append_assoc, show (j + 1) * 2 = j * 2 + 2 by omega]]
        rw [setCorner _ L _ _ (j * 2) (by rw [cellsCorner_len, marksCorner_len]) (by have := L0.out; have := Nat.mul_le_mul_right 2 (show j + 1 ≤ n by omega); omega)]
        refine congrArg (fun l => cellsCorner (marksCorner k j) ++ l) ?_
        exact cons_congr (int_eq (by simp only [markCorner]; have := HX.out; omega)) (cons_congr (int_eq (by simp only [markCorner]; have := HX.out; omega)) (rfl))
      case measure => simp [intOf]; omega
    · obtain rfl : j = n := by omega
      go_wp2
      go_ret
      refine ⟨rfl, ?_, G.out⟩
      have h := R.out
      rw [List.drop_of_length_le (by rw [L0.out]; omega), List.append_nil] at h
      exact h
set_option maxHeartbeats 3200000 in
set_option maxRecDepth 100000 in
theorem heldCornerS_any (a : Option Addr) (n cap k : Nat) (w : World) (h : IsCornerS w a n cap (marksCorner k n)) (hk1 : 1 ≤ k) (hk : k ≤ 4000000) (hn : n ≤ 1048576) :
    Calls Try.prog 72 #[.slice a n cap, .int .i64 (k : Int)] w fun e w' => e = .returned (.int .i64 ((k + n * 2 : Nat) : Int)) ∧ Below w.heap.size w w' := by
  have hm := h.2.2.1
  have hcl := h.2.1
  unfold maxLen at hm
  have S := Lib.hid h
  clear h
  go_enter Try.func72, Try.ntmps72
  go_wp2
  go_loopw [1, 5] (fun q i wr => ∃ j : Nat, j ≤ n ∧ i = .int .i64 j ∧ q = .int .i64 ((k + j * 2 : Nat) : Int) ∧ Below w.heap.size w wr) (fun _ i _ => n - (intOf i).toNat)
  case atStart => exact ⟨0, Nat.zero_le _, rfl, by simp, Below.refl _ _⟩
  case round =>
    obtain ⟨j, hj, rfl, rfl, hbel⟩ := hrel
    have B := Lib.hid hbel
    by_cases hlt : j < n
    · obtain ⟨b, o, rfl, hb, hat⟩ := (S.out.below hbel).at (by omega)
      obtain ⟨e0, e1⟩ := hat j _ (marksCorner_at k n j hlt)
      obtain ⟨x, hx⟩ : ∃ x : Int, ((k + j * 2 : Nat) : Int) = x := ⟨_, rfl⟩
      rw [hx]
      have x0 : 1 ≤ x := by omega
      have x1 : x ≤ 20000000 := by omega
      have HX := Lib.hid hx
      have i0 : (0 : Int) ≤ (j : Int) := by omega
      have i1 : (j : Int) < (n : Int) := by omega
      have c0 : wr.cell? ⟨b, o + j * 2, none⟩ = some (.int .i64 (x)) := e0.trans (congrArg some (int_eq (by simp only [markCorner]; have := HX.out; omega)))
      have c1 : wr.cell? ⟨b, o + j * 2 + 1, none⟩ = some (.int .i64 (x + 1)) := e1.trans (congrArg some (int_eq (by simp only [markCorner]; have := HX.out; omega)))
      clear hx hat hbel e0 e1
      go_wp2
      go_roundw
      all_goals first
        | exact ⟨j + 1, by omega, by go_num, by have := HX.out; exact int_eq (by omega), B.out⟩
        | (simp [intOf]; omega)
    · obtain rfl : j = n := by omega
      clear hbel
      go_wp2
      go_ret
      exact ⟨rfl, B.out⟩
end Go.Proofs.Ytpnaciamnigbnaa
