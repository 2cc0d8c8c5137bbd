/- The struct GridTurn: its fields; one read from an argument; slices of it; and the laws' own helpers over it. (made by gen.py) -/
import Derived.Test.YtghgipadogdfiaaOpen2
import Derived.Test.YtghgipadogdfiaaBox0
import Derived.Test.YtghgipadogdfiaaAppL
import Derived.Test.YtghgipadogdfiaaReg
import Derived.Deep.RegionWith
import Derived.Laws.OwnMore
import Derived.Handy
import Derived.Laws.IdiomRangeMap
namespace Go.Proofs.Ytghgipadogdfiaa
open Go.RowKit Go.ChangeShapes Go.WideShapes Go.Deep

structure VGridTurn where
  Quarters : Int
  Num : Int
  Den : Int
  East : Int
  North : Int
def VGridTurn.vals (s : VGridTurn) : List Value := [.int .i64 s.Quarters, .int .i64 s.Num, .int .i64 s.Den, .int .i64 s.East, .int .i64 s.North]
theorem VGridTurn.vals_len (s : VGridTurn) : s.vals.length = 5 := rfl
theorem VGridTurn.vals_one (s : VGridTurn) : ∀ u ∈ s.vals, u.oneCell' = true := by
  intro u hu
  simp [VGridTurn.vals] at hu
  rcases hu with rfl | rfl | rfl | rfl | rfl <;> rfl
/-- It lies at block b from offset o on. -/
def GridTurnAt (w : World) (b o : Nat) (s : VGridTurn) : Prop :=
  w.cell? ⟨b, o, none⟩ = some (.int .i64 s.Quarters) ∧ w.cell? ⟨b, o + 1, none⟩ = some (.int .i64 s.Num) ∧ w.cell? ⟨b, o + 2, none⟩ = some (.int .i64 s.Den) ∧ w.cell? ⟨b, o + 3, none⟩ = some (.int .i64 s.East) ∧ w.cell? ⟨b, o + 4, none⟩ = some (.int .i64 s.North)
def IsGridTurnS (w : World) (a : Option Addr) (len cap : Nat) (xs : List VGridTurn) : Prop :=
  len = xs.length ∧ len ≤ cap ∧ cap ≤ maxLen ∧ (len = 0 ∨ ∃ b o, a = some ⟨b, o, none⟩ ∧ b < w.heap.size ∧ ∀ (k : Nat) s, xs[k]? = some s → GridTurnAt w b (o + k * 5) s)
theorem GridTurnAt.below {w w' : World} {b o : Nat} {s : VGridTurn} (h : GridTurnAt w b o s) (hb : Below w.heap.size w w') (hlt : b < w.heap.size) : GridTurnAt w' b o s :=
  ⟨(hb.cell (p := ⟨b, o, none⟩) hlt).trans h.1, (hb.cell (p := ⟨b, o + 1, none⟩) hlt).trans h.2.1, (hb.cell (p := ⟨b, o + 2, none⟩) hlt).trans h.2.2.1, (hb.cell (p := ⟨b, o + 3, none⟩) hlt).trans h.2.2.2.1, (hb.cell (p := ⟨b, o + 4, none⟩) hlt).trans h.2.2.2.2⟩
theorem GridTurnAt.block {w w' : World} {b o : Nat} {s : VGridTurn} (h : GridTurnAt w b o s) (hb : w'.heap[b]? = w.heap[b]?) : GridTurnAt w' b o s :=
  ⟨(World.cell?_of_block (w := w) (a := ⟨b, o, none⟩) hb).trans h.1, (World.cell?_of_block (w := w) (a := ⟨b, o + 1, none⟩) hb).trans h.2.1, (World.cell?_of_block (w := w) (a := ⟨b, o + 2, none⟩) hb).trans h.2.2.1, (World.cell?_of_block (w := w) (a := ⟨b, o + 3, none⟩) hb).trans h.2.2.2.1, (World.cell?_of_block (w := w) (a := ⟨b, o + 4, none⟩) hb).trans h.2.2.2.2⟩
theorem IsGridTurnS.below {w w' : World} {a : Option Addr} {len cap : Nat} {xs : List VGridTurn} (h : IsGridTurnS w a len cap xs) (hb : Below w.heap.size w w') : IsGridTurnS w' a len cap xs := by
  refine ⟨h.1, h.2.1, h.2.2.1, ?_⟩
  rcases h.2.2.2 with h0 | ⟨b, o, rfl, h1, h2⟩
  · exact .inl h0
  · exact .inr ⟨b, o, rfl, Nat.lt_of_lt_of_le h1 hb.size, fun k s hs => (h2 k s hs).below hb h1⟩
theorem IsGridTurnS.grown {w w' : World} {a : Option Addr} {len cap : Nat} {xs : List VGridTurn} {row : Option Nat} (h : IsGridTurnS w a len cap xs) (hg : w.grownBy w' row) (hne : ∀ b o, a = some ⟨b, o, none⟩ → some b ≠ row) : IsGridTurnS w' a len cap xs := by
  refine ⟨h.1, h.2.1, h.2.2.1, ?_⟩
  rcases h.2.2.2 with h0 | ⟨b, o, rfl, h1, h2⟩
  · exact .inl h0
  · exact .inr ⟨b, o, rfl, Nat.lt_of_lt_of_le h1 hg.size, fun k s hs => (h2 k s hs).block (hg.block b h1 (hne b o rfl))⟩
theorem IsGridTurnS.at {w : World} {a : Option Addr} {len cap : Nat} {xs : List VGridTurn} (h : IsGridTurnS w a len cap xs) (hpos : 0 < len) : ∃ b o, a = some ⟨b, o, none⟩ ∧ b < w.heap.size ∧ ∀ (k : Nat) s, xs[k]? = some s → GridTurnAt w b (o + k * 5) s := by
  rcases h.2.2.2 with h0 | h1
  · omega
  · exact h1
theorem nil_IsGridTurnS (w : World) : IsGridTurnS w none 0 0 [] := ⟨rfl, Nat.le_refl _, by simp [maxLen], .inl rfl⟩
set_option maxRecDepth 100000 in
theorem open_GridTurn {H : Type} {enc : TypeId × Value → H} {w : World} {base : Nat} {spare : Nat → Bool} {held : Bool} {r : Reach} {b0 : Nat} {v : Value} {d : DataW H} {p : List MemPlace}
    (hv : Value.okWide Try.prog w r b0 38 v) (h : DataW.Trod enc Try.prog w base spare held 38 v d p) : ∃ s : VGridTurn, v = .agg #[.int .i64 s.Quarters, .int .i64 s.Num, .int .i64 s.Den, .int .i64 s.East, .int .i64 s.North] := by
  obtain ⟨cs, rfl, hl, hc⟩ := open_one_struct (P := Try.prog) Try.underlying38 (by kernel_rfl) (by kernel_rfl) hv h
  obtain ⟨c0, h0, k0⟩ := hc 0 _ rfl
  obtain ⟨z0, rfl⟩ := k0.1 Try.underlying3
  obtain ⟨c1, h1, k1⟩ := hc 1 _ rfl
  obtain ⟨z1, rfl⟩ := k1.1 Try.underlying3
  obtain ⟨c2, h2, k2⟩ := hc 2 _ rfl
  obtain ⟨z2, rfl⟩ := k2.1 Try.underlying3
  obtain ⟨c3, h3, k3⟩ := hc 3 _ rfl
  obtain ⟨z3, rfl⟩ := k3.1 Try.underlying3
  obtain ⟨c4, h4, k4⟩ := hc 4 _ rfl
  obtain ⟨z4, rfl⟩ := k4.1 Try.underlying3
  have e : cs = [.int .i64 z0, .int .i64 z1, .int .i64 z2, .int .i64 z3, .int .i64 z4] := by
    apply List.ext_getElem?
    intro j
    by_cases hj : j < 5
    · rcases (show j = 0 ∨ j = 1 ∨ j = 2 ∨ j = 3 ∨ j = 4 by omega) with rfl | rfl | rfl | rfl | rfl
      all_goals first | exact h0 | exact h1 | exact h2 | exact h3 | exact h4
    · rw [List.getElem?_eq_none (by simp at hl; omega), List.getElem?_eq_none (by simp; omega)]
  subst e
  exact ⟨⟨z0, z1, z2, z3, z4⟩, rfl⟩
set_option maxRecDepth 100000 in
theorem open_GridTurnS {H : Type} {enc : TypeId × Value → H} {W : World} {base : Nat} {held : Bool} {a : Option Addr} {len cap : Nat} {d : DataW H} {p : List MemPlace}
    (h : DataW.Trod enc Try.prog W base (fun _ => true) held 43 (.slice a len cap) d p) : ∃ xs : List VGridTurn, IsGridTurnS W a len cap xs := by
  obtain ⟨fuel, hf⟩ := h
  rcases open_one_structs Try.underlying43 Try.underlying38 (by kernel_rfl) (by kernel_rfl) (by decide) hf with ⟨rfl, rfl, rfl⟩ | ⟨b, o, ha, hl, hm, hb, hc⟩
  · exact ⟨[], nil_IsGridTurnS W⟩
  · have each : ∀ i, i < len → ∃ s : VGridTurn, GridTurnAt W b (o + i * 5) s := by
      intro i hi
      obtain ⟨c0, h0, k0⟩ := hc i hi 0 _ rfl
      obtain ⟨z0, rfl⟩ := k0.1 Try.underlying3
      obtain ⟨c1, h1, k1⟩ := hc i hi 1 _ rfl
      obtain ⟨z1, rfl⟩ := k1.1 Try.underlying3
      obtain ⟨c2, h2, k2⟩ := hc i hi 2 _ rfl
      obtain ⟨z2, rfl⟩ := k2.1 Try.underlying3
      obtain ⟨c3, h3, k3⟩ := hc i hi 3 _ rfl
      obtain ⟨z3, rfl⟩ := k3.1 Try.underlying3
      obtain ⟨c4, h4, k4⟩ := hc i hi 4 _ rfl
      obtain ⟨z4, rfl⟩ := k4.1 Try.underlying3
      exact ⟨⟨z0, z1, z2, z3, z4⟩, h0, h1, h2, h3, h4⟩
    obtain ⟨pick, hpick⟩ := Classical.axiomOfChoice (r := fun (i : Fin len) (s : VGridTurn) => GridTurnAt W b (o + i.1 * 5) s) (fun i => each i.1 i.2)
    refine ⟨(List.finRange len).map pick, by simp, hl, hm, ?_⟩
    rcases ha with h0 | rfl
    · exact .inl h0
    · by_cases h0 : len = 0
      · exact .inl h0
      · refine .inr ⟨b, o, rfl, hb (by omega), fun k s hs => ?_⟩
        obtain ⟨hk, rfl⟩ := List.getElem?_eq_some_iff.1 hs
        have hk' : k < len := by simpa using hk
        have := hpick ⟨k, hk'⟩
        simpa using this
theorem infoGridTurn : (Try.prog.info? 40).map (fun i => (i.zero, i.size, i.bytes)) = some (some (.agg #[.int .i64 0, .int .i64 0, .int .i64 0, .int .i64 0, .int .i64 0]), 5, 40) := by kernel_rfl
def cellsGridTurn (xs : List VGridTurn) : List Value := xs.flatMap VGridTurn.vals
theorem cellsGridTurn_len (xs : List VGridTurn) : (cellsGridTurn xs).length = xs.length * 5 := by
  induction xs with
  | nil => rfl
  | cons x xs ih => simp [cellsGridTurn, VGridTurn.vals_len] at *; omega
theorem cellsGridTurn_append (xs ys : List VGridTurn) : cellsGridTurn (xs ++ ys) = cellsGridTurn xs ++ cellsGridTurn ys := by simp [cellsGridTurn]
theorem cellsGridTurn_snoc (xs : List VGridTurn) (s : VGridTurn) : cellsGridTurn (xs ++ [s]) = cellsGridTurn xs ++ s.vals := by simp [cellsGridTurn]
theorem cellsGridTurn_at {xs : List VGridTurn} {k : Nat} {s : VGridTurn} (h : xs[k]? = some s) (j : Nat) (hj : j < 5) : (cellsGridTurn xs)[k * 5 + j]? = s.vals[j]? := by
  have hk : k < xs.length := (List.getElem?_eq_some_iff.1 h).1
  have e : xs = xs.take k ++ s :: xs.drop (k + 1) := by
    have h2 := List.take_append_drop k xs
    rw [List.drop_eq_getElem_cons hk] at h2
    have : xs[k] = s := by rw [List.getElem?_eq_getElem hk] at h; simpa using h
    rw [this] at h2; exact h2.symm
  have hl : (cellsGridTurn (xs.take k)).length = k * 5 := by rw [cellsGridTurn_len, List.length_take]; omega
  rw [e, show cellsGridTurn (xs.take k ++ s :: xs.drop (k + 1)) = cellsGridTurn (xs.take k) ++ (s.vals ++ cellsGridTurn (xs.drop (k + 1))) from by simp [cellsGridTurn], List.getElem?_append_right (by omega), hl, show k * 5 + j - k * 5 = j from by omega, List.getElem?_append_left (by rw [VGridTurn.vals_len]; exact hj)]
theorem isGridTurnS_own {w : World} {base : Nat} {v : Value} {xs : List VGridTurn} (h : w.ownsRow base 40 5 v xs.length (cellsGridTurn xs)) :
    ∃ a cap, v = .slice a xs.length cap ∧ IsGridTurnS w a xs.length cap xs ∧ ∀ b o, a = some ⟨b, o, none⟩ → v.ownBlock = some b := by
  have hlt := h.lt
  rcases h.2 with ⟨rfl, h0⟩ | ⟨g, cap, cur, rfl, hg, hh, hn, hcap, hsz, htake⟩
  · exact ⟨none, 0, by rw [h0], ⟨by rw [h0], by omega, by simp [maxLen], .inl h0⟩, fun _ _ h => by cases h⟩
  · refine ⟨some ⟨g, 0, none⟩, cap, rfl, ⟨rfl, hn, hcap, ?_⟩, fun b o h => by cases h; rfl⟩
    by_cases hz : xs.length = 0
    · exact .inl hz
    · refine .inr ⟨g, 0, rfl, (hlt g rfl).2, fun k s hs => ?_⟩
      have each : ∀ j u, j < 5 → s.vals[j]? = some u → w.cell? ⟨g, 0 + k * 5 + j, none⟩ = some u := fun j u hj hu => by
        have hc := h.cells (g := g) rfl (k * 5 + j) u ((cellsGridTurn_at hs j hj).trans hu)
        rw [add_plain, ← Nat.add_assoc] at hc; exact hc
      exact ⟨each 0 _ (by decide) rfl, each 1 _ (by decide) rfl, each 2 _ (by decide) rfl, each 3 _ (by decide) rfl, each 4 _ (by decide) rfl⟩
theorem nil_ownGridTurn (w : World) (base : Nat) : w.ownsRow base 40 5 (.slice none 0 0) ([] : List VGridTurn).length (cellsGridTurn []) := ⟨by simp [cellsGridTurn], .inl ⟨rfl, rfl⟩⟩
theorem cell_GridTurn (w : World) (s : VGridTurn) (t : TypeId) : ∀ j u, s.vals[j]? = some u → (w.alloc (.cells #[.int .i64 s.Quarters, .int .i64 s.Num, .int .i64 s.Den, .int .i64 s.East, .int .i64 s.North] t)).cell? ((⟨w.heap.size, 0, none⟩ : Addr).add j) = some u := by
  intro j u hj
  rw [add_plain, Nat.zero_add, World.cell?_alloc_new]
  simpa [VGridTurn.vals] using hj
theorem cell_GridTurn2 (w : World) (o : Obj) (s : VGridTurn) (t : TypeId) : ∀ j u, s.vals[j]? = some u → ((w.alloc o).alloc (.cells #[.int .i64 s.Quarters, .int .i64 s.Num, .int .i64 s.Den, .int .i64 s.East, .int .i64 s.North] t)).cell? ((⟨w.heap.size + 1, 0, none⟩ : Addr).add j) = some u := by
  have h := cell_GridTurn (w.alloc o) s t
  rw [show (w.alloc o).heap.size = w.heap.size + 1 from by show (w.heap.push o).size = _; simp] at h
  exact h
/-- What is left of a row of the call's own when it is cut behind some elements. -/
theorem take_ownGridTurn {w : World} {base : Nat} {a : Option Addr} {cap k : Nat} {xs : List VGridTurn} (h : w.ownsRow base 40 5 (.slice a xs.length cap) xs.length (cellsGridTurn xs)) (hk : k ≤ xs.length) :
    w.ownsRow base 40 5 (.slice a k cap) k (cellsGridTurn (xs.take k)) := by
  have hl : (cellsGridTurn (xs.take k)).length = k * 5 := by rw [cellsGridTurn_len, List.length_take]; omega
  refine ⟨hl, ?_⟩
  rcases h.2 with ⟨h0, h1⟩ | ⟨g, cap', cur, e, hg, hh, hn, hcap, hsz, htake⟩
  · simp only [Value.slice.injEq] at h0
    obtain ⟨rfl, h2, rfl⟩ := h0
    exact .inl ⟨by rw [show k = 0 by omega], by omega⟩
  · cases e
    refine .inr ⟨g, cap, cur, rfl, hg, hh, by omega, hcap, hsz, ?_⟩
    have e2 : cellsGridTurn xs = cellsGridTurn (xs.take k) ++ cellsGridTurn (xs.drop k) := by
      unfold cellsGridTurn
      rw [← List.flatMap_append, List.take_append_drop]
    have h3 := congrArg (List.take (k * 5)) htake
    rw [List.take_take, Nat.min_eq_left (by have := Nat.mul_le_mul_right 5 hk; omega), e2, List.take_append_of_le_length (by omega), List.take_of_length_le (show (cellsGridTurn (xs.take k)).length ≤ k * 5 by omega)] at h3
    exact h3
/-- A slice of them, as what is appended. -/
theorem srcGridTurn {w : World} {a : Option Addr} {len cap : Nat} {xs : List VGridTurn} (h : IsGridTurnS w a len cap xs) : SrcAt w a len 5 (cellsGridTurn xs) := by
  refine ⟨by rw [cellsGridTurn_len, h.1], ?_⟩
  rcases h.2.2.2 with h0 | ⟨b, o, rfl, hb, hat⟩
  · exact .inl h0
  · refine .inr ⟨_, rfl, fun j u hj => ?_⟩
    rw [add_plain]
    have hl := (List.getElem?_eq_some_iff.1 hj).1
    rw [cellsGridTurn_len] at hl
    obtain ⟨k, r, rfl, hr⟩ : ∃ k r, j = k * 5 + r ∧ r < 5 := ⟨j / 5, j % 5, by omega, Nat.mod_lt _ (by decide)⟩
    have hk : k < xs.length := by omega
    have hs : xs[k]? = some xs[k] := List.getElem?_eq_getElem hk
    have hu := cellsGridTurn_at hs r hr
    rw [hj] at hu
    have ha := hat k _ hs
    rw [← Nat.add_assoc]
    rcases (show r = 0 ∨ r = 1 ∨ r = 2 ∨ r = 3 ∨ r = 4 by omega) with rfl | rfl | rfl | rfl | rfl
    · rw [hu]; exact ha.1
    · rw [hu]; exact ha.2.1
    · rw [hu]; exact ha.2.2.1
    · rw [hu]; exact ha.2.2.2.1
    · rw [hu]; exact ha.2.2.2.2
/-- Block b holds it, all of it, and may be written. -/
def HBGridTurn (w : World) (b : Nat) (s : VGridTurn) : Prop := w.heap[b]? = some (.cells #[.int .i64 s.Quarters, .int .i64 s.Num, .int .i64 s.Den, .int .i64 s.East, .int .i64 s.North] 40 (0, 0))
theorem HBGridTurn.lt {w : World} {b : Nat} {s : VGridTurn} (h : HBGridTurn w b s) : b < w.heap.size := (Array.getElem?_eq_some_iff.1 h).1
theorem HBGridTurn.new (w : World) (s : VGridTurn) (B : Nat) (hB : w.heap.size = B) : HBGridTurn (w.alloc (.cells #[.int .i64 s.Quarters, .int .i64 s.Num, .int .i64 s.Den, .int .i64 s.East, .int .i64 s.North] 40)) B s := hB ▸ heap_alloc_new w _
theorem HBGridTurn.below {w w' : World} {b : Nat} {s : VGridTurn} (h : HBGridTurn w b s) (hb : Below w.heap.size w w') : HBGridTurn w' b s := (hb.block b h.lt).trans h
theorem HBGridTurn.grown {w w' : World} {b : Nat} {s : VGridTurn} {row : Option Nat} (h : HBGridTurn w b s) (hg : w.grownBy w' row) (hne : some b ≠ row) : HBGridTurn w' b s := (hg.block b h.lt hne).trans h
theorem HBGridTurn.drew {w : World} {b : Nat} {s : VGridTurn} (h : HBGridTurn w b s) : HBGridTurn w.drew b s := h
theorem HBGridTurn.alloc {w : World} {b : Nat} {s : VGridTurn} (h : HBGridTurn w b s) (o : Obj) : HBGridTurn (w.alloc o) b s := (Below.heap_alloc w o b h.lt).trans h
theorem HBGridTurn.other {w : World} {b b' j : Nat} {s : VGridTurn} (h : HBGridTurn w b s) (hne : b ≠ b') (u : Value) : HBGridTurn (w.setCell ⟨b', j, none⟩ u) b s := (heap_setCell_other w ⟨b', j, none⟩ b u hne).trans h
theorem HBGridTurn.cells {w : World} {b : Nat} {s : VGridTurn} (h : HBGridTurn w b s) : w.cell? ⟨b, 0, none⟩ = some (.int .i64 s.Quarters) ∧ w.cell? ⟨b, 1, none⟩ = some (.int .i64 s.Num) ∧ w.cell? ⟨b, 2, none⟩ = some (.int .i64 s.Den) ∧ w.cell? ⟨b, 3, none⟩ = some (.int .i64 s.East) ∧ w.cell? ⟨b, 4, none⟩ = some (.int .i64 s.North) := by
  unfold HBGridTurn at h
  refine ⟨?_, ?_, ?_, ?_, ?_⟩ <;> simp [World.cell?, h]
theorem HBGridTurn.free {w : World} {b : Nat} {s : VGridTurn} (h : HBGridTurn w b s) (j : Nat) : w.frozen? ⟨b, j, none⟩ = false := by
  unfold HBGridTurn at h
  simp [World.frozen?, h]
theorem HBGridTurn.set0 {w : World} {b : Nat} {s : VGridTurn} (h : HBGridTurn w b s) (v : Int) : HBGridTurn (w.setCell ⟨b, 0, none⟩ (.int .i64 v)) b ⟨v, s.Num, s.Den, s.East, s.North⟩ := heap_setCell_same w b 0 _ _ _ h
theorem HBGridTurn.set1 {w : World} {b : Nat} {s : VGridTurn} (h : HBGridTurn w b s) (v : Int) : HBGridTurn (w.setCell ⟨b, 1, none⟩ (.int .i64 v)) b ⟨s.Quarters, v, s.Den, s.East, s.North⟩ := heap_setCell_same w b 1 _ _ _ h
theorem HBGridTurn.set2 {w : World} {b : Nat} {s : VGridTurn} (h : HBGridTurn w b s) (v : Int) : HBGridTurn (w.setCell ⟨b, 2, none⟩ (.int .i64 v)) b ⟨s.Quarters, s.Num, v, s.East, s.North⟩ := heap_setCell_same w b 2 _ _ _ h
theorem HBGridTurn.set3 {w : World} {b : Nat} {s : VGridTurn} (h : HBGridTurn w b s) (v : Int) : HBGridTurn (w.setCell ⟨b, 3, none⟩ (.int .i64 v)) b ⟨s.Quarters, s.Num, s.Den, v, s.North⟩ := heap_setCell_same w b 3 _ _ _ h
theorem HBGridTurn.set4 {w : World} {b : Nat} {s : VGridTurn} (h : HBGridTurn w b s) (v : Int) : HBGridTurn (w.setCell ⟨b, 4, none⟩ (.int .i64 v)) b ⟨s.Quarters, s.Num, s.Den, s.East, v⟩ := heap_setCell_same w b 4 _ _ _ h
theorem HBGridTurn.setAll {w : World} {b : Nat} {s : VGridTurn} (h : HBGridTurn w b s) (t : VGridTurn) : HBGridTurn (((((w.setCell ⟨b, 0, none⟩ (.int .i64 t.Quarters)).setCell ⟨b, 1, none⟩ (.int .i64 t.Num)).setCell ⟨b, 2, none⟩ (.int .i64 t.Den)).setCell ⟨b, 3, none⟩ (.int .i64 t.East)).setCell ⟨b, 4, none⟩ (.int .i64 t.North)) b t :=
  (heap_setCell_same _ b 4 _ _ _ (heap_setCell_same _ b 3 _ _ _ (heap_setCell_same _ b 2 _ _ _ (heap_setCell_same _ b 1 _ _ _ (heap_setCell_same _ b 0 _ _ _ h)))))
theorem HBGridTurn.otherAll {w : World} {b b' : Nat} {s : VGridTurn} (h : HBGridTurn w b s) (hne : b ≠ b') (x0 x1 x2 x3 x4 : Value) : HBGridTurn (((((w.setCell ⟨b', 0, none⟩ x0).setCell ⟨b', 1, none⟩ x1).setCell ⟨b', 2, none⟩ x2).setCell ⟨b', 3, none⟩ x3).setCell ⟨b', 4, none⟩ x4) b s :=
  (((((h.other hne x0).other hne x1).other hne x2).other hne x3).other hne x4)
/-- It lies in the box b of some type. -/
def BoxGridTurn (w : World) (b : Nat) (s : VGridTurn) : Prop := w.cell? ⟨b, 0, none⟩ = some (.int .i64 s.Quarters) ∧ w.cell? ⟨b, 1, none⟩ = some (.int .i64 s.Num) ∧ w.cell? ⟨b, 2, none⟩ = some (.int .i64 s.Den) ∧ w.cell? ⟨b, 3, none⟩ = some (.int .i64 s.East) ∧ w.cell? ⟨b, 4, none⟩ = some (.int .i64 s.North)
theorem BoxGridTurn.new (w : World) (t : TypeId) (s : VGridTurn) (B : Nat) (hB : w.heap.size = B) : BoxGridTurn (w.alloc (.cells #[.int .i64 s.Quarters, .int .i64 s.Num, .int .i64 s.Den, .int .i64 s.East, .int .i64 s.North] t)) B s := by
  subst hB
  refine ⟨?_, ?_, ?_, ?_, ?_⟩ <;> simp [World.cell?_alloc_new]
theorem BoxGridTurn.lt {w : World} {b : Nat} {s : VGridTurn} (h : BoxGridTurn w b s) : b < w.heap.size := World.lt_of_cell h.1
theorem BoxGridTurn.below {w w' : World} {b : Nat} {s : VGridTurn} (h : BoxGridTurn w b s) (hb : Below w.heap.size w w') : BoxGridTurn w' b s :=
  ⟨(hb.cell (p := ⟨b, 0, none⟩) h.lt).trans h.1, (hb.cell (p := ⟨b, 1, none⟩) h.lt).trans h.2.1, (hb.cell (p := ⟨b, 2, none⟩) h.lt).trans h.2.2.1, (hb.cell (p := ⟨b, 3, none⟩) h.lt).trans h.2.2.2.1, (hb.cell (p := ⟨b, 4, none⟩) h.lt).trans h.2.2.2.2⟩
theorem BoxGridTurn.grown {w w' : World} {b : Nat} {s : VGridTurn} {row : Option Nat} (h : BoxGridTurn w b s) (hg : w.grownBy w' row) (hne : some b ≠ row) : BoxGridTurn w' b s :=
  ⟨(World.cell?_of_block (w := w) (a := ⟨b, 0, none⟩) (hg.block b h.lt hne)).trans h.1, (World.cell?_of_block (w := w) (a := ⟨b, 1, none⟩) (hg.block b h.lt hne)).trans h.2.1, (World.cell?_of_block (w := w) (a := ⟨b, 2, none⟩) (hg.block b h.lt hne)).trans h.2.2.1, (World.cell?_of_block (w := w) (a := ⟨b, 3, none⟩) (hg.block b h.lt hne)).trans h.2.2.2.1, (World.cell?_of_block (w := w) (a := ⟨b, 4, none⟩) (hg.block b h.lt hne)).trans h.2.2.2.2⟩
set_option maxHeartbeats 3200000 in
theorem toGridTurn_any (s : VGridTurn) (w : World) :
    Calls Try.prog 25 #[.agg #[.int .i64 s.Quarters, .int .i64 s.Num, .int .i64 s.Den, .int .i64 s.East, .int .i64 s.North]] w fun e w' => e = .returned (.agg #[.int .i64 s.Quarters, .int .i64 s.Num, .int .i64 s.Den, .int .i64 s.East, .int .i64 s.North]) ∧ Below w.heap.size w w' := by
  go_enter Try.func25, Try.ntmps25
  go_wp2
  refine bodyPost_ret (v := .agg #[.int .i64 s.Quarters, .int .i64 s.Num, .int .i64 s.Den, .int .i64 s.East, .int .i64 s.North]) (by simp [results, Try.results25, go_sem]) rfl ⟨rfl, ?_⟩
  repeat (first | exact Below.refl _ _ | refine Below.setCell ?_ (by simp; try omega) _ | refine Below.alloc ?_ (by simp; try omega) _)
set_option maxHeartbeats 3200000 in
theorem eqGridTurn_yes (s : VGridTurn) (w : World) :
    Calls Try.prog 67 #[.agg #[.int .i64 s.Quarters, .int .i64 s.Num, .int .i64 s.Den, .int .i64 s.East, .int .i64 s.North], .agg #[.int .i64 s.Quarters, .int .i64 s.Num, .int .i64 s.Den, .int .i64 s.East, .int .i64 s.North]] w fun e w' => e = .returned (.bool true) ∧ Below w.heap.size w w' := by
  go_enter Try.func67, Try.ntmps67
  go_wp2
  go_ret
  exact ⟨rfl, by repeat (first | exact Below.refl _ _ | refine Below.alloc ?_ (by simp; try omega) _)⟩
set_option maxHeartbeats 400000 in
theorem szGridTurnS_any (a : Option Addr) (len cap : Nat) (xs : List VGridTurn) (left : Int) (w : World) (h : IsGridTurnS w a len cap xs) (h0 : 0 ≤ left) (h1 : left ≤ 1048576) :
    Calls Try.prog 27 #[.slice a len cap, .int .i64 left] w fun e w' => ∃ z : Int, e = .returned (.int .i64 z) ∧ z ≤ left ∧ (0 ≤ z → len ≤ 1048576) ∧ Below w.heap.size w w' := by
  have hl : len ≤ maxLen := Nat.le_trans h.2.1 h.2.2.1
  unfold maxLen at hl
  clear h
  by_cases hlt : left < (len : Int)
  · have hn : left - (len : Int) < 0 := by omega
    go_enter Try.func27, Try.ntmps27
    go_wp2
    go_ret
    exact ⟨-1, rfl, by omega, by omega, Below.refl _ _⟩
  · have hn : 0 ≤ left - (len : Int) := by omega
    go_enter Try.func27, Try.ntmps27
    go_wp2
    go_ret
    exact ⟨_, rfl, by omega, fun _ => by omega, Below.refl _ _⟩
def zerosGridTurn (n : Nat) : List Value := (List.replicate n [.int .i64 0, .int .i64 0, .int .i64 0, .int .i64 0, .int .i64 0]).flatten
theorem zerosGridTurn_succ (n : Nat) : zerosGridTurn (n + 1) = .int .i64 0 :: .int .i64 0 :: .int .i64 0 :: .int .i64 0 :: .int .i64 0 :: zerosGridTurn n := by
  unfold zerosGridTurn; rw [List.replicate_succ]; rfl
theorem zerosGridTurn_len (n : Nat) : (zerosGridTurn n).length = n * 5 := by
  induction n with
  | zero => rfl
  | succ n ih => rw [zerosGridTurn_succ]; simp [ih]; omega
theorem zerosGridTurn_at (n j : Nat) (h : j < n * 5) : (zerosGridTurn n)[j]? = [.int .i64 0, .int .i64 0, .int .i64 0, .int .i64 0, .int .i64 0][j % 5]? := by
  induction n generalizing j with
  | zero => omega
  | succ n ih =>
    rw [zerosGridTurn_succ]
    by_cases hj : j < 5
    · rw [Nat.mod_eq_of_lt hj]
      rcases (show j = 0 ∨ j = 1 ∨ j = 2 ∨ j = 3 ∨ j = 4 by omega) with rfl | rfl | rfl | rfl | rfl <;> rfl
    · obtain ⟨i, rfl⟩ : ∃ i, j = i + 5 := ⟨j - 5, by omega⟩
      rw [Nat.add_mod_right, ← ih i (by omega)]
      rfl
theorem madeGridTurn (n : Nat) : (madeCells (.agg #[.int .i64 0, .int .i64 0, .int .i64 0, .int .i64 0, .int .i64 0] : Value).cells (n * 5)).toList = zerosGridTurn n := by
  apply List.ext_getElem?
  intro j
  rw [Array.getElem?_toList]
  by_cases h : j < n * 5
  · rw [zerosGridTurn_at n j h]
    have hm : j % 5 < 5 := Nat.mod_lt _ (by decide)
    simp only [madeCells, Value.cells]
    rw [Array.getElem?_eq_getElem (by simpa using h)]
    rcases (show j % 5 = 0 ∨ j % 5 = 1 ∨ j % 5 = 2 ∨ j % 5 = 3 ∨ j % 5 = 4 by omega) with e | e | e | e | e <;> simp [e]
  · rw [List.getElem?_eq_none (by rw [zerosGridTurn_len]; omega)]
    simp [madeCells, h]
theorem setGridTurn (A L : List Value) (v0 v1 v2 v3 v4 : Value) (o : Nat) (hA : A.length = o) (hL : o + 5 ≤ L.length) :
    ((((((A ++ L.drop o).set (o) v0).set (o + 1) v1).set (o + 2) v2).set (o + 3) v3).set (o + 4) v4) = A ++ v0 :: v1 :: v2 :: v3 :: v4 :: L.drop (o + 5) := by
  subst hA
  obtain ⟨a0, a1, a2, a3, a4, e⟩ : ∃ a0 a1 a2 a3 a4, L.drop A.length = a0 :: a1 :: a2 :: a3 :: a4 :: L.drop (A.length + 5) := ⟨_, _, _, _, _, by rw [List.drop_eq_getElem_cons (show A.length < L.length by omega), List.drop_eq_getElem_cons (show A.length + 1 < L.length by omega), List.drop_eq_getElem_cons (show A.length + 2 < L.length by omega), List.drop_eq_getElem_cons (show A.length + 3 < L.length by omega), List.drop_eq_getElem_cons (show A.length + 4 < L.length by omega)]⟩
  rw [e]
  generalize L.drop (A.length + 5) = D
  simp [List.set_append_right]
theorem storedGridTurn {w : World} {base n c g o : Nat} {e : TypeId} {size : Nat} {A L : List Value} (h : w.ownsRow base e size (.slice (some ⟨g, 0, none⟩) n c) n (A ++ L.drop o)) (hA : A.length = o) (hL : o + 5 ≤ L.length) (v0 v1 v2 v3 v4 : Value) :
    (((((w.setCell ⟨g, o, none⟩ v0).setCell ⟨g, o + 1, none⟩ v1).setCell ⟨g, o + 2, none⟩ v2).setCell ⟨g, o + 3, none⟩ v3).setCell ⟨g, o + 4, none⟩ v4).ownsRow base e size (.slice (some ⟨g, 0, none⟩) n c) n (A ++ v0 :: v1 :: v2 :: v3 :: v4 :: L.drop (o + 5)) ∧ w.grownBy (((((w.setCell ⟨g, o, none⟩ v0).setCell ⟨g, o + 1, none⟩ v1).setCell ⟨g, o + 2, none⟩ v2).setCell ⟨g, o + 3, none⟩ v3).setCell ⟨g, o + 4, none⟩ v4) (some g) := by
  have h0 := h.stored (o) v0
  have h1 := h0.1.stored (o + 1) v1
  have h2 := h1.1.stored (o + 2) v2
  have h3 := h2.1.stored (o + 3) v3
  have h4 := h3.1.stored (o + 4) v4
  refine ⟨?_, (grown_trans (grown_trans (grown_trans (grown_trans h0.2 h1.2) h2.2) h3.2) h4.2)⟩
  have := h4.1
  rw [setGridTurn A L v0 v1 v2 v3 v4 o hA hL] at this
  exact this
/-- A row of the call's own, and the world below as it was. -/
def GridTurnRow (xs : List VGridTurn) (w : World) (e : Ending) (w' : World) : Prop := ∃ v, e = .returned v ∧ w'.ownsRow w.heap.size 40 5 v xs.length (cellsGridTurn xs) ∧ Below w.heap.size w w'
theorem cellsGridTurn_drop (xs : List VGridTurn) (i : Nat) : (cellsGridTurn xs).drop (i * 5) = cellsGridTurn (xs.drop i) := by
  by_cases h : i ≤ xs.length
  · have e : cellsGridTurn xs = cellsGridTurn (xs.take i) ++ cellsGridTurn (xs.drop i) := by
      unfold cellsGridTurn
      rw [← List.flatMap_append, List.take_append_drop]
    have hl : (cellsGridTurn (xs.take i)).length = i * 5 := by rw [cellsGridTurn_len, List.length_take]; omega
    rw [e, List.drop_append_of_le_length (by omega), List.drop_of_length_le (by omega), List.nil_append]
  · rw [List.drop_of_length_le (show xs.length ≤ i by omega), List.drop_of_length_le (by rw [cellsGridTurn_len]; omega)]; rfl
theorem cellsGridTurn_take (xs : List VGridTurn) (i : Nat) : cellsGridTurn xs = cellsGridTurn (xs.take i) ++ (cellsGridTurn xs).drop (i * 5) := by
  rw [cellsGridTurn_drop]
  unfold cellsGridTurn
  rw [← List.flatMap_append, List.take_append_drop]
theorem cellsGridTurn_set (xs : List VGridTurn) (i : Nat) (r : VGridTurn) (h : i < xs.length) : cellsGridTurn (xs.set i r) = cellsGridTurn (xs.take i) ++ (r.vals ++ (cellsGridTurn xs).drop (i * 5 + 5)) := by
  rw [List.set_eq_take_append_cons_drop, if_pos h, show i * 5 + 5 = (i + 1) * 5 by omega, cellsGridTurn_drop]
  simp [cellsGridTurn]
/-- An element of a row of the call's own is replaced. -/
theorem own_setGridTurn {w : World} {base m c g i : Nat} {xs : List VGridTurn} (h : w.ownsRow base 40 5 (.slice (some ⟨g, 0, none⟩) m c) m (cellsGridTurn xs)) (hi : i < xs.length) (r : VGridTurn) :
    (((((w.setCell ⟨g, i * 5, none⟩ (.int .i64 r.Quarters)).setCell ⟨g, i * 5 + 1, none⟩ (.int .i64 r.Num)).setCell ⟨g, i * 5 + 2, none⟩ (.int .i64 r.Den)).setCell ⟨g, i * 5 + 3, none⟩ (.int .i64 r.East)).setCell ⟨g, i * 5 + 4, none⟩ (.int .i64 r.North)).ownsRow base 40 5 (.slice (some ⟨g, 0, none⟩) m c) m (cellsGridTurn (xs.set i r)) ∧ w.grownBy (((((w.setCell ⟨g, i * 5, none⟩ (.int .i64 r.Quarters)).setCell ⟨g, i * 5 + 1, none⟩ (.int .i64 r.Num)).setCell ⟨g, i * 5 + 2, none⟩ (.int .i64 r.Den)).setCell ⟨g, i * 5 + 3, none⟩ (.int .i64 r.East)).setCell ⟨g, i * 5 + 4, none⟩ (.int .i64 r.North)) (some g) := by
  rw [cellsGridTurn_set xs i r hi]
  rw [cellsGridTurn_take xs i] at h
  exact storedGridTurn h (by rw [cellsGridTurn_len, List.length_take]; omega) (by rw [cellsGridTurn_len]; omega) (.int .i64 r.Quarters) (.int .i64 r.Num) (.int .i64 r.Den) (.int .i64 r.East) (.int .i64 r.North)
set_option maxHeartbeats 3200000 in
set_option maxRecDepth 100000 in
theorem toGridTurnS_any (a : Option Addr) (len cap : Nat) (xs : List VGridTurn) (w : World) (h : IsGridTurnS w a len cap xs) (hsz : len ≤ 1048576) :
    Calls Try.prog 28 #[.slice a len cap] w (GridTurnRow xs w) := by
  obtain rfl := h.1
  obtain ⟨i0, hi, hz0, hz1, hz2⟩ := info_parts infoGridTurn
  have S := Lib.hid h
  clear h
  go_enter Try.func28, Try.ntmps28
  go_wp2_with (refine wpList_make_full _ rfl _ _ 24 rfl w.heap.size 40 i0 (.agg #[.int .i64 0, .int .i64 0, .int .i64 0, .int .i64 0, .int .i64 0]) 5 Try.underlying24 hi hz0 hz1 .i64 .i64 _ _ xs.length rfl rfl rfl rfl (by rw [hz2]; omega) (by unfold maxLen; omega) (Nat.le_refl _) ?_; intro w1 hown hgrow)
  have hb1 : Below w.heap.size w w1 := (Below.refl _ _).grown hgrow (Nat.le_refl _) (fun k e => by cases e)
  have H1 := Lib.hid hown
  have hg1 := (hown.lt w.heap.size rfl).2
  clear hown hgrow
  go_loopw [4] (fun i wr => ∃ k : Nat, k ≤ xs.length ∧ i = .int .i64 k ∧ Below w.heap.size w wr ∧ wr.ownsRow w.heap.size 40 5 (.slice (some ⟨w.heap.size, 0, none⟩) xs.length xs.length) xs.length (cellsGridTurn (xs.take k) ++ (zerosGridTurn xs.length).drop (k * 5))) (fun i _ => xs.length - (intOf i).toNat)
  case atStart => exact ⟨0, Nat.zero_le _, rfl, hb1, by have h := H1.out; rw [madeGridTurn] at h; simpa [cellsGridTurn] using h⟩
  case round =>
    obtain ⟨k, hk, rfl, hbel, hown⟩ := hrel
    have O := Lib.hid hown
    have B := Lib.hid hbel
    by_cases hlt : k < xs.length
    · obtain ⟨s, hs⟩ : ∃ s, xs[k]? = some s := ⟨xs[k]'hlt, List.getElem?_eq_getElem _⟩
      obtain ⟨b, o, rfl, hb, hat⟩ := (S.out.below hbel).at (by omega)
      obtain ⟨c0, c1, c2, c3, c4⟩ := hat k s hs
      have K := Lib.hid hs
      have hm := S.out.2.2.1
      unfold maxLen at hm
      clear hown hbel hs hat
      go_wp2_with fail
      refine (toGridTurn_any s _).mono ?_
      rintro e w2 ⟨rfl, hb2⟩
      have O2 := Lib.hid (ownsRow_below O.out hb2)
      have B2 := Lib.hid (Below.then' B.out hb2)
      clear hb2 c0 c1 c2 c3 c4
      have f0 := O2.out.frozenAt (k * 5)
      have f1 := O2.out.frozenAt (k * 5 + 1)
      have f2 := O2.out.frozenAt (k * 5 + 2)
      have f3 := O2.out.frozenAt (k * 5 + 3)
      have f4 := O2.out.frozenAt (k * 5 + 4)
      obtain ⟨u0, d0⟩ := own_cell O2.out (k * 5) (by rw [List.length_append, cellsGridTurn_len, List.length_take, List.length_drop, zerosGridTurn_len]; omega)
      obtain ⟨u1, d1⟩ := own_cell O2.out (k * 5 + 1) (by rw [List.length_append, cellsGridTurn_len, List.length_take, List.length_drop, zerosGridTurn_len]; omega)
      obtain ⟨u2, d2⟩ := own_cell O2.out (k * 5 + 2) (by rw [List.length_append, cellsGridTurn_len, List.length_take, List.length_drop, zerosGridTurn_len]; omega)
      obtain ⟨u3, d3⟩ := own_cell O2.out (k * 5 + 3) (by rw [List.length_append, cellsGridTurn_len, List.length_take, List.length_drop, zerosGridTurn_len]; omega)
      obtain ⟨u4, d4⟩ := own_cell O2.out (k * 5 + 4) (by rw [List.length_append, cellsGridTurn_len, List.length_take, List.length_drop, zerosGridTurn_len]; omega)
      go_wp2
      go_roundw
      case rel =>
        have h5 := storedGridTurn O2.out (by rw [cellsGridTurn_len, List.length_take]; omega) (by rw [zerosGridTurn_len]; omega) (.int .i64 s.Quarters) (.int .i64 s.Num) (.int .i64 s.Den) (.int .i64 s.East) (.int .i64 s.North)
        refine ⟨k + 1, by omega, by go_num, B2.out.grown h5.2 B2.out.size (fun j e => by cases e; exact Nat.le_refl _), ?_⟩
        rw [List.take_add_one, K.out, show (some s).toList = [s] from rfl, cellsGridTurn_snoc, List.append_assoc, show (k + 1) * 5 = k * 5 + 5 by omega]
        exact h5.1
      case measure => simp [intOf]; omega
    · obtain rfl : k = xs.length := by omega
      clear hown hbel
      have hm := S.out.2.2.1
      unfold maxLen at hm
      go_wp2
      go_ret
      refine ⟨_, rfl, ?_, B.out⟩
      have h := O.out
      rw [List.drop_of_length_le (by rw [zerosGridTurn_len]; omega), List.append_nil, List.take_of_length_le (Nat.le_refl _)] at h
      exact h
set_option maxHeartbeats 3200000 in
set_option maxRecDepth 100000 in
theorem eqGridTurnS_yes (a : Option Addr) (len cap : Nat) (a' : Option Addr) (len' cap' : Nat) (xs : List VGridTurn) (w : World) (h : IsGridTurnS w a len cap xs) (h' : IsGridTurnS w a' len' cap' xs) :
    Calls Try.prog 30 #[.slice a len cap, .slice a' len' cap'] w fun e w' => e = .returned (.bool true) ∧ Below w.heap.size w w' := by
  obtain rfl := h.1
  obtain rfl := h'.1
  have hm := h.2.2.1
  have hcl := h.2.1
  unfold maxLen at hm
  have S := Lib.hid h
  have S' := Lib.hid h'
  clear h h'
  go_enter Try.func30, Try.ntmps30
  go_wp2
  go_loopw [5] (fun i wr => ∃ k : Nat, k ≤ xs.length ∧ i = .int .i64 k ∧ Below w.heap.size w wr) (fun i _ => xs.length - (intOf i).toNat)
  case atStart => exact ⟨0, Nat.zero_le _, rfl, Below.refl _ _⟩
  case round =>
    obtain ⟨k, hk, rfl, hbel⟩ := hrel
    have B := Lib.hid hbel
    by_cases hlt : k < xs.length
    · obtain ⟨s, hs⟩ : ∃ s, xs[k]? = some s := ⟨xs[k]'hlt, List.getElem?_eq_getElem _⟩
      obtain ⟨b, o, rfl, hb, hat⟩ := (S.out.below hbel).at (by omega)
      obtain ⟨b', o', rfl, hb', hat'⟩ := (S'.out.below hbel).at (by omega)
      obtain ⟨c0, c1, c2, c3, c4⟩ := hat k s hs
      obtain ⟨d0, d1, d2, d3, d4⟩ := hat' k s hs
      have hi0 : (0 : Int) ≤ (k : Int) := by omega
      have hi1 : (k : Int) < (xs.length : Int) := by omega
      clear hbel hs hat hat'
      go_wp2
      go_region_with (go_at_call 67; refine (eqGridTurn_yes s _).mono ?_; rintro e w1 ⟨rfl, hb1⟩; have B1 := Lib.hid (Below.then' (bel_drew' B.out) hb1); clear hb1)
      all_goals go_wp2
      all_goals go_roundw
      all_goals first
        | exact ⟨k + 1, by omega, by go_num, B1.out⟩
        | (simp [intOf]; omega)
    · obtain rfl : k = xs.length := by omega
      clear hbel
      go_wp2
      go_ret
      exact ⟨rfl, B.out⟩
/-- The marks from b on, and n of them. -/
def markGridTurn (b : Nat) : VGridTurn := ⟨((b : Nat) : Int), ((b + 1 : Nat) : Int), ((b + 2 : Nat) : Int), ((b + 3 : Nat) : Int), ((b + 4 : Nat) : Int)⟩
def marksGridTurn (k n : Nat) : List VGridTurn := (List.range n).map fun i => markGridTurn (k + i * 5)
theorem marksGridTurn_len (k n : Nat) : (marksGridTurn k n).length = n := by simp [marksGridTurn]
theorem marksGridTurn_succ (k n : Nat) : marksGridTurn k (n + 1) = marksGridTurn k n ++ [markGridTurn (k + n * 5)] := by simp [marksGridTurn, List.range_succ]
theorem marksGridTurn_at (k n i : Nat) (h : i < n) : (marksGridTurn k n)[i]? = some (markGridTurn (k + i * 5)) := by simp [marksGridTurn, h]
def GridTurnMarked (base k n : Nat) (v : Value) (w : World) (e : Ending) (w' : World) : Prop := e = .returned (.int .i64 ((k + n * 5 : Nat) : Int)) ∧ w'.ownsRow base 40 5 v n (cellsGridTurn (marksGridTurn k n)) ∧ w.grownBy w' v.ownBlock
end Go.Proofs.Ytghgipadogdfiaa
