/- The struct Zone: its fields; one read from an argument; slices of it; and the laws' own helpers over it. (made by gen.py) -/
import Derived.Test.YtidaoijpbdljbabOpen2
import Derived.Test.YtidaoijpbdljbabBox0
import Derived.Test.YtidaoijpbdljbabAppL
import Derived.Test.YtidaoijpbdljbabReg
import Derived.Deep.RegionWith
import Derived.Laws.OwnMore
import Derived.Handy
import Derived.Laws.IdiomRangeMap
namespace Go.Proofs.Ytidaoijpbdljbab
open Go.RowKit Go.ChangeShapes Go.WideShapes Go.Deep

structure VZone where
  Id : Int
  West : Int
  South : Int
  East : Int
  North : Int
def VZone.vals (s : VZone) : List Value := [.int .i64 s.Id, .int .i64 s.West, .int .i64 s.South, .int .i64 s.East, .int .i64 s.North]
theorem VZone.vals_len (s : VZone) : s.vals.length = 5 := rfl
theorem VZone.vals_one (s : VZone) : ∀ u ∈ s.vals, u.oneCell' = true := by
  intro u hu
  simp [VZone.vals] at hu
  rcases hu with rfl | rfl | rfl | rfl | rfl <;> rfl
/-- It lies at block b from offset o on. -/
def ZoneAt (w : World) (b o : Nat) (s : VZone) : Prop :=
  w.cell? ⟨b, o, none⟩ = some (.int .i64 s.Id) ∧ w.cell? ⟨b, o + 1, none⟩ = some (.int .i64 s.West) ∧ w.cell? ⟨b, o + 2, none⟩ = some (.int .i64 s.South) ∧ w.cell? ⟨b, o + 3, none⟩ = some (.int .i64 s.East) ∧ w.cell? ⟨b, o + 4, none⟩ = some (.int .i64 s.North)
def IsZoneS (w : World) (a : Option Addr) (len cap : Nat) (xs : List VZone) : Prop :=
  len = xs.length ∧ len ≤ cap ∧ cap ≤ maxLen ∧ (len = 0 ∨ ∃ b o, a = some ⟨b, o, none⟩ ∧ b < w.heap.size ∧ ∀ (k : Nat) s, xs[k]? = some s → ZoneAt w b (o + k * 5) s)
theorem ZoneAt.below {w w' : World} {b o : Nat} {s : VZone} (h : ZoneAt w b o s) (hb : Below w.heap.size w w') (hlt : b < w.heap.size) : ZoneAt w' b o s :=
  ⟨(hb.cell (p := ⟨b, o, none⟩) hlt).trans h.1, (hb.cell (p := ⟨b, o + 1, none⟩) hlt).trans h.2.1, (hb.cell (p := ⟨b, o + 2, none⟩) hlt).trans h.2.2.1, (hb.cell (p := ⟨b, o + 3, none⟩) hlt).trans h.2.2.2.1, (hb.cell (p := ⟨b, o + 4, none⟩) hlt).trans h.2.2.2.2⟩
theorem ZoneAt.block {w w' : World} {b o : Nat} {s : VZone} (h : ZoneAt w b o s) (hb : w'.heap[b]? = w.heap[b]?) : ZoneAt w' b o s :=
  ⟨(World.cell?_of_block (w := w) (a := ⟨b, o, none⟩) hb).trans h.1, (World.cell?_of_block (w := w) (a := ⟨b, o + 1, none⟩) hb).trans h.2.1, (World.cell?_of_block (w := w) (a := ⟨b, o + 2, none⟩) hb).trans h.2.2.1, (World.cell?_of_block (w := w) (a := ⟨b, o + 3, none⟩) hb).trans h.2.2.2.1, (World.cell?_of_block (w := w) (a := ⟨b, o + 4, none⟩) hb).trans h.2.2.2.2⟩
theorem IsZoneS.below {w w' : World} {a : Option Addr} {len cap : Nat} {xs : List VZone} (h : IsZoneS w a len cap xs) (hb : Below w.heap.size w w') : IsZoneS w' a len cap xs := by
  refine ⟨h.1, h.2.1, h.2.2.1, ?_⟩
  rcases h.2.2.2 with h0 | ⟨b, o, rfl, h1, h2⟩
  · exact .inl h0
  · exact .inr ⟨b, o, rfl, Nat.lt_of_lt_of_le h1 hb.size, fun k s hs => (h2 k s hs).below hb h1⟩
theorem IsZoneS.grown {w w' : World} {a : Option Addr} {len cap : Nat} {xs : List VZone} {row : Option Nat} (h : IsZoneS w a len cap xs) (hg : w.grownBy w' row) (hne : ∀ b o, a = some ⟨b, o, none⟩ → some b ≠ row) : IsZoneS w' a len cap xs := by
  refine ⟨h.1, h.2.1, h.2.2.1, ?_⟩
  rcases h.2.2.2 with h0 | ⟨b, o, rfl, h1, h2⟩
  · exact .inl h0
  · exact .inr ⟨b, o, rfl, Nat.lt_of_lt_of_le h1 hg.size, fun k s hs => (h2 k s hs).block (hg.block b h1 (hne b o rfl))⟩
theorem IsZoneS.at {w : World} {a : Option Addr} {len cap : Nat} {xs : List VZone} (h : IsZoneS w a len cap xs) (hpos : 0 < len) : ∃ b o, a = some ⟨b, o, none⟩ ∧ b < w.heap.size ∧ ∀ (k : Nat) s, xs[k]? = some s → ZoneAt w b (o + k * 5) s := by
  rcases h.2.2.2 with h0 | h1
  · omega
  · exact h1
theorem nil_IsZoneS (w : World) : IsZoneS w none 0 0 [] := ⟨rfl, Nat.le_refl _, by simp [maxLen], .inl rfl⟩
set_option maxRecDepth 100000 in
theorem open_Zone {H : Type} {enc : TypeId × Value → H} {w : World} {base : Nat} {spare : Nat → Bool} {held : Bool} {r : Reach} {b0 : Nat} {v : Value} {d : DataW H} {p : List MemPlace}
    (hv : Value.okWide Try.prog w r b0 103 v) (h : DataW.Trod enc Try.prog w base spare held 103 v d p) : ∃ s : VZone, v = .agg #[.int .i64 s.Id, .int .i64 s.West, .int .i64 s.South, .int .i64 s.East, .int .i64 s.North] := by
  obtain ⟨cs, rfl, hl, hc⟩ := open_one_struct (P := Try.prog) Try.underlying103 (by kernel_rfl) (by kernel_rfl) hv h
  obtain ⟨c0, h0, k0⟩ := hc 0 _ rfl
  obtain ⟨z0, rfl⟩ := k0.1 Try.underlying3
  obtain ⟨c1, h1, k1⟩ := hc 1 _ rfl
  obtain ⟨z1, rfl⟩ := k1.1 Try.underlying3
  obtain ⟨c2, h2, k2⟩ := hc 2 _ rfl
  obtain ⟨z2, rfl⟩ := k2.1 Try.underlying3
  obtain ⟨c3, h3, k3⟩ := hc 3 _ rfl
  obtain ⟨z3, rfl⟩ := k3.1 Try.underlying3
  obtain ⟨c4, h4, k4⟩ := hc 4 _ rfl
  obtain ⟨z4, rfl⟩ := k4.1 Try.underlying3
  have e : cs = [.int .i64 z0, .int .i64 z1, .int .i64 z2, .int .i64 z3, .int .i64 z4] := by
    apply List.ext_getElem?
    intro j
    by_cases hj : j < 5
    · rcases (show j = 0 ∨ j = 1 ∨ j = 2 ∨ j = 3 ∨ j = 4 by omega) with rfl | rfl | rfl | rfl | rfl
      all_goals first | exact h0 | exact h1 | exact h2 | exact h3 | exact h4
    · rw [List.getElem?_eq_none (by simp at hl; omega), List.getElem?_eq_none (by simp; omega)]
  subst e
  exact ⟨⟨z0, z1, z2, z3, z4⟩, rfl⟩
set_option maxRecDepth 100000 in
theorem open_ZoneS {H : Type} {enc : TypeId × Value → H} {W : World} {base : Nat} {held : Bool} {a : Option Addr} {len cap : Nat} {d : DataW H} {p : List MemPlace}
    (h : DataW.Trod enc Try.prog W base (fun _ => true) held 39 (.slice a len cap) d p) : ∃ xs : List VZone, IsZoneS W a len cap xs := by
  obtain ⟨fuel, hf⟩ := h
  rcases open_one_structs Try.underlying39 Try.underlying103 (by kernel_rfl) (by kernel_rfl) (by decide) hf with ⟨rfl, rfl, rfl⟩ | ⟨b, o, ha, hl, hm, hb, hc⟩
  · exact ⟨[], nil_IsZoneS W⟩
  · have each : ∀ i, i < len → ∃ s : VZone, ZoneAt W b (o + i * 5) s := by
      intro i hi
      obtain ⟨c0, h0, k0⟩ := hc i hi 0 _ rfl
      obtain ⟨z0, rfl⟩ := k0.1 Try.underlying3
      obtain ⟨c1, h1, k1⟩ := hc i hi 1 _ rfl
      obtain ⟨z1, rfl⟩ := k1.1 Try.underlying3
      obtain ⟨c2, h2, k2⟩ := hc i hi 2 _ rfl
      obtain ⟨z2, rfl⟩ := k2.1 Try.underlying3
      obtain ⟨c3, h3, k3⟩ := hc i hi 3 _ rfl
      obtain ⟨z3, rfl⟩ := k3.1 Try.underlying3
      obtain ⟨c4, h4, k4⟩ := hc i hi 4 _ rfl
      obtain ⟨z4, rfl⟩ := k4.1 Try.underlying3
      exact ⟨⟨z0, z1, z2, z3, z4⟩, h0, h1, h2, h3, h4⟩
    obtain ⟨pick, hpick⟩ := Classical.axiomOfChoice (r := fun (i : Fin len) (s : VZone) => ZoneAt W b (o + i.1 * 5) s) (fun i => each i.1 i.2)
    refine ⟨(List.finRange len).map pick, by simp, hl, hm, ?_⟩
    rcases ha with h0 | rfl
    · exact .inl h0
    · by_cases h0 : len = 0
      · exact .inl h0
      · refine .inr ⟨b, o, rfl, hb (by omega), fun k s hs => ?_⟩
        obtain ⟨hk, rfl⟩ := List.getElem?_eq_some_iff.1 hs
        have hk' : k < len := by simpa using hk
        have := hpick ⟨k, hk'⟩
        simpa using this
theorem infoZone : (Try.prog.info? 50).map (fun i => (i.zero, i.size, i.bytes)) = some (some (.agg #[.int .i64 0, .int .i64 0, .int .i64 0, .int .i64 0, .int .i64 0]), 5, 40) := by kernel_rfl
def cellsZone (xs : List VZone) : List Value := xs.flatMap VZone.vals
theorem cellsZone_len (xs : List VZone) : (cellsZone xs).length = xs.length * 5 := by
  induction xs with
  | nil => rfl
  | cons x xs ih => simp [cellsZone, VZone.vals_len] at *; omega
theorem cellsZone_append (xs ys : List VZone) : cellsZone (xs ++ ys) = cellsZone xs ++ cellsZone ys := by simp [cellsZone]
theorem cellsZone_snoc (xs : List VZone) (s : VZone) : cellsZone (xs ++ [s]) = cellsZone xs ++ s.vals := by simp [cellsZone]
theorem cellsZone_at {xs : List VZone} {k : Nat} {s : VZone} (h : xs[k]? = some s) (j : Nat) (hj : j < 5) : (cellsZone xs)[k * 5 + j]? = s.vals[j]? := by
  have hk : k < xs.length := (List.getElem?_eq_some_iff.1 h).1
  have e : xs = xs.take k ++ s :: xs.drop (k + 1) := by
    have h2 := List.take_append_drop k xs
    rw [List.drop_eq_getElem_cons hk] at h2
    have : xs[k] = s := by rw [List.getElem?_eq_getElem hk] at h; simpa using h
    rw [this] at h2; exact h2.symm
  have hl : (cellsZone (xs.take k)).length = k * 5 := by rw [cellsZone_len, List.length_take]; omega
  rw [e, show cellsZone (xs.take k ++ s :: xs.drop (k + 1)) = cellsZone (xs.take k) ++ (s.vals ++ cellsZone (xs.drop (k + 1))) from by simp [cellsZone], List.getElem?_append_right (by omega), hl, show k * 5 + j - k * 5 = j from by omega, List.getElem?_append_left (by rw [VZone.vals_len]; exact hj)]
theorem isZoneS_own {w : World} {base : Nat} {v : Value} {xs : List VZone} (h : w.ownsRow base 50 5 v xs.length (cellsZone xs)) :
    ∃ a cap, v = .slice a xs.length cap ∧ IsZoneS w a xs.length cap xs ∧ ∀ b o, a = some ⟨b, o, none⟩ → v.ownBlock = some b := by
  have hlt := h.lt
  rcases h.2 with ⟨rfl, h0⟩ | ⟨g, cap, cur, rfl, hg, hh, hn, hcap, hsz, htake⟩
  · exact ⟨none, 0, by rw [h0], ⟨by rw [h0], by omega, by simp [maxLen], .inl h0⟩, fun _ _ h => by cases h⟩
  · refine ⟨some ⟨g, 0, none⟩, cap, rfl, ⟨rfl, hn, hcap, ?_⟩, fun b o h => by cases h; rfl⟩
    by_cases hz : xs.length = 0
    · exact .inl hz
    · refine .inr ⟨g, 0, rfl, (hlt g rfl).2, fun k s hs => ?_⟩
      have each : ∀ j u, j < 5 → s.vals[j]? = some u → w.cell? ⟨g, 0 + k * 5 + j, none⟩ = some u := fun j u hj hu => by
        have hc := h.cells (g := g) rfl (k * 5 + j) u ((cellsZone_at hs j hj).trans hu)
        rw [add_plain, ← Nat.add_assoc] at hc; exact hc
      exact ⟨each 0 _ (by decide) rfl, each 1 _ (by decide) rfl, each 2 _ (by decide) rfl, each 3 _ (by decide) rfl, each 4 _ (by decide) rfl⟩
theorem nil_ownZone (w : World) (base : Nat) : w.ownsRow base 50 5 (.slice none 0 0) ([] : List VZone).length (cellsZone []) := ⟨by simp [cellsZone], .inl ⟨rfl, rfl⟩⟩
theorem cell_Zone (w : World) (s : VZone) (t : TypeId) : ∀ j u, s.vals[j]? = some u → (w.alloc (.cells #[.int .i64 s.Id, .int .i64 s.West, .int .i64 s.South, .int .i64 s.East, .int .i64 s.North] t)).cell? ((⟨w.heap.size, 0, none⟩ : Addr).add j) = some u := by
  intro j u hj
  rw [add_plain, Nat.zero_add, World.cell?_alloc_new]
  simpa [VZone.vals] using hj
theorem cell_Zone2 (w : World) (o : Obj) (s : VZone) (t : TypeId) : ∀ j u, s.vals[j]? = some u → ((w.alloc o).alloc (.cells #[.int .i64 s.Id, .int .i64 s.West, .int .i64 s.South, .int .i64 s.East, .int .i64 s.North] t)).cell? ((⟨w.heap.size + 1, 0, none⟩ : Addr).add j) = some u := by
  have h := cell_Zone (w.alloc o) s t
  rw [show (w.alloc o).heap.size = w.heap.size + 1 from by show (w.heap.push o).size = _; simp] at h
  exact h
/-- What is left of a row of the call's own when it is cut behind some elements. -/
theorem take_ownZone {w : World} {base : Nat} {a : Option Addr} {cap k : Nat} {xs : List VZone} (h : w.ownsRow base 50 5 (.slice a xs.length cap) xs.length (cellsZone xs)) (hk : k ≤ xs.length) :
    w.ownsRow base 50 5 (.slice a k cap) k (cellsZone (xs.take k)) := by
  have hl : (cellsZone (xs.take k)).length = k * 5 := by rw [cellsZone_len, List.length_take]; omega
  refine ⟨hl, ?_⟩
  rcases h.2 with ⟨h0, h1⟩ | ⟨g, cap', cur, e, hg, hh, hn, hcap, hsz, htake⟩
  · simp only [Value.slice.injEq] at h0
    obtain ⟨rfl, h2, rfl⟩ := h0
    exact .inl ⟨by rw [show k = 0 by omega], by omega⟩
  · cases e
    refine .inr ⟨g, cap, cur, rfl, hg, hh, by omega, hcap, hsz, ?_⟩
    have e2 : cellsZone xs = cellsZone (xs.take k) ++ cellsZone (xs.drop k) := by
      unfold cellsZone
      rw [← List.flatMap_append, List.take_append_drop]
    have h3 := congrArg (List.take (k * 5)) htake
    rw [List.take_take, Nat.min_eq_left (by have := Nat.mul_le_mul_right 5 hk; omega), e2, List.take_append_of_le_length (by omega), List.take_of_length_le (show (cellsZone (xs.take k)).length ≤ k * 5 by omega)] at h3
    exact h3
/-- A slice of them, as what is appended. -/
theorem srcZone {w : World} {a : Option Addr} {len cap : Nat} {xs : List VZone} (h : IsZoneS w a len cap xs) : SrcAt w a len 5 (cellsZone xs) := by
  refine ⟨by rw [cellsZone_len, h.1], ?_⟩
  rcases h.2.2.2 with h0 | ⟨b, o, rfl, hb, hat⟩
  · exact .inl h0
  · refine .inr ⟨_, rfl, fun j u hj => ?_⟩
    rw [add_plain]
    have hl := (List.getElem?_eq_some_iff.1 hj).1
    rw [cellsZone_len] at hl
    obtain ⟨k, r, rfl, hr⟩ : ∃ k r, j = k * 5 + r ∧ r < 5 := ⟨j / 5, j % 5, by omega, Nat.mod_lt _ (by decide)⟩
    have hk : k < xs.length := by omega
    have hs : xs[k]? = some xs[k] := List.getElem?_eq_getElem hk
    have hu := cellsZone_at hs r hr
    rw [hj] at hu
    have ha := hat k _ hs
    rw [← Nat.add_assoc]
    rcases (show r = 0 ∨ r = 1 ∨ r = 2 ∨ r = 3 ∨ r = 4 by omega) with rfl | rfl | rfl | rfl | rfl
    · rw [hu]; exact ha.1
    · rw [hu]; exact ha.2.1
    · rw [hu]; exact ha.2.2.1
    · rw [hu]; exact ha.2.2.2.1
    · rw [hu]; exact ha.2.2.2.2
/-- Block b holds it, all of it, and may be written. -/
def HBZone (w : World) (b : Nat) (s : VZone) : Prop := w.heap[b]? = some (.cells #[.int .i64 s.Id, .int .i64 s.West, .int .i64 s.South, .int .i64 s.East, .int .i64 s.North] 50 (0, 0))
theorem HBZone.lt {w : World} {b : Nat} {s : VZone} (h : HBZone w b s) : b < w.heap.size := (Array.getElem?_eq_some_iff.1 h).1
theorem HBZone.new (w : World) (s : VZone) (B : Nat) (hB : w.heap.size = B) : HBZone (w.alloc (.cells #[.int .i64 s.Id, .int .i64 s.West, .int .i64 s.South, .int .i64 s.East, .int .i64 s.North] 50)) B s := hB ▸ heap_alloc_new w _
theorem HBZone.below {w w' : World} {b : Nat} {s : VZone} (h : HBZone w b s) (hb : Below w.heap.size w w') : HBZone w' b s := (hb.block b h.lt).trans h
theorem HBZone.grown {w w' : World} {b : Nat} {s : VZone} {row : Option Nat} (h : HBZone w b s) (hg : w.grownBy w' row) (hne : some b ≠ row) : HBZone w' b s := (hg.block b h.lt hne).trans h
theorem HBZone.drew {w : World} {b : Nat} {s : VZone} (h : HBZone w b s) : HBZone w.drew b s := h
theorem HBZone.alloc {w : World} {b : Nat} {s : VZone} (h : HBZone w b s) (o : Obj) : HBZone (w.alloc o) b s := (Below.heap_alloc w o b h.lt).trans h
theorem HBZone.other {w : World} {b b' j : Nat} {s : VZone} (h : HBZone w b s) (hne : b ≠ b') (u : Value) : HBZone (w.setCell ⟨b', j, none⟩ u) b s := (heap_setCell_other w ⟨b', j, none⟩ b u hne).trans h
theorem HBZone.cells {w : World} {b : Nat} {s : VZone} (h : HBZone w b s) : w.cell? ⟨b, 0, none⟩ = some (.int .i64 s.Id) ∧ w.cell? ⟨b, 1, none⟩ = some (.int .i64 s.West) ∧ w.cell? ⟨b, 2, none⟩ = some (.int .i64 s.South) ∧ w.cell? ⟨b, 3, none⟩ = some (.int .i64 s.East) ∧ w.cell? ⟨b, 4, none⟩ = some (.int .i64 s.North) := by
  unfold HBZone at h
  refine ⟨?_, ?_, ?_, ?_, ?_⟩ <;> simp [World.cell?, h]
theorem HBZone.free {w : World} {b : Nat} {s : VZone} (h : HBZone w b s) (j : Nat) : w.frozen? ⟨b, j, none⟩ = false := by
  unfold HBZone at h
  simp [World.frozen?, h]
theorem HBZone.set0 {w : World} {b : Nat} {s : VZone} (h : HBZone w b s) (v : Int) : HBZone (w.setCell ⟨b, 0, none⟩ (.int .i64 v)) b ⟨v, s.West, s.South, s.East, s.North⟩ := heap_setCell_same w b 0 _ _ _ h
theorem HBZone.set1 {w : World} {b : Nat} {s : VZone} (h : HBZone w b s) (v : Int) : HBZone (w.setCell ⟨b, 1, none⟩ (.int .i64 v)) b ⟨s.Id, v, s.South, s.East, s.North⟩ := heap_setCell_same w b 1 _ _ _ h
theorem HBZone.set2 {w : World} {b : Nat} {s : VZone} (h : HBZone w b s) (v : Int) : HBZone (w.setCell ⟨b, 2, none⟩ (.int .i64 v)) b ⟨s.Id, s.West, v, s.East, s.North⟩ := heap_setCell_same w b 2 _ _ _ h
theorem HBZone.set3 {w : World} {b : Nat} {s : VZone} (h : HBZone w b s) (v : Int) : HBZone (w.setCell ⟨b, 3, none⟩ (.int .i64 v)) b ⟨s.Id, s.West, s.South, v, s.North⟩ := heap_setCell_same w b 3 _ _ _ h
theorem HBZone.set4 {w : World} {b : Nat} {s : VZone} (h : HBZone w b s) (v : Int) : HBZone (w.setCell ⟨b, 4, none⟩ (.int .i64 v)) b ⟨s.Id, s.West, s.South, s.East, v⟩ := heap_setCell_same w b 4 _ _ _ h
theorem HBZone.setAll {w : World} {b : Nat} {s : VZone} (h : HBZone w b s) (t : VZone) : HBZone (((((w.setCell ⟨b, 0, none⟩ (.int .i64 t.Id)).setCell ⟨b, 1, none⟩ (.int .i64 t.West)).setCell ⟨b, 2, none⟩ (.int .i64 t.South)).setCell ⟨b, 3, none⟩ (.int .i64 t.East)).setCell ⟨b, 4, none⟩ (.int .i64 t.North)) b t :=
  (heap_setCell_same _ b 4 _ _ _ (heap_setCell_same _ b 3 _ _ _ (heap_setCell_same _ b 2 _ _ _ (heap_setCell_same _ b 1 _ _ _ (heap_setCell_same _ b 0 _ _ _ h)))))
theorem HBZone.otherAll {w : World} {b b' : Nat} {s : VZone} (h : HBZone w b s) (hne : b ≠ b') (x0 x1 x2 x3 x4 : Value) : HBZone (((((w.setCell ⟨b', 0, none⟩ x0).setCell ⟨b', 1, none⟩ x1).setCell ⟨b', 2, none⟩ x2).setCell ⟨b', 3, none⟩ x3).setCell ⟨b', 4, none⟩ x4) b s :=
  (((((h.other hne x0).other hne x1).other hne x2).other hne x3).other hne x4)
/-- It lies in the box b of some type. -/
def BoxZone (w : World) (b : Nat) (s : VZone) : Prop := w.cell? ⟨b, 0, none⟩ = some (.int .i64 s.Id) ∧ w.cell? ⟨b, 1, none⟩ = some (.int .i64 s.West) ∧ w.cell? ⟨b, 2, none⟩ = some (.int .i64 s.South) ∧ w.cell? ⟨b, 3, none⟩ = some (.int .i64 s.East) ∧ w.cell? ⟨b, 4, none⟩ = some (.int .i64 s.North)
theorem BoxZone.new (w : World) (t : TypeId) (s : VZone) (B : Nat) (hB : w.heap.size = B) : BoxZone (w.alloc (.cells #[.int .i64 s.Id, .int .i64 s.West, .int .i64 s.South, .int .i64 s.East, .int .i64 s.North] t)) B s := by
  subst hB
  refine ⟨?_, ?_, ?_, ?_, ?_⟩ <;> simp [World.cell?_alloc_new]
theorem BoxZone.lt {w : World} {b : Nat} {s : VZone} (h : BoxZone w b s) : b < w.heap.size := World.lt_of_cell h.1
theorem BoxZone.below {w w' : World} {b : Nat} {s : VZone} (h : BoxZone w b s) (hb : Below w.heap.size w w') : BoxZone w' b s :=
  ⟨(hb.cell (p := ⟨b, 0, none⟩) h.lt).trans h.1, (hb.cell (p := ⟨b, 1, none⟩) h.lt).trans h.2.1, (hb.cell (p := ⟨b, 2, none⟩) h.lt).trans h.2.2.1, (hb.cell (p := ⟨b, 3, none⟩) h.lt).trans h.2.2.2.1, (hb.cell (p := ⟨b, 4, none⟩) h.lt).trans h.2.2.2.2⟩
theorem BoxZone.grown {w w' : World} {b : Nat} {s : VZone} {row : Option Nat} (h : BoxZone w b s) (hg : w.grownBy w' row) (hne : some b ≠ row) : BoxZone w' b s :=
  ⟨(World.cell?_of_block (w := w) (a := ⟨b, 0, none⟩) (hg.block b h.lt hne)).trans h.1, (World.cell?_of_block (w := w) (a := ⟨b, 1, none⟩) (hg.block b h.lt hne)).trans h.2.1, (World.cell?_of_block (w := w) (a := ⟨b, 2, none⟩) (hg.block b h.lt hne)).trans h.2.2.1, (World.cell?_of_block (w := w) (a := ⟨b, 3, none⟩) (hg.block b h.lt hne)).trans h.2.2.2.1, (World.cell?_of_block (w := w) (a := ⟨b, 4, none⟩) (hg.block b h.lt hne)).trans h.2.2.2.2⟩
set_option maxHeartbeats 3200000 in
theorem toZone_any (s : VZone) (w : World) :
    Calls Try.prog 85 #[.agg #[.int .i64 s.Id, .int .i64 s.West, .int .i64 s.South, .int .i64 s.East, .int .i64 s.North]] w fun e w' => e = .returned (.agg #[.int .i64 s.Id, .int .i64 s.West, .int .i64 s.South, .int .i64 s.East, .int .i64 s.North]) ∧ Below w.heap.size w w' := by
  go_enter Try.func85, Try.ntmps85
  go_wp2
  refine bodyPost_ret (v := .agg #[.int .i64 s.Id, .int .i64 s.West, .int .i64 s.South, .int .i64 s.East, .int .i64 s.North]) (by simp [results, Try.results85, go_sem]) rfl ⟨rfl, ?_⟩
  repeat (first | exact Below.refl _ _ | refine Below.setCell ?_ (by simp; try omega) _ | refine Below.alloc ?_ (by simp; try omega) _)
set_option maxHeartbeats 3200000 in
theorem eqZone_yes (s : VZone) (w : World) :
    Calls Try.prog 88 #[.agg #[.int .i64 s.Id, .int .i64 s.West, .int .i64 s.South, .int .i64 s.East, .int .i64 s.North], .agg #[.int .i64 s.Id, .int .i64 s.West, .int .i64 s.South, .int .i64 s.East, .int .i64 s.North]] w fun e w' => e = .returned (.bool true) ∧ Below w.heap.size w w' := by
  go_enter Try.func88, Try.ntmps88
  go_wp2
  go_ret
  exact ⟨rfl, by repeat (first | exact Below.refl _ _ | refine Below.alloc ?_ (by simp; try omega) _)⟩
set_option maxHeartbeats 400000 in
theorem szZoneS_any (a : Option Addr) (len cap : Nat) (xs : List VZone) (left : Int) (w : World) (h : IsZoneS w a len cap xs) (h0 : 0 ≤ left) (h1 : left ≤ 1048576) :
    Calls Try.prog 29 #[.slice a len cap, .int .i64 left] w fun e w' => ∃ z : Int, e = .returned (.int .i64 z) ∧ z ≤ left ∧ (0 ≤ z → len ≤ 1048576) ∧ Below w.heap.size w w' := by
  have hl : len ≤ maxLen := Nat.le_trans h.2.1 h.2.2.1
  unfold maxLen at hl
  clear h
  by_cases hlt : left < (len : Int)
  · have hn : left - (len : Int) < 0 := by omega
    go_enter Try.func29, Try.ntmps29
    go_wp2
    go_ret
    exact ⟨-1, rfl, by omega, by omega, Below.refl _ _⟩
  · have hn : 0 ≤ left - (len : Int) := by omega
    go_enter Try.func29, Try.ntmps29
    go_wp2
    go_ret
    exact ⟨_, rfl, by omega, fun _ => by omega, Below.refl _ _⟩
def zerosZone (n : Nat) : List Value := (List.replicate n [.int .i64 0, .int .i64 0, .int .i64 0, .int .i64 0, .int .i64 0]).flatten
theorem zerosZone_succ (n : Nat) : zerosZone (n + 1) = .int .i64 0 :: .int .i64 0 :: .int .i64 0 :: .int .i64 0 :: .int .i64 0 :: zerosZone n := by
  unfold zerosZone; rw [List.replicate_succ]; rfl
theorem zerosZone_len (n : Nat) : (zerosZone n).length = n * 5 := by
  induction n with
  | zero => rfl
  | succ n ih => rw [zerosZone_succ]; simp [ih]; omega
theorem zerosZone_at (n j : Nat) (h : j < n * 5) : (zerosZone n)[j]? = [.int .i64 0, .int .i64 0, .int .i64 0, .int .i64 0, .int .i64 0][j % 5]? := by
  induction n generalizing j with
  | zero => omega
  | succ n ih =>
    rw [zerosZone_succ]
    by_cases hj : j < 5
    · rw [Nat.mod_eq_of_lt hj]
      rcases (show j = 0 ∨ j = 1 ∨ j = 2 ∨ j = 3 ∨ j = 4 by omega) with rfl | rfl | rfl | rfl | rfl <;> rfl
    · obtain ⟨i, rfl⟩ : ∃ i, j = i + 5 := ⟨j - 5, by omega⟩
      rw [Nat.add_mod_right, ← ih i (by omega)]
      rfl
theorem madeZone (n : Nat) : (madeCells (.agg #[.int .i64 0, .int .i64 0, .int .i64 0, .int .i64 0, .int .i64 0] : Value).cells (n * 5)).toList = zerosZone n := by
  apply List.ext_getElem?
  intro j
  rw [Array.getElem?_toList]
  by_cases h : j < n * 5
  · rw [zerosZone_at n j h]
    have hm : j % 5 < 5 := Nat.mod_lt _ (by decide)
    simp only [madeCells, Value.cells]
    rw [Array.getElem?_eq_getElem (by simpa using h)]
    rcases (show j % 5 = 0 ∨ j % 5 = 1 ∨ j % 5 = 2 ∨ j % 5 = 3 ∨ j % 5 = 4 by omega) with e | e | e | e | e <;> simp [e]
  · rw [List.getElem?_eq_none (by rw [zerosZone_len]; omega)]
    simp [madeCells, h]
theorem setZone (A L : List Value) (v0 v1 v2 v3 v4 : Value) (o : Nat) (hA : A.length = o) (hL : o + 5 ≤ L.length) :
    ((((((A ++ L.drop o).set (o) v0).set (o + 1) v1).set (o + 2) v2).set (o + 3) v3).set (o + 4) v4) = A ++ v0 :: v1 :: v2 :: v3 :: v4 :: L.drop (o + 5) := by
  subst hA
  obtain ⟨a0, a1, a2, a3, a4, e⟩ : ∃ a0 a1 a2 a3 a4, L.drop A.length = a0 :: a1 :: a2 :: a3 :: a4 :: L.drop (A.length + 5) := ⟨_, _, _, _, _, by rw [List.drop_eq_getElem_cons (show A.length < L.length by omega), List.drop_eq_getElem_cons (show A.length + 1 < L.length by omega), List.drop_eq_getElem_cons (show A.length + 2 < L.length by omega), List.drop_eq_getElem_cons (show A.length + 3 < L.length by omega), List.drop_eq_getElem_cons (show A.length + 4 < L.length by omega)]⟩
  rw [e]
  generalize L.drop (A.length + 5) = D
  simp [List.set_append_right]
theorem storedZone {w : World} {base n c g o : Nat} {e : TypeId} {size : Nat} {A L : List Value} (h : w.ownsRow base e size (.slice (some ⟨g, 0, none⟩) n c) n (A ++ L.drop o)) (hA : A.length = o) (hL : o + 5 ≤ L.length) (v0 v1 v2 v3 v4 : Value) :
    (((((w.setCell ⟨g, o, none⟩ v0).setCell ⟨g, o + 1, none⟩ v1).setCell ⟨g, o + 2, none⟩ v2).setCell ⟨g, o + 3, none⟩ v3).setCell ⟨g, o + 4, none⟩ v4).ownsRow base e size (.slice (some ⟨g, 0, none⟩) n c) n (A ++ v0 :: v1 :: v2 :: v3 :: v4 :: L.drop (o + 5)) ∧ w.grownBy (((((w.setCell ⟨g, o, none⟩ v0).setCell ⟨g, o + 1, none⟩ v1).setCell ⟨g, o + 2, none⟩ v2).setCell ⟨g, o + 3, none⟩ v3).setCell ⟨g, o + 4, none⟩ v4) (some g) := by
  have h0 := h.stored (o) v0
  have h1 := h0.1.stored (o + 1) v1
  have h2 := h1.1.stored (o + 2) v2
  have h3 := h2.1.stored (o + 3) v3
  have h4 := h3.1.stored (o + 4) v4
  refine ⟨?_, (grown_trans (grown_trans (grown_trans (grown_trans h0.2 h1.2) h2.2) h3.2) h4.2)⟩
  have := h4.1
  rw [setZone A L v0 v1 v2 v3 v4 o hA hL] at this
  exact this
/-- A row of the call's own, and the world below as it was. -/
def ZoneRow (xs : List VZone) (w : World) (e : Ending) (w' : World) : Prop := ∃ v, e = .returned v ∧ w'.ownsRow w.heap.size 50 5 v xs.length (cellsZone xs) ∧ Below w.heap.size w w'
theorem cellsZone_drop (xs : List VZone) (i : Nat) : (cellsZone xs).drop (i * 5) = cellsZone (xs.drop i) := by
  by_cases h : i ≤ xs.length
  · have e : cellsZone xs = cellsZone (xs.take i) ++ cellsZone (xs.drop i) := by
      unfold cellsZone
      rw [← List.flatMap_append, List.take_append_drop]
    have hl : (cellsZone (xs.take i)).length = i * 5 := by rw [cellsZone_len, List.length_take]; omega
    rw [e, List.drop_append_of_le_length (by omega), List.drop_of_length_le (by omega), List.nil_append]
  · rw [List.drop_of_length_le (show xs.length ≤ i by omega), List.drop_of_length_le (by rw [cellsZone_len]; omega)]; rfl
theorem cellsZone_take (xs : List VZone) (i : Nat) : cellsZone xs = cellsZone (xs.take i) ++ (cellsZone xs).drop (i * 5) := by
  rw [cellsZone_drop]
  unfold cellsZone
  rw [← List.flatMap_append, List.take_append_drop]
theorem cellsZone_set (xs : List VZone) (i : Nat) (r : VZone) (h : i < xs.length) : cellsZone (xs.set i r) = cellsZone (xs.take i) ++ (r.vals ++ (cellsZone xs).drop (i * 5 + 5)) := by
  rw [List.set_eq_take_append_cons_drop, if_pos h, show i * 5 + 5 = (i + 1) * 5 by omega, cellsZone_drop]
  simp [cellsZone]
/-- An element of a row of the call's own is replaced. -/
theorem own_setZone {w : World} {base m c g i : Nat} {xs : List VZone} (h : w.ownsRow base 50 5 (.slice (some ⟨g, 0, none⟩) m c) m (cellsZone xs)) (hi : i < xs.length) (r : VZone) :
    (((((w.setCell ⟨g, i * 5, none⟩ (.int .i64 r.Id)).setCell ⟨g, i * 5 + 1, none⟩ (.int .i64 r.West)).setCell ⟨g, i * 5 + 2, none⟩ (.int .i64 r.South)).setCell ⟨g, i * 5 + 3, none⟩ (.int .i64 r.East)).setCell ⟨g, i * 5 + 4, none⟩ (.int .i64 r.North)).ownsRow base 50 5 (.slice (some ⟨g, 0, none⟩) m c) m (cellsZone (xs.set i r)) ∧ w.grownBy (((((w.setCell ⟨g, i * 5, none⟩ (.int .i64 r.Id)).setCell ⟨g, i * 5 + 1, none⟩ (.int .i64 r.West)).setCell ⟨g, i * 5 + 2, none⟩ (.int .i64 r.South)).setCell ⟨g, i * 5 + 3, none⟩ (.int .i64 r.East)).setCell ⟨g, i * 5 + 4, none⟩ (.int .i64 r.North)) (some g) := by
  rw [cellsZone_set xs i r hi]
  rw [cellsZone_take xs i] at h
  exact storedZone h (by rw [cellsZone_len, List.length_take]; omega) (by rw [cellsZone_len]; omega) (.int .i64 r.Id) (.int .i64 r.West) (.int .i64 r.South) (.int .i64 r.East) (.int .i64 r.North)
set_option maxHeartbeats 3200000 in
set_option maxRecDepth 100000 in
theorem toZoneS_any (a : Option Addr) (len cap : Nat) (xs : List VZone) (w : World) (h : IsZoneS w a len cap xs) (hsz : len ≤ 1048576) :
    Calls Try.prog 31 #[.slice a len cap] w (ZoneRow xs w) := by
  obtain rfl := h.1
  obtain ⟨i0, hi, hz0, hz1, hz2⟩ := info_parts infoZone
  have S := Lib.hid h
  clear h
  go_enter Try.func31, Try.ntmps31
  go_wp2_with (refine wpList_make_full _ rfl _ _ 43 rfl w.heap.size 50 i0 (.agg #[.int .i64 0, .int .i64 0, .int .i64 0, .int .i64 0, .int .i64 0]) 5 Try.underlying43 hi hz0 hz1 .i64 .i64 _ _ xs.length rfl rfl rfl rfl (by rw [hz2]; omega) (by unfold maxLen; omega) (Nat.le_refl _) ?_; intro w1 hown hgrow)
  have hb1 : Below w.heap.size w w1 := (Below.refl _ _).grown hgrow (Nat.le_refl _) (fun k e => by cases e)
  have H1 := Lib.hid hown
  have hg1 := (hown.lt w.heap.size rfl).2
  clear hown hgrow
  go_loopw [4] (fun i wr => ∃ k : Nat, k ≤ xs.length ∧ i = .int .i64 k ∧ Below w.heap.size w wr ∧ wr.ownsRow w.heap.size 50 5 (.slice (some ⟨w.heap.size, 0, none⟩) xs.length xs.length) xs.length (cellsZone (xs.take k) ++ (zerosZone xs.length).drop (k * 5))) (fun i _ => xs.length - (intOf i).toNat)
  case atStart => exact ⟨0, Nat.zero_le _, rfl, hb1, by have h := H1.out; rw [madeZone] at h; simpa [cellsZone] using h⟩
  case round =>
    obtain ⟨k, hk, rfl, hbel, hown⟩ := hrel
    have O := Lib.hid hown
    have B := Lib.hid hbel
    by_cases hlt : k < xs.length
    · obtain ⟨s, hs⟩ : ∃ s, xs[k]? = some s := ⟨xs[k]'hlt, List.getElem?_eq_getElem _⟩
      obtain ⟨b, o, rfl, hb, hat⟩ := (S.out.below hbel).at (by omega)
      obtain ⟨c0, c1, c2, c3, c4⟩ := hat k s hs
      have K := Lib.hid hs
      have hm := S.out.2.2.1
      unfold maxLen at hm
      clear hown hbel hs hat
      go_wp2_with fail
      refine (toZone_any s _).mono ?_
      rintro e w2 ⟨rfl, hb2⟩
      have O2 := Lib.hid (ownsRow_below O.out hb2)
      have B2 := Lib.hid (Below.then' B.out hb2)
      clear hb2 c0 c1 c2 c3 c4
      have f0 := O2.out.frozenAt (k * 5)
      have f1 := O2.out.frozenAt (k * 5 + 1)
      have f2 := O2.out.frozenAt (k * 5 + 2)
      have f3 := O2.out.frozenAt (k * 5 + 3)
      have f4 := O2.out.frozenAt (k * 5 + 4)
      obtain ⟨u0, d0⟩ := own_cell O2.out (k * 5) (by rw [List.length_append, cellsZone_len, List.length_take, List.length_drop, zerosZone_len]; omega)
      obtain ⟨u1, d1⟩ := own_cell O2.out (k * 5 + 1) (by rw [List.length_append, cellsZone_len, List.length_take, List.length_drop, zerosZone_len]; omega)
      obtain ⟨u2, d2⟩ := own_cell O2.out (k * 5 + 2) (by rw [List.length_append, cellsZone_len, List.length_take, List.length_drop, zerosZone_len]; omega)
      obtain ⟨u3, d3⟩ := own_cell O2.out (k * 5 + 3) (by rw [List.length_append, cellsZone_len, List.length_take, List.length_drop, zerosZone_len]; omega)
      obtain ⟨u4, d4⟩ := own_cell O2.out (k * 5 + 4) (by rw [List.length_append, cellsZone_len, List.length_take, List.length_drop, zerosZone_len]; omega)
      go_wp2
      go_roundw
      case rel =>
        have h5 := storedZone O2.out (by rw [cellsZone_len, List.length_take]; omega) (by rw [zerosZone_len]; omega) (.int .i64 s.Id) (.int .i64 s.West) (.int .i64 s.South) (.int .i64 s.East) (.int .i64 s.North)
        refine ⟨k + 1, by omega, by go_num, B2.out.grown h5.2 B2.out.size (fun j e => by cases e; exact Nat.le_refl _), ?_⟩
        rw [List.take_add_one, K.out, show (some s).toList = [s] from rfl, cellsZone_snoc, List.append_assoc, show (k + 1) * 5 = k * 5 + 5 by omega]
        exact h5.1
      case measure => simp [intOf]; omega
    · obtain rfl : k = xs.length := by omega
      clear hown hbel
      have hm := S.out.2.2.1
      unfold maxLen at hm
      go_wp2
      go_ret
      refine ⟨_, rfl, ?_, B.out⟩
      have h := O.out
      rw [List.drop_of_length_le (by rw [zerosZone_len]; omega), List.append_nil, List.take_of_length_le (Nat.le_refl _)] at h
      exact h
set_option maxHeartbeats 3200000 in
set_option maxRecDepth 100000 in
theorem eqZoneS_yes (a : Option Addr) (len cap : Nat) (a' : Option Addr) (len' cap' : Nat) (xs : List VZone) (w : World) (h : IsZoneS w a len cap xs) (h' : IsZoneS w a' len' cap' xs) :
    Calls Try.prog 33 #[.slice a len cap, .slice a' len' cap'] w fun e w' => e = .returned (.bool true) ∧ Below w.heap.size w w' := by
  obtain rfl := h.1
  obtain rfl := h'.1
  have hm := h.2.2.1
  have hcl := h.2.1
  unfold maxLen at hm
  have S := Lib.hid h
  have S' := Lib.hid h'
  clear h h'
  go_enter Try.func33, Try.ntmps33
  go_wp2
  go_loopw [5] (fun i wr => ∃ k : Nat, k ≤ xs.length ∧ i = .int .i64 k ∧ Below w.heap.size w wr) (fun i _ => xs.length - (intOf i).toNat)
  case atStart => exact ⟨0, Nat.zero_le _, rfl, Below.refl _ _⟩
  case round =>
    obtain ⟨k, hk, rfl, hbel⟩ := hrel
    have B := Lib.hid hbel
    by_cases hlt : k < xs.length
    · obtain ⟨s, hs⟩ : ∃ s, xs[k]? = some s := ⟨xs[k]'hlt, List.getElem?_eq_getElem _⟩
      obtain ⟨b, o, rfl, hb, hat⟩ := (S.out.below hbel).at (by omega)
      obtain ⟨b', o', rfl, hb', hat'⟩ := (S'.out.below hbel).at (by omega)
      obtain ⟨c0, c1, c2, c3, c4⟩ := hat k s hs
      obtain ⟨d0, d1, d2, d3, d4⟩ := hat' k s hs
      have hi0 : (0 : Int) ≤ (k : Int) := by omega
      have hi1 : (k : Int) < (xs.length : Int) := by omega
      clear hbel hs hat hat'
      go_wp2
      go_region_with (go_at_call 88; refine (eqZone_yes s _).mono ?_; rintro e w1 ⟨rfl, hb1⟩; have B1 := Lib.hid (Below.then' (bel_drew' B.out) hb1); clear hb1)
      all_goals go_wp2
      all_goals go_roundw
      all_goals first
        | exact ⟨k + 1, by omega, by go_num, B1.out⟩
        | (simp [intOf]; omega)
    · obtain rfl : k = xs.length := by omega
      clear hbel
      go_wp2
      go_ret
      exact ⟨rfl, B.out⟩
/-- The marks from b on, and n of them. -/
def markZone (b : Nat) : VZone := ⟨((b : Nat) : Int), ((b + 1 : Nat) : Int), ((b + 2 : Nat) : Int), ((b + 3 : Nat) : Int), ((b + 4 : Nat) : Int)⟩
def marksZone (k n : Nat) : List VZone := (List.range n).map fun i => markZone (k + i * 5)
theorem marksZone_len (k n : Nat) : (marksZone k n).length = n := by simp [marksZone]
theorem marksZone_succ (k n : Nat) : marksZone k (n + 1) = marksZone k n ++ [markZone (k + n * 5)] := by simp [marksZone, List.range_succ]
theorem marksZone_at (k n i : Nat) (h : i < n) : (marksZone k n)[i]? = some (markZone (k + i * 5)) := by simp [marksZone, h]
def ZoneMarked (base k n : Nat) (v : Value) (w : World) (e : Ending) (w' : World) : Prop := e = .returned (.int .i64 ((k + n * 5 : Nat) : Int)) ∧ w'.ownsRow base 50 5 v n (cellsZone (marksZone k n)) ∧ w.grownBy w' v.ownBlock
set_option maxHeartbeats 3200000 in
set_option maxRecDepth 100000 in
theorem markZoneS_any (base : Nat) (v : Value) (n k : Nat) (L : List Value) (w : World) (hown : w.ownsRow base 50 5 v n L) (hk1 : 1 ≤ k) (hk : k ≤ 1000000) (hn : n ≤ 1048576) :
    Calls Try.prog 55 #[v, .int .i64 (k : Int)] w (ZoneMarked base k n v w) := by
  have hlen : L.length = n * 5 := by have := hown.1; omega
  rcases hown.2 with ⟨rfl, rfl⟩ | ⟨g, cap, cur, rfl, hg, hh, hncap, hcap, _⟩
  · have hL : L = [] := List.length_eq_zero_iff.1 (by omega)
    subst hL
    have H := Lib.hid hown
    clear hown
    go_enter Try.func55, Try.ntmps55
    go_wp2
    refine wp_loop_rounds 1 ?_
    rw [rounds_succ]
    go_wp2
    go_ret
    exact ⟨rfl, H.out, World.grownBy.refl _ _⟩
  clear hh
  have H := Lib.hid hown
  have L0 := Lib.hid hlen
  unfold maxLen at hcap
  clear hown hlen
  go_enter Try.func55, Try.ntmps55
  go_wp2
  go_loopw [1, 5] (fun q i wr => ∃ j : Nat, j ≤ n ∧ i = .int .i64 j ∧ q = .int .i64 ((k + j * 5 : Nat) : Int) ∧ wr.ownsRow base 50 5 (.slice (some ⟨g, 0, none⟩) n cap) n (cellsZone (marksZone k j) ++ L.drop (j * 5)) ∧ w.grownBy wr (some g)) (fun _ i _ => n - (intOf i).toNat)
  case atStart => exact ⟨0, Nat.zero_le _, rfl, by simp, by simpa [marksZone, cellsZone] using H.out, World.grownBy.refl _ _⟩
  case round =>
    obtain ⟨j, hj, rfl, rfl, hrow, hgr⟩ := hrel
    have R := Lib.hid hrow
    have G := Lib.hid hgr
    clear hrow hgr
    by_cases hlt : j < n
    · obtain ⟨x, hx⟩ : ∃ x : Int, ((k + j * 5 : Nat) : Int) = x := ⟨_, rfl⟩
      rw [hx]
      have x0 : 1 ≤ x := by omega
      have x1 : x ≤ 20000000 := by omega
      have HX := Lib.hid hx
      have i0 : (0 : Int) ≤ (j : Int) := by omega
      have i1 : (j : Int) < (n : Int) := by omega
      clear hx
      have R0 := R
      have G0 := G
      have f0 := R0.out.frozenAt (j * 5)
      obtain ⟨u0, d0⟩ := own_cell R0.out (j * 5) (by have e := L0.out; simp [cellsZone_len, marksZone_len]; omega)
      have f1 := R0.out.frozenAt (j * 5 + 1)
      obtain ⟨u1, d1⟩ := own_cell R0.out (j * 5 + 1) (by have e := L0.out; simp [cellsZone_len, marksZone_len]; omega)
      have f2 := R0.out.frozenAt (j * 5 + 2)
      obtain ⟨u2, d2⟩ := own_cell R0.out (j * 5 + 2) (by have e := L0.out; simp [cellsZone_len, marksZone_len]; omega)
      have f3 := R0.out.frozenAt (j * 5 + 3)
      obtain ⟨u3, d3⟩ := own_cell R0.out (j * 5 + 3) (by have e := L0.out; simp [cellsZone_len, marksZone_len]; omega)
      have f4 := R0.out.frozenAt (j * 5 + 4)
      obtain ⟨u4, d4⟩ := own_cell R0.out (j * 5 + 4) (by have e := L0.out; simp [cellsZone_len, marksZone_len]; omega)
      go_wp2
      go_roundw
      case rel =>
        refine ⟨j + 1, by omega, by go_num, by have := HX.out; first | (rw [← this]; go_num) | (exact int_eq (by omega)), own_eq (((((R0.out.stored (j * 5) _).1.stored (j * 5 + 1) _).1.stored (j * 5 + 2) _).1.stored (j * 5 + 3) _).1.stored (j * 5 + 4) _).1 ?_, (grown_trans (grown_trans (grown_trans (grown_trans (grown_trans G0.out (R0.out.stored (j * 5) _).2) ((R0.out.stored (j * 5) _).1.stored (j * 5 + 1) _).2) (((R0.out.stored (j * 5) _).1.stored (j * 5 + 1) _).1.stored (j * 5 + 2) _).2) ((((R0.out.stored (j * 5) _).1.stored (j * 5 + 1) _).1.stored (j * 5 + 2) _).1.stored (j * 5 + 3) _).2) (((((R0.out.stored (j * 5) _).1.stored (j * 5 + 1) _).1.stored (j * 5 + 2) _).1.stored (j * 5 + 3) _).1.stored (j * 5 + 4) _).2)⟩
        rw [show cellsZone (marksZone k (j + 1)) ++ L.drop ((j + 1) * 5) = cellsZone (marksZone k j) ++ ((markZone (k + j * 5)).vals ++ L.drop (j * 5 + 5)) from by rw [marksZone_succ, cellsZone_snoc, List.append_assoc, show (j + 1) * 5 = j * 5 + 5 by omega]]
        rw [setZone _ L _ _ _ _ _ (j * 5) (by rw [cellsZone_len, marksZone_len]) (by have := L0.out; have := Nat.mul_le_mul_right 5 (show j + 1 ≤ n by omega); omega)]
        refine congrArg (fun l => cellsZone (marksZone k j) ++ l) ?_
        exact cons_congr (int_eq (by simp only [markZone]; have := HX.out; omega)) (cons_congr (int_eq (by simp only [markZone]; have := HX.out; omega)) (cons_congr (int_eq (by simp only [markZone]; have := HX.out; omega)) (cons_congr (int_eq (by simp only [markZone]; have := HX.out; omega)) (cons_congr (int_eq (by simp only [markZone]; have := HX.out; omega)) (rfl)))))
      case measure => simp [intOf]; omega
    · obtain rfl : j = n := by omega
      go_wp2
      go_ret
      refine ⟨rfl, ?_, G.out⟩
      have h := R.out
      rw [List.drop_of_length_le (by rw [L0.out]; omega), List.append_nil] at h
      exact h
end Go.Proofs.Ytidaoijpbdljbab
