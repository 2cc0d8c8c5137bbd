/- The struct Reader: its fields; one read from an argument; slices of it; and the laws' own helpers over it. (made by gen.py) -/
import Derived.Test.YtidaoijpbdljbabDoorOpen2
import Derived.Test.YtidaoijpbdljbabDoorBox0
import Derived.Test.YtidaoijpbdljbabDoorAppL
import Derived.Test.YtidaoijpbdljbabDoorReg
import Derived.Test.YtidaoijpbdljbabDoorMarkT
import Derived.Deep.RegionWith
import Derived.Laws.OwnMore
import Derived.Handy
import Derived.Laws.IdiomRangeMap
namespace Go.Proofs.YtidaoijpbdljbabDoor
open Go.RowKit Go.ChangeShapes Go.WideShapes Go.Deep

structure VReader where
  Id : Int
  Name : ByteArray
  Joined : Int
  Class : Int
  Fines : Int
def VReader.vals (s : VReader) : List Value := [.int .i64 s.Id, .string s.Name, .int .i64 s.Joined, .int .i64 s.Class, .int .i64 s.Fines]
theorem VReader.vals_len (s : VReader) : s.vals.length = 5 := rfl
theorem VReader.vals_one (s : VReader) : ∀ u ∈ s.vals, u.oneCell' = true := by
  intro u hu
  simp [VReader.vals] at hu
  rcases hu with rfl | rfl | rfl | rfl | rfl <;> rfl
/-- Its texts are no longer than any text may be. -/
def VReader.small (s : VReader) : Prop := s.Name.size ≤ maxLen
/-- It lies at block b from offset o on. -/
def ReaderAt (w : World) (b o : Nat) (s : VReader) : Prop :=
  w.cell? ⟨b, o, none⟩ = some (.int .i64 s.Id) ∧ w.cell? ⟨b, o + 1, none⟩ = some (.string s.Name) ∧ w.cell? ⟨b, o + 2, none⟩ = some (.int .i64 s.Joined) ∧ w.cell? ⟨b, o + 3, none⟩ = some (.int .i64 s.Class) ∧ w.cell? ⟨b, o + 4, none⟩ = some (.int .i64 s.Fines) ∧ s.small
def IsReaderS (w : World) (a : Option Addr) (len cap : Nat) (xs : List VReader) : Prop :=
  len = xs.length ∧ len ≤ cap ∧ cap ≤ maxLen ∧ (len = 0 ∨ ∃ b o, a = some ⟨b, o, none⟩ ∧ b < w.heap.size ∧ ∀ (k : Nat) s, xs[k]? = some s → ReaderAt w b (o + k * 5) s)
theorem ReaderAt.below {w w' : World} {b o : Nat} {s : VReader} (h : ReaderAt w b o s) (hb : Below w.heap.size w w') (hlt : b < w.heap.size) : ReaderAt w' b o s :=
  ⟨(hb.cell (p := ⟨b, o, none⟩) hlt).trans h.1, (hb.cell (p := ⟨b, o + 1, none⟩) hlt).trans h.2.1, (hb.cell (p := ⟨b, o + 2, none⟩) hlt).trans h.2.2.1, (hb.cell (p := ⟨b, o + 3, none⟩) hlt).trans h.2.2.2.1, (hb.cell (p := ⟨b, o + 4, none⟩) hlt).trans h.2.2.2.2.1, h.2.2.2.2.2⟩
theorem ReaderAt.block {w w' : World} {b o : Nat} {s : VReader} (h : ReaderAt w b o s) (hb : w'.heap[b]? = w.heap[b]?) : ReaderAt w' b o s :=
  ⟨(World.cell?_of_block (w := w) (a := ⟨b, o, none⟩) hb).trans h.1, (World.cell?_of_block (w := w) (a := ⟨b, o + 1, none⟩) hb).trans h.2.1, (World.cell?_of_block (w := w) (a := ⟨b, o + 2, none⟩) hb).trans h.2.2.1, (World.cell?_of_block (w := w) (a := ⟨b, o + 3, none⟩) hb).trans h.2.2.2.1, (World.cell?_of_block (w := w) (a := ⟨b, o + 4, none⟩) hb).trans h.2.2.2.2.1, h.2.2.2.2.2⟩
theorem IsReaderS.below {w w' : World} {a : Option Addr} {len cap : Nat} {xs : List VReader} (h : IsReaderS w a len cap xs) (hb : Below w.heap.size w w') : IsReaderS w' a len cap xs := by
  refine ⟨h.1, h.2.1, h.2.2.1, ?_⟩
  rcases h.2.2.2 with h0 | ⟨b, o, rfl, h1, h2⟩
  · exact .inl h0
  · exact .inr ⟨b, o, rfl, Nat.lt_of_lt_of_le h1 hb.size, fun k s hs => (h2 k s hs).below hb h1⟩
theorem IsReaderS.grown {w w' : World} {a : Option Addr} {len cap : Nat} {xs : List VReader} {row : Option Nat} (h : IsReaderS w a len cap xs) (hg : w.grownBy w' row) (hne : ∀ b o, a = some ⟨b, o, none⟩ → some b ≠ row) : IsReaderS w' a len cap xs := by
  refine ⟨h.1, h.2.1, h.2.2.1, ?_⟩
  rcases h.2.2.2 with h0 | ⟨b, o, rfl, h1, h2⟩
  · exact .inl h0
  · exact .inr ⟨b, o, rfl, Nat.lt_of_lt_of_le h1 hg.size, fun k s hs => (h2 k s hs).block (hg.block b h1 (hne b o rfl))⟩
theorem IsReaderS.at {w : World} {a : Option Addr} {len cap : Nat} {xs : List VReader} (h : IsReaderS w a len cap xs) (hpos : 0 < len) : ∃ b o, a = some ⟨b, o, none⟩ ∧ b < w.heap.size ∧ ∀ (k : Nat) s, xs[k]? = some s → ReaderAt w b (o + k * 5) s := by
  rcases h.2.2.2 with h0 | h1
  · omega
  · exact h1
theorem nil_IsReaderS (w : World) : IsReaderS w none 0 0 [] := ⟨rfl, Nat.le_refl _, by simp [maxLen], .inl rfl⟩
set_option maxRecDepth 100000 in
theorem open_Reader {H : Type} {enc : TypeId × Value → H} {w : World} {base : Nat} {spare : Nat → Bool} {held : Bool} {r : Reach} {b0 : Nat} {v : Value} {d : DataW H} {p : List MemPlace}
    (hv : Value.okWide Tryd.prog w r b0 71 v) (h : DataW.Trod enc Tryd.prog w base spare held 71 v d p) : ∃ s : VReader, v = .agg #[.int .i64 s.Id, .string s.Name, .int .i64 s.Joined, .int .i64 s.Class, .int .i64 s.Fines] ∧ s.small := by
  obtain ⟨cs, rfl, hl, hc⟩ := open_one_struct (P := Tryd.prog) Tryd.underlying71 (by kernel_rfl) (by kernel_rfl) hv h
  obtain ⟨c0, h0, k0⟩ := hc 0 _ rfl
  obtain ⟨z0, rfl⟩ := k0.1 Tryd.underlying3
  obtain ⟨c1, h1, k1⟩ := hc 1 _ rfl
  obtain ⟨z1, rfl, l1⟩ := k1.2.1 Tryd.underlying9
  obtain ⟨c2, h2, k2⟩ := hc 2 _ rfl
  obtain ⟨z2, rfl⟩ := k2.1 Tryd.underlying3
  obtain ⟨c3, h3, k3⟩ := hc 3 _ rfl
  obtain ⟨z3, rfl⟩ := k3.1 Tryd.underlying3
  obtain ⟨c4, h4, k4⟩ := hc 4 _ rfl
  obtain ⟨z4, rfl⟩ := k4.1 Tryd.underlying3
  have e : cs = [.int .i64 z0, .string z1, .int .i64 z2, .int .i64 z3, .int .i64 z4] := by
    apply List.ext_getElem?
    intro j
    by_cases hj : j < 5
    · rcases (show j = 0 ∨ j = 1 ∨ j = 2 ∨ j = 3 ∨ j = 4 by omega) with rfl | rfl | rfl | rfl | rfl
      all_goals first | exact h0 | exact h1 | exact h2 | exact h3 | exact h4
    · rw [List.getElem?_eq_none (by simp at hl; omega), List.getElem?_eq_none (by simp; omega)]
  subst e
  exact ⟨⟨z0, z1, z2, z3, z4⟩, rfl, l1⟩
set_option maxRecDepth 100000 in
theorem open_ReaderS {H : Type} {enc : TypeId × Value → H} {W : World} {base : Nat} {held : Bool} {a : Option Addr} {len cap : Nat} {d : DataW H} {p : List MemPlace}
    (h : DataW.Trod enc Tryd.prog W base (fun _ => true) held 44 (.slice a len cap) d p) : ∃ xs : List VReader, IsReaderS W a len cap xs := by
  obtain ⟨fuel, hf⟩ := h
  rcases open_one_structs Tryd.underlying44 Tryd.underlying71 (by kernel_rfl) (by kernel_rfl) (by decide) hf with ⟨rfl, rfl, rfl⟩ | ⟨b, o, ha, hl, hm, hb, hc⟩
  · exact ⟨[], nil_IsReaderS W⟩
  · have each : ∀ i, i < len → ∃ s : VReader, ReaderAt W b (o + i * 5) s := by
      intro i hi
      obtain ⟨c0, h0, k0⟩ := hc i hi 0 _ rfl
      obtain ⟨z0, rfl⟩ := k0.1 Tryd.underlying3
      obtain ⟨c1, h1, k1⟩ := hc i hi 1 _ rfl
      obtain ⟨z1, rfl, l1⟩ := k1.2.1 Tryd.underlying9
      obtain ⟨c2, h2, k2⟩ := hc i hi 2 _ rfl
      obtain ⟨z2, rfl⟩ := k2.1 Tryd.underlying3
      obtain ⟨c3, h3, k3⟩ := hc i hi 3 _ rfl
      obtain ⟨z3, rfl⟩ := k3.1 Tryd.underlying3
      obtain ⟨c4, h4, k4⟩ := hc i hi 4 _ rfl
      obtain ⟨z4, rfl⟩ := k4.1 Tryd.underlying3
      exact ⟨⟨z0, z1, z2, z3, z4⟩, h0, h1, h2, h3, h4, l1⟩
    obtain ⟨pick, hpick⟩ := Classical.axiomOfChoice (r := fun (i : Fin len) (s : VReader) => ReaderAt W b (o + i.1 * 5) s) (fun i => each i.1 i.2)
    refine ⟨(List.finRange len).map pick, by simp, hl, hm, ?_⟩
    rcases ha with h0 | rfl
    · exact .inl h0
    · by_cases h0 : len = 0
      · exact .inl h0
      · refine .inr ⟨b, o, rfl, hb (by omega), fun k s hs => ?_⟩
        obtain ⟨hk, rfl⟩ := List.getElem?_eq_some_iff.1 hs
        have hk' : k < len := by simpa using hk
        have := hpick ⟨k, hk'⟩
        simpa using this
theorem infoReader : (Tryd.prog.info? 36).map (fun i => (i.zero, i.size, i.bytes)) = some (some (.agg #[.int .i64 0, .string ByteArray.empty, .int .i64 0, .int .i64 0, .int .i64 0]), 5, 48) := by kernel_rfl
def cellsReader (xs : List VReader) : List Value := xs.flatMap VReader.vals
theorem cellsReader_len (xs : List VReader) : (cellsReader xs).length = xs.length * 5 := by
  induction xs with
  | nil => rfl
  | cons x xs ih => simp [cellsReader, VReader.vals_len] at *; omega
theorem cellsReader_append (xs ys : List VReader) : cellsReader (xs ++ ys) = cellsReader xs ++ cellsReader ys := by simp [cellsReader]
theorem cellsReader_snoc (xs : List VReader) (s : VReader) : cellsReader (xs ++ [s]) = cellsReader xs ++ s.vals := by simp [cellsReader]
theorem cellsReader_at {xs : List VReader} {k : Nat} {s : VReader} (h : xs[k]? = some s) (j : Nat) (hj : j < 5) : (cellsReader xs)[k * 5 + j]? = s.vals[j]? := by
  have hk : k < xs.length := (List.getElem?_eq_some_iff.1 h).1
  have e : xs = xs.take k ++ s :: xs.drop (k + 1) := by
    have h2 := List.take_append_drop k xs
    rw [List.drop_eq_getElem_cons hk] at h2
    have : xs[k] = s := by rw [List.getElem?_eq_getElem hk] at h; simpa using h
    rw [this] at h2; exact h2.symm
  have hl : (cellsReader (xs.take k)).length = k * 5 := by rw [cellsReader_len, List.length_take]; omega
  rw [e, show cellsReader (xs.take k ++ s :: xs.drop (k + 1)) = cellsReader (xs.take k) ++ (s.vals ++ cellsReader (xs.drop (k + 1))) from by simp [cellsReader], List.getElem?_append_right (by omega), hl, show k * 5 + j - k * 5 = j from by omega, List.getElem?_append_left (by rw [VReader.vals_len]; exact hj)]
theorem isReaderS_own {w : World} {base : Nat} {v : Value} {xs : List VReader} (h : w.ownsRow base 36 5 v xs.length (cellsReader xs)) (hsm : ∀ s ∈ xs, s.small) :
    ∃ a cap, v = .slice a xs.length cap ∧ IsReaderS w a xs.length cap xs ∧ ∀ b o, a = some ⟨b, o, none⟩ → v.ownBlock = some b := by
  have hlt := h.lt
  rcases h.2 with ⟨rfl, h0⟩ | ⟨g, cap, cur, rfl, hg, hh, hn, hcap, hsz, htake⟩
  · exact ⟨none, 0, by rw [h0], ⟨by rw [h0], by omega, by simp [maxLen], .inl h0⟩, fun _ _ h => by cases h⟩
  · refine ⟨some ⟨g, 0, none⟩, cap, rfl, ⟨rfl, hn, hcap, ?_⟩, fun b o h => by cases h; rfl⟩
    by_cases hz : xs.length = 0
    · exact .inl hz
    · refine .inr ⟨g, 0, rfl, (hlt g rfl).2, fun k s hs => ?_⟩
      have each : ∀ j u, j < 5 → s.vals[j]? = some u → w.cell? ⟨g, 0 + k * 5 + j, none⟩ = some u := fun j u hj hu => by
        have hc := h.cells (g := g) rfl (k * 5 + j) u ((cellsReader_at hs j hj).trans hu)
        rw [add_plain, ← Nat.add_assoc] at hc; exact hc
      exact ⟨each 0 _ (by decide) rfl, each 1 _ (by decide) rfl, each 2 _ (by decide) rfl, each 3 _ (by decide) rfl, each 4 _ (by decide) rfl, hsm s (List.mem_of_getElem? hs)⟩
theorem nil_ownReader (w : World) (base : Nat) : w.ownsRow base 36 5 (.slice none 0 0) ([] : List VReader).length (cellsReader []) := ⟨by simp [cellsReader], .inl ⟨rfl, rfl⟩⟩
theorem cell_Reader (w : World) (s : VReader) (t : TypeId) : ∀ j u, s.vals[j]? = some u → (w.alloc (.cells #[.int .i64 s.Id, .string s.Name, .int .i64 s.Joined, .int .i64 s.Class, .int .i64 s.Fines] t)).cell? ((⟨w.heap.size, 0, none⟩ : Addr).add j) = some u := by
  intro j u hj
  rw [add_plain, Nat.zero_add, World.cell?_alloc_new]
  simpa [VReader.vals] using hj
theorem cell_Reader2 (w : World) (o : Obj) (s : VReader) (t : TypeId) : ∀ j u, s.vals[j]? = some u → ((w.alloc o).alloc (.cells #[.int .i64 s.Id, .string s.Name, .int .i64 s.Joined, .int .i64 s.Class, .int .i64 s.Fines] t)).cell? ((⟨w.heap.size + 1, 0, none⟩ : Addr).add j) = some u := by
  have h := cell_Reader (w.alloc o) s t
  rw [show (w.alloc o).heap.size = w.heap.size + 1 from by show (w.heap.push o).size = _; simp] at h
  exact h
/-- What is left of a row of the call's own when it is cut behind some elements. -/
theorem take_ownReader {w : World} {base : Nat} {a : Option Addr} {cap k : Nat} {xs : List VReader} (h : w.ownsRow base 36 5 (.slice a xs.length cap) xs.length (cellsReader xs)) (hk : k ≤ xs.length) :
    w.ownsRow base 36 5 (.slice a k cap) k (cellsReader (xs.take k)) := by
  have hl : (cellsReader (xs.take k)).length = k * 5 := by rw [cellsReader_len, List.length_take]; omega
  refine ⟨hl, ?_⟩
  rcases h.2 with ⟨h0, h1⟩ | ⟨g, cap', cur, e, hg, hh, hn, hcap, hsz, htake⟩
  · simp only [Value.slice.injEq] at h0
    obtain ⟨rfl, h2, rfl⟩ := h0
    exact .inl ⟨by rw [show k = 0 by omega], by omega⟩
  · cases e
    refine .inr ⟨g, cap, cur, rfl, hg, hh, by omega, hcap, hsz, ?_⟩
    have e2 : cellsReader xs = cellsReader (xs.take k) ++ cellsReader (xs.drop k) := by
      unfold cellsReader
      rw [← List.flatMap_append, List.take_append_drop]
    have h3 := congrArg (List.take (k * 5)) htake
    rw [List.take_take, Nat.min_eq_left (by have := Nat.mul_le_mul_right 5 hk; omega), e2, List.take_append_of_le_length (by omega), List.take_of_length_le (show (cellsReader (xs.take k)).length ≤ k * 5 by omega)] at h3
    exact h3
/-- A slice of them, as what is appended. -/
theorem srcReader {w : World} {a : Option Addr} {len cap : Nat} {xs : List VReader} (h : IsReaderS w a len cap xs) : SrcAt w a len 5 (cellsReader xs) := by
  refine ⟨by rw [cellsReader_len, h.1], ?_⟩
  rcases h.2.2.2 with h0 | ⟨b, o, rfl, hb, hat⟩
  · exact .inl h0
  · refine .inr ⟨_, rfl, fun j u hj => ?_⟩
    rw [add_plain]
    have hl := (List.getElem?_eq_some_iff.1 hj).1
    rw [cellsReader_len] at hl
    obtain ⟨k, r, rfl, hr⟩ : ∃ k r, j = k * 5 + r ∧ r < 5 := ⟨j / 5, j % 5, by omega, Nat.mod_lt _ (by decide)⟩
    have hk : k < xs.length := by omega
    have hs : xs[k]? = some xs[k] := List.getElem?_eq_getElem hk
    have hu := cellsReader_at hs r hr
    rw [hj] at hu
    have ha := hat k _ hs
    rw [← Nat.add_assoc]
    rcases (show r = 0 ∨ r = 1 ∨ r = 2 ∨ r = 3 ∨ r = 4 by omega) with rfl | rfl | rfl | rfl | rfl
    · rw [hu]; exact ha.1
    · rw [hu]; exact ha.2.1
    · rw [hu]; exact ha.2.2.1
    · rw [hu]; exact ha.2.2.2.1
    · rw [hu]; exact ha.2.2.2.2.1
/-- Block b holds it, all of it, and may be written. -/
def HBReader (w : World) (b : Nat) (s : VReader) : Prop := w.heap[b]? = some (.cells #[.int .i64 s.Id, .string s.Name, .int .i64 s.Joined, .int .i64 s.Class, .int .i64 s.Fines] 36 (0, 0))
theorem HBReader.lt {w : World} {b : Nat} {s : VReader} (h : HBReader w b s) : b < w.heap.size := (Array.getElem?_eq_some_iff.1 h).1
theorem HBReader.new (w : World) (s : VReader) (B : Nat) (hB : w.heap.size = B) : HBReader (w.alloc (.cells #[.int .i64 s.Id, .string s.Name, .int .i64 s.Joined, .int .i64 s.Class, .int .i64 s.Fines] 36)) B s := hB ▸ heap_alloc_new w _
theorem HBReader.below {w w' : World} {b : Nat} {s : VReader} (h : HBReader w b s) (hb : Below w.heap.size w w') : HBReader w' b s := (hb.block b h.lt).trans h
theorem HBReader.grown {w w' : World} {b : Nat} {s : VReader} {row : Option Nat} (h : HBReader w b s) (hg : w.grownBy w' row) (hne : some b ≠ row) : HBReader w' b s := (hg.block b h.lt hne).trans h
theorem HBReader.drew {w : World} {b : Nat} {s : VReader} (h : HBReader w b s) : HBReader w.drew b s := h
theorem HBReader.alloc {w : World} {b : Nat} {s : VReader} (h : HBReader w b s) (o : Obj) : HBReader (w.alloc o) b s := (Below.heap_alloc w o b h.lt).trans h
theorem HBReader.other {w : World} {b b' j : Nat} {s : VReader} (h : HBReader w b s) (hne : b ≠ b') (u : Value) : HBReader (w.setCell ⟨b', j, none⟩ u) b s := (heap_setCell_other w ⟨b', j, none⟩ b u hne).trans h
theorem HBReader.cells {w : World} {b : Nat} {s : VReader} (h : HBReader w b s) : w.cell? ⟨b, 0, none⟩ = some (.int .i64 s.Id) ∧ w.cell? ⟨b, 1, none⟩ = some (.string s.Name) ∧ w.cell? ⟨b, 2, none⟩ = some (.int .i64 s.Joined) ∧ w.cell? ⟨b, 3, none⟩ = some (.int .i64 s.Class) ∧ w.cell? ⟨b, 4, none⟩ = some (.int .i64 s.Fines) := by
  unfold HBReader at h
  refine ⟨?_, ?_, ?_, ?_, ?_⟩ <;> simp [World.cell?, h]
theorem HBReader.free {w : World} {b : Nat} {s : VReader} (h : HBReader w b s) (j : Nat) : w.frozen? ⟨b, j, none⟩ = false := by
  unfold HBReader at h
  simp [World.frozen?, h]
theorem HBReader.set0 {w : World} {b : Nat} {s : VReader} (h : HBReader w b s) (v : Int) : HBReader (w.setCell ⟨b, 0, none⟩ (.int .i64 v)) b ⟨v, s.Name, s.Joined, s.Class, s.Fines⟩ := heap_setCell_same w b 0 _ _ _ h
theorem HBReader.set1 {w : World} {b : Nat} {s : VReader} (h : HBReader w b s) (v : ByteArray) : HBReader (w.setCell ⟨b, 1, none⟩ (.string v)) b ⟨s.Id, v, s.Joined, s.Class, s.Fines⟩ := heap_setCell_same w b 1 _ _ _ h
theorem HBReader.set2 {w : World} {b : Nat} {s : VReader} (h : HBReader w b s) (v : Int) : HBReader (w.setCell ⟨b, 2, none⟩ (.int .i64 v)) b ⟨s.Id, s.Name, v, s.Class, s.Fines⟩ := heap_setCell_same w b 2 _ _ _ h
theorem HBReader.set3 {w : World} {b : Nat} {s : VReader} (h : HBReader w b s) (v : Int) : HBReader (w.setCell ⟨b, 3, none⟩ (.int .i64 v)) b ⟨s.Id, s.Name, s.Joined, v, s.Fines⟩ := heap_setCell_same w b 3 _ _ _ h
theorem HBReader.set4 {w : World} {b : Nat} {s : VReader} (h : HBReader w b s) (v : Int) : HBReader (w.setCell ⟨b, 4, none⟩ (.int .i64 v)) b ⟨s.Id, s.Name, s.Joined, s.Class, v⟩ := heap_setCell_same w b 4 _ _ _ h
theorem HBReader.setAll {w : World} {b : Nat} {s : VReader} (h : HBReader w b s) (t : VReader) : HBReader (((((w.setCell ⟨b, 0, none⟩ (.int .i64 t.Id)).setCell ⟨b, 1, none⟩ (.string t.Name)).setCell ⟨b, 2, none⟩ (.int .i64 t.Joined)).setCell ⟨b, 3, none⟩ (.int .i64 t.Class)).setCell ⟨b, 4, none⟩ (.int .i64 t.Fines)) b t :=
  (heap_setCell_same _ b 4 _ _ _ (heap_setCell_same _ b 3 _ _ _ (heap_setCell_same _ b 2 _ _ _ (heap_setCell_same _ b 1 _ _ _ (heap_setCell_same _ b 0 _ _ _ h)))))
theorem HBReader.otherAll {w : World} {b b' : Nat} {s : VReader} (h : HBReader w b s) (hne : b ≠ b') (x0 x1 x2 x3 x4 : Value) : HBReader (((((w.setCell ⟨b', 0, none⟩ x0).setCell ⟨b', 1, none⟩ x1).setCell ⟨b', 2, none⟩ x2).setCell ⟨b', 3, none⟩ x3).setCell ⟨b', 4, none⟩ x4) b s :=
  (((((h.other hne x0).other hne x1).other hne x2).other hne x3).other hne x4)
/-- It lies in the box b of some type. -/
def BoxReader (w : World) (b : Nat) (s : VReader) : Prop := w.cell? ⟨b, 0, none⟩ = some (.int .i64 s.Id) ∧ w.cell? ⟨b, 1, none⟩ = some (.string s.Name) ∧ w.cell? ⟨b, 2, none⟩ = some (.int .i64 s.Joined) ∧ w.cell? ⟨b, 3, none⟩ = some (.int .i64 s.Class) ∧ w.cell? ⟨b, 4, none⟩ = some (.int .i64 s.Fines)
theorem BoxReader.new (w : World) (t : TypeId) (s : VReader) (B : Nat) (hB : w.heap.size = B) : BoxReader (w.alloc (.cells #[.int .i64 s.Id, .string s.Name, .int .i64 s.Joined, .int .i64 s.Class, .int .i64 s.Fines] t)) B s := by
  subst hB
  refine ⟨?_, ?_, ?_, ?_, ?_⟩ <;> simp [World.cell?_alloc_new]
theorem BoxReader.lt {w : World} {b : Nat} {s : VReader} (h : BoxReader w b s) : b < w.heap.size := World.lt_of_cell h.1
theorem BoxReader.below {w w' : World} {b : Nat} {s : VReader} (h : BoxReader w b s) (hb : Below w.heap.size w w') : BoxReader w' b s :=
  ⟨(hb.cell (p := ⟨b, 0, none⟩) h.lt).trans h.1, (hb.cell (p := ⟨b, 1, none⟩) h.lt).trans h.2.1, (hb.cell (p := ⟨b, 2, none⟩) h.lt).trans h.2.2.1, (hb.cell (p := ⟨b, 3, none⟩) h.lt).trans h.2.2.2.1, (hb.cell (p := ⟨b, 4, none⟩) h.lt).trans h.2.2.2.2⟩
theorem BoxReader.grown {w w' : World} {b : Nat} {s : VReader} {row : Option Nat} (h : BoxReader w b s) (hg : w.grownBy w' row) (hne : some b ≠ row) : BoxReader w' b s :=
  ⟨(World.cell?_of_block (w := w) (a := ⟨b, 0, none⟩) (hg.block b h.lt hne)).trans h.1, (World.cell?_of_block (w := w) (a := ⟨b, 1, none⟩) (hg.block b h.lt hne)).trans h.2.1, (World.cell?_of_block (w := w) (a := ⟨b, 2, none⟩) (hg.block b h.lt hne)).trans h.2.2.1, (World.cell?_of_block (w := w) (a := ⟨b, 3, none⟩) (hg.block b h.lt hne)).trans h.2.2.2.1, (World.cell?_of_block (w := w) (a := ⟨b, 4, none⟩) (hg.block b h.lt hne)).trans h.2.2.2.2⟩
set_option maxHeartbeats 3200000 in
theorem toReader_any (s : VReader) (w : World) :
    Calls Tryd.prog 52 #[.agg #[.int .i64 s.Id, .string s.Name, .int .i64 s.Joined, .int .i64 s.Class, .int .i64 s.Fines]] w fun e w' => e = .returned (.agg #[.int .i64 s.Id, .string s.Name, .int .i64 s.Joined, .int .i64 s.Class, .int .i64 s.Fines]) ∧ Below w.heap.size w w' := by
  go_enter Tryd.func52, Tryd.ntmps52
  go_wp2
  refine bodyPost_ret (v := .agg #[.int .i64 s.Id, .string s.Name, .int .i64 s.Joined, .int .i64 s.Class, .int .i64 s.Fines]) (by simp [results, Tryd.results52, go_sem]) rfl ⟨rfl, ?_⟩
  repeat (first | exact Below.refl _ _ | refine Below.setCell ?_ (by simp; try omega) _ | refine Below.alloc ?_ (by simp; try omega) _)
set_option maxHeartbeats 3200000 in
theorem eqReader_yes (s : VReader) (w : World) :
    Calls Tryd.prog 53 #[.agg #[.int .i64 s.Id, .string s.Name, .int .i64 s.Joined, .int .i64 s.Class, .int .i64 s.Fines], .agg #[.int .i64 s.Id, .string s.Name, .int .i64 s.Joined, .int .i64 s.Class, .int .i64 s.Fines]] w fun e w' => e = .returned (.bool true) ∧ Below w.heap.size w w' := by
  go_enter Tryd.func53, Tryd.ntmps53
  go_wp2
  go_ret
  exact ⟨rfl, by repeat (first | exact Below.refl _ _ | refine Below.alloc ?_ (by simp; try omega) _)⟩
def zerosReader (n : Nat) : List Value := (List.replicate n [.int .i64 0, .string ByteArray.empty, .int .i64 0, .int .i64 0, .int .i64 0]).flatten
theorem zerosReader_succ (n : Nat) : zerosReader (n + 1) = .int .i64 0 :: .string ByteArray.empty :: .int .i64 0 :: .int .i64 0 :: .int .i64 0 :: zerosReader n := by
  unfold zerosReader; rw [List.replicate_succ]; rfl
theorem zerosReader_len (n : Nat) : (zerosReader n).length = n * 5 := by
  induction n with
  | zero => rfl
  | succ n ih => rw [zerosReader_succ]; simp [ih]; omega
theorem zerosReader_at (n j : Nat) (h : j < n * 5) : (zerosReader n)[j]? = [.int .i64 0, .string ByteArray.empty, .int .i64 0, .int .i64 0, .int .i64 0][j % 5]? := by
  induction n generalizing j with
  | zero => omega
  | succ n ih =>
    rw [zerosReader_succ]
    by_cases hj : j < 5
    · rw [Nat.mod_eq_of_lt hj]
      rcases (show j = 0 ∨ j = 1 ∨ j = 2 ∨ j = 3 ∨ j = 4 by omega) with rfl | rfl | rfl | rfl | rfl <;> rfl
    · obtain ⟨i, rfl⟩ : ∃ i, j = i + 5 := ⟨j - 5, by omega⟩
      rw [Nat.add_mod_right, ← ih i (by omega)]
      rfl
theorem madeReader (n : Nat) : (madeCells (.agg #[.int .i64 0, .string ByteArray.empty, .int .i64 0, .int .i64 0, .int .i64 0] : Value).cells (n * 5)).toList = zerosReader n := by
  apply List.ext_getElem?
  intro j
  rw [Array.getElem?_toList]
  by_cases h : j < n * 5
  · rw [zerosReader_at n j h]
    have hm : j % 5 < 5 := Nat.mod_lt _ (by decide)
    simp only [madeCells, Value.cells]
    rw [Array.getElem?_eq_getElem (by simpa using h)]
    rcases (show j % 5 = 0 ∨ j % 5 = 1 ∨ j % 5 = 2 ∨ j % 5 = 3 ∨ j % 5 = 4 by omega) with e | e | e | e | e <;> simp [e]
  · rw [List.getElem?_eq_none (by rw [zerosReader_len]; omega)]
    simp [madeCells, h]
theorem setReader (A L : List Value) (v0 v1 v2 v3 v4 : Value) (o : Nat) (hA : A.length = o) (hL : o + 5 ≤ L.length) :
    ((((((A ++ L.drop o).set (o) v0).set (o + 1) v1).set (o + 2) v2).set (o + 3) v3).set (o + 4) v4) = A ++ v0 :: v1 :: v2 :: v3 :: v4 :: L.drop (o + 5) := by
  subst hA
  obtain ⟨a0, a1, a2, a3, a4, e⟩ : ∃ a0 a1 a2 a3 a4, L.drop A.length = a0 :: a1 :: a2 :: a3 :: a4 :: L.drop (A.length + 5) := ⟨_, _, _, _, _, by rw [List.drop_eq_getElem_cons (show A.length < L.length by omega), List.drop_eq_getElem_cons (show A.length + 1 < L.length by omega), List.drop_eq_getElem_cons (show A.length + 2 < L.length by omega), List.drop_eq_getElem_cons (show A.length + 3 < L.length by omega), List.drop_eq_getElem_cons (show A.length + 4 < L.length by omega)]⟩
  rw [e]
  generalize L.drop (A.length + 5) = D
  simp [List.set_append_right]
theorem storedReader {w : World} {base n c g o : Nat} {e : TypeId} {size : Nat} {A L : List Value} (h : w.ownsRow base e size (.slice (some ⟨g, 0, none⟩) n c) n (A ++ L.drop o)) (hA : A.length = o) (hL : o + 5 ≤ L.length) (v0 v1 v2 v3 v4 : Value) :
    (((((w.setCell ⟨g, o, none⟩ v0).setCell ⟨g, o + 1, none⟩ v1).setCell ⟨g, o + 2, none⟩ v2).setCell ⟨g, o + 3, none⟩ v3).setCell ⟨g, o + 4, none⟩ v4).ownsRow base e size (.slice (some ⟨g, 0, none⟩) n c) n (A ++ v0 :: v1 :: v2 :: v3 :: v4 :: L.drop (o + 5)) ∧ w.grownBy (((((w.setCell ⟨g, o, none⟩ v0).setCell ⟨g, o + 1, none⟩ v1).setCell ⟨g, o + 2, none⟩ v2).setCell ⟨g, o + 3, none⟩ v3).setCell ⟨g, o + 4, none⟩ v4) (some g) := by
  have h0 := h.stored (o) v0
  have h1 := h0.1.stored (o + 1) v1
  have h2 := h1.1.stored (o + 2) v2
  have h3 := h2.1.stored (o + 3) v3
  have h4 := h3.1.stored (o + 4) v4
  refine ⟨?_, (grown_trans (grown_trans (grown_trans (grown_trans h0.2 h1.2) h2.2) h3.2) h4.2)⟩
  have := h4.1
  rw [setReader A L v0 v1 v2 v3 v4 o hA hL] at this
  exact this
/-- A row of the call's own, and the world below as it was. -/
def ReaderRow (xs : List VReader) (w : World) (e : Ending) (w' : World) : Prop := ∃ v, e = .returned v ∧ w'.ownsRow w.heap.size 36 5 v xs.length (cellsReader xs) ∧ Below w.heap.size w w'
theorem cellsReader_drop (xs : List VReader) (i : Nat) : (cellsReader xs).drop (i * 5) = cellsReader (xs.drop i) := by
  by_cases h : i ≤ xs.length
  · have e : cellsReader xs = cellsReader (xs.take i) ++ cellsReader (xs.drop i) := by
      unfold cellsReader
      rw [← List.flatMap_append, List.take_append_drop]
    have hl : (cellsReader (xs.take i)).length = i * 5 := by rw [cellsReader_len, List.length_take]; omega
    rw [e, List.drop_append_of_le_length (by omega), List.drop_of_length_le (by omega), List.nil_append]
  · rw [List.drop_of_length_le (show xs.length ≤ i by omega), List.drop_of_length_le (by rw [cellsReader_len]; omega)]; rfl
theorem cellsReader_take (xs : List VReader) (i : Nat) : cellsReader xs = cellsReader (xs.take i) ++ (cellsReader xs).drop (i * 5) := by
  rw [cellsReader_drop]
  unfold cellsReader
  rw [← List.flatMap_append, List.take_append_drop]
theorem cellsReader_set (xs : List VReader) (i : Nat) (r : VReader) (h : i < xs.length) : cellsReader (xs.set i r) = cellsReader (xs.take i) ++ (r.vals ++ (cellsReader xs).drop (i * 5 + 5)) := by
  rw [List.set_eq_take_append_cons_drop, if_pos h, show i * 5 + 5 = (i + 1) * 5 by omega, cellsReader_drop]
  simp [cellsReader]
/-- An element of a row of the call's own is replaced. -/
theorem own_setReader {w : World} {base m c g i : Nat} {xs : List VReader} (h : w.ownsRow base 36 5 (.slice (some ⟨g, 0, none⟩) m c) m (cellsReader xs)) (hi : i < xs.length) (r : VReader) :
    (((((w.setCell ⟨g, i * 5, none⟩ (.int .i64 r.Id)).setCell ⟨g, i * 5 + 1, none⟩ (.string r.Name)).setCell ⟨g, i * 5 + 2, none⟩ (.int .i64 r.Joined)).setCell ⟨g, i * 5 + 3, none⟩ (.int .i64 r.Class)).setCell ⟨g, i * 5 + 4, none⟩ (.int .i64 r.Fines)).ownsRow base 36 5 (.slice (some ⟨g, 0, none⟩) m c) m (cellsReader (xs.set i r)) ∧ w.grownBy (((((w.setCell ⟨g, i * 5, none⟩ (.int .i64 r.Id)).setCell ⟨g, i * 5 + 1, none⟩ (.string r.Name)).setCell ⟨g, i * 5 + 2, none⟩ (.int .i64 r.Joined)).setCell ⟨g, i * 5 + 3, none⟩ (.int .i64 r.Class)).setCell ⟨g, i * 5 + 4, none⟩ (.int .i64 r.Fines)) (some g) := by
  rw [cellsReader_set xs i r hi]
  rw [cellsReader_take xs i] at h
  exact storedReader h (by rw [cellsReader_len, List.length_take]; omega) (by rw [cellsReader_len]; omega) (.int .i64 r.Id) (.string r.Name) (.int .i64 r.Joined) (.int .i64 r.Class) (.int .i64 r.Fines)
set_option maxHeartbeats 3200000 in
set_option maxRecDepth 100000 in
theorem toReaderS_any (a : Option Addr) (len cap : Nat) (xs : List VReader) (w : World) (h : IsReaderS w a len cap xs) (hsz : len ≤ 1048576) :
    Calls Tryd.prog 23 #[.slice a len cap] w (ReaderRow xs w) := by
  obtain rfl := h.1
  obtain ⟨i0, hi, hz0, hz1, hz2⟩ := info_parts infoReader
  have S := Lib.hid h
  clear h
  go_enter Tryd.func23, Tryd.ntmps23
  go_wp2_with (refine wpList_make_full _ rfl _ _ 24 rfl w.heap.size 36 i0 (.agg #[.int .i64 0, .string ByteArray.empty, .int .i64 0, .int .i64 0, .int .i64 0]) 5 Tryd.underlying24 hi hz0 hz1 .i64 .i64 _ _ xs.length rfl rfl rfl rfl (by rw [hz2]; omega) (by unfold maxLen; omega) (Nat.le_refl _) ?_; intro w1 hown hgrow)
  have hb1 : Below w.heap.size w w1 := (Below.refl _ _).grown hgrow (Nat.le_refl _) (fun k e => by cases e)
  have H1 := Lib.hid hown
  have hg1 := (hown.lt w.heap.size rfl).2
  clear hown hgrow
  go_loopw [4] (fun i wr => ∃ k : Nat, k ≤ xs.length ∧ i = .int .i64 k ∧ Below w.heap.size w wr ∧ wr.ownsRow w.heap.size 36 5 (.slice (some ⟨w.heap.size, 0, none⟩) xs.length xs.length) xs.length (cellsReader (xs.take k) ++ (zerosReader xs.length).drop (k * 5))) (fun i _ => xs.length - (intOf i).toNat)
  case atStart => exact ⟨0, Nat.zero_le _, rfl, hb1, by have h := H1.out; rw [madeReader] at h; simpa [cellsReader] using h⟩
  case round =>
    obtain ⟨k, hk, rfl, hbel, hown⟩ := hrel
    have O := Lib.hid hown
    have B := Lib.hid hbel
    by_cases hlt : k < xs.length
    · obtain ⟨s, hs⟩ : ∃ s, xs[k]? = some s := ⟨xs[k]'hlt, List.getElem?_eq_getElem _⟩
      obtain ⟨b, o, rfl, hb, hat⟩ := (S.out.below hbel).at (by omega)
      obtain ⟨c0, c1, c2, c3, c4, _⟩ := hat k s hs
      have K := Lib.hid hs
      have hm := S.out.2.2.1
      unfold maxLen at hm
      clear hown hbel hs hat
      go_wp2_with fail
      refine (toReader_any s _).mono ?_
      rintro e w2 ⟨rfl, hb2⟩
      have O2 := Lib.hid (ownsRow_below O.out hb2)
      have B2 := Lib.hid (Below.then' B.out hb2)
      clear hb2 c0 c1 c2 c3 c4
      have f0 := O2.out.frozenAt (k * 5)
      have f1 := O2.out.frozenAt (k * 5 + 1)
      have f2 := O2.out.frozenAt (k * 5 + 2)
      have f3 := O2.out.frozenAt (k * 5 + 3)
      have f4 := O2.out.frozenAt (k * 5 + 4)
      obtain ⟨u0, d0⟩ := own_cell O2.out (k * 5) (by rw [List.length_append, cellsReader_len, List.length_take, List.length_drop, zerosReader_len]; omega)
      obtain ⟨u1, d1⟩ := own_cell O2.out (k * 5 + 1) (by rw [List.length_append, cellsReader_len, List.length_take, List.length_drop, zerosReader_len]; omega)
      obtain ⟨u2, d2⟩ := own_cell O2.out (k * 5 + 2) (by rw [List.length_append, cellsReader_len, List.length_take, List.length_drop, zerosReader_len]; omega)
      obtain ⟨u3, d3⟩ := own_cell O2.out (k * 5 + 3) (by rw [List.length_append, cellsReader_len, List.length_take, List.length_drop, zerosReader_len]; omega)
      obtain ⟨u4, d4⟩ := own_cell O2.out (k * 5 + 4) (by rw [List.length_append, cellsReader_len, List.length_take, List.length_drop, zerosReader_len]; omega)
      go_wp2
      go_roundw
      case rel =>
        have h5 := storedReader O2.out (by rw [cellsReader_len, List.length_take]; omega) (by rw [zerosReader_len]; omega) (.int .i64 s.Id) (.string s.Name) (.int .i64 s.Joined) (.int .i64 s.Class) (.int .i64 s.Fines)
        refine ⟨k + 1, by omega, by go_num, B2.out.grown h5.2 B2.out.size (fun j e => by cases e; exact Nat.le_refl _), ?_⟩
        rw [List.take_add_one, K.out, show (some s).toList = [s] from rfl, cellsReader_snoc, List.append_assoc, show (k + 1) * 5 = k * 5 + 5 by omega]
        exact h5.1
      case measure => simp [intOf]; omega
    · obtain rfl : k = xs.length := by omega
      clear hown hbel
      have hm := S.out.2.2.1
      unfold maxLen at hm
      go_wp2
      go_ret
      refine ⟨_, rfl, ?_, B.out⟩
      have h := O.out
      rw [List.drop_of_length_le (by rw [zerosReader_len]; omega), List.append_nil, List.take_of_length_le (Nat.le_refl _)] at h
      exact h
set_option maxHeartbeats 3200000 in
set_option maxRecDepth 100000 in
theorem eqReaderS_yes (a : Option Addr) (len cap : Nat) (a' : Option Addr) (len' cap' : Nat) (xs : List VReader) (w : World) (h : IsReaderS w a len cap xs) (h' : IsReaderS w a' len' cap' xs) :
    Calls Tryd.prog 24 #[.slice a len cap, .slice a' len' cap'] w fun e w' => e = .returned (.bool true) ∧ Below w.heap.size w w' := by
  obtain rfl := h.1
  obtain rfl := h'.1
  have hm := h.2.2.1
  have hcl := h.2.1
  unfold maxLen at hm
  have S := Lib.hid h
  have S' := Lib.hid h'
  clear h h'
  go_enter Tryd.func24, Tryd.ntmps24
  go_wp2
  go_loopw [5] (fun i wr => ∃ k : Nat, k ≤ xs.length ∧ i = .int .i64 k ∧ Below w.heap.size w wr) (fun i _ => xs.length - (intOf i).toNat)
  case atStart => exact ⟨0, Nat.zero_le _, rfl, Below.refl _ _⟩
  case round =>
    obtain ⟨k, hk, rfl, hbel⟩ := hrel
    have B := Lib.hid hbel
    by_cases hlt : k < xs.length
    · obtain ⟨s, hs⟩ : ∃ s, xs[k]? = some s := ⟨xs[k]'hlt, List.getElem?_eq_getElem _⟩
      obtain ⟨b, o, rfl, hb, hat⟩ := (S.out.below hbel).at (by omega)
      obtain ⟨b', o', rfl, hb', hat'⟩ := (S'.out.below hbel).at (by omega)
      obtain ⟨c0, c1, c2, c3, c4, _⟩ := hat k s hs
      obtain ⟨d0, d1, d2, d3, d4, _⟩ := hat' k s hs
      have hi0 : (0 : Int) ≤ (k : Int) := by omega
      have hi1 : (k : Int) < (xs.length : Int) := by omega
      clear hbel hs hat hat'
      go_wp2
      go_region_with (go_at_call 53; refine (eqReader_yes s _).mono ?_; rintro e w1 ⟨rfl, hb1⟩; have B1 := Lib.hid (Below.then' (bel_drew' B.out) hb1); clear hb1)
      all_goals go_wp2
      all_goals go_roundw
      all_goals first
        | exact ⟨k + 1, by omega, by go_num, B1.out⟩
        | (simp [intOf]; omega)
    · obtain rfl : k = xs.length := by omega
      clear hbel
      go_wp2
      go_ret
      exact ⟨rfl, B.out⟩
def VReader.sized (s : VReader) : Prop := s.Name.size ≤ 1048576
theorem sized_smallReader (s : VReader) (h : s.sized) : s.small := by unfold VReader.sized at h; unfold VReader.small; unfold maxLen; omega
set_option maxHeartbeats 800000 in
theorem szReader_any (s : VReader) (left : Int) (w : World) (hs : s.small) (h0 : 0 ≤ left) (h1 : left ≤ 1048576) :
    Calls Tryd.prog 49 #[.agg #[.int .i64 s.Id, .string s.Name, .int .i64 s.Joined, .int .i64 s.Class, .int .i64 s.Fines], .int .i64 left] w fun e w' => ∃ z : Int, e = .returned (.int .i64 z) ∧ z ≤ left ∧ (0 ≤ z → s.sized) ∧ Below w.heap.size w w' := by
  have hs0 : s.Name.size ≤ maxLen := hs
  unfold maxLen at hs0
  go_enter Tryd.func49, Tryd.ntmps49
  go_wp2
  all_goals go_ret
  all_goals exact ⟨_, rfl, by omega, fun hz => by unfold VReader.sized; omega, (Below.refl _ _).alloc (Nat.le_refl _) _⟩
set_option maxHeartbeats 1600000 in
theorem szReaderS_any (a : Option Addr) (len cap : Nat) (xs : List VReader) (left : Int) (w : World) (h : IsReaderS w a len cap xs) (h0 : 0 ≤ left) (h1 : left ≤ 1048576) :
    Calls Tryd.prog 21 #[.slice a len cap, .int .i64 left] w fun e w' => ∃ z : Int, e = .returned (.int .i64 z) ∧ z ≤ left ∧ (0 ≤ z → len ≤ 1048576 ∧ ∀ s ∈ xs, s.sized) ∧ Below w.heap.size w w' := by
  obtain rfl := h.1
  have hm := h.2.2.1
  have hcl := h.2.1
  unfold maxLen at hm
  have S := Lib.hid h
  clear h
  by_cases hlt : left < (xs.length : Int)
  · have hn : left - (xs.length : Int) < 0 := by omega
    go_enter Tryd.func21, Tryd.ntmps21
    go_wp2
    go_ret
    exact ⟨-1, rfl, by omega, by omega, Below.refl _ _⟩
  · have hn : ¬ left - (xs.length : Int) < 0 := by omega
    have hn2 : 0 ≤ left - (xs.length : Int) := by omega
    obtain ⟨l0, hl0⟩ : ∃ l0, left - (xs.length : Int) = l0 := ⟨_, rfl⟩
    have b0 : 0 ≤ l0 := by omega
    have b1 : l0 ≤ left := by omega
    have L0 := Lib.hid hl0
    clear hl0
    go_enter Tryd.func21, Tryd.ntmps21
    go_wp2
    go_loopw [1, 5] (fun l i wr => ∃ (k : Nat) (y : Int), k ≤ xs.length ∧ i = .int .i64 k ∧ l = .int .i64 y ∧ 0 ≤ y ∧ y ≤ left ∧ (∀ j s, j < k → xs[j]? = some s → s.sized) ∧ Below w.heap.size w wr) (fun _ i _ => xs.length - (intOf i).toNat)
    case atStart => exact ⟨0, l0, Nat.zero_le _, rfl, by rw [L0.out], b0, b1, fun _ _ h => by omega, Below.refl _ _⟩
    case round =>
      obtain ⟨k, y, hk, rfl, rfl, y0, y1, hsz, hbel⟩ := hrel
      have SZ := Lib.hid hsz
      have B := Lib.hid hbel
      by_cases hlt2 : k < xs.length
      · obtain ⟨s, hs⟩ : ∃ s, xs[k]? = some s := ⟨xs[k]'hlt2, List.getElem?_eq_getElem _⟩
        obtain ⟨b, o, rfl, hb, hat⟩ := (S.out.below hbel).at (by omega)
        obtain ⟨c0, c1, c2, c3, c4, hsm⟩ := hat k s hs
        have HS := Lib.hid hs
        have hi0 : (0 : Int) ≤ (k : Int) := by omega
        have hi1 : (k : Int) < (xs.length : Int) := by omega
        clear hbel hs hat hsz
        go_wp2_with fail
        refine (szReader_any s y _ hsm y0 (by omega)).mono ?_
        rintro e w2 ⟨z, rfl, z1, z2, hb2⟩
        have B2 := Lib.hid (Below.then' B.out hb2)
        have Z2 := Lib.hid z2
        clear hb2 z2
        by_cases hz : z < 0
        · go_wp2
          go_ret
          exact ⟨-1, rfl, by omega, by omega, B2.out⟩
        · go_wp2
          go_roundw
          case rel => exact ⟨k + 1, z, by omega, by go_num, rfl, by omega, by omega, fun j t hj ht => by
            by_cases e : j = k
            · subst e; rw [HS.out] at ht; cases ht; exact Z2.out (by omega)
            · exact SZ.out j t (by omega) ht, B2.out⟩
          case measure => simp [intOf]; omega
      · obtain rfl : k = xs.length := by omega
        clear hbel hsz
        go_wp2
        go_ret
        exact ⟨y, rfl, by omega, fun _ => ⟨by omega, fun s hs => by
          obtain ⟨j, hj⟩ := List.getElem?_of_mem hs
          exact SZ.out j s (List.getElem?_eq_some_iff.1 hj).1 hj⟩, B.out⟩
/-- The marks from b on, and n of them. -/
def markReader (b : Nat) : VReader := ⟨((b : Nat) : Int), markOf (b + 1), ((b + 2 : Nat) : Int), ((b + 3 : Nat) : Int), ((b + 4 : Nat) : Int)⟩
def marksReader (k n : Nat) : List VReader := (List.range n).map fun i => markReader (k + i * 5)
theorem marksReader_len (k n : Nat) : (marksReader k n).length = n := by simp [marksReader]
theorem marksReader_succ (k n : Nat) : marksReader k (n + 1) = marksReader k n ++ [markReader (k + n * 5)] := by simp [marksReader, List.range_succ]
theorem marksReader_at (k n i : Nat) (h : i < n) : (marksReader k n)[i]? = some (markReader (k + i * 5)) := by simp [marksReader, h]
def ReaderMarked (base k n : Nat) (v : Value) (w : World) (e : Ending) (w' : World) : Prop := e = .returned (.int .i64 ((k + n * 5 : Nat) : Int)) ∧ w'.ownsRow base 36 5 v n (cellsReader (marksReader k n)) ∧ w.grownBy w' v.ownBlock
theorem markReader_small (b : Nat) (h : b + 5 ≤ 100000000) : (markReader b).small := markOf_size _ (by omega)
theorem marksReader_small (k n : Nat) (h : k + n * 5 + 5 ≤ 100000000) : ∀ s ∈ marksReader k n, s.small := by
  intro s hs
  obtain ⟨i, hi⟩ := List.getElem?_of_mem hs
  have hlt := (List.getElem?_eq_some_iff.1 hi).1
  rw [marksReader_len] at hlt
  rw [marksReader_at k n i hlt] at hi
  cases hi
  exact markReader_small _ (by have := Nat.mul_le_mul_right 5 (Nat.le_of_lt hlt); omega)
end Go.Proofs.YtidaoijpbdljbabDoor
