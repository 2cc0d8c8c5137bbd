/- The struct Maker: its fields; one read from an argument; slices of it; and the laws' own helpers over it. (made by gen.py) -/
import Derived.Test.YtpcibejmahhjiaaDoorOpen2
import Derived.Test.YtpcibejmahhjiaaDoorBox0
import Derived.Test.YtpcibejmahhjiaaDoorAppL
import Derived.Test.YtpcibejmahhjiaaDoorReg
import Derived.Test.YtpcibejmahhjiaaDoorMarkT
import Derived.Deep.RegionWith
import Derived.Laws.OwnMore
import Derived.Handy
import Derived.Laws.IdiomRangeMap
namespace Go.Proofs.YtpcibejmahhjiaaDoor
open Go.RowKit Go.ChangeShapes Go.WideShapes Go.Deep

structure VMaker where
  Id : Int
  Name : ByteArray
  From : Int
  Until : Int
  Heir : Int
def VMaker.vals (s : VMaker) : List Value := [.int .i64 s.Id, .string s.Name, .int .i64 s.From, .int .i64 s.Until, .int .i64 s.Heir]
theorem VMaker.vals_len (s : VMaker) : s.vals.length = 5 := rfl
theorem VMaker.vals_one (s : VMaker) : ∀ u ∈ s.vals, u.oneCell' = true := by
  intro u hu
  simp [VMaker.vals] at hu
  rcases hu with rfl | rfl | rfl | rfl | rfl <;> rfl
/-- Its texts are no longer than any text may be. -/
def VMaker.small (s : VMaker) : Prop := s.Name.size ≤ maxLen
/-- It lies at block b from offset o on. -/
def MakerAt (w : World) (b o : Nat) (s : VMaker) : Prop :=
  w.cell? ⟨b, o, none⟩ = some (.int .i64 s.Id) ∧ w.cell? ⟨b, o + 1, none⟩ = some (.string s.Name) ∧ w.cell? ⟨b, o + 2, none⟩ = some (.int .i64 s.From) ∧ w.cell? ⟨b, o + 3, none⟩ = some (.int .i64 s.Until) ∧ w.cell? ⟨b, o + 4, none⟩ = some (.int .i64 s.Heir) ∧ s.small
def IsMakerS (w : World) (a : Option Addr) (len cap : Nat) (xs : List VMaker) : Prop :=
  len = xs.length ∧ len ≤ cap ∧ cap ≤ maxLen ∧ (len = 0 ∨ ∃ b o, a = some ⟨b, o, none⟩ ∧ b < w.heap.size ∧ ∀ (k : Nat) s, xs[k]? = some s → MakerAt w b (o + k * 5) s)
theorem MakerAt.below {w w' : World} {b o : Nat} {s : VMaker} (h : MakerAt w b o s) (hb : Below w.heap.size w w') (hlt : b < w.heap.size) : MakerAt w' b o s :=
  ⟨(hb.cell (p := ⟨b, o, none⟩) hlt).trans h.1, (hb.cell (p := ⟨b, o + 1, none⟩) hlt).trans h.2.1, (hb.cell (p := ⟨b, o + 2, none⟩) hlt).trans h.2.2.1, (hb.cell (p := ⟨b, o + 3, none⟩) hlt).trans h.2.2.2.1, (hb.cell (p := ⟨b, o + 4, none⟩) hlt).trans h.2.2.2.2.1, h.2.2.2.2.2⟩
theorem MakerAt.block {w w' : World} {b o : Nat} {s : VMaker} (h : MakerAt w b o s) (hb : w'.heap[b]? = w.heap[b]?) : MakerAt w' b o s :=
  ⟨(World.cell?_of_block (w := w) (a := ⟨b, o, none⟩) hb).trans h.1, (World.cell?_of_block (w := w) (a := ⟨b, o + 1, none⟩) hb).trans h.2.1, (World.cell?_of_block (w := w) (a := ⟨b, o + 2, none⟩) hb).trans h.2.2.1, (World.cell?_of_block (w := w) (a := ⟨b, o + 3, none⟩) hb).trans h.2.2.2.1, (World.cell?_of_block (w := w) (a := ⟨b, o + 4, none⟩) hb).trans h.2.2.2.2.1, h.2.2.2.2.2⟩
theorem IsMakerS.below {w w' : World} {a : Option Addr} {len cap : Nat} {xs : List VMaker} (h : IsMakerS w a len cap xs) (hb : Below w.heap.size w w') : IsMakerS w' a len cap xs := by
  refine ⟨h.1, h.2.1, h.2.2.1, ?_⟩
  rcases h.2.2.2 with h0 | ⟨b, o, rfl, h1, h2⟩
  · exact .inl h0
  · exact .inr ⟨b, o, rfl, Nat.lt_of_lt_of_le h1 hb.size, fun k s hs => (h2 k s hs).below hb h1⟩
theorem IsMakerS.grown {w w' : World} {a : Option Addr} {len cap : Nat} {xs : List VMaker} {row : Option Nat} (h : IsMakerS w a len cap xs) (hg : w.grownBy w' row) (hne : ∀ b o, a = some ⟨b, o, none⟩ → some b ≠ row) : IsMakerS w' a len cap xs := by
  refine ⟨h.1, h.2.1, h.2.2.1, ?_⟩
  rcases h.2.2.2 with h0 | ⟨b, o, rfl, h1, h2⟩
  · exact .inl h0
  · exact .inr ⟨b, o, rfl, Nat.lt_of_lt_of_le h1 hg.size, fun k s hs => (h2 k s hs).block (hg.block b h1 (hne b o rfl))⟩
theorem IsMakerS.at {w : World} {a : Option Addr} {len cap : Nat} {xs : List VMaker} (h : IsMakerS w a len cap xs) (hpos : 0 < len) : ∃ b o, a = some ⟨b, o, none⟩ ∧ b < w.heap.size ∧ ∀ (k : Nat) s, xs[k]? = some s → MakerAt w b (o + k * 5) s := by
  rcases h.2.2.2 with h0 | h1
  · omega
  · exact h1
theorem nil_IsMakerS (w : World) : IsMakerS w none 0 0 [] := ⟨rfl, Nat.le_refl _, by simp [maxLen], .inl rfl⟩
set_option maxRecDepth 100000 in
theorem open_Maker {H : Type} {enc : TypeId × Value → H} {w : World} {base : Nat} {spare : Nat → Bool} {held : Bool} {r : Reach} {b0 : Nat} {v : Value} {d : DataW H} {p : List MemPlace}
    (hv : Value.okWide Tryd.prog w r b0 48 v) (h : DataW.Trod enc Tryd.prog w base spare held 48 v d p) : ∃ s : VMaker, v = .agg #[.int .i64 s.Id, .string s.Name, .int .i64 s.From, .int .i64 s.Until, .int .i64 s.Heir] ∧ s.small := by
  obtain ⟨cs, rfl, hl, hc⟩ := open_one_struct (P := Tryd.prog) Tryd.underlying48 (by kernel_rfl) (by kernel_rfl) hv h
  obtain ⟨c0, h0, k0⟩ := hc 0 _ rfl
  obtain ⟨z0, rfl⟩ := k0.1 Tryd.underlying3
  obtain ⟨c1, h1, k1⟩ := hc 1 _ rfl
  obtain ⟨z1, rfl, l1⟩ := k1.2.1 Tryd.underlying9
  obtain ⟨c2, h2, k2⟩ := hc 2 _ rfl
  obtain ⟨z2, rfl⟩ := k2.1 Tryd.underlying3
  obtain ⟨c3, h3, k3⟩ := hc 3 _ rfl
  obtain ⟨z3, rfl⟩ := k3.1 Tryd.underlying3
  obtain ⟨c4, h4, k4⟩ := hc 4 _ rfl
  obtain ⟨z4, rfl⟩ := k4.1 Tryd.underlying3
  have e : cs = [.int .i64 z0, .string z1, .int .i64 z2, .int .i64 z3, .int .i64 z4] := by
    apply List.ext_getElem?
    intro j
    by_cases hj : j < 5
    · rcases (show j = 0 ∨ j = 1 ∨ j = 2 ∨ j = 3 ∨ j = 4 by omega) with rfl | rfl | rfl | rfl | rfl
      all_goals first | exact h0 | exact h1 | exact h2 | exact h3 | exact h4
    · rw [List.getElem?_eq_none (by simp at hl; omega), List.getElem?_eq_none (by simp; omega)]
  subst e
  exact ⟨⟨z0, z1, z2, z3, z4⟩, rfl, l1⟩
theorem infoMaker : (Tryd.prog.info? 37).map (fun i => (i.zero, i.size, i.bytes)) = some (some (.agg #[.int .i64 0, .string ByteArray.empty, .int .i64 0, .int .i64 0, .int .i64 0]), 5, 48) := by kernel_rfl
def cellsMaker (xs : List VMaker) : List Value := xs.flatMap VMaker.vals
theorem cellsMaker_len (xs : List VMaker) : (cellsMaker xs).length = xs.length * 5 := by
  induction xs with
  | nil => rfl
  | cons x xs ih => simp [cellsMaker, VMaker.vals_len] at *; omega
theorem cellsMaker_append (xs ys : List VMaker) : cellsMaker (xs ++ ys) = cellsMaker xs ++ cellsMaker ys := by simp [cellsMaker]
theorem cellsMaker_snoc (xs : List VMaker) (s : VMaker) : cellsMaker (xs ++ [s]) = cellsMaker xs ++ s.vals := by simp [cellsMaker]
theorem cellsMaker_at {xs : List VMaker} {k : Nat} {s : VMaker} (h : xs[k]? = some s) (j : Nat) (hj : j < 5) : (cellsMaker xs)[k * 5 + j]? = s.vals[j]? := by
  have hk : k < xs.length := (List.getElem?_eq_some_iff.1 h).1
  have e : xs = xs.take k ++ s :: xs.drop (k + 1) := by
    have h2 := List.take_append_drop k xs
    rw [List.drop_eq_getElem_cons hk] at h2
    have : xs[k] = s := by rw [List.getElem?_eq_getElem hk] at h; simpa using h
    rw [this] at h2; exact h2.symm
  have hl : (cellsMaker (xs.take k)).length = k * 5 := by rw [cellsMaker_len, List.length_take]; omega
  rw [e, show cellsMaker (xs.take k ++ s :: xs.drop (k + 1)) = cellsMaker (xs.take k) ++ (s.vals ++ cellsMaker (xs.drop (k + 1))) from by simp [cellsMaker], List.getElem?_append_right (by omega), hl, show k * 5 + j - k * 5 = j from by omega, List.getElem?_append_left (by rw [VMaker.vals_len]; exact hj)]
theorem isMakerS_own {w : World} {base : Nat} {v : Value} {xs : List VMaker} (h : w.ownsRow base 37 5 v xs.length (cellsMaker xs)) (hsm : ∀ s ∈ xs, s.small) :
    ∃ a cap, v = .slice a xs.length cap ∧ IsMakerS w a xs.length cap xs ∧ ∀ b o, a = some ⟨b, o, none⟩ → v.ownBlock = some b := by
  have hlt := h.lt
  rcases h.2 with ⟨rfl, h0⟩ | ⟨g, cap, cur, rfl, hg, hh, hn, hcap, hsz, htake⟩
  · exact ⟨none, 0, by rw [h0], ⟨by rw [h0], by omega, by simp [maxLen], .inl h0⟩, fun _ _ h => by cases h⟩
  · refine ⟨some ⟨g, 0, none⟩, cap, rfl, ⟨rfl, hn, hcap, ?_⟩, fun b o h => by cases h; rfl⟩
    by_cases hz : xs.length = 0
    · exact .inl hz
    · refine .inr ⟨g, 0, rfl, (hlt g rfl).2, fun k s hs => ?_⟩
      have each : ∀ j u, j < 5 → s.vals[j]? = some u → w.cell? ⟨g, 0 + k * 5 + j, none⟩ = some u := fun j u hj hu => by
        have hc := h.cells (g := g) rfl (k * 5 + j) u ((cellsMaker_at hs j hj).trans hu)
        rw [add_plain, ← Nat.add_assoc] at hc; exact hc
      exact ⟨each 0 _ (by decide) rfl, each 1 _ (by decide) rfl, each 2 _ (by decide) rfl, each 3 _ (by decide) rfl, each 4 _ (by decide) rfl, hsm s (List.mem_of_getElem? hs)⟩
theorem nil_ownMaker (w : World) (base : Nat) : w.ownsRow base 37 5 (.slice none 0 0) ([] : List VMaker).length (cellsMaker []) := ⟨by simp [cellsMaker], .inl ⟨rfl, rfl⟩⟩
theorem cell_Maker (w : World) (s : VMaker) (t : TypeId) : ∀ j u, s.vals[j]? = some u → (w.alloc (.cells #[.int .i64 s.Id, .string s.Name, .int .i64 s.From, .int .i64 s.Until, .int .i64 s.Heir] t)).cell? ((⟨w.heap.size, 0, none⟩ : Addr).add j) = some u := by
  intro j u hj
  rw [add_plain, Nat.zero_add, World.cell?_alloc_new]
  simpa [VMaker.vals] using hj
theorem cell_Maker2 (w : World) (o : Obj) (s : VMaker) (t : TypeId) : ∀ j u, s.vals[j]? = some u → ((w.alloc o).alloc (.cells #[.int .i64 s.Id, .string s.Name, .int .i64 s.From, .int .i64 s.Until, .int .i64 s.Heir] t)).cell? ((⟨w.heap.size + 1, 0, none⟩ : Addr).add j) = some u := by
  have h := cell_Maker (w.alloc o) s t
  rw [show (w.alloc o).heap.size = w.heap.size + 1 from by show (w.heap.push o).size = _; simp] at h
  exact h
/-- What is left of a row of the call's own when it is cut behind some elements. -/
theorem take_ownMaker {w : World} {base : Nat} {a : Option Addr} {cap k : Nat} {xs : List VMaker} (h : w.ownsRow base 37 5 (.slice a xs.length cap) xs.length (cellsMaker xs)) (hk : k ≤ xs.length) :
    w.ownsRow base 37 5 (.slice a k cap) k (cellsMaker (xs.take k)) := by
  have hl : (cellsMaker (xs.take k)).length = k * 5 := by rw [cellsMaker_len, List.length_take]; omega
  refine ⟨hl, ?_⟩
  rcases h.2 with ⟨h0, h1⟩ | ⟨g, cap', cur, e, hg, hh, hn, hcap, hsz, htake⟩
  · simp only [Value.slice.injEq] at h0
    obtain ⟨rfl, h2, rfl⟩ := h0
    exact .inl ⟨by rw [show k = 0 by omega], by omega⟩
  · cases e
    refine .inr ⟨g, cap, cur, rfl, hg, hh, by omega, hcap, hsz, ?_⟩
    have e2 : cellsMaker xs = cellsMaker (xs.take k) ++ cellsMaker (xs.drop k) := by
      unfold cellsMaker
      rw [← List.flatMap_append, List.take_append_drop]
    have h3 := congrArg (List.take (k * 5)) htake
    rw [List.take_take, Nat.min_eq_left (by have := Nat.mul_le_mul_right 5 hk; omega), e2, List.take_append_of_le_length (by omega), List.take_of_length_le (show (cellsMaker (xs.take k)).length ≤ k * 5 by omega)] at h3
    exact h3
/-- A slice of them, as what is appended. -/
theorem srcMaker {w : World} {a : Option Addr} {len cap : Nat} {xs : List VMaker} (h : IsMakerS w a len cap xs) : SrcAt w a len 5 (cellsMaker xs) := by
  refine ⟨by rw [cellsMaker_len, h.1], ?_⟩
  rcases h.2.2.2 with h0 | ⟨b, o, rfl, hb, hat⟩
  · exact .inl h0
  · refine .inr ⟨_, rfl, fun j u hj => ?_⟩
    rw [add_plain]
    have hl := (List.getElem?_eq_some_iff.1 hj).1
    rw [cellsMaker_len] at hl
    obtain ⟨k, r, rfl, hr⟩ : ∃ k r, j = k * 5 + r ∧ r < 5 := ⟨j / 5, j % 5, by omega, Nat.mod_lt _ (by decide)⟩
    have hk : k < xs.length := by omega
    have hs : xs[k]? = some xs[k] := List.getElem?_eq_getElem hk
    have hu := cellsMaker_at hs r hr
    rw [hj] at hu
    have ha := hat k _ hs
    rw [← Nat.add_assoc]
    rcases (show r = 0 ∨ r = 1 ∨ r = 2 ∨ r = 3 ∨ r = 4 by omega) with rfl | rfl | rfl | rfl | rfl
    · rw [hu]; exact ha.1
    · rw [hu]; exact ha.2.1
    · rw [hu]; exact ha.2.2.1
    · rw [hu]; exact ha.2.2.2.1
    · rw [hu]; exact ha.2.2.2.2.1
/-- Block b holds it, all of it, and may be written. -/
def HBMaker (w : World) (b : Nat) (s : VMaker) : Prop := w.heap[b]? = some (.cells #[.int .i64 s.Id, .string s.Name, .int .i64 s.From, .int .i64 s.Until, .int .i64 s.Heir] 37 (0, 0))
theorem HBMaker.lt {w : World} {b : Nat} {s : VMaker} (h : HBMaker w b s) : b < w.heap.size := (Array.getElem?_eq_some_iff.1 h).1
theorem HBMaker.new (w : World) (s : VMaker) (B : Nat) (hB : w.heap.size = B) : HBMaker (w.alloc (.cells #[.int .i64 s.Id, .string s.Name, .int .i64 s.From, .int .i64 s.Until, .int .i64 s.Heir] 37)) B s := hB ▸ heap_alloc_new w _
theorem HBMaker.below {w w' : World} {b : Nat} {s : VMaker} (h : HBMaker w b s) (hb : Below w.heap.size w w') : HBMaker w' b s := (hb.block b h.lt).trans h
theorem HBMaker.grown {w w' : World} {b : Nat} {s : VMaker} {row : Option Nat} (h : HBMaker w b s) (hg : w.grownBy w' row) (hne : some b ≠ row) : HBMaker w' b s := (hg.block b h.lt hne).trans h
theorem HBMaker.drew {w : World} {b : Nat} {s : VMaker} (h : HBMaker w b s) : HBMaker w.drew b s := h
theorem HBMaker.alloc {w : World} {b : Nat} {s : VMaker} (h : HBMaker w b s) (o : Obj) : HBMaker (w.alloc o) b s := (Below.heap_alloc w o b h.lt).trans h
theorem HBMaker.other {w : World} {b b' j : Nat} {s : VMaker} (h : HBMaker w b s) (hne : b ≠ b') (u : Value) : HBMaker (w.setCell ⟨b', j, none⟩ u) b s := (heap_setCell_other w ⟨b', j, none⟩ b u hne).trans h
theorem HBMaker.cells {w : World} {b : Nat} {s : VMaker} (h : HBMaker w b s) : w.cell? ⟨b, 0, none⟩ = some (.int .i64 s.Id) ∧ w.cell? ⟨b, 1, none⟩ = some (.string s.Name) ∧ w.cell? ⟨b, 2, none⟩ = some (.int .i64 s.From) ∧ w.cell? ⟨b, 3, none⟩ = some (.int .i64 s.Until) ∧ w.cell? ⟨b, 4, none⟩ = some (.int .i64 s.Heir) := by
  unfold HBMaker at h
  refine ⟨?_, ?_, ?_, ?_, ?_⟩ <;> simp [World.cell?, h]
theorem HBMaker.free {w : World} {b : Nat} {s : VMaker} (h : HBMaker w b s) (j : Nat) : w.frozen? ⟨b, j, none⟩ = false := by
  unfold HBMaker at h
  simp [World.frozen?, h]
theorem HBMaker.set0 {w : World} {b : Nat} {s : VMaker} (h : HBMaker w b s) (v : Int) : HBMaker (w.setCell ⟨b, 0, none⟩ (.int .i64 v)) b ⟨v, s.Name, s.From, s.Until, s.Heir⟩ := heap_setCell_same w b 0 _ _ _ h
theorem HBMaker.set1 {w : World} {b : Nat} {s : VMaker} (h : HBMaker w b s) (v : ByteArray) : HBMaker (w.setCell ⟨b, 1, none⟩ (.string v)) b ⟨s.Id, v, s.From, s.Until, s.Heir⟩ := heap_setCell_same w b 1 _ _ _ h
theorem HBMaker.set2 {w : World} {b : Nat} {s : VMaker} (h : HBMaker w b s) (v : Int) : HBMaker (w.setCell ⟨b, 2, none⟩ (.int .i64 v)) b ⟨s.Id, s.Name, v, s.Until, s.Heir⟩ := heap_setCell_same w b 2 _ _ _ h
theorem HBMaker.set3 {w : World} {b : Nat} {s : VMaker} (h : HBMaker w b s) (v : Int) : HBMaker (w.setCell ⟨b, 3, none⟩ (.int .i64 v)) b ⟨s.Id, s.Name, s.From, v, s.Heir⟩ := heap_setCell_same w b 3 _ _ _ h
theorem HBMaker.set4 {w : World} {b : Nat} {s : VMaker} (h : HBMaker w b s) (v : Int) : HBMaker (w.setCell ⟨b, 4, none⟩ (.int .i64 v)) b ⟨s.Id, s.Name, s.From, s.Until, v⟩ := heap_setCell_same w b 4 _ _ _ h
theorem HBMaker.setAll {w : World} {b : Nat} {s : VMaker} (h : HBMaker w b s) (t : VMaker) : HBMaker (((((w.setCell ⟨b, 0, none⟩ (.int .i64 t.Id)).setCell ⟨b, 1, none⟩ (.string t.Name)).setCell ⟨b, 2, none⟩ (.int .i64 t.From)).setCell ⟨b, 3, none⟩ (.int .i64 t.Until)).setCell ⟨b, 4, none⟩ (.int .i64 t.Heir)) b t :=
  (heap_setCell_same _ b 4 _ _ _ (heap_setCell_same _ b 3 _ _ _ (heap_setCell_same _ b 2 _ _ _ (heap_setCell_same _ b 1 _ _ _ (heap_setCell_same _ b 0 _ _ _ h)))))
theorem HBMaker.otherAll {w : World} {b b' : Nat} {s : VMaker} (h : HBMaker w b s) (hne : b ≠ b') (x0 x1 x2 x3 x4 : Value) : HBMaker (((((w.setCell ⟨b', 0, none⟩ x0).setCell ⟨b', 1, none⟩ x1).setCell ⟨b', 2, none⟩ x2).setCell ⟨b', 3, none⟩ x3).setCell ⟨b', 4, none⟩ x4) b s :=
  (((((h.other hne x0).other hne x1).other hne x2).other hne x3).other hne x4)
/-- It lies in the box b of some type. -/
def BoxMaker (w : World) (b : Nat) (s : VMaker) : Prop := w.cell? ⟨b, 0, none⟩ = some (.int .i64 s.Id) ∧ w.cell? ⟨b, 1, none⟩ = some (.string s.Name) ∧ w.cell? ⟨b, 2, none⟩ = some (.int .i64 s.From) ∧ w.cell? ⟨b, 3, none⟩ = some (.int .i64 s.Until) ∧ w.cell? ⟨b, 4, none⟩ = some (.int .i64 s.Heir)
theorem BoxMaker.new (w : World) (t : TypeId) (s : VMaker) (B : Nat) (hB : w.heap.size = B) : BoxMaker (w.alloc (.cells #[.int .i64 s.Id, .string s.Name, .int .i64 s.From, .int .i64 s.Until, .int .i64 s.Heir] t)) B s := by
  subst hB
  refine ⟨?_, ?_, ?_, ?_, ?_⟩ <;> simp [World.cell?_alloc_new]
theorem BoxMaker.lt {w : World} {b : Nat} {s : VMaker} (h : BoxMaker w b s) : b < w.heap.size := World.lt_of_cell h.1
theorem BoxMaker.below {w w' : World} {b : Nat} {s : VMaker} (h : BoxMaker w b s) (hb : Below w.heap.size w w') : BoxMaker w' b s :=
  ⟨(hb.cell (p := ⟨b, 0, none⟩) h.lt).trans h.1, (hb.cell (p := ⟨b, 1, none⟩) h.lt).trans h.2.1, (hb.cell (p := ⟨b, 2, none⟩) h.lt).trans h.2.2.1, (hb.cell (p := ⟨b, 3, none⟩) h.lt).trans h.2.2.2.1, (hb.cell (p := ⟨b, 4, none⟩) h.lt).trans h.2.2.2.2⟩
theorem BoxMaker.grown {w w' : World} {b : Nat} {s : VMaker} {row : Option Nat} (h : BoxMaker w b s) (hg : w.grownBy w' row) (hne : some b ≠ row) : BoxMaker w' b s :=
  ⟨(World.cell?_of_block (w := w) (a := ⟨b, 0, none⟩) (hg.block b h.lt hne)).trans h.1, (World.cell?_of_block (w := w) (a := ⟨b, 1, none⟩) (hg.block b h.lt hne)).trans h.2.1, (World.cell?_of_block (w := w) (a := ⟨b, 2, none⟩) (hg.block b h.lt hne)).trans h.2.2.1, (World.cell?_of_block (w := w) (a := ⟨b, 3, none⟩) (hg.block b h.lt hne)).trans h.2.2.2.1, (World.cell?_of_block (w := w) (a := ⟨b, 4, none⟩) (hg.block b h.lt hne)).trans h.2.2.2.2⟩
set_option maxHeartbeats 3200000 in
theorem toMaker_any (s : VMaker) (w : World) :
    Calls Tryd.prog 29 #[.agg #[.int .i64 s.Id, .string s.Name, .int .i64 s.From, .int .i64 s.Until, .int .i64 s.Heir]] w fun e w' => e = .returned (.agg #[.int .i64 s.Id, .string s.Name, .int .i64 s.From, .int .i64 s.Until, .int .i64 s.Heir]) ∧ Below w.heap.size w w' := by
  go_enter Tryd.func29, Tryd.ntmps29
  go_wp2
  refine bodyPost_ret (v := .agg #[.int .i64 s.Id, .string s.Name, .int .i64 s.From, .int .i64 s.Until, .int .i64 s.Heir]) (by simp [results, Tryd.results29, go_sem]) rfl ⟨rfl, ?_⟩
  repeat (first | exact Below.refl _ _ | refine Below.setCell ?_ (by simp; try omega) _ | refine Below.alloc ?_ (by simp; try omega) _)
def zerosMaker (n : Nat) : List Value := (List.replicate n [.int .i64 0, .string ByteArray.empty, .int .i64 0, .int .i64 0, .int .i64 0]).flatten
theorem zerosMaker_succ (n : Nat) : zerosMaker (n + 1) = .int .i64 0 :: .string ByteArray.empty :: .int .i64 0 :: .int .i64 0 :: .int .i64 0 :: zerosMaker n := by
  unfold zerosMaker; rw [List.replicate_succ]; rfl
theorem zerosMaker_len (n : Nat) : (zerosMaker n).length = n * 5 := by
  induction n with
  | zero => rfl
  | succ n ih => rw [zerosMaker_succ]; simp [ih]; omega
theorem zerosMaker_at (n j : Nat) (h : j < n * 5) : (zerosMaker n)[j]? = [.int .i64 0, .string ByteArray.empty, .int .i64 0, .int .i64 0, .int .i64 0][j % 5]? := by
  induction n generalizing j with
  | zero => omega
  | succ n ih =>
    rw [zerosMaker_succ]
    by_cases hj : j < 5
    · rw [Nat.mod_eq_of_lt hj]
      rcases (show j = 0 ∨ j = 1 ∨ j = 2 ∨ j = 3 ∨ j = 4 by omega) with rfl | rfl | rfl | rfl | rfl <;> rfl
    · obtain ⟨i, rfl⟩ : ∃ i, j = i + 5 := ⟨j - 5, by omega⟩
      rw [Nat.add_mod_right, ← ih i (by omega)]
      rfl
theorem madeMaker (n : Nat) : (madeCells (.agg #[.int .i64 0, .string ByteArray.empty, .int .i64 0, .int .i64 0, .int .i64 0] : Value).cells (n * 5)).toList = zerosMaker n := by
  apply List.ext_getElem?
  intro j
  rw [Array.getElem?_toList]
  by_cases h : j < n * 5
  · rw [zerosMaker_at n j h]
    have hm : j % 5 < 5 := Nat.mod_lt _ (by decide)
    simp only [madeCells, Value.cells]
    rw [Array.getElem?_eq_getElem (by simpa using h)]
    rcases (show j % 5 = 0 ∨ j % 5 = 1 ∨ j % 5 = 2 ∨ j % 5 = 3 ∨ j % 5 = 4 by omega) with e | e | e | e | e <;> simp [e]
  · rw [List.getElem?_eq_none (by rw [zerosMaker_len]; omega)]
    simp [madeCells, h]
theorem setMaker (A L : List Value) (v0 v1 v2 v3 v4 : Value) (o : Nat) (hA : A.length = o) (hL : o + 5 ≤ L.length) :
    ((((((A ++ L.drop o).set (o) v0).set (o + 1) v1).set (o + 2) v2).set (o + 3) v3).set (o + 4) v4) = A ++ v0 :: v1 :: v2 :: v3 :: v4 :: L.drop (o + 5) := by
  subst hA
  obtain ⟨a0, a1, a2, a3, a4, e⟩ : ∃ a0 a1 a2 a3 a4, L.drop A.length = a0 :: a1 :: a2 :: a3 :: a4 :: L.drop (A.length + 5) := ⟨_, _, _, _, _, by rw [List.drop_eq_getElem_cons (show A.length < L.length by omega), List.drop_eq_getElem_cons (show A.length + 1 < L.length by omega), List.drop_eq_getElem_cons (show A.length + 2 < L.length by omega), List.drop_eq_getElem_cons (show A.length + 3 < L.length by omega), List.drop_eq_getElem_cons (show A.length + 4 < L.length by omega)]⟩
  rw [e]
  generalize L.drop (A.length + 5) = D
  simp [List.set_append_right]
theorem storedMaker {w : World} {base n c g o : Nat} {e : TypeId} {size : Nat} {A L : List Value} (h : w.ownsRow base e size (.slice (some ⟨g, 0, none⟩) n c) n (A ++ L.drop o)) (hA : A.length = o) (hL : o + 5 ≤ L.length) (v0 v1 v2 v3 v4 : Value) :
    (((((w.setCell ⟨g, o, none⟩ v0).setCell ⟨g, o + 1, none⟩ v1).setCell ⟨g, o + 2, none⟩ v2).setCell ⟨g, o + 3, none⟩ v3).setCell ⟨g, o + 4, none⟩ v4).ownsRow base e size (.slice (some ⟨g, 0, none⟩) n c) n (A ++ v0 :: v1 :: v2 :: v3 :: v4 :: L.drop (o + 5)) ∧ w.grownBy (((((w.setCell ⟨g, o, none⟩ v0).setCell ⟨g, o + 1, none⟩ v1).setCell ⟨g, o + 2, none⟩ v2).setCell ⟨g, o + 3, none⟩ v3).setCell ⟨g, o + 4, none⟩ v4) (some g) := by
  have h0 := h.stored (o) v0
  have h1 := h0.1.stored (o + 1) v1
  have h2 := h1.1.stored (o + 2) v2
  have h3 := h2.1.stored (o + 3) v3
  have h4 := h3.1.stored (o + 4) v4
  refine ⟨?_, (grown_trans (grown_trans (grown_trans (grown_trans h0.2 h1.2) h2.2) h3.2) h4.2)⟩
  have := h4.1
  rw [setMaker A L v0 v1 v2 v3 v4 o hA hL] at this
  exact this
/-- A row of the call's own, and the world below as it was. -/
def MakerRow (xs : List VMaker) (w : World) (e : Ending) (w' : World) : Prop := ∃ v, e = .returned v ∧ w'.ownsRow w.heap.size 37 5 v xs.length (cellsMaker xs) ∧ Below w.heap.size w w'
theorem cellsMaker_drop (xs : List VMaker) (i : Nat) : (cellsMaker xs).drop (i * 5) = cellsMaker (xs.drop i) := by
  by_cases h : i ≤ xs.length
  · have e : cellsMaker xs = cellsMaker (xs.take i) ++ cellsMaker (xs.drop i) := by
      unfold cellsMaker
      rw [← List.flatMap_append, List.take_append_drop]
    have hl : (cellsMaker (xs.take i)).length = i * 5 := by rw [cellsMaker_len, List.length_take]; omega
    rw [e, List.drop_append_of_le_length (by omega), List.drop_of_length_le (by omega), List.nil_append]
  · rw [List.drop_of_length_le (show xs.length ≤ i by omega), List.drop_of_length_le (by rw [cellsMaker_len]; omega)]; rfl
theorem cellsMaker_take (xs : List VMaker) (i : Nat) : cellsMaker xs = cellsMaker (xs.take i) ++ (cellsMaker xs).drop (i * 5) := by
  rw [cellsMaker_drop]
  unfold cellsMaker
  rw [← List.flatMap_append, List.take_append_drop]
theorem cellsMaker_set (xs : List VMaker) (i : Nat) (r : VMaker) (h : i < xs.length) : cellsMaker (xs.set i r) = cellsMaker (xs.take i) ++ (r.vals ++ (cellsMaker xs).drop (i * 5 + 5)) := by
  rw [List.set_eq_take_append_cons_drop, if_pos h, show i * 5 + 5 = (i + 1) * 5 by omega, cellsMaker_drop]
  simp [cellsMaker]
/-- An element of a row of the call's own is replaced. -/
theorem own_setMaker {w : World} {base m c g i : Nat} {xs : List VMaker} (h : w.ownsRow base 37 5 (.slice (some ⟨g, 0, none⟩) m c) m (cellsMaker xs)) (hi : i < xs.length) (r : VMaker) :
    (((((w.setCell ⟨g, i * 5, none⟩ (.int .i64 r.Id)).setCell ⟨g, i * 5 + 1, none⟩ (.string r.Name)).setCell ⟨g, i * 5 + 2, none⟩ (.int .i64 r.From)).setCell ⟨g, i * 5 + 3, none⟩ (.int .i64 r.Until)).setCell ⟨g, i * 5 + 4, none⟩ (.int .i64 r.Heir)).ownsRow base 37 5 (.slice (some ⟨g, 0, none⟩) m c) m (cellsMaker (xs.set i r)) ∧ w.grownBy (((((w.setCell ⟨g, i * 5, none⟩ (.int .i64 r.Id)).setCell ⟨g, i * 5 + 1, none⟩ (.string r.Name)).setCell ⟨g, i * 5 + 2, none⟩ (.int .i64 r.From)).setCell ⟨g, i * 5 + 3, none⟩ (.int .i64 r.Until)).setCell ⟨g, i * 5 + 4, none⟩ (.int .i64 r.Heir)) (some g) := by
  rw [cellsMaker_set xs i r hi]
  rw [cellsMaker_take xs i] at h
  exact storedMaker h (by rw [cellsMaker_len, List.length_take]; omega) (by rw [cellsMaker_len]; omega) (.int .i64 r.Id) (.string r.Name) (.int .i64 r.From) (.int .i64 r.Until) (.int .i64 r.Heir)
def VMaker.sized (s : VMaker) : Prop := s.Name.size ≤ 1048576
theorem sized_smallMaker (s : VMaker) (h : s.sized) : s.small := by unfold VMaker.sized at h; unfold VMaker.small; unfold maxLen; omega
set_option maxHeartbeats 800000 in
theorem szMaker_any (s : VMaker) (left : Int) (w : World) (hs : s.small) (h0 : 0 ≤ left) (h1 : left ≤ 1048576) :
    Calls Tryd.prog 28 #[.agg #[.int .i64 s.Id, .string s.Name, .int .i64 s.From, .int .i64 s.Until, .int .i64 s.Heir], .int .i64 left] w fun e w' => ∃ z : Int, e = .returned (.int .i64 z) ∧ z ≤ left ∧ (0 ≤ z → s.sized) ∧ Below w.heap.size w w' := by
  have hs0 : s.Name.size ≤ maxLen := hs
  unfold maxLen at hs0
  go_enter Tryd.func28, Tryd.ntmps28
  go_wp2
  all_goals go_ret
  all_goals exact ⟨_, rfl, by omega, fun hz => by unfold VMaker.sized; omega, (Below.refl _ _).alloc (Nat.le_refl _) _⟩
/-- The marks from b on, and n of them. -/
def markMaker (b : Nat) : VMaker := ⟨((b : Nat) : Int), markOf (b + 1), ((b + 2 : Nat) : Int), ((b + 3 : Nat) : Int), ((b + 4 : Nat) : Int)⟩
def marksMaker (k n : Nat) : List VMaker := (List.range n).map fun i => markMaker (k + i * 5)
theorem marksMaker_len (k n : Nat) : (marksMaker k n).length = n := by simp [marksMaker]
theorem marksMaker_succ (k n : Nat) : marksMaker k (n + 1) = marksMaker k n ++ [markMaker (k + n * 5)] := by simp [marksMaker, List.range_succ]
theorem marksMaker_at (k n i : Nat) (h : i < n) : (marksMaker k n)[i]? = some (markMaker (k + i * 5)) := by simp [marksMaker, h]
def MakerMarked (base k n : Nat) (v : Value) (w : World) (e : Ending) (w' : World) : Prop := e = .returned (.int .i64 ((k + n * 5 : Nat) : Int)) ∧ w'.ownsRow base 37 5 v n (cellsMaker (marksMaker k n)) ∧ w.grownBy w' v.ownBlock
theorem markMaker_small (b : Nat) (h : b + 5 ≤ 100000000) : (markMaker b).small := markOf_size _ (by omega)
theorem marksMaker_small (k n : Nat) (h : k + n * 5 + 5 ≤ 100000000) : ∀ s ∈ marksMaker k n, s.small := by
  intro s hs
  obtain ⟨i, hi⟩ := List.getElem?_of_mem hs
  have hlt := (List.getElem?_eq_some_iff.1 hi).1
  rw [marksMaker_len] at hlt
  rw [marksMaker_at k n i hlt] at hi
  cases hi
  exact markMaker_small _ (by have := Nat.mul_le_mul_right 5 (Nat.le_of_lt hlt); omega)
end Go.Proofs.YtpcibejmahhjiaaDoor
