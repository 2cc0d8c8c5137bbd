/- The struct Loan: its fields; one read from an argument; slices of it; and the laws' own helpers over it. (made by gen.py) -/
import Derived.Test.YtffbljbgmgifnaaDoorOpen2
import Derived.Test.YtffbljbgmgifnaaDoorBox0
import Derived.Test.YtffbljbgmgifnaaDoorAppL
import Derived.Test.YtffbljbgmgifnaaDoorReg
import Derived.Deep.RegionWith
import Derived.Laws.OwnMore
import Derived.Handy
import Derived.Laws.IdiomRangeMap
namespace Go.Proofs.YtffbljbgmgifnaaDoor
open Go.RowKit Go.ChangeShapes Go.WideShapes Go.Deep

structure VLoan where
  Sheet : Int
  Reader : Int
  Out : Int
  Due : Int
  Back : Int
def VLoan.vals (s : VLoan) : List Value := [.int .i64 s.Sheet, .int .i64 s.Reader, .int .i64 s.Out, .int .i64 s.Due, .int .i64 s.Back]
theorem VLoan.vals_len (s : VLoan) : s.vals.length = 5 := rfl
theorem VLoan.vals_one (s : VLoan) : ∀ u ∈ s.vals, u.oneCell' = true := by
  intro u hu
  simp [VLoan.vals] at hu
  rcases hu with rfl | rfl | rfl | rfl | rfl <;> rfl
/-- It lies at block b from offset o on. -/
def LoanAt (w : World) (b o : Nat) (s : VLoan) : Prop :=
  w.cell? ⟨b, o, none⟩ = some (.int .i64 s.Sheet) ∧ w.cell? ⟨b, o + 1, none⟩ = some (.int .i64 s.Reader) ∧ w.cell? ⟨b, o + 2, none⟩ = some (.int .i64 s.Out) ∧ w.cell? ⟨b, o + 3, none⟩ = some (.int .i64 s.Due) ∧ w.cell? ⟨b, o + 4, none⟩ = some (.int .i64 s.Back)
def IsLoanS (w : World) (a : Option Addr) (len cap : Nat) (xs : List VLoan) : Prop :=
  len = xs.length ∧ len ≤ cap ∧ cap ≤ maxLen ∧ (len = 0 ∨ ∃ b o, a = some ⟨b, o, none⟩ ∧ b < w.heap.size ∧ ∀ (k : Nat) s, xs[k]? = some s → LoanAt w b (o + k * 5) s)
theorem LoanAt.below {w w' : World} {b o : Nat} {s : VLoan} (h : LoanAt w b o s) (hb : Below w.heap.size w w') (hlt : b < w.heap.size) : LoanAt w' b o s :=
  ⟨(hb.cell (p := ⟨b, o, none⟩) hlt).trans h.1, (hb.cell (p := ⟨b, o + 1, none⟩) hlt).trans h.2.1, (hb.cell (p := ⟨b, o + 2, none⟩) hlt).trans h.2.2.1, (hb.cell (p := ⟨b, o + 3, none⟩) hlt).trans h.2.2.2.1, (hb.cell (p := ⟨b, o + 4, none⟩) hlt).trans h.2.2.2.2⟩
theorem LoanAt.block {w w' : World} {b o : Nat} {s : VLoan} (h : LoanAt w b o s) (hb : w'.heap[b]? = w.heap[b]?) : LoanAt w' b o s :=
  ⟨(World.cell?_of_block (w := w) (a := ⟨b, o, none⟩) hb).trans h.1, (World.cell?_of_block (w := w) (a := ⟨b, o + 1, none⟩) hb).trans h.2.1, (World.cell?_of_block (w := w) (a := ⟨b, o + 2, none⟩) hb).trans h.2.2.1, (World.cell?_of_block (w := w) (a := ⟨b, o + 3, none⟩) hb).trans h.2.2.2.1, (World.cell?_of_block (w := w) (a := ⟨b, o + 4, none⟩) hb).trans h.2.2.2.2⟩
theorem IsLoanS.below {w w' : World} {a : Option Addr} {len cap : Nat} {xs : List VLoan} (h : IsLoanS w a len cap xs) (hb : Below w.heap.size w w') : IsLoanS w' a len cap xs := by
  refine ⟨h.1, h.2.1, h.2.2.1, ?_⟩
  rcases h.2.2.2 with h0 | ⟨b, o, rfl, h1, h2⟩
  · exact .inl h0
  · exact .inr ⟨b, o, rfl, Nat.lt_of_lt_of_le h1 hb.size, fun k s hs => (h2 k s hs).below hb h1⟩
theorem IsLoanS.grown {w w' : World} {a : Option Addr} {len cap : Nat} {xs : List VLoan} {row : Option Nat} (h : IsLoanS w a len cap xs) (hg : w.grownBy w' row) (hne : ∀ b o, a = some ⟨b, o, none⟩ → some b ≠ row) : IsLoanS w' a len cap xs := by
  refine ⟨h.1, h.2.1, h.2.2.1, ?_⟩
  rcases h.2.2.2 with h0 | ⟨b, o, rfl, h1, h2⟩
  · exact .inl h0
  · exact .inr ⟨b, o, rfl, Nat.lt_of_lt_of_le h1 hg.size, fun k s hs => (h2 k s hs).block (hg.block b h1 (hne b o rfl))⟩
theorem IsLoanS.at {w : World} {a : Option Addr} {len cap : Nat} {xs : List VLoan} (h : IsLoanS w a len cap xs) (hpos : 0 < len) : ∃ b o, a = some ⟨b, o, none⟩ ∧ b < w.heap.size ∧ ∀ (k : Nat) s, xs[k]? = some s → LoanAt w b (o + k * 5) s := by
  rcases h.2.2.2 with h0 | h1
  · omega
  · exact h1
theorem nil_IsLoanS (w : World) : IsLoanS w none 0 0 [] := ⟨rfl, Nat.le_refl _, by simp [maxLen], .inl rfl⟩
set_option maxRecDepth 100000 in
theorem open_Loan {H : Type} {enc : TypeId × Value → H} {w : World} {base : Nat} {spare : Nat → Bool} {held : Bool} {r : Reach} {b0 : Nat} {v : Value} {d : DataW H} {p : List MemPlace}
    (hv : Value.okWide Tryd.prog w r b0 23 v) (h : DataW.Trod enc Tryd.prog w base spare held 23 v d p) : ∃ s : VLoan, v = .agg #[.int .i64 s.Sheet, .int .i64 s.Reader, .int .i64 s.Out, .int .i64 s.Due, .int .i64 s.Back] := by
  obtain ⟨cs, rfl, hl, hc⟩ := open_one_struct (P := Tryd.prog) Tryd.underlying23 (by kernel_rfl) (by kernel_rfl) hv h
  obtain ⟨c0, h0, k0⟩ := hc 0 _ rfl
  obtain ⟨z0, rfl⟩ := k0.1 Tryd.underlying3
  obtain ⟨c1, h1, k1⟩ := hc 1 _ rfl
  obtain ⟨z1, rfl⟩ := k1.1 Tryd.underlying3
  obtain ⟨c2, h2, k2⟩ := hc 2 _ rfl
  obtain ⟨z2, rfl⟩ := k2.1 Tryd.underlying3
  obtain ⟨c3, h3, k3⟩ := hc 3 _ rfl
  obtain ⟨z3, rfl⟩ := k3.1 Tryd.underlying3
  obtain ⟨c4, h4, k4⟩ := hc 4 _ rfl
  obtain ⟨z4, rfl⟩ := k4.1 Tryd.underlying3
  have e : cs = [.int .i64 z0, .int .i64 z1, .int .i64 z2, .int .i64 z3, .int .i64 z4] := by
    apply List.ext_getElem?
    intro j
    by_cases hj : j < 5
    · rcases (show j = 0 ∨ j = 1 ∨ j = 2 ∨ j = 3 ∨ j = 4 by omega) with rfl | rfl | rfl | rfl | rfl
      all_goals first | exact h0 | exact h1 | exact h2 | exact h3 | exact h4
    · rw [List.getElem?_eq_none (by simp at hl; omega), List.getElem?_eq_none (by simp; omega)]
  subst e
  exact ⟨⟨z0, z1, z2, z3, z4⟩, rfl⟩
theorem infoLoan : (Tryd.prog.info? 26).map (fun i => (i.zero, i.size, i.bytes)) = some (some (.agg #[.int .i64 0, .int .i64 0, .int .i64 0, .int .i64 0, .int .i64 0]), 5, 40) := by kernel_rfl
def cellsLoan (xs : List VLoan) : List Value := xs.flatMap VLoan.vals
theorem cellsLoan_len (xs : List VLoan) : (cellsLoan xs).length = xs.length * 5 := by
  induction xs with
  | nil => rfl
  | cons x xs ih => simp [cellsLoan, VLoan.vals_len] at *; omega
theorem cellsLoan_append (xs ys : List VLoan) : cellsLoan (xs ++ ys) = cellsLoan xs ++ cellsLoan ys := by simp [cellsLoan]
theorem cellsLoan_snoc (xs : List VLoan) (s : VLoan) : cellsLoan (xs ++ [s]) = cellsLoan xs ++ s.vals := by simp [cellsLoan]
theorem cellsLoan_at {xs : List VLoan} {k : Nat} {s : VLoan} (h : xs[k]? = some s) (j : Nat) (hj : j < 5) : (cellsLoan xs)[k * 5 + j]? = s.vals[j]? := by
  have hk : k < xs.length := (List.getElem?_eq_some_iff.1 h).1
  have e : xs = xs.take k ++ s :: xs.drop (k + 1) := by
    have h2 := List.take_append_drop k xs
    rw [List.drop_eq_getElem_cons hk] at h2
    have : xs[k] = s := by rw [List.getElem?_eq_getElem hk] at h; simpa using h
    rw [this] at h2; exact h2.symm
  have hl : (cellsLoan (xs.take k)).length = k * 5 := by rw [cellsLoan_len, List.length_take]; omega
  rw [e, show cellsLoan (xs.take k ++ s :: xs.drop (k + 1)) = cellsLoan (xs.take k) ++ (s.vals ++ cellsLoan (xs.drop (k + 1))) from by simp [cellsLoan], List.getElem?_append_right (by omega), hl, show k * 5 + j - k * 5 = j from by omega, List.getElem?_append_left (by rw [VLoan.vals_len]; exact hj)]
theorem isLoanS_own {w : World} {base : Nat} {v : Value} {xs : List VLoan} (h : w.ownsRow base 26 5 v xs.length (cellsLoan xs)) :
    ∃ a cap, v = .slice a xs.length cap ∧ IsLoanS w a xs.length cap xs ∧ ∀ b o, a = some ⟨b, o, none⟩ → v.ownBlock = some b := by
  have hlt := h.lt
  rcases h.2 with ⟨rfl, h0⟩ | ⟨g, cap, cur, rfl, hg, hh, hn, hcap, hsz, htake⟩
  · exact ⟨none, 0, by rw [h0], ⟨by rw [h0], by omega, by simp [maxLen], .inl h0⟩, fun _ _ h => by cases h⟩
  · refine ⟨some ⟨g, 0, none⟩, cap, rfl, ⟨rfl, hn, hcap, ?_⟩, fun b o h => by cases h; rfl⟩
    by_cases hz : xs.length = 0
    · exact .inl hz
    · refine .inr ⟨g, 0, rfl, (hlt g rfl).2, fun k s hs => ?_⟩
      have each : ∀ j u, j < 5 → s.vals[j]? = some u → w.cell? ⟨g, 0 + k * 5 + j, none⟩ = some u := fun j u hj hu => by
        have hc := h.cells (g := g) rfl (k * 5 + j) u ((cellsLoan_at hs j hj).trans hu)
        rw [add_plain, ← Nat.add_assoc] at hc; exact hc
      exact ⟨each 0 _ (by decide) rfl, each 1 _ (by decide) rfl, each 2 _ (by decide) rfl, each 3 _ (by decide) rfl, each 4 _ (by decide) rfl⟩
theorem nil_ownLoan (w : World) (base : Nat) : w.ownsRow base 26 5 (.slice none 0 0) ([] : List VLoan).length (cellsLoan []) := ⟨by simp [cellsLoan], .inl ⟨rfl, rfl⟩⟩
theorem cell_Loan (w : World) (s : VLoan) (t : TypeId) : ∀ j u, s.vals[j]? = some u → (w.alloc (.cells #[.int .i64 s.Sheet, .int .i64 s.Reader, .int .i64 s.Out, .int .i64 s.Due, .int .i64 s.Back] t)).cell? ((⟨w.heap.size, 0, none⟩ : Addr).add j) = some u := by
  intro j u hj
  rw [add_plain, Nat.zero_add, World.cell?_alloc_new]
  simpa [VLoan.vals] using hj
theorem cell_Loan2 (w : World) (o : Obj) (s : VLoan) (t : TypeId) : ∀ j u, s.vals[j]? = some u → ((w.alloc o).alloc (.cells #[.int .i64 s.Sheet, .int .i64 s.Reader, .int .i64 s.Out, .int .i64 s.Due, .int .i64 s.Back] t)).cell? ((⟨w.heap.size + 1, 0, none⟩ : Addr).add j) = some u := by
  have h := cell_Loan (w.alloc o) s t
  rw [show (w.alloc o).heap.size = w.heap.size + 1 from by show (w.heap.push o).size = _; simp] at h
  exact h
/-- What is left of a row of the call's own when it is cut behind some elements. -/
theorem take_ownLoan {w : World} {base : Nat} {a : Option Addr} {cap k : Nat} {xs : List VLoan} (h : w.ownsRow base 26 5 (.slice a xs.length cap) xs.length (cellsLoan xs)) (hk : k ≤ xs.length) :
    w.ownsRow base 26 5 (.slice a k cap) k (cellsLoan (xs.take k)) := by
  have hl : (cellsLoan (xs.take k)).length = k * 5 := by rw [cellsLoan_len, List.length_take]; omega
  refine ⟨hl, ?_⟩
  rcases h.2 with ⟨h0, h1⟩ | ⟨g, cap', cur, e, hg, hh, hn, hcap, hsz, htake⟩
  · simp only [Value.slice.injEq] at h0
    obtain ⟨rfl, h2, rfl⟩ := h0
    exact .inl ⟨by rw [show k = 0 by omega], by omega⟩
  · cases e
    refine .inr ⟨g, cap, cur, rfl, hg, hh, by omega, hcap, hsz, ?_⟩
    have e2 : cellsLoan xs = cellsLoan (xs.take k) ++ cellsLoan (xs.drop k) := by
      unfold cellsLoan
      rw [← List.flatMap_append, List.take_append_drop]
    have h3 := congrArg (List.take (k * 5)) htake
    rw [List.take_take, Nat.min_eq_left (by have := Nat.mul_le_mul_right 5 hk; omega), e2, List.take_append_of_le_length (by omega), List.take_of_length_le (show (cellsLoan (xs.take k)).length ≤ k * 5 by omega)] at h3
    exact h3
/-- A slice of them, as what is appended. -/
theorem srcLoan {w : World} {a : Option Addr} {len cap : Nat} {xs : List VLoan} (h : IsLoanS w a len cap xs) : SrcAt w a len 5 (cellsLoan xs) := by
  refine ⟨by rw [cellsLoan_len, h.1], ?_⟩
  rcases h.2.2.2 with h0 | ⟨b, o, rfl, hb, hat⟩
  · exact .inl h0
  · refine .inr ⟨_, rfl, fun j u hj => ?_⟩
    rw [add_plain]
    have hl := (List.getElem?_eq_some_iff.1 hj).1
    rw [cellsLoan_len] at hl
    obtain ⟨k, r, rfl, hr⟩ : ∃ k r, j = k * 5 + r ∧ r < 5 := ⟨j / 5, j % 5, by omega, Nat.mod_lt _ (by decide)⟩
    have hk : k < xs.length := by omega
    have hs : xs[k]? = some xs[k] := List.getElem?_eq_getElem hk
    have hu := cellsLoan_at hs r hr
    rw [hj] at hu
    have ha := hat k _ hs
    rw [← Nat.add_assoc]
    rcases (show r = 0 ∨ r = 1 ∨ r = 2 ∨ r = 3 ∨ r = 4 by omega) with rfl | rfl | rfl | rfl | rfl
    · rw [hu]; exact ha.1
    · rw [hu]; exact ha.2.1
    · rw [hu]; exact ha.2.2.1
    · rw [hu]; exact ha.2.2.2.1
    · rw [hu]; exact ha.2.2.2.2
/-- Block b holds it, all of it, and may be written. -/
def HBLoan (w : World) (b : Nat) (s : VLoan) : Prop := w.heap[b]? = some (.cells #[.int .i64 s.Sheet, .int .i64 s.Reader, .int .i64 s.Out, .int .i64 s.Due, .int .i64 s.Back] 26 (0, 0))
theorem HBLoan.lt {w : World} {b : Nat} {s : VLoan} (h : HBLoan w b s) : b < w.heap.size := (Array.getElem?_eq_some_iff.1 h).1
theorem HBLoan.new (w : World) (s : VLoan) (B : Nat) (hB : w.heap.size = B) : HBLoan (w.alloc (.cells #[.int .i64 s.Sheet, .int .i64 s.Reader, .int .i64 s.Out, .int .i64 s.Due, .int .i64 s.Back] 26)) B s := hB ▸ heap_alloc_new w _
theorem HBLoan.below {w w' : World} {b : Nat} {s : VLoan} (h : HBLoan w b s) (hb : Below w.heap.size w w') : HBLoan w' b s := (hb.block b h.lt).trans h
theorem HBLoan.grown {w w' : World} {b : Nat} {s : VLoan} {row : Option Nat} (h : HBLoan w b s) (hg : w.grownBy w' row) (hne : some b ≠ row) : HBLoan w' b s := (hg.block b h.lt hne).trans h
theorem HBLoan.drew {w : World} {b : Nat} {s : VLoan} (h : HBLoan w b s) : HBLoan w.drew b s := h
theorem HBLoan.alloc {w : World} {b : Nat} {s : VLoan} (h : HBLoan w b s) (o : Obj) : HBLoan (w.alloc o) b s := (Below.heap_alloc w o b h.lt).trans h
theorem HBLoan.other {w : World} {b b' j : Nat} {s : VLoan} (h : HBLoan w b s) (hne : b ≠ b') (u : Value) : HBLoan (w.setCell ⟨b', j, none⟩ u) b s := (heap_setCell_other w ⟨b', j, none⟩ b u hne).trans h
theorem HBLoan.cells {w : World} {b : Nat} {s : VLoan} (h : HBLoan w b s) : w.cell? ⟨b, 0, none⟩ = some (.int .i64 s.Sheet) ∧ w.cell? ⟨b, 1, none⟩ = some (.int .i64 s.Reader) ∧ w.cell? ⟨b, 2, none⟩ = some (.int .i64 s.Out) ∧ w.cell? ⟨b, 3, none⟩ = some (.int .i64 s.Due) ∧ w.cell? ⟨b, 4, none⟩ = some (.int .i64 s.Back) := by
  unfold HBLoan at h
  refine ⟨?_, ?_, ?_, ?_, ?_⟩ <;> simp [World.cell?, h]
theorem HBLoan.free {w : World} {b : Nat} {s : VLoan} (h : HBLoan w b s) (j : Nat) : w.frozen? ⟨b, j, none⟩ = false := by
  unfold HBLoan at h
  simp [World.frozen?, h]
theorem HBLoan.set0 {w : World} {b : Nat} {s : VLoan} (h : HBLoan w b s) (v : Int) : HBLoan (w.setCell ⟨b, 0, none⟩ (.int .i64 v)) b ⟨v, s.Reader, s.Out, s.Due, s.Back⟩ := heap_setCell_same w b 0 _ _ _ h
theorem HBLoan.set1 {w : World} {b : Nat} {s : VLoan} (h : HBLoan w b s) (v : Int) : HBLoan (w.setCell ⟨b, 1, none⟩ (.int .i64 v)) b ⟨s.Sheet, v, s.Out, s.Due, s.Back⟩ := heap_setCell_same w b 1 _ _ _ h
theorem HBLoan.set2 {w : World} {b : Nat} {s : VLoan} (h : HBLoan w b s) (v : Int) : HBLoan (w.setCell ⟨b, 2, none⟩ (.int .i64 v)) b ⟨s.Sheet, s.Reader, v, s.Due, s.Back⟩ := heap_setCell_same w b 2 _ _ _ h
theorem HBLoan.set3 {w : World} {b : Nat} {s : VLoan} (h : HBLoan w b s) (v : Int) : HBLoan (w.setCell ⟨b, 3, none⟩ (.int .i64 v)) b ⟨s.Sheet, s.Reader, s.Out, v, s.Back⟩ := heap_setCell_same w b 3 _ _ _ h
theorem HBLoan.set4 {w : World} {b : Nat} {s : VLoan} (h : HBLoan w b s) (v : Int) : HBLoan (w.setCell ⟨b, 4, none⟩ (.int .i64 v)) b ⟨s.Sheet, s.Reader, s.Out, s.Due, v⟩ := heap_setCell_same w b 4 _ _ _ h
theorem HBLoan.setAll {w : World} {b : Nat} {s : VLoan} (h : HBLoan w b s) (t : VLoan) : HBLoan (((((w.setCell ⟨b, 0, none⟩ (.int .i64 t.Sheet)).setCell ⟨b, 1, none⟩ (.int .i64 t.Reader)).setCell ⟨b, 2, none⟩ (.int .i64 t.Out)).setCell ⟨b, 3, none⟩ (.int .i64 t.Due)).setCell ⟨b, 4, none⟩ (.int .i64 t.Back)) b t :=
  (heap_setCell_same _ b 4 _ _ _ (heap_setCell_same _ b 3 _ _ _ (heap_setCell_same _ b 2 _ _ _ (heap_setCell_same _ b 1 _ _ _ (heap_setCell_same _ b 0 _ _ _ h)))))
theorem HBLoan.otherAll {w : World} {b b' : Nat} {s : VLoan} (h : HBLoan w b s) (hne : b ≠ b') (x0 x1 x2 x3 x4 : Value) : HBLoan (((((w.setCell ⟨b', 0, none⟩ x0).setCell ⟨b', 1, none⟩ x1).setCell ⟨b', 2, none⟩ x2).setCell ⟨b', 3, none⟩ x3).setCell ⟨b', 4, none⟩ x4) b s :=
  (((((h.other hne x0).other hne x1).other hne x2).other hne x3).other hne x4)
/-- It lies in the box b of some type. -/
def BoxLoan (w : World) (b : Nat) (s : VLoan) : Prop := w.cell? ⟨b, 0, none⟩ = some (.int .i64 s.Sheet) ∧ w.cell? ⟨b, 1, none⟩ = some (.int .i64 s.Reader) ∧ w.cell? ⟨b, 2, none⟩ = some (.int .i64 s.Out) ∧ w.cell? ⟨b, 3, none⟩ = some (.int .i64 s.Due) ∧ w.cell? ⟨b, 4, none⟩ = some (.int .i64 s.Back)
theorem BoxLoan.new (w : World) (t : TypeId) (s : VLoan) (B : Nat) (hB : w.heap.size = B) : BoxLoan (w.alloc (.cells #[.int .i64 s.Sheet, .int .i64 s.Reader, .int .i64 s.Out, .int .i64 s.Due, .int .i64 s.Back] t)) B s := by
  subst hB
  refine ⟨?_, ?_, ?_, ?_, ?_⟩ <;> simp [World.cell?_alloc_new]
theorem BoxLoan.lt {w : World} {b : Nat} {s : VLoan} (h : BoxLoan w b s) : b < w.heap.size := World.lt_of_cell h.1
theorem BoxLoan.below {w w' : World} {b : Nat} {s : VLoan} (h : BoxLoan w b s) (hb : Below w.heap.size w w') : BoxLoan w' b s :=
  ⟨(hb.cell (p := ⟨b, 0, none⟩) h.lt).trans h.1, (hb.cell (p := ⟨b, 1, none⟩) h.lt).trans h.2.1, (hb.cell (p := ⟨b, 2, none⟩) h.lt).trans h.2.2.1, (hb.cell (p := ⟨b, 3, none⟩) h.lt).trans h.2.2.2.1, (hb.cell (p := ⟨b, 4, none⟩) h.lt).trans h.2.2.2.2⟩
theorem BoxLoan.grown {w w' : World} {b : Nat} {s : VLoan} {row : Option Nat} (h : BoxLoan w b s) (hg : w.grownBy w' row) (hne : some b ≠ row) : BoxLoan w' b s :=
  ⟨(World.cell?_of_block (w := w) (a := ⟨b, 0, none⟩) (hg.block b h.lt hne)).trans h.1, (World.cell?_of_block (w := w) (a := ⟨b, 1, none⟩) (hg.block b h.lt hne)).trans h.2.1, (World.cell?_of_block (w := w) (a := ⟨b, 2, none⟩) (hg.block b h.lt hne)).trans h.2.2.1, (World.cell?_of_block (w := w) (a := ⟨b, 3, none⟩) (hg.block b h.lt hne)).trans h.2.2.2.1, (World.cell?_of_block (w := w) (a := ⟨b, 4, none⟩) (hg.block b h.lt hne)).trans h.2.2.2.2⟩
set_option maxHeartbeats 3200000 in
theorem toLoan_any (s : VLoan) (w : World) :
    Calls Tryd.prog 5 #[.agg #[.int .i64 s.Sheet, .int .i64 s.Reader, .int .i64 s.Out, .int .i64 s.Due, .int .i64 s.Back]] w fun e w' => e = .returned (.agg #[.int .i64 s.Sheet, .int .i64 s.Reader, .int .i64 s.Out, .int .i64 s.Due, .int .i64 s.Back]) ∧ Below w.heap.size w w' := by
  go_enter Tryd.func5, Tryd.ntmps5
  go_wp2
  refine bodyPost_ret (v := .agg #[.int .i64 s.Sheet, .int .i64 s.Reader, .int .i64 s.Out, .int .i64 s.Due, .int .i64 s.Back]) (by simp [results, Tryd.results5, go_sem]) rfl ⟨rfl, ?_⟩
  repeat (first | exact Below.refl _ _ | refine Below.setCell ?_ (by simp; try omega) _ | refine Below.alloc ?_ (by simp; try omega) _)
def zerosLoan (n : Nat) : List Value := (List.replicate n [.int .i64 0, .int .i64 0, .int .i64 0, .int .i64 0, .int .i64 0]).flatten
theorem zerosLoan_succ (n : Nat) : zerosLoan (n + 1) = .int .i64 0 :: .int .i64 0 :: .int .i64 0 :: .int .i64 0 :: .int .i64 0 :: zerosLoan n := by
  unfold zerosLoan; rw [List.replicate_succ]; rfl
theorem zerosLoan_len (n : Nat) : (zerosLoan n).length = n * 5 := by
  induction n with
  | zero => rfl
  | succ n ih => rw [zerosLoan_succ]; simp [ih]; omega
theorem zerosLoan_at (n j : Nat) (h : j < n * 5) : (zerosLoan n)[j]? = [.int .i64 0, .int .i64 0, .int .i64 0, .int .i64 0, .int .i64 0][j % 5]? := by
  induction n generalizing j with
  | zero => omega
  | succ n ih =>
    rw [zerosLoan_succ]
    by_cases hj : j < 5
    · rw [Nat.mod_eq_of_lt hj]
      rcases (show j = 0 ∨ j = 1 ∨ j = 2 ∨ j = 3 ∨ j = 4 by omega) with rfl | rfl | rfl | rfl | rfl <;> rfl
    · obtain ⟨i, rfl⟩ : ∃ i, j = i + 5 := ⟨j - 5, by omega⟩
      rw [Nat.add_mod_right, ← ih i (by omega)]
      rfl
theorem madeLoan (n : Nat) : (madeCells (.agg #[.int .i64 0, .int .i64 0, .int .i64 0, .int .i64 0, .int .i64 0] : Value).cells (n * 5)).toList = zerosLoan n := by
  apply List.ext_getElem?
  intro j
  rw [Array.getElem?_toList]
  by_cases h : j < n * 5
  · rw [zerosLoan_at n j h]
    have hm : j % 5 < 5 := Nat.mod_lt _ (by decide)
    simp only [madeCells, Value.cells]
    rw [Array.getElem?_eq_getElem (by simpa using h)]
    rcases (show j % 5 = 0 ∨ j % 5 = 1 ∨ j % 5 = 2 ∨ j % 5 = 3 ∨ j % 5 = 4 by omega) with e | e | e | e | e <;> simp [e]
  · rw [List.getElem?_eq_none (by rw [zerosLoan_len]; omega)]
    simp [madeCells, h]
theorem setLoan (A L : List Value) (v0 v1 v2 v3 v4 : Value) (o : Nat) (hA : A.length = o) (hL : o + 5 ≤ L.length) :
    ((((((A ++ L.drop o).set (o) v0).set (o + 1) v1).set (o + 2) v2).set (o + 3) v3).set (o + 4) v4) = A ++ v0 :: v1 :: v2 :: v3 :: v4 :: L.drop (o + 5) := by
  subst hA
  obtain ⟨a0, a1, a2, a3, a4, e⟩ : ∃ a0 a1 a2 a3 a4, L.drop A.length = a0 :: a1 :: a2 :: a3 :: a4 :: L.drop (A.length + 5) := ⟨_, _, _, _, _, by rw [List.drop_eq_getElem_cons (show A.length < L.length by omega), List.drop_eq_getElem_cons (show A.length + 1 < L.length by omega), List.drop_eq_getElem_cons (show A.length + 2 < L.length by omega), List.drop_eq_getElem_cons (show A.length + 3 < L.length by omega), List.drop_eq_getElem_cons (show A.length + 4 < L.length by omega)]⟩
  rw [e]
  generalize L.drop (A.length + 5) = D
  simp [List.set_append_right]
theorem storedLoan {w : World} {base n c g o : Nat} {e : TypeId} {size : Nat} {A L : List Value} (h : w.ownsRow base e size (.slice (some ⟨g, 0, none⟩) n c) n (A ++ L.drop o)) (hA : A.length = o) (hL : o + 5 ≤ L.length) (v0 v1 v2 v3 v4 : Value) :
    (((((w.setCell ⟨g, o, none⟩ v0).setCell ⟨g, o + 1, none⟩ v1).setCell ⟨g, o + 2, none⟩ v2).setCell ⟨g, o + 3, none⟩ v3).setCell ⟨g, o + 4, none⟩ v4).ownsRow base e size (.slice (some ⟨g, 0, none⟩) n c) n (A ++ v0 :: v1 :: v2 :: v3 :: v4 :: L.drop (o + 5)) ∧ w.grownBy (((((w.setCell ⟨g, o, none⟩ v0).setCell ⟨g, o + 1, none⟩ v1).setCell ⟨g, o + 2, none⟩ v2).setCell ⟨g, o + 3, none⟩ v3).setCell ⟨g, o + 4, none⟩ v4) (some g) := by
  have h0 := h.stored (o) v0
  have h1 := h0.1.stored (o + 1) v1
  have h2 := h1.1.stored (o + 2) v2
  have h3 := h2.1.stored (o + 3) v3
  have h4 := h3.1.stored (o + 4) v4
  refine ⟨?_, (grown_trans (grown_trans (grown_trans (grown_trans h0.2 h1.2) h2.2) h3.2) h4.2)⟩
  have := h4.1
  rw [setLoan A L v0 v1 v2 v3 v4 o hA hL] at this
  exact this
/-- A row of the call's own, and the world below as it was. -/
def LoanRow (xs : List VLoan) (w : World) (e : Ending) (w' : World) : Prop := ∃ v, e = .returned v ∧ w'.ownsRow w.heap.size 26 5 v xs.length (cellsLoan xs) ∧ Below w.heap.size w w'
theorem cellsLoan_drop (xs : List VLoan) (i : Nat) : (cellsLoan xs).drop (i * 5) = cellsLoan (xs.drop i) := by
  by_cases h : i ≤ xs.length
  · have e : cellsLoan xs = cellsLoan (xs.take i) ++ cellsLoan (xs.drop i) := by
      unfold cellsLoan
      rw [← List.flatMap_append, List.take_append_drop]
    have hl : (cellsLoan (xs.take i)).length = i * 5 := by rw [cellsLoan_len, List.length_take]; omega
    rw [e, List.drop_append_of_le_length (by omega), List.drop_of_length_le (by omega), List.nil_append]
  · rw [List.drop_of_length_le (show xs.length ≤ i by omega), List.drop_of_length_le (by rw [cellsLoan_len]; omega)]; rfl
theorem cellsLoan_take (xs : List VLoan) (i : Nat) : cellsLoan xs = cellsLoan (xs.take i) ++ (cellsLoan xs).drop (i * 5) := by
  rw [cellsLoan_drop]
  unfold cellsLoan
  rw [← List.flatMap_append, List.take_append_drop]
theorem cellsLoan_set (xs : List VLoan) (i : Nat) (r : VLoan) (h : i < xs.length) : cellsLoan (xs.set i r) = cellsLoan (xs.take i) ++ (r.vals ++ (cellsLoan xs).drop (i * 5 + 5)) := by
  rw [List.set_eq_take_append_cons_drop, if_pos h, show i * 5 + 5 = (i + 1) * 5 by omega, cellsLoan_drop]
  simp [cellsLoan]
/-- An element of a row of the call's own is replaced. -/
theorem own_setLoan {w : World} {base m c g i : Nat} {xs : List VLoan} (h : w.ownsRow base 26 5 (.slice (some ⟨g, 0, none⟩) m c) m (cellsLoan xs)) (hi : i < xs.length) (r : VLoan) :
    (((((w.setCell ⟨g, i * 5, none⟩ (.int .i64 r.Sheet)).setCell ⟨g, i * 5 + 1, none⟩ (.int .i64 r.Reader)).setCell ⟨g, i * 5 + 2, none⟩ (.int .i64 r.Out)).setCell ⟨g, i * 5 + 3, none⟩ (.int .i64 r.Due)).setCell ⟨g, i * 5 + 4, none⟩ (.int .i64 r.Back)).ownsRow base 26 5 (.slice (some ⟨g, 0, none⟩) m c) m (cellsLoan (xs.set i r)) ∧ w.grownBy (((((w.setCell ⟨g, i * 5, none⟩ (.int .i64 r.Sheet)).setCell ⟨g, i * 5 + 1, none⟩ (.int .i64 r.Reader)).setCell ⟨g, i * 5 + 2, none⟩ (.int .i64 r.Out)).setCell ⟨g, i * 5 + 3, none⟩ (.int .i64 r.Due)).setCell ⟨g, i * 5 + 4, none⟩ (.int .i64 r.Back)) (some g) := by
  rw [cellsLoan_set xs i r hi]
  rw [cellsLoan_take xs i] at h
  exact storedLoan h (by rw [cellsLoan_len, List.length_take]; omega) (by rw [cellsLoan_len]; omega) (.int .i64 r.Sheet) (.int .i64 r.Reader) (.int .i64 r.Out) (.int .i64 r.Due) (.int .i64 r.Back)
/-- The marks from b on, and n of them. -/
def markLoan (b : Nat) : VLoan := ⟨((b : Nat) : Int), ((b + 1 : Nat) : Int), ((b + 2 : Nat) : Int), ((b + 3 : Nat) : Int), ((b + 4 : Nat) : Int)⟩
def marksLoan (k n : Nat) : List VLoan := (List.range n).map fun i => markLoan (k + i * 5)
theorem marksLoan_len (k n : Nat) : (marksLoan k n).length = n := by simp [marksLoan]
theorem marksLoan_succ (k n : Nat) : marksLoan k (n + 1) = marksLoan k n ++ [markLoan (k + n * 5)] := by simp [marksLoan, List.range_succ]
theorem marksLoan_at (k n i : Nat) (h : i < n) : (marksLoan k n)[i]? = some (markLoan (k + i * 5)) := by simp [marksLoan, h]
def LoanMarked (base k n : Nat) (v : Value) (w : World) (e : Ending) (w' : World) : Prop := e = .returned (.int .i64 ((k + n * 5 : Nat) : Int)) ∧ w'.ownsRow base 26 5 v n (cellsLoan (marksLoan k n)) ∧ w.grownBy w' v.ownBlock
end Go.Proofs.YtffbljbgmgifnaaDoor
