/- Texts in one: Up, Up2, Pick, ReaderT, Sheet, Rd, Ints, Mk. -/
import Derived.Test.YtpcibejmahhjiaaM1
import Derived.Deep.RegionWith
import Derived.Laws.OwnMore
import Derived.Handy
import Derived.Laws.IdiomRangeMap
namespace Go.Proofs.Ytpcibejmahhjiaa
section
variable {α : Type}

/-- The index of the first element that fits, or -1. -/
def firstOf (f : α → Bool) : List α → Int
  | [] => -1
  | s :: l => if f s = true then 0 else if firstOf f l < 0 then -1 else firstOf f l + 1
theorem firstOf_cases (f : α → Bool) (xs : List α) : (firstOf f xs = -1 ∧ ∀ s ∈ xs, f s = false) ∨ ∃ (i : Nat) (s : α), firstOf f xs = (i : Int) ∧ xs[i]? = some s ∧ f s = true ∧ ∀ (j : Nat) t, j < i → xs[j]? = some t → f t = false := by
  induction xs with
  | nil => exact .inl ⟨rfl, by simp⟩
  | cons x l ih =>
    by_cases h : f x = true
    · exact .inr ⟨0, x, by simp [firstOf, h], rfl, h, by omega⟩
    · have h' : f x = false := by simpa using h
      rcases ih with ⟨h1, h2⟩ | ⟨i, s, h1, h2, h3, h4⟩
      · exact .inl ⟨by simp [firstOf, h', h1], by simpa [h'] using h2⟩
      · refine .inr ⟨i + 1, s, by simp [firstOf, h', h1]; omega, h2, h3, fun j t hj ht => ?_⟩
        match j, ht with
        | 0, ht => simp at ht; rw [← ht]; exact h'
        | j + 1, ht => exact h4 j t (by omega) ht
theorem firstOf_at {f : α → Bool} {xs : List α} {i : Nat} {s : α} (hs : xs[i]? = some s) (hf : f s = true) (hb : ∀ (j : Nat) t, j < i → xs[j]? = some t → f t = false) : firstOf f xs = (i : Int) := by
  rcases firstOf_cases f xs with ⟨_, h2⟩ | ⟨i', s', h1, h2, h3, h4⟩
  · rw [h2 s (List.mem_of_getElem? hs)] at hf; cases hf
  · rw [h1]
    have : i' = i := by
      rcases Nat.lt_trichotomy i i' with h | h | h
      · rw [h4 i s h hs] at hf; cases hf
      · exact h.symm
      · rw [hb i' s' h h2] at h3; cases h3
    rw [this]
theorem firstOf_none {f : α → Bool} {xs : List α} (h : ∀ s ∈ xs, f s = false) : firstOf f xs = -1 := by
  rcases firstOf_cases f xs with ⟨h1, _⟩ | ⟨i, s, _, h2, h3, _⟩
  · exact h1
  · rw [h s (List.mem_of_getElem? h2)] at h3; cases h3
theorem firstOf_no {f : α → Bool} {xs : List α} (h : ∀ (j : Nat) t, j < xs.length → xs[j]? = some t → f t = false) : firstOf f xs = -1 :=
  firstOf_none fun s hs => by
    obtain ⟨j, hj⟩ := List.getElem?_of_mem hs
    exact h j s (List.getElem?_eq_some_iff.1 hj).1 hj
theorem firstOf_bd (f : α → Bool) (xs : List α) : -1 ≤ firstOf f xs ∧ firstOf f xs < (xs.length : Int) := by
  rcases firstOf_cases f xs with ⟨h1, _⟩ | ⟨i, s, h1, h2, _⟩
  · omega
  · have := (List.getElem?_eq_some_iff.1 h2).1; omega

/-- Is the element i right: valid, and its number greater than that of the one before? -/
def upStep (ok : α → Bool) (id : α → Int) (xs : List α) (i : Nat) : Bool :=
  match xs[i]? with
  | none => true
  | some s => ok s && (i == 0 || (match xs[i - 1]? with | some p => decide (id p < id s) | none => true))
def upB (ok : α → Bool) (id : α → Int) (xs : List α) : Bool := (List.range xs.length).all (upStep ok id xs)
variable {ok : α → Bool} {id : α → Int} {xs : List α}
theorem upB_iff : upB ok id xs = true ↔ ∀ i, i < xs.length → upStep ok id xs i = true := by simp [upB]
theorem upB_bad {i : Nat} (h : upStep ok id xs i = false) (hi : i < xs.length) : upB ok id xs = false := by
  by_cases h2 : upB ok id xs = true
  · rw [upB_iff.1 h2 i hi] at h; cases h
  · simpa using h2
theorem upStep_zero {s : α} (hs : xs[0]? = some s) : upStep ok id xs 0 = ok s := by unfold upStep; rw [hs]; simp
theorem upStep_succ {i : Nat} {p s : α} (hp : xs[i]? = some p) (hs : xs[i + 1]? = some s) : upStep ok id xs (i + 1) = (ok s && decide (id p < id s)) := by
  unfold upStep; rw [hs]; simp [hp]
theorem upStep_at {i : Nat} {p s : α} (h : 0 < i) (hp : xs[i - 1]? = some p) (hs : xs[i]? = some s) : upStep ok id xs i = (ok s && decide (id p < id s)) := by
  obtain ⟨j, rfl⟩ : ∃ j, i = j + 1 := ⟨i - 1, by omega⟩
  exact upStep_succ hp hs
theorem upB_ok (h : upB ok id xs = true) {s : α} (hs : s ∈ xs) : ok s = true := by
  obtain ⟨i, hi⟩ := List.getElem?_of_mem hs
  have h1 := upB_iff.1 h i (List.getElem?_eq_some_iff.1 hi).1
  unfold upStep at h1
  rw [hi] at h1
  simp at h1
  exact h1.1
theorem upB_lt (h : upB ok id xs = true) : ∀ (j i : Nat) (s t : α), i < j → xs[i]? = some s → xs[j]? = some t → id s < id t := by
  intro j
  induction j with
  | zero => intro i s t hi; omega
  | succ j ih =>
    intro i s t hij hs ht
    have hl := (List.getElem?_eq_some_iff.1 ht).1
    obtain ⟨p, hp⟩ : ∃ p, xs[j]? = some p := ⟨xs[j]'(by omega), List.getElem?_eq_getElem _⟩
    have hpt : id p < id t := by
      have h1 := upB_iff.1 h (j + 1) hl
      rw [upStep_succ hp ht] at h1
      simp at h1
      exact h1.2
    by_cases e : i = j
    · subst e; rw [hs] at hp; cases hp; exact hpt
    · exact Int.lt_trans (ih i s p (by omega) hs hp) hpt
theorem upB_same (h : upB ok id xs = true) {s t : α} (hs : s ∈ xs) (ht : t ∈ xs) (e : id s = id t) : s = t := by
  obtain ⟨i, hi⟩ := List.getElem?_of_mem hs
  obtain ⟨j, hj⟩ := List.getElem?_of_mem ht
  rcases Nat.lt_trichotomy i j with h1 | h1 | h1
  · have := upB_lt h j i s t h1 hi hj; omega
  · subst h1; rw [hi] at hj; exact Option.some.inj hj
  · have := upB_lt h i j t s h1 hj hi; omega
/-- Where the element with a number stands. -/
theorem upB_first (h : upB ok id xs = true) {i : Nat} {s : α} (hs : xs[i]? = some s) : firstOf (fun t => id t == id s) xs = (i : Int) :=
  firstOf_at hs (by simp) fun j t hj ht => by
    have := upB_lt h i j t s hj ht hs
    simp; omega
theorem filter_snoc' {k : Nat} {s : α} (f : α → Bool) (hs : xs[k]? = some s) : (xs.take (k + 1)).filter f = (xs.take k).filter f ++ (if f s = true then [s] else []) := by
  rw [List.take_add_one, hs, List.filter_append]
  cases h : f s <;> simp [h]
theorem filter_len' (f : α → Bool) (xs : List α) (k : Nat) : ((xs.take k).filter f).length ≤ k := Nat.le_trans (List.length_filter_le _ _) (by rw [List.length_take]; omega)
end
end Go.Proofs.Ytpcibejmahhjiaa
namespace Go.Proofs.Ytpcibejmahhjiaa
section
variable {α : Type} {ok : α → Bool} {id : α → Int} {xs : List α}
theorem upStep_set_ne {i j : Nat} {s r : α} (hs : xs[i]? = some s) (e : id r = id s) (hj : j ≠ i) : upStep ok id (xs.set i r) j = upStep ok id xs j := by
  have hi := (List.getElem?_eq_some_iff.1 hs).1
  unfold upStep
  rw [List.getElem?_set_ne (Ne.symm hj)]
  cases h : xs[j]? with
  | none => rfl
  | some t =>
    by_cases h2 : i = j - 1
    · subst h2; rw [List.getElem?_set_self hi, hs]; simp [e]
    · rw [List.getElem?_set_ne h2]
theorem upStep_set_self {i : Nat} {s r : α} (hs : xs[i]? = some s) (e : id r = id s) (h : upStep ok id xs i = true) : upStep ok id (xs.set i r) i = ok r := by
  have hi := (List.getElem?_eq_some_iff.1 hs).1
  unfold upStep at h ⊢
  rw [hs] at h
  rw [List.getElem?_set_self hi]
  simp only [Bool.and_eq_true] at h
  by_cases h0 : i = 0
  · subst h0; simp
  · rw [List.getElem?_set_ne (by omega)]
    have h2 := h.2
    cases hp : xs[i - 1]? with
    | none => simp
    | some p => rw [hp] at h2; simp [h0] at h2; simp [e, h2]
theorem upB_set {i : Nat} {s r : α} (h : upB ok id xs = true) (hs : xs[i]? = some s) (e : id r = id s) : upB ok id (xs.set i r) = ok r := by
  have hi := (List.getElem?_eq_some_iff.1 hs).1
  have h1 := upStep_set_self (ok := ok) hs e (upB_iff.1 h i hi)
  cases hr : ok r with
  | true =>
    refine upB_iff.2 fun j hj => ?_
    rw [List.length_set] at hj
    by_cases hji : j = i
    · subst hji; rw [h1, hr]
    · rw [upStep_set_ne hs e hji]; exact upB_iff.1 h j hj
  | false => exact upB_bad (by rw [h1, hr]) (by rw [List.length_set]; exact hi)
theorem upStep_app {ys : List α} {j : Nat} (hj : j < xs.length) : upStep ok id (xs ++ ys) j = upStep ok id xs j := by
  unfold upStep
  rw [List.getElem?_append_left hj]
  by_cases h0 : j = 0
  · subst h0; simp
  · rw [List.getElem?_append_left (by omega)]
theorem upB_prefix {ys : List α} (h : upB ok id (xs ++ ys) = true) : upB ok id xs = true :=
  upB_iff.2 fun j hj => by rw [← upStep_app (ys := ys) hj]; exact upB_iff.1 h j (by rw [List.length_append]; omega)
end
end Go.Proofs.Ytpcibejmahhjiaa
namespace Go.Proofs.Ytpcibejmahhjiaa
section
variable {α : Type}
def pickB (b : α → α → Bool) (d : α) : List α → α
  | [] => d
  | s :: l => l.foldl (fun m x => if b x m then x else m) s
theorem pickB_snoc (b : α → α → Bool) (d : α) {ys : List α} (h : ys ≠ []) (x : α) : pickB b d (ys ++ [x]) = if b x (pickB b d ys) then x else pickB b d ys := by
  cases ys with
  | nil => exact absurd rfl h
  | cons s l => show List.foldl _ s (l ++ [x]) = _; rw [List.foldl_append]; rfl
theorem pickB_one (b : α → α → Bool) (d x : α) : pickB b d [x] = x := rfl
theorem take_nee {ys : List α} {k : Nat} (h0 : 0 < k) (h : k ≤ ys.length) : ys.take k ≠ [] := fun e => by
  have := congrArg List.length e
  rw [List.length_take, List.length_nil] at this
  omega
theorem take_one {ys : List α} {k : Nat} {x : α} (h : ys[k]? = some x) : ys.take (k + 1) = ys.take k ++ [x] := by rw [List.take_add_one, h]; rfl
theorem pickB_take (b : α → α → Bool) (d : α) {ys : List α} {k : Nat} {x : α} (h0 : 0 < k) (h : ys[k]? = some x) : pickB b d (ys.take (k + 1)) = if b x (pickB b d (ys.take k)) then x else pickB b d (ys.take k) := by
  have hk : k < ys.length := (List.getElem?_eq_some_iff.1 h).1
  rw [take_one h, pickB_snoc b d (take_nee h0 (by omega))]
theorem pickB_mem (b : α → α → Bool) (d : α) {ys : List α} : ∀ k, 0 < k → k ≤ ys.length → pickB b d (ys.take k) ∈ ys.take k := by
  intro k
  induction k with
  | zero => intro h; omega
  | succ k ih =>
    intro _ hk
    have hx : ys[k]? = some (ys[k]'(by omega)) := List.getElem?_eq_getElem _
    by_cases h0 : k = 0
    · subst h0
      rw [take_one hx]
      simp [pickB]
    · rw [pickB_take b d (by omega) hx, take_one hx]
      split
      · exact List.mem_append_right _ (List.mem_singleton.2 rfl)
      · exact List.mem_append_left _ (ih (by omega) (by omega))
end
end Go.Proofs.Ytpcibejmahhjiaa
namespace Go.Proofs.Ytpcibejmahhjiaa
open Go.RowKit Go.ChangeShapes Go.WideShapes Go.Deep

structure VReader where
  Id : Int
  Name : ByteArray
  Joined : Int
  Class : Int
  Fines : Int
def VReader.vals (s : VReader) : List Value := [.int .i64 s.Id, .string s.Name, .int .i64 s.Joined, .int .i64 s.Class, .int .i64 s.Fines]
theorem VReader.vals_len (s : VReader) : s.vals.length = 5 := rfl
theorem VReader.vals_one (s : VReader) : ∀ u ∈ s.vals, u.oneCell' = true := by
  intro u hu
  simp [VReader.vals] at hu
  rcases hu with rfl | rfl | rfl | rfl | rfl <;> rfl
/-- Its texts are no longer than any text may be. -/
def VReader.small (s : VReader) : Prop := s.Name.size ≤ maxLen
/-- It lies at block b from offset o on. -/
def ReaderAt (w : World) (b o : Nat) (s : VReader) : Prop :=
  w.cell? ⟨b, o, none⟩ = some (.int .i64 s.Id) ∧ w.cell? ⟨b, o + 1, none⟩ = some (.string s.Name) ∧ w.cell? ⟨b, o + 2, none⟩ = some (.int .i64 s.Joined) ∧ w.cell? ⟨b, o + 3, none⟩ = some (.int .i64 s.Class) ∧ w.cell? ⟨b, o + 4, none⟩ = some (.int .i64 s.Fines) ∧ s.small
def IsReaderS (w : World) (a : Option Addr) (len cap : Nat) (xs : List VReader) : Prop :=
  len = xs.length ∧ len ≤ cap ∧ cap ≤ maxLen ∧ (len = 0 ∨ ∃ b o, a = some ⟨b, o, none⟩ ∧ b < w.heap.size ∧ ∀ (k : Nat) s, xs[k]? = some s → ReaderAt w b (o + k * 5) s)
theorem ReaderAt.below {w w' : World} {b o : Nat} {s : VReader} (h : ReaderAt w b o s) (hb : Below w.heap.size w w') (hlt : b < w.heap.size) : ReaderAt w' b o s :=
  ⟨(hb.cell (p := ⟨b, o, none⟩) hlt).trans h.1, (hb.cell (p := ⟨b, o + 1, none⟩) hlt).trans h.2.1, (hb.cell (p := ⟨b, o + 2, none⟩) hlt).trans h.2.2.1, (hb.cell (p := ⟨b, o + 3, none⟩) hlt).trans h.2.2.2.1, (hb.cell (p := ⟨b, o + 4, none⟩) hlt).trans h.2.2.2.2.1, h.2.2.2.2.2⟩
theorem ReaderAt.block {w w' : World} {b o : Nat} {s : VReader} (h : ReaderAt w b o s) (hb : w'.heap[b]? = w.heap[b]?) : ReaderAt w' b o s :=
  ⟨(World.cell?_of_block (w := w) (a := ⟨b, o, none⟩) hb).trans h.1, (World.cell?_of_block (w := w) (a := ⟨b, o + 1, none⟩) hb).trans h.2.1, (World.cell?_of_block (w := w) (a := ⟨b, o + 2, none⟩) hb).trans h.2.2.1, (World.cell?_of_block (w := w) (a := ⟨b, o + 3, none⟩) hb).trans h.2.2.2.1, (World.cell?_of_block (w := w) (a := ⟨b, o + 4, none⟩) hb).trans h.2.2.2.2.1, h.2.2.2.2.2⟩
theorem IsReaderS.below {w w' : World} {a : Option Addr} {len cap : Nat} {xs : List VReader} (h : IsReaderS w a len cap xs) (hb : Below w.heap.size w w') : IsReaderS w' a len cap xs := by
  refine ⟨h.1, h.2.1, h.2.2.1, ?_⟩
  rcases h.2.2.2 with h0 | ⟨b, o, rfl, h1, h2⟩
  · exact .inl h0
  · exact .inr ⟨b, o, rfl, Nat.lt_of_lt_of_le h1 hb.size, fun k s hs => (h2 k s hs).below hb h1⟩
theorem IsReaderS.grown {w w' : World} {a : Option Addr} {len cap : Nat} {xs : List VReader} {row : Option Nat} (h : IsReaderS w a len cap xs) (hg : w.grownBy w' row) (hne : ∀ b o, a = some ⟨b, o, none⟩ → some b ≠ row) : IsReaderS w' a len cap xs := by
  refine ⟨h.1, h.2.1, h.2.2.1, ?_⟩
  rcases h.2.2.2 with h0 | ⟨b, o, rfl, h1, h2⟩
  · exact .inl h0
  · exact .inr ⟨b, o, rfl, Nat.lt_of_lt_of_le h1 hg.size, fun k s hs => (h2 k s hs).block (hg.block b h1 (hne b o rfl))⟩
theorem IsReaderS.at {w : World} {a : Option Addr} {len cap : Nat} {xs : List VReader} (h : IsReaderS w a len cap xs) (hpos : 0 < len) : ∃ b o, a = some ⟨b, o, none⟩ ∧ b < w.heap.size ∧ ∀ (k : Nat) s, xs[k]? = some s → ReaderAt w b (o + k * 5) s := by
  rcases h.2.2.2 with h0 | h1
  · omega
  · exact h1
theorem nil_IsReaderS (w : World) : IsReaderS w none 0 0 [] := ⟨rfl, Nat.le_refl _, by simp [maxLen], .inl rfl⟩
def cellsReader (xs : List VReader) : List Value := xs.flatMap VReader.vals
theorem cellsReader_len (xs : List VReader) : (cellsReader xs).length = xs.length * 5 := by
  induction xs with
  | nil => rfl
  | cons x xs ih => simp [cellsReader, VReader.vals_len] at *; omega
theorem cellsReader_append (xs ys : List VReader) : cellsReader (xs ++ ys) = cellsReader xs ++ cellsReader ys := by simp [cellsReader]
theorem cellsReader_snoc (xs : List VReader) (s : VReader) : cellsReader (xs ++ [s]) = cellsReader xs ++ s.vals := by simp [cellsReader]
theorem cellsReader_at {xs : List VReader} {k : Nat} {s : VReader} (h : xs[k]? = some s) (j : Nat) (hj : j < 5) : (cellsReader xs)[k * 5 + j]? = s.vals[j]? := by
  have hk : k < xs.length := (List.getElem?_eq_some_iff.1 h).1
  have e : xs = xs.take k ++ s :: xs.drop (k + 1) := by
    have h2 := List.take_append_drop k xs
    rw [List.drop_eq_getElem_cons hk] at h2
    have : xs[k] = s := by rw [List.getElem?_eq_getElem hk] at h; simpa using h
    rw [this] at h2; exact h2.symm
  have hl : (cellsReader (xs.take k)).length = k * 5 := by rw [cellsReader_len, List.length_take]; omega
  rw [e, show cellsReader (xs.take k ++ s :: xs.drop (k + 1)) = cellsReader (xs.take k) ++ (s.vals ++ cellsReader (xs.drop (k + 1))) from by simp [cellsReader], List.getElem?_append_right (by omega), hl, show k * 5 + j - k * 5 = j from by omega, List.getElem?_append_left (by rw [VReader.vals_len]; exact hj)]
theorem cell_Reader (w : World) (s : VReader) (t : TypeId) : ∀ j u, s.vals[j]? = some u → (w.alloc (.cells #[.int .i64 s.Id, .string s.Name, .int .i64 s.Joined, .int .i64 s.Class, .int .i64 s.Fines] t)).cell? ((⟨w.heap.size, 0, none⟩ : Addr).add j) = some u := by
  intro j u hj
  rw [add_plain, Nat.zero_add, World.cell?_alloc_new]
  simpa [VReader.vals] using hj
theorem cell_Reader2 (w : World) (o : Obj) (s : VReader) (t : TypeId) : ∀ j u, s.vals[j]? = some u → ((w.alloc o).alloc (.cells #[.int .i64 s.Id, .string s.Name, .int .i64 s.Joined, .int .i64 s.Class, .int .i64 s.Fines] t)).cell? ((⟨w.heap.size + 1, 0, none⟩ : Addr).add j) = some u := by
  have h := cell_Reader (w.alloc o) s t
  rw [show (w.alloc o).heap.size = w.heap.size + 1 from by show (w.heap.push o).size = _; simp] at h
  exact h
/-- A slice of them, as what is appended. -/
theorem srcReader {w : World} {a : Option Addr} {len cap : Nat} {xs : List VReader} (h : IsReaderS w a len cap xs) : SrcAt w a len 5 (cellsReader xs) := by
  refine ⟨by rw [cellsReader_len, h.1], ?_⟩
  rcases h.2.2.2 with h0 | ⟨b, o, rfl, hb, hat⟩
  · exact .inl h0
  · refine .inr ⟨_, rfl, fun j u hj => ?_⟩
    rw [add_plain]
    have hl := (List.getElem?_eq_some_iff.1 hj).1
    rw [cellsReader_len] at hl
    obtain ⟨k, r, rfl, hr⟩ : ∃ k r, j = k * 5 + r ∧ r < 5 := ⟨j / 5, j % 5, by omega, Nat.mod_lt _ (by decide)⟩
    have hk : k < xs.length := by omega
    have hs : xs[k]? = some xs[k] := List.getElem?_eq_getElem hk
    have hu := cellsReader_at hs r hr
    rw [hj] at hu
    have ha := hat k _ hs
    rw [← Nat.add_assoc]
    rcases (show r = 0 ∨ r = 1 ∨ r = 2 ∨ r = 3 ∨ r = 4 by omega) with rfl | rfl | rfl | rfl | rfl
    · rw [hu]; exact ha.1
    · rw [hu]; exact ha.2.1
    · rw [hu]; exact ha.2.2.1
    · rw [hu]; exact ha.2.2.2.1
    · rw [hu]; exact ha.2.2.2.2.1
/-- It lies in the box b of some type. -/
def BoxReader (w : World) (b : Nat) (s : VReader) : Prop := w.cell? ⟨b, 0, none⟩ = some (.int .i64 s.Id) ∧ w.cell? ⟨b, 1, none⟩ = some (.string s.Name) ∧ w.cell? ⟨b, 2, none⟩ = some (.int .i64 s.Joined) ∧ w.cell? ⟨b, 3, none⟩ = some (.int .i64 s.Class) ∧ w.cell? ⟨b, 4, none⟩ = some (.int .i64 s.Fines)
theorem BoxReader.new (w : World) (t : TypeId) (s : VReader) (B : Nat) (hB : w.heap.size = B) : BoxReader (w.alloc (.cells #[.int .i64 s.Id, .string s.Name, .int .i64 s.Joined, .int .i64 s.Class, .int .i64 s.Fines] t)) B s := by
  subst hB
  refine ⟨?_, ?_, ?_, ?_, ?_⟩ <;> simp [World.cell?_alloc_new]
theorem BoxReader.lt {w : World} {b : Nat} {s : VReader} (h : BoxReader w b s) : b < w.heap.size := World.lt_of_cell h.1
theorem BoxReader.below {w w' : World} {b : Nat} {s : VReader} (h : BoxReader w b s) (hb : Below w.heap.size w w') : BoxReader w' b s :=
  ⟨(hb.cell (p := ⟨b, 0, none⟩) h.lt).trans h.1, (hb.cell (p := ⟨b, 1, none⟩) h.lt).trans h.2.1, (hb.cell (p := ⟨b, 2, none⟩) h.lt).trans h.2.2.1, (hb.cell (p := ⟨b, 3, none⟩) h.lt).trans h.2.2.2.1, (hb.cell (p := ⟨b, 4, none⟩) h.lt).trans h.2.2.2.2⟩
theorem BoxReader.grown {w w' : World} {b : Nat} {s : VReader} {row : Option Nat} (h : BoxReader w b s) (hg : w.grownBy w' row) (hne : some b ≠ row) : BoxReader w' b s :=
  ⟨(World.cell?_of_block (w := w) (a := ⟨b, 0, none⟩) (hg.block b h.lt hne)).trans h.1, (World.cell?_of_block (w := w) (a := ⟨b, 1, none⟩) (hg.block b h.lt hne)).trans h.2.1, (World.cell?_of_block (w := w) (a := ⟨b, 2, none⟩) (hg.block b h.lt hne)).trans h.2.2.1, (World.cell?_of_block (w := w) (a := ⟨b, 3, none⟩) (hg.block b h.lt hne)).trans h.2.2.2.1, (World.cell?_of_block (w := w) (a := ⟨b, 4, none⟩) (hg.block b h.lt hne)).trans h.2.2.2.2⟩
def zerosReader (n : Nat) : List Value := (List.replicate n [.int .i64 0, .string ByteArray.empty, .int .i64 0, .int .i64 0, .int .i64 0]).flatten
theorem zerosReader_succ (n : Nat) : zerosReader (n + 1) = .int .i64 0 :: .string ByteArray.empty :: .int .i64 0 :: .int .i64 0 :: .int .i64 0 :: zerosReader n := by
  unfold zerosReader; rw [List.replicate_succ]; rfl
theorem zerosReader_len (n : Nat) : (zerosReader n).length = n * 5 := by
  induction n with
  | zero => rfl
  | succ n ih => rw [zerosReader_succ]; simp [ih]; omega
theorem zerosReader_at (n j : Nat) (h : j < n * 5) : (zerosReader n)[j]? = [.int .i64 0, .string ByteArray.empty, .int .i64 0, .int .i64 0, .int .i64 0][j % 5]? := by
  induction n generalizing j with
  | zero => omega
  | succ n ih =>
    rw [zerosReader_succ]
    by_cases hj : j < 5
    · rw [Nat.mod_eq_of_lt hj]
      rcases (show j = 0 ∨ j = 1 ∨ j = 2 ∨ j = 3 ∨ j = 4 by omega) with rfl | rfl | rfl | rfl | rfl <;> rfl
    · obtain ⟨i, rfl⟩ : ∃ i, j = i + 5 := ⟨j - 5, by omega⟩
      rw [Nat.add_mod_right, ← ih i (by omega)]
      rfl
theorem madeReader (n : Nat) : (madeCells (.agg #[.int .i64 0, .string ByteArray.empty, .int .i64 0, .int .i64 0, .int .i64 0] : Value).cells (n * 5)).toList = zerosReader n := by
  apply List.ext_getElem?
  intro j
  rw [Array.getElem?_toList]
  by_cases h : j < n * 5
  · rw [zerosReader_at n j h]
    have hm : j % 5 < 5 := Nat.mod_lt _ (by decide)
    simp only [madeCells, Value.cells]
    rw [Array.getElem?_eq_getElem (by simpa using h)]
    rcases (show j % 5 = 0 ∨ j % 5 = 1 ∨ j % 5 = 2 ∨ j % 5 = 3 ∨ j % 5 = 4 by omega) with e | e | e | e | e <;> simp [e]
  · rw [List.getElem?_eq_none (by rw [zerosReader_len]; omega)]
    simp [madeCells, h]
theorem setReader (A L : List Value) (v0 v1 v2 v3 v4 : Value) (o : Nat) (hA : A.length = o) (hL : o + 5 ≤ L.length) :
    ((((((A ++ L.drop o).set (o) v0).set (o + 1) v1).set (o + 2) v2).set (o + 3) v3).set (o + 4) v4) = A ++ v0 :: v1 :: v2 :: v3 :: v4 :: L.drop (o + 5) := by
  subst hA
  obtain ⟨a0, a1, a2, a3, a4, e⟩ : ∃ a0 a1 a2 a3 a4, L.drop A.length = a0 :: a1 :: a2 :: a3 :: a4 :: L.drop (A.length + 5) := ⟨_, _, _, _, _, by rw [List.drop_eq_getElem_cons (show A.length < L.length by omega), List.drop_eq_getElem_cons (show A.length + 1 < L.length by omega), List.drop_eq_getElem_cons (show A.length + 2 < L.length by omega), List.drop_eq_getElem_cons (show A.length + 3 < L.length by omega), List.drop_eq_getElem_cons (show A.length + 4 < L.length by omega)]⟩
  rw [e]
  generalize L.drop (A.length + 5) = D
  simp [List.set_append_right]
theorem storedReader {w : World} {base n c g o : Nat} {e : TypeId} {size : Nat} {A L : List Value} (h : w.ownsRow base e size (.slice (some ⟨g, 0, none⟩) n c) n (A ++ L.drop o)) (hA : A.length = o) (hL : o + 5 ≤ L.length) (v0 v1 v2 v3 v4 : Value) :
    (((((w.setCell ⟨g, o, none⟩ v0).setCell ⟨g, o + 1, none⟩ v1).setCell ⟨g, o + 2, none⟩ v2).setCell ⟨g, o + 3, none⟩ v3).setCell ⟨g, o + 4, none⟩ v4).ownsRow base e size (.slice (some ⟨g, 0, none⟩) n c) n (A ++ v0 :: v1 :: v2 :: v3 :: v4 :: L.drop (o + 5)) ∧ w.grownBy (((((w.setCell ⟨g, o, none⟩ v0).setCell ⟨g, o + 1, none⟩ v1).setCell ⟨g, o + 2, none⟩ v2).setCell ⟨g, o + 3, none⟩ v3).setCell ⟨g, o + 4, none⟩ v4) (some g) := by
  have h0 := h.stored (o) v0
  have h1 := h0.1.stored (o + 1) v1
  have h2 := h1.1.stored (o + 2) v2
  have h3 := h2.1.stored (o + 3) v3
  have h4 := h3.1.stored (o + 4) v4
  refine ⟨?_, (grown_trans (grown_trans (grown_trans (grown_trans h0.2 h1.2) h2.2) h3.2) h4.2)⟩
  have := h4.1
  rw [setReader A L v0 v1 v2 v3 v4 o hA hL] at this
  exact this
theorem cellsReader_drop (xs : List VReader) (i : Nat) : (cellsReader xs).drop (i * 5) = cellsReader (xs.drop i) := by
  by_cases h : i ≤ xs.length
  · have e : cellsReader xs = cellsReader (xs.take i) ++ cellsReader (xs.drop i) := by
      unfold cellsReader
      rw [← List.flatMap_append, List.take_append_drop]
    have hl : (cellsReader (xs.take i)).length = i * 5 := by rw [cellsReader_len, List.length_take]; omega
    rw [e, List.drop_append_of_le_length (by omega), List.drop_of_length_le (by omega), List.nil_append]
  · rw [List.drop_of_length_le (show xs.length ≤ i by omega), List.drop_of_length_le (by rw [cellsReader_len]; omega)]; rfl
theorem cellsReader_take (xs : List VReader) (i : Nat) : cellsReader xs = cellsReader (xs.take i) ++ (cellsReader xs).drop (i * 5) := by
  rw [cellsReader_drop]
  unfold cellsReader
  rw [← List.flatMap_append, List.take_append_drop]
theorem cellsReader_set (xs : List VReader) (i : Nat) (r : VReader) (h : i < xs.length) : cellsReader (xs.set i r) = cellsReader (xs.take i) ++ (r.vals ++ (cellsReader xs).drop (i * 5 + 5)) := by
  rw [List.set_eq_take_append_cons_drop, if_pos h, show i * 5 + 5 = (i + 1) * 5 by omega, cellsReader_drop]
  simp [cellsReader]
def VReader.sized (s : VReader) : Prop := s.Name.size ≤ 1048576
theorem sized_smallReader (s : VReader) (h : s.sized) : s.small := by unfold VReader.sized at h; unfold VReader.small; unfold maxLen; omega
/-- The marks from b on, and n of them. -/
def markReader (b : Nat) : VReader := ⟨((b : Nat) : Int), markOf (b + 1), ((b + 2 : Nat) : Int), ((b + 3 : Nat) : Int), ((b + 4 : Nat) : Int)⟩
def marksReader (k n : Nat) : List VReader := (List.range n).map fun i => markReader (k + i * 5)
theorem marksReader_len (k n : Nat) : (marksReader k n).length = n := by simp [marksReader]
theorem marksReader_succ (k n : Nat) : marksReader k (n + 1) = marksReader k n ++ [markReader (k + n * 5)] := by simp [marksReader, List.range_succ]
theorem marksReader_at (k n i : Nat) (h : i < n) : (marksReader k n)[i]? = some (markReader (k + i * 5)) := by simp [marksReader, h]
theorem markReader_small (b : Nat) (h : b + 5 ≤ 100000000) : (markReader b).small := markOf_size _ (by omega)
theorem marksReader_small (k n : Nat) (h : k + n * 5 + 5 ≤ 100000000) : ∀ s ∈ marksReader k n, s.small := by
  intro s hs
  obtain ⟨i, hi⟩ := List.getElem?_of_mem hs
  have hlt := (List.getElem?_eq_some_iff.1 hi).1
  rw [marksReader_len] at hlt
  rw [marksReader_at k n i hlt] at hi
  cases hi
  exact markReader_small _ (by have := Nat.mul_le_mul_right 5 (Nat.le_of_lt hlt); omega)
end Go.Proofs.Ytpcibejmahhjiaa
namespace Go.Proofs.Ytpcibejmahhjiaa
open Go.RowKit

/-- Lies x in a .. b? -/
def inB (x a b : Int) : Bool := decide (a ≤ x) && decide (x ≤ b)
theorem inB_iff {x a b : Int} : inB x a b = true ↔ a ≤ x ∧ x ≤ b := by simp [inB]
theorem inB_not {x a b : Int} : inB x a b = false ↔ ¬ (a ≤ x ∧ x ≤ b) := by rw [← inB_iff]; simp
/-- A sheet's five numbers. -/
structure Sh where
  id : Int
  row : Int
  col : Int
  scale : Int
  year : Int
/-- Is the sheet valid? -/
def Sh.ok (s : Sh) : Bool := inB s.id 1 999 && (inB s.row 0 99 && (inB s.col 0 99 && (inB s.scale 10 500 && inB s.year 1500 2100)))

set_option maxHeartbeats 400000 in
theorem l1In_any (x a b : Int) (w : World) :
    Calls Try.prog 77 #[.int .i64 x, .int .i64 a, .int .i64 b] w fun e w' => e = .returned (.bool (inB x a b)) ∧ w = w' := by
  by_cases h : a ≤ x
  · go_enter Try.func77, Try.ntmps77
    go_wp2
    go_ret
    exact ⟨ret_bool (by simp [inB, h]), rfl⟩
  · go_enter Try.func77, Try.ntmps77
    go_wp2
    go_ret
    exact ⟨ret_bool (by simp [inB]; omega), rfl⟩
theorem bel_alloc1 (w : World) (o : Obj) : Below w.heap.size w (w.alloc o) := (Below.refl _ _).alloc (Nat.le_refl _) o

theorem all_snoc (zs : List Int) (k : Nat) (z lo hi : Int) (h : zs[k]? = some z) : ((zs.take (k + 1)).all fun z => inB z lo hi) = (((zs.take k).all fun z => inB z lo hi) && inB z lo hi) := by
  rw [List.take_add_one, h]; simp
set_option maxHeartbeats 400000 in
/-- Are all numbers of a slice in lo .. hi? -/
theorem areInRange_any (b n c : Nat) (zs : List Int) (lo hi : Int) (w : World) (hn : n = zs.length) (hm : n ≤ 1000000) (hc : ∀ (j : Nat) z, zs[j]? = some z → w.cell? ⟨b, j, none⟩ = some (.int .i64 z)) :
    Calls Try.prog 71 #[.int .i64 lo, .int .i64 hi, .slice (some ⟨b, 0, none⟩) n c] w fun e w' => e = .returned (.bool (zs.all fun z => inB z lo hi)) ∧ w = w' := by
  have C := Lib.hid hc
  have L := Lib.hid hn
  clear hc hn
  go_enter Try.func71, Try.ntmps71
  go_wp2
  go_loop [11, 8] (fun i _ => ∃ k : Nat, k ≤ n ∧ i = .int .i64 k ∧ ((zs.take k).all fun z => inB z lo hi) = true) (fun i _ => n - (intOf i).toNat)
  case atStart => exact ⟨0, Nat.zero_le _, rfl, rfl⟩
  case round =>
    obtain ⟨k, hk, rfl, hall⟩ := hrel
    have H := Lib.hid hall
    clear hall
    by_cases hlt : k < n
    · obtain ⟨z, hz⟩ : ∃ z, zs[k]? = some z := ⟨zs[k]'(by have := L.out; omega), List.getElem?_eq_getElem _⟩
      have hcell := C.out k z hz
      have S := Lib.hid (all_snoc zs k z lo hi hz)
      have T := Lib.hid (List.mem_of_getElem? hz)
      clear hz
      by_cases hin : inB z lo hi = true
      · obtain ⟨h1, h2⟩ := inB_iff.1 hin
        have I := Lib.hid hin
        clear hin
        go_wp2
        go_round
        case rel => exact ⟨k + 1, by omega, by go_num, by rw [S.out, H.out, I.out]; rfl⟩
        case measure => simp [intOf]; omega
      · have hin' : inB z lo hi = false := by simpa using hin
        have h1 := inB_not.1 hin'
        have I := Lib.hid hin'
        have hF : (zs.all fun z => inB z lo hi) = false := by
          rw [List.all_eq_false]; exact ⟨z, T.out, by simp [I.out]⟩
        have F := Lib.hid hF
        clear hin hin' hF
        by_cases h2 : z < lo
        · clear h1
          go_wp2
          go_ret
          exact ⟨ret_bool F.out.symm, rfl⟩
        · have h3 : hi < z := by omega
          clear h1
          go_wp2
          go_ret
          exact ⟨ret_bool F.out.symm, rfl⟩
    · obtain rfl : k = n := by omega
      go_wp2
      go_ret
      exact ⟨ret_bool (by rw [← H.out, List.take_of_length_le (by have := L.out; omega)]), rfl⟩

theorem lit1 (W : World) (x : Int) (t : TypeId) (B : Nat) (hB : W.heap.size = B) : ∀ (j : Nat) z, [x][j]? = some z → (W.alloc (.cells #[.int .i64 x] t)).cell? ⟨B, j, none⟩ = some (.int .i64 z) := by
  intro j z hj
  subst hB
  match j, hj with
  | 0, hj => simp at hj; subst hj; simp [World.cell?_alloc_new]
  | j + 1, hj => simp at hj
theorem lit2 (W : World) (x y : Int) (t : TypeId) (B : Nat) (hB : W.heap.size = B) : ∀ (j : Nat) z, [x, y][j]? = some z → (W.alloc (.cells #[.int .i64 x, .int .i64 y] t)).cell? ⟨B, j, none⟩ = some (.int .i64 z) := by
  intro j z hj
  subst hB
  match j, hj with
  | 0, hj => simp at hj; subst hj; simp [World.cell?_alloc_new]
  | 1, hj => simp at hj; subst hj; simp [World.cell?_alloc_new]
  | j + 2, hj => simp at hj
theorem size_alloc (W : World) (o : Obj) : (W.alloc o).heap.size = W.heap.size + 1 := by
  show (W.heap.push o).size = _
  simp

end Go.Proofs.Ytpcibejmahhjiaa
namespace Go.Proofs.Ytpcibejmahhjiaa
open Go.RowKit

def lowB (c : UInt8) : Bool := decide (97 ≤ c.toNat) && decide (c.toNat ≤ 122)
/-- Is the text a word? -/
def wordB (s : ByteArray) : Bool := s.data.toList.all lowB && inB s.size 1 10
def dayB (d : Int) : Bool := inB d 0 4000
def VReader.ok (s : VReader) : Bool := inB s.Id 1 999 && (wordB s.Name && (dayB s.Joined && (inB s.Class 1 3 && inB s.Fines 0 10000)))
def rdUp (xs : List VReader) : Bool := upB VReader.ok VReader.Id xs
def areRd (xs : List VReader) : Bool := rdUp xs && decide (xs.length ≤ 10)
/-- Where the reader with an id stands, or -1. -/
def rdFind (xs : List VReader) (id : Int) : Int := if areRd xs = true then firstOf (fun s => s.Id == id) xs else -1

set_option maxHeartbeats 800000 in
theorem l2Word_any (s : ByteArray) (w : World) (hs : s.size ≤ maxLen) :
    Calls Try.prog 96 #[.string s] w fun e w' => e = .returned (.bool (wordB s)) ∧ w = w' := by
  unfold maxLen at hs
  go_enter Try.func96, Try.ntmps96
  go_wp2
  go_loop [3] (fun i => ∃ k : Nat, k ≤ s.size ∧ i = .int .i64 k ∧ (s.data.toList.take k).all lowB = true) (fun i => s.size - (intOf i).toNat)
  case atStart => exact ⟨0, Nat.zero_le _, rfl, rfl⟩
  case round =>
    obtain ⟨k, hk, rfl, hall⟩ := hrel
    have A := Lib.hid hall
    clear hall
    by_cases hlt : k < s.size
    · have T := Lib.hid (take_snoc s k hlt)
      by_cases h1 : 97 ≤ (s[k].toNat : Int)
      · by_cases h2 : (s[k].toNat : Int) ≤ 122
        · have LO := Lib.hid (show (s.data.toList.take (k + 1)).all lowB = true from by
            rw [T.out, List.all_append, A.out]; simp [lowB]; omega)
          go_wp2
          go_round
          case rel => exact ⟨k + 1, by omega, by go_num, LO.out⟩
          case measure => simp [intOf]; omega
        · have NO := Lib.hid (show wordB s = false from by
            have h : s.data.toList.all lowB = false := by
              rw [List.all_eq_false]
              exact ⟨s[k], List.mem_of_getElem? (i := k) (by simp [hlt]; rfl), by simp [lowB]; omega⟩
            unfold wordB; rw [h]; rfl)
          go_wp2
          go_ret
          exact ⟨ret_bool NO.out.symm, rfl⟩
      · have NO := Lib.hid (show wordB s = false from by
          have h : s.data.toList.all lowB = false := by
            rw [List.all_eq_false]
            exact ⟨s[k], List.mem_of_getElem? (i := k) (by simp [hlt]; rfl), by simp [lowB]; omega⟩
          unfold wordB; rw [h]; rfl)
        have h3 : (s[k].toNat : Int) < 97 := by omega
        go_wp2
        go_ret
        exact ⟨ret_bool NO.out.symm, rfl⟩
    · obtain rfl : k = s.size := by omega
      have E := Lib.hid (show wordB s = inB s.size 1 10 from by
        have h := A.out
        rw [take_all] at h
        unfold wordB; rw [h]; rfl)
      go_wp2_with fail
      refine (l1In_any _ _ _ _).mono ?_
      rintro e w' ⟨rfl, rfl⟩
      rw [← E.out]
      go_wp2
      go_ret
      exact ⟨rfl, rfl⟩
end Go.Proofs.Ytpcibejmahhjiaa
namespace Go.Proofs.Ytpcibejmahhjiaa
open Go.RowKit

/-- The slice 'a len cap' holds the integers xs. -/
def IsInts (w : World) (a : Option Addr) (len cap : Nat) (xs : List Int) : Prop :=
  len = xs.length ∧ len ≤ cap ∧ cap ≤ maxLen ∧ (len = 0 ∨ ∃ b o, a = some ⟨b, o, none⟩ ∧ b < w.heap.size ∧ ∀ (k : Nat) z, xs[k]? = some z → w.cell? ⟨b, o + k, none⟩ = some (.int .i64 z))
theorem IsInts.below {w w' : World} {a : Option Addr} {len cap : Nat} {xs : List Int} (h : IsInts w a len cap xs) (hb : Below w.heap.size w w') : IsInts w' a len cap xs := by
  refine ⟨h.1, h.2.1, h.2.2.1, ?_⟩
  rcases h.2.2.2 with h0 | ⟨b, o, rfl, h1, h2⟩
  · exact .inl h0
  · exact .inr ⟨b, o, rfl, Nat.lt_of_lt_of_le h1 hb.size, fun k z hz => (hb.cell (p := ⟨b, o + k, none⟩) h1).trans (h2 k z hz)⟩
theorem IsInts.grown {w w' : World} {a : Option Addr} {len cap : Nat} {xs : List Int} {row : Option Nat} (h : IsInts w a len cap xs) (hg : w.grownBy w' row) (hne : ∀ b o, a = some ⟨b, o, none⟩ → some b ≠ row) : IsInts w' a len cap xs := by
  refine ⟨h.1, h.2.1, h.2.2.1, ?_⟩
  rcases h.2.2.2 with h0 | ⟨b, o, rfl, h1, h2⟩
  · exact .inl h0
  · exact .inr ⟨b, o, rfl, Nat.lt_of_lt_of_le h1 hg.size, fun k z hz => (World.cell?_of_block (w := w) (a := ⟨b, o + k, none⟩) (hg.block b h1 (hne b o rfl))).trans (h2 k z hz)⟩
theorem IsInts.at {w : World} {a : Option Addr} {len cap : Nat} {xs : List Int} (h : IsInts w a len cap xs) (hpos : 0 < len) : ∃ b o, a = some ⟨b, o, none⟩ ∧ b < w.heap.size ∧ ∀ (k : Nat) z, xs[k]? = some z → w.cell? ⟨b, o + k, none⟩ = some (.int .i64 z) := by
  rcases h.2.2.2 with h0 | h1
  · omega
  · exact h1
theorem int_at {xs : List Int} {len k : Nat} (hl : Hid (len = xs.length)) (hk : k < len) : ∃ s, xs[k]? = some s := ⟨xs[k]'(by have := hl.out; omega), List.getElem?_eq_getElem _⟩
def intCells (xs : List Int) : List Value := xs.map (Value.int .i64)
theorem intCells_len (xs : List Int) : (intCells xs).length = xs.length := by simp [intCells]
theorem intCells_snoc (xs : List Int) (z : Int) : intCells (xs ++ [z]) = intCells xs ++ [.int .i64 z] := by simp [intCells]
theorem isInts_own {w : World} {base : Nat} {v : Value} {xs : List Int} (h : w.ownsRow base 3 1 v xs.length (intCells xs)) :
    ∃ a cap, v = .slice a xs.length cap ∧ IsInts w a xs.length cap xs ∧ ∀ b o, a = some ⟨b, o, none⟩ → v.ownBlock = some b := by
  have hlt := h.lt
  rcases h.2 with ⟨rfl, h0⟩ | ⟨g, cap, cur, rfl, hg, hh, hn, hcap, hsz, htake⟩
  · exact ⟨none, 0, by rw [h0], ⟨rfl, by omega, by simp [maxLen], .inl h0⟩, fun _ _ h => by cases h⟩
  · refine ⟨some ⟨g, 0, none⟩, cap, rfl, ⟨rfl, hn, hcap, ?_⟩, fun b o h => by cases h; rfl⟩
    by_cases hz : xs.length = 0
    · exact .inl hz
    · refine .inr ⟨g, 0, rfl, (hlt g rfl).2, fun k z hz => ?_⟩
      have hc := h.cells (g := g) rfl k (.int .i64 z) (by simp [intCells, hz])
      rw [add_plain] at hc; exact hc
theorem ownsRow_grown' {w w' : World} {base : Nat} {e : TypeId} {size n : Nat} {v : Value} {xs : List Value} {row : Option Nat} (h : w.ownsRow base e size v n xs) (hg : w.grownBy w' row) (hne : ∀ k, row = some k → k < base) : w'.ownsRow base e size v n xs := by
  refine ⟨h.1, ?_⟩
  rcases h.2 with h0 | ⟨g, cap, cur, rfl, hb, hh, r⟩
  · exact .inl h0
  · exact .inr ⟨g, cap, cur, rfl, hb, (hg.block g (Array.getElem?_eq_some_iff.1 hh).1 (fun e => by have := hne g e.symm; omega)).trans hh, r⟩
theorem infoInt : (Try.prog.info? 3).map (fun i => (i.zero, i.size, i.bytes)) = some (some (.int .i64 0), 1, 8) := by kernel_rfl
/-- A row of integers of the call's own and whether it stands, and the world below as it was. -/
def IntsOk (xs : List Int) (ok : Bool) (w : World) (e : Ending) (w' : World) : Prop := ∃ v, e = .returned (.tuple #[v, .bool ok]) ∧ w'.ownsRow w.heap.size 3 1 v xs.length (intCells xs) ∧ Below w.heap.size w w'

set_option maxHeartbeats 1600000 in
set_option maxRecDepth 100000 in
theorem eqIntS_yes (a : Option Addr) (len cap : Nat) (a' : Option Addr) (len' cap' : Nat) (xs : List Int) (w : World) (h : IsInts w a len cap xs) (h' : IsInts w a' len' cap' xs) :
    Calls Try.prog 38 #[.slice a len cap, .slice a' len' cap'] w fun e w' => e = .returned (.bool true) ∧ Below w.heap.size w w' := by
  obtain rfl := h.1
  obtain rfl := h'.1
  have hm := h.2.2.1
  have hcl := h.2.1
  unfold maxLen at hm
  have S := Lib.hid h
  have S' := Lib.hid h'
  clear h h'
  go_enter Try.func38, Try.ntmps38
  go_wp2
  go_loopw [5] (fun i wr => ∃ k : Nat, k ≤ xs.length ∧ i = .int .i64 k ∧ Below w.heap.size w wr) (fun i _ => xs.length - (intOf i).toNat)
  case atStart => exact ⟨0, Nat.zero_le _, rfl, Below.refl _ _⟩
  case round =>
    obtain ⟨k, hk, rfl, hbel⟩ := hrel
    have B := Lib.hid hbel
    by_cases hlt : k < xs.length
    · obtain ⟨z, hz⟩ : ∃ z, xs[k]? = some z := ⟨xs[k]'hlt, List.getElem?_eq_getElem _⟩
      obtain ⟨b, o, rfl, hb, hat⟩ := (S.out.below hbel).at (by omega)
      obtain ⟨b', o', rfl, hb', hat'⟩ := (S'.out.below hbel).at (by omega)
      have c0 := hat k z hz
      have d0 := hat' k z hz
      have hi0 : (0 : Int) ≤ (k : Int) := by omega
      have hi1 : (k : Int) < (xs.length : Int) := by omega
      clear hbel hz hat hat'
      go_wp2
      go_quiet (fail)
      have B1 := Lib.hid (Below.then' B.out (bel_drawn wr nq))
      go_wp2
      go_roundw
      case rel => exact ⟨k + 1, by omega, by go_num, B1.out⟩
      case measure => simp [intOf]; omega
    · obtain rfl : k = xs.length := by omega
      clear hbel
      go_wp2
      go_ret
      exact ⟨rfl, B.out⟩

/-- The marks k, k + 1, .. k + n - 1. -/
def marksI (k n : Nat) : List Int := (List.range n).map fun i => ((k + i : Nat) : Int)
theorem marksI_len (k n : Nat) : (marksI k n).length = n := by simp [marksI]
theorem marksI_succ (k n : Nat) : marksI k (n + 1) = marksI k n ++ [((k + n : Nat) : Int)] := by simp [marksI, List.range_succ]
theorem marksI_at (k n i : Nat) (h : i < n) : (marksI k n)[i]? = some ((k + i : Nat) : Int) := by simp [marksI, h]
theorem set_markI {k j : Nat} {L : List Value} (h : j < L.length) : (intCells (marksI k j) ++ L.drop j).set j (.int .i64 ((k + j : Nat) : Int)) = intCells (marksI k (j + 1)) ++ L.drop (j + 1) := by
  have hl : (intCells (marksI k j)).length = j := by rw [intCells_len, marksI_len]
  rw [List.set_append_right _ _ (by omega), hl, Nat.sub_self, List.drop_eq_getElem_cons h, List.set_cons_zero, marksI_succ, intCells_snoc]
  simp
/-- The row v of n values bears the marks from k on; nothing else that was there has turned. -/
def MarkI (base k n : Nat) (v : Value) (w : World) (e : Ending) (w' : World) : Prop := e = .returned (.int .i64 ((k + n : Nat) : Int)) ∧ w'.ownsRow base 3 1 v n (intCells (marksI k n)) ∧ w.grownBy w' v.ownBlock
set_option maxHeartbeats 1600000 in
set_option maxRecDepth 100000 in
theorem markIntS_any (base : Nat) (v : Value) (n k : Nat) (L : List Value) (w : World) (hown : w.ownsRow base 3 1 v n L) (hk : k ≤ 1000000000) (hn : n ≤ 1000000000) :
    Calls Try.prog 40 #[v, .int .i64 (k : Int)] w (MarkI base k n v w) := by
  have hlen : L.length = n := by have := hown.1; omega
  rcases hown.2 with ⟨rfl, rfl⟩ | ⟨g, cap, cur, rfl, hg, hh, hncap, hcap, _⟩
  · have hL : L = [] := List.length_eq_zero_iff.1 hlen
    subst hL
    have H := Lib.hid hown
    clear hown
    go_enter Try.func40, Try.ntmps40
    go_wp2
    refine wp_loop_rounds 1 ?_
    rw [rounds_succ]
    go_wp2
    go_ret
    exact ⟨rfl, H.out, World.grownBy.refl _ _⟩
  clear hh
  have H := Lib.hid hown
  have L0 := Lib.hid hlen
  unfold maxLen at hcap
  clear hown hlen
  go_enter Try.func40, Try.ntmps40
  go_wp2
  go_loopw [1, 5] (fun q i wr => ∃ j : Nat, j ≤ n ∧ i = .int .i64 j ∧ q = .int .i64 ((k + j : Nat) : Int) ∧ wr.ownsRow base 3 1 (.slice (some ⟨g, 0, none⟩) n cap) n (intCells (marksI k j) ++ L.drop j) ∧ w.grownBy wr (some g)) (fun _ i _ => n - (intOf i).toNat)
  case atStart => exact ⟨0, Nat.zero_le _, rfl, rfl, by simpa [marksI, intCells] using H.out, World.grownBy.refl _ _⟩
  case round =>
    obtain ⟨j, hj, rfl, rfl, hrow, hgr⟩ := hrel
    have R := Lib.hid hrow
    have G := Lib.hid hgr
    clear hrow hgr
    by_cases hlt : j < n
    · have hfr := R.out.frozenAt j
      obtain ⟨u, hu⟩ : ∃ u, wr.cell? ⟨g, j, none⟩ = some u := by
        have hlt2 : j < (intCells (marksI k j) ++ L.drop j).length := by rw [List.length_append, intCells_len, marksI_len, List.length_drop, L0.out]; omega
        have h := R.out.cells (g := g) rfl j _ (List.getElem?_eq_getElem hlt2)
        rw [add_plain, Nat.zero_add] at h
        exact ⟨_, h⟩
      go_wp2
      go_roundw
      case rel => exact ⟨j + 1, by omega, by go_num, by go_num, by
        have h := (R.out.stored j (.int .i64 ((k + j : Nat) : Int))).1
        rw [set_markI (by rw [L0.out]; exact hlt)] at h
        simpa using h, grown_trans G.out (by simpa using (R.out.stored j (.int .i64 ((k + j : Nat) : Int))).2)⟩
      case measure => simp [intOf]; omega
    · obtain rfl : j = n := by omega
      go_wp2
      go_ret
      refine ⟨rfl, ?_, G.out⟩
      have h := R.out
      rw [List.drop_of_length_le (by rw [L0.out]; omega), List.append_nil] at h
      exact h

set_option maxHeartbeats 1600000 in
set_option maxRecDepth 100000 in
theorem heldIntS_any (a : Option Addr) (n cap k : Nat) (w : World) (h : IsInts w a n cap (marksI k n)) (hk : k ≤ 1000000000) (hn : n ≤ 1000000000) :
    Calls Try.prog 41 #[.slice a n cap, .int .i64 (k : Int)] w fun e w' => e = .returned (.int .i64 ((k + n : Nat) : Int)) ∧ w = w' := by
  have hm := h.2.2.1
  have hcl := h.2.1
  unfold maxLen at hm
  have S := Lib.hid h
  clear h
  go_enter Try.func41, Try.ntmps41
  go_wp2
  go_loop [1, 5] (fun q i => ∃ j : Nat, j ≤ n ∧ i = .int .i64 j ∧ q = .int .i64 ((k + j : Nat) : Int)) (fun _ i => n - (intOf i).toNat)
  case atStart => exact ⟨0, Nat.zero_le _, rfl, rfl⟩
  case round =>
    obtain ⟨j, hj, rfl, rfl⟩ := hrel
    by_cases hlt : j < n
    · obtain ⟨b, o, rfl, hb, hat⟩ := S.out.at (by omega)
      have c0 := hat j _ (marksI_at k n j hlt)
      have hj0 : (0 : Int) ≤ (j : Int) := by omega
      have hj1 : (j : Int) < (n : Int) := by omega
      clear hat
      go_wp2
      go_round
      case rel => exact ⟨j + 1, by omega, by go_num, by go_num⟩
      case measure => simp [intOf]; omega
    · obtain rfl : j = n := by omega
      go_wp2
      go_ret
      exact ⟨rfl, rfl⟩
end Go.Proofs.Ytpcibejmahhjiaa
namespace Go.Proofs.Ytpcibejmahhjiaa
open Go.RowKit

def yearB (y : Int) : Bool := inB y 1500 2100
def VMaker.ok (m : VMaker) : Bool := inB m.Id 1 99 && (wordB m.Name && (yearB m.From && (yearB m.Until && (decide (m.From ≤ m.Until) && (inB m.Heir 0 99 && !(m.Heir == m.Id))))))
theorem mkOk_iff {m : VMaker} : m.ok = true ↔ (1 ≤ m.Id ∧ m.Id ≤ 99) ∧ wordB m.Name = true ∧ (1500 ≤ m.From ∧ m.From ≤ 2100) ∧ (1500 ≤ m.Until ∧ m.Until ≤ 2100) ∧ m.From ≤ m.Until ∧ (0 ≤ m.Heir ∧ m.Heir ≤ 99) ∧ ¬ m.Heir = m.Id := by
  simp [VMaker.ok, yearB, inB]
/-- Where the maker with an Id stands, or -1. -/
def mkIdx (xs : List VMaker) (id : Int) : Int := firstOf (fun t => t.Id == id) xs
/-- Begins a maker with the Id after the year? -/
def aftB (xs : List VMaker) (id : Int) (y : Int) : Bool := match xs[(mkIdx xs id).toNat]? with | some h => decide (0 ≤ mkIdx xs id) && decide (y < h.From) | none => false
def heirB (xs : List VMaker) (m : VMaker) : Bool := m.Heir == 0 || aftB xs m.Heir m.Until
def mkUp (xs : List VMaker) : Bool := upB VMaker.ok VMaker.Id xs && decide (xs.length ≤ 10)
def areMk (xs : List VMaker) : Bool := mkUp xs && xs.all (heirB xs)
theorem areMk_up {xs : List VMaker} (h : areMk xs = true) : upB VMaker.ok VMaker.Id xs = true := by simp [areMk, mkUp] at h; exact h.1.1
theorem areMk_len {xs : List VMaker} (h : areMk xs = true) : xs.length ≤ 10 := by simp [areMk, mkUp] at h; exact h.1.2
theorem areMk_ok {xs : List VMaker} (h : areMk xs = true) {m : VMaker} (hm : m ∈ xs) : m.ok = true := upB_ok (areMk_up h) hm
theorem areMk_heir {xs : List VMaker} (h : areMk xs = true) {m : VMaker} (hm : m ∈ xs) : heirB xs m = true := by simp only [areMk, Bool.and_eq_true, List.all_eq_true] at h; exact h.2 m hm
theorem mkIdx_cases (xs : List VMaker) (id : Int) : (mkIdx xs id = -1 ∧ ∀ s ∈ xs, ¬ s.Id = id) ∨ ∃ (i : Nat) (s : VMaker), mkIdx xs id = (i : Int) ∧ xs[i]? = some s ∧ s.Id = id := by
  rcases firstOf_cases (fun t : VMaker => t.Id == id) xs with ⟨h1, h2⟩ | ⟨i, s, h1, h2, h3, _⟩
  · exact .inl ⟨h1, fun s hs => by simpa using h2 s hs⟩
  · exact .inr ⟨i, s, h1, h2, by simpa using h3⟩
theorem mkIdx_bd (xs : List VMaker) (id : Int) : -1 ≤ mkIdx xs id ∧ mkIdx xs id < (xs.length : Int) := firstOf_bd _ _
theorem mkIdx_zero {xs : List VMaker} (h : areMk xs = true) : mkIdx xs 0 = -1 := by
  rcases mkIdx_cases xs 0 with ⟨h1, _⟩ | ⟨i, s, _, h2, h3⟩
  · exact h1
  · have := (mkOk_iff.1 (areMk_ok h (List.mem_of_getElem? h2))).1; omega
theorem mkIdx_at {xs : List VMaker} (h : areMk xs = true) {i : Nat} {s : VMaker} (hs : xs[i]? = some s) : mkIdx xs s.Id = (i : Int) := upB_first (areMk_up h) hs

/-- The index of the heir of maker k, or -1. -/
def mkNext (xs : List VMaker) (k : Nat) : Int := match xs[k]? with | some m => mkIdx xs m.Heir | none => -1
theorem mkNext_some {xs : List VMaker} {k : Nat} {m : VMaker} (hm : xs[k]? = some m) : mkNext xs k = mkIdx xs m.Heir := by unfold mkNext; rw [hm]
theorem mkNext_bd (xs : List VMaker) (k : Nat) : -1 ≤ mkNext xs k ∧ mkNext xs k < (xs.length : Int) := by
  unfold mkNext
  cases xs[k]? with
  | none => simp; omega
  | some m => exact mkIdx_bd _ _
/-- From of maker k; how far it is to the end of all years. -/
def mkYears (xs : List VMaker) (k : Nat) : Nat := match xs[k]? with | some m => (2101 - m.From).toNat | none => 0
theorem mkYears_some {xs : List VMaker} {k : Nat} {m : VMaker} (hm : xs[k]? = some m) : mkYears xs k = (2101 - m.From).toNat := by unfold mkYears; rw [hm]
theorem heir_after {xs : List VMaker} (h : areMk xs = true) {k : Nat} {m : VMaker} (hm : xs[k]? = some m) (hn : 0 ≤ mkNext xs k) : ∃ t, xs[(mkNext xs k).toNat]? = some t ∧ m.Until < t.From ∧ t.Id = m.Heir := by
  have h0 : ¬ m.Heir = 0 := by
    intro e
    rw [mkNext_some hm, e, mkIdx_zero h] at hn; omega
  have h1 := areMk_heir h (List.mem_of_getElem? hm)
  rw [mkNext_some hm] at hn ⊢
  rcases mkIdx_cases xs m.Heir with ⟨h2, _⟩ | ⟨i, s, h2, h3, h4⟩
  · omega
  · rw [h2]
    refine ⟨s, h3, ?_, h4⟩
    simp [heirB, aftB, h0, h2, h3] at h1
    exact h1
theorem heir_there {xs : List VMaker} (h : areMk xs = true) {k : Nat} {m : VMaker} (hm : xs[k]? = some m) : mkNext xs k < 0 ↔ m.Heir = 0 := by
  constructor
  · intro hn
    have h1 := areMk_heir h (List.mem_of_getElem? hm)
    rw [mkNext_some hm] at hn
    by_cases h0 : m.Heir = 0
    · exact h0
    · simp only [heirB, aftB, Bool.or_eq_true, beq_iff_eq, h0, false_or] at h1
      cases hg : xs[(mkIdx xs m.Heir).toNat]? with
      | none => rw [hg] at h1; simp at h1
      | some t => rw [hg] at h1; simp at h1; omega
  · intro e
    rw [mkNext_some hm, e, mkIdx_zero h]; omega
theorem mkYears_next {xs : List VMaker} (h : areMk xs = true) {k : Nat} (hk : k < xs.length) (hn : 0 ≤ mkNext xs k) : mkYears xs (mkNext xs k).toNat < mkYears xs k := by
  obtain ⟨m, hm⟩ : ∃ m, xs[k]? = some m := ⟨xs[k], List.getElem?_eq_getElem _⟩
  obtain ⟨t, ht, hlt, _⟩ := heir_after h hm hn
  have o1 := mkOk_iff.1 (areMk_ok h (List.mem_of_getElem? hm))
  have o2 := mkOk_iff.1 (areMk_ok h (List.mem_of_getElem? ht))
  rw [mkYears_some hm, mkYears_some ht]; omega
/-- The line from maker k on, by places, n makers of it at most. -/
def lineN (xs : List VMaker) : Nat → Nat → List Nat
  | 0, _ => []
  | n + 1, k => k :: (if mkNext xs k < 0 then [] else lineN xs n (mkNext xs k).toNat)
def lineI (xs : List VMaker) (k : Nat) : List Nat := lineN xs 601 k
theorem lineN_enough {xs : List VMaker} (h : areMk xs = true) : ∀ (n k n' : Nat), k < xs.length → mkYears xs k ≤ n → mkYears xs k ≤ n' → lineN xs n k = lineN xs n' k := by
  intro n
  induction n with
  | zero =>
    intro k n' hk h0
    obtain ⟨m, hm⟩ : ∃ m, xs[k]? = some m := ⟨xs[k], List.getElem?_eq_getElem _⟩
    have o1 := mkOk_iff.1 (areMk_ok h (List.mem_of_getElem? hm))
    rw [mkYears_some hm] at h0; omega
  | succ n ih =>
    intro k n' hk h0 h1
    have hp : 0 < mkYears xs k := by
      obtain ⟨m, hm⟩ : ∃ m, xs[k]? = some m := ⟨xs[k], List.getElem?_eq_getElem _⟩
      have o1 := mkOk_iff.1 (areMk_ok h (List.mem_of_getElem? hm))
      rw [mkYears_some hm]; omega
    obtain ⟨j, rfl⟩ : ∃ j, n' = j + 1 := ⟨n' - 1, by omega⟩
    unfold lineN
    by_cases hn : mkNext xs k < 0
    · rw [if_pos hn, if_pos hn]
    · rw [if_neg hn, if_neg hn]
      have h2 := mkYears_next h hk (by omega)
      have h3 := mkNext_bd xs k
      rw [ih (mkNext xs k).toNat j (by omega) (by omega) (by omega)]
theorem mkYears_le {xs : List VMaker} (h : areMk xs = true) {k : Nat} (hk : k < xs.length) : mkYears xs k ≤ 601 := by
  obtain ⟨m, hm⟩ : ∃ m, xs[k]? = some m := ⟨xs[k], List.getElem?_eq_getElem _⟩
  have o1 := mkOk_iff.1 (areMk_ok h (List.mem_of_getElem? hm))
  rw [mkYears_some hm]; omega
theorem lineI_step {xs : List VMaker} (h : areMk xs = true) {k : Nat} (hk : k < xs.length) : lineI xs k = k :: (if mkNext xs k < 0 then [] else lineI xs (mkNext xs k).toNat) := by
  unfold lineI
  rw [show (601 : Nat) = 600 + 1 from rfl, lineN]
  by_cases hn : mkNext xs k < 0
  · rw [if_pos hn, if_pos hn]
  · rw [if_neg hn, if_neg hn]
    have h2 := mkYears_next h hk (by omega)
    have h3 := mkNext_bd xs k
    have h4 := mkYears_le h hk
    rw [lineN_enough h 600 (mkNext xs k).toNat (600 + 1) (by omega) (by omega) (by omega)]
theorem lineN_len (xs : List VMaker) : ∀ n k, (lineN xs n k).length ≤ n := by
  intro n
  induction n with
  | zero => intro k; simp [lineN]
  | succ n ih =>
    intro k
    unfold lineN
    by_cases hn : mkNext xs k < 0
    · rw [if_pos hn]; simp
    · rw [if_neg hn]; simp; exact ih _
theorem lineN_in {xs : List VMaker} : ∀ n k, k < xs.length → ∀ j ∈ lineN xs n k, j < xs.length := by
  intro n
  induction n with
  | zero => intro k _ j hj; simp [lineN] at hj
  | succ n ih =>
    intro k hk j hj
    unfold lineN at hj
    rw [List.mem_cons] at hj
    rcases hj with rfl | hj
    · exact hk
    · by_cases hn : mkNext xs k < 0
      · rw [if_pos hn] at hj; cases hj
      · rw [if_neg hn] at hj
        have h3 := mkNext_bd xs k
        exact ih _ (by omega) j hj
theorem lineI_len (xs : List VMaker) (k : Nat) : (lineI xs k).length ≤ 601 := lineN_len xs 601 k
theorem lineI_in {xs : List VMaker} {k : Nat} (hk : k < xs.length) : ∀ j ∈ lineI xs k, j < xs.length := lineN_in 601 k hk
/-- What is left of the line at place k (none at -1). -/
def lineZ (xs : List VMaker) (k : Int) : List Nat := if k < 0 then [] else lineI xs k.toNat
theorem lineZ_nat (xs : List VMaker) (k : Nat) : lineZ xs (k : Int) = lineI xs k := by unfold lineZ; rw [if_neg (by omega)]; simp
theorem lineZ_step {xs : List VMaker} (h : areMk xs = true) {k : Nat} (hk : k < xs.length) : lineZ xs (k : Int) = k :: lineZ xs (mkNext xs k) := by
  rw [lineZ_nat, lineI_step h hk]; rfl
theorem lineZ_len (xs : List VMaker) (k : Int) : (lineZ xs k).length ≤ 601 := by
  unfold lineZ
  by_cases h : k < 0
  · rw [if_pos h]; simp
  · rw [if_neg h]; exact lineI_len _ _
/-- How far it is to the end, at place i. -/
def lineLeft (xs : List VMaker) (i : Int) : Nat := if i < 0 then 0 else 1 + mkYears xs i.toNat
theorem lineLeft_next {xs : List VMaker} (h : areMk xs = true) {k : Nat} (hk : k < xs.length) : lineLeft xs (mkNext xs k) < lineLeft xs (k : Int) := by
  unfold lineLeft
  rw [if_neg (by omega : ¬ (k : Int) < 0)]
  by_cases hn : mkNext xs k < 0
  · rw [if_pos hn]; omega
  · rw [if_neg hn]
    have := mkYears_next h hk (by omega)
    simp only [Int.toNat_natCast]; omega
def VMaker.zero : VMaker := ⟨0, ⟨#[]⟩, 0, 0, 0⟩
def mkAt (xs : List VMaker) (k : Nat) : VMaker := xs.getD k VMaker.zero
theorem mkAt_some {xs : List VMaker} {k : Nat} {m : VMaker} (hm : xs[k]? = some m) : mkAt xs k = m := by unfold mkAt; rw [List.getD_eq_getElem?_getD, hm]; rfl
/-- Where a maker stands in a valid list, or -1. -/
def mkSel (xs : List VMaker) (id : Int) : Int := if areMk xs = true then mkIdx xs id else -1
theorem mkSel_ways (xs : List VMaker) (id : Int) : (areMk xs = false ∧ mkSel xs id = -1) ∨ (areMk xs = true ∧ mkIdx xs id = -1 ∧ mkSel xs id = -1) ∨ ∃ (i : Nat) (s : VMaker), areMk xs = true ∧ mkIdx xs id = (i : Int) ∧ mkSel xs id = (i : Int) ∧ xs[i]? = some s ∧ i < xs.length ∧ s.Id = id := by
  cases h : areMk xs with
  | false => exact .inl ⟨rfl, by unfold mkSel; rw [h]; rfl⟩
  | true =>
    rcases mkIdx_cases xs id with ⟨h1, _⟩ | ⟨i, s, h1, h2, h3⟩
    · exact .inr (.inl ⟨rfl, h1, by unfold mkSel; rw [if_pos h, h1]⟩)
    · exact .inr (.inr ⟨i, s, rfl, h1, by unfold mkSel; rw [if_pos h, h1], h2, (List.getElem?_eq_some_iff.1 h2).1, h3⟩)
/-- The line of the maker with an Id: the makers, in order. -/
def lineMk (xs : List VMaker) (id : Int) : List VMaker := (lineZ xs (mkSel xs id)).map (mkAt xs)
theorem lineMk_none {xs : List VMaker} {id : Int} (h : mkSel xs id = -1) : lineMk xs id = [] := by unfold lineMk; rw [h]; rfl
theorem lineMk_len (xs : List VMaker) (id : Int) : (lineMk xs id).length ≤ 601 := by unfold lineMk; rw [List.length_map]; exact lineZ_len _ _
theorem lineZ_in {xs : List VMaker} {k : Int} (hk : k < (xs.length : Int)) : ∀ j ∈ lineZ xs k, j < xs.length := by
  intro j hj
  unfold lineZ at hj
  by_cases h : k < 0
  · rw [if_pos h] at hj; cases hj
  · rw [if_neg h] at hj; exact lineI_in (by omega) j hj
theorem mkSel_bd (xs : List VMaker) (id : Int) : -1 ≤ mkSel xs id ∧ mkSel xs id < (xs.length : Int) := by
  unfold mkSel
  split
  · exact mkIdx_bd _ _
  · omega
theorem lineMk_in {xs : List VMaker} {id : Int} : ∀ m ∈ lineMk xs id, m ∈ xs := by
  intro m hm
  obtain ⟨j, hj, rfl⟩ := List.mem_map.1 hm
  have hl := lineZ_in (mkSel_bd xs id).2 j hj
  rw [mkAt_some (List.getElem?_eq_getElem hl)]
  exact List.getElem_mem hl
theorem lineMk_pos (xs : List VMaker) (id : Int) : decide (0 < (lineMk xs id).length) = decide (0 ≤ mkSel xs id) := by
  rw [decide_eq_decide]
  unfold lineMk
  rw [List.length_map]
  rcases mkSel_ways xs id with ⟨_, h⟩ | ⟨_, _, h⟩ | ⟨i, s, ha, _, h, hs, hi, _⟩
  · rw [h]; simp [lineZ]
  · rw [h]; simp [lineZ]
  · rw [h, lineZ_step ha hi]; simp

theorem lineMk_ok (xs : List VMaker) (id : Int) : ∀ m ∈ lineMk xs id, m.ok = true := by
  intro m hm
  rcases mkSel_ways xs id with ⟨_, h⟩ | ⟨_, _, h⟩ | ⟨i, s, ha, _⟩
  · rw [lineMk_none h] at hm; cases hm
  · rw [lineMk_none h] at hm; cases hm
  · exact areMk_ok ha (lineMk_in m hm)

/-! The result functions. -/
def IsMaker_0 (m : VMaker) : Bool := m.ok
def AreMakers_0 (xs : List VMaker) : Bool := areMk xs
def LineOf_0 (xs : List VMaker) (id : Int) : List Int := (lineMk xs id).map VMaker.Id
def LineOf_1 (xs : List VMaker) (id : Int) : Bool := decide (0 ≤ mkSel xs id)
/-- The last one of a list whose From is at most the year: its Id, or 0. -/
def keep (y : Int) (l : List VMaker) : Int := l.foldl (fun b m => if m.From ≤ y then m.Id else b) 0
theorem keep_snoc (y : Int) (l : List VMaker) (m : VMaker) : keep y (l ++ [m]) = if m.From ≤ y then m.Id else keep y l := by simp [keep]
theorem keep_ge {y : Int} {l : List VMaker} (h : ∀ m ∈ l, 1 ≤ m.Id ∧ m.Id ≤ 99) : 0 ≤ keep y l ∧ keep y l ≤ 99 := by
  unfold keep
  suffices H : ∀ (l : List VMaker) b, 0 ≤ b ∧ b ≤ 99 → (∀ m ∈ l, 1 ≤ m.Id ∧ m.Id ≤ 99) → 0 ≤ l.foldl (fun b (m : VMaker) => if m.From ≤ y then m.Id else b) b ∧ l.foldl (fun b (m : VMaker) => if m.From ≤ y then m.Id else b) b ≤ 99 from H l 0 (by omega) h
  intro l
  induction l with
  | nil => intro b hb _; exact hb
  | cons x l ih =>
    intro b hb hl
    rw [List.foldl_cons]
    refine ih _ ?_ (fun m hm => hl m (List.mem_cons_of_mem _ hm))
    have := hl x (by simp)
    split <;> omega
def KeeperIn_0 (xs : List VMaker) (id : Int) (y : Int) : Int := if yearB y = true then keep y (lineMk xs id) else 0
def KeeperIn_1 (xs : List VMaker) (id : Int) (y : Int) : Bool := decide (0 < KeeperIn_0 xs id y)
theorem keeper_one (xs : List VMaker) (id y : Int) : KeeperIn_1 xs id y = !(KeeperIn_0 xs id y == 0) := by
  have h : 0 ≤ KeeperIn_0 xs id y := by
    unfold KeeperIn_0
    split
    · exact (keep_ge fun m hm => (mkOk_iff.1 (lineMk_ok xs id m hm)).1).1
    · omega
  unfold KeeperIn_1
  rw [Bool.eq_iff_iff]; simp; omega
def actB (y : Int) (m : VMaker) : Bool := inB y m.From m.Until
def ActiveIn_0 (xs : List VMaker) (y : Int) : List Int := if (areMk xs && yearB y) = true then (xs.filter (actB y)).map VMaker.Id else []
def ActiveIn_1 (xs : List VMaker) (y : Int) : Bool := areMk xs && yearB y
def founderB (xs : List VMaker) (m : VMaker) : Bool := !(xs.any fun o => o.Heir == m.Id)
def FounderIds_0 (xs : List VMaker) : List Int := if areMk xs = true then (xs.filter (founderB xs)).map VMaker.Id else []
def FounderIds_1 (xs : List VMaker) : Bool := areMk xs
/-- The first one of a line who is in the other, by the Id. -/
def comm (l o : List VMaker) : Option VMaker := l.find? fun m => o.any fun t => t.Id == m.Id
def FirstCommon_0 (xs : List VMaker) (a b : Int) : Int := match comm (lineMk xs a) (lineMk xs b) with | some m => m.Id | none => 0
def FirstCommon_1 (xs : List VMaker) (a b : Int) : Bool := (comm (lineMk xs a) (lineMk xs b)).isSome
def ended (m : VMaker) (y h : Int) : VMaker := ⟨m.Id, m.Name, m.From, y, h⟩
def endMk (xs : List VMaker) (id y h : Int) : List VMaker × Bool :=
  if mkSel xs id < 0 then ([], false) else
  if y ≤ (mkAt xs (mkSel xs id).toNat).Until ∧ areMk (xs.set (mkSel xs id).toNat (ended (mkAt xs (mkSel xs id).toNat) y h)) = true then (xs.set (mkSel xs id).toNat (ended (mkAt xs (mkSel xs id).toNat) y h), true) else ([], false)
def EndMaker_0 (xs : List VMaker) (id y h : Int) : List VMaker := (endMk xs id y h).1
def EndMaker_1 (xs : List VMaker) (id y h : Int) : Bool := (endMk xs id y h).2
/-- The sum of the years between the makers of a list. -/
def gapsTo (l : List VMaker) : Nat → Int
  | 0 => 0
  | n + 1 => gapsTo l n + (match l[n + 1]?, l[n]? with | some b, some a => b.From - a.Until - 1 | _, _ => 0)
def gaps (l : List VMaker) : Int := gapsTo l (l.length - 1)
def GapYears_0 (xs : List VMaker) (id : Int) : Int := gaps (lineMk xs id)
def GapYears_1 (xs : List VMaker) (id : Int) : Bool := decide (0 ≤ mkSel xs id)
theorem gapsTo_succ {l : List VMaker} {n : Nat} {a b : VMaker} (ha : l[n]? = some a) (hb : l[n + 1]? = some b) : gapsTo l (n + 1) = gapsTo l n + (b.From - a.Until - 1) := by
  rw [gapsTo, ha, hb]
theorem gapsTo_bd {l : List VMaker} (h : ∀ m ∈ l, m.ok = true) : ∀ n : Nat, -(n : Int) * 10000 ≤ gapsTo l n ∧ gapsTo l n ≤ (n : Int) * 10000 := by
  intro n
  induction n with
  | zero => simp [gapsTo]
  | succ n ih =>
    rw [gapsTo]
    cases h1 : l[n + 1]? with
    | none => simp; omega
    | some b =>
      cases h2 : l[n]? with
      | none => simp; omega
      | some a =>
        have o1 := mkOk_iff.1 (h a (List.mem_of_getElem? h2))
        have o2 := mkOk_iff.1 (h b (List.mem_of_getElem? h1))
        simp only []
        omega
theorem line_gt (xs : List VMaker) (id : Int) : decide ((0 : Int) < ((lineMk xs id).length : Int)) = decide (0 ≤ mkSel xs id) := by
  rw [← lineMk_pos, decide_eq_decide]; omega
def mkWork (m : VMaker) : Int := m.Until - m.From + 1
/-- The first one who works most. -/
def longestMk (xs : List VMaker) : VMaker := pickB (fun x m => decide (mkWork m < mkWork x)) VMaker.zero xs
def mkSome (xs : List VMaker) : Bool := areMk xs && decide (0 < xs.length)
def LongestMaker_0 (xs : List VMaker) : Int := if mkSome xs = true then (longestMk xs).Id else 0
def LongestMaker_1 (xs : List VMaker) : Int := if mkSome xs = true then mkWork (longestMk xs) else 0
def LongestMaker_2 (xs : List VMaker) : Bool := mkSome xs
theorem longest_in {xs : List VMaker} (h : 0 < xs.length) : longestMk xs ∈ xs := by
  have := pickB_mem (fun x m => decide (mkWork m < mkWork x)) VMaker.zero (ys := xs) xs.length h (Nat.le_refl _)
  rw [List.take_length] at this
  exact this
/-- Where the elements are told apart by a number, the same element is there exactly if one of the same number is. -/
theorem same_any {xs l : List VMaker} (h : areMk xs = true) (hl : ∀ t ∈ l, t ∈ xs) {m : VMaker} (hm : m ∈ xs) (eqv : VMaker → VMaker → Bool) (he : ∀ s t, eqv s t = true ↔ s = t) : l.any (eqv m) = l.any fun t => t.Id == m.Id := by
  rw [Bool.eq_iff_iff, List.any_eq_true, List.any_eq_true]
  constructor
  · rintro ⟨t, ht, e⟩
    have := (he m t).1 e
    subst this
    exact ⟨m, ht, by simp⟩
  · rintro ⟨t, ht, e⟩
    have h1 : t = m := upB_same (areMk_up h) (hl t ht) hm (by simpa using e)
    subst h1
    exact ⟨t, ht, (he t t).2 rfl⟩
theorem comm_none {l o : List VMaker} (h : ∀ (j : Nat) t, j < l.length → l[j]? = some t → (o.any fun u => u.Id == t.Id) = false) : comm l o = none := by
  unfold comm
  rw [List.find?_eq_none]
  intro m hm
  obtain ⟨j, hj⟩ := List.getElem?_of_mem hm
  rw [h j m (List.getElem?_eq_some_iff.1 hj).1 hj]; simp
theorem comm_some {l o : List VMaker} {k : Nat} {s : VMaker} (hs : l[k]? = some s) (hy : (o.any fun u => u.Id == s.Id) = true) (h : ∀ (j : Nat) t, j < k → l[j]? = some t → (o.any fun u => u.Id == t.Id) = false) : comm l o = some s := by
  unfold comm
  rw [List.find?_eq_some_iff_getElem]
  obtain ⟨hl, he⟩ := List.getElem?_eq_some_iff.1 hs
  refine ⟨hy, k, hl, he, fun j hj => ?_⟩
  rw [h j _ hj (List.getElem?_eq_getElem _)]; rfl
theorem endMk_no {xs : List VMaker} {id y h : Int} (hn : mkSel xs id = -1) : endMk xs id y h = ([], false) := by unfold endMk; rw [hn]; rfl
theorem endMk_at {xs : List VMaker} {id y h : Int} {i : Nat} {s : VMaker} (hn : mkSel xs id = (i : Int)) (hs : xs[i]? = some s) : endMk xs id y h = if y ≤ s.Until ∧ areMk (xs.set i (ended s y h)) = true then (xs.set i (ended s y h), true) else ([], false) := by
  unfold endMk; rw [hn, if_neg (by omega)]; simp only [Int.toNat_natCast]; rw [mkAt_some hs]
theorem LineOf_0_len (xs : List VMaker) (id : Int) (_ : xs.length ≤ 1048576) (_ : ∀ s ∈ xs, s.sized) : (LineOf_0 xs id).length ≤ 1000000 := by
  unfold LineOf_0; rw [List.length_map]; have := lineMk_len xs id; omega
theorem filter_le {xs : List VMaker} (h : areMk xs = true) (f : VMaker → Bool) : (xs.filter f).length ≤ 10 := Nat.le_trans (List.length_filter_le _ _) (areMk_len h)
theorem ActiveIn_0_len (xs : List VMaker) (y : Int) (_ : xs.length ≤ 1048576) (_ : ∀ s ∈ xs, s.sized) : (ActiveIn_0 xs y).length ≤ 1000000 := by
  unfold ActiveIn_0
  split
  · rename_i h
    rw [Bool.and_eq_true] at h
    rw [List.length_map]; have := filter_le h.1 (actB y); omega
  · simp
theorem FounderIds_0_len (xs : List VMaker) (_ : xs.length ≤ 1048576) (_ : ∀ s ∈ xs, s.sized) : (FounderIds_0 xs).length ≤ 1000000 := by
  unfold FounderIds_0
  split
  · rename_i h
    rw [List.length_map]; have := filter_le h (founderB xs); omega
  · simp
theorem EndMaker_0_len (xs : List VMaker) (id y h : Int) (_ : xs.length ≤ 1048576) (_ : ∀ s ∈ xs, s.sized) : (EndMaker_0 xs id y h).length ≤ 1000000 := by
  unfold EndMaker_0 endMk
  split
  · simp
  · split
    · rename_i hh
      have := areMk_len hh.2
      simp only []; omega
    · simp
theorem mkAt_in {xs : List VMaker} {k : Nat} (hk : k < xs.length) : mkAt xs k ∈ xs := by rw [mkAt_some (List.getElem?_eq_getElem hk)]; exact List.getElem_mem hk
theorem EndMaker_0_small (xs : List VMaker) (id y h : Int) (_ : xs.length ≤ 1048576) (hz : ∀ s ∈ xs, s.sized) : ∀ s ∈ EndMaker_0 xs id y h, s.sized := by
  unfold EndMaker_0 endMk
  split
  · intro s hs; cases hs
  · split
    · rename_i h0 _
      intro s hs
      have hb := (mkSel_bd xs id).2
      rcases List.mem_or_eq_of_mem_set hs with h1 | h1
      · exact hz s h1
      · subst h1
        have := hz _ (mkAt_in (xs := xs) (k := (mkSel xs id).toNat) (by omega))
        unfold VMaker.sized at this ⊢
        exact this
    · intro s hs; cases hs
end Go.Proofs.Ytpcibejmahhjiaa
