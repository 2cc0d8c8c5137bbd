/- Texts in one: Reg, Up, Ints, Own, Sw, IntA2T, IntA2O, Open3. -/
import Derived.Test.YtpnaciamnigbnaaM1
import Derived.Lib.QuietBelow
import Derived.Laws.OwnMore
import Derived.Deep.RegionWith
import Derived.Handy
import Derived.Laws.IdiomRangeMap
namespace Go.Proofs.Ytpnaciamnigbnaa
open Go.RowKit

/-- A callee's contract, in every world of a drawn region's class. -/
theorem below_at {P : Program} {f : FuncId} {args : Array Value} {v : Value} {W : World} (h : ∀ W', Below W.heap.size W W' → Calls P f args W' fun e w' => e = .returned v ∧ Below W'.heap.size W' w') :
    ∀ d os, Calls P f args (Sort.grow (redrawn W d) os) fun e w'' => e = .returned v ∧ ∃ p : Regrown, w'' = Sort.grow (redrawn W p.d) p.os := fun d os => Calls.regrown_of (h _ (below_regrown W d os))
theorem below_of_re {W W' : World} (h : ∃ p : Regrown, W' = Sort.grow (redrawn W p.d) p.os) : Below W.heap.size W W' := by
  obtain ⟨p, rfl⟩ := h
  exact below_regrown _ _ _
theorem same_below {P : Program} {f : FuncId} {args : Array Value} {v : Value} {W : World} (h : Calls P f args W fun e w' => e = .returned v ∧ W = w') : Calls P f args W fun e w' => e = .returned v ∧ Below W.heap.size W w' :=
  h.mono fun _ _ ⟨he, hw⟩ => ⟨he, hw ▸ Below.refl _ _⟩
theorem World.lt_of_cell {w : World} {b o : Nat} {v : Value} (h : w.cell? ⟨b, o, none⟩ = some v) : b < w.heap.size := block_lt_of_cell h
theorem wp_world {P : Program} {c : Code} {Q : Exit → Act → World → Prop} {a : Act} {w0 : World} (F : World → Prop) (h0 : F w0) (h : ∀ W, F W → Code.wp P c Q a W) : Code.wp P c Q a w0 := h w0 h0
end Go.Proofs.Ytpnaciamnigbnaa
namespace Go.Proofs.Ytpnaciamnigbnaa
section
variable {α : Type}

/-- The index of the first element that fits, or -1. -/
def firstOf (f : α → Bool) : List α → Int
  | [] => -1
  | s :: l => if f s = true then 0 else if firstOf f l < 0 then -1 else firstOf f l + 1
theorem firstOf_cases (f : α → Bool) (xs : List α) : (firstOf f xs = -1 ∧ ∀ s ∈ xs, f s = false) ∨ ∃ (i : Nat) (s : α), firstOf f xs = (i : Int) ∧ xs[i]? = some s ∧ f s = true ∧ ∀ (j : Nat) t, j < i → xs[j]? = some t → f t = false := by
  induction xs with
  | nil => exact .inl ⟨rfl, by simp⟩
  | cons x l ih =>
    by_cases h : f x = true
    · exact .inr ⟨0, x, by simp [firstOf, h], rfl, h, by omega⟩
    · have h' : f x = false := by simpa using h
      rcases ih with ⟨h1, h2⟩ | ⟨i, s, h1, h2, h3, h4⟩
      · exact .inl ⟨by simp [firstOf, h', h1], by simpa [h'] using h2⟩
      · refine .inr ⟨i + 1, s, by simp [firstOf, h', h1]; omega, h2, h3, fun j t hj ht => ?_⟩
        match j, ht with
        | 0, ht => simp at ht; rw [← ht]; exact h'
        | j + 1, ht => exact h4 j t (by omega) ht
theorem firstOf_at {f : α → Bool} {xs : List α} {i : Nat} {s : α} (hs : xs[i]? = some s) (hf : f s = true) (hb : ∀ (j : Nat) t, j < i → xs[j]? = some t → f t = false) : firstOf f xs = (i : Int) := by
  rcases firstOf_cases f xs with ⟨_, h2⟩ | ⟨i', s', h1, h2, h3, h4⟩
  · rw [h2 s (List.mem_of_getElem? hs)] at hf; cases hf
  · rw [h1]
    have : i' = i := by
      rcases Nat.lt_trichotomy i i' with h | h | h
      · rw [h4 i s h hs] at hf; cases hf
      · exact h.symm
      · rw [hb i' s' h h2] at h3; cases h3
    rw [this]
theorem firstOf_none {f : α → Bool} {xs : List α} (h : ∀ s ∈ xs, f s = false) : firstOf f xs = -1 := by
  rcases firstOf_cases f xs with ⟨h1, _⟩ | ⟨i, s, _, h2, h3, _⟩
  · exact h1
  · rw [h s (List.mem_of_getElem? h2)] at h3; cases h3
theorem firstOf_no {f : α → Bool} {xs : List α} (h : ∀ (j : Nat) t, j < xs.length → xs[j]? = some t → f t = false) : firstOf f xs = -1 :=
  firstOf_none fun s hs => by
    obtain ⟨j, hj⟩ := List.getElem?_of_mem hs
    exact h j s (List.getElem?_eq_some_iff.1 hj).1 hj
theorem firstOf_bd (f : α → Bool) (xs : List α) : -1 ≤ firstOf f xs ∧ firstOf f xs < (xs.length : Int) := by
  rcases firstOf_cases f xs with ⟨h1, _⟩ | ⟨i, s, h1, h2, _⟩
  · omega
  · have := (List.getElem?_eq_some_iff.1 h2).1; omega

/-- Is the element i right: valid, and its number greater than that of the one before? -/
def upStep (ok : α → Bool) (id : α → Int) (xs : List α) (i : Nat) : Bool :=
  match xs[i]? with
  | none => true
  | some s => ok s && (i == 0 || (match xs[i - 1]? with | some p => decide (id p < id s) | none => true))
def upB (ok : α → Bool) (id : α → Int) (xs : List α) : Bool := (List.range xs.length).all (upStep ok id xs)
variable {ok : α → Bool} {id : α → Int} {xs : List α}
theorem upB_iff : upB ok id xs = true ↔ ∀ i, i < xs.length → upStep ok id xs i = true := by simp [upB]
theorem upB_bad {i : Nat} (h : upStep ok id xs i = false) (hi : i < xs.length) : upB ok id xs = false := by
  by_cases h2 : upB ok id xs = true
  · rw [upB_iff.1 h2 i hi] at h; cases h
  · simpa using h2
theorem upStep_zero {s : α} (hs : xs[0]? = some s) : upStep ok id xs 0 = ok s := by unfold upStep; rw [hs]; simp
theorem upStep_succ {i : Nat} {p s : α} (hp : xs[i]? = some p) (hs : xs[i + 1]? = some s) : upStep ok id xs (i + 1) = (ok s && decide (id p < id s)) := by
  unfold upStep; rw [hs]; simp [hp]
theorem upStep_at {i : Nat} {p s : α} (h : 0 < i) (hp : xs[i - 1]? = some p) (hs : xs[i]? = some s) : upStep ok id xs i = (ok s && decide (id p < id s)) := by
  obtain ⟨j, rfl⟩ : ∃ j, i = j + 1 := ⟨i - 1, by omega⟩
  exact upStep_succ hp hs
theorem upB_ok (h : upB ok id xs = true) {s : α} (hs : s ∈ xs) : ok s = true := by
  obtain ⟨i, hi⟩ := List.getElem?_of_mem hs
  have h1 := upB_iff.1 h i (List.getElem?_eq_some_iff.1 hi).1
  unfold upStep at h1
  rw [hi] at h1
  simp at h1
  exact h1.1
theorem upB_lt (h : upB ok id xs = true) : ∀ (j i : Nat) (s t : α), i < j → xs[i]? = some s → xs[j]? = some t → id s < id t := by
  intro j
  induction j with
  | zero => intro i s t hi; omega
  | succ j ih =>
    intro i s t hij hs ht
    have hl := (List.getElem?_eq_some_iff.1 ht).1
    obtain ⟨p, hp⟩ : ∃ p, xs[j]? = some p := ⟨xs[j]'(by omega), List.getElem?_eq_getElem _⟩
    have hpt : id p < id t := by
      have h1 := upB_iff.1 h (j + 1) hl
      rw [upStep_succ hp ht] at h1
      simp at h1
      exact h1.2
    by_cases e : i = j
    · subst e; rw [hs] at hp; cases hp; exact hpt
    · exact Int.lt_trans (ih i s p (by omega) hs hp) hpt
theorem upB_same (h : upB ok id xs = true) {s t : α} (hs : s ∈ xs) (ht : t ∈ xs) (e : id s = id t) : s = t := by
  obtain ⟨i, hi⟩ := List.getElem?_of_mem hs
  obtain ⟨j, hj⟩ := List.getElem?_of_mem ht
  rcases Nat.lt_trichotomy i j with h1 | h1 | h1
  · have := upB_lt h j i s t h1 hi hj; omega
  · subst h1; rw [hi] at hj; exact Option.some.inj hj
  · have := upB_lt h i j t s h1 hj hi; omega
/-- Where the element with a number stands. -/
theorem upB_first (h : upB ok id xs = true) {i : Nat} {s : α} (hs : xs[i]? = some s) : firstOf (fun t => id t == id s) xs = (i : Int) :=
  firstOf_at hs (by simp) fun j t hj ht => by
    have := upB_lt h i j t s hj ht hs
    simp; omega
theorem filter_snoc' {k : Nat} {s : α} (f : α → Bool) (hs : xs[k]? = some s) : (xs.take (k + 1)).filter f = (xs.take k).filter f ++ (if f s = true then [s] else []) := by
  rw [List.take_add_one, hs, List.filter_append]
  cases h : f s <;> simp [h]
theorem filter_len' (f : α → Bool) (xs : List α) (k : Nat) : ((xs.take k).filter f).length ≤ k := Nat.le_trans (List.length_filter_le _ _) (by rw [List.length_take]; omega)
end
end Go.Proofs.Ytpnaciamnigbnaa
namespace Go.Proofs.Ytpnaciamnigbnaa
open Go.RowKit

/-- The slice 'a len cap' holds the integers xs. -/
def IsInts (w : World) (a : Option Addr) (len cap : Nat) (xs : List Int) : Prop :=
  len = xs.length ∧ len ≤ cap ∧ cap ≤ maxLen ∧ (len = 0 ∨ ∃ b o, a = some ⟨b, o, none⟩ ∧ b < w.heap.size ∧ ∀ (k : Nat) z, xs[k]? = some z → w.cell? ⟨b, o + k, none⟩ = some (.int .i64 z))
theorem IsInts.below {w w' : World} {a : Option Addr} {len cap : Nat} {xs : List Int} (h : IsInts w a len cap xs) (hb : Below w.heap.size w w') : IsInts w' a len cap xs := by
  refine ⟨h.1, h.2.1, h.2.2.1, ?_⟩
  rcases h.2.2.2 with h0 | ⟨b, o, rfl, h1, h2⟩
  · exact .inl h0
  · exact .inr ⟨b, o, rfl, Nat.lt_of_lt_of_le h1 hb.size, fun k z hz => (hb.cell (p := ⟨b, o + k, none⟩) h1).trans (h2 k z hz)⟩
theorem IsInts.grown {w w' : World} {a : Option Addr} {len cap : Nat} {xs : List Int} {row : Option Nat} (h : IsInts w a len cap xs) (hg : w.grownBy w' row) (hne : ∀ b o, a = some ⟨b, o, none⟩ → some b ≠ row) : IsInts w' a len cap xs := by
  refine ⟨h.1, h.2.1, h.2.2.1, ?_⟩
  rcases h.2.2.2 with h0 | ⟨b, o, rfl, h1, h2⟩
  · exact .inl h0
  · exact .inr ⟨b, o, rfl, Nat.lt_of_lt_of_le h1 hg.size, fun k z hz => (World.cell?_of_block (w := w) (a := ⟨b, o + k, none⟩) (hg.block b h1 (hne b o rfl))).trans (h2 k z hz)⟩
theorem IsInts.at {w : World} {a : Option Addr} {len cap : Nat} {xs : List Int} (h : IsInts w a len cap xs) (hpos : 0 < len) : ∃ b o, a = some ⟨b, o, none⟩ ∧ b < w.heap.size ∧ ∀ (k : Nat) z, xs[k]? = some z → w.cell? ⟨b, o + k, none⟩ = some (.int .i64 z) := by
  rcases h.2.2.2 with h0 | h1
  · omega
  · exact h1
theorem int_at {xs : List Int} {len k : Nat} (hl : Hid (len = xs.length)) (hk : k < len) : ∃ s, xs[k]? = some s := ⟨xs[k]'(by have := hl.out; omega), List.getElem?_eq_getElem _⟩
def intCells (xs : List Int) : List Value := xs.map (Value.int .i64)
theorem intCells_len (xs : List Int) : (intCells xs).length = xs.length := by simp [intCells]
theorem intCells_snoc (xs : List Int) (z : Int) : intCells (xs ++ [z]) = intCells xs ++ [.int .i64 z] := by simp [intCells]
theorem isInts_own {w : World} {base : Nat} {v : Value} {xs : List Int} (h : w.ownsRow base 3 1 v xs.length (intCells xs)) :
    ∃ a cap, v = .slice a xs.length cap ∧ IsInts w a xs.length cap xs ∧ ∀ b o, a = some ⟨b, o, none⟩ → v.ownBlock = some b := by
  have hlt := h.lt
  rcases h.2 with ⟨rfl, h0⟩ | ⟨g, cap, cur, rfl, hg, hh, hn, hcap, hsz, htake⟩
  · exact ⟨none, 0, by rw [h0], ⟨rfl, by omega, by simp [maxLen], .inl h0⟩, fun _ _ h => by cases h⟩
  · refine ⟨some ⟨g, 0, none⟩, cap, rfl, ⟨rfl, hn, hcap, ?_⟩, fun b o h => by cases h; rfl⟩
    by_cases hz : xs.length = 0
    · exact .inl hz
    · refine .inr ⟨g, 0, rfl, (hlt g rfl).2, fun k z hz => ?_⟩
      have hc := h.cells (g := g) rfl k (.int .i64 z) (by simp [intCells, hz])
      rw [add_plain] at hc; exact hc
theorem ownsRow_grown' {w w' : World} {base : Nat} {e : TypeId} {size n : Nat} {v : Value} {xs : List Value} {row : Option Nat} (h : w.ownsRow base e size v n xs) (hg : w.grownBy w' row) (hne : ∀ k, row = some k → k < base) : w'.ownsRow base e size v n xs := by
  refine ⟨h.1, ?_⟩
  rcases h.2 with h0 | ⟨g, cap, cur, rfl, hb, hh, r⟩
  · exact .inl h0
  · exact .inr ⟨g, cap, cur, rfl, hb, (hg.block g (Array.getElem?_eq_some_iff.1 hh).1 (fun e => by have := hne g e.symm; omega)).trans hh, r⟩
theorem infoInt : (Try.prog.info? 3).map (fun i => (i.zero, i.size, i.bytes)) = some (some (.int .i64 0), 1, 8) := by kernel_rfl
/-- A row of integers of the call's own and whether it stands, and the world below as it was. -/
def IntsOk (xs : List Int) (ok : Bool) (w : World) (e : Ending) (w' : World) : Prop := ∃ v, e = .returned (.tuple #[v, .bool ok]) ∧ w'.ownsRow w.heap.size 3 1 v xs.length (intCells xs) ∧ Below w.heap.size w w'


/-- The marks k, k + 1, .. k + n - 1. -/
def marksI (k n : Nat) : List Int := (List.range n).map fun i => ((k + i : Nat) : Int)
theorem marksI_len (k n : Nat) : (marksI k n).length = n := by simp [marksI]
theorem marksI_succ (k n : Nat) : marksI k (n + 1) = marksI k n ++ [((k + n : Nat) : Int)] := by simp [marksI, List.range_succ]
theorem marksI_at (k n i : Nat) (h : i < n) : (marksI k n)[i]? = some ((k + i : Nat) : Int) := by simp [marksI, h]
theorem set_markI {k j : Nat} {L : List Value} (h : j < L.length) : (intCells (marksI k j) ++ L.drop j).set j (.int .i64 ((k + j : Nat) : Int)) = intCells (marksI k (j + 1)) ++ L.drop (j + 1) := by
  have hl : (intCells (marksI k j)).length = j := by rw [intCells_len, marksI_len]
  rw [List.set_append_right _ _ (by omega), hl, Nat.sub_self, List.drop_eq_getElem_cons h, List.set_cons_zero, marksI_succ, intCells_snoc]
  simp
/-- The row v of n values bears the marks from k on; nothing else that was there has turned. -/
def MarkI (base k n : Nat) (v : Value) (w : World) (e : Ending) (w' : World) : Prop := e = .returned (.int .i64 ((k + n : Nat) : Int)) ∧ w'.ownsRow base 3 1 v n (intCells (marksI k n)) ∧ w.grownBy w' v.ownBlock

end Go.Proofs.Ytpnaciamnigbnaa
namespace Go.Proofs.Ytpnaciamnigbnaa
open Go.RowKit

/-- From w to w' no block outside lo .. hi has turned. -/
structure Turned (lo hi : Nat) (w w' : World) : Prop where
  os : w'.os = w.os
  tape : w'.tape = w.tape
  output : w'.output = w.output
  size : w.heap.size ≤ w'.heap.size
  block : ∀ k, k < w.heap.size → (k < lo ∨ hi ≤ k) → w'.heap[k]? = w.heap[k]?
theorem Turned.refl (lo hi : Nat) (w : World) : Turned lo hi w w := ⟨rfl, rfl, rfl, Nat.le_refl _, fun _ _ _ => rfl⟩
theorem Turned.trans {lo hi : Nat} {a b c : World} (h : Turned lo hi a b) (k : Turned lo hi b c) : Turned lo hi a c :=
  ⟨k.os.trans h.os, k.tape.trans h.tape, k.output.trans h.output, Nat.le_trans h.size k.size, fun j hj ho => (k.block j (Nat.lt_of_lt_of_le hj h.size) ho).trans (h.block j hj ho)⟩
theorem Turned.of_below {lo hi : Nat} {w w' : World} (h : Below w.heap.size w w') : Turned lo hi w w' := ⟨h.os, h.tape, h.output, h.size, fun k hk _ => h.block k hk⟩
theorem Turned.of_grown {lo hi : Nat} {w w' : World} {row : Option Nat} (h : w.grownBy w' row) (hr : ∀ k, row = some k → lo ≤ k ∧ k < hi) : Turned lo hi w w' :=
  ⟨h.os, h.tape, h.output, h.size, fun k hk ho => h.block k hk (fun e => by have := hr k e.symm; omega)⟩
theorem Turned.below {lo hi B : Nat} {w0 w w' : World} (b : Below B w0 w) (h : Turned lo hi w w') (hB : B ≤ lo) (hw : B ≤ w.heap.size) : Below B w0 w' :=
  b.trans ⟨h.os, h.tape, h.output, h.size, fun k hk => h.block k (by omega) (.inl (by omega))⟩
theorem Turned.mono {lo hi lo' hi' : Nat} {w w' : World} (h : Turned lo hi w w') (h1 : lo' ≤ lo) (h2 : hi ≤ hi') : Turned lo' hi' w w' := ⟨h.os, h.tape, h.output, h.size, fun k hk ho => h.block k hk (by omega)⟩
theorem Turned.setCell {lo hi : Nat} {a w : World} (h : Turned lo hi a w) {p : Addr} (h1 : lo ≤ p.block) (h2 : p.block < hi) (u : Value) : Turned lo hi a (w.setCell p u) :=
  h.trans ⟨rfl, rfl, rfl, by simp [World.setCell], fun k _ ho => Below.heap_setCell _ _ _ _ (by omega)⟩
theorem Turned.alloc {lo hi : Nat} {a w : World} (h : Turned lo hi a w) (o : Obj) : Turned lo hi a (w.alloc o) := h.trans (Turned.of_below (bel_al1 w o))

/-- A row of the call's own that lies in lo .. hi. -/
def OwnIn (lo hi : Nat) (w : World) (e : TypeId) (size : Nat) (v : Value) (n : Nat) (L : List Value) : Prop := w.ownsRow lo e size v n L ∧ ∀ b, v.ownBlock = some b → b < hi
section
variable {lo hi : Nat} {w w' : World} {e : TypeId} {size n : Nat} {v : Value} {L : List Value}
theorem OwnIn.row (h : OwnIn lo hi w e size v n L) : w.ownsRow lo e size v n L := h.1
theorem OwnIn.lt (h : OwnIn lo hi w e size v n L) {b : Nat} (hb : v.ownBlock = some b) : lo ≤ b ∧ b < hi ∧ b < w.heap.size := ⟨(h.1.lt b hb).1, h.2 b hb, (h.1.lt b hb).2⟩
theorem OwnIn.keep (h : OwnIn lo hi w e size v n L) (hk : ∀ b, v.ownBlock = some b → w'.heap[b]? = w.heap[b]?) : OwnIn lo hi w' e size v n L := by
  refine ⟨⟨h.1.1, ?_⟩, h.2⟩
  rcases h.1.2 with h0 | ⟨g, cap, cur, rfl, hg, hh, r⟩
  · exact .inl h0
  · exact .inr ⟨g, cap, cur, rfl, hg, (hk g rfl).trans hh, r⟩
theorem OwnIn.turned (h : OwnIn lo hi w e size v n L) {lo' hi' : Nat} (t : Turned lo' hi' w w') (hd : hi ≤ lo' ∨ hi' ≤ lo) : OwnIn lo hi w' e size v n L :=
  h.keep fun b hb => t.block b (h.lt hb).2.2 (by have := h.lt hb; omega)
theorem OwnIn.below (h : OwnIn lo hi w e size v n L) (hb : Below w.heap.size w w') : OwnIn lo hi w' e size v n L := h.keep fun b hv => hb.block b (h.lt hv).2.2
theorem OwnIn.mono (h : OwnIn lo hi w e size v n L) {lo' hi' : Nat} (h1 : lo' ≤ lo) (h2 : hi ≤ hi') : OwnIn lo' hi' w e size v n L :=
  ⟨ownsRow_base h.1 h1, fun b hb => Nat.lt_of_lt_of_le (h.2 b hb) h2⟩
theorem OwnIn.of_row {base : Nat} (h : w.ownsRow base e size v n L) (hl : lo ≤ base) (hh : w.heap.size ≤ hi) : OwnIn lo hi w e size v n L :=
  ⟨ownsRow_base h hl, fun b hb => Nat.lt_of_lt_of_le (h.lt b hb).2 hh⟩
end
theorem isInts_ownIn {lo hi : Nat} {w : World} {v : Value} {xs : List Int} (h : OwnIn lo hi w 3 1 v xs.length (intCells xs)) : ∃ a cap, v = .slice a xs.length cap ∧ IsInts w a xs.length cap xs := by
  obtain ⟨a, c, e, hi, _⟩ := isInts_own h.1
  exact ⟨a, c, e, hi⟩

/-- A slice's three parts. -/
structure Hd where
  a : Option Addr
  n : Nat
  c : Nat
def Hd.v (h : Hd) : Value := .slice h.a h.n h.c
def Hd.blk (h : Hd) : Option Nat := h.v.ownBlock
/-- A row of integers of the call's own, by its parts. -/
def HInts (lo hi : Nat) (w : World) (h : Hd) (zs : List Int) : Prop := OwnIn lo hi w 3 1 (.slice h.a h.n h.c) zs.length (intCells zs)
theorem HInts.is {lo hi : Nat} {w : World} {h : Hd} {zs : List Int} (H : HInts lo hi w h zs) : IsInts w h.a h.n h.c zs ∧ h.n = zs.length := by
  obtain ⟨a, c, e, hi⟩ := isInts_ownIn H
  simp only [Value.slice.injEq] at e
  obtain ⟨rfl, e2, rfl⟩ := e
  rw [e2]; exact ⟨hi, rfl⟩
end Go.Proofs.Ytpnaciamnigbnaa
namespace Go.Proofs.Ytpnaciamnigbnaa
open Go.RowKit
theorem el_at {α : Type} {xs : List α} {len k : Nat} (hl : Hid (len = xs.length)) (hk : k < len) : ∃ s, xs[k]? = some s := ⟨xs[k]'(by have := hl.out; omega), List.getElem?_eq_getElem _⟩
theorem all_more {P : Nat → Prop} {k : Nat} (h : ∀ j, j < k → P j) (h1 : P k) : ∀ j, j < k + 1 → P j := by
  intro j hj
  by_cases e : j = k
  · subst e; exact h1
  · exact h j (by omega)
theorem up_ways {α : Type} {ok : α → Bool} {id : α → Int} {xs : List α} {k : Nat} {s : α} (hs : xs[k]? = some s) :
    (ok s = false ∧ upStep ok id xs k = false) ∨ (ok s = true ∧ k = 0 ∧ upStep ok id xs k = true) ∨ (ok s = true ∧ ∃ j p, k = j + 1 ∧ xs[j]? = some p ∧ ((¬ id s ≤ id p ∧ upStep ok id xs k = true) ∨ (id s ≤ id p ∧ upStep ok id xs k = false))) := by
  match k, hs with
  | 0, hs =>
    rw [upStep_zero hs]
    cases h : ok s
    · exact .inl ⟨rfl, rfl⟩
    · exact .inr (.inl ⟨rfl, rfl, rfl⟩)
  | j + 1, hs =>
    have hl := (List.getElem?_eq_some_iff.1 hs).1
    have hp : xs[j]? = some xs[j] := List.getElem?_eq_getElem (by omega)
    rw [upStep_succ hp hs]
    cases h : ok s
    · exact .inl ⟨rfl, rfl⟩
    · refine .inr (.inr ⟨rfl, j, xs[j], rfl, hp, ?_⟩)
      by_cases h2 : id s ≤ id xs[j]
      · exact .inr ⟨h2, by simp; omega⟩
      · exact .inl ⟨h2, by simp; omega⟩
/-- A call of a function value enters the function. -/
theorem enters_fn {P : Program} {K : FuncId} {fn : Func} (hf : P.funcs[K]? = some fn) (h1 : (fn.name == "runtime.NumGoroutine") = false) (h2 : fn.body.isNone = false) : ∀ args W, (callFunc K args).run P W = .ok (.enter K args) W := by
  intro args W
  have h1' : ¬ fn.name = "runtime.NumGoroutine" := by simpa using h1
  have h2' : ¬ fn.body = none := by intro h; rw [h] at h2; cases h2
  simp [callFunc, go_sem, hf, h1', h2']
theorem cell_box (w : World) (v : Value) (t : TypeId) (B : Nat) (hB : w.heap.size = B) : (w.alloc (.cells #[v] t)).cell? ⟨B, 0, none⟩ = some v := by
  subst hB
  simp [World.cell?_alloc_new]
theorem cell_stay {w w' : World} {b o : Nat} {v : Value} (h : w.cell? ⟨b, o, none⟩ = some v) (hb : Below w.heap.size w w') : w'.cell? ⟨b, o, none⟩ = some v := (hb.cell (p := ⟨b, o, none⟩) (World.lt_of_cell h)).trans h
end Go.Proofs.Ytpnaciamnigbnaa
namespace Go.Proofs.Ytpnaciamnigbnaa
open Go.RowKit Go.ChangeShapes Go.WideShapes Go.Deep

structure VIntA2 where
  E0 : Int
  E1 : Int
def VIntA2.vals (s : VIntA2) : List Value := [.int .i64 s.E0, .int .i64 s.E1]
theorem VIntA2.vals_len (s : VIntA2) : s.vals.length = 2 := rfl
theorem VIntA2.vals_one (s : VIntA2) : ∀ u ∈ s.vals, u.oneCell' = true := by
  intro u hu
  simp [VIntA2.vals] at hu
  rcases hu with rfl | rfl <;> rfl
/-- It lies at block b from offset o on. -/
def IntA2At (w : World) (b o : Nat) (s : VIntA2) : Prop :=
  w.cell? ⟨b, o, none⟩ = some (.int .i64 s.E0) ∧ w.cell? ⟨b, o + 1, none⟩ = some (.int .i64 s.E1)
def IsIntA2S (w : World) (a : Option Addr) (len cap : Nat) (xs : List VIntA2) : Prop :=
  len = xs.length ∧ len ≤ cap ∧ cap ≤ maxLen ∧ (len = 0 ∨ ∃ b o, a = some ⟨b, o, none⟩ ∧ b < w.heap.size ∧ ∀ (k : Nat) s, xs[k]? = some s → IntA2At w b (o + k * 2) s)
theorem IntA2At.below {w w' : World} {b o : Nat} {s : VIntA2} (h : IntA2At w b o s) (hb : Below w.heap.size w w') (hlt : b < w.heap.size) : IntA2At w' b o s :=
  ⟨(hb.cell (p := ⟨b, o, none⟩) hlt).trans h.1, (hb.cell (p := ⟨b, o + 1, none⟩) hlt).trans h.2⟩
theorem IntA2At.block {w w' : World} {b o : Nat} {s : VIntA2} (h : IntA2At w b o s) (hb : w'.heap[b]? = w.heap[b]?) : IntA2At w' b o s :=
  ⟨(World.cell?_of_block (w := w) (a := ⟨b, o, none⟩) hb).trans h.1, (World.cell?_of_block (w := w) (a := ⟨b, o + 1, none⟩) hb).trans h.2⟩
theorem IsIntA2S.below {w w' : World} {a : Option Addr} {len cap : Nat} {xs : List VIntA2} (h : IsIntA2S w a len cap xs) (hb : Below w.heap.size w w') : IsIntA2S w' a len cap xs := by
  refine ⟨h.1, h.2.1, h.2.2.1, ?_⟩
  rcases h.2.2.2 with h0 | ⟨b, o, rfl, h1, h2⟩
  · exact .inl h0
  · exact .inr ⟨b, o, rfl, Nat.lt_of_lt_of_le h1 hb.size, fun k s hs => (h2 k s hs).below hb h1⟩
theorem IsIntA2S.grown {w w' : World} {a : Option Addr} {len cap : Nat} {xs : List VIntA2} {row : Option Nat} (h : IsIntA2S w a len cap xs) (hg : w.grownBy w' row) (hne : ∀ b o, a = some ⟨b, o, none⟩ → some b ≠ row) : IsIntA2S w' a len cap xs := by
  refine ⟨h.1, h.2.1, h.2.2.1, ?_⟩
  rcases h.2.2.2 with h0 | ⟨b, o, rfl, h1, h2⟩
  · exact .inl h0
  · exact .inr ⟨b, o, rfl, Nat.lt_of_lt_of_le h1 hg.size, fun k s hs => (h2 k s hs).block (hg.block b h1 (hne b o rfl))⟩
theorem IsIntA2S.at {w : World} {a : Option Addr} {len cap : Nat} {xs : List VIntA2} (h : IsIntA2S w a len cap xs) (hpos : 0 < len) : ∃ b o, a = some ⟨b, o, none⟩ ∧ b < w.heap.size ∧ ∀ (k : Nat) s, xs[k]? = some s → IntA2At w b (o + k * 2) s := by
  rcases h.2.2.2 with h0 | h1
  · omega
  · exact h1
theorem nil_IsIntA2S (w : World) : IsIntA2S w none 0 0 [] := ⟨rfl, Nat.le_refl _, by simp [maxLen], .inl rfl⟩
theorem infoIntA2 : (Try.prog.info? 34).map (fun i => (i.zero, i.size, i.bytes)) = some (some (.agg #[.int .i64 0, .int .i64 0]), 2, 16) := by kernel_rfl
def cellsIntA2 (xs : List VIntA2) : List Value := xs.flatMap VIntA2.vals
theorem cellsIntA2_len (xs : List VIntA2) : (cellsIntA2 xs).length = xs.length * 2 := by
  induction xs with
  | nil => rfl
  | cons x xs ih => simp [cellsIntA2, VIntA2.vals_len] at *; omega
theorem cellsIntA2_append (xs ys : List VIntA2) : cellsIntA2 (xs ++ ys) = cellsIntA2 xs ++ cellsIntA2 ys := by simp [cellsIntA2]
theorem cellsIntA2_snoc (xs : List VIntA2) (s : VIntA2) : cellsIntA2 (xs ++ [s]) = cellsIntA2 xs ++ s.vals := by simp [cellsIntA2]
theorem cellsIntA2_at {xs : List VIntA2} {k : Nat} {s : VIntA2} (h : xs[k]? = some s) (j : Nat) (hj : j < 2) : (cellsIntA2 xs)[k * 2 + j]? = s.vals[j]? := by
  have hk : k < xs.length := (List.getElem?_eq_some_iff.1 h).1
  have e : xs = xs.take k ++ s :: xs.drop (k + 1) := by
    have h2 := List.take_append_drop k xs
    rw [List.drop_eq_getElem_cons hk] at h2
    have : xs[k] = s := by rw [List.getElem?_eq_getElem hk] at h; simpa using h
    rw [this] at h2; exact h2.symm
  have hl : (cellsIntA2 (xs.take k)).length = k * 2 := by rw [cellsIntA2_len, List.length_take]; omega
  rw [e, show cellsIntA2 (xs.take k ++ s :: xs.drop (k + 1)) = cellsIntA2 (xs.take k) ++ (s.vals ++ cellsIntA2 (xs.drop (k + 1))) from by simp [cellsIntA2], List.getElem?_append_right (by omega), hl, show k * 2 + j - k * 2 = j from by omega, List.getElem?_append_left (by rw [VIntA2.vals_len]; exact hj)]
theorem isIntA2S_own {w : World} {base : Nat} {v : Value} {xs : List VIntA2} (h : w.ownsRow base 34 2 v xs.length (cellsIntA2 xs)) :
    ∃ a cap, v = .slice a xs.length cap ∧ IsIntA2S w a xs.length cap xs ∧ ∀ b o, a = some ⟨b, o, none⟩ → v.ownBlock = some b := by
  have hlt := h.lt
  rcases h.2 with ⟨rfl, h0⟩ | ⟨g, cap, cur, rfl, hg, hh, hn, hcap, hsz, htake⟩
  · exact ⟨none, 0, by rw [h0], ⟨by rw [h0], by omega, by simp [maxLen], .inl h0⟩, fun _ _ h => by cases h⟩
  · refine ⟨some ⟨g, 0, none⟩, cap, rfl, ⟨rfl, hn, hcap, ?_⟩, fun b o h => by cases h; rfl⟩
    by_cases hz : xs.length = 0
    · exact .inl hz
    · refine .inr ⟨g, 0, rfl, (hlt g rfl).2, fun k s hs => ?_⟩
      have each : ∀ j u, j < 2 → s.vals[j]? = some u → w.cell? ⟨g, 0 + k * 2 + j, none⟩ = some u := fun j u hj hu => by
        have hc := h.cells (g := g) rfl (k * 2 + j) u ((cellsIntA2_at hs j hj).trans hu)
        rw [add_plain, ← Nat.add_assoc] at hc; exact hc
      exact ⟨each 0 _ (by decide) rfl, each 1 _ (by decide) rfl⟩
theorem nil_ownIntA2 (w : World) (base : Nat) : w.ownsRow base 34 2 (.slice none 0 0) ([] : List VIntA2).length (cellsIntA2 []) := ⟨by simp [cellsIntA2], .inl ⟨rfl, rfl⟩⟩
theorem cell_IntA2 (w : World) (s : VIntA2) (t : TypeId) : ∀ j u, s.vals[j]? = some u → (w.alloc (.cells #[.int .i64 s.E0, .int .i64 s.E1] t)).cell? ((⟨w.heap.size, 0, none⟩ : Addr).add j) = some u := by
  intro j u hj
  rw [add_plain, Nat.zero_add, World.cell?_alloc_new]
  simpa [VIntA2.vals] using hj
theorem cell_IntA22 (w : World) (o : Obj) (s : VIntA2) (t : TypeId) : ∀ j u, s.vals[j]? = some u → ((w.alloc o).alloc (.cells #[.int .i64 s.E0, .int .i64 s.E1] t)).cell? ((⟨w.heap.size + 1, 0, none⟩ : Addr).add j) = some u := by
  have h := cell_IntA2 (w.alloc o) s t
  rw [show (w.alloc o).heap.size = w.heap.size + 1 from by show (w.heap.push o).size = _; simp] at h
  exact h
/-- What is left of a row of the call's own when it is cut behind some elements. -/
theorem take_ownIntA2 {w : World} {base : Nat} {a : Option Addr} {cap k : Nat} {xs : List VIntA2} (h : w.ownsRow base 34 2 (.slice a xs.length cap) xs.length (cellsIntA2 xs)) (hk : k ≤ xs.length) :
    w.ownsRow base 34 2 (.slice a k cap) k (cellsIntA2 (xs.take k)) := by
  have hl : (cellsIntA2 (xs.take k)).length = k * 2 := by rw [cellsIntA2_len, List.length_take]; omega
  refine ⟨hl, ?_⟩
  rcases h.2 with ⟨h0, h1⟩ | ⟨g, cap', cur, e, hg, hh, hn, hcap, hsz, htake⟩
  · simp only [Value.slice.injEq] at h0
    obtain ⟨rfl, h2, rfl⟩ := h0
    exact .inl ⟨by rw [show k = 0 by omega], by omega⟩
  · cases e
    refine .inr ⟨g, cap, cur, rfl, hg, hh, by omega, hcap, hsz, ?_⟩
    have e2 : cellsIntA2 xs = cellsIntA2 (xs.take k) ++ cellsIntA2 (xs.drop k) := by
      unfold cellsIntA2
      rw [← List.flatMap_append, List.take_append_drop]
    have h3 := congrArg (List.take (k * 2)) htake
    rw [List.take_take, Nat.min_eq_left (by have := Nat.mul_le_mul_right 2 hk; omega), e2, List.take_append_of_le_length (by omega), List.take_of_length_le (show (cellsIntA2 (xs.take k)).length ≤ k * 2 by omega)] at h3
    exact h3
/-- A slice of them, as what is appended. -/
theorem srcIntA2 {w : World} {a : Option Addr} {len cap : Nat} {xs : List VIntA2} (h : IsIntA2S w a len cap xs) : SrcAt w a len 2 (cellsIntA2 xs) := by
  refine ⟨by rw [cellsIntA2_len, h.1], ?_⟩
  rcases h.2.2.2 with h0 | ⟨b, o, rfl, hb, hat⟩
  · exact .inl h0
  · refine .inr ⟨_, rfl, fun j u hj => ?_⟩
    rw [add_plain]
    have hl := (List.getElem?_eq_some_iff.1 hj).1
    rw [cellsIntA2_len] at hl
    obtain ⟨k, r, rfl, hr⟩ : ∃ k r, j = k * 2 + r ∧ r < 2 := ⟨j / 2, j % 2, by omega, Nat.mod_lt _ (by decide)⟩
    have hk : k < xs.length := by omega
    have hs : xs[k]? = some xs[k] := List.getElem?_eq_getElem hk
    have hu := cellsIntA2_at hs r hr
    rw [hj] at hu
    have ha := hat k _ hs
    rw [← Nat.add_assoc]
    rcases (show r = 0 ∨ r = 1 by omega) with rfl | rfl
    · rw [hu]; exact ha.1
    · rw [hu]; exact ha.2
/-- Block b holds it, all of it, and may be written. -/
def HBIntA2 (w : World) (b : Nat) (s : VIntA2) : Prop := w.heap[b]? = some (.cells #[.int .i64 s.E0, .int .i64 s.E1] 34 (0, 0))
theorem HBIntA2.lt {w : World} {b : Nat} {s : VIntA2} (h : HBIntA2 w b s) : b < w.heap.size := (Array.getElem?_eq_some_iff.1 h).1
theorem HBIntA2.new (w : World) (s : VIntA2) (B : Nat) (hB : w.heap.size = B) : HBIntA2 (w.alloc (.cells #[.int .i64 s.E0, .int .i64 s.E1] 34)) B s := hB ▸ heap_alloc_new w _
theorem HBIntA2.below {w w' : World} {b : Nat} {s : VIntA2} (h : HBIntA2 w b s) (hb : Below w.heap.size w w') : HBIntA2 w' b s := (hb.block b h.lt).trans h
theorem HBIntA2.grown {w w' : World} {b : Nat} {s : VIntA2} {row : Option Nat} (h : HBIntA2 w b s) (hg : w.grownBy w' row) (hne : some b ≠ row) : HBIntA2 w' b s := (hg.block b h.lt hne).trans h
theorem HBIntA2.drew {w : World} {b : Nat} {s : VIntA2} (h : HBIntA2 w b s) : HBIntA2 w.drew b s := h
theorem HBIntA2.alloc {w : World} {b : Nat} {s : VIntA2} (h : HBIntA2 w b s) (o : Obj) : HBIntA2 (w.alloc o) b s := (Below.heap_alloc w o b h.lt).trans h
theorem HBIntA2.other {w : World} {b b' j : Nat} {s : VIntA2} (h : HBIntA2 w b s) (hne : b ≠ b') (u : Value) : HBIntA2 (w.setCell ⟨b', j, none⟩ u) b s := (heap_setCell_other w ⟨b', j, none⟩ b u hne).trans h
theorem HBIntA2.cells {w : World} {b : Nat} {s : VIntA2} (h : HBIntA2 w b s) : w.cell? ⟨b, 0, none⟩ = some (.int .i64 s.E0) ∧ w.cell? ⟨b, 1, none⟩ = some (.int .i64 s.E1) := by
  unfold HBIntA2 at h
  refine ⟨?_, ?_⟩ <;> simp [World.cell?, h]
theorem HBIntA2.free {w : World} {b : Nat} {s : VIntA2} (h : HBIntA2 w b s) (j : Nat) : w.frozen? ⟨b, j, none⟩ = false := by
  unfold HBIntA2 at h
  simp [World.frozen?, h]
theorem HBIntA2.set0 {w : World} {b : Nat} {s : VIntA2} (h : HBIntA2 w b s) (v : Int) : HBIntA2 (w.setCell ⟨b, 0, none⟩ (.int .i64 v)) b ⟨v, s.E1⟩ := heap_setCell_same w b 0 _ _ _ h
theorem HBIntA2.set1 {w : World} {b : Nat} {s : VIntA2} (h : HBIntA2 w b s) (v : Int) : HBIntA2 (w.setCell ⟨b, 1, none⟩ (.int .i64 v)) b ⟨s.E0, v⟩ := heap_setCell_same w b 1 _ _ _ h
theorem HBIntA2.setAll {w : World} {b : Nat} {s : VIntA2} (h : HBIntA2 w b s) (t : VIntA2) : HBIntA2 ((w.setCell ⟨b, 0, none⟩ (.int .i64 t.E0)).setCell ⟨b, 1, none⟩ (.int .i64 t.E1)) b t :=
  (heap_setCell_same _ b 1 _ _ _ (heap_setCell_same _ b 0 _ _ _ h))
theorem HBIntA2.otherAll {w : World} {b b' : Nat} {s : VIntA2} (h : HBIntA2 w b s) (hne : b ≠ b') (x0 x1 : Value) : HBIntA2 ((w.setCell ⟨b', 0, none⟩ x0).setCell ⟨b', 1, none⟩ x1) b s :=
  ((h.other hne x0).other hne x1)
/-- It lies in the box b of some type. -/
def BoxIntA2 (w : World) (b : Nat) (s : VIntA2) : Prop := w.cell? ⟨b, 0, none⟩ = some (.int .i64 s.E0) ∧ w.cell? ⟨b, 1, none⟩ = some (.int .i64 s.E1)
theorem BoxIntA2.new (w : World) (t : TypeId) (s : VIntA2) (B : Nat) (hB : w.heap.size = B) : BoxIntA2 (w.alloc (.cells #[.int .i64 s.E0, .int .i64 s.E1] t)) B s := by
  subst hB
  refine ⟨?_, ?_⟩ <;> simp [World.cell?_alloc_new]
theorem BoxIntA2.lt {w : World} {b : Nat} {s : VIntA2} (h : BoxIntA2 w b s) : b < w.heap.size := World.lt_of_cell h.1
theorem BoxIntA2.below {w w' : World} {b : Nat} {s : VIntA2} (h : BoxIntA2 w b s) (hb : Below w.heap.size w w') : BoxIntA2 w' b s :=
  ⟨(hb.cell (p := ⟨b, 0, none⟩) h.lt).trans h.1, (hb.cell (p := ⟨b, 1, none⟩) h.lt).trans h.2⟩
theorem BoxIntA2.grown {w w' : World} {b : Nat} {s : VIntA2} {row : Option Nat} (h : BoxIntA2 w b s) (hg : w.grownBy w' row) (hne : some b ≠ row) : BoxIntA2 w' b s :=
  ⟨(World.cell?_of_block (w := w) (a := ⟨b, 0, none⟩) (hg.block b h.lt hne)).trans h.1, (World.cell?_of_block (w := w) (a := ⟨b, 1, none⟩) (hg.block b h.lt hne)).trans h.2⟩
def zerosIntA2 (n : Nat) : List Value := (List.replicate n [.int .i64 0, .int .i64 0]).flatten
theorem zerosIntA2_succ (n : Nat) : zerosIntA2 (n + 1) = .int .i64 0 :: .int .i64 0 :: zerosIntA2 n := by
  unfold zerosIntA2; rw [List.replicate_succ]; rfl
theorem zerosIntA2_len (n : Nat) : (zerosIntA2 n).length = n * 2 := by
  induction n with
  | zero => rfl
  | succ n ih => rw [zerosIntA2_succ]; simp [ih]; omega
theorem zerosIntA2_at (n j : Nat) (h : j < n * 2) : (zerosIntA2 n)[j]? = [.int .i64 0, .int .i64 0][j % 2]? := by
  induction n generalizing j with
  | zero => omega
  | succ n ih =>
    rw [zerosIntA2_succ]
    by_cases hj : j < 2
    · rw [Nat.mod_eq_of_lt hj]
      rcases (show j = 0 ∨ j = 1 by omega) with rfl | rfl <;> rfl
    · obtain ⟨i, rfl⟩ : ∃ i, j = i + 2 := ⟨j - 2, by omega⟩
      rw [Nat.add_mod_right, ← ih i (by omega)]
      rfl
theorem madeIntA2 (n : Nat) : (madeCells (.agg #[.int .i64 0, .int .i64 0] : Value).cells (n * 2)).toList = zerosIntA2 n := by
  apply List.ext_getElem?
  intro j
  rw [Array.getElem?_toList]
  by_cases h : j < n * 2
  · rw [zerosIntA2_at n j h]
    have hm : j % 2 < 2 := Nat.mod_lt _ (by decide)
    simp only [madeCells, Value.cells]
    rw [Array.getElem?_eq_getElem (by simpa using h)]
    rcases (show j % 2 = 0 ∨ j % 2 = 1 by omega) with e | e <;> simp [e]
  · rw [List.getElem?_eq_none (by rw [zerosIntA2_len]; omega)]
    simp [madeCells, h]
theorem setIntA2 (A L : List Value) (v0 v1 : Value) (o : Nat) (hA : A.length = o) (hL : o + 2 ≤ L.length) :
    (((A ++ L.drop o).set (o) v0).set (o + 1) v1) = A ++ v0 :: v1 :: L.drop (o + 2) := by
  subst hA
  obtain ⟨a0, a1, e⟩ : ∃ a0 a1, L.drop A.length = a0 :: a1 :: L.drop (A.length + 2) := ⟨_, _, by rw [List.drop_eq_getElem_cons (show A.length < L.length by omega), List.drop_eq_getElem_cons (show A.length + 1 < L.length by omega)]⟩
  rw [e]
  generalize L.drop (A.length + 2) = D
  simp [List.set_append_right]
theorem storedIntA2 {w : World} {base n c g o : Nat} {e : TypeId} {size : Nat} {A L : List Value} (h : w.ownsRow base e size (.slice (some ⟨g, 0, none⟩) n c) n (A ++ L.drop o)) (hA : A.length = o) (hL : o + 2 ≤ L.length) (v0 v1 : Value) :
    ((w.setCell ⟨g, o, none⟩ v0).setCell ⟨g, o + 1, none⟩ v1).ownsRow base e size (.slice (some ⟨g, 0, none⟩) n c) n (A ++ v0 :: v1 :: L.drop (o + 2)) ∧ w.grownBy ((w.setCell ⟨g, o, none⟩ v0).setCell ⟨g, o + 1, none⟩ v1) (some g) := by
  have h0 := h.stored (o) v0
  have h1 := h0.1.stored (o + 1) v1
  refine ⟨?_, (grown_trans h0.2 h1.2)⟩
  have := h1.1
  rw [setIntA2 A L v0 v1 o hA hL] at this
  exact this
/-- A row of the call's own, and the world below as it was. -/
def IntA2Row (xs : List VIntA2) (w : World) (e : Ending) (w' : World) : Prop := ∃ v, e = .returned v ∧ w'.ownsRow w.heap.size 34 2 v xs.length (cellsIntA2 xs) ∧ Below w.heap.size w w'
theorem cellsIntA2_drop (xs : List VIntA2) (i : Nat) : (cellsIntA2 xs).drop (i * 2) = cellsIntA2 (xs.drop i) := by
  by_cases h : i ≤ xs.length
  · have e : cellsIntA2 xs = cellsIntA2 (xs.take i) ++ cellsIntA2 (xs.drop i) := by
      unfold cellsIntA2
      rw [← List.flatMap_append, List.take_append_drop]
    have hl : (cellsIntA2 (xs.take i)).length = i * 2 := by rw [cellsIntA2_len, List.length_take]; omega
    rw [e, List.drop_append_of_le_length (by omega), List.drop_of_length_le (by omega), List.nil_append]
  · rw [List.drop_of_length_le (show xs.length ≤ i by omega), List.drop_of_length_le (by rw [cellsIntA2_len]; omega)]; rfl
theorem cellsIntA2_take (xs : List VIntA2) (i : Nat) : cellsIntA2 xs = cellsIntA2 (xs.take i) ++ (cellsIntA2 xs).drop (i * 2) := by
  rw [cellsIntA2_drop]
  unfold cellsIntA2
  rw [← List.flatMap_append, List.take_append_drop]
theorem cellsIntA2_set (xs : List VIntA2) (i : Nat) (r : VIntA2) (h : i < xs.length) : cellsIntA2 (xs.set i r) = cellsIntA2 (xs.take i) ++ (r.vals ++ (cellsIntA2 xs).drop (i * 2 + 2)) := by
  rw [List.set_eq_take_append_cons_drop, if_pos h, show i * 2 + 2 = (i + 1) * 2 by omega, cellsIntA2_drop]
  simp [cellsIntA2]
/-- An element of a row of the call's own is replaced. -/
theorem own_setIntA2 {w : World} {base m c g i : Nat} {xs : List VIntA2} (h : w.ownsRow base 34 2 (.slice (some ⟨g, 0, none⟩) m c) m (cellsIntA2 xs)) (hi : i < xs.length) (r : VIntA2) :
    ((w.setCell ⟨g, i * 2, none⟩ (.int .i64 r.E0)).setCell ⟨g, i * 2 + 1, none⟩ (.int .i64 r.E1)).ownsRow base 34 2 (.slice (some ⟨g, 0, none⟩) m c) m (cellsIntA2 (xs.set i r)) ∧ w.grownBy ((w.setCell ⟨g, i * 2, none⟩ (.int .i64 r.E0)).setCell ⟨g, i * 2 + 1, none⟩ (.int .i64 r.E1)) (some g) := by
  rw [cellsIntA2_set xs i r hi]
  rw [cellsIntA2_take xs i] at h
  exact storedIntA2 h (by rw [cellsIntA2_len, List.length_take]; omega) (by rw [cellsIntA2_len]; omega) (.int .i64 r.E0) (.int .i64 r.E1)
/-- The marks from b on, and n of them. -/
def markIntA2 (b : Nat) : VIntA2 := ⟨((b : Nat) : Int), ((b + 1 : Nat) : Int)⟩
def marksIntA2 (k n : Nat) : List VIntA2 := (List.range n).map fun i => markIntA2 (k + i * 2)
theorem marksIntA2_len (k n : Nat) : (marksIntA2 k n).length = n := by simp [marksIntA2]
theorem marksIntA2_succ (k n : Nat) : marksIntA2 k (n + 1) = marksIntA2 k n ++ [markIntA2 (k + n * 2)] := by simp [marksIntA2, List.range_succ]
theorem marksIntA2_at (k n i : Nat) (h : i < n) : (marksIntA2 k n)[i]? = some (markIntA2 (k + i * 2)) := by simp [marksIntA2, h]
def IntA2Marked (base k n : Nat) (v : Value) (w : World) (e : Ending) (w' : World) : Prop := e = .returned (.int .i64 ((k + n * 2 : Nat) : Int)) ∧ w'.ownsRow base 34 2 v n (cellsIntA2 (marksIntA2 k n)) ∧ w.grownBy w' v.ownBlock
set_option maxHeartbeats 3200000 in
set_option maxRecDepth 100000 in
theorem eqIntA2_yes (x0 x1 : Int) (w : World) :
    Calls Try.prog 127 #[.agg #[.int .i64 x0, .int .i64 x1], .agg #[.int .i64 x0, .int .i64 x1]] w fun e w' => e = .returned (.bool true) ∧ Below w.heap.size w w' := by
  have B0 := Lib.hid (bel_al2 w (.cells #[.int .i64 x0, .int .i64 x1] 34) (.cells #[.int .i64 x0, .int .i64 x1] 34))
  go_enter Try.func127, Try.ntmps127
  go_wp2
  refine wp_world (fun wr => Below w.heap.size w wr ∧ wr.cell? ⟨w.heap.size, 0, none⟩ = some (.int .i64 x0) ∧ wr.cell? ⟨w.heap.size, 1, none⟩ = some (.int .i64 x1) ∧ wr.cell? ⟨w.heap.size + 1, 0, none⟩ = some (.int .i64 x0) ∧ wr.cell? ⟨w.heap.size + 1, 1, none⟩ = some (.int .i64 x1)) ⟨B0.out, by simp, by simp, by simp, by simp⟩ ?_
  rintro W ⟨hb, c0, c1, d0, d1⟩
  have BW := Lib.hid hb
  clear hb
  go_loopw [5] (fun i wr => ∃ k : Nat, k ≤ 2 ∧ i = .int .i64 k ∧ Below w.heap.size w wr ∧ wr.cell? ⟨w.heap.size, 0, none⟩ = some (.int .i64 x0) ∧ wr.cell? ⟨w.heap.size, 1, none⟩ = some (.int .i64 x1) ∧ wr.cell? ⟨w.heap.size + 1, 0, none⟩ = some (.int .i64 x0) ∧ wr.cell? ⟨w.heap.size + 1, 1, none⟩ = some (.int .i64 x1)) (fun i _ => 2 - (intOf i).toNat)
  case atStart => exact ⟨0, by omega, rfl, BW.out, c0, c1, d0, d1⟩
  case round =>
    clear c0 c1 d0 d1
    obtain ⟨k, hk, rfl, hbel, c0, c1, d0, d1⟩ := hrel
    have B := Lib.hid hbel
    clear hbel
    rcases (show k = 0 ∨ k = 1 ∨ k = 2 by omega) with rfl | rfl | rfl
    · go_wp2
      go_quiet (fail)
      have B1 := Lib.hid (Below.then' B.out (bel_drawn wr nq))
      go_wp2
      go_roundw
      case rel => exact ⟨1, by omega, by go_num, B1.out, c0, c1, d0, d1⟩
      case measure => simp [intOf]
    · go_wp2
      go_quiet (fail)
      have B1 := Lib.hid (Below.then' B.out (bel_drawn wr nq))
      go_wp2
      go_roundw
      case rel => exact ⟨2, by omega, by go_num, B1.out, c0, c1, d0, d1⟩
      case measure => simp [intOf]
    · go_wp2
      go_ret
      exact ⟨rfl, B.out⟩
set_option maxHeartbeats 3200000 in
set_option maxRecDepth 100000 in
theorem eqIntA2S_yes (a : Option Addr) (len cap : Nat) (a' : Option Addr) (len' cap' : Nat) (xs : List VIntA2) (w : World) (h : IsIntA2S w a len cap xs) (h' : IsIntA2S w a' len' cap' xs) :
    Calls Try.prog 77 #[.slice a len cap, .slice a' len' cap'] w fun e w' => e = .returned (.bool true) ∧ Below w.heap.size w w' := by
  obtain rfl := h.1
  obtain rfl := h'.1
  have hm := h.2.2.1
  have hcl := h.2.1
  unfold maxLen at hm
  have S := Lib.hid h
  have S' := Lib.hid h'
  clear h h'
  go_enter Try.func77, Try.ntmps77
  go_wp2
  go_loopw [5] (fun i wr => ∃ k : Nat, k ≤ xs.length ∧ i = .int .i64 k ∧ Below w.heap.size w wr) (fun i _ => xs.length - (intOf i).toNat)
  case atStart => exact ⟨0, Nat.zero_le _, rfl, Below.refl _ _⟩
  case round =>
    obtain ⟨k, hk, rfl, hbel⟩ := hrel
    have B := Lib.hid hbel
    by_cases hlt : k < xs.length
    · obtain ⟨s, hs⟩ : ∃ s, xs[k]? = some s := ⟨xs[k]'hlt, List.getElem?_eq_getElem _⟩
      obtain ⟨b, o, rfl, hb, hat⟩ := (S.out.below hbel).at (by omega)
      obtain ⟨b', o', rfl, hb', hat'⟩ := (S'.out.below hbel).at (by omega)
      obtain ⟨c0, c1⟩ := hat k s hs
      obtain ⟨d0, d1⟩ := hat' k s hs
      obtain ⟨x0, x1⟩ := s
      simp only at c0 c1 d0 d1
      have hi0 : (0 : Int) ≤ (k : Int) := by omega
      have hi1 : (k : Int) < (xs.length : Int) := by omega
      clear hbel hs hat hat'
      have k0 := cell_regrown c0
      have k1 := cell_regrown c1
      have m0 := cell_regrown d0
      have m1 := cell_regrown d1
      clear c0 c1 d0 d1
      have cQ := below_at (W := wr) (fun W' _ => eqIntA2_yes x0 x1 W')
      go_wp2
      refine wp_region_quiet_below (by kernel_rfl) (by kernel_rfl) ?_
      repeat (first | go_big_quiet_step (with_reducible exact cQ _ _) | quiet_step (with_reducible exact cQ _ _))
      refine wpQuiet_nil ?_
      intro W2 hw2
      have B1 := Lib.hid (Below.then' B.out (below_of_re hw2))
      clear hw2 cQ k0 m0 k1 m1
      go_wp2
      go_roundw
      case rel => exact ⟨k + 1, by omega, by go_num, B1.out⟩
      case measure => simp [intOf]; omega
    · obtain rfl : k = xs.length := by omega
      clear hbel
      go_wp2
      go_ret
      exact ⟨rfl, B.out⟩
theorem marksIntA2_flat (k n : Nat) : cellsIntA2 (marksIntA2 k n) = intCells (marksI k (n * 2)) := by
  induction n with
  | zero => simp [marksIntA2, cellsIntA2, marksI, intCells]
  | succ n ih =>
    rw [marksIntA2_succ, cellsIntA2_snoc, ih, show (n + 1) * 2 = n * 2 + 1 + 1 by omega, marksI_succ, marksI_succ, intCells_snoc, intCells_snoc]
    simp [VIntA2.vals, markIntA2, Nat.add_assoc]
set_option maxHeartbeats 3200000 in
set_option maxRecDepth 100000 in
theorem markIntA2S_any (base : Nat) (v : Value) (n k : Nat) (L : List Value) (w : World) (hown : w.ownsRow base 34 2 v n L) (hk1 : 1 ≤ k) (hk : k ≤ 1000000) (hn : n ≤ 1048576) :
    Calls Try.prog 78 #[v, .int .i64 (k : Int)] w (IntA2Marked base k n v w) := by
  have hlen : L.length = n * 2 := by have := hown.1; omega
  rcases hown.2 with ⟨rfl, rfl⟩ | ⟨g, cap, cur, rfl, hg, hh, hncap, hcap, _⟩
  · have hL : L = [] := List.length_eq_zero_iff.1 (by omega)
    subst hL
    have H := Lib.hid hown
    clear hown
    go_enter Try.func78, Try.ntmps78
    go_wp2
    refine wp_loop_rounds 1 ?_
    rw [rounds_succ]
    go_wp2
    go_ret
    exact ⟨rfl, H.out, World.grownBy.refl _ _⟩
  clear hh
  have H := Lib.hid hown
  have L0 := Lib.hid hlen
  unfold maxLen at hcap
  clear hown hlen
  go_enter Try.func78, Try.ntmps78
  go_wp2
  go_loopw [1, 5] (fun q i wr => ∃ j : Nat, j ≤ n ∧ i = .int .i64 j ∧ q = .int .i64 ((k + j * 2 : Nat) : Int) ∧ wr.ownsRow base 34 2 (.slice (some ⟨g, 0, none⟩) n cap) n (intCells (marksI k (j * 2)) ++ L.drop (j * 2)) ∧ w.grownBy wr (some g)) (fun _ i _ => n - (intOf i).toNat)
  case atStart => exact ⟨0, Nat.zero_le _, rfl, rfl, by simpa [marksI, intCells] using H.out, World.grownBy.refl _ _⟩
  case round =>
    obtain ⟨j, hj, rfl, rfl, hrow, hgr⟩ := hrel
    have R := Lib.hid hrow
    have G := Lib.hid hgr
    clear hrow hgr
    by_cases hlt : j < n
    · go_wp2
      go_loopw [1, 6] (fun q i wr => ∃ c : Nat, c ≤ 2 ∧ i = .int .i64 c ∧ q = .int .i64 ((k + (j * 2 + c) : Nat) : Int) ∧ wr.ownsRow base 34 2 (.slice (some ⟨g, 0, none⟩) n cap) n (intCells (marksI k (j * 2 + c)) ++ L.drop (j * 2 + c)) ∧ w.grownBy wr (some g)) (fun _ i _ => 2 - (intOf i).toNat)
      case atStart => exact ⟨0, by omega, rfl, by simp, R.out, G.out⟩
      case round =>
        obtain ⟨c, hc, rfl, rfl, hrow, hgr⟩ := hrel
        have R2 := Lib.hid hrow
        have G2 := Lib.hid hgr
        clear hrow hgr
        by_cases hc2 : c < 2
        · have hfr := R2.out.frozenAt (j * 2 + c)
          obtain ⟨u, hu⟩ : ∃ u, wr.cell? ⟨g, j * 2 + c, none⟩ = some u := by
            have hlt2 : j * 2 + c < (intCells (marksI k (j * 2 + c)) ++ L.drop (j * 2 + c)).length := by rw [List.length_append, intCells_len, marksI_len, List.length_drop, L0.out]; omega
            have h := R2.out.cells (g := g) rfl (j * 2 + c) _ (List.getElem?_eq_getElem hlt2)
            rw [add_plain, Nat.zero_add] at h
            exact ⟨_, h⟩
          have hj0 : (0 : Int) ≤ (j : Int) := by omega
          have hj1 : (j : Int) < (n : Int) := by omega
          have hc0 : (0 : Int) ≤ (c : Int) := by omega
          have hc1 : (c : Int) < 2 := by omega
          go_wp2
          go_roundw
          case rel => exact ⟨c + 1, by omega, by go_num, by go_num, by
            have h := (R2.out.stored (j * 2 + c) (.int .i64 ((k + (j * 2 + c) : Nat) : Int))).1
            rw [set_markI (by rw [L0.out]; omega), show j * 2 + c + 1 = j * 2 + (c + 1) from rfl] at h
            simpa using h, grown_trans G2.out (by simpa using (R2.out.stored (j * 2 + c) (.int .i64 ((k + (j * 2 + c) : Nat) : Int))).2)⟩
          case measure => simp [intOf]; omega
        · obtain rfl : c = 2 := by omega
          go_wp2
          go_roundw
          case rel => exact ⟨j + 1, by omega, by go_num, by go_num, by rw [show (j + 1) * 2 = j * 2 + 2 by omega]; exact R2.out, G2.out⟩
          case measure => simp [intOf]; omega
    · obtain rfl : j = n := by omega
      go_wp2
      go_ret
      refine ⟨rfl, ?_, G.out⟩
      have h := R.out
      rw [List.drop_of_length_le (by rw [L0.out]; omega), List.append_nil] at h
      rw [marksIntA2_flat]
      exact h
set_option maxHeartbeats 3200000 in
set_option maxRecDepth 100000 in
theorem heldIntA2S_any (a : Option Addr) (n cap k : Nat) (w : World) (h : IsIntA2S w a n cap (marksIntA2 k n)) (hk1 : 1 ≤ k) (hk : k ≤ 1000000) (hn : n ≤ 1048576) :
    Calls Try.prog 79 #[.slice a n cap, .int .i64 (k : Int)] w fun e w' => e = .returned (.int .i64 ((k + n * 2 : Nat) : Int)) ∧ Below w.heap.size w w' := by
  have hm := h.2.2.1
  have hcl := h.2.1
  unfold maxLen at hm
  have S := Lib.hid h
  clear h
  go_enter Try.func79, Try.ntmps79
  go_wp2
  go_loop [1, 5] (fun q i => ∃ j : Nat, j ≤ n ∧ i = .int .i64 j ∧ q = .int .i64 ((k + j * 2 : Nat) : Int)) (fun _ i => n - (intOf i).toNat)
  case atStart => exact ⟨0, Nat.zero_le _, rfl, rfl⟩
  case round =>
    obtain ⟨j, hj, rfl, rfl⟩ := hrel
    by_cases hlt : j < n
    · obtain ⟨b, o, rfl, hb, hat⟩ := S.out.at (by omega)
      obtain ⟨c0, c1⟩ := hat j _ (marksIntA2_at k n j hlt)
      have hj0 : (0 : Int) ≤ (j : Int) := by omega
      have hj1 : (j : Int) < (n : Int) := by omega
      simp only [markIntA2] at c0 c1
      clear hat
      go_wp2
      go_loop [1, 6] (fun q i => ∃ c : Nat, c ≤ 2 ∧ i = .int .i64 c ∧ q = .int .i64 ((k + j * 2 + c : Nat) : Int)) (fun _ i => 2 - (intOf i).toNat)
      case atStart => exact ⟨0, by omega, rfl, by simp⟩
      case round =>
        obtain ⟨c, hc, rfl, rfl⟩ := hrel
        rcases (show c = 0 ∨ c = 1 ∨ c = 2 by omega) with rfl | rfl | rfl
        · go_wp2
          go_round
          case rel => exact ⟨1, by omega, by go_num, by go_num⟩
          case measure => simp [intOf]
        · go_wp2
          go_round
          case rel => exact ⟨2, by omega, by go_num, by go_num⟩
          case measure => simp [intOf]
        · go_wp2
          go_round
          case rel => exact ⟨j + 1, by omega, by go_num, by go_num⟩
          case measure => simp [intOf]; omega
    · obtain rfl : j = n := by omega
      go_wp2
      go_ret
      exact ⟨rfl, Below.refl _ _⟩
end Go.Proofs.Ytpnaciamnigbnaa
namespace Go.Proofs.Ytpnaciamnigbnaa
open Go.RowKit
def OwnIntA2S (lo hi : Nat) (w : World) (v : Value) (xs : List VIntA2) : Prop := OwnIn lo hi w 34 2 v xs.length (cellsIntA2 xs)
section
variable {lo hi lo' hi' : Nat} {w w' : World} {v : Value} {xs : List VIntA2}
theorem OwnIntA2S.form (h : OwnIntA2S lo hi w v xs) : ∃ a c, v = .slice a xs.length c := by
  obtain ⟨a, c, e, _⟩ := isIntA2S_own h.1
  exact ⟨a, c, e⟩
theorem OwnIntA2S.is {a : Option Addr} {n c : Nat} (h : OwnIntA2S lo hi w (.slice a n c) xs) : IsIntA2S w a n c xs := by
  obtain ⟨a', c', e, hi, _⟩ := isIntA2S_own h.1
  simp only [Value.slice.injEq] at e
  obtain ⟨rfl, rfl, rfl⟩ := e
  exact hi
theorem OwnIntA2S.below (h : OwnIntA2S lo hi w v xs) (hb : Below w.heap.size w w') : OwnIntA2S lo hi w' v xs := OwnIn.below h hb
theorem OwnIntA2S.turned (h : OwnIntA2S lo hi w v xs) (t : Turned lo' hi' w w') (hd : hi ≤ lo' ∨ hi' ≤ lo) : OwnIntA2S lo hi w' v xs := OwnIn.turned h t hd
theorem OwnIntA2S.mono (h : OwnIntA2S lo hi w v xs) (h1 : lo' ≤ lo) (h2 : hi ≤ hi') : OwnIntA2S lo' hi' w v xs := OwnIn.mono h h1 h2
theorem nil_OwnIntA2S (lo hi : Nat) (w : World) : OwnIntA2S lo hi w (.slice none 0 0) [] := ⟨⟨by simp [cellsIntA2], .inl ⟨rfl, rfl⟩⟩, fun b h => by cases h⟩
end
def condIntA2 (xs : List VIntA2) : Prop := xs.length ≤ 1048576
def cntIntA2 (xs : List VIntA2) : Nat := xs.length * 2
def mkIntA2 (k : Nat) (xs : List VIntA2) : List VIntA2 := marksIntA2 k xs.length
theorem cntIntA2_cond {xs : List VIntA2} (h : condIntA2 xs) : cntIntA2 xs ≤ 2097152 := by unfold condIntA2 at h; unfold cntIntA2; omega
def IntA2OPost (xs : List VIntA2) (w : World) (e : Ending) (w' : World) : Prop := ∃ v, e = .returned v ∧ OwnIntA2S w.heap.size w'.heap.size w' v xs ∧ Below w.heap.size w w'
def IntA2SMarked (lo hi : Nat) (v : Value) (xs : List VIntA2) (k : Nat) (w : World) (e : Ending) (w' : World) : Prop := e = .returned (.int .i64 ((k + cntIntA2 xs : Nat) : Int)) ∧ OwnIntA2S lo hi w' v (mkIntA2 k xs) ∧ Turned lo hi w w'
theorem markIntA2S_o (lo hi : Nat) (v : Value) (xs : List VIntA2) (k : Nat) (w : World) (h : OwnIntA2S lo hi w v xs) (hk : 1 ≤ k ∧ k ≤ 1000000 ∧ cntIntA2 xs ≤ 2097152) :
    Calls Try.prog 78 #[v, .int .i64 (k : Int)] w (IntA2SMarked lo hi v xs k w) :=
  (markIntA2S_any lo v xs.length k (cellsIntA2 xs) w h.1 (by omega) (by omega) (by unfold cntIntA2 at hk; omega)).mono fun e w' ⟨h1, h2, h3⟩ =>
    ⟨h1, ⟨by unfold mkIntA2; rw [marksIntA2_len]; exact h2, h.2⟩, Turned.of_grown h3 fun b hb => ⟨(h.lt hb).1, (h.lt hb).2.1⟩⟩
theorem heldIntA2S_o (a : Option Addr) (n c : Nat) (xs : List VIntA2) (k : Nat) (w : World) (h : IsIntA2S w a n c (mkIntA2 k xs)) (hk : 1 ≤ k ∧ k ≤ 1000000 ∧ cntIntA2 xs ≤ 2097152) :
    Calls Try.prog 79 #[.slice a n c, .int .i64 (k : Int)] w fun e w' => e = .returned (.int .i64 ((k + cntIntA2 xs : Nat) : Int)) ∧ Below w.heap.size w w' := by
  have e : n = xs.length := by rw [h.1]; unfold mkIntA2; rw [marksIntA2_len]
  subst e
  exact heldIntA2S_any a xs.length c k w h (by omega) (by omega) (by unfold cntIntA2 at hk; omega)
end Go.Proofs.Ytpnaciamnigbnaa
namespace Go.Proofs.Ytpnaciamnigbnaa
open Go.RowKit Go.ChangeShapes Go.WideShapes Go.Deep

section
variable {H : Type} {enc : TypeId × Value → H} {P : Program} {w : World} {base : Nat} {spare : Nat → Bool} {held : Bool}
/-- A cell that reads as a slice of integers. -/
theorem trod_ints {t e : TypeId} {fuel : Nat} {c : Value} {x : DataW H × List MemPlace} (ht : P.underlying t = some (.slice e)) (he : P.underlying e = some (.int .i64)) (hC : P.cellsOf e = 1) (h : DataW.trod enc P w base (fun _ => true) held fuel t [c] = some x) :
    ∃ (hd : Hd) (zs : List Int), c = .slice hd.a hd.n hd.c ∧ IsInts w hd.a hd.n hd.c zs := by
  rcases open_slice ht h with ⟨hcs, _⟩ | ⟨y, l, cp, m, n, D, Pl, hcs, hb, hl, hm, hmm, _, hi⟩
  · refine ⟨⟨none, 0, 0⟩, [], by simpa using hcs, rfl, Nat.le_refl _, by simp [maxLen], .inl rfl⟩
  · simp at hmm
    subst hmm
    have hc : c = .slice (some y) l m := by simpa using hcs
    subst hc
    obtain ⟨b, o, spot⟩ := y
    have each : ∀ i, i < l → ∃ z : Int, w.cell? ((⟨b, o, spot⟩ : Addr).add i) = some (.int .i64 z) := by
      intro i hlt
      obtain ⟨cs', hc, ht'⟩ := hi i (by omega)
      rw [hC] at hc
      obtain ⟨_, hcl, hat⟩ := World.cells?_some hc
      obtain ⟨z, hz, _⟩ := DataW.trod_int he ht'
      refine ⟨z, ?_⟩
      have h1 := hat 0 (by omega)
      rw [hz] at h1
      rw [Nat.mul_one] at h1
      rw [Go.Deep.add_add] at h1
      simpa using h1
    by_cases h0 : l = 0
    · exact ⟨⟨some ⟨b, o, spot⟩, l, m⟩, [], rfl, by simpa using h0, hl, hm, .inl h0⟩
    · obtain ⟨z0, h1⟩ := each 0 (by omega)
      have hspot : spot = none := by simpa [Addr.add] using World.cell?_spot h1
      subst hspot
      obtain ⟨f, hf⟩ := Classical.axiomOfChoice (r := fun (i : Fin l) (z : Int) => w.cell? ((⟨b, o, none⟩ : Addr).add i.1) = some (.int .i64 z)) (fun i => each i.1 i.2)
      refine ⟨⟨some ⟨b, o, none⟩, l, m⟩, (List.finRange l).map f, rfl, by simp, hl, hm, .inr ⟨b, o, rfl, ?_, fun k z hz => ?_⟩⟩
      · rw [add_plain] at h1
        exact World.lt_of_cell h1
      · obtain ⟨hk, e2⟩ := List.getElem?_eq_some_iff.1 hz
        have hk' : k < l := by simpa using hk
        simp at e2
        subst e2
        have := hf ⟨k, hk'⟩
        rw [add_plain] at this
        exact this
/-- Each field of a struct that reads, reads. -/
theorem cells_trod {e : TypeId} {fs : Array Field} {fuel : Nat} {cs : List Value} {x : DataW H × List MemPlace} (he : P.underlying e = some (.struct fs)) (hone : oneCellFields P fs = true) (hsz : cs.length = fs.size)
    (h : DataW.trod enc P w base spare held fuel e cs = some x) : ∀ (j : Nat) (f : Field), fs[j]? = some f → ∃ c n y, cs[j]? = some c ∧ DataW.trod enc P w base spare held n f.type [c] = some y := by
  obtain ⟨ys, n, _, _, _, hyl, hf⟩ := DataW.trod_struct he h
  intro j f hj'
  have hj : j < fs.size := (Array.getElem?_eq_some_iff.1 hj').1
  obtain ⟨ho, hk⟩ := hone_of hone j _ hj'
  have h1 := hf j _ hj'
  rw [ho, hk] at h1
  have hone' : (cs.drop j).take 1 = [cs[j]'(by omega)] := by
    rw [List.drop_eq_getElem_cons (by omega)]
    rfl
  rw [hone'] at h1
  have hys : ys[j]? = some (ys[j]'(by omega)) := List.getElem?_eq_getElem (by omega)
  exact ⟨cs[j]'(by omega), _, _, List.getElem?_eq_getElem (by omega), h1.trans hys⟩
theorem open_trod_struct {r : Reach} {b0 : Nat} {t : TypeId} {fs : Array Field} {v : Value} {d : DataW H} {p : List MemPlace} (hs : P.underlying t = some (.struct fs)) (hone : oneCellFields P fs = true) (hC : P.cellsOf t = fs.size)
    (hv : Value.okWide P w r b0 t v) (h : DataW.Trod enc P w base spare held t v d p) : ∃ cs : List Value, v = .agg cs.toArray ∧ cs.length = fs.size ∧ ∀ (j : Nat) (f : Field), fs[j]? = some f → ∃ c n y, cs[j]? = some c ∧ DataW.trod enc P w base spare held n f.type [c] = some y := by
  obtain ⟨cs, rfl, hsz⟩ := okWide_struct hs hv
  obtain ⟨fuel, hf⟩ := h
  obtain ⟨l⟩ := cs
  have hl : l.length = fs.size := by simpa using hsz.trans hC
  exact ⟨l, rfl, hl, cells_trod hs hone hl (by simpa [Value.cells] using hf)⟩
theorem open_trod_structs {t e : TypeId} {fs : Array Field} {fuel : Nat} {a : Option Addr} {len cap : Nat} {x : DataW H × List MemPlace} (ht : P.underlying t = some (.slice e)) (he : P.underlying e = some (.struct fs))
    (hone : oneCellFields P fs = true) (hC : P.cellsOf e = fs.size) (hpos : 0 < fs.size) (h : DataW.trod enc P w base (fun _ => true) held fuel t (Value.slice a len cap).cells.toList = some x) :
    (a = none ∧ len = 0 ∧ cap = 0) ∨ ∃ (b o : Nat), (len = 0 ∨ a = some ⟨b, o, none⟩) ∧ len ≤ cap ∧ cap ≤ maxLen ∧ (0 < len → b < w.heap.size) ∧ ∀ i, i < len → ∀ (j : Nat) (f : Field), fs[j]? = some f → ∃ c n y, w.cell? ⟨b, o + (i * fs.size + j), none⟩ = some c ∧ DataW.trod enc P w base (fun _ => true) held n f.type [c] = some y := by
  rcases open_slice ht h with ⟨hcs, _⟩ | ⟨y, l, c, m, n, D, Pl, hcs, hb, hl, hm, hmm, _, hi⟩
  · simp [Value.cells] at hcs
    exact .inl hcs
  · right
    simp [Value.cells] at hcs
    obtain ⟨rfl, rfl, rfl⟩ := hcs
    simp at hmm
    subst hmm
    obtain ⟨b, o, spot⟩ := y
    have each : ∀ i, i < len → ∀ (j : Nat) (f : Field), fs[j]? = some f → ∃ c n y, w.cell? ((⟨b, o, spot⟩ : Addr).add (i * fs.size + j)) = some c ∧ DataW.trod enc P w base (fun _ => true) held n f.type [c] = some y := by
      intro i hlt j f hf
      obtain ⟨cs', hc, ht'⟩ := hi i (by omega)
      rw [hC] at hc
      obtain ⟨_, hcl, hat⟩ := World.cells?_some hc
      obtain ⟨c, n, y, h1, h2⟩ := cells_trod he hone hcl ht' j f hf
      refine ⟨c, n, y, ?_, h2⟩
      have hj : j < fs.size := (Array.getElem?_eq_some_iff.1 hf).1
      rw [← Go.Deep.add_add, hat j hj]
      exact h1
    by_cases h0 : len = 0
    · exact ⟨b, o, .inl h0, hl, hm, by omega, by omega⟩
    · obtain ⟨c0, _, _, h1, _⟩ := each 0 (by omega) 0 fs[0] (Array.getElem?_eq_getElem hpos)
      have hspot : spot = none := by simpa [Addr.add] using World.cell?_spot h1
      subst hspot
      refine ⟨b, o, .inr rfl, hl, hm, fun _ => ?_, fun i hi j f hf => ?_⟩
      · rw [add_plain] at h1
        exact World.lt_of_cell h1
      · obtain ⟨c, n, y, h1, h2⟩ := each i hi j f hf
        rw [add_plain] at h1
        exact ⟨c, n, y, h1, h2⟩
end
end Go.Proofs.Ytpnaciamnigbnaa
