/- Sheets in a list: where one stands, and when a list is one of sheets: plain mathematics. -/
import Derived.Test.YtidaoijpbdljbaaSheet
namespace Go.Proofs.Ytidaoijpbdljbaa

/-- Stands the sheet at a row, a col and a scale? -/
def Sh.at_ (s : Sh) (r c sc : Int) : Bool := s.row == r && (s.col == c && s.scale == sc)
theorem Sh.at_iff {s : Sh} {r c sc : Int} : s.at_ r c sc = true ↔ s.row = r ∧ s.col = c ∧ s.scale = sc := by simp [Sh.at_]
/-- The index of the first element that fits, or -1. -/
def idxOf (f : Sh → Bool) : List Sh → Int
  | [] => -1
  | s :: l => if f s = true then 0 else if idxOf f l < 0 then -1 else idxOf f l + 1
theorem idxOf_cases (f : Sh → Bool) (xs : List Sh) : (idxOf f xs = -1 ∧ ∀ s ∈ xs, f s = false) ∨ ∃ (i : Nat) (s : Sh), idxOf f xs = (i : Int) ∧ xs[i]? = some s ∧ f s = true ∧ ∀ (j : Nat) t, j < i → xs[j]? = some t → f t = false := by
  induction xs with
  | nil => exact .inl ⟨rfl, by simp⟩
  | cons x l ih =>
    by_cases h : f x = true
    · exact .inr ⟨0, x, by simp [idxOf, h], rfl, h, by omega⟩
    · have h' : f x = false := by simpa using h
      rcases ih with ⟨h1, h2⟩ | ⟨i, s, h1, h2, h3, h4⟩
      · exact .inl ⟨by simp [idxOf, h', h1], by simpa [h'] using h2⟩
      · refine .inr ⟨i + 1, s, by simp [idxOf, h', h1]; omega, h2, h3, fun j t hj ht => ?_⟩
        match j, ht with
        | 0, ht => simp at ht; rw [← ht]; exact h'
        | j + 1, ht => exact h4 j t (by omega) ht
theorem idxOf_at {f : Sh → Bool} {xs : List Sh} {i : Nat} {s : Sh} (hs : xs[i]? = some s) (hf : f s = true) (hb : ∀ (j : Nat) t, j < i → xs[j]? = some t → f t = false) : idxOf f xs = (i : Int) := by
  rcases idxOf_cases f xs with ⟨_, h2⟩ | ⟨i', s', h1, h2, h3, h4⟩
  · rw [h2 s (List.mem_of_getElem? hs)] at hf; cases hf
  · rw [h1]
    have : i' = i := by
      rcases Nat.lt_trichotomy i i' with h | h | h
      · rw [h4 i s h hs] at hf; cases hf
      · exact h.symm
      · rw [hb i' s' h h2] at h3; cases h3
    rw [this]
theorem idxOf_none {f : Sh → Bool} {xs : List Sh} (h : ∀ s ∈ xs, f s = false) : idxOf f xs = -1 := by
  rcases idxOf_cases f xs with ⟨h1, _⟩ | ⟨i, s, _, h2, h3, _⟩
  · exact h1
  · rw [h s (List.mem_of_getElem? h2)] at h3; cases h3
theorem idxOf_bd (f : Sh → Bool) (xs : List Sh) : -1 ≤ idxOf f xs ∧ idxOf f xs < (xs.length : Int) := by
  rcases idxOf_cases f xs with ⟨h1, _⟩ | ⟨i, s, h1, h2, _⟩
  · omega
  · have := (List.getElem?_eq_some_iff.1 h2).1; omega
/-- Where the sheet at a row, a col and a scale stands, or -1. -/
def idxAt (xs : List Sh) (r c sc : Int) : Int := idxOf (fun s => s.at_ r c sc) xs
/-- Is the element i of a list of sheets right? -/
def okAt (xs : List Sh) (i : Nat) : Bool :=
  match xs[i]? with
  | none => true
  | some s => s.ok && ((i == 0 || (match xs[i - 1]? with | some p => decide (p.id < s.id) | none => true)) && !((xs.take i).any fun t => t.at_ s.row s.col s.scale))
/-- Are these sheets? -/
def areSh (xs : List Sh) : Bool := decide (xs.length ≤ 12) && (List.range xs.length).all (okAt xs)
theorem areSh_iff {xs : List Sh} : areSh xs = true ↔ xs.length ≤ 12 ∧ ∀ i, i < xs.length → okAt xs i = true := by simp [areSh]
theorem areSh_long {xs : List Sh} (h : 12 < xs.length) : areSh xs = false := by simp [areSh]; omega
theorem areSh_bad {xs : List Sh} {i : Nat} (h : okAt xs i = false) (hi : i < xs.length) : areSh xs = false := by
  by_cases h2 : areSh xs = true
  · rw [(areSh_iff.1 h2).2 i hi] at h; cases h
  · simpa using h2
theorem okAt_some {xs : List Sh} {i : Nat} {s : Sh} (hs : xs[i]? = some s) : okAt xs i = (s.ok && ((i == 0 || (match xs[i - 1]? with | some p => decide (p.id < s.id) | none => true)) && !((xs.take i).any fun t => t.at_ s.row s.col s.scale))) := by
  unfold okAt; rw [hs]
theorem take_any_false {xs : List Sh} {i : Nat} {f : Sh → Bool} : (xs.take i).any f = false ↔ ∀ (j : Nat) t, j < i → xs[j]? = some t → f t = false := by
  rw [List.any_eq_false]
  constructor
  · intro h j t hj ht
    have := h t (List.mem_of_getElem? (l := xs.take i) (i := j) (by rw [List.getElem?_take_of_lt hj]; exact ht))
    simpa using this
  · intro h t ht
    obtain ⟨j, hj⟩ := List.getElem?_of_mem ht
    have hlt : j < i := by have := (List.getElem?_eq_some_iff.1 hj).1; simp at this; omega
    rw [List.getElem?_take_of_lt hlt] at hj
    simp [h j t hlt hj]
/-- An element is right when nothing before it stands where it stands: as the model asks (its index is its own). -/
theorem idxAt_self {xs : List Sh} {i : Nat} {s : Sh} (hs : xs[i]? = some s) : idxAt xs s.row s.col s.scale = (i : Int) ↔ ((xs.take i).any fun t => t.at_ s.row s.col s.scale) = false := by
  rw [take_any_false]
  constructor
  · intro h j t hj ht
    rcases idxOf_cases (fun u => u.at_ s.row s.col s.scale) xs with ⟨h1, _⟩ | ⟨i', s', h1, _, _, h4⟩
    · unfold idxAt at h; rw [h1] at h; omega
    · unfold idxAt at h; rw [h1] at h
      exact h4 j t (by omega) ht
  · intro h
    exact idxOf_at hs (by simp [Sh.at_]) h
/-- And as the program asks (no index before it). -/
theorem idxAt_before {xs : List Sh} {i : Nat} {s : Sh} : idxAt (xs.take i) s.row s.col s.scale < 0 ↔ ((xs.take i).any fun t => t.at_ s.row s.col s.scale) = false := by
  constructor
  · intro h
    rcases idxOf_cases (fun u => u.at_ s.row s.col s.scale) (xs.take i) with ⟨_, h2⟩ | ⟨i', s', h1, _⟩
    · rw [List.any_eq_false]; intro x hx; simp [h2 x hx]
    · unfold idxAt at h; rw [h1] at h; omega
  · intro h
    rw [List.any_eq_false] at h
    have : idxAt (xs.take i) s.row s.col s.scale = -1 := idxOf_none (fun t ht => by have := h t ht; simpa using this)
    omega
end Go.Proofs.Ytidaoijpbdljbaa
