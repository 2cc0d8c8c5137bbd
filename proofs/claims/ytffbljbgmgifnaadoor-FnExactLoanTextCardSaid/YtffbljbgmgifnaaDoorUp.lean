/- Lists of valid elements in strictly ascending order of a number, and where the first element stands that fits: plain mathematics, whatever the elements. -/
import Derived.Test.YtffbljbgmgifnaaDoorBase
namespace Go.Proofs.YtffbljbgmgifnaaDoor
section
variable {α : Type}

/-- The index of the first element that fits, or -1. -/
def firstOf (f : α → Bool) : List α → Int
  | [] => -1
  | s :: l => if f s = true then 0 else if firstOf f l < 0 then -1 else firstOf f l + 1
theorem firstOf_cases (f : α → Bool) (xs : List α) : (firstOf f xs = -1 ∧ ∀ s ∈ xs, f s = false) ∨ ∃ (i : Nat) (s : α), firstOf f xs = (i : Int) ∧ xs[i]? = some s ∧ f s = true ∧ ∀ (j : Nat) t, j < i → xs[j]? = some t → f t = false := by
  induction xs with
  | nil => exact .inl ⟨rfl, by simp⟩
  | cons x l ih =>
    by_cases h : f x = true
    · exact .inr ⟨0, x, by simp [firstOf, h], rfl, h, by omega⟩
    · have h' : f x = false := by simpa using h
      rcases ih with ⟨h1, h2⟩ | ⟨i, s, h1, h2, h3, h4⟩
      · exact .inl ⟨by simp [firstOf, h', h1], by simpa [h'] using h2⟩
      · refine .inr ⟨i + 1, s, by simp [firstOf, h', h1]; omega, h2, h3, fun j t hj ht => ?_⟩
        match j, ht with
        | 0, ht => simp at ht; rw [← ht]; exact h'
        | j + 1, ht => exact h4 j t (by omega) ht
theorem firstOf_at {f : α → Bool} {xs : List α} {i : Nat} {s : α} (hs : xs[i]? = some s) (hf : f s = true) (hb : ∀ (j : Nat) t, j < i → xs[j]? = some t → f t = false) : firstOf f xs = (i : Int) := by
  rcases firstOf_cases f xs with ⟨_, h2⟩ | ⟨i', s', h1, h2, h3, h4⟩
  · rw [h2 s (List.mem_of_getElem? hs)] at hf; cases hf
  · rw [h1]
    have : i' = i := by
      rcases Nat.lt_trichotomy i i' with h | h | h
      · rw [h4 i s h hs] at hf; cases hf
      · exact h.symm
      · rw [hb i' s' h h2] at h3; cases h3
    rw [this]
theorem firstOf_none {f : α → Bool} {xs : List α} (h : ∀ s ∈ xs, f s = false) : firstOf f xs = -1 := by
  rcases firstOf_cases f xs with ⟨h1, _⟩ | ⟨i, s, _, h2, h3, _⟩
  · exact h1
  · rw [h s (List.mem_of_getElem? h2)] at h3; cases h3
theorem firstOf_no {f : α → Bool} {xs : List α} (h : ∀ (j : Nat) t, j < xs.length → xs[j]? = some t → f t = false) : firstOf f xs = -1 :=
  firstOf_none fun s hs => by
    obtain ⟨j, hj⟩ := List.getElem?_of_mem hs
    exact h j s (List.getElem?_eq_some_iff.1 hj).1 hj
theorem firstOf_bd (f : α → Bool) (xs : List α) : -1 ≤ firstOf f xs ∧ firstOf f xs < (xs.length : Int) := by
  rcases firstOf_cases f xs with ⟨h1, _⟩ | ⟨i, s, h1, h2, _⟩
  · omega
  · have := (List.getElem?_eq_some_iff.1 h2).1; omega

/-- Is the element i right: valid, and its number greater than that of the one before? -/
def upStep (ok : α → Bool) (id : α → Int) (xs : List α) (i : Nat) : Bool :=
  match xs[i]? with
  | none => true
  | some s => ok s && (i == 0 || (match xs[i - 1]? with | some p => decide (id p < id s) | none => true))
def upB (ok : α → Bool) (id : α → Int) (xs : List α) : Bool := (List.range xs.length).all (upStep ok id xs)
variable {ok : α → Bool} {id : α → Int} {xs : List α}
theorem upB_iff : upB ok id xs = true ↔ ∀ i, i < xs.length → upStep ok id xs i = true := by simp [upB]
theorem upB_bad {i : Nat} (h : upStep ok id xs i = false) (hi : i < xs.length) : upB ok id xs = false := by
  by_cases h2 : upB ok id xs = true
  · rw [upB_iff.1 h2 i hi] at h; cases h
  · simpa using h2
theorem upStep_zero {s : α} (hs : xs[0]? = some s) : upStep ok id xs 0 = ok s := by unfold upStep; rw [hs]; simp
theorem upStep_succ {i : Nat} {p s : α} (hp : xs[i]? = some p) (hs : xs[i + 1]? = some s) : upStep ok id xs (i + 1) = (ok s && decide (id p < id s)) := by
  unfold upStep; rw [hs]; simp [hp]
theorem upStep_at {i : Nat} {p s : α} (h : 0 < i) (hp : xs[i - 1]? = some p) (hs : xs[i]? = some s) : upStep ok id xs i = (ok s && decide (id p < id s)) := by
  obtain ⟨j, rfl⟩ : ∃ j, i = j + 1 := ⟨i - 1, by omega⟩
  exact upStep_succ hp hs
theorem upB_ok (h : upB ok id xs = true) {s : α} (hs : s ∈ xs) : ok s = true := by
  obtain ⟨i, hi⟩ := List.getElem?_of_mem hs
  have h1 := upB_iff.1 h i (List.getElem?_eq_some_iff.1 hi).1
  unfold upStep at h1
  rw [hi] at h1
  simp at h1
  exact h1.1
theorem upB_lt (h : upB ok id xs = true) : ∀ (j i : Nat) (s t : α), i < j → xs[i]? = some s → xs[j]? = some t → id s < id t := by
  intro j
  induction j with
  | zero => intro i s t hi; omega
  | succ j ih =>
    intro i s t hij hs ht
    have hl := (List.getElem?_eq_some_iff.1 ht).1
    obtain ⟨p, hp⟩ : ∃ p, xs[j]? = some p := ⟨xs[j]'(by omega), List.getElem?_eq_getElem _⟩
    have hpt : id p < id t := by
      have h1 := upB_iff.1 h (j + 1) hl
      rw [upStep_succ hp ht] at h1
      simp at h1
      exact h1.2
    by_cases e : i = j
    · subst e; rw [hs] at hp; cases hp; exact hpt
    · exact Int.lt_trans (ih i s p (by omega) hs hp) hpt
theorem upB_same (h : upB ok id xs = true) {s t : α} (hs : s ∈ xs) (ht : t ∈ xs) (e : id s = id t) : s = t := by
  obtain ⟨i, hi⟩ := List.getElem?_of_mem hs
  obtain ⟨j, hj⟩ := List.getElem?_of_mem ht
  rcases Nat.lt_trichotomy i j with h1 | h1 | h1
  · have := upB_lt h j i s t h1 hi hj; omega
  · subst h1; rw [hi] at hj; exact Option.some.inj hj
  · have := upB_lt h i j t s h1 hj hi; omega
/-- Where the element with a number stands. -/
theorem upB_first (h : upB ok id xs = true) {i : Nat} {s : α} (hs : xs[i]? = some s) : firstOf (fun t => id t == id s) xs = (i : Int) :=
  firstOf_at hs (by simp) fun j t hj ht => by
    have := upB_lt h i j t s hj ht hs
    simp; omega
theorem filter_snoc' {k : Nat} {s : α} (f : α → Bool) (hs : xs[k]? = some s) : (xs.take (k + 1)).filter f = (xs.take k).filter f ++ (if f s = true then [s] else []) := by
  rw [List.take_add_one, hs, List.filter_append]
  cases h : f s <;> simp [h]
theorem filter_len' (f : α → Bool) (xs : List α) (k : Nat) : ((xs.take k).filter f).length ≤ k := Nat.le_trans (List.length_filter_le _ _) (by rw [List.length_take]; omega)
end
end Go.Proofs.YtffbljbgmgifnaaDoor
