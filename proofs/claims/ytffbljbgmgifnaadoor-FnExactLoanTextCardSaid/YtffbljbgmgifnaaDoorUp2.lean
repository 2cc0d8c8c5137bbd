/- Lists that are valid and strictly ascending, on: one element replaced by one of the same number; a list without its last element. -/
import Derived.Test.YtffbljbgmgifnaaDoorUp
namespace Go.Proofs.YtffbljbgmgifnaaDoor
section
variable {α : Type} {ok : α → Bool} {id : α → Int} {xs : List α}
theorem upStep_set_ne {i j : Nat} {s r : α} (hs : xs[i]? = some s) (e : id r = id s) (hj : j ≠ i) : upStep ok id (xs.set i r) j = upStep ok id xs j := by
  have hi := (List.getElem?_eq_some_iff.1 hs).1
  unfold upStep
  rw [List.getElem?_set_ne (Ne.symm hj)]
  cases h : xs[j]? with
  | none => rfl
  | some t =>
    by_cases h2 : i = j - 1
    · subst h2; rw [List.getElem?_set_self hi, hs]; simp [e]
    · rw [List.getElem?_set_ne h2]
theorem upStep_set_self {i : Nat} {s r : α} (hs : xs[i]? = some s) (e : id r = id s) (h : upStep ok id xs i = true) : upStep ok id (xs.set i r) i = ok r := by
  have hi := (List.getElem?_eq_some_iff.1 hs).1
  unfold upStep at h ⊢
  rw [hs] at h
  rw [List.getElem?_set_self hi]
  simp only [Bool.and_eq_true] at h
  by_cases h0 : i = 0
  · subst h0; simp
  · rw [List.getElem?_set_ne (by omega)]
    have h2 := h.2
    cases hp : xs[i - 1]? with
    | none => simp
    | some p => rw [hp] at h2; simp [h0] at h2; simp [e, h2]
theorem upB_set {i : Nat} {s r : α} (h : upB ok id xs = true) (hs : xs[i]? = some s) (e : id r = id s) : upB ok id (xs.set i r) = ok r := by
  have hi := (List.getElem?_eq_some_iff.1 hs).1
  have h1 := upStep_set_self (ok := ok) hs e (upB_iff.1 h i hi)
  cases hr : ok r with
  | true =>
    refine upB_iff.2 fun j hj => ?_
    rw [List.length_set] at hj
    by_cases hji : j = i
    · subst hji; rw [h1, hr]
    · rw [upStep_set_ne hs e hji]; exact upB_iff.1 h j hj
  | false => exact upB_bad (by rw [h1, hr]) (by rw [List.length_set]; exact hi)
theorem upStep_app {ys : List α} {j : Nat} (hj : j < xs.length) : upStep ok id (xs ++ ys) j = upStep ok id xs j := by
  unfold upStep
  rw [List.getElem?_append_left hj]
  by_cases h0 : j = 0
  · subst h0; simp
  · rw [List.getElem?_append_left (by omega)]
theorem upB_prefix {ys : List α} (h : upB ok id (xs ++ ys) = true) : upB ok id xs = true :=
  upB_iff.2 fun j hj => by rw [← upStep_app (ys := ys) hj]; exact upB_iff.1 h j (by rw [List.length_append]; omega)
end
end Go.Proofs.YtffbljbgmgifnaaDoor
