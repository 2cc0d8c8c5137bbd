/- The first element that no other one goes before: plain mathematics. -/
import Derived.Test.YtffbljbgmgifnaaDoorUp
namespace Go.Proofs.YtffbljbgmgifnaaDoor
section
variable {α : Type}
def pickB (b : α → α → Bool) (d : α) : List α → α
  | [] => d
  | s :: l => l.foldl (fun m x => if b x m then x else m) s
theorem pickB_snoc (b : α → α → Bool) (d : α) {ys : List α} (h : ys ≠ []) (x : α) : pickB b d (ys ++ [x]) = if b x (pickB b d ys) then x else pickB b d ys := by
  cases ys with
  | nil => exact absurd rfl h
  | cons s l => show List.foldl _ s (l ++ [x]) = _; rw [List.foldl_append]; rfl
theorem pickB_one (b : α → α → Bool) (d x : α) : pickB b d [x] = x := rfl
theorem take_nee {ys : List α} {k : Nat} (h0 : 0 < k) (h : k ≤ ys.length) : ys.take k ≠ [] := fun e => by
  have := congrArg List.length e
  rw [List.length_take, List.length_nil] at this
  omega
theorem take_one {ys : List α} {k : Nat} {x : α} (h : ys[k]? = some x) : ys.take (k + 1) = ys.take k ++ [x] := by rw [List.take_add_one, h]; rfl
theorem pickB_take (b : α → α → Bool) (d : α) {ys : List α} {k : Nat} {x : α} (h0 : 0 < k) (h : ys[k]? = some x) : pickB b d (ys.take (k + 1)) = if b x (pickB b d (ys.take k)) then x else pickB b d (ys.take k) := by
  have hk : k < ys.length := (List.getElem?_eq_some_iff.1 h).1
  rw [take_one h, pickB_snoc b d (take_nee h0 (by omega))]
theorem pickB_mem (b : α → α → Bool) (d : α) {ys : List α} : ∀ k, 0 < k → k ≤ ys.length → pickB b d (ys.take k) ∈ ys.take k := by
  intro k
  induction k with
  | zero => intro h; omega
  | succ k ih =>
    intro _ hk
    have hx : ys[k]? = some (ys[k]'(by omega)) := List.getElem?_eq_getElem _
    by_cases h0 : k = 0
    · subst h0
      rw [take_one hx]
      simp [pickB]
    · rw [pickB_take b d (by omega) hx, take_one hx]
      split
      · exact List.mem_append_right _ (List.mem_singleton.2 rfl)
      · exact List.mem_append_left _ (ih (by omega) (by omega))
end
end Go.Proofs.YtffbljbgmgifnaaDoor
