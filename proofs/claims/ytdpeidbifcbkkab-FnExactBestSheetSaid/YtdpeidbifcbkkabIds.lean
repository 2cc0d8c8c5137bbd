/- The ids of the sheets that stand in a relation to one of them: the program's idsRelatedTo, whatever the relation. -/
import Derived.Test.YtdpeidbifcbkkabRel
import Derived.Test.YtdpeidbifcbkkabInts
import Derived.OwnWalk
namespace Go.Proofs.Ytdpeidbifcbkkab
open Go.RowKit

def relOk (xs : List Sh) (id : Int) : Bool := areSh xs && decide (0 ≤ idxId xs id)
def relIds (R : Sh → Sh → Bool) (xs : List Sh) (id : Int) : List Int := if relOk xs id = true then (match xs[(idxId xs id).toNat]? with | some x => (xs.filter (R x)).map Sh.id | none => []) else []
theorem rel_ways (R : Sh → Sh → Bool) (xs : List Sh) (id : Int) : (areSh xs = false ∧ relOk xs id = false ∧ relIds R xs id = []) ∨ (areSh xs = true ∧ idxId xs id = -1 ∧ relOk xs id = false ∧ relIds R xs id = []) ∨
    (areSh xs = true ∧ ∃ (i : Nat) (s : Sh), idxId xs id = (i : Int) ∧ xs[i]? = some s ∧ relOk xs id = true ∧ relIds R xs id = (xs.filter (R s)).map Sh.id) := by
  by_cases h : areSh xs = true
  · right
    rcases idxOf_cases (fun s => s.id == id) xs with ⟨h1, _⟩ | ⟨i, s, h1, h2, _⟩
    · have e : relOk xs id = false := by unfold relOk idxId; rw [h, h1]; rfl
      exact .inl ⟨h, h1, e, by unfold relIds; rw [e]; rfl⟩
    · have e : relOk xs id = true := by unfold relOk idxId; rw [h, h1]; simp
      refine .inr ⟨h, i, s, h1, h2, e, ?_⟩
      unfold relIds
      rw [if_pos e, show idxId xs id = (i : Int) from h1, Int.toNat_natCast, h2]
  · have h' : areSh xs = false := by simpa using h
    have e : relOk xs id = false := by unfold relOk; rw [h']; rfl
    exact .inl ⟨h', e, by unfold relIds; rw [e]; rfl⟩
theorem okAt_ok {xs : List Sh} {i : Nat} {s : Sh} (h : okAt xs i = true) (hs : xs[i]? = some s) : s.ok = true := by
  rw [okAt_some hs] at h; simp only [Bool.and_eq_true] at h; exact h.1
theorem areSh_ok {xs : List Sh} (h : areSh xs = true) {s : Sh} (hs : s ∈ xs) : s.ok = true := by
  obtain ⟨i, hi⟩ := List.getElem?_of_mem hs
  exact okAt_ok ((areSh_iff.1 h).2 i (List.getElem?_eq_some_iff.1 hi).1) hi
theorem filter_snoc {xs : List Sh} {k : Nat} {s : Sh} (f : Sh → Bool) (hs : xs[k]? = some s) : (xs.take (k + 1)).filter f = (xs.take k).filter f ++ (if f s = true then [s] else []) := by
  rw [List.take_add_one, hs, List.filter_append]
  simp [List.filter_cons]
theorem filter_len (f : Sh → Bool) (xs : List Sh) (k : Nat) : ((xs.take k).filter f).length ≤ k := Nat.le_trans (List.length_filter_le _ _) (by rw [List.length_take]; omega)
theorem nil_row (w : World) (base : Nat) (e : TypeId) : w.ownsRow base e 1 (.slice none 0 0) ([] : List Int).length (intCells []) := ⟨by simp [intCells], .inl ⟨rfl, rfl⟩⟩
theorem ret_vb {v : Value} {p q : Bool} (k : p = q) : Ending.returned (.tuple #[v, .bool p]) = .returned (.tuple #[v, .bool q]) := by rw [k]

end Go.Proofs.Ytdpeidbifcbkkab
