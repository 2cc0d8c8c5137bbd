/- SheetAt, in the model and in the program: the same id. -/
import Derived.Test.YtdpeidbifcbkkabAre3
namespace Go.Proofs.Ytdpeidbifcbkkab
open Go.RowKit

def atOk (xs : List Sh) (r c sc : Int) : Bool := areSh xs && decide (0 ≤ idxAt xs r c sc)
def atVal (xs : List Sh) (r c sc : Int) : Int := if atOk xs r c sc = true then ((xs[(idxAt xs r c sc).toNat]?).map Sh.id).getD 0 else 0
theorem at_ways (xs : List Sh) (r c sc : Int) : (areSh xs = false ∧ atOk xs r c sc = false ∧ atVal xs r c sc = 0) ∨ (areSh xs = true ∧ idxAt xs r c sc = -1 ∧ atOk xs r c sc = false ∧ atVal xs r c sc = 0) ∨
    (areSh xs = true ∧ ∃ (i : Nat) (s : Sh), idxAt xs r c sc = (i : Int) ∧ xs[i]? = some s ∧ atOk xs r c sc = true ∧ atVal xs r c sc = s.id) := by
  by_cases h : areSh xs = true
  · right
    rcases idxOf_cases (fun s => s.at_ r c sc) xs with ⟨h1, _⟩ | ⟨i, s, h1, h2, _⟩
    · have e : atOk xs r c sc = false := by unfold atOk idxAt; rw [h, h1]; rfl
      exact .inl ⟨h, h1, e, by unfold atVal; rw [e]; rfl⟩
    · have e : atOk xs r c sc = true := by unfold atOk idxAt; rw [h, h1]; simp
      refine .inr ⟨h, i, s, h1, h2, e, ?_⟩
      unfold atVal
      rw [if_pos e, show idxAt xs r c sc = (i : Int) from h1, Int.toNat_natCast, h2]
      rfl
  · have h' : areSh xs = false := by simpa using h
    have e : atOk xs r c sc = false := by unfold atOk; rw [h']; rfl
    exact .inl ⟨h', e, by unfold atVal; rw [e]; rfl⟩
theorem ret_ib {a b : Int} {p q : Bool} (h : a = b) (k : p = q) : Ending.returned (.tuple #[.int .i64 a, .bool p]) = .returned (.tuple #[.int .i64 b, .bool q]) := by rw [h, k]

end Go.Proofs.Ytdpeidbifcbkkab
