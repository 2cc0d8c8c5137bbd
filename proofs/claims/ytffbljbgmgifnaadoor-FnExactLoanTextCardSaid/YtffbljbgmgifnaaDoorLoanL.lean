/- The library's functions at slices of Loan: IndexFunc, Clone. (made by genlib.py) -/
import Derived.Test.YtffbljbgmgifnaaDoorLoanT
import Derived.Test.YtffbljbgmgifnaaDoorUp
import Derived.Lib.SliceRun
namespace Go.Proofs.YtffbljbgmgifnaaDoor
open Go.RowKit
theorem list_atLoan {xs : List VLoan} {len k : Nat} (hl : Hid (len = xs.length)) (hk : k < len) : ∃ s, xs[k]? = some s := ⟨xs[k]'(by have := hl.out; omega), List.getElem?_eq_getElem _⟩
theorem made_ownLoan (w : World) (base : Nat) (h : base ≤ w.heap.size) : (w.alloc (.cells #[] 26)).ownsRow base 26 5 (.slice (some ⟨w.heap.size, 0, none⟩) 0 0) ([] : List VLoan).length (cellsLoan []) :=
  World.ownsRow_made (base := base) (e := 26) (size := 5) w #[] 0 h (Nat.zero_le _) rfl
theorem one_Loan (xs : List VLoan) : ∀ u ∈ cellsLoan xs, u.oneCell' = true := by
  intro u hu
  obtain ⟨s, _, hs⟩ := List.mem_flatMap.1 hu
  exact s.vals_one u hs
/-- A call of a function value enters the function. -/
theorem callf_ofLoan {P : Program} {K : FuncId} {fn : Func} (hf : P.funcs[K]? = some fn) (h1 : (fn.name == "runtime.NumGoroutine") = false) (h2 : fn.body.isNone = false) : ∀ args W, (callFunc K args).run P W = .ok (.enter K args) W := by
  intro args W
  have h1' : ¬ fn.name = "runtime.NumGoroutine" := by simpa using h1
  have h2' : ¬ fn.body = none := by intro h; rw [h] at h2; cases h2
  simp [callFunc, go_sem, hf, h1', h2']
end Go.Proofs.YtffbljbgmgifnaaDoor
