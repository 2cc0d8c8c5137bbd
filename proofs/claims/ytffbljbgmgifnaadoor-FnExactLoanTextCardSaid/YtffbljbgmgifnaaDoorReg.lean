/- Regions that draw their order and whose callees may lay blocks: walked once, in the text's order. -/
import Derived.Test.YtffbljbgmgifnaaDoorBase
import Derived.Lib.QuietBelow
namespace Go.Proofs.YtffbljbgmgifnaaDoor
open Go.RowKit

/-- A callee's contract, in every world of a drawn region's class. -/
theorem below_at {P : Program} {f : FuncId} {args : Array Value} {v : Value} {W : World} (h : ∀ W', Below W.heap.size W W' → Calls P f args W' fun e w' => e = .returned v ∧ Below W'.heap.size W' w') :
    ∀ d os, Calls P f args (Sort.grow (redrawn W d) os) fun e w'' => e = .returned v ∧ ∃ p : Regrown, w'' = Sort.grow (redrawn W p.d) p.os := fun d os => Calls.regrown_of (h _ (below_regrown W d os))
theorem below_of_re {W W' : World} (h : ∃ p : Regrown, W' = Sort.grow (redrawn W p.d) p.os) : Below W.heap.size W W' := by
  obtain ⟨p, rfl⟩ := h
  exact below_regrown _ _ _
theorem same_below {P : Program} {f : FuncId} {args : Array Value} {v : Value} {W : World} (h : Calls P f args W fun e w' => e = .returned v ∧ W = w') : Calls P f args W fun e w' => e = .returned v ∧ Below W.heap.size W w' :=
  h.mono fun _ _ ⟨he, hw⟩ => ⟨he, hw ▸ Below.refl _ _⟩
theorem World.lt_of_cell {w : World} {b o : Nat} {v : Value} (h : w.cell? ⟨b, o, none⟩ = some v) : b < w.heap.size := block_lt_of_cell h
theorem wp_world {P : Program} {c : Code} {Q : Exit → Act → World → Prop} {a : Act} {w0 : World} (F : World → Prop) (h0 : F w0) (h : ∀ W, F W → Code.wp P c Q a W) : Code.wp P c Q a w0 := h w0 h0
end Go.Proofs.YtffbljbgmgifnaaDoor
