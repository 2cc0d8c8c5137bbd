/- Readers in the program: ripe readers, the counts of the classes. -/
import Derived.Test.YtidaoijpbdljbabRi6
import Derived.Test.YtidaoijpbdljbabRd9
namespace Go.Proofs.Ytidaoijpbdljbab
open Go.RowKit

theorem nil_intRow (w : World) (base : Nat) : w.ownsRow base 3 1 (.slice none 0 0) ([] : List Int).length (intCells []) := ⟨by simp [intCells], .inl ⟨rfl, rfl⟩⟩
end Go.Proofs.Ytidaoijpbdljbab
