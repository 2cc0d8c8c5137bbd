/- What the laws' drawing functions give over a code: some texts within bounds; the world below stands. -/
import Derived.Test.YtidaoijpbdljbaaDraw0
namespace Go.Proofs.Ytidaoijpbdljbaa
open Go.RowKit

/-- What DrawSplitString gives, and DrawLessString: two short texts. -/
def TwoPost (w : World) (e : Ending) (w' : World) : Prop := ∃ x y : ByteArray, e = .returned (.tuple #[.string x, .string y]) ∧ x.size ≤ 10 ∧ y.size ≤ 10 ∧ Below w.heap.size w w'
