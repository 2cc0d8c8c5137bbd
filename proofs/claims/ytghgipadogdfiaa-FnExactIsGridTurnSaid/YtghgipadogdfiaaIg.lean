/- IsGridTurn, as its law asks for it. -/
import Derived.Test.YtghgipadogdfiaaPi
import Derived.Test.YtghgipadogdfiaaIsGridTurnP
namespace Go.Proofs.Ytghgipadogdfiaa
open Go.RowKit

theorem specIsGridTurn_law (t : VGridTurn) (w : World) :
    Calls Try.prog 24 #[.agg #[.int .i64 t.Quarters, .int .i64 t.Num, .int .i64 t.Den, .int .i64 t.East, .int .i64 t.North]] w (IsGridTurn_Post t w) := specIsGridTurn_any t w
theorem implIsGridTurn_law (t : VGridTurn) (w : World) :
    Calls Try.prog 26 #[.agg #[.int .i64 t.Quarters, .int .i64 t.Num, .int .i64 t.Den, .int .i64 t.East, .int .i64 t.North]] w (IsGridTurn_Post t w) := implIsGridTurn_any t w
end Go.Proofs.Ytghgipadogdfiaa
