/- Readers: both sides of each law of the chapter but OweMost's. -/
import Derived.Test.YtidaoijpbdljbabRi7
import Derived.Test.YtidaoijpbdljbabRd10
namespace Go.Proofs.Ytidaoijpbdljbab
open Go.RowKit

theorem implIsReader_any (s : VReader) (w : World) (hz : s.sized) : Calls Try.prog 63 #[.agg #[.int .i64 s.Id, .string s.Name, .int .i64 s.Joined, .int .i64 s.Class, .int .i64 s.Fines]] w (IsReader_Post s w) := isRd_any s w (sized_smallReader s hz)
theorem implAreReaders_any (a : Option Addr) (len cap : Nat) (xs : List VReader) (w : World) (h : IsReaderS w a len cap xs) (_ : xs.length ≤ 1048576) (_ : ∀ s ∈ xs, s.sized) :
    Calls Try.prog 74 #[.slice a len cap] w (AreReaders_Post xs w) := areRd_any a len cap xs w h
end Go.Proofs.Ytidaoijpbdljbab
