/- Loans: both sides. -/
import Derived.Test.YtffbljbgmgifnaaLoi3
import Derived.Test.YtffbljbgmgifnaaLoi5
import Derived.Test.YtffbljbgmgifnaaLos5
namespace Go.Proofs.Ytffbljbgmgifnaa
theorem implAreLoans_any (a : Option Addr) (len cap : Nat) (xs : List VLoan) (w : World) (h : IsLoanS w a len cap xs) (_ : xs.length ≤ 1048576) :
    Calls Try.prog 45 #[.slice a len cap] w (AreLoans_Post xs w) := areLoans_any a len cap xs w h
end Go.Proofs.Ytffbljbgmgifnaa
