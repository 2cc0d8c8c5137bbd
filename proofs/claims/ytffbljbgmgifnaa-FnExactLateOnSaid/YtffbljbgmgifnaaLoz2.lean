/- Loans: both sides. -/
import Derived.Test.YtffbljbgmgifnaaLoi6
import Derived.Test.YtffbljbgmgifnaaLos6
namespace Go.Proofs.Ytffbljbgmgifnaa
end Go.Proofs.Ytffbljbgmgifnaa
