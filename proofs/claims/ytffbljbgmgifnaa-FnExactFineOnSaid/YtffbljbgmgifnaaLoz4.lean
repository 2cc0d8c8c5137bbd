/- Loans: FineOn, both sides. -/
import Derived.Test.YtffbljbgmgifnaaLoi7
import Derived.Test.YtffbljbgmgifnaaLos7
namespace Go.Proofs.Ytffbljbgmgifnaa
end Go.Proofs.Ytffbljbgmgifnaa
