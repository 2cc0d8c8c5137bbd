/- Loans: both sides. -/
import Derived.Test.YtffbljbgmgifnaaLoi8
import Derived.Test.YtffbljbgmgifnaaLoi9
import Derived.Test.YtffbljbgmgifnaaLos7
import Derived.Test.YtffbljbgmgifnaaLos8
namespace Go.Proofs.Ytffbljbgmgifnaa
end Go.Proofs.Ytffbljbgmgifnaa
