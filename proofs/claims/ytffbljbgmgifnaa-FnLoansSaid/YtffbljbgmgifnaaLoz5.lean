/- All that FnLoans wants. -/
import Derived.Test.YtffbljbgmgifnaaM3
import Derived.Test.YtffbljbgmgifnaaM5
import Derived.Test.YtffbljbgmgifnaaM6
import Derived.Test.YtffbljbgmgifnaaM7
import Derived.Test.YtffbljbgmgifnaaM8
namespace Go.Proofs.Ytffbljbgmgifnaa
end Go.Proofs.Ytffbljbgmgifnaa
