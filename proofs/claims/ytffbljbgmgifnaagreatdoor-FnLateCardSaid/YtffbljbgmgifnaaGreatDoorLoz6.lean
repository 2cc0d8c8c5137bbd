/- All that FnLate wants. -/
import Derived.Test.YtffbljbgmgifnaaGreatDoorM3
import Derived.Test.YtffbljbgmgifnaaGreatDoorM6
import Derived.Test.YtffbljbgmgifnaaGreatDoorM7
import Derived.Test.YtffbljbgmgifnaaGreatDoorM8
import Derived.Test.YtffbljbgmgifnaaGreatDoorM9
import Derived.Test.YtffbljbgmgifnaaGreatDoorM10
namespace Go.Proofs.YtffbljbgmgifnaaGreatDoor
end Go.Proofs.YtffbljbgmgifnaaGreatDoor
