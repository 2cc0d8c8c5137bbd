/- All that the laws of stage 9 that draw want. -/
import Derived.Test.YtpnaciamnigbnaaM3
import Derived.Test.YtpnaciamnigbnaaM7
import Derived.Test.YtpnaciamnigbnaaM8
import Derived.Test.YtpnaciamnigbnaaM9
import Derived.Test.YtpnaciamnigbnaaM11
namespace Go.Proofs.Ytpnaciamnigbnaa
end Go.Proofs.Ytpnaciamnigbnaa
