/- Roads: AlongRoad, DetourOf, both sides. -/
import Derived.Test.YtpnaciamnigbnaaRoi8
import Derived.Test.YtpnaciamnigbnaaRos8
namespace Go.Proofs.Ytpnaciamnigbnaa
end Go.Proofs.Ytpnaciamnigbnaa
