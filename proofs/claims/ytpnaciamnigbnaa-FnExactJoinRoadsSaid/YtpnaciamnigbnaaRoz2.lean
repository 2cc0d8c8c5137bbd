/- Roads: ReverseRoad, JoinRoads, both sides. -/
import Derived.Test.YtpnaciamnigbnaaRoi6
import Derived.Test.YtpnaciamnigbnaaRoi7
import Derived.Test.YtpnaciamnigbnaaRos6
import Derived.Test.YtpnaciamnigbnaaRos7
namespace Go.Proofs.Ytpnaciamnigbnaa
end Go.Proofs.Ytpnaciamnigbnaa
