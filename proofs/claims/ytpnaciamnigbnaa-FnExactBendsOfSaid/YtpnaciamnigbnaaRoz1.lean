/- Roads: IsRoadLine, RoadLength, BendsOf, PlainRoad, both sides. -/
import Derived.Test.YtpnaciamnigbnaaRoi3
import Derived.Test.YtpnaciamnigbnaaRoi5
import Derived.Test.YtpnaciamnigbnaaRos2
import Derived.Test.YtpnaciamnigbnaaRos5
namespace Go.Proofs.Ytpnaciamnigbnaa
end Go.Proofs.Ytpnaciamnigbnaa
