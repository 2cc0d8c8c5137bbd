/- Roads: IsClearRoad, both sides. -/
import Derived.Test.YtpnaciamnigbnaaRoi10
import Derived.Test.YtpnaciamnigbnaaRos11
namespace Go.Proofs.Ytpnaciamnigbnaa
end Go.Proofs.Ytpnaciamnigbnaa
