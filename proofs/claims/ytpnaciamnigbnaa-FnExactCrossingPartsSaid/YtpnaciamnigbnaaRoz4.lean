/- Roads: CrossingParts, both sides. -/
import Derived.Test.YtpnaciamnigbnaaRoi10
import Derived.Test.YtpnaciamnigbnaaRos10
namespace Go.Proofs.Ytpnaciamnigbnaa
end Go.Proofs.Ytpnaciamnigbnaa
