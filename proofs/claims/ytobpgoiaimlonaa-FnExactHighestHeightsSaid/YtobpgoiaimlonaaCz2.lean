/- Claims: both sides of the laws on rises. -/
import Derived.Test.YtobpgoiaimlonaaM6
import Derived.Test.YtobpgoiaimlonaaM8
namespace Go.Proofs.Ytobpgoiaimlonaa
end Go.Proofs.Ytobpgoiaimlonaa
