/- Claims: both sides of the chapter's laws but those on rises. -/
import Derived.Test.YtobpgoiaimlonaaM6
import Derived.Test.YtobpgoiaimlonaaM7
namespace Go.Proofs.Ytobpgoiaimlonaa
end Go.Proofs.Ytobpgoiaimlonaa
