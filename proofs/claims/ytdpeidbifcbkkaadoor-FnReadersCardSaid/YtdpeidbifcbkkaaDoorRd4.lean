/- Readers: what the model's functions leave. -/
import Derived.Test.YtdpeidbifcbkkaaDoorRd3
namespace Go.Proofs.YtdpeidbifcbkkaaDoor
open Go.RowKit

end Go.Proofs.YtdpeidbifcbkkaaDoor
