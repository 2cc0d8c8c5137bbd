/- Readers: what the model's functions leave. -/
import Derived.Test.YtofgpiikhifiaaaDoorRd3
namespace Go.Proofs.YtofgpiikhifiaaaDoor
open Go.RowKit

end Go.Proofs.YtofgpiikhifiaaaDoor
