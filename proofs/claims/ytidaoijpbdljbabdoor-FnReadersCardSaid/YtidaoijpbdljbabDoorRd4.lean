/- Readers: what the model's functions leave. -/
import Derived.Test.YtidaoijpbdljbabDoorRd3
namespace Go.Proofs.YtidaoijpbdljbabDoor
open Go.RowKit

end Go.Proofs.YtidaoijpbdljbabDoor
