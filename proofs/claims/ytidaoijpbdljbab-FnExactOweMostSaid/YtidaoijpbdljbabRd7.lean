/- Readers: the ripe ones, and who joins. In the model. -/
import Derived.Test.YtidaoijpbdljbabRd6
namespace Go.Proofs.Ytidaoijpbdljbab
open Go.RowKit

end Go.Proofs.Ytidaoijpbdljbab
