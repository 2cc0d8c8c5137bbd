/- Readers: the ripe ones, and who joins. In the model. -/
import Derived.Test.YtdpeidbifcbkkaaRd6
namespace Go.Proofs.Ytdpeidbifcbkkaa
open Go.RowKit

end Go.Proofs.Ytdpeidbifcbkkaa
