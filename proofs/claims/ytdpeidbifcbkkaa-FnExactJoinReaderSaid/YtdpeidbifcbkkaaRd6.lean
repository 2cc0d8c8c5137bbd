/- Readers: ripe readers, a raised class, how many sheets one may take. In the model. -/
import Derived.Test.YtdpeidbifcbkkaaRd5
namespace Go.Proofs.Ytdpeidbifcbkkaa
open Go.RowKit

end Go.Proofs.Ytdpeidbifcbkkaa
