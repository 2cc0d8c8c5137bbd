/- Readers in the program: payments, a raised class. -/
import Derived.Test.YtdpeidbifcbkkaaRi4
namespace Go.Proofs.Ytdpeidbifcbkkaa
open Go.RowKit

end Go.Proofs.Ytdpeidbifcbkkaa
