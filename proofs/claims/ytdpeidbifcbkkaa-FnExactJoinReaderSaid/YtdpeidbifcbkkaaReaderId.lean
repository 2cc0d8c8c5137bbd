/- Searches by a number and collecting numbers: the program's indexOfId and idsWhere at Reader. (made by genid.py) -/
import Derived.Test.YtdpeidbifcbkkaaReaderL
import Derived.Test.YtdpeidbifcbkkaaSw
import Derived.Test.YtdpeidbifcbkkaaWh
namespace Go.Proofs.Ytdpeidbifcbkkaa
open Go.RowKit

end Go.Proofs.Ytdpeidbifcbkkaa
