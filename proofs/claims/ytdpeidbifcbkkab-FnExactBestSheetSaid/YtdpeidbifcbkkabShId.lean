/- Searches by a number and collecting numbers: the program's indexOfId and idsWhere at Sheet. (made by genid.py) -/
import Derived.Test.YtdpeidbifcbkkabIdx
import Derived.Test.YtdpeidbifcbkkabSw
import Derived.Test.YtdpeidbifcbkkabWh
namespace Go.Proofs.Ytdpeidbifcbkkab
open Go.RowKit

end Go.Proofs.Ytdpeidbifcbkkab
