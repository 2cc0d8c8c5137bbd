/- What a function gives back whose result lies in a cell: Spot. (made by genres.py) -/
import Derived.Test.YtidaoijpbdljbaaSpotT
namespace Go.Proofs.Ytidaoijpbdljbaa
open Go.RowKit
end Go.Proofs.Ytidaoijpbdljbaa
