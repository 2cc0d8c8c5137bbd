/- What a function gives back whose result lies in a cell: Spot. (made by genres.py) -/
import Derived.Test.YtdpeidbifcbkkabSpotT
namespace Go.Proofs.Ytdpeidbifcbkkab
open Go.RowKit
end Go.Proofs.Ytdpeidbifcbkkab
