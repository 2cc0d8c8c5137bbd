/-
  No cell of these rows narrows 'for every input' (looked for: loops, veiled, ifaces, maps, wideKeys, modest, calm, conditions, laid).
  DERIVED. THE GIVEN ROWS OF THIS SEAT. 11 by the template 'for every input the law returns true; each argument reads behind the call as it read before'; 0 by the template 'total and deterministic' (their statements: YtidaoijpbdljbaaTotals.lean).
  GIVEN WITH THE SEED: the statements are not yours to turn. If you find one false, say at which input.
  Laid BY PROGRAM, IN A SANDBOX (cutbox-rows.mjs): the forced cells as the released guide's own fill.sh prints them over the translation 441363e12d996e06… (all of the seat's roots in one cut). By AI agents, Wed Nov 11 2026. No macro, syntax, notation, axiom, sorry.
-/
import Derived.Test.YtidaoijpbdljbaaChecked
import GoSem.Claim
import GoSem.ClaimJoined
import GoSem.ClaimMapViews
import Derived.JoinedTies
import Derived.KernelRfl
namespace Go.Proofs.Ytidaoijpbdljbaa
/- THE CELL 'sum', in the pinned program and in every row, IS THE sha256 OF THE DUMP (.gsa) THAT YtidaoijpbdljbaaProg.lean LOADS. Nothing in Lean hashes anything: it is a label: what it is worth is what the hold of that sum in a sandbox is worth. -/
noncomputable def Try.pinned : Pinned := { name := "ytidaoijpbdljbaa", sum := "441363e12d996e069fa635f45b598efb6b26cb6ee47416b77984288109d12a59", checked := Try.checked }
namespace Rows
def none {H : Type} : Left H := { results := [], args := [] }

/-- 'laws.FnNeighbors': WHATEVER THE INPUT: true; the input reads as it did. -/
def fnNeighborsSpec : ChangeSpec := { name := "fnNeighbors", fn := fun _ => fun
  | [d] => { results := [.lit (.bool true)], args := [d] }
  | _ => none }
def fnNeighborsRow : OpenClaim := { program := "ytidaoijpbdljbaa", sum := "441363e12d996e069fa635f45b598efb6b26cb6ee47416b77984288109d12a59", func := "loop.example/g01060/laws.FnNeighbors", spec := "fnNeighbors", unfollowed := true, recurses := true, apart := false }
def FnNeighborsSaid : Prop := fnNeighborsRow.holds Try.pinned (OpenSpec.ofChange fnNeighborsSpec)

/-- ITS FALSE NEIGHBOUR: 'it returns false'. Refute it at one input. -/
def fnNeighborsWrong : ChangeSpec := { name := "fnNeighbors", fn := fun _ => fun
  | [d] => { results := [.lit (.bool false)], args := [d] }
  | _ => none }
def FnNeighborsWrongFalsely : Prop := fnNeighborsRow.holds Try.pinned (OpenSpec.ofChange fnNeighborsWrong)

/-- 'laws.FnExactIsSheet': WHATEVER THE INPUT: true; the input reads as it did. -/
def fnExactIsSheetSpec : ChangeSpec := { name := "fnExactIsSheet", fn := fun _ => fun
  | [d] => { results := [.lit (.bool true)], args := [d] }
  | _ => none }
def fnExactIsSheetRow : OpenClaim := { program := "ytidaoijpbdljbaa", sum := "441363e12d996e069fa635f45b598efb6b26cb6ee47416b77984288109d12a59", func := "loop.example/g01060/laws.FnExactIsSheet", spec := "fnExactIsSheet", apart := false }
def FnExactIsSheetSaid : Prop := fnExactIsSheetRow.holds Try.pinned (OpenSpec.ofChange fnExactIsSheetSpec)

/-- ITS FALSE NEIGHBOUR: 'it returns false'. Refute it at one input. -/
def fnExactIsSheetWrong : ChangeSpec := { name := "fnExactIsSheet", fn := fun _ => fun
  | [d] => { results := [.lit (.bool false)], args := [d] }
  | _ => none }
def FnExactIsSheetWrongFalsely : Prop := fnExactIsSheetRow.holds Try.pinned (OpenSpec.ofChange fnExactIsSheetWrong)

/-- 'laws.FnExactAreSheets': WHATEVER THE INPUT: true; the input reads as it did. -/
def fnExactAreSheetsSpec : ChangeSpec := { name := "fnExactAreSheets", fn := fun _ => fun
  | [d] => { results := [.lit (.bool true)], args := [d] }
  | _ => none }
def fnExactAreSheetsRow : OpenClaim := { program := "ytidaoijpbdljbaa", sum := "441363e12d996e069fa635f45b598efb6b26cb6ee47416b77984288109d12a59", func := "loop.example/g01060/laws.FnExactAreSheets", spec := "fnExactAreSheets", unfollowed := true, recurses := true, apart := false }
def FnExactAreSheetsSaid : Prop := fnExactAreSheetsRow.holds Try.pinned (OpenSpec.ofChange fnExactAreSheetsSpec)

/-- ITS FALSE NEIGHBOUR: 'it returns false'. Refute it at one input. -/
def fnExactAreSheetsWrong : ChangeSpec := { name := "fnExactAreSheets", fn := fun _ => fun
  | [d] => { results := [.lit (.bool false)], args := [d] }
  | _ => none }
def FnExactAreSheetsWrongFalsely : Prop := fnExactAreSheetsRow.holds Try.pinned (OpenSpec.ofChange fnExactAreSheetsWrong)

/-- 'laws.FnExactSheetAt': WHATEVER THE INPUT: true; the input reads as it did. -/
def fnExactSheetAtSpec : ChangeSpec := { name := "fnExactSheetAt", fn := fun _ => fun
  | [d1, d2, d3, d4] => { results := [.lit (.bool true)], args := [d1, d2, d3, d4] }
  | _ => none }
def fnExactSheetAtRow : OpenClaim := { program := "ytidaoijpbdljbaa", sum := "441363e12d996e069fa635f45b598efb6b26cb6ee47416b77984288109d12a59", func := "loop.example/g01060/laws.FnExactSheetAt", spec := "fnExactSheetAt", unfollowed := true, recurses := true, apart := false }
def FnExactSheetAtSaid : Prop := fnExactSheetAtRow.holds Try.pinned (OpenSpec.ofChange fnExactSheetAtSpec)

/-- ITS FALSE NEIGHBOUR: 'it returns false'. Refute it at one input. -/
def fnExactSheetAtWrong : ChangeSpec := { name := "fnExactSheetAt", fn := fun _ => fun
  | [d1, d2, d3, d4] => { results := [.lit (.bool false)], args := [d1, d2, d3, d4] }
  | _ => none }
def FnExactSheetAtWrongFalsely : Prop := fnExactSheetAtRow.holds Try.pinned (OpenSpec.ofChange fnExactSheetAtWrong)

/-- 'laws.FnExactNeighborsOf': WHATEVER THE INPUT: true; the input reads as it did. -/
def fnExactNeighborsOfSpec : ChangeSpec := { name := "fnExactNeighborsOf", fn := fun _ => fun
  | [d1, d2] => { results := [.lit (.bool true)], args := [d1, d2] }
  | _ => none }
def fnExactNeighborsOfRow : OpenClaim := { program := "ytidaoijpbdljbaa", sum := "441363e12d996e069fa635f45b598efb6b26cb6ee47416b77984288109d12a59", func := "loop.example/g01060/laws.FnExactNeighborsOf", spec := "fnExactNeighborsOf", unfollowed := true, recurses := true, apart := false }
def FnExactNeighborsOfSaid : Prop := fnExactNeighborsOfRow.holds Try.pinned (OpenSpec.ofChange fnExactNeighborsOfSpec)

/-- ITS FALSE NEIGHBOUR: 'it returns false'. Refute it at one input. -/
def fnExactNeighborsOfWrong : ChangeSpec := { name := "fnExactNeighborsOf", fn := fun _ => fun
  | [d1, d2] => { results := [.lit (.bool false)], args := [d1, d2] }
  | _ => none }
def FnExactNeighborsOfWrongFalsely : Prop := fnExactNeighborsOfRow.holds Try.pinned (OpenSpec.ofChange fnExactNeighborsOfWrong)

/-- 'laws.FnExactMissingSheets': WHATEVER THE INPUT: true; the input reads as it did. -/
def fnExactMissingSheetsSpec : ChangeSpec := { name := "fnExactMissingSheets", fn := fun _ => fun
  | [d1, d2] => { results := [.lit (.bool true)], args := [d1, d2] }
  | _ => none }
def fnExactMissingSheetsRow : OpenClaim := { program := "ytidaoijpbdljbaa", sum := "441363e12d996e069fa635f45b598efb6b26cb6ee47416b77984288109d12a59", func := "loop.example/g01060/laws.FnExactMissingSheets", spec := "fnExactMissingSheets", unfollowed := true, recurses := true, apart := false }
def FnExactMissingSheetsSaid : Prop := fnExactMissingSheetsRow.holds Try.pinned (OpenSpec.ofChange fnExactMissingSheetsSpec)

/-- ITS FALSE NEIGHBOUR: 'it returns false'. Refute it at one input. -/
def fnExactMissingSheetsWrong : ChangeSpec := { name := "fnExactMissingSheets", fn := fun _ => fun
  | [d1, d2] => { results := [.lit (.bool false)], args := [d1, d2] }
  | _ => none }
def FnExactMissingSheetsWrongFalsely : Prop := fnExactMissingSheetsRow.holds Try.pinned (OpenSpec.ofChange fnExactMissingSheetsWrong)

/-- 'laws.FnExactLongestStrip': WHATEVER THE INPUT: true; the input reads as it did. -/
def fnExactLongestStripSpec : ChangeSpec := { name := "fnExactLongestStrip", fn := fun _ => fun
  | [d1, d2] => { results := [.lit (.bool true)], args := [d1, d2] }
  | _ => none }
def fnExactLongestStripRow : OpenClaim := { program := "ytidaoijpbdljbaa", sum := "441363e12d996e069fa635f45b598efb6b26cb6ee47416b77984288109d12a59", func := "loop.example/g01060/laws.FnExactLongestStrip", spec := "fnExactLongestStrip", unfollowed := true, recurses := true, apart := false }
def FnExactLongestStripSaid : Prop := fnExactLongestStripRow.holds Try.pinned (OpenSpec.ofChange fnExactLongestStripSpec)

/-- ITS FALSE NEIGHBOUR: 'it returns false'. Refute it at one input. -/
def fnExactLongestStripWrong : ChangeSpec := { name := "fnExactLongestStrip", fn := fun _ => fun
  | [d1, d2] => { results := [.lit (.bool false)], args := [d1, d2] }
  | _ => none }
def FnExactLongestStripWrongFalsely : Prop := fnExactLongestStripRow.holds Try.pinned (OpenSpec.ofChange fnExactLongestStripWrong)

/-- 'laws.FnExactOnPaper': WHATEVER THE INPUT: true; the input reads as it did. -/
def fnExactOnPaperSpec : ChangeSpec := { name := "fnExactOnPaper", fn := fun _ => fun
  | [d1, d2] => { results := [.lit (.bool true)], args := [d1, d2] }
  | _ => none }
def fnExactOnPaperRow : OpenClaim := { program := "ytidaoijpbdljbaa", sum := "441363e12d996e069fa635f45b598efb6b26cb6ee47416b77984288109d12a59", func := "loop.example/g01060/laws.FnExactOnPaper", spec := "fnExactOnPaper", apart := false }
def FnExactOnPaperSaid : Prop := fnExactOnPaperRow.holds Try.pinned (OpenSpec.ofChange fnExactOnPaperSpec)

/-- ITS FALSE NEIGHBOUR: 'it returns false'. Refute it at one input. -/
def fnExactOnPaperWrong : ChangeSpec := { name := "fnExactOnPaper", fn := fun _ => fun
  | [d1, d2] => { results := [.lit (.bool false)], args := [d1, d2] }
  | _ => none }
def FnExactOnPaperWrongFalsely : Prop := fnExactOnPaperRow.holds Try.pinned (OpenSpec.ofChange fnExactOnPaperWrong)

/-- 'laws.FnExactShowsOverview': WHATEVER THE INPUT: true; the input reads as it did. -/
def fnExactShowsOverviewSpec : ChangeSpec := { name := "fnExactShowsOverview", fn := fun _ => fun
  | [d1, d2] => { results := [.lit (.bool true)], args := [d1, d2] }
  | _ => none }
def fnExactShowsOverviewRow : OpenClaim := { program := "ytidaoijpbdljbaa", sum := "441363e12d996e069fa635f45b598efb6b26cb6ee47416b77984288109d12a59", func := "loop.example/g01060/laws.FnExactShowsOverview", spec := "fnExactShowsOverview", unfollowed := true, recurses := true, apart := false }
def FnExactShowsOverviewSaid : Prop := fnExactShowsOverviewRow.holds Try.pinned (OpenSpec.ofChange fnExactShowsOverviewSpec)

/-- ITS FALSE NEIGHBOUR: 'it returns false'. Refute it at one input. -/
def fnExactShowsOverviewWrong : ChangeSpec := { name := "fnExactShowsOverview", fn := fun _ => fun
  | [d1, d2] => { results := [.lit (.bool false)], args := [d1, d2] }
  | _ => none }
def FnExactShowsOverviewWrongFalsely : Prop := fnExactShowsOverviewRow.holds Try.pinned (OpenSpec.ofChange fnExactShowsOverviewWrong)

/-- 'laws.FnExactShownOn': WHATEVER THE INPUT: true; the input reads as it did. -/
def fnExactShownOnSpec : ChangeSpec := { name := "fnExactShownOn", fn := fun _ => fun
  | [d1, d2, d3] => { results := [.lit (.bool true)], args := [d1, d2, d3] }
  | _ => none }
def fnExactShownOnRow : OpenClaim := { program := "ytidaoijpbdljbaa", sum := "441363e12d996e069fa635f45b598efb6b26cb6ee47416b77984288109d12a59", func := "loop.example/g01060/laws.FnExactShownOn", spec := "fnExactShownOn", unfollowed := true, recurses := true, apart := false }
def FnExactShownOnSaid : Prop := fnExactShownOnRow.holds Try.pinned (OpenSpec.ofChange fnExactShownOnSpec)

/-- ITS FALSE NEIGHBOUR: 'it returns false'. Refute it at one input. -/
def fnExactShownOnWrong : ChangeSpec := { name := "fnExactShownOn", fn := fun _ => fun
  | [d1, d2, d3] => { results := [.lit (.bool false)], args := [d1, d2, d3] }
  | _ => none }
def FnExactShownOnWrongFalsely : Prop := fnExactShownOnRow.holds Try.pinned (OpenSpec.ofChange fnExactShownOnWrong)

/-- 'laws.FnExactBestSheet': WHATEVER THE INPUT: true; the input reads as it did. -/
def fnExactBestSheetSpec : ChangeSpec := { name := "fnExactBestSheet", fn := fun _ => fun
  | [d1, d2, d3] => { results := [.lit (.bool true)], args := [d1, d2, d3] }
  | _ => none }
def fnExactBestSheetRow : OpenClaim := { program := "ytidaoijpbdljbaa", sum := "441363e12d996e069fa635f45b598efb6b26cb6ee47416b77984288109d12a59", func := "loop.example/g01060/laws.FnExactBestSheet", spec := "fnExactBestSheet", unfollowed := true, recurses := true, apart := false }
def FnExactBestSheetSaid : Prop := fnExactBestSheetRow.holds Try.pinned (OpenSpec.ofChange fnExactBestSheetSpec)

/-- ITS FALSE NEIGHBOUR: 'it returns false'. Refute it at one input. -/
def fnExactBestSheetWrong : ChangeSpec := { name := "fnExactBestSheet", fn := fun _ => fun
  | [d1, d2, d3] => { results := [.lit (.bool false)], args := [d1, d2, d3] }
  | _ => none }
def FnExactBestSheetWrongFalsely : Prop := fnExactBestSheetRow.holds Try.pinned (OpenSpec.ofChange fnExactBestSheetWrong)

/- THE SECOND FORM. 'bulk': how many values and letters a reading holds, each counted each time it is reached (what is shared counts as often as it is met; a slice's spare places count too). A statement '..UptoSaid' is the law's where the arguments, and the package variables that the reading takes, are together of bulk at most 1048576: NARROWER than '..Said'. Prove '..Said' where nothing that the law and all that it calls make is longer than what came in: it says more and counts as full. Else prove '..UptoSaid'. A law counts once. -/
mutual
def uptoBulk {H : Type} : DataW H → Nat
  | .lit (.string bytes) => bytes.length + 1
  | .lit _ => 1
  | .nil => 1
  | .ptr d => uptoBulk d + 1
  | .slice elems spare => uptoBulkAll elems + uptoBulkAll spare + 1
  | .agg parts => uptoBulkAll parts + 1
  | .iface _ d => uptoBulk d + 1
  | .map entries => uptoBulkEntries entries + 1
  | .held _ => 1
def uptoBulkAll {H : Type} : List (DataW H) → Nat
  | [] => 0
  | d :: r => uptoBulk d + uptoBulkAll r
def uptoBulkEntries {H : Type} : List (Lit × DataW H) → Nat
  | [] => 0
  | x :: r => uptoBulkEntry x + uptoBulkEntries r
def uptoBulkEntry {H : Type} : Lit × DataW H → Nat
  | (.string bytes, d) => bytes.length + uptoBulk d + 1
  | (_, d) => uptoBulk d + 1
 end
def uptoSmall : (H : Type) → List (DataW H) → Bool := fun _ ds => decide (uptoBulkAll ds ≤ 1048576)
def OpenSpec.upto (s : _root_.Go.ChangeSpec) : _root_.Go.OpenSpec := { _root_.Go.OpenSpec.ofChange s with cond := some uptoSmall }

/-- 'laws.FnNeighbors', WHERE WHAT IT READS IS OF BULK AT MOST 1048576: true; the input reads as it did. -/
def fnNeighborsUptoRow : OpenClaim := { program := "ytidaoijpbdljbaa", sum := "441363e12d996e069fa635f45b598efb6b26cb6ee47416b77984288109d12a59", func := "loop.example/g01060/laws.FnNeighbors", spec := "fnNeighbors", unfollowed := true, recurses := true, apart := false, narrowed := true }
def FnNeighborsUptoSaid : Prop := fnNeighborsUptoRow.holds Try.pinned (OpenSpec.upto fnNeighborsSpec)

/-- 'laws.FnExactIsSheet', WHERE WHAT IT READS IS OF BULK AT MOST 1048576: true; the input reads as it did. -/
def fnExactIsSheetUptoRow : OpenClaim := { program := "ytidaoijpbdljbaa", sum := "441363e12d996e069fa635f45b598efb6b26cb6ee47416b77984288109d12a59", func := "loop.example/g01060/laws.FnExactIsSheet", spec := "fnExactIsSheet", apart := false, narrowed := true }
def FnExactIsSheetUptoSaid : Prop := fnExactIsSheetUptoRow.holds Try.pinned (OpenSpec.upto fnExactIsSheetSpec)

/-- 'laws.FnExactAreSheets', WHERE WHAT IT READS IS OF BULK AT MOST 1048576: true; the input reads as it did. -/
def fnExactAreSheetsUptoRow : OpenClaim := { program := "ytidaoijpbdljbaa", sum := "441363e12d996e069fa635f45b598efb6b26cb6ee47416b77984288109d12a59", func := "loop.example/g01060/laws.FnExactAreSheets", spec := "fnExactAreSheets", unfollowed := true, recurses := true, apart := false, narrowed := true }
def FnExactAreSheetsUptoSaid : Prop := fnExactAreSheetsUptoRow.holds Try.pinned (OpenSpec.upto fnExactAreSheetsSpec)

/-- 'laws.FnExactSheetAt', WHERE WHAT IT READS IS OF BULK AT MOST 1048576: true; the input reads as it did. -/
def fnExactSheetAtUptoRow : OpenClaim := { program := "ytidaoijpbdljbaa", sum := "441363e12d996e069fa635f45b598efb6b26cb6ee47416b77984288109d12a59", func := "loop.example/g01060/laws.FnExactSheetAt", spec := "fnExactSheetAt", unfollowed := true, recurses := true, apart := false, narrowed := true }
def FnExactSheetAtUptoSaid : Prop := fnExactSheetAtUptoRow.holds Try.pinned (OpenSpec.upto fnExactSheetAtSpec)

/-- 'laws.FnExactNeighborsOf', WHERE WHAT IT READS IS OF BULK AT MOST 1048576: true; the input reads as it did. -/
def fnExactNeighborsOfUptoRow : OpenClaim := { program := "ytidaoijpbdljbaa", sum := "441363e12d996e069fa635f45b598efb6b26cb6ee47416b77984288109d12a59", func := "loop.example/g01060/laws.FnExactNeighborsOf", spec := "fnExactNeighborsOf", unfollowed := true, recurses := true, apart := false, narrowed := true }
def FnExactNeighborsOfUptoSaid : Prop := fnExactNeighborsOfUptoRow.holds Try.pinned (OpenSpec.upto fnExactNeighborsOfSpec)

/-- 'laws.FnExactMissingSheets', WHERE WHAT IT READS IS OF BULK AT MOST 1048576: true; the input reads as it did. -/
def fnExactMissingSheetsUptoRow : OpenClaim := { program := "ytidaoijpbdljbaa", sum := "441363e12d996e069fa635f45b598efb6b26cb6ee47416b77984288109d12a59", func := "loop.example/g01060/laws.FnExactMissingSheets", spec := "fnExactMissingSheets", unfollowed := true, recurses := true, apart := false, narrowed := true }
def FnExactMissingSheetsUptoSaid : Prop := fnExactMissingSheetsUptoRow.holds Try.pinned (OpenSpec.upto fnExactMissingSheetsSpec)

/-- 'laws.FnExactLongestStrip', WHERE WHAT IT READS IS OF BULK AT MOST 1048576: true; the input reads as it did. -/
def fnExactLongestStripUptoRow : OpenClaim := { program := "ytidaoijpbdljbaa", sum := "441363e12d996e069fa635f45b598efb6b26cb6ee47416b77984288109d12a59", func := "loop.example/g01060/laws.FnExactLongestStrip", spec := "fnExactLongestStrip", unfollowed := true, recurses := true, apart := false, narrowed := true }
def FnExactLongestStripUptoSaid : Prop := fnExactLongestStripUptoRow.holds Try.pinned (OpenSpec.upto fnExactLongestStripSpec)

/-- 'laws.FnExactOnPaper', WHERE WHAT IT READS IS OF BULK AT MOST 1048576: true; the input reads as it did. -/
def fnExactOnPaperUptoRow : OpenClaim := { program := "ytidaoijpbdljbaa", sum := "441363e12d996e069fa635f45b598efb6b26cb6ee47416b77984288109d12a59", func := "loop.example/g01060/laws.FnExactOnPaper", spec := "fnExactOnPaper", apart := false, narrowed := true }
def FnExactOnPaperUptoSaid : Prop := fnExactOnPaperUptoRow.holds Try.pinned (OpenSpec.upto fnExactOnPaperSpec)

/-- 'laws.FnExactShowsOverview', WHERE WHAT IT READS IS OF BULK AT MOST 1048576: true; the input reads as it did. -/
def fnExactShowsOverviewUptoRow : OpenClaim := { program := "ytidaoijpbdljbaa", sum := "441363e12d996e069fa635f45b598efb6b26cb6ee47416b77984288109d12a59", func := "loop.example/g01060/laws.FnExactShowsOverview", spec := "fnExactShowsOverview", unfollowed := true, recurses := true, apart := false, narrowed := true }
def FnExactShowsOverviewUptoSaid : Prop := fnExactShowsOverviewUptoRow.holds Try.pinned (OpenSpec.upto fnExactShowsOverviewSpec)

/-- 'laws.FnExactShownOn', WHERE WHAT IT READS IS OF BULK AT MOST 1048576: true; the input reads as it did. -/
def fnExactShownOnUptoRow : OpenClaim := { program := "ytidaoijpbdljbaa", sum := "441363e12d996e069fa635f45b598efb6b26cb6ee47416b77984288109d12a59", func := "loop.example/g01060/laws.FnExactShownOn", spec := "fnExactShownOn", unfollowed := true, recurses := true, apart := false, narrowed := true }
def FnExactShownOnUptoSaid : Prop := fnExactShownOnUptoRow.holds Try.pinned (OpenSpec.upto fnExactShownOnSpec)

/-- 'laws.FnExactBestSheet', WHERE WHAT IT READS IS OF BULK AT MOST 1048576: true; the input reads as it did. -/
def fnExactBestSheetUptoRow : OpenClaim := { program := "ytidaoijpbdljbaa", sum := "441363e12d996e069fa635f45b598efb6b26cb6ee47416b77984288109d12a59", func := "loop.example/g01060/laws.FnExactBestSheet", spec := "fnExactBestSheet", unfollowed := true, recurses := true, apart := false, narrowed := true }
def FnExactBestSheetUptoSaid : Prop := fnExactBestSheetUptoRow.holds Try.pinned (OpenSpec.upto fnExactBestSheetSpec)

end Rows
end Go.Proofs.Ytidaoijpbdljbaa
