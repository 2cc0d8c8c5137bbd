/-
  No cell of these rows narrows 'for every input' (looked for: loops, veiled, ifaces, maps, wideKeys, modest, calm, conditions, laid).
  DERIVED. THE GIVEN ROWS OF THIS SEAT. 8 by the template 'for every input the law returns true; each argument reads behind the call as it read before'; 0 by the template 'total and deterministic' (their statements: YtdpeidbifcbkkabTotals.lean).
  GIVEN WITH THE SEED: the statements are not yours to turn. If you find one false, say at which input.
  Laid BY PROGRAM, IN A SANDBOX (cutbox-rows.mjs): the forced cells as the released guide's own fill.sh prints them over the translation 4080f3733ca0327b… (all of the seat's roots in one cut). By AI agents, Wed Nov 11 2026. No macro, syntax, notation, axiom, sorry.
-/
import Derived.Test.YtdpeidbifcbkkabChecked
import GoSem.Claim
import GoSem.ClaimJoined
import GoSem.ClaimMapViews
import Derived.JoinedTies
import Derived.KernelRfl
namespace Go.Proofs.Ytdpeidbifcbkkab
/- THE CELL 'sum', in the pinned program and in every row, IS THE sha256 OF THE DUMP (.gsa) THAT YtdpeidbifcbkkabProg.lean LOADS. Nothing in Lean hashes anything: it is a label: what it is worth is what the hold of that sum in a sandbox is worth. -/
noncomputable def Try.pinned : Pinned := { name := "ytdpeidbifcbkkab", sum := "4080f3733ca0327bd4adcf0474c9c8eecb5720f36ea51317f04e7f3a46535bf0", checked := Try.checked }
namespace Rows
def none {H : Type} : Left H := { results := [], args := [] }

/-- 'laws.FnExactFineReader': WHATEVER THE INPUT: true; the input reads as it did. -/
def fnExactFineReaderSpec : ChangeSpec := { name := "fnExactFineReader", fn := fun _ => fun
  | [d1, d2, d3] => { results := [.lit (.bool true)], args := [d1, d2, d3] }
  | _ => none }
def fnExactFineReaderRow : OpenClaim := { program := "ytdpeidbifcbkkab", sum := "4080f3733ca0327bd4adcf0474c9c8eecb5720f36ea51317f04e7f3a46535bf0", func := "loop.example/g01060/laws.FnExactFineReader", spec := "fnExactFineReader", unfollowed := true, recurses := true, apart := false }
def FnExactFineReaderSaid : Prop := fnExactFineReaderRow.holds Try.pinned (OpenSpec.ofChange fnExactFineReaderSpec)

/-- ITS FALSE NEIGHBOUR: 'it returns false'. Refute it at one input. -/
def fnExactFineReaderWrong : ChangeSpec := { name := "fnExactFineReader", fn := fun _ => fun
  | [d1, d2, d3] => { results := [.lit (.bool false)], args := [d1, d2, d3] }
  | _ => none }
def FnExactFineReaderWrongFalsely : Prop := fnExactFineReaderRow.holds Try.pinned (OpenSpec.ofChange fnExactFineReaderWrong)

/-- 'laws.FnExactPayFines': WHATEVER THE INPUT: true; the input reads as it did. -/
def fnExactPayFinesSpec : ChangeSpec := { name := "fnExactPayFines", fn := fun _ => fun
  | [d1, d2, d3] => { results := [.lit (.bool true)], args := [d1, d2, d3] }
  | _ => none }
def fnExactPayFinesRow : OpenClaim := { program := "ytdpeidbifcbkkab", sum := "4080f3733ca0327bd4adcf0474c9c8eecb5720f36ea51317f04e7f3a46535bf0", func := "loop.example/g01060/laws.FnExactPayFines", spec := "fnExactPayFines", unfollowed := true, recurses := true, apart := false }
def FnExactPayFinesSaid : Prop := fnExactPayFinesRow.holds Try.pinned (OpenSpec.ofChange fnExactPayFinesSpec)

/-- ITS FALSE NEIGHBOUR: 'it returns false'. Refute it at one input. -/
def fnExactPayFinesWrong : ChangeSpec := { name := "fnExactPayFines", fn := fun _ => fun
  | [d1, d2, d3] => { results := [.lit (.bool false)], args := [d1, d2, d3] }
  | _ => none }
def FnExactPayFinesWrongFalsely : Prop := fnExactPayFinesRow.holds Try.pinned (OpenSpec.ofChange fnExactPayFinesWrong)

/-- 'laws.FnExactRaiseClass': WHATEVER THE INPUT: true; the input reads as it did. -/
def fnExactRaiseClassSpec : ChangeSpec := { name := "fnExactRaiseClass", fn := fun _ => fun
  | [d1, d2, d3] => { results := [.lit (.bool true)], args := [d1, d2, d3] }
  | _ => none }
def fnExactRaiseClassRow : OpenClaim := { program := "ytdpeidbifcbkkab", sum := "4080f3733ca0327bd4adcf0474c9c8eecb5720f36ea51317f04e7f3a46535bf0", func := "loop.example/g01060/laws.FnExactRaiseClass", spec := "fnExactRaiseClass", unfollowed := true, recurses := true, apart := false }
def FnExactRaiseClassSaid : Prop := fnExactRaiseClassRow.holds Try.pinned (OpenSpec.ofChange fnExactRaiseClassSpec)

/-- ITS FALSE NEIGHBOUR: 'it returns false'. Refute it at one input. -/
def fnExactRaiseClassWrong : ChangeSpec := { name := "fnExactRaiseClass", fn := fun _ => fun
  | [d1, d2, d3] => { results := [.lit (.bool false)], args := [d1, d2, d3] }
  | _ => none }
def FnExactRaiseClassWrongFalsely : Prop := fnExactRaiseClassRow.holds Try.pinned (OpenSpec.ofChange fnExactRaiseClassWrong)

/-- 'laws.FnExactRipeReaders': WHATEVER THE INPUT: true; the input reads as it did. -/
def fnExactRipeReadersSpec : ChangeSpec := { name := "fnExactRipeReaders", fn := fun _ => fun
  | [d1, d2] => { results := [.lit (.bool true)], args := [d1, d2] }
  | _ => none }
def fnExactRipeReadersRow : OpenClaim := { program := "ytdpeidbifcbkkab", sum := "4080f3733ca0327bd4adcf0474c9c8eecb5720f36ea51317f04e7f3a46535bf0", func := "loop.example/g01060/laws.FnExactRipeReaders", spec := "fnExactRipeReaders", unfollowed := true, recurses := true, apart := false }
def FnExactRipeReadersSaid : Prop := fnExactRipeReadersRow.holds Try.pinned (OpenSpec.ofChange fnExactRipeReadersSpec)

/-- ITS FALSE NEIGHBOUR: 'it returns false'. Refute it at one input. -/
def fnExactRipeReadersWrong : ChangeSpec := { name := "fnExactRipeReaders", fn := fun _ => fun
  | [d1, d2] => { results := [.lit (.bool false)], args := [d1, d2] }
  | _ => none }
def FnExactRipeReadersWrongFalsely : Prop := fnExactRipeReadersRow.holds Try.pinned (OpenSpec.ofChange fnExactRipeReadersWrong)

/-- 'laws.FnExactClassCounts': WHATEVER THE INPUT: true; the input reads as it did. -/
def fnExactClassCountsSpec : ChangeSpec := { name := "fnExactClassCounts", fn := fun _ => fun
  | [d] => { results := [.lit (.bool true)], args := [d] }
  | _ => none }
def fnExactClassCountsRow : OpenClaim := { program := "ytdpeidbifcbkkab", sum := "4080f3733ca0327bd4adcf0474c9c8eecb5720f36ea51317f04e7f3a46535bf0", func := "loop.example/g01060/laws.FnExactClassCounts", spec := "fnExactClassCounts", unfollowed := true, recurses := true, apart := false }
def FnExactClassCountsSaid : Prop := fnExactClassCountsRow.holds Try.pinned (OpenSpec.ofChange fnExactClassCountsSpec)

/-- ITS FALSE NEIGHBOUR: 'it returns false'. Refute it at one input. -/
def fnExactClassCountsWrong : ChangeSpec := { name := "fnExactClassCounts", fn := fun _ => fun
  | [d] => { results := [.lit (.bool false)], args := [d] }
  | _ => none }
def FnExactClassCountsWrongFalsely : Prop := fnExactClassCountsRow.holds Try.pinned (OpenSpec.ofChange fnExactClassCountsWrong)

/-- 'laws.FnExactOweMost': WHATEVER THE INPUT: true; the input reads as it did. -/
def fnExactOweMostSpec : ChangeSpec := { name := "fnExactOweMost", fn := fun _ => fun
  | [d1, d2] => { results := [.lit (.bool true)], args := [d1, d2] }
  | _ => none }
def fnExactOweMostRow : OpenClaim := { program := "ytdpeidbifcbkkab", sum := "4080f3733ca0327bd4adcf0474c9c8eecb5720f36ea51317f04e7f3a46535bf0", func := "loop.example/g01060/laws.FnExactOweMost", spec := "fnExactOweMost", unfollowed := true, recurses := true, apart := false }
def FnExactOweMostSaid : Prop := fnExactOweMostRow.holds Try.pinned (OpenSpec.ofChange fnExactOweMostSpec)

/-- ITS FALSE NEIGHBOUR: 'it returns false'. Refute it at one input. -/
def fnExactOweMostWrong : ChangeSpec := { name := "fnExactOweMost", fn := fun _ => fun
  | [d1, d2] => { results := [.lit (.bool false)], args := [d1, d2] }
  | _ => none }
def FnExactOweMostWrongFalsely : Prop := fnExactOweMostRow.holds Try.pinned (OpenSpec.ofChange fnExactOweMostWrong)

/-- 'laws.FnExactShownOn': WHATEVER THE INPUT: true; the input reads as it did. -/
def fnExactShownOnSpec : ChangeSpec := { name := "fnExactShownOn", fn := fun _ => fun
  | [d1, d2, d3] => { results := [.lit (.bool true)], args := [d1, d2, d3] }
  | _ => none }
def fnExactShownOnRow : OpenClaim := { program := "ytdpeidbifcbkkab", sum := "4080f3733ca0327bd4adcf0474c9c8eecb5720f36ea51317f04e7f3a46535bf0", func := "loop.example/g01060/laws.FnExactShownOn", spec := "fnExactShownOn", unfollowed := true, recurses := true, apart := false }
def FnExactShownOnSaid : Prop := fnExactShownOnRow.holds Try.pinned (OpenSpec.ofChange fnExactShownOnSpec)

/-- ITS FALSE NEIGHBOUR: 'it returns false'. Refute it at one input. -/
def fnExactShownOnWrong : ChangeSpec := { name := "fnExactShownOn", fn := fun _ => fun
  | [d1, d2, d3] => { results := [.lit (.bool false)], args := [d1, d2, d3] }
  | _ => none }
def FnExactShownOnWrongFalsely : Prop := fnExactShownOnRow.holds Try.pinned (OpenSpec.ofChange fnExactShownOnWrong)

/-- 'laws.FnExactBestSheet': WHATEVER THE INPUT: true; the input reads as it did. -/
def fnExactBestSheetSpec : ChangeSpec := { name := "fnExactBestSheet", fn := fun _ => fun
  | [d1, d2, d3] => { results := [.lit (.bool true)], args := [d1, d2, d3] }
  | _ => none }
def fnExactBestSheetRow : OpenClaim := { program := "ytdpeidbifcbkkab", sum := "4080f3733ca0327bd4adcf0474c9c8eecb5720f36ea51317f04e7f3a46535bf0", func := "loop.example/g01060/laws.FnExactBestSheet", spec := "fnExactBestSheet", unfollowed := true, recurses := true, apart := false }
def FnExactBestSheetSaid : Prop := fnExactBestSheetRow.holds Try.pinned (OpenSpec.ofChange fnExactBestSheetSpec)

/-- ITS FALSE NEIGHBOUR: 'it returns false'. Refute it at one input. -/
def fnExactBestSheetWrong : ChangeSpec := { name := "fnExactBestSheet", fn := fun _ => fun
  | [d1, d2, d3] => { results := [.lit (.bool false)], args := [d1, d2, d3] }
  | _ => none }
def FnExactBestSheetWrongFalsely : Prop := fnExactBestSheetRow.holds Try.pinned (OpenSpec.ofChange fnExactBestSheetWrong)

/- THE SECOND FORM. 'bulk': how many values and letters a reading holds, each counted each time it is reached (what is shared counts as often as it is met; a slice's spare places count too). A statement '..UptoSaid' is the law's where the arguments, and the package variables that the reading takes, are together of bulk at most 1048576: NARROWER than '..Said'. Prove '..Said' where nothing that the law and all that it calls make is longer than what came in: it says more and counts as full. Else prove '..UptoSaid'. A law counts once. -/
mutual
def uptoBulk {H : Type} : DataW H → Nat
  | .lit (.string bytes) => bytes.length + 1
  | .lit _ => 1
  | .nil => 1
  | .ptr d => uptoBulk d + 1
  | .slice elems spare => uptoBulkAll elems + uptoBulkAll spare + 1
  | .agg parts => uptoBulkAll parts + 1
  | .iface _ d => uptoBulk d + 1
  | .map entries => uptoBulkEntries entries + 1
  | .held _ => 1
def uptoBulkAll {H : Type} : List (DataW H) → Nat
  | [] => 0
  | d :: r => uptoBulk d + uptoBulkAll r
def uptoBulkEntries {H : Type} : List (Lit × DataW H) → Nat
  | [] => 0
  | x :: r => uptoBulkEntry x + uptoBulkEntries r
def uptoBulkEntry {H : Type} : Lit × DataW H → Nat
  | (.string bytes, d) => bytes.length + uptoBulk d + 1
  | (_, d) => uptoBulk d + 1
 end
def uptoSmall : (H : Type) → List (DataW H) → Bool := fun _ ds => decide (uptoBulkAll ds ≤ 1048576)
def OpenSpec.upto (s : _root_.Go.ChangeSpec) : _root_.Go.OpenSpec := { _root_.Go.OpenSpec.ofChange s with cond := some uptoSmall }

/-- 'laws.FnExactFineReader', WHERE WHAT IT READS IS OF BULK AT MOST 1048576: true; the input reads as it did. -/
def fnExactFineReaderUptoRow : OpenClaim := { program := "ytdpeidbifcbkkab", sum := "4080f3733ca0327bd4adcf0474c9c8eecb5720f36ea51317f04e7f3a46535bf0", func := "loop.example/g01060/laws.FnExactFineReader", spec := "fnExactFineReader", unfollowed := true, recurses := true, apart := false, narrowed := true }
def FnExactFineReaderUptoSaid : Prop := fnExactFineReaderUptoRow.holds Try.pinned (OpenSpec.upto fnExactFineReaderSpec)

/-- 'laws.FnExactPayFines', WHERE WHAT IT READS IS OF BULK AT MOST 1048576: true; the input reads as it did. -/
def fnExactPayFinesUptoRow : OpenClaim := { program := "ytdpeidbifcbkkab", sum := "4080f3733ca0327bd4adcf0474c9c8eecb5720f36ea51317f04e7f3a46535bf0", func := "loop.example/g01060/laws.FnExactPayFines", spec := "fnExactPayFines", unfollowed := true, recurses := true, apart := false, narrowed := true }
def FnExactPayFinesUptoSaid : Prop := fnExactPayFinesUptoRow.holds Try.pinned (OpenSpec.upto fnExactPayFinesSpec)

/-- 'laws.FnExactRaiseClass', WHERE WHAT IT READS IS OF BULK AT MOST 1048576: true; the input reads as it did. -/
def fnExactRaiseClassUptoRow : OpenClaim := { program := "ytdpeidbifcbkkab", sum := "4080f3733ca0327bd4adcf0474c9c8eecb5720f36ea51317f04e7f3a46535bf0", func := "loop.example/g01060/laws.FnExactRaiseClass", spec := "fnExactRaiseClass", unfollowed := true, recurses := true, apart := false, narrowed := true }
def FnExactRaiseClassUptoSaid : Prop := fnExactRaiseClassUptoRow.holds Try.pinned (OpenSpec.upto fnExactRaiseClassSpec)

/-- 'laws.FnExactRipeReaders', WHERE WHAT IT READS IS OF BULK AT MOST 1048576: true; the input reads as it did. -/
def fnExactRipeReadersUptoRow : OpenClaim := { program := "ytdpeidbifcbkkab", sum := "4080f3733ca0327bd4adcf0474c9c8eecb5720f36ea51317f04e7f3a46535bf0", func := "loop.example/g01060/laws.FnExactRipeReaders", spec := "fnExactRipeReaders", unfollowed := true, recurses := true, apart := false, narrowed := true }
def FnExactRipeReadersUptoSaid : Prop := fnExactRipeReadersUptoRow.holds Try.pinned (OpenSpec.upto fnExactRipeReadersSpec)

/-- 'laws.FnExactClassCounts', WHERE WHAT IT READS IS OF BULK AT MOST 1048576: true; the input reads as it did. -/
def fnExactClassCountsUptoRow : OpenClaim := { program := "ytdpeidbifcbkkab", sum := "4080f3733ca0327bd4adcf0474c9c8eecb5720f36ea51317f04e7f3a46535bf0", func := "loop.example/g01060/laws.FnExactClassCounts", spec := "fnExactClassCounts", unfollowed := true, recurses := true, apart := false, narrowed := true }
def FnExactClassCountsUptoSaid : Prop := fnExactClassCountsUptoRow.holds Try.pinned (OpenSpec.upto fnExactClassCountsSpec)

/-- 'laws.FnExactOweMost', WHERE WHAT IT READS IS OF BULK AT MOST 1048576: true; the input reads as it did. -/
def fnExactOweMostUptoRow : OpenClaim := { program := "ytdpeidbifcbkkab", sum := "4080f3733ca0327bd4adcf0474c9c8eecb5720f36ea51317f04e7f3a46535bf0", func := "loop.example/g01060/laws.FnExactOweMost", spec := "fnExactOweMost", unfollowed := true, recurses := true, apart := false, narrowed := true }
def FnExactOweMostUptoSaid : Prop := fnExactOweMostUptoRow.holds Try.pinned (OpenSpec.upto fnExactOweMostSpec)

/-- 'laws.FnExactShownOn', WHERE WHAT IT READS IS OF BULK AT MOST 1048576: true; the input reads as it did. -/
def fnExactShownOnUptoRow : OpenClaim := { program := "ytdpeidbifcbkkab", sum := "4080f3733ca0327bd4adcf0474c9c8eecb5720f36ea51317f04e7f3a46535bf0", func := "loop.example/g01060/laws.FnExactShownOn", spec := "fnExactShownOn", unfollowed := true, recurses := true, apart := false, narrowed := true }
def FnExactShownOnUptoSaid : Prop := fnExactShownOnUptoRow.holds Try.pinned (OpenSpec.upto fnExactShownOnSpec)

/-- 'laws.FnExactBestSheet', WHERE WHAT IT READS IS OF BULK AT MOST 1048576: true; the input reads as it did. -/
def fnExactBestSheetUptoRow : OpenClaim := { program := "ytdpeidbifcbkkab", sum := "4080f3733ca0327bd4adcf0474c9c8eecb5720f36ea51317f04e7f3a46535bf0", func := "loop.example/g01060/laws.FnExactBestSheet", spec := "fnExactBestSheet", unfollowed := true, recurses := true, apart := false, narrowed := true }
def FnExactBestSheetUptoSaid : Prop := fnExactBestSheetUptoRow.holds Try.pinned (OpenSpec.upto fnExactBestSheetSpec)

end Rows
end Go.Proofs.Ytdpeidbifcbkkab
