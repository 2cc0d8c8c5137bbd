/-
  No cell of these rows narrows 'for every input' (looked for: loops, veiled, ifaces, maps, wideKeys, modest, calm, conditions, laid).
  DERIVED. THE GIVEN ROWS OF THIS SEAT. 10 by the template 'for every input the law returns true; each argument reads behind the call as it read before'; 0 by the template 'total and deterministic' (their statements: YtidaoijpbdljbabTotals.lean).
  GIVEN WITH THE SEED: the statements are not yours to turn. If you find one false, say at which input.
  Laid BY PROGRAM, IN A SANDBOX (cutbox-rows.mjs): the forced cells as the released guide's own fill.sh prints them over the translation c1d75d2eec4f1b48… (all of the seat's roots in one cut). By AI agents, Wed Nov 11 2026. No macro, syntax, notation, axiom, sorry.
-/
import Derived.Test.YtidaoijpbdljbabChecked
import GoSem.Claim
import GoSem.ClaimJoined
import GoSem.ClaimMapViews
import Derived.JoinedTies
import Derived.KernelRfl
namespace Go.Proofs.Ytidaoijpbdljbab
/- THE CELL 'sum', in the pinned program and in every row, IS THE sha256 OF THE DUMP (.gsa) THAT YtidaoijpbdljbabProg.lean LOADS. Nothing in Lean hashes anything: it is a label: what it is worth is what the hold of that sum in a sandbox is worth. -/
noncomputable def Try.pinned : Pinned := { name := "ytidaoijpbdljbab", sum := "c1d75d2eec4f1b48530d7588bb247b5894a9f9e41c5150a0a321ebd9d1c55ba5", checked := Try.checked }
namespace Rows
def none {H : Type} : Left H := { results := [], args := [] }

/-- 'laws.FnExactFineReader': WHATEVER THE INPUT: true; the input reads as it did. -/
def fnExactFineReaderSpec : ChangeSpec := { name := "fnExactFineReader", fn := fun _ => fun
  | [d1, d2, d3] => { results := [.lit (.bool true)], args := [d1, d2, d3] }
  | _ => none }
def fnExactFineReaderRow : OpenClaim := { program := "ytidaoijpbdljbab", sum := "c1d75d2eec4f1b48530d7588bb247b5894a9f9e41c5150a0a321ebd9d1c55ba5", func := "loop.example/g01060/laws.FnExactFineReader", spec := "fnExactFineReader", unfollowed := true, recurses := true, plainKeys := false, apart := false }
def FnExactFineReaderSaid : Prop := fnExactFineReaderRow.holds Try.pinned (OpenSpec.ofChange fnExactFineReaderSpec)

/-- ITS FALSE NEIGHBOUR: 'it returns false'. Refute it at one input. -/
def fnExactFineReaderWrong : ChangeSpec := { name := "fnExactFineReader", fn := fun _ => fun
  | [d1, d2, d3] => { results := [.lit (.bool false)], args := [d1, d2, d3] }
  | _ => none }
def FnExactFineReaderWrongFalsely : Prop := fnExactFineReaderRow.holds Try.pinned (OpenSpec.ofChange fnExactFineReaderWrong)

/-- 'laws.FnExactPayFines': WHATEVER THE INPUT: true; the input reads as it did. -/
def fnExactPayFinesSpec : ChangeSpec := { name := "fnExactPayFines", fn := fun _ => fun
  | [d1, d2, d3] => { results := [.lit (.bool true)], args := [d1, d2, d3] }
  | _ => none }
def fnExactPayFinesRow : OpenClaim := { program := "ytidaoijpbdljbab", sum := "c1d75d2eec4f1b48530d7588bb247b5894a9f9e41c5150a0a321ebd9d1c55ba5", func := "loop.example/g01060/laws.FnExactPayFines", spec := "fnExactPayFines", unfollowed := true, recurses := true, plainKeys := false, apart := false }
def FnExactPayFinesSaid : Prop := fnExactPayFinesRow.holds Try.pinned (OpenSpec.ofChange fnExactPayFinesSpec)

/-- ITS FALSE NEIGHBOUR: 'it returns false'. Refute it at one input. -/
def fnExactPayFinesWrong : ChangeSpec := { name := "fnExactPayFines", fn := fun _ => fun
  | [d1, d2, d3] => { results := [.lit (.bool false)], args := [d1, d2, d3] }
  | _ => none }
def FnExactPayFinesWrongFalsely : Prop := fnExactPayFinesRow.holds Try.pinned (OpenSpec.ofChange fnExactPayFinesWrong)

/-- 'laws.FnExactRaiseClass': WHATEVER THE INPUT: true; the input reads as it did. -/
def fnExactRaiseClassSpec : ChangeSpec := { name := "fnExactRaiseClass", fn := fun _ => fun
  | [d1, d2, d3] => { results := [.lit (.bool true)], args := [d1, d2, d3] }
  | _ => none }
def fnExactRaiseClassRow : OpenClaim := { program := "ytidaoijpbdljbab", sum := "c1d75d2eec4f1b48530d7588bb247b5894a9f9e41c5150a0a321ebd9d1c55ba5", func := "loop.example/g01060/laws.FnExactRaiseClass", spec := "fnExactRaiseClass", unfollowed := true, recurses := true, plainKeys := false, apart := false }
def FnExactRaiseClassSaid : Prop := fnExactRaiseClassRow.holds Try.pinned (OpenSpec.ofChange fnExactRaiseClassSpec)

/-- ITS FALSE NEIGHBOUR: 'it returns false'. Refute it at one input. -/
def fnExactRaiseClassWrong : ChangeSpec := { name := "fnExactRaiseClass", fn := fun _ => fun
  | [d1, d2, d3] => { results := [.lit (.bool false)], args := [d1, d2, d3] }
  | _ => none }
def FnExactRaiseClassWrongFalsely : Prop := fnExactRaiseClassRow.holds Try.pinned (OpenSpec.ofChange fnExactRaiseClassWrong)

/-- 'laws.FnExactOweMost': WHATEVER THE INPUT: true; the input reads as it did. -/
def fnExactOweMostSpec : ChangeSpec := { name := "fnExactOweMost", fn := fun _ => fun
  | [d1, d2] => { results := [.lit (.bool true)], args := [d1, d2] }
  | _ => none }
def fnExactOweMostRow : OpenClaim := { program := "ytidaoijpbdljbab", sum := "c1d75d2eec4f1b48530d7588bb247b5894a9f9e41c5150a0a321ebd9d1c55ba5", func := "loop.example/g01060/laws.FnExactOweMost", spec := "fnExactOweMost", unfollowed := true, recurses := true, plainKeys := false, apart := false }
def FnExactOweMostSaid : Prop := fnExactOweMostRow.holds Try.pinned (OpenSpec.ofChange fnExactOweMostSpec)

/-- ITS FALSE NEIGHBOUR: 'it returns false'. Refute it at one input. -/
def fnExactOweMostWrong : ChangeSpec := { name := "fnExactOweMost", fn := fun _ => fun
  | [d1, d2] => { results := [.lit (.bool false)], args := [d1, d2] }
  | _ => none }
def FnExactOweMostWrongFalsely : Prop := fnExactOweMostRow.holds Try.pinned (OpenSpec.ofChange fnExactOweMostWrong)

/-- 'laws.FnExactOverlapOf': WHATEVER THE INPUT: true; the input reads as it did. -/
def fnExactOverlapOfSpec : ChangeSpec := { name := "fnExactOverlapOf", fn := fun _ => fun
  | [d1, d2, d3] => { results := [.lit (.bool true)], args := [d1, d2, d3] }
  | _ => none }
def fnExactOverlapOfRow : OpenClaim := { program := "ytidaoijpbdljbab", sum := "c1d75d2eec4f1b48530d7588bb247b5894a9f9e41c5150a0a321ebd9d1c55ba5", func := "loop.example/g01060/laws.FnExactOverlapOf", spec := "fnExactOverlapOf", unfollowed := true, recurses := true, plainKeys := false, apart := false }
def FnExactOverlapOfSaid : Prop := fnExactOverlapOfRow.holds Try.pinned (OpenSpec.ofChange fnExactOverlapOfSpec)

/-- ITS FALSE NEIGHBOUR: 'it returns false'. Refute it at one input. -/
def fnExactOverlapOfWrong : ChangeSpec := { name := "fnExactOverlapOf", fn := fun _ => fun
  | [d1, d2, d3] => { results := [.lit (.bool false)], args := [d1, d2, d3] }
  | _ => none }
def FnExactOverlapOfWrongFalsely : Prop := fnExactOverlapOfRow.holds Try.pinned (OpenSpec.ofChange fnExactOverlapOfWrong)

/-- 'laws.FnCuts': WHATEVER THE INPUT: true; the input reads as it did. -/
def fnCutsSpec : ChangeSpec := { name := "fnCuts", fn := fun _ => fun
  | [d] => { results := [.lit (.bool true)], args := [d] }
  | _ => none }
def fnCutsRow : OpenClaim := { program := "ytidaoijpbdljbab", sum := "c1d75d2eec4f1b48530d7588bb247b5894a9f9e41c5150a0a321ebd9d1c55ba5", func := "loop.example/g01060/laws.FnCuts", spec := "fnCuts", unfollowed := true, recurses := true, plainKeys := false, apart := false }
def FnCutsSaid : Prop := fnCutsRow.holds Try.pinned (OpenSpec.ofChange fnCutsSpec)

/-- ITS FALSE NEIGHBOUR: 'it returns false'. Refute it at one input. -/
def fnCutsWrong : ChangeSpec := { name := "fnCuts", fn := fun _ => fun
  | [d] => { results := [.lit (.bool false)], args := [d] }
  | _ => none }
def FnCutsWrongFalsely : Prop := fnCutsRow.holds Try.pinned (OpenSpec.ofChange fnCutsWrong)

/-- 'laws.FnExactAreaOfAll': WHATEVER THE INPUT: true; the input reads as it did. -/
def fnExactAreaOfAllSpec : ChangeSpec := { name := "fnExactAreaOfAll", fn := fun _ => fun
  | [d] => { results := [.lit (.bool true)], args := [d] }
  | _ => none }
def fnExactAreaOfAllRow : OpenClaim := { program := "ytidaoijpbdljbab", sum := "c1d75d2eec4f1b48530d7588bb247b5894a9f9e41c5150a0a321ebd9d1c55ba5", func := "loop.example/g01060/laws.FnExactAreaOfAll", spec := "fnExactAreaOfAll", unfollowed := true, recurses := true, plainKeys := false, apart := false }
def FnExactAreaOfAllSaid : Prop := fnExactAreaOfAllRow.holds Try.pinned (OpenSpec.ofChange fnExactAreaOfAllSpec)

/-- ITS FALSE NEIGHBOUR: 'it returns false'. Refute it at one input. -/
def fnExactAreaOfAllWrong : ChangeSpec := { name := "fnExactAreaOfAll", fn := fun _ => fun
  | [d] => { results := [.lit (.bool false)], args := [d] }
  | _ => none }
def FnExactAreaOfAllWrongFalsely : Prop := fnExactAreaOfAllRow.holds Try.pinned (OpenSpec.ofChange fnExactAreaOfAllWrong)

/-- 'laws.FnExactMostDeep': WHATEVER THE INPUT: true; the input reads as it did. -/
def fnExactMostDeepSpec : ChangeSpec := { name := "fnExactMostDeep", fn := fun _ => fun
  | [d] => { results := [.lit (.bool true)], args := [d] }
  | _ => none }
def fnExactMostDeepRow : OpenClaim := { program := "ytidaoijpbdljbab", sum := "c1d75d2eec4f1b48530d7588bb247b5894a9f9e41c5150a0a321ebd9d1c55ba5", func := "loop.example/g01060/laws.FnExactMostDeep", spec := "fnExactMostDeep", unfollowed := true, recurses := true, plainKeys := false, apart := false }
def FnExactMostDeepSaid : Prop := fnExactMostDeepRow.holds Try.pinned (OpenSpec.ofChange fnExactMostDeepSpec)

/-- ITS FALSE NEIGHBOUR: 'it returns false'. Refute it at one input. -/
def fnExactMostDeepWrong : ChangeSpec := { name := "fnExactMostDeep", fn := fun _ => fun
  | [d] => { results := [.lit (.bool false)], args := [d] }
  | _ => none }
def FnExactMostDeepWrongFalsely : Prop := fnExactMostDeepRow.holds Try.pinned (OpenSpec.ofChange fnExactMostDeepWrong)

/-- 'laws.FnExactAreaOnlyIn': WHATEVER THE INPUT: true; the input reads as it did. -/
def fnExactAreaOnlyInSpec : ChangeSpec := { name := "fnExactAreaOnlyIn", fn := fun _ => fun
  | [d1, d2] => { results := [.lit (.bool true)], args := [d1, d2] }
  | _ => none }
def fnExactAreaOnlyInRow : OpenClaim := { program := "ytidaoijpbdljbab", sum := "c1d75d2eec4f1b48530d7588bb247b5894a9f9e41c5150a0a321ebd9d1c55ba5", func := "loop.example/g01060/laws.FnExactAreaOnlyIn", spec := "fnExactAreaOnlyIn", unfollowed := true, recurses := true, plainKeys := false, apart := false }
def FnExactAreaOnlyInSaid : Prop := fnExactAreaOnlyInRow.holds Try.pinned (OpenSpec.ofChange fnExactAreaOnlyInSpec)

/-- ITS FALSE NEIGHBOUR: 'it returns false'. Refute it at one input. -/
def fnExactAreaOnlyInWrong : ChangeSpec := { name := "fnExactAreaOnlyIn", fn := fun _ => fun
  | [d1, d2] => { results := [.lit (.bool false)], args := [d1, d2] }
  | _ => none }
def FnExactAreaOnlyInWrongFalsely : Prop := fnExactAreaOnlyInRow.holds Try.pinned (OpenSpec.ofChange fnExactAreaOnlyInWrong)

/-- 'laws.FnExactRedundant': WHATEVER THE INPUT: true; the input reads as it did. -/
def fnExactRedundantSpec : ChangeSpec := { name := "fnExactRedundant", fn := fun _ => fun
  | [d] => { results := [.lit (.bool true)], args := [d] }
  | _ => none }
def fnExactRedundantRow : OpenClaim := { program := "ytidaoijpbdljbab", sum := "c1d75d2eec4f1b48530d7588bb247b5894a9f9e41c5150a0a321ebd9d1c55ba5", func := "loop.example/g01060/laws.FnExactRedundant", spec := "fnExactRedundant", unfollowed := true, recurses := true, plainKeys := false, apart := false }
def FnExactRedundantSaid : Prop := fnExactRedundantRow.holds Try.pinned (OpenSpec.ofChange fnExactRedundantSpec)

/-- ITS FALSE NEIGHBOUR: 'it returns false'. Refute it at one input. -/
def fnExactRedundantWrong : ChangeSpec := { name := "fnExactRedundant", fn := fun _ => fun
  | [d] => { results := [.lit (.bool false)], args := [d] }
  | _ => none }
def FnExactRedundantWrongFalsely : Prop := fnExactRedundantRow.holds Try.pinned (OpenSpec.ofChange fnExactRedundantWrong)

/- THE SECOND FORM. 'bulk': how many values and letters a reading holds, each counted each time it is reached (what is shared counts as often as it is met; a slice's spare places count too). A statement '..UptoSaid' is the law's where the arguments, and the package variables that the reading takes, are together of bulk at most 1048576: NARROWER than '..Said'. Prove '..Said' where nothing that the law and all that it calls make is longer than what came in: it says more and counts as full. Else prove '..UptoSaid'. A law counts once. -/
mutual
def uptoBulk {H : Type} : DataW H → Nat
  | .lit (.string bytes) => bytes.length + 1
  | .lit _ => 1
  | .nil => 1
  | .ptr d => uptoBulk d + 1
  | .slice elems spare => uptoBulkAll elems + uptoBulkAll spare + 1
  | .agg parts => uptoBulkAll parts + 1
  | .iface _ d => uptoBulk d + 1
  | .map entries => uptoBulkEntries entries + 1
  | .held _ => 1
def uptoBulkAll {H : Type} : List (DataW H) → Nat
  | [] => 0
  | d :: r => uptoBulk d + uptoBulkAll r
def uptoBulkEntries {H : Type} : List (Lit × DataW H) → Nat
  | [] => 0
  | x :: r => uptoBulkEntry x + uptoBulkEntries r
def uptoBulkEntry {H : Type} : Lit × DataW H → Nat
  | (.string bytes, d) => bytes.length + uptoBulk d + 1
  | (_, d) => uptoBulk d + 1
 end
def uptoSmall : (H : Type) → List (DataW H) → Bool := fun _ ds => decide (uptoBulkAll ds ≤ 1048576)
def OpenSpec.upto (s : _root_.Go.ChangeSpec) : _root_.Go.OpenSpec := { _root_.Go.OpenSpec.ofChange s with cond := some uptoSmall }

/-- 'laws.FnExactFineReader', WHERE WHAT IT READS IS OF BULK AT MOST 1048576: true; the input reads as it did. -/
def fnExactFineReaderUptoRow : OpenClaim := { program := "ytidaoijpbdljbab", sum := "c1d75d2eec4f1b48530d7588bb247b5894a9f9e41c5150a0a321ebd9d1c55ba5", func := "loop.example/g01060/laws.FnExactFineReader", spec := "fnExactFineReader", unfollowed := true, recurses := true, plainKeys := false, apart := false, narrowed := true }
def FnExactFineReaderUptoSaid : Prop := fnExactFineReaderUptoRow.holds Try.pinned (OpenSpec.upto fnExactFineReaderSpec)

/-- 'laws.FnExactPayFines', WHERE WHAT IT READS IS OF BULK AT MOST 1048576: true; the input reads as it did. -/
def fnExactPayFinesUptoRow : OpenClaim := { program := "ytidaoijpbdljbab", sum := "c1d75d2eec4f1b48530d7588bb247b5894a9f9e41c5150a0a321ebd9d1c55ba5", func := "loop.example/g01060/laws.FnExactPayFines", spec := "fnExactPayFines", unfollowed := true, recurses := true, plainKeys := false, apart := false, narrowed := true }
def FnExactPayFinesUptoSaid : Prop := fnExactPayFinesUptoRow.holds Try.pinned (OpenSpec.upto fnExactPayFinesSpec)

/-- 'laws.FnExactRaiseClass', WHERE WHAT IT READS IS OF BULK AT MOST 1048576: true; the input reads as it did. -/
def fnExactRaiseClassUptoRow : OpenClaim := { program := "ytidaoijpbdljbab", sum := "c1d75d2eec4f1b48530d7588bb247b5894a9f9e41c5150a0a321ebd9d1c55ba5", func := "loop.example/g01060/laws.FnExactRaiseClass", spec := "fnExactRaiseClass", unfollowed := true, recurses := true, plainKeys := false, apart := false, narrowed := true }
def FnExactRaiseClassUptoSaid : Prop := fnExactRaiseClassUptoRow.holds Try.pinned (OpenSpec.upto fnExactRaiseClassSpec)

/-- 'laws.FnExactOweMost', WHERE WHAT IT READS IS OF BULK AT MOST 1048576: true; the input reads as it did. -/
def fnExactOweMostUptoRow : OpenClaim := { program := "ytidaoijpbdljbab", sum := "c1d75d2eec4f1b48530d7588bb247b5894a9f9e41c5150a0a321ebd9d1c55ba5", func := "loop.example/g01060/laws.FnExactOweMost", spec := "fnExactOweMost", unfollowed := true, recurses := true, plainKeys := false, apart := false, narrowed := true }
def FnExactOweMostUptoSaid : Prop := fnExactOweMostUptoRow.holds Try.pinned (OpenSpec.upto fnExactOweMostSpec)

/-- 'laws.FnExactOverlapOf', WHERE WHAT IT READS IS OF BULK AT MOST 1048576: true; the input reads as it did. -/
def fnExactOverlapOfUptoRow : OpenClaim := { program := "ytidaoijpbdljbab", sum := "c1d75d2eec4f1b48530d7588bb247b5894a9f9e41c5150a0a321ebd9d1c55ba5", func := "loop.example/g01060/laws.FnExactOverlapOf", spec := "fnExactOverlapOf", unfollowed := true, recurses := true, plainKeys := false, apart := false, narrowed := true }
def FnExactOverlapOfUptoSaid : Prop := fnExactOverlapOfUptoRow.holds Try.pinned (OpenSpec.upto fnExactOverlapOfSpec)

/-- 'laws.FnCuts', WHERE WHAT IT READS IS OF BULK AT MOST 1048576: true; the input reads as it did. -/
def fnCutsUptoRow : OpenClaim := { program := "ytidaoijpbdljbab", sum := "c1d75d2eec4f1b48530d7588bb247b5894a9f9e41c5150a0a321ebd9d1c55ba5", func := "loop.example/g01060/laws.FnCuts", spec := "fnCuts", unfollowed := true, recurses := true, plainKeys := false, apart := false, narrowed := true }
def FnCutsUptoSaid : Prop := fnCutsUptoRow.holds Try.pinned (OpenSpec.upto fnCutsSpec)

/-- 'laws.FnExactAreaOfAll', WHERE WHAT IT READS IS OF BULK AT MOST 1048576: true; the input reads as it did. -/
def fnExactAreaOfAllUptoRow : OpenClaim := { program := "ytidaoijpbdljbab", sum := "c1d75d2eec4f1b48530d7588bb247b5894a9f9e41c5150a0a321ebd9d1c55ba5", func := "loop.example/g01060/laws.FnExactAreaOfAll", spec := "fnExactAreaOfAll", unfollowed := true, recurses := true, plainKeys := false, apart := false, narrowed := true }
def FnExactAreaOfAllUptoSaid : Prop := fnExactAreaOfAllUptoRow.holds Try.pinned (OpenSpec.upto fnExactAreaOfAllSpec)

/-- 'laws.FnExactMostDeep', WHERE WHAT IT READS IS OF BULK AT MOST 1048576: true; the input reads as it did. -/
def fnExactMostDeepUptoRow : OpenClaim := { program := "ytidaoijpbdljbab", sum := "c1d75d2eec4f1b48530d7588bb247b5894a9f9e41c5150a0a321ebd9d1c55ba5", func := "loop.example/g01060/laws.FnExactMostDeep", spec := "fnExactMostDeep", unfollowed := true, recurses := true, plainKeys := false, apart := false, narrowed := true }
def FnExactMostDeepUptoSaid : Prop := fnExactMostDeepUptoRow.holds Try.pinned (OpenSpec.upto fnExactMostDeepSpec)

/-- 'laws.FnExactAreaOnlyIn', WHERE WHAT IT READS IS OF BULK AT MOST 1048576: true; the input reads as it did. -/
def fnExactAreaOnlyInUptoRow : OpenClaim := { program := "ytidaoijpbdljbab", sum := "c1d75d2eec4f1b48530d7588bb247b5894a9f9e41c5150a0a321ebd9d1c55ba5", func := "loop.example/g01060/laws.FnExactAreaOnlyIn", spec := "fnExactAreaOnlyIn", unfollowed := true, recurses := true, plainKeys := false, apart := false, narrowed := true }
def FnExactAreaOnlyInUptoSaid : Prop := fnExactAreaOnlyInUptoRow.holds Try.pinned (OpenSpec.upto fnExactAreaOnlyInSpec)

/-- 'laws.FnExactRedundant', WHERE WHAT IT READS IS OF BULK AT MOST 1048576: true; the input reads as it did. -/
def fnExactRedundantUptoRow : OpenClaim := { program := "ytidaoijpbdljbab", sum := "c1d75d2eec4f1b48530d7588bb247b5894a9f9e41c5150a0a321ebd9d1c55ba5", func := "loop.example/g01060/laws.FnExactRedundant", spec := "fnExactRedundant", unfollowed := true, recurses := true, plainKeys := false, apart := false, narrowed := true }
def FnExactRedundantUptoSaid : Prop := fnExactRedundantUptoRow.holds Try.pinned (OpenSpec.upto fnExactRedundantSpec)

end Rows
end Go.Proofs.Ytidaoijpbdljbab
