/-
  No cell of these rows narrows 'for every input' (looked for: loops, veiled, ifaces, maps, wideKeys, modest, calm, conditions, laid).
  DERIVED. THE GIVEN ROWS OF THIS SEAT. 13 by the template 'for every input the law returns true; each argument reads behind the call as it read before'; 0 by the template 'total and deterministic' (their statements: YtpnaciamnigbnaaTotals.lean).
  GIVEN WITH THE SEED: the statements are not yours to turn. If you find one false, say at which input.
  Laid BY PROGRAM, IN A SANDBOX (cutbox-rows.mjs): the forced cells as the released guide's own fill.sh prints them over the translation fd3d6bacf2ddd7ef… (all of the seat's roots in one cut). By AI agents, Wed Nov 11 2026. No macro, syntax, notation, axiom, sorry.
-/
import Derived.Test.YtpnaciamnigbnaaChecked
import GoSem.Claim
import GoSem.ClaimJoined
import GoSem.ClaimMapViews
import Derived.JoinedTies
import Derived.KernelRfl
namespace Go.Proofs.Ytpnaciamnigbnaa
/- THE CELL 'sum', in the pinned program and in every row, IS THE sha256 OF THE DUMP (.gsa) THAT YtpnaciamnigbnaaProg.lean LOADS. Nothing in Lean hashes anything: it is a label: what it is worth is what the hold of that sum in a sandbox is worth. -/
noncomputable def Try.pinned : Pinned := { name := "ytpnaciamnigbnaa", sum := "fd3d6bacf2ddd7ef58753dbef0fa7d1e93429232256e6c1ab30f0768efdc2242", checked := Try.checked }
namespace Rows
def none {H : Type} : Left H := { results := [], args := [] }

/-- 'laws.FnRunoff': WHATEVER THE INPUT: true; the input reads as it did. -/
def fnRunoffSpec : ChangeSpec := { name := "fnRunoff", fn := fun _ => fun
  | [d] => { results := [.lit (.bool true)], args := [d] }
  | _ => none }
def fnRunoffRow : OpenClaim := { program := "ytpnaciamnigbnaa", sum := "fd3d6bacf2ddd7ef58753dbef0fa7d1e93429232256e6c1ab30f0768efdc2242", func := "loop.example/g01060/laws.FnRunoff", spec := "fnRunoff", unfollowed := true, recurses := true, apart := false }
def FnRunoffSaid : Prop := fnRunoffRow.holds Try.pinned (OpenSpec.ofChange fnRunoffSpec)

/-- ITS FALSE NEIGHBOUR: 'it returns false'. Refute it at one input. -/
def fnRunoffWrong : ChangeSpec := { name := "fnRunoff", fn := fun _ => fun
  | [d] => { results := [.lit (.bool false)], args := [d] }
  | _ => none }
def FnRunoffWrongFalsely : Prop := fnRunoffRow.holds Try.pinned (OpenSpec.ofChange fnRunoffWrong)

/-- 'laws.FnLevels': WHATEVER THE INPUT: true; the input reads as it did. -/
def fnLevelsSpec : ChangeSpec := { name := "fnLevels", fn := fun _ => fun
  | [d] => { results := [.lit (.bool true)], args := [d] }
  | _ => none }
def fnLevelsRow : OpenClaim := { program := "ytpnaciamnigbnaa", sum := "fd3d6bacf2ddd7ef58753dbef0fa7d1e93429232256e6c1ab30f0768efdc2242", func := "loop.example/g01060/laws.FnLevels", spec := "fnLevels", unfollowed := true, recurses := true, apart := false }
def FnLevelsSaid : Prop := fnLevelsRow.holds Try.pinned (OpenSpec.ofChange fnLevelsSpec)

/-- ITS FALSE NEIGHBOUR: 'it returns false'. Refute it at one input. -/
def fnLevelsWrong : ChangeSpec := { name := "fnLevels", fn := fun _ => fun
  | [d] => { results := [.lit (.bool false)], args := [d] }
  | _ => none }
def FnLevelsWrongFalsely : Prop := fnLevelsRow.holds Try.pinned (OpenSpec.ofChange fnLevelsWrong)

/-- 'laws.FnCrossings': WHATEVER THE INPUT: true; the input reads as it did. -/
def fnCrossingsSpec : ChangeSpec := { name := "fnCrossings", fn := fun _ => fun
  | [d] => { results := [.lit (.bool true)], args := [d] }
  | _ => none }
def fnCrossingsRow : OpenClaim := { program := "ytpnaciamnigbnaa", sum := "fd3d6bacf2ddd7ef58753dbef0fa7d1e93429232256e6c1ab30f0768efdc2242", func := "loop.example/g01060/laws.FnCrossings", spec := "fnCrossings", unfollowed := true, recurses := true, apart := false }
def FnCrossingsSaid : Prop := fnCrossingsRow.holds Try.pinned (OpenSpec.ofChange fnCrossingsSpec)

/-- ITS FALSE NEIGHBOUR: 'it returns false'. Refute it at one input. -/
def fnCrossingsWrong : ChangeSpec := { name := "fnCrossings", fn := fun _ => fun
  | [d] => { results := [.lit (.bool false)], args := [d] }
  | _ => none }
def FnCrossingsWrongFalsely : Prop := fnCrossingsRow.holds Try.pinned (OpenSpec.ofChange fnCrossingsWrong)

/-- 'laws.FnExactIsRoadLine': WHATEVER THE INPUT: true; the input reads as it did. -/
def fnExactIsRoadLineSpec : ChangeSpec := { name := "fnExactIsRoadLine", fn := fun _ => fun
  | [d] => { results := [.lit (.bool true)], args := [d] }
  | _ => none }
def fnExactIsRoadLineRow : OpenClaim := { program := "ytpnaciamnigbnaa", sum := "fd3d6bacf2ddd7ef58753dbef0fa7d1e93429232256e6c1ab30f0768efdc2242", func := "loop.example/g01060/laws.FnExactIsRoadLine", spec := "fnExactIsRoadLine", apart := false }
def FnExactIsRoadLineSaid : Prop := fnExactIsRoadLineRow.holds Try.pinned (OpenSpec.ofChange fnExactIsRoadLineSpec)

/-- ITS FALSE NEIGHBOUR: 'it returns false'. Refute it at one input. -/
def fnExactIsRoadLineWrong : ChangeSpec := { name := "fnExactIsRoadLine", fn := fun _ => fun
  | [d] => { results := [.lit (.bool false)], args := [d] }
  | _ => none }
def FnExactIsRoadLineWrongFalsely : Prop := fnExactIsRoadLineRow.holds Try.pinned (OpenSpec.ofChange fnExactIsRoadLineWrong)

/-- 'laws.FnExactRoadLength': WHATEVER THE INPUT: true; the input reads as it did. -/
def fnExactRoadLengthSpec : ChangeSpec := { name := "fnExactRoadLength", fn := fun _ => fun
  | [d] => { results := [.lit (.bool true)], args := [d] }
  | _ => none }
def fnExactRoadLengthRow : OpenClaim := { program := "ytpnaciamnigbnaa", sum := "fd3d6bacf2ddd7ef58753dbef0fa7d1e93429232256e6c1ab30f0768efdc2242", func := "loop.example/g01060/laws.FnExactRoadLength", spec := "fnExactRoadLength", apart := false }
def FnExactRoadLengthSaid : Prop := fnExactRoadLengthRow.holds Try.pinned (OpenSpec.ofChange fnExactRoadLengthSpec)

/-- ITS FALSE NEIGHBOUR: 'it returns false'. Refute it at one input. -/
def fnExactRoadLengthWrong : ChangeSpec := { name := "fnExactRoadLength", fn := fun _ => fun
  | [d] => { results := [.lit (.bool false)], args := [d] }
  | _ => none }
def FnExactRoadLengthWrongFalsely : Prop := fnExactRoadLengthRow.holds Try.pinned (OpenSpec.ofChange fnExactRoadLengthWrong)

/-- 'laws.FnExactBendsOf': WHATEVER THE INPUT: true; the input reads as it did. -/
def fnExactBendsOfSpec : ChangeSpec := { name := "fnExactBendsOf", fn := fun _ => fun
  | [d] => { results := [.lit (.bool true)], args := [d] }
  | _ => none }
def fnExactBendsOfRow : OpenClaim := { program := "ytpnaciamnigbnaa", sum := "fd3d6bacf2ddd7ef58753dbef0fa7d1e93429232256e6c1ab30f0768efdc2242", func := "loop.example/g01060/laws.FnExactBendsOf", spec := "fnExactBendsOf", apart := false }
def FnExactBendsOfSaid : Prop := fnExactBendsOfRow.holds Try.pinned (OpenSpec.ofChange fnExactBendsOfSpec)

/-- ITS FALSE NEIGHBOUR: 'it returns false'. Refute it at one input. -/
def fnExactBendsOfWrong : ChangeSpec := { name := "fnExactBendsOf", fn := fun _ => fun
  | [d] => { results := [.lit (.bool false)], args := [d] }
  | _ => none }
def FnExactBendsOfWrongFalsely : Prop := fnExactBendsOfRow.holds Try.pinned (OpenSpec.ofChange fnExactBendsOfWrong)

/-- 'laws.FnExactPlainRoad': WHATEVER THE INPUT: true; the input reads as it did. -/
def fnExactPlainRoadSpec : ChangeSpec := { name := "fnExactPlainRoad", fn := fun _ => fun
  | [d] => { results := [.lit (.bool true)], args := [d] }
  | _ => none }
def fnExactPlainRoadRow : OpenClaim := { program := "ytpnaciamnigbnaa", sum := "fd3d6bacf2ddd7ef58753dbef0fa7d1e93429232256e6c1ab30f0768efdc2242", func := "loop.example/g01060/laws.FnExactPlainRoad", spec := "fnExactPlainRoad", apart := false }
def FnExactPlainRoadSaid : Prop := fnExactPlainRoadRow.holds Try.pinned (OpenSpec.ofChange fnExactPlainRoadSpec)

/-- ITS FALSE NEIGHBOUR: 'it returns false'. Refute it at one input. -/
def fnExactPlainRoadWrong : ChangeSpec := { name := "fnExactPlainRoad", fn := fun _ => fun
  | [d] => { results := [.lit (.bool false)], args := [d] }
  | _ => none }
def FnExactPlainRoadWrongFalsely : Prop := fnExactPlainRoadRow.holds Try.pinned (OpenSpec.ofChange fnExactPlainRoadWrong)

/-- 'laws.FnExactReverseRoad': WHATEVER THE INPUT: true; the input reads as it did. -/
def fnExactReverseRoadSpec : ChangeSpec := { name := "fnExactReverseRoad", fn := fun _ => fun
  | [d] => { results := [.lit (.bool true)], args := [d] }
  | _ => none }
def fnExactReverseRoadRow : OpenClaim := { program := "ytpnaciamnigbnaa", sum := "fd3d6bacf2ddd7ef58753dbef0fa7d1e93429232256e6c1ab30f0768efdc2242", func := "loop.example/g01060/laws.FnExactReverseRoad", spec := "fnExactReverseRoad", apart := false }
def FnExactReverseRoadSaid : Prop := fnExactReverseRoadRow.holds Try.pinned (OpenSpec.ofChange fnExactReverseRoadSpec)

/-- ITS FALSE NEIGHBOUR: 'it returns false'. Refute it at one input. -/
def fnExactReverseRoadWrong : ChangeSpec := { name := "fnExactReverseRoad", fn := fun _ => fun
  | [d] => { results := [.lit (.bool false)], args := [d] }
  | _ => none }
def FnExactReverseRoadWrongFalsely : Prop := fnExactReverseRoadRow.holds Try.pinned (OpenSpec.ofChange fnExactReverseRoadWrong)

/-- 'laws.FnExactJoinRoads': WHATEVER THE INPUT: true; the input reads as it did. -/
def fnExactJoinRoadsSpec : ChangeSpec := { name := "fnExactJoinRoads", fn := fun _ => fun
  | [d1, d2] => { results := [.lit (.bool true)], args := [d1, d2] }
  | _ => none }
def fnExactJoinRoadsRow : OpenClaim := { program := "ytpnaciamnigbnaa", sum := "fd3d6bacf2ddd7ef58753dbef0fa7d1e93429232256e6c1ab30f0768efdc2242", func := "loop.example/g01060/laws.FnExactJoinRoads", spec := "fnExactJoinRoads", apart := false }
def FnExactJoinRoadsSaid : Prop := fnExactJoinRoadsRow.holds Try.pinned (OpenSpec.ofChange fnExactJoinRoadsSpec)

/-- ITS FALSE NEIGHBOUR: 'it returns false'. Refute it at one input. -/
def fnExactJoinRoadsWrong : ChangeSpec := { name := "fnExactJoinRoads", fn := fun _ => fun
  | [d1, d2] => { results := [.lit (.bool false)], args := [d1, d2] }
  | _ => none }
def FnExactJoinRoadsWrongFalsely : Prop := fnExactJoinRoadsRow.holds Try.pinned (OpenSpec.ofChange fnExactJoinRoadsWrong)

/-- 'laws.FnExactAlongRoad': WHATEVER THE INPUT: true; the input reads as it did. -/
def fnExactAlongRoadSpec : ChangeSpec := { name := "fnExactAlongRoad", fn := fun _ => fun
  | [d1, d2] => { results := [.lit (.bool true)], args := [d1, d2] }
  | _ => none }
def fnExactAlongRoadRow : OpenClaim := { program := "ytpnaciamnigbnaa", sum := "fd3d6bacf2ddd7ef58753dbef0fa7d1e93429232256e6c1ab30f0768efdc2242", func := "loop.example/g01060/laws.FnExactAlongRoad", spec := "fnExactAlongRoad", apart := false }
def FnExactAlongRoadSaid : Prop := fnExactAlongRoadRow.holds Try.pinned (OpenSpec.ofChange fnExactAlongRoadSpec)

/-- ITS FALSE NEIGHBOUR: 'it returns false'. Refute it at one input. -/
def fnExactAlongRoadWrong : ChangeSpec := { name := "fnExactAlongRoad", fn := fun _ => fun
  | [d1, d2] => { results := [.lit (.bool false)], args := [d1, d2] }
  | _ => none }
def FnExactAlongRoadWrongFalsely : Prop := fnExactAlongRoadRow.holds Try.pinned (OpenSpec.ofChange fnExactAlongRoadWrong)

/-- 'laws.FnExactDetourOf': WHATEVER THE INPUT: true; the input reads as it did. -/
def fnExactDetourOfSpec : ChangeSpec := { name := "fnExactDetourOf", fn := fun _ => fun
  | [d] => { results := [.lit (.bool true)], args := [d] }
  | _ => none }
def fnExactDetourOfRow : OpenClaim := { program := "ytpnaciamnigbnaa", sum := "fd3d6bacf2ddd7ef58753dbef0fa7d1e93429232256e6c1ab30f0768efdc2242", func := "loop.example/g01060/laws.FnExactDetourOf", spec := "fnExactDetourOf", apart := false }
def FnExactDetourOfSaid : Prop := fnExactDetourOfRow.holds Try.pinned (OpenSpec.ofChange fnExactDetourOfSpec)

/-- ITS FALSE NEIGHBOUR: 'it returns false'. Refute it at one input. -/
def fnExactDetourOfWrong : ChangeSpec := { name := "fnExactDetourOf", fn := fun _ => fun
  | [d] => { results := [.lit (.bool false)], args := [d] }
  | _ => none }
def FnExactDetourOfWrongFalsely : Prop := fnExactDetourOfRow.holds Try.pinned (OpenSpec.ofChange fnExactDetourOfWrong)

/-- 'laws.FnExactCrossingParts': WHATEVER THE INPUT: true; the input reads as it did. -/
def fnExactCrossingPartsSpec : ChangeSpec := { name := "fnExactCrossingParts", fn := fun _ => fun
  | [d1, d2] => { results := [.lit (.bool true)], args := [d1, d2] }
  | _ => none }
def fnExactCrossingPartsRow : OpenClaim := { program := "ytpnaciamnigbnaa", sum := "fd3d6bacf2ddd7ef58753dbef0fa7d1e93429232256e6c1ab30f0768efdc2242", func := "loop.example/g01060/laws.FnExactCrossingParts", spec := "fnExactCrossingParts", unfollowed := true, recurses := true, apart := false }
def FnExactCrossingPartsSaid : Prop := fnExactCrossingPartsRow.holds Try.pinned (OpenSpec.ofChange fnExactCrossingPartsSpec)

/-- ITS FALSE NEIGHBOUR: 'it returns false'. Refute it at one input. -/
def fnExactCrossingPartsWrong : ChangeSpec := { name := "fnExactCrossingParts", fn := fun _ => fun
  | [d1, d2] => { results := [.lit (.bool false)], args := [d1, d2] }
  | _ => none }
def FnExactCrossingPartsWrongFalsely : Prop := fnExactCrossingPartsRow.holds Try.pinned (OpenSpec.ofChange fnExactCrossingPartsWrong)

/-- 'laws.FnExactIsClearRoad': WHATEVER THE INPUT: true; the input reads as it did. -/
def fnExactIsClearRoadSpec : ChangeSpec := { name := "fnExactIsClearRoad", fn := fun _ => fun
  | [d] => { results := [.lit (.bool true)], args := [d] }
  | _ => none }
def fnExactIsClearRoadRow : OpenClaim := { program := "ytpnaciamnigbnaa", sum := "fd3d6bacf2ddd7ef58753dbef0fa7d1e93429232256e6c1ab30f0768efdc2242", func := "loop.example/g01060/laws.FnExactIsClearRoad", spec := "fnExactIsClearRoad", unfollowed := true, recurses := true, apart := false }
def FnExactIsClearRoadSaid : Prop := fnExactIsClearRoadRow.holds Try.pinned (OpenSpec.ofChange fnExactIsClearRoadSpec)

/-- ITS FALSE NEIGHBOUR: 'it returns false'. Refute it at one input. -/
def fnExactIsClearRoadWrong : ChangeSpec := { name := "fnExactIsClearRoad", fn := fun _ => fun
  | [d] => { results := [.lit (.bool false)], args := [d] }
  | _ => none }
def FnExactIsClearRoadWrongFalsely : Prop := fnExactIsClearRoadRow.holds Try.pinned (OpenSpec.ofChange fnExactIsClearRoadWrong)

/- THE SECOND FORM. 'bulk': how many values and letters a reading holds, each counted each time it is reached (what is shared counts as often as it is met; a slice's spare places count too). A statement '..UptoSaid' is the law's where the arguments, and the package variables that the reading takes, are together of bulk at most 1048576: NARROWER than '..Said'. Prove '..Said' where nothing that the law and all that it calls make is longer than what came in: it says more and counts as full. Else prove '..UptoSaid'. A law counts once. -/
mutual
def uptoBulk {H : Type} : DataW H → Nat
  | .lit (.string bytes) => bytes.length + 1
  | .lit _ => 1
  | .nil => 1
  | .ptr d => uptoBulk d + 1
  | .slice elems spare => uptoBulkAll elems + uptoBulkAll spare + 1
  | .agg parts => uptoBulkAll parts + 1
  | .iface _ d => uptoBulk d + 1
  | .map entries => uptoBulkEntries entries + 1
  | .held _ => 1
def uptoBulkAll {H : Type} : List (DataW H) → Nat
  | [] => 0
  | d :: r => uptoBulk d + uptoBulkAll r
def uptoBulkEntries {H : Type} : List (Lit × DataW H) → Nat
  | [] => 0
  | x :: r => uptoBulkEntry x + uptoBulkEntries r
def uptoBulkEntry {H : Type} : Lit × DataW H → Nat
  | (.string bytes, d) => bytes.length + uptoBulk d + 1
  | (_, d) => uptoBulk d + 1
 end
def uptoSmall : (H : Type) → List (DataW H) → Bool := fun _ ds => decide (uptoBulkAll ds ≤ 1048576)
def OpenSpec.upto (s : _root_.Go.ChangeSpec) : _root_.Go.OpenSpec := { _root_.Go.OpenSpec.ofChange s with cond := some uptoSmall }

/-- 'laws.FnRunoff', WHERE WHAT IT READS IS OF BULK AT MOST 1048576: true; the input reads as it did. -/
def fnRunoffUptoRow : OpenClaim := { program := "ytpnaciamnigbnaa", sum := "fd3d6bacf2ddd7ef58753dbef0fa7d1e93429232256e6c1ab30f0768efdc2242", func := "loop.example/g01060/laws.FnRunoff", spec := "fnRunoff", unfollowed := true, recurses := true, apart := false, narrowed := true }
def FnRunoffUptoSaid : Prop := fnRunoffUptoRow.holds Try.pinned (OpenSpec.upto fnRunoffSpec)

/-- 'laws.FnLevels', WHERE WHAT IT READS IS OF BULK AT MOST 1048576: true; the input reads as it did. -/
def fnLevelsUptoRow : OpenClaim := { program := "ytpnaciamnigbnaa", sum := "fd3d6bacf2ddd7ef58753dbef0fa7d1e93429232256e6c1ab30f0768efdc2242", func := "loop.example/g01060/laws.FnLevels", spec := "fnLevels", unfollowed := true, recurses := true, apart := false, narrowed := true }
def FnLevelsUptoSaid : Prop := fnLevelsUptoRow.holds Try.pinned (OpenSpec.upto fnLevelsSpec)

/-- 'laws.FnCrossings', WHERE WHAT IT READS IS OF BULK AT MOST 1048576: true; the input reads as it did. -/
def fnCrossingsUptoRow : OpenClaim := { program := "ytpnaciamnigbnaa", sum := "fd3d6bacf2ddd7ef58753dbef0fa7d1e93429232256e6c1ab30f0768efdc2242", func := "loop.example/g01060/laws.FnCrossings", spec := "fnCrossings", unfollowed := true, recurses := true, apart := false, narrowed := true }
def FnCrossingsUptoSaid : Prop := fnCrossingsUptoRow.holds Try.pinned (OpenSpec.upto fnCrossingsSpec)

/-- 'laws.FnExactIsRoadLine', WHERE WHAT IT READS IS OF BULK AT MOST 1048576: true; the input reads as it did. -/
def fnExactIsRoadLineUptoRow : OpenClaim := { program := "ytpnaciamnigbnaa", sum := "fd3d6bacf2ddd7ef58753dbef0fa7d1e93429232256e6c1ab30f0768efdc2242", func := "loop.example/g01060/laws.FnExactIsRoadLine", spec := "fnExactIsRoadLine", apart := false, narrowed := true }
def FnExactIsRoadLineUptoSaid : Prop := fnExactIsRoadLineUptoRow.holds Try.pinned (OpenSpec.upto fnExactIsRoadLineSpec)

/-- 'laws.FnExactRoadLength', WHERE WHAT IT READS IS OF BULK AT MOST 1048576: true; the input reads as it did. -/
def fnExactRoadLengthUptoRow : OpenClaim := { program := "ytpnaciamnigbnaa", sum := "fd3d6bacf2ddd7ef58753dbef0fa7d1e93429232256e6c1ab30f0768efdc2242", func := "loop.example/g01060/laws.FnExactRoadLength", spec := "fnExactRoadLength", apart := false, narrowed := true }
def FnExactRoadLengthUptoSaid : Prop := fnExactRoadLengthUptoRow.holds Try.pinned (OpenSpec.upto fnExactRoadLengthSpec)

/-- 'laws.FnExactBendsOf', WHERE WHAT IT READS IS OF BULK AT MOST 1048576: true; the input reads as it did. -/
def fnExactBendsOfUptoRow : OpenClaim := { program := "ytpnaciamnigbnaa", sum := "fd3d6bacf2ddd7ef58753dbef0fa7d1e93429232256e6c1ab30f0768efdc2242", func := "loop.example/g01060/laws.FnExactBendsOf", spec := "fnExactBendsOf", apart := false, narrowed := true }
def FnExactBendsOfUptoSaid : Prop := fnExactBendsOfUptoRow.holds Try.pinned (OpenSpec.upto fnExactBendsOfSpec)

/-- 'laws.FnExactPlainRoad', WHERE WHAT IT READS IS OF BULK AT MOST 1048576: true; the input reads as it did. -/
def fnExactPlainRoadUptoRow : OpenClaim := { program := "ytpnaciamnigbnaa", sum := "fd3d6bacf2ddd7ef58753dbef0fa7d1e93429232256e6c1ab30f0768efdc2242", func := "loop.example/g01060/laws.FnExactPlainRoad", spec := "fnExactPlainRoad", apart := false, narrowed := true }
def FnExactPlainRoadUptoSaid : Prop := fnExactPlainRoadUptoRow.holds Try.pinned (OpenSpec.upto fnExactPlainRoadSpec)

/-- 'laws.FnExactReverseRoad', WHERE WHAT IT READS IS OF BULK AT MOST 1048576: true; the input reads as it did. -/
def fnExactReverseRoadUptoRow : OpenClaim := { program := "ytpnaciamnigbnaa", sum := "fd3d6bacf2ddd7ef58753dbef0fa7d1e93429232256e6c1ab30f0768efdc2242", func := "loop.example/g01060/laws.FnExactReverseRoad", spec := "fnExactReverseRoad", apart := false, narrowed := true }
def FnExactReverseRoadUptoSaid : Prop := fnExactReverseRoadUptoRow.holds Try.pinned (OpenSpec.upto fnExactReverseRoadSpec)

/-- 'laws.FnExactJoinRoads', WHERE WHAT IT READS IS OF BULK AT MOST 1048576: true; the input reads as it did. -/
def fnExactJoinRoadsUptoRow : OpenClaim := { program := "ytpnaciamnigbnaa", sum := "fd3d6bacf2ddd7ef58753dbef0fa7d1e93429232256e6c1ab30f0768efdc2242", func := "loop.example/g01060/laws.FnExactJoinRoads", spec := "fnExactJoinRoads", apart := false, narrowed := true }
def FnExactJoinRoadsUptoSaid : Prop := fnExactJoinRoadsUptoRow.holds Try.pinned (OpenSpec.upto fnExactJoinRoadsSpec)

/-- 'laws.FnExactAlongRoad', WHERE WHAT IT READS IS OF BULK AT MOST 1048576: true; the input reads as it did. -/
def fnExactAlongRoadUptoRow : OpenClaim := { program := "ytpnaciamnigbnaa", sum := "fd3d6bacf2ddd7ef58753dbef0fa7d1e93429232256e6c1ab30f0768efdc2242", func := "loop.example/g01060/laws.FnExactAlongRoad", spec := "fnExactAlongRoad", apart := false, narrowed := true }
def FnExactAlongRoadUptoSaid : Prop := fnExactAlongRoadUptoRow.holds Try.pinned (OpenSpec.upto fnExactAlongRoadSpec)

/-- 'laws.FnExactDetourOf', WHERE WHAT IT READS IS OF BULK AT MOST 1048576: true; the input reads as it did. -/
def fnExactDetourOfUptoRow : OpenClaim := { program := "ytpnaciamnigbnaa", sum := "fd3d6bacf2ddd7ef58753dbef0fa7d1e93429232256e6c1ab30f0768efdc2242", func := "loop.example/g01060/laws.FnExactDetourOf", spec := "fnExactDetourOf", apart := false, narrowed := true }
def FnExactDetourOfUptoSaid : Prop := fnExactDetourOfUptoRow.holds Try.pinned (OpenSpec.upto fnExactDetourOfSpec)

/-- 'laws.FnExactCrossingParts', WHERE WHAT IT READS IS OF BULK AT MOST 1048576: true; the input reads as it did. -/
def fnExactCrossingPartsUptoRow : OpenClaim := { program := "ytpnaciamnigbnaa", sum := "fd3d6bacf2ddd7ef58753dbef0fa7d1e93429232256e6c1ab30f0768efdc2242", func := "loop.example/g01060/laws.FnExactCrossingParts", spec := "fnExactCrossingParts", unfollowed := true, recurses := true, apart := false, narrowed := true }
def FnExactCrossingPartsUptoSaid : Prop := fnExactCrossingPartsUptoRow.holds Try.pinned (OpenSpec.upto fnExactCrossingPartsSpec)

/-- 'laws.FnExactIsClearRoad', WHERE WHAT IT READS IS OF BULK AT MOST 1048576: true; the input reads as it did. -/
def fnExactIsClearRoadUptoRow : OpenClaim := { program := "ytpnaciamnigbnaa", sum := "fd3d6bacf2ddd7ef58753dbef0fa7d1e93429232256e6c1ab30f0768efdc2242", func := "loop.example/g01060/laws.FnExactIsClearRoad", spec := "fnExactIsClearRoad", unfollowed := true, recurses := true, apart := false, narrowed := true }
def FnExactIsClearRoadUptoSaid : Prop := fnExactIsClearRoadUptoRow.holds Try.pinned (OpenSpec.upto fnExactIsClearRoadSpec)

end Rows
end Go.Proofs.Ytpnaciamnigbnaa
