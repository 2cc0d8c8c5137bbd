/-
  NARROWER THAN 'FOR EVERY INPUT', by the rows' own cells (each row's printed sentence says how): FnReaders: laid · FnExactMayTake: laid.
  DERIVED. THE GIVEN ROWS OF THIS SEAT. 2 by the template 'for every input the law returns true; each argument reads behind the call as it read before'; 0 by the template 'total and deterministic' (their statements: YtidaoijpbdljbabDoorTotals.lean).
  GIVEN WITH THE SEED: the statements are not yours to turn. If you find one false, say at which input.
  Laid BY PROGRAM, IN A SANDBOX (cutbox-rows.mjs): the forced cells as the released guide's own fill.sh prints them over the translation 90ff7c0a5f349df9… (all of the seat's roots in one cut). By AI agents, Wed Nov 11 2026. No macro, syntax, notation, axiom, sorry.
-/
import Derived.Test.YtidaoijpbdljbabDoorChecked
import GoSem.Claim
import GoSem.ClaimJoined
import GoSem.ClaimMapViews
import Derived.JoinedTies
import Derived.KernelRfl
namespace Go.Proofs.YtidaoijpbdljbabDoor
/- THE CELL 'sum', in the pinned program and in every row, IS THE sha256 OF THE DUMP (.gsa) THAT YtidaoijpbdljbabDoorProg.lean LOADS. Nothing in Lean hashes anything: it is a label: what it is worth is what the hold of that sum in a sandbox is worth. -/
noncomputable def Tryd.pinned : Pinned := { name := "ytidaoijpbdljbabdoor", sum := "90ff7c0a5f349df9b5f4b27314ba9584920cdb60be9141d4dbefc53e250d811e", checked := Tryd.checked }
namespace Rows
def none {H : Type} : Left H := { results := [], args := [] }

/- WHAT THE LISTED PACKAGE-LEVEL VARIABLES READ AS WHEN THE CALL BEGINS. Each datum BY PROGRAM (the guide's laid-datum.mjs) off the statement by which the dump's own 'gosem.cut.vars' lays the variable. In a bare row this is a premise. The card (YtidaoijpbdljbabDoorCards.lean) ties it to the program's text. -/
def laid_loop_example_g01060_impl_homeByClass {H : Type} : DataW H := .agg [.lit (.int .i64 2), .lit (.int .i64 5), .lit (.int .i64 10)]

/-- 'laws.FnReaders': WHATEVER THE INPUT: true; the input reads as it did. -/
def fnReadersSpec : ChangeSpec := { name := "fnReaders", vars := ["loop.example/g01060/impl.homeByClass"], fn := fun _ => fun
  | [d, g1] => { results := [.lit (.bool true)], args := [d], vars := [g1] }
  | _ => none }
def fnReadersRow : OpenClaim := { program := "ytidaoijpbdljbabdoor", sum := "90ff7c0a5f349df9b5f4b27314ba9584920cdb60be9141d4dbefc53e250d811e", func := "loop.example/g01060/laws.FnReaders", spec := "fnReaders", unfollowed := true, recurses := true, named := ["loop.example/g01060/impl.homeByClass"], apart := false, laid := [("loop.example/g01060/impl.homeByClass", laid_loop_example_g01060_impl_homeByClass)] }
def FnReadersSaid : Prop := fnReadersRow.holds Tryd.pinned (OpenSpec.ofChange fnReadersSpec)

/-- ITS FALSE NEIGHBOUR: 'it returns false'. Refute it at one input. -/
def fnReadersWrong : ChangeSpec := { name := "fnReaders", vars := ["loop.example/g01060/impl.homeByClass"], fn := fun _ => fun
  | [d, g1] => { results := [.lit (.bool false)], args := [d], vars := [g1] }
  | _ => none }
def FnReadersWrongFalsely : Prop := fnReadersRow.holds Tryd.pinned (OpenSpec.ofChange fnReadersWrong)

/-- 'laws.FnExactMayTake': WHATEVER THE INPUT: true; the input reads as it did. -/
def fnExactMayTakeSpec : ChangeSpec := { name := "fnExactMayTake", vars := ["loop.example/g01060/impl.homeByClass"], fn := fun _ => fun
  | [d1, d2, d3, g1] => { results := [.lit (.bool true)], args := [d1, d2, d3], vars := [g1] }
  | _ => none }
def fnExactMayTakeRow : OpenClaim := { program := "ytidaoijpbdljbabdoor", sum := "90ff7c0a5f349df9b5f4b27314ba9584920cdb60be9141d4dbefc53e250d811e", func := "loop.example/g01060/laws.FnExactMayTake", spec := "fnExactMayTake", unfollowed := true, recurses := true, named := ["loop.example/g01060/impl.homeByClass"], apart := false, laid := [("loop.example/g01060/impl.homeByClass", laid_loop_example_g01060_impl_homeByClass)] }
def FnExactMayTakeSaid : Prop := fnExactMayTakeRow.holds Tryd.pinned (OpenSpec.ofChange fnExactMayTakeSpec)

/-- ITS FALSE NEIGHBOUR: 'it returns false'. Refute it at one input. -/
def fnExactMayTakeWrong : ChangeSpec := { name := "fnExactMayTake", vars := ["loop.example/g01060/impl.homeByClass"], fn := fun _ => fun
  | [d1, d2, d3, g1] => { results := [.lit (.bool false)], args := [d1, d2, d3], vars := [g1] }
  | _ => none }
def FnExactMayTakeWrongFalsely : Prop := fnExactMayTakeRow.holds Tryd.pinned (OpenSpec.ofChange fnExactMayTakeWrong)

/- THE SECOND FORM. 'bulk': how many values and letters a reading holds, each counted each time it is reached (what is shared counts as often as it is met; a slice's spare places count too). A statement '..UptoSaid' is the law's where the arguments, and the package variables that the reading takes, are together of bulk at most 1048576: NARROWER than '..Said'. Prove '..Said' where nothing that the law and all that it calls make is longer than what came in: it says more and counts as full. Else prove '..UptoSaid'. A law counts once. -/
mutual
def uptoBulk {H : Type} : DataW H → Nat
  | .lit (.string bytes) => bytes.length + 1
  | .lit _ => 1
  | .nil => 1
  | .ptr d => uptoBulk d + 1
  | .slice elems spare => uptoBulkAll elems + uptoBulkAll spare + 1
  | .agg parts => uptoBulkAll parts + 1
  | .iface _ d => uptoBulk d + 1
  | .map entries => uptoBulkEntries entries + 1
  | .held _ => 1
def uptoBulkAll {H : Type} : List (DataW H) → Nat
  | [] => 0
  | d :: r => uptoBulk d + uptoBulkAll r
def uptoBulkEntries {H : Type} : List (Lit × DataW H) → Nat
  | [] => 0
  | x :: r => uptoBulkEntry x + uptoBulkEntries r
def uptoBulkEntry {H : Type} : Lit × DataW H → Nat
  | (.string bytes, d) => bytes.length + uptoBulk d + 1
  | (_, d) => uptoBulk d + 1
 end
def uptoSmall : (H : Type) → List (DataW H) → Bool := fun _ ds => decide (uptoBulkAll ds ≤ 1048576)
def OpenSpec.upto (s : _root_.Go.ChangeSpec) : _root_.Go.OpenSpec := { _root_.Go.OpenSpec.ofChange s with cond := some uptoSmall }

/-- 'laws.FnReaders', WHERE WHAT IT READS IS OF BULK AT MOST 1048576: true; the input reads as it did. -/
def fnReadersUptoRow : OpenClaim := { program := "ytidaoijpbdljbabdoor", sum := "90ff7c0a5f349df9b5f4b27314ba9584920cdb60be9141d4dbefc53e250d811e", func := "loop.example/g01060/laws.FnReaders", spec := "fnReaders", unfollowed := true, recurses := true, named := ["loop.example/g01060/impl.homeByClass"], apart := false, laid := [("loop.example/g01060/impl.homeByClass", laid_loop_example_g01060_impl_homeByClass)], narrowed := true }
def FnReadersUptoSaid : Prop := fnReadersUptoRow.holds Tryd.pinned (OpenSpec.upto fnReadersSpec)

/-- 'laws.FnExactMayTake', WHERE WHAT IT READS IS OF BULK AT MOST 1048576: true; the input reads as it did. -/
def fnExactMayTakeUptoRow : OpenClaim := { program := "ytidaoijpbdljbabdoor", sum := "90ff7c0a5f349df9b5f4b27314ba9584920cdb60be9141d4dbefc53e250d811e", func := "loop.example/g01060/laws.FnExactMayTake", spec := "fnExactMayTake", unfollowed := true, recurses := true, named := ["loop.example/g01060/impl.homeByClass"], apart := false, laid := [("loop.example/g01060/impl.homeByClass", laid_loop_example_g01060_impl_homeByClass)], narrowed := true }
def FnExactMayTakeUptoSaid : Prop := fnExactMayTakeUptoRow.holds Tryd.pinned (OpenSpec.upto fnExactMayTakeSpec)

end Rows
end Go.Proofs.YtidaoijpbdljbabDoor
