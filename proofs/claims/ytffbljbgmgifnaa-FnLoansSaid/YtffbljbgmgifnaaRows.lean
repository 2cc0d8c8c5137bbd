/-
  No cell of these rows narrows 'for every input' (looked for: loops, veiled, ifaces, maps, wideKeys, modest, calm, conditions, laid).
  DERIVED. THE GIVEN ROWS OF THIS SEAT. 12 by the template 'for every input the law returns true; each argument reads behind the call as it read before'; 0 by the template 'total and deterministic' (their statements: YtffbljbgmgifnaaTotals.lean).
  GIVEN WITH THE SEED: the statements are not yours to turn. If you find one false, say at which input.
  Laid BY PROGRAM, IN A SANDBOX (cutbox-rows.mjs): the forced cells as the released guide's own fill.sh prints them over the translation 33ee19d710af9b1c… (all of the seat's roots in one cut). By AI agents, Wed Nov 11 2026. No macro, syntax, notation, axiom, sorry.
-/
import Derived.Test.YtffbljbgmgifnaaChecked
import GoSem.Claim
import GoSem.ClaimJoined
import GoSem.ClaimMapViews
import Derived.JoinedTies
import Derived.KernelRfl
namespace Go.Proofs.Ytffbljbgmgifnaa
/- THE CELL 'sum', in the pinned program and in every row, IS THE sha256 OF THE DUMP (.gsa) THAT YtffbljbgmgifnaaProg.lean LOADS. Nothing in Lean hashes anything: it is a label: what it is worth is what the hold of that sum in a sandbox is worth. -/
noncomputable def Try.pinned : Pinned := { name := "ytffbljbgmgifnaa", sum := "33ee19d710af9b1c651c43f5e75ab34616f2455e0708199386c1dda01dd8dc0a", checked := Try.checked }
namespace Rows
def none {H : Type} : Left H := { results := [], args := [] }

/-- 'laws.FnCrossings': WHATEVER THE INPUT: true; the input reads as it did. -/
def fnCrossingsSpec : ChangeSpec := { name := "fnCrossings", fn := fun _ => fun
  | [d] => { results := [.lit (.bool true)], args := [d] }
  | _ => none }
def fnCrossingsRow : OpenClaim := { program := "ytffbljbgmgifnaa", sum := "33ee19d710af9b1c651c43f5e75ab34616f2455e0708199386c1dda01dd8dc0a", func := "loop.example/g01060/laws.FnCrossings", spec := "fnCrossings", unfollowed := true, recurses := true, apart := false }
def FnCrossingsSaid : Prop := fnCrossingsRow.holds Try.pinned (OpenSpec.ofChange fnCrossingsSpec)

/-- ITS FALSE NEIGHBOUR: 'it returns false'. Refute it at one input. -/
def fnCrossingsWrong : ChangeSpec := { name := "fnCrossings", fn := fun _ => fun
  | [d] => { results := [.lit (.bool false)], args := [d] }
  | _ => none }
def FnCrossingsWrongFalsely : Prop := fnCrossingsRow.holds Try.pinned (OpenSpec.ofChange fnCrossingsWrong)

/-- 'laws.FnLoans': WHATEVER THE INPUT: true; the input reads as it did. -/
def fnLoansSpec : ChangeSpec := { name := "fnLoans", fn := fun _ => fun
  | [d] => { results := [.lit (.bool true)], args := [d] }
  | _ => none }
def fnLoansRow : OpenClaim := { program := "ytffbljbgmgifnaa", sum := "33ee19d710af9b1c651c43f5e75ab34616f2455e0708199386c1dda01dd8dc0a", func := "loop.example/g01060/laws.FnLoans", spec := "fnLoans", unfollowed := true, recurses := true, apart := false }
def FnLoansSaid : Prop := fnLoansRow.holds Try.pinned (OpenSpec.ofChange fnLoansSpec)

/-- ITS FALSE NEIGHBOUR: 'it returns false'. Refute it at one input. -/
def fnLoansWrong : ChangeSpec := { name := "fnLoans", fn := fun _ => fun
  | [d] => { results := [.lit (.bool false)], args := [d] }
  | _ => none }
def FnLoansWrongFalsely : Prop := fnLoansRow.holds Try.pinned (OpenSpec.ofChange fnLoansWrong)

/-- 'laws.FnExactAreLoans': WHATEVER THE INPUT: true; the input reads as it did. -/
def fnExactAreLoansSpec : ChangeSpec := { name := "fnExactAreLoans", fn := fun _ => fun
  | [d] => { results := [.lit (.bool true)], args := [d] }
  | _ => none }
def fnExactAreLoansRow : OpenClaim := { program := "ytffbljbgmgifnaa", sum := "33ee19d710af9b1c651c43f5e75ab34616f2455e0708199386c1dda01dd8dc0a", func := "loop.example/g01060/laws.FnExactAreLoans", spec := "fnExactAreLoans", unfollowed := true, recurses := true, apart := false }
def FnExactAreLoansSaid : Prop := fnExactAreLoansRow.holds Try.pinned (OpenSpec.ofChange fnExactAreLoansSpec)

/-- ITS FALSE NEIGHBOUR: 'it returns false'. Refute it at one input. -/
def fnExactAreLoansWrong : ChangeSpec := { name := "fnExactAreLoans", fn := fun _ => fun
  | [d] => { results := [.lit (.bool false)], args := [d] }
  | _ => none }
def FnExactAreLoansWrongFalsely : Prop := fnExactAreLoansRow.holds Try.pinned (OpenSpec.ofChange fnExactAreLoansWrong)

/-- 'laws.FnExactLendSheet': WHATEVER THE INPUT: true; the input reads as it did. -/
def fnExactLendSheetSpec : ChangeSpec := { name := "fnExactLendSheet", fn := fun _ => fun
  | [d1, d2, d3, d4, d5] => { results := [.lit (.bool true)], args := [d1, d2, d3, d4, d5] }
  | _ => none }
def fnExactLendSheetRow : OpenClaim := { program := "ytffbljbgmgifnaa", sum := "33ee19d710af9b1c651c43f5e75ab34616f2455e0708199386c1dda01dd8dc0a", func := "loop.example/g01060/laws.FnExactLendSheet", spec := "fnExactLendSheet", unfollowed := true, recurses := true, apart := false }
def FnExactLendSheetSaid : Prop := fnExactLendSheetRow.holds Try.pinned (OpenSpec.ofChange fnExactLendSheetSpec)

/-- ITS FALSE NEIGHBOUR: 'it returns false'. Refute it at one input. -/
def fnExactLendSheetWrong : ChangeSpec := { name := "fnExactLendSheet", fn := fun _ => fun
  | [d1, d2, d3, d4, d5] => { results := [.lit (.bool false)], args := [d1, d2, d3, d4, d5] }
  | _ => none }
def FnExactLendSheetWrongFalsely : Prop := fnExactLendSheetRow.holds Try.pinned (OpenSpec.ofChange fnExactLendSheetWrong)

/-- 'laws.FnExactReturnSheet': WHATEVER THE INPUT: true; the input reads as it did. -/
def fnExactReturnSheetSpec : ChangeSpec := { name := "fnExactReturnSheet", fn := fun _ => fun
  | [d1, d2, d3] => { results := [.lit (.bool true)], args := [d1, d2, d3] }
  | _ => none }
def fnExactReturnSheetRow : OpenClaim := { program := "ytffbljbgmgifnaa", sum := "33ee19d710af9b1c651c43f5e75ab34616f2455e0708199386c1dda01dd8dc0a", func := "loop.example/g01060/laws.FnExactReturnSheet", spec := "fnExactReturnSheet", unfollowed := true, recurses := true, apart := false }
def FnExactReturnSheetSaid : Prop := fnExactReturnSheetRow.holds Try.pinned (OpenSpec.ofChange fnExactReturnSheetSpec)

/-- ITS FALSE NEIGHBOUR: 'it returns false'. Refute it at one input. -/
def fnExactReturnSheetWrong : ChangeSpec := { name := "fnExactReturnSheet", fn := fun _ => fun
  | [d1, d2, d3] => { results := [.lit (.bool false)], args := [d1, d2, d3] }
  | _ => none }
def FnExactReturnSheetWrongFalsely : Prop := fnExactReturnSheetRow.holds Try.pinned (OpenSpec.ofChange fnExactReturnSheetWrong)

/-- 'laws.FnExactProlongLoan': WHATEVER THE INPUT: true; the input reads as it did. -/
def fnExactProlongLoanSpec : ChangeSpec := { name := "fnExactProlongLoan", fn := fun _ => fun
  | [d1, d2, d3, d4] => { results := [.lit (.bool true)], args := [d1, d2, d3, d4] }
  | _ => none }
def fnExactProlongLoanRow : OpenClaim := { program := "ytffbljbgmgifnaa", sum := "33ee19d710af9b1c651c43f5e75ab34616f2455e0708199386c1dda01dd8dc0a", func := "loop.example/g01060/laws.FnExactProlongLoan", spec := "fnExactProlongLoan", unfollowed := true, recurses := true, apart := false }
def FnExactProlongLoanSaid : Prop := fnExactProlongLoanRow.holds Try.pinned (OpenSpec.ofChange fnExactProlongLoanSpec)

/-- ITS FALSE NEIGHBOUR: 'it returns false'. Refute it at one input. -/
def fnExactProlongLoanWrong : ChangeSpec := { name := "fnExactProlongLoan", fn := fun _ => fun
  | [d1, d2, d3, d4] => { results := [.lit (.bool false)], args := [d1, d2, d3, d4] }
  | _ => none }
def FnExactProlongLoanWrongFalsely : Prop := fnExactProlongLoanRow.holds Try.pinned (OpenSpec.ofChange fnExactProlongLoanWrong)

/-- 'laws.FnExactOpenLoans': WHATEVER THE INPUT: true; the input reads as it did. -/
def fnExactOpenLoansSpec : ChangeSpec := { name := "fnExactOpenLoans", fn := fun _ => fun
  | [d1, d2, d3] => { results := [.lit (.bool true)], args := [d1, d2, d3] }
  | _ => none }
def fnExactOpenLoansRow : OpenClaim := { program := "ytffbljbgmgifnaa", sum := "33ee19d710af9b1c651c43f5e75ab34616f2455e0708199386c1dda01dd8dc0a", func := "loop.example/g01060/laws.FnExactOpenLoans", spec := "fnExactOpenLoans", unfollowed := true, recurses := true, apart := false }
def FnExactOpenLoansSaid : Prop := fnExactOpenLoansRow.holds Try.pinned (OpenSpec.ofChange fnExactOpenLoansSpec)

/-- ITS FALSE NEIGHBOUR: 'it returns false'. Refute it at one input. -/
def fnExactOpenLoansWrong : ChangeSpec := { name := "fnExactOpenLoans", fn := fun _ => fun
  | [d1, d2, d3] => { results := [.lit (.bool false)], args := [d1, d2, d3] }
  | _ => none }
def FnExactOpenLoansWrongFalsely : Prop := fnExactOpenLoansRow.holds Try.pinned (OpenSpec.ofChange fnExactOpenLoansWrong)

/-- 'laws.FnExactLateOn': WHATEVER THE INPUT: true; the input reads as it did. -/
def fnExactLateOnSpec : ChangeSpec := { name := "fnExactLateOn", fn := fun _ => fun
  | [d1, d2] => { results := [.lit (.bool true)], args := [d1, d2] }
  | _ => none }
def fnExactLateOnRow : OpenClaim := { program := "ytffbljbgmgifnaa", sum := "33ee19d710af9b1c651c43f5e75ab34616f2455e0708199386c1dda01dd8dc0a", func := "loop.example/g01060/laws.FnExactLateOn", spec := "fnExactLateOn", unfollowed := true, recurses := true, apart := false }
def FnExactLateOnSaid : Prop := fnExactLateOnRow.holds Try.pinned (OpenSpec.ofChange fnExactLateOnSpec)

/-- ITS FALSE NEIGHBOUR: 'it returns false'. Refute it at one input. -/
def fnExactLateOnWrong : ChangeSpec := { name := "fnExactLateOn", fn := fun _ => fun
  | [d1, d2] => { results := [.lit (.bool false)], args := [d1, d2] }
  | _ => none }
def FnExactLateOnWrongFalsely : Prop := fnExactLateOnRow.holds Try.pinned (OpenSpec.ofChange fnExactLateOnWrong)

/-- 'laws.FnExactFineOn': WHATEVER THE INPUT: true; the input reads as it did. -/
def fnExactFineOnSpec : ChangeSpec := { name := "fnExactFineOn", fn := fun _ => fun
  | [d1, d2, d3] => { results := [.lit (.bool true)], args := [d1, d2, d3] }
  | _ => none }
def fnExactFineOnRow : OpenClaim := { program := "ytffbljbgmgifnaa", sum := "33ee19d710af9b1c651c43f5e75ab34616f2455e0708199386c1dda01dd8dc0a", func := "loop.example/g01060/laws.FnExactFineOn", spec := "fnExactFineOn", unfollowed := true, recurses := true, apart := false }
def FnExactFineOnSaid : Prop := fnExactFineOnRow.holds Try.pinned (OpenSpec.ofChange fnExactFineOnSpec)

/-- ITS FALSE NEIGHBOUR: 'it returns false'. Refute it at one input. -/
def fnExactFineOnWrong : ChangeSpec := { name := "fnExactFineOn", fn := fun _ => fun
  | [d1, d2, d3] => { results := [.lit (.bool false)], args := [d1, d2, d3] }
  | _ => none }
def FnExactFineOnWrongFalsely : Prop := fnExactFineOnRow.holds Try.pinned (OpenSpec.ofChange fnExactFineOnWrong)

/-- 'laws.FnExactWhoHas': WHATEVER THE INPUT: true; the input reads as it did. -/
def fnExactWhoHasSpec : ChangeSpec := { name := "fnExactWhoHas", fn := fun _ => fun
  | [d1, d2, d3] => { results := [.lit (.bool true)], args := [d1, d2, d3] }
  | _ => none }
def fnExactWhoHasRow : OpenClaim := { program := "ytffbljbgmgifnaa", sum := "33ee19d710af9b1c651c43f5e75ab34616f2455e0708199386c1dda01dd8dc0a", func := "loop.example/g01060/laws.FnExactWhoHas", spec := "fnExactWhoHas", unfollowed := true, recurses := true, apart := false }
def FnExactWhoHasSaid : Prop := fnExactWhoHasRow.holds Try.pinned (OpenSpec.ofChange fnExactWhoHasSpec)

/-- ITS FALSE NEIGHBOUR: 'it returns false'. Refute it at one input. -/
def fnExactWhoHasWrong : ChangeSpec := { name := "fnExactWhoHas", fn := fun _ => fun
  | [d1, d2, d3] => { results := [.lit (.bool false)], args := [d1, d2, d3] }
  | _ => none }
def FnExactWhoHasWrongFalsely : Prop := fnExactWhoHasRow.holds Try.pinned (OpenSpec.ofChange fnExactWhoHasWrong)

/-- 'laws.FnExactDaysLent': WHATEVER THE INPUT: true; the input reads as it did. -/
def fnExactDaysLentSpec : ChangeSpec := { name := "fnExactDaysLent", fn := fun _ => fun
  | [d1, d2, d3] => { results := [.lit (.bool true)], args := [d1, d2, d3] }
  | _ => none }
def fnExactDaysLentRow : OpenClaim := { program := "ytffbljbgmgifnaa", sum := "33ee19d710af9b1c651c43f5e75ab34616f2455e0708199386c1dda01dd8dc0a", func := "loop.example/g01060/laws.FnExactDaysLent", spec := "fnExactDaysLent", unfollowed := true, recurses := true, apart := false }
def FnExactDaysLentSaid : Prop := fnExactDaysLentRow.holds Try.pinned (OpenSpec.ofChange fnExactDaysLentSpec)

/-- ITS FALSE NEIGHBOUR: 'it returns false'. Refute it at one input. -/
def fnExactDaysLentWrong : ChangeSpec := { name := "fnExactDaysLent", fn := fun _ => fun
  | [d1, d2, d3] => { results := [.lit (.bool false)], args := [d1, d2, d3] }
  | _ => none }
def FnExactDaysLentWrongFalsely : Prop := fnExactDaysLentRow.holds Try.pinned (OpenSpec.ofChange fnExactDaysLentWrong)

/-- 'laws.FnExactFavoriteSheet': WHATEVER THE INPUT: true; the input reads as it did. -/
def fnExactFavoriteSheetSpec : ChangeSpec := { name := "fnExactFavoriteSheet", fn := fun _ => fun
  | [d] => { results := [.lit (.bool true)], args := [d] }
  | _ => none }
def fnExactFavoriteSheetRow : OpenClaim := { program := "ytffbljbgmgifnaa", sum := "33ee19d710af9b1c651c43f5e75ab34616f2455e0708199386c1dda01dd8dc0a", func := "loop.example/g01060/laws.FnExactFavoriteSheet", spec := "fnExactFavoriteSheet", unfollowed := true, recurses := true, apart := false }
def FnExactFavoriteSheetSaid : Prop := fnExactFavoriteSheetRow.holds Try.pinned (OpenSpec.ofChange fnExactFavoriteSheetSpec)

/-- ITS FALSE NEIGHBOUR: 'it returns false'. Refute it at one input. -/
def fnExactFavoriteSheetWrong : ChangeSpec := { name := "fnExactFavoriteSheet", fn := fun _ => fun
  | [d] => { results := [.lit (.bool false)], args := [d] }
  | _ => none }
def FnExactFavoriteSheetWrongFalsely : Prop := fnExactFavoriteSheetRow.holds Try.pinned (OpenSpec.ofChange fnExactFavoriteSheetWrong)

/- THE SECOND FORM. 'bulk': how many values and letters a reading holds, each counted each time it is reached (what is shared counts as often as it is met; a slice's spare places count too). A statement '..UptoSaid' is the law's where the arguments, and the package variables that the reading takes, are together of bulk at most 1048576: NARROWER than '..Said'. Prove '..Said' where nothing that the law and all that it calls make is longer than what came in: it says more and counts as full. Else prove '..UptoSaid'. A law counts once. -/
mutual
def uptoBulk {H : Type} : DataW H → Nat
  | .lit (.string bytes) => bytes.length + 1
  | .lit _ => 1
  | .nil => 1
  | .ptr d => uptoBulk d + 1
  | .slice elems spare => uptoBulkAll elems + uptoBulkAll spare + 1
  | .agg parts => uptoBulkAll parts + 1
  | .iface _ d => uptoBulk d + 1
  | .map entries => uptoBulkEntries entries + 1
  | .held _ => 1
def uptoBulkAll {H : Type} : List (DataW H) → Nat
  | [] => 0
  | d :: r => uptoBulk d + uptoBulkAll r
def uptoBulkEntries {H : Type} : List (Lit × DataW H) → Nat
  | [] => 0
  | x :: r => uptoBulkEntry x + uptoBulkEntries r
def uptoBulkEntry {H : Type} : Lit × DataW H → Nat
  | (.string bytes, d) => bytes.length + uptoBulk d + 1
  | (_, d) => uptoBulk d + 1
 end
def uptoSmall : (H : Type) → List (DataW H) → Bool := fun _ ds => decide (uptoBulkAll ds ≤ 1048576)
def OpenSpec.upto (s : _root_.Go.ChangeSpec) : _root_.Go.OpenSpec := { _root_.Go.OpenSpec.ofChange s with cond := some uptoSmall }

/-- 'laws.FnCrossings', WHERE WHAT IT READS IS OF BULK AT MOST 1048576: true; the input reads as it did. -/
def fnCrossingsUptoRow : OpenClaim := { program := "ytffbljbgmgifnaa", sum := "33ee19d710af9b1c651c43f5e75ab34616f2455e0708199386c1dda01dd8dc0a", func := "loop.example/g01060/laws.FnCrossings", spec := "fnCrossings", unfollowed := true, recurses := true, apart := false, narrowed := true }
def FnCrossingsUptoSaid : Prop := fnCrossingsUptoRow.holds Try.pinned (OpenSpec.upto fnCrossingsSpec)

/-- 'laws.FnLoans', WHERE WHAT IT READS IS OF BULK AT MOST 1048576: true; the input reads as it did. -/
def fnLoansUptoRow : OpenClaim := { program := "ytffbljbgmgifnaa", sum := "33ee19d710af9b1c651c43f5e75ab34616f2455e0708199386c1dda01dd8dc0a", func := "loop.example/g01060/laws.FnLoans", spec := "fnLoans", unfollowed := true, recurses := true, apart := false, narrowed := true }
def FnLoansUptoSaid : Prop := fnLoansUptoRow.holds Try.pinned (OpenSpec.upto fnLoansSpec)

/-- 'laws.FnExactAreLoans', WHERE WHAT IT READS IS OF BULK AT MOST 1048576: true; the input reads as it did. -/
def fnExactAreLoansUptoRow : OpenClaim := { program := "ytffbljbgmgifnaa", sum := "33ee19d710af9b1c651c43f5e75ab34616f2455e0708199386c1dda01dd8dc0a", func := "loop.example/g01060/laws.FnExactAreLoans", spec := "fnExactAreLoans", unfollowed := true, recurses := true, apart := false, narrowed := true }
def FnExactAreLoansUptoSaid : Prop := fnExactAreLoansUptoRow.holds Try.pinned (OpenSpec.upto fnExactAreLoansSpec)

/-- 'laws.FnExactLendSheet', WHERE WHAT IT READS IS OF BULK AT MOST 1048576: true; the input reads as it did. -/
def fnExactLendSheetUptoRow : OpenClaim := { program := "ytffbljbgmgifnaa", sum := "33ee19d710af9b1c651c43f5e75ab34616f2455e0708199386c1dda01dd8dc0a", func := "loop.example/g01060/laws.FnExactLendSheet", spec := "fnExactLendSheet", unfollowed := true, recurses := true, apart := false, narrowed := true }
def FnExactLendSheetUptoSaid : Prop := fnExactLendSheetUptoRow.holds Try.pinned (OpenSpec.upto fnExactLendSheetSpec)

/-- 'laws.FnExactReturnSheet', WHERE WHAT IT READS IS OF BULK AT MOST 1048576: true; the input reads as it did. -/
def fnExactReturnSheetUptoRow : OpenClaim := { program := "ytffbljbgmgifnaa", sum := "33ee19d710af9b1c651c43f5e75ab34616f2455e0708199386c1dda01dd8dc0a", func := "loop.example/g01060/laws.FnExactReturnSheet", spec := "fnExactReturnSheet", unfollowed := true, recurses := true, apart := false, narrowed := true }
def FnExactReturnSheetUptoSaid : Prop := fnExactReturnSheetUptoRow.holds Try.pinned (OpenSpec.upto fnExactReturnSheetSpec)

/-- 'laws.FnExactProlongLoan', WHERE WHAT IT READS IS OF BULK AT MOST 1048576: true; the input reads as it did. -/
def fnExactProlongLoanUptoRow : OpenClaim := { program := "ytffbljbgmgifnaa", sum := "33ee19d710af9b1c651c43f5e75ab34616f2455e0708199386c1dda01dd8dc0a", func := "loop.example/g01060/laws.FnExactProlongLoan", spec := "fnExactProlongLoan", unfollowed := true, recurses := true, apart := false, narrowed := true }
def FnExactProlongLoanUptoSaid : Prop := fnExactProlongLoanUptoRow.holds Try.pinned (OpenSpec.upto fnExactProlongLoanSpec)

/-- 'laws.FnExactOpenLoans', WHERE WHAT IT READS IS OF BULK AT MOST 1048576: true; the input reads as it did. -/
def fnExactOpenLoansUptoRow : OpenClaim := { program := "ytffbljbgmgifnaa", sum := "33ee19d710af9b1c651c43f5e75ab34616f2455e0708199386c1dda01dd8dc0a", func := "loop.example/g01060/laws.FnExactOpenLoans", spec := "fnExactOpenLoans", unfollowed := true, recurses := true, apart := false, narrowed := true }
def FnExactOpenLoansUptoSaid : Prop := fnExactOpenLoansUptoRow.holds Try.pinned (OpenSpec.upto fnExactOpenLoansSpec)

/-- 'laws.FnExactLateOn', WHERE WHAT IT READS IS OF BULK AT MOST 1048576: true; the input reads as it did. -/
def fnExactLateOnUptoRow : OpenClaim := { program := "ytffbljbgmgifnaa", sum := "33ee19d710af9b1c651c43f5e75ab34616f2455e0708199386c1dda01dd8dc0a", func := "loop.example/g01060/laws.FnExactLateOn", spec := "fnExactLateOn", unfollowed := true, recurses := true, apart := false, narrowed := true }
def FnExactLateOnUptoSaid : Prop := fnExactLateOnUptoRow.holds Try.pinned (OpenSpec.upto fnExactLateOnSpec)

/-- 'laws.FnExactFineOn', WHERE WHAT IT READS IS OF BULK AT MOST 1048576: true; the input reads as it did. -/
def fnExactFineOnUptoRow : OpenClaim := { program := "ytffbljbgmgifnaa", sum := "33ee19d710af9b1c651c43f5e75ab34616f2455e0708199386c1dda01dd8dc0a", func := "loop.example/g01060/laws.FnExactFineOn", spec := "fnExactFineOn", unfollowed := true, recurses := true, apart := false, narrowed := true }
def FnExactFineOnUptoSaid : Prop := fnExactFineOnUptoRow.holds Try.pinned (OpenSpec.upto fnExactFineOnSpec)

/-- 'laws.FnExactWhoHas', WHERE WHAT IT READS IS OF BULK AT MOST 1048576: true; the input reads as it did. -/
def fnExactWhoHasUptoRow : OpenClaim := { program := "ytffbljbgmgifnaa", sum := "33ee19d710af9b1c651c43f5e75ab34616f2455e0708199386c1dda01dd8dc0a", func := "loop.example/g01060/laws.FnExactWhoHas", spec := "fnExactWhoHas", unfollowed := true, recurses := true, apart := false, narrowed := true }
def FnExactWhoHasUptoSaid : Prop := fnExactWhoHasUptoRow.holds Try.pinned (OpenSpec.upto fnExactWhoHasSpec)

/-- 'laws.FnExactDaysLent', WHERE WHAT IT READS IS OF BULK AT MOST 1048576: true; the input reads as it did. -/
def fnExactDaysLentUptoRow : OpenClaim := { program := "ytffbljbgmgifnaa", sum := "33ee19d710af9b1c651c43f5e75ab34616f2455e0708199386c1dda01dd8dc0a", func := "loop.example/g01060/laws.FnExactDaysLent", spec := "fnExactDaysLent", unfollowed := true, recurses := true, apart := false, narrowed := true }
def FnExactDaysLentUptoSaid : Prop := fnExactDaysLentUptoRow.holds Try.pinned (OpenSpec.upto fnExactDaysLentSpec)

/-- 'laws.FnExactFavoriteSheet', WHERE WHAT IT READS IS OF BULK AT MOST 1048576: true; the input reads as it did. -/
def fnExactFavoriteSheetUptoRow : OpenClaim := { program := "ytffbljbgmgifnaa", sum := "33ee19d710af9b1c651c43f5e75ab34616f2455e0708199386c1dda01dd8dc0a", func := "loop.example/g01060/laws.FnExactFavoriteSheet", spec := "fnExactFavoriteSheet", unfollowed := true, recurses := true, apart := false, narrowed := true }
def FnExactFavoriteSheetUptoSaid : Prop := fnExactFavoriteSheetUptoRow.holds Try.pinned (OpenSpec.upto fnExactFavoriteSheetSpec)

end Rows
end Go.Proofs.Ytffbljbgmgifnaa
