/-
  DERIVED. GIVEN WITH THE SEED: THE CARDS: each row of YtidaoijpbdljbabDoorRows.lean that lists a variable, with what it lists TIED to the program's text (the seventh form; the later family's looks); each row that meets fmt, with fmt's text TOLD by the authors' own Lean function (tested against real Go, not proved from fmt's source: count such statements apart). THE CARD IS WHAT COUNTS. Prove the row's statement (the work); the ties are given (YtidaoijpbdljbabDoorTie.lean); close each card by the builder's one call (the guide's Derived/Test/ToyasCard.lean, 'card_holds'). Laid BY PROGRAM, IN A SANDBOX (cutbox-door.mjs). By AI agents, Wed Nov 11 2026. No macro, syntax, notation, axiom, sorry.
-/
import Derived.Test.YtidaoijpbdljbabDoorRows
import GoSem.ClaimSeven
namespace Go.Proofs.YtidaoijpbdljbabDoor
namespace Rows

/-- THE TIED CARD OF 'laws.FnReaders'. -/
def fnReadersCard : Claim7 := { stood := { row := fnReadersRow, standIns := [], harness := (true, "f7742b4c2f2649146e8df358ec62eef2ad959f24bfb4a65c17093faf5209b128"), looks := false }, kinds := [], alts := [], laidByText := true, laidKinds := [.data], laidTests := true, laidLooks := .later }
def FnReadersCardSaid : Prop := Claim7.holds Tryd.pinned (.plain (OpenSpec.ofChange fnReadersSpec)) fnReadersCard

/-- THE TIED CARD OF 'laws.FnExactMayTake'. -/
def fnExactMayTakeCard : Claim7 := { stood := { row := fnExactMayTakeRow, standIns := [], harness := (true, "f7742b4c2f2649146e8df358ec62eef2ad959f24bfb4a65c17093faf5209b128"), looks := false }, kinds := [], alts := [], laidByText := true, laidKinds := [.data], laidTests := true, laidLooks := .later }
def FnExactMayTakeCardSaid : Prop := Claim7.holds Tryd.pinned (.plain (OpenSpec.ofChange fnExactMayTakeSpec)) fnExactMayTakeCard

/-- THE SECOND FORM's CARD OF 'laws.FnReaders'. -/
def fnReadersUptoCard : Claim7 := { stood := { row := fnReadersUptoRow, standIns := [], harness := (true, "f7742b4c2f2649146e8df358ec62eef2ad959f24bfb4a65c17093faf5209b128"), looks := false }, kinds := [], alts := [], laidByText := true, laidKinds := [.data], laidTests := true, laidLooks := .later }
def FnReadersUptoCardSaid : Prop := Claim7.holds Tryd.pinned (.plain (OpenSpec.upto fnReadersSpec)) fnReadersUptoCard

/-- THE SECOND FORM's CARD OF 'laws.FnExactMayTake'. -/
def fnExactMayTakeUptoCard : Claim7 := { stood := { row := fnExactMayTakeUptoRow, standIns := [], harness := (true, "f7742b4c2f2649146e8df358ec62eef2ad959f24bfb4a65c17093faf5209b128"), looks := false }, kinds := [], alts := [], laidByText := true, laidKinds := [.data], laidTests := true, laidLooks := .later }
def FnExactMayTakeUptoCardSaid : Prop := Claim7.holds Tryd.pinned (.plain (OpenSpec.upto fnExactMayTakeSpec)) fnExactMayTakeUptoCard
end Rows
end Go.Proofs.YtidaoijpbdljbabDoor
