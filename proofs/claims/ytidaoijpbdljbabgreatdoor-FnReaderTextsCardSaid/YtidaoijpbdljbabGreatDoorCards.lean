/-
  DERIVED. GIVEN WITH THE SEED: THE CARDS: each row of YtidaoijpbdljbabGreatDoorRows.lean that lists a variable, with what it lists TIED to the program's text (the seventh form; the later family's looks); each row that meets fmt, with fmt's text TOLD by the authors' own Lean function (tested against real Go, not proved from fmt's source: count such statements apart). THE CARD IS WHAT COUNTS. Prove the row's statement (the work); the ties are given (YtidaoijpbdljbabGreatDoorTie.lean); close each card by the builder's one call (the guide's Derived/Test/ToyasCard.lean, 'card_holds'). Laid BY PROGRAM, IN A SANDBOX (cutbox-door.mjs). By AI agents, Wed Nov 11 2026. No macro, syntax, notation, axiom, sorry.
-/
import Derived.Test.YtidaoijpbdljbabGreatDoorRows
import GoSem.ClaimSeven
namespace Go.Proofs.YtidaoijpbdljbabGreatDoor
namespace Rows

/-- THE TIED CARD OF 'laws.FnReaderTexts'. -/
def fnReaderTextsCard : Claim7 := { stood := { row := fnReaderTextsRow, standIns := [], harness := (true, "a31878cfeca9869ae7ef9a61f4d2268d96579a5f5b5cb2a0ce19ff0bab954cc1"), looks := false }, kinds := [], alts := [], laidByText := true, laidKinds := [.data, .data, .data], laidTests := true, laidLooks := .later }
def FnReaderTextsCardSaid : Prop := Claim7.holds Tryz.pinned (.plain (OpenSpec.ofChange fnReaderTextsSpec)) fnReaderTextsCard

/-- THE SECOND FORM's CARD OF 'laws.FnReaderTexts'. -/
def fnReaderTextsUptoCard : Claim7 := { stood := { row := fnReaderTextsUptoRow, standIns := [], harness := (true, "a31878cfeca9869ae7ef9a61f4d2268d96579a5f5b5cb2a0ce19ff0bab954cc1"), looks := false }, kinds := [], alts := [], laidByText := true, laidKinds := [.data, .data, .data], laidTests := true, laidLooks := .later }
def FnReaderTextsUptoCardSaid : Prop := Claim7.holds Tryz.pinned (.plain (OpenSpec.upto fnReaderTextsSpec)) fnReaderTextsUptoCard
end Rows
end Go.Proofs.YtidaoijpbdljbabGreatDoor
