/-
  DERIVED. GIVEN WITH THE SEED: THE CARDS: each row of YtlfbflclefndjaaGreatDoorRows.lean that lists a variable, with what it lists TIED to the program's text (the seventh form; the later family's looks); each row that meets fmt, with fmt's text TOLD by the authors' own Lean function (tested against real Go, not proved from fmt's source: count such statements apart). THE CARD IS WHAT COUNTS. Prove the row's statement (the work); the ties are given (YtlfbflclefndjaaGreatDoorTie.lean); close each card by the builder's one call (the guide's Derived/Test/ToyasCard.lean, 'card_holds'). Laid BY PROGRAM, IN A SANDBOX (cutbox-door.mjs). By AI agents, Wed Nov 11 2026. No macro, syntax, notation, axiom, sorry.
-/
import Derived.Test.YtlfbflclefndjaaGreatDoorRows
import GoSem.ClaimSeven
namespace Go.Proofs.YtlfbflclefndjaaGreatDoor
namespace Rows

/-- THE TIED CARD OF 'bailifflaw12.OrdinaryKeeps'. -/
def ordinaryKeepsCard : Claim7 := { stood := { row := ordinaryKeepsRow, standIns := [], harness := (true, "b28e70f2484f4e0f363031e211b959f10027998a0e1fd6479f6211d67088691a"), looks := false }, kinds := [], alts := [], laidByText := true, laidKinds := [.data, .data, .data, .data, .pinned], laidTests := true, laidLooks := .later }
def OrdinaryKeepsCardSaid : Prop := Claim7.holds Tryz.pinned (.plain (OpenSpec.ofChange ordinaryKeepsSpec)) ordinaryKeepsCard

/-- THE SECOND FORM's CARD OF 'bailifflaw12.OrdinaryKeeps'. -/
def ordinaryKeepsUptoCard : Claim7 := { stood := { row := ordinaryKeepsUptoRow, standIns := [], harness := (true, "b28e70f2484f4e0f363031e211b959f10027998a0e1fd6479f6211d67088691a"), looks := false }, kinds := [], alts := [], laidByText := true, laidKinds := [.data, .data, .data, .data, .pinned], laidTests := true, laidLooks := .later }
def OrdinaryKeepsUptoCardSaid : Prop := Claim7.holds Tryz.pinned (.plain (OpenSpec.upto ordinaryKeepsSpec)) ordinaryKeepsUptoCard
end Rows
end Go.Proofs.YtlfbflclefndjaaGreatDoor
