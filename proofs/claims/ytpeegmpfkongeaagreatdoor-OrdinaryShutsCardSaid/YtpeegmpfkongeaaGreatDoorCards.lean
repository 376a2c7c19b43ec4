/-
  DERIVED. GIVEN WITH THE SEED: THE CARDS: each row of YtpeegmpfkongeaaGreatDoorRows.lean that lists a variable, with what it lists TIED to the program's text (the seventh form; the later family's looks); each row that meets fmt, with fmt's text TOLD by the authors' own Lean function (tested against real Go, not proved from fmt's source: count such statements apart). THE CARD IS WHAT COUNTS. Prove the row's statement (the work); the ties are given (YtpeegmpfkongeaaGreatDoorTie.lean); close each card by the builder's one call (the guide's Derived/Test/ToyasCard.lean, 'card_holds'). Laid BY PROGRAM, IN A SANDBOX (cutbox-door.mjs). By AI agents, Wed Nov 11 2026. No macro, syntax, notation, axiom, sorry.
-/
import Derived.Test.YtpeegmpfkongeaaGreatDoorRows
import GoSem.ClaimSeven
namespace Go.Proofs.YtpeegmpfkongeaaGreatDoor
namespace Rows

/-- THE TIED CARD OF 'bailifflaw11.HeapNames'. -/
def heapNamesCard : Claim7 := { stood := { row := heapNamesRow, standIns := [], harness := (true, "a44403211ab6ed4f4e76824f8772a851cea599d4b03f2ae89e6ff5361cde53ca"), looks := false }, kinds := [], alts := [], laidByText := true, laidKinds := [.data, .data, .data, .data, .pinned], laidTests := true, laidLooks := .later }
def HeapNamesCardSaid : Prop := Claim7.holds Tryz.pinned (.plain (OpenSpec.ofChange heapNamesSpec)) heapNamesCard

/-- THE TIED CARD OF 'bailifflaw12.OrdinaryNames'. -/
def ordinaryNamesCard : Claim7 := { stood := { row := ordinaryNamesRow, standIns := [], harness := (true, "a44403211ab6ed4f4e76824f8772a851cea599d4b03f2ae89e6ff5361cde53ca"), looks := false }, kinds := [], alts := [], laidByText := true, laidKinds := [.data, .data, .data, .data, .pinned], laidTests := true, laidLooks := .later }
def OrdinaryNamesCardSaid : Prop := Claim7.holds Tryz.pinned (.plain (OpenSpec.ofChange ordinaryNamesSpec)) ordinaryNamesCard

/-- THE TIED CARD OF 'bailifflaw12.OrdinaryKeeps'. -/
def ordinaryKeepsCard : Claim7 := { stood := { row := ordinaryKeepsRow, standIns := [], harness := (true, "a44403211ab6ed4f4e76824f8772a851cea599d4b03f2ae89e6ff5361cde53ca"), looks := false }, kinds := [], alts := [], laidByText := true, laidKinds := [.data, .data, .data, .data, .pinned], laidTests := true, laidLooks := .later }
def OrdinaryKeepsCardSaid : Prop := Claim7.holds Tryz.pinned (.plain (OpenSpec.ofChange ordinaryKeepsSpec)) ordinaryKeepsCard

/-- THE TIED CARD OF 'bailifflaw12.OrdinaryDefines'. -/
def ordinaryDefinesCard : Claim7 := { stood := { row := ordinaryDefinesRow, standIns := [], harness := (true, "a44403211ab6ed4f4e76824f8772a851cea599d4b03f2ae89e6ff5361cde53ca"), looks := false }, kinds := [], alts := [], laidByText := true, laidKinds := [.data, .data, .data, .data, .pinned], laidTests := true, laidLooks := .later }
def OrdinaryDefinesCardSaid : Prop := Claim7.holds Tryz.pinned (.plain (OpenSpec.ofChange ordinaryDefinesSpec)) ordinaryDefinesCard

/-- THE TIED CARD OF 'bailifflaw12.OrdinaryShuts'. -/
def ordinaryShutsCard : Claim7 := { stood := { row := ordinaryShutsRow, standIns := [], harness := (true, "a44403211ab6ed4f4e76824f8772a851cea599d4b03f2ae89e6ff5361cde53ca"), looks := false }, kinds := [], alts := [], laidByText := true, laidKinds := [.data, .data, .data, .data, .pinned], laidTests := true, laidLooks := .later }
def OrdinaryShutsCardSaid : Prop := Claim7.holds Tryz.pinned (.plain (OpenSpec.ofChange ordinaryShutsSpec)) ordinaryShutsCard

/-- THE TIED CARD OF 'bailifflaw12.OrdinaryRings'. -/
def ordinaryRingsCard : Claim7 := { stood := { row := ordinaryRingsRow, standIns := [], harness := (true, "a44403211ab6ed4f4e76824f8772a851cea599d4b03f2ae89e6ff5361cde53ca"), looks := false }, kinds := [], alts := [], laidByText := true, laidKinds := [.data, .data, .data, .data, .pinned], laidTests := true, laidLooks := .later }
def OrdinaryRingsCardSaid : Prop := Claim7.holds Tryz.pinned (.plain (OpenSpec.ofChange ordinaryRingsSpec)) ordinaryRingsCard

/-- THE SECOND FORM's CARD OF 'bailifflaw11.HeapNames'. -/
def heapNamesUptoCard : Claim7 := { stood := { row := heapNamesUptoRow, standIns := [], harness := (true, "a44403211ab6ed4f4e76824f8772a851cea599d4b03f2ae89e6ff5361cde53ca"), looks := false }, kinds := [], alts := [], laidByText := true, laidKinds := [.data, .data, .data, .data, .pinned], laidTests := true, laidLooks := .later }
def HeapNamesUptoCardSaid : Prop := Claim7.holds Tryz.pinned (.plain (OpenSpec.upto heapNamesSpec)) heapNamesUptoCard

/-- THE SECOND FORM's CARD OF 'bailifflaw12.OrdinaryNames'. -/
def ordinaryNamesUptoCard : Claim7 := { stood := { row := ordinaryNamesUptoRow, standIns := [], harness := (true, "a44403211ab6ed4f4e76824f8772a851cea599d4b03f2ae89e6ff5361cde53ca"), looks := false }, kinds := [], alts := [], laidByText := true, laidKinds := [.data, .data, .data, .data, .pinned], laidTests := true, laidLooks := .later }
def OrdinaryNamesUptoCardSaid : Prop := Claim7.holds Tryz.pinned (.plain (OpenSpec.upto ordinaryNamesSpec)) ordinaryNamesUptoCard

/-- THE SECOND FORM's CARD OF 'bailifflaw12.OrdinaryKeeps'. -/
def ordinaryKeepsUptoCard : Claim7 := { stood := { row := ordinaryKeepsUptoRow, standIns := [], harness := (true, "a44403211ab6ed4f4e76824f8772a851cea599d4b03f2ae89e6ff5361cde53ca"), looks := false }, kinds := [], alts := [], laidByText := true, laidKinds := [.data, .data, .data, .data, .pinned], laidTests := true, laidLooks := .later }
def OrdinaryKeepsUptoCardSaid : Prop := Claim7.holds Tryz.pinned (.plain (OpenSpec.upto ordinaryKeepsSpec)) ordinaryKeepsUptoCard

/-- THE SECOND FORM's CARD OF 'bailifflaw12.OrdinaryDefines'. -/
def ordinaryDefinesUptoCard : Claim7 := { stood := { row := ordinaryDefinesUptoRow, standIns := [], harness := (true, "a44403211ab6ed4f4e76824f8772a851cea599d4b03f2ae89e6ff5361cde53ca"), looks := false }, kinds := [], alts := [], laidByText := true, laidKinds := [.data, .data, .data, .data, .pinned], laidTests := true, laidLooks := .later }
def OrdinaryDefinesUptoCardSaid : Prop := Claim7.holds Tryz.pinned (.plain (OpenSpec.upto ordinaryDefinesSpec)) ordinaryDefinesUptoCard

/-- THE SECOND FORM's CARD OF 'bailifflaw12.OrdinaryShuts'. -/
def ordinaryShutsUptoCard : Claim7 := { stood := { row := ordinaryShutsUptoRow, standIns := [], harness := (true, "a44403211ab6ed4f4e76824f8772a851cea599d4b03f2ae89e6ff5361cde53ca"), looks := false }, kinds := [], alts := [], laidByText := true, laidKinds := [.data, .data, .data, .data, .pinned], laidTests := true, laidLooks := .later }
def OrdinaryShutsUptoCardSaid : Prop := Claim7.holds Tryz.pinned (.plain (OpenSpec.upto ordinaryShutsSpec)) ordinaryShutsUptoCard

/-- THE SECOND FORM's CARD OF 'bailifflaw12.OrdinaryRings'. -/
def ordinaryRingsUptoCard : Claim7 := { stood := { row := ordinaryRingsUptoRow, standIns := [], harness := (true, "a44403211ab6ed4f4e76824f8772a851cea599d4b03f2ae89e6ff5361cde53ca"), looks := false }, kinds := [], alts := [], laidByText := true, laidKinds := [.data, .data, .data, .data, .pinned], laidTests := true, laidLooks := .later }
def OrdinaryRingsUptoCardSaid : Prop := Claim7.holds Tryz.pinned (.plain (OpenSpec.upto ordinaryRingsSpec)) ordinaryRingsUptoCard
end Rows
end Go.Proofs.YtpeegmpfkongeaaGreatDoor
