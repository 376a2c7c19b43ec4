/-
  DERIVED. GIVEN WITH THE SEED: THE CARDS: each row of YtkcikdggfbjedaaGreatDoorRows.lean that lists a variable, with what it lists TIED to the program's text (the seventh form; the later family's looks); each row that meets fmt, with fmt's text TOLD by the authors' own Lean function (tested against real Go, not proved from fmt's source: count such statements apart). THE CARD IS WHAT COUNTS. Prove the row's statement (the work); the ties are given (YtkcikdggfbjedaaGreatDoorTie.lean); close each card by the builder's one call (the guide's Derived/Test/ToyasCard.lean, 'card_holds'). Laid BY PROGRAM, IN A SANDBOX (cutbox-door.mjs). By AI agents, Wed Nov 11 2026. No macro, syntax, notation, axiom, sorry.
-/
import Derived.Test.YtkcikdggfbjedaaGreatDoorRows
import GoSem.ClaimSeven
namespace Go.Proofs.YtkcikdggfbjedaaGreatDoor
namespace Rows

/-- THE TIED CARD OF 'bailifflaw14.ChainNames'. -/
def chainNamesCard : Claim7 := { stood := { row := chainNamesRow, standIns := [], harness := (true, "e6278a55fd2ecbe99b62ad72ea2f8f26b0ad513915298404ffced96b3cb0f791"), looks := false }, kinds := [], alts := [], laidByText := true, laidKinds := [.data, .data, .data, .data, .pinned], laidTests := true, laidLooks := .later }
def ChainNamesCardSaid : Prop := Claim7.holds Tryz.pinned (.plain (OpenSpec.ofChange chainNamesSpec)) chainNamesCard

/-- THE TIED CARD OF 'bailifflaw14.ChainKeeps'. -/
def chainKeepsCard : Claim7 := { stood := { row := chainKeepsRow, standIns := [], harness := (true, "e6278a55fd2ecbe99b62ad72ea2f8f26b0ad513915298404ffced96b3cb0f791"), looks := false }, kinds := [], alts := [], laidByText := true, laidKinds := [.data, .data, .data, .data, .pinned], laidTests := true, laidLooks := .later }
def ChainKeepsCardSaid : Prop := Claim7.holds Tryz.pinned (.plain (OpenSpec.ofChange chainKeepsSpec)) chainKeepsCard

/-- THE TIED CARD OF 'bailifflaw14.ChainLong'. -/
def chainLongCard : Claim7 := { stood := { row := chainLongRow, standIns := [], harness := (true, "e6278a55fd2ecbe99b62ad72ea2f8f26b0ad513915298404ffced96b3cb0f791"), looks := false }, kinds := [], alts := [], laidByText := true, laidKinds := [.data, .data, .data, .data, .pinned], laidTests := true, laidLooks := .later }
def ChainLongCardSaid : Prop := Claim7.holds Tryz.pinned (.plain (OpenSpec.ofChange chainLongSpec)) chainLongCard

/-- THE TIED CARD OF 'bailifflaw12.OrdinaryDefines'. -/
def ordinaryDefinesCard : Claim7 := { stood := { row := ordinaryDefinesRow, standIns := [], harness := (true, "e6278a55fd2ecbe99b62ad72ea2f8f26b0ad513915298404ffced96b3cb0f791"), looks := false }, kinds := [], alts := [], laidByText := true, laidKinds := [.data, .data, .data, .data, .pinned], laidTests := true, laidLooks := .later }
def OrdinaryDefinesCardSaid : Prop := Claim7.holds Tryz.pinned (.plain (OpenSpec.ofChange ordinaryDefinesSpec)) ordinaryDefinesCard

/-- THE TIED CARD OF 'bailifflaw12.OrdinaryKeeps'. -/
def ordinaryKeepsCard : Claim7 := { stood := { row := ordinaryKeepsRow, standIns := [], harness := (true, "e6278a55fd2ecbe99b62ad72ea2f8f26b0ad513915298404ffced96b3cb0f791"), looks := false }, kinds := [], alts := [], laidByText := true, laidKinds := [.data, .data, .data, .data, .pinned], laidTests := true, laidLooks := .later }
def OrdinaryKeepsCardSaid : Prop := Claim7.holds Tryz.pinned (.plain (OpenSpec.ofChange ordinaryKeepsSpec)) ordinaryKeepsCard

/-- THE TIED CARD OF 'bailifflaw12.OrdinaryNames'. -/
def ordinaryNamesCard : Claim7 := { stood := { row := ordinaryNamesRow, standIns := [], harness := (true, "e6278a55fd2ecbe99b62ad72ea2f8f26b0ad513915298404ffced96b3cb0f791"), looks := false }, kinds := [], alts := [], laidByText := true, laidKinds := [.data, .data, .data, .data, .pinned], laidTests := true, laidLooks := .later }
def OrdinaryNamesCardSaid : Prop := Claim7.holds Tryz.pinned (.plain (OpenSpec.ofChange ordinaryNamesSpec)) ordinaryNamesCard

/-- THE SECOND FORM's CARD OF 'bailifflaw14.ChainNames'. -/
def chainNamesUptoCard : Claim7 := { stood := { row := chainNamesUptoRow, standIns := [], harness := (true, "e6278a55fd2ecbe99b62ad72ea2f8f26b0ad513915298404ffced96b3cb0f791"), looks := false }, kinds := [], alts := [], laidByText := true, laidKinds := [.data, .data, .data, .data, .pinned], laidTests := true, laidLooks := .later }
def ChainNamesUptoCardSaid : Prop := Claim7.holds Tryz.pinned (.plain (OpenSpec.upto chainNamesSpec)) chainNamesUptoCard

/-- THE SECOND FORM's CARD OF 'bailifflaw14.ChainKeeps'. -/
def chainKeepsUptoCard : Claim7 := { stood := { row := chainKeepsUptoRow, standIns := [], harness := (true, "e6278a55fd2ecbe99b62ad72ea2f8f26b0ad513915298404ffced96b3cb0f791"), looks := false }, kinds := [], alts := [], laidByText := true, laidKinds := [.data, .data, .data, .data, .pinned], laidTests := true, laidLooks := .later }
def ChainKeepsUptoCardSaid : Prop := Claim7.holds Tryz.pinned (.plain (OpenSpec.upto chainKeepsSpec)) chainKeepsUptoCard

/-- THE SECOND FORM's CARD OF 'bailifflaw14.ChainLong'. -/
def chainLongUptoCard : Claim7 := { stood := { row := chainLongUptoRow, standIns := [], harness := (true, "e6278a55fd2ecbe99b62ad72ea2f8f26b0ad513915298404ffced96b3cb0f791"), looks := false }, kinds := [], alts := [], laidByText := true, laidKinds := [.data, .data, .data, .data, .pinned], laidTests := true, laidLooks := .later }
def ChainLongUptoCardSaid : Prop := Claim7.holds Tryz.pinned (.plain (OpenSpec.upto chainLongSpec)) chainLongUptoCard

/-- THE SECOND FORM's CARD OF 'bailifflaw12.OrdinaryDefines'. -/
def ordinaryDefinesUptoCard : Claim7 := { stood := { row := ordinaryDefinesUptoRow, standIns := [], harness := (true, "e6278a55fd2ecbe99b62ad72ea2f8f26b0ad513915298404ffced96b3cb0f791"), looks := false }, kinds := [], alts := [], laidByText := true, laidKinds := [.data, .data, .data, .data, .pinned], laidTests := true, laidLooks := .later }
def OrdinaryDefinesUptoCardSaid : Prop := Claim7.holds Tryz.pinned (.plain (OpenSpec.upto ordinaryDefinesSpec)) ordinaryDefinesUptoCard

/-- THE SECOND FORM's CARD OF 'bailifflaw12.OrdinaryKeeps'. -/
def ordinaryKeepsUptoCard : Claim7 := { stood := { row := ordinaryKeepsUptoRow, standIns := [], harness := (true, "e6278a55fd2ecbe99b62ad72ea2f8f26b0ad513915298404ffced96b3cb0f791"), looks := false }, kinds := [], alts := [], laidByText := true, laidKinds := [.data, .data, .data, .data, .pinned], laidTests := true, laidLooks := .later }
def OrdinaryKeepsUptoCardSaid : Prop := Claim7.holds Tryz.pinned (.plain (OpenSpec.upto ordinaryKeepsSpec)) ordinaryKeepsUptoCard

/-- THE SECOND FORM's CARD OF 'bailifflaw12.OrdinaryNames'. -/
def ordinaryNamesUptoCard : Claim7 := { stood := { row := ordinaryNamesUptoRow, standIns := [], harness := (true, "e6278a55fd2ecbe99b62ad72ea2f8f26b0ad513915298404ffced96b3cb0f791"), looks := false }, kinds := [], alts := [], laidByText := true, laidKinds := [.data, .data, .data, .data, .pinned], laidTests := true, laidLooks := .later }
def OrdinaryNamesUptoCardSaid : Prop := Claim7.holds Tryz.pinned (.plain (OpenSpec.upto ordinaryNamesSpec)) ordinaryNamesUptoCard
end Rows
end Go.Proofs.YtkcikdggfbjedaaGreatDoor
