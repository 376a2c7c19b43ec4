/-
  DERIVED. GIVEN WITH THE SEED: THE CARDS: each row of YtbeggameiedjgaaGreatDoorRows.lean that lists a variable, with what it lists TIED to the program's text (the seventh form; the later family's looks); each row that meets fmt, with fmt's text TOLD by the authors' own Lean function (tested against real Go, not proved from fmt's source: count such statements apart). THE CARD IS WHAT COUNTS. Prove the row's statement (the work); the ties are given (YtbeggameiedjgaaGreatDoorTie.lean); close each card by the builder's one call (the guide's Derived/Test/ToyasCard.lean, 'card_holds'). Laid BY PROGRAM, IN A SANDBOX (cutbox-door.mjs). By AI agents, Wed Nov 11 2026. No macro, syntax, notation, axiom, sorry.
-/
import Derived.Test.YtbeggameiedjgaaGreatDoorRows
import GoSem.ClaimSeven
namespace Go.Proofs.YtbeggameiedjgaaGreatDoor
namespace Rows

/-- THE TIED CARD OF 'bailifflaw10.TableNames'. -/
def tableNamesCard : Claim7 := { stood := { row := tableNamesRow, standIns := [], harness := (true, "369bfc2f800a53f647b3e89e152b6c11373e1d68e6ff34a8343a64c7b9d5fb89"), looks := false }, kinds := [], alts := [], laidByText := true, laidKinds := [.data, .data, .data, .data, .pinned], laidTests := true, laidLooks := .later }
def TableNamesCardSaid : Prop := Claim7.holds Tryz.pinned (.plain (OpenSpec.ofChange tableNamesSpec)) tableNamesCard

/-- THE TIED CARD OF 'bailifflaw11.HeapNames'. -/
def heapNamesCard : Claim7 := { stood := { row := heapNamesRow, standIns := [], harness := (true, "369bfc2f800a53f647b3e89e152b6c11373e1d68e6ff34a8343a64c7b9d5fb89"), looks := false }, kinds := [], alts := [], laidByText := true, laidKinds := [.data, .data, .data, .data, .pinned], laidTests := true, laidLooks := .later }
def HeapNamesCardSaid : Prop := Claim7.holds Tryz.pinned (.plain (OpenSpec.ofChange heapNamesSpec)) heapNamesCard

/-- THE TIED CARD OF 'bailifflaw11.HeapKeeps'. -/
def heapKeepsCard : Claim7 := { stood := { row := heapKeepsRow, standIns := [], harness := (true, "369bfc2f800a53f647b3e89e152b6c11373e1d68e6ff34a8343a64c7b9d5fb89"), looks := false }, kinds := [], alts := [], laidByText := true, laidKinds := [.data, .data, .data, .data, .pinned], laidTests := true, laidLooks := .later }
def HeapKeepsCardSaid : Prop := Claim7.holds Tryz.pinned (.plain (OpenSpec.ofChange heapKeepsSpec)) heapKeepsCard

/-- THE TIED CARD OF 'bailifflaw11.HeapMore'. -/
def heapMoreCard : Claim7 := { stood := { row := heapMoreRow, standIns := [], harness := (true, "369bfc2f800a53f647b3e89e152b6c11373e1d68e6ff34a8343a64c7b9d5fb89"), looks := false }, kinds := [], alts := [], laidByText := true, laidKinds := [.data, .data, .data, .data, .pinned], laidTests := true, laidLooks := .later }
def HeapMoreCardSaid : Prop := Claim7.holds Tryz.pinned (.plain (OpenSpec.ofChange heapMoreSpec)) heapMoreCard

/-- THE TIED CARD OF 'bailifflaw11.HeapApart'. -/
def heapApartCard : Claim7 := { stood := { row := heapApartRow, standIns := [], harness := (true, "369bfc2f800a53f647b3e89e152b6c11373e1d68e6ff34a8343a64c7b9d5fb89"), looks := false }, kinds := [], alts := [], laidByText := true, laidKinds := [.data, .data, .data, .data, .pinned], laidTests := true, laidLooks := .later }
def HeapApartCardSaid : Prop := Claim7.holds Tryz.pinned (.plain (OpenSpec.ofChange heapApartSpec)) heapApartCard

/-- THE SECOND FORM's CARD OF 'bailifflaw10.TableNames'. -/
def tableNamesUptoCard : Claim7 := { stood := { row := tableNamesUptoRow, standIns := [], harness := (true, "369bfc2f800a53f647b3e89e152b6c11373e1d68e6ff34a8343a64c7b9d5fb89"), looks := false }, kinds := [], alts := [], laidByText := true, laidKinds := [.data, .data, .data, .data, .pinned], laidTests := true, laidLooks := .later }
def TableNamesUptoCardSaid : Prop := Claim7.holds Tryz.pinned (.plain (OpenSpec.upto tableNamesSpec)) tableNamesUptoCard

/-- THE SECOND FORM's CARD OF 'bailifflaw11.HeapNames'. -/
def heapNamesUptoCard : Claim7 := { stood := { row := heapNamesUptoRow, standIns := [], harness := (true, "369bfc2f800a53f647b3e89e152b6c11373e1d68e6ff34a8343a64c7b9d5fb89"), looks := false }, kinds := [], alts := [], laidByText := true, laidKinds := [.data, .data, .data, .data, .pinned], laidTests := true, laidLooks := .later }
def HeapNamesUptoCardSaid : Prop := Claim7.holds Tryz.pinned (.plain (OpenSpec.upto heapNamesSpec)) heapNamesUptoCard

/-- THE SECOND FORM's CARD OF 'bailifflaw11.HeapKeeps'. -/
def heapKeepsUptoCard : Claim7 := { stood := { row := heapKeepsUptoRow, standIns := [], harness := (true, "369bfc2f800a53f647b3e89e152b6c11373e1d68e6ff34a8343a64c7b9d5fb89"), looks := false }, kinds := [], alts := [], laidByText := true, laidKinds := [.data, .data, .data, .data, .pinned], laidTests := true, laidLooks := .later }
def HeapKeepsUptoCardSaid : Prop := Claim7.holds Tryz.pinned (.plain (OpenSpec.upto heapKeepsSpec)) heapKeepsUptoCard

/-- THE SECOND FORM's CARD OF 'bailifflaw11.HeapMore'. -/
def heapMoreUptoCard : Claim7 := { stood := { row := heapMoreUptoRow, standIns := [], harness := (true, "369bfc2f800a53f647b3e89e152b6c11373e1d68e6ff34a8343a64c7b9d5fb89"), looks := false }, kinds := [], alts := [], laidByText := true, laidKinds := [.data, .data, .data, .data, .pinned], laidTests := true, laidLooks := .later }
def HeapMoreUptoCardSaid : Prop := Claim7.holds Tryz.pinned (.plain (OpenSpec.upto heapMoreSpec)) heapMoreUptoCard

/-- THE SECOND FORM's CARD OF 'bailifflaw11.HeapApart'. -/
def heapApartUptoCard : Claim7 := { stood := { row := heapApartUptoRow, standIns := [], harness := (true, "369bfc2f800a53f647b3e89e152b6c11373e1d68e6ff34a8343a64c7b9d5fb89"), looks := false }, kinds := [], alts := [], laidByText := true, laidKinds := [.data, .data, .data, .data, .pinned], laidTests := true, laidLooks := .later }
def HeapApartUptoCardSaid : Prop := Claim7.holds Tryz.pinned (.plain (OpenSpec.upto heapApartSpec)) heapApartUptoCard
end Rows
end Go.Proofs.YtbeggameiedjgaaGreatDoor
