/-
  DERIVED. GIVEN WITH THE SEED: THE CARDS: each row of YtkkpeagcbgijlaaDoorRows.lean that lists a variable, with what it lists TIED to the program's text (the seventh form; the later family's looks); each row that meets fmt, with fmt's text TOLD by the authors' own Lean function (tested against real Go, not proved from fmt's source: count such statements apart). THE CARD IS WHAT COUNTS. Prove the row's statement (the work); the ties are given (YtkkpeagcbgijlaaDoorTie.lean); close each card by the builder's one call (the guide's Derived/Test/ToyasCard.lean, 'card_holds'). Laid BY PROGRAM, IN A SANDBOX (cutbox-door.mjs). By AI agents, Wed Nov 11 2026. No macro, syntax, notation, axiom, sorry.
-/
import Derived.Test.YtkkpeagcbgijlaaDoorRows
import GoSem.ClaimSeven
namespace Go.Proofs.YtkkpeagcbgijlaaDoor
namespace Rows

/-- THE TIED CARD OF 'bailifflaw08.KeyOrder'. -/
def keyOrderCard : Claim7 := { stood := { row := keyOrderRow, standIns := [], harness := (true, "668560969ad4e7ae1fb4da68b1fcd2e8734084d4c0503478ff1d1828ff87411a"), looks := false }, kinds := [], alts := [], laidByText := true, laidKinds := [.data, .data, .data, .data, .pinned], laidTests := true, laidLooks := .later }
def KeyOrderCardSaid : Prop := Claim7.holds Tryd.pinned (.plain (OpenSpec.ofChange keyOrderSpec)) keyOrderCard

/-- THE TIED CARD OF 'bailifflaw08.KeyRow'. -/
def keyRowCard : Claim7 := { stood := { row := keyRowRow, standIns := [], harness := (true, "668560969ad4e7ae1fb4da68b1fcd2e8734084d4c0503478ff1d1828ff87411a"), looks := false }, kinds := [], alts := [], laidByText := true, laidKinds := [.data, .data, .data, .data, .pinned], laidTests := true, laidLooks := .later }
def KeyRowCardSaid : Prop := Claim7.holds Tryd.pinned (.plain (OpenSpec.ofChange keyRowSpec)) keyRowCard

/-- THE SECOND FORM's CARD OF 'bailifflaw08.KeyOrder'. -/
def keyOrderUptoCard : Claim7 := { stood := { row := keyOrderUptoRow, standIns := [], harness := (true, "668560969ad4e7ae1fb4da68b1fcd2e8734084d4c0503478ff1d1828ff87411a"), looks := false }, kinds := [], alts := [], laidByText := true, laidKinds := [.data, .data, .data, .data, .pinned], laidTests := true, laidLooks := .later }
def KeyOrderUptoCardSaid : Prop := Claim7.holds Tryd.pinned (.plain (OpenSpec.upto keyOrderSpec)) keyOrderUptoCard

/-- THE SECOND FORM's CARD OF 'bailifflaw08.KeyRow'. -/
def keyRowUptoCard : Claim7 := { stood := { row := keyRowUptoRow, standIns := [], harness := (true, "668560969ad4e7ae1fb4da68b1fcd2e8734084d4c0503478ff1d1828ff87411a"), looks := false }, kinds := [], alts := [], laidByText := true, laidKinds := [.data, .data, .data, .data, .pinned], laidTests := true, laidLooks := .later }
def KeyRowUptoCardSaid : Prop := Claim7.holds Tryd.pinned (.plain (OpenSpec.upto keyRowSpec)) keyRowUptoCard
end Rows
end Go.Proofs.YtkkpeagcbgijlaaDoor
