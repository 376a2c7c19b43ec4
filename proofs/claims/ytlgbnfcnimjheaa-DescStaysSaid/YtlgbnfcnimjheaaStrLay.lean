/-
  The library's contracts of (*strings.Builder).WriteByte and WriteString laid at this seat by hand: the shelf's command lays them not where no body names the type of the panic's value.
-/
import Derived.Shelf.Strings.Builder1
import Derived.Test.YtlgbnfcnimjheaaProg
namespace Go.Proofs
open Go.Shelf
end Go.Proofs
