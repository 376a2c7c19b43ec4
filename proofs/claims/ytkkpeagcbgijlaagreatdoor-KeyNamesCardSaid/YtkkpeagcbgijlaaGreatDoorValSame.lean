/-
  value.Same, Strict: walks, for any values that may be.
-/
import Derived.Test.YtkkpeagcbgijlaaGreatDoorValWalk
namespace Go.Proofs.YtkkpeagcbgijlaaGreatDoor.S
end Go.Proofs.YtkkpeagcbgijlaaGreatDoor.S
