/-
  No cell of these rows narrows 'for every input' (looked for: loops, veiled, ifaces, maps, wideKeys, modest, calm, conditions, laid).
  DERIVED. THE GIVEN ROWS OF THIS SEAT. 6 by the template 'for every input the law returns true; each argument reads behind the call as it read before'; 0 by the template 'total and deterministic' (their statements: YtgjnpgeagalcoaaTotals.lean).
  GIVEN WITH THE SEED: the statements are not yours to turn. If you find one false, say at which input.
  Laid BY PROGRAM, IN A SANDBOX (cutbox-rows.mjs): the forced cells as the released guide's own fill.sh prints them over the translation 58722064b4e98947… (all of the seat's roots in one cut). By AI agents, Wed Nov 11 2026. No macro, syntax, notation, axiom, sorry.
-/
import Derived.Test.YtgjnpgeagalcoaaChecked
import GoSem.Claim
import GoSem.ClaimJoined
import GoSem.ClaimMapViews
import Derived.JoinedTies
import Derived.KernelRfl
namespace Go.Proofs.Ytgjnpgeagalcoaa
/- THE CELL 'sum', in the pinned program and in every row, IS THE sha256 OF THE DUMP (.gsa) THAT YtgjnpgeagalcoaaProg.lean LOADS. Nothing in Lean hashes anything: it is a label: what it is worth is what the hold of that sum in a sandbox is worth. -/
noncomputable def Try.pinned : Pinned := { name := "ytgjnpgeagalcoaa", sum := "58722064b4e98947b63eb3061faf78ef5877ba2d09bef22c7d3dce0d58396fa9", checked := Try.checked }
namespace Rows
def none {H : Type} : Left H := { results := [], args := [] }

/-- 'bailifflaw02.StrNames': WHATEVER THE INPUT: true; the input reads as it did. -/
def strNamesSpec : ChangeSpec := { name := "strNames", fn := fun _ => fun
  | [] => { results := [.lit (.bool true)], args := [] }
  | _ => none }
def strNamesRow : OpenClaim := { program := "ytgjnpgeagalcoaa", sum := "58722064b4e98947b63eb3061faf78ef5877ba2d09bef22c7d3dce0d58396fa9", func := "bailiff/bailifflaw02.StrNames", spec := "strNames", inPlace := ["math.archTrunc", "math.Float64bits", "math.Float64frombits", "internal/abi.NoEscape", "internal/bytealg.MakeNoZero", "internal/bytealg.IndexByteString", "internal/bytealg.IndexString"], named := ["internal/bytealg.MaxLen"], apart := false }
def StrNamesSaid : Prop := strNamesRow.holds Try.pinned (OpenSpec.ofChange strNamesSpec)

/-- ITS FALSE NEIGHBOUR: 'it returns false'. Refute it at one input. -/
def strNamesWrong : ChangeSpec := { name := "strNames", fn := fun _ => fun
  | [] => { results := [.lit (.bool false)], args := [] }
  | _ => none }
def StrNamesWrongFalsely : Prop := strNamesRow.holds Try.pinned (OpenSpec.ofChange strNamesWrong)

/-- 'bailifflaw02.StrMade': WHATEVER THE INPUT: true; the input reads as it did. -/
def strMadeSpec : ChangeSpec := { name := "strMade", fn := fun _ => fun
  | [d1, d2, d3] => { results := [.lit (.bool true)], args := [d1, d2, d3] }
  | _ => none }
def strMadeRow : OpenClaim := { program := "ytgjnpgeagalcoaa", sum := "58722064b4e98947b63eb3061faf78ef5877ba2d09bef22c7d3dce0d58396fa9", func := "bailiff/bailifflaw02.StrMade", spec := "strMade", inPlace := ["internal/abi.NoEscape", "internal/bytealg.MakeNoZero"], apart := false }
def StrMadeSaid : Prop := strMadeRow.holds Try.pinned (OpenSpec.ofChange strMadeSpec)

/-- ITS FALSE NEIGHBOUR: 'it returns false'. Refute it at one input. -/
def strMadeWrong : ChangeSpec := { name := "strMade", fn := fun _ => fun
  | [d1, d2, d3] => { results := [.lit (.bool false)], args := [d1, d2, d3] }
  | _ => none }
def StrMadeWrongFalsely : Prop := strMadeRow.holds Try.pinned (OpenSpec.ofChange strMadeWrong)

/-- 'bailifflaw02.StrPlaces': WHATEVER THE INPUT: true; the input reads as it did. -/
def strPlacesSpec : ChangeSpec := { name := "strPlaces", fn := fun _ => fun
  | [d1, d2, d3, d4, d5] => { results := [.lit (.bool true)], args := [d1, d2, d3, d4, d5] }
  | _ => none }
def strPlacesRow : OpenClaim := { program := "ytgjnpgeagalcoaa", sum := "58722064b4e98947b63eb3061faf78ef5877ba2d09bef22c7d3dce0d58396fa9", func := "bailiff/bailifflaw02.StrPlaces", spec := "strPlaces", inPlace := ["internal/abi.NoEscape", "internal/bytealg.MakeNoZero", "math.archTrunc", "math.Float64bits", "math.Float64frombits", "internal/bytealg.IndexByteString", "internal/bytealg.IndexString"], named := ["internal/bytealg.MaxLen"], apart := false }
def StrPlacesSaid : Prop := strPlacesRow.holds Try.pinned (OpenSpec.ofChange strPlacesSpec)

/-- ITS FALSE NEIGHBOUR: 'it returns false'. Refute it at one input. -/
def strPlacesWrong : ChangeSpec := { name := "strPlaces", fn := fun _ => fun
  | [d1, d2, d3, d4, d5] => { results := [.lit (.bool false)], args := [d1, d2, d3, d4, d5] }
  | _ => none }
def StrPlacesWrongFalsely : Prop := strPlacesRow.holds Try.pinned (OpenSpec.ofChange strPlacesWrong)

/-- 'bailifflaw02.StrTexts': WHATEVER THE INPUT: true; the input reads as it did. -/
def strTextsSpec : ChangeSpec := { name := "strTexts", fn := fun _ => fun
  | [d] => { results := [.lit (.bool true)], args := [d] }
  | _ => none }
def strTextsRow : OpenClaim := { program := "ytgjnpgeagalcoaa", sum := "58722064b4e98947b63eb3061faf78ef5877ba2d09bef22c7d3dce0d58396fa9", func := "bailiff/bailifflaw02.StrTexts", spec := "strTexts", inPlace := ["internal/abi.NoEscape", "internal/bytealg.MakeNoZero"], apart := false }
def StrTextsSaid : Prop := strTextsRow.holds Try.pinned (OpenSpec.ofChange strTextsSpec)

/-- ITS FALSE NEIGHBOUR: 'it returns false'. Refute it at one input. -/
def strTextsWrong : ChangeSpec := { name := "strTexts", fn := fun _ => fun
  | [d] => { results := [.lit (.bool false)], args := [d] }
  | _ => none }
def StrTextsWrongFalsely : Prop := strTextsRow.holds Try.pinned (OpenSpec.ofChange strTextsWrong)

/-- 'bailifflaw02.StrBack': WHATEVER THE INPUT: true; the input reads as it did. -/
def strBackSpec : ChangeSpec := { name := "strBack", fn := fun _ => fun
  | [d] => { results := [.lit (.bool true)], args := [d] }
  | _ => none }
def strBackRow : OpenClaim := { program := "ytgjnpgeagalcoaa", sum := "58722064b4e98947b63eb3061faf78ef5877ba2d09bef22c7d3dce0d58396fa9", func := "bailiff/bailifflaw02.StrBack", spec := "strBack", inPlace := ["math.archTrunc", "math.Float64bits", "math.Float64frombits", "internal/abi.NoEscape", "internal/bytealg.MakeNoZero"], apart := false }
def StrBackSaid : Prop := strBackRow.holds Try.pinned (OpenSpec.ofChange strBackSpec)

/-- ITS FALSE NEIGHBOUR: 'it returns false'. Refute it at one input. -/
def strBackWrong : ChangeSpec := { name := "strBack", fn := fun _ => fun
  | [d] => { results := [.lit (.bool false)], args := [d] }
  | _ => none }
def StrBackWrongFalsely : Prop := strBackRow.holds Try.pinned (OpenSpec.ofChange strBackWrong)

/-- 'bailifflaw02.StrParts': WHATEVER THE INPUT: true; the input reads as it did. -/
def strPartsSpec : ChangeSpec := { name := "strParts", fn := fun _ => fun
  | [d1, d2, d3] => { results := [.lit (.bool true)], args := [d1, d2, d3] }
  | _ => none }
def strPartsRow : OpenClaim := { program := "ytgjnpgeagalcoaa", sum := "58722064b4e98947b63eb3061faf78ef5877ba2d09bef22c7d3dce0d58396fa9", func := "bailiff/bailifflaw02.StrParts", spec := "strParts", inPlace := ["math.archTrunc", "math.Float64bits", "math.Float64frombits", "internal/abi.NoEscape", "internal/bytealg.MakeNoZero", "internal/bytealg.IndexByteString", "internal/bytealg.IndexString"], named := ["internal/bytealg.MaxLen"], apart := false }
def StrPartsSaid : Prop := strPartsRow.holds Try.pinned (OpenSpec.ofChange strPartsSpec)

/-- ITS FALSE NEIGHBOUR: 'it returns false'. Refute it at one input. -/
def strPartsWrong : ChangeSpec := { name := "strParts", fn := fun _ => fun
  | [d1, d2, d3] => { results := [.lit (.bool false)], args := [d1, d2, d3] }
  | _ => none }
def StrPartsWrongFalsely : Prop := strPartsRow.holds Try.pinned (OpenSpec.ofChange strPartsWrong)

/- THE SECOND FORM. 'bulk': how many values and letters a reading holds, each counted each time it is reached (what is shared counts as often as it is met; a slice's spare places count too). A statement '..UptoSaid' is the law's where the arguments, and the package variables that the reading takes, are together of bulk at most 1048576: NARROWER than '..Said'. Prove '..Said' where nothing that the law and all that it calls make is longer than what came in: it says more and counts as full. Else prove '..UptoSaid'. A law counts once. -/
mutual
def uptoBulk {H : Type} : DataW H → Nat
  | .lit (.string bytes) => bytes.length + 1
  | .lit _ => 1
  | .nil => 1
  | .ptr d => uptoBulk d + 1
  | .slice elems spare => uptoBulkAll elems + uptoBulkAll spare + 1
  | .agg parts => uptoBulkAll parts + 1
  | .iface _ d => uptoBulk d + 1
  | .map entries => uptoBulkEntries entries + 1
  | .held _ => 1
def uptoBulkAll {H : Type} : List (DataW H) → Nat
  | [] => 0
  | d :: r => uptoBulk d + uptoBulkAll r
def uptoBulkEntries {H : Type} : List (Lit × DataW H) → Nat
  | [] => 0
  | x :: r => uptoBulkEntry x + uptoBulkEntries r
def uptoBulkEntry {H : Type} : Lit × DataW H → Nat
  | (.string bytes, d) => bytes.length + uptoBulk d + 1
  | (_, d) => uptoBulk d + 1
 end
def uptoSmall : (H : Type) → List (DataW H) → Bool := fun _ ds => decide (uptoBulkAll ds ≤ 1048576)
def OpenSpec.upto (s : _root_.Go.ChangeSpec) : _root_.Go.OpenSpec := { _root_.Go.OpenSpec.ofChange s with cond := some uptoSmall }

/-- 'bailifflaw02.StrNames', WHERE WHAT IT READS IS OF BULK AT MOST 1048576: true; the input reads as it did. -/
def strNamesUptoRow : OpenClaim := { program := "ytgjnpgeagalcoaa", sum := "58722064b4e98947b63eb3061faf78ef5877ba2d09bef22c7d3dce0d58396fa9", func := "bailiff/bailifflaw02.StrNames", spec := "strNames", inPlace := ["math.archTrunc", "math.Float64bits", "math.Float64frombits", "internal/abi.NoEscape", "internal/bytealg.MakeNoZero", "internal/bytealg.IndexByteString", "internal/bytealg.IndexString"], named := ["internal/bytealg.MaxLen"], apart := false, narrowed := true }
def StrNamesUptoSaid : Prop := strNamesUptoRow.holds Try.pinned (OpenSpec.upto strNamesSpec)

/-- 'bailifflaw02.StrMade', WHERE WHAT IT READS IS OF BULK AT MOST 1048576: true; the input reads as it did. -/
def strMadeUptoRow : OpenClaim := { program := "ytgjnpgeagalcoaa", sum := "58722064b4e98947b63eb3061faf78ef5877ba2d09bef22c7d3dce0d58396fa9", func := "bailiff/bailifflaw02.StrMade", spec := "strMade", inPlace := ["internal/abi.NoEscape", "internal/bytealg.MakeNoZero"], apart := false, narrowed := true }
def StrMadeUptoSaid : Prop := strMadeUptoRow.holds Try.pinned (OpenSpec.upto strMadeSpec)

/-- 'bailifflaw02.StrPlaces', WHERE WHAT IT READS IS OF BULK AT MOST 1048576: true; the input reads as it did. -/
def strPlacesUptoRow : OpenClaim := { program := "ytgjnpgeagalcoaa", sum := "58722064b4e98947b63eb3061faf78ef5877ba2d09bef22c7d3dce0d58396fa9", func := "bailiff/bailifflaw02.StrPlaces", spec := "strPlaces", inPlace := ["internal/abi.NoEscape", "internal/bytealg.MakeNoZero", "math.archTrunc", "math.Float64bits", "math.Float64frombits", "internal/bytealg.IndexByteString", "internal/bytealg.IndexString"], named := ["internal/bytealg.MaxLen"], apart := false, narrowed := true }
def StrPlacesUptoSaid : Prop := strPlacesUptoRow.holds Try.pinned (OpenSpec.upto strPlacesSpec)

/-- 'bailifflaw02.StrTexts', WHERE WHAT IT READS IS OF BULK AT MOST 1048576: true; the input reads as it did. -/
def strTextsUptoRow : OpenClaim := { program := "ytgjnpgeagalcoaa", sum := "58722064b4e98947b63eb3061faf78ef5877ba2d09bef22c7d3dce0d58396fa9", func := "bailiff/bailifflaw02.StrTexts", spec := "strTexts", inPlace := ["internal/abi.NoEscape", "internal/bytealg.MakeNoZero"], apart := false, narrowed := true }
def StrTextsUptoSaid : Prop := strTextsUptoRow.holds Try.pinned (OpenSpec.upto strTextsSpec)

/-- 'bailifflaw02.StrBack', WHERE WHAT IT READS IS OF BULK AT MOST 1048576: true; the input reads as it did. -/
def strBackUptoRow : OpenClaim := { program := "ytgjnpgeagalcoaa", sum := "58722064b4e98947b63eb3061faf78ef5877ba2d09bef22c7d3dce0d58396fa9", func := "bailiff/bailifflaw02.StrBack", spec := "strBack", inPlace := ["math.archTrunc", "math.Float64bits", "math.Float64frombits", "internal/abi.NoEscape", "internal/bytealg.MakeNoZero"], apart := false, narrowed := true }
def StrBackUptoSaid : Prop := strBackUptoRow.holds Try.pinned (OpenSpec.upto strBackSpec)

/-- 'bailifflaw02.StrParts', WHERE WHAT IT READS IS OF BULK AT MOST 1048576: true; the input reads as it did. -/
def strPartsUptoRow : OpenClaim := { program := "ytgjnpgeagalcoaa", sum := "58722064b4e98947b63eb3061faf78ef5877ba2d09bef22c7d3dce0d58396fa9", func := "bailiff/bailifflaw02.StrParts", spec := "strParts", inPlace := ["math.archTrunc", "math.Float64bits", "math.Float64frombits", "internal/abi.NoEscape", "internal/bytealg.MakeNoZero", "internal/bytealg.IndexByteString", "internal/bytealg.IndexString"], named := ["internal/bytealg.MaxLen"], apart := false, narrowed := true }
def StrPartsUptoSaid : Prop := strPartsUptoRow.holds Try.pinned (OpenSpec.upto strPartsSpec)

end Rows
end Go.Proofs.Ytgjnpgeagalcoaa
