/-
  NumTexts and NumAgain: texts and what they are worth, beside the document's own, and back: walks.
-/
import Derived.Test.YtlgbnfcnimjheaaDoorTextRef2
import Derived.Test.YtlgbnfcnimjheaaDoorNumBits
namespace Go.Proofs.YtlgbnfcnimjheaaDoor
open Go.RowKit Fl

theorem bytes_ext {a b : ByteArray} (h : a.data.toList = b.data.toList) : a = b := Go.WideShapes.bytes_inj h

def TabHere (w : World) : Prop := Lib.TabBelow Tryd.prog w.heap.size w "internal/strconv.uint64pow10" .u64 Lib.pow10Tab

theorem below_size {w a b : World} (h1 : Below w.heap.size w a) (h2 : Below a.heap.size a b) : Below w.heap.size w b := h1.trans (h2.mono h1.size)

end Go.Proofs.YtlgbnfcnimjheaaDoor
