/-
  Text of package num beside the document's own, for every float: walks.
-/
import Derived.Test.YtlgbnfcnimjheaaTextRead
import Derived.Test.YtlgbnfcnimjheaaNumBack
import Derived.Lib.AppendIntMem
namespace Go.Proofs.Ytlgbnfcnimjheaa
open Go.RowKit Fl

def textL (c : Cl) : List UInt8 := match c with
  | .nan => [78, 97, 78]
  | .other => []
  | .ours n => Lib.itoa n
def TextTo (l : List UInt8) (w : World) (e : Ending) (w' : World) : Prop := ∃ t : ByteArray, t.data.toList = l ∧ e = .returned (.string t) ∧ Below w.heap.size w w'

theorem grow_below (w : World) (k : Nat) (os : Array Obj) : Below w.heap.size w (Sort.grow (w.drewN k) os) := by
  refine ⟨rfl, rfl, rfl, ?_, fun i hi => ?_⟩
  · show w.heap.size ≤ (w.heap ++ os).size
    simp
  · show (w.heap ++ os)[i]? = w.heap[i]?
    rw [Array.getElem?_append_left hi]

theorem encode_one (k : Nat) (hk : k < 10) : Utf8.encode (48 + (k : Int)) = ⟨#[UInt8.ofNat (48 + k)]⟩ := by
  have : k = 0 ∨ k = 1 ∨ k = 2 ∨ k = 3 ∨ k = 4 ∨ k = 5 ∨ k = 6 ∨ k = 7 ∨ k = 8 ∨ k = 9 := by omega
  rcases this with rfl | rfl | rfl | rfl | rfl | rfl | rfl | rfl | rfl | rfl <;> decide

theorem size_one (b : UInt8) : (⟨#[b]⟩ : ByteArray).size = 1 := rfl
theorem decDigits_big (k : Nat) (h : 10 ≤ k) : Lib.decDigits k = Lib.decDigits (k / 10) ++ [UInt8.ofNat (48 + k % 10)] := by
  rw [Lib.decDigits]; rw [dif_neg (by omega)]
theorem decDigits_one (k : Nat) (h : k < 10) : Lib.decDigits k = [UInt8.ofNat (48 + k)] := by
  rw [Lib.decDigits]; rw [dif_pos h]

theorem decDigits_len (k : Nat) : (Lib.decDigits k).length ≤ k + 1 := by
  induction k using Nat.strongRecOn with
  | _ k ih =>
    by_cases c : k < 10
    · rw [decDigits_one k c]; simp
    · rw [decDigits_big k (by omega), List.length_append]
      have := ih (k / 10) (by omega)
      simp only [List.length_cons, List.length_nil]; omega

end Go.Proofs.Ytlgbnfcnimjheaa
