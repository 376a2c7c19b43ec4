/-
  StrMade: Join and Repeat, the program's and the document's own: walks.
-/
import Derived.Test.YtlgbnfcnimjheaaDoorStrBase
namespace Go.Proofs.YtlgbnfcnimjheaaDoor.S
open Go.RowKit

theorem append_list (a b : ByteArray) : (a ++ b).data.toList = a.data.toList ++ b.data.toList := by simp
theorem append_size (a b : ByteArray) : (a ++ b).size = a.size + b.size := by simp

def joinE (a b : ByteArray) : Int := if a.size + b.size > 4096 then 20 else 0
def joinT (a b : ByteArray) : ByteArray := if a.size + b.size > 4096 then ⟨#[]⟩ else ⟨(a.data.toList ++ b.data.toList).toArray⟩

/-- a list of bytes so many times -/
def reps (l : List UInt8) : Nat → List UInt8
  | 0 => []
  | k + 1 => reps l k ++ l
theorem reps_len (l : List UInt8) (k : Nat) : (reps l k).length = k * l.length := by
  induction k with
  | zero => simp [reps]
  | succ k ih => rw [reps, List.length_append, ih, Nat.succ_mul]

def repE (s : ByteArray) (n : Int) : Int := if n < 0 then 2 else if s.size = 0 then 0 else if n.toNat * s.size > 4096 then 20 else 0
def repT (s : ByteArray) (n : Int) : ByteArray := if n < 0 then ⟨#[]⟩ else if s.size = 0 then ⟨#[]⟩ else if n.toNat * s.size > 4096 then ⟨#[]⟩ else ⟨(reps s.data.toList n.toNat).toArray⟩

theorem over_div (n m : Nat) (hm : 0 < m) : n * m > 4096 ↔ 4096 / m < n := by
  rw [Nat.div_lt_iff_lt_mul hm]
theorem quo_nat (m : Nat) : (4096 : Int) / (m : Int) = ((4096 / m : Nat) : Int) := by rw [Int.natCast_ediv]; rfl
theorem mul_nat (k m : Nat) (h : k * m ≤ 4096) : wrap64 ((k : Int) * (m : Int)) = ((k * m : Nat) : Int) := by
  rw [← Int.natCast_mul]; generalize k * m = p at *; unfold wrap64; omega

theorem below_size {B : Nat} {w w' : World} (h : Below B w w') : w.heap.size ≤ w'.heap.size := h.size
theorem below_up {w w1 w2 : World} (h1 : Below w.heap.size w w1) (h2 : Below w1.heap.size w1 w2) : Below w.heap.size w w2 := h1.trans (h2.mono (below_size h1))

end Go.Proofs.YtlgbnfcnimjheaaDoor.S
