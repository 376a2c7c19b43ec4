/-
  Plain, the program's and the document's own: what an escape stands for: walks.
-/
import Derived.Test.YtkkpeagcbgijlaaGreatDoorStrQuote
import Derived.Deep.QuietTactic
import Derived.BigQuiet
namespace Go.Proofs.YtkkpeagcbgijlaaGreatDoor.S
open Go.RowKit

/-- what a digit of sixteens is worth -/
def worthN (n : Nat) : Int := if 48 ≤ n ∧ n ≤ 57 then (n : Int) - 48 else if 97 ≤ n ∧ n ≤ 102 then (n : Int) - 87 else -1
theorem worthN_le (n : Nat) : -1 ≤ worthN n ∧ worthN n ≤ 15 := by unfold worthN; repeat' split
                                                                  all_goals omega

/-- what two digits of sixteens stand for -/
def hexOf (a b : Int) : UInt8 := (16 * a + b).toNat.toUInt8
def sixR (s : ByteArray) : UInt8 × Nat :=
  if h : s.size < 4 then (0, 0) else if worthN s[2].toNat < 0 ∨ worthN s[3].toNat < 0 then (0, 0) else (hexOf (worthN s[2].toNat) (worthN s[3].toNat), 4)
/-- the answer is a byte and how many bytes it is written with -/
def ByteTo (r : UInt8 × Nat) (w : World) (e : Ending) (w' : World) : Prop := e = .returned (.tuple #[.int .u8 (r.1.toNat : Int), .int .i64 (r.2 : Int)]) ∧ ∃ n, w' = w.drewN n

theorem ret_byte {a b k j : Int} (h : a = b) (g : k = j) : Ending.returned (.tuple #[.int .u8 a, .int .i64 k]) = .returned (.tuple #[.int .u8 b, .int .i64 j]) := by rw [h, g]
theorem or_nat (a b : Nat) (ha : a < 16) (hb : b < 16) : bits .or .i64 ((a : Int) * 16) (b : Int) = 16 * (a : Int) + b := by
  have : ∀ m n : Fin 16, bits .or .i64 ((m.val : Int) * 16) (n.val : Int) = 16 * (m.val : Int) + n.val := by decide +kernel
  exact this ⟨a, ha⟩ ⟨b, hb⟩

/-- what stands at a string's beginning: a byte, and how many bytes it is written with -/
def escS (s : ByteArray) : UInt8 × Nat :=
  if h0 : s.size < 1 then (0, 0)
  else if s[0].toNat ≠ 92 then (s[0], 1)
  else if h1 : s.size < 2 then (0, 0)
  else if s[1].toNat = 92 ∨ s[1].toNat = 34 ∨ s[1].toNat = 39 then (s[1], 2)
  else if s[1].toNat = 110 then (10, 2)
  else if s[1].toNat = 116 then (9, 2)
  else if s[1].toNat = 114 then (13, 2)
  else if s[1].toNat = 120 then sixR s
  else (0, 0)

theorem sixR_w (s : ByteArray) : (sixR s).2 ≤ 4 := by unfold sixR; repeat' split
                                                      all_goals simp
theorem escS_w (s : ByteArray) : (escS s).2 ≤ 4 := by
  unfold escS; repeat' split
  all_goals first | exact sixR_w s | simp

/-- a literal's inside, gone through from a place on: the place of the backslash that begins no escape, or the bytes -/
def plainR (s : ByteArray) : Nat → Nat → List UInt8 → Nat ⊕ List UInt8
  | 0, _, acc => .inr acc
  | f + 1, i, acc => if i < s.size then (if (escS (s.extract i s.size)).2 = 0 then .inl i else plainR s f (i + (escS (s.extract i s.size)).2) (acc ++ [(escS (s.extract i s.size)).1])) else .inr acc
def outOf (r : Nat ⊕ List UInt8) : ByteArray × Int × Int :=
  match r with
  | .inl i => (⟨#[]⟩, (i : Int), 5)
  | .inr acc => if acc.length > 4096 then (⟨#[]⟩, 0, 20) else (⟨acc.toArray⟩, 0, 0)
def plainO (s : ByteArray) : ByteArray × Int × Int := if s.size > 65536 then (⟨#[]⟩, 0, 3) else outOf (plainR s s.size 0 [])
/-- the answer is a string, a place and a number -/
def Str3To (r : ByteArray × Int × Int) (w : World) (e : Ending) (w' : World) : Prop := e = .returned (.tuple #[.string r.1, .int .i64 r.2.1, .int .i64 r.2.2]) ∧ Below w.heap.size w w'

theorem outOf_long (acc : List UInt8) (h : acc.length > 4096) : outOf (.inr acc) = (⟨#[]⟩, 0, 20) := by unfold outOf; exact if_pos h
theorem outOf_short (acc : List UInt8) (h : ¬ acc.length > 4096) : outOf (.inr acc) = (⟨acc.toArray⟩, 0, 0) := by unfold outOf; exact if_neg h
theorem plainR_stop (s : ByteArray) (f i : Nat) (acc : List UInt8) (h : i < s.size) (hf : s.size ≤ i + f) (hr : (escS (s.extract i s.size)).2 = 0) : plainR s f i acc = .inl i := by
  obtain ⟨g, rfl⟩ : ∃ g, f = g + 1 := ⟨f - 1, by omega⟩
  unfold plainR; rw [if_pos h, if_pos hr]
theorem plainR_step (s : ByteArray) (f i : Nat) (acc : List UInt8) (h : i < s.size) (hf : s.size ≤ i + f) (hr : (escS (s.extract i s.size)).2 ≠ 0) :
    ∃ g, plainR s f i acc = plainR s g (i + (escS (s.extract i s.size)).2) (acc ++ [(escS (s.extract i s.size)).1]) ∧ s.size ≤ i + (escS (s.extract i s.size)).2 + g := by
  obtain ⟨g, rfl⟩ : ∃ g, f = g + 1 := ⟨f - 1, by omega⟩
  refine ⟨g, ?_, by omega⟩
  rw [plainR, if_pos h, if_neg hr]
theorem plainR_end (s : ByteArray) (f i : Nat) (acc : List UInt8) (h : ¬ i < s.size) : plainR s f i acc = .inr acc := by
  cases f with
  | zero => rfl
  | succ g => unfold plainR; rw [if_neg h]

theorem BB.drewN {B b : Nat} {l : List UInt8} {w0 w : World} (h : BB B b l w0 w) (n : Nat) : BB B b l w0 (w.drewN n) := by
  induction n with
  | zero => exact h
  | succ n ih => exact ih.drew

end Go.Proofs.YtkkpeagcbgijlaaGreatDoor.S
