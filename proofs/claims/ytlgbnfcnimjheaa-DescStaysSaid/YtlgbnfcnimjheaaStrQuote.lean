/-
  Quote, the program's and the document's own: walks.
-/
import Derived.Test.YtlgbnfcnimjheaaStrMade
namespace Go.Proofs.Ytlgbnfcnimjheaa.S
open Go.RowKit

/-- a sixteen's byte -/
def hexN (n : Nat) : Nat := if n < 10 then 48 + n else 87 + n
theorem hexN_lt (n : Nat) (h : n < 16) : hexN n < 256 := by unfold hexN; split <;> omega
/-- what stands for a byte between quotes -/
def qb (c : UInt8) : List UInt8 :=
  if c.toNat = 34 ∨ c.toNat = 92 then [92, c] else if c.toNat = 10 then [92, 110] else if c.toNat = 9 then [92, 116] else if c.toNat = 13 then [92, 114]
  else if c.toNat < 32 ∨ 126 < c.toNat then [92, 120, (hexN (c.toNat / 16)).toUInt8, (hexN (c.toNat % 16)).toUInt8] else [c]
theorem qb_len (c : UInt8) : 1 ≤ (qb c).length ∧ (qb c).length ≤ 4 := by
  unfold qb; repeat' split
  all_goals simp
def quoteI (l : List UInt8) : List UInt8 := l.flatMap qb
def quoteL (l : List UInt8) : List UInt8 := 34 :: (quoteI l ++ [34])
theorem quoteI_snoc (l : List UInt8) (c : UInt8) : quoteI (l ++ [c]) = quoteI l ++ qb c := by simp [quoteI]
theorem quoteI_len (l : List UInt8) : (quoteI l).length ≤ 4 * l.length := by
  induction l with
  | nil => simp [quoteI]
  | cons c r ih =>
    have e : quoteI (c :: r) = qb c ++ quoteI r := by simp [quoteI]
    have := (qb_len c).2
    rw [e, List.length_append, List.length_cons]; omega

theorem toNat_of (n : Nat) (h : n < 256) : (n.toUInt8).toNat = n := by simp; omega

theorem list_take_snoc (s : ByteArray) (k : Nat) (h : k < s.size) : s.data.toList.take (k + 1) = s.data.toList.take k ++ [s[k]] := by
  rw [List.take_add_one, getElem_list s k h]; rfl
theorem quote_step (s : ByteArray) (k : Nat) (h : k < s.size) : quoteI (s.data.toList.take (k + 1)) = quoteI (s.data.toList.take k) ++ qb s[k] := by
  rw [list_take_snoc s k h, quoteI_snoc]
theorem quote_take_len (s : ByteArray) (k : Nat) (h : k ≤ s.size) : (quoteI (s.data.toList.take k)).length ≤ 4 * k := by
  refine Nat.le_trans (quoteI_len _) ?_
  rw [List.length_take, ← size_len]; omega

/-- ### the document's own -/
theorem extract_list (s : ByteArray) (a b : Nat) : (s.extract a b).data.toList = (s.data.toList.drop a).take (b - a) := by
  rw [ByteArray.data_extract, Array.toList_extract, List.extract_eq_take_drop]
theorem extract_one (s : ByteArray) (k : Nat) (h : k < s.size) : (s.extract k (k + 1)).data.toList = [s[k]] := by
  rw [extract_list, Nat.add_sub_cancel_left]
  have h2 : k < s.data.toList.length := by rw [← size_len]; exact h
  rw [List.drop_eq_getElem_cons h2, List.take_succ_cons, List.take_zero]
  simp [ByteArray.getElem_eq_getElem_data]

def signT (n : Nat) : ByteArray := (⟨#[48, 49, 50, 51, 52, 53, 54, 55, 56, 57, 97, 98, 99, 100, 101, 102]⟩ : ByteArray).extract n (n + 1)
theorem signT_list (n : Nat) (h : n < 16) : (signT n).data.toList = [(hexN n).toUInt8] := by
  have : ∀ m : Fin 16, (signT m).data.toList = [(hexN m).toUInt8] := by decide
  exact this ⟨n, h⟩
theorem app2 (t : ByteArray) (l : List UInt8) (u : ByteArray) (m : List UInt8) (h : t.data.toList = l) (g : u.data.toList = m) : (t ++ u).data.toList = l ++ m := by rw [append_list, h, g]
theorem app3 (t : ByteArray) (l : List UInt8) (u v : ByteArray) (m n : List UInt8) (h : t.data.toList = l) (g : u.data.toList = m) (f : v.data.toList = n) : (t ++ u ++ v).data.toList = l ++ (m ++ n) := by rw [append_list, append_list, h, g, f, List.append_assoc]
theorem app4 (t : ByteArray) (l : List UInt8) (u v x : ByteArray) (m n o : List UInt8) (h : t.data.toList = l) (g : u.data.toList = m) (f : v.data.toList = n) (d : x.data.toList = o) : (t ++ u ++ v ++ x).data.toList = l ++ (m ++ n ++ o) := by rw [append_list, append_list, append_list, h, g, f, d]; simp only [List.append_assoc]

end Go.Proofs.Ytlgbnfcnimjheaa.S
