/-
  Read of package num: what a text is worth, for every text: walks.
-/
import Derived.Test.YtlgbnfcnimjheaaTextMath
import Derived.Test.YtlgbnfcnimjheaaNumSums
import Derived.Test.YtlgbnfcnimjheaaShelf
import Derived.Lib.SlTrimSet
namespace Go.Proofs.Ytlgbnfcnimjheaa
open Go.RowKit Fl

theorem F_10 : F 10 = 4621819117588971520 := by decide

/-- what 'digits' gives -/
def DigW (l : List UInt8) (x : Nat) : Prop := if l = [] ∨ l.all isDig = false then Is .nan x else Acc (valD l) x
def RetDig (l : List UInt8) (w : World) (e : Ending) (w' : World) : Prop := ∃ x, DigW l x ∧ e = .returned (.float .f64 x) ∧ w = w'

theorem all_take_snoc (s : ByteArray) (k : Nat) (h : k < s.size) : (s.data.toList.take (k + 1)).all isDig = ((s.data.toList.take k).all isDig && isDig s[k]) := by
  rw [take_snoc s k h, List.all_append]; simp

theorem not_all (s : ByteArray) (k : Nat) (h : k < s.size) (hd : isDig s[k] = false) : s.data.toList.all isDig = false := by
  rw [List.all_eq_false]
  exact ⟨s[k], by simp [ByteArray.getElem_eq_getElem_data], by simp [hd]⟩

theorem acc_zero : Acc (valD []) 0 := Or.inl ⟨by decide, by decide⟩

theorem toList_data (s : ByteArray) : s.toList = s.data.toList := Go.ByteArray.toList_eq s

theorem isDig_iff (c : UInt8) : isDig c = true ↔ 48 ≤ c.toNat ∧ c.toNat ≤ 57 := by unfold isDig; simp
theorem isDig_no (c : UInt8) (h : c.toNat < 48 ∨ 57 < c.toNat) : isDig c = false := by
  unfold isDig; rcases h with h | h
  · rw [decide_eq_false (by omega)]; rfl
  · rw [decide_eq_false (p := c.toNat ≤ 57) (by omega), Bool.and_false]

theorem extract_tail (t : ByteArray) (c : UInt8) (r : List UInt8) (h : t.data.toList = c :: r) : (t.extract 1 t.size).data.toList = r := by
  have hsz : t.size = r.length + 1 := by
    have : t.size = t.data.toList.length := by simp
    rw [this, h]; rfl
  rw [ByteArray.data_extract, Array.toList_extract, h]
  simp [hsz]

theorem digW_cls {l : List UInt8} {x : Nat} (h : DigW l x) (neg : Bool) : ∃ c, Is c (if neg then Op.negFloat .f64 x else x) ∧ tellC c = digR neg l := by
  unfold DigW at h
  by_cases hl : l = [] ∨ l.all isDig = false
  · rw [if_pos hl] at h
    refine ⟨.nan, ?_, by unfold digR; rw [if_pos hl]; rfl⟩
    cases neg
    · exact h
    · exact neg_nan h.1 h.2
  · rw [if_neg hl] at h
    exact acc_cls neg hl h

def RetRead (r : Res) (w : World) (e : Ending) (w' : World) : Prop := ∃ v k, EncR r v k ∧ e = .returned (.tuple #[.float .f64 v, .int .i64 k]) ∧ Below w.heap.size w w'

theorem trim_length (l cs : List UInt8) : (Lib.trimS l cs).length ≤ l.length := by
  unfold Lib.trimS Lib.trimLeftS Lib.trimRightS
  refine Nat.le_trans (List.dropWhile_suffix _).length_le ?_
  rw [List.length_reverse]
  refine Nat.le_trans (List.dropWhile_suffix _).length_le ?_
  rw [List.length_reverse]; exact Nat.le_refl _

def TrimTo (s : ByteArray) (w : World) (e : Ending) (w' : World) : Prop := ∃ t : ByteArray, t.data.toList = Lib.trimS s.data.toList blanksL ∧ e = .returned (.string t) ∧ Below w.heap.size w w'

theorem bareR_cons (c : UInt8) (r : List UInt8) : bareR (c :: r) = if c = 45 then digR true r else if c = 43 then digR false r else digR false (c :: r) := rfl

theorem size_len (t : ByteArray) : t.size = t.data.toList.length := by simp

end Go.Proofs.Ytlgbnfcnimjheaa
