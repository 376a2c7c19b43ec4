/-
  The document's own Read, and NumTexts: walks.
-/
import Derived.Test.YtlgbnfcnimjheaaDoorTextTens
namespace Go.Proofs.YtlgbnfcnimjheaaDoor
open Go.RowKit Fl

def blankB (c : UInt8) : Bool := blanksL.contains c
theorem blankB_eq (c : UInt8) : blankB c = (c.toNat == 9 || c.toNat == 10 || c.toNat == 13 || c.toNat == 32) := by
  unfold blankB blanksL
  have e : ∀ d : UInt8, (c == d) = (c.toNat == d.toNat) := by
    intro d
    rw [Bool.eq_iff_iff, beq_iff_eq, beq_iff_eq]
    exact ⟨fun h => by rw [h], fun h => UInt8.toNat_inj.1 h⟩
  simp only [List.contains_cons, List.contains_nil, Bool.or_false, e]
  simp only [Bool.or_assoc]
  rfl

theorem getElem_list (s : ByteArray) (k : Nat) (h : k < s.size) : s.data.toList[k]? = some s[k] := by
  rw [List.getElem?_eq_getElem (by rw [← size_len]; exact h)]
  simp [ByteArray.getElem_eq_getElem_data]

def BlankTo (l : List UInt8) (k : Nat) : Prop := ∀ (j : Nat) b, j < k → l[j]? = some b → blanksL.contains b = true
def BlankFrom (l : List UInt8) (k : Nat) : Prop := ∀ (j : Nat) b, k ≤ j → l[j]? = some b → blanksL.contains b = true
def StopAt (l : List UInt8) (k : Nat) : Prop := ∀ b, l[k]? = some b → blanksL.contains b = false

theorem blankTo_succ (s : ByteArray) (k : Nat) (h : k < s.size) (hb : blankB s[k] = true) (g : BlankTo s.data.toList k) : BlankTo s.data.toList (k + 1) := by
  intro j b hj hjb
  by_cases c : j = k
  · subst c
    rw [getElem_list s j h] at hjb
    injection hjb with hjb
    rw [← hjb]; exact hb
  · exact g j b (by omega) hjb
theorem blankFrom_pred (s : ByteArray) (k : Nat) (h : k < s.size) (hb : blankB s[k] = true) (g : BlankFrom s.data.toList (k + 1)) : BlankFrom s.data.toList k := by
  intro j b hj hjb
  by_cases c : j = k
  · subst c
    rw [getElem_list s j h] at hjb
    injection hjb with hjb
    rw [← hjb]; exact hb
  · exact g j b (by omega) hjb

theorem empty_extract (s : ByteArray) (m : Nat) : ByteArray.empty.data.toList = (s.extract m m).data.toList := by
  rw [Lib.extract_data, Nat.sub_self, List.take_zero]; rfl

/-- where the two looks for blanks end, there the trimmed text stands -/
theorem trim_at (l : List UInt8) (f t : Nat) (hft : f ≤ t) (ht : t ≤ l.length) (h1 : BlankTo l f) (h2 : StopAt l f) (h3 : BlankFrom l t) (h4 : f < t → StopAt l (t - 1)) : (l.drop f).take (t - f) = Lib.trimS l blanksL := by
  unfold Lib.trimS
  rcases Nat.lt_or_eq_of_le hft with c | c
  · rw [Lib.trimRightS_take l blanksL t ht h3 (fun b _ hb => h4 c b hb)]
    rw [Lib.trimLeftS_drop (l.take t) blanksL f (by rw [List.length_take]; omega)
      (fun j b hj hb => h1 j b hj (by rw [List.getElem?_take_of_lt (by omega)] at hb; exact hb))
      (fun b hb => h2 b (by rw [List.getElem?_take_of_lt c] at hb; exact hb))]
    rw [List.drop_take]
  · subst c
    have hall : f = l.length := by
      by_cases d : f < l.length
      · exfalso
        have e := List.getElem?_eq_getElem d
        have a := h2 _ e
        have b := h3 f _ (Nat.le_refl _) e
        rw [a] at b; cases b
      · omega
    rw [Nat.sub_self, List.take_zero]
    have : Lib.trimRightS l blanksL = l.take 0 := Lib.trimRightS_take l blanksL 0 (Nat.zero_le _) (fun j b _ hb => by
      by_cases d : j < f
      · exact h1 j b d hb
      · exact h3 j b (by omega) hb) (fun b hb => by omega)
    rw [this, List.take_zero]
    rfl

end Go.Proofs.YtlgbnfcnimjheaaDoor
