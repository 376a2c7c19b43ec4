/-
  The builder in the words of lists of bytes; a string laid anew: walks.
-/
import Derived.Test.YtlgbnfcnimjheaaDoorChecked
import Derived.Test.YtlgbnfcnimjheaaDoorStrShelf
import Derived.Test.YtlgbnfcnimjheaaDoorStrLay
import Derived.WalkKit
import Derived.WalkSpells
import Derived.WalkLawsBesides
import Derived.BigCall
import Derived.Lib.Hide
namespace Go.Proofs.YtlgbnfcnimjheaaDoor.S
open Go.RowKit

theorem ret_bool {a b : Bool} (h : a = b) : Ending.returned (.bool a) = .returned (.bool b) := by rw [h]
theorem ret_int {k : IntKind} {a b : Int} (h : a = b) : Ending.returned (.int k a) = .returned (.int k b) := by rw [h]
theorem ret_str {a b : ByteArray} (h : a = b) : Ending.returned (.string a) = .returned (.string b) := by rw [h]

theorem size_len (t : ByteArray) : t.size = t.data.toList.length := by simp
theorem toList_data (s : ByteArray) : s.toList = s.data.toList := Go.ByteArray.toList_eq s
theorem mk_list (l : List UInt8) : (⟨l.toArray⟩ : ByteArray).data.toList = l := rfl
theorem mk_size (l : List UInt8) : (⟨l.toArray⟩ : ByteArray).size = l.length := by simp [ByteArray.size]
theorem str_ext {a b : ByteArray} (h : a.data.toList = b.data.toList) : a = b := by
  cases a with | mk a => cases b with | mk b => exact congrArg ByteArray.mk (Array.toList_inj.1 h)
theorem mk_of (s : ByteArray) : (⟨s.data.toList.toArray⟩ : ByteArray) = s := str_ext rfl
theorem getElem_list (s : ByteArray) (k : Nat) (h : k < s.size) : s.data.toList[k]? = some s[k] := by
  rw [List.getElem?_eq_getElem (by rw [← size_len]; exact h)]
  simp [ByteArray.getElem_eq_getElem_data]

/-- a fresh builder in block b -/
def FB (B b : Nat) (w0 w : World) : Prop := B ≤ b ∧ w.heap[b]? = some (.cells #[.pointer none, .slice none 0 0] 86 (0, 0)) ∧ Below B w0 w ∧ B ≤ w.heap.size
/-- a builder in block b that holds the bytes l -/
def BB (B b : Nat) (l : List UInt8) (w0 w : World) : Prop := Lib.IsBuilder 86 5 B b (Lib.byteCells l) w ∧ Below B w0 w ∧ B ≤ w.heap.size

theorem fb_alloc (w : World) : FB w.heap.size w.heap.size w (w.alloc (.cells #[.pointer none, .slice none 0 0] 86)) :=
  ⟨Nat.le_refl _, heap_alloc_new w _, (Below.refl _ w).alloc (Nat.le_refl _) _, (((Below.refl _ w).alloc (Nat.le_refl _) (.cells #[.pointer none, .slice none 0 0] 86))).size⟩
theorem FB.drew {B b : Nat} {w0 w : World} (h : FB B b w0 w) : FB B b w0 w.drew := ⟨h.1, h.2.1, h.2.2.1.drew, h.2.2.2⟩
theorem BB.drew {B b : Nat} {l : List UInt8} {w0 w : World} (h : BB B b l w0 w) : BB B b l w0 w.drew := ⟨h.1.imp Lib.BuilderAt.drew Lib.BuilderAt.drew, h.2.1.drew, h.2.2⟩
theorem bb_alloc (w : World) : BB w.heap.size w.heap.size [] w (w.alloc (.cells #[.pointer none, .slice none 0 0] 86)) :=
  ⟨Lib.fresh_isBuilder _ _ w, (Below.refl _ w).alloc (Nat.le_refl _) _, ((Below.refl _ w).alloc (Nat.le_refl _) (.cells #[.pointer none, .slice none 0 0] 86)).size⟩

theorem wb_grow {B b : Nat} (n : Int) {w0 w : World} (h : FB B b w0 w) (h0 : 0 ≤ n) (hn : n ≤ 281474976710656) :
    Calls Tryd.prog 53 #[.pointer (some ⟨b, 0, none⟩), .int .i64 n] w fun e w' => e = .returned (.tuple #[]) ∧ BB B b [] w0 w' := by
  obtain ⟨k, rfl⟩ := Int.eq_ofNat_of_zero_le h0
  refine (Tryd.Builder_Grow_fresh B b k w h.1 h.2.1 h.2.2.2 (by omega)).mono fun e w' ⟨he, hb, hw⟩ => ⟨he, Or.inr hb, h.2.2.1.trans hw, Nat.le_trans h.2.2.2 hw.size⟩
theorem wb_byte {B b : Nat} {l : List UInt8} (c : UInt8) {w0 w : World} (h : BB B b l w0 w) (hl : l.length + 1 ≤ 140737488355328) :
    Calls Tryd.prog 77 #[.pointer (some ⟨b, 0, none⟩), .int .u8 (c.toNat : Int)] w fun e w' => e = .returned .nilIface ∧ BB B b (l ++ [c]) w0 w' := by
  refine (Tryd.Builder_WriteByte B b _ c.toNat w h.1 (by rw [Lib.byteCells_length]; exact hl) h.2.2).mono fun e w' ⟨he, hb, hw⟩ => ⟨he, Or.inr (by rw [Lib.byteCells_append]; exact hb), h.2.1.trans hw, Nat.le_trans h.2.2 hw.size⟩
theorem wb_str {B b : Nat} {l : List UInt8} (s : ByteArray) {w0 w : World} (h : BB B b l w0 w) (hl : l.length + s.size ≤ 140737488355328) :
    Calls Tryd.prog 54 #[.pointer (some ⟨b, 0, none⟩), .string s] w fun e w' => e = .returned (.tuple #[.int .i64 s.size, .nilIface]) ∧ BB B b (l ++ s.data.toList) w0 w' := by
  refine (Tryd.Builder_WriteString B b _ s w h.1 (by rw [Lib.byteCells_length]; exact hl) h.2.2).mono fun e w' ⟨he, hb, hw⟩ => ⟨he, Or.inr (by rw [Lib.byteCells_append, ← Lib.strCells_eq]; exact hb), h.2.1.trans hw, Nat.le_trans h.2.2 hw.size⟩
theorem wb_string {B b : Nat} {l : List UInt8} {w0 w : World} (h : BB B b l w0 w) :
    Calls Tryd.prog 55 #[.pointer (some ⟨b, 0, none⟩)] w fun e w' => e = .returned (.string ⟨l.toArray⟩) ∧ Below B w0 w' :=
  (Tryd.Builder_String_any B b l w h.1 h.2.2).mono fun _ _ ⟨he, hw⟩ => ⟨he, h.2.1.trans hw⟩
/-- the answer is a string -/
def StrTo (t : ByteArray) (w : World) (e : Ending) (w' : World) : Prop := e = .returned (.string t) ∧ Below w.heap.size w w'
/-- the answer is a string and a number -/
def StrIntTo (t : ByteArray) (k : Int) (w : World) (e : Ending) (w' : World) : Prop := e = .returned (.tuple #[.string t, .int .i64 k]) ∧ Below w.heap.size w w'

theorem int_wf {n : Int} (h : (Lit.int .i64 n).wf = true) : -9223372036854775808 ≤ n ∧ n ≤ 9223372036854775807 := by
  have h2 : (decide (IntKind.i64.min ≤ n) && decide (n ≤ IntKind.i64.max)) = true := h
  rw [show IntKind.i64.min = -9223372036854775808 by decide, show IntKind.i64.max = 9223372036854775807 by decide] at h2
  simpa using h2
end Go.Proofs.YtlgbnfcnimjheaaDoor.S
