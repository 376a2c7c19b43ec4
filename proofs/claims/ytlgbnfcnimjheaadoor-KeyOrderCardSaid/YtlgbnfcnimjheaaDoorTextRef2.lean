/-
  The document's own Read at every text: a walk.
-/
import Derived.Test.YtlgbnfcnimjheaaDoorTextRef
namespace Go.Proofs.YtlgbnfcnimjheaaDoor
open Go.RowKit Fl

def seg (t : ByteArray) (a k : Nat) : List UInt8 := (t.data.toList.take k).drop a
theorem seg_succ (t : ByteArray) (a k : Nat) (h : a ≤ k) (hk : k < t.size) : seg t a (k + 1) = seg t a k ++ [t[k]] := by
  unfold seg
  rw [take_snoc t k hk, List.drop_append_of_le_length]
  rw [List.length_take]
  have := size_len t
  omega
theorem seg_self (t : ByteArray) (a : Nat) : seg t a a = [] := by unfold seg; exact List.drop_eq_nil_of_le (List.length_take_le _ _)
theorem seg_all (t : ByteArray) (a k : Nat) (h : t.size ≤ k) : seg t a k = t.data.toList.drop a := by unfold seg; rw [List.take_of_length_le (by rw [← size_len]; exact h)]
theorem valD_app (x y : List UInt8) : valD x ≤ valD (x ++ y) := by
  unfold valD
  rw [List.foldl_append]
  generalize x.foldl (fun n c => n * 10 + (c.toNat - 48)) 0 = n
  induction y generalizing n with
  | nil => exact Nat.le_refl _
  | cons c r ih => exact Nat.le_trans (by omega) (ih (n * 10 + (c.toNat - 48)))
theorem seg_le (t : ByteArray) (a k : Nat) : valD (seg t a k) ≤ valD (t.data.toList.drop a) := by
  have : t.data.toList.drop a = seg t a k ++ (t.data.toList.drop (max a k)) := by
    unfold seg
    by_cases c : a ≤ k
    · rw [Nat.max_eq_right c, List.drop_take]
      have e : t.data.toList.drop k = (t.data.toList.drop a).drop (k - a) := by rw [List.drop_drop]; congr 1; omega
      rw [e, List.take_append_drop]
    · have e1 : (t.data.toList.take k).drop a = [] := List.drop_eq_nil_of_le (by rw [List.length_take]; omega)
      rw [Nat.max_eq_left (by omega), e1]; rfl
  rw [this]; exact valD_app _ _
theorem drop_dig (t : ByteArray) (a k : Nat) (h : a ≤ k) (hk : k < t.size) (hd : isDig t[k] = false) : (t.data.toList.drop a).all isDig = false := by
  rw [List.all_eq_false]
  refine ⟨t[k], ?_, by simp [hd]⟩
  rw [List.mem_iff_getElem?]
  exact ⟨k - a, by rw [List.getElem?_drop, show a + (k - a) = k by omega]; exact getElem_list t k hk⟩
theorem drop_dig_at (t : ByteArray) (a k : Nat) (h : a ≤ k) (hk : k < t.size) (hd : (t.data.toList.drop a).all isDig = true) : isDig t[k] = true := by
  cases c : isDig t[k]
  · rw [drop_dig t a k h hk c] at hd; cases hd
  · rfl

theorem below_draw2 {w W : World} (h : Below w.heap.size w W) (n : Nat) : Below w.heap.size w (W.drewN n) := ⟨h.os, h.tape, h.output, h.size, h.block⟩
theorem digR_nan (neg : Bool) {l : List UInt8} (h : l = [] ∨ l.all isDig = false) : digR neg l = .nan := by unfold digR; rw [if_pos h]
theorem digR_big (neg : Bool) {l : List UInt8} (h1 : l ≠ []) (h2 : l.all isDig = true) (h3 : 9007199254740991 < valD l) : digR neg l = .err 10 := by
  unfold digR; rw [if_neg (by rintro (h | h); exact h1 h; rw [h2] at h; cases h), if_pos h3]
theorem digR_zero {l : List UInt8} (h1 : l ≠ []) (h2 : l.all isDig = true) (h3 : valD l = 0) : digR true l = .err 10 := by
  unfold digR; rw [if_neg (by rintro (h | h); exact h1 h; rw [h2] at h; cases h), if_neg (by omega), if_pos ⟨rfl, h3⟩]
theorem digR_ok (neg : Bool) {l : List UInt8} (h1 : l ≠ []) (h2 : l.all isDig = true) (h3 : valD l ≤ 9007199254740991) (h4 : neg = true → valD l ≠ 0) : digR neg l = .ok (if neg then -(valD l : Int) else (valD l : Int)) := by
  unfold digR; rw [if_neg (by rintro (h | h); exact h1 h; rw [h2] at h; cases h), if_neg (by omega), if_neg (by rintro ⟨a, b⟩; exact h4 a b)]


end Go.Proofs.YtlgbnfcnimjheaaDoor
