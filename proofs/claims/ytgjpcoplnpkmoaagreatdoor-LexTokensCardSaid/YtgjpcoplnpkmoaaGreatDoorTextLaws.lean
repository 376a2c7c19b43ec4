/-
  NumTexts and NumAgain: texts and what they are worth, beside the document's own, and back: walks.
-/
import Derived.Test.YtgjpcoplnpkmoaaGreatDoorTextRef2
import Derived.Test.YtgjpcoplnpkmoaaGreatDoorNumBits
namespace Go.Proofs.YtgjpcoplnpkmoaaGreatDoor
open Go.RowKit Fl

theorem bytes_ext {a b : ByteArray} (h : a.data.toList = b.data.toList) : a = b := Go.WideShapes.bytes_inj h

theorem refRead_empty (s t : ByteArray) (w : World) (hB : ∀ w, Calls Tryz.prog 126 #[.string s] w fun e w' => e = .returned (.string t) ∧ Below w.heap.size w w') (hz : t.toList = []) :
    Calls Tryz.prog 97 #[.string s] w (RetRead (.ok 0) w) := by
  go_enter Tryz.func97, Tryz.ntmps97
  go_wp2_with (go_at_call 126; refine (hB _).mono ?_; rintro e w1 ⟨rfl, hb1⟩; have HB1 := Lib.hid hb1; clear hb1)
  go_ret2
  exact ⟨0, 0, ⟨⟨F_zero.symm, by unfold SafeN; omega⟩, rfl⟩, rfl, HB1.out⟩

theorem refRead_sign (s t : ByteArray) (w : World) (hB : ∀ w, Calls Tryz.prog 126 #[.string s] w fun e w' => e = .returned (.string t) ∧ Below w.heap.size w w') (hz : t.toList.isEmpty = false) (h0 : 0 < t.size) (hc : (t[0].toNat : Int) = 45 ∨ (t[0].toNat : Int) = 43) (h1 : t.size = 1) :
    Calls Tryz.prog 97 #[.string s] w (RetRead .nan w) := by
  have hsz : (t.size : Int) = 1 := by omega
  rcases hc with hc | hc
  all_goals
    clear h1
    go_enter Tryz.func97, Tryz.ntmps97
    go_wp2_with (first | (go_at_call 126; refine (hB _).mono ?_; rintro e w1 ⟨rfl, hb1⟩; have HB1 := Lib.hid hb1; clear hb1) | (go_at_call 127; refine (refNaN_any _).mono ?_; rintro e w' ⟨v, n, hv, rfl, rfl⟩))
    go_ret2
    exact ⟨v, 0, ⟨hv, rfl⟩, rfl, below_draw2 HB1.out _⟩

theorem refRead_any (s : ByteArray) (w : World) (hs : s.size ≤ maxLen) : Calls Tryz.prog 97 #[.string s] w (RetRead (readR s.data.toList) w) := by
  unfold readR
  have hlen := trim_length s.data.toList blanksL
  rw [← size_len] at hlen
  obtain ⟨l, hl⟩ : ∃ l, Lib.trimS s.data.toList blanksL = l := ⟨_, rfl⟩
  obtain ⟨t, ht⟩ : ∃ t : ByteArray, t.data.toList = l := ⟨⟨l.toArray⟩, by simp⟩
  have hB : ∀ w, Calls Tryz.prog 126 #[.string s] w fun e w' => e = .returned (.string t) ∧ Below w.heap.size w w' := by
    intro w
    refine (Bare_any s w hs).mono fun e w' ⟨u, h1, h2, h3⟩ => ⟨?_, h3⟩
    rw [h2, bytes_ext (h1.trans (hl.trans ht.symm))]
  rw [hl] at hlen ⊢
  have hts : t.size = l.length := by rw [size_len, ht]
  clear hl
  cases l with
  | nil => exact refRead_empty s t w hB (by rw [toList_data, ht])
  | cons c r =>
    have hz : t.toList.isEmpty = false := by rw [toList_data, ht]; rfl
    rw [List.length_cons] at hts hlen
    have h0 : 0 < t.size := by omega
    have htm : t.size ≤ maxLen := by omega
    have hc : t[0] = c := by
      have := getElem_list t 0 h0
      rw [ht] at this
      injection this with this
      exact this.symm
    have hd1 : t.data.toList.drop 1 = r := by rw [ht]; rfl
    have hd0 : t.data.toList.drop 0 = c :: r := by rw [ht]; rfl
    rw [bareR_cons]
    by_cases c1 : c = 45
    · rw [if_pos c1]
      have h45 : (t[0].toNat : Int) = 45 := by rw [hc, c1]; rfl
      by_cases hr : r = []
      · rw [digR_nan true (Or.inl hr)]
        exact refRead_sign s t w hB hz h0 (Or.inl h45) (by rw [hts, hr]; rfl)
      · exact refRead_minus s t r hd1 w hB htm h0 hz h45 (by have : r.length ≠ 0 := fun e => hr (List.length_eq_zero_iff.1 e); omega)
    · rw [if_neg c1]
      by_cases c2 : c = 43
      · rw [if_pos c2]
        have h43 : (t[0].toNat : Int) = 43 := by rw [hc, c2]; rfl
        by_cases hr : r = []
        · rw [digR_nan false (Or.inl hr)]
          exact refRead_sign s t w hB hz h0 (Or.inr h43) (by rw [hts, hr]; rfl)
        · exact refRead_plus s t r hd1 w hB htm h0 hz h43 (by have : r.length ≠ 0 := fun e => hr (List.length_eq_zero_iff.1 e); omega)
      · rw [if_neg c2]
        have n1 : c.toNat ≠ 45 := fun h => c1 (UInt8.toNat_inj.1 h)
        have n2 : c.toNat ≠ 43 := fun h => c2 (UInt8.toNat_inj.1 h)
        exact refRead_bare s t (c :: r) hd0 w hB htm h0 hz (by rw [hc]; simp; omega) (by rw [hc]; simp; omega)

def TabHere (w : World) : Prop := Lib.TabBelow Tryz.prog w.heap.size w "internal/strconv.uint64pow10" .u64 Lib.pow10Tab

theorem below_size {w a b : World} (h1 : Below w.heap.size w a) (h2 : Below a.heap.size a b) : Below w.heap.size w b := h1.trans (h2.mono h1.size)

end Go.Proofs.YtgjpcoplnpkmoaaGreatDoor
