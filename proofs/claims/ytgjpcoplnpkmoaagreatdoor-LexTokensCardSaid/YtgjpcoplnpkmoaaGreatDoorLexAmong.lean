/-
  The document's own Word and Sign: walks.
-/
import Derived.Test.YtgjpcoplnpkmoaaGreatDoorLexRef
namespace Go.Proofs.YtgjpcoplnpkmoaaGreatDoor.S
open Go.RowKit Fl

def hitB (all s : List UInt8) (i : Nat) : Bool := all[i]? == some 32 && (all.drop (i + 1)).take s.length == s && all[i + 1 + s.length]? == some 32
def scanB (all s : List UInt8) : Nat → Nat → Bool
  | 0, _ => false
  | f + 1, i => if i + s.length + 2 ≤ all.length then (hitB all s i || scanB all s f (i + 1)) else false
def amongB (all s : List UInt8) : Bool := !s.isEmpty && !s.contains 32 && scanB all s (all.length + 1) 0

theorem scan_hit (all s : List UInt8) : ∀ (f i : Nat), scanB all s f i = true → ∃ j, j + s.length + 2 ≤ all.length ∧ hitB all s j = true
  | 0, _, h => by cases h
  | f + 1, i, h => by
    unfold scanB at h
    split at h
    · rw [Bool.or_eq_true] at h
      rcases h with h | h
      · exact ⟨i, by assumption, h⟩
      · exact scan_hit all s f (i + 1) h
    · cases h
theorem take_while (s r : List UInt8) (h : s.contains 32 = false) : (s ++ 32 :: r).takeWhile (fun c => c != 32) = s := by
  induction s with
  | nil => rfl
  | cons c t ih =>
    rw [List.contains_cons, Bool.or_eq_false_iff] at h
    rw [List.cons_append, List.takeWhile_cons, if_pos (by have := h.1; simp at this ⊢; exact fun e => this e.symm), ih h.2]
theorem hit_word (all s : List UInt8) (j : Nat) (hn : s.contains 32 = false) (_hl : j + s.length + 2 ≤ all.length) (h : hitB all s j = true) :
    all[j]? = some 32 ∧ (all.drop (j + 1)).takeWhile (fun c => c != 32) = s := by
  unfold hitB at h
  rw [Bool.and_eq_true, Bool.and_eq_true] at h
  obtain ⟨⟨h1, h2⟩, h3⟩ := h
  have h1 := eq_of_beq h1
  have h2 := eq_of_beq h2
  have h3 := eq_of_beq h3
  refine ⟨h1, ?_⟩
  have e : all.drop (j + 1) = s ++ all.drop (j + 1 + s.length) := by
    conv => lhs; rw [← List.take_append_drop s.length (all.drop (j + 1)), h2, List.drop_drop]
  have e2 : all.drop (j + 1 + s.length) = 32 :: all.drop (j + 1 + s.length + 1) := by
    rw [List.getElem?_eq_some_iff] at h3
    obtain ⟨h4, h5⟩ := h3
    rw [List.drop_eq_getElem_cons h4, h5]
  rw [e, e2, take_while s _ hn]

set_option maxRecDepth 100000 in
theorem words_all : ∀ i, i < wordsT.length → (wordsT[i]? = some 32 → (wordsT.drop (i + 1)).takeWhile (fun c => c != 32) = [] ∨ (wordsT.drop (i + 1)).takeWhile (fun c => c != 32) ∈ wordsL) := by decide +kernel
set_option maxRecDepth 100000 in
theorem signs_all : ∀ i, i < signsT.length → (signsT[i]? = some 32 → (signsT.drop (i + 1)).takeWhile (fun c => c != 32) = [] ∨ (signsT.drop (i + 1)).takeWhile (fun c => c != 32) ∈ signsL) := by decide +kernel
set_option maxRecDepth 100000 in
theorem words_in : ∀ x ∈ wordsL, amongB wordsT x = true ∧ x.length < 20 := by decide +kernel
set_option maxRecDepth 100000 in
theorem signs_in : ∀ x ∈ signsL, amongB signsT x = true ∧ x.length < 4 := by decide +kernel

theorem among_word (s : List UInt8) : (decide (s.length < 20) && amongB wordsT s) = wordB s := by
  rw [Bool.eq_iff_iff]
  constructor
  · intro h
    rw [Bool.and_eq_true] at h
    have h := h.2
    unfold amongB at h
    rw [Bool.and_eq_true, Bool.and_eq_true] at h
    obtain ⟨⟨h1, h2⟩, h3⟩ := h
    have h2 : s.contains 32 = false := by simpa using h2
    obtain ⟨j, hj, hh⟩ := scan_hit _ _ _ _ h3
    obtain ⟨h4, h5⟩ := hit_word _ _ _ h2 hj hh
    rcases words_all j (by omega) h4 with h6 | h6
    · rw [h5] at h6; subst h6; simp at h1
    · rw [h5] at h6; unfold wordB; simpa using h6
  · intro h
    have hm : s ∈ wordsL := by unfold wordB at h; simpa using h
    obtain ⟨h1, h2⟩ := words_in s hm
    rw [h1, decide_eq_true h2]; rfl
theorem among_sign (s : List UInt8) : (decide (s.length < 4) && amongB signsT s) = signB s := by
  rw [Bool.eq_iff_iff]
  constructor
  · intro h
    rw [Bool.and_eq_true] at h
    have h := h.2
    unfold amongB at h
    rw [Bool.and_eq_true, Bool.and_eq_true] at h
    obtain ⟨⟨h1, h2⟩, h3⟩ := h
    have h2 : s.contains 32 = false := by simpa using h2
    obtain ⟨j, hj, hh⟩ := scan_hit _ _ _ _ h3
    obtain ⟨h4, h5⟩ := hit_word _ _ _ h2 hj hh
    rcases signs_all j (by omega) h4 with h6 | h6
    · rw [h5] at h6; subst h6; simp at h1
    · rw [h5] at h6; unfold signB; simpa using h6
  · intro h
    have hm : s ∈ signsL := by unfold signB at h; simpa using h
    obtain ⟨h1, h2⟩ := signs_in s hm
    rw [h1, decide_eq_true h2]; rfl

theorem list_at (s : ByteArray) (k : Nat) (h : k < s.size) (c : UInt8) : (s.data.toList[k]? == some c) = decide (s[k] = c) := by
  rw [getElem_list s k h, Bool.eq_iff_iff]; simp
theorem hit_eq (a s : ByteArray) (i : Nat) (h : i + s.size + 2 ≤ a.size) : hitB a.data.toList s.data.toList i = (decide (a[i] = 32) && ((a.extract (i + 1) (i + 1 + s.size)).toList == s.toList) && decide (a[i + 1 + s.size] = 32)) := by
  unfold hitB
  rw [list_at a i (by omega), ← size_len, list_at a (i + 1 + s.size) (by omega), toList_data, toList_data, extract_list]
  have : i + 1 + s.size - (i + 1) = s.size := by omega
  rw [this]
theorem contains_at (s : ByteArray) (k : Nat) (h : k < s.size) : (s.data.toList.drop k).contains 32 = (decide (s[k] = 32) || (s.data.toList.drop (k + 1)).contains 32) := by
  rw [drop_get s k h, List.contains_cons]
  congr 1
  rw [Bool.eq_iff_iff, beq_iff_eq, decide_eq_true_eq]
  exact eq_comm

set_option maxHeartbeats 2000000 in
theorem among_any (a s : ByteArray) (w : World) (ha : a.size ≤ 1000) (hs : s.size ≤ 1000) :
    Calls Tryz.prog 117 #[.string a, .string s] w fun e w' => e = .returned (.bool (amongB a.data.toList s.data.toList)) ∧ w = w' := by
  by_cases h0 : s.size = 0
  · have hn : s.data.toList = [] := List.length_eq_zero_iff.1 (by rw [← size_len]; omega)
    have hz : s.toList = [] := (toList_data s).trans hn
    have HA : Hid (amongB a.data.toList s.data.toList = false) := Lib.hid (by rw [hn]; rfl)
    clear hn
    go_enter Tryz.func117, Tryz.ntmps117
    go_wp2
    go_ret
    exact ⟨ret_bool (by rw [HA.out]), rfl⟩
  · have hz : s.toList.isEmpty = false := by rw [toList_data]; cases hl : s.data.toList with | nil => rw [size_len, hl] at h0; exact absurd rfl h0 | cons _ _ => rfl
    have he : (!s.data.toList.isEmpty) = true := by rw [← toList_data, hz]; rfl
    obtain ⟨C, hC⟩ : ∃ C, s.data.toList.contains 32 = C := ⟨_, rfl⟩
    obtain ⟨S, hS⟩ : ∃ S, scanB a.data.toList s.data.toList (a.data.toList.length + 1) 0 = S := ⟨_, rfl⟩
    have HA : Hid (amongB a.data.toList s.data.toList = (!C && S)) := Lib.hid (by unfold amongB; rw [he, hC, hS]; rfl)
    have HC := Lib.hid hC
    have HS := Lib.hid hS
    clear hC hS he h0
    go_enter Tryz.func117, Tryz.ntmps117
    go_wp2_with (fail)
    clear hz
    go_loop [5] (fun i => ∃ k : Nat, k ≤ s.size ∧ i = .int .i64 k ∧ Hid ((s.data.toList.drop k).contains 32 = C)) (fun i => s.size - (intOf i).toNat)
    case atStart => exact ⟨0, Nat.zero_le _, rfl, HC⟩
    case round =>
      clear HC
      obtain ⟨k, hk, rfl, H⟩ := hrel
      by_cases hlt : k < s.size
      · by_cases hc : s[k] = 32
        · have HC2 : Hid (C = true) := Lib.hid (by rw [← H.out, contains_at s k hlt, decide_eq_true hc]; rfl)
          have t1 : ((s[k].toNat : Nat) : Int) = 32 := by rw [hc]; rfl
          clear H hc HS
          go_wp2
          go_ret
          exact ⟨ret_bool (by rw [HA.out, HC2.out]; rfl), rfl⟩
        · have H2 : Hid ((s.data.toList.drop (k + 1)).contains 32 = C) := Lib.hid (by rw [← H.out, contains_at s k hlt, decide_eq_false hc, Bool.false_or])
          have t1 : (((s[k].toNat : Nat) : Int) == 32) = false := byte_nb' rfl hc
          clear H hc HS
          go_wp2
          go_round
          case rel => exact ⟨k + 1, by omega, by go_num, H2⟩
          case measure => simp [intOf]; omega
      · have HC2 : Hid (C = false) := Lib.hid (by rw [← H.out, drop_over s k hlt]; rfl)
        have HA2 : Hid (amongB a.data.toList s.data.toList = S) := Lib.hid (by rw [HA.out, HC2.out]; rfl)
        clear H HC2 HA
        go_wp2_with (fail)
        go_loop [6] (fun i => ∃ j f : Nat, i = .int .i64 j ∧ j ≤ 2000 ∧ Hid (scanB a.data.toList s.data.toList (f + 1) j = S) ∧ a.size ≤ j + f) (fun i => a.size - (intOf i).toNat)
        case atStart => exact ⟨0, a.size, rfl, by omega, Lib.hid (by rw [size_len]; exact HS.out), by omega⟩
        case round =>
          clear HS
          obtain ⟨j, f, rfl, hj, H, hf⟩ := hrel
          by_cases hc : j + s.size + 2 ≤ a.size
          · have hl : j + s.data.toList.length + 2 ≤ a.data.toList.length := by rw [← size_len, ← size_len]; exact hc
            obtain ⟨g, rfl⟩ : ∃ g, f = g + 1 := ⟨f - 1, by omega⟩
            have hst : (hitB a.data.toList s.data.toList j || scanB a.data.toList s.data.toList (g + 1) (j + 1)) = S := by
              rw [← H.out]; conv => rhs; unfold scanB
              rw [if_pos hl]
            rw [hit_eq a s j hc] at hst
            have b1 : (j : Int) + (s.size : Int) + 2 ≤ (a.size : Int) := by omega
            have b2 : (j : Int) < (a.size : Int) := by omega
            have b3 : (j : Int) + 1 + (s.size : Int) < (a.size : Int) := by omega
            clear H hl
            by_cases c1 : a[j] = 32
            · have t1 : ((a[j].toNat : Nat) : Int) = 32 := by rw [c1]; rfl
              rw [decide_eq_true c1, Bool.true_and] at hst
              cases c2 : ((a.extract (j + 1) (j + 1 + s.size)).toList == s.toList) with
              | true =>
                rw [c2, Bool.true_and] at hst
                by_cases c3 : a[j + 1 + s.size] = 32
                · have t3 : ((a[j + 1 + s.size].toNat : Nat) : Int) = 32 := by rw [c3]; rfl
                  rw [decide_eq_true c3, Bool.true_or] at hst
                  have HS2 := Lib.hid hst
                  clear hst c1 c3
                  go_wp2
                  go_ret
                  exact ⟨ret_bool (by rw [HA2.out, ← HS2.out]), rfl⟩
                · have t3 : (((a[j + 1 + s.size].toNat : Nat) : Int) == 32) = false := byte_nb' rfl c3
                  rw [decide_eq_false c3, Bool.false_or] at hst
                  have HS2 := Lib.hid hst
                  clear hst c1 c3
                  go_wp2
                  go_round
                  case rel => exact ⟨j + 1, g, by go_num, by omega, HS2, by omega⟩
                  case measure => simp [intOf]; omega
              | false =>
                rw [c2, Bool.false_and, Bool.false_or] at hst
                have HS2 := Lib.hid hst
                clear hst c1
                go_wp2
                go_round
                case rel => exact ⟨j + 1, g, by go_num, by omega, HS2, by omega⟩
                case measure => simp [intOf]; omega
            · have t1 : (((a[j].toNat : Nat) : Int) == 32) = false := byte_nb' rfl c1
              rw [decide_eq_false c1, Bool.false_and, Bool.false_and, Bool.false_or] at hst
              have HS2 := Lib.hid hst
              clear hst c1
              go_wp2
              go_round
              case rel => exact ⟨j + 1, g, by go_num, by omega, HS2, by omega⟩
              case measure => simp [intOf]; omega
          · have HS2 : Hid (S = false) := Lib.hid (by
              rw [← H.out]; unfold scanB
              rw [if_neg (by rw [← size_len, ← size_len]; exact hc)])
            have b1 : ¬ (j : Int) + (s.size : Int) + 2 ≤ (a.size : Int) := by omega
            clear H
            go_wp2
            go_ret
            exact ⟨ret_bool (by rw [HA2.out, HS2.out]), rfl⟩

theorem refWord_any (s : ByteArray) (w : World) : Calls Tryz.prog 87 #[.string s] w fun e w' => e = .returned (.bool (wordB s.data.toList)) ∧ w = w' := by
  have hw := among_word s.data.toList
  rw [← size_len] at hw
  by_cases h : s.size < 20
  · have k := fun w => among_any (mkB wordsT) s w (by decide +kernel) (by omega)
    rw [mkB_list] at k
    rw [decide_eq_true h, Bool.true_and] at hw
    rw [hw] at k
    clear hw
    go_enter Tryz.func87, Tryz.ntmps87
    go_wp2_with (go_at_call 117; refine (k _).mono ?_; rintro e w1 ⟨rfl, rfl⟩)
    go_ret
    exact ⟨rfl, rfl⟩
  · rw [decide_eq_false h, Bool.false_and] at hw
    have HW := Lib.hid hw
    clear hw
    go_enter Tryz.func87, Tryz.ntmps87
    go_wp2
    go_ret
    exact ⟨ret_bool (by rw [← HW.out]), rfl⟩
theorem refSign_any (s : ByteArray) (w : World) : Calls Tryz.prog 84 #[.string s] w fun e w' => e = .returned (.bool (signB s.data.toList)) ∧ w = w' := by
  have hw := among_sign s.data.toList
  rw [← size_len] at hw
  by_cases h : s.size < 4
  · have k := fun w => among_any (mkB signsT) s w (by decide +kernel) (by omega)
    rw [mkB_list] at k
    rw [decide_eq_true h, Bool.true_and] at hw
    rw [hw] at k
    clear hw
    go_enter Tryz.func84, Tryz.ntmps84
    go_wp2_with (go_at_call 117; refine (k _).mono ?_; rintro e w1 ⟨rfl, rfl⟩)
    go_ret
    exact ⟨rfl, rfl⟩
  · rw [decide_eq_false h, Bool.false_and] at hw
    have HW := Lib.hid hw
    clear hw
    go_enter Tryz.func84, Tryz.ntmps84
    go_wp2
    go_ret
    exact ⟨ret_bool (by rw [← HW.out]), rfl⟩
end Go.Proofs.YtgjpcoplnpkmoaaGreatDoor.S
