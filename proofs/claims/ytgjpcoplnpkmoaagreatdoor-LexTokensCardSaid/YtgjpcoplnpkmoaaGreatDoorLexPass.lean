/-
  Past blanks and comments: walks of package lex.
-/
import Derived.Test.YtgjpcoplnpkmoaaGreatDoorLexBytes
import Derived.Test.YtgjpcoplnpkmoaaGreatDoorStrPQ
import Derived.Outline
namespace Go.Proofs.YtgjpcoplnpkmoaaGreatDoor.S
open Go.RowKit Fl

theorem drop_get (s : ByteArray) (k : Nat) (h : k < s.size) : s.data.toList.drop k = s[k] :: s.data.toList.drop (k + 1) := by
  rw [List.drop_eq_getElem_cons (by rw [← size_len]; exact h)]
  have : s.data.toList[k]'(by rw [← size_len]; exact h) = s[k] := by simp [ByteArray.getElem_eq_getElem_data]
  rw [this]
theorem drop_over (s : ByteArray) (k : Nat) (h : ¬ k < s.size) : s.data.toList.drop k = [] := List.drop_eq_nil_of_le (by rw [← size_len]; omega)
theorem head_at (s : ByteArray) (k : Nat) (d : UInt8) : (s.data.toList.drop k).head? = some d ↔ ∃ h : k < s.size, s[k] = d := by
  by_cases h : k < s.size
  · rw [drop_get s k h]; simp [h]
  · rw [drop_over s k h]; simp [h]
theorem prefix2 (s : ByteArray) (k : Nat) (a b : UInt8) : Lib.hasPrefix (s.extract k s.size).data.toList [a, b] = true ↔ ∃ h : k + 1 < s.size, s[k] = a ∧ s[k + 1] = b := by
  rw [tail_list]
  unfold Lib.hasPrefix
  by_cases h : k < s.size
  · rw [drop_get s k h]
    by_cases h1 : k + 1 < s.size
    · rw [drop_get s (k + 1) h1]
      simp only [List.isPrefixOf, Bool.and_true, Bool.and_eq_true, beq_iff_eq]
      exact ⟨fun g => ⟨h1, g.1.symm, g.2.symm⟩, fun ⟨_, g⟩ => ⟨g.1.symm, g.2.symm⟩⟩
    · rw [drop_over s (k + 1) h1]
      simp only [List.isPrefixOf, Bool.and_false, Bool.false_eq_true, false_iff]
      exact fun ⟨g, _⟩ => h1 g
  · rw [drop_over s k h]
    simp only [List.isPrefixOf, Bool.false_eq_true, false_iff]
    exact fun ⟨g, _⟩ => h (by omega)

section
variable (s : ByteArray) (st k : Nat)
theorem pass_blank (h : k < s.size) (hb : blankB s[k] = true) : passM 0 st k (s.data.toList.drop k) = passM 0 st (k + 1) (s.data.toList.drop (k + 1)) := by
  rw [drop_get s k h, passM_0, if_pos hb]
theorem pass_over (h : ¬ k < s.size) (m : Nat) (hm : m ≤ 1) : passM m st k (s.data.toList.drop k) = (k, true) := by
  rw [drop_over s k h, passM_nil, if_pos hm]
theorem pass_line (h : k + 1 < s.size) (h1 : s[k] = 47) (h2 : s[k + 1] = 47) : passM 0 st k (s.data.toList.drop k) = passM 1 st k (s.data.toList.drop k) := by
  rw [drop_get s k (by omega), passM_0, passM_1]
  rw [h1, if_neg (by decide), if_pos ⟨rfl, (head_at s (k + 1) 47).2 ⟨h, h2⟩⟩, if_neg (by decide)]
theorem pass_line_end (h : k < s.size) (h1 : s[k] = 10) : passM 1 st k (s.data.toList.drop k) = passM 0 st k (s.data.toList.drop k) := by
  rw [drop_get s k h, passM_0, passM_1, h1, if_pos rfl, if_pos (by decide)]
theorem pass_line_on (h : k < s.size) (h1 : ¬ s[k] = 10) : passM 1 st k (s.data.toList.drop k) = passM 1 st (k + 1) (s.data.toList.drop (k + 1)) := by
  rw [drop_get s k h, passM_1, if_neg h1]
theorem pass_block (h : k + 1 < s.size) (h1 : s[k] = 47) (h2 : s[k + 1] = 42) : passM 0 st k (s.data.toList.drop k) = passM 3 k (k + 2) (s.data.toList.drop (k + 2)) := by
  rw [drop_get s k (by omega), passM_0, h1, if_neg (show ¬ blankB 47 = true by decide), if_neg (show ¬ ((47 : UInt8) = 47 ∧ _) by rw [head_at]; rintro ⟨_, _, h3⟩; rw [h2] at h3; exact absurd h3 (by decide)), if_pos ⟨rfl, (head_at s (k + 1) 42).2 ⟨h, h2⟩⟩, drop_get s (k + 1) h, passM_2]
theorem pass_block_on (h : k + 1 < s.size) (h1 : ¬ (s[k] = 42 ∧ s[k + 1] = 47)) : passM 3 st k (s.data.toList.drop k) = passM 3 st (k + 1) (s.data.toList.drop (k + 1)) := by
  rw [drop_get s k (by omega), passM_3, if_neg (by rw [head_at]; rintro ⟨h2, _, h3⟩; exact h1 ⟨h2, h3⟩)]
theorem pass_block_close (h : k + 1 < s.size) (h1 : s[k] = 42) (h2 : s[k + 1] = 47) : passM 3 st k (s.data.toList.drop k) = passM 0 st (k + 2) (s.data.toList.drop (k + 2)) := by
  rw [drop_get s k (by omega), passM_3, if_pos ⟨h1, (head_at s (k + 1) 47).2 ⟨h, h2⟩⟩, drop_get s (k + 1) h, passM_4]
theorem pass_block_over (h : ¬ k + 1 < s.size) : passM 3 st k (s.data.toList.drop k) = (st, false) := by
  by_cases hk : k < s.size
  · rw [drop_get s k hk, drop_over s (k + 1) h, passM_3, if_neg (by rintro ⟨_, h3⟩; cases h3), passM_nil, if_neg (by omega)]
  · rw [drop_over s k hk, passM_nil, if_neg (by omega)]
theorem pass_other (h : k < s.size) (hb : ¬ blankB s[k] = true) (h1 : ∀ g : k + 1 < s.size, ¬ (s[k] = 47 ∧ s[k + 1] = 47)) (h2 : ∀ g : k + 1 < s.size, ¬ (s[k] = 47 ∧ s[k + 1] = 42)) : passM 0 st k (s.data.toList.drop k) = (k, true) := by
  rw [drop_get s k h, passM_0, if_neg hb, if_neg (by rw [head_at]; rintro ⟨h3, h4, h5⟩; exact h1 h4 ⟨h3, h5⟩), if_neg (by rw [head_at]; rintro ⟨h3, h4, h5⟩; exact h2 h4 ⟨h3, h5⟩)]
end

def PassTo (r : Nat × Bool) (w : World) (e : Ending) (w' : World) : Prop := e = .returned (.tuple #[.int .i64 (r.1 : Int), .bool r.2]) ∧ w = w'
theorem ret_pass {r : Nat × Bool} {k : Nat} {b : Bool} {w : World} (h : Hid ((k, b) = r)) : PassTo r w (.returned (.tuple #[.int .i64 (k : Int), .bool b])) w := by rw [← h.out]; exact ⟨rfl, rfl⟩

theorem pre2_yes (s : ByteArray) (k : Nat) (a b : UInt8) (h : k + 1 < s.size) (h1 : s[k] = a) (h2 : s[k + 1] = b) (w : World) :
    Calls Tryz.prog 89 #[.string (s.extract k s.size), .string ⟨#[a, b]⟩] w fun e w' => e = .returned (.bool true) ∧ w = w' :=
  (Tryz.strings_HasPrefix (s.extract k s.size) ⟨#[a, b]⟩ w).mono fun e w' ⟨he, hw⟩ => ⟨by rw [he]; exact ret_bool ((prefix2 s k a b).2 ⟨h, h1, h2⟩), hw.symm⟩
theorem pre2_no (s : ByteArray) (k : Nat) (a b : UInt8) (h : ¬ ∃ h : k + 1 < s.size, s[k] = a ∧ s[k + 1] = b) (w : World) :
    Calls Tryz.prog 89 #[.string (s.extract k s.size), .string ⟨#[a, b]⟩] w fun e w' => e = .returned (.bool false) ∧ w = w' :=
  (Tryz.strings_HasPrefix (s.extract k s.size) ⟨#[a, b]⟩ w).mono fun e w' ⟨he, hw⟩ => ⟨by rw [he]; exact ret_bool (by rw [Bool.eq_false_iff]; exact fun g => h ((prefix2 s k a b).1 g)), hw.symm⟩
theorem byte_ne {c : UInt8} {n : Nat} {d : UInt8} (hd : d.toNat = n) (h : ¬ c = d) : ¬ ((c.toNat : Int) = (n : Int)) := fun g => h (UInt8.toNat_inj.1 (by omega))
theorem two_bytes (s : ByteArray) (j : Nat) (h : j + 1 < s.size) : (s.extract j (j + 2)).data.toList = [s[j], s[j + 1]] := by
  rw [extract_list, drop_get s j (by omega), drop_get s (j + 1) h]
  have : j + 2 - j = 2 := by omega
  rw [this]; rfl

theorem pass_any (s : ByteArray) (i : Nat) (w : World) (hs : s.size ≤ 70000) (hi : i ≤ s.size) :
    Calls Tryz.prog 59 #[.string s, .int .i64 (i : Int)] w (PassTo (passM 0 i i (s.data.toList.drop i)) w) := by
  generalize hR : passM 0 i i (s.data.toList.drop i) = R
  have HR := Lib.hid hR
  clear hR
  go_enter Tryz.func59, Tryz.ntmps59
  go_wp2_with (fail)
  go_step3
  go_wp2_with (fail)
  go_step3
  go_wp2_with (fail)
  go_loop [1] (fun i => ∃ k st : Nat, k ≤ s.size ∧ i = .int .i64 k ∧ Hid (passM 0 st k (s.data.toList.drop k) = R)) (fun i => s.size - (intOf i).toNat)
  case atStart => exact ⟨i, i, hi, rfl, HR⟩
  case round =>
    clear HR
    obtain ⟨k, st, hk, rfl, H⟩ := hrel
    by_cases hlt : k < s.size
    · have kb := fun w => lexblank_any s[k] w
      by_cases hb : blankB s[k] = true
      · have H2 := Lib.hid ((pass_blank s st k hlt hb).symm.trans H.out)
        rw [hb] at kb
        clear H hb
        go_wp2_with (go_at_call 88; refine (kb _).mono ?_; rintro e w1 ⟨rfl, rfl⟩)
        go_round
        case rel => exact ⟨k + 1, st, by omega, by go_num, H2⟩
        case measure => simp [intOf]; omega
      · have hb' : blankB s[k] = false := by simpa using hb
        rw [hb'] at kb
        by_cases hl : ∃ h : k + 1 < s.size, s[k] = 47 ∧ s[k + 1] = 47
        · obtain ⟨h1, h2, h3⟩ := hl
          have kl := fun w => pre2_yes s k 47 47 h1 h2 h3 w
          have h47 : Hid (s[k] = 47) := Lib.hid h2
          have H2 := Lib.hid ((pass_line s st k h1 h2 h3).symm.trans H.out)
          clear H hb hb' h2 h3
          go_wp2_with (first | (go_at_call 88; refine (kb _).mono ?_; rintro e w1 ⟨rfl, rfl⟩) | (go_at_call 89; refine (kl _).mono ?_; rintro e w1 ⟨rfl, rfl⟩))
          clear kb kl
          go_loop [1] (fun i => ∃ j st : Nat, k ≤ j ∧ j ≤ s.size ∧ i = .int .i64 j ∧ Hid (passM 1 st j (s.data.toList.drop j) = R)) (fun i => s.size - (intOf i).toNat)
          case atStart => exact ⟨k, st, Nat.le_refl _, hk, rfl, H2⟩
          case round =>
            clear H2
            obtain ⟨j, st, hkj, hj, rfl, H⟩ := hrel
            by_cases hlj : j < s.size
            · by_cases h10 : s[j] = 10
              · have hne : j ≠ k := fun e => by subst e; have := h47.out; rw [h10] at this; exact absurd this (by decide)
                have H2 := Lib.hid ((pass_line_end s st j hlj h10).symm.trans H.out)
                have t10 : ((s[j].toNat : Nat) : Int) = 10 := by rw [h10]; rfl
                clear H h10
                go_wp2
                go_round
                case rel => exact ⟨j, st, by omega, by go_num, H2⟩
                case measure => simp [intOf]; omega
              · have H2 := Lib.hid ((pass_line_on s st j hlj h10).symm.trans H.out)
                have t10 : ¬ ((s[j].toNat : Nat) : Int) = 10 := byte_ne rfl h10
                clear H h10
                go_wp2
                go_round
                case rel => exact ⟨j + 1, st, by omega, by omega, by go_num, H2⟩
                case measure => simp [intOf]; omega
            · have H2 := Lib.hid ((pass_over s st j hlj 1 (by omega)).symm.trans H.out)
              clear H
              go_wp2
              go_ret2
              exact ret_pass H2
        · have kl := fun w => pre2_no s k 47 47 hl w
          by_cases hs2 : ∃ h : k + 1 < s.size, s[k] = 47 ∧ s[k + 1] = 42
          · obtain ⟨h1, h2, h3⟩ := hs2
            have kl2 := fun w => pre2_yes s k 47 42 h1 h2 h3 w
            have H2 := Lib.hid ((pass_block s st k h1 h2 h3).symm.trans H.out)
            clear H hb hb' h2 h3 hl
            go_wp2_with (first | (go_at_call 88; refine (kb _).mono ?_; rintro e w1 ⟨rfl, rfl⟩) | (go_at_call 89; ((with_reducible refine (kl _).mono ?_); rintro e w1 ⟨rfl, rfl⟩)) | (go_at_call 89; ((with_reducible refine (kl2 _).mono ?_); rintro e w1 ⟨rfl, rfl⟩)))
            clear kb kl kl2
            go_loop [1, 6] (fun a i => ∃ j : Nat, k + 2 ≤ j ∧ j ≤ s.size ∧ a = .int .i64 k ∧ i = .int .i64 ((j : Int) + 2) ∧ Hid (passM 3 k j (s.data.toList.drop j) = R)) (fun _ i => s.size + 2 - (intOf i).toNat)
            case atStart => exact ⟨k + 2, Nat.le_refl _, by omega, rfl, by go_num, H2⟩
            case round =>
              clear H2
              obtain ⟨j, hkj, hj, rfl, rfl, H⟩ := hrel
              by_cases hlj : j + 1 < s.size
              · have h2b := two_bytes s j hlj
                have w1 : (j : Int) + 2 ≤ (s.size : Int) := by omega
                by_cases hc : s[j] = 42 ∧ s[j + 1] = 47
                · have H2 := Lib.hid ((pass_block_close s k j hlj hc.1 hc.2).symm.trans H.out)
                  have t2 : (s.extract j (j + 2)).toList = [42, 47] := by rw [toList_data, h2b, hc.1, hc.2]
                  clear H hc h2b
                  go_wp2
                  go_round
                  case rel => exact ⟨j + 2, k, by omega, by go_num, H2⟩
                  case measure => simp [intOf]; omega
                · have H2 := Lib.hid ((pass_block_on s k j hlj hc).symm.trans H.out)
                  have t2 : ((s.extract j (j + 2)).toList == [42, 47]) = false := by rw [toList_data, h2b]; simpa using hc
                  clear H hc h2b
                  go_wp2
                  go_round
                  case rel => exact ⟨j + 1, by omega, by omega, rfl, by go_num, H2⟩
                  case measure => simp [intOf]; omega
              · have H2 := Lib.hid ((pass_block_over s k j hlj).symm.trans H.out)
                clear H
                go_wp2
                go_ret2
                exact ret_pass H2
          · have kl2 := fun w => pre2_no s k 47 42 hs2 w
            have H2 := Lib.hid ((pass_other s st k hlt hb (fun g h => hl ⟨g, h⟩) (fun g h => hs2 ⟨g, h⟩)).symm.trans H.out)
            clear H hb hb' hl hs2
            go_wp2_with (first | (go_at_call 88; refine (kb _).mono ?_; rintro e w1 ⟨rfl, rfl⟩) | (go_at_call 89; ((with_reducible refine (kl _).mono ?_); rintro e w1 ⟨rfl, rfl⟩)) | (go_at_call 89; ((with_reducible refine (kl2 _).mono ?_); rintro e w1 ⟨rfl, rfl⟩)))
            go_ret2
            exact ret_pass H2
    · have H2 := Lib.hid ((pass_over s st k hlt 0 (by omega)).symm.trans H.out)
      clear H
      go_wp2
      go_ret2
      exact ret_pass H2
end Go.Proofs.YtgjpcoplnpkmoaaGreatDoor.S
