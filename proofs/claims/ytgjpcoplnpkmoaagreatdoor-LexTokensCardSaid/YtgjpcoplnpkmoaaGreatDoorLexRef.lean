/-
  The document's own: what a byte is, past blanks and comments, past a name: walks.
-/
import Derived.Test.YtgjpcoplnpkmoaaGreatDoorLexPass
namespace Go.Proofs.YtgjpcoplnpkmoaaGreatDoor.S
open Go.RowKit Fl

theorem refdigit_any (c : UInt8) (w : World) :
    Calls Tryz.prog 96 #[.int .u8 (c.toNat : Int)] w fun e w' => e = .returned (.bool (isDig c)) ∧ w = w' := by
  have hb : Hid (isDig c = (decide (48 ≤ c.toNat) && decide (c.toNat ≤ 57))) := Lib.hid rfl
  go_enter Tryz.func96, Tryz.ntmps96
  go_wp2
  all_goals (go_ret; refine ⟨ret_bool ?_, rfl⟩; rw [hb.out, Bool.eq_iff_iff]; simp; omega)

theorem reffirst_any (c : UInt8) (w : World) :
    Calls Tryz.prog 85 #[.int .u8 (c.toNat : Int)] w fun e w' => e = .returned (.bool (iniB c)) ∧ w = w' := by
  have hb : Hid (iniB c = ((decide (97 ≤ c.toNat) && decide (c.toNat ≤ 122)) || (decide (65 ≤ c.toNat) && decide (c.toNat ≤ 90)) || c.toNat == 95 || c.toNat == 36)) := Lib.hid rfl
  go_enter Tryz.func85, Tryz.ntmps85
  go_wp2
  all_goals (go_ret; refine ⟨ret_bool ?_, rfl⟩; rw [hb.out, Bool.eq_iff_iff]; simp; omega)

theorem named_any (s : ByteArray) (i : Nat) (w : World) (hs : s.size ≤ 70000) (hi : i ≤ s.size) :
    Calls Tryz.prog 86 #[.string s, .int .i64 (i : Int)] w fun e w' => e = .returned (.int .i64 ((i + runL innB (s.data.toList.drop i) : Nat) : Int)) ∧ w = w' := by
  obtain ⟨N, hN⟩ : ∃ N, i + runL innB (s.data.toList.drop i) = N := ⟨_, rfl⟩
  have HN := Lib.hid hN
  rw [hN]
  clear hN
  go_enter Tryz.func86, Tryz.ntmps86
  go_wp2_with (fail)
  go_loop [1] (fun i => ∃ k : Nat, k ≤ s.size ∧ i = .int .i64 k ∧ Hid (k + runL innB (s.data.toList.drop k) = N)) (fun i => s.size - (intOf i).toNat)
  case atStart => exact ⟨i, hi, rfl, HN⟩
  case round =>
    clear HN
    obtain ⟨k, hk, rfl, H⟩ := hrel
    by_cases hlt : k < s.size
    · have hst := run_step innB s k hlt
      have k1 := fun w => reffirst_any s[k] w
      have k2 := fun w => refdigit_any s[k] w
      by_cases hp : innB s[k] = true
      · rw [if_pos hp] at hst
        have H2 : Hid ((k + 1) + runL innB (s.data.toList.drop (k + 1)) = N) := Lib.hid (by have := H.out; omega)
        unfold innB at hp
        generalize iniB s[k] = x at *
        generalize isDig s[k] = y at *
        clear hst H
        cases x <;> cases y <;> first | (exact absurd hp (by decide)) | skip
        all_goals
          clear hp
          go_wp2_with (first | (go_at_call 85; refine (k1 _).mono ?_; rintro e w1 ⟨rfl, rfl⟩) | (go_at_call 96; refine (k2 _).mono ?_; rintro e w1 ⟨rfl, rfl⟩))
          go_round
          case rel => exact ⟨k + 1, by omega, by go_num, H2⟩
          case measure => simp [intOf]; omega
      · rw [if_neg hp] at hst
        have H2 : Hid (k = N) := Lib.hid (by have := H.out; omega)
        unfold innB at hp
        generalize iniB s[k] = x at *
        generalize isDig s[k] = y at *
        clear hst H
        cases x <;> cases y <;> first | (exact absurd rfl hp) | skip
        clear hp
        go_wp2_with (first | (go_at_call 85; refine (k1 _).mono ?_; rintro e w1 ⟨rfl, rfl⟩) | (go_at_call 96; refine (k2 _).mono ?_; rintro e w1 ⟨rfl, rfl⟩))
        go_ret
        exact ⟨ret_int (by rw [H2.out]), rfl⟩
    · have H2 : Hid (k = N) := Lib.hid (by have := H.out; have := run_over innB s k hlt; omega)
      clear H
      go_wp2
      go_ret
      exact ⟨ret_int (by rw [H2.out]), rfl⟩

theorem byte_nb' {c : UInt8} {n : Nat} {d : UInt8} (hd : d.toNat = n) (h : ¬ c = d) : (((c.toNat : Nat) : Int) == (n : Int)) = false := by rw [beq_eq_false_iff_ne]; exact byte_ne hd h
theorem byte_t {c : UInt8} {n : Nat} {d : UInt8} (hd : d.toNat = n) (h : c = d) : (((c.toNat : Nat) : Int) == (n : Int)) = true := by rw [beq_iff_eq, h, hd]

set_option maxHeartbeats 2000000 in
set_option maxRecDepth 1000000 in
theorem passed_any (s : ByteArray) (i : Nat) (w : World) (hs : s.size ≤ 70000) (hi : i ≤ s.size) :
    Calls Tryz.prog 61 #[.string s, .int .i64 (i : Int)] w (PassTo (passM 0 i i (s.data.toList.drop i)) w) := by
  generalize hR : passM 0 i i (s.data.toList.drop i) = R
  have HR := Lib.hid hR
  clear hR
  go_enter Tryz.func61, Tryz.ntmps61
  go_wp2_with (fail)
  go_loop [1] (fun i => ∃ k st : Nat, k ≤ s.size ∧ i = .int .i64 k ∧ Hid (passM 0 st k (s.data.toList.drop k) = R)) (fun i => s.size - (intOf i).toNat)
  case atStart => exact ⟨i, i, hi, rfl, HR⟩
  case round =>
    clear HR
    obtain ⟨k, st, hk, rfl, H⟩ := hrel
    by_cases hlt : k < s.size
    · by_cases hb : blankB s[k] = true
      · have H2 := Lib.hid ((pass_blank s st k hlt hb).symm.trans H.out)
        rw [blankB_eq] at hb
        have hb4 : ((s[k].toNat : Nat) : Int) = 32 ∨ ((s[k].toNat : Nat) : Int) = 9 ∨ ((s[k].toNat : Nat) : Int) = 10 ∨ ((s[k].toNat : Nat) : Int) = 13 := by simp at hb; omega
        clear H hb
        rcases hb4 with t1 | t1 | t1 | t1
        all_goals
          go_wp2
          go_round
          case rel => exact ⟨k + 1, st, by omega, by go_num, H2⟩
          case measure => simp [intOf]; omega
      · have hbn := hb
        rw [blankB_eq] at hbn
        have n1 : (((s[k].toNat : Nat) : Int) == 32) = false := by simp at hbn ⊢; omega
        have n2 : (((s[k].toNat : Nat) : Int) == 9) = false := by simp at hbn ⊢; omega
        have n3 : (((s[k].toNat : Nat) : Int) == 10) = false := by simp at hbn ⊢; omega
        have n4 : (((s[k].toNat : Nat) : Int) == 13) = false := by simp at hbn ⊢; omega
        clear hbn
        by_cases h47 : s[k] = 47
        · have t47 : ((s[k].toNat : Nat) : Int) = 47 := by rw [h47]; rfl
          clear n1 n2 n3 n4
          by_cases h1 : k + 1 < s.size
          · have w1 : (k : Int) + 1 < (s.size : Int) := by omega
            by_cases hl : s[k + 1] = 47
            · have H47 : Hid (s[k] = 47) := Lib.hid h47
              have t2 : ((s[k + 1].toNat : Nat) : Int) = 47 := by rw [hl]; rfl
              have H2 := Lib.hid ((pass_line s st k h1 h47 hl).symm.trans H.out)
              clear H hb h47 hl
              go_wp2
              clear t2
              go_loop [1] (fun i => ∃ j st : Nat, k ≤ j ∧ j ≤ s.size ∧ i = .int .i64 j ∧ Hid (passM 1 st j (s.data.toList.drop j) = R)) (fun i => s.size - (intOf i).toNat)
              case atStart => exact ⟨k, st, Nat.le_refl _, hk, rfl, H2⟩
              case round =>
                clear H2
                obtain ⟨j, st, hkj, hj, rfl, H⟩ := hrel
                clear t47
                by_cases hlj : j < s.size
                · by_cases h10 : s[j] = 10
                  · have hne : j ≠ k := fun e => by subst e; have := H47.out; rw [h10] at this; exact absurd this (by decide)
                    have H2 := Lib.hid ((pass_line_end s st j hlj h10).symm.trans H.out)
                    have t10 : ((s[j].toNat : Nat) : Int) = 10 := by rw [h10]; rfl
                    clear H h10
                    go_wp2
                    go_round
                    case rel => exact ⟨j, st, by omega, by go_num, H2⟩
                    case measure => simp [intOf]; omega
                  · have H2 := Lib.hid ((pass_line_on s st j hlj h10).symm.trans H.out)
                    have t10 : ¬ ((s[j].toNat : Nat) : Int) = 10 := byte_ne rfl h10
                    clear H h10
                    go_wp2
                    go_round
                    case rel => exact ⟨j + 1, st, by omega, by omega, by go_num, H2⟩
                    case measure => simp [intOf]; omega
                · have H2 : Hid (passM 0 st j (s.data.toList.drop j) = R) := Lib.hid ((pass_over s st j hlj 0 (by omega)).trans ((pass_over s st j hlj 1 (by omega)).symm.trans H.out))
                  clear H
                  go_wp2
                  go_round
                  case rel => exact ⟨j, st, by omega, by go_num, H2⟩
                  case measure => simp [intOf]; omega
            · by_cases hst : s[k + 1] = 42
              · have t2 : ((s[k + 1].toNat : Nat) : Int) = 42 := by rw [hst]; rfl
                have H2 := Lib.hid ((pass_block s st k h1 h47 hst).symm.trans H.out)
                clear H hb h47 hl hst
                go_wp2
                clear t2 t47
                go_loop [6] (fun i => ∃ j : Nat, k + 2 ≤ j ∧ j ≤ s.size ∧ i = .int .i64 (j : Int) ∧ Hid (passM 3 k j (s.data.toList.drop j) = R)) (fun i => s.size - (intOf i).toNat)
                case atStart => exact ⟨k + 2, Nat.le_refl _, by omega, by go_num, H2⟩
                case round =>
                  clear H2
                  obtain ⟨j, hkj, hj, rfl, H⟩ := hrel
                  by_cases hlj : j + 1 < s.size
                  · have w2 : (j : Int) + 1 < (s.size : Int) := by omega
                    by_cases hc : s[j] = 42
                    · have u1 : ((s[j].toNat : Nat) : Int) = 42 := by rw [hc]; rfl
                      by_cases hd : s[j + 1] = 47
                      · have u2 : ((s[j + 1].toNat : Nat) : Int) = 47 := by rw [hd]; rfl
                        have H2 := Lib.hid ((pass_block_close s k j hlj hc hd).symm.trans H.out)
                        have w3 : ¬ (s.size : Int) ≤ (j : Int) + 1 := by omega
                        clear H hc hd
                        go_wp2
                        go_round
                        case rel => exact ⟨j + 2, k, by omega, by go_num, H2⟩
                        case measure => simp [intOf]; omega
                      · have u2 : ¬ ((s[j + 1].toNat : Nat) : Int) = 47 := byte_ne rfl hd
                        have H2 := Lib.hid ((pass_block_on s k j hlj (fun g => hd g.2)).symm.trans H.out)
                        clear H hc hd
                        go_wp2
                        go_round
                        case rel => exact ⟨j + 1, by omega, by omega, by go_num, H2⟩
                        case measure => simp [intOf]; omega
                    · have u1 : ¬ ((s[j].toNat : Nat) : Int) = 42 := byte_ne rfl hc
                      have H2 := Lib.hid ((pass_block_on s k j hlj (fun g => hc g.1)).symm.trans H.out)
                      clear H hc
                      go_wp2
                      go_round
                      case rel => exact ⟨j + 1, by omega, by omega, by go_num, H2⟩
                      case measure => simp [intOf]; omega
                  · have H2 := Lib.hid ((pass_block_over s k j hlj).symm.trans H.out)
                    have w2 : ¬ (j : Int) + 1 < (s.size : Int) := by omega
                    have w3 : (s.size : Int) ≤ (j : Int) + 1 := by omega
                    clear H
                    go_wp2
                    go_ret2
                    exact ret_pass H2
              · have u1 : (((s[k + 1].toNat : Nat) : Int) == 47) = false := byte_nb' rfl hl
                have u2 : (((s[k + 1].toNat : Nat) : Int) == 42) = false := byte_nb' rfl hst
                have H2 := Lib.hid ((pass_other s st k hlt hb (fun g h => hl h.2) (fun g h => hst h.2)).symm.trans H.out)
                clear H hb h47 hl hst
                go_wp2
                go_ret2
                exact ret_pass H2
          · have w1 : ¬ (k : Int) + 1 < (s.size : Int) := by omega
            have H2 := Lib.hid ((pass_other s st k hlt hb (fun g _ => h1 g) (fun g _ => h1 g)).symm.trans H.out)
            clear H hb h47
            go_wp2
            go_ret2
            exact ret_pass H2
        · have t47 : (((s[k].toNat : Nat) : Int) == 47) = false := byte_nb' rfl h47
          have H2 := Lib.hid ((pass_other s st k hlt hb (fun g h => h47 h.1) (fun g h => h47 h.1)).symm.trans H.out)
          clear H hb h47
          go_wp2
          go_ret2
          exact ret_pass H2
    · have H2 := Lib.hid ((pass_over s st k hlt 0 (by omega)).symm.trans H.out)
      clear H
      go_wp2
      go_ret2
      exact ret_pass H2
end Go.Proofs.YtgjpcoplnpkmoaaGreatDoor.S
