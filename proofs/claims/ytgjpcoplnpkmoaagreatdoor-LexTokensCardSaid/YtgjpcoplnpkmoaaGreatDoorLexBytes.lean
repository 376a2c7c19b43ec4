/-
  What a byte is, how far a run of them goes, what is passed over: walks of package lex.
-/
import Derived.Test.YtgjpcoplnpkmoaaGreatDoorLexMath
import Derived.Test.YtgjpcoplnpkmoaaGreatDoorLexShelf
namespace Go.Proofs.YtgjpcoplnpkmoaaGreatDoor.S
open Go.RowKit Fl

theorem lexblank_any (c : UInt8) (w : World) :
    Calls Tryz.prog 88 #[.int .u8 (c.toNat : Int)] w fun e w' => e = .returned (.bool (blankB c)) ∧ w = w' := by
  have hb := Lib.hid (blankB_eq c)
  have h255 : c.toNat < 256 := c.toNat_lt
  go_enter Tryz.func88, Tryz.ntmps88
  go_wp2
  all_goals (go_ret; refine ⟨ret_bool ?_, rfl⟩; rw [hb.out]; clear hb; simp only [beq_iff_eq, beq_eq_false_iff_ne, ne_eq] at *; rw [Bool.eq_iff_iff]; simp; omega)

theorem lexdigit_any (c : UInt8) (w : World) :
    Calls Tryz.prog 92 #[.int .u8 (c.toNat : Int)] w fun e w' => e = .returned (.bool (isDig c)) ∧ w = w' := by
  have hb : Hid (isDig c = (decide (48 ≤ c.toNat) && decide (c.toNat ≤ 57))) := Lib.hid rfl
  go_enter Tryz.func92, Tryz.ntmps92
  go_wp2
  all_goals (go_ret; refine ⟨ret_bool ?_, rfl⟩; rw [hb.out, Bool.eq_iff_iff]; simp; omega)

theorem lexinitial_any (c : UInt8) (w : World) :
    Calls Tryz.prog 90 #[.int .u8 (c.toNat : Int)] w fun e w' => e = .returned (.bool (iniB c)) ∧ w = w' := by
  have hb : Hid (iniB c = ((decide (97 ≤ c.toNat) && decide (c.toNat ≤ 122)) || (decide (65 ≤ c.toNat) && decide (c.toNat ≤ 90)) || c.toNat == 95 || c.toNat == 36)) := Lib.hid rfl
  go_enter Tryz.func90, Tryz.ntmps90
  go_wp2
  all_goals (go_ret; refine ⟨ret_bool ?_, rfl⟩; rw [hb.out, Bool.eq_iff_iff]; simp; omega)

theorem lexinner_any (c : UInt8) (w : World) :
    Calls Tryz.prog 120 #[.int .u8 (c.toNat : Int)] w fun e w' => e = .returned (.bool (innB c)) ∧ w = w' := by
  have hb : Hid (innB c = (iniB c || isDig c)) := Lib.hid rfl
  have k1 := fun w => lexinitial_any c w
  have k2 := fun w => lexdigit_any c w
  generalize iniB c = x at *
  generalize isDig c = y at *
  cases x <;> cases y
  all_goals
    go_enter Tryz.func120, Tryz.ntmps120
    go_wp2_with (first | (go_at_call 90; refine (k1 _).mono ?_; rintro e w1 ⟨rfl, rfl⟩) | (go_at_call 92; refine (k2 _).mono ?_; rintro e w1 ⟨rfl, rfl⟩))
    go_ret
    exact ⟨ret_bool (by rw [hb.out]; rfl), rfl⟩

theorem run_step (p : UInt8 → Bool) (s : ByteArray) (k : Nat) (h : k < s.size) : runL p (s.data.toList.drop k) = if p s[k] then runL p (s.data.toList.drop (k + 1)) + 1 else 0 := by
  rw [List.drop_eq_getElem_cons (by rw [← size_len]; exact h), runL_cons]
  have : s.data.toList[k]'(by rw [← size_len]; exact h) = s[k] := by simp [ByteArray.getElem_eq_getElem_data]
  rw [this]
theorem run_over (p : UInt8 → Bool) (s : ByteArray) (k : Nat) (h : ¬ k < s.size) : runL p (s.data.toList.drop k) = 0 := by
  rw [List.drop_eq_nil_of_le (by rw [← size_len]; omega)]; rfl

theorem run_inner (s : ByteArray) (w : World) (hs : s.size ≤ maxLen) :
    Calls Tryz.prog 119 #[.string s, .func (.func 120) #[] #[]] w fun e w' => e = .returned (.int .i64 (runL innB s.data.toList : Int)) ∧ w = w' := by
  unfold maxLen at hs
  obtain ⟨N, hN⟩ : ∃ N, runL innB s.data.toList = N := ⟨_, rfl⟩
  have HN := Lib.hid hN
  rw [hN]
  clear hN
  go_enter Tryz.func119, Tryz.ntmps119
  go_wp2_with (fail)
  go_loop [5] (fun i => ∃ k : Nat, k ≤ s.size ∧ i = .int .i64 k ∧ Hid (runL innB (s.data.toList.drop k) + k = N)) (fun i => s.size - (intOf i).toNat)
  case atStart => exact ⟨0, Nat.zero_le _, rfl, Lib.hid (by rw [List.drop_zero]; exact HN.out)⟩
  case round =>
    obtain ⟨k, hk, rfl, H⟩ := hrel
    by_cases hlt : k < s.size
    · have hst := run_step innB s k hlt
      by_cases hp : innB s[k] = true
      · rw [if_pos hp] at hst
        have H2 : Hid (runL innB (s.data.toList.drop (k + 1)) + (k + 1) = N) := Lib.hid (by have := H.out; omega)
        have kc := fun w => lexinner_any s[k] w
        rw [hp] at kc
        clear hst hp H
        go_wp2_with (go_at_call 120; refine (kc _).mono ?_; rintro e w1 ⟨rfl, rfl⟩)
        go_round
        case rel => exact ⟨k + 1, by omega, by go_num, H2⟩
        case measure => simp [intOf]; omega
      · rw [if_neg hp] at hst
        have H2 : Hid (k = N) := Lib.hid (by have := H.out; omega)
        have hp' : innB s[k] = false := by simpa using hp
        have kc := fun w => lexinner_any s[k] w
        rw [hp'] at kc
        clear hst hp H hp'
        go_wp2_with (go_at_call 120; refine (kc _).mono ?_; rintro e w1 ⟨rfl, rfl⟩)
        go_ret
        exact ⟨ret_int (by rw [H2.out]), rfl⟩
    · have H2 : Hid (k = N) := Lib.hid (by have := H.out; have := run_over innB s k hlt; omega)
      clear H
      go_wp2
      go_ret
      exact ⟨ret_int (by rw [H2.out]), rfl⟩
theorem run_digit (s : ByteArray) (w : World) (hs : s.size ≤ maxLen) :
    Calls Tryz.prog 119 #[.string s, .func (.func 92) #[] #[]] w fun e w' => e = .returned (.int .i64 (runL isDig s.data.toList : Int)) ∧ w = w' := by
  unfold maxLen at hs
  obtain ⟨N, hN⟩ : ∃ N, runL isDig s.data.toList = N := ⟨_, rfl⟩
  have HN := Lib.hid hN
  rw [hN]
  clear hN
  go_enter Tryz.func119, Tryz.ntmps119
  go_wp2_with (fail)
  go_loop [5] (fun i => ∃ k : Nat, k ≤ s.size ∧ i = .int .i64 k ∧ Hid (runL isDig (s.data.toList.drop k) + k = N)) (fun i => s.size - (intOf i).toNat)
  case atStart => exact ⟨0, Nat.zero_le _, rfl, Lib.hid (by rw [List.drop_zero]; exact HN.out)⟩
  case round =>
    obtain ⟨k, hk, rfl, H⟩ := hrel
    by_cases hlt : k < s.size
    · have hst := run_step isDig s k hlt
      by_cases hp : isDig s[k] = true
      · rw [if_pos hp] at hst
        have H2 : Hid (runL isDig (s.data.toList.drop (k + 1)) + (k + 1) = N) := Lib.hid (by have := H.out; omega)
        have kc := fun w => lexdigit_any s[k] w
        rw [hp] at kc
        clear hst hp H
        go_wp2_with (go_at_call 92; refine (kc _).mono ?_; rintro e w1 ⟨rfl, rfl⟩)
        go_round
        case rel => exact ⟨k + 1, by omega, by go_num, H2⟩
        case measure => simp [intOf]; omega
      · rw [if_neg hp] at hst
        have H2 : Hid (k = N) := Lib.hid (by have := H.out; omega)
        have hp' : isDig s[k] = false := by simpa using hp
        have kc := fun w => lexdigit_any s[k] w
        rw [hp'] at kc
        clear hst hp H hp'
        go_wp2_with (go_at_call 92; refine (kc _).mono ?_; rintro e w1 ⟨rfl, rfl⟩)
        go_ret
        exact ⟨ret_int (by rw [H2.out]), rfl⟩
    · have H2 : Hid (k = N) := Lib.hid (by have := H.out; have := run_over isDig s k hlt; omega)
      clear H
      go_wp2
      go_ret
      exact ⟨ret_int (by rw [H2.out]), rfl⟩
end Go.Proofs.YtgjpcoplnpkmoaaGreatDoor.S
