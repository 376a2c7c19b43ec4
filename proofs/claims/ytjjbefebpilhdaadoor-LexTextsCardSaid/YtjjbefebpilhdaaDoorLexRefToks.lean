/-
  The document's own token and tokens: walks.
-/
import Derived.Test.YtjjbefebpilhdaaDoorLexRefStr
import Derived.Test.YtjjbefebpilhdaaDoorLexRefSign
import Derived.Test.YtjjbefebpilhdaaDoorLexTokens
namespace Go.Proofs.YtjjbefebpilhdaaDoor.S
open Go.RowKit Fl

theorem reftok_any (s : ByteArray) (i : Nat) (w : World) (hs : s.size ≤ 70000) (hi : i < s.size) :
    Calls Tryd.prog 32 #[.string s, .int .i64 (i : Int)] w (RefTokTo (pieceL (s.data.toList.drop i)) i w) := by
  have hp : pieceL (s.data.toList.drop i) = if iniB s[i] then nameL (s.data.toList.drop i) else if isDig s[i] then numberL (s.data.toList.drop i) else if s[i] = 34 ∨ s[i] = 39 then literalL s[i] (s.data.toList.drop i) else signL (s.data.toList.drop i) := by
    conv => lhs; rw [drop_get s i hi]
    rw [pieceL_cons, ← drop_get s i hi]
  rw [hp]
  by_cases c1 : iniB s[i] = true
  · rw [if_pos c1]; exact reftok_name s i w hs hi c1
  · have c1' : iniB s[i] = false := by simpa using c1
    rw [if_neg c1]
    by_cases c2 : isDig s[i] = true
    · rw [if_pos c2]; exact reftok_num s i w hs hi c1' c2
    · have c2' : isDig s[i] = false := by simpa using c2
      rw [if_neg c2]
      by_cases c3 : s[i] = 34 ∨ s[i] = 39
      · rw [if_pos c3]; exact reftok_str s i w hs hi c1' c2' c3
      · rw [if_neg c3]; exact reftok_sign s i w hs hi c1' c2' c3

set_option maxHeartbeats 2000000 in
theorem refTokens_any (s : ByteArray) (hs : s.size ≤ 70000) (w : World) : Calls Tryd.prog 16 #[.string s] w (TokTo (toks s.data.toList) w) := by
  have hl : s.data.toList.length = s.size := (size_len s).symm
  have b0 := tb_nil w
  unfold toks
  rw [hl]
  by_cases hb : s.size > 65536
  · rw [if_pos hb]
    go_enter Tryd.func16, Tryd.ntmps16
    go_wp2
    go_ret3
    exact ⟨rfl, Below.refl _ _⟩
  · rw [if_neg hb]
    generalize hR : toksF (s.size + 1) 0 s.data.toList [] = R
    have HR := Lib.hid hR
    clear hR hl
    go_enter Tryd.func16, Tryd.ntmps16
    go_wp2_with (fail)
    go_loopw [5, 6] (fun v i wr => ∃ (k f : Nat) (acc : List Tk), i = .int .i64 k ∧ k ≤ s.size ∧ Hid (TB w.heap.size v acc w wr) ∧ Hid (toksF (f + 1) k (s.data.toList.drop k) acc = R) ∧ s.size ≤ k + f ∧ acc.length ≤ k) (fun _ i _ => s.size - (intOf i).toNat)
    case atStart => exact ⟨0, s.size, [], rfl, Nat.zero_le _, Lib.hid b0, HR, by omega, Nat.le_refl _⟩
    case round =>
      obtain ⟨k, f, acc, rfl, hk, h1, H, hf, hal⟩ := hrel
      clear HR b0
      obtain ⟨A, cap, hv⟩ := tb_shape h1.out
      subst hv
      have kp := fun w => passed_any s k w hs hk
      have hle := passM_le (s.data.toList.drop k) 0 k k (Nat.le_refl _)
      have hge := passM_ge (s.data.toList.drop k) 0 k k
      rw [List.length_drop, ← size_len] at hle
      obtain ⟨⟨p, b⟩, hpq⟩ : ∃ x, passM 0 k k (s.data.toList.drop k) = x := ⟨_, rfl⟩
      rw [hpq] at kp hle hge
      dsimp only at hle hge
      have kp : ∀ w, Calls Tryd.prog 31 #[.string s, .int .i64 (k : Int)] w (fun e w' => e = .returned (.tuple #[.int .i64 (p : Int), .bool b]) ∧ w = w') := kp
      cases b with
      | false =>
        have H2 := Lib.hid ((toks_stop hpq).symm.trans H.out)
        clear H hpq hge
        go_wp2_with (go_at_call 31; refine (kp _).mono ?_; rintro e w1 ⟨rfl, rfl⟩)
        go_ret3
        exact tok_err H2 rfl h1.out.2.1
      | true =>
        have hkp := hge rfl
        have hps : p ≤ s.size := by omega
        clear hge hle
        by_cases hend : p = s.size
        · subst hend
          have H2 := Lib.hid ((toks_end hkp hpq (by rw [← size_len]; exact Nat.le_refl _)).symm.trans H.out)
          clear H hpq
          go_wp2_with (first
            | (go_at_call 31; refine (kp _).mono ?_; rintro e w1 ⟨rfl, rfl⟩)
            | (at_builtin; refine tk_app rfl _ _ rfl (h1.out) rfl ⟨0, (s.size : Int), ⟨#[]⟩, 0⟩ _ _ _ _ rfl rfl rfl rfl rfl (by omega) ?_; intro v' w' h3))
          go_ret3
          exact tok_ok H2 rfl h3
        · have hp1 : p < s.size := by omega
          have hpn : ¬ (s.size : Int) ≤ (p : Int) := by omega
          have hL : p < s.data.toList.length := by rw [← size_len]; exact hp1
          have kq := fun w => reftok_any s p w hs hp1
          have hwide := fun kd t n wd h => wide_here (k := kd) (t := t) (n := n) (wd := wd) hp1 h
          cases hr : pieceL (s.data.toList.drop p) with
          | bad j =>
            rw [hr] at kq
            have kq : ∀ w, Calls Tryd.prog 32 #[.string s, .int .i64 (p : Int)] w (fun e w' => e = .returned (.tuple #[.agg #[.int .u8 0, .int .i64 0, .string ⟨#[]⟩, .float .f64 0], .int .i64 ((p : Int) + j), .bool false]) ∧ Below w.heap.size w w') := kq
            have H2 := Lib.hid ((toks_bad hkp hpq hL hr).symm.trans H.out)
            clear H hpq hL hr hwide hend
            have hst := store_f
            go_wp2_with (first
              | (go_at_call 31; refine (kp _).mono ?_; rintro e w1 ⟨rfl, rfl⟩)
              | (go_at_call 32; refine (kq _).mono ?_; rintro e w1 ⟨rfl, hq1⟩; have HQ1 := Lib.hid hq1; clear hq1))
            go_ret3
            exact tok_err H2 rfl (((h1.out.2.1.trans (HQ1.out.mono h1.out.2.2))).alloc (Nat.le_trans h1.out.2.2 HQ1.out.size) _)
          | tok kd t n wd =>
            rw [hr] at kq
            obtain ⟨hw1, hw2⟩ := hwide kd t n wd hr
            have kq : ∀ w, Calls Tryd.prog 32 #[.string s, .int .i64 (p : Int)] w (fun e w' => e = .returned (.tuple #[.agg #[.int .u8 (kd : Int), .int .i64 (p : Int), .string t, .float .f64 n], .int .i64 ((p + wd : Nat) : Int), .bool true]) ∧ Below w.heap.size w w') := kq
            by_cases hm : acc.length = 16384
            · have H2 := Lib.hid ((toks_many hkp hpq hL hr hm).symm.trans H.out)
              have hmi : (acc.length : Int) = 16384 := by omega
              clear H hpq hL hr hwide hend hm
              have hst := store_f
              go_wp2_with (first
                | (go_at_call 31; refine (kp _).mono ?_; rintro e w1 ⟨rfl, rfl⟩)
                | (go_at_call 32; refine (kq _).mono ?_; rintro e w1 ⟨rfl, hq1⟩; have HQ1 := Lib.hid hq1; clear hq1))
              go_ret3
              exact tok_err H2 rfl (((h1.out.2.1.trans (HQ1.out.mono h1.out.2.2))).alloc (Nat.le_trans h1.out.2.2 HQ1.out.size) _)
            · obtain ⟨g, rfl⟩ : ∃ g, f = g + 1 := ⟨f - 1, by omega⟩
              have H2 := Lib.hid ((toks_step hkp hpq hL hr hm).symm.trans H.out)
              have hmi : ¬ (acc.length : Int) = 16384 := by omega
              clear H hpq hL hr hwide hend hm
              have hst := store_f
              go_wp2_with (first
                | (go_at_call 31; refine (kp _).mono ?_; rintro e w1 ⟨rfl, rfl⟩)
                | (go_at_call 32; refine (kq _).mono ?_; rintro e w1 ⟨rfl, hq1⟩; have h2 := Lib.hid (tb_up h1.out hq1); clear hq1)
                | (at_builtin; refine tk_app rfl _ _ rfl (tb_alloc h2.out _) rfl ⟨kd, (p : Int), t, n⟩ _ _ _ _ rfl rfl rfl rfl (by simp [Act.eval]) (by omega) ?_; intro v' w' h3))
              go_roundw
              case rel => exact ⟨p + wd, g, acc ++ [⟨kd, p, t, n⟩], by go_num, by omega, Lib.hid h3, H2, by omega, by simp; omega⟩
              case measure => simp [intOf]; omega
end Go.Proofs.YtjjbefebpilhdaaDoor.S
