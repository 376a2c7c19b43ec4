/-
  What a text begins with: a string, and any token: walks of package lex.
-/
import Derived.Test.YtgjpcoplnpkmoaaGreatDoorLexPiece2
namespace Go.Proofs.YtgjpcoplnpkmoaaGreatDoor.S
open Go.RowKit Fl

theorem plainR_inl (s : ByteArray) : ∀ (f i : Nat) (acc : List UInt8) (j : Nat), plainR s f i acc = .inl j → j < s.size
  | 0, _, _, _, h => by cases h
  | f + 1, i, acc, j, h => by
    rw [plainR] at h
    split at h
    · split at h
      · cases h; assumption
      · exact plainR_inl s f _ _ j h
    · cases h
theorem plainO_at (s : ByteArray) : 0 ≤ (plainO s).2.1 ∧ (plainO s).2.1 ≤ s.size := by
  unfold plainO
  split
  · exact ⟨Int.le_refl _, by simp⟩
  · cases h : plainR s s.size 0 [] with
    | inl j => have := plainR_inl s _ _ _ _ h; unfold outOf; exact ⟨by simp, by simp; omega⟩
    | inr acc => unfold outOf; dsimp only; split <;> exact ⟨Int.le_refl _, by simp⟩

theorem plainO_at2 (s : ByteArray) : 0 ≤ (plainO s).2.1 ∧ (plainO s).2.1 ≤ 65536 := by
  have := plainO_at s
  by_cases h : s.size > 65536
  · unfold plainO; rw [if_pos h]; exact ⟨by decide, by decide⟩
  · exact ⟨this.1, by omega⟩

set_option maxHeartbeats 2000000 in
theorem literal_any (s : ByteArray) (q : UInt8) (h0 : 0 < s.size) (hq : s[0] = q) (hs : s.size ≤ 9223372036854775807) (w : World) : Calls Tryz.prog 94 #[.string s] w (Piece3To (literalL q s.data.toList) w) := by
  have kc := fun w => closing_any s q h0 hq hs w
  have hlt := fun e h => closeL_lt q (s.data.toList.drop 1) false 1 e h
  unfold literalL
  generalize closeL q false 1 (s.data.toList.drop 1) = R at *
  cases R with
  | none =>
    dsimp only
    have kc : ∀ w, Calls Tryz.prog 123 #[.string s] w (fun e w' => e = .returned (.int .i64 (-1)) ∧ w = w') := kc
    clear hlt hq
    have hst := store_f
    go_enter Tryz.func94, Tryz.ntmps94
    go_wp2_with (go_at_call 123; refine (kc _).mono ?_; rintro e w1 ⟨rfl, rfl⟩)
    refine bodyPost_ret (v := .tuple #[tkV 0 0 ⟨#[]⟩ 0, .int .i64 0, .int .i64 0]) (by simp [tkV, results, Tryz.results94, go_sem]) rfl (piece3_ok rfl rfl rfl ?_)
    first | exact zero_alloc _ _ | exact set4 (zero_alloc _ _) (Nat.le_refl _) _ _ _ _
  | some e =>
    dsimp only
    have kc : ∀ w, Calls Tryz.prog 123 #[.string s] w (fun e' w' => e' = .returned (.int .i64 (e : Int)) ∧ w = w') := kc
    obtain ⟨he1, he2⟩ := hlt e rfl
    rw [List.length_drop, ← size_len] at he2
    clear hlt hq
    have hx : mkB ((s.data.toList.drop 1).take (e - 1)) = s.extract 1 e := by rw [mkB_ext]
    rw [hx]
    have kp := fun w => Plain_all (s.extract 1 e) w (by simp; omega)
    have hat := plainO_at2 (s.extract 1 e)
    have hes : (e : Int) < (s.size : Int) := by omega
    generalize plainO (s.extract 1 e) = r at *
    obtain ⟨t, a, k⟩ := r
    dsimp only at hat
    obtain ⟨ha1, ha2⟩ := hat
    have ha3 : a ≤ 70000 := by omega
    clear hx ha2
    by_cases k0 : k = 0
    · subst k0
      have HP : Hid (plainP (t, a, 0) e = .tok 4 t 0 (e + 1)) := Lib.hid rfl
      rw [HP.out]
      clear HP
      have hst := store_f
      go_enter Tryz.func94, Tryz.ntmps94
      go_wp2_with (first | (go_at_call 123; refine (kc _).mono ?_; rintro e w1 ⟨rfl, rfl⟩) | (go_at_call 124; refine (kp _).mono ?_; rintro e w1 ⟨rfl, h1⟩; obtain ⟨hc, hf⟩ := bcell h1; have hz := lt_after h1))
      refine bodyPost_ret (v := .tuple #[tkV 4 0 t 0, .int .i64 (e + 1), .int .i64 0]) (by simp [tkV, hc, results, Tryz.results94, go_sem]) rfl (piece3_ok rfl rfl rfl ?_)
      exact set4 (after_alloc h1) (Nat.le_refl _) _ _ _ _
    · by_cases k5 : k = 5
      · subst k5
        have HP : Hid (plainP (t, a, 5) e = .bad (1 + a)) := Lib.hid rfl
        rw [HP.out]
        clear HP k0
        have hst := store_f
        go_enter Tryz.func94, Tryz.ntmps94
        go_wp2_with (first | (go_at_call 123; refine (kc _).mono ?_; rintro e w1 ⟨rfl, rfl⟩) | (go_at_call 124; refine (kp _).mono ?_; rintro e w1 ⟨rfl, h1⟩; obtain ⟨hc, hf⟩ := bcell h1; have hz := lt_after h1))
        refine bodyPost_ret (v := .tuple #[tkV 0 0 ⟨#[]⟩ 0, .int .i64 0, .int .i64 (1 + a)]) (by simp [tkV, hc, results, Tryz.results94, go_sem]) rfl (piece3_ok rfl rfl rfl ?_)
        first | exact after_alloc h1 | exact set4 (after_alloc h1) (Nat.le_refl _) _ _ _ _
      · have HP : Hid (plainP (t, a, k) e = .bad 0) := Lib.hid (by unfold plainP; rw [if_neg k0, if_neg k5])
        rw [HP.out]
        have k0' : (k == 0) = false := by simpa using k0
        have k5' : (k == 5) = false := by simpa using k5
        clear HP k0 k5
        have hst := store_f
        go_enter Tryz.func94, Tryz.ntmps94
        go_wp2_with (first | (go_at_call 123; refine (kc _).mono ?_; rintro e w1 ⟨rfl, rfl⟩) | (go_at_call 124; refine (kp _).mono ?_; rintro e w1 ⟨rfl, h1⟩; obtain ⟨hc, hf⟩ := bcell h1; have hz := lt_after h1))
        refine bodyPost_ret (v := .tuple #[tkV 0 0 ⟨#[]⟩ 0, .int .i64 0, .int .i64 0]) (by simp [tkV, hc, results, Tryz.results94, go_sem]) rfl (piece3_ok rfl rfl rfl ?_)
        first | exact after_alloc h1 | exact set4 (after_alloc h1) (Nat.le_refl _) _ _ _ _

end Go.Proofs.YtgjpcoplnpkmoaaGreatDoor.S
