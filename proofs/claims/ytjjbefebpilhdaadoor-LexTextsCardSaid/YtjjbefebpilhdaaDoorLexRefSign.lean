/-
  The document's own token of a sign: walks.
-/
import Derived.Test.YtjjbefebpilhdaaDoorLexRefNum
namespace Go.Proofs.YtjjbefebpilhdaaDoor.S
open Go.RowKit Fl

theorem signN_at (l : List UInt8) (j : Nat) (h1 : 1 ≤ j) (h3 : j ≤ 3) (ha : ∀ k, j < k → k ≤ 3 → ¬ (k ≤ l.length ∧ signB (l.take k) = true)) (hh : j ≤ l.length ∧ signB (l.take j) = true) : signN l = j := by
  unfold signN
  rcases (by omega : j = 1 ∨ j = 2 ∨ j = 3) with rfl | rfl | rfl
  · rw [if_neg (ha 3 (by omega) (by omega)), if_neg (ha 2 (by omega) (by omega)), if_pos hh]
  · rw [if_neg (ha 3 (by omega) (by omega)), if_pos hh]
  · rw [if_pos hh]
theorem signN_no (l : List UInt8) (ha : ∀ k, 0 < k → k ≤ 3 → ¬ (k ≤ l.length ∧ signB (l.take k) = true)) : signN l = 0 := by
  unfold signN
  rw [if_neg (ha 3 (by omega) (by omega)), if_neg (ha 2 (by omega) (by omega)), if_neg (ha 1 (by omega) (by omega))]

set_option maxHeartbeats 4000000 in
set_option maxRecDepth 1000000 in
theorem reftok_sign (s : ByteArray) (i : Nat) (w : World) (hs : s.size ≤ 70000) (hi : i < s.size) (hn : iniB s[i] = false) (hd : isDig s[i] = false) (hq : ¬ (s[i] = 34 ∨ s[i] = 39)) :
    Calls Tryd.prog 32 #[.string s, .int .i64 (i : Int)] w (RefTokTo (signL (s.data.toList.drop i)) i w) := by
  have k1 := fun w => reffirst_any s[i] w
  rw [hn] at k1
  have k2 := fun w => refdigit_any s[i] w
  rw [hd] at k2
  have hlen : (s.data.toList.drop i).length = s.size - i := by rw [List.length_drop, ← size_len]
  obtain ⟨R, hR⟩ : ∃ R, signL (s.data.toList.drop i) = R := ⟨_, rfl⟩
  rw [hR]
  have HR := Lib.hid hR
  have HL := Lib.hid hlen
  have t1 : (((s[i].toNat : Nat) : Int) == 34) = false := byte_nb' rfl fun g => hq (Or.inl g)
  have t2 : (((s[i].toNat : Nat) : Int) == 39) = false := byte_nb' rfl fun g => hq (Or.inr g)
  clear hR hn hd hq hlen
  have hst := store_f
  have ks := fun (j : Nat) w => refSign_any (s.extract i (i + j)) w
  go_enter Tryd.func32, Tryd.ntmps32
  go_wp2_with (first
    | (go_at_call 46; ((with_reducible refine (k1 _).mono ?_); rintro e w1 ⟨rfl, rfl⟩))
    | (go_at_call 48; ((with_reducible refine (k2 _).mono ?_); rintro e w1 ⟨rfl, rfl⟩)))
  clear t1 t2 k1 k2
  go_loop [17] (fun v => ∃ j : Nat, j ≤ 3 ∧ v = .int .i64 j ∧ Hid (∀ k, j < k → k ≤ 3 → ¬ (k ≤ (s.data.toList.drop i).length ∧ signB ((s.data.toList.drop i).take k) = true))) (fun v => (intOf v).toNat)
  case atStart => exact ⟨3, Nat.le_refl _, by go_num, Lib.hid (fun k h1 h2 => by omega)⟩
  case round =>
    obtain ⟨j, hj, rfl, H⟩ := hrel
    by_cases h0 : j = 0
    · subst h0
      have HR2 : Hid (R = .bad 0) := Lib.hid (by rw [← HR.out]; unfold signL; rw [signN_no _ H.out, if_pos rfl])
      clear H HR ks
      go_wp2
      refine ref_end (a := 0) (p := 0) (b := ⟨#[]⟩) (c := 0) (x := (i : Int)) (y := false) rfl rfl rfl (two_blk _ _ _) (ref_ok (r := R) (by rw [HR2.out]; rfl) (by rw [HR2.out]; simp [prN]) (by rw [HR2.out]; rfl) (two_below _ _ _))
    · have hjp : (0 : Int) < (j : Int) := by omega
      have kj := fun w => ks j w
      rw [ext_take, mkB_list, ← ext_take] at kj
      by_cases hfit : i + j ≤ s.size
      · have g1 : (i : Int) + (j : Int) ≤ (s.size : Int) := by omega
        cases hb : signB ((s.data.toList.drop i).take j) with
        | true =>
          have HR2 : Hid (R = .tok 5 (s.extract i (i + j)) 0 j) := Lib.hid (by
            rw [← HR.out]; unfold signL
            rw [signN_at _ j (by omega) hj H.out ⟨by rw [HL.out]; omega, hb⟩, if_neg h0, ext_take])
          rw [hb] at kj
          clear H HR HL ks hb h0
          go_wp2_with (go_at_call 19; ((with_reducible refine (kj _).mono ?_); rintro e w1 ⟨rfl, rfl⟩))
          refine ref_end (a := 5) (p := (i : Int)) (b := s.extract i (i + j)) (c := 0) (x := (i : Int) + (j : Int)) (y := true) rfl rfl rfl (two_blk _ _ _) (ref_ok (r := R) (by rw [HR2.out]; rfl) (by rw [HR2.out]; simp [prN]) (by rw [HR2.out]; rfl) (two_below _ _ _))
        | false =>
          obtain ⟨m, rfl⟩ : ∃ m, j = m + 1 := ⟨j - 1, by omega⟩
          have H2 : Hid (∀ k, m < k → k ≤ 3 → ¬ (k ≤ (s.data.toList.drop i).length ∧ signB ((s.data.toList.drop i).take k) = true)) := Lib.hid (fun k h1 h2 => by
            by_cases e : k = m + 1
            · subst e; rintro ⟨_, g⟩; rw [hb] at g; cases g
            · exact H.out k (by omega) h2)
          rw [hb] at kj
          clear H HL ks hb h0
          go_wp2_with (go_at_call 19; ((with_reducible refine (kj _).mono ?_); rintro e w1 ⟨rfl, rfl⟩))
          go_round
          case rel => exact ⟨m, by omega, by go_num, H2⟩
          case measure => simp [intOf]
      · have g1 : ¬ (i : Int) + (j : Int) ≤ (s.size : Int) := by omega
        obtain ⟨m, rfl⟩ : ∃ m, j = m + 1 := ⟨j - 1, by omega⟩
        have H2 : Hid (∀ k, m < k → k ≤ 3 → ¬ (k ≤ (s.data.toList.drop i).length ∧ signB ((s.data.toList.drop i).take k) = true)) := Lib.hid (fun k h1 h2 => by
          by_cases e : k = m + 1
          · subst e; rintro ⟨g, _⟩; rw [HL.out] at g; omega
          · exact H.out k (by omega) h2)
        clear H HL ks h0 kj
        go_wp2
        go_round
        case rel => exact ⟨m, by omega, by go_num, H2⟩
        case measure => simp [intOf]
end Go.Proofs.YtjjbefebpilhdaaDoor.S
