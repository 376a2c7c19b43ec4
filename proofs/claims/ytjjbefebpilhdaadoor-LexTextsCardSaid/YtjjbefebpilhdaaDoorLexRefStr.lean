/-
  The document's own token of a string, of a sign, of anything: walks.
-/
import Derived.Test.YtjjbefebpilhdaaDoorLexRefNum
import Derived.Test.YtjjbefebpilhdaaDoorLexPiece3
namespace Go.Proofs.YtjjbefebpilhdaaDoor.S
open Go.RowKit Fl

theorem closeL_shift (q : UInt8) (i : Nat) : ∀ (l : List UInt8) (t : Bool) (k : Nat), closeL q t (k + i) l = (closeL q t k l).map (· + i)
  | [], _, _ => rfl
  | c :: r, t, k => by
    have e : k + i + 1 = (k + 1) + i := by omega
    unfold closeL
    rw [e, closeL_shift q i r, closeL_shift q i r]
    split
    · rfl
    · split
      · rfl
      · split
        · rfl
        · split <;> rfl
def litAbs (s : ByteArray) (i : Nat) : Option Nat → PR
  | none => .bad 0
  | some k => plainP (plainO (s.extract (i + 1) k)) (k - i)
theorem literal_abs (s : ByteArray) (i : Nat) (q : UInt8) : literalL q (s.data.toList.drop i) = litAbs s i (closeL q false (i + 1) (s.data.toList.drop (i + 1))) := by
  have hd : (s.data.toList.drop i).drop 1 = s.data.toList.drop (i + 1) := by rw [List.drop_drop]
  have hs := closeL_shift q i (s.data.toList.drop (i + 1)) false 1
  rw [Nat.add_comm 1 i] at hs
  rw [hs]
  unfold literalL
  rw [hd]
  cases closeL q false 1 (s.data.toList.drop (i + 1)) with
  | none => rfl
  | some e =>
    show plainP _ e = plainP (plainO (s.extract (i + 1) (e + i))) (e + i - i)
    have e1 : e + i - i = e := by omega
    have e2 : e + i - (i + 1) = e - 1 := by omega
    rw [e1, mkB_ext, e2]
theorem close_back2 (s : ByteArray) (q : UInt8) (k : Nat) (h : k < s.size) (hn : ¬ (s[k] = 10 ∨ s[k] = 13)) (hb : s[k] = 92) (h1 : k + 1 < s.size) (hn1 : ¬ (s[k + 1] = 10 ∨ s[k + 1] = 13)) :
    closeL q false k (s.data.toList.drop k) = closeL q false (k + 2) (s.data.toList.drop (k + 2)) := by
  rw [close_back s q k h hn hb, close_taken s q (k + 1) h1 hn1]
theorem close_back1 (s : ByteArray) (q : UInt8) (k : Nat) (h : k < s.size) (hn : ¬ (s[k] = 10 ∨ s[k] = 13)) (hb : s[k] = 92) (h1 : ∀ g : k + 1 < s.size, s[k + 1] = 10 ∨ s[k + 1] = 13) :
    closeL q false k (s.data.toList.drop k) = closeL q false (k + 1) (s.data.toList.drop (k + 1)) := by
  rw [close_back s q k h hn hb]
  by_cases g : k + 1 < s.size
  · rw [close_nl s q true (k + 1) g (h1 g), close_nl s q false (k + 1) g (h1 g)]
  · rw [close_over s q true (k + 1) g, close_over s q false (k + 1) g]

set_option maxHeartbeats 4000000 in
set_option maxRecDepth 1000000 in
theorem reftok_str (s : ByteArray) (i : Nat) (w : World) (hs : s.size ≤ 70000) (hi : i < s.size) (hn : iniB s[i] = false) (hd : isDig s[i] = false) (hq : s[i] = 34 ∨ s[i] = 39) :
    Calls Tryd.prog 32 #[.string s, .int .i64 (i : Int)] w (RefTokTo (literalL s[i] (s.data.toList.drop i)) i w) := by
  have k1 := fun w => reffirst_any s[i] w
  rw [hn] at k1
  have k2 := fun w => refdigit_any s[i] w
  rw [hd] at k2
  rw [literal_abs]
  obtain ⟨Rc, hRc⟩ : ∃ Rc, closeL s[i] false (i + 1) (s.data.toList.drop (i + 1)) = Rc := ⟨_, rfl⟩
  rw [hRc]
  have HRc := Lib.hid hRc
  obtain ⟨R, hR⟩ : ∃ R, litAbs s i Rc = R := ⟨_, rfl⟩
  rw [hR]
  have HR := Lib.hid hR
  clear hRc hR hn hd
  have hst := store_f
  have HQ := Lib.hid hq
  have hq0 : (((s[i].toNat : Nat) : Int) == 34) = true ∨ (((s[i].toNat : Nat) : Int) == 34) = false ∧ (((s[i].toNat : Nat) : Int) == 39) = true := by
    rcases hq with h | h
    · exact Or.inl (by rw [h]; rfl)
    · exact Or.inr ⟨by rw [h]; rfl, by rw [h]; rfl⟩
  clear hq
  rcases hq0 with t1 | ⟨t0, t1⟩
  all_goals
    go_enter Tryd.func32, Tryd.ntmps32
    go_wp2_with (first
      | (go_at_call 46; ((with_reducible refine (k1 _).mono ?_); rintro e w1 ⟨rfl, rfl⟩))
      | (go_at_call 48; ((with_reducible refine (k2 _).mono ?_); rintro e w1 ⟨rfl, rfl⟩)))
    first | clear t0 | skip
    clear t1 k1 k2
    go_loop [13] (fun v => ∃ k : Nat, i + 1 ≤ k ∧ k ≤ s.size ∧ v = .int .i64 k ∧ Hid (closeL s[i] false k (s.data.toList.drop k) = Rc)) (fun v => s.size - (intOf v).toNat)
    case atStart => exact ⟨i + 1, Nat.le_refl _, by omega, by go_num, HRc⟩
    case round =>
      obtain ⟨k, hik, hk, rfl, H⟩ := hrel
      clear HRc
      have hqv := HQ.out
      by_cases hlt : k < s.size
      · by_cases hsame : s[k] = s[i]
        · have hnn : ¬ (s[k] = 10 ∨ s[k] = 13) := by
            rw [hsame]; rcases hqv with h | h <;> rw [h] <;> decide
          have hn92 : ¬ s[k] = 92 := by rw [hsame]; rcases hqv with h | h <;> rw [h] <;> decide
          have HRc2 : Hid (Rc = some k) := Lib.hid (by rw [← H.out]; exact close_here s s[i] k hlt hnn hn92 hsame)
          have HRP : Hid (R = plainP (plainO (s.extract (i + 1) k)) (k - i)) := Lib.hid (by rw [← HR.out, HRc2.out]; rfl)
          have e1 : (((s[k].toNat : Nat) : Int) == ((s[i].toNat : Nat) : Int)) = true := by rw [hsame]; simp
          have e2 : (((s[k].toNat : Nat) : Int) != ((s[i].toNat : Nat) : Int)) = false := by rw [hsame]; simp
          have kp := fun w => refPlain_any (s.extract (i + 1) k) w (by simp; omega)
          have hat := plainO_at (s.extract (i + 1) k)
          have hsz : (s.extract (i + 1) k).size ≤ 70000 := by simp; omega
          generalize plainO (s.extract (i + 1) k) = r at *
          obtain ⟨t, a, kk⟩ := r
          dsimp only at hat
          obtain ⟨ha1, ha2⟩ := hat
          have ha3 : a ≤ 70000 := by omega
          have g1 : (i : Int) + 1 ≤ (k : Int) := by omega
          clear hsz ha2 hqv hsame hnn hn92 H HRc2 HR HQ
          by_cases k5 : kk = 5
          · subst k5
            have HR2 : Hid (R = .bad (1 + a)) := Lib.hid (by rw [HRP.out]; rfl)
            clear HRP
            go_wp2_with (go_at_call 51; ((with_reducible refine (kp _).mono ?_); rintro e w1 ⟨rfl, h1⟩; obtain ⟨hc, hf⟩ := bcell h1; have hz := lt_after2 h1; have hz2 : w.heap.size < w1.heap.size := by omega))
            refine ref_end (a := 0) (p := 0) (b := ⟨#[]⟩) (c := 0) (x := (i : Int) + 1 + a) (y := false) rfl rfl rfl ?_ (ref_ok (r := R) (by rw [HR2.out]; rfl) (by rw [HR2.out]; show _ = Value.int .i64 ((i : Int) + (1 + a)); congr 1; omega) (by rw [HR2.out]; rfl) ?_)
            · exact set4_blk (after2_blk h1) _ _ _ _
            · exact set4 (after2 h1) (Nat.le_refl _) _ _ _ _
          · by_cases k0 : kk = 0
            · subst k0
              have HR2 : Hid (R = .tok 4 t 0 (k - i + 1)) := Lib.hid (by rw [HRP.out]; rfl)
              clear HRP k5
              go_wp2_with (go_at_call 51; ((with_reducible refine (kp _).mono ?_); rintro e w1 ⟨rfl, h1⟩; obtain ⟨hc, hf⟩ := bcell h1; have hz := lt_after2 h1; have hz2 : w.heap.size < w1.heap.size := by omega))
              refine ref_end (a := 4) (p := (i : Int)) (b := t) (c := 0) (x := (k : Int) + 1) (y := true) rfl rfl rfl ?_ (ref_ok (r := R) (by rw [HR2.out]; rfl) (by rw [HR2.out]; show _ = Value.int .i64 ((i + (k - i + 1) : Nat) : Int); congr 1; omega) (by rw [HR2.out]; rfl) ?_)
              · exact set4_blk (far_blk (far_blk (after2_blk h1) (by simp) _) (by simp) _) _ _ _ _
              · exact set4 (((after2 h1).setCell (p := ⟨w.heap.size + 1, 0, none⟩) (by simp) _).setCell (p := ⟨w.heap.size + 1, 2, none⟩) (by simp) _) (Nat.le_refl _) _ _ _ _
            · have HR2 : Hid (R = .bad 0) := Lib.hid (by rw [HRP.out]; unfold plainP; rw [if_neg k0, if_neg k5])
              have m0 : (kk == 0) = false := by simpa using k0
              have m5 : (kk == 5) = false := by simpa using k5
              have m0' : (kk != 0) = true := by simpa using k0
              clear HRP k0 k5
              go_wp2_with (go_at_call 51; ((with_reducible refine (kp _).mono ?_); rintro e w1 ⟨rfl, h1⟩; obtain ⟨hc, hf⟩ := bcell h1; have hz := lt_after2 h1; have hz2 : w.heap.size < w1.heap.size := by omega))
              refine ref_end (a := 0) (p := 0) (b := ⟨#[]⟩) (c := 0) (x := (i : Int)) (y := false) rfl rfl rfl ?_ (ref_ok (r := R) (by rw [HR2.out]; rfl) (by rw [HR2.out]; unfold prN; simp) (by rw [HR2.out]; rfl) ?_)
              · exact set4_blk (after2_blk h1) _ _ _ _
              · exact set4 (after2 h1) (Nat.le_refl _) _ _ _ _
        · have e1 : (((s[k].toNat : Nat) : Int) == ((s[i].toNat : Nat) : Int)) = false := by rw [beq_eq_false_iff_ne, ne_eq, byte_eq]; exact hsame
          have e2 : (((s[k].toNat : Nat) : Int) != ((s[i].toNat : Nat) : Int)) = true := by rw [bne_iff_ne, ne_eq, byte_eq]; exact hsame
          by_cases hnl : s[k] = 10 ∨ s[k] = 13
          · have HR2 : Hid (R = .bad 0) := Lib.hid (by rw [← HR.out, ← H.out, close_nl s s[i] false k hlt hnl]; rfl)
            clear H HR HQ hqv hsame
            rcases hnl with hnl | hnl
            · have u1 : (((s[k].toNat : Nat) : Int) == 10) = true := by rw [hnl]; rfl
              have u1' : (((s[k].toNat : Nat) : Int) != 10) = false := by rw [hnl]; rfl
              clear hnl
              go_wp2
              refine ref_end (a := 0) (p := 0) (b := ⟨#[]⟩) (c := 0) (x := (i : Int)) (y := false) rfl rfl rfl (two_blk _ _ _) (ref_ok (r := R) (by rw [HR2.out]; rfl) (by rw [HR2.out]; simp [prN]) (by rw [HR2.out]; rfl) (two_below _ _ _))
            · have u0 : (((s[k].toNat : Nat) : Int) == 10) = false := by rw [hnl]; rfl
              have u0' : (((s[k].toNat : Nat) : Int) != 10) = true := by rw [hnl]; rfl
              have u1 : (((s[k].toNat : Nat) : Int) == 13) = true := by rw [hnl]; rfl
              have u1' : (((s[k].toNat : Nat) : Int) != 13) = false := by rw [hnl]; rfl
              clear hnl
              go_wp2
              refine ref_end (a := 0) (p := 0) (b := ⟨#[]⟩) (c := 0) (x := (i : Int)) (y := false) rfl rfl rfl (two_blk _ _ _) (ref_ok (r := R) (by rw [HR2.out]; rfl) (by rw [HR2.out]; simp [prN]) (by rw [HR2.out]; rfl) (two_below _ _ _))
          · have u0 : (((s[k].toNat : Nat) : Int) == 10) = false := byte_nb' rfl fun g => hnl (Or.inl g)
            have u1 : (((s[k].toNat : Nat) : Int) == 13) = false := byte_nb' rfl fun g => hnl (Or.inr g)
            have u0' : (((s[k].toNat : Nat) : Int) != 10) = true := by rw [bne, u0]; rfl
            have u1' : (((s[k].toNat : Nat) : Int) != 13) = true := by rw [bne, u1]; rfl
            have u0n : ¬ ((s[k].toNat : Nat) : Int) = 10 := byte_ne rfl fun g => hnl (Or.inl g)
            have u1n : ¬ ((s[k].toNat : Nat) : Int) = 13 := byte_ne rfl fun g => hnl (Or.inr g)
            by_cases h92 : s[k] = 92
            · have u2 : (((s[k].toNat : Nat) : Int) == 92) = true := by rw [h92]; rfl
              by_cases h1 : k + 1 < s.size
              · have g1 : (k : Int) + 1 < (s.size : Int) := by omega
                by_cases hnl1 : s[k + 1] = 10 ∨ s[k + 1] = 13
                · have H2 := Lib.hid ((close_back1 s s[i] k hlt hnl h92 (fun _ => hnl1)).symm.trans H.out)
                  clear H hqv hsame hnl h92
                  rcases hnl1 with hnl1 | hnl1
                  · have v1 : (((s[k + 1].toNat : Nat) : Int) == 10) = true := by rw [hnl1]; rfl
                    have v1' : (((s[k + 1].toNat : Nat) : Int) != 10) = false := by rw [hnl1]; rfl
                    clear hnl1
                    go_wp2
                    go_round
                    case rel => exact ⟨k + 1, by omega, by omega, by go_num, H2⟩
                    case measure => simp [intOf]; omega
                  · have v0 : (((s[k + 1].toNat : Nat) : Int) == 10) = false := by rw [hnl1]; rfl
                    have v0' : (((s[k + 1].toNat : Nat) : Int) != 10) = true := by rw [hnl1]; rfl
                    have v1 : (((s[k + 1].toNat : Nat) : Int) == 13) = true := by rw [hnl1]; rfl
                    have v1' : (((s[k + 1].toNat : Nat) : Int) != 13) = false := by rw [hnl1]; rfl
                    clear hnl1
                    go_wp2
                    go_round
                    case rel => exact ⟨k + 1, by omega, by omega, by go_num, H2⟩
                    case measure => simp [intOf]; omega
                · have v0 : (((s[k + 1].toNat : Nat) : Int) == 10) = false := byte_nb' rfl fun g => hnl1 (Or.inl g)
                  have v1 : (((s[k + 1].toNat : Nat) : Int) == 13) = false := byte_nb' rfl fun g => hnl1 (Or.inr g)
                  have v0' : (((s[k + 1].toNat : Nat) : Int) != 10) = true := by rw [bne, v0]; rfl
                  have v1' : (((s[k + 1].toNat : Nat) : Int) != 13) = true := by rw [bne, v1]; rfl
                  have H2 := Lib.hid ((close_back2 s s[i] k hlt hnl h92 h1 hnl1).symm.trans H.out)
                  clear H hqv hsame hnl h92 hnl1
                  go_wp2
                  go_round
                  case rel => exact ⟨k + 2, by omega, by omega, by go_num, H2⟩
                  case measure => simp [intOf]; omega
              · have g1 : ¬ (k : Int) + 1 < (s.size : Int) := by omega
                have H2 := Lib.hid ((close_back1 s s[i] k hlt hnl h92 (fun g => absurd g h1)).symm.trans H.out)
                clear H hqv hsame hnl h92
                go_wp2
                go_round
                case rel => exact ⟨k + 1, by omega, by omega, by go_num, H2⟩
                case measure => simp [intOf]; omega
            · have u2 : (((s[k].toNat : Nat) : Int) == 92) = false := byte_nb' rfl h92
              have H2 := Lib.hid ((close_on s s[i] k hlt hnl h92 hsame).symm.trans H.out)
              clear H hqv hsame hnl h92
              go_wp2
              go_round
              case rel => exact ⟨k + 1, by omega, by omega, by go_num, H2⟩
              case measure => simp [intOf]; omega
      · have HR2 : Hid (R = .bad 0) := Lib.hid (by rw [← HR.out, ← H.out, close_over s s[i] false k hlt]; rfl)
        clear H HR HQ hqv
        go_wp2
        refine ref_end (a := 0) (p := 0) (b := ⟨#[]⟩) (c := 0) (x := (i : Int)) (y := false) rfl rfl rfl (two_blk _ _ _) (ref_ok (r := R) (by rw [HR2.out]; rfl) (by rw [HR2.out]; simp [prN]) (by rw [HR2.out]; rfl) (two_below _ _ _))
end Go.Proofs.YtjjbefebpilhdaaDoor.S
