/-
  LexOne: a name, a word, a sign is one token: the walk.
-/
import Derived.Test.YtjjbefebpilhdaaDoorLexOne
namespace Go.Proofs.YtjjbefebpilhdaaDoor.S
open Go.RowKit Fl

theorem inn_eq (c : UInt8) : innB c = ((decide (97 ≤ c.toNat) && decide (c.toNat ≤ 122)) || (decide (65 ≤ c.toNat) && decide (c.toNat ≤ 90)) || (decide (48 ≤ c.toNat) && decide (c.toNat ≤ 57)) || c.toNat == 95 || c.toNat == 36) := by
  unfold innB iniB isDig
  rw [Bool.eq_iff_iff]; simp; omega

def firstB (s : ByteArray) : Bool := decide (0 < s.size) && decide (s.size ≤ 4096) && (match s.data.toList with | [] => false | c :: _ => decide (c.toNat < 48) || decide (57 < c.toNat))
theorem nameB_first (s : ByteArray) : nameB s.data.toList = (firstB s && s.data.toList.all innB) := by
  unfold nameB firstB
  rw [size_len]; rfl
theorem all_at (s : ByteArray) (k : Nat) (h : k < s.size) : (s.data.toList.drop k).all innB = (innB s[k] && (s.data.toList.drop (k + 1)).all innB) := by
  rw [drop_get s k h, List.all_cons]

theorem firstB_cases (s : ByteArray) : (firstB s = false ∧ s.size = 0) ∨ (firstB s = false ∧ 0 < s.size ∧ 4096 < s.size) ∨ (∃ h : 0 < s.size, s.size ≤ 4096 ∧ ((firstB s = true ∧ s[0].toNat < 48) ∨ (firstB s = true ∧ ¬ s[0].toNat < 48 ∧ 57 < s[0].toNat) ∨ (firstB s = false ∧ ¬ s[0].toNat < 48 ∧ ¬ 57 < s[0].toNat))) := by
  by_cases h0 : 0 < s.size
  · by_cases h1 : s.size ≤ 4096
    · refine Or.inr (Or.inr ⟨h0, h1, ?_⟩)
      have hd := drop_get s 0 h0
      rw [List.drop_zero] at hd
      have e : firstB s = (decide (s[0].toNat < 48) || decide (57 < s[0].toNat)) := by
        unfold firstB; rw [hd, decide_eq_true h0, decide_eq_true h1]; rfl
      rw [e]
      by_cases c1 : s[0].toNat < 48
      · exact Or.inl ⟨by rw [decide_eq_true c1]; rfl, c1⟩
      · by_cases c2 : 57 < s[0].toNat
        · exact Or.inr (Or.inl ⟨by rw [decide_eq_true c2, Bool.or_true], c1, c2⟩)
        · exact Or.inr (Or.inr ⟨by rw [decide_eq_false c1, decide_eq_false c2]; rfl, c1, c2⟩)
    · exact Or.inr (Or.inl ⟨by unfold firstB; rw [decide_eq_false h1, Bool.and_false, Bool.false_and], h0, by omega⟩)
  · exact Or.inl ⟨by unfold firstB; rw [decide_eq_false h0]; rfl, by omega⟩

/-- the loop and what stands behind it, whatever the first test said -/
theorem name_size {s : ByteArray} (h : nameB s.data.toList = true) : s.size ≤ 70000 := by
  unfold nameB at h
  simp only [Bool.and_eq_true] at h
  have := of_decide_eq_true h.1.1.2
  rw [size_len]; omega
theorem sign_size {s : ByteArray} (h : signB s.data.toList = true) : s.size ≤ 70000 := by
  have := signsL_len h
  rw [size_len]; omega

set_option maxHeartbeats 4000000 in
set_option maxRecDepth 1000000 in
theorem LexOne_walk (s : ByteArray) (w : World) (hm : s.size ≤ maxLen) :
    Calls Tryd.prog 7 #[.string s] w fun e w' => e = .returned (.bool true) ∧ Below w.heap.size w w' := by
  have hm : s.size ≤ 9223372036854775807 := hm
  have hfirst := nameB_first s
  have kal := lexalive_any
  have kw := fun w => lexWord_any s w
  have ks := fun w => lexSign_any s w hm
  have kname := fun h w => only_yes s _ _ _ _ _ (name_size h) (name_toks s h) w
  have ksign := fun h w => only_yes s _ _ _ _ _ (sign_size h) (sign_toks s h) w
  have hns := name_no_sign s.data.toList
  have hnw := no_name_word s.data.toList
  generalize nameB s.data.toList = N at *
  have HF : Hid (N = (firstB s && s.data.toList.all innB)) := Lib.hid hfirst
  have HK := Lib.hid kname
  have HS := Lib.hid ksign
  have HNS := Lib.hid hns
  have HNW := Lib.hid hnw
  clear hfirst kname ksign hns hnw
  generalize wordB s.data.toList = wb at *
  generalize signB s.data.toList = sb at *
  rcases firstB_cases s with ⟨hb, h0⟩ | ⟨hb, h0, h1⟩ | ⟨h0, h1, ⟨hb, h2⟩ | ⟨hb, h2, h3⟩ | ⟨hb, h2, h3⟩⟩
  all_goals
    have HB := Lib.hid hb
    first
    | (have j2 : ((s[0].toNat : Nat) : Int) < 48 := by omega)
    | (have j2 : ¬ ((s[0].toNat : Nat) : Int) < 48 := by omega
       first
       | (have j3 : 57 < ((s[0].toNat : Nat) : Int) := by omega)
       | (have j3 : ¬ 57 < ((s[0].toNat : Nat) : Int) := by omega))
    | (have j4 : 4096 < (s.size : Int) := by omega)
    | (have j5 : (s.size : Int) = 0 := by omega)
    clear hb
    go_enter Tryd.func7, Tryd.ntmps7
    go_wp2_with (go_at_call 12; refine (kal _).mono ?_; rintro e w1 ⟨rfl, hb1⟩; have HB1 := Lib.hid hb1; clear hb1)
    go_loop [4, 5] (fun nm i => ∃ (k : Nat) (b : Bool), k ≤ s.size ∧ i = .int .i64 k ∧ nm = .bool b ∧ Hid ((b && (s.data.toList.drop k).all innB) = N)) (fun _ i => s.size - (intOf i).toNat)
    case atStart => exact ⟨0, _, Nat.zero_le _, rfl, rfl, Lib.hid (by rw [HF.out, HB.out, List.drop_zero] <;> (congr 1; simp; omega))⟩
    case round =>
      obtain ⟨k, b, hk, rfl, rfl, H⟩ := hrel
      clear HF HB
      first | clear j2 | skip
      first | clear j3 | skip
      first | clear j4 | skip
      first | clear j5 h0 | skip
      by_cases hlt : k < s.size
      · cases b with
        | true =>
          have H2 : Hid ((innB s[k] && (s.data.toList.drop (k + 1)).all innB) = N) := Lib.hid (by have := H.out; rw [all_at s k hlt, Bool.true_and] at this; exact this)
          have HI := Lib.hid (inn_eq s[k])
          have h255 : s[k].toNat < 256 := s[k].toNat_lt
          clear H
          go_wp2
          all_goals
            go_round
            case rel => exact ⟨k + 1, _, by omega, by go_num, rfl, Lib.hid (by rw [← H2.out, HI.out]; congr 1; clear H2 HI; (try dsimp only at *); rw [Bool.eq_iff_iff]; simp; omega)⟩
            case measure => simp [intOf]; omega
        | false =>
          have hN : N = false := by rw [← H.out]; rfl
          subst hN
          have hwb := HNW.out rfl
          subst hwb
          clear H
          cases sb with
          | true =>
            have ko : ∀ w, Calls Tryd.prog 9 #[.string s, .int .u8 5, .string s] w fun e w' => e = .returned (.bool true) ∧ Below w.heap.size w w' := HS.out rfl
            go_wp2_with (first
              | (go_at_call 13; refine (kw _).mono ?_; rintro e w2 ⟨rfl, rfl⟩)
              | (go_at_call 14; refine (ks _).mono ?_; rintro e w2 ⟨rfl, n2, rfl⟩)
              | (go_at_call 9; refine (ko _).mono ?_; rintro e w3 ⟨rfl, hb3⟩))
            go_ret
            exact ⟨rfl, below_up (below_draw2 HB1.out _) hb3⟩
          | false =>
            go_wp2_with (first
              | (go_at_call 13; refine (kw _).mono ?_; rintro e w2 ⟨rfl, rfl⟩)
              | (go_at_call 14; refine (ks _).mono ?_; rintro e w2 ⟨rfl, n2, rfl⟩))
            go_ret
            exact ⟨rfl, below_draw2 HB1.out _⟩
      · have hN : N = b := by rw [← H.out, drop_over s k hlt]; cases b <;> rfl
        subst hN
        clear H
        cases N with
        | true =>
          have hsb := HNS.out rfl
          subst hsb
          cases wb with
          | true =>
            have ko : ∀ w, Calls Tryd.prog 9 #[.string s, .int .u8 2, .string s] w fun e w' => e = .returned (.bool true) ∧ Below w.heap.size w w' := HK.out rfl
            go_wp2_with (first
              | (go_at_call 13; refine (kw _).mono ?_; rintro e w2 ⟨rfl, rfl⟩)
              | (go_at_call 14; refine (ks _).mono ?_; rintro e w2 ⟨rfl, n2, rfl⟩)
              | (go_at_call 9; refine (ko _).mono ?_; rintro e w3 ⟨rfl, hb3⟩))
            go_ret
            exact ⟨rfl, below_draw2 (below_up HB1.out hb3) _⟩
          | false =>
            have ko : ∀ w, Calls Tryd.prog 9 #[.string s, .int .u8 1, .string s] w fun e w' => e = .returned (.bool true) ∧ Below w.heap.size w w' := HK.out rfl
            go_wp2_with (first
              | (go_at_call 13; refine (kw _).mono ?_; rintro e w2 ⟨rfl, rfl⟩)
              | (go_at_call 14; refine (ks _).mono ?_; rintro e w2 ⟨rfl, n2, rfl⟩)
              | (go_at_call 9; refine (ko _).mono ?_; rintro e w3 ⟨rfl, hb3⟩))
            go_ret
            exact ⟨rfl, below_draw2 (below_up HB1.out hb3) _⟩
        | false =>
          have hwb := HNW.out rfl
          subst hwb
          cases sb with
          | true =>
            have ko : ∀ w, Calls Tryd.prog 9 #[.string s, .int .u8 5, .string s] w fun e w' => e = .returned (.bool true) ∧ Below w.heap.size w w' := HS.out rfl
            go_wp2_with (first
              | (go_at_call 13; refine (kw _).mono ?_; rintro e w2 ⟨rfl, rfl⟩)
              | (go_at_call 14; refine (ks _).mono ?_; rintro e w2 ⟨rfl, n2, rfl⟩)
              | (go_at_call 9; refine (ko _).mono ?_; rintro e w3 ⟨rfl, hb3⟩))
            go_ret
            exact ⟨rfl, below_up (below_draw2 HB1.out _) hb3⟩
          | false =>
            go_wp2_with (first
              | (go_at_call 13; refine (kw _).mono ?_; rintro e w2 ⟨rfl, rfl⟩)
              | (go_at_call 14; refine (ks _).mono ?_; rintro e w2 ⟨rfl, n2, rfl⟩))
            go_ret
            exact ⟨rfl, below_draw2 HB1.out _⟩
end Go.Proofs.YtjjbefebpilhdaaDoor.S
