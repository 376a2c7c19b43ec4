/-
  The document's own Read, and NumTexts: walks.
-/
import Derived.Test.YtgjpcoplnpkmoaaGreatDoorTextTens
namespace Go.Proofs.YtgjpcoplnpkmoaaGreatDoor
open Go.RowKit Fl

def blankB (c : UInt8) : Bool := blanksL.contains c
theorem blankB_eq (c : UInt8) : blankB c = (c.toNat == 9 || c.toNat == 10 || c.toNat == 13 || c.toNat == 32) := by
  unfold blankB blanksL
  have e : ∀ d : UInt8, (c == d) = (c.toNat == d.toNat) := by
    intro d
    rw [Bool.eq_iff_iff, beq_iff_eq, beq_iff_eq]
    exact ⟨fun h => by rw [h], fun h => UInt8.toNat_inj.1 h⟩
  simp only [List.contains_cons, List.contains_nil, Bool.or_false, e]
  simp only [Bool.or_assoc]
  rfl

theorem blank_any (c : UInt8) (w : World) :
    Calls Tryz.prog 178 #[.int .u8 (c.toNat : Int)] w fun e w' => e = .returned (.bool (blankB c)) ∧ w = w' := by
  have hb := Lib.hid (blankB_eq c)
  have h255 : c.toNat < 256 := c.toNat_lt
  go_enter Tryz.func178, Tryz.ntmps178
  go_wp2
  all_goals (go_ret; refine ⟨ret_bool ?_, rfl⟩; rw [hb.out, Bool.eq_iff_iff]; simp; omega)

theorem getElem_list (s : ByteArray) (k : Nat) (h : k < s.size) : s.data.toList[k]? = some s[k] := by
  rw [List.getElem?_eq_getElem (by rw [← size_len]; exact h)]
  simp [ByteArray.getElem_eq_getElem_data]

def BlankTo (l : List UInt8) (k : Nat) : Prop := ∀ (j : Nat) b, j < k → l[j]? = some b → blanksL.contains b = true
def BlankFrom (l : List UInt8) (k : Nat) : Prop := ∀ (j : Nat) b, k ≤ j → l[j]? = some b → blanksL.contains b = true
def StopAt (l : List UInt8) (k : Nat) : Prop := ∀ b, l[k]? = some b → blanksL.contains b = false

theorem blankTo_succ (s : ByteArray) (k : Nat) (h : k < s.size) (hb : blankB s[k] = true) (g : BlankTo s.data.toList k) : BlankTo s.data.toList (k + 1) := by
  intro j b hj hjb
  by_cases c : j = k
  · subst c
    rw [getElem_list s j h] at hjb
    injection hjb with hjb
    rw [← hjb]; exact hb
  · exact g j b (by omega) hjb
theorem blankFrom_pred (s : ByteArray) (k : Nat) (h : k < s.size) (hb : blankB s[k] = true) (g : BlankFrom s.data.toList (k + 1)) : BlankFrom s.data.toList k := by
  intro j b hj hjb
  by_cases c : j = k
  · subst c
    rw [getElem_list s j h] at hjb
    injection hjb with hjb
    rw [← hjb]; exact hb
  · exact g j b (by omega) hjb

theorem empty_extract (s : ByteArray) (m : Nat) : ByteArray.empty.data.toList = (s.extract m m).data.toList := by
  rw [Lib.extract_data, Nat.sub_self, List.take_zero]; rfl

/-- where the two looks for blanks end, there the trimmed text stands -/
theorem trim_at (l : List UInt8) (f t : Nat) (hft : f ≤ t) (ht : t ≤ l.length) (h1 : BlankTo l f) (h2 : StopAt l f) (h3 : BlankFrom l t) (h4 : f < t → StopAt l (t - 1)) : (l.drop f).take (t - f) = Lib.trimS l blanksL := by
  unfold Lib.trimS
  rcases Nat.lt_or_eq_of_le hft with c | c
  · rw [Lib.trimRightS_take l blanksL t ht h3 (fun b _ hb => h4 c b hb)]
    rw [Lib.trimLeftS_drop (l.take t) blanksL f (by rw [List.length_take]; omega)
      (fun j b hj hb => h1 j b hj (by rw [List.getElem?_take_of_lt (by omega)] at hb; exact hb))
      (fun b hb => h2 b (by rw [List.getElem?_take_of_lt c] at hb; exact hb))]
    rw [List.drop_take]
  · subst c
    have hall : f = l.length := by
      by_cases d : f < l.length
      · exfalso
        have e := List.getElem?_eq_getElem d
        have a := h2 _ e
        have b := h3 f _ (Nat.le_refl _) e
        rw [a] at b; cases b
      · omega
    rw [Nat.sub_self, List.take_zero]
    have : Lib.trimRightS l blanksL = l.take 0 := Lib.trimRightS_take l blanksL 0 (Nat.zero_le _) (fun j b _ hb => by
      by_cases d : j < f
      · exact h1 j b d hb
      · exact h3 j b (by omega) hb) (fun b hb => by omega)
    rw [this, List.take_zero]
    rfl

set_option maxHeartbeats 400000 in
theorem Bare_any (s : ByteArray) (w : World) (hs : s.size ≤ maxLen) : Calls Tryz.prog 126 #[.string s] w (TextTo (Lib.trimS s.data.toList blanksL) w) := by
  unfold maxLen at hs
  go_enter Tryz.func126, Tryz.ntmps126
  go_wp2_with (fail)
  go_loop [3] (fun f => ∃ k : Nat, k ≤ s.size ∧ f = .int .i64 (k : Int) ∧ BlankTo s.data.toList k) (fun f => s.size - (intOf f).toNat)
  case atStart => exact ⟨0, Nat.zero_le _, rfl, fun j b hj _ => by omega⟩
  case round =>
    obtain ⟨k, hk, rfl, hbt⟩ := hrel
    have HB := Lib.hid hbt
    clear hbt
    by_cases hgo : ∃ h : k < s.size, blankB s[k] = true
    · obtain ⟨hlt, hb⟩ := hgo
      have hbl := fun w => blank_any s[k] w
      rw [hb] at hbl
      have HB2 := Lib.hid (blankTo_succ s k hlt hb HB.out)
      clear hb
      go_wp2_with (go_at_call 178; refine (hbl _).mono ?_; rintro e w' ⟨rfl, rfl⟩)
      go_round
      case rel => exact ⟨k + 1, by omega, by go_num, HB2.out⟩
      case measure => simp [intOf]; omega
    · have HST : Hid (StopAt s.data.toList k) := Lib.hid (fun b hbb => by
        by_cases hlt : k < s.size
        · rw [getElem_list s k hlt] at hbb
          injection hbb with hbb
          cases hv : blankB s[k]
          · rw [← hbb]; exact hv
          · exact absurd ⟨hlt, hv⟩ hgo
        · rw [List.getElem?_eq_none (by rw [← size_len]; omega)] at hbb; cases hbb)
      have hbl : ∀ h : k < s.size, ∀ w, Calls Tryz.prog 178 #[.int .u8 (s[k].toNat : Int)] w fun e w' => e = .returned (.bool false) ∧ w = w' := by
        intro h w
        have := blank_any s[k] w
        cases hv : blankB s[k]
        · rw [hv] at this; exact this
        · exact absurd ⟨h, hv⟩ hgo
      clear hgo
      rcases Nat.lt_or_eq_of_le hk with hlt | hlt
      · have hbl := hbl hlt
        go_wp2_with (go_at_call 178; refine (hbl _).mono ?_; rintro e w' ⟨rfl, rfl⟩)
        go_loop [4] (fun t => ∃ m : Nat, k ≤ m ∧ m ≤ s.size ∧ t = .int .i64 (m : Int) ∧ BlankFrom s.data.toList m) (fun t => (intOf t).toNat)
        case atStart => exact ⟨s.size, hk, Nat.le_refl _, rfl, fun j b hj hb => by rw [List.getElem?_eq_none (by rw [← size_len]; omega)] at hb; cases hb⟩
        case round =>
          obtain ⟨m, hkm, hm, rfl, hbf⟩ := hrel
          have HF := Lib.hid hbf
          clear hbf
          by_cases hgt : k < m
          · obtain ⟨m', rfl⟩ : ∃ m', m = m' + 1 := ⟨m - 1, by omega⟩
            have hlt2 : m' < s.size := by omega
            have hbl2 := fun w => blank_any s[m'] w
            cases hb : blankB s[m']
            · rw [hb] at hbl2
              have HS2 : Hid (StopAt s.data.toList m') := Lib.hid (fun b hbb => by
                rw [getElem_list s m' hlt2] at hbb
                injection hbb with hbb
                rw [← hbb]; exact hb)
              clear hb
              go_wp2_with (go_at_call 178; ((with_reducible refine (hbl2 _).mono ?_); rintro e w' ⟨rfl, rfl⟩))
              go_ret
              exact ⟨s.extract k (m' + 1), by rw [Lib.extract_data]; exact trim_at _ k (m' + 1) (by omega) (by rw [← size_len]; omega) HB.out HST.out HF.out (fun _ => HS2.out), rfl, Below.refl _ _⟩
            · rw [hb] at hbl2
              have HF2 := Lib.hid (blankFrom_pred s m' hlt2 hb HF.out)
              clear hb
              go_wp2_with (go_at_call 178; ((with_reducible refine (hbl2 _).mono ?_); rintro e w' ⟨rfl, rfl⟩))
              go_round
              case rel => exact ⟨m', by omega, by omega, by go_num, HF2.out⟩
              case measure => simp [intOf] <;> omega
          · obtain rfl : m = k := by omega
            go_wp2
            go_ret
            exact ⟨ByteArray.empty, by rw [empty_extract s m, Lib.extract_data]; exact trim_at _ m m (Nat.le_refl _) (by rw [← size_len]; exact hm) HB.out HST.out HF.out (fun h => by omega), rfl, Below.refl _ _⟩
      · clear hbl
        have hnl : ¬ k < s.size := by omega
        have hge : s.size ≤ k := by omega
        clear hlt
        go_wp2_with (fail)
        go_loop [4] (fun t => ∃ m : Nat, k ≤ m ∧ m ≤ s.size ∧ t = .int .i64 (m : Int) ∧ BlankFrom s.data.toList m) (fun t => (intOf t).toNat)
        case atStart => exact ⟨s.size, hk, Nat.le_refl _, rfl, fun j b hj hb => by rw [List.getElem?_eq_none (by rw [← size_len]; omega)] at hb; cases hb⟩
        case round =>
          obtain ⟨m, hkm, hm, rfl, hbf⟩ := hrel
          have HF := Lib.hid hbf
          clear hbf
          obtain rfl : m = k := by omega
          go_wp2
          go_ret
          exact ⟨ByteArray.empty, by rw [empty_extract s m, Lib.extract_data]; exact trim_at _ m m (Nat.le_refl _) (by rw [← size_len]; exact hm) HB.out HST.out HF.out (fun h => by omega), rfl, Below.refl _ _⟩
end Go.Proofs.YtgjpcoplnpkmoaaGreatDoor
