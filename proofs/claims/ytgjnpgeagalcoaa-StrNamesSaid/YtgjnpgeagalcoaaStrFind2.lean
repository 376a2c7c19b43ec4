/-
  The document's own Find; Trim, the program's and the document's own: walks.
-/
import Derived.Test.YtgjnpgeagalcoaaStrFind
import Derived.Lib.SlTrimSet
namespace Go.Proofs.Ytgjnpgeagalcoaa
open Go.RowKit Fl

theorem occ_eq (s t : ByteArray) (k f : Nat) (hf : f ≤ k) :
    Lib.occAt (s.data.toList.drop f) t.data.toList (k - f) = ((s.extract k (k + t.size)).toList == t.toList) := by
  unfold Lib.occAt
  rw [List.drop_drop, show f + (k - f) = k by omega, toList_data, toList_data, extract_list, Nat.add_sub_cancel_left, size_len t]
  rw [Bool.eq_iff_iff, List.isPrefixOf_iff_prefix, beq_iff_eq, List.prefix_iff_eq_take]
  exact eq_comm
theorem occ_far (s t : ByteArray) (k f : Nat) (hf : f ≤ k) (hks : k ≤ s.size) (hk : s.size < k + t.size) : Lib.occAt (s.data.toList.drop f) t.data.toList (k - f) = false := by
  unfold Lib.occAt
  rw [List.drop_drop, show f + (k - f) = k by omega, Bool.eq_false_iff]
  intro h
  have := (List.isPrefixOf_iff_prefix.1 h).length_le
  rw [List.length_drop, ← size_len, ← size_len] at this
  omega

/-- nowhere from f up to ahead of k -/
def Nowhere (s t : ByteArray) (f k : Nat) : Prop := ∀ j, f ≤ j → j < k → Lib.occAt (s.data.toList.drop f) t.data.toList (j - f) = false
theorem nowhere_succ {s t : ByteArray} {f k : Nat} (h : Nowhere s t f k) (h2 : Lib.occAt (s.data.toList.drop f) t.data.toList (k - f) = false) : Nowhere s t f (k + 1) := by
  intro j h3 h4
  by_cases c : j = k
  · rw [c]; exact h2
  · exact h j h3 (by omega)
theorem index_at {s t : ByteArray} {f k : Nat} (hf : f ≤ k) (hk : k ≤ s.size) (h : Nowhere s t f k) (h2 : Lib.occAt (s.data.toList.drop f) t.data.toList (k - f) = true) : Lib.index (s.data.toList.drop f) t.data.toList = ((k - f : Nat) : Int) := by
  refine Lib.index_first (by rw [List.length_drop, ← size_len]; omega) h2 fun j hj => ?_
  have := h (f + j) (by omega) (by omega)
  rwa [Nat.add_sub_cancel_left] at this
theorem index_not {s t : ByteArray} {f k : Nat} (hf : f ≤ s.size) (h : Nowhere s t f k) (hk : s.size < k + t.size) : Lib.index (s.data.toList.drop f) t.data.toList = -1 := by
  refine Lib.index_none fun j hj => ?_
  rw [List.length_drop, ← size_len] at hj
  by_cases c : f + j < k
  · have := h (f + j) (by omega) c
    rwa [Nat.add_sub_cancel_left] at this
  · have := occ_far s t (f + j) f (by omega) (by omega) (by omega)
    rwa [Nat.add_sub_cancel_left] at this

theorem refFind_any (s t : ByteArray) (i : Int) (w : World) (hs : s.size ≤ 9000) (ht : t.size ≤ 9000) : Calls Try.prog 23 #[.string s, .string t, .int .i64 i] w fun e w' => e = .returned (.int .i64 (findI s t i)) ∧ w = w' := by
  have hf : (i < 0 ∧ fromN s i = 0) ∨ (¬ i < 0 ∧ (s.size : Int) < i ∧ fromN s i = s.size) ∨ (0 ≤ i ∧ i ≤ s.size ∧ i = (fromN s i : Int)) := by
    unfold fromN
    by_cases c1 : i < 0
    · exact Or.inl ⟨c1, if_pos c1⟩
    · by_cases c2 : (s.size : Int) < i
      · exact Or.inr (Or.inl ⟨c1, c2, by rw [if_neg c1, if_pos c2]⟩)
      · refine Or.inr (Or.inr ⟨by omega, by omega, ?_⟩)
        rw [if_neg c1, if_neg c2]; omega
  have hfle := fromN_le s i
  generalize hR : findI s t i = R
  unfold findI at hR
  generalize fromN s i = f at *
  have HR := Lib.hid hR
  clear hR
  rcases hf with ⟨h1, rfl⟩ | ⟨h0, h1, rfl⟩ | ⟨h1, h2, rfl⟩
  all_goals
    go_enter Try.func23, Try.ntmps23
    go_wp2_with (fail)
  · go_loop [7] (fun v => ∃ k : Nat, k ≤ s.size + 1 ∧ v = .int .i64 (k : Int) ∧ Hid (Nowhere s t 0 k)) (fun v => s.size + 2 - (intOf v).toNat)
    case atStart => exact ⟨0, by omega, rfl, Lib.hid fun j _ h => by omega⟩
    case round =>
      obtain ⟨k, hk, rfl, H⟩ := hrel
      by_cases c : k + t.size ≤ s.size
      · have ho := occ_eq s t k 0 (Nat.zero_le _)
        cases hb : ((s.extract k (k + t.size)).toList == t.toList)
        · rw [hb] at ho
          have H2 := Lib.hid (nowhere_succ H.out ho)
          clear ho
          go_wp2
          go_round
          case rel => exact ⟨k + 1, by omega, by go_num, H2⟩
          case measure => simp [intOf]; omega
        · rw [hb] at ho
          have e := index_at (Nat.zero_le _) (by omega) H.out ho
          have e2 := HR.out
          rw [e, if_neg (by omega)] at e2
          clear ho e H HR
          go_wp2
          go_ret
          exact ⟨ret_int (by omega), rfl⟩
      · have e := index_not (Nat.zero_le _) H.out (by omega)
        have e2 := HR.out
        rw [e, if_pos (by decide)] at e2
        clear e H HR
        subst e2
        go_wp2
        go_ret
        exact ⟨rfl, rfl⟩
  · go_loop [7] (fun v => ∃ k : Nat, s.size ≤ k ∧ k ≤ s.size + 1 ∧ v = .int .i64 (k : Int) ∧ Hid (Nowhere s t s.size k)) (fun v => s.size + 2 - (intOf v).toNat)
    case atStart => exact ⟨s.size, by omega, by omega, rfl, Lib.hid fun j _ h => by omega⟩
    case round =>
      obtain ⟨k, hk0, hk, rfl, H⟩ := hrel
      by_cases c : k + t.size ≤ s.size
      · have ho := occ_eq s t k s.size hk0
        cases hb : ((s.extract k (k + t.size)).toList == t.toList)
        · rw [hb] at ho
          have H2 := Lib.hid (nowhere_succ H.out ho)
          clear ho
          go_wp2
          go_round
          case rel => exact ⟨k + 1, by omega, by omega, by go_num, H2⟩
          case measure => simp [intOf]; omega
        · rw [hb] at ho
          have e := index_at hk0 (by omega) H.out ho
          have e2 := HR.out
          rw [e, if_neg (by omega)] at e2
          clear ho e H HR
          go_wp2
          go_ret
          exact ⟨ret_int (by omega), rfl⟩
      · have e := index_not hfle H.out (by omega)
        have e2 := HR.out
        rw [e, if_pos (by decide)] at e2
        clear e H HR
        subst e2
        go_wp2
        go_ret
        exact ⟨rfl, rfl⟩
  · go_loop [7] (fun v => ∃ k : Nat, f ≤ k ∧ k ≤ s.size + 1 ∧ v = .int .i64 (k : Int) ∧ Hid (Nowhere s t f k)) (fun v => s.size + 2 - (intOf v).toNat)
    case atStart => exact ⟨f, by omega, by omega, rfl, Lib.hid fun j _ h => by omega⟩
    case round =>
      obtain ⟨k, hk0, hk, rfl, H⟩ := hrel
      by_cases c : k + t.size ≤ s.size
      · have ho := occ_eq s t k f hk0
        cases hb : ((s.extract k (k + t.size)).toList == t.toList)
        · rw [hb] at ho
          have H2 := Lib.hid (nowhere_succ H.out ho)
          clear ho
          go_wp2
          go_round
          case rel => exact ⟨k + 1, by omega, by omega, by go_num, H2⟩
          case measure => simp [intOf]; omega
        · rw [hb] at ho
          have e := index_at hk0 (by omega) H.out ho
          have e2 := HR.out
          rw [e, if_neg (by omega)] at e2
          clear ho e H HR
          go_wp2
          go_ret
          exact ⟨ret_int (by omega), rfl⟩
      · have e := index_not hfle H.out (by omega)
        have e2 := HR.out
        rw [e, if_pos (by decide)] at e2
        clear e H HR
        subst e2
        go_wp2
        go_ret
        exact ⟨rfl, rfl⟩

/-- ### Trim -/
def blanksL : List UInt8 := [9, 10, 13, 32]
def blankB (c : UInt8) : Bool := blanksL.contains c
theorem blankB_eq (c : UInt8) : blankB c = (c.toNat == 9 || c.toNat == 10 || c.toNat == 13 || c.toNat == 32) := by
  unfold blankB blanksL
  have e : ∀ d : UInt8, (c == d) = (c.toNat == d.toNat) := by
    intro d
    rw [Bool.eq_iff_iff, beq_iff_eq, beq_iff_eq]
    exact ⟨fun h => by rw [h], fun h => UInt8.toNat_inj.1 h⟩
  simp only [List.contains_cons, List.contains_nil, Bool.or_false, e]
  simp only [Bool.or_assoc]
  rfl
theorem refblank_any (c : UInt8) (w : World) :
    Calls Try.prog 50 #[.int .u8 (c.toNat : Int)] w fun e w' => e = .returned (.bool (blankB c)) ∧ w = w' := by
  have hb := Lib.hid (blankB_eq c)
  have h255 : c.toNat < 256 := c.toNat_lt
  go_enter Try.func50, Try.ntmps50
  go_wp2
  all_goals (go_ret; refine ⟨ret_bool ?_, rfl⟩; rw [hb.out, Bool.eq_iff_iff]; simp; omega)
theorem blank_any (c : UInt8) (w : World) :
    Calls Try.prog 38 #[.int .u8 (c.toNat : Int)] w fun e w' => e = .returned (.bool (blankB c)) ∧ w = w' := by
  have hb := blankB_eq c
  have h255 : c.toNat < 256 := c.toNat_lt
  generalize blankB c = b at *
  have h : (c.toNat = 9 ∧ b = true) ∨ (c.toNat = 10 ∧ b = true) ∨ (c.toNat = 13 ∧ b = true) ∨ (c.toNat = 32 ∧ b = true) ∨ (c.toNat ≠ 9 ∧ c.toNat ≠ 10 ∧ c.toNat ≠ 13 ∧ c.toNat ≠ 32 ∧ b = false) := by
    by_cases c1 : c.toNat = 9
    · exact Or.inl ⟨c1, by rw [hb, c1]; rfl⟩
    · by_cases c2 : c.toNat = 10
      · exact Or.inr (Or.inl ⟨c2, by rw [hb, c2]; rfl⟩)
      · by_cases c3 : c.toNat = 13
        · exact Or.inr (Or.inr (Or.inl ⟨c3, by rw [hb, c3]; rfl⟩))
        · by_cases c4 : c.toNat = 32
          · exact Or.inr (Or.inr (Or.inr (Or.inl ⟨c4, by rw [hb, c4]; rfl⟩)))
          · exact Or.inr (Or.inr (Or.inr (Or.inr ⟨c1, c2, c3, c4, by rw [hb, beq_false_of_ne c1, beq_false_of_ne c2, beq_false_of_ne c3, beq_false_of_ne c4]; rfl⟩)))
  clear hb
  rcases h with ⟨h, rfl⟩ | ⟨h, rfl⟩ | ⟨h, rfl⟩ | ⟨h, rfl⟩ | ⟨h1, h2, h3, h4, rfl⟩
  all_goals
    go_enter Try.func38, Try.ntmps38
    go_wp2
    go_ret
    exact ⟨rfl, rfl⟩

def BlankTo (l : List UInt8) (k : Nat) : Prop := ∀ (j : Nat) b, j < k → l[j]? = some b → blanksL.contains b = true
def BlankFrom (l : List UInt8) (k : Nat) : Prop := ∀ (j : Nat) b, k ≤ j → l[j]? = some b → blanksL.contains b = true
def StopAt (l : List UInt8) (k : Nat) : Prop := ∀ b, l[k]? = some b → blanksL.contains b = false
theorem blankTo_succ (s : ByteArray) (k : Nat) (h : k < s.size) (hb : blankB s[k] = true) (g : BlankTo s.data.toList k) : BlankTo s.data.toList (k + 1) := by
  intro j b hj hjb
  by_cases c : j = k
  · subst c
    rw [getElem_list s j h] at hjb
    injection hjb with hjb
    rw [← hjb]; exact hb
  · exact g j b (by omega) hjb
theorem blankFrom_pred (s : ByteArray) (k : Nat) (h : k < s.size) (hb : blankB s[k] = true) (g : BlankFrom s.data.toList (k + 1)) : BlankFrom s.data.toList k := by
  intro j b hj hjb
  by_cases c : j = k
  · subst c
    rw [getElem_list s j h] at hjb
    injection hjb with hjb
    rw [← hjb]; exact hb
  · exact g j b (by omega) hjb
theorem trim_at (l : List UInt8) (f t : Nat) (hft : f ≤ t) (ht : t ≤ l.length) (h1 : BlankTo l f) (h2 : f < t → StopAt l f) (h3 : BlankFrom l t) (h4 : f < t → StopAt l (t - 1)) : (l.drop f).take (t - f) = Lib.trimS l blanksL := by
  unfold Lib.trimS
  rcases Nat.lt_or_eq_of_le hft with c | c
  · rw [Lib.trimRightS_take l blanksL t ht h3 (fun b _ hb => h4 c b hb)]
    rw [Lib.trimLeftS_drop (l.take t) blanksL f (by rw [List.length_take]; omega)
      (fun j b hj hb => h1 j b hj (by rw [List.getElem?_take_of_lt (by omega)] at hb; exact hb))
      (fun b hb => h2 c b (by rw [List.getElem?_take_of_lt c] at hb; exact hb))]
    rw [List.drop_take]
  · subst c
    rw [Nat.sub_self, List.take_zero]
    have : Lib.trimRightS l blanksL = l.take 0 := Lib.trimRightS_take l blanksL 0 (Nat.zero_le _) (fun j b _ hb => by
      by_cases d : j < f
      · exact h1 j b d hb
      · exact h3 j b (by omega) hb) (fun b hb => by omega)
    rw [this, List.take_zero]
    rfl
def trimT (s : ByteArray) : ByteArray := ⟨(Lib.trimS s.data.toList blanksL).toArray⟩
theorem trim_ext (s : ByteArray) (f t : Nat) (hft : f ≤ t) (ht : t ≤ s.size) (h1 : BlankTo s.data.toList f) (h2 : f < t → StopAt s.data.toList f) (h3 : BlankFrom s.data.toList t) (h4 : f < t → StopAt s.data.toList (t - 1)) : s.extract f t = trimT s :=
  str_ext (by rw [extract_list]; exact trim_at _ f t hft (by rw [← size_len]; exact ht) h1 h2 h3 h4)

theorem stop_of (s : ByteArray) (k : Nat) (h : k < s.size) (hb : blankB s[k] = false) : StopAt s.data.toList k := by
  intro b hbb
  rw [getElem_list s k h] at hbb
  injection hbb with hbb
  rw [← hbb]; exact hb
theorem blankFrom_end (s : ByteArray) : BlankFrom s.data.toList s.size := fun j b hj hb => by rw [List.getElem?_eq_none (by rw [← size_len]; omega)] at hb; cases hb

set_option maxHeartbeats 800000 in
theorem Trim_any (s : ByteArray) (w : World) (hs : s.size ≤ 9000) : Calls Try.prog 15 #[.string s] w (StrTo (trimT s) w) := by
  generalize hT : trimT s = T
  have HT := Lib.hid hT
  clear hT
  go_enter Try.func15, Try.ntmps15
  go_wp2_with (fail)
  go_loop [3] (fun f => ∃ k : Nat, k ≤ s.size ∧ f = .int .i64 (k : Int) ∧ Hid (BlankTo s.data.toList k)) (fun f => s.size - (intOf f).toNat)
  case atStart => exact ⟨0, Nat.zero_le _, rfl, Lib.hid fun j b hj _ => by omega⟩
  case round =>
    obtain ⟨k, hk, rfl, HB⟩ := hrel
    by_cases hgo : ∃ h : k < s.size, blankB s[k] = true
    · obtain ⟨hlt, hb⟩ := hgo
      have hbl := fun w => blank_any s[k] w
      rw [hb] at hbl
      have HB2 := Lib.hid (blankTo_succ s k hlt hb HB.out)
      clear hb
      go_wp2_with (go_at_call 38; refine (hbl _).mono ?_; rintro e w' ⟨rfl, rfl⟩)
      go_round
      case rel => exact ⟨k + 1, by omega, by go_num, HB2⟩
      case measure => simp [intOf]; omega
    · have HST : Hid (k < s.size → StopAt s.data.toList k) := Lib.hid fun hlt => by
        cases hv : blankB s[k]
        · exact stop_of s k hlt hv
        · exact absurd ⟨hlt, hv⟩ hgo
      have hbl : ∀ h : k < s.size, ∀ w, Calls Try.prog 38 #[.int .u8 (s[k].toNat : Int)] w fun e w' => e = .returned (.bool false) ∧ w = w' := by
        intro h w
        have := blank_any s[k] w
        cases hv : blankB s[k]
        · rw [hv] at this; exact this
        · exact absurd ⟨h, hv⟩ hgo
      clear hgo
      have fin : ∀ m : Nat, k ≤ m → m ≤ s.size → BlankFrom s.data.toList m → (k < m → StopAt s.data.toList (m - 1)) → s.extract k m = T := fun m h1 h2 h3 h4 =>
        (trim_ext s k m h1 h2 HB.out (fun h => HST.out (by omega)) h3 h4).trans HT.out
      have FIN := Lib.hid fin
      clear fin
      rcases Nat.lt_or_eq_of_le hk with hlt | hlt
      · have hbl := hbl hlt
        go_wp2_with (go_at_call 38; refine (hbl _).mono ?_; rintro e w' ⟨rfl, rfl⟩)
        go_loop [4] (fun t => ∃ m : Nat, k ≤ m ∧ m ≤ s.size ∧ t = .int .i64 (m : Int) ∧ Hid (BlankFrom s.data.toList m)) (fun t => (intOf t).toNat)
        case atStart => exact ⟨s.size, hk, Nat.le_refl _, rfl, Lib.hid (blankFrom_end s)⟩
        case round =>
          obtain ⟨m, hkm, hm, rfl, HF⟩ := hrel
          by_cases hgt : k < m
          · obtain ⟨m', rfl⟩ : ∃ m', m = m' + 1 := ⟨m - 1, by omega⟩
            have hlt2 : m' < s.size := by omega
            have hbl2 := fun w => blank_any s[m'] w
            cases hb : blankB s[m']
            · rw [hb] at hbl2
              have e := FIN.out (m' + 1) hkm hm HF.out (fun _ => stop_of s m' hlt2 hb)
              have kf := fun w => fresh_any T w (by rw [← e]; simp; omega)
              clear hb
              go_wp2_with (first
                | (go_at_call 38; ((with_reducible refine (hbl2 _).mono ?_); rintro e w' ⟨rfl, rfl⟩))
                | (go_at_call 29; refine (kf _).mono ?_; rintro e w1 ⟨rfl, h1⟩))
              go_ret
              exact ⟨rfl, h1⟩
            · rw [hb] at hbl2
              have HF2 := Lib.hid (blankFrom_pred s m' hlt2 hb HF.out)
              clear hb
              go_wp2_with (go_at_call 38; ((with_reducible refine (hbl2 _).mono ?_); rintro e w' ⟨rfl, rfl⟩))
              go_round
              case rel => exact ⟨m', by omega, by omega, by go_num, HF2⟩
              case measure => simp [intOf] <;> omega
          · obtain rfl : m = k := by omega
            have e := FIN.out m hkm hm HF.out (fun h => by omega)
            have e0 : ByteArray.empty = T := by rw [← e]; simp
            subst e0
            have kf := fun w => fresh_any ByteArray.empty w (by simp)
            clear e FIN
            go_wp2_with (go_at_call 29; refine (kf _).mono ?_; rintro e w1 ⟨rfl, h1⟩)
            go_ret
            exact ⟨rfl, h1⟩
      · clear hbl
        subst hlt
        go_wp2_with (fail)
        go_loop [4] (fun t => t = .int .i64 (s.size : Int)) (fun t => (intOf t).toNat)
        case atStart => rfl
        case round =>
          obtain rfl := hrel
          have e := FIN.out s.size (Nat.le_refl _) (Nat.le_refl _) (blankFrom_end s) (fun h => by omega)
          have e0 : ByteArray.empty = T := by rw [← e]; simp
          subst e0
          have kf := fun w => fresh_any ByteArray.empty w (by simp)
          clear e FIN
          go_wp2_with (go_at_call 29; refine (kf _).mono ?_; rintro e w1 ⟨rfl, h1⟩)
          go_ret
          exact ⟨rfl, h1⟩
set_option maxHeartbeats 800000 in
theorem Bare_any (s : ByteArray) (w : World) (hs : s.size ≤ 9000) : Calls Try.prog 40 #[.string s] w (StrTo (trimT s) w) := by
  generalize hT : trimT s = T
  have HT := Lib.hid hT
  clear hT
  go_enter Try.func40, Try.ntmps40
  go_wp2_with (fail)
  go_loop [3] (fun f => ∃ k : Nat, k ≤ s.size ∧ f = .int .i64 (k : Int) ∧ Hid (BlankTo s.data.toList k)) (fun f => s.size - (intOf f).toNat)
  case atStart => exact ⟨0, Nat.zero_le _, rfl, Lib.hid fun j b hj _ => by omega⟩
  case round =>
    obtain ⟨k, hk, rfl, HB⟩ := hrel
    by_cases hgo : ∃ h : k < s.size, blankB s[k] = true
    · obtain ⟨hlt, hb⟩ := hgo
      have hbl := fun w => refblank_any s[k] w
      rw [hb] at hbl
      have HB2 := Lib.hid (blankTo_succ s k hlt hb HB.out)
      clear hb
      go_wp2_with (go_at_call 50; refine (hbl _).mono ?_; rintro e w' ⟨rfl, rfl⟩)
      go_round
      case rel => exact ⟨k + 1, by omega, by go_num, HB2⟩
      case measure => simp [intOf]; omega
    · have HST : Hid (k < s.size → StopAt s.data.toList k) := Lib.hid fun hlt => by
        cases hv : blankB s[k]
        · exact stop_of s k hlt hv
        · exact absurd ⟨hlt, hv⟩ hgo
      have hbl : ∀ h : k < s.size, ∀ w, Calls Try.prog 50 #[.int .u8 (s[k].toNat : Int)] w fun e w' => e = .returned (.bool false) ∧ w = w' := by
        intro h w
        have := refblank_any s[k] w
        cases hv : blankB s[k]
        · rw [hv] at this; exact this
        · exact absurd ⟨h, hv⟩ hgo
      clear hgo
      have fin : ∀ m : Nat, k ≤ m → m ≤ s.size → BlankFrom s.data.toList m → (k < m → StopAt s.data.toList (m - 1)) → s.extract k m = T := fun m h1 h2 h3 h4 =>
        (trim_ext s k m h1 h2 HB.out (fun h => HST.out (by omega)) h3 h4).trans HT.out
      have FIN := Lib.hid fin
      clear fin
      rcases Nat.lt_or_eq_of_le hk with hlt | hlt
      · have hbl := hbl hlt
        go_wp2_with (go_at_call 50; refine (hbl _).mono ?_; rintro e w' ⟨rfl, rfl⟩)
        go_loop [4] (fun t => ∃ m : Nat, k ≤ m ∧ m ≤ s.size ∧ t = .int .i64 (m : Int) ∧ Hid (BlankFrom s.data.toList m)) (fun t => (intOf t).toNat)
        case atStart => exact ⟨s.size, hk, Nat.le_refl _, rfl, Lib.hid (blankFrom_end s)⟩
        case round =>
          obtain ⟨m, hkm, hm, rfl, HF⟩ := hrel
          by_cases hgt : k < m
          · obtain ⟨m', rfl⟩ : ∃ m', m = m' + 1 := ⟨m - 1, by omega⟩
            have hlt2 : m' < s.size := by omega
            have hbl2 := fun w => refblank_any s[m'] w
            cases hb : blankB s[m']
            · rw [hb] at hbl2
              have e := FIN.out (m' + 1) hkm hm HF.out (fun _ => stop_of s m' hlt2 hb)
              clear hb
              go_wp2_with (go_at_call 50; ((with_reducible refine (hbl2 _).mono ?_); rintro e w' ⟨rfl, rfl⟩))
              go_ret
              exact ⟨rfl, Below.refl _ _⟩
            · rw [hb] at hbl2
              have HF2 := Lib.hid (blankFrom_pred s m' hlt2 hb HF.out)
              clear hb
              go_wp2_with (go_at_call 50; ((with_reducible refine (hbl2 _).mono ?_); rintro e w' ⟨rfl, rfl⟩))
              go_round
              case rel => exact ⟨m', by omega, by omega, by go_num, HF2⟩
              case measure => simp [intOf] <;> omega
          · obtain rfl : m = k := by omega
            have e := FIN.out m hkm hm HF.out (fun h => by omega)
            have e0 : ByteArray.empty = T := by rw [← e]; simp
            subst e0
            clear e FIN
            go_wp2
            go_ret
            exact ⟨rfl, Below.refl _ _⟩
      · clear hbl
        subst hlt
        go_wp2_with (fail)
        go_loop [4] (fun t => t = .int .i64 (s.size : Int)) (fun t => (intOf t).toNat)
        case atStart => rfl
        case round =>
          obtain rfl := hrel
          have e := FIN.out s.size (Nat.le_refl _) (Nat.le_refl _) (blankFrom_end s) (fun h => by omega)
          have e0 : ByteArray.empty = T := by rw [← e]; simp
          subst e0
          clear e FIN
          go_wp2
          go_ret
          exact ⟨rfl, Below.refl _ _⟩

theorem refTrim_any (s : ByteArray) (w : World) (hs : s.size ≤ 9000) : Calls Try.prog 25 #[.string s] w (StrTo (trimT s) w) := by
  have k := fun w => Bare_any s w hs
  go_enter Try.func25, Try.ntmps25
  go_wp2_with (go_at_call 40; refine (k _).mono ?_; rintro e w1 ⟨rfl, h1⟩)
  go_ret
  exact ⟨rfl, h1⟩
end Go.Proofs.Ytgjnpgeagalcoaa
