/-
  Read of package num: what a text is worth, for every text: walks.
-/
import Derived.Test.YtbeggameiedjgaaGreatDoorTN03
import Derived.Test.YtbeggameiedjgaaGreatDoorTN04
import Derived.Lib.SlTrimSet
import Derived.Lib.AppendIntMem
namespace Go.Proofs.YtbeggameiedjgaaGreatDoor
open Go.RowKit Fl

theorem F_10 : F 10 = 4621819117588971520 := by decide

/-- what 'digits' gives -/
def DigW (l : List UInt8) (x : Nat) : Prop := if l = [] ∨ l.all isDig = false then Is .nan x else Acc (valD l) x
def RetDig (l : List UInt8) (w : World) (e : Ending) (w' : World) : Prop := ∃ x, DigW l x ∧ e = .returned (.float .f64 x) ∧ w = w'

theorem all_take_snoc (s : ByteArray) (k : Nat) (h : k < s.size) : (s.data.toList.take (k + 1)).all isDig = ((s.data.toList.take k).all isDig && isDig s[k]) := by
  rw [take_snoc s k h, List.all_append]; simp

theorem not_all (s : ByteArray) (k : Nat) (h : k < s.size) (hd : isDig s[k] = false) : s.data.toList.all isDig = false := by
  rw [List.all_eq_false]
  exact ⟨s[k], by simp [ByteArray.getElem_eq_getElem_data], by simp [hd]⟩

theorem acc_zero : Acc (valD []) 0 := Or.inl ⟨by decide, by decide⟩

theorem toList_data (s : ByteArray) : s.toList = s.data.toList := Go.ByteArray.toList_eq s

theorem isDig_iff (c : UInt8) : isDig c = true ↔ 48 ≤ c.toNat ∧ c.toNat ≤ 57 := by unfold isDig; simp
theorem isDig_no (c : UInt8) (h : c.toNat < 48 ∨ 57 < c.toNat) : isDig c = false := by
  unfold isDig; rcases h with h | h
  · rw [decide_eq_false (by omega)]; rfl
  · rw [decide_eq_false (p := c.toNat ≤ 57) (by omega), Bool.and_false]

set_option maxHeartbeats 400000 in
theorem digits_any (s : ByteArray) (w : World) (hs : s.size ≤ maxLen) : Calls Tryz.prog 178 #[.string s] w (RetDig s.data.toList w) := by
  unfold maxLen at hs
  by_cases h0 : s.data.toList = []
  · have hz : s.toList = [] := (toList_data s).trans h0
    have hd : DigW s.data.toList 9221120237041090561 := by unfold DigW; rw [if_pos (Or.inl h0)]; exact is_uvnan
    have HD := Lib.hid hd
    clear hd h0
    go_enter Tryz.func178, Tryz.ntmps178
    go_wp2_with (go_at_call 194; refine (NaN_any _).mono ?_; rintro e w' ⟨rfl, rfl⟩)
    go_ret
    exact ⟨_, HD.out, rfl, rfl⟩
  · have hz : s.toList.isEmpty = false := by rw [toList_data]; simpa using h0
    have H0 := Lib.hid h0
    clear h0
    go_enter Tryz.func178, Tryz.ntmps178
    go_wp2_with (fail)
    clear hz
    go_loop [3, 4] (fun x i => ∃ (k v : Nat), k ≤ s.size ∧ i = .int .i64 k ∧ x = .float .f64 v ∧ Acc (valD (s.data.toList.take k)) v ∧ (s.data.toList.take k).all isDig = true) (fun _ i => s.size - (intOf i).toNat)
    case atStart => exact ⟨0, 0, Nat.zero_le _, rfl, rfl, by rw [List.take_zero]; exact acc_zero, by rw [List.take_zero]; rfl⟩
    case round =>
      obtain ⟨k, v, hk, rfl, rfl, hacc, hall⟩ := hrel
      by_cases hlt : k < s.size
      · obtain ⟨c, hc⟩ : ∃ c, c = s[k] := ⟨_, rfl⟩
        have hsn := Lib.hid (take_snoc s k hlt)
        have hc255 : c.toNat < 256 := c.toNat_lt
        by_cases h1 : c.toNat < 48
        · have hna := Lib.hid (not_all s k hlt (isDig_no _ (Or.inl (by rw [← hc]; exact h1))))
          have h1' : ((s[k].toNat : Nat) : Int) < 48 := by rw [← hc]; omega
          clear hacc hall hsn h1 hc
          go_wp2_with (go_at_call 194; refine (NaN_any _).mono ?_; rintro e w' ⟨rfl, rfl⟩)
          go_ret
          exact ⟨_, by unfold DigW; rw [if_pos (Or.inr hna.out)]; exact is_uvnan, rfl, rfl⟩
        · by_cases h2 : 57 < c.toNat
          · have hna := Lib.hid (not_all s k hlt (isDig_no _ (Or.inr (by rw [← hc]; exact h2))))
            have h1' : ¬ ((s[k].toNat : Nat) : Int) < 48 := by rw [← hc]; omega
            have h2' : 57 < ((s[k].toNat : Nat) : Int) := by rw [← hc]; omega
            clear hacc hall hsn h1 h2 hc
            go_wp2_with (go_at_call 194; refine (NaN_any _).mono ?_; rintro e w' ⟨rfl, rfl⟩)
            go_ret
            exact ⟨_, by unfold DigW; rw [if_pos (Or.inr hna.out)]; exact is_uvnan, rfl, rfl⟩
          · obtain ⟨v1, v2, hm, ha, hacc2⟩ := acc_step hacc (show c.toNat - 48 ≤ 9 by omega)
            have hall2 : (s.data.toList.take (k + 1)).all isDig = true := by
              rw [all_take_snoc s k hlt, hall, Bool.true_and]
              exact (isDig_iff _).2 (by rw [← hc]; omega)
            have hval : valD (s.data.toList.take (k + 1)) = valD (s.data.toList.take k) * 10 + (c.toNat - 48) := by rw [hsn.out, valD_snoc, ← hc]
            have HV := Lib.hid hval
            have HA2 := Lib.hid hall2
            have HAC := Lib.hid hacc2
            rw [F_10] at hm
            have e1 : ((c.toNat - 48 : Nat) : Int) = ((s[k].toNat : Nat) : Int) - 48 := by rw [← hc]; omega
            rw [e1] at ha
            have hm' := fun w => run_float_arith (P := Tryz.prog) w .mul 24 .f64 _ _ _ hm
            have ha' := fun w => run_float_arith (P := Tryz.prog) w .add 24 .f64 _ _ _ ha
            have h1' : ¬ ((s[k].toNat : Nat) : Int) < 48 := by rw [← hc]; omega
            have h2' : ¬ 57 < ((s[k].toNat : Nat) : Int) := by rw [← hc]; omega
            clear hacc hall hsn h1 h2 hm ha e1 hval hall2 hacc2 hc
            go_wp2
            go_round
            case rel => exact ⟨k + 1, v2, by omega, by go_num, rfl, by rw [HV.out]; exact HAC.out, HA2.out⟩
            case measure => simp [intOf]; omega
      · have he : s.data.toList.take k = s.data.toList := List.take_of_length_le (by simp; omega)
        rw [he] at hacc hall
        have HD : Hid (DigW s.data.toList v) := Lib.hid (by unfold DigW; rw [if_neg (by intro h; rcases h with h | h; exact H0.out h; rw [hall] at h; cases h)]; exact hacc)
        clear hacc hall he
        go_wp2
        go_ret
        exact ⟨v, HD.out, rfl, rfl⟩

theorem extract_tail (t : ByteArray) (c : UInt8) (r : List UInt8) (h : t.data.toList = c :: r) : (t.extract 1 t.size).data.toList = r := by
  have hsz : t.size = r.length + 1 := by
    have : t.size = t.data.toList.length := by simp
    rw [this, h]; rfl
  rw [ByteArray.data_extract, Array.toList_extract, h]
  simp [hsz]

theorem digW_cls {l : List UInt8} {x : Nat} (h : DigW l x) (neg : Bool) : ∃ c, Is c (if neg then Op.negFloat .f64 x else x) ∧ tellC c = digR neg l := by
  unfold DigW at h
  by_cases hl : l = [] ∨ l.all isDig = false
  · rw [if_pos hl] at h
    refine ⟨.nan, ?_, by unfold digR; rw [if_pos hl]; rfl⟩
    cases neg
    · exact h
    · exact neg_nan h.1 h.2
  · rw [if_neg hl] at h
    exact acc_cls neg hl h

def RetRead (r : Res) (w : World) (e : Ending) (w' : World) : Prop := ∃ v k, EncR r v k ∧ e = .returned (.tuple #[.float .f64 v, .int .i64 k]) ∧ Below w.heap.size w w'

theorem Trim_blanks (s : ByteArray) (w : World) (hs : s.size ≤ maxLen) :
    Calls Tryz.prog 177 #[.string s, .string ⟨#[9, 10, 13, 32]⟩] w fun e w' => ∃ t : ByteArray, t.data.toList = Lib.trimS s.data.toList blanksL ∧ e = .returned (.string t) ∧ Below w.heap.size w w' := by
  have h := Any.strings_Trim_laid Tryz.lays160 (by kernel_rfl) s ⟨#[9, 10, 13, 32]⟩ w (by unfold maxLen at hs; omega) (by decide) (ascii_of_all (by decide))
  change Calls Tryz.prog 177 _ _ _ at h
  exact h.mono fun e w' ⟨he, hb⟩ => ⟨_, rfl, he, hb⟩

theorem trim_length (l cs : List UInt8) : (Lib.trimS l cs).length ≤ l.length := by
  unfold Lib.trimS Lib.trimLeftS Lib.trimRightS
  refine Nat.le_trans (List.dropWhile_suffix _).length_le ?_
  rw [List.length_reverse]
  refine Nat.le_trans (List.dropWhile_suffix _).length_le ?_
  rw [List.length_reverse]; exact Nat.le_refl _

def TrimTo (s : ByteArray) (w : World) (e : Ending) (w' : World) : Prop := ∃ t : ByteArray, t.data.toList = Lib.trimS s.data.toList blanksL ∧ e = .returned (.string t) ∧ Below w.heap.size w w'

theorem bareR_cons (c : UInt8) (r : List UInt8) : bareR (c :: r) = if c = 45 then digR true r else if c = 43 then digR false r else digR false (c :: r) := rfl

theorem size_len (t : ByteArray) : t.size = t.data.toList.length := by simp

set_option maxHeartbeats 400000 in
theorem Read_any (s : ByteArray) (w : World) (hs : s.size ≤ maxLen) : Calls Tryz.prog 147 #[.string s] w (RetRead (readR s.data.toList) w) := by
  have ht : Calls Tryz.prog 177 #[.string s, .string ⟨#[9, 10, 13, 32]⟩] w (TrimTo s w) := Trim_blanks s w hs
  unfold readR
  have hlen := trim_length s.data.toList blanksL
  rw [← size_len] at hlen
  cases hb : Lib.trimS s.data.toList blanksL with
  | nil =>
    have HB := Lib.hid hb
    clear hb
    go_enter Tryz.func147, Tryz.ntmps147
    go_wp2_with (go_at_call 177; refine ht.mono ?_; rintro e w' ⟨t, h1, rfl, h2⟩; have hz : t.toList = [] := ((toList_data t).trans h1).trans HB.out; clear h1; have H2 := Lib.hid h2; clear h2)
    go_ret2
    exact ⟨_, _, ⟨⟨F_zero.symm, by unfold SafeN; omega⟩, rfl⟩, rfl, H2.out⟩
  | cons c r =>
    have hr0 : (c :: r).length ≤ s.size := by rw [← hb]; exact hlen
    have HB := Lib.hid hb
    clear hb hlen
    have key : ∀ t : ByteArray, t.data.toList = c :: r → 0 < t.size ∧ t.size ≤ maxLen ∧ t.toList.isEmpty = false ∧ (∀ h : 0 < t.size, t[0] = c) ∧ (t.extract 1 t.size).data.toList = r ∧ (t.extract 1 t.size).size ≤ maxLen := by
      intro t ht
      have h1 : t.size = r.length + 1 := by rw [size_len, ht]; rfl
      have h2 : (t.extract 1 t.size).data.toList = r := extract_tail t c r ht
      have h3 : (t.extract 1 t.size).size = r.length := by rw [size_len, h2]
      rw [List.length_cons] at hr0
      refine ⟨by omega, by omega, by rw [toList_data, ht]; rfl, fun h => ?_, h2, by omega⟩
      have : t[0] = t.data.toList[0]'(by rw [← size_len]; exact h) := by simp [ByteArray.getElem_eq_getElem_data]
      rw [this]; simp [ht]
    have KEY := Lib.hid key
    clear key
    rw [bareR_cons]
    by_cases c1 : c = 45
    · rw [if_pos c1]
      go_enter Tryz.func147, Tryz.ntmps147
      go_wp2_with (first
        | (go_at_call 177; refine ht.mono ?_; rintro e w' ⟨t, h1, rfl, h2⟩; obtain ⟨k1, k2, k3, k4, k5, k6⟩ := KEY.out t (h1.trans HB.out)
           have k7 : (t[0].toNat : Int) = 45 := by rw [k4 k1, c1]; rfl
           have k8 := fun w => digits_any (t.extract 1 t.size) w k6; rw [k5] at k8
           clear k4 k5 k6 h1; have H2 := Lib.hid h2; clear h2)
        | (go_at_call 178; refine (k8 _).mono ?_; rintro e w' ⟨x, hx, rfl, rfl⟩; obtain ⟨cx, hcx0, htl⟩ := digW_cls hx true; have hcx : Is cx (Op.negFloat .f64 x) := hcx0; have HT := Lib.hid htl; clear htl hx hcx0)
        | (go_at_call 179; refine (tell_cls hcx _).mono ?_; rintro e w' ⟨v, j, hj, rfl, rfl⟩))
      go_ret2
      exact ⟨v, j, by rw [← HT.out]; exact hj, rfl, H2.out⟩
    · rw [if_neg c1]
      have n1 : c.toNat ≠ 45 := fun h => c1 (UInt8.toNat_inj.1 h)
      by_cases c2 : c = 43
      · rw [if_pos c2]
        go_enter Tryz.func147, Tryz.ntmps147
        go_wp2_with (first
          | (go_at_call 177; refine ht.mono ?_; rintro e w' ⟨t, h1, rfl, h2⟩; obtain ⟨k1, k2, k3, k4, k5, k6⟩ := KEY.out t (h1.trans HB.out)
             have k7 : (t[0].toNat : Int) = 43 := by rw [k4 k1, c2]; rfl
             have k8 := fun w => digits_any (t.extract 1 t.size) w k6; rw [k5] at k8
             clear k4 k5 k6 h1; have H2 := Lib.hid h2; clear h2)
          | (go_at_call 178; refine (k8 _).mono ?_; rintro e w' ⟨x, hx, rfl, rfl⟩; obtain ⟨cx, hcx0, htl⟩ := digW_cls hx false; have hcx : Is cx x := hcx0; have HT := Lib.hid htl; clear htl hx hcx0)
          | (go_at_call 179; refine (tell_cls hcx _).mono ?_; rintro e w' ⟨v, j, hj, rfl, rfl⟩))
        go_ret2
        exact ⟨v, j, by rw [← HT.out]; exact hj, rfl, H2.out⟩
      · rw [if_neg c2]
        have n2 : c.toNat ≠ 43 := fun h => c2 (UInt8.toNat_inj.1 h)
        go_enter Tryz.func147, Tryz.ntmps147
        go_wp2_with (first
          | (go_at_call 177; refine ht.mono ?_; rintro e w' ⟨t, h1, rfl, h2⟩; obtain ⟨k1, k2, k3, k4, k5, k6⟩ := KEY.out t (h1.trans HB.out)
             have k7 : ((t[0].toNat : Int) == 45) = false := by rw [k4 k1]; simp; omega
             have k9 : ((t[0].toNat : Int) == 43) = false := by rw [k4 k1]; simp; omega
             have k8 := fun w => digits_any t w k2; rw [h1.trans HB.out] at k8
             clear k4 k5 k6 h1; have H2 := Lib.hid h2; clear h2)
          | (go_at_call 178; refine (k8 _).mono ?_; rintro e w' ⟨x, hx, rfl, rfl⟩; obtain ⟨cx, hcx0, htl⟩ := digW_cls hx false; have hcx : Is cx x := hcx0; have HT := Lib.hid htl; clear htl hx hcx0)
          | (go_at_call 179; refine (tell_cls hcx _).mono ?_; rintro e w' ⟨v, j, hj, rfl, rfl⟩))
        go_ret2
        exact ⟨v, j, by rw [← HT.out]; exact hj, rfl, H2.out⟩
end Go.Proofs.YtbeggameiedjgaaGreatDoor
/-
  NumBack: what package num reckoned is reckoned back, for every two floats: walks.
-/

namespace Go.Proofs.YtbeggameiedjgaaGreatDoor
open Go.RowKit Fl

def RetOk (n : Int) (w : World) (e : Ending) (w' : World) : Prop := ∃ m, e = .returned (.tuple #[.float .f64 (F n), .int .i64 0]) ∧ w' = w.drewN m
def RetBad (w : World) (e : Ending) (w' : World) : Prop := ∃ v k m, k ≠ 0 ∧ e = .returned (.tuple #[.float .f64 v, .int .i64 k]) ∧ w' = w.drewN m
theorem retR_ok {n : Int} {w : World} {e : Ending} {w' : World} (h : RetR (.ok n) w e w') : RetOk n w e w' := by
  obtain ⟨v, k, m, ⟨⟨rfl, _⟩, rfl⟩, h2, h3⟩ := h
  exact ⟨m, h2, h3⟩

theorem aliveE : EncR (sumR 2 3) (F 5) 0 := ⟨⟨rfl, by unfold SafeN; omega⟩, rfl⟩
def sizeV (b : Int) : Int := (b.natAbs : Int)
theorem is_ours {n : Int} (h : SafeN n) : Is (.ours n) (F n) := ⟨rfl, h⟩
def Drawn (w w' : World) : Prop := ∃ n, w' = w.drewN n

def selfO (c : Cl) : Option Ordering := match c with
  | .nan => none
  | _ => some .eq
theorem self_cls {c : Cl} {x : Nat} (h : Is c x) : FloatKind.f64.format.order x x = selfO c := by
  cases c with
  | nan => exact order_nan_l x h.2
  | other => exact order_self (other_not_nan h)
  | ours n => obtain ⟨rfl, hs⟩ := h; exact order_self (not_nan_F n hs.abs)

/-- what comes of a reckoning that tells n -/
def OkAt (x : Nat) (w : World) (e : Ending) (w' : World) : Prop := ∃ m, e = .returned (.tuple #[.float .f64 x, .int .i64 0]) ∧ w' = w.drewN m
theorem okAt {n : Int} {x : Nat} (hx : F n = x) {w : World} {e : Ending} {w' : World} (h : RetR (.ok n) w e w') : OkAt x w e w' := by
  obtain ⟨v, k, m, ⟨⟨rfl, _⟩, rfl⟩, h2, h3⟩ := h
  exact ⟨m, by rw [← hx]; exact h2, h3⟩

theorem tellN_cases (n : Int) : (tellN n = .ok n ∧ SafeN n) ∨ tellN n = .err 10 := by
  unfold tellN
  by_cases c : -9007199254740991 ≤ n ∧ n ≤ 9007199254740991
  · exact Or.inl ⟨if_pos c, c⟩
  · exact Or.inr (if_neg c)

theorem tellN_ok {n : Int} (h : SafeN n) : tellN n = .ok n := if_pos h

theorem mul_back {a b : Int} (ha : SafeN a) (b0 : b ≠ 0) (hab : a ≠ 0 ∨ 0 < b) : (∃ p, mulR a b = .ok p ∧ SafeN p ∧ divR p b = .ok a) ∨ mulR a b = .err 10 := by
  unfold mulR
  by_cases c : a = 0 ∨ b = 0
  · rw [if_pos c]
    have a0 : a = 0 := c.resolve_right b0
    subst a0
    have hb : ¬ ((0 : Int) < 0 ∨ b < 0) := by omega
    rw [if_neg hb]
    refine Or.inl ⟨0, rfl, by unfold SafeN; omega, ?_⟩
    unfold divR
    rw [if_neg b0, if_pos rfl, if_neg (by omega)]
  · rw [if_neg c]
    rcases tellN_cases (a * b) with ⟨h1, h2⟩ | h
    · refine Or.inl ⟨_, h1, h2, ?_⟩
      have a0 : a ≠ 0 := fun e => c (Or.inl e)
      have p0 : a * b ≠ 0 := Int.mul_ne_zero a0 b0
      unfold divR
      rw [if_neg b0, if_neg p0, if_neg (by rw [Int.mul_tmod_left]; simp), Int.mul_tdiv_cancel _ b0]
    · exact Or.inr h

theorem div_back {a b : Int} (ha : SafeN a) (b0 : b ≠ 0) : (∃ q, divR a b = .ok q ∧ SafeN q ∧ mulR q b = .ok a) ∨ divR a b = .err 10 := by
  unfold divR
  rw [if_neg b0]
  by_cases a0 : a = 0
  · subst a0
    rw [if_pos rfl]
    by_cases c : b < 0
    · rw [if_pos c]; exact Or.inr rfl
    · rw [if_neg c]
      refine Or.inl ⟨0, rfl, by unfold SafeN; omega, ?_⟩
      unfold mulR
      rw [if_pos (Or.inl rfl), if_neg (by omega)]
  · rw [if_neg a0]
    by_cases m : a.tmod b = 0
    · rw [if_neg (by simp [m])]
      have hq : a.tdiv b * b = a := by
        have := Int.tmod_add_mul_tdiv a b
        rw [m, Int.zero_add, Int.mul_comm] at this; exact this
      have q0 : a.tdiv b ≠ 0 := by intro e; rw [e, Int.zero_mul] at hq; exact a0 hq.symm
      have h1 : (a.tdiv b).natAbs ≤ a.natAbs := by rw [Int.natAbs_tdiv]; exact Nat.div_le_self _ _
      refine Or.inl ⟨_, rfl, by unfold SafeN at *; omega, ?_⟩
      unfold mulR
      rw [if_neg (by intro e; rcases e with e | e; exact q0 e; exact b0 e), hq]
      exact tellN_ok ha
    · rw [if_pos m]; exact Or.inr rfl

theorem rem_back {a b : Int} (ha : SafeN a) (hb : SafeN b) (b0 : b ≠ 0) :
    (∃ r t, remR a b = .ok r ∧ SafeN r ∧ t = a - r ∧ subR a r = .ok t ∧ SafeN t ∧ (t = 0 → r = a) ∧ (t ≠ 0 → ∃ q, SafeN q ∧ divR t b = .ok q) ∧ (r = 0 ∨ (0 < r ∧ 0 < a) ∨ (r < 0 ∧ a < 0)) ∧ -(b.natAbs : Int) < r ∧ r < (b.natAbs : Int)) ∨ remR a b = .err 10 := by
  unfold remR
  rw [if_neg b0]
  by_cases c : a < 0 ∧ a.tmod b = 0
  · rw [if_pos c]; exact Or.inr rfl
  · rw [if_neg c]
    left
    have h1 : (a.tmod b).natAbs = a.natAbs % b.natAbs := Int.natAbs_tmod a b
    have h2 : a.natAbs % b.natAbs < b.natAbs := Nat.mod_lt _ (by omega)
    have h3 : a.natAbs % b.natAbs ≤ a.natAbs := Nat.mod_le _ _
    have h4 := Int.tmod_add_mul_tdiv a b
    have hsgn : (0 ≤ a ∧ 0 ≤ a.tmod b) ∨ (a < 0 ∧ a.tmod b ≤ 0) := by
      by_cases s : a < 0
      · right; refine ⟨s, ?_⟩
        rw [tmod_neg a b s]; omega
      · left; exact ⟨by omega, Int.tmod_nonneg b (by omega)⟩
    have hst : SafeN (a - a.tmod b) := by unfold SafeN at *; omega
    refine ⟨_, _, rfl, by unfold SafeN at *; omega, rfl, tellN_ok hst, hst, fun e => by omega, fun e => ?_, by omega, by omega, by omega⟩
    have e2 : a - a.tmod b = a.tdiv b * b := by rw [Int.mul_comm]; omega
    unfold divR
    rw [if_neg b0, if_neg e, e2, if_neg (by rw [Int.mul_tmod_left]; simp), Int.mul_tdiv_cancel _ b0]
    have h5 : (a.tdiv b).natAbs ≤ a.natAbs := by rw [Int.natAbs_tdiv]; exact Nat.div_le_self _ _
    exact ⟨_, by unfold SafeN at *; omega, rfl⟩

theorem order_zero {n : Int} (h : SafeN n) : FloatKind.f64.format.order (F n) 0 = some (compare n 0) := by
  have := order_F n 0 h.abs (by decide)
  rw [F_zero] at this
  exact this
end Go.Proofs.YtbeggameiedjgaaGreatDoor
/-
  Text of package num beside the document's own, for every float: walks.
-/
namespace Go.Proofs.YtbeggameiedjgaaGreatDoor
open Go.RowKit Fl

def textL (c : Cl) : List UInt8 := match c with
  | .nan => [78, 97, 78]
  | .other => []
  | .ours n => Lib.itoa n
def TextTo (l : List UInt8) (w : World) (e : Ending) (w' : World) : Prop := ∃ t : ByteArray, t.data.toList = l ∧ e = .returned (.string t) ∧ Below w.heap.size w w'

theorem grow_below (w : World) (k : Nat) (os : Array Obj) : Below w.heap.size w (Sort.grow (w.drewN k) os) := by
  refine ⟨rfl, rfl, rfl, ?_, fun i hi => ?_⟩
  · show w.heap.size ≤ (w.heap ++ os).size
    simp
  · show (w.heap ++ os)[i]? = w.heap[i]?
    rw [Array.getElem?_append_left hi]

theorem encode_one (k : Nat) (hk : k < 10) : Utf8.encode (48 + (k : Int)) = ⟨#[UInt8.ofNat (48 + k)]⟩ := by
  have : k = 0 ∨ k = 1 ∨ k = 2 ∨ k = 3 ∨ k = 4 ∨ k = 5 ∨ k = 6 ∨ k = 7 ∨ k = 8 ∨ k = 9 := by omega
  rcases this with rfl | rfl | rfl | rfl | rfl | rfl | rfl | rfl | rfl | rfl <;> decide

theorem size_one (b : UInt8) : (⟨#[b]⟩ : ByteArray).size = 1 := rfl
theorem decDigits_big (k : Nat) (h : 10 ≤ k) : Lib.decDigits k = Lib.decDigits (k / 10) ++ [UInt8.ofNat (48 + k % 10)] := by
  rw [Lib.decDigits]; rw [dif_neg (by omega)]
theorem decDigits_one (k : Nat) (h : k < 10) : Lib.decDigits k = [UInt8.ofNat (48 + k)] := by
  rw [Lib.decDigits]; rw [dif_pos h]

theorem decDigits_len (k : Nat) : (Lib.decDigits k).length ≤ k + 1 := by
  induction k using Nat.strongRecOn with
  | _ k ih =>
    by_cases c : k < 10
    · rw [decDigits_one k c]; simp
    · rw [decDigits_big k (by omega), List.length_append]
      have := ih (k / 10) (by omega)
      simp only [List.length_cons, List.length_nil]; omega

theorem Text_cls {c : Cl} {x : Nat} (h : Is c x) (w : World) (htab : Lib.TabIs Tryz.prog w "internal/strconv.uint64pow10" .u64 Lib.pow10Tab) :
    Calls Tryz.prog 143 #[.float .f64 x] w (TextTo (textL c) w) := by
  have m := fun w => May_cls h w
  have ho := self_cls h
  cases c with
  | nan =>
    dsimp only [selfO] at ho
    go_enter Tryz.func143, Tryz.ntmps143
    go_wp2_with (go_at_call 173; refine (none_any _ _).mono ?_; rintro e w' ⟨rfl, rfl⟩)
    go_ret
    exact ⟨_, rfl, rfl, Below.refl _ _⟩
  | other =>
    dsimp only [selfO] at ho
    dsimp only [mayC] at m
    go_enter Tryz.func143, Tryz.ntmps143
    go_wp2_with (first | (go_at_call 173; refine (none_any _ _).mono ?_; rintro e w' ⟨rfl, rfl⟩) | (go_at_call 165; refine (m _).mono ?_; rintro e w' ⟨rfl, rfl⟩))
    go_ret
    exact ⟨_, rfl, rfl, Below.refl _ _⟩
  | ours n =>
    dsimp only [selfO] at ho
    dsimp only [mayC] at m
    obtain ⟨rfl, hs⟩ := h
    have hc := fun w => conv_run (floatToIntVal_F n hs.abs) w
    have hF := Tryz.strconv_FormatInt_10 n (by have := hs.1; omega) (by have := hs.2; omega) w htab
    have hF' : Calls Tryz.prog 174 #[.int .i64 n, .int .i64 10] w (TextTo (Lib.itoa n) w) := hF.mono fun e w' ⟨he, k, os, hw⟩ => ⟨_, rfl, he, by rw [hw]; exact grow_below w k os⟩
    clear hF htab hs
    show Calls _ _ _ _ (TextTo (Lib.itoa n) w)
    generalize F n = x at *
    go_enter Tryz.func143, Tryz.ntmps143
    go_wp2_with (first | (go_at_call 173; refine (none_any _ _).mono ?_; rintro e w' ⟨rfl, rfl⟩) | (go_at_call 165; refine (m _).mono ?_; rintro e w' ⟨rfl, rfl⟩) | (go_at_call 174; refine hF'.mono ?_; rintro e w' ⟨t, ht, rfl, hB⟩))
    go_ret
    exact ⟨t, ht, rfl, hB⟩
end Go.Proofs.YtbeggameiedjgaaGreatDoor
