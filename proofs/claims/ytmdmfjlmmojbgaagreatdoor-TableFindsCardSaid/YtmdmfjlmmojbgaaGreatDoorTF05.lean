/-
  DERIVED: THE SHELF's CONTRACTS AT THIS DUMP, IN PLAIN WORDS (tools/lay-plain.mjs out of 'YtmdmfjlmmojbgaaGreatDoorShelfTry.lean', which tools/lay-shelf.mjs wrote): THE SAME DECLARATIONS UNDER THE SAME NAMES: 'import', 'namespace', 'open', 'def', 'theorem' AND NOTHING ELSE: no command of the shelf's: FOR A HAND-IN. Each laying: the table of numbers ('.._ren') and one theorem, a field a fact of the dump's own or the kernel's comparison; each contract: ONE APPLICATION.
-/
import Derived.Shelf.Strings.SlTrimAscii
import Derived.Shelf.LaysM
import Derived.Shelf.Strconv.Itoa4
import Derived.Test.YtmdmfjlmmojbgaaGreatDoorProg
import Derived.Test.YtmdmfjlmmojbgaaGreatDoorTF03
import Derived.Test.YtmdmfjlmmojbgaaGreatDoorTF04
import Derived.Lib.SlTrimSet
namespace Go.Proofs
open Go.Shelf
def Tryz.lays160_ren : Go.Shelf.Ren := ⟨fun | 160 => 72 | 232 => 82 | 231 => 81 | 227 => 83 | 234 => 85 | 233 => 84 | 236 => 87 | 235 => 86 | 228 => 94 | 271 => 97 | 151 => 96 | 197 => 95 | 120 => 105 | 152 => 104 | 260 => 103 | 137 => 112 | 119 => 113 | 224 => 114 | 225 => 115 | 217 => 121 | 266 => 124 | n => n, fun | 9 => 9 | 4 => 4 | 3 => 3 | 5 => 5 | 117 => 118 | 116 => 117 | 0 => 0 | 124 => 121 | 21 => 21 | 105 => 127 | 46 => 113 | 119 => 140 | 139 => 143 | 138 => 142 | n => n, fun | 3 => 1 | 4 => 2 | n => n⟩
theorem Tryz.lays160 : Go.Proofs.Lays.n160 Tryz.prog Tryz.lays160_ren := {
  mixed := by kernel_rfl
  f119 := Tryz.func113.trans (congrArg some (by kernel_rfl))
  f120 := Tryz.func105.trans (congrArg some (by kernel_rfl))
  f137 := Tryz.func112.trans (congrArg some (by kernel_rfl))
  f151 := Tryz.func96.trans (congrArg some (by kernel_rfl))
  f152 := Tryz.func104.trans (congrArg some (by kernel_rfl))
  f160 := Tryz.func72.trans (congrArg some (by kernel_rfl))
  f197 := Tryz.func95.trans (congrArg some (by kernel_rfl))
  f217 := Tryz.func121.trans (congrArg some (by kernel_rfl))
  f224 := Tryz.func114.trans (congrArg some (by kernel_rfl))
  f225 := Tryz.func115.trans (congrArg some (by kernel_rfl))
  f227 := Tryz.func83.trans (congrArg some (by kernel_rfl))
  f228 := Tryz.func94.trans (congrArg some (by kernel_rfl))
  f231 := Tryz.func81.trans (congrArg some (by kernel_rfl))
  f232 := Tryz.func82.trans (congrArg some (by kernel_rfl))
  f233 := Tryz.func84.trans (congrArg some (by kernel_rfl))
  f234 := Tryz.func85.trans (congrArg some (by kernel_rfl))
  f235 := Tryz.func86.trans (congrArg some (by kernel_rfl))
  f236 := Tryz.func87.trans (congrArg some (by kernel_rfl))
  f260 := Tryz.func103.trans (congrArg some (by kernel_rfl))
  f266 := Tryz.func124.trans (congrArg some (by kernel_rfl))
  f271 := Tryz.func97.trans (congrArg some (by kernel_rfl))
  t0 := Tryz.underlying0
  a0 := Tryz.isAgg0
  z0 := Tryz.sizeOf0
  v0 := Tryz.zeroValue0
  t3 := Tryz.underlying3
  a3 := Tryz.isAgg3
  z3 := Tryz.sizeOf3
  v3 := Tryz.zeroValue3
  t4 := Tryz.underlying4
  a4 := Tryz.isAgg4
  z4 := Tryz.sizeOf4
  v4 := Tryz.zeroValue4
  t5 := Tryz.underlying5
  a5 := Tryz.isAgg5
  z5 := Tryz.sizeOf5
  v5 := Tryz.zeroValue5
  t9 := Tryz.underlying9
  a9 := Tryz.isAgg9
  z9 := Tryz.sizeOf9
  v9 := Tryz.zeroValue9
  t21 := Tryz.underlying21
  a21 := Tryz.isAgg21
  z21 := Tryz.sizeOf21
  v21 := Tryz.zeroValue21
  t46 := Tryz.underlying113
  a46 := Tryz.isAgg113
  z46 := Tryz.sizeOf113
  v46 := Tryz.zeroValue113
  t105 := Tryz.underlying127
  a105 := Tryz.isAgg127
  z105 := Tryz.sizeOf127
  v105 := Tryz.zeroValue127
  t116 := Tryz.underlying117
  a116 := Tryz.isAgg117
  z116 := Tryz.sizeOf117
  t117 := Tryz.underlying118
  a117 := Tryz.isAgg118
  z117 := Tryz.sizeOf118
  v117 := Tryz.zeroValue118
  t119 := Tryz.underlying140
  a119 := Tryz.isAgg140
  z119 := Tryz.sizeOf140
  t124 := Tryz.underlying121
  a124 := Tryz.isAgg121
  z124 := Tryz.sizeOf121
  v124 := Tryz.zeroValue121
  t138 := Tryz.underlying142
  a138 := Tryz.isAgg142
  z138 := Tryz.sizeOf142
  v138 := Tryz.zeroValue142
  t139 := Tryz.underlying143
  a139 := Tryz.isAgg143
  z139 := Tryz.sizeOf143
  v139 := Tryz.zeroValue143
  g3 := by kernel_rfl
  g4 := by kernel_rfl }
open Go.RowKit in
/-- strings.Trim at an ASCII cutset. -/
theorem Tryz.strings_Trim (s cutset : ByteArray) (w : World) (hs : s.size ≤ 9223372036854775807) (hcs : cutset.size < 4294967281) (hascii : ∀ (j : Nat) (b : UInt8), cutset.data.toList[j]? = some b → b.toNat < 128) :
    Calls Tryz.prog 72 #[.string s, .string cutset] w fun e w' => e = .returned (.string ⟨(Lib.trimS s.data.toList cutset.data.toList).toArray⟩) ∧ Below w.heap.size w w' := Any.strings_Trim_laid Tryz.lays160 (by kernel_rfl) s cutset w hs hcs hascii
end Go.Proofs
/-
  Read of package num: what a text is worth, for every text: walks.
-/
namespace Go.Proofs.YtmdmfjlmmojbgaaGreatDoor
open Go.RowKit Fl

theorem F_10 : F 10 = 4621819117588971520 := by decide

/-- what 'digits' gives -/
def DigW (l : List UInt8) (x : Nat) : Prop := if l = [] ∨ l.all isDig = false then Is .nan x else Acc (valD l) x
def RetDig (l : List UInt8) (w : World) (e : Ending) (w' : World) : Prop := ∃ x, DigW l x ∧ e = .returned (.float .f64 x) ∧ w = w'

theorem all_take_snoc (s : ByteArray) (k : Nat) (h : k < s.size) : (s.data.toList.take (k + 1)).all isDig = ((s.data.toList.take k).all isDig && isDig s[k]) := by
  rw [take_snoc s k h, List.all_append]; simp

theorem not_all (s : ByteArray) (k : Nat) (h : k < s.size) (hd : isDig s[k] = false) : s.data.toList.all isDig = false := by
  rw [List.all_eq_false]
  exact ⟨s[k], by simp [ByteArray.getElem_eq_getElem_data], by simp [hd]⟩

theorem acc_zero : Acc (valD []) 0 := Or.inl ⟨by decide, by decide⟩

theorem toList_data (s : ByteArray) : s.toList = s.data.toList := Go.ByteArray.toList_eq s

theorem isDig_iff (c : UInt8) : isDig c = true ↔ 48 ≤ c.toNat ∧ c.toNat ≤ 57 := by unfold isDig; simp
theorem isDig_no (c : UInt8) (h : c.toNat < 48 ∨ 57 < c.toNat) : isDig c = false := by
  unfold isDig; rcases h with h | h
  · rw [decide_eq_false (by omega)]; rfl
  · rw [decide_eq_false (p := c.toNat ≤ 57) (by omega), Bool.and_false]

set_option maxHeartbeats 400000 in
theorem digits_any (s : ByteArray) (w : World) (hs : s.size ≤ maxLen) : Calls Tryz.prog 73 #[.string s] w (RetDig s.data.toList w) := by
  unfold maxLen at hs
  by_cases h0 : s.data.toList = []
  · have hz : s.toList = [] := (toList_data s).trans h0
    have hd : DigW s.data.toList 9221120237041090561 := by unfold DigW; rw [if_pos (Or.inl h0)]; exact is_uvnan
    have HD := Lib.hid hd
    clear hd h0
    go_enter Tryz.func73, Tryz.ntmps73
    go_wp2_with (go_at_call 88; refine (NaN_any _).mono ?_; rintro e w' ⟨rfl, rfl⟩)
    go_ret
    exact ⟨_, HD.out, rfl, rfl⟩
  · have hz : s.toList.isEmpty = false := by rw [toList_data]; simpa using h0
    have H0 := Lib.hid h0
    clear h0
    go_enter Tryz.func73, Tryz.ntmps73
    go_wp2_with (fail)
    clear hz
    go_loop [3, 4] (fun x i => ∃ (k v : Nat), k ≤ s.size ∧ i = .int .i64 k ∧ x = .float .f64 v ∧ Acc (valD (s.data.toList.take k)) v ∧ (s.data.toList.take k).all isDig = true) (fun _ i => s.size - (intOf i).toNat)
    case atStart => exact ⟨0, 0, Nat.zero_le _, rfl, rfl, by rw [List.take_zero]; exact acc_zero, by rw [List.take_zero]; rfl⟩
    case round =>
      obtain ⟨k, v, hk, rfl, rfl, hacc, hall⟩ := hrel
      by_cases hlt : k < s.size
      · obtain ⟨c, hc⟩ : ∃ c, c = s[k] := ⟨_, rfl⟩
        have hsn := Lib.hid (take_snoc s k hlt)
        have hc255 : c.toNat < 256 := c.toNat_lt
        by_cases h1 : c.toNat < 48
        · have hna := Lib.hid (not_all s k hlt (isDig_no _ (Or.inl (by rw [← hc]; exact h1))))
          have h1' : ((s[k].toNat : Nat) : Int) < 48 := by rw [← hc]; omega
          clear hacc hall hsn h1 hc
          go_wp2_with (go_at_call 88; refine (NaN_any _).mono ?_; rintro e w' ⟨rfl, rfl⟩)
          go_ret
          exact ⟨_, by unfold DigW; rw [if_pos (Or.inr hna.out)]; exact is_uvnan, rfl, rfl⟩
        · by_cases h2 : 57 < c.toNat
          · have hna := Lib.hid (not_all s k hlt (isDig_no _ (Or.inr (by rw [← hc]; exact h2))))
            have h1' : ¬ ((s[k].toNat : Nat) : Int) < 48 := by rw [← hc]; omega
            have h2' : 57 < ((s[k].toNat : Nat) : Int) := by rw [← hc]; omega
            clear hacc hall hsn h1 h2 hc
            go_wp2_with (go_at_call 88; refine (NaN_any _).mono ?_; rintro e w' ⟨rfl, rfl⟩)
            go_ret
            exact ⟨_, by unfold DigW; rw [if_pos (Or.inr hna.out)]; exact is_uvnan, rfl, rfl⟩
          · obtain ⟨v1, v2, hm, ha, hacc2⟩ := acc_step hacc (show c.toNat - 48 ≤ 9 by omega)
            have hall2 : (s.data.toList.take (k + 1)).all isDig = true := by
              rw [all_take_snoc s k hlt, hall, Bool.true_and]
              exact (isDig_iff _).2 (by rw [← hc]; omega)
            have hval : valD (s.data.toList.take (k + 1)) = valD (s.data.toList.take k) * 10 + (c.toNat - 48) := by rw [hsn.out, valD_snoc, ← hc]
            have HV := Lib.hid hval
            have HA2 := Lib.hid hall2
            have HAC := Lib.hid hacc2
            rw [F_10] at hm
            have e1 : ((c.toNat - 48 : Nat) : Int) = ((s[k].toNat : Nat) : Int) - 48 := by rw [← hc]; omega
            rw [e1] at ha
            have hm' := fun w => run_float_arith (P := Tryz.prog) w .mul 24 .f64 _ _ _ hm
            have ha' := fun w => run_float_arith (P := Tryz.prog) w .add 24 .f64 _ _ _ ha
            have h1' : ¬ ((s[k].toNat : Nat) : Int) < 48 := by rw [← hc]; omega
            have h2' : ¬ 57 < ((s[k].toNat : Nat) : Int) := by rw [← hc]; omega
            clear hacc hall hsn h1 h2 hm ha e1 hval hall2 hacc2 hc
            go_wp2
            go_round
            case rel => exact ⟨k + 1, v2, by omega, by go_num, rfl, by rw [HV.out]; exact HAC.out, HA2.out⟩
            case measure => simp [intOf]; omega
      · have he : s.data.toList.take k = s.data.toList := List.take_of_length_le (by simp; omega)
        rw [he] at hacc hall
        have HD : Hid (DigW s.data.toList v) := Lib.hid (by unfold DigW; rw [if_neg (by intro h; rcases h with h | h; exact H0.out h; rw [hall] at h; cases h)]; exact hacc)
        clear hacc hall he
        go_wp2
        go_ret
        exact ⟨v, HD.out, rfl, rfl⟩

theorem extract_tail (t : ByteArray) (c : UInt8) (r : List UInt8) (h : t.data.toList = c :: r) : (t.extract 1 t.size).data.toList = r := by
  have hsz : t.size = r.length + 1 := by
    have : t.size = t.data.toList.length := by simp
    rw [this, h]; rfl
  rw [ByteArray.data_extract, Array.toList_extract, h]
  simp [hsz]

theorem digW_cls {l : List UInt8} {x : Nat} (h : DigW l x) (neg : Bool) : ∃ c, Is c (if neg then Op.negFloat .f64 x else x) ∧ tellC c = digR neg l := by
  unfold DigW at h
  by_cases hl : l = [] ∨ l.all isDig = false
  · rw [if_pos hl] at h
    refine ⟨.nan, ?_, by unfold digR; rw [if_pos hl]; rfl⟩
    cases neg
    · exact h
    · exact neg_nan h.1 h.2
  · rw [if_neg hl] at h
    exact acc_cls neg hl h

def RetRead (r : Res) (w : World) (e : Ending) (w' : World) : Prop := ∃ v k, EncR r v k ∧ e = .returned (.tuple #[.float .f64 v, .int .i64 k]) ∧ Below w.heap.size w w'

theorem Trim_blanks (s : ByteArray) (w : World) (hs : s.size ≤ maxLen) :
    Calls Tryz.prog 72 #[.string s, .string ⟨#[9, 10, 13, 32]⟩] w fun e w' => ∃ t : ByteArray, t.data.toList = Lib.trimS s.data.toList blanksL ∧ e = .returned (.string t) ∧ Below w.heap.size w w' := by
  have h := Any.strings_Trim_laid Tryz.lays160 (by kernel_rfl) s ⟨#[9, 10, 13, 32]⟩ w (by unfold maxLen at hs; omega) (by decide) (ascii_of_all (by decide))
  change Calls Tryz.prog 72 _ _ _ at h
  exact h.mono fun e w' ⟨he, hb⟩ => ⟨_, rfl, he, hb⟩

theorem trim_length (l cs : List UInt8) : (Lib.trimS l cs).length ≤ l.length := by
  unfold Lib.trimS Lib.trimLeftS Lib.trimRightS
  refine Nat.le_trans (List.dropWhile_suffix _).length_le ?_
  rw [List.length_reverse]
  refine Nat.le_trans (List.dropWhile_suffix _).length_le ?_
  rw [List.length_reverse]; exact Nat.le_refl _

def TrimTo (s : ByteArray) (w : World) (e : Ending) (w' : World) : Prop := ∃ t : ByteArray, t.data.toList = Lib.trimS s.data.toList blanksL ∧ e = .returned (.string t) ∧ Below w.heap.size w w'

theorem bareR_cons (c : UInt8) (r : List UInt8) : bareR (c :: r) = if c = 45 then digR true r else if c = 43 then digR false r else digR false (c :: r) := rfl

theorem size_len (t : ByteArray) : t.size = t.data.toList.length := by simp

set_option maxHeartbeats 400000 in
theorem Read_any (s : ByteArray) (w : World) (hs : s.size ≤ maxLen) : Calls Tryz.prog 53 #[.string s] w (RetRead (readR s.data.toList) w) := by
  have ht : Calls Tryz.prog 72 #[.string s, .string ⟨#[9, 10, 13, 32]⟩] w (TrimTo s w) := Trim_blanks s w hs
  unfold readR
  have hlen := trim_length s.data.toList blanksL
  rw [← size_len] at hlen
  cases hb : Lib.trimS s.data.toList blanksL with
  | nil =>
    have HB := Lib.hid hb
    clear hb
    go_enter Tryz.func53, Tryz.ntmps53
    go_wp2_with (go_at_call 72; refine ht.mono ?_; rintro e w' ⟨t, h1, rfl, h2⟩; have hz : t.toList = [] := ((toList_data t).trans h1).trans HB.out; clear h1; have H2 := Lib.hid h2; clear h2)
    go_ret2
    exact ⟨_, _, ⟨⟨F_zero.symm, by unfold SafeN; omega⟩, rfl⟩, rfl, H2.out⟩
  | cons c r =>
    have hr0 : (c :: r).length ≤ s.size := by rw [← hb]; exact hlen
    have HB := Lib.hid hb
    clear hb hlen
    have key : ∀ t : ByteArray, t.data.toList = c :: r → 0 < t.size ∧ t.size ≤ maxLen ∧ t.toList.isEmpty = false ∧ (∀ h : 0 < t.size, t[0] = c) ∧ (t.extract 1 t.size).data.toList = r ∧ (t.extract 1 t.size).size ≤ maxLen := by
      intro t ht
      have h1 : t.size = r.length + 1 := by rw [size_len, ht]; rfl
      have h2 : (t.extract 1 t.size).data.toList = r := extract_tail t c r ht
      have h3 : (t.extract 1 t.size).size = r.length := by rw [size_len, h2]
      rw [List.length_cons] at hr0
      refine ⟨by omega, by omega, by rw [toList_data, ht]; rfl, fun h => ?_, h2, by omega⟩
      have : t[0] = t.data.toList[0]'(by rw [← size_len]; exact h) := by simp [ByteArray.getElem_eq_getElem_data]
      rw [this]; simp [ht]
    have KEY := Lib.hid key
    clear key
    rw [bareR_cons]
    by_cases c1 : c = 45
    · rw [if_pos c1]
      go_enter Tryz.func53, Tryz.ntmps53
      go_wp2_with (first
        | (go_at_call 72; refine ht.mono ?_; rintro e w' ⟨t, h1, rfl, h2⟩; obtain ⟨k1, k2, k3, k4, k5, k6⟩ := KEY.out t (h1.trans HB.out)
           have k7 : (t[0].toNat : Int) = 45 := by rw [k4 k1, c1]; rfl
           have k8 := fun w => digits_any (t.extract 1 t.size) w k6; rw [k5] at k8
           clear k4 k5 k6 h1; have H2 := Lib.hid h2; clear h2)
        | (go_at_call 73; refine (k8 _).mono ?_; rintro e w' ⟨x, hx, rfl, rfl⟩; obtain ⟨cx, hcx0, htl⟩ := digW_cls hx true; have hcx : Is cx (Op.negFloat .f64 x) := hcx0; have HT := Lib.hid htl; clear htl hx hcx0)
        | (go_at_call 74; refine (tell_cls hcx _).mono ?_; rintro e w' ⟨v, j, hj, rfl, rfl⟩))
      go_ret2
      exact ⟨v, j, by rw [← HT.out]; exact hj, rfl, H2.out⟩
    · rw [if_neg c1]
      have n1 : c.toNat ≠ 45 := fun h => c1 (UInt8.toNat_inj.1 h)
      by_cases c2 : c = 43
      · rw [if_pos c2]
        go_enter Tryz.func53, Tryz.ntmps53
        go_wp2_with (first
          | (go_at_call 72; refine ht.mono ?_; rintro e w' ⟨t, h1, rfl, h2⟩; obtain ⟨k1, k2, k3, k4, k5, k6⟩ := KEY.out t (h1.trans HB.out)
             have k7 : (t[0].toNat : Int) = 43 := by rw [k4 k1, c2]; rfl
             have k8 := fun w => digits_any (t.extract 1 t.size) w k6; rw [k5] at k8
             clear k4 k5 k6 h1; have H2 := Lib.hid h2; clear h2)
          | (go_at_call 73; refine (k8 _).mono ?_; rintro e w' ⟨x, hx, rfl, rfl⟩; obtain ⟨cx, hcx0, htl⟩ := digW_cls hx false; have hcx : Is cx x := hcx0; have HT := Lib.hid htl; clear htl hx hcx0)
          | (go_at_call 74; refine (tell_cls hcx _).mono ?_; rintro e w' ⟨v, j, hj, rfl, rfl⟩))
        go_ret2
        exact ⟨v, j, by rw [← HT.out]; exact hj, rfl, H2.out⟩
      · rw [if_neg c2]
        have n2 : c.toNat ≠ 43 := fun h => c2 (UInt8.toNat_inj.1 h)
        go_enter Tryz.func53, Tryz.ntmps53
        go_wp2_with (first
          | (go_at_call 72; refine ht.mono ?_; rintro e w' ⟨t, h1, rfl, h2⟩; obtain ⟨k1, k2, k3, k4, k5, k6⟩ := KEY.out t (h1.trans HB.out)
             have k7 : ((t[0].toNat : Int) == 45) = false := by rw [k4 k1]; simp; omega
             have k9 : ((t[0].toNat : Int) == 43) = false := by rw [k4 k1]; simp; omega
             have k8 := fun w => digits_any t w k2; rw [h1.trans HB.out] at k8
             clear k4 k5 k6 h1; have H2 := Lib.hid h2; clear h2)
          | (go_at_call 73; refine (k8 _).mono ?_; rintro e w' ⟨x, hx, rfl, rfl⟩; obtain ⟨cx, hcx0, htl⟩ := digW_cls hx false; have hcx : Is cx x := hcx0; have HT := Lib.hid htl; clear htl hx hcx0)
          | (go_at_call 74; refine (tell_cls hcx _).mono ?_; rintro e w' ⟨v, j, hj, rfl, rfl⟩))
        go_ret2
        exact ⟨v, j, by rw [← HT.out]; exact hj, rfl, H2.out⟩
end Go.Proofs.YtmdmfjlmmojbgaaGreatDoor
