/-
  Read of package num: what a text is worth, for every text: walks.
-/
import Derived.Test.YtlfbflclefndjaaGreatDoorKE02
import Derived.Lib.SlTrimSet
import Derived.Lib.AppendIntMem
import Derived.Laws.Bits64b
import Derived.Test.YtlfbflclefndjaaGreatDoorChecked
import Derived.Test.YtlfbflclefndjaaGreatDoorKE01
import Derived.WalkKit
import Derived.WalkSpells
import Derived.WalkLawsBesides
import Derived.Lib.Hide
import Derived.Below
import Derived.Deep.Draws
import Derived.Shelf.LaysM
import Derived.Shelf.Strconv.Itoa3
import Derived.Test.YtlfbflclefndjaaGreatDoorProg
import Derived.Lib.ItoaLen
namespace Go.Proofs.YtlfbflclefndjaaGreatDoor
open Go.RowKit Fl

theorem F_10 : F 10 = 4621819117588971520 := by decide

/-- what 'digits' gives -/
def DigW (l : List UInt8) (x : Nat) : Prop := if l = [] ∨ l.all isDig = false then Is .nan x else Acc (valD l) x
def RetDig (l : List UInt8) (w : World) (e : Ending) (w' : World) : Prop := ∃ x, DigW l x ∧ e = .returned (.float .f64 x) ∧ w = w'

theorem all_take_snoc (s : ByteArray) (k : Nat) (h : k < s.size) : (s.data.toList.take (k + 1)).all isDig = ((s.data.toList.take k).all isDig && isDig s[k]) := by
  rw [take_snoc s k h, List.all_append]; simp

theorem not_all (s : ByteArray) (k : Nat) (h : k < s.size) (hd : isDig s[k] = false) : s.data.toList.all isDig = false := by
  rw [List.all_eq_false]
  exact ⟨s[k], by simp [ByteArray.getElem_eq_getElem_data], by simp [hd]⟩

theorem acc_zero : Acc (valD []) 0 := Or.inl ⟨by decide, by decide⟩

theorem toList_data (s : ByteArray) : s.toList = s.data.toList := Go.ByteArray.toList_eq s

theorem isDig_iff (c : UInt8) : isDig c = true ↔ 48 ≤ c.toNat ∧ c.toNat ≤ 57 := by unfold isDig; simp
theorem isDig_no (c : UInt8) (h : c.toNat < 48 ∨ 57 < c.toNat) : isDig c = false := by
  unfold isDig; rcases h with h | h
  · rw [decide_eq_false (by omega)]; rfl
  · rw [decide_eq_false (p := c.toNat ≤ 57) (by omega), Bool.and_false]

set_option maxHeartbeats 400000 in
theorem digits_any (s : ByteArray) (w : World) (hs : s.size ≤ maxLen) : Calls Tryz.prog 116 #[.string s] w (RetDig s.data.toList w) := by
  unfold maxLen at hs
  by_cases h0 : s.data.toList = []
  · have hz : s.toList = [] := (toList_data s).trans h0
    have hd : DigW s.data.toList 9221120237041090561 := by unfold DigW; rw [if_pos (Or.inl h0)]; exact is_uvnan
    have HD := Lib.hid hd
    clear hd h0
    go_enter Tryz.func116, Tryz.ntmps116
    go_wp2_with (go_at_call 132; refine (NaN_any _).mono ?_; rintro e w' ⟨rfl, rfl⟩)
    go_ret
    exact ⟨_, HD.out, rfl, rfl⟩
  · have hz : s.toList.isEmpty = false := by rw [toList_data]; simpa using h0
    have H0 := Lib.hid h0
    clear h0
    go_enter Tryz.func116, Tryz.ntmps116
    go_wp2_with (fail)
    clear hz
    go_loop [3, 4] (fun x i => ∃ (k v : Nat), k ≤ s.size ∧ i = .int .i64 k ∧ x = .float .f64 v ∧ Acc (valD (s.data.toList.take k)) v ∧ (s.data.toList.take k).all isDig = true) (fun _ i => s.size - (intOf i).toNat)
    case atStart => exact ⟨0, 0, Nat.zero_le _, rfl, rfl, by rw [List.take_zero]; exact acc_zero, by rw [List.take_zero]; rfl⟩
    case round =>
      obtain ⟨k, v, hk, rfl, rfl, hacc, hall⟩ := hrel
      by_cases hlt : k < s.size
      · obtain ⟨c, hc⟩ : ∃ c, c = s[k] := ⟨_, rfl⟩
        have hsn := Lib.hid (take_snoc s k hlt)
        have hc255 : c.toNat < 256 := c.toNat_lt
        by_cases h1 : c.toNat < 48
        · have hna := Lib.hid (not_all s k hlt (isDig_no _ (Or.inl (by rw [← hc]; exact h1))))
          have h1' : ((s[k].toNat : Nat) : Int) < 48 := by rw [← hc]; omega
          clear hacc hall hsn h1 hc
          go_wp2_with (go_at_call 132; refine (NaN_any _).mono ?_; rintro e w' ⟨rfl, rfl⟩)
          go_ret
          exact ⟨_, by unfold DigW; rw [if_pos (Or.inr hna.out)]; exact is_uvnan, rfl, rfl⟩
        · by_cases h2 : 57 < c.toNat
          · have hna := Lib.hid (not_all s k hlt (isDig_no _ (Or.inr (by rw [← hc]; exact h2))))
            have h1' : ¬ ((s[k].toNat : Nat) : Int) < 48 := by rw [← hc]; omega
            have h2' : 57 < ((s[k].toNat : Nat) : Int) := by rw [← hc]; omega
            clear hacc hall hsn h1 h2 hc
            go_wp2_with (go_at_call 132; refine (NaN_any _).mono ?_; rintro e w' ⟨rfl, rfl⟩)
            go_ret
            exact ⟨_, by unfold DigW; rw [if_pos (Or.inr hna.out)]; exact is_uvnan, rfl, rfl⟩
          · obtain ⟨v1, v2, hm, ha, hacc2⟩ := acc_step hacc (show c.toNat - 48 ≤ 9 by omega)
            have hall2 : (s.data.toList.take (k + 1)).all isDig = true := by
              rw [all_take_snoc s k hlt, hall, Bool.true_and]
              exact (isDig_iff _).2 (by rw [← hc]; omega)
            have hval : valD (s.data.toList.take (k + 1)) = valD (s.data.toList.take k) * 10 + (c.toNat - 48) := by rw [hsn.out, valD_snoc, ← hc]
            have HV := Lib.hid hval
            have HA2 := Lib.hid hall2
            have HAC := Lib.hid hacc2
            rw [F_10] at hm
            have e1 : ((c.toNat - 48 : Nat) : Int) = ((s[k].toNat : Nat) : Int) - 48 := by rw [← hc]; omega
            rw [e1] at ha
            have hm' := fun w => run_float_arith (P := Tryz.prog) w .mul 32 .f64 _ _ _ hm
            have ha' := fun w => run_float_arith (P := Tryz.prog) w .add 32 .f64 _ _ _ ha
            have h1' : ¬ ((s[k].toNat : Nat) : Int) < 48 := by rw [← hc]; omega
            have h2' : ¬ 57 < ((s[k].toNat : Nat) : Int) := by rw [← hc]; omega
            clear hacc hall hsn h1 h2 hm ha e1 hval hall2 hacc2 hc
            go_wp2
            go_round
            case rel => exact ⟨k + 1, v2, by omega, by go_num, rfl, by rw [HV.out]; exact HAC.out, HA2.out⟩
            case measure => simp [intOf]; omega
      · have he : s.data.toList.take k = s.data.toList := List.take_of_length_le (by simp; omega)
        rw [he] at hacc hall
        have HD : Hid (DigW s.data.toList v) := Lib.hid (by unfold DigW; rw [if_neg (by intro h; rcases h with h | h; exact H0.out h; rw [hall] at h; cases h)]; exact hacc)
        clear hacc hall he
        go_wp2
        go_ret
        exact ⟨v, HD.out, rfl, rfl⟩

theorem extract_tail (t : ByteArray) (c : UInt8) (r : List UInt8) (h : t.data.toList = c :: r) : (t.extract 1 t.size).data.toList = r := by
  have hsz : t.size = r.length + 1 := by
    have : t.size = t.data.toList.length := by simp
    rw [this, h]; rfl
  rw [ByteArray.data_extract, Array.toList_extract, h]
  simp [hsz]

theorem digW_cls {l : List UInt8} {x : Nat} (h : DigW l x) (neg : Bool) : ∃ c, Is c (if neg then Op.negFloat .f64 x else x) ∧ tellC c = digR neg l := by
  unfold DigW at h
  by_cases hl : l = [] ∨ l.all isDig = false
  · rw [if_pos hl] at h
    refine ⟨.nan, ?_, by unfold digR; rw [if_pos hl]; rfl⟩
    cases neg
    · exact h
    · exact neg_nan h.1 h.2
  · rw [if_neg hl] at h
    exact acc_cls neg hl h

def RetRead (r : Res) (w : World) (e : Ending) (w' : World) : Prop := ∃ v k, EncR r v k ∧ e = .returned (.tuple #[.float .f64 v, .int .i64 k]) ∧ Below w.heap.size w w'

theorem Trim_blanks (s : ByteArray) (w : World) (hs : s.size ≤ maxLen) :
    Calls Tryz.prog 115 #[.string s, .string ⟨#[9, 10, 13, 32]⟩] w fun e w' => ∃ t : ByteArray, t.data.toList = Lib.trimS s.data.toList blanksL ∧ e = .returned (.string t) ∧ Below w.heap.size w w' := by
  have h := Any.strings_Trim_laid Tryz.lays160 (by kernel_rfl) s ⟨#[9, 10, 13, 32]⟩ w (by unfold maxLen at hs; omega) (by decide) (ascii_of_all (by decide))
  change Calls Tryz.prog 115 _ _ _ at h
  exact h.mono fun e w' ⟨he, hb⟩ => ⟨_, rfl, he, hb⟩

theorem trim_length (l cs : List UInt8) : (Lib.trimS l cs).length ≤ l.length := by
  unfold Lib.trimS Lib.trimLeftS Lib.trimRightS
  refine Nat.le_trans (List.dropWhile_suffix _).length_le ?_
  rw [List.length_reverse]
  refine Nat.le_trans (List.dropWhile_suffix _).length_le ?_
  rw [List.length_reverse]; exact Nat.le_refl _

def TrimTo (s : ByteArray) (w : World) (e : Ending) (w' : World) : Prop := ∃ t : ByteArray, t.data.toList = Lib.trimS s.data.toList blanksL ∧ e = .returned (.string t) ∧ Below w.heap.size w w'

theorem bareR_cons (c : UInt8) (r : List UInt8) : bareR (c :: r) = if c = 45 then digR true r else if c = 43 then digR false r else digR false (c :: r) := rfl

theorem size_len (t : ByteArray) : t.size = t.data.toList.length := by simp

set_option maxHeartbeats 400000 in
theorem Read_any (s : ByteArray) (w : World) (hs : s.size ≤ maxLen) : Calls Tryz.prog 108 #[.string s] w (RetRead (readR s.data.toList) w) := by
  have ht : Calls Tryz.prog 115 #[.string s, .string ⟨#[9, 10, 13, 32]⟩] w (TrimTo s w) := Trim_blanks s w hs
  unfold readR
  have hlen := trim_length s.data.toList blanksL
  rw [← size_len] at hlen
  cases hb : Lib.trimS s.data.toList blanksL with
  | nil =>
    have HB := Lib.hid hb
    clear hb
    go_enter Tryz.func108, Tryz.ntmps108
    go_wp2_with (go_at_call 115; refine ht.mono ?_; rintro e w' ⟨t, h1, rfl, h2⟩; have hz : t.toList = [] := ((toList_data t).trans h1).trans HB.out; clear h1; have H2 := Lib.hid h2; clear h2)
    go_ret2
    exact ⟨_, _, ⟨⟨F_zero.symm, by unfold SafeN; omega⟩, rfl⟩, rfl, H2.out⟩
  | cons c r =>
    have hr0 : (c :: r).length ≤ s.size := by rw [← hb]; exact hlen
    have HB := Lib.hid hb
    clear hb hlen
    have key : ∀ t : ByteArray, t.data.toList = c :: r → 0 < t.size ∧ t.size ≤ maxLen ∧ t.toList.isEmpty = false ∧ (∀ h : 0 < t.size, t[0] = c) ∧ (t.extract 1 t.size).data.toList = r ∧ (t.extract 1 t.size).size ≤ maxLen := by
      intro t ht
      have h1 : t.size = r.length + 1 := by rw [size_len, ht]; rfl
      have h2 : (t.extract 1 t.size).data.toList = r := extract_tail t c r ht
      have h3 : (t.extract 1 t.size).size = r.length := by rw [size_len, h2]
      rw [List.length_cons] at hr0
      refine ⟨by omega, by omega, by rw [toList_data, ht]; rfl, fun h => ?_, h2, by omega⟩
      have : t[0] = t.data.toList[0]'(by rw [← size_len]; exact h) := by simp [ByteArray.getElem_eq_getElem_data]
      rw [this]; simp [ht]
    have KEY := Lib.hid key
    clear key
    rw [bareR_cons]
    by_cases c1 : c = 45
    · rw [if_pos c1]
      go_enter Tryz.func108, Tryz.ntmps108
      go_wp2_with (first
        | (go_at_call 115; refine ht.mono ?_; rintro e w' ⟨t, h1, rfl, h2⟩; obtain ⟨k1, k2, k3, k4, k5, k6⟩ := KEY.out t (h1.trans HB.out)
           have k7 : (t[0].toNat : Int) = 45 := by rw [k4 k1, c1]; rfl
           have k8 := fun w => digits_any (t.extract 1 t.size) w k6; rw [k5] at k8
           clear k4 k5 k6 h1; have H2 := Lib.hid h2; clear h2)
        | (go_at_call 116; refine (k8 _).mono ?_; rintro e w' ⟨x, hx, rfl, rfl⟩; obtain ⟨cx, hcx0, htl⟩ := digW_cls hx true; have hcx : Is cx (Op.negFloat .f64 x) := hcx0; have HT := Lib.hid htl; clear htl hx hcx0)
        | (go_at_call 117; refine (tell_cls hcx _).mono ?_; rintro e w' ⟨v, j, hj, rfl, rfl⟩))
      go_ret2
      exact ⟨v, j, by rw [← HT.out]; exact hj, rfl, H2.out⟩
    · rw [if_neg c1]
      have n1 : c.toNat ≠ 45 := fun h => c1 (UInt8.toNat_inj.1 h)
      by_cases c2 : c = 43
      · rw [if_pos c2]
        go_enter Tryz.func108, Tryz.ntmps108
        go_wp2_with (first
          | (go_at_call 115; refine ht.mono ?_; rintro e w' ⟨t, h1, rfl, h2⟩; obtain ⟨k1, k2, k3, k4, k5, k6⟩ := KEY.out t (h1.trans HB.out)
             have k7 : (t[0].toNat : Int) = 43 := by rw [k4 k1, c2]; rfl
             have k8 := fun w => digits_any (t.extract 1 t.size) w k6; rw [k5] at k8
             clear k4 k5 k6 h1; have H2 := Lib.hid h2; clear h2)
          | (go_at_call 116; refine (k8 _).mono ?_; rintro e w' ⟨x, hx, rfl, rfl⟩; obtain ⟨cx, hcx0, htl⟩ := digW_cls hx false; have hcx : Is cx x := hcx0; have HT := Lib.hid htl; clear htl hx hcx0)
          | (go_at_call 117; refine (tell_cls hcx _).mono ?_; rintro e w' ⟨v, j, hj, rfl, rfl⟩))
        go_ret2
        exact ⟨v, j, by rw [← HT.out]; exact hj, rfl, H2.out⟩
      · rw [if_neg c2]
        have n2 : c.toNat ≠ 43 := fun h => c2 (UInt8.toNat_inj.1 h)
        go_enter Tryz.func108, Tryz.ntmps108
        go_wp2_with (first
          | (go_at_call 115; refine ht.mono ?_; rintro e w' ⟨t, h1, rfl, h2⟩; obtain ⟨k1, k2, k3, k4, k5, k6⟩ := KEY.out t (h1.trans HB.out)
             have k7 : ((t[0].toNat : Int) == 45) = false := by rw [k4 k1]; simp; omega
             have k9 : ((t[0].toNat : Int) == 43) = false := by rw [k4 k1]; simp; omega
             have k8 := fun w => digits_any t w k2; rw [h1.trans HB.out] at k8
             clear k4 k5 k6 h1; have H2 := Lib.hid h2; clear h2)
          | (go_at_call 116; refine (k8 _).mono ?_; rintro e w' ⟨x, hx, rfl, rfl⟩; obtain ⟨cx, hcx0, htl⟩ := digW_cls hx false; have hcx : Is cx x := hcx0; have HT := Lib.hid htl; clear htl hx hcx0)
          | (go_at_call 117; refine (tell_cls hcx _).mono ?_; rintro e w' ⟨v, j, hj, rfl, rfl⟩))
        go_ret2
        exact ⟨v, j, by rw [← HT.out]; exact hj, rfl, H2.out⟩
end Go.Proofs.YtlfbflclefndjaaGreatDoor
/-
  NumBack: what package num reckoned is reckoned back, for every two floats: walks.
-/

namespace Go.Proofs.YtlfbflclefndjaaGreatDoor
open Go.RowKit Fl

def RetOk (n : Int) (w : World) (e : Ending) (w' : World) : Prop := ∃ m, e = .returned (.tuple #[.float .f64 (F n), .int .i64 0]) ∧ w' = w.drewN m
def RetBad (w : World) (e : Ending) (w' : World) : Prop := ∃ v k m, k ≠ 0 ∧ e = .returned (.tuple #[.float .f64 v, .int .i64 k]) ∧ w' = w.drewN m
def sizeV (b : Int) : Int := (b.natAbs : Int)
def Drawn (w w' : World) : Prop := ∃ n, w' = w.drewN n

def selfO (c : Cl) : Option Ordering := match c with
  | .nan => none
  | _ => some .eq
/-- what comes of a reckoning that tells n -/
def OkAt (x : Nat) (w : World) (e : Ending) (w' : World) : Prop := ∃ m, e = .returned (.tuple #[.float .f64 x, .int .i64 0]) ∧ w' = w.drewN m
end Go.Proofs.YtlfbflclefndjaaGreatDoor
/-
  Text of package num beside the document's own, for every float: walks.
-/
namespace Go.Proofs.YtlfbflclefndjaaGreatDoor
open Go.RowKit Fl

def textL (c : Cl) : List UInt8 := match c with
  | .nan => [78, 97, 78]
  | .other => []
  | .ours n => Lib.itoa n
def TextTo (l : List UInt8) (w : World) (e : Ending) (w' : World) : Prop := ∃ t : ByteArray, t.data.toList = l ∧ e = .returned (.string t) ∧ Below w.heap.size w w'

theorem grow_below (w : World) (k : Nat) (os : Array Obj) : Below w.heap.size w (Sort.grow (w.drewN k) os) := by
  refine ⟨rfl, rfl, rfl, ?_, fun i hi => ?_⟩
  · show w.heap.size ≤ (w.heap ++ os).size
    simp
  · show (w.heap ++ os)[i]? = w.heap[i]?
    rw [Array.getElem?_append_left hi]

end Go.Proofs.YtlfbflclefndjaaGreatDoor
/-
  The document's own Read, and NumTexts: walks.
-/
namespace Go.Proofs.YtlfbflclefndjaaGreatDoor
open Go.RowKit Fl

def blankB (c : UInt8) : Bool := blanksL.contains c
def BlankTo (l : List UInt8) (k : Nat) : Prop := ∀ (j : Nat) b, j < k → l[j]? = some b → blanksL.contains b = true
def BlankFrom (l : List UInt8) (k : Nat) : Prop := ∀ (j : Nat) b, k ≤ j → l[j]? = some b → blanksL.contains b = true
def StopAt (l : List UInt8) (k : Nat) : Prop := ∀ b, l[k]? = some b → blanksL.contains b = false

end Go.Proofs.YtlfbflclefndjaaGreatDoor
/-
  The document's own Read at every text: a walk.
-/
namespace Go.Proofs.YtlfbflclefndjaaGreatDoor
open Go.RowKit Fl

def seg (t : ByteArray) (a k : Nat) : List UInt8 := (t.data.toList.take k).drop a
theorem seg_all (t : ByteArray) (a k : Nat) (h : t.size ≤ k) : seg t a k = t.data.toList.drop a := by unfold seg; rw [List.take_of_length_le (by rw [← size_len]; exact h)]
end Go.Proofs.YtlfbflclefndjaaGreatDoor
/-
  Int and Bits of package num beside the document's own, for every byte and every two floats: walks.
-/
namespace Go.Proofs.YtlfbflclefndjaaGreatDoor
open Go.RowKit Fl

/-- the 32 bits of what a float is -/
def intC (c : Cl) : Int := wrap32 (wholeI c)

/-- what the operation of a byte makes of 32 bits and 32 bits -/
def bitsI (op a b : Int) : Int :=
  if op = 38 then bits .and .i32 a b else if op = 124 then bits .or .i32 a b else if op = 94 then bits .xor .i32 a b
  else if op = 60 then wrap32 (a * 2 ^ (b % 32).toNat) else if op = 62 then a / 2 ^ (b % 32).toNat else a % 4294967296 / 2 ^ (b % 32).toNat
def codeB (op : Int) : Bool := op == 38 || op == 124 || op == 94 || op == 60 || op == 62 || op == 117
def bitsR (op : Int) (c d : Cl) : Res := if mayC c && mayC d then (if codeB op then .ok (bitsI op (intC c) (intC d)) else .err 2) else .err 2

end Go.Proofs.YtlfbflclefndjaaGreatDoor
/-
  NumTexts and NumAgain: texts and what they are worth, beside the document's own, and back: walks.
-/
namespace Go.Proofs.YtlfbflclefndjaaGreatDoor
open Go.RowKit Fl

theorem bytes_ext {a b : ByteArray} (h : a.data.toList = b.data.toList) : a = b := Go.WideShapes.bytes_inj h

def TabHere (w : World) : Prop := Lib.TabBelow Tryz.prog w.heap.size w "internal/strconv.uint64pow10" .u64 Lib.pow10Tab

end Go.Proofs.YtlfbflclefndjaaGreatDoor
/-
  Values made of any float, string, boolean: walks.
-/
namespace Go.Proofs.YtlfbflclefndjaaGreatDoor.S
open Go.RowKit Fl

/-- a store of a float into a cell (the walk has no law of its own for it) -/
theorem vstore (a : Addr) (x : Nat) (m : Mode) (w : World) : (store a (.float .f64 x) m).run Tryz.prog w = stored Tryz.prog w a (.float .f64 x) m := run_store Tryz.prog w a _ m rfl
theorem vzero (w : World) (o : Obj) : Below w.heap.size w (w.alloc o) := (Below.refl _ _).alloc (Nat.le_refl _) o
theorem vb {w a b : World} (h : Below w.heap.size w a) (g : Below a.heap.size a b) : Below w.heap.size w b := h.trans (g.mono h.size)
theorem vafter {w w1 : World} {o : Obj} (h : Below (w.alloc o).heap.size (w.alloc o) w1) : Below w.heap.size w w1 := (vzero w o).trans (h.mono (vzero w o).size)
theorem vafter2 {w w1 : World} {o p : Obj} (h : Below ((w.alloc o).alloc p).heap.size ((w.alloc o).alloc p) w1) : Below w.heap.size w w1 := vafter (vafter h)
theorem vcell {W w1 : World} {B : Nat} (hb : Below B W w1) : (∀ b o, b < B → w1.cell? ⟨b, o, none⟩ = W.cell? ⟨b, o, none⟩) ∧ (∀ b o, b < B → w1.frozen? ⟨b, o, none⟩ = W.frozen? ⟨b, o, none⟩) :=
  ⟨fun b o h => hb.cell (p := ⟨b, o, none⟩) h, fun b o h => hb.frozen (p := ⟨b, o, none⟩) h⟩
theorem vlt1 {w w1 : World} {o : Obj} (h : Below (w.alloc o).heap.size (w.alloc o) w1) : w.heap.size < w1.heap.size := by have := h.size; simp at this; omega
theorem vlt2 {w w1 : World} {o p : Obj} (h : Below ((w.alloc o).alloc p).heap.size ((w.alloc o).alloc p) w1) : w.heap.size < w1.heap.size ∧ w.heap.size + 1 < w1.heap.size := by have := h.size; simp at this; omega
theorem vltn {w1 w2 : World} {n : Nat} (h : Below w1.heap.size w1 w2) (g : n < w1.heap.size) : n < w2.heap.size := Nat.lt_of_lt_of_le g h.size
theorem vset1 {w : World} {g : Nat} {t : TypeId} {cs : Array Value} (h : w.heap[g]? = some (.cells cs t (0, 0))) (i : Nat) (a : Value) : (w.setCell ⟨g, i, none⟩ a).heap[g]? = some (.cells (cs.setIfInBounds i a) t (0, 0)) := by
  simp [World.setCell, Array.getElem?_modify, h]
theorem vset1o {w : World} {g j : Nat} {o : Obj} (h : w.heap[g]? = some o) (hj : j ≠ g) (i : Nat) (a : Value) : (w.setCell ⟨j, i, none⟩ a).heap[g]? = some o := by
  simp [World.setCell, Array.getElem?_modify, h, hj]
theorem vblk1 {w w1 : World} {o : Obj} (h : Below (w.alloc o).heap.size (w.alloc o) w1) : w1.heap[w.heap.size]? = some o := by
  have e : (w.alloc o).heap.size = w.heap.size + 1 := by simp
  rw [h.block w.heap.size (by omega)]; exact heap_alloc_new w o
theorem vblk2 {w w1 : World} {o p : Obj} (h : Below ((w.alloc o).alloc p).heap.size ((w.alloc o).alloc p) w1) : w1.heap[w.heap.size]? = some o ∧ w1.heap[w.heap.size + 1]? = some p := by
  have e : (w.alloc o).heap.size = w.heap.size + 1 := by simp
  have e2 : ((w.alloc o).alloc p).heap.size = w.heap.size + 1 + 1 := by simp
  refine ⟨?_, ?_⟩
  · rw [h.block w.heap.size (by omega), ← heap_alloc_new w o]
    exact (vzero (w.alloc o) p).block _ (by omega)
  · rw [h.block (w.heap.size + 1) (by omega), ← e]; exact heap_alloc_new _ p
theorem vblkn {w1 w2 : World} {g : Nat} {o : Obj} (h : Below w1.heap.size w1 w2) (hb : w1.heap[g]? = some o) : w2.heap[g]? = some o := by
  have hg : g < w1.heap.size := by
    rcases Nat.lt_or_ge g w1.heap.size with c | c
    · exact c
    · rw [Array.getElem?_eq_none c] at hb; cases hb
  rw [h.block g hg]; exact hb
theorem vcells {w : World} {g : Nat} {t : TypeId} {cs : Array Value} (h : w.heap[g]? = some (.cells cs t (0, 0))) (i : Nat) : w.cell? ⟨g, i, none⟩ = cs[i]? := cell_of_row w g i cs t (0, 0) h
theorem vfz {w : World} {g : Nat} {t : TypeId} {cs : Array Value} (h : w.heap[g]? = some (.cells cs t (0, 0))) (i : Nat) : w.frozen? ⟨g, i, none⟩ = false := by
  simp [World.frozen?, h]
theorem vc4 {w : World} {g : Nat} {t : TypeId} {c0 c1 c2 c3 : Value} (h : w.heap[g]? = some (.cells #[c0, c1, c2, c3] t (0, 0))) :
    w.cell? ⟨g, 0, none⟩ = some c0 ∧ w.cell? ⟨g, 1, none⟩ = some c1 ∧ w.cell? ⟨g, 2, none⟩ = some c2 ∧ w.cell? ⟨g, 3, none⟩ = some c3 ∧ ∀ i, w.frozen? ⟨g, i, none⟩ = false := ⟨vcells h 0, vcells h 1, vcells h 2, vcells h 3, vfz h⟩
/-- a function whose one result is a value in a block of its own -/
theorem val_end {f : Func} {i : Nat} {t : TypeId} {Q : Ending → World → Prop} {tmps : Array Value} {W : World} {g : Nat} {k : Int} {x : Nat} {s : ByteArray} {r : Int} (hf : f.results = #[.cell i 34])
    (h2 : tmps[i]?.getD undef = .pointer (some ⟨g, 0, none⟩)) (hb : W.heap[g]? = some (.cells #[.int .u8 k, .float .f64 x, .string s, .int .i64 r] t (0, 0))) (hQ : Q (.returned (.agg #[.int .u8 k, .float .f64 x, .string s, .int .i64 r])) W) :
    bodyPost Tryz.prog f Q .ret { tmps := tmps, defers := [] } W := by
  have c0 : W.cell? ⟨g, 0, none⟩ = some (.int .u8 k) := vcells hb 0
  have c1 : W.cell? ⟨g, 1, none⟩ = some (.float .f64 x) := vcells hb 1
  have c2 : W.cell? ⟨g, 2, none⟩ = some (.string s) := vcells hb 2
  have c3 : W.cell? ⟨g, 3, none⟩ = some (.int .i64 r) := vcells hb 3
  clear hb
  refine bodyPost_ret (v := .agg #[.int .u8 k, .float .f64 x, .string s, .int .i64 r]) ?_ rfl hQ
  simp [h2, c0, c1, c2, c3, results, hf, go_sem]
theorem vset4 {w : World} {g : Nat} {t : TypeId} {c0 c1 c2 c3 : Value} (h : w.heap[g]? = some (.cells #[c0, c1, c2, c3] t (0, 0))) (a b c d : Value) :
    ((((w.setCell ⟨g, 0, none⟩ a).setCell ⟨g, 1, none⟩ b).setCell ⟨g, 2, none⟩ c).setCell ⟨g, 3, none⟩ d).heap[g]? = some (.cells #[a, b, c, d] t (0, 0)) :=
  vset1 (vset1 (vset1 (vset1 h 0 a) 1 b) 2 c) 3 d
theorem vbel4 {B g : Nat} {w0 w : World} (h : Below B w0 w) (hg : B ≤ g) (a b c d : Value) :
    Below B w0 ((((w.setCell ⟨g, 0, none⟩ a).setCell ⟨g, 1, none⟩ b).setCell ⟨g, 2, none⟩ c).setCell ⟨g, 3, none⟩ d) :=
  (((h.setCell (p := ⟨g, 0, none⟩) hg a).setCell (p := ⟨g, 1, none⟩) hg b).setCell (p := ⟨g, 2, none⟩) hg c).setCell (p := ⟨g, 3, none⟩) hg d
def valG (k x : Nat) (s : ByteArray) (r : Int) : Value := .agg #[.int .u8 (k : Int), .float .f64 x, .string s, .int .i64 r]

theorem Num_v (x : Nat) (w : World) : Calls Tryz.prog 31 #[.float .f64 x] w fun e w' => e = .returned (.agg #[.int .u8 3, .float .f64 x, .string ⟨#[]⟩, .int .i64 0]) ∧ Below w.heap.size w w' := by
  have hst := vstore
  go_enter Tryz.func31, Tryz.ntmps31
  go_wp2
  refine bodyPost_ret (v := .agg #[.int .u8 3, .float .f64 x, .string ⟨#[]⟩, .int .i64 0]) (by simp [results, Tryz.results31, go_sem]) rfl ⟨rfl, ?_⟩
  exact vzero _ _
def oneB (b : Bool) : Nat := if b then 4607182418800017408 else 0
end Go.Proofs.YtlfbflclefndjaaGreatDoor.S
/-
  DERIVED: THE SHELF's CONTRACTS AT THIS DUMP, IN PLAIN WORDS (tools/lay-plain.mjs out of 'YtlfbflclefndjaaGreatDoorValShelfTry.lean', which tools/lay-shelf.mjs wrote): THE SAME DECLARATIONS UNDER THE SAME NAMES: 'import', 'namespace', 'open', 'def', 'theorem' AND NOTHING ELSE: no command of the shelf's: FOR A HAND-IN. Each laying: the table of numbers ('.._ren') and one theorem, a field a fact of the dump's own or the kernel's comparison; each contract: ONE APPLICATION.
-/
namespace Go.Proofs
open Go.Shelf
def Tryz.laysM171_ren : Go.Shelf.Ren := ⟨fun | 171 => 118 | 243 => 133 | 246 => 152 | 283 => 157 | 284 => 158 | 285 => 159 | 286 => 160 | 129 => 167 | 317 => 166 | 318 => 168 | 319 => 169 | 320 => 170 | 337 => 172 | 338 => 173 | n => n, fun | 3 => 3 | 9 => 9 | 2 => 2 | 4 => 4 | 171 => 190 | 0 => 0 | 53 => 135 | 37 => 193 | 5 => 5 | 173 => 194 | 212 => 205 | 51 => 206 | 20 => 20 | 213 => 207 | 46 => 183 | 232 => 210 | 233 => 211 | n => n, fun | 17 => 3 | 18 => 5 | 19 => 6 | n => n⟩
theorem Tryz.laysM171 : Go.Proofs.LaysM.n171 Tryz.prog Tryz.laysM171_ren := {
  mixed := by kernel_rfl
  f129 := Tryz.func167.trans (congrArg some (by kernel_rfl))
  f171 := Tryz.func118.trans (congrArg some (by kernel_rfl))
  f243 := Tryz.func133.trans (congrArg some (by kernel_rfl))
  f246 := Tryz.func152.trans (congrArg some (by kernel_rfl))
  f283 := Tryz.func157.trans (congrArg some (by kernel_rfl))
  f284 := Tryz.func158.trans (congrArg some (by kernel_rfl))
  f285 := Tryz.func159.trans (congrArg some (by kernel_rfl))
  f286 := Tryz.func160.trans (congrArg some (by kernel_rfl))
  f317 := Tryz.func166.trans (congrArg some (by kernel_rfl))
  f318 := Tryz.func168.trans (congrArg some (by kernel_rfl))
  f319 := Tryz.func169.trans (congrArg some (by kernel_rfl))
  f320 := Tryz.func170.trans (congrArg some (by kernel_rfl))
  f337 := Tryz.func172.trans (congrArg some (by kernel_rfl))
  f338 := Tryz.func173.trans (congrArg some (by kernel_rfl))
  t0 := Tryz.underlying0
  a0 := Tryz.isAgg0
  z0 := Tryz.sizeOf0
  v0 := Tryz.zeroValue0
  t2 := Tryz.underlying2
  a2 := Tryz.isAgg2
  z2 := Tryz.sizeOf2
  v2 := Tryz.zeroValue2
  t3 := Tryz.underlying3
  a3 := Tryz.isAgg3
  z3 := Tryz.sizeOf3
  v3 := Tryz.zeroValue3
  t4 := Tryz.underlying4
  a4 := Tryz.isAgg4
  z4 := Tryz.sizeOf4
  v4 := Tryz.zeroValue4
  t5 := Tryz.underlying5
  a5 := Tryz.isAgg5
  z5 := Tryz.sizeOf5
  v5 := Tryz.zeroValue5
  t9 := Tryz.underlying9
  a9 := Tryz.isAgg9
  z9 := Tryz.sizeOf9
  v9 := Tryz.zeroValue9
  t20 := Tryz.underlying20
  a20 := Tryz.isAgg20
  z20 := Tryz.sizeOf20
  v20 := Tryz.zeroValue20
  t37 := Tryz.underlying193
  a37 := Tryz.isAgg193
  z37 := Tryz.sizeOf193
  v37 := Tryz.zeroValue193
  t46 := Tryz.underlying183
  a46 := Tryz.isAgg183
  z46 := Tryz.sizeOf183
  v46 := Tryz.zeroValue183
  t51 := Tryz.underlying206
  a51 := Tryz.isAgg206
  z51 := Tryz.sizeOf206
  v51 := Tryz.zeroValue206
  t53 := Tryz.underlying135
  a53 := Tryz.isAgg135
  z53 := Tryz.sizeOf135
  v53 := Tryz.zeroValue135
  t171 := Tryz.underlying190
  a171 := Tryz.isAgg190
  z171 := Tryz.sizeOf190
  v171 := Tryz.zeroValue190
  t173 := Tryz.underlying194
  a173 := Tryz.isAgg194
  z173 := Tryz.sizeOf194
  v173 := Tryz.zeroValue194
  t212 := Tryz.underlying205
  a212 := Tryz.isAgg205
  z212 := Tryz.sizeOf205
  v212 := Tryz.zeroValue205
  t213 := Tryz.underlying207
  a213 := Tryz.isAgg207
  z213 := Tryz.sizeOf207
  t232 := Tryz.underlying210
  a232 := Tryz.isAgg210
  z232 := Tryz.sizeOf210
  v232 := Tryz.zeroValue210
  t233 := Tryz.underlying211
  a233 := Tryz.isAgg211
  z233 := Tryz.sizeOf211
  v233 := Tryz.zeroValue211
  g17 := by kernel_rfl
  g18 := by kernel_rfl
  g19 := by kernel_rfl
  i0 := by kernel_rfl
  i2 := by kernel_rfl
  i3 := by kernel_rfl
  i4 := by kernel_rfl
  i5 := by kernel_rfl
  i9 := by kernel_rfl
  i20 := by kernel_rfl
  i37 := by kernel_rfl
  i46 := by kernel_rfl
  i51 := by kernel_rfl
  i53 := by kernel_rfl
  i171 := by kernel_rfl
  i173 := by kernel_rfl
  i212 := by kernel_rfl
  i232 := by kernel_rfl
  i233 := by kernel_rfl
  m17 := by kernel_rfl
  m18 := by kernel_rfl
  m19 := by kernel_rfl }
open Go.RowKit Go.Sort Go.Lib in
/-- strconv.Itoa, for every int. -/
theorem Tryz.strconv_Itoa (n : Int) (h0 : -9223372036854775808 ≤ n) (h1 : n ≤ 9223372036854775807) (w : World) (htab : Lib.TabIs Tryz.prog w "internal/strconv.uint64pow10" .u64 Lib.pow10Tab) :
    Calls Tryz.prog 118 #[.int .i64 n] w fun e w' => e = .returned (.string ⟨(Lib.itoa n).toArray⟩) ∧ ∃ k os, w' = grow (w.drewN k) os := Any.strconv_Itoa Tryz.laysM171 n h0 h1 w htab
end Go.Proofs
/-
  Keys: which are indices; key.Of, symbol, Number, Index, rank: walks.
-/
namespace Go.Proofs.YtlfbflclefndjaaGreatDoor.S
open Go.RowKit Fl

/-- the number that a text is the index of -/
def idxO (s : ByteArray) : Option Nat := match readR s.data.toList with
  | .ok n => if 0 ≤ n ∧ n < 1024 ∧ s.data.toList = Lib.itoa n then some n.toNat else none
  | _ => none
/-- .. and a key -/
def ixK (s : ByteArray) (y : Int) : Option Nat := if y ≤ 0 then idxO s else none
/-- a key's rank in the order -/
def rkO (o : Option Nat) (y : Int) : Nat := match o with
  | some n => n
  | none => if y ≤ 0 then 1024 else 1025
def rkK (s : ByteArray) (y : Int) : Nat := rkO (ixK s y) y
theorem digR_err {neg : Bool} {l : List UInt8} {j : Int} (h : digR neg l = .err j) : j = 10 := by
  unfold digR at h
  split at h
  · cases h
  · split at h
    · cases h; rfl
    · split at h
      · cases h; rfl
      · cases h
theorem bareR_err {l : List UInt8} {j : Int} (h : bareR l = .err j) : j = 10 := by
  cases l with
  | nil => rw [show bareR [] = .ok 0 from rfl] at h; cases h
  | cons c r =>
    rw [bareR_cons] at h
    split at h
    · exact digR_err h
    · split at h
      · exact digR_err h
      · exact digR_err h

theorem keyOf_k (s : ByteArray) (w : World) : Calls Tryz.prog 81 #[.string s] w fun e w' => e = .returned (.agg #[.string s, .int .i64 0]) ∧ Below w.heap.size w w' := by
  go_enter Tryz.func81, Tryz.ntmps81
  go_wp2
  refine bodyPost_ret (v := .agg #[.string s, .int .i64 0]) (by simp [results, Tryz.results81, go_sem]) rfl ⟨rfl, ?_⟩
  exact vzero _ _
theorem keysymbol_k (s : ByteArray) (y : Int) (w : World) : Calls Tryz.prog 65 #[.agg #[.string s, .int .i64 y]] w fun e w' => e = .returned (.bool (decide (0 < y))) ∧ Below w.heap.size w w' := by
  go_enter Tryz.func65, Tryz.ntmps65
  go_wp2
  go_ret
  exact ⟨rfl, vzero _ _⟩
theorem Itoa_k (n : Int) (h0 : -9223372036854775808 ≤ n) (h1 : n ≤ 9223372036854775807) (w : World) (htab : Lib.TabIs Tryz.prog w "internal/strconv.uint64pow10" .u64 Lib.pow10Tab) : Calls Tryz.prog 118 #[.int .i64 n] w fun e w' => e = .returned (.string ⟨(Lib.itoa n).toArray⟩) ∧ Below w.heap.size w w' :=
  (Tryz.strconv_Itoa n h0 h1 w htab).mono fun e w' ⟨he, k, os, hw⟩ => ⟨he, by rw [hw]; exact grow_below w k os⟩
/-- a key's two cells, set in a block of the call's own -/
theorem kset2 {w : World} {g : Nat} {t : TypeId} {c0 c1 : Value} (h : w.heap[g]? = some (.cells #[c0, c1] t (0, 0))) (a b : Value) :
    ((w.setCell ⟨g, 0, none⟩ a).setCell ⟨g, 1, none⟩ b).heap[g]? = some (.cells #[a, b] t (0, 0)) := vset1 (vset1 h 0 a) 1 b
theorem kbel2 {B g : Nat} {w0 w : World} (h : Below B w0 w) (hg : B ≤ g) (a b : Value) : Below B w0 ((w.setCell ⟨g, 0, none⟩ a).setCell ⟨g, 1, none⟩ b) :=
  (h.setCell (p := ⟨g, 0, none⟩) hg a).setCell (p := ⟨g, 1, none⟩) hg b
theorem kc2 {w : World} {g : Nat} {t : TypeId} {c0 c1 : Value} (h : w.heap[g]? = some (.cells #[c0, c1] t (0, 0))) :
    w.cell? ⟨g, 0, none⟩ = some c0 ∧ w.cell? ⟨g, 1, none⟩ = some c1 ∧ ∀ i, w.frozen? ⟨g, i, none⟩ = false := ⟨vcells h 0, vcells h 1, vfz h⟩
/-- a function whose one result is a key in a block of its own -/
theorem key_end {f : Func} {i : Nat} {t : TypeId} {Q : Ending → World → Prop} {tmps : Array Value} {W : World} {g : Nat} {s : ByteArray} {r : Int} (hf : f.results = #[.cell i 26])
    (h2 : tmps[i]?.getD undef = .pointer (some ⟨g, 0, none⟩)) (hb : W.heap[g]? = some (.cells #[.string s, .int .i64 r] t (0, 0))) (hQ : Q (.returned (.agg #[.string s, .int .i64 r])) W) :
    bodyPost Tryz.prog f Q .ret { tmps := tmps, defers := [] } W := by
  have c0 : W.cell? ⟨g, 0, none⟩ = some (.string s) := vcells hb 0
  have c1 : W.cell? ⟨g, 1, none⟩ = some (.int .i64 r) := vcells hb 1
  clear hb
  refine bodyPost_ret (v := .agg #[.string s, .int .i64 r]) ?_ rfl hQ
  simp [h2, c0, c1, results, hf, go_sem]
theorem Number_k (n : Int) (h0 : -9223372036854775808 ≤ n) (h1 : n ≤ 9223372036854775807) (w : World) (htab : TabHere w) : Calls Tryz.prog 110 #[.int .i64 n] w fun e w' => e = .returned (.agg #[.string ⟨(Lib.itoa n).toArray⟩, .int .i64 0]) ∧ Below w.heap.size w w' := by
  have hI := fun w ht => Itoa_k n h0 h1 w ht
  have hO := fun w => keyOf_k ⟨(Lib.itoa n).toArray⟩ w
  generalize (⟨(Lib.itoa n).toArray⟩ : ByteArray) = t at *
  have HTAB := Lib.hid htab
  clear h0 h1 htab
  go_enter Tryz.func110, Tryz.ntmps110
  go_wp2_with (first
    | (go_at_call 118; refine (hI _ (HTAB.out _ (vzero _ _))).mono ?_; rintro e w1 ⟨rfl, h1⟩; have hb1 := vblk1 h1; have hz1 := vlt1 h1; have H1 := Lib.hid h1; clear h1)
    | (go_at_call 81; refine (hO _).mono ?_; rintro e w2 ⟨rfl, h2⟩; have hb2 := vblkn h2 hb1; have hz2 := vltn h2 hz1; obtain ⟨hc0, hc1, hfr⟩ := kc2 hb2; have HB2 := Lib.hid hb2; clear hb1 hb2; have H2 := Lib.hid h2; clear h2))
  refine key_end (g := w.heap.size) Tryz.results110 rfl (kset2 HB2.out _ _) ⟨rfl, ?_⟩
  exact kbel2 (vb (vafter H1.out) H2.out) (Nat.le_refl _) _ _
end Go.Proofs.YtlfbflclefndjaaGreatDoor.S
