/-
  value.May of any value: what may be is one of nine shapes.
-/
import Derived.Test.YtbeggameiedjgaaGreatDoorTN19
import Derived.Test.YtbeggameiedjgaaGreatDoorTN06
import Derived.Lib.ItoaLen
import Derived.Test.YtbeggameiedjgaaGreatDoorTN17
import Derived.Test.YtbeggameiedjgaaGreatDoorTN18
namespace Go.Proofs.YtbeggameiedjgaaGreatDoor.S
open Go.RowKit Fl

theorem feq_F {x : Nat} {m : Int} (hx : x < 2 ^ 64) (hm : SafeN m) (h : feq x (F m) = true) : x = F m ∨ (x = 2 ^ 63 ∧ m = 0) := by
  obtain ⟨c, hc⟩ := cls x hx
  have h : FloatKind.f64.format.order x (F m) = some .eq := by unfold feq at h; exact eq_of_beq h
  have h : Ieee.double.order x (F m) = some .eq := h
  cases c with
  | nan => rw [order_nan_l _ hc.2] at h; cases h
  | other =>
    obtain ⟨_, g | g | g⟩ := hc
    · rw [(order_big g m hm.abs).1] at h
      have h := Option.some.inj h
      split at h <;> cases h
    · exact absurd h (order_frac g m hm.abs).1
    · subst g
      rw [(order_m0 m hm.abs).1] at h
      have h : compare 0 m = .eq := Option.some.inj h
      have h : 0 = m := Int.compare_eq_eq.1 h
      exact .inr ⟨rfl, h.symm⟩
  | ours n =>
    obtain ⟨rfl, hs⟩ := hc
    rw [order_F n m hs.abs hm.abs] at h
    have h : compare n m = .eq := Option.some.inj h
    have h : n = m := Int.compare_eq_eq.1 h
    subst h
    exact .inl rfl
theorem rest_of {x : Nat} {s : ByteArray} {r : Int} (hx : x < 2 ^ 64) (h : restB x s r = true) : x = 0 ∧ s = ⟨#[]⟩ ∧ r = 0 := by
  unfold restB at h
  simp only [Bool.and_eq_true, Bool.not_eq_true', List.isEmpty_iff, beq_iff_eq] at h
  obtain ⟨⟨⟨h1, h2⟩, h3⟩, h4⟩ := h
  refine ⟨?_, ?_, h3⟩
  · rcases feq_F (m := 0) hx (by unfold SafeN; omega) (by rw [F_zero]; exact h1) with e | ⟨e, _⟩
    · rw [e, F_zero]
    · rw [e] at h4; exact absurd h4 (by decide)
  · rw [toList_data] at h2
    exact bytes_ext h2
/-- what value.May comes to -/
def MayTo (k x : Nat) (s : ByteArray) (r : Int) (w : World) (e : Ending) (w' : World) : Prop :=
  ∃ b, e = .returned (.bool b) ∧ Below w.heap.size w w' ∧ (b = true → ∃ v : Vl, v.ok ∧ v.kd = k ∧ v.fl = x ∧ v.st = s ∧ v.rf = r)
theorem may_of {k x : Nat} {s : ByteArray} {r : Int} {w : World} {b : Bool} {e : Ending} {w' : World} (h : e = .returned (.bool b) ∧ Below w.heap.size w w') (g : b = true → ∃ v : Vl, v.ok ∧ v.kd = k ∧ v.fl = x ∧ v.st = s ∧ v.rf = r) : MayTo k x s r w e w' := ⟨b, h.1, h.2, g⟩
theorem May_any (k x : Nat) (s : ByteArray) (r : Int) (w : World) (hx : x < 2 ^ 64) (hr : r < 2 ^ 63) : Calls Tryz.prog 89 #[.agg #[.int .u8 (k : Int), .float .f64 x, .string s, .int .i64 r]] w (MayTo k x s r w) := by
  have e0 := kd_eq k 0
  have e1 := kd_eq k 1
  have e2 := kd_eq k 2
  have e3 := kd_eq k 3
  have e4 := kd_eq k 4
  have e5 := kd_eq k 5
  by_cases c0 : k = 0
  · subst c0
    refine (May_k0 x s r w hx).mono fun e w' h => may_of h fun hb => ?_
    obtain ⟨rfl, rfl, rfl⟩ := rest_of hx hb
    exact ⟨.und, trivial, rfl, rfl, rfl, rfl⟩
  by_cases c1 : k = 1
  · subst c1
    refine (May_k1 x s r w hx).mono fun e w' h => may_of h fun hb => ?_
    obtain ⟨rfl, rfl, rfl⟩ := rest_of hx hb
    exact ⟨.nul, trivial, rfl, rfl, rfl, rfl⟩
  by_cases c2 : k = 2
  · subst c2
    refine (May_k2 x s r w).mono fun e w' h => may_of h fun hb => ?_
    rw [Bool.and_eq_true, Bool.or_eq_true] at hb
    obtain ⟨_, rfl, rfl⟩ := rest_of (by decide) hb.2
    refine ⟨.boo x, ?_, rfl, rfl, rfl, rfl⟩
    rcases hb.1 with h | h
    · rcases feq_F (m := 0) hx (by unfold SafeN; omega) (by rw [F_zero]; exact h) with e | ⟨e, _⟩
      · rw [F_zero] at e; exact .inl e
      · exact .inr (.inl e)
    · rcases feq_F (m := 1) hx (by unfold SafeN; omega) (by rw [show F 1 = 4607182418800017408 by decide]; exact h) with e | ⟨_, e⟩
      · rw [show F 1 = 4607182418800017408 by decide] at e; exact .inr (.inr e)
      · cases e
  by_cases c3 : k = 3
  · subst c3
    obtain ⟨c, hc⟩ := cls x hx
    refine (May_k3 x s r w hc).mono fun e w' h => may_of h fun hb => ?_
    rw [Bool.and_eq_true] at hb
    obtain ⟨_, rfl, rfl⟩ := rest_of (by decide) hb.2
    exact ⟨.num x, ⟨c, hc, hb.1⟩, rfl, rfl, rfl, rfl⟩
  by_cases c4 : k = 4
  · subst c4
    refine (May_k4 x s r w hx).mono fun e w' h => may_of h fun hb => ?_
    rw [Bool.and_eq_true] at hb
    obtain ⟨rfl, _, rfl⟩ := rest_of hx hb.2
    have := of_decide_eq_true hb.1
    exact ⟨.str s, by show s.size ≤ 4096; omega, rfl, rfl, rfl, rfl⟩
  by_cases c5 : k = 5
  · subst c5
    refine (May_k5 x s r w hx).mono fun e w' h => may_of h fun hb => ?_
    rw [Bool.and_eq_true] at hb
    obtain ⟨rfl, rfl, _⟩ := rest_of hx hb.2
    exact ⟨.sym r, ⟨of_decide_eq_true hb.1, hr⟩, rfl, rfl, rfl, rfl⟩
  have f0 : ((k : Int) == 0) = false := by rw [beq_eq_false_iff_ne]; omega
  have f1 : ((k : Int) == 1) = false := by rw [beq_eq_false_iff_ne]; omega
  have f2 : ((k : Int) == 2) = false := by rw [beq_eq_false_iff_ne]; omega
  have f3 : ((k : Int) == 3) = false := by rw [beq_eq_false_iff_ne]; omega
  have f4 : ((k : Int) == 4) = false := by rw [beq_eq_false_iff_ne]; omega
  have f5 : ((k : Int) == 5) = false := by rw [beq_eq_false_iff_ne]; omega
  cases ho : objB k
  · refine (May_no x s r w k hx f0 f1 f2 f3 f4 f5 ho).mono fun e w' h => may_of h fun hb => ?_
    cases hb
  · refine (May_obj x s r w k hx f0 f1 f2 f3 f4 f5 ho).mono fun e w' h => may_of h fun hb => ?_
    rw [Bool.and_eq_true] at hb
    obtain ⟨rfl, rfl, _⟩ := rest_of hx hb.2
    refine ⟨.obj k r, ⟨?_, of_decide_eq_true hb.1, hr⟩, rfl, rfl, rfl, rfl⟩
    unfold objB at ho
    simp only [Bool.or_eq_true, beq_iff_eq] at ho
    omega
end Go.Proofs.YtbeggameiedjgaaGreatDoor.S
/-
  value.Truth, Type, Text: walks, for any value that may be.
-/
namespace Go.Proofs.YtbeggameiedjgaaGreatDoor.S
open Go.RowKit Fl

theorem May_ok {v : Vl} (h : v.ok) (w : World) : Calls Tryz.prog 89 #[v.val] w fun e w' => e = .returned (.bool true) ∧ Below w.heap.size w w' := by
  have z : restB 0 ⟨#[]⟩ 0 = true := by
    have z3 : (⟨#[]⟩ : ByteArray).toList = [] := by rw [toList_data]
    unfold restB; rw [z3]; decide
  have fin : ∀ {b : Bool} {e : Ending} {w' : World}, b = true → (e = .returned (.bool b) ∧ Below w.heap.size w w') → (e = .returned (.bool true) ∧ Below w.heap.size w w') := fun hb h => ⟨by rw [h.1, hb], h.2⟩
  cases v with
  | und => exact (May_k0 0 ⟨#[]⟩ 0 w (by decide)).mono fun e w' => fin (by rw [z]; rfl)
  | nul => exact (May_k1 0 ⟨#[]⟩ 0 w (by decide)).mono fun e w' => fin (by rw [z]; rfl)
  | boo x => exact (May_k2 x ⟨#[]⟩ 0 w).mono fun e w' => fin (by
      rw [z, Bool.and_true]
      rcases h with rfl | rfl | rfl <;> decide)
  | num x =>
    obtain ⟨c, hc, hm⟩ := h
    exact (May_k3 x ⟨#[]⟩ 0 w hc).mono fun e w' => fin (by rw [z, hm]; rfl)
  | str s => exact (May_k4 0 s 0 w (by decide)).mono fun e w' => fin (by
      have h : s.size ≤ 4096 := h
      rw [z, Bool.and_true]; exact decide_eq_true (by omega))
  | sym r => exact (May_k5 0 ⟨#[]⟩ r w (by decide)).mono fun e w' => fin (by rw [z, Bool.and_true]; exact decide_eq_true h.1)
  | obj k r =>
    have hk := h.1
    exact (May_obj 0 ⟨#[]⟩ r w k (by decide) (by rw [beq_eq_false_iff_ne]; omega) (by rw [beq_eq_false_iff_ne]; omega) (by rw [beq_eq_false_iff_ne]; omega) (by rw [beq_eq_false_iff_ne]; omega) (by rw [beq_eq_false_iff_ne]; omega) (by rw [beq_eq_false_iff_ne]; omega) (obj_kd hk)).mono fun e w' => fin (by rw [z, Bool.and_true]; exact decide_eq_true h.2.1)
theorem obj_facts {k : Nat} (h : k = 6 ∨ k = 7 ∨ k = 8) : ((k : Int) == 0) = false ∧ ((k : Int) == 1) = false ∧ ((k : Int) == 2) = false ∧ ((k : Int) == 3) = false ∧ ((k : Int) == 4) = false ∧ ((k : Int) == 5) = false := by
  refine ⟨?_, ?_, ?_, ?_, ?_, ?_⟩ <;> (rw [beq_eq_false_iff_ne]; omega)

end Go.Proofs.YtbeggameiedjgaaGreatDoor.S
/-
  value.Text, for any value that may be; plain, counted, reads: walks.
-/
namespace Go.Proofs.YtbeggameiedjgaaGreatDoor.S
open Go.RowKit Fl

theorem inFormatBool_b (b : Bool) (w : World) : Calls Tryz.prog 172 #[.bool b] w fun e w' => e = .returned (.string (if b then ⟨#[116, 114, 117, 101]⟩ else ⟨#[102, 97, 108, 115, 101]⟩)) ∧ w = w' := by
  cases b
  all_goals
    go_enter Tryz.func172, Tryz.ntmps172
    go_wp2
    go_ret
    exact ⟨rfl, rfl⟩
theorem FormatBool_b (b : Bool) (w : World) : Calls Tryz.prog 142 #[.bool b] w fun e w' => e = .returned (.string (if b then ⟨#[116, 114, 117, 101]⟩ else ⟨#[102, 97, 108, 115, 101]⟩)) ∧ w = w' := by
  have k1 := fun w => inFormatBool_b b w
  generalize (if b then (⟨#[116, 114, 117, 101]⟩ : ByteArray) else ⟨#[102, 97, 108, 115, 101]⟩) = t at *
  go_enter Tryz.func142, Tryz.ntmps142
  go_wp2_with (go_at_call 172; (with_reducible refine (k1 _).mono ?_); rintro e w' ⟨rfl, rfl⟩)
  go_ret
  exact ⟨rfl, rfl⟩
def TextVTo (v : Vl) (w : World) (e : Ending) (w' : World) : Prop := ∃ t : ByteArray, e = .returned (.string t) ∧ TextV v t.data.toList ∧ Below w.heap.size w w'
theorem Itoa_r (r : Int) (h0 : 0 ≤ r) (h1 : r < 2 ^ 63) (w : World) (htab : Lib.TabIs Tryz.prog w "internal/strconv.uint64pow10" .u64 Lib.pow10Tab) : Calls Tryz.prog 74 #[.int .i64 r] w fun e w' => ∃ t : ByteArray, e = .returned (.string t) ∧ Hid (t.data.toList = Lib.itoa r ∧ t.size ≤ 21) ∧ Below w.heap.size w w' := by
  refine (Tryz.strconv_Itoa r (by omega) (by omega) w htab).mono fun e w' ⟨he, k, os, hw⟩ => ⟨_, he, Lib.hid ⟨rfl, ?_⟩, by rw [hw]; exact grow_below w k os⟩
  have := Lib.itoa_length_le r (by omega) (by omega)
  show (Lib.itoa r).toArray.size ≤ 21
  simpa using this
theorem app_list (a t : ByteArray) : (a ++ t).data.toList = a.data.toList ++ t.data.toList := by
  rw [ByteArray.data_append, Array.toList_append]
set_option maxHeartbeats 1000000 in
theorem Text_v {v : Vl} (h : v.ok) (w : World) (htab : TabHere w) : Calls Tryz.prog 111 #[v.val] w (TextVTo v w) := by
  have HTAB := Lib.hid htab
  clear htab
  cases v with
  | und =>
    show Calls _ _ #[.agg #[.int .u8 0, .float .f64 0, .string ⟨#[]⟩, .int .i64 0]] w (TextVTo .und w)
    go_enter Tryz.func111, Tryz.ntmps111
    go_wp2_with (fail)
    go_ret
    exact ⟨_, rfl, rfl, vafter (Below.refl _ _)⟩
  | nul =>
    show Calls _ _ #[.agg #[.int .u8 1, .float .f64 0, .string ⟨#[]⟩, .int .i64 0]] w (TextVTo .nul w)
    go_enter Tryz.func111, Tryz.ntmps111
    go_wp2_with (fail)
    go_ret
    exact ⟨_, rfl, rfl, vafter (Below.refl _ _)⟩
  | boo x =>
    show Calls _ _ #[.agg #[.int .u8 2, .float .f64 x, .string ⟨#[]⟩, .int .i64 0]] w (TextVTo (.boo x) w)
    have k1 : ∀ w, Calls Tryz.prog 142 #[.bool (FloatKind.f64.format.order x 0 != some .eq)] w _ := fun w => FormatBool_b (!feq x 0) w
    have hq : TextV (.boo x) (if (!feq x 0) = true then (⟨#[116, 114, 117, 101]⟩ : ByteArray) else ⟨#[102, 97, 108, 115, 101]⟩).data.toList := by
      show _ = if feq x 0 then _ else _
      cases feq x 0 <;> rfl
    generalize (if (!feq x 0) = true then (⟨#[116, 114, 117, 101]⟩ : ByteArray) else ⟨#[102, 97, 108, 115, 101]⟩) = t at *
    have HQ := Lib.hid hq
    clear h hq
    go_enter Tryz.func111, Tryz.ntmps111
    go_wp2_with (go_at_call 142; refine (k1 _).mono ?_; rintro e w1 ⟨rfl, rfl⟩)
    go_ret
    exact ⟨_, rfl, HQ.out, vafter (Below.refl _ _)⟩
  | num x =>
    show Calls _ _ #[.agg #[.int .u8 3, .float .f64 x, .string ⟨#[]⟩, .int .i64 0]] w (TextVTo (.num x) w)
    obtain ⟨c, hc, hm⟩ := h
    have hT := fun w ht => Text_cls hc w ht
    have HC := Lib.hid (And.intro hc hm)
    clear hc hm
    go_enter Tryz.func111, Tryz.ntmps111
    go_wp2_with (go_at_call 143; refine (hT _ (HTAB.out _ (vzero _ _))).mono ?_; rintro e w1 ⟨t, ht, rfl, h1⟩; have H1 := Lib.hid h1; have HT := Lib.hid ht; clear h1 ht)
    go_ret
    exact ⟨_, rfl, ⟨c, HC.out.1, HC.out.2, HT.out⟩, vafter H1.out⟩
  | str s =>
    show Calls _ _ #[.agg #[.int .u8 4, .float .f64 0, .string s, .int .i64 0]] w (TextVTo (.str s) w)
    have h : s.size ≤ 4096 := h
    have hq := fun w => Quote_any s w (by omega)
    have HQ : Hid (TextV (.str s) (⟨(quoteL s.data.toList).toArray⟩ : ByteArray).data.toList) := Lib.hid rfl
    generalize (⟨(quoteL s.data.toList).toArray⟩ : ByteArray) = t at *
    clear h
    go_enter Tryz.func111, Tryz.ntmps111
    go_wp2_with (go_at_call 114; refine (hq _).mono ?_; rintro e w1 ⟨rfl, h1⟩; have H1 := Lib.hid h1; clear h1)
    go_ret
    exact ⟨_, rfl, HQ.out, vafter H1.out⟩
  | sym r =>
    show Calls _ _ #[.agg #[.int .u8 5, .float .f64 0, .string ⟨#[]⟩, .int .i64 r]] w (TextVTo (.sym r) w)
    have hI := fun w ht => Itoa_r r h.1 h.2 w ht
    clear h
    go_enter Tryz.func111, Tryz.ntmps111
    go_wp2_with (go_at_call 74; refine (hI _ (HTAB.out _ (vzero _ _))).mono ?_; rintro e w1 ⟨t, rfl, HT, h1⟩; have H1 := Lib.hid h1; clear h1)
    · exfalso
      have := HT.out.2
      simp_all
      omega
    · go_ret
      refine ⟨_, rfl, ?_, vafter H1.out⟩
      show _ = _
      rw [app_list, HT.out.1]
  | obj k r =>
    show Calls _ _ #[.agg #[.int .u8 (k : Int), .float .f64 0, .string ⟨#[]⟩, .int .i64 r]] w (TextVTo (.obj k r) w)
    have hI := fun w ht => Itoa_r r h.2.1 h.2.2 w ht
    obtain ⟨f0, f1, f2, f3, f4, f5⟩ := obj_facts h.1
    have k1 := fun w => IsObject_v k 0 ⟨#[]⟩ r w
    rw [obj_kd h.1] at k1
    clear h
    go_enter Tryz.func111, Tryz.ntmps111
    go_wp2_with (first
      | (go_at_call 66; (with_reducible refine (k1 _).mono ?_); rintro e w1 ⟨rfl, h1⟩; obtain ⟨hc1, hf1⟩ := vcell h1; have hz1 := vlt1 h1; have HB1 := Lib.hid (vafter h1))
      | (go_at_call 74; refine (hI _ (HTAB.out _ HB1.out)).mono ?_; rintro e w2 ⟨t, rfl, HT, h2⟩; have H2 := Lib.hid h2; clear h2))
    · exfalso
      have := HT.out.2
      simp_all
      omega
    · go_ret
      refine ⟨_, rfl, ?_, vb HB1.out H2.out⟩
      show _ = _
      rw [app_list, HT.out.1]
end Go.Proofs.YtbeggameiedjgaaGreatDoor.S
/-
  key.Check, Value, Prim, Text: walks; texts of keys that are not the same differ.
-/
namespace Go.Proofs.YtbeggameiedjgaaGreatDoor.S
open Go.RowKit Fl

/-- two keys, compared -/
def eqK (a b : Ky) : Bool := (a.str == b.str) && (a.sym == b.sym)
theorem eqK_iff {a b : Ky} : eqK a b = true ↔ a = b := by
  unfold eqK
  rw [Bool.and_eq_true]
  constructor
  · rintro ⟨h1, h2⟩
    cases a; cases b
    have := str_beq h1
    have := eq_of_beq h2
    simp_all
  · rintro rfl
    exact ⟨str_same _, beq_self_eq_true _⟩
theorem eqK_no {a b : Ky} (h : a ≠ b) : eqK a b = false := by
  cases c : eqK a b
  · rfl
  · exact absurd (eqK_iff.1 c) h
/-- whether a key may be -/
def mayKy (k : Ky) : Prop := 0 ≤ k.sym ∧ k.str.size ≤ 4096 ∧ (0 < k.sym → k.str = ⟨#[]⟩)
/-- a key's text -/
def textKy (k : Ky) : ByteArray := if 0 < k.sym then symText (k.sym - 1) else ⟨(quoteL k.str.data.toList).toArray⟩

theorem itoa_inj {a b : Int} (ha : 0 ≤ a) (hb : 0 ≤ b) (h : Lib.itoa a = Lib.itoa b) : a = b := by
  have e : ∀ n : Int, 0 ≤ n → Lib.itoa n = Lib.decDigits n.toNat := fun n hn => by unfold Lib.itoa; rw [if_neg (by omega)]
  rw [e a ha, e b hb] at h
  have h1 := (decDigits_val a.toNat).1
  have h2 := (decDigits_val b.toNat).1
  rw [h] at h1
  omega
theorem symText_list (n : Int) : (symText n).data.toList = [115, 121, 109, 98, 111, 108, 32] ++ Lib.itoa n := by
  unfold symText
  rw [ByteArray.data_append, Array.toList_append]
theorem text_inj {a b : Ky} (ha : mayKy a) (hb : mayKy b) (h : textKy a = textKy b) : a = b := by
  obtain ⟨a1, a2, a3⟩ := ha
  obtain ⟨b1, b2, b3⟩ := hb
  have h := congrArg (fun t : ByteArray => t.data.toList) h
  unfold textKy at h
  by_cases c : 0 < a.sym
  · by_cases d : 0 < b.sym
    · rw [if_pos c, if_pos d] at h
      simp only [symText_list] at h
      have := itoa_inj (by omega) (by omega) (List.append_cancel_left h)
      have e1 := a3 c
      have e2 := b3 d
      cases a; cases b
      simp only at this e1 e2 ⊢
      subst e1 e2
      congr 1
      omega
    · rw [if_pos c, if_neg d] at h
      simp only [symText_list] at h
      unfold quoteL at h
      simp at h
  · by_cases d : 0 < b.sym
    · rw [if_neg c, if_pos d] at h
      simp only [symText_list] at h
      unfold quoteL at h
      simp at h
    · rw [if_neg c, if_neg d] at h
      have h : quoteL a.str.data.toList = quoteL b.str.data.toList := by simpa using h
      unfold quoteL at h
      injection h with _ h
      have hq : quoteI a.str.data.toList = quoteI b.str.data.toList := List.append_cancel_right h
      have p1 := plain_quote ⟨(quoteI a.str.data.toList).toArray⟩ a.str (by simp) a2
      have p2 := plain_quote ⟨(quoteI a.str.data.toList).toArray⟩ b.str (by simp [hq]) b2
      rw [p1] at p2
      injection p2 with e _
      cases a; cases b
      simp only at e a1 b1 c d ⊢
      subst e
      congr 1
      omega
theorem text_eq {a b : Ky} (ha : mayKy a) (hb : mayKy b) : (textKy a == textKy b) = eqK a b := by
  cases c : eqK a b
  · cases d : textKy a == textKy b
    · rfl
    · have := text_inj ha hb (str_beq d)
      rw [eqK_iff.2 this] at c
      cases c
  · rw [eqK_iff.1 c]; exact str_same _

theorem empty_is (s : ByteArray) : s = ⟨#[]⟩ ↔ s.toList.isEmpty = true := by
  rw [List.isEmpty_iff, toList_data]
  constructor
  · intro h; rw [h]
  · intro h; exact bytes_ext (by rw [h])
theorem keyCheck_bad (s : ByteArray) (y : Int) (w : World) (h : ¬ mayKy ⟨s, y⟩) : Calls Tryz.prog 37 #[.agg #[.string s, .int .i64 y]] w fun e w' => e = .returned (.int .i64 9) ∧ Below w.heap.size w w' := by
  have hS := fun w => keysymbol_k s y w
  by_cases c1 : y < 0
  · go_enter Tryz.func37, Tryz.ntmps37
    go_wp2_with (fail)
    go_ret
    exact ⟨rfl, vzero _ _⟩
  · by_cases c2 : 4096 < s.size
    · go_enter Tryz.func37, Tryz.ntmps37
      go_wp2_with (fail)
      go_ret
      exact ⟨rfl, vzero _ _⟩
    · have c3 : 0 < y ∧ s ≠ ⟨#[]⟩ := by
        refine Classical.byContradiction fun g => h ⟨by show 0 ≤ y; omega, by show s.size ≤ 4096; omega, fun hy => ?_⟩
        exact Classical.byContradiction fun g2 => g ⟨hy, g2⟩
      obtain ⟨c3, c4⟩ := c3
      have c5 : s.toList.isEmpty = false := by
        cases e : s.toList.isEmpty
        · rfl
        · exact absurd ((empty_is s).2 e) c4
      have hd : decide (0 < y) = true := by simp; exact c3
      rw [hd] at hS
      clear h c4 hd
      go_enter Tryz.func37, Tryz.ntmps37
      go_wp2_with (go_at_call 62; refine (hS _).mono ?_; rintro e w1 ⟨rfl, h1⟩; have hb1 := vblk1 h1; have hz1 := vlt1 h1; obtain ⟨hc0, hc1, hfr⟩ := kc2 hb1; clear hb1; have H1 := Lib.hid (vafter h1); clear h1)
      go_ret
      exact ⟨rfl, H1.out⟩
theorem keyCheck_ok (s : ByteArray) (y : Int) (w : World) (h : mayKy ⟨s, y⟩) : Calls Tryz.prog 37 #[.agg #[.string s, .int .i64 y]] w fun e w' => e = .returned (.int .i64 0) ∧ Below w.heap.size w w' := by
  have hS := fun w => keysymbol_k s y w
  obtain ⟨c1, c2, c3⟩ := h
  have c1 : ¬ y < 0 := by have : 0 ≤ y := c1; omega
  have c2 : ¬ 4096 < s.size := by have : s.size ≤ 4096 := c2; omega
  have c3 : 0 < y → s = ⟨#[]⟩ := c3
  by_cases d : 0 < y
  · have hs := c3 d
    subst hs
    have hd : decide (0 < y) = true := by simp; exact d
    rw [hd] at hS
    clear c3 hd c2
    go_enter Tryz.func37, Tryz.ntmps37
    go_wp2_with (go_at_call 62; refine (hS _).mono ?_; rintro e w1 ⟨rfl, h1⟩; have hb1 := vblk1 h1; have hz1 := vlt1 h1; obtain ⟨hc0, hc1, hfr⟩ := kc2 hb1; clear hb1; have H1 := Lib.hid (vafter h1); clear h1)
    go_ret
    exact ⟨rfl, H1.out⟩
  · have hd : decide (0 < y) = false := by simp; omega
    rw [hd] at hS
    clear c3 hd
    go_enter Tryz.func37, Tryz.ntmps37
    go_wp2_with (go_at_call 62; refine (hS _).mono ?_; rintro e w1 ⟨rfl, h1⟩; have hb1 := vblk1 h1; have hz1 := vlt1 h1; obtain ⟨hc0, hc1, hfr⟩ := kc2 hb1; clear hb1; have H1 := Lib.hid (vafter h1); clear h1)
    go_ret
    exact ⟨rfl, H1.out⟩
/-- a function whose results are a key in a block of its own, and a number -/
theorem key_end2 {f : Func} {i j : Nat} {t : TypeId} {Q : Ending → World → Prop} {tmps : Array Value} {W : World} {g : Nat} {s : ByteArray} {r z : Int} (hf : f.results = #[.cell i 23, .tmp j])
    (h2 : tmps[i]?.getD undef = .pointer (some ⟨g, 0, none⟩)) (h3 : tmps[j]?.getD undef = .int .i64 z) (hb : W.heap[g]? = some (.cells #[.string s, .int .i64 r] t (0, 0))) (hQ : Q (.returned (.tuple #[.agg #[.string s, .int .i64 r], .int .i64 z])) W) :
    bodyPost Tryz.prog f Q .ret { tmps := tmps, defers := [] } W := by
  have c0 : W.cell? ⟨g, 0, none⟩ = some (.string s) := vcells hb 0
  have c1 : W.cell? ⟨g, 1, none⟩ = some (.int .i64 r) := vcells hb 1
  clear hb
  refine bodyPost_ret (v := .tuple #[.agg #[.string s, .int .i64 r], .int .i64 z]) ?_ rfl hQ
  simp [h2, h3, c0, c1, results, hf, go_sem]

def PrimTo (s : ByteArray) (y z : Int) (w : World) (e : Ending) (w' : World) : Prop := e = .returned (.tuple #[.agg #[.string s, .int .i64 y], .int .i64 z]) ∧ Below w.heap.size w w'
theorem keyText_k (s : ByteArray) (y : Int) (hk : mayKy ⟨s, y⟩) (h1 : y < 9223372036854775808) (w : World) (htab : TabHere w) : Calls Tryz.prog 76 #[.agg #[.string s, .int .i64 y]] w fun e w' => e = .returned (.string (textKy ⟨s, y⟩)) ∧ Below w.heap.size w w' := by
  by_cases c : 0 < y
  · have := TextSym_k s y c h1 w htab
    have e : textKy ⟨s, y⟩ = symText (y - 1) := if_pos c
    rw [e]; exact this
  · have e : textKy ⟨s, y⟩ = ⟨(quoteL s.data.toList).toArray⟩ := if_neg c
    rw [e]
    have hq := fun w => Quote_any s w (by have := hk.2.1; show s.size ≤ 9000; have h2 : s.size ≤ 4096 := this; omega)
    have hS := fun w => keysymbol_k s y w
    have hd : decide (0 < y) = false := by simp; omega
    rw [hd] at hS
    generalize (⟨(quoteL s.data.toList).toArray⟩ : ByteArray) = t at *
    clear hk hd e htab h1
    go_enter Tryz.func76, Tryz.ntmps76
    go_wp2_with (first
      | (go_at_call 62; refine (hS _).mono ?_; rintro e w1 ⟨rfl, h2⟩; have hb1 := vblk1 h2; have hz1 := vlt1 h2; obtain ⟨hc0, hc1, hfr⟩ := kc2 hb1; clear hb1; have H1 := Lib.hid (vafter h2); clear h2)
      | (go_at_call 114; refine (hq _).mono ?_; rintro e w2 ⟨rfl, h2⟩; have H2 := Lib.hid (vb H1.out h2); clear h2))
    go_ret
    exact ⟨rfl, H2.out⟩
end Go.Proofs.YtbeggameiedjgaaGreatDoor.S
