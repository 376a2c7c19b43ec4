/-
  value.Text, for any value that may be; plain, counted, reads: walks.
-/
import Derived.Test.YtkkpeagcbgijlaaGreatDoorValTell
import Derived.Lib.ItoaLen
namespace Go.Proofs.YtkkpeagcbgijlaaGreatDoor.S
open Go.RowKit Fl

theorem inFormatBool_b (b : Bool) (w : World) : Calls Tryz.prog 68 #[.bool b] w fun e w' => e = .returned (.string (if b then ⟨#[116, 114, 117, 101]⟩ else ⟨#[102, 97, 108, 115, 101]⟩)) ∧ w = w' := by
  cases b
  all_goals
    go_enter Tryz.func68, Tryz.ntmps68
    go_wp2
    go_ret
    exact ⟨rfl, rfl⟩
theorem FormatBool_b (b : Bool) (w : World) : Calls Tryz.prog 39 #[.bool b] w fun e w' => e = .returned (.string (if b then ⟨#[116, 114, 117, 101]⟩ else ⟨#[102, 97, 108, 115, 101]⟩)) ∧ w = w' := by
  have k1 := fun w => inFormatBool_b b w
  generalize (if b then (⟨#[116, 114, 117, 101]⟩ : ByteArray) else ⟨#[102, 97, 108, 115, 101]⟩) = t at *
  go_enter Tryz.func39, Tryz.ntmps39
  go_wp2_with (go_at_call 68; (with_reducible refine (k1 _).mono ?_); rintro e w' ⟨rfl, rfl⟩)
  go_ret
  exact ⟨rfl, rfl⟩
def TextVTo (v : Vl) (w : World) (e : Ending) (w' : World) : Prop := ∃ t : ByteArray, e = .returned (.string t) ∧ TextV v t.data.toList ∧ Below w.heap.size w w'
theorem Itoa_r (r : Int) (h0 : 0 ≤ r) (h1 : r < 2 ^ 63) (w : World) (htab : Lib.TabIs Tryz.prog w "internal/strconv.uint64pow10" .u64 Lib.pow10Tab) : Calls Tryz.prog 24 #[.int .i64 r] w fun e w' => ∃ t : ByteArray, e = .returned (.string t) ∧ Hid (t.data.toList = Lib.itoa r ∧ t.size ≤ 21) ∧ Below w.heap.size w w' := by
  refine (Tryz.strconv_Itoa r (by omega) (by omega) w htab).mono fun e w' ⟨he, k, os, hw⟩ => ⟨_, he, Lib.hid ⟨rfl, ?_⟩, by rw [hw]; exact grow_below w k os⟩
  have := Lib.itoa_length_le r (by omega) (by omega)
  show (Lib.itoa r).toArray.size ≤ 21
  simpa using this
theorem app_list (a t : ByteArray) : (a ++ t).data.toList = a.data.toList ++ t.data.toList := by
  rw [ByteArray.data_append, Array.toList_append]
set_option maxHeartbeats 1000000 in
theorem Text_v {v : Vl} (h : v.ok) (w : World) (htab : TabHere w) : Calls Tryz.prog 22 #[v.val] w (TextVTo v w) := by
  have HTAB := Lib.hid htab
  clear htab
  cases v with
  | und =>
    show Calls _ _ #[.agg #[.int .u8 0, .float .f64 0, .string ⟨#[]⟩, .int .i64 0]] w (TextVTo .und w)
    go_enter Tryz.func22, Tryz.ntmps22
    go_wp2_with (fail)
    go_ret
    exact ⟨_, rfl, rfl, vafter (Below.refl _ _)⟩
  | nul =>
    show Calls _ _ #[.agg #[.int .u8 1, .float .f64 0, .string ⟨#[]⟩, .int .i64 0]] w (TextVTo .nul w)
    go_enter Tryz.func22, Tryz.ntmps22
    go_wp2_with (fail)
    go_ret
    exact ⟨_, rfl, rfl, vafter (Below.refl _ _)⟩
  | boo x =>
    show Calls _ _ #[.agg #[.int .u8 2, .float .f64 x, .string ⟨#[]⟩, .int .i64 0]] w (TextVTo (.boo x) w)
    have k1 : ∀ w, Calls Tryz.prog 39 #[.bool (FloatKind.f64.format.order x 0 != some .eq)] w _ := fun w => FormatBool_b (!feq x 0) w
    have hq : TextV (.boo x) (if (!feq x 0) = true then (⟨#[116, 114, 117, 101]⟩ : ByteArray) else ⟨#[102, 97, 108, 115, 101]⟩).data.toList := by
      show _ = if feq x 0 then _ else _
      cases feq x 0 <;> rfl
    generalize (if (!feq x 0) = true then (⟨#[116, 114, 117, 101]⟩ : ByteArray) else ⟨#[102, 97, 108, 115, 101]⟩) = t at *
    have HQ := Lib.hid hq
    clear h hq
    go_enter Tryz.func22, Tryz.ntmps22
    go_wp2_with (go_at_call 39; refine (k1 _).mono ?_; rintro e w1 ⟨rfl, rfl⟩)
    go_ret
    exact ⟨_, rfl, HQ.out, vafter (Below.refl _ _)⟩
  | num x =>
    show Calls _ _ #[.agg #[.int .u8 3, .float .f64 x, .string ⟨#[]⟩, .int .i64 0]] w (TextVTo (.num x) w)
    obtain ⟨c, hc, hm⟩ := h
    have hT := fun w ht => Text_cls hc w ht
    have HC := Lib.hid (And.intro hc hm)
    clear hc hm
    go_enter Tryz.func22, Tryz.ntmps22
    go_wp2_with (go_at_call 40; refine (hT _ (HTAB.out _ (vzero _ _))).mono ?_; rintro e w1 ⟨t, ht, rfl, h1⟩; have H1 := Lib.hid h1; have HT := Lib.hid ht; clear h1 ht)
    go_ret
    exact ⟨_, rfl, ⟨c, HC.out.1, HC.out.2, HT.out⟩, vafter H1.out⟩
  | str s =>
    show Calls _ _ #[.agg #[.int .u8 4, .float .f64 0, .string s, .int .i64 0]] w (TextVTo (.str s) w)
    have h : s.size ≤ 4096 := h
    have hq := fun w => Quote_any s w (by omega)
    have HQ : Hid (TextV (.str s) (⟨(quoteL s.data.toList).toArray⟩ : ByteArray).data.toList) := Lib.hid rfl
    generalize (⟨(quoteL s.data.toList).toArray⟩ : ByteArray) = t at *
    clear h
    go_enter Tryz.func22, Tryz.ntmps22
    go_wp2_with (go_at_call 26; refine (hq _).mono ?_; rintro e w1 ⟨rfl, h1⟩; have H1 := Lib.hid h1; clear h1)
    go_ret
    exact ⟨_, rfl, HQ.out, vafter H1.out⟩
  | sym r =>
    show Calls _ _ #[.agg #[.int .u8 5, .float .f64 0, .string ⟨#[]⟩, .int .i64 r]] w (TextVTo (.sym r) w)
    have hI := fun w ht => Itoa_r r h.1 h.2 w ht
    clear h
    go_enter Tryz.func22, Tryz.ntmps22
    go_wp2_with (go_at_call 24; refine (hI _ (HTAB.out _ (vzero _ _))).mono ?_; rintro e w1 ⟨t, rfl, HT, h1⟩; have H1 := Lib.hid h1; clear h1)
    · exfalso
      have := HT.out.2
      simp_all
      omega
    · go_ret
      refine ⟨_, rfl, ?_, vafter H1.out⟩
      show _ = _
      rw [app_list, HT.out.1]
  | obj k r =>
    show Calls _ _ #[.agg #[.int .u8 (k : Int), .float .f64 0, .string ⟨#[]⟩, .int .i64 r]] w (TextVTo (.obj k r) w)
    have hI := fun w ht => Itoa_r r h.2.1 h.2.2 w ht
    obtain ⟨f0, f1, f2, f3, f4, f5⟩ := obj_facts h.1
    have k1 := fun w => IsObject_v k 0 ⟨#[]⟩ r w
    rw [obj_kd h.1] at k1
    clear h
    go_enter Tryz.func22, Tryz.ntmps22
    go_wp2_with (first
      | (go_at_call 21; (with_reducible refine (k1 _).mono ?_); rintro e w1 ⟨rfl, h1⟩; obtain ⟨hc1, hf1⟩ := vcell h1; have hz1 := vlt1 h1; have HB1 := Lib.hid (vafter h1))
      | (go_at_call 24; refine (hI _ (HTAB.out _ HB1.out)).mono ?_; rintro e w2 ⟨t, rfl, HT, h2⟩; have H2 := Lib.hid h2; clear h2))
    · exfalso
      have := HT.out.2
      simp_all
      omega
    · go_ret
      refine ⟨_, rfl, ?_, vb HB1.out H2.out⟩
      show _ = _
      rw [app_list, HT.out.1]
end Go.Proofs.YtkkpeagcbgijlaaGreatDoor.S
