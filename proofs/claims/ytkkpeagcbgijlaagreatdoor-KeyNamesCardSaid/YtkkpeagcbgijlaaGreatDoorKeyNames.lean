/-
  KeyNames: the calls of its examples.
-/
import Derived.Test.YtkkpeagcbgijlaaGreatDoorKeyPrim
namespace Go.Proofs.YtkkpeagcbgijlaaGreatDoor.S
open Go.RowKit Fl

theorem Sym_neg (n : Int) (h0 : n < 0) (w : World) : Calls Tryz.prog 7 #[.int .i64 n] w fun e w' => e = .returned (.agg #[.string ⟨#[]⟩, .int .i64 0]) ∧ Below w.heap.size w w' := by
  have kO := fun w => keyOf_k ⟨#[]⟩ w
  go_enter Tryz.func7, Tryz.ntmps7
  go_wp2_with (go_at_call 6; refine (kO _).mono ?_; rintro e w1 ⟨rfl, h1⟩; have hb1 := vblk1 h1; have hz1 := vlt1 h1; obtain ⟨hc0, hc1, hfr⟩ := kc2 hb1; have HB1 := Lib.hid hb1; have H1 := Lib.hid (vafter h1); clear h1 hb1)
  refine key_end (g := w.heap.size) Tryz.results7 rfl (kset2 HB1.out _ _) ⟨rfl, ?_⟩
  exact kbel2 H1.out (Nat.le_refl _) _ _
/-- the text of a number's value -/
theorem TextNum_v {x : Nat} {c : Cl} (hc : Is c x) (w : World) (htab : TabHere w) : Calls Tryz.prog 22 #[.agg #[.int .u8 3, .float .f64 x, .string ⟨#[]⟩, .int .i64 0]] w fun e w' => e = .returned (.string ⟨(textL c).toArray⟩) ∧ Below w.heap.size w w' := by
  have hT := fun w ht => Text_cls hc w ht
  have HTAB := Lib.hid htab
  clear hc htab
  go_enter Tryz.func22, Tryz.ntmps22
  go_wp2_with (go_at_call 40; refine (hT _ (HTAB.out _ (vzero _ _))).mono ?_; rintro e w1 ⟨t, ht, rfl, h1⟩; have H1 := Lib.hid h1; have HT := Lib.hid ht; clear h1 ht)
  go_ret
  exact ⟨by rw [bytes_ext (a := t) (b := ⟨(textL c).toArray⟩) (by rw [HT.out])]; rfl, vafter H1.out⟩
/-- Prim of a value that has a text -/
theorem Prim_txt (k x : Nat) (t : ByteArray) (hk : k = 2 ∨ k = 3) (hm : ∀ w, Calls Tryz.prog 20 #[.agg #[.int .u8 (k : Int), .float .f64 x, .string ⟨#[]⟩, .int .i64 0]] w fun e w' => e = .returned (.bool true) ∧ Below w.heap.size w w')
    (hT : ∀ w, TabHere w → Calls Tryz.prog 22 #[.agg #[.int .u8 (k : Int), .float .f64 x, .string ⟨#[]⟩, .int .i64 0]] w fun e w' => e = .returned (.string t) ∧ Below w.heap.size w w') (w : World) (htab : TabHere w) :
    Calls Tryz.prog 9 #[.agg #[.int .u8 (k : Int), .float .f64 x, .string ⟨#[]⟩, .int .i64 0]] w (PrimTo t 0 0 w) := by
  have k2 : ∀ w, Calls Tryz.prog 21 #[.agg #[.int .u8 (k : Int), .float .f64 x, .string ⟨#[]⟩, .int .i64 0]] w (fun e w' => e = .returned (.bool false) ∧ Below w.heap.size w w') := fun w => by
    have := IsObject_v k x ⟨#[]⟩ 0 w
    rw [show objB k = false by rcases hk with rfl | rfl <;> rfl] at this
    exact this
  have k3 := fun w => keyOf_k t w
  have e4 : ((k : Int) == 4) = false := by rw [beq_eq_false_iff_ne]; omega
  have e5 : ((k : Int) == 5) = false := by rw [beq_eq_false_iff_ne]; omega
  have HTAB := Lib.hid htab
  clear htab hk
  go_enter Tryz.func9, Tryz.ntmps9
  go_wp2_with (first
    | (go_at_call 20; refine (hm _).mono ?_; rintro e w1 ⟨rfl, h1⟩; obtain ⟨hb1, hb2⟩ := vblk2 h1; obtain ⟨hz1, hz2⟩ := vlt2 h1; obtain ⟨v0, v1, v2, v3, vz⟩ := vc4 hb1; have H1 := Lib.hid (vafter2 h1); clear h1)
    | (go_at_call 21; refine (k2 _).mono ?_; rintro e w2 ⟨rfl, h2⟩; have hb3 := vblkn h2 hb1; have hb4 := vblkn h2 hb2; have hz3 := vltn h2 hz1; have hz4 := vltn h2 hz2; obtain ⟨v0, v1, v2, v3, vz⟩ := vc4 hb3; have H2 := Lib.hid (vb H1.out h2); clear h2)
    | (go_at_call 22; refine (hT _ (tab_up HTAB.out H2.out)).mono ?_; rintro e w4 ⟨rfl, h4⟩; have hb6 := vblkn h4 hb4; have hz6 := vltn h4 hz4; have H4 := Lib.hid (vb H2.out h4); clear h4)
    | (go_at_call 6; refine (k3 _).mono ?_; rintro e w3 ⟨rfl, h3⟩; have hb5 := vblkn h3 hb6; have hz5 := vltn h3 hz6; obtain ⟨u0, u1, uz⟩ := kc2 hb5; have HB5 := Lib.hid hb5; have H3 := Lib.hid (vb H4.out h3); clear h3 hb5))
  exact key_end2 (g := w.heap.size + 1) Tryz.results9 rfl rfl (kset2 HB5.out _ _) ⟨rfl, kbel2 H3.out (Nat.le_succ _) _ _⟩
theorem Prim_obj (k : Nat) (r : Int) (hk : k = 6 ∨ k = 7 ∨ k = 8) (h0 : 0 ≤ r) (h1 : r < 2 ^ 63) (w : World) : Calls Tryz.prog 9 #[.agg #[.int .u8 (k : Int), .float .f64 0, .string ⟨#[]⟩, .int .i64 r]] w (PrimTo ⟨#[]⟩ 0 9 w) := by
  have k1 : ∀ w, Calls Tryz.prog 20 #[.agg #[.int .u8 (k : Int), .float .f64 0, .string ⟨#[]⟩, .int .i64 r]] w (fun e w' => e = .returned (.bool true) ∧ Below w.heap.size w w') := fun w => May_ok (v := .obj k r) ⟨hk, h0, h1⟩ w
  have k2 : ∀ w, Calls Tryz.prog 21 #[.agg #[.int .u8 (k : Int), .float .f64 0, .string ⟨#[]⟩, .int .i64 r]] w (fun e w' => e = .returned (.bool true) ∧ Below w.heap.size w w') := fun w => by
    have := IsObject_v k 0 ⟨#[]⟩ r w
    rw [show objB k = true by rcases hk with rfl | rfl | rfl <;> rfl] at this
    exact this
  clear hk h0 h1
  go_enter Tryz.func9, Tryz.ntmps9
  go_wp2_with (first
    | (go_at_call 20; refine (k1 _).mono ?_; rintro e w1 ⟨rfl, h1⟩; obtain ⟨hb1, hb2⟩ := vblk2 h1; obtain ⟨hz1, hz2⟩ := vlt2 h1; obtain ⟨v0, v1, v2, v3, vz⟩ := vc4 hb1; have H1 := Lib.hid (vafter2 h1); clear h1)
    | (go_at_call 21; refine (k2 _).mono ?_; rintro e w2 ⟨rfl, h2⟩; have hb4 := vblkn h2 hb2; have hz4 := vltn h2 hz2; obtain ⟨u0, u1, uz⟩ := kc2 hb4; have HB5 := Lib.hid hb4; have H2 := Lib.hid (vb H1.out h2); clear h2))
  exact key_end2 (g := w.heap.size + 1) Tryz.results9 rfl rfl (kset2 HB5.out _ _) ⟨rfl, kbel2 H2.out (Nat.le_succ _) _ _⟩
end Go.Proofs.YtkkpeagcbgijlaaGreatDoor.S
