/-
  key.Check, Value, Prim, Text: walks; texts of keys that are not the same differ.
-/
import Derived.Test.YtkkpeagcbgijlaaGreatDoorKeyAlive
import Derived.Test.YtkkpeagcbgijlaaGreatDoorStrPQ
import Derived.Test.YtkkpeagcbgijlaaGreatDoorNumAgain
import Derived.Test.YtkkpeagcbgijlaaGreatDoorValText
namespace Go.Proofs.YtkkpeagcbgijlaaGreatDoor.S
open Go.RowKit Fl

/-- two keys, compared -/
def eqK (a b : Ky) : Bool := (a.str == b.str) && (a.sym == b.sym)
theorem eqK_iff {a b : Ky} : eqK a b = true ↔ a = b := by
  unfold eqK
  rw [Bool.and_eq_true]
  constructor
  · rintro ⟨h1, h2⟩
    cases a; cases b
    have := str_beq h1
    have := eq_of_beq h2
    simp_all
  · rintro rfl
    exact ⟨str_same _, beq_self_eq_true _⟩
theorem eqK_no {a b : Ky} (h : a ≠ b) : eqK a b = false := by
  cases c : eqK a b
  · rfl
  · exact absurd (eqK_iff.1 c) h
/-- whether a key may be -/
def mayKy (k : Ky) : Prop := 0 ≤ k.sym ∧ k.str.size ≤ 4096 ∧ (0 < k.sym → k.str = ⟨#[]⟩)
/-- a key's text -/
def textKy (k : Ky) : ByteArray := if 0 < k.sym then symText (k.sym - 1) else ⟨(quoteL k.str.data.toList).toArray⟩

theorem itoa_inj {a b : Int} (ha : 0 ≤ a) (hb : 0 ≤ b) (h : Lib.itoa a = Lib.itoa b) : a = b := by
  have e : ∀ n : Int, 0 ≤ n → Lib.itoa n = Lib.decDigits n.toNat := fun n hn => by unfold Lib.itoa; rw [if_neg (by omega)]
  rw [e a ha, e b hb] at h
  have h1 := (decDigits_val a.toNat).1
  have h2 := (decDigits_val b.toNat).1
  rw [h] at h1
  omega
theorem symText_list (n : Int) : (symText n).data.toList = [115, 121, 109, 98, 111, 108, 32] ++ Lib.itoa n := by
  unfold symText
  rw [ByteArray.data_append, Array.toList_append]
theorem text_inj {a b : Ky} (ha : mayKy a) (hb : mayKy b) (h : textKy a = textKy b) : a = b := by
  obtain ⟨a1, a2, a3⟩ := ha
  obtain ⟨b1, b2, b3⟩ := hb
  have h := congrArg (fun t : ByteArray => t.data.toList) h
  unfold textKy at h
  by_cases c : 0 < a.sym
  · by_cases d : 0 < b.sym
    · rw [if_pos c, if_pos d] at h
      simp only [symText_list] at h
      have := itoa_inj (by omega) (by omega) (List.append_cancel_left h)
      have e1 := a3 c
      have e2 := b3 d
      cases a; cases b
      simp only at this e1 e2 ⊢
      subst e1 e2
      congr 1
      omega
    · rw [if_pos c, if_neg d] at h
      simp only [symText_list] at h
      unfold quoteL at h
      simp at h
  · by_cases d : 0 < b.sym
    · rw [if_neg c, if_pos d] at h
      simp only [symText_list] at h
      unfold quoteL at h
      simp at h
    · rw [if_neg c, if_neg d] at h
      have h : quoteL a.str.data.toList = quoteL b.str.data.toList := by simpa using h
      unfold quoteL at h
      injection h with _ h
      have hq : quoteI a.str.data.toList = quoteI b.str.data.toList := List.append_cancel_right h
      have p1 := plain_quote ⟨(quoteI a.str.data.toList).toArray⟩ a.str (by simp) a2
      have p2 := plain_quote ⟨(quoteI a.str.data.toList).toArray⟩ b.str (by simp [hq]) b2
      rw [p1] at p2
      injection p2 with e _
      cases a; cases b
      simp only at e a1 b1 c d ⊢
      subst e
      congr 1
      omega
theorem text_eq {a b : Ky} (ha : mayKy a) (hb : mayKy b) : (textKy a == textKy b) = eqK a b := by
  cases c : eqK a b
  · cases d : textKy a == textKy b
    · rfl
    · have := text_inj ha hb (str_beq d)
      rw [eqK_iff.2 this] at c
      cases c
  · rw [eqK_iff.1 c]; exact str_same _

theorem empty_is (s : ByteArray) : s = ⟨#[]⟩ ↔ s.toList.isEmpty = true := by
  rw [List.isEmpty_iff, toList_data]
  constructor
  · intro h; rw [h]
  · intro h; exact bytes_ext (by rw [h])
theorem keyCheck_bad (s : ByteArray) (y : Int) (w : World) (h : ¬ mayKy ⟨s, y⟩) : Calls Tryz.prog 10 #[.agg #[.string s, .int .i64 y]] w fun e w' => e = .returned (.int .i64 9) ∧ Below w.heap.size w w' := by
  have hS := fun w => keysymbol_k s y w
  by_cases c1 : y < 0
  · go_enter Tryz.func10, Tryz.ntmps10
    go_wp2_with (fail)
    go_ret
    exact ⟨rfl, vzero _ _⟩
  · by_cases c2 : 4096 < s.size
    · go_enter Tryz.func10, Tryz.ntmps10
      go_wp2_with (fail)
      go_ret
      exact ⟨rfl, vzero _ _⟩
    · have c3 : 0 < y ∧ s ≠ ⟨#[]⟩ := by
        refine Classical.byContradiction fun g => h ⟨by show 0 ≤ y; omega, by show s.size ≤ 4096; omega, fun hy => ?_⟩
        exact Classical.byContradiction fun g2 => g ⟨hy, g2⟩
      obtain ⟨c3, c4⟩ := c3
      have c5 : s.toList.isEmpty = false := by
        cases e : s.toList.isEmpty
        · rfl
        · exact absurd ((empty_is s).2 e) c4
      have hd : decide (0 < y) = true := by simp; exact c3
      rw [hd] at hS
      clear h c4 hd
      go_enter Tryz.func10, Tryz.ntmps10
      go_wp2_with (go_at_call 23; refine (hS _).mono ?_; rintro e w1 ⟨rfl, h1⟩; have hb1 := vblk1 h1; have hz1 := vlt1 h1; obtain ⟨hc0, hc1, hfr⟩ := kc2 hb1; clear hb1; have H1 := Lib.hid (vafter h1); clear h1)
      go_ret
      exact ⟨rfl, H1.out⟩
theorem keyCheck_ok (s : ByteArray) (y : Int) (w : World) (h : mayKy ⟨s, y⟩) : Calls Tryz.prog 10 #[.agg #[.string s, .int .i64 y]] w fun e w' => e = .returned (.int .i64 0) ∧ Below w.heap.size w w' := by
  have hS := fun w => keysymbol_k s y w
  obtain ⟨c1, c2, c3⟩ := h
  have c1 : ¬ y < 0 := by have : 0 ≤ y := c1; omega
  have c2 : ¬ 4096 < s.size := by have : s.size ≤ 4096 := c2; omega
  have c3 : 0 < y → s = ⟨#[]⟩ := c3
  by_cases d : 0 < y
  · have hs := c3 d
    subst hs
    have hd : decide (0 < y) = true := by simp; exact d
    rw [hd] at hS
    clear c3 hd c2
    go_enter Tryz.func10, Tryz.ntmps10
    go_wp2_with (go_at_call 23; refine (hS _).mono ?_; rintro e w1 ⟨rfl, h1⟩; have hb1 := vblk1 h1; have hz1 := vlt1 h1; obtain ⟨hc0, hc1, hfr⟩ := kc2 hb1; clear hb1; have H1 := Lib.hid (vafter h1); clear h1)
    go_ret
    exact ⟨rfl, H1.out⟩
  · have hd : decide (0 < y) = false := by simp; omega
    rw [hd] at hS
    clear c3 hd
    go_enter Tryz.func10, Tryz.ntmps10
    go_wp2_with (go_at_call 23; refine (hS _).mono ?_; rintro e w1 ⟨rfl, h1⟩; have hb1 := vblk1 h1; have hz1 := vlt1 h1; obtain ⟨hc0, hc1, hfr⟩ := kc2 hb1; clear hb1; have H1 := Lib.hid (vafter h1); clear h1)
    go_ret
    exact ⟨rfl, H1.out⟩
/-- a function whose results are a key in a block of its own, and a number -/
theorem key_end2 {f : Func} {i j : Nat} {t : TypeId} {Q : Ending → World → Prop} {tmps : Array Value} {W : World} {g : Nat} {s : ByteArray} {r z : Int} (hf : f.results = #[.cell i 25, .tmp j])
    (h2 : tmps[i]?.getD undef = .pointer (some ⟨g, 0, none⟩)) (h3 : tmps[j]?.getD undef = .int .i64 z) (hb : W.heap[g]? = some (.cells #[.string s, .int .i64 r] t (0, 0))) (hQ : Q (.returned (.tuple #[.agg #[.string s, .int .i64 r], .int .i64 z])) W) :
    bodyPost Tryz.prog f Q .ret { tmps := tmps, defers := [] } W := by
  have c0 : W.cell? ⟨g, 0, none⟩ = some (.string s) := vcells hb 0
  have c1 : W.cell? ⟨g, 1, none⟩ = some (.int .i64 r) := vcells hb 1
  clear hb
  refine bodyPost_ret (v := .tuple #[.agg #[.string s, .int .i64 r], .int .i64 z]) ?_ rfl hQ
  simp [h2, h3, c0, c1, results, hf, go_sem]

theorem keyValue_str (s : ByteArray) (y : Int) (hy : ¬ 0 < y) (w : World) : Calls Tryz.prog 13 #[.agg #[.string s, .int .i64 y]] w fun e w' => e = .returned (.agg #[.int .u8 4, .float .f64 0, .string s, .int .i64 0]) ∧ Below w.heap.size w w' := by
  have hS := fun w => keysymbol_k s y w
  have hV := fun w => Str_v s w
  have hd : decide (0 < y) = false := by simp; omega
  rw [hd] at hS
  have hst := vstore
  clear hd
  go_enter Tryz.func13, Tryz.ntmps13
  go_wp2_with (first
    | (go_at_call 23; refine (hS _).mono ?_; rintro e w1 ⟨rfl, h1⟩; obtain ⟨hb1, hb2⟩ := vblk2 h1; obtain ⟨hz1, hz2⟩ := vlt2 h1; obtain ⟨hc0, hc1, hfr⟩ := kc2 hb1; obtain ⟨v0, v1, v2, v3, vz⟩ := vc4 hb2; have H1 := Lib.hid (vafter2 h1); clear h1)
    | (go_at_call 25; refine (hV _).mono ?_; rintro e w2 ⟨rfl, h2⟩; have hb3 := vblkn h2 hb2; have hz3 := vltn h2 hz2; obtain ⟨u0, u1, u2, u3, uz⟩ := vc4 hb3; have HB3 := Lib.hid hb3; have H2 := Lib.hid (vb H1.out h2); clear h2 hb3))
  exact val_end Tryz.results13 rfl (vset4 HB3.out _ _ _ _) ⟨rfl, vbel4 H2.out (Nat.le_succ _) _ _ _ _⟩
theorem keyValue_sym (s : ByteArray) (y : Int) (hy : 0 < y) (hy2 : y < 9223372036854775808) (w : World) : Calls Tryz.prog 13 #[.agg #[.string s, .int .i64 y]] w fun e w' => e = .returned (.agg #[.int .u8 5, .float .f64 0, .string ⟨#[]⟩, .int .i64 (y - 1)]) ∧ Below w.heap.size w w' := by
  have hS := fun w => keysymbol_k s y w
  have hd : decide (0 < y) = true := by simp; omega
  rw [hd] at hS
  have hst := vstore
  clear hd
  go_enter Tryz.func13, Tryz.ntmps13
  go_wp2_with (go_at_call 23; refine (hS _).mono ?_; rintro e w1 ⟨rfl, h1⟩; obtain ⟨hb1, hb2⟩ := vblk2 h1; obtain ⟨hz1, hz2⟩ := vlt2 h1; obtain ⟨hc0, hc1, hfr⟩ := kc2 hb1; obtain ⟨v0, v1, v2, v3, vz⟩ := vc4 hb2; have HB2 := Lib.hid hb2; have H1 := Lib.hid (vafter2 h1); clear h1)
  exact val_end Tryz.results13 rfl (vset4 HB2.out _ _ _ _) ⟨rfl, vbel4 H1.out (Nat.le_succ _) _ _ _ _⟩

def PrimTo (s : ByteArray) (y z : Int) (w : World) (e : Ending) (w' : World) : Prop := e = .returned (.tuple #[.agg #[.string s, .int .i64 y], .int .i64 z]) ∧ Below w.heap.size w w'
theorem Prim_str (s : ByteArray) (hs : s.size ≤ 4096) (w : World) : Calls Tryz.prog 9 #[.agg #[.int .u8 4, .float .f64 0, .string s, .int .i64 0]] w (PrimTo s 0 0 w) := by
  have k1 : ∀ w, Calls Tryz.prog 20 #[.agg #[.int .u8 4, .float .f64 0, .string s, .int .i64 0]] w (fun e w' => e = .returned (.bool true) ∧ Below w.heap.size w w') := fun w => May_ok (v := .str s) hs w
  have k2 : ∀ w, Calls Tryz.prog 21 #[.agg #[.int .u8 4, .float .f64 0, .string s, .int .i64 0]] w (fun e w' => e = .returned (.bool false) ∧ Below w.heap.size w w') := fun w => IsObject_v 4 0 s 0 w
  have k3 := fun w => keyOf_k s w
  clear hs
  go_enter Tryz.func9, Tryz.ntmps9
  go_wp2_with (first
    | (go_at_call 20; refine (k1 _).mono ?_; rintro e w1 ⟨rfl, h1⟩; obtain ⟨hb1, hb2⟩ := vblk2 h1; obtain ⟨hz1, hz2⟩ := vlt2 h1; obtain ⟨v0, v1, v2, v3, vz⟩ := vc4 hb1; have H1 := Lib.hid (vafter2 h1); clear h1)
    | (go_at_call 21; refine (k2 _).mono ?_; rintro e w2 ⟨rfl, h2⟩; have hb3 := vblkn h2 hb1; have hb4 := vblkn h2 hb2; have hz3 := vltn h2 hz1; have hz4 := vltn h2 hz2; obtain ⟨v0, v1, v2, v3, vz⟩ := vc4 hb3; have H2 := Lib.hid (vb H1.out h2); clear h2)
    | (go_at_call 6; refine (k3 _).mono ?_; rintro e w3 ⟨rfl, h3⟩; have hb5 := vblkn h3 hb4; have hz5 := vltn h3 hz4; obtain ⟨u0, u1, uz⟩ := kc2 hb5; have HB5 := Lib.hid hb5; have H3 := Lib.hid (vb H2.out h3); clear h3 hb5))
  exact key_end2 (g := w.heap.size + 1) Tryz.results9 rfl rfl (kset2 HB5.out _ _) ⟨rfl, kbel2 H3.out (Nat.le_succ _) _ _⟩
theorem Prim_sym (r : Int) (h0 : 0 ≤ r) (h1 : r < 9223372036854775807) (w : World) : Calls Tryz.prog 9 #[.agg #[.int .u8 5, .float .f64 0, .string ⟨#[]⟩, .int .i64 r]] w (PrimTo ⟨#[]⟩ (r + 1) 0 w) := by
  have k1 : ∀ w, Calls Tryz.prog 20 #[.agg #[.int .u8 5, .float .f64 0, .string ⟨#[]⟩, .int .i64 r]] w (fun e w' => e = .returned (.bool true) ∧ Below w.heap.size w w') := fun w => May_ok (v := .sym r) ⟨h0, by omega⟩ w
  have k2 : ∀ w, Calls Tryz.prog 21 #[.agg #[.int .u8 5, .float .f64 0, .string ⟨#[]⟩, .int .i64 r]] w (fun e w' => e = .returned (.bool false) ∧ Below w.heap.size w w') := fun w => IsObject_v 5 0 ⟨#[]⟩ r w
  have k3 := fun w => Sym_k r h0 h1 w
  clear h0 h1
  go_enter Tryz.func9, Tryz.ntmps9
  go_wp2_with (first
    | (go_at_call 20; refine (k1 _).mono ?_; rintro e w1 ⟨rfl, h1⟩; obtain ⟨hb1, hb2⟩ := vblk2 h1; obtain ⟨hz1, hz2⟩ := vlt2 h1; obtain ⟨v0, v1, v2, v3, vz⟩ := vc4 hb1; have H1 := Lib.hid (vafter2 h1); clear h1)
    | (go_at_call 21; refine (k2 _).mono ?_; rintro e w2 ⟨rfl, h2⟩; have hb3 := vblkn h2 hb1; have hb4 := vblkn h2 hb2; have hz3 := vltn h2 hz1; have hz4 := vltn h2 hz2; obtain ⟨v0, v1, v2, v3, vz⟩ := vc4 hb3; have H2 := Lib.hid (vb H1.out h2); clear h2)
    | (go_at_call 7; refine (k3 _).mono ?_; rintro e w3 ⟨rfl, h3⟩; have hb5 := vblkn h3 hb4; have hz5 := vltn h3 hz4; obtain ⟨u0, u1, uz⟩ := kc2 hb5; have HB5 := Lib.hid hb5; have H3 := Lib.hid (vb H2.out h3); clear h3 hb5))
  exact key_end2 (g := w.heap.size + 1) Tryz.results9 rfl rfl (kset2 HB5.out _ _) ⟨rfl, kbel2 H3.out (Nat.le_succ _) _ _⟩
theorem keyText_k (s : ByteArray) (y : Int) (hk : mayKy ⟨s, y⟩) (h1 : y < 9223372036854775808) (w : World) (htab : TabHere w) : Calls Tryz.prog 14 #[.agg #[.string s, .int .i64 y]] w fun e w' => e = .returned (.string (textKy ⟨s, y⟩)) ∧ Below w.heap.size w w' := by
  by_cases c : 0 < y
  · have := TextSym_k s y c h1 w htab
    have e : textKy ⟨s, y⟩ = symText (y - 1) := if_pos c
    rw [e]; exact this
  · have e : textKy ⟨s, y⟩ = ⟨(quoteL s.data.toList).toArray⟩ := if_neg c
    rw [e]
    have hq := fun w => Quote_any s w (by have := hk.2.1; show s.size ≤ 9000; have h2 : s.size ≤ 4096 := this; omega)
    have hS := fun w => keysymbol_k s y w
    have hd : decide (0 < y) = false := by simp; omega
    rw [hd] at hS
    generalize (⟨(quoteL s.data.toList).toArray⟩ : ByteArray) = t at *
    clear hk hd e htab h1
    go_enter Tryz.func14, Tryz.ntmps14
    go_wp2_with (first
      | (go_at_call 23; refine (hS _).mono ?_; rintro e w1 ⟨rfl, h2⟩; have hb1 := vblk1 h2; have hz1 := vlt1 h2; obtain ⟨hc0, hc1, hfr⟩ := kc2 hb1; clear hb1; have H1 := Lib.hid (vafter h2); clear h2)
      | (go_at_call 26; refine (hq _).mono ?_; rintro e w2 ⟨rfl, h2⟩; have H2 := Lib.hid (vb H1.out h2); clear h2))
    go_ret
    exact ⟨rfl, H2.out⟩
end Go.Proofs.YtkkpeagcbgijlaaGreatDoor.S
