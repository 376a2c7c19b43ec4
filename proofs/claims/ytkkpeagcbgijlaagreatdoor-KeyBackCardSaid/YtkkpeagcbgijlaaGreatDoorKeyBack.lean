/-
  KeyBack: the walk.
-/
import Derived.Test.YtkkpeagcbgijlaaGreatDoorKeyPrim
import Derived.Test.YtkkpeagcbgijlaaGreatDoorKeyOpen
namespace Go.Proofs.YtkkpeagcbgijlaaGreatDoor.S
open Go.RowKit Fl

theorem kstr_eqL (a b : ByteArray) : (a.toList == b.toList) = (a == b) := by
  rw [toList_data, toList_data]
  cases c : a == b
  · rw [beq_eq_false_iff_ne]
    intro h
    have := bytes_ext h
    rw [this, str_same] at c
    cases c
  · rw [str_beq c]; exact beq_self_eq_true _
theorem prim_value (a : Ky) (ha : KyIn a) (hm : mayKy a) : ∃ V : Value, (∀ w, Calls Tryz.prog 13 #[.agg #[.string a.str, .int .i64 a.sym]] w fun e w' => e = .returned V ∧ Below w.heap.size w w') ∧ ∀ w, Calls Tryz.prog 9 #[V] w (PrimTo a.str a.sym 0 w) := by
  by_cases c : 0 < a.sym
  · refine ⟨_, fun w => keyValue_sym a.str a.sym c (by have := ha.2.2; omega) w, fun w => ?_⟩
    have := Prim_sym (a.sym - 1) (by omega) (by have := ha.2.2; omega) w
    rw [show a.sym - 1 + 1 = a.sym by omega] at this
    rw [hm.2.2 c]; exact this
  · refine ⟨_, fun w => keyValue_str a.str a.sym c w, fun w => ?_⟩
    have := Prim_str a.str hm.2.1 w
    rw [show a.sym = 0 by have := hm.1; omega]; exact this
theorem ktext_keep (a : Ky) (hm : mayKy a) (ha : KyIn a) (g1 g2 g3 : Nat) (w0 W : World) (h1 : g1 < w0.heap.size) (h2 : g2 < w0.heap.size) (h3 : g3 < w0.heap.size) (hb : Below w0.heap.size w0 W) (htab : TabHere w0) :
    Calls Tryz.prog 14 #[.agg #[.string a.str, .int .i64 a.sym]] W fun e w' => e = .returned (.string (textKy a)) ∧ Below w0.heap.size w0 w' ∧ (∀ o, w'.cell? ⟨g1, o, none⟩ = W.cell? ⟨g1, o, none⟩) ∧ (∀ o, w'.cell? ⟨g2, o, none⟩ = W.cell? ⟨g2, o, none⟩) ∧ ∀ o, w'.cell? ⟨g3, o, none⟩ = W.cell? ⟨g3, o, none⟩ :=
  (keyText_k a.str a.sym hm (by have := ha.2.2; omega) W (tab_up htab hb)).mono fun _ _ ⟨he, h⟩ => ⟨he, vb hb h, fun o => h.cell (p := ⟨g1, o, none⟩) (Nat.lt_of_lt_of_le h1 hb.size), fun o => h.cell (p := ⟨g2, o, none⟩) (Nat.lt_of_lt_of_le h2 hb.size), fun o => h.cell (p := ⟨g3, o, none⟩) (Nat.lt_of_lt_of_le h3 hb.size)⟩
/-- what KeyBack keeps: the two boxes -/
structure Two (w : World) (a b : Ky) (wr : World) : Prop where
  below : Below w.heap.size w wr
  a : wr.heap[w.heap.size]? = some (.cells #[.string a.str, .int .i64 a.sym] 25 (0, 0))
  b : wr.heap[w.heap.size + 1]? = some (.cells #[.string b.str, .int .i64 b.sym] 25 (0, 0))
theorem Two.up {w wr w2 : World} {a b : Ky} (h : Two w a b wr) (hb : Below wr.heap.size wr w2) : Two w a b w2 := ⟨vb h.below hb, vblkn hb h.a, vblkn hb h.b⟩
theorem two_start (w : World) (a b : Ky) : Two w a b ((w.alloc (.cells #[.string a.str, .int .i64 a.sym] 25)).alloc (.cells #[.string b.str, .int .i64 b.sym] 25)) := by
  obtain ⟨h1, h2⟩ := vblk2 (w := w) (o := .cells #[.string a.str, .int .i64 a.sym] 25) (p := .cells #[.string b.str, .int .i64 b.sym] 25) (Below.refl _ _)
  exact ⟨vafter2 (Below.refl _ _), h1, h2⟩
theorem Two.cells {w wr : World} {a b : Ky} (h : Two w a b wr) : w.heap.size < wr.heap.size ∧ w.heap.size + 1 < wr.heap.size ∧ wr.cell? ⟨w.heap.size, 0, none⟩ = some (.string a.str) ∧ wr.cell? ⟨w.heap.size, 1, none⟩ = some (.int .i64 a.sym) ∧ wr.cell? ⟨w.heap.size + 1, 0, none⟩ = some (.string b.str) ∧ wr.cell? ⟨w.heap.size + 1, 1, none⟩ = some (.int .i64 b.sym) := by
  obtain ⟨a0, a1, _⟩ := kc2 h.a
  obtain ⟨b0, b1, _⟩ := kc2 h.b
  exact ⟨lt_blk h.a, lt_blk h.b, a0, a1, b0, b1⟩

set_option maxHeartbeats 4000000 in
set_option maxRecDepth 1000000 in
theorem KeyBack_walk (a b : Ky) (w : World) (ha : KyIn a) (hb : KyIn b) (htab : TabHere w) : Calls Tryz.prog 4 #[.agg #[.string a.str, .int .i64 a.sym], .agg #[.string b.str, .int .i64 b.sym]] w fun e w' => e = .returned (.bool true) ∧ Below w.heap.size w w' := by
  have HTAB := Lib.hid htab
  have kA := fun w ht => keyalive_any w ht
  have T0 := Lib.hid (two_start w a b)
  clear htab
  by_cases ma : mayKy a
  · have c1 := fun w => keyCheck_ok a.str a.sym w ma
    by_cases mb : mayKy b
    · have c2 := fun w => keyCheck_ok b.str b.sym w mb
      obtain ⟨V, hV, hP⟩ := prim_value a ha ma
      unfold PrimTo at hP
      have HA := Lib.hid ha
      have HB := Lib.hid hb
      have HMA := Lib.hid ma
      have HMB := Lib.hid mb
      have tE := text_eq ma mb
      clear ha hb ma mb
      go_enter Tryz.func4, Tryz.ntmps4
      go_wp2_with (first
        | (go_at_call 12; refine (kA _ (tab_up HTAB.out T0.out.below)).mono ?_; rintro e w1 ⟨rfl, h1⟩; have T1 := Lib.hid (T0.out.up h1); obtain ⟨z0, z1, a0, a1, b0, b1⟩ := T1.out.cells; clear h1)
        | (go_at_call 10; first
          | ((with_reducible refine (c1 _).mono ?_); rintro e w2 ⟨rfl, h2⟩; have T1 := Lib.hid (T1.out.up h2); obtain ⟨z0, z1, a0, a1, b0, b1⟩ := T1.out.cells; clear h2)
          | ((with_reducible refine (c2 _).mono ?_); rintro e w3 ⟨rfl, h3⟩; have T1 := Lib.hid (T1.out.up h3); obtain ⟨z0, z1, a0, a1, b0, b1⟩ := T1.out.cells; clear h3))
        | (go_at_call 13; refine (hV _).mono ?_; rintro e w4 ⟨rfl, h4⟩; have T1 := Lib.hid (T1.out.up h4); obtain ⟨z0, z1, a0, a1, b0, b1⟩ := T1.out.cells; clear h4)
        | (go_at_call 9; refine (hP _).mono ?_; rintro e w5 ⟨rfl, h5⟩; have T1 := Lib.hid (T1.out.up h5); obtain ⟨z0, z1, a0, a1, b0, b1⟩ := T1.out.cells; clear h5))
      have T2 := Lib.hid (T1.out.up (vzero w5 (.cells #[.string a.str, .int .i64 a.sym] 25)))
      have hkb := heap_alloc_new w5 (.cells #[.string a.str, .int .i64 a.sym] 25)
      have z5 : w5.heap.size < (w5.alloc (.cells #[.string a.str, .int .i64 a.sym] 25)).heap.size := by simp
      clear T1 z0 z1 a0 a1 b0 b1
      generalize w5.alloc (.cells #[.string a.str, .int .i64 a.sym] 25) = W1 at *
      obtain ⟨z0, z1, a0, a1, b0, b1⟩ := T2.out.cells
      obtain ⟨k0, k1, _⟩ := kc2 hkb
      have qa := key_eq 9998 a.str a.str a.sym a.sym
      rw [show (a.str == a.str && a.sym == a.sym) = eqK a a from rfl, eqK_iff.2 rfl] at qa
      have qb := key_eq 9998 a.str b.str a.sym b.sym
      rw [show (a.str == b.str && a.sym == b.sym) = eqK a b from rfl] at qb
      have tE2 := kstr_eqL (textKy a) (textKy b)
      rw [tE] at tE2
      have t1 := fun W hb => ktext_keep a HMA.out HA.out w.heap.size (w.heap.size + 1) w5.heap.size W1 W z0 z1 z5 hb (tab_up HTAB.out T2.out.below)
      have t2 := fun W hb => ktext_keep b HMB.out HB.out w.heap.size (w.heap.size + 1) w5.heap.size W1 W z0 z1 z5 hb (tab_up HTAB.out T2.out.below)
      have hb : Below W1.heap.size W1 W1.drew := ⟨rfl, rfl, rfl, Nat.le_refl _, fun _ _ => rfl⟩
      generalize textKy a = ta at *
      generalize textKy b = tb at *
      have rest : ∀ W, Two w a b W → TabHere W := fun W h => tab_up HTAB.out h.below
      clear hkb kA c1 c2 hV hP
      cases hE : eqK a b <;> rw [hE] at tE tE2 qb
      all_goals
        clear hE
        go_region_held3 (fun w' => Below W1.heap.size W1 w' ∧ w'.cell? ⟨w.heap.size, 0, none⟩ = some (.string a.str) ∧ w'.cell? ⟨w.heap.size, 1, none⟩ = some (.int .i64 a.sym) ∧ w'.cell? ⟨w.heap.size + 1, 0, none⟩ = some (.string b.str) ∧ w'.cell? ⟨w.heap.size + 1, 1, none⟩ = some (.int .i64 b.sym) ∧ w'.cell? ⟨w5.heap.size, 0, none⟩ = some (.string a.str) ∧ w'.cell? ⟨w5.heap.size, 1, none⟩ = some (.int .i64 a.sym))
          (first | exact ⟨hb, a0, a1, b0, b1, k0, k1⟩ | go_keep)
          (first | (go_at_call 14; first | ((with_reducible refine (t1 _ ?_).mono ?_); (simp [*]); rintro e w' ⟨rfl, hb1, hb2, hb3, hb4⟩) | ((with_reducible refine (t2 _ ?_).mono ?_); (simp [*]); rintro e w' ⟨rfl, hb1, hb2, hb3, hb4⟩)))
        have T3 := Lib.hid (T2.out.up (by assumption))
        clear hb a0 a1 b0 b1 k0 k1 t1 t2 qa qb tE tE2 hb1 hb2 hb3 hb4
        clear z0 z1
        obtain ⟨z0, z1, a0, a1, b0, b1⟩ := T3.out.cells
        have ki := fun W ht => Index_k a.str a.sym W HA.out.1 HA.out.2 ht
        unfold IdxTo at ki
        cases hix : ixK a.str a.sym with
        | none =>
          rw [hix] at ki
          simp only [Option.getD_none, Option.isSome_none] at ki
          clear hix
          go_wp2_with (go_at_call 8; refine (ki _ (rest _ T3.out)).mono ?_; rintro e w6 ⟨rfl, h6⟩; have T4 := Lib.hid (T3.out.up h6); clear h6)
          go_ret
          exact ⟨rfl, T4.out.below⟩
        | some n =>
          rw [hix] at ki
          simp only [Option.getD_some, Option.isSome_some] at ki
          obtain ⟨n1, n2, n3⟩ := ixK_lt hix
          have hsy : a.sym = 0 := by have := HMA.out.1; omega
          have hst : a.str = ⟨(Lib.itoa (n : Int)).toArray⟩ := bytes_ext (by rw [n2])
          have kn := fun W hg hb => number_keep (n : Int) (by omega) (by omega) w.heap.size w W hg hb HTAB.out
          rw [← hst] at kn
          have qn := key_eq 9998 a.str a.str 0 a.sym
          rw [show (a.str == a.str && (0 : Int) == a.sym) = true by rw [hsy, str_same]; rfl] at qn
          have nz0 : (0 : Int) ≤ (n : Int) := by omega
          have nz1 : (n : Int) < 1024 := by omega
          clear hix n2 n3 hsy hst
          go_wp2_with (go_at_call 8; refine (ki _ (rest _ T3.out)).mono ?_; rintro e w6 ⟨rfl, h6⟩; have T4 := Lib.hid (T3.out.up h6); obtain ⟨z0, z1, a0, a1, b0, b1⟩ := T4.out.cells; clear h6)
          have hd := T4.out.below.drew
          go_region_held3 (fun w' => w.heap.size < w'.heap.size ∧ Below w.heap.size w w' ∧ w'.cell? ⟨w.heap.size, 0, none⟩ = some (.string a.str) ∧ w'.cell? ⟨w.heap.size, 1, none⟩ = some (.int .i64 a.sym)) (first | exact ⟨z0, hd, a0, a1⟩ | go_keep)
            (first | (go_at_call 11; ((with_reducible refine (kn _ ?_ ?_).mono ?_); (simp [*]); (simp [*]); rintro e w' ⟨rfl, hb1, hb2, hb3⟩)))
          go_wp2
          go_ret
          exact ⟨rfl, by assumption⟩
    · have c2 := fun w => keyCheck_bad b.str b.sym w mb
      clear mb ma
      go_enter Tryz.func4, Tryz.ntmps4
      go_wp2_with (first
        | (go_at_call 12; refine (kA _ (tab_up HTAB.out T0.out.below)).mono ?_; rintro e w1 ⟨rfl, h1⟩; have T1 := Lib.hid (T0.out.up h1); obtain ⟨z0, z1, a0, a1, b0, b1⟩ := T1.out.cells; clear h1)
        | (go_at_call 10; first
          | ((with_reducible refine (c1 _).mono ?_); rintro e w2 ⟨rfl, h2⟩; have T1 := Lib.hid (T1.out.up h2); obtain ⟨z0, z1, a0, a1, b0, b1⟩ := T1.out.cells; clear h2)
          | ((with_reducible refine (c2 _).mono ?_); rintro e w3 ⟨rfl, h3⟩; have T1 := Lib.hid (T1.out.up h3); obtain ⟨z0, z1, a0, a1, b0, b1⟩ := T1.out.cells; clear h3)))
      go_ret
      exact ⟨rfl, T1.out.below⟩
  · have c1 := fun w => keyCheck_bad a.str a.sym w ma
    clear ma
    go_enter Tryz.func4, Tryz.ntmps4
    go_wp2_with (first
      | (go_at_call 12; refine (kA _ (tab_up HTAB.out T0.out.below)).mono ?_; rintro e w1 ⟨rfl, h1⟩; have T1 := Lib.hid (T0.out.up h1); obtain ⟨z0, z1, a0, a1, b0, b1⟩ := T1.out.cells; clear h1)
      | (go_at_call 10; refine (c1 _).mono ?_; rintro e w2 ⟨rfl, h2⟩; have T1 := Lib.hid (T1.out.up h2); obtain ⟨z0, z1, a0, a1, b0, b1⟩ := T1.out.cells; clear h2))
    go_ret
    exact ⟨rfl, T1.out.below⟩
end Go.Proofs.YtkkpeagcbgijlaaGreatDoor.S
