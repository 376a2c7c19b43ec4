/-
  value.Truth, Type, Text: walks, for any value that may be.
-/
import Derived.Test.YthjmpifdhbjdcaaDoorValMay3
import Derived.Test.YthjmpifdhbjdcaaDoorValShelf
namespace Go.Proofs.YthjmpifdhbjdcaaDoor.S
open Go.RowKit Fl

theorem May_ok {v : Vl} (h : v.ok) (w : World) : Calls Tryd.prog 16 #[v.val] w fun e w' => e = .returned (.bool true) ∧ Below w.heap.size w w' := by
  have z : restB 0 ⟨#[]⟩ 0 = true := by
    have z3 : (⟨#[]⟩ : ByteArray).toList = [] := by rw [toList_data]
    unfold restB; rw [z3]; decide
  have fin : ∀ {b : Bool} {e : Ending} {w' : World}, b = true → (e = .returned (.bool b) ∧ Below w.heap.size w w') → (e = .returned (.bool true) ∧ Below w.heap.size w w') := fun hb h => ⟨by rw [h.1, hb], h.2⟩
  cases v with
  | und => exact (May_k0 0 ⟨#[]⟩ 0 w (by decide)).mono fun e w' => fin (by rw [z]; rfl)
  | nul => exact (May_k1 0 ⟨#[]⟩ 0 w (by decide)).mono fun e w' => fin (by rw [z]; rfl)
  | boo x => exact (May_k2 x ⟨#[]⟩ 0 w).mono fun e w' => fin (by
      rw [z, Bool.and_true]
      rcases h with rfl | rfl | rfl <;> decide)
  | num x =>
    obtain ⟨c, hc, hm⟩ := h
    exact (May_k3 x ⟨#[]⟩ 0 w hc).mono fun e w' => fin (by rw [z, hm]; rfl)
  | str s => exact (May_k4 0 s 0 w (by decide)).mono fun e w' => fin (by
      have h : s.size ≤ 4096 := h
      rw [z, Bool.and_true]; exact decide_eq_true (by omega))
  | sym r => exact (May_k5 0 ⟨#[]⟩ r w (by decide)).mono fun e w' => fin (by rw [z, Bool.and_true]; exact decide_eq_true h.1)
  | obj k r =>
    have hk := h.1
    exact (May_obj 0 ⟨#[]⟩ r w k (by decide) (by rw [beq_eq_false_iff_ne]; omega) (by rw [beq_eq_false_iff_ne]; omega) (by rw [beq_eq_false_iff_ne]; omega) (by rw [beq_eq_false_iff_ne]; omega) (by rw [beq_eq_false_iff_ne]; omega) (by rw [beq_eq_false_iff_ne]; omega) (obj_kd hk)).mono fun e w' => fin (by rw [z, Bool.and_true]; exact decide_eq_true h.2.1)
theorem obj_facts {k : Nat} (h : k = 6 ∨ k = 7 ∨ k = 8) : ((k : Int) == 0) = false ∧ ((k : Int) == 1) = false ∧ ((k : Int) == 2) = false ∧ ((k : Int) == 3) = false ∧ ((k : Int) == 4) = false ∧ ((k : Int) == 5) = false := by
  refine ⟨?_, ?_, ?_, ?_, ?_, ?_⟩ <;> (rw [beq_eq_false_iff_ne]; omega)

theorem Truth_f (k : Int) (hk : k = 2 ∨ k = 3) (x : Nat) (w : World) : Calls Tryd.prog 10 #[.agg #[.int .u8 k, .float .f64 x, .string ⟨#[]⟩, .int .i64 0]] w fun e w' => e = .returned (.bool (!feq x 0 && feq x x)) ∧ Below w.heap.size w w' := by
  have kn := fun w => IsNaN_f x w
  have hf : (FloatKind.f64.format.order x 0 != some .eq) = !feq x 0 := rfl
  have hg : (FloatKind.f64.format.order x x != some .eq) = !feq x x := rfl
  rw [hg] at kn
  cases h0 : feq x 0
  all_goals
    rw [h0] at hf
    clear h0 hg
    rcases hk with rfl | rfl
    all_goals
      go_enter Tryd.func10, Tryd.ntmps10
      go_wp2_with (go_at_call 21; (with_reducible refine (kn _).mono ?_); rintro e w' ⟨rfl, rfl⟩)
      go_ret
      exact ⟨ret_bool (by simp), vafter (Below.refl _ _)⟩
theorem Truth_v {v : Vl} (h : v.ok) (w : World) : Calls Tryd.prog 10 #[v.val] w fun e w' => e = .returned (.bool (truthV v)) ∧ Below w.heap.size w w' := by
  cases v with
  | und =>
    show Calls _ _ #[.agg #[.int .u8 0, .float .f64 0, .string ⟨#[]⟩, .int .i64 0]] w fun e w' => e = .returned (.bool false) ∧ Below w.heap.size w w'
    have k1 : ∀ w, Calls Tryd.prog 19 #[.agg #[.int .u8 0, .float .f64 0, .string ⟨#[]⟩, .int .i64 0]] w (fun e w' => e = .returned (.bool false) ∧ Below w.heap.size w w') := fun w => IsObject_v 0 0 ⟨#[]⟩ 0 w
    go_enter Tryd.func10, Tryd.ntmps10
    go_wp2_with (go_at_call 19; (with_reducible refine (k1 _).mono ?_); rintro e w1 ⟨rfl, h1⟩)
    go_ret
    exact ⟨rfl, vafter h1⟩
  | nul =>
    show Calls _ _ #[.agg #[.int .u8 1, .float .f64 0, .string ⟨#[]⟩, .int .i64 0]] w fun e w' => e = .returned (.bool false) ∧ Below w.heap.size w w'
    have k1 : ∀ w, Calls Tryd.prog 19 #[.agg #[.int .u8 1, .float .f64 0, .string ⟨#[]⟩, .int .i64 0]] w (fun e w' => e = .returned (.bool false) ∧ Below w.heap.size w w') := fun w => IsObject_v 1 0 ⟨#[]⟩ 0 w
    go_enter Tryd.func10, Tryd.ntmps10
    go_wp2_with (go_at_call 19; (with_reducible refine (k1 _).mono ?_); rintro e w1 ⟨rfl, h1⟩)
    go_ret
    exact ⟨rfl, vafter h1⟩
  | boo x => exact Truth_f 2 (.inl rfl) x w
  | num x => exact Truth_f 3 (.inr rfl) x w
  | str s =>
    show Calls _ _ #[.agg #[.int .u8 4, .float .f64 0, .string s, .int .i64 0]] w fun e w' => e = .returned (.bool (!s.data.toList.isEmpty)) ∧ Below w.heap.size w w'
    rw [← toList_data]
    clear h
    go_enter Tryd.func10, Tryd.ntmps10
    go_wp2_with (fail)
    go_ret
    exact ⟨ret_bool (by simp), vafter (Below.refl _ _)⟩
  | sym r =>
    show Calls _ _ #[.agg #[.int .u8 5, .float .f64 0, .string ⟨#[]⟩, .int .i64 r]] w fun e w' => e = .returned (.bool true) ∧ Below w.heap.size w w'
    clear h
    go_enter Tryd.func10, Tryd.ntmps10
    go_wp2_with (fail)
    go_ret
    exact ⟨rfl, vafter (Below.refl _ _)⟩
  | obj k r =>
    show Calls _ _ #[.agg #[.int .u8 (k : Int), .float .f64 0, .string ⟨#[]⟩, .int .i64 r]] w fun e w' => e = .returned (.bool true) ∧ Below w.heap.size w w'
    obtain ⟨f0, f1, f2, f3, f4, f5⟩ := obj_facts h.1
    have k1 := fun w => IsObject_v k 0 ⟨#[]⟩ r w
    rw [obj_kd h.1] at k1
    clear h
    go_enter Tryd.func10, Tryd.ntmps10
    go_wp2_with (go_at_call 19; (with_reducible refine (k1 _).mono ?_); rintro e w1 ⟨rfl, h1⟩)
    go_ret
    exact ⟨rfl, vafter h1⟩
theorem Type_k (k : Nat) (x : Nat) (s : ByteArray) (r : Int) (w : World) (t : List UInt8) (hk : (k = 0 ∧ t = [117, 110, 100, 101, 102, 105, 110, 101, 100]) ∨ (k = 2 ∧ t = [98, 111, 111, 108, 101, 97, 110]) ∨ (k = 3 ∧ t = [110, 117, 109, 98, 101, 114]) ∨ (k = 4 ∧ t = [115, 116, 114, 105, 110, 103]) ∨ (k = 5 ∧ t = [115, 121, 109, 98, 111, 108])) :
    Calls Tryd.prog 11 #[.agg #[.int .u8 (k : Int), .float .f64 x, .string s, .int .i64 r]] w fun e w' => e = .returned (.string ⟨t.toArray⟩) ∧ Below w.heap.size w w' := by
  rcases hk with ⟨rfl, rfl⟩ | ⟨rfl, rfl⟩ | ⟨rfl, rfl⟩ | ⟨rfl, rfl⟩ | ⟨rfl, rfl⟩
  all_goals
    go_enter Tryd.func11, Tryd.ntmps11
    go_wp2_with (fail)
    go_ret
    exact ⟨rfl, vafter (Below.refl _ _)⟩
theorem Type_c (k : Nat) (x : Nat) (s : ByteArray) (r : Int) (w : World) (t : List UInt8) (hk : (k = 1 ∧ t = [111, 98, 106, 101, 99, 116]) ∨ (k = 6 ∧ t = [111, 98, 106, 101, 99, 116]) ∨ (k = 7 ∧ t = [102, 117, 110, 99, 116, 105, 111, 110]) ∨ (k = 8 ∧ t = [102, 117, 110, 99, 116, 105, 111, 110])) :
    Calls Tryd.prog 11 #[.agg #[.int .u8 (k : Int), .float .f64 x, .string s, .int .i64 r]] w fun e w' => e = .returned (.string ⟨t.toArray⟩) ∧ Below w.heap.size w w' := by
  rcases hk with ⟨rfl, rfl⟩ | ⟨rfl, rfl⟩ | ⟨rfl, rfl⟩ | ⟨rfl, rfl⟩
  · have k1 : ∀ w, Calls Tryd.prog 18 #[.agg #[.int .u8 1, .float .f64 x, .string s, .int .i64 r]] w (fun e w' => e = .returned (.bool false) ∧ Below w.heap.size w w') := fun w => Calls_v 1 x s r w
    go_enter Tryd.func11, Tryd.ntmps11
    go_wp2_with (go_at_call 18; (with_reducible refine (k1 _).mono ?_); rintro e w1 ⟨rfl, h1⟩; obtain ⟨hc1, hf1⟩ := vcell h1)
    go_ret
    exact ⟨rfl, vafter h1⟩
  · have k1 : ∀ w, Calls Tryd.prog 18 #[.agg #[.int .u8 6, .float .f64 x, .string s, .int .i64 r]] w (fun e w' => e = .returned (.bool false) ∧ Below w.heap.size w w') := fun w => Calls_v 6 x s r w
    go_enter Tryd.func11, Tryd.ntmps11
    go_wp2_with (go_at_call 18; (with_reducible refine (k1 _).mono ?_); rintro e w1 ⟨rfl, h1⟩; obtain ⟨hc1, hf1⟩ := vcell h1)
    go_ret
    exact ⟨rfl, vafter h1⟩
  · have k1 : ∀ w, Calls Tryd.prog 18 #[.agg #[.int .u8 7, .float .f64 x, .string s, .int .i64 r]] w (fun e w' => e = .returned (.bool true) ∧ Below w.heap.size w w') := fun w => Calls_v 7 x s r w
    go_enter Tryd.func11, Tryd.ntmps11
    go_wp2_with (go_at_call 18; (with_reducible refine (k1 _).mono ?_); rintro e w1 ⟨rfl, h1⟩; obtain ⟨hc1, hf1⟩ := vcell h1)
    go_ret
    exact ⟨rfl, vafter h1⟩
  · have k1 : ∀ w, Calls Tryd.prog 18 #[.agg #[.int .u8 8, .float .f64 x, .string s, .int .i64 r]] w (fun e w' => e = .returned (.bool true) ∧ Below w.heap.size w w') := fun w => Calls_v 8 x s r w
    go_enter Tryd.func11, Tryd.ntmps11
    go_wp2_with (go_at_call 18; (with_reducible refine (k1 _).mono ?_); rintro e w1 ⟨rfl, h1⟩; obtain ⟨hc1, hf1⟩ := vcell h1)
    go_ret
    exact ⟨rfl, vafter h1⟩
theorem Type_v {v : Vl} (h : v.ok) (w : World) : Calls Tryd.prog 11 #[v.val] w fun e w' => e = .returned (.string ⟨(typeV v).toArray⟩) ∧ Below w.heap.size w w' := by
  cases v with
  | und => exact Type_k 0 _ _ _ w _ (.inl ⟨rfl, rfl⟩)
  | nul => exact Type_c 1 _ _ _ w _ (.inl ⟨rfl, rfl⟩)
  | boo x => exact Type_k 2 _ _ _ w _ (.inr (.inl ⟨rfl, rfl⟩))
  | num x => exact Type_k 3 _ _ _ w _ (.inr (.inr (.inl ⟨rfl, rfl⟩)))
  | str s => exact Type_k 4 _ _ _ w _ (.inr (.inr (.inr (.inl ⟨rfl, rfl⟩))))
  | sym r => exact Type_k 5 _ _ _ w _ (.inr (.inr (.inr (.inr ⟨rfl, rfl⟩))))
  | obj k r =>
    rcases h.1 with rfl | rfl | rfl
    · exact Type_c 6 _ _ _ w _ (.inr (.inl ⟨rfl, rfl⟩))
    · exact Type_c 7 _ _ _ w _ (.inr (.inr (.inl ⟨rfl, rfl⟩)))
    · exact Type_c 8 _ _ _ w _ (.inr (.inr (.inr ⟨rfl, rfl⟩)))
end Go.Proofs.YthjmpifdhbjdcaaDoor.S
