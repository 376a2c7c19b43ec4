/-
  ValueNames: the walk.
-/
import Derived.Test.YthjmpifdhbjdcaaDoorValAlive
namespace Go.Proofs.YthjmpifdhbjdcaaDoor.S
open Go.RowKit Fl

/-! ### value.Check, at three values; what is of no kind -/
theorem Check_neg (x : Nat) (w : World) : Calls Tryd.prog 15 #[.agg #[.int .u8 3, .float .f64 x, .string ⟨#[]⟩, .int .i64 0], .int .i64 (-1), .int .i64 0] w fun e w' => e = .returned (.int .i64 2) ∧ Below w.heap.size w w' := by
  go_enter Tryd.func15, Tryd.ntmps15
  go_wp2_with (fail)
  go_ret
  exact ⟨rfl, vafter (Below.refl _ _)⟩
theorem Check_obj (w : World) : Calls Tryd.prog 15 #[.agg #[.int .u8 6, .float .f64 0, .string ⟨#[]⟩, .int .i64 4], .int .i64 4, .int .i64 9] w fun e w' => e = .returned (.int .i64 9) ∧ Below w.heap.size w w' := by
  have k1 : ∀ w, Calls Tryd.prog 16 #[.agg #[.int .u8 6, .float .f64 0, .string ⟨#[]⟩, .int .i64 4]] w (fun e w' => e = .returned (.bool true) ∧ Below w.heap.size w w') := fun w => May_ok (v := .obj 6 4) ⟨.inl rfl, by omega, by omega⟩ w
  have k2 : ∀ w, Calls Tryd.prog 19 #[.agg #[.int .u8 6, .float .f64 0, .string ⟨#[]⟩, .int .i64 4]] w (fun e w' => e = .returned (.bool true) ∧ Below w.heap.size w w') := fun w => IsObject_v 6 0 ⟨#[]⟩ 4 w
  go_enter Tryd.func15, Tryd.ntmps15
  go_wp2_with (first
    | (go_at_call 16; (with_reducible refine (k1 _).mono ?_); rintro e w1 ⟨rfl, h1⟩; obtain ⟨hc1, hf1⟩ := vcell h1; have hz1 := vlt1 h1; have B1 := Lib.hid (vafter h1))
    | (go_at_call 19; (with_reducible refine (k2 _).mono ?_); rintro e w2 ⟨rfl, h2⟩; obtain ⟨hc2, hf2⟩ := vcell h2; have hz2 := vltn h2 hz1; have B2 := Lib.hid (vb B1.out h2)))
  go_ret
  exact ⟨rfl, B2.out⟩
theorem Check_sym (w : World) : Calls Tryd.prog 15 #[.agg #[.int .u8 5, .float .f64 0, .string ⟨#[]⟩, .int .i64 4], .int .i64 4, .int .i64 9] w fun e w' => e = .returned (.int .i64 0) ∧ Below w.heap.size w w' := by
  have k1 : ∀ w, Calls Tryd.prog 16 #[.agg #[.int .u8 5, .float .f64 0, .string ⟨#[]⟩, .int .i64 4]] w (fun e w' => e = .returned (.bool true) ∧ Below w.heap.size w w') := fun w => May_ok (v := .sym 4) ⟨by omega, by omega⟩ w
  have k2 : ∀ w, Calls Tryd.prog 19 #[.agg #[.int .u8 5, .float .f64 0, .string ⟨#[]⟩, .int .i64 4]] w (fun e w' => e = .returned (.bool false) ∧ Below w.heap.size w w') := fun w => IsObject_v 5 0 ⟨#[]⟩ 4 w
  go_enter Tryd.func15, Tryd.ntmps15
  go_wp2_with (first
    | (go_at_call 16; (with_reducible refine (k1 _).mono ?_); rintro e w1 ⟨rfl, h1⟩; obtain ⟨hc1, hf1⟩ := vcell h1; have hz1 := vlt1 h1; have B1 := Lib.hid (vafter h1))
    | (go_at_call 19; (with_reducible refine (k2 _).mono ?_); rintro e w2 ⟨rfl, h2⟩; obtain ⟨hc2, hf2⟩ := vcell h2; have hz2 := vltn h2 hz1; have B2 := Lib.hid (vb B1.out h2)))
  go_ret
  exact ⟨rfl, B2.out⟩
theorem Type_9 (w : World) : Calls Tryd.prog 11 #[.agg #[.int .u8 9, .float .f64 0, .string ⟨#[]⟩, .int .i64 0]] w fun e w' => e = .returned (.string ⟨#[]⟩) ∧ Below w.heap.size w w' := by
  have k1 : ∀ w, Calls Tryd.prog 18 #[.agg #[.int .u8 9, .float .f64 0, .string ⟨#[]⟩, .int .i64 0]] w (fun e w' => e = .returned (.bool false) ∧ Below w.heap.size w w') := fun w => Calls_v 9 0 ⟨#[]⟩ 0 w
  go_enter Tryd.func11, Tryd.ntmps11
  go_wp2_with (go_at_call 18; (with_reducible refine (k1 _).mono ?_); rintro e w1 ⟨rfl, h1⟩; obtain ⟨hc1, hf1⟩ := vcell h1)
  go_ret
  exact ⟨rfl, vafter h1⟩
theorem Text_9 (w : World) : Calls Tryd.prog 14 #[.agg #[.int .u8 9, .float .f64 0, .string ⟨#[]⟩, .int .i64 0]] w fun e w' => e = .returned (.string ⟨#[]⟩) ∧ Below w.heap.size w w' := by
  have k1 : ∀ w, Calls Tryd.prog 19 #[.agg #[.int .u8 9, .float .f64 0, .string ⟨#[]⟩, .int .i64 0]] w (fun e w' => e = .returned (.bool false) ∧ Below w.heap.size w w') := fun w => IsObject_v 9 0 ⟨#[]⟩ 0 w
  go_enter Tryd.func14, Tryd.ntmps14
  go_wp2_with (go_at_call 19; (with_reducible refine (k1 _).mono ?_); rintro e w1 ⟨rfl, h1⟩; obtain ⟨hc1, hf1⟩ := vcell h1)
  go_ret
  exact ⟨rfl, vafter h1⟩
/-! ### examples, by reckoning -/
theorem ex1 : plainV (.str ⟨#[32, 55, 32]⟩) (.num 4619567317775286272) = (true, 0) := by kernel_rfl
theorem ex2 : plainV (.boo 4607182418800017408) (.str ⟨#[49]⟩) = (true, 0) := by kernel_rfl
theorem ex3 : plainV .und .nul = (true, 0) := by kernel_rfl
theorem ex4 : plainV .nul (.num 0) = (false, 0) := by kernel_rfl
theorem ex5 : plainV (.str ⟨#[45, 48]⟩) (.num 0) = (false, 10) := by kernel_rfl
theorem ex6 : plainV (.obj 6 1) (.num 0) = (false, 9) := by kernel_rfl
theorem ex7 : quoteL [97, 10] = [34, 97, 92, 110, 34] := by kernel_rfl
theorem ex8 : [111, 98, 106, 101, 99, 116, 32] ++ Lib.itoa 4 = [111, 98, 106, 101, 99, 116, 32, 52] := by kernel_rfl
theorem ex9 : [115, 121, 109, 98, 111, 108, 32] ++ Lib.itoa 2 = [115, 121, 109, 98, 111, 108, 32, 50] := by kernel_rfl
end Go.Proofs.YthjmpifdhbjdcaaDoor.S
