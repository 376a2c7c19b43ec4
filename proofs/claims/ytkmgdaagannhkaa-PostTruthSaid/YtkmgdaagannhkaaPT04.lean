/-
  value.May: walks, for any value.
-/
import Derived.Test.YtkmgdaagannhkaaPT03
import Derived.Shelf.LaysM
import Derived.Shelf.Strconv.Itoa3
import Derived.Test.YtkmgdaagannhkaaProg
import Derived.Deep.MidRow
import Derived.Deep.Cut
import Derived.Laws.CopyOwn
import Derived.Deep.CutRange
namespace Go.Proofs.Ytkmgdaagannhkaa.S
open Go.RowKit Fl

section
variable (x : Nat) (s : ByteArray) (r : Int) (w : World)
theorem fits_k0 : Calls Try.prog 63 #[.agg #[.int .u8 0, .float .f64 x, .string s, .int .i64 r]] w fun e w' => e = .returned (.bool true) ∧ Below w.heap.size w w' := by
  go_enter Try.func63, Try.ntmps63
  go_wp2_with (fail)
  go_ret
  exact ⟨rfl, vafter (Below.refl _ _)⟩
theorem fits_k1 : Calls Try.prog 63 #[.agg #[.int .u8 1, .float .f64 x, .string s, .int .i64 r]] w fun e w' => e = .returned (.bool true) ∧ Below w.heap.size w w' := by
  go_enter Try.func63, Try.ntmps63
  go_wp2_with (fail)
  go_ret
  exact ⟨rfl, vafter (Below.refl _ _)⟩
theorem fits_k2 : Calls Try.prog 63 #[.agg #[.int .u8 2, .float .f64 x, .string s, .int .i64 r]] w fun e w' => e = .returned (.bool (feq x 0 || feq x 4607182418800017408)) ∧ Below w.heap.size w w' := by
  have hf : (FloatKind.f64.format.order x 0 == some .eq) = feq x 0 := rfl
  cases h0 : feq x 0
  all_goals
    rw [h0] at hf
    clear h0
    go_enter Try.func63, Try.ntmps63
    go_wp2_with (fail)
    go_ret
    exact ⟨rfl, vafter (Below.refl _ _)⟩
theorem fits_k3 {c : Cl} (hx : Is c x) : Calls Try.prog 63 #[.agg #[.int .u8 3, .float .f64 x, .string s, .int .i64 r]] w fun e w' => e = .returned (.bool (mayC c)) ∧ Below w.heap.size w w' := by
  have km := fun w => May_cls hx w
  generalize mayC c = b at *
  clear hx
  go_enter Try.func63, Try.ntmps63
  go_wp2_with (go_at_call 69; (with_reducible refine (km _).mono ?_); rintro e w1 ⟨rfl, rfl⟩)
  go_ret
  exact ⟨rfl, vafter (Below.refl _ _)⟩
theorem fits_k4 : Calls Try.prog 63 #[.agg #[.int .u8 4, .float .f64 x, .string s, .int .i64 r]] w fun e w' => e = .returned (.bool (decide ((s.size : Int) ≤ 4096))) ∧ Below w.heap.size w w' := by
  go_enter Try.func63, Try.ntmps63
  go_wp2_with (fail)
  go_ret
  exact ⟨ret_bool (by simp), vafter (Below.refl _ _)⟩
theorem fits_k5 : Calls Try.prog 63 #[.agg #[.int .u8 5, .float .f64 x, .string s, .int .i64 r]] w fun e w' => e = .returned (.bool (decide (0 ≤ r))) ∧ Below w.heap.size w w' := by
  go_enter Try.func63, Try.ntmps63
  go_wp2_with (fail)
  go_ret
  exact ⟨ret_bool (by simp), vafter (Below.refl _ _)⟩
theorem fits_obj (k : Nat) (h0 : ((k : Int) == 0) = false) (h1 : ((k : Int) == 1) = false) (h2 : ((k : Int) == 2) = false) (h3 : ((k : Int) == 3) = false) (h4 : ((k : Int) == 4) = false) (h5 : ((k : Int) == 5) = false) :
    Calls Try.prog 63 #[.agg #[.int .u8 (k : Int), .float .f64 x, .string s, .int .i64 r]] w fun e w' => e = .returned (.bool (objB k && decide (0 ≤ r))) ∧ Below w.heap.size w w' := by
  have k1 := fun w => IsObject_v k x s r w
  cases ho : objB k
  all_goals
    rw [ho] at k1
    clear ho
    go_enter Try.func63, Try.ntmps63
    go_wp2_with (go_at_call 24; (with_reducible refine (k1 _).mono ?_); rintro e w1 ⟨rfl, h1⟩; obtain ⟨hc1, hf1⟩ := vcell h1; have hz1 := vlt1 h1)
    go_ret
    exact ⟨ret_bool (by simp), vafter h1⟩
/-- what a value beside the field of its kind must be -/
def restB (x : Nat) (s : ByteArray) (r : Int) : Bool := feq x 0 && s.toList.isEmpty && r == 0 && !sgn x
theorem May_k0 (hx : x < 2 ^ 64) : Calls Try.prog 47 #[.agg #[.int .u8 0, .float .f64 x, .string s, .int .i64 r]] w fun e w' => e = .returned (.bool ((true) && restB x s r)) ∧ Below w.heap.size w w' := by
  have k1 : ∀ w, Calls Try.prog 62 #[.agg #[.int .u8 0, .float .f64 x, .string s, .int .i64 r]] w (fun e w' => e = .returned (.agg #[.int .u8 0, .float .f64 x, .string s, .int .i64 r]) ∧ Below w.heap.size w w') := fun w => beside_same x s r w 0 rfl rfl rfl rfl rfl
  have k2 : ∀ w, Calls Try.prog 63 #[.agg #[.int .u8 0, .float .f64 x, .string s, .int .i64 r]] w (fun e w' => e = .returned (.bool (true)) ∧ Below w.heap.size w w') := fun w => fits_k0 x s r w
  have k3 := fun w => Signbit_any x w hx
  have hv := fun w => veq_float 9998 x 0 w
  have hst := vstore
  have z3 : (⟨#[]⟩ : ByteArray).toList = [] := by rw [toList_data]
  go_enter Try.func47, Try.ntmps47
  go_wp2_with (first | (go_at_call 62; (with_reducible refine (k1 _).mono ?_); rintro e w1 ⟨rfl, h1⟩; obtain ⟨hc1, hf1⟩ := vcell h1; have hz1 := vlt1 h1) | (go_at_call 63; (with_reducible refine (k2 _).mono ?_); rintro e w2 ⟨rfl, h2⟩; obtain ⟨hc2, hf2⟩ := vcell h2; have hz2 := vlt1 h2; have hz3 := Nat.lt_trans hz1 hz2) | (go_at_call 64; (with_reducible refine (k3 _).mono ?_); rintro e w3 ⟨rfl, rfl⟩))
  all_goals (go_ret; exact ⟨ret_bool (by simp [restB, *]), vb (vafter h1) (vafter h2)⟩)
theorem May_k1 (hx : x < 2 ^ 64) : Calls Try.prog 47 #[.agg #[.int .u8 1, .float .f64 x, .string s, .int .i64 r]] w fun e w' => e = .returned (.bool ((true) && restB x s r)) ∧ Below w.heap.size w w' := by
  have k1 : ∀ w, Calls Try.prog 62 #[.agg #[.int .u8 1, .float .f64 x, .string s, .int .i64 r]] w (fun e w' => e = .returned (.agg #[.int .u8 1, .float .f64 x, .string s, .int .i64 r]) ∧ Below w.heap.size w w') := fun w => beside_same x s r w 1 rfl rfl rfl rfl rfl
  have k2 : ∀ w, Calls Try.prog 63 #[.agg #[.int .u8 1, .float .f64 x, .string s, .int .i64 r]] w (fun e w' => e = .returned (.bool (true)) ∧ Below w.heap.size w w') := fun w => fits_k1 x s r w
  have k3 := fun w => Signbit_any x w hx
  have hv := fun w => veq_float 9998 x 0 w
  have hst := vstore
  have z3 : (⟨#[]⟩ : ByteArray).toList = [] := by rw [toList_data]
  go_enter Try.func47, Try.ntmps47
  go_wp2_with (first | (go_at_call 62; (with_reducible refine (k1 _).mono ?_); rintro e w1 ⟨rfl, h1⟩; obtain ⟨hc1, hf1⟩ := vcell h1; have hz1 := vlt1 h1) | (go_at_call 63; (with_reducible refine (k2 _).mono ?_); rintro e w2 ⟨rfl, h2⟩; obtain ⟨hc2, hf2⟩ := vcell h2; have hz2 := vlt1 h2; have hz3 := Nat.lt_trans hz1 hz2) | (go_at_call 64; (with_reducible refine (k3 _).mono ?_); rintro e w3 ⟨rfl, rfl⟩))
  all_goals (go_ret; exact ⟨ret_bool (by simp [restB, *]), vb (vafter h1) (vafter h2)⟩)
theorem May_k2 : Calls Try.prog 47 #[.agg #[.int .u8 2, .float .f64 x, .string s, .int .i64 r]] w fun e w' => e = .returned (.bool ((feq x 0 || feq x 4607182418800017408) && restB 0 s r)) ∧ Below w.heap.size w w' := by
  have k1 : ∀ w, Calls Try.prog 62 #[.agg #[.int .u8 2, .float .f64 x, .string s, .int .i64 r]] w (fun e w' => e = .returned (.agg #[.int .u8 2, .float .f64 0, .string s, .int .i64 r]) ∧ Below w.heap.size w w') := fun w => beside_k2 x s r w
  have k2 : ∀ w, Calls Try.prog 63 #[.agg #[.int .u8 2, .float .f64 x, .string s, .int .i64 r]] w (fun e w' => e = .returned (.bool (feq x 0 || feq x 4607182418800017408)) ∧ Below w.heap.size w w') := fun w => fits_k2 x s r w
  have k3 : ∀ w, Calls Try.prog 64 #[.float .f64 0] w (fun e w' => e = .returned (.bool false) ∧ w = w') := fun w => Signbit_any 0 w (by decide)
  have hv : ∀ w, (Op.equalIn (9998 + 1) 22 (.float .f64 0) (.float .f64 0)).run Try.prog w = .ok true w := fun w => veq_float 9998 0 0 w
  have z1 : feq 0 0 = true := by decide
  have z2 : sgn 0 = false := by decide
  have hst := vstore
  have z3 : (⟨#[]⟩ : ByteArray).toList = [] := by rw [toList_data]
  cases hfit : (feq x 0 || feq x 4607182418800017408)
  all_goals
    rw [hfit] at k2
    try clear hfit
    go_enter Try.func47, Try.ntmps47
    go_wp2_with (first | (go_at_call 62; (with_reducible refine (k1 _).mono ?_); rintro e w1 ⟨rfl, h1⟩; obtain ⟨hc1, hf1⟩ := vcell h1; have hz1 := vlt1 h1) | (go_at_call 63; (with_reducible refine (k2 _).mono ?_); rintro e w2 ⟨rfl, h2⟩; obtain ⟨hc2, hf2⟩ := vcell h2; have hz2 := vlt1 h2; have hz3 := Nat.lt_trans hz1 hz2) | (go_at_call 64; (with_reducible refine (k3 _).mono ?_); rintro e w3 ⟨rfl, rfl⟩))
    all_goals (go_ret; exact ⟨ret_bool (by simp [restB, *]), vb (vafter h1) (vafter h2)⟩)
theorem May_k3 {c : Cl} (hc : Is c x) : Calls Try.prog 47 #[.agg #[.int .u8 3, .float .f64 x, .string s, .int .i64 r]] w fun e w' => e = .returned (.bool ((mayC c) && restB 0 s r)) ∧ Below w.heap.size w w' := by
  have k1 : ∀ w, Calls Try.prog 62 #[.agg #[.int .u8 3, .float .f64 x, .string s, .int .i64 r]] w (fun e w' => e = .returned (.agg #[.int .u8 3, .float .f64 0, .string s, .int .i64 r]) ∧ Below w.heap.size w w') := fun w => beside_k3 x s r w
  have k2 : ∀ w, Calls Try.prog 63 #[.agg #[.int .u8 3, .float .f64 x, .string s, .int .i64 r]] w (fun e w' => e = .returned (.bool (mayC c)) ∧ Below w.heap.size w w') := fun w => fits_k3 x s r w hc
  have k3 : ∀ w, Calls Try.prog 64 #[.float .f64 0] w (fun e w' => e = .returned (.bool false) ∧ w = w') := fun w => Signbit_any 0 w (by decide)
  have hv : ∀ w, (Op.equalIn (9998 + 1) 22 (.float .f64 0) (.float .f64 0)).run Try.prog w = .ok true w := fun w => veq_float 9998 0 0 w
  have z1 : feq 0 0 = true := by decide
  have z2 : sgn 0 = false := by decide
  have hst := vstore
  have z3 : (⟨#[]⟩ : ByteArray).toList = [] := by rw [toList_data]
  cases hfit : (mayC c)
  all_goals
    rw [hfit] at k2
    try clear hfit
    go_enter Try.func47, Try.ntmps47
    go_wp2_with (first | (go_at_call 62; (with_reducible refine (k1 _).mono ?_); rintro e w1 ⟨rfl, h1⟩; obtain ⟨hc1, hf1⟩ := vcell h1; have hz1 := vlt1 h1) | (go_at_call 63; (with_reducible refine (k2 _).mono ?_); rintro e w2 ⟨rfl, h2⟩; obtain ⟨hc2, hf2⟩ := vcell h2; have hz2 := vlt1 h2; have hz3 := Nat.lt_trans hz1 hz2) | (go_at_call 64; (with_reducible refine (k3 _).mono ?_); rintro e w3 ⟨rfl, rfl⟩))
    all_goals (go_ret; exact ⟨ret_bool (by simp [restB, *]), vb (vafter h1) (vafter h2)⟩)
theorem May_k4 (hx : x < 2 ^ 64) : Calls Try.prog 47 #[.agg #[.int .u8 4, .float .f64 x, .string s, .int .i64 r]] w fun e w' => e = .returned (.bool ((decide ((s.size : Int) ≤ 4096)) && restB x ⟨#[]⟩ r)) ∧ Below w.heap.size w w' := by
  have k1 : ∀ w, Calls Try.prog 62 #[.agg #[.int .u8 4, .float .f64 x, .string s, .int .i64 r]] w (fun e w' => e = .returned (.agg #[.int .u8 4, .float .f64 x, .string ⟨#[]⟩, .int .i64 r]) ∧ Below w.heap.size w w') := fun w => beside_k4 x s r w
  have k2 : ∀ w, Calls Try.prog 63 #[.agg #[.int .u8 4, .float .f64 x, .string s, .int .i64 r]] w (fun e w' => e = .returned (.bool (decide ((s.size : Int) ≤ 4096))) ∧ Below w.heap.size w w') := fun w => fits_k4 x s r w
  have k3 := fun w => Signbit_any x w hx
  have hv := fun w => veq_float 9998 x 0 w
  have hst := vstore
  have z3 : (⟨#[]⟩ : ByteArray).toList = [] := by rw [toList_data]
  cases hfit : (decide ((s.size : Int) ≤ 4096))
  all_goals
    rw [hfit] at k2
    try clear hfit
    go_enter Try.func47, Try.ntmps47
    go_wp2_with (first | (go_at_call 62; (with_reducible refine (k1 _).mono ?_); rintro e w1 ⟨rfl, h1⟩; obtain ⟨hc1, hf1⟩ := vcell h1; have hz1 := vlt1 h1) | (go_at_call 63; (with_reducible refine (k2 _).mono ?_); rintro e w2 ⟨rfl, h2⟩; obtain ⟨hc2, hf2⟩ := vcell h2; have hz2 := vlt1 h2; have hz3 := Nat.lt_trans hz1 hz2) | (go_at_call 64; (with_reducible refine (k3 _).mono ?_); rintro e w3 ⟨rfl, rfl⟩))
    all_goals (go_ret; exact ⟨ret_bool (by simp [restB, *]), vb (vafter h1) (vafter h2)⟩)
theorem May_k5 (hx : x < 2 ^ 64) : Calls Try.prog 47 #[.agg #[.int .u8 5, .float .f64 x, .string s, .int .i64 r]] w fun e w' => e = .returned (.bool ((decide (0 ≤ r)) && restB x s 0)) ∧ Below w.heap.size w w' := by
  have k1 : ∀ w, Calls Try.prog 62 #[.agg #[.int .u8 5, .float .f64 x, .string s, .int .i64 r]] w (fun e w' => e = .returned (.agg #[.int .u8 5, .float .f64 x, .string s, .int .i64 0]) ∧ Below w.heap.size w w') := fun w => beside_k5 x s r w
  have k2 : ∀ w, Calls Try.prog 63 #[.agg #[.int .u8 5, .float .f64 x, .string s, .int .i64 r]] w (fun e w' => e = .returned (.bool (decide (0 ≤ r))) ∧ Below w.heap.size w w') := fun w => fits_k5 x s r w
  have k3 := fun w => Signbit_any x w hx
  have hv := fun w => veq_float 9998 x 0 w
  have hst := vstore
  have z3 : (⟨#[]⟩ : ByteArray).toList = [] := by rw [toList_data]
  cases hfit : (decide (0 ≤ r))
  all_goals
    rw [hfit] at k2
    try clear hfit
    go_enter Try.func47, Try.ntmps47
    go_wp2_with (first | (go_at_call 62; (with_reducible refine (k1 _).mono ?_); rintro e w1 ⟨rfl, h1⟩; obtain ⟨hc1, hf1⟩ := vcell h1; have hz1 := vlt1 h1) | (go_at_call 63; (with_reducible refine (k2 _).mono ?_); rintro e w2 ⟨rfl, h2⟩; obtain ⟨hc2, hf2⟩ := vcell h2; have hz2 := vlt1 h2; have hz3 := Nat.lt_trans hz1 hz2) | (go_at_call 64; (with_reducible refine (k3 _).mono ?_); rintro e w3 ⟨rfl, rfl⟩))
    all_goals (go_ret; exact ⟨ret_bool (by simp [restB, *]), vb (vafter h1) (vafter h2)⟩)
theorem May_obj (k : Nat) (hx : x < 2 ^ 64) (g0 : ((k : Int) == 0) = false) (g1 : ((k : Int) == 1) = false) (g2 : ((k : Int) == 2) = false) (g3 : ((k : Int) == 3) = false) (g4 : ((k : Int) == 4) = false) (g5 : ((k : Int) == 5) = false) (ho : objB k = true) : Calls Try.prog 47 #[.agg #[.int .u8 (k : Int), .float .f64 x, .string s, .int .i64 r]] w fun e w' => e = .returned (.bool ((decide (0 ≤ r)) && restB x s 0)) ∧ Below w.heap.size w w' := by
  have k1 : ∀ w, Calls Try.prog 62 #[.agg #[.int .u8 (k : Int), .float .f64 x, .string s, .int .i64 r]] w (fun e w' => e = .returned (.agg #[.int .u8 (k : Int), .float .f64 x, .string s, .int .i64 0]) ∧ Below w.heap.size w w') := fun w => beside_obj x s r w k g2 g3 g4 g5 ho
  have k2 : ∀ w, Calls Try.prog 63 #[.agg #[.int .u8 (k : Int), .float .f64 x, .string s, .int .i64 r]] w (fun e w' => e = .returned (.bool (decide (0 ≤ r))) ∧ Below w.heap.size w w') := fun w => by have h := fits_obj x s r w k g0 g1 g2 g3 g4 g5; rw [ho] at h; exact h
  have k3 := fun w => Signbit_any x w hx
  have hv := fun w => veq_float 9998 x 0 w
  have hst := vstore
  have z3 : (⟨#[]⟩ : ByteArray).toList = [] := by rw [toList_data]
  cases hfit : (decide (0 ≤ r))
  all_goals
    rw [hfit] at k2
    try clear hfit
    go_enter Try.func47, Try.ntmps47
    go_wp2_with (first | (go_at_call 62; (with_reducible refine (k1 _).mono ?_); rintro e w1 ⟨rfl, h1⟩; obtain ⟨hc1, hf1⟩ := vcell h1; have hz1 := vlt1 h1) | (go_at_call 63; (with_reducible refine (k2 _).mono ?_); rintro e w2 ⟨rfl, h2⟩; obtain ⟨hc2, hf2⟩ := vcell h2; have hz2 := vlt1 h2; have hz3 := Nat.lt_trans hz1 hz2) | (go_at_call 64; (with_reducible refine (k3 _).mono ?_); rintro e w3 ⟨rfl, rfl⟩))
    all_goals (go_ret; exact ⟨ret_bool (by simp [restB, *]), vb (vafter h1) (vafter h2)⟩)
theorem May_no (k : Nat) (hx : x < 2 ^ 64) (g0 : ((k : Int) == 0) = false) (g1 : ((k : Int) == 1) = false) (g2 : ((k : Int) == 2) = false) (g3 : ((k : Int) == 3) = false) (g4 : ((k : Int) == 4) = false) (g5 : ((k : Int) == 5) = false) (ho : objB k = false) : Calls Try.prog 47 #[.agg #[.int .u8 (k : Int), .float .f64 x, .string s, .int .i64 r]] w fun e w' => e = .returned (.bool ((false) && restB x s r)) ∧ Below w.heap.size w w' := by
  have k1 : ∀ w, Calls Try.prog 62 #[.agg #[.int .u8 (k : Int), .float .f64 x, .string s, .int .i64 r]] w (fun e w' => e = .returned (.agg #[.int .u8 (k : Int), .float .f64 x, .string s, .int .i64 r]) ∧ Below w.heap.size w w') := fun w => beside_same x s r w k g2 g3 g4 g5 ho
  have k2 : ∀ w, Calls Try.prog 63 #[.agg #[.int .u8 (k : Int), .float .f64 x, .string s, .int .i64 r]] w (fun e w' => e = .returned (.bool (false)) ∧ Below w.heap.size w w') := fun w => by have h := fits_obj x s r w k g0 g1 g2 g3 g4 g5; rw [ho] at h; exact h
  have k3 := fun w => Signbit_any x w hx
  have hv := fun w => veq_float 9998 x 0 w
  have hst := vstore
  have z3 : (⟨#[]⟩ : ByteArray).toList = [] := by rw [toList_data]
  cases hfit : (false)
  all_goals
    rw [hfit] at k2
    try clear hfit
    go_enter Try.func47, Try.ntmps47
    go_wp2_with (first | (go_at_call 62; (with_reducible refine (k1 _).mono ?_); rintro e w1 ⟨rfl, h1⟩; obtain ⟨hc1, hf1⟩ := vcell h1; have hz1 := vlt1 h1) | (go_at_call 63; (with_reducible refine (k2 _).mono ?_); rintro e w2 ⟨rfl, h2⟩; obtain ⟨hc2, hf2⟩ := vcell h2; have hz2 := vlt1 h2; have hz3 := Nat.lt_trans hz1 hz2) | (go_at_call 64; (with_reducible refine (k3 _).mono ?_); rintro e w3 ⟨rfl, rfl⟩))
    all_goals (go_ret; exact ⟨ret_bool (by simp [restB, *]), vb (vafter h1) (vafter h2)⟩)
end
end Go.Proofs.Ytkmgdaagannhkaa.S
/-
  value.May of any value: what may be is one of nine shapes.
-/
namespace Go.Proofs.Ytkmgdaagannhkaa.S
open Go.RowKit Fl

theorem feq_F {x : Nat} {m : Int} (hx : x < 2 ^ 64) (hm : SafeN m) (h : feq x (F m) = true) : x = F m ∨ (x = 2 ^ 63 ∧ m = 0) := by
  obtain ⟨c, hc⟩ := cls x hx
  have h : FloatKind.f64.format.order x (F m) = some .eq := by unfold feq at h; exact eq_of_beq h
  have h : Ieee.double.order x (F m) = some .eq := h
  cases c with
  | nan => rw [order_nan_l _ hc.2] at h; cases h
  | other =>
    obtain ⟨_, g | g | g⟩ := hc
    · rw [(order_big g m hm.abs).1] at h
      have h := Option.some.inj h
      split at h <;> cases h
    · exact absurd h (order_frac g m hm.abs).1
    · subst g
      rw [(order_m0 m hm.abs).1] at h
      have h : compare 0 m = .eq := Option.some.inj h
      have h : 0 = m := Int.compare_eq_eq.1 h
      exact .inr ⟨rfl, h.symm⟩
  | ours n =>
    obtain ⟨rfl, hs⟩ := hc
    rw [order_F n m hs.abs hm.abs] at h
    have h : compare n m = .eq := Option.some.inj h
    have h : n = m := Int.compare_eq_eq.1 h
    subst h
    exact .inl rfl
theorem rest_of {x : Nat} {s : ByteArray} {r : Int} (hx : x < 2 ^ 64) (h : restB x s r = true) : x = 0 ∧ s = ⟨#[]⟩ ∧ r = 0 := by
  unfold restB at h
  simp only [Bool.and_eq_true, Bool.not_eq_true', List.isEmpty_iff, beq_iff_eq] at h
  obtain ⟨⟨⟨h1, h2⟩, h3⟩, h4⟩ := h
  refine ⟨?_, ?_, h3⟩
  · rcases feq_F (m := 0) hx (by unfold SafeN; omega) (by rw [F_zero]; exact h1) with e | ⟨e, _⟩
    · rw [e, F_zero]
    · rw [e] at h4; exact absurd h4 (by decide)
  · rw [toList_data] at h2
    exact bytes_ext h2
/-- what value.May comes to -/
def MayTo (k x : Nat) (s : ByteArray) (r : Int) (w : World) (e : Ending) (w' : World) : Prop :=
  ∃ b, e = .returned (.bool b) ∧ Below w.heap.size w w' ∧ (b = true → ∃ v : Vl, v.ok ∧ v.kd = k ∧ v.fl = x ∧ v.st = s ∧ v.rf = r)
theorem may_of {k x : Nat} {s : ByteArray} {r : Int} {w : World} {b : Bool} {e : Ending} {w' : World} (h : e = .returned (.bool b) ∧ Below w.heap.size w w') (g : b = true → ∃ v : Vl, v.ok ∧ v.kd = k ∧ v.fl = x ∧ v.st = s ∧ v.rf = r) : MayTo k x s r w e w' := ⟨b, h.1, h.2, g⟩
theorem May_any (k x : Nat) (s : ByteArray) (r : Int) (w : World) (hx : x < 2 ^ 64) (hr : r < 2 ^ 63) : Calls Try.prog 47 #[.agg #[.int .u8 (k : Int), .float .f64 x, .string s, .int .i64 r]] w (MayTo k x s r w) := by
  have e0 := kd_eq k 0
  have e1 := kd_eq k 1
  have e2 := kd_eq k 2
  have e3 := kd_eq k 3
  have e4 := kd_eq k 4
  have e5 := kd_eq k 5
  by_cases c0 : k = 0
  · subst c0
    refine (May_k0 x s r w hx).mono fun e w' h => may_of h fun hb => ?_
    obtain ⟨rfl, rfl, rfl⟩ := rest_of hx hb
    exact ⟨.und, trivial, rfl, rfl, rfl, rfl⟩
  by_cases c1 : k = 1
  · subst c1
    refine (May_k1 x s r w hx).mono fun e w' h => may_of h fun hb => ?_
    obtain ⟨rfl, rfl, rfl⟩ := rest_of hx hb
    exact ⟨.nul, trivial, rfl, rfl, rfl, rfl⟩
  by_cases c2 : k = 2
  · subst c2
    refine (May_k2 x s r w).mono fun e w' h => may_of h fun hb => ?_
    rw [Bool.and_eq_true, Bool.or_eq_true] at hb
    obtain ⟨_, rfl, rfl⟩ := rest_of (by decide) hb.2
    refine ⟨.boo x, ?_, rfl, rfl, rfl, rfl⟩
    rcases hb.1 with h | h
    · rcases feq_F (m := 0) hx (by unfold SafeN; omega) (by rw [F_zero]; exact h) with e | ⟨e, _⟩
      · rw [F_zero] at e; exact .inl e
      · exact .inr (.inl e)
    · rcases feq_F (m := 1) hx (by unfold SafeN; omega) (by rw [show F 1 = 4607182418800017408 by decide]; exact h) with e | ⟨_, e⟩
      · rw [show F 1 = 4607182418800017408 by decide] at e; exact .inr (.inr e)
      · cases e
  by_cases c3 : k = 3
  · subst c3
    obtain ⟨c, hc⟩ := cls x hx
    refine (May_k3 x s r w hc).mono fun e w' h => may_of h fun hb => ?_
    rw [Bool.and_eq_true] at hb
    obtain ⟨_, rfl, rfl⟩ := rest_of (by decide) hb.2
    exact ⟨.num x, ⟨c, hc, hb.1⟩, rfl, rfl, rfl, rfl⟩
  by_cases c4 : k = 4
  · subst c4
    refine (May_k4 x s r w hx).mono fun e w' h => may_of h fun hb => ?_
    rw [Bool.and_eq_true] at hb
    obtain ⟨rfl, _, rfl⟩ := rest_of hx hb.2
    have := of_decide_eq_true hb.1
    exact ⟨.str s, by show s.size ≤ 4096; omega, rfl, rfl, rfl, rfl⟩
  by_cases c5 : k = 5
  · subst c5
    refine (May_k5 x s r w hx).mono fun e w' h => may_of h fun hb => ?_
    rw [Bool.and_eq_true] at hb
    obtain ⟨rfl, rfl, _⟩ := rest_of hx hb.2
    exact ⟨.sym r, ⟨of_decide_eq_true hb.1, hr⟩, rfl, rfl, rfl, rfl⟩
  have f0 : ((k : Int) == 0) = false := by rw [beq_eq_false_iff_ne]; omega
  have f1 : ((k : Int) == 1) = false := by rw [beq_eq_false_iff_ne]; omega
  have f2 : ((k : Int) == 2) = false := by rw [beq_eq_false_iff_ne]; omega
  have f3 : ((k : Int) == 3) = false := by rw [beq_eq_false_iff_ne]; omega
  have f4 : ((k : Int) == 4) = false := by rw [beq_eq_false_iff_ne]; omega
  have f5 : ((k : Int) == 5) = false := by rw [beq_eq_false_iff_ne]; omega
  cases ho : objB k
  · refine (May_no x s r w k hx f0 f1 f2 f3 f4 f5 ho).mono fun e w' h => may_of h fun hb => ?_
    cases hb
  · refine (May_obj x s r w k hx f0 f1 f2 f3 f4 f5 ho).mono fun e w' h => may_of h fun hb => ?_
    rw [Bool.and_eq_true] at hb
    obtain ⟨rfl, rfl, _⟩ := rest_of hx hb.2
    refine ⟨.obj k r, ⟨?_, of_decide_eq_true hb.1, hr⟩, rfl, rfl, rfl, rfl⟩
    unfold objB at ho
    simp only [Bool.or_eq_true, beq_iff_eq] at ho
    omega
end Go.Proofs.Ytkmgdaagannhkaa.S
/-
  DERIVED: THE SHELF's CONTRACTS AT THIS DUMP, IN PLAIN WORDS (tools/lay-plain.mjs out of 'YtkmgdaagannhkaaValShelfTry.lean', which tools/lay-shelf.mjs wrote): THE SAME DECLARATIONS UNDER THE SAME NAMES: 'import', 'namespace', 'open', 'def', 'theorem' AND NOTHING ELSE: no command of the shelf's: FOR A HAND-IN. Each laying: the table of numbers ('.._ren') and one theorem, a field a fact of the dump's own or the kernel's comparison; each contract: ONE APPLICATION.
-/
namespace Go.Proofs
open Go.Shelf
end Go.Proofs
/-
  value.Truth, Type, Text: walks, for any value that may be.
-/
namespace Go.Proofs.Ytkmgdaagannhkaa.S
open Go.RowKit Fl

theorem May_ok {v : Vl} (h : v.ok) (w : World) : Calls Try.prog 47 #[v.val] w fun e w' => e = .returned (.bool true) ∧ Below w.heap.size w w' := by
  have z : restB 0 ⟨#[]⟩ 0 = true := by
    have z3 : (⟨#[]⟩ : ByteArray).toList = [] := by rw [toList_data]
    unfold restB; rw [z3]; decide
  have fin : ∀ {b : Bool} {e : Ending} {w' : World}, b = true → (e = .returned (.bool b) ∧ Below w.heap.size w w') → (e = .returned (.bool true) ∧ Below w.heap.size w w') := fun hb h => ⟨by rw [h.1, hb], h.2⟩
  cases v with
  | und => exact (May_k0 0 ⟨#[]⟩ 0 w (by decide)).mono fun e w' => fin (by rw [z]; rfl)
  | nul => exact (May_k1 0 ⟨#[]⟩ 0 w (by decide)).mono fun e w' => fin (by rw [z]; rfl)
  | boo x => exact (May_k2 x ⟨#[]⟩ 0 w).mono fun e w' => fin (by
      rw [z, Bool.and_true]
      rcases h with rfl | rfl | rfl <;> decide)
  | num x =>
    obtain ⟨c, hc, hm⟩ := h
    exact (May_k3 x ⟨#[]⟩ 0 w hc).mono fun e w' => fin (by rw [z, hm]; rfl)
  | str s => exact (May_k4 0 s 0 w (by decide)).mono fun e w' => fin (by
      have h : s.size ≤ 4096 := h
      rw [z, Bool.and_true]; exact decide_eq_true (by omega))
  | sym r => exact (May_k5 0 ⟨#[]⟩ r w (by decide)).mono fun e w' => fin (by rw [z, Bool.and_true]; exact decide_eq_true h.1)
  | obj k r =>
    have hk := h.1
    exact (May_obj 0 ⟨#[]⟩ r w k (by decide) (by rw [beq_eq_false_iff_ne]; omega) (by rw [beq_eq_false_iff_ne]; omega) (by rw [beq_eq_false_iff_ne]; omega) (by rw [beq_eq_false_iff_ne]; omega) (by rw [beq_eq_false_iff_ne]; omega) (by rw [beq_eq_false_iff_ne]; omega) (obj_kd hk)).mono fun e w' => fin (by rw [z, Bool.and_true]; exact decide_eq_true h.2.1)
end Go.Proofs.Ytkmgdaagannhkaa.S
/-
  Descriptors: a struct of sixteen cells in a block: its loads and stores, whole or a value of four, as laws of one operation; the blocks of a call's own.
-/
namespace Go.Proofs.Ytkmgdaagannhkaa.S
open Go.RowKit Fl

theorem dsz : (Try.prog.info? 27).map (·.size) = some 16 := by kernel_rfl
theorem vsz : (Try.prog.info? 24).map (·.size) = some 4 := by kernel_rfl
theorem cells_one {l : List Value} (h : l.all (·.oneCell') = true) : l.toArray.all (·.oneCell') = true := all_oneCell_toArray (List.all_eq_true.1 h)
section
variable {ops : Array Oper} {rest : List Oper} {o : Oper} {a : Act} {w : World} {Q : Exit → Act → World → Prop} {x y : Operand} {g i : Nat} {t : TypeId} {c0 c1 c2 c3 c4 c5 c6 c7 c8 c9 c10 c11 c12 c13 c14 c15 : Value}
theorem wpList_wanted (hw : Region.wanted o (yielded ops a.tmps) = true) (h : ∀ K : Act → World → Prop, (∀ a w, wpList Try.prog ops Q rest a w → K a w) → o.wp Try.prog a w K Q) : wpList Try.prog ops Q (o :: rest) a w := by
  unfold wpList
  rw [if_pos hw]
  exact Or.inl (h _ fun _ _ q => q)
theorem d_load (hw : Region.wanted o (yielded ops a.tmps) = true) (ho : o.op = .load 27 x)
    (hx : a.eval x = .pointer (some ⟨g, 0, none⟩)) (hg : w.heap[g]? = some (.cells #[c0, c1, c2, c3, c4, c5, c6, c7, c8, c9, c10, c11, c12, c13, c14, c15] t (0, 0)))
    (h : wpList Try.prog ops Q rest (a.put o.dst (.agg #[c0, c1, c2, c3, c4, c5, c6, c7, c8, c9, c10, c11, c12, c13, c14, c15])) w) : wpList Try.prog ops Q (o :: rest) a w :=
  wpList_wanted hw fun _ hK => wp_load_row 27 x ho g hx t _ (0, 0) _ hg Try.underlying27 rfl dsz (hK _ _ h)
theorem d_store (hgd : o.guard = none) (ho : o.op = .store 27 x y)
    (hx : a.eval x = .pointer (some ⟨g, 0, none⟩)) (hy : a.eval y = .agg #[c0, c1, c2, c3, c4, c5, c6, c7, c8, c9, c10, c11, c12, c13, c14, c15]) {old : Array Value} (hg : w.heap[g]? = some (.cells old t (0, 0))) (hold : old.size = 16)
    (h1 : ([c0, c1, c2, c3, c4, c5, c6, c7, c8, c9, c10, c11, c12, c13, c14, c15] : List Value).all (·.oneCell') = true)
    (h : wpList Try.prog ops Q rest (a.put o.dst undef) (w.setRow g #[c0, c1, c2, c3, c4, c5, c6, c7, c8, c9, c10, c11, c12, c13, c14, c15])) : wpList Try.prog ops Q (o :: rest) a w :=
  wpList_store_row hgd 27 x y ho g _ hx hy t old hg dsz hold (cells_one h1) h
theorem row_range {cs : Array Value} {l : List Value} (hg : w.heap[g]? = some (.cells cs t (0, 0))) (hl : ∀ j v, l[j]? = some v → cs[i + j]? = some v) : w.rangeAt g i l := fun j v hv => by
  rw [vcells hg (i + j)]; exact hl j v hv
theorem four {cs : Array Value} (h0 : cs[i]? = some c0) (h1 : cs[i + 1]? = some c1) (h2 : cs[i + 2]? = some c2) (h3 : cs[i + 3]? = some c3) : ∀ j v, ([c0, c1, c2, c3] : List Value)[j]? = some v → cs[i + j]? = some v := by
  intro j v hv
  match j, hv with
  | 0, hv => cases hv; exact h0
  | 1, hv => cases hv; exact h1
  | 2, hv => cases hv; exact h2
  | 3, hv => cases hv; exact h3
  | n + 4, hv => cases hv
theorem v_load {cs : Array Value} (hw : Region.wanted o (yielded ops a.tmps) = true) (ho : o.op = .load 24 x) (hx : a.eval x = .pointer (some ⟨g, i, none⟩)) (hg : w.heap[g]? = some (.cells cs t (0, 0)))
    (h0 : cs[i]? = some c0) (h1 : cs[i + 1]? = some c1) (h2 : cs[i + 2]? = some c2) (h3 : cs[i + 3]? = some c3)
    (h : wpList Try.prog ops Q rest (a.put o.dst (.agg #[c0, c1, c2, c3])) w) : wpList Try.prog ops Q (o :: rest) a w :=
  wpList_wanted hw fun _ hK => wp_load_mid 24 x ho g i hx [c0, c1, c2, c3] _ (row_range hg (four h0 h1 h2 h3)) Try.underlying24 rfl vsz (hK _ _ h)
theorem v_store {cs : Array Value} (hgd : o.guard = none) (ho : o.op = .store 24 x y) (hx : a.eval x = .pointer (some ⟨g, i, none⟩)) (hy : a.eval y = .agg #[c0, c1, c2, c3]) (hg : w.heap[g]? = some (.cells cs t (0, 0)))
    (hi : i + 4 ≤ cs.size) (h1 : ([c0, c1, c2, c3] : List Value).all (·.oneCell') = true)
    (h : wpList Try.prog ops Q rest (a.put o.dst undef) ((((w.setCell ⟨g, i, none⟩ c0).setCell ⟨g, i + 1, none⟩ c1).setCell ⟨g, i + 2, none⟩ c2).setCell ⟨g, i + 3, none⟩ c3)) : wpList Try.prog ops Q (o :: rest) a w := by
  refine wpList_store_mid hgd 24 x y ho g i #[c0, c1, c2, c3] hx hy ?_ vsz (cells_one h1) h
  intro j hj
  have hj : j < 4 := hj
  refine ⟨?_, vfz hg _⟩
  rw [vcells hg, Array.getElem?_eq_getElem (by omega)]
  rfl
end
theorem vblk3 {w w1 : World} {o p q : Obj} (h : Below (((w.alloc o).alloc p).alloc q).heap.size (((w.alloc o).alloc p).alloc q) w1) : w1.heap[w.heap.size]? = some o ∧ w1.heap[w.heap.size + 1]? = some p ∧ w1.heap[w.heap.size + 1 + 1]? = some q := by
  have e : (w.alloc o).heap.size = w.heap.size + 1 := by simp
  obtain ⟨a, b⟩ := vblk2 h
  rw [e] at a b
  exact ⟨vblk1 (vafter2 h), a, b⟩
theorem below_row {B : Nat} {w0 w : World} (h : Below B w0 w) {g : Nat} (hg : B ≤ g) (cs : Array Value) : Below B w0 (w.setRow g cs) := below_setRow h hg cs
theorem vset_o {w : World} {g j : Nat} {o : Obj} (h : w.heap[g]? = some o) (hj : j ≠ g) (cs : Array Value) : (w.setRow j cs).heap[g]? = some o := by
  rw [← h]; exact setRow_other w j g cs (fun e => hj e.symm)
end Go.Proofs.Ytkmgdaagannhkaa.S
/-
  Descriptors: has, IsData, IsAccess: walks.
-/
namespace Go.Proofs.Ytkmgdaagannhkaa.S
open Go.RowKit Fl

def hasB (h m : Int) : Bool := bits .and .u8 h m != 0
theorem has_c (h m : Int) (ka : Int) (xa : Nat) (sa : ByteArray) (ra : Int) (kb : Int) (xb : Nat) (sb : ByteArray) (rb : Int) (kc : Int) (xc : Nat) (sc : ByteArray) (rc : Int) (p q z : Bool) (w : World) : Calls Try.prog 26 #[.agg #[.int .u8 h, .int .u8 ka, .float .f64 xa, .string sa, .int .i64 ra, .int .u8 kb, .float .f64 xb, .string sb, .int .i64 rb, .int .u8 kc, .float .f64 xc, .string sc, .int .i64 rc, .bool p, .bool q, .bool z], .int .u8 m] w fun e w' => e = .returned (.bool (hasB h m)) ∧ Below w.heap.size w w' := by
  go_enter Try.func26, Try.ntmps26
  go_wp2
  go_ret
  exact ⟨rfl, vzero _ _⟩
theorem IsData_c (h : Int) (ka : Int) (xa : Nat) (sa : ByteArray) (ra : Int) (kb : Int) (xb : Nat) (sb : ByteArray) (rb : Int) (kc : Int) (xc : Nat) (sc : ByteArray) (rc : Int) (p q z : Bool) (w : World) : Calls Try.prog 20 #[.agg #[.int .u8 h, .int .u8 ka, .float .f64 xa, .string sa, .int .i64 ra, .int .u8 kb, .float .f64 xb, .string sb, .int .i64 rb, .int .u8 kc, .float .f64 xc, .string sc, .int .i64 rc, .bool p, .bool q, .bool z]] w fun e w' => e = .returned (.bool (hasB h 3)) ∧ Below w.heap.size w w' := by
  have hb := heap_alloc_new w (.cells #[.int .u8 h, .int .u8 ka, .float .f64 xa, .string sa, .int .i64 ra, .int .u8 kb, .float .f64 xb, .string sb, .int .i64 rb, .int .u8 kc, .float .f64 xc, .string sc, .int .i64 rc, .bool p, .bool q, .bool z] 27)
  go_enter Try.func20, Try.ntmps20
  go_wp2_with (first | ((with_reducible refine d_load ?_ rfl rfl hb ?_); (rfl)) | (go_at_call 26; (with_reducible refine (has_c _ _ _ _ _ _ _ _ _ _ _ _ _ _ _ _ _ _).mono ?_); rintro e w1 ⟨rfl, h1⟩))
  go_ret
  exact ⟨rfl, vafter h1⟩
theorem IsAccess_c (h : Int) (ka : Int) (xa : Nat) (sa : ByteArray) (ra : Int) (kb : Int) (xb : Nat) (sb : ByteArray) (rb : Int) (kc : Int) (xc : Nat) (sc : ByteArray) (rc : Int) (p q z : Bool) (w : World) : Calls Try.prog 49 #[.agg #[.int .u8 h, .int .u8 ka, .float .f64 xa, .string sa, .int .i64 ra, .int .u8 kb, .float .f64 xb, .string sb, .int .i64 rb, .int .u8 kc, .float .f64 xc, .string sc, .int .i64 rc, .bool p, .bool q, .bool z]] w fun e w' => e = .returned (.bool (hasB h 12)) ∧ Below w.heap.size w w' := by
  have hb := heap_alloc_new w (.cells #[.int .u8 h, .int .u8 ka, .float .f64 xa, .string sa, .int .i64 ra, .int .u8 kb, .float .f64 xb, .string sb, .int .i64 rb, .int .u8 kc, .float .f64 xc, .string sc, .int .i64 rc, .bool p, .bool q, .bool z] 27)
  go_enter Try.func49, Try.ntmps49
  go_wp2_with (first | ((with_reducible refine d_load ?_ rfl rfl hb ?_); (rfl)) | (go_at_call 26; (with_reducible refine (has_c _ _ _ _ _ _ _ _ _ _ _ _ _ _ _ _ _ _).mono ?_); rintro e w1 ⟨rfl, h1⟩))
  go_ret
  exact ⟨rfl, vafter h1⟩
end Go.Proofs.Ytkmgdaagannhkaa.S
/-
  Descriptors: lay: what d has in the place of what stood there. Generated: gen_desclay.py.
-/
namespace Go.Proofs.Ytkmgdaagannhkaa.S
open Go.RowKit Fl

def sel (b : Bool) (x y : Value) : Value := bif b then x else y
theorem sel_one {b : Bool} {x y : Value} (h : x.oneCell' = true) (g : y.oneCell' = true) : (sel b x y).oneCell' = true := by cases b <;> assumption
/-- the cells of what lay answers -/
abbrev layC (h h' : Int) (ka : Int) (xa : Nat) (sa : ByteArray) (ra : Int) (kb : Int) (xb : Nat) (sb : ByteArray) (rb : Int) (kc : Int) (xc : Nat) (sc : ByteArray) (rc : Int) (kd : Int) (xd : Nat) (sd : ByteArray) (rd : Int) (kf : Int) (xf : Nat) (sf : ByteArray) (rf : Int) (kg : Int) (xg : Nat) (sg : ByteArray) (rg : Int) (p q z p' q' z' : Bool) : Array Value := #[.int .u8 (bits .or .u8 h h'), sel (hasB h' 1) (.int .u8 kd) (.int .u8 ka), sel (hasB h' 1) (.float .f64 xd) (.float .f64 xa), sel (hasB h' 1) (.string sd) (.string sa), sel (hasB h' 1) (.int .i64 rd) (.int .i64 ra), sel (hasB h' 4) (.int .u8 kf) (.int .u8 kb), sel (hasB h' 4) (.float .f64 xf) (.float .f64 xb), sel (hasB h' 4) (.string sf) (.string sb), sel (hasB h' 4) (.int .i64 rf) (.int .i64 rb), sel (hasB h' 8) (.int .u8 kg) (.int .u8 kc), sel (hasB h' 8) (.float .f64 xg) (.float .f64 xc), sel (hasB h' 8) (.string sg) (.string sc), sel (hasB h' 8) (.int .i64 rg) (.int .i64 rc), sel (hasB h' 2) (.bool p') (.bool p), sel (hasB h' 16) (.bool q') (.bool q), sel (hasB h' 32) (.bool z') (.bool z)]
theorem vbel4' {B g i j k l : Nat} {w0 w : World} (h : Below B w0 w) (hg : B ≤ g) (a b c d : Value) :
    Below B w0 ((((w.setCell ⟨g, i, none⟩ a).setCell ⟨g, j, none⟩ b).setCell ⟨g, k, none⟩ c).setCell ⟨g, l, none⟩ d) :=
  (((h.setCell (p := ⟨g, i, none⟩) hg a).setCell (p := ⟨g, j, none⟩) hg b).setCell (p := ⟨g, k, none⟩) hg c).setCell (p := ⟨g, l, none⟩) hg d
/-- a function whose one result is a descriptor in a block of its own -/
theorem d_end {f : Func} {i : Nat} {t : TypeId} {Q : Ending → World → Prop} {tmps : Array Value} {W : World} {g : Nat} {c0 c1 c2 c3 c4 c5 c6 c7 c8 c9 c10 c11 c12 c13 c14 c15 : Value} (hf : f.results = #[.cell i 27])
    (h2 : tmps.getD i undef = .pointer (some ⟨g, 0, none⟩)) (hb : W.heap[g]? = some (.cells #[c0, c1, c2, c3, c4, c5, c6, c7, c8, c9, c10, c11, c12, c13, c14, c15] t (0, 0))) (hQ : Q (.returned (.agg #[c0, c1, c2, c3, c4, c5, c6, c7, c8, c9, c10, c11, c12, c13, c14, c15])) W) :
    bodyPost Try.prog f Q .ret { tmps := tmps, defers := [] } W :=
  bodyPost_ret (results_cell_row hf tmps W g t _ (0, 0) _ h2 hb Try.underlying27 rfl dsz) rfl hQ

set_option maxRecDepth 1000000 in
set_option maxHeartbeats 4000000 in
theorem lay_c (h h' : Int) (ka : Int) (xa : Nat) (sa : ByteArray) (ra : Int) (kb : Int) (xb : Nat) (sb : ByteArray) (rb : Int) (kc : Int) (xc : Nat) (sc : ByteArray) (rc : Int) (kd : Int) (xd : Nat) (sd : ByteArray) (rd : Int) (kf : Int) (xf : Nat) (sf : ByteArray) (rf : Int) (kg : Int) (xg : Nat) (sg : ByteArray) (rg : Int) (p q z p' q' z' : Bool) (w : World) : Calls Try.prog 50 #[.agg #[.int .u8 h, .int .u8 ka, .float .f64 xa, .string sa, .int .i64 ra, .int .u8 kb, .float .f64 xb, .string sb, .int .i64 rb, .int .u8 kc, .float .f64 xc, .string sc, .int .i64 rc, .bool p, .bool q, .bool z], .agg #[.int .u8 h', .int .u8 kd, .float .f64 xd, .string sd, .int .i64 rd, .int .u8 kf, .float .f64 xf, .string sf, .int .i64 rf, .int .u8 kg, .float .f64 xg, .string sg, .int .i64 rg, .bool p', .bool q', .bool z']] w fun e w' => e = .returned (.agg (layC h h' ka xa sa ra kb xb sb rb kc xc sc rc kd xd sd rd kf xf sf rf kg xg sg rg p q z p' q' z')) ∧ Below w.heap.size w w' := by
  have hst := vstore
  have hB0 : Below w.heap.size w (((w.alloc (.cells #[.int .u8 (bits .or .u8 h h'), .int .u8 ka, .float .f64 xa, .string sa, .int .i64 ra, .int .u8 kb, .float .f64 xb, .string sb, .int .i64 rb, .int .u8 kc, .float .f64 xc, .string sc, .int .i64 rc, .bool p, .bool q, .bool z] 27)).alloc (.cells #[.int .u8 h', .int .u8 kd, .float .f64 xd, .string sd, .int .i64 rd, .int .u8 kf, .float .f64 xf, .string sf, .int .i64 rf, .int .u8 kg, .float .f64 xg, .string sg, .int .i64 rg, .bool p', .bool q', .bool z'] 27)).alloc (.cells #[.int .u8 0, .int .u8 0, .float .f64 0, .string ⟨#[]⟩, .int .i64 0, .int .u8 0, .float .f64 0, .string ⟨#[]⟩, .int .i64 0, .int .u8 0, .float .f64 0, .string ⟨#[]⟩, .int .i64 0, .bool false, .bool false, .bool false] 27)) := vafter2 (vzero _ _)
  obtain ⟨b1, b2, b3⟩ := vblk3 (w := w) (Below.refl _ (((w.alloc (.cells #[.int .u8 (bits .or .u8 h h'), .int .u8 ka, .float .f64 xa, .string sa, .int .i64 ra, .int .u8 kb, .float .f64 xb, .string sb, .int .i64 rb, .int .u8 kc, .float .f64 xc, .string sc, .int .i64 rc, .bool p, .bool q, .bool z] 27)).alloc (.cells #[.int .u8 h', .int .u8 kd, .float .f64 xd, .string sd, .int .i64 rd, .int .u8 kf, .float .f64 xf, .string sf, .int .i64 rf, .int .u8 kg, .float .f64 xg, .string sg, .int .i64 rg, .bool p', .bool q', .bool z'] 27)).alloc (.cells #[.int .u8 0, .int .u8 0, .float .f64 0, .string ⟨#[]⟩, .int .i64 0, .int .u8 0, .float .f64 0, .string ⟨#[]⟩, .int .i64 0, .int .u8 0, .float .f64 0, .string ⟨#[]⟩, .int .i64 0, .bool false, .bool false, .bool false] 27)))
  go_enter Try.func50, Try.ntmps50
  go_upto_if 12 with (first | ((with_reducible refine d_load ?_ rfl rfl b2 ?_); (rfl)) | (go_at_call 26; (with_reducible refine (has_c _ _ _ _ _ _ _ _ _ _ _ _ _ _ _ _ _ _).mono ?_); rintro e w1 ⟨rfl, h1⟩; have b1 := vblkn h1 b1; have b2 := vblkn h1 b2; have b3 := vblkn h1 b3; have hB0 := vb hB0 h1))
  go_cut [] from 5 to 41 (fun wx => wx.heap[w.heap.size]? = some (.cells #[.int .u8 (bits .or .u8 h h'), sel (hasB h' 1) (.int .u8 kd) (.int .u8 ka), sel (hasB h' 1) (.float .f64 xd) (.float .f64 xa), sel (hasB h' 1) (.string sd) (.string sa), sel (hasB h' 1) (.int .i64 rd) (.int .i64 ra), .int .u8 kb, .float .f64 xb, .string sb, .int .i64 rb, .int .u8 kc, .float .f64 xc, .string sc, .int .i64 rc, .bool p, .bool q, .bool z] 27 (0, 0)) ∧ wx.heap[w.heap.size + 1]? = some (.cells #[.int .u8 h', .int .u8 kd, .float .f64 xd, .string sd, .int .i64 rd, .int .u8 kf, .float .f64 xf, .string sf, .int .i64 rf, .int .u8 kg, .float .f64 xg, .string sg, .int .i64 rg, .bool p', .bool q', .bool z'] 27 (0, 0)) ∧ wx.heap[w.heap.size + 1 + 1]? = some (.cells #[.int .u8 0, .int .u8 0, .float .f64 0, .string ⟨#[]⟩, .int .i64 0, .int .u8 0, .float .f64 0, .string ⟨#[]⟩, .int .i64 0, .int .u8 0, .float .f64 0, .string ⟨#[]⟩, .int .i64 0, .bool false, .bool false, .bool false] 27 (0, 0)) ∧ Below w.heap.size w wx)
  case first =>
    cases hs : hasB h' 1
    · go_wp2
      go_meet
      case rel => rw [hs]; exact ⟨b1, b2, b3, hB0⟩
    · go_wp2_with (first | ((with_reducible refine v_load ?_ rfl rfl b2 rfl rfl rfl rfl ?_); (rfl)) | ((with_reducible refine v_store rfl rfl rfl rfl b1 ?_ ?_ ?_); (exact of_decide_eq_true rfl); (rfl)))
      go_meet
      case rel => rw [hs]; exact ⟨vset1 (vset1 (vset1 (vset1 b1 _ _) _ _) _ _) _ _, vset1o (vset1o (vset1o (vset1o b2 (by simp) _ _) (by simp) _ _) (by simp) _ _) (by simp) _ _, vset1o (vset1o (vset1o (vset1o b3 (by simp; omega) _ _) (by simp; omega) _ _) (by simp; omega) _ _) (by simp; omega) _ _, vbel4' hB0 (Nat.le_refl _) _ _ _ _⟩
  case rest =>
  obtain ⟨b1, b2, b3, hB0⟩ := hcut
  go_upto_if 17 with (first | ((with_reducible refine d_load ?_ rfl rfl b2 ?_); (rfl)) | (go_at_call 26; (with_reducible refine (has_c _ _ _ _ _ _ _ _ _ _ _ _ _ _ _ _ _ _).mono ?_); rintro e w1 ⟨rfl, h1⟩; have b1 := vblkn h1 b1; have b2 := vblkn h1 b2; have b3 := vblkn h1 b3; have hB0 := vb hB0 h1))
  go_cut [] from 5 to 41 (fun wx => wx.heap[w.heap.size]? = some (.cells #[.int .u8 (bits .or .u8 h h'), sel (hasB h' 1) (.int .u8 kd) (.int .u8 ka), sel (hasB h' 1) (.float .f64 xd) (.float .f64 xa), sel (hasB h' 1) (.string sd) (.string sa), sel (hasB h' 1) (.int .i64 rd) (.int .i64 ra), .int .u8 kb, .float .f64 xb, .string sb, .int .i64 rb, .int .u8 kc, .float .f64 xc, .string sc, .int .i64 rc, sel (hasB h' 2) (.bool p') (.bool p), .bool q, .bool z] 27 (0, 0)) ∧ wx.heap[w.heap.size + 1]? = some (.cells #[.int .u8 h', .int .u8 kd, .float .f64 xd, .string sd, .int .i64 rd, .int .u8 kf, .float .f64 xf, .string sf, .int .i64 rf, .int .u8 kg, .float .f64 xg, .string sg, .int .i64 rg, .bool p', .bool q', .bool z'] 27 (0, 0)) ∧ wx.heap[w.heap.size + 1 + 1]? = some (.cells #[.int .u8 0, .int .u8 0, .float .f64 0, .string ⟨#[]⟩, .int .i64 0, .int .u8 0, .float .f64 0, .string ⟨#[]⟩, .int .i64 0, .int .u8 0, .float .f64 0, .string ⟨#[]⟩, .int .i64 0, .bool false, .bool false, .bool false] 27 (0, 0)) ∧ Below w.heap.size w wx)
  case first =>
    cases hs : hasB h' 2
    · go_wp2
      go_meet
      case rel => rw [hs]; exact ⟨b1, b2, b3, hB0⟩
    · have q2 := vcells b2 13
      have f1 := vfz b1 13
      have q1 := vcells b1 13
      go_wp2
      go_meet
      case rel => rw [hs]; exact ⟨vset1 b1 _ _, vset1o b2 (by simp) _ _, vset1o b3 (by simp; omega) _ _, hB0.setCell (p := ⟨w.heap.size, 13, none⟩) (Nat.le_refl _) _⟩
  case rest =>
  obtain ⟨b1, b2, b3, hB0⟩ := hcut
  go_upto_if 22 with (first | ((with_reducible refine d_load ?_ rfl rfl b2 ?_); (rfl)) | (go_at_call 26; (with_reducible refine (has_c _ _ _ _ _ _ _ _ _ _ _ _ _ _ _ _ _ _).mono ?_); rintro e w1 ⟨rfl, h1⟩; have b1 := vblkn h1 b1; have b2 := vblkn h1 b2; have b3 := vblkn h1 b3; have hB0 := vb hB0 h1))
  go_cut [] from 5 to 41 (fun wx => wx.heap[w.heap.size]? = some (.cells #[.int .u8 (bits .or .u8 h h'), sel (hasB h' 1) (.int .u8 kd) (.int .u8 ka), sel (hasB h' 1) (.float .f64 xd) (.float .f64 xa), sel (hasB h' 1) (.string sd) (.string sa), sel (hasB h' 1) (.int .i64 rd) (.int .i64 ra), sel (hasB h' 4) (.int .u8 kf) (.int .u8 kb), sel (hasB h' 4) (.float .f64 xf) (.float .f64 xb), sel (hasB h' 4) (.string sf) (.string sb), sel (hasB h' 4) (.int .i64 rf) (.int .i64 rb), .int .u8 kc, .float .f64 xc, .string sc, .int .i64 rc, sel (hasB h' 2) (.bool p') (.bool p), .bool q, .bool z] 27 (0, 0)) ∧ wx.heap[w.heap.size + 1]? = some (.cells #[.int .u8 h', .int .u8 kd, .float .f64 xd, .string sd, .int .i64 rd, .int .u8 kf, .float .f64 xf, .string sf, .int .i64 rf, .int .u8 kg, .float .f64 xg, .string sg, .int .i64 rg, .bool p', .bool q', .bool z'] 27 (0, 0)) ∧ wx.heap[w.heap.size + 1 + 1]? = some (.cells #[.int .u8 0, .int .u8 0, .float .f64 0, .string ⟨#[]⟩, .int .i64 0, .int .u8 0, .float .f64 0, .string ⟨#[]⟩, .int .i64 0, .int .u8 0, .float .f64 0, .string ⟨#[]⟩, .int .i64 0, .bool false, .bool false, .bool false] 27 (0, 0)) ∧ Below w.heap.size w wx)
  case first =>
    cases hs : hasB h' 4
    · go_wp2
      go_meet
      case rel => rw [hs]; exact ⟨b1, b2, b3, hB0⟩
    · go_wp2_with (first | ((with_reducible refine v_load ?_ rfl rfl b2 rfl rfl rfl rfl ?_); (rfl)) | ((with_reducible refine v_store rfl rfl rfl rfl b1 ?_ ?_ ?_); (exact of_decide_eq_true rfl); (rfl)))
      go_meet
      case rel => rw [hs]; exact ⟨vset1 (vset1 (vset1 (vset1 b1 _ _) _ _) _ _) _ _, vset1o (vset1o (vset1o (vset1o b2 (by simp) _ _) (by simp) _ _) (by simp) _ _) (by simp) _ _, vset1o (vset1o (vset1o (vset1o b3 (by simp; omega) _ _) (by simp; omega) _ _) (by simp; omega) _ _) (by simp; omega) _ _, vbel4' hB0 (Nat.le_refl _) _ _ _ _⟩
  case rest =>
  obtain ⟨b1, b2, b3, hB0⟩ := hcut
  go_upto_if 27 with (first | ((with_reducible refine d_load ?_ rfl rfl b2 ?_); (rfl)) | (go_at_call 26; (with_reducible refine (has_c _ _ _ _ _ _ _ _ _ _ _ _ _ _ _ _ _ _).mono ?_); rintro e w1 ⟨rfl, h1⟩; have b1 := vblkn h1 b1; have b2 := vblkn h1 b2; have b3 := vblkn h1 b3; have hB0 := vb hB0 h1))
  go_cut [] from 5 to 41 (fun wx => wx.heap[w.heap.size]? = some (.cells #[.int .u8 (bits .or .u8 h h'), sel (hasB h' 1) (.int .u8 kd) (.int .u8 ka), sel (hasB h' 1) (.float .f64 xd) (.float .f64 xa), sel (hasB h' 1) (.string sd) (.string sa), sel (hasB h' 1) (.int .i64 rd) (.int .i64 ra), sel (hasB h' 4) (.int .u8 kf) (.int .u8 kb), sel (hasB h' 4) (.float .f64 xf) (.float .f64 xb), sel (hasB h' 4) (.string sf) (.string sb), sel (hasB h' 4) (.int .i64 rf) (.int .i64 rb), sel (hasB h' 8) (.int .u8 kg) (.int .u8 kc), sel (hasB h' 8) (.float .f64 xg) (.float .f64 xc), sel (hasB h' 8) (.string sg) (.string sc), sel (hasB h' 8) (.int .i64 rg) (.int .i64 rc), sel (hasB h' 2) (.bool p') (.bool p), .bool q, .bool z] 27 (0, 0)) ∧ wx.heap[w.heap.size + 1]? = some (.cells #[.int .u8 h', .int .u8 kd, .float .f64 xd, .string sd, .int .i64 rd, .int .u8 kf, .float .f64 xf, .string sf, .int .i64 rf, .int .u8 kg, .float .f64 xg, .string sg, .int .i64 rg, .bool p', .bool q', .bool z'] 27 (0, 0)) ∧ wx.heap[w.heap.size + 1 + 1]? = some (.cells #[.int .u8 0, .int .u8 0, .float .f64 0, .string ⟨#[]⟩, .int .i64 0, .int .u8 0, .float .f64 0, .string ⟨#[]⟩, .int .i64 0, .int .u8 0, .float .f64 0, .string ⟨#[]⟩, .int .i64 0, .bool false, .bool false, .bool false] 27 (0, 0)) ∧ Below w.heap.size w wx)
  case first =>
    cases hs : hasB h' 8
    · go_wp2
      go_meet
      case rel => rw [hs]; exact ⟨b1, b2, b3, hB0⟩
    · go_wp2_with (first | ((with_reducible refine v_load ?_ rfl rfl b2 rfl rfl rfl rfl ?_); (rfl)) | ((with_reducible refine v_store rfl rfl rfl rfl b1 ?_ ?_ ?_); (exact of_decide_eq_true rfl); (rfl)))
      go_meet
      case rel => rw [hs]; exact ⟨vset1 (vset1 (vset1 (vset1 b1 _ _) _ _) _ _) _ _, vset1o (vset1o (vset1o (vset1o b2 (by simp) _ _) (by simp) _ _) (by simp) _ _) (by simp) _ _, vset1o (vset1o (vset1o (vset1o b3 (by simp; omega) _ _) (by simp; omega) _ _) (by simp; omega) _ _) (by simp; omega) _ _, vbel4' hB0 (Nat.le_refl _) _ _ _ _⟩
  case rest =>
  obtain ⟨b1, b2, b3, hB0⟩ := hcut
  go_upto_if 32 with (first | ((with_reducible refine d_load ?_ rfl rfl b2 ?_); (rfl)) | (go_at_call 26; (with_reducible refine (has_c _ _ _ _ _ _ _ _ _ _ _ _ _ _ _ _ _ _).mono ?_); rintro e w1 ⟨rfl, h1⟩; have b1 := vblkn h1 b1; have b2 := vblkn h1 b2; have b3 := vblkn h1 b3; have hB0 := vb hB0 h1))
  go_cut [] from 5 to 41 (fun wx => wx.heap[w.heap.size]? = some (.cells #[.int .u8 (bits .or .u8 h h'), sel (hasB h' 1) (.int .u8 kd) (.int .u8 ka), sel (hasB h' 1) (.float .f64 xd) (.float .f64 xa), sel (hasB h' 1) (.string sd) (.string sa), sel (hasB h' 1) (.int .i64 rd) (.int .i64 ra), sel (hasB h' 4) (.int .u8 kf) (.int .u8 kb), sel (hasB h' 4) (.float .f64 xf) (.float .f64 xb), sel (hasB h' 4) (.string sf) (.string sb), sel (hasB h' 4) (.int .i64 rf) (.int .i64 rb), sel (hasB h' 8) (.int .u8 kg) (.int .u8 kc), sel (hasB h' 8) (.float .f64 xg) (.float .f64 xc), sel (hasB h' 8) (.string sg) (.string sc), sel (hasB h' 8) (.int .i64 rg) (.int .i64 rc), sel (hasB h' 2) (.bool p') (.bool p), sel (hasB h' 16) (.bool q') (.bool q), .bool z] 27 (0, 0)) ∧ wx.heap[w.heap.size + 1]? = some (.cells #[.int .u8 h', .int .u8 kd, .float .f64 xd, .string sd, .int .i64 rd, .int .u8 kf, .float .f64 xf, .string sf, .int .i64 rf, .int .u8 kg, .float .f64 xg, .string sg, .int .i64 rg, .bool p', .bool q', .bool z'] 27 (0, 0)) ∧ wx.heap[w.heap.size + 1 + 1]? = some (.cells #[.int .u8 0, .int .u8 0, .float .f64 0, .string ⟨#[]⟩, .int .i64 0, .int .u8 0, .float .f64 0, .string ⟨#[]⟩, .int .i64 0, .int .u8 0, .float .f64 0, .string ⟨#[]⟩, .int .i64 0, .bool false, .bool false, .bool false] 27 (0, 0)) ∧ Below w.heap.size w wx)
  case first =>
    cases hs : hasB h' 16
    · go_wp2
      go_meet
      case rel => rw [hs]; exact ⟨b1, b2, b3, hB0⟩
    · have q2 := vcells b2 14
      have f1 := vfz b1 14
      have q1 := vcells b1 14
      go_wp2
      go_meet
      case rel => rw [hs]; exact ⟨vset1 b1 _ _, vset1o b2 (by simp) _ _, vset1o b3 (by simp; omega) _ _, hB0.setCell (p := ⟨w.heap.size, 14, none⟩) (Nat.le_refl _) _⟩
  case rest =>
  obtain ⟨b1, b2, b3, hB0⟩ := hcut
  go_upto_if 37 with (first | ((with_reducible refine d_load ?_ rfl rfl b2 ?_); (rfl)) | (go_at_call 26; (with_reducible refine (has_c _ _ _ _ _ _ _ _ _ _ _ _ _ _ _ _ _ _).mono ?_); rintro e w1 ⟨rfl, h1⟩; have b1 := vblkn h1 b1; have b2 := vblkn h1 b2; have b3 := vblkn h1 b3; have hB0 := vb hB0 h1))
  go_cut [] from 5 to 41 (fun wx => wx.heap[w.heap.size]? = some (.cells #[.int .u8 (bits .or .u8 h h'), sel (hasB h' 1) (.int .u8 kd) (.int .u8 ka), sel (hasB h' 1) (.float .f64 xd) (.float .f64 xa), sel (hasB h' 1) (.string sd) (.string sa), sel (hasB h' 1) (.int .i64 rd) (.int .i64 ra), sel (hasB h' 4) (.int .u8 kf) (.int .u8 kb), sel (hasB h' 4) (.float .f64 xf) (.float .f64 xb), sel (hasB h' 4) (.string sf) (.string sb), sel (hasB h' 4) (.int .i64 rf) (.int .i64 rb), sel (hasB h' 8) (.int .u8 kg) (.int .u8 kc), sel (hasB h' 8) (.float .f64 xg) (.float .f64 xc), sel (hasB h' 8) (.string sg) (.string sc), sel (hasB h' 8) (.int .i64 rg) (.int .i64 rc), sel (hasB h' 2) (.bool p') (.bool p), sel (hasB h' 16) (.bool q') (.bool q), sel (hasB h' 32) (.bool z') (.bool z)] 27 (0, 0)) ∧ wx.heap[w.heap.size + 1]? = some (.cells #[.int .u8 h', .int .u8 kd, .float .f64 xd, .string sd, .int .i64 rd, .int .u8 kf, .float .f64 xf, .string sf, .int .i64 rf, .int .u8 kg, .float .f64 xg, .string sg, .int .i64 rg, .bool p', .bool q', .bool z'] 27 (0, 0)) ∧ wx.heap[w.heap.size + 1 + 1]? = some (.cells #[.int .u8 0, .int .u8 0, .float .f64 0, .string ⟨#[]⟩, .int .i64 0, .int .u8 0, .float .f64 0, .string ⟨#[]⟩, .int .i64 0, .int .u8 0, .float .f64 0, .string ⟨#[]⟩, .int .i64 0, .bool false, .bool false, .bool false] 27 (0, 0)) ∧ Below w.heap.size w wx)
  case first =>
    cases hs : hasB h' 32
    · go_wp2
      go_meet
      case rel => rw [hs]; exact ⟨b1, b2, b3, hB0⟩
    · have q2 := vcells b2 15
      have f1 := vfz b1 15
      have q1 := vcells b1 15
      go_wp2
      go_meet
      case rel => rw [hs]; exact ⟨vset1 b1 _ _, vset1o b2 (by simp) _ _, vset1o b3 (by simp; omega) _ _, hB0.setCell (p := ⟨w.heap.size, 15, none⟩) (Nat.le_refl _) _⟩
  case rest =>
  obtain ⟨b1, b2, b3, hB0⟩ := hcut
  have hone : ([.int .u8 (bits .or .u8 h h'), sel (hasB h' 1) (.int .u8 kd) (.int .u8 ka), sel (hasB h' 1) (.float .f64 xd) (.float .f64 xa), sel (hasB h' 1) (.string sd) (.string sa), sel (hasB h' 1) (.int .i64 rd) (.int .i64 ra), sel (hasB h' 4) (.int .u8 kf) (.int .u8 kb), sel (hasB h' 4) (.float .f64 xf) (.float .f64 xb), sel (hasB h' 4) (.string sf) (.string sb), sel (hasB h' 4) (.int .i64 rf) (.int .i64 rb), sel (hasB h' 8) (.int .u8 kg) (.int .u8 kc), sel (hasB h' 8) (.float .f64 xg) (.float .f64 xc), sel (hasB h' 8) (.string sg) (.string sc), sel (hasB h' 8) (.int .i64 rg) (.int .i64 rc), sel (hasB h' 2) (.bool p') (.bool p), sel (hasB h' 16) (.bool q') (.bool q), sel (hasB h' 32) (.bool z') (.bool z)] : List Value).all (·.oneCell') = true := by
    simp only [List.all_cons, List.all_nil, Bool.and_eq_true]
    exact ⟨rfl, sel_one rfl rfl, sel_one rfl rfl, sel_one rfl rfl, sel_one rfl rfl, sel_one rfl rfl, sel_one rfl rfl, sel_one rfl rfl, sel_one rfl rfl, sel_one rfl rfl, sel_one rfl rfl, sel_one rfl rfl, sel_one rfl rfl, sel_one rfl rfl, sel_one rfl rfl, sel_one rfl rfl, trivial⟩
  go_wp2_with (first | ((with_reducible refine d_load ?_ rfl rfl b1 ?_); (rfl)) | (with_reducible refine d_store rfl rfl rfl rfl b3 rfl hone ?_))
  exact d_end Try.results50 rfl (setRow_heap _ _ _ _ _ _ b3) ⟨rfl, below_row hB0 (by omega) _⟩
end Go.Proofs.Ytkmgdaagannhkaa.S
