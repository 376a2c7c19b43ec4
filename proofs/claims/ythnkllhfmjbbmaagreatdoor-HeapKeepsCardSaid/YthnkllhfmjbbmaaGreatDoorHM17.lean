/-
  value.May: walks, for any value.
-/
import Derived.Test.YthnkllhfmjbbmaaGreatDoorHM16
import Derived.Test.YthnkllhfmjbbmaaGreatDoorHM05
import Derived.Lib.ItoaLen
namespace Go.Proofs.YthnkllhfmjbbmaaGreatDoor.S
open Go.RowKit Fl

section
variable (x : Nat) (s : ByteArray) (r : Int) (w : World)
theorem fits_k0 : Calls Tryz.prog 154 #[.agg #[.int .u8 0, .float .f64 x, .string s, .int .i64 r]] w fun e w' => e = .returned (.bool true) ∧ Below w.heap.size w w' := by
  go_enter Tryz.func154, Tryz.ntmps154
  go_wp2_with (fail)
  go_ret
  exact ⟨rfl, vafter (Below.refl _ _)⟩
theorem fits_k1 : Calls Tryz.prog 154 #[.agg #[.int .u8 1, .float .f64 x, .string s, .int .i64 r]] w fun e w' => e = .returned (.bool true) ∧ Below w.heap.size w w' := by
  go_enter Tryz.func154, Tryz.ntmps154
  go_wp2_with (fail)
  go_ret
  exact ⟨rfl, vafter (Below.refl _ _)⟩
theorem fits_k2 : Calls Tryz.prog 154 #[.agg #[.int .u8 2, .float .f64 x, .string s, .int .i64 r]] w fun e w' => e = .returned (.bool (feq x 0 || feq x 4607182418800017408)) ∧ Below w.heap.size w w' := by
  have hf : (FloatKind.f64.format.order x 0 == some .eq) = feq x 0 := rfl
  cases h0 : feq x 0
  all_goals
    rw [h0] at hf
    clear h0
    go_enter Tryz.func154, Tryz.ntmps154
    go_wp2_with (fail)
    go_ret
    exact ⟨rfl, vafter (Below.refl _ _)⟩
theorem fits_k3 {c : Cl} (hx : Is c x) : Calls Tryz.prog 154 #[.agg #[.int .u8 3, .float .f64 x, .string s, .int .i64 r]] w fun e w' => e = .returned (.bool (mayC c)) ∧ Below w.heap.size w w' := by
  have km := fun w => May_cls hx w
  generalize mayC c = b at *
  clear hx
  go_enter Tryz.func154, Tryz.ntmps154
  go_wp2_with (go_at_call 180; (with_reducible refine (km _).mono ?_); rintro e w1 ⟨rfl, rfl⟩)
  go_ret
  exact ⟨rfl, vafter (Below.refl _ _)⟩
theorem fits_k4 : Calls Tryz.prog 154 #[.agg #[.int .u8 4, .float .f64 x, .string s, .int .i64 r]] w fun e w' => e = .returned (.bool (decide ((s.size : Int) ≤ 4096))) ∧ Below w.heap.size w w' := by
  go_enter Tryz.func154, Tryz.ntmps154
  go_wp2_with (fail)
  go_ret
  exact ⟨ret_bool (by simp), vafter (Below.refl _ _)⟩
theorem fits_k5 : Calls Tryz.prog 154 #[.agg #[.int .u8 5, .float .f64 x, .string s, .int .i64 r]] w fun e w' => e = .returned (.bool (decide (0 ≤ r))) ∧ Below w.heap.size w w' := by
  go_enter Tryz.func154, Tryz.ntmps154
  go_wp2_with (fail)
  go_ret
  exact ⟨ret_bool (by simp), vafter (Below.refl _ _)⟩
theorem fits_obj (k : Nat) (h0 : ((k : Int) == 0) = false) (h1 : ((k : Int) == 1) = false) (h2 : ((k : Int) == 2) = false) (h3 : ((k : Int) == 3) = false) (h4 : ((k : Int) == 4) = false) (h5 : ((k : Int) == 5) = false) :
    Calls Tryz.prog 154 #[.agg #[.int .u8 (k : Int), .float .f64 x, .string s, .int .i64 r]] w fun e w' => e = .returned (.bool (objB k && decide (0 ≤ r))) ∧ Below w.heap.size w w' := by
  have k1 := fun w => IsObject_v k x s r w
  cases ho : objB k
  all_goals
    rw [ho] at k1
    clear ho
    go_enter Tryz.func154, Tryz.ntmps154
    go_wp2_with (go_at_call 66; (with_reducible refine (k1 _).mono ?_); rintro e w1 ⟨rfl, h1⟩; obtain ⟨hc1, hf1⟩ := vcell h1; have hz1 := vlt1 h1)
    go_ret
    exact ⟨ret_bool (by simp), vafter h1⟩
/-- what a value beside the field of its kind must be -/
def restB (x : Nat) (s : ByteArray) (r : Int) : Bool := feq x 0 && s.toList.isEmpty && r == 0 && !sgn x
theorem May_k0 (hx : x < 2 ^ 64) : Calls Tryz.prog 115 #[.agg #[.int .u8 0, .float .f64 x, .string s, .int .i64 r]] w fun e w' => e = .returned (.bool ((true) && restB x s r)) ∧ Below w.heap.size w w' := by
  have k1 : ∀ w, Calls Tryz.prog 153 #[.agg #[.int .u8 0, .float .f64 x, .string s, .int .i64 r]] w (fun e w' => e = .returned (.agg #[.int .u8 0, .float .f64 x, .string s, .int .i64 r]) ∧ Below w.heap.size w w') := fun w => beside_same x s r w 0 rfl rfl rfl rfl rfl
  have k2 : ∀ w, Calls Tryz.prog 154 #[.agg #[.int .u8 0, .float .f64 x, .string s, .int .i64 r]] w (fun e w' => e = .returned (.bool (true)) ∧ Below w.heap.size w w') := fun w => fits_k0 x s r w
  have k3 := fun w => Signbit_any x w hx
  have hv := fun w => veq_float 9998 x 0 w
  have hst := vstore
  have z3 : (⟨#[]⟩ : ByteArray).toList = [] := by rw [toList_data]
  go_enter Tryz.func115, Tryz.ntmps115
  go_wp2_with (first | (go_at_call 153; (with_reducible refine (k1 _).mono ?_); rintro e w1 ⟨rfl, h1⟩; obtain ⟨hc1, hf1⟩ := vcell h1; have hz1 := vlt1 h1) | (go_at_call 154; (with_reducible refine (k2 _).mono ?_); rintro e w2 ⟨rfl, h2⟩; obtain ⟨hc2, hf2⟩ := vcell h2; have hz2 := vlt1 h2; have hz3 := Nat.lt_trans hz1 hz2) | (go_at_call 155; (with_reducible refine (k3 _).mono ?_); rintro e w3 ⟨rfl, rfl⟩))
  all_goals (go_ret; exact ⟨ret_bool (by simp [restB, *]), vb (vafter h1) (vafter h2)⟩)
theorem May_k1 (hx : x < 2 ^ 64) : Calls Tryz.prog 115 #[.agg #[.int .u8 1, .float .f64 x, .string s, .int .i64 r]] w fun e w' => e = .returned (.bool ((true) && restB x s r)) ∧ Below w.heap.size w w' := by
  have k1 : ∀ w, Calls Tryz.prog 153 #[.agg #[.int .u8 1, .float .f64 x, .string s, .int .i64 r]] w (fun e w' => e = .returned (.agg #[.int .u8 1, .float .f64 x, .string s, .int .i64 r]) ∧ Below w.heap.size w w') := fun w => beside_same x s r w 1 rfl rfl rfl rfl rfl
  have k2 : ∀ w, Calls Tryz.prog 154 #[.agg #[.int .u8 1, .float .f64 x, .string s, .int .i64 r]] w (fun e w' => e = .returned (.bool (true)) ∧ Below w.heap.size w w') := fun w => fits_k1 x s r w
  have k3 := fun w => Signbit_any x w hx
  have hv := fun w => veq_float 9998 x 0 w
  have hst := vstore
  have z3 : (⟨#[]⟩ : ByteArray).toList = [] := by rw [toList_data]
  go_enter Tryz.func115, Tryz.ntmps115
  go_wp2_with (first | (go_at_call 153; (with_reducible refine (k1 _).mono ?_); rintro e w1 ⟨rfl, h1⟩; obtain ⟨hc1, hf1⟩ := vcell h1; have hz1 := vlt1 h1) | (go_at_call 154; (with_reducible refine (k2 _).mono ?_); rintro e w2 ⟨rfl, h2⟩; obtain ⟨hc2, hf2⟩ := vcell h2; have hz2 := vlt1 h2; have hz3 := Nat.lt_trans hz1 hz2) | (go_at_call 155; (with_reducible refine (k3 _).mono ?_); rintro e w3 ⟨rfl, rfl⟩))
  all_goals (go_ret; exact ⟨ret_bool (by simp [restB, *]), vb (vafter h1) (vafter h2)⟩)
theorem May_k2 : Calls Tryz.prog 115 #[.agg #[.int .u8 2, .float .f64 x, .string s, .int .i64 r]] w fun e w' => e = .returned (.bool ((feq x 0 || feq x 4607182418800017408) && restB 0 s r)) ∧ Below w.heap.size w w' := by
  have k1 : ∀ w, Calls Tryz.prog 153 #[.agg #[.int .u8 2, .float .f64 x, .string s, .int .i64 r]] w (fun e w' => e = .returned (.agg #[.int .u8 2, .float .f64 0, .string s, .int .i64 r]) ∧ Below w.heap.size w w') := fun w => beside_k2 x s r w
  have k2 : ∀ w, Calls Tryz.prog 154 #[.agg #[.int .u8 2, .float .f64 x, .string s, .int .i64 r]] w (fun e w' => e = .returned (.bool (feq x 0 || feq x 4607182418800017408)) ∧ Below w.heap.size w w') := fun w => fits_k2 x s r w
  have k3 : ∀ w, Calls Tryz.prog 155 #[.float .f64 0] w (fun e w' => e = .returned (.bool false) ∧ w = w') := fun w => Signbit_any 0 w (by decide)
  have hv : ∀ w, (Op.equalIn (9998 + 1) 29 (.float .f64 0) (.float .f64 0)).run Tryz.prog w = .ok true w := fun w => veq_float 9998 0 0 w
  have z1 : feq 0 0 = true := by decide
  have z2 : sgn 0 = false := by decide
  have hst := vstore
  have z3 : (⟨#[]⟩ : ByteArray).toList = [] := by rw [toList_data]
  cases hfit : (feq x 0 || feq x 4607182418800017408)
  all_goals
    rw [hfit] at k2
    try clear hfit
    go_enter Tryz.func115, Tryz.ntmps115
    go_wp2_with (first | (go_at_call 153; (with_reducible refine (k1 _).mono ?_); rintro e w1 ⟨rfl, h1⟩; obtain ⟨hc1, hf1⟩ := vcell h1; have hz1 := vlt1 h1) | (go_at_call 154; (with_reducible refine (k2 _).mono ?_); rintro e w2 ⟨rfl, h2⟩; obtain ⟨hc2, hf2⟩ := vcell h2; have hz2 := vlt1 h2; have hz3 := Nat.lt_trans hz1 hz2) | (go_at_call 155; (with_reducible refine (k3 _).mono ?_); rintro e w3 ⟨rfl, rfl⟩))
    all_goals (go_ret; exact ⟨ret_bool (by simp [restB, *]), vb (vafter h1) (vafter h2)⟩)
theorem May_k3 {c : Cl} (hc : Is c x) : Calls Tryz.prog 115 #[.agg #[.int .u8 3, .float .f64 x, .string s, .int .i64 r]] w fun e w' => e = .returned (.bool ((mayC c) && restB 0 s r)) ∧ Below w.heap.size w w' := by
  have k1 : ∀ w, Calls Tryz.prog 153 #[.agg #[.int .u8 3, .float .f64 x, .string s, .int .i64 r]] w (fun e w' => e = .returned (.agg #[.int .u8 3, .float .f64 0, .string s, .int .i64 r]) ∧ Below w.heap.size w w') := fun w => beside_k3 x s r w
  have k2 : ∀ w, Calls Tryz.prog 154 #[.agg #[.int .u8 3, .float .f64 x, .string s, .int .i64 r]] w (fun e w' => e = .returned (.bool (mayC c)) ∧ Below w.heap.size w w') := fun w => fits_k3 x s r w hc
  have k3 : ∀ w, Calls Tryz.prog 155 #[.float .f64 0] w (fun e w' => e = .returned (.bool false) ∧ w = w') := fun w => Signbit_any 0 w (by decide)
  have hv : ∀ w, (Op.equalIn (9998 + 1) 29 (.float .f64 0) (.float .f64 0)).run Tryz.prog w = .ok true w := fun w => veq_float 9998 0 0 w
  have z1 : feq 0 0 = true := by decide
  have z2 : sgn 0 = false := by decide
  have hst := vstore
  have z3 : (⟨#[]⟩ : ByteArray).toList = [] := by rw [toList_data]
  cases hfit : (mayC c)
  all_goals
    rw [hfit] at k2
    try clear hfit
    go_enter Tryz.func115, Tryz.ntmps115
    go_wp2_with (first | (go_at_call 153; (with_reducible refine (k1 _).mono ?_); rintro e w1 ⟨rfl, h1⟩; obtain ⟨hc1, hf1⟩ := vcell h1; have hz1 := vlt1 h1) | (go_at_call 154; (with_reducible refine (k2 _).mono ?_); rintro e w2 ⟨rfl, h2⟩; obtain ⟨hc2, hf2⟩ := vcell h2; have hz2 := vlt1 h2; have hz3 := Nat.lt_trans hz1 hz2) | (go_at_call 155; (with_reducible refine (k3 _).mono ?_); rintro e w3 ⟨rfl, rfl⟩))
    all_goals (go_ret; exact ⟨ret_bool (by simp [restB, *]), vb (vafter h1) (vafter h2)⟩)
theorem May_k4 (hx : x < 2 ^ 64) : Calls Tryz.prog 115 #[.agg #[.int .u8 4, .float .f64 x, .string s, .int .i64 r]] w fun e w' => e = .returned (.bool ((decide ((s.size : Int) ≤ 4096)) && restB x ⟨#[]⟩ r)) ∧ Below w.heap.size w w' := by
  have k1 : ∀ w, Calls Tryz.prog 153 #[.agg #[.int .u8 4, .float .f64 x, .string s, .int .i64 r]] w (fun e w' => e = .returned (.agg #[.int .u8 4, .float .f64 x, .string ⟨#[]⟩, .int .i64 r]) ∧ Below w.heap.size w w') := fun w => beside_k4 x s r w
  have k2 : ∀ w, Calls Tryz.prog 154 #[.agg #[.int .u8 4, .float .f64 x, .string s, .int .i64 r]] w (fun e w' => e = .returned (.bool (decide ((s.size : Int) ≤ 4096))) ∧ Below w.heap.size w w') := fun w => fits_k4 x s r w
  have k3 := fun w => Signbit_any x w hx
  have hv := fun w => veq_float 9998 x 0 w
  have hst := vstore
  have z3 : (⟨#[]⟩ : ByteArray).toList = [] := by rw [toList_data]
  cases hfit : (decide ((s.size : Int) ≤ 4096))
  all_goals
    rw [hfit] at k2
    try clear hfit
    go_enter Tryz.func115, Tryz.ntmps115
    go_wp2_with (first | (go_at_call 153; (with_reducible refine (k1 _).mono ?_); rintro e w1 ⟨rfl, h1⟩; obtain ⟨hc1, hf1⟩ := vcell h1; have hz1 := vlt1 h1) | (go_at_call 154; (with_reducible refine (k2 _).mono ?_); rintro e w2 ⟨rfl, h2⟩; obtain ⟨hc2, hf2⟩ := vcell h2; have hz2 := vlt1 h2; have hz3 := Nat.lt_trans hz1 hz2) | (go_at_call 155; (with_reducible refine (k3 _).mono ?_); rintro e w3 ⟨rfl, rfl⟩))
    all_goals (go_ret; exact ⟨ret_bool (by simp [restB, *]), vb (vafter h1) (vafter h2)⟩)
theorem May_k5 (hx : x < 2 ^ 64) : Calls Tryz.prog 115 #[.agg #[.int .u8 5, .float .f64 x, .string s, .int .i64 r]] w fun e w' => e = .returned (.bool ((decide (0 ≤ r)) && restB x s 0)) ∧ Below w.heap.size w w' := by
  have k1 : ∀ w, Calls Tryz.prog 153 #[.agg #[.int .u8 5, .float .f64 x, .string s, .int .i64 r]] w (fun e w' => e = .returned (.agg #[.int .u8 5, .float .f64 x, .string s, .int .i64 0]) ∧ Below w.heap.size w w') := fun w => beside_k5 x s r w
  have k2 : ∀ w, Calls Tryz.prog 154 #[.agg #[.int .u8 5, .float .f64 x, .string s, .int .i64 r]] w (fun e w' => e = .returned (.bool (decide (0 ≤ r))) ∧ Below w.heap.size w w') := fun w => fits_k5 x s r w
  have k3 := fun w => Signbit_any x w hx
  have hv := fun w => veq_float 9998 x 0 w
  have hst := vstore
  have z3 : (⟨#[]⟩ : ByteArray).toList = [] := by rw [toList_data]
  cases hfit : (decide (0 ≤ r))
  all_goals
    rw [hfit] at k2
    try clear hfit
    go_enter Tryz.func115, Tryz.ntmps115
    go_wp2_with (first | (go_at_call 153; (with_reducible refine (k1 _).mono ?_); rintro e w1 ⟨rfl, h1⟩; obtain ⟨hc1, hf1⟩ := vcell h1; have hz1 := vlt1 h1) | (go_at_call 154; (with_reducible refine (k2 _).mono ?_); rintro e w2 ⟨rfl, h2⟩; obtain ⟨hc2, hf2⟩ := vcell h2; have hz2 := vlt1 h2; have hz3 := Nat.lt_trans hz1 hz2) | (go_at_call 155; (with_reducible refine (k3 _).mono ?_); rintro e w3 ⟨rfl, rfl⟩))
    all_goals (go_ret; exact ⟨ret_bool (by simp [restB, *]), vb (vafter h1) (vafter h2)⟩)
theorem May_obj (k : Nat) (hx : x < 2 ^ 64) (g0 : ((k : Int) == 0) = false) (g1 : ((k : Int) == 1) = false) (g2 : ((k : Int) == 2) = false) (g3 : ((k : Int) == 3) = false) (g4 : ((k : Int) == 4) = false) (g5 : ((k : Int) == 5) = false) (ho : objB k = true) : Calls Tryz.prog 115 #[.agg #[.int .u8 (k : Int), .float .f64 x, .string s, .int .i64 r]] w fun e w' => e = .returned (.bool ((decide (0 ≤ r)) && restB x s 0)) ∧ Below w.heap.size w w' := by
  have k1 : ∀ w, Calls Tryz.prog 153 #[.agg #[.int .u8 (k : Int), .float .f64 x, .string s, .int .i64 r]] w (fun e w' => e = .returned (.agg #[.int .u8 (k : Int), .float .f64 x, .string s, .int .i64 0]) ∧ Below w.heap.size w w') := fun w => beside_obj x s r w k g2 g3 g4 g5 ho
  have k2 : ∀ w, Calls Tryz.prog 154 #[.agg #[.int .u8 (k : Int), .float .f64 x, .string s, .int .i64 r]] w (fun e w' => e = .returned (.bool (decide (0 ≤ r))) ∧ Below w.heap.size w w') := fun w => by have h := fits_obj x s r w k g0 g1 g2 g3 g4 g5; rw [ho] at h; exact h
  have k3 := fun w => Signbit_any x w hx
  have hv := fun w => veq_float 9998 x 0 w
  have hst := vstore
  have z3 : (⟨#[]⟩ : ByteArray).toList = [] := by rw [toList_data]
  cases hfit : (decide (0 ≤ r))
  all_goals
    rw [hfit] at k2
    try clear hfit
    go_enter Tryz.func115, Tryz.ntmps115
    go_wp2_with (first | (go_at_call 153; (with_reducible refine (k1 _).mono ?_); rintro e w1 ⟨rfl, h1⟩; obtain ⟨hc1, hf1⟩ := vcell h1; have hz1 := vlt1 h1) | (go_at_call 154; (with_reducible refine (k2 _).mono ?_); rintro e w2 ⟨rfl, h2⟩; obtain ⟨hc2, hf2⟩ := vcell h2; have hz2 := vlt1 h2; have hz3 := Nat.lt_trans hz1 hz2) | (go_at_call 155; (with_reducible refine (k3 _).mono ?_); rintro e w3 ⟨rfl, rfl⟩))
    all_goals (go_ret; exact ⟨ret_bool (by simp [restB, *]), vb (vafter h1) (vafter h2)⟩)
theorem May_no (k : Nat) (hx : x < 2 ^ 64) (g0 : ((k : Int) == 0) = false) (g1 : ((k : Int) == 1) = false) (g2 : ((k : Int) == 2) = false) (g3 : ((k : Int) == 3) = false) (g4 : ((k : Int) == 4) = false) (g5 : ((k : Int) == 5) = false) (ho : objB k = false) : Calls Tryz.prog 115 #[.agg #[.int .u8 (k : Int), .float .f64 x, .string s, .int .i64 r]] w fun e w' => e = .returned (.bool ((false) && restB x s r)) ∧ Below w.heap.size w w' := by
  have k1 : ∀ w, Calls Tryz.prog 153 #[.agg #[.int .u8 (k : Int), .float .f64 x, .string s, .int .i64 r]] w (fun e w' => e = .returned (.agg #[.int .u8 (k : Int), .float .f64 x, .string s, .int .i64 r]) ∧ Below w.heap.size w w') := fun w => beside_same x s r w k g2 g3 g4 g5 ho
  have k2 : ∀ w, Calls Tryz.prog 154 #[.agg #[.int .u8 (k : Int), .float .f64 x, .string s, .int .i64 r]] w (fun e w' => e = .returned (.bool (false)) ∧ Below w.heap.size w w') := fun w => by have h := fits_obj x s r w k g0 g1 g2 g3 g4 g5; rw [ho] at h; exact h
  have k3 := fun w => Signbit_any x w hx
  have hv := fun w => veq_float 9998 x 0 w
  have hst := vstore
  have z3 : (⟨#[]⟩ : ByteArray).toList = [] := by rw [toList_data]
  cases hfit : (false)
  all_goals
    rw [hfit] at k2
    try clear hfit
    go_enter Tryz.func115, Tryz.ntmps115
    go_wp2_with (first | (go_at_call 153; (with_reducible refine (k1 _).mono ?_); rintro e w1 ⟨rfl, h1⟩; obtain ⟨hc1, hf1⟩ := vcell h1; have hz1 := vlt1 h1) | (go_at_call 154; (with_reducible refine (k2 _).mono ?_); rintro e w2 ⟨rfl, h2⟩; obtain ⟨hc2, hf2⟩ := vcell h2; have hz2 := vlt1 h2; have hz3 := Nat.lt_trans hz1 hz2) | (go_at_call 155; (with_reducible refine (k3 _).mono ?_); rintro e w3 ⟨rfl, rfl⟩))
    all_goals (go_ret; exact ⟨ret_bool (by simp [restB, *]), vb (vafter h1) (vafter h2)⟩)
end
end Go.Proofs.YthnkllhfmjbbmaaGreatDoor.S
/-
  value.May of any value: what may be is one of nine shapes.
-/
namespace Go.Proofs.YthnkllhfmjbbmaaGreatDoor.S
open Go.RowKit Fl

theorem feq_F {x : Nat} {m : Int} (hx : x < 2 ^ 64) (hm : SafeN m) (h : feq x (F m) = true) : x = F m ∨ (x = 2 ^ 63 ∧ m = 0) := by
  obtain ⟨c, hc⟩ := cls x hx
  have h : FloatKind.f64.format.order x (F m) = some .eq := by unfold feq at h; exact eq_of_beq h
  have h : Ieee.double.order x (F m) = some .eq := h
  cases c with
  | nan => rw [order_nan_l _ hc.2] at h; cases h
  | other =>
    obtain ⟨_, g | g | g⟩ := hc
    · rw [(order_big g m hm.abs).1] at h
      have h := Option.some.inj h
      split at h <;> cases h
    · exact absurd h (order_frac g m hm.abs).1
    · subst g
      rw [(order_m0 m hm.abs).1] at h
      have h : compare 0 m = .eq := Option.some.inj h
      have h : 0 = m := Int.compare_eq_eq.1 h
      exact .inr ⟨rfl, h.symm⟩
  | ours n =>
    obtain ⟨rfl, hs⟩ := hc
    rw [order_F n m hs.abs hm.abs] at h
    have h : compare n m = .eq := Option.some.inj h
    have h : n = m := Int.compare_eq_eq.1 h
    subst h
    exact .inl rfl
theorem rest_of {x : Nat} {s : ByteArray} {r : Int} (hx : x < 2 ^ 64) (h : restB x s r = true) : x = 0 ∧ s = ⟨#[]⟩ ∧ r = 0 := by
  unfold restB at h
  simp only [Bool.and_eq_true, Bool.not_eq_true', List.isEmpty_iff, beq_iff_eq] at h
  obtain ⟨⟨⟨h1, h2⟩, h3⟩, h4⟩ := h
  refine ⟨?_, ?_, h3⟩
  · rcases feq_F (m := 0) hx (by unfold SafeN; omega) (by rw [F_zero]; exact h1) with e | ⟨e, _⟩
    · rw [e, F_zero]
    · rw [e] at h4; exact absurd h4 (by decide)
  · rw [toList_data] at h2
    exact bytes_ext h2
/-- what value.May comes to -/
def MayTo (k x : Nat) (s : ByteArray) (r : Int) (w : World) (e : Ending) (w' : World) : Prop :=
  ∃ b, e = .returned (.bool b) ∧ Below w.heap.size w w' ∧ (b = true → ∃ v : Vl, v.ok ∧ v.kd = k ∧ v.fl = x ∧ v.st = s ∧ v.rf = r)
theorem may_of {k x : Nat} {s : ByteArray} {r : Int} {w : World} {b : Bool} {e : Ending} {w' : World} (h : e = .returned (.bool b) ∧ Below w.heap.size w w') (g : b = true → ∃ v : Vl, v.ok ∧ v.kd = k ∧ v.fl = x ∧ v.st = s ∧ v.rf = r) : MayTo k x s r w e w' := ⟨b, h.1, h.2, g⟩
theorem May_any (k x : Nat) (s : ByteArray) (r : Int) (w : World) (hx : x < 2 ^ 64) (hr : r < 2 ^ 63) : Calls Tryz.prog 115 #[.agg #[.int .u8 (k : Int), .float .f64 x, .string s, .int .i64 r]] w (MayTo k x s r w) := by
  have e0 := kd_eq k 0
  have e1 := kd_eq k 1
  have e2 := kd_eq k 2
  have e3 := kd_eq k 3
  have e4 := kd_eq k 4
  have e5 := kd_eq k 5
  by_cases c0 : k = 0
  · subst c0
    refine (May_k0 x s r w hx).mono fun e w' h => may_of h fun hb => ?_
    obtain ⟨rfl, rfl, rfl⟩ := rest_of hx hb
    exact ⟨.und, trivial, rfl, rfl, rfl, rfl⟩
  by_cases c1 : k = 1
  · subst c1
    refine (May_k1 x s r w hx).mono fun e w' h => may_of h fun hb => ?_
    obtain ⟨rfl, rfl, rfl⟩ := rest_of hx hb
    exact ⟨.nul, trivial, rfl, rfl, rfl, rfl⟩
  by_cases c2 : k = 2
  · subst c2
    refine (May_k2 x s r w).mono fun e w' h => may_of h fun hb => ?_
    rw [Bool.and_eq_true, Bool.or_eq_true] at hb
    obtain ⟨_, rfl, rfl⟩ := rest_of (by decide) hb.2
    refine ⟨.boo x, ?_, rfl, rfl, rfl, rfl⟩
    rcases hb.1 with h | h
    · rcases feq_F (m := 0) hx (by unfold SafeN; omega) (by rw [F_zero]; exact h) with e | ⟨e, _⟩
      · rw [F_zero] at e; exact .inl e
      · exact .inr (.inl e)
    · rcases feq_F (m := 1) hx (by unfold SafeN; omega) (by rw [show F 1 = 4607182418800017408 by decide]; exact h) with e | ⟨_, e⟩
      · rw [show F 1 = 4607182418800017408 by decide] at e; exact .inr (.inr e)
      · cases e
  by_cases c3 : k = 3
  · subst c3
    obtain ⟨c, hc⟩ := cls x hx
    refine (May_k3 x s r w hc).mono fun e w' h => may_of h fun hb => ?_
    rw [Bool.and_eq_true] at hb
    obtain ⟨_, rfl, rfl⟩ := rest_of (by decide) hb.2
    exact ⟨.num x, ⟨c, hc, hb.1⟩, rfl, rfl, rfl, rfl⟩
  by_cases c4 : k = 4
  · subst c4
    refine (May_k4 x s r w hx).mono fun e w' h => may_of h fun hb => ?_
    rw [Bool.and_eq_true] at hb
    obtain ⟨rfl, _, rfl⟩ := rest_of hx hb.2
    have := of_decide_eq_true hb.1
    exact ⟨.str s, by show s.size ≤ 4096; omega, rfl, rfl, rfl, rfl⟩
  by_cases c5 : k = 5
  · subst c5
    refine (May_k5 x s r w hx).mono fun e w' h => may_of h fun hb => ?_
    rw [Bool.and_eq_true] at hb
    obtain ⟨rfl, rfl, _⟩ := rest_of hx hb.2
    exact ⟨.sym r, ⟨of_decide_eq_true hb.1, hr⟩, rfl, rfl, rfl, rfl⟩
  have f0 : ((k : Int) == 0) = false := by rw [beq_eq_false_iff_ne]; omega
  have f1 : ((k : Int) == 1) = false := by rw [beq_eq_false_iff_ne]; omega
  have f2 : ((k : Int) == 2) = false := by rw [beq_eq_false_iff_ne]; omega
  have f3 : ((k : Int) == 3) = false := by rw [beq_eq_false_iff_ne]; omega
  have f4 : ((k : Int) == 4) = false := by rw [beq_eq_false_iff_ne]; omega
  have f5 : ((k : Int) == 5) = false := by rw [beq_eq_false_iff_ne]; omega
  cases ho : objB k
  · refine (May_no x s r w k hx f0 f1 f2 f3 f4 f5 ho).mono fun e w' h => may_of h fun hb => ?_
    cases hb
  · refine (May_obj x s r w k hx f0 f1 f2 f3 f4 f5 ho).mono fun e w' h => may_of h fun hb => ?_
    rw [Bool.and_eq_true] at hb
    obtain ⟨rfl, rfl, _⟩ := rest_of hx hb.2
    refine ⟨.obj k r, ⟨?_, of_decide_eq_true hb.1, hr⟩, rfl, rfl, rfl, rfl⟩
    unfold objB at ho
    simp only [Bool.or_eq_true, beq_iff_eq] at ho
    omega
end Go.Proofs.YthnkllhfmjbbmaaGreatDoor.S
/-
  value.Truth, Type, Text: walks, for any value that may be.
-/
namespace Go.Proofs.YthnkllhfmjbbmaaGreatDoor.S
open Go.RowKit Fl

theorem May_ok {v : Vl} (h : v.ok) (w : World) : Calls Tryz.prog 115 #[v.val] w fun e w' => e = .returned (.bool true) ∧ Below w.heap.size w w' := by
  have z : restB 0 ⟨#[]⟩ 0 = true := by
    have z3 : (⟨#[]⟩ : ByteArray).toList = [] := by rw [toList_data]
    unfold restB; rw [z3]; decide
  have fin : ∀ {b : Bool} {e : Ending} {w' : World}, b = true → (e = .returned (.bool b) ∧ Below w.heap.size w w') → (e = .returned (.bool true) ∧ Below w.heap.size w w') := fun hb h => ⟨by rw [h.1, hb], h.2⟩
  cases v with
  | und => exact (May_k0 0 ⟨#[]⟩ 0 w (by decide)).mono fun e w' => fin (by rw [z]; rfl)
  | nul => exact (May_k1 0 ⟨#[]⟩ 0 w (by decide)).mono fun e w' => fin (by rw [z]; rfl)
  | boo x => exact (May_k2 x ⟨#[]⟩ 0 w).mono fun e w' => fin (by
      rw [z, Bool.and_true]
      rcases h with rfl | rfl | rfl <;> decide)
  | num x =>
    obtain ⟨c, hc, hm⟩ := h
    exact (May_k3 x ⟨#[]⟩ 0 w hc).mono fun e w' => fin (by rw [z, hm]; rfl)
  | str s => exact (May_k4 0 s 0 w (by decide)).mono fun e w' => fin (by
      have h : s.size ≤ 4096 := h
      rw [z, Bool.and_true]; exact decide_eq_true (by omega))
  | sym r => exact (May_k5 0 ⟨#[]⟩ r w (by decide)).mono fun e w' => fin (by rw [z, Bool.and_true]; exact decide_eq_true h.1)
  | obj k r =>
    have hk := h.1
    exact (May_obj 0 ⟨#[]⟩ r w k (by decide) (by rw [beq_eq_false_iff_ne]; omega) (by rw [beq_eq_false_iff_ne]; omega) (by rw [beq_eq_false_iff_ne]; omega) (by rw [beq_eq_false_iff_ne]; omega) (by rw [beq_eq_false_iff_ne]; omega) (by rw [beq_eq_false_iff_ne]; omega) (obj_kd hk)).mono fun e w' => fin (by rw [z, Bool.and_true]; exact decide_eq_true h.2.1)
theorem obj_facts {k : Nat} (h : k = 6 ∨ k = 7 ∨ k = 8) : ((k : Int) == 0) = false ∧ ((k : Int) == 1) = false ∧ ((k : Int) == 2) = false ∧ ((k : Int) == 3) = false ∧ ((k : Int) == 4) = false ∧ ((k : Int) == 5) = false := by
  refine ⟨?_, ?_, ?_, ?_, ?_, ?_⟩ <;> (rw [beq_eq_false_iff_ne]; omega)

end Go.Proofs.YthnkllhfmjbbmaaGreatDoor.S
/-
  value.Text, for any value that may be; plain, counted, reads: walks.
-/
namespace Go.Proofs.YthnkllhfmjbbmaaGreatDoor.S
open Go.RowKit Fl

theorem inFormatBool_b (b : Bool) (w : World) : Calls Tryz.prog 189 #[.bool b] w fun e w' => e = .returned (.string (if b then ⟨#[116, 114, 117, 101]⟩ else ⟨#[102, 97, 108, 115, 101]⟩)) ∧ w = w' := by
  cases b
  all_goals
    go_enter Tryz.func189, Tryz.ntmps189
    go_wp2
    go_ret
    exact ⟨rfl, rfl⟩
theorem FormatBool_b (b : Bool) (w : World) : Calls Tryz.prog 170 #[.bool b] w fun e w' => e = .returned (.string (if b then ⟨#[116, 114, 117, 101]⟩ else ⟨#[102, 97, 108, 115, 101]⟩)) ∧ w = w' := by
  have k1 := fun w => inFormatBool_b b w
  generalize (if b then (⟨#[116, 114, 117, 101]⟩ : ByteArray) else ⟨#[102, 97, 108, 115, 101]⟩) = t at *
  go_enter Tryz.func170, Tryz.ntmps170
  go_wp2_with (go_at_call 189; (with_reducible refine (k1 _).mono ?_); rintro e w' ⟨rfl, rfl⟩)
  go_ret
  exact ⟨rfl, rfl⟩
def TextVTo (v : Vl) (w : World) (e : Ending) (w' : World) : Prop := ∃ t : ByteArray, e = .returned (.string t) ∧ TextV v t.data.toList ∧ Below w.heap.size w w'
theorem Itoa_r (r : Int) (h0 : 0 ≤ r) (h1 : r < 2 ^ 63) (w : World) (htab : Lib.TabIs Tryz.prog w "internal/strconv.uint64pow10" .u64 Lib.pow10Tab) : Calls Tryz.prog 82 #[.int .i64 r] w fun e w' => ∃ t : ByteArray, e = .returned (.string t) ∧ Hid (t.data.toList = Lib.itoa r ∧ t.size ≤ 21) ∧ Below w.heap.size w w' := by
  refine (Tryz.strconv_Itoa r (by omega) (by omega) w htab).mono fun e w' ⟨he, k, os, hw⟩ => ⟨_, he, Lib.hid ⟨rfl, ?_⟩, by rw [hw]; exact grow_below w k os⟩
  have := Lib.itoa_length_le r (by omega) (by omega)
  show (Lib.itoa r).toArray.size ≤ 21
  simpa using this
theorem app_list (a t : ByteArray) : (a ++ t).data.toList = a.data.toList ++ t.data.toList := by
  rw [ByteArray.data_append, Array.toList_append]
set_option maxHeartbeats 1000000 in
theorem Text_v {v : Vl} (h : v.ok) (w : World) (htab : TabHere w) : Calls Tryz.prog 137 #[v.val] w (TextVTo v w) := by
  have HTAB := Lib.hid htab
  clear htab
  cases v with
  | und =>
    show Calls _ _ #[.agg #[.int .u8 0, .float .f64 0, .string ⟨#[]⟩, .int .i64 0]] w (TextVTo .und w)
    go_enter Tryz.func137, Tryz.ntmps137
    go_wp2_with (fail)
    go_ret
    exact ⟨_, rfl, rfl, vafter (Below.refl _ _)⟩
  | nul =>
    show Calls _ _ #[.agg #[.int .u8 1, .float .f64 0, .string ⟨#[]⟩, .int .i64 0]] w (TextVTo .nul w)
    go_enter Tryz.func137, Tryz.ntmps137
    go_wp2_with (fail)
    go_ret
    exact ⟨_, rfl, rfl, vafter (Below.refl _ _)⟩
  | boo x =>
    show Calls _ _ #[.agg #[.int .u8 2, .float .f64 x, .string ⟨#[]⟩, .int .i64 0]] w (TextVTo (.boo x) w)
    have k1 : ∀ w, Calls Tryz.prog 170 #[.bool (FloatKind.f64.format.order x 0 != some .eq)] w _ := fun w => FormatBool_b (!feq x 0) w
    have hq : TextV (.boo x) (if (!feq x 0) = true then (⟨#[116, 114, 117, 101]⟩ : ByteArray) else ⟨#[102, 97, 108, 115, 101]⟩).data.toList := by
      show _ = if feq x 0 then _ else _
      cases feq x 0 <;> rfl
    generalize (if (!feq x 0) = true then (⟨#[116, 114, 117, 101]⟩ : ByteArray) else ⟨#[102, 97, 108, 115, 101]⟩) = t at *
    have HQ := Lib.hid hq
    clear h hq
    go_enter Tryz.func137, Tryz.ntmps137
    go_wp2_with (go_at_call 170; refine (k1 _).mono ?_; rintro e w1 ⟨rfl, rfl⟩)
    go_ret
    exact ⟨_, rfl, HQ.out, vafter (Below.refl _ _)⟩
  | num x =>
    show Calls _ _ #[.agg #[.int .u8 3, .float .f64 x, .string ⟨#[]⟩, .int .i64 0]] w (TextVTo (.num x) w)
    obtain ⟨c, hc, hm⟩ := h
    have hT := fun w ht => Text_cls hc w ht
    have HC := Lib.hid (And.intro hc hm)
    clear hc hm
    go_enter Tryz.func137, Tryz.ntmps137
    go_wp2_with (go_at_call 171; refine (hT _ (HTAB.out _ (vzero _ _))).mono ?_; rintro e w1 ⟨t, ht, rfl, h1⟩; have H1 := Lib.hid h1; have HT := Lib.hid ht; clear h1 ht)
    go_ret
    exact ⟨_, rfl, ⟨c, HC.out.1, HC.out.2, HT.out⟩, vafter H1.out⟩
  | str s =>
    show Calls _ _ #[.agg #[.int .u8 4, .float .f64 0, .string s, .int .i64 0]] w (TextVTo (.str s) w)
    have h : s.size ≤ 4096 := h
    have hq := fun w => Quote_any s w (by omega)
    have HQ : Hid (TextV (.str s) (⟨(quoteL s.data.toList).toArray⟩ : ByteArray).data.toList) := Lib.hid rfl
    generalize (⟨(quoteL s.data.toList).toArray⟩ : ByteArray) = t at *
    clear h
    go_enter Tryz.func137, Tryz.ntmps137
    go_wp2_with (go_at_call 141; refine (hq _).mono ?_; rintro e w1 ⟨rfl, h1⟩; have H1 := Lib.hid h1; clear h1)
    go_ret
    exact ⟨_, rfl, HQ.out, vafter H1.out⟩
  | sym r =>
    show Calls _ _ #[.agg #[.int .u8 5, .float .f64 0, .string ⟨#[]⟩, .int .i64 r]] w (TextVTo (.sym r) w)
    have hI := fun w ht => Itoa_r r h.1 h.2 w ht
    clear h
    go_enter Tryz.func137, Tryz.ntmps137
    go_wp2_with (go_at_call 82; refine (hI _ (HTAB.out _ (vzero _ _))).mono ?_; rintro e w1 ⟨t, rfl, HT, h1⟩; have H1 := Lib.hid h1; clear h1)
    · exfalso
      have := HT.out.2
      simp_all
      omega
    · go_ret
      refine ⟨_, rfl, ?_, vafter H1.out⟩
      show _ = _
      rw [app_list, HT.out.1]
  | obj k r =>
    show Calls _ _ #[.agg #[.int .u8 (k : Int), .float .f64 0, .string ⟨#[]⟩, .int .i64 r]] w (TextVTo (.obj k r) w)
    have hI := fun w ht => Itoa_r r h.2.1 h.2.2 w ht
    obtain ⟨f0, f1, f2, f3, f4, f5⟩ := obj_facts h.1
    have k1 := fun w => IsObject_v k 0 ⟨#[]⟩ r w
    rw [obj_kd h.1] at k1
    clear h
    go_enter Tryz.func137, Tryz.ntmps137
    go_wp2_with (first
      | (go_at_call 66; (with_reducible refine (k1 _).mono ?_); rintro e w1 ⟨rfl, h1⟩; obtain ⟨hc1, hf1⟩ := vcell h1; have hz1 := vlt1 h1; have HB1 := Lib.hid (vafter h1))
      | (go_at_call 82; refine (hI _ (HTAB.out _ HB1.out)).mono ?_; rintro e w2 ⟨t, rfl, HT, h2⟩; have H2 := Lib.hid h2; clear h2))
    · exfalso
      have := HT.out.2
      simp_all
      omega
    · go_ret
      refine ⟨_, rfl, ?_, vb HB1.out H2.out⟩
      show _ = _
      rw [app_list, HT.out.1]
end Go.Proofs.YthnkllhfmjbbmaaGreatDoor.S
