/-
  value.May: walks, for any value.
-/
import Derived.Test.YtpeegmpfkongeaaGreatDoorRG10
import Derived.Test.YtpeegmpfkongeaaGreatDoorRG03
import Derived.Lib.ItoaLen
import Derived.Test.YtpeegmpfkongeaaGreatDoorRG09
import Derived.Deep.Slices
import Derived.Deep.Fields
import Derived.ChangeSame
import Derived.Carry
import Derived.OpenShut
import Derived.Laws.Cover2
import Derived.Deep.MidRow
import Derived.Deep.Cut
import Derived.Laws.CopyOwn
namespace Go.Proofs.YtpeegmpfkongeaaGreatDoor.S
open Go.RowKit Fl

section
variable (x : Nat) (s : ByteArray) (r : Int) (w : World)
theorem fits_k0 : Calls Tryz.prog 150 #[.agg #[.int .u8 0, .float .f64 x, .string s, .int .i64 r]] w fun e w' => e = .returned (.bool true) ∧ Below w.heap.size w w' := by
  go_enter Tryz.func150, Tryz.ntmps150
  go_wp2_with (fail)
  go_ret
  exact ⟨rfl, vafter (Below.refl _ _)⟩
theorem fits_k1 : Calls Tryz.prog 150 #[.agg #[.int .u8 1, .float .f64 x, .string s, .int .i64 r]] w fun e w' => e = .returned (.bool true) ∧ Below w.heap.size w w' := by
  go_enter Tryz.func150, Tryz.ntmps150
  go_wp2_with (fail)
  go_ret
  exact ⟨rfl, vafter (Below.refl _ _)⟩
theorem fits_k2 : Calls Tryz.prog 150 #[.agg #[.int .u8 2, .float .f64 x, .string s, .int .i64 r]] w fun e w' => e = .returned (.bool (feq x 0 || feq x 4607182418800017408)) ∧ Below w.heap.size w w' := by
  have hf : (FloatKind.f64.format.order x 0 == some .eq) = feq x 0 := rfl
  cases h0 : feq x 0
  all_goals
    rw [h0] at hf
    clear h0
    go_enter Tryz.func150, Tryz.ntmps150
    go_wp2_with (fail)
    go_ret
    exact ⟨rfl, vafter (Below.refl _ _)⟩
theorem fits_k3 {c : Cl} (hx : Is c x) : Calls Tryz.prog 150 #[.agg #[.int .u8 3, .float .f64 x, .string s, .int .i64 r]] w fun e w' => e = .returned (.bool (mayC c)) ∧ Below w.heap.size w w' := by
  have km := fun w => May_cls hx w
  generalize mayC c = b at *
  clear hx
  go_enter Tryz.func150, Tryz.ntmps150
  go_wp2_with (go_at_call 176; (with_reducible refine (km _).mono ?_); rintro e w1 ⟨rfl, rfl⟩)
  go_ret
  exact ⟨rfl, vafter (Below.refl _ _)⟩
theorem fits_k4 : Calls Tryz.prog 150 #[.agg #[.int .u8 4, .float .f64 x, .string s, .int .i64 r]] w fun e w' => e = .returned (.bool (decide ((s.size : Int) ≤ 4096))) ∧ Below w.heap.size w w' := by
  go_enter Tryz.func150, Tryz.ntmps150
  go_wp2_with (fail)
  go_ret
  exact ⟨ret_bool (by simp), vafter (Below.refl _ _)⟩
theorem fits_k5 : Calls Tryz.prog 150 #[.agg #[.int .u8 5, .float .f64 x, .string s, .int .i64 r]] w fun e w' => e = .returned (.bool (decide (0 ≤ r))) ∧ Below w.heap.size w w' := by
  go_enter Tryz.func150, Tryz.ntmps150
  go_wp2_with (fail)
  go_ret
  exact ⟨ret_bool (by simp), vafter (Below.refl _ _)⟩
theorem fits_obj (k : Nat) (h0 : ((k : Int) == 0) = false) (h1 : ((k : Int) == 1) = false) (h2 : ((k : Int) == 2) = false) (h3 : ((k : Int) == 3) = false) (h4 : ((k : Int) == 4) = false) (h5 : ((k : Int) == 5) = false) :
    Calls Tryz.prog 150 #[.agg #[.int .u8 (k : Int), .float .f64 x, .string s, .int .i64 r]] w fun e w' => e = .returned (.bool (objB k && decide (0 ≤ r))) ∧ Below w.heap.size w w' := by
  have k1 := fun w => IsObject_v k x s r w
  cases ho : objB k
  all_goals
    rw [ho] at k1
    clear ho
    go_enter Tryz.func150, Tryz.ntmps150
    go_wp2_with (go_at_call 58; (with_reducible refine (k1 _).mono ?_); rintro e w1 ⟨rfl, h1⟩; obtain ⟨hc1, hf1⟩ := vcell h1; have hz1 := vlt1 h1)
    go_ret
    exact ⟨ret_bool (by simp), vafter h1⟩
/-- what a value beside the field of its kind must be -/
def restB (x : Nat) (s : ByteArray) (r : Int) : Bool := feq x 0 && s.toList.isEmpty && r == 0 && !sgn x
theorem May_k0 (hx : x < 2 ^ 64) : Calls Tryz.prog 111 #[.agg #[.int .u8 0, .float .f64 x, .string s, .int .i64 r]] w fun e w' => e = .returned (.bool ((true) && restB x s r)) ∧ Below w.heap.size w w' := by
  have k1 : ∀ w, Calls Tryz.prog 149 #[.agg #[.int .u8 0, .float .f64 x, .string s, .int .i64 r]] w (fun e w' => e = .returned (.agg #[.int .u8 0, .float .f64 x, .string s, .int .i64 r]) ∧ Below w.heap.size w w') := fun w => beside_same x s r w 0 rfl rfl rfl rfl rfl
  have k2 : ∀ w, Calls Tryz.prog 150 #[.agg #[.int .u8 0, .float .f64 x, .string s, .int .i64 r]] w (fun e w' => e = .returned (.bool (true)) ∧ Below w.heap.size w w') := fun w => fits_k0 x s r w
  have k3 := fun w => Signbit_any x w hx
  have hv := fun w => veq_float 9998 x 0 w
  have hst := vstore
  have z3 : (⟨#[]⟩ : ByteArray).toList = [] := by rw [toList_data]
  go_enter Tryz.func111, Tryz.ntmps111
  go_wp2_with (first | (go_at_call 149; (with_reducible refine (k1 _).mono ?_); rintro e w1 ⟨rfl, h1⟩; obtain ⟨hc1, hf1⟩ := vcell h1; have hz1 := vlt1 h1) | (go_at_call 150; (with_reducible refine (k2 _).mono ?_); rintro e w2 ⟨rfl, h2⟩; obtain ⟨hc2, hf2⟩ := vcell h2; have hz2 := vlt1 h2; have hz3 := Nat.lt_trans hz1 hz2) | (go_at_call 151; (with_reducible refine (k3 _).mono ?_); rintro e w3 ⟨rfl, rfl⟩))
  all_goals (go_ret; exact ⟨ret_bool (by simp [restB, *]), vb (vafter h1) (vafter h2)⟩)
theorem May_k1 (hx : x < 2 ^ 64) : Calls Tryz.prog 111 #[.agg #[.int .u8 1, .float .f64 x, .string s, .int .i64 r]] w fun e w' => e = .returned (.bool ((true) && restB x s r)) ∧ Below w.heap.size w w' := by
  have k1 : ∀ w, Calls Tryz.prog 149 #[.agg #[.int .u8 1, .float .f64 x, .string s, .int .i64 r]] w (fun e w' => e = .returned (.agg #[.int .u8 1, .float .f64 x, .string s, .int .i64 r]) ∧ Below w.heap.size w w') := fun w => beside_same x s r w 1 rfl rfl rfl rfl rfl
  have k2 : ∀ w, Calls Tryz.prog 150 #[.agg #[.int .u8 1, .float .f64 x, .string s, .int .i64 r]] w (fun e w' => e = .returned (.bool (true)) ∧ Below w.heap.size w w') := fun w => fits_k1 x s r w
  have k3 := fun w => Signbit_any x w hx
  have hv := fun w => veq_float 9998 x 0 w
  have hst := vstore
  have z3 : (⟨#[]⟩ : ByteArray).toList = [] := by rw [toList_data]
  go_enter Tryz.func111, Tryz.ntmps111
  go_wp2_with (first | (go_at_call 149; (with_reducible refine (k1 _).mono ?_); rintro e w1 ⟨rfl, h1⟩; obtain ⟨hc1, hf1⟩ := vcell h1; have hz1 := vlt1 h1) | (go_at_call 150; (with_reducible refine (k2 _).mono ?_); rintro e w2 ⟨rfl, h2⟩; obtain ⟨hc2, hf2⟩ := vcell h2; have hz2 := vlt1 h2; have hz3 := Nat.lt_trans hz1 hz2) | (go_at_call 151; (with_reducible refine (k3 _).mono ?_); rintro e w3 ⟨rfl, rfl⟩))
  all_goals (go_ret; exact ⟨ret_bool (by simp [restB, *]), vb (vafter h1) (vafter h2)⟩)
theorem May_k2 : Calls Tryz.prog 111 #[.agg #[.int .u8 2, .float .f64 x, .string s, .int .i64 r]] w fun e w' => e = .returned (.bool ((feq x 0 || feq x 4607182418800017408) && restB 0 s r)) ∧ Below w.heap.size w w' := by
  have k1 : ∀ w, Calls Tryz.prog 149 #[.agg #[.int .u8 2, .float .f64 x, .string s, .int .i64 r]] w (fun e w' => e = .returned (.agg #[.int .u8 2, .float .f64 0, .string s, .int .i64 r]) ∧ Below w.heap.size w w') := fun w => beside_k2 x s r w
  have k2 : ∀ w, Calls Tryz.prog 150 #[.agg #[.int .u8 2, .float .f64 x, .string s, .int .i64 r]] w (fun e w' => e = .returned (.bool (feq x 0 || feq x 4607182418800017408)) ∧ Below w.heap.size w w') := fun w => fits_k2 x s r w
  have k3 : ∀ w, Calls Tryz.prog 151 #[.float .f64 0] w (fun e w' => e = .returned (.bool false) ∧ w = w') := fun w => Signbit_any 0 w (by decide)
  have hv : ∀ w, (Op.equalIn (9998 + 1) 29 (.float .f64 0) (.float .f64 0)).run Tryz.prog w = .ok true w := fun w => veq_float 9998 0 0 w
  have z1 : feq 0 0 = true := by decide
  have z2 : sgn 0 = false := by decide
  have hst := vstore
  have z3 : (⟨#[]⟩ : ByteArray).toList = [] := by rw [toList_data]
  cases hfit : (feq x 0 || feq x 4607182418800017408)
  all_goals
    rw [hfit] at k2
    try clear hfit
    go_enter Tryz.func111, Tryz.ntmps111
    go_wp2_with (first | (go_at_call 149; (with_reducible refine (k1 _).mono ?_); rintro e w1 ⟨rfl, h1⟩; obtain ⟨hc1, hf1⟩ := vcell h1; have hz1 := vlt1 h1) | (go_at_call 150; (with_reducible refine (k2 _).mono ?_); rintro e w2 ⟨rfl, h2⟩; obtain ⟨hc2, hf2⟩ := vcell h2; have hz2 := vlt1 h2; have hz3 := Nat.lt_trans hz1 hz2) | (go_at_call 151; (with_reducible refine (k3 _).mono ?_); rintro e w3 ⟨rfl, rfl⟩))
    all_goals (go_ret; exact ⟨ret_bool (by simp [restB, *]), vb (vafter h1) (vafter h2)⟩)
theorem May_k3 {c : Cl} (hc : Is c x) : Calls Tryz.prog 111 #[.agg #[.int .u8 3, .float .f64 x, .string s, .int .i64 r]] w fun e w' => e = .returned (.bool ((mayC c) && restB 0 s r)) ∧ Below w.heap.size w w' := by
  have k1 : ∀ w, Calls Tryz.prog 149 #[.agg #[.int .u8 3, .float .f64 x, .string s, .int .i64 r]] w (fun e w' => e = .returned (.agg #[.int .u8 3, .float .f64 0, .string s, .int .i64 r]) ∧ Below w.heap.size w w') := fun w => beside_k3 x s r w
  have k2 : ∀ w, Calls Tryz.prog 150 #[.agg #[.int .u8 3, .float .f64 x, .string s, .int .i64 r]] w (fun e w' => e = .returned (.bool (mayC c)) ∧ Below w.heap.size w w') := fun w => fits_k3 x s r w hc
  have k3 : ∀ w, Calls Tryz.prog 151 #[.float .f64 0] w (fun e w' => e = .returned (.bool false) ∧ w = w') := fun w => Signbit_any 0 w (by decide)
  have hv : ∀ w, (Op.equalIn (9998 + 1) 29 (.float .f64 0) (.float .f64 0)).run Tryz.prog w = .ok true w := fun w => veq_float 9998 0 0 w
  have z1 : feq 0 0 = true := by decide
  have z2 : sgn 0 = false := by decide
  have hst := vstore
  have z3 : (⟨#[]⟩ : ByteArray).toList = [] := by rw [toList_data]
  cases hfit : (mayC c)
  all_goals
    rw [hfit] at k2
    try clear hfit
    go_enter Tryz.func111, Tryz.ntmps111
    go_wp2_with (first | (go_at_call 149; (with_reducible refine (k1 _).mono ?_); rintro e w1 ⟨rfl, h1⟩; obtain ⟨hc1, hf1⟩ := vcell h1; have hz1 := vlt1 h1) | (go_at_call 150; (with_reducible refine (k2 _).mono ?_); rintro e w2 ⟨rfl, h2⟩; obtain ⟨hc2, hf2⟩ := vcell h2; have hz2 := vlt1 h2; have hz3 := Nat.lt_trans hz1 hz2) | (go_at_call 151; (with_reducible refine (k3 _).mono ?_); rintro e w3 ⟨rfl, rfl⟩))
    all_goals (go_ret; exact ⟨ret_bool (by simp [restB, *]), vb (vafter h1) (vafter h2)⟩)
theorem May_k4 (hx : x < 2 ^ 64) : Calls Tryz.prog 111 #[.agg #[.int .u8 4, .float .f64 x, .string s, .int .i64 r]] w fun e w' => e = .returned (.bool ((decide ((s.size : Int) ≤ 4096)) && restB x ⟨#[]⟩ r)) ∧ Below w.heap.size w w' := by
  have k1 : ∀ w, Calls Tryz.prog 149 #[.agg #[.int .u8 4, .float .f64 x, .string s, .int .i64 r]] w (fun e w' => e = .returned (.agg #[.int .u8 4, .float .f64 x, .string ⟨#[]⟩, .int .i64 r]) ∧ Below w.heap.size w w') := fun w => beside_k4 x s r w
  have k2 : ∀ w, Calls Tryz.prog 150 #[.agg #[.int .u8 4, .float .f64 x, .string s, .int .i64 r]] w (fun e w' => e = .returned (.bool (decide ((s.size : Int) ≤ 4096))) ∧ Below w.heap.size w w') := fun w => fits_k4 x s r w
  have k3 := fun w => Signbit_any x w hx
  have hv := fun w => veq_float 9998 x 0 w
  have hst := vstore
  have z3 : (⟨#[]⟩ : ByteArray).toList = [] := by rw [toList_data]
  cases hfit : (decide ((s.size : Int) ≤ 4096))
  all_goals
    rw [hfit] at k2
    try clear hfit
    go_enter Tryz.func111, Tryz.ntmps111
    go_wp2_with (first | (go_at_call 149; (with_reducible refine (k1 _).mono ?_); rintro e w1 ⟨rfl, h1⟩; obtain ⟨hc1, hf1⟩ := vcell h1; have hz1 := vlt1 h1) | (go_at_call 150; (with_reducible refine (k2 _).mono ?_); rintro e w2 ⟨rfl, h2⟩; obtain ⟨hc2, hf2⟩ := vcell h2; have hz2 := vlt1 h2; have hz3 := Nat.lt_trans hz1 hz2) | (go_at_call 151; (with_reducible refine (k3 _).mono ?_); rintro e w3 ⟨rfl, rfl⟩))
    all_goals (go_ret; exact ⟨ret_bool (by simp [restB, *]), vb (vafter h1) (vafter h2)⟩)
theorem May_k5 (hx : x < 2 ^ 64) : Calls Tryz.prog 111 #[.agg #[.int .u8 5, .float .f64 x, .string s, .int .i64 r]] w fun e w' => e = .returned (.bool ((decide (0 ≤ r)) && restB x s 0)) ∧ Below w.heap.size w w' := by
  have k1 : ∀ w, Calls Tryz.prog 149 #[.agg #[.int .u8 5, .float .f64 x, .string s, .int .i64 r]] w (fun e w' => e = .returned (.agg #[.int .u8 5, .float .f64 x, .string s, .int .i64 0]) ∧ Below w.heap.size w w') := fun w => beside_k5 x s r w
  have k2 : ∀ w, Calls Tryz.prog 150 #[.agg #[.int .u8 5, .float .f64 x, .string s, .int .i64 r]] w (fun e w' => e = .returned (.bool (decide (0 ≤ r))) ∧ Below w.heap.size w w') := fun w => fits_k5 x s r w
  have k3 := fun w => Signbit_any x w hx
  have hv := fun w => veq_float 9998 x 0 w
  have hst := vstore
  have z3 : (⟨#[]⟩ : ByteArray).toList = [] := by rw [toList_data]
  cases hfit : (decide (0 ≤ r))
  all_goals
    rw [hfit] at k2
    try clear hfit
    go_enter Tryz.func111, Tryz.ntmps111
    go_wp2_with (first | (go_at_call 149; (with_reducible refine (k1 _).mono ?_); rintro e w1 ⟨rfl, h1⟩; obtain ⟨hc1, hf1⟩ := vcell h1; have hz1 := vlt1 h1) | (go_at_call 150; (with_reducible refine (k2 _).mono ?_); rintro e w2 ⟨rfl, h2⟩; obtain ⟨hc2, hf2⟩ := vcell h2; have hz2 := vlt1 h2; have hz3 := Nat.lt_trans hz1 hz2) | (go_at_call 151; (with_reducible refine (k3 _).mono ?_); rintro e w3 ⟨rfl, rfl⟩))
    all_goals (go_ret; exact ⟨ret_bool (by simp [restB, *]), vb (vafter h1) (vafter h2)⟩)
theorem May_obj (k : Nat) (hx : x < 2 ^ 64) (g0 : ((k : Int) == 0) = false) (g1 : ((k : Int) == 1) = false) (g2 : ((k : Int) == 2) = false) (g3 : ((k : Int) == 3) = false) (g4 : ((k : Int) == 4) = false) (g5 : ((k : Int) == 5) = false) (ho : objB k = true) : Calls Tryz.prog 111 #[.agg #[.int .u8 (k : Int), .float .f64 x, .string s, .int .i64 r]] w fun e w' => e = .returned (.bool ((decide (0 ≤ r)) && restB x s 0)) ∧ Below w.heap.size w w' := by
  have k1 : ∀ w, Calls Tryz.prog 149 #[.agg #[.int .u8 (k : Int), .float .f64 x, .string s, .int .i64 r]] w (fun e w' => e = .returned (.agg #[.int .u8 (k : Int), .float .f64 x, .string s, .int .i64 0]) ∧ Below w.heap.size w w') := fun w => beside_obj x s r w k g2 g3 g4 g5 ho
  have k2 : ∀ w, Calls Tryz.prog 150 #[.agg #[.int .u8 (k : Int), .float .f64 x, .string s, .int .i64 r]] w (fun e w' => e = .returned (.bool (decide (0 ≤ r))) ∧ Below w.heap.size w w') := fun w => by have h := fits_obj x s r w k g0 g1 g2 g3 g4 g5; rw [ho] at h; exact h
  have k3 := fun w => Signbit_any x w hx
  have hv := fun w => veq_float 9998 x 0 w
  have hst := vstore
  have z3 : (⟨#[]⟩ : ByteArray).toList = [] := by rw [toList_data]
  cases hfit : (decide (0 ≤ r))
  all_goals
    rw [hfit] at k2
    try clear hfit
    go_enter Tryz.func111, Tryz.ntmps111
    go_wp2_with (first | (go_at_call 149; (with_reducible refine (k1 _).mono ?_); rintro e w1 ⟨rfl, h1⟩; obtain ⟨hc1, hf1⟩ := vcell h1; have hz1 := vlt1 h1) | (go_at_call 150; (with_reducible refine (k2 _).mono ?_); rintro e w2 ⟨rfl, h2⟩; obtain ⟨hc2, hf2⟩ := vcell h2; have hz2 := vlt1 h2; have hz3 := Nat.lt_trans hz1 hz2) | (go_at_call 151; (with_reducible refine (k3 _).mono ?_); rintro e w3 ⟨rfl, rfl⟩))
    all_goals (go_ret; exact ⟨ret_bool (by simp [restB, *]), vb (vafter h1) (vafter h2)⟩)
theorem May_no (k : Nat) (hx : x < 2 ^ 64) (g0 : ((k : Int) == 0) = false) (g1 : ((k : Int) == 1) = false) (g2 : ((k : Int) == 2) = false) (g3 : ((k : Int) == 3) = false) (g4 : ((k : Int) == 4) = false) (g5 : ((k : Int) == 5) = false) (ho : objB k = false) : Calls Tryz.prog 111 #[.agg #[.int .u8 (k : Int), .float .f64 x, .string s, .int .i64 r]] w fun e w' => e = .returned (.bool ((false) && restB x s r)) ∧ Below w.heap.size w w' := by
  have k1 : ∀ w, Calls Tryz.prog 149 #[.agg #[.int .u8 (k : Int), .float .f64 x, .string s, .int .i64 r]] w (fun e w' => e = .returned (.agg #[.int .u8 (k : Int), .float .f64 x, .string s, .int .i64 r]) ∧ Below w.heap.size w w') := fun w => beside_same x s r w k g2 g3 g4 g5 ho
  have k2 : ∀ w, Calls Tryz.prog 150 #[.agg #[.int .u8 (k : Int), .float .f64 x, .string s, .int .i64 r]] w (fun e w' => e = .returned (.bool (false)) ∧ Below w.heap.size w w') := fun w => by have h := fits_obj x s r w k g0 g1 g2 g3 g4 g5; rw [ho] at h; exact h
  have k3 := fun w => Signbit_any x w hx
  have hv := fun w => veq_float 9998 x 0 w
  have hst := vstore
  have z3 : (⟨#[]⟩ : ByteArray).toList = [] := by rw [toList_data]
  cases hfit : (false)
  all_goals
    rw [hfit] at k2
    try clear hfit
    go_enter Tryz.func111, Tryz.ntmps111
    go_wp2_with (first | (go_at_call 149; (with_reducible refine (k1 _).mono ?_); rintro e w1 ⟨rfl, h1⟩; obtain ⟨hc1, hf1⟩ := vcell h1; have hz1 := vlt1 h1) | (go_at_call 150; (with_reducible refine (k2 _).mono ?_); rintro e w2 ⟨rfl, h2⟩; obtain ⟨hc2, hf2⟩ := vcell h2; have hz2 := vlt1 h2; have hz3 := Nat.lt_trans hz1 hz2) | (go_at_call 151; (with_reducible refine (k3 _).mono ?_); rintro e w3 ⟨rfl, rfl⟩))
    all_goals (go_ret; exact ⟨ret_bool (by simp [restB, *]), vb (vafter h1) (vafter h2)⟩)
end
end Go.Proofs.YtpeegmpfkongeaaGreatDoor.S
/-
  value.May of any value: what may be is one of nine shapes.
-/
namespace Go.Proofs.YtpeegmpfkongeaaGreatDoor.S
open Go.RowKit Fl

theorem feq_F {x : Nat} {m : Int} (hx : x < 2 ^ 64) (hm : SafeN m) (h : feq x (F m) = true) : x = F m ∨ (x = 2 ^ 63 ∧ m = 0) := by
  obtain ⟨c, hc⟩ := cls x hx
  have h : FloatKind.f64.format.order x (F m) = some .eq := by unfold feq at h; exact eq_of_beq h
  have h : Ieee.double.order x (F m) = some .eq := h
  cases c with
  | nan => rw [order_nan_l _ hc.2] at h; cases h
  | other =>
    obtain ⟨_, g | g | g⟩ := hc
    · rw [(order_big g m hm.abs).1] at h
      have h := Option.some.inj h
      split at h <;> cases h
    · exact absurd h (order_frac g m hm.abs).1
    · subst g
      rw [(order_m0 m hm.abs).1] at h
      have h : compare 0 m = .eq := Option.some.inj h
      have h : 0 = m := Int.compare_eq_eq.1 h
      exact .inr ⟨rfl, h.symm⟩
  | ours n =>
    obtain ⟨rfl, hs⟩ := hc
    rw [order_F n m hs.abs hm.abs] at h
    have h : compare n m = .eq := Option.some.inj h
    have h : n = m := Int.compare_eq_eq.1 h
    subst h
    exact .inl rfl
theorem rest_of {x : Nat} {s : ByteArray} {r : Int} (hx : x < 2 ^ 64) (h : restB x s r = true) : x = 0 ∧ s = ⟨#[]⟩ ∧ r = 0 := by
  unfold restB at h
  simp only [Bool.and_eq_true, Bool.not_eq_true', List.isEmpty_iff, beq_iff_eq] at h
  obtain ⟨⟨⟨h1, h2⟩, h3⟩, h4⟩ := h
  refine ⟨?_, ?_, h3⟩
  · rcases feq_F (m := 0) hx (by unfold SafeN; omega) (by rw [F_zero]; exact h1) with e | ⟨e, _⟩
    · rw [e, F_zero]
    · rw [e] at h4; exact absurd h4 (by decide)
  · rw [toList_data] at h2
    exact bytes_ext h2
/-- what value.May comes to -/
def MayTo (k x : Nat) (s : ByteArray) (r : Int) (w : World) (e : Ending) (w' : World) : Prop :=
  ∃ b, e = .returned (.bool b) ∧ Below w.heap.size w w' ∧ (b = true → ∃ v : Vl, v.ok ∧ v.kd = k ∧ v.fl = x ∧ v.st = s ∧ v.rf = r)
theorem may_of {k x : Nat} {s : ByteArray} {r : Int} {w : World} {b : Bool} {e : Ending} {w' : World} (h : e = .returned (.bool b) ∧ Below w.heap.size w w') (g : b = true → ∃ v : Vl, v.ok ∧ v.kd = k ∧ v.fl = x ∧ v.st = s ∧ v.rf = r) : MayTo k x s r w e w' := ⟨b, h.1, h.2, g⟩
theorem May_any (k x : Nat) (s : ByteArray) (r : Int) (w : World) (hx : x < 2 ^ 64) (hr : r < 2 ^ 63) : Calls Tryz.prog 111 #[.agg #[.int .u8 (k : Int), .float .f64 x, .string s, .int .i64 r]] w (MayTo k x s r w) := by
  have e0 := kd_eq k 0
  have e1 := kd_eq k 1
  have e2 := kd_eq k 2
  have e3 := kd_eq k 3
  have e4 := kd_eq k 4
  have e5 := kd_eq k 5
  by_cases c0 : k = 0
  · subst c0
    refine (May_k0 x s r w hx).mono fun e w' h => may_of h fun hb => ?_
    obtain ⟨rfl, rfl, rfl⟩ := rest_of hx hb
    exact ⟨.und, trivial, rfl, rfl, rfl, rfl⟩
  by_cases c1 : k = 1
  · subst c1
    refine (May_k1 x s r w hx).mono fun e w' h => may_of h fun hb => ?_
    obtain ⟨rfl, rfl, rfl⟩ := rest_of hx hb
    exact ⟨.nul, trivial, rfl, rfl, rfl, rfl⟩
  by_cases c2 : k = 2
  · subst c2
    refine (May_k2 x s r w).mono fun e w' h => may_of h fun hb => ?_
    rw [Bool.and_eq_true, Bool.or_eq_true] at hb
    obtain ⟨_, rfl, rfl⟩ := rest_of (by decide) hb.2
    refine ⟨.boo x, ?_, rfl, rfl, rfl, rfl⟩
    rcases hb.1 with h | h
    · rcases feq_F (m := 0) hx (by unfold SafeN; omega) (by rw [F_zero]; exact h) with e | ⟨e, _⟩
      · rw [F_zero] at e; exact .inl e
      · exact .inr (.inl e)
    · rcases feq_F (m := 1) hx (by unfold SafeN; omega) (by rw [show F 1 = 4607182418800017408 by decide]; exact h) with e | ⟨_, e⟩
      · rw [show F 1 = 4607182418800017408 by decide] at e; exact .inr (.inr e)
      · cases e
  by_cases c3 : k = 3
  · subst c3
    obtain ⟨c, hc⟩ := cls x hx
    refine (May_k3 x s r w hc).mono fun e w' h => may_of h fun hb => ?_
    rw [Bool.and_eq_true] at hb
    obtain ⟨_, rfl, rfl⟩ := rest_of (by decide) hb.2
    exact ⟨.num x, ⟨c, hc, hb.1⟩, rfl, rfl, rfl, rfl⟩
  by_cases c4 : k = 4
  · subst c4
    refine (May_k4 x s r w hx).mono fun e w' h => may_of h fun hb => ?_
    rw [Bool.and_eq_true] at hb
    obtain ⟨rfl, _, rfl⟩ := rest_of hx hb.2
    have := of_decide_eq_true hb.1
    exact ⟨.str s, by show s.size ≤ 4096; omega, rfl, rfl, rfl, rfl⟩
  by_cases c5 : k = 5
  · subst c5
    refine (May_k5 x s r w hx).mono fun e w' h => may_of h fun hb => ?_
    rw [Bool.and_eq_true] at hb
    obtain ⟨rfl, rfl, _⟩ := rest_of hx hb.2
    exact ⟨.sym r, ⟨of_decide_eq_true hb.1, hr⟩, rfl, rfl, rfl, rfl⟩
  have f0 : ((k : Int) == 0) = false := by rw [beq_eq_false_iff_ne]; omega
  have f1 : ((k : Int) == 1) = false := by rw [beq_eq_false_iff_ne]; omega
  have f2 : ((k : Int) == 2) = false := by rw [beq_eq_false_iff_ne]; omega
  have f3 : ((k : Int) == 3) = false := by rw [beq_eq_false_iff_ne]; omega
  have f4 : ((k : Int) == 4) = false := by rw [beq_eq_false_iff_ne]; omega
  have f5 : ((k : Int) == 5) = false := by rw [beq_eq_false_iff_ne]; omega
  cases ho : objB k
  · refine (May_no x s r w k hx f0 f1 f2 f3 f4 f5 ho).mono fun e w' h => may_of h fun hb => ?_
    cases hb
  · refine (May_obj x s r w k hx f0 f1 f2 f3 f4 f5 ho).mono fun e w' h => may_of h fun hb => ?_
    rw [Bool.and_eq_true] at hb
    obtain ⟨rfl, rfl, _⟩ := rest_of hx hb.2
    refine ⟨.obj k r, ⟨?_, of_decide_eq_true hb.1, hr⟩, rfl, rfl, rfl, rfl⟩
    unfold objB at ho
    simp only [Bool.or_eq_true, beq_iff_eq] at ho
    omega
end Go.Proofs.YtpeegmpfkongeaaGreatDoor.S
/-
  value.Truth, Type, Text: walks, for any value that may be.
-/
namespace Go.Proofs.YtpeegmpfkongeaaGreatDoor.S
open Go.RowKit Fl

theorem May_ok {v : Vl} (h : v.ok) (w : World) : Calls Tryz.prog 111 #[v.val] w fun e w' => e = .returned (.bool true) ∧ Below w.heap.size w w' := by
  have z : restB 0 ⟨#[]⟩ 0 = true := by
    have z3 : (⟨#[]⟩ : ByteArray).toList = [] := by rw [toList_data]
    unfold restB; rw [z3]; decide
  have fin : ∀ {b : Bool} {e : Ending} {w' : World}, b = true → (e = .returned (.bool b) ∧ Below w.heap.size w w') → (e = .returned (.bool true) ∧ Below w.heap.size w w') := fun hb h => ⟨by rw [h.1, hb], h.2⟩
  cases v with
  | und => exact (May_k0 0 ⟨#[]⟩ 0 w (by decide)).mono fun e w' => fin (by rw [z]; rfl)
  | nul => exact (May_k1 0 ⟨#[]⟩ 0 w (by decide)).mono fun e w' => fin (by rw [z]; rfl)
  | boo x => exact (May_k2 x ⟨#[]⟩ 0 w).mono fun e w' => fin (by
      rw [z, Bool.and_true]
      rcases h with rfl | rfl | rfl <;> decide)
  | num x =>
    obtain ⟨c, hc, hm⟩ := h
    exact (May_k3 x ⟨#[]⟩ 0 w hc).mono fun e w' => fin (by rw [z, hm]; rfl)
  | str s => exact (May_k4 0 s 0 w (by decide)).mono fun e w' => fin (by
      have h : s.size ≤ 4096 := h
      rw [z, Bool.and_true]; exact decide_eq_true (by omega))
  | sym r => exact (May_k5 0 ⟨#[]⟩ r w (by decide)).mono fun e w' => fin (by rw [z, Bool.and_true]; exact decide_eq_true h.1)
  | obj k r =>
    have hk := h.1
    exact (May_obj 0 ⟨#[]⟩ r w k (by decide) (by rw [beq_eq_false_iff_ne]; omega) (by rw [beq_eq_false_iff_ne]; omega) (by rw [beq_eq_false_iff_ne]; omega) (by rw [beq_eq_false_iff_ne]; omega) (by rw [beq_eq_false_iff_ne]; omega) (by rw [beq_eq_false_iff_ne]; omega) (obj_kd hk)).mono fun e w' => fin (by rw [z, Bool.and_true]; exact decide_eq_true h.2.1)
end Go.Proofs.YtpeegmpfkongeaaGreatDoor.S
/-
  value.Text, for any value that may be; plain, counted, reads: walks.
-/
namespace Go.Proofs.YtpeegmpfkongeaaGreatDoor.S
open Go.RowKit Fl

def TextVTo (v : Vl) (w : World) (e : Ending) (w' : World) : Prop := ∃ t : ByteArray, e = .returned (.string t) ∧ TextV v t.data.toList ∧ Below w.heap.size w w'
end Go.Proofs.YtpeegmpfkongeaaGreatDoor.S
/-
  key.Check, Value, Prim, Text: walks; texts of keys that are not the same differ.
-/
namespace Go.Proofs.YtpeegmpfkongeaaGreatDoor.S
open Go.RowKit Fl

/-- two keys, compared -/
def eqK (a b : Ky) : Bool := (a.str == b.str) && (a.sym == b.sym)
theorem eqK_iff {a b : Ky} : eqK a b = true ↔ a = b := by
  unfold eqK
  rw [Bool.and_eq_true]
  constructor
  · rintro ⟨h1, h2⟩
    cases a; cases b
    have := str_beq h1
    have := eq_of_beq h2
    simp_all
  · rintro rfl
    exact ⟨str_same _, beq_self_eq_true _⟩
theorem eqK_no {a b : Ky} (h : a ≠ b) : eqK a b = false := by
  cases c : eqK a b
  · rfl
  · exact absurd (eqK_iff.1 c) h
/-- whether a key may be -/
def mayKy (k : Ky) : Prop := 0 ≤ k.sym ∧ k.str.size ≤ 4096 ∧ (0 < k.sym → k.str = ⟨#[]⟩)
/-- a key's text -/
def textKy (k : Ky) : ByteArray := if 0 < k.sym then symText (k.sym - 1) else ⟨(quoteL k.str.data.toList).toArray⟩

theorem empty_is (s : ByteArray) : s = ⟨#[]⟩ ↔ s.toList.isEmpty = true := by
  rw [List.isEmpty_iff, toList_data]
  constructor
  · intro h; rw [h]
  · intro h; exact bytes_ext (by rw [h])
theorem keyCheck_bad (s : ByteArray) (y : Int) (w : World) (h : ¬ mayKy ⟨s, y⟩) : Calls Tryz.prog 84 #[.agg #[.string s, .int .i64 y]] w fun e w' => e = .returned (.int .i64 9) ∧ Below w.heap.size w w' := by
  have hS := fun w => keysymbol_k s y w
  by_cases c1 : y < 0
  · go_enter Tryz.func84, Tryz.ntmps84
    go_wp2_with (fail)
    go_ret
    exact ⟨rfl, vzero _ _⟩
  · by_cases c2 : 4096 < s.size
    · go_enter Tryz.func84, Tryz.ntmps84
      go_wp2_with (fail)
      go_ret
      exact ⟨rfl, vzero _ _⟩
    · have c3 : 0 < y ∧ s ≠ ⟨#[]⟩ := by
        refine Classical.byContradiction fun g => h ⟨by show 0 ≤ y; omega, by show s.size ≤ 4096; omega, fun hy => ?_⟩
        exact Classical.byContradiction fun g2 => g ⟨hy, g2⟩
      obtain ⟨c3, c4⟩ := c3
      have c5 : s.toList.isEmpty = false := by
        cases e : s.toList.isEmpty
        · rfl
        · exact absurd ((empty_is s).2 e) c4
      have hd : decide (0 < y) = true := by simp; exact c3
      rw [hd] at hS
      clear h c4 hd
      go_enter Tryz.func84, Tryz.ntmps84
      go_wp2_with (go_at_call 136; refine (hS _).mono ?_; rintro e w1 ⟨rfl, h1⟩; have hb1 := vblk1 h1; have hz1 := vlt1 h1; obtain ⟨hc0, hc1, hfr⟩ := kc2 hb1; clear hb1; have H1 := Lib.hid (vafter h1); clear h1)
      go_ret
      exact ⟨rfl, H1.out⟩
theorem keyCheck_ok (s : ByteArray) (y : Int) (w : World) (h : mayKy ⟨s, y⟩) : Calls Tryz.prog 84 #[.agg #[.string s, .int .i64 y]] w fun e w' => e = .returned (.int .i64 0) ∧ Below w.heap.size w w' := by
  have hS := fun w => keysymbol_k s y w
  obtain ⟨c1, c2, c3⟩ := h
  have c1 : ¬ y < 0 := by have : 0 ≤ y := c1; omega
  have c2 : ¬ 4096 < s.size := by have : s.size ≤ 4096 := c2; omega
  have c3 : 0 < y → s = ⟨#[]⟩ := c3
  by_cases d : 0 < y
  · have hs := c3 d
    subst hs
    have hd : decide (0 < y) = true := by simp; exact d
    rw [hd] at hS
    clear c3 hd c2
    go_enter Tryz.func84, Tryz.ntmps84
    go_wp2_with (go_at_call 136; refine (hS _).mono ?_; rintro e w1 ⟨rfl, h1⟩; have hb1 := vblk1 h1; have hz1 := vlt1 h1; obtain ⟨hc0, hc1, hfr⟩ := kc2 hb1; clear hb1; have H1 := Lib.hid (vafter h1); clear h1)
    go_ret
    exact ⟨rfl, H1.out⟩
  · have hd : decide (0 < y) = false := by simp; omega
    rw [hd] at hS
    clear c3 hd
    go_enter Tryz.func84, Tryz.ntmps84
    go_wp2_with (go_at_call 136; refine (hS _).mono ?_; rintro e w1 ⟨rfl, h1⟩; have hb1 := vblk1 h1; have hz1 := vlt1 h1; obtain ⟨hc0, hc1, hfr⟩ := kc2 hb1; clear hb1; have H1 := Lib.hid (vafter h1); clear h1)
    go_ret
    exact ⟨rfl, H1.out⟩
def PrimTo (s : ByteArray) (y z : Int) (w : World) (e : Ending) (w' : World) : Prop := e = .returned (.tuple #[.agg #[.string s, .int .i64 y], .int .i64 z]) ∧ Below w.heap.size w w'
end Go.Proofs.YtpeegmpfkongeaaGreatDoor.S
/-
  A key, and a slice of keys, that come in, opened.
-/
namespace Go.Proofs.YtpeegmpfkongeaaGreatDoor.S
open Go.ChangeShapes Go.WideShapes Go.Deep Go.RowKit Fl

section
variable {H : Type} {enc : TypeId × Value → H} {w : World} {base : Nat} {spare : Nat → Bool} {held : Bool}
theorem kblock_add (a : Addr) (k : Nat) : (a.add k).block = a.block := by unfold Addr.add; split <;> rfl
theorem klt_of_cell {a : Addr} {v : Value} (h : w.cell? a = some v) : a.block < w.heap.size := by
  rcases Nat.lt_or_ge a.block w.heap.size with hlt | hge
  · exact hlt
  · exfalso
    have e : w.heap[a.block]? = none := Array.getElem?_eq_none hge
    simp [World.cell?, e] at h
set_option maxRecDepth 100000 in
theorem kopen_cells {n : Nat} {cs : List Value} {y : DataW H × List MemPlace} (hl : cs.length = 2) (ht : DataW.trod enc Tryz.prog w base spare held n 57 cs = some y) :
    ∃ k : Ky, cs = [.string k.str, .int .i64 k.sym] ∧ KyIn k := by
  obtain ⟨xs, m, _, _, _, hxl, hf⟩ := DataW.trod_struct Tryz.underlying57 ht
  match cs, hl with
  | [c0, c1], _ =>
    have e3 : Tryz.prog.cellsOf 3 = 1 := by kernel_rfl
    have e9 : Tryz.prog.cellsOf 9 = 1 := by kernel_rfl
    match xs, hxl with
    | [y0, y1], _ =>
      have h0 : DataW.trod enc Tryz.prog w base spare held m 9 (([c0, c1].drop 0).take (Tryz.prog.cellsOf 9)) = some y0 := hf 0 _ rfl
      have h1 : DataW.trod enc Tryz.prog w base spare held m 3 (([c0, c1].drop 1).take (Tryz.prog.cellsOf 3)) = some y1 := hf 1 _ rfl
      rw [e9] at h0
      rw [e3] at h1
      obtain ⟨s, s1, _, s2⟩ := DataW.trod_string Tryz.underlying9 h0
      obtain ⟨p, p1, _, p2⟩ := DataW.trod_int Tryz.underlying3 h1
      obtain rfl : c0 = .string s := by simpa using s1
      obtain rfl : c1 = .int .i64 p := by simpa using p1
      have hp : -9223372036854775808 ≤ p ∧ p ≤ 9223372036854775807 := by
        have h2 : (decide (IntKind.i64.min ≤ p) && decide (p ≤ IntKind.i64.max)) = true := p2
        rw [show IntKind.i64.min = -9223372036854775808 by decide, show IntKind.i64.max = 9223372036854775807 by decide] at h2
        simpa using h2
      exact ⟨⟨s, p⟩, rfl, s2, by show -2 ^ 63 ≤ p; omega, by show p < 2 ^ 63; omega⟩
end
end Go.Proofs.YtpeegmpfkongeaaGreatDoor.S
/-
  Descriptors: a struct of sixteen cells in a block: its loads and stores, whole or a value of four, as laws of one operation; the blocks of a call's own.
-/
namespace Go.Proofs.YtpeegmpfkongeaaGreatDoor.S
open Go.RowKit Fl

theorem dsz : (Tryz.prog.info? 49).map (·.size) = some 16 := by kernel_rfl
theorem vsz : (Tryz.prog.info? 31).map (·.size) = some 4 := by kernel_rfl
theorem cells_one {l : List Value} (h : l.all (·.oneCell') = true) : l.toArray.all (·.oneCell') = true := all_oneCell_toArray (List.all_eq_true.1 h)
section
variable {ops : Array Oper} {rest : List Oper} {o : Oper} {a : Act} {w : World} {Q : Exit → Act → World → Prop} {x y : Operand} {g i : Nat} {t : TypeId} {c0 c1 c2 c3 c4 c5 c6 c7 c8 c9 c10 c11 c12 c13 c14 c15 : Value}
theorem wpList_wanted (hw : Region.wanted o (yielded ops a.tmps) = true) (h : ∀ K : Act → World → Prop, (∀ a w, wpList Tryz.prog ops Q rest a w → K a w) → o.wp Tryz.prog a w K Q) : wpList Tryz.prog ops Q (o :: rest) a w := by
  unfold wpList
  rw [if_pos hw]
  exact Or.inl (h _ fun _ _ q => q)
theorem d_load (hw : Region.wanted o (yielded ops a.tmps) = true) (ho : o.op = .load 49 x)
    (hx : a.eval x = .pointer (some ⟨g, 0, none⟩)) (hg : w.heap[g]? = some (.cells #[c0, c1, c2, c3, c4, c5, c6, c7, c8, c9, c10, c11, c12, c13, c14, c15] t (0, 0)))
    (h : wpList Tryz.prog ops Q rest (a.put o.dst (.agg #[c0, c1, c2, c3, c4, c5, c6, c7, c8, c9, c10, c11, c12, c13, c14, c15])) w) : wpList Tryz.prog ops Q (o :: rest) a w :=
  wpList_wanted hw fun _ hK => wp_load_row 49 x ho g hx t _ (0, 0) _ hg Tryz.underlying49 rfl dsz (hK _ _ h)
theorem d_store (hgd : o.guard = none) (ho : o.op = .store 49 x y)
    (hx : a.eval x = .pointer (some ⟨g, 0, none⟩)) (hy : a.eval y = .agg #[c0, c1, c2, c3, c4, c5, c6, c7, c8, c9, c10, c11, c12, c13, c14, c15]) {old : Array Value} (hg : w.heap[g]? = some (.cells old t (0, 0))) (hold : old.size = 16)
    (h1 : ([c0, c1, c2, c3, c4, c5, c6, c7, c8, c9, c10, c11, c12, c13, c14, c15] : List Value).all (·.oneCell') = true)
    (h : wpList Tryz.prog ops Q rest (a.put o.dst undef) (w.setRow g #[c0, c1, c2, c3, c4, c5, c6, c7, c8, c9, c10, c11, c12, c13, c14, c15])) : wpList Tryz.prog ops Q (o :: rest) a w :=
  wpList_store_row hgd 49 x y ho g _ hx hy t old hg dsz hold (cells_one h1) h
theorem row_range {cs : Array Value} {l : List Value} (hg : w.heap[g]? = some (.cells cs t (0, 0))) (hl : ∀ j v, l[j]? = some v → cs[i + j]? = some v) : w.rangeAt g i l := fun j v hv => by
  rw [vcells hg (i + j)]; exact hl j v hv
theorem four {cs : Array Value} (h0 : cs[i]? = some c0) (h1 : cs[i + 1]? = some c1) (h2 : cs[i + 2]? = some c2) (h3 : cs[i + 3]? = some c3) : ∀ j v, ([c0, c1, c2, c3] : List Value)[j]? = some v → cs[i + j]? = some v := by
  intro j v hv
  match j, hv with
  | 0, hv => cases hv; exact h0
  | 1, hv => cases hv; exact h1
  | 2, hv => cases hv; exact h2
  | 3, hv => cases hv; exact h3
  | n + 4, hv => cases hv
theorem v_load {cs : Array Value} (hw : Region.wanted o (yielded ops a.tmps) = true) (ho : o.op = .load 31 x) (hx : a.eval x = .pointer (some ⟨g, i, none⟩)) (hg : w.heap[g]? = some (.cells cs t (0, 0)))
    (h0 : cs[i]? = some c0) (h1 : cs[i + 1]? = some c1) (h2 : cs[i + 2]? = some c2) (h3 : cs[i + 3]? = some c3)
    (h : wpList Tryz.prog ops Q rest (a.put o.dst (.agg #[c0, c1, c2, c3])) w) : wpList Tryz.prog ops Q (o :: rest) a w :=
  wpList_wanted hw fun _ hK => wp_load_mid 31 x ho g i hx [c0, c1, c2, c3] _ (row_range hg (four h0 h1 h2 h3)) Tryz.underlying31 rfl vsz (hK _ _ h)
theorem v_store {cs : Array Value} (hgd : o.guard = none) (ho : o.op = .store 31 x y) (hx : a.eval x = .pointer (some ⟨g, i, none⟩)) (hy : a.eval y = .agg #[c0, c1, c2, c3]) (hg : w.heap[g]? = some (.cells cs t (0, 0)))
    (hi : i + 4 ≤ cs.size) (h1 : ([c0, c1, c2, c3] : List Value).all (·.oneCell') = true)
    (h : wpList Tryz.prog ops Q rest (a.put o.dst undef) ((((w.setCell ⟨g, i, none⟩ c0).setCell ⟨g, i + 1, none⟩ c1).setCell ⟨g, i + 2, none⟩ c2).setCell ⟨g, i + 3, none⟩ c3)) : wpList Tryz.prog ops Q (o :: rest) a w := by
  refine wpList_store_mid hgd 31 x y ho g i #[c0, c1, c2, c3] hx hy ?_ vsz (cells_one h1) h
  intro j hj
  have hj : j < 4 := hj
  refine ⟨?_, vfz hg _⟩
  rw [vcells hg, Array.getElem?_eq_getElem (by omega)]
  rfl
end
theorem vblk3 {w w1 : World} {o p q : Obj} (h : Below (((w.alloc o).alloc p).alloc q).heap.size (((w.alloc o).alloc p).alloc q) w1) : w1.heap[w.heap.size]? = some o ∧ w1.heap[w.heap.size + 1]? = some p ∧ w1.heap[w.heap.size + 1 + 1]? = some q := by
  have e : (w.alloc o).heap.size = w.heap.size + 1 := by simp
  obtain ⟨a, b⟩ := vblk2 h
  rw [e] at a b
  exact ⟨vblk1 (vafter2 h), a, b⟩
theorem below_row {B : Nat} {w0 w : World} (h : Below B w0 w) {g : Nat} (hg : B ≤ g) (cs : Array Value) : Below B w0 (w.setRow g cs) := below_setRow h hg cs
theorem vset_o {w : World} {g j : Nat} {o : Obj} (h : w.heap[g]? = some o) (hj : j ≠ g) (cs : Array Value) : (w.setRow j cs).heap[g]? = some o := by
  rw [← h]; exact setRow_other w j g cs (fun e => hj e.symm)
end Go.Proofs.YtpeegmpfkongeaaGreatDoor.S
/-
  Descriptors: has, IsData, IsAccess: walks.
-/
namespace Go.Proofs.YtpeegmpfkongeaaGreatDoor.S
open Go.RowKit Fl

def hasB (h m : Int) : Bool := bits .and .u8 h m != 0
theorem has_c (h m : Int) (ka : Int) (xa : Nat) (sa : ByteArray) (ra : Int) (kb : Int) (xb : Nat) (sb : ByteArray) (rb : Int) (kc : Int) (xc : Nat) (sc : ByteArray) (rc : Int) (p q z : Bool) (w : World) : Calls Tryz.prog 60 #[.agg #[.int .u8 h, .int .u8 ka, .float .f64 xa, .string sa, .int .i64 ra, .int .u8 kb, .float .f64 xb, .string sb, .int .i64 rb, .int .u8 kc, .float .f64 xc, .string sc, .int .i64 rc, .bool p, .bool q, .bool z], .int .u8 m] w fun e w' => e = .returned (.bool (hasB h m)) ∧ Below w.heap.size w w' := by
  go_enter Tryz.func60, Tryz.ntmps60
  go_wp2
  go_ret
  exact ⟨rfl, vzero _ _⟩
theorem IsData_c (h : Int) (ka : Int) (xa : Nat) (sa : ByteArray) (ra : Int) (kb : Int) (xb : Nat) (sb : ByteArray) (rb : Int) (kc : Int) (xc : Nat) (sc : ByteArray) (rc : Int) (p q z : Bool) (w : World) : Calls Tryz.prog 31 #[.agg #[.int .u8 h, .int .u8 ka, .float .f64 xa, .string sa, .int .i64 ra, .int .u8 kb, .float .f64 xb, .string sb, .int .i64 rb, .int .u8 kc, .float .f64 xc, .string sc, .int .i64 rc, .bool p, .bool q, .bool z]] w fun e w' => e = .returned (.bool (hasB h 3)) ∧ Below w.heap.size w w' := by
  have hb := heap_alloc_new w (.cells #[.int .u8 h, .int .u8 ka, .float .f64 xa, .string sa, .int .i64 ra, .int .u8 kb, .float .f64 xb, .string sb, .int .i64 rb, .int .u8 kc, .float .f64 xc, .string sc, .int .i64 rc, .bool p, .bool q, .bool z] 49)
  go_enter Tryz.func31, Tryz.ntmps31
  go_wp2_with (first | ((with_reducible refine d_load ?_ rfl rfl hb ?_); (rfl)) | (go_at_call 60; (with_reducible refine (has_c _ _ _ _ _ _ _ _ _ _ _ _ _ _ _ _ _ _).mono ?_); rintro e w1 ⟨rfl, h1⟩))
  go_ret
  exact ⟨rfl, vafter h1⟩
theorem IsAccess_c (h : Int) (ka : Int) (xa : Nat) (sa : ByteArray) (ra : Int) (kb : Int) (xb : Nat) (sb : ByteArray) (rb : Int) (kc : Int) (xc : Nat) (sc : ByteArray) (rc : Int) (p q z : Bool) (w : World) : Calls Tryz.prog 102 #[.agg #[.int .u8 h, .int .u8 ka, .float .f64 xa, .string sa, .int .i64 ra, .int .u8 kb, .float .f64 xb, .string sb, .int .i64 rb, .int .u8 kc, .float .f64 xc, .string sc, .int .i64 rc, .bool p, .bool q, .bool z]] w fun e w' => e = .returned (.bool (hasB h 12)) ∧ Below w.heap.size w w' := by
  have hb := heap_alloc_new w (.cells #[.int .u8 h, .int .u8 ka, .float .f64 xa, .string sa, .int .i64 ra, .int .u8 kb, .float .f64 xb, .string sb, .int .i64 rb, .int .u8 kc, .float .f64 xc, .string sc, .int .i64 rc, .bool p, .bool q, .bool z] 49)
  go_enter Tryz.func102, Tryz.ntmps102
  go_wp2_with (first | ((with_reducible refine d_load ?_ rfl rfl hb ?_); (rfl)) | (go_at_call 60; (with_reducible refine (has_c _ _ _ _ _ _ _ _ _ _ _ _ _ _ _ _ _ _).mono ?_); rintro e w1 ⟨rfl, h1⟩))
  go_ret
  exact ⟨rfl, vafter h1⟩
end Go.Proofs.YtpeegmpfkongeaaGreatDoor.S
