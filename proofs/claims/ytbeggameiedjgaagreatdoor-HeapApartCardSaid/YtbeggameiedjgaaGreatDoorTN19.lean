/-
  value.May: walks, for any value.
-/
import Derived.Test.YtbeggameiedjgaaGreatDoorTN18
namespace Go.Proofs.YtbeggameiedjgaaGreatDoor.S
open Go.RowKit Fl

structure NoK (k : Nat) : Prop where
  n0 : ((k : Int) == 0) = false
  n1 : ((k : Int) == 1) = false
  n2 : ((k : Int) == 2) = false
  n3 : ((k : Int) == 3) = false
  n4 : ((k : Int) == 4) = false
  n5 : ((k : Int) == 5) = false
  n6 : ((k : Int) == 6) = false
  n7 : ((k : Int) == 7) = false
  n8 : ((k : Int) == 8) = false
theorem kinds_all (k : Nat) : k = 0 ∨ k = 1 ∨ k = 2 ∨ k = 3 ∨ k = 4 ∨ k = 5 ∨ k = 6 ∨ k = 7 ∨ k = 8 ∨ NoK k := by
  by_cases h : k ≤ 8
  · omega
  · have : NoK k := by constructor <;> (rw [beq_eq_false_iff_ne]; omega)
    simp [this]
theorem veq_float (d : Nat) (a b : Nat) (w : World) : (Op.equalIn (d + 1) 24 (.float .f64 a) (.float .f64 b)).run Tryz.prog w = .ok (feq a b) w := by
  simp [Op.equalIn, run_underlying Tryz.underlying24]; rfl

section
variable (x : Nat) (s : ByteArray) (r : Int) (w : World)
/-- what stands beside the field of a kind -/
theorem beside_same (k : Nat) (h2 : ((k : Int) == 2) = false) (h3 : ((k : Int) == 3) = false) (h4 : ((k : Int) == 4) = false) (h5 : ((k : Int) == 5) = false) (ho : objB k = false) :
    Calls Tryz.prog 127 #[.agg #[.int .u8 (k : Int), .float .f64 x, .string s, .int .i64 r]] w fun e w' => e = .returned (.agg #[.int .u8 (k : Int), .float .f64 x, .string s, .int .i64 r]) ∧ Below w.heap.size w w' := by
  have k1 := fun w => IsObject_v k x s r w
  rw [ho] at k1
  clear ho
  have hst := vstore
  go_enter Tryz.func127, Tryz.ntmps127
  go_wp2_with (go_at_call 66; (with_reducible refine (k1 _).mono ?_); rintro e w1 ⟨rfl, h1⟩; obtain ⟨hc1, hf1⟩ := vcell h1; obtain ⟨hz1, hz2⟩ := vlt2 h1)
  exact val_end Tryz.results127 rfl (vset4 (vblk2 h1).2 _ _ _ _) ⟨rfl, vbel4 (vafter2 h1) (Nat.le_succ _) _ _ _ _⟩
theorem beside_k2 : Calls Tryz.prog 127 #[.agg #[.int .u8 2, .float .f64 x, .string s, .int .i64 r]] w fun e w' => e = .returned (.agg #[.int .u8 2, .float .f64 0, .string s, .int .i64 r]) ∧ Below w.heap.size w w' := by
  have hst := vstore
  go_enter Tryz.func127, Tryz.ntmps127
  go_wp2_with (fail)
  exact val_end Tryz.results127 rfl (vblk2 (Below.refl _ _)).2 ⟨rfl, vafter2 (Below.refl _ _)⟩
theorem beside_k3 : Calls Tryz.prog 127 #[.agg #[.int .u8 3, .float .f64 x, .string s, .int .i64 r]] w fun e w' => e = .returned (.agg #[.int .u8 3, .float .f64 0, .string s, .int .i64 r]) ∧ Below w.heap.size w w' := by
  have hst := vstore
  go_enter Tryz.func127, Tryz.ntmps127
  go_wp2_with (fail)
  exact val_end Tryz.results127 rfl (vblk2 (Below.refl _ _)).2 ⟨rfl, vafter2 (Below.refl _ _)⟩
theorem beside_k4 : Calls Tryz.prog 127 #[.agg #[.int .u8 4, .float .f64 x, .string s, .int .i64 r]] w fun e w' => e = .returned (.agg #[.int .u8 4, .float .f64 x, .string ⟨#[]⟩, .int .i64 r]) ∧ Below w.heap.size w w' := by
  have hst := vstore
  go_enter Tryz.func127, Tryz.ntmps127
  go_wp2_with (fail)
  exact val_end Tryz.results127 rfl (vblk2 (Below.refl _ _)).2 ⟨rfl, vafter2 (Below.refl _ _)⟩
theorem beside_k5 : Calls Tryz.prog 127 #[.agg #[.int .u8 5, .float .f64 x, .string s, .int .i64 r]] w fun e w' => e = .returned (.agg #[.int .u8 5, .float .f64 x, .string s, .int .i64 0]) ∧ Below w.heap.size w w' := by
  have hst := vstore
  go_enter Tryz.func127, Tryz.ntmps127
  go_wp2_with (fail)
  exact val_end Tryz.results127 rfl (vblk2 (Below.refl _ _)).2 ⟨rfl, vafter2 (Below.refl _ _)⟩
theorem beside_obj (k : Nat) (h2 : ((k : Int) == 2) = false) (h3 : ((k : Int) == 3) = false) (h4 : ((k : Int) == 4) = false) (h5 : ((k : Int) == 5) = false) (ho : objB k = true) :
    Calls Tryz.prog 127 #[.agg #[.int .u8 (k : Int), .float .f64 x, .string s, .int .i64 r]] w fun e w' => e = .returned (.agg #[.int .u8 (k : Int), .float .f64 x, .string s, .int .i64 0]) ∧ Below w.heap.size w w' := by
  have k1 := fun w => IsObject_v k x s r w
  rw [ho] at k1
  clear ho
  have hst := vstore
  go_enter Tryz.func127, Tryz.ntmps127
  go_wp2_with (go_at_call 66; (with_reducible refine (k1 _).mono ?_); rintro e w1 ⟨rfl, h1⟩; obtain ⟨hc1, hf1⟩ := vcell h1; obtain ⟨hz1, hz2⟩ := vlt2 h1; obtain ⟨b1, b2⟩ := vblk2 h1; have c0 : w1.cell? ⟨w.heap.size, 0, none⟩ = some (.int .u8 (k : Int)) := vcells b1 0; have c1 : w1.cell? ⟨w.heap.size, 1, none⟩ = some (.float .f64 x) := vcells b1 1; have c2 : w1.cell? ⟨w.heap.size, 2, none⟩ = some (.string s) := vcells b1 2; have c3 : w1.cell? ⟨w.heap.size, 3, none⟩ = some (.int .i64 r) := vcells b1 3)
  exact val_end Tryz.results127 rfl (vset4 ((vset1o b2 (by omega) 3 _)) _ _ _ _) ⟨rfl, vbel4 ((vafter2 h1).setCell (p := ⟨w.heap.size, 3, none⟩) (Nat.le_refl _) _) (Nat.le_succ _) _ _ _ _⟩
end
end Go.Proofs.YtbeggameiedjgaaGreatDoor.S
/-
  value.May: walks, for any value.
-/
namespace Go.Proofs.YtbeggameiedjgaaGreatDoor.S
open Go.RowKit Fl

section
variable (x : Nat) (s : ByteArray) (r : Int) (w : World)
theorem fits_k0 : Calls Tryz.prog 128 #[.agg #[.int .u8 0, .float .f64 x, .string s, .int .i64 r]] w fun e w' => e = .returned (.bool true) ∧ Below w.heap.size w w' := by
  go_enter Tryz.func128, Tryz.ntmps128
  go_wp2_with (fail)
  go_ret
  exact ⟨rfl, vafter (Below.refl _ _)⟩
theorem fits_k1 : Calls Tryz.prog 128 #[.agg #[.int .u8 1, .float .f64 x, .string s, .int .i64 r]] w fun e w' => e = .returned (.bool true) ∧ Below w.heap.size w w' := by
  go_enter Tryz.func128, Tryz.ntmps128
  go_wp2_with (fail)
  go_ret
  exact ⟨rfl, vafter (Below.refl _ _)⟩
theorem fits_k2 : Calls Tryz.prog 128 #[.agg #[.int .u8 2, .float .f64 x, .string s, .int .i64 r]] w fun e w' => e = .returned (.bool (feq x 0 || feq x 4607182418800017408)) ∧ Below w.heap.size w w' := by
  have hf : (FloatKind.f64.format.order x 0 == some .eq) = feq x 0 := rfl
  cases h0 : feq x 0
  all_goals
    rw [h0] at hf
    clear h0
    go_enter Tryz.func128, Tryz.ntmps128
    go_wp2_with (fail)
    go_ret
    exact ⟨rfl, vafter (Below.refl _ _)⟩
theorem fits_k3 {c : Cl} (hx : Is c x) : Calls Tryz.prog 128 #[.agg #[.int .u8 3, .float .f64 x, .string s, .int .i64 r]] w fun e w' => e = .returned (.bool (mayC c)) ∧ Below w.heap.size w w' := by
  have km := fun w => May_cls hx w
  generalize mayC c = b at *
  clear hx
  go_enter Tryz.func128, Tryz.ntmps128
  go_wp2_with (go_at_call 165; (with_reducible refine (km _).mono ?_); rintro e w1 ⟨rfl, rfl⟩)
  go_ret
  exact ⟨rfl, vafter (Below.refl _ _)⟩
theorem fits_k4 : Calls Tryz.prog 128 #[.agg #[.int .u8 4, .float .f64 x, .string s, .int .i64 r]] w fun e w' => e = .returned (.bool (decide ((s.size : Int) ≤ 4096))) ∧ Below w.heap.size w w' := by
  go_enter Tryz.func128, Tryz.ntmps128
  go_wp2_with (fail)
  go_ret
  exact ⟨ret_bool (by simp), vafter (Below.refl _ _)⟩
theorem fits_k5 : Calls Tryz.prog 128 #[.agg #[.int .u8 5, .float .f64 x, .string s, .int .i64 r]] w fun e w' => e = .returned (.bool (decide (0 ≤ r))) ∧ Below w.heap.size w w' := by
  go_enter Tryz.func128, Tryz.ntmps128
  go_wp2_with (fail)
  go_ret
  exact ⟨ret_bool (by simp), vafter (Below.refl _ _)⟩
theorem fits_obj (k : Nat) (h0 : ((k : Int) == 0) = false) (h1 : ((k : Int) == 1) = false) (h2 : ((k : Int) == 2) = false) (h3 : ((k : Int) == 3) = false) (h4 : ((k : Int) == 4) = false) (h5 : ((k : Int) == 5) = false) :
    Calls Tryz.prog 128 #[.agg #[.int .u8 (k : Int), .float .f64 x, .string s, .int .i64 r]] w fun e w' => e = .returned (.bool (objB k && decide (0 ≤ r))) ∧ Below w.heap.size w w' := by
  have k1 := fun w => IsObject_v k x s r w
  cases ho : objB k
  all_goals
    rw [ho] at k1
    clear ho
    go_enter Tryz.func128, Tryz.ntmps128
    go_wp2_with (go_at_call 66; (with_reducible refine (k1 _).mono ?_); rintro e w1 ⟨rfl, h1⟩; obtain ⟨hc1, hf1⟩ := vcell h1; have hz1 := vlt1 h1)
    go_ret
    exact ⟨ret_bool (by simp), vafter h1⟩
/-- what a value beside the field of its kind must be -/
def restB (x : Nat) (s : ByteArray) (r : Int) : Bool := feq x 0 && s.toList.isEmpty && r == 0 && !sgn x
theorem May_k0 (hx : x < 2 ^ 64) : Calls Tryz.prog 89 #[.agg #[.int .u8 0, .float .f64 x, .string s, .int .i64 r]] w fun e w' => e = .returned (.bool ((true) && restB x s r)) ∧ Below w.heap.size w w' := by
  have k1 : ∀ w, Calls Tryz.prog 127 #[.agg #[.int .u8 0, .float .f64 x, .string s, .int .i64 r]] w (fun e w' => e = .returned (.agg #[.int .u8 0, .float .f64 x, .string s, .int .i64 r]) ∧ Below w.heap.size w w') := fun w => beside_same x s r w 0 rfl rfl rfl rfl rfl
  have k2 : ∀ w, Calls Tryz.prog 128 #[.agg #[.int .u8 0, .float .f64 x, .string s, .int .i64 r]] w (fun e w' => e = .returned (.bool (true)) ∧ Below w.heap.size w w') := fun w => fits_k0 x s r w
  have k3 := fun w => Signbit_any x w hx
  have hv := fun w => veq_float 9998 x 0 w
  have hst := vstore
  have z3 : (⟨#[]⟩ : ByteArray).toList = [] := by rw [toList_data]
  go_enter Tryz.func89, Tryz.ntmps89
  go_wp2_with (first | (go_at_call 127; (with_reducible refine (k1 _).mono ?_); rintro e w1 ⟨rfl, h1⟩; obtain ⟨hc1, hf1⟩ := vcell h1; have hz1 := vlt1 h1) | (go_at_call 128; (with_reducible refine (k2 _).mono ?_); rintro e w2 ⟨rfl, h2⟩; obtain ⟨hc2, hf2⟩ := vcell h2; have hz2 := vlt1 h2; have hz3 := Nat.lt_trans hz1 hz2) | (go_at_call 129; (with_reducible refine (k3 _).mono ?_); rintro e w3 ⟨rfl, rfl⟩))
  all_goals (go_ret; exact ⟨ret_bool (by simp [restB, *]), vb (vafter h1) (vafter h2)⟩)
theorem May_k1 (hx : x < 2 ^ 64) : Calls Tryz.prog 89 #[.agg #[.int .u8 1, .float .f64 x, .string s, .int .i64 r]] w fun e w' => e = .returned (.bool ((true) && restB x s r)) ∧ Below w.heap.size w w' := by
  have k1 : ∀ w, Calls Tryz.prog 127 #[.agg #[.int .u8 1, .float .f64 x, .string s, .int .i64 r]] w (fun e w' => e = .returned (.agg #[.int .u8 1, .float .f64 x, .string s, .int .i64 r]) ∧ Below w.heap.size w w') := fun w => beside_same x s r w 1 rfl rfl rfl rfl rfl
  have k2 : ∀ w, Calls Tryz.prog 128 #[.agg #[.int .u8 1, .float .f64 x, .string s, .int .i64 r]] w (fun e w' => e = .returned (.bool (true)) ∧ Below w.heap.size w w') := fun w => fits_k1 x s r w
  have k3 := fun w => Signbit_any x w hx
  have hv := fun w => veq_float 9998 x 0 w
  have hst := vstore
  have z3 : (⟨#[]⟩ : ByteArray).toList = [] := by rw [toList_data]
  go_enter Tryz.func89, Tryz.ntmps89
  go_wp2_with (first | (go_at_call 127; (with_reducible refine (k1 _).mono ?_); rintro e w1 ⟨rfl, h1⟩; obtain ⟨hc1, hf1⟩ := vcell h1; have hz1 := vlt1 h1) | (go_at_call 128; (with_reducible refine (k2 _).mono ?_); rintro e w2 ⟨rfl, h2⟩; obtain ⟨hc2, hf2⟩ := vcell h2; have hz2 := vlt1 h2; have hz3 := Nat.lt_trans hz1 hz2) | (go_at_call 129; (with_reducible refine (k3 _).mono ?_); rintro e w3 ⟨rfl, rfl⟩))
  all_goals (go_ret; exact ⟨ret_bool (by simp [restB, *]), vb (vafter h1) (vafter h2)⟩)
theorem May_k2 : Calls Tryz.prog 89 #[.agg #[.int .u8 2, .float .f64 x, .string s, .int .i64 r]] w fun e w' => e = .returned (.bool ((feq x 0 || feq x 4607182418800017408) && restB 0 s r)) ∧ Below w.heap.size w w' := by
  have k1 : ∀ w, Calls Tryz.prog 127 #[.agg #[.int .u8 2, .float .f64 x, .string s, .int .i64 r]] w (fun e w' => e = .returned (.agg #[.int .u8 2, .float .f64 0, .string s, .int .i64 r]) ∧ Below w.heap.size w w') := fun w => beside_k2 x s r w
  have k2 : ∀ w, Calls Tryz.prog 128 #[.agg #[.int .u8 2, .float .f64 x, .string s, .int .i64 r]] w (fun e w' => e = .returned (.bool (feq x 0 || feq x 4607182418800017408)) ∧ Below w.heap.size w w') := fun w => fits_k2 x s r w
  have k3 : ∀ w, Calls Tryz.prog 129 #[.float .f64 0] w (fun e w' => e = .returned (.bool false) ∧ w = w') := fun w => Signbit_any 0 w (by decide)
  have hv : ∀ w, (Op.equalIn (9998 + 1) 24 (.float .f64 0) (.float .f64 0)).run Tryz.prog w = .ok true w := fun w => veq_float 9998 0 0 w
  have z1 : feq 0 0 = true := by decide
  have z2 : sgn 0 = false := by decide
  have hst := vstore
  have z3 : (⟨#[]⟩ : ByteArray).toList = [] := by rw [toList_data]
  cases hfit : (feq x 0 || feq x 4607182418800017408)
  all_goals
    rw [hfit] at k2
    try clear hfit
    go_enter Tryz.func89, Tryz.ntmps89
    go_wp2_with (first | (go_at_call 127; (with_reducible refine (k1 _).mono ?_); rintro e w1 ⟨rfl, h1⟩; obtain ⟨hc1, hf1⟩ := vcell h1; have hz1 := vlt1 h1) | (go_at_call 128; (with_reducible refine (k2 _).mono ?_); rintro e w2 ⟨rfl, h2⟩; obtain ⟨hc2, hf2⟩ := vcell h2; have hz2 := vlt1 h2; have hz3 := Nat.lt_trans hz1 hz2) | (go_at_call 129; (with_reducible refine (k3 _).mono ?_); rintro e w3 ⟨rfl, rfl⟩))
    all_goals (go_ret; exact ⟨ret_bool (by simp [restB, *]), vb (vafter h1) (vafter h2)⟩)
theorem May_k3 {c : Cl} (hc : Is c x) : Calls Tryz.prog 89 #[.agg #[.int .u8 3, .float .f64 x, .string s, .int .i64 r]] w fun e w' => e = .returned (.bool ((mayC c) && restB 0 s r)) ∧ Below w.heap.size w w' := by
  have k1 : ∀ w, Calls Tryz.prog 127 #[.agg #[.int .u8 3, .float .f64 x, .string s, .int .i64 r]] w (fun e w' => e = .returned (.agg #[.int .u8 3, .float .f64 0, .string s, .int .i64 r]) ∧ Below w.heap.size w w') := fun w => beside_k3 x s r w
  have k2 : ∀ w, Calls Tryz.prog 128 #[.agg #[.int .u8 3, .float .f64 x, .string s, .int .i64 r]] w (fun e w' => e = .returned (.bool (mayC c)) ∧ Below w.heap.size w w') := fun w => fits_k3 x s r w hc
  have k3 : ∀ w, Calls Tryz.prog 129 #[.float .f64 0] w (fun e w' => e = .returned (.bool false) ∧ w = w') := fun w => Signbit_any 0 w (by decide)
  have hv : ∀ w, (Op.equalIn (9998 + 1) 24 (.float .f64 0) (.float .f64 0)).run Tryz.prog w = .ok true w := fun w => veq_float 9998 0 0 w
  have z1 : feq 0 0 = true := by decide
  have z2 : sgn 0 = false := by decide
  have hst := vstore
  have z3 : (⟨#[]⟩ : ByteArray).toList = [] := by rw [toList_data]
  cases hfit : (mayC c)
  all_goals
    rw [hfit] at k2
    try clear hfit
    go_enter Tryz.func89, Tryz.ntmps89
    go_wp2_with (first | (go_at_call 127; (with_reducible refine (k1 _).mono ?_); rintro e w1 ⟨rfl, h1⟩; obtain ⟨hc1, hf1⟩ := vcell h1; have hz1 := vlt1 h1) | (go_at_call 128; (with_reducible refine (k2 _).mono ?_); rintro e w2 ⟨rfl, h2⟩; obtain ⟨hc2, hf2⟩ := vcell h2; have hz2 := vlt1 h2; have hz3 := Nat.lt_trans hz1 hz2) | (go_at_call 129; (with_reducible refine (k3 _).mono ?_); rintro e w3 ⟨rfl, rfl⟩))
    all_goals (go_ret; exact ⟨ret_bool (by simp [restB, *]), vb (vafter h1) (vafter h2)⟩)
theorem May_k4 (hx : x < 2 ^ 64) : Calls Tryz.prog 89 #[.agg #[.int .u8 4, .float .f64 x, .string s, .int .i64 r]] w fun e w' => e = .returned (.bool ((decide ((s.size : Int) ≤ 4096)) && restB x ⟨#[]⟩ r)) ∧ Below w.heap.size w w' := by
  have k1 : ∀ w, Calls Tryz.prog 127 #[.agg #[.int .u8 4, .float .f64 x, .string s, .int .i64 r]] w (fun e w' => e = .returned (.agg #[.int .u8 4, .float .f64 x, .string ⟨#[]⟩, .int .i64 r]) ∧ Below w.heap.size w w') := fun w => beside_k4 x s r w
  have k2 : ∀ w, Calls Tryz.prog 128 #[.agg #[.int .u8 4, .float .f64 x, .string s, .int .i64 r]] w (fun e w' => e = .returned (.bool (decide ((s.size : Int) ≤ 4096))) ∧ Below w.heap.size w w') := fun w => fits_k4 x s r w
  have k3 := fun w => Signbit_any x w hx
  have hv := fun w => veq_float 9998 x 0 w
  have hst := vstore
  have z3 : (⟨#[]⟩ : ByteArray).toList = [] := by rw [toList_data]
  cases hfit : (decide ((s.size : Int) ≤ 4096))
  all_goals
    rw [hfit] at k2
    try clear hfit
    go_enter Tryz.func89, Tryz.ntmps89
    go_wp2_with (first | (go_at_call 127; (with_reducible refine (k1 _).mono ?_); rintro e w1 ⟨rfl, h1⟩; obtain ⟨hc1, hf1⟩ := vcell h1; have hz1 := vlt1 h1) | (go_at_call 128; (with_reducible refine (k2 _).mono ?_); rintro e w2 ⟨rfl, h2⟩; obtain ⟨hc2, hf2⟩ := vcell h2; have hz2 := vlt1 h2; have hz3 := Nat.lt_trans hz1 hz2) | (go_at_call 129; (with_reducible refine (k3 _).mono ?_); rintro e w3 ⟨rfl, rfl⟩))
    all_goals (go_ret; exact ⟨ret_bool (by simp [restB, *]), vb (vafter h1) (vafter h2)⟩)
theorem May_k5 (hx : x < 2 ^ 64) : Calls Tryz.prog 89 #[.agg #[.int .u8 5, .float .f64 x, .string s, .int .i64 r]] w fun e w' => e = .returned (.bool ((decide (0 ≤ r)) && restB x s 0)) ∧ Below w.heap.size w w' := by
  have k1 : ∀ w, Calls Tryz.prog 127 #[.agg #[.int .u8 5, .float .f64 x, .string s, .int .i64 r]] w (fun e w' => e = .returned (.agg #[.int .u8 5, .float .f64 x, .string s, .int .i64 0]) ∧ Below w.heap.size w w') := fun w => beside_k5 x s r w
  have k2 : ∀ w, Calls Tryz.prog 128 #[.agg #[.int .u8 5, .float .f64 x, .string s, .int .i64 r]] w (fun e w' => e = .returned (.bool (decide (0 ≤ r))) ∧ Below w.heap.size w w') := fun w => fits_k5 x s r w
  have k3 := fun w => Signbit_any x w hx
  have hv := fun w => veq_float 9998 x 0 w
  have hst := vstore
  have z3 : (⟨#[]⟩ : ByteArray).toList = [] := by rw [toList_data]
  cases hfit : (decide (0 ≤ r))
  all_goals
    rw [hfit] at k2
    try clear hfit
    go_enter Tryz.func89, Tryz.ntmps89
    go_wp2_with (first | (go_at_call 127; (with_reducible refine (k1 _).mono ?_); rintro e w1 ⟨rfl, h1⟩; obtain ⟨hc1, hf1⟩ := vcell h1; have hz1 := vlt1 h1) | (go_at_call 128; (with_reducible refine (k2 _).mono ?_); rintro e w2 ⟨rfl, h2⟩; obtain ⟨hc2, hf2⟩ := vcell h2; have hz2 := vlt1 h2; have hz3 := Nat.lt_trans hz1 hz2) | (go_at_call 129; (with_reducible refine (k3 _).mono ?_); rintro e w3 ⟨rfl, rfl⟩))
    all_goals (go_ret; exact ⟨ret_bool (by simp [restB, *]), vb (vafter h1) (vafter h2)⟩)
theorem May_obj (k : Nat) (hx : x < 2 ^ 64) (g0 : ((k : Int) == 0) = false) (g1 : ((k : Int) == 1) = false) (g2 : ((k : Int) == 2) = false) (g3 : ((k : Int) == 3) = false) (g4 : ((k : Int) == 4) = false) (g5 : ((k : Int) == 5) = false) (ho : objB k = true) : Calls Tryz.prog 89 #[.agg #[.int .u8 (k : Int), .float .f64 x, .string s, .int .i64 r]] w fun e w' => e = .returned (.bool ((decide (0 ≤ r)) && restB x s 0)) ∧ Below w.heap.size w w' := by
  have k1 : ∀ w, Calls Tryz.prog 127 #[.agg #[.int .u8 (k : Int), .float .f64 x, .string s, .int .i64 r]] w (fun e w' => e = .returned (.agg #[.int .u8 (k : Int), .float .f64 x, .string s, .int .i64 0]) ∧ Below w.heap.size w w') := fun w => beside_obj x s r w k g2 g3 g4 g5 ho
  have k2 : ∀ w, Calls Tryz.prog 128 #[.agg #[.int .u8 (k : Int), .float .f64 x, .string s, .int .i64 r]] w (fun e w' => e = .returned (.bool (decide (0 ≤ r))) ∧ Below w.heap.size w w') := fun w => by have h := fits_obj x s r w k g0 g1 g2 g3 g4 g5; rw [ho] at h; exact h
  have k3 := fun w => Signbit_any x w hx
  have hv := fun w => veq_float 9998 x 0 w
  have hst := vstore
  have z3 : (⟨#[]⟩ : ByteArray).toList = [] := by rw [toList_data]
  cases hfit : (decide (0 ≤ r))
  all_goals
    rw [hfit] at k2
    try clear hfit
    go_enter Tryz.func89, Tryz.ntmps89
    go_wp2_with (first | (go_at_call 127; (with_reducible refine (k1 _).mono ?_); rintro e w1 ⟨rfl, h1⟩; obtain ⟨hc1, hf1⟩ := vcell h1; have hz1 := vlt1 h1) | (go_at_call 128; (with_reducible refine (k2 _).mono ?_); rintro e w2 ⟨rfl, h2⟩; obtain ⟨hc2, hf2⟩ := vcell h2; have hz2 := vlt1 h2; have hz3 := Nat.lt_trans hz1 hz2) | (go_at_call 129; (with_reducible refine (k3 _).mono ?_); rintro e w3 ⟨rfl, rfl⟩))
    all_goals (go_ret; exact ⟨ret_bool (by simp [restB, *]), vb (vafter h1) (vafter h2)⟩)
theorem May_no (k : Nat) (hx : x < 2 ^ 64) (g0 : ((k : Int) == 0) = false) (g1 : ((k : Int) == 1) = false) (g2 : ((k : Int) == 2) = false) (g3 : ((k : Int) == 3) = false) (g4 : ((k : Int) == 4) = false) (g5 : ((k : Int) == 5) = false) (ho : objB k = false) : Calls Tryz.prog 89 #[.agg #[.int .u8 (k : Int), .float .f64 x, .string s, .int .i64 r]] w fun e w' => e = .returned (.bool ((false) && restB x s r)) ∧ Below w.heap.size w w' := by
  have k1 : ∀ w, Calls Tryz.prog 127 #[.agg #[.int .u8 (k : Int), .float .f64 x, .string s, .int .i64 r]] w (fun e w' => e = .returned (.agg #[.int .u8 (k : Int), .float .f64 x, .string s, .int .i64 r]) ∧ Below w.heap.size w w') := fun w => beside_same x s r w k g2 g3 g4 g5 ho
  have k2 : ∀ w, Calls Tryz.prog 128 #[.agg #[.int .u8 (k : Int), .float .f64 x, .string s, .int .i64 r]] w (fun e w' => e = .returned (.bool (false)) ∧ Below w.heap.size w w') := fun w => by have h := fits_obj x s r w k g0 g1 g2 g3 g4 g5; rw [ho] at h; exact h
  have k3 := fun w => Signbit_any x w hx
  have hv := fun w => veq_float 9998 x 0 w
  have hst := vstore
  have z3 : (⟨#[]⟩ : ByteArray).toList = [] := by rw [toList_data]
  cases hfit : (false)
  all_goals
    rw [hfit] at k2
    try clear hfit
    go_enter Tryz.func89, Tryz.ntmps89
    go_wp2_with (first | (go_at_call 127; (with_reducible refine (k1 _).mono ?_); rintro e w1 ⟨rfl, h1⟩; obtain ⟨hc1, hf1⟩ := vcell h1; have hz1 := vlt1 h1) | (go_at_call 128; (with_reducible refine (k2 _).mono ?_); rintro e w2 ⟨rfl, h2⟩; obtain ⟨hc2, hf2⟩ := vcell h2; have hz2 := vlt1 h2; have hz3 := Nat.lt_trans hz1 hz2) | (go_at_call 129; (with_reducible refine (k3 _).mono ?_); rintro e w3 ⟨rfl, rfl⟩))
    all_goals (go_ret; exact ⟨ret_bool (by simp [restB, *]), vb (vafter h1) (vafter h2)⟩)
end
end Go.Proofs.YtbeggameiedjgaaGreatDoor.S
