/-
  The small functions of package value: walks, for any value.
-/
import Derived.Test.YthjmpifdhbjdcaaDoorValMath
import Derived.Test.YthjmpifdhbjdcaaDoorValNew
import Derived.Deep.Draws
namespace Go.Proofs.YthjmpifdhbjdcaaDoor.S
open Go.RowKit Fl

theorem kd_eq (k n : Nat) : ((k : Int) == (n : Int)) = (k == n) := by rw [Bool.eq_iff_iff]; simp only [beq_iff_eq]; omega
theorem Calls_v (k x : Nat) (s : ByteArray) (r : Int) (w : World) : Calls Tryd.prog 18 #[.agg #[.int .u8 (k : Int), .float .f64 x, .string s, .int .i64 r]] w fun e w' => e = .returned (.bool (calB k)) ∧ Below w.heap.size w w' := by
  have e7 : ((k : Int) == 7) = (k == 7) := kd_eq k 7
  have e8 : ((k : Int) == 8) = (k == 8) := kd_eq k 8
  unfold calB
  cases h7 : (k == 7) <;> cases h8 : (k == 8)
  all_goals
    rw [h7] at e7
    rw [h8] at e8
    go_enter Tryd.func18, Tryd.ntmps18
    go_wp2
    go_ret
    exact ⟨rfl, vzero _ _⟩
theorem IsObject_v (k x : Nat) (s : ByteArray) (r : Int) (w : World) : Calls Tryd.prog 19 #[.agg #[.int .u8 (k : Int), .float .f64 x, .string s, .int .i64 r]] w fun e w' => e = .returned (.bool (objB k)) ∧ Below w.heap.size w w' := by
  have e6 : ((k : Int) == 6) = (k == 6) := kd_eq k 6
  have ho : objB k = (k == 6 || calB k) := by unfold objB calB; cases (k == 6) <;> rfl
  have kc := fun w => Calls_v k x s r w
  rw [ho]
  cases h6 : (k == 6)
  all_goals
    rw [h6] at e6
    go_enter Tryd.func19, Tryd.ntmps19
    go_wp2_with (go_at_call 18; refine (kc _).mono ?_; rintro e w1 ⟨rfl, h1⟩)
    go_ret
  · exact ⟨rfl, vafter h1⟩
  · exact ⟨rfl, vzero _ _⟩
theorem IsNaN_f (x : Nat) (w : World) : Calls Tryd.prog 21 #[.float .f64 x] w fun e w' => e = .returned (.bool (FloatKind.f64.format.order x x != some .eq)) ∧ w = w' := by
  go_enter Tryd.func21, Tryd.ntmps21
  go_wp2
  go_ret
  exact ⟨rfl, rfl⟩
theorem none_v (k x : Nat) (s : ByteArray) (r : Int) (w : World) : Calls Tryd.prog 20 #[.agg #[.int .u8 (k : Int), .float .f64 x, .string s, .int .i64 r]] w fun e w' => e = .returned (.bool (k == 3 && !feq x x)) ∧ Below w.heap.size w w' := by
  have e3 : ((k : Int) == 3) = (k == 3) := kd_eq k 3
  have kn := fun w => IsNaN_f x w
  cases h3 : (k == 3)
  all_goals
    rw [h3] at e3
    go_enter Tryd.func20, Tryd.ntmps20
    go_wp2_with (go_at_call 21; refine (kn _).mono ?_; rintro e w' ⟨rfl, rfl⟩)
    go_ret
    exact ⟨rfl, vzero _ _⟩
theorem void_v (k x : Nat) (s : ByteArray) (r : Int) (w : World) : Calls Tryd.prog 25 #[.agg #[.int .u8 (k : Int), .float .f64 x, .string s, .int .i64 r]] w fun e w' => e = .returned (.bool (k == 0 || k == 1)) ∧ Below w.heap.size w w' := by
  have e7 : ((k : Int) == 0) = (k == 0) := kd_eq k 0
  have e8 : ((k : Int) == 1) = (k == 1) := kd_eq k 1
  cases h7 : (k == 0) <;> cases h8 : (k == 1)
  all_goals
    rw [h7] at e7
    rw [h8] at e8
    go_enter Tryd.func25, Tryd.ntmps25
    go_wp2
    go_ret
    exact ⟨rfl, vzero _ _⟩
end Go.Proofs.YthjmpifdhbjdcaaDoor.S
