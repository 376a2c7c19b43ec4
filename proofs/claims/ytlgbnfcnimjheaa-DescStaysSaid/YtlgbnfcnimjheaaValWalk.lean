/-
  The small functions of package value: walks, for any value.
-/
import Derived.Test.YtlgbnfcnimjheaaValMath
import Derived.Test.YtlgbnfcnimjheaaValNew
import Derived.Deep.Draws
namespace Go.Proofs.Ytlgbnfcnimjheaa.S
open Go.RowKit Fl

theorem kd_eq (k n : Nat) : ((k : Int) == (n : Int)) = (k == n) := by rw [Bool.eq_iff_iff]; simp only [beq_iff_eq]; omega
theorem Calls_v (k x : Nat) (s : ByteArray) (r : Int) (w : World) : Calls Try.prog 26 #[.agg #[.int .u8 (k : Int), .float .f64 x, .string s, .int .i64 r]] w fun e w' => e = .returned (.bool (calB k)) ∧ Below w.heap.size w w' := by
  have e7 : ((k : Int) == 7) = (k == 7) := kd_eq k 7
  have e8 : ((k : Int) == 8) = (k == 8) := kd_eq k 8
  unfold calB
  cases h7 : (k == 7) <;> cases h8 : (k == 8)
  all_goals
    rw [h7] at e7
    rw [h8] at e8
    go_enter Try.func26, Try.ntmps26
    go_wp2
    go_ret
    exact ⟨rfl, vzero _ _⟩
theorem IsObject_v (k x : Nat) (s : ByteArray) (r : Int) (w : World) : Calls Try.prog 20 #[.agg #[.int .u8 (k : Int), .float .f64 x, .string s, .int .i64 r]] w fun e w' => e = .returned (.bool (objB k)) ∧ Below w.heap.size w w' := by
  have e6 : ((k : Int) == 6) = (k == 6) := kd_eq k 6
  have ho : objB k = (k == 6 || calB k) := by unfold objB calB; cases (k == 6) <;> rfl
  have kc := fun w => Calls_v k x s r w
  rw [ho]
  cases h6 : (k == 6)
  all_goals
    rw [h6] at e6
    go_enter Try.func20, Try.ntmps20
    go_wp2_with (go_at_call 26; refine (kc _).mono ?_; rintro e w1 ⟨rfl, h1⟩)
    go_ret
  · exact ⟨rfl, vafter h1⟩
  · exact ⟨rfl, vzero _ _⟩
theorem IsNaN_f (x : Nat) (w : World) : Calls Try.prog 27 #[.float .f64 x] w fun e w' => e = .returned (.bool (FloatKind.f64.format.order x x != some .eq)) ∧ w = w' := by
  go_enter Try.func27, Try.ntmps27
  go_wp2
  go_ret
  exact ⟨rfl, rfl⟩
theorem none_v (k x : Nat) (s : ByteArray) (r : Int) (w : World) : Calls Try.prog 21 #[.agg #[.int .u8 (k : Int), .float .f64 x, .string s, .int .i64 r]] w fun e w' => e = .returned (.bool (k == 3 && !feq x x)) ∧ Below w.heap.size w w' := by
  have e3 : ((k : Int) == 3) = (k == 3) := kd_eq k 3
  have kn := fun w => IsNaN_f x w
  cases h3 : (k == 3)
  all_goals
    rw [h3] at e3
    go_enter Try.func21, Try.ntmps21
    go_wp2_with (go_at_call 27; refine (kn _).mono ?_; rintro e w' ⟨rfl, rfl⟩)
    go_ret
    exact ⟨rfl, vzero _ _⟩
end Go.Proofs.Ytlgbnfcnimjheaa.S
