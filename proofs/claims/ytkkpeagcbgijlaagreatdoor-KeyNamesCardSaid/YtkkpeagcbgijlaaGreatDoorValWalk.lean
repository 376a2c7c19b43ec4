/-
  The small functions of package value: walks, for any value.
-/
import Derived.Test.YtkkpeagcbgijlaaGreatDoorValMath
import Derived.Test.YtkkpeagcbgijlaaGreatDoorValNew
import Derived.Deep.Draws
namespace Go.Proofs.YtkkpeagcbgijlaaGreatDoor.S
open Go.RowKit Fl

theorem kd_eq (k n : Nat) : ((k : Int) == (n : Int)) = (k == n) := by rw [Bool.eq_iff_iff]; simp only [beq_iff_eq]; omega
theorem Calls_v (k x : Nat) (s : ByteArray) (r : Int) (w : World) : Calls Tryz.prog 38 #[.agg #[.int .u8 (k : Int), .float .f64 x, .string s, .int .i64 r]] w fun e w' => e = .returned (.bool (calB k)) ∧ Below w.heap.size w w' := by
  have e7 : ((k : Int) == 7) = (k == 7) := kd_eq k 7
  have e8 : ((k : Int) == 8) = (k == 8) := kd_eq k 8
  unfold calB
  cases h7 : (k == 7) <;> cases h8 : (k == 8)
  all_goals
    rw [h7] at e7
    rw [h8] at e8
    go_enter Tryz.func38, Tryz.ntmps38
    go_wp2
    go_ret
    exact ⟨rfl, vzero _ _⟩
theorem IsObject_v (k x : Nat) (s : ByteArray) (r : Int) (w : World) : Calls Tryz.prog 21 #[.agg #[.int .u8 (k : Int), .float .f64 x, .string s, .int .i64 r]] w fun e w' => e = .returned (.bool (objB k)) ∧ Below w.heap.size w w' := by
  have e6 : ((k : Int) == 6) = (k == 6) := kd_eq k 6
  have ho : objB k = (k == 6 || calB k) := by unfold objB calB; cases (k == 6) <;> rfl
  have kc := fun w => Calls_v k x s r w
  rw [ho]
  cases h6 : (k == 6)
  all_goals
    rw [h6] at e6
    go_enter Tryz.func21, Tryz.ntmps21
    go_wp2_with (go_at_call 38; refine (kc _).mono ?_; rintro e w1 ⟨rfl, h1⟩)
    go_ret
  · exact ⟨rfl, vafter h1⟩
  · exact ⟨rfl, vzero _ _⟩
end Go.Proofs.YtkkpeagcbgijlaaGreatDoor.S
