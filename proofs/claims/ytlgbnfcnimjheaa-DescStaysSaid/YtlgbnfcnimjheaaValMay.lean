/-
  value.May: walks, for any value.
-/
import Derived.Test.YtlgbnfcnimjheaaValSame
namespace Go.Proofs.Ytlgbnfcnimjheaa.S
open Go.RowKit Fl

structure NoK (k : Nat) : Prop where
  n0 : ((k : Int) == 0) = false
  n1 : ((k : Int) == 1) = false
  n2 : ((k : Int) == 2) = false
  n3 : ((k : Int) == 3) = false
  n4 : ((k : Int) == 4) = false
  n5 : ((k : Int) == 5) = false
  n6 : ((k : Int) == 6) = false
  n7 : ((k : Int) == 7) = false
  n8 : ((k : Int) == 8) = false
theorem kinds_all (k : Nat) : k = 0 ∨ k = 1 ∨ k = 2 ∨ k = 3 ∨ k = 4 ∨ k = 5 ∨ k = 6 ∨ k = 7 ∨ k = 8 ∨ NoK k := by
  by_cases h : k ≤ 8
  · omega
  · have : NoK k := by constructor <;> (rw [beq_eq_false_iff_ne]; omega)
    simp [this]
theorem veq_float (d : Nat) (a b : Nat) (w : World) : (Op.equalIn (d + 1) 22 (.float .f64 a) (.float .f64 b)).run Try.prog w = .ok (feq a b) w := by
  simp [Op.equalIn, run_underlying Try.underlying22]; rfl

section
variable (x : Nat) (s : ByteArray) (r : Int) (w : World)
/-- what stands beside the field of a kind -/
theorem beside_same (k : Nat) (h2 : ((k : Int) == 2) = false) (h3 : ((k : Int) == 3) = false) (h4 : ((k : Int) == 4) = false) (h5 : ((k : Int) == 5) = false) (ho : objB k = false) :
    Calls Try.prog 28 #[.agg #[.int .u8 (k : Int), .float .f64 x, .string s, .int .i64 r]] w fun e w' => e = .returned (.agg #[.int .u8 (k : Int), .float .f64 x, .string s, .int .i64 r]) ∧ Below w.heap.size w w' := by
  have k1 := fun w => IsObject_v k x s r w
  rw [ho] at k1
  clear ho
  have hst := vstore
  go_enter Try.func28, Try.ntmps28
  go_wp2_with (go_at_call 20; (with_reducible refine (k1 _).mono ?_); rintro e w1 ⟨rfl, h1⟩; obtain ⟨hc1, hf1⟩ := vcell h1; obtain ⟨hz1, hz2⟩ := vlt2 h1)
  exact val_end Try.results28 rfl (vset4 (vblk2 h1).2 _ _ _ _) ⟨rfl, vbel4 (vafter2 h1) (Nat.le_succ _) _ _ _ _⟩
theorem beside_k2 : Calls Try.prog 28 #[.agg #[.int .u8 2, .float .f64 x, .string s, .int .i64 r]] w fun e w' => e = .returned (.agg #[.int .u8 2, .float .f64 0, .string s, .int .i64 r]) ∧ Below w.heap.size w w' := by
  have hst := vstore
  go_enter Try.func28, Try.ntmps28
  go_wp2_with (fail)
  exact val_end Try.results28 rfl (vblk2 (Below.refl _ _)).2 ⟨rfl, vafter2 (Below.refl _ _)⟩
theorem beside_k3 : Calls Try.prog 28 #[.agg #[.int .u8 3, .float .f64 x, .string s, .int .i64 r]] w fun e w' => e = .returned (.agg #[.int .u8 3, .float .f64 0, .string s, .int .i64 r]) ∧ Below w.heap.size w w' := by
  have hst := vstore
  go_enter Try.func28, Try.ntmps28
  go_wp2_with (fail)
  exact val_end Try.results28 rfl (vblk2 (Below.refl _ _)).2 ⟨rfl, vafter2 (Below.refl _ _)⟩
theorem beside_k4 : Calls Try.prog 28 #[.agg #[.int .u8 4, .float .f64 x, .string s, .int .i64 r]] w fun e w' => e = .returned (.agg #[.int .u8 4, .float .f64 x, .string ⟨#[]⟩, .int .i64 r]) ∧ Below w.heap.size w w' := by
  have hst := vstore
  go_enter Try.func28, Try.ntmps28
  go_wp2_with (fail)
  exact val_end Try.results28 rfl (vblk2 (Below.refl _ _)).2 ⟨rfl, vafter2 (Below.refl _ _)⟩
theorem beside_k5 : Calls Try.prog 28 #[.agg #[.int .u8 5, .float .f64 x, .string s, .int .i64 r]] w fun e w' => e = .returned (.agg #[.int .u8 5, .float .f64 x, .string s, .int .i64 0]) ∧ Below w.heap.size w w' := by
  have hst := vstore
  go_enter Try.func28, Try.ntmps28
  go_wp2_with (fail)
  exact val_end Try.results28 rfl (vblk2 (Below.refl _ _)).2 ⟨rfl, vafter2 (Below.refl _ _)⟩
theorem beside_obj (k : Nat) (h2 : ((k : Int) == 2) = false) (h3 : ((k : Int) == 3) = false) (h4 : ((k : Int) == 4) = false) (h5 : ((k : Int) == 5) = false) (ho : objB k = true) :
    Calls Try.prog 28 #[.agg #[.int .u8 (k : Int), .float .f64 x, .string s, .int .i64 r]] w fun e w' => e = .returned (.agg #[.int .u8 (k : Int), .float .f64 x, .string s, .int .i64 0]) ∧ Below w.heap.size w w' := by
  have k1 := fun w => IsObject_v k x s r w
  rw [ho] at k1
  clear ho
  have hst := vstore
  go_enter Try.func28, Try.ntmps28
  go_wp2_with (go_at_call 20; (with_reducible refine (k1 _).mono ?_); rintro e w1 ⟨rfl, h1⟩; obtain ⟨hc1, hf1⟩ := vcell h1; obtain ⟨hz1, hz2⟩ := vlt2 h1; obtain ⟨b1, b2⟩ := vblk2 h1; have c0 : w1.cell? ⟨w.heap.size, 0, none⟩ = some (.int .u8 (k : Int)) := vcells b1 0; have c1 : w1.cell? ⟨w.heap.size, 1, none⟩ = some (.float .f64 x) := vcells b1 1; have c2 : w1.cell? ⟨w.heap.size, 2, none⟩ = some (.string s) := vcells b1 2; have c3 : w1.cell? ⟨w.heap.size, 3, none⟩ = some (.int .i64 r) := vcells b1 3)
  exact val_end Try.results28 rfl (vset4 ((vset1o b2 (by omega) 3 _)) _ _ _ _) ⟨rfl, vbel4 ((vafter2 h1).setCell (p := ⟨w.heap.size, 3, none⟩) (Nat.le_refl _) _) (Nat.le_succ _) _ _ _ _⟩
end
end Go.Proofs.Ytlgbnfcnimjheaa.S
