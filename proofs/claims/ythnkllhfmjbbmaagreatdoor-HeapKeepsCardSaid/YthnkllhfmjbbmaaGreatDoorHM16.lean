/-
  value.Same, Strict: walks, for any values that may be.
-/
import Derived.Test.YthnkllhfmjbbmaaGreatDoorHM15
namespace Go.Proofs.YthnkllhfmjbbmaaGreatDoor.S
open Go.RowKit Fl

section
variable (k x : Nat) (s : ByteArray) (r : Int) (k' x' : Nat) (s' : ByteArray) (r' : Int) (w : World)
theorem Same_obj (h : objB k = true) (h' : objB k' = true) : Calls Tryz.prog 36 #[.agg #[.int .u8 (k : Int), .float .f64 x, .string s, .int .i64 r], .agg #[.int .u8 (k' : Int), .float .f64 x', .string s', .int .i64 r']] w fun e w' => e = .returned (.bool (r == r')) ∧ Below w.heap.size w w' := by
  have k1 := fun w => IsObject_v k x s r w
  have k2 := fun w => IsObject_v k' x' s' r' w
  rw [h] at k1
  rw [h'] at k2
  clear h h'
  go_enter Tryz.func36, Tryz.ntmps36
  go_wp2_with (go_at_call 66; first | ((with_reducible refine (k1 _).mono ?_); rintro e w1 ⟨rfl, h1⟩; obtain ⟨hc1, hf1⟩ := vcell h1; obtain ⟨hz1, hz2⟩ := vlt2 h1) | ((with_reducible refine (k2 _).mono ?_); rintro e w2 ⟨rfl, h2⟩; obtain ⟨hc2, hf2⟩ := vcell h2; have hz3 := vltn h2 hz1; have hz4 := vltn h2 hz2))
  go_ret
  exact ⟨rfl, vafter2 (vb h1 h2)⟩
theorem Same_ne (h : (objB k && objB k') = false) (hne : k ≠ k') : Calls Tryz.prog 36 #[.agg #[.int .u8 (k : Int), .float .f64 x, .string s, .int .i64 r], .agg #[.int .u8 (k' : Int), .float .f64 x', .string s', .int .i64 r']] w fun e w' => e = .returned (.bool false) ∧ Below w.heap.size w w' := by
  have k1 := fun w => IsObject_v k x s r w
  have k2 := fun w => IsObject_v k' x' s' r' w
  have hn : ((k : Int) != (k' : Int)) = true := by rw [bne_iff_ne]; omega
  cases ho : objB k
  · rw [ho] at k1
    clear h ho
    go_enter Tryz.func36, Tryz.ntmps36
    go_wp2_with (go_at_call 66; (with_reducible refine (k1 _).mono ?_); rintro e w1 ⟨rfl, h1⟩; obtain ⟨hc1, hf1⟩ := vcell h1; obtain ⟨hz1, hz2⟩ := vlt2 h1)
    go_ret
    exact ⟨rfl, vafter2 h1⟩
  · rw [ho] at k1 h
    rw [Bool.true_and] at h
    rw [h] at k2
    clear h ho
    go_enter Tryz.func36, Tryz.ntmps36
    go_wp2_with (go_at_call 66; first | ((with_reducible refine (k1 _).mono ?_); rintro e w1 ⟨rfl, h1⟩; obtain ⟨hc1, hf1⟩ := vcell h1; obtain ⟨hz1, hz2⟩ := vlt2 h1) | ((with_reducible refine (k2 _).mono ?_); rintro e w2 ⟨rfl, h2⟩; obtain ⟨hc2, hf2⟩ := vcell h2; have hz3 := vltn h2 hz1; have hz4 := vltn h2 hz2))
    go_ret
    exact ⟨rfl, vafter2 (vb h1 h2)⟩
end
section
variable (x : Nat) (s : ByteArray) (r : Int) (x' : Nat) (s' : ByteArray) (r' : Int) (w : World)
theorem Same_k01 (k : Nat) (hk : k = 0 ∨ k = 1) : Calls Tryz.prog 36 #[.agg #[.int .u8 (k : Int), .float .f64 x, .string s, .int .i64 r], .agg #[.int .u8 (k : Int), .float .f64 x', .string s', .int .i64 r']] w fun e w' => e = .returned (.bool true) ∧ Below w.heap.size w w' := by
  rcases hk with rfl | rfl
  all_goals simp only [Int.ofNat_zero, Int.natCast_one]
  · have k1 : ∀ w, Calls Tryz.prog 66 #[.agg #[.int .u8 0, .float .f64 x, .string s, .int .i64 r]] w (fun e w' => e = .returned (.bool false) ∧ Below w.heap.size w w') := fun w => IsObject_v 0 x s r w
    go_enter Tryz.func36, Tryz.ntmps36
    go_wp2_with (go_at_call 66; (with_reducible refine (k1 _).mono ?_); rintro e w1 ⟨rfl, h1⟩; obtain ⟨hc1, hf1⟩ := vcell h1; obtain ⟨hz1, hz2⟩ := vlt2 h1)
    go_ret
    exact ⟨rfl, vafter2 h1⟩
  · have k1 : ∀ w, Calls Tryz.prog 66 #[.agg #[.int .u8 1, .float .f64 x, .string s, .int .i64 r]] w (fun e w' => e = .returned (.bool false) ∧ Below w.heap.size w w') := fun w => IsObject_v 1 x s r w
    go_enter Tryz.func36, Tryz.ntmps36
    go_wp2_with (go_at_call 66; (with_reducible refine (k1 _).mono ?_); rintro e w1 ⟨rfl, h1⟩; obtain ⟨hc1, hf1⟩ := vcell h1; obtain ⟨hz1, hz2⟩ := vlt2 h1)
    go_ret
    exact ⟨rfl, vafter2 h1⟩
theorem Same_k2 : Calls Tryz.prog 36 #[.agg #[.int .u8 2, .float .f64 x, .string s, .int .i64 r], .agg #[.int .u8 2, .float .f64 x', .string s', .int .i64 r']] w fun e w' => e = .returned (.bool (feq x x')) ∧ Below w.heap.size w w' := by
  have k1 : ∀ w, Calls Tryz.prog 66 #[.agg #[.int .u8 2, .float .f64 x, .string s, .int .i64 r]] w (fun e w' => e = .returned (.bool false) ∧ Below w.heap.size w w') := fun w => IsObject_v 2 x s r w
  go_enter Tryz.func36, Tryz.ntmps36
  go_wp2_with (go_at_call 66; (with_reducible refine (k1 _).mono ?_); rintro e w1 ⟨rfl, h1⟩; obtain ⟨hc1, hf1⟩ := vcell h1; obtain ⟨hz1, hz2⟩ := vlt2 h1)
  go_ret
  exact ⟨rfl, vafter2 h1⟩
theorem Same_k3 : Calls Tryz.prog 36 #[.agg #[.int .u8 3, .float .f64 x, .string s, .int .i64 r], .agg #[.int .u8 3, .float .f64 x', .string s', .int .i64 r']] w fun e w' => e = .returned (.bool (feq x x' || (!feq x x && !feq x' x'))) ∧ Below w.heap.size w w' := by
  have k1 : ∀ w, Calls Tryz.prog 66 #[.agg #[.int .u8 3, .float .f64 x, .string s, .int .i64 r]] w (fun e w' => e = .returned (.bool false) ∧ Below w.heap.size w w') := fun w => IsObject_v 3 x s r w
  have n1 : ∀ w, Calls Tryz.prog 67 #[.agg #[.int .u8 3, .float .f64 x, .string s, .int .i64 r]] w (fun e w' => e = .returned (.bool (!feq x x)) ∧ Below w.heap.size w w') := fun w => none_v 3 x s r w
  have n2 : ∀ w, Calls Tryz.prog 67 #[.agg #[.int .u8 3, .float .f64 x', .string s', .int .i64 r']] w (fun e w' => e = .returned (.bool (!feq x' x')) ∧ Below w.heap.size w w') := fun w => none_v 3 x' s' r' w
  have hf : (FloatKind.f64.format.order x x' == some .eq) = feq x x' := rfl
  cases h0 : feq x x'
  · rw [h0] at hf
    cases h1 : feq x x
    · rw [h1] at n1
      clear h0 h1
      go_enter Tryz.func36, Tryz.ntmps36
      go_wp2_with (first | (go_at_call 66; (with_reducible refine (k1 _).mono ?_); rintro e w1 ⟨rfl, h1⟩; obtain ⟨hc1, hf1⟩ := vcell h1; obtain ⟨hz1, hz2⟩ := vlt2 h1) | (go_at_call 67; first | ((with_reducible refine (n1 _).mono ?_); rintro e w2 ⟨rfl, h2⟩; obtain ⟨hc2, hf2⟩ := vcell h2; have hz3 := vltn h2 hz1; have hz4 := vltn h2 hz2) | ((with_reducible refine (n2 _).mono ?_); rintro e w3 ⟨rfl, h3⟩)))
      go_ret
      exact ⟨rfl, vafter2 (vb (vb h1 h2) h3)⟩
    · rw [h1] at n1
      clear h0 h1
      go_enter Tryz.func36, Tryz.ntmps36
      go_wp2_with (first | (go_at_call 66; (with_reducible refine (k1 _).mono ?_); rintro e w1 ⟨rfl, h1⟩; obtain ⟨hc1, hf1⟩ := vcell h1; obtain ⟨hz1, hz2⟩ := vlt2 h1) | (go_at_call 67; (with_reducible refine (n1 _).mono ?_); rintro e w2 ⟨rfl, h2⟩; obtain ⟨hc2, hf2⟩ := vcell h2; have hz3 := vltn h2 hz1; have hz4 := vltn h2 hz2))
      go_ret
      exact ⟨rfl, vafter2 (vb h1 h2)⟩
  · rw [h0] at hf
    clear h0
    go_enter Tryz.func36, Tryz.ntmps36
    go_wp2_with (go_at_call 66; (with_reducible refine (k1 _).mono ?_); rintro e w1 ⟨rfl, h1⟩; obtain ⟨hc1, hf1⟩ := vcell h1; obtain ⟨hz1, hz2⟩ := vlt2 h1)
    go_ret
    exact ⟨rfl, vafter2 h1⟩
theorem Same_k4 : Calls Tryz.prog 36 #[.agg #[.int .u8 4, .float .f64 x, .string s, .int .i64 r], .agg #[.int .u8 4, .float .f64 x', .string s', .int .i64 r']] w fun e w' => e = .returned (.bool (s.data.toList == s'.data.toList)) ∧ Below w.heap.size w w' := by
  have k1 : ∀ w, Calls Tryz.prog 66 #[.agg #[.int .u8 4, .float .f64 x, .string s, .int .i64 r]] w (fun e w' => e = .returned (.bool false) ∧ Below w.heap.size w w') := fun w => IsObject_v 4 x s r w
  go_enter Tryz.func36, Tryz.ntmps36
  go_wp2_with (go_at_call 66; (with_reducible refine (k1 _).mono ?_); rintro e w1 ⟨rfl, h1⟩; obtain ⟨hc1, hf1⟩ := vcell h1; obtain ⟨hz1, hz2⟩ := vlt2 h1)
  go_ret
  exact ⟨ret_bool (by simp [toList_data]), vafter2 h1⟩
theorem Same_k5 : Calls Tryz.prog 36 #[.agg #[.int .u8 5, .float .f64 x, .string s, .int .i64 r], .agg #[.int .u8 5, .float .f64 x', .string s', .int .i64 r']] w fun e w' => e = .returned (.bool (r == r')) ∧ Below w.heap.size w w' := by
  have k1 : ∀ w, Calls Tryz.prog 66 #[.agg #[.int .u8 5, .float .f64 x, .string s, .int .i64 r]] w (fun e w' => e = .returned (.bool false) ∧ Below w.heap.size w w') := fun w => IsObject_v 5 x s r w
  go_enter Tryz.func36, Tryz.ntmps36
  go_wp2_with (go_at_call 66; (with_reducible refine (k1 _).mono ?_); rintro e w1 ⟨rfl, h1⟩; obtain ⟨hc1, hf1⟩ := vcell h1; obtain ⟨hz1, hz2⟩ := vlt2 h1)
  go_ret
  exact ⟨rfl, vafter2 h1⟩
end
/-- of any values whose kinds there are -/
theorem Same_any (k x : Nat) (s : ByteArray) (r : Int) (k' x' : Nat) (s' : ByteArray) (r' : Int) (hk : k ≤ 8) (w : World) : Calls Tryz.prog 36 #[.agg #[.int .u8 (k : Int), .float .f64 x, .string s, .int .i64 r], .agg #[.int .u8 (k' : Int), .float .f64 x', .string s', .int .i64 r']] w fun e w' => e = .returned (.bool (sameG k x s r k' x' s' r')) ∧ Below w.heap.size w w' := by
  unfold sameG
  cases ho : (objB k && objB k')
  · rw [if_neg (by decide)]
    by_cases hne : k ≠ k'
    · rw [if_pos hne]
      exact Same_ne _ _ _ _ _ _ _ _ _ ho hne
    · rw [if_neg hne]
      obtain rfl : k = k' := Classical.not_not.1 hne
      rw [Bool.and_self] at ho
      have h5 : k = 0 ∨ k = 1 ∨ k = 2 ∨ k = 3 ∨ k = 4 ∨ k = 5 := by
        have h6 : k ≠ 6 := fun e => by rw [e] at ho; cases ho
        have h7 : k ≠ 7 := fun e => by rw [e] at ho; cases ho
        have h8 : k ≠ 8 := fun e => by rw [e] at ho; cases ho
        omega
      rcases h5 with rfl | rfl | rfl | rfl | rfl | rfl
      · exact Same_k01 _ _ _ _ _ _ _ 0 (.inl rfl)
      · exact Same_k01 _ _ _ _ _ _ _ 1 (.inr rfl)
      · exact Same_k2 _ _ _ _ _ _ _
      · exact Same_k3 _ _ _ _ _ _ _
      · exact Same_k4 _ _ _ _ _ _ _
      · exact Same_k5 _ _ _ _ _ _ _
  · rw [if_pos rfl]
    rw [Bool.and_eq_true] at ho
    exact Same_obj _ _ _ _ _ _ _ _ _ ho.1 ho.2
end Go.Proofs.YthnkllhfmjbbmaaGreatDoor.S
/-
  value.May: walks, for any value.
-/
namespace Go.Proofs.YthnkllhfmjbbmaaGreatDoor.S
open Go.RowKit Fl

structure NoK (k : Nat) : Prop where
  n0 : ((k : Int) == 0) = false
  n1 : ((k : Int) == 1) = false
  n2 : ((k : Int) == 2) = false
  n3 : ((k : Int) == 3) = false
  n4 : ((k : Int) == 4) = false
  n5 : ((k : Int) == 5) = false
  n6 : ((k : Int) == 6) = false
  n7 : ((k : Int) == 7) = false
  n8 : ((k : Int) == 8) = false
theorem kinds_all (k : Nat) : k = 0 ∨ k = 1 ∨ k = 2 ∨ k = 3 ∨ k = 4 ∨ k = 5 ∨ k = 6 ∨ k = 7 ∨ k = 8 ∨ NoK k := by
  by_cases h : k ≤ 8
  · omega
  · have : NoK k := by constructor <;> (rw [beq_eq_false_iff_ne]; omega)
    simp [this]
theorem veq_float (d : Nat) (a b : Nat) (w : World) : (Op.equalIn (d + 1) 29 (.float .f64 a) (.float .f64 b)).run Tryz.prog w = .ok (feq a b) w := by
  simp [Op.equalIn, run_underlying Tryz.underlying29]; rfl

section
variable (x : Nat) (s : ByteArray) (r : Int) (w : World)
/-- what stands beside the field of a kind -/
theorem beside_same (k : Nat) (h2 : ((k : Int) == 2) = false) (h3 : ((k : Int) == 3) = false) (h4 : ((k : Int) == 4) = false) (h5 : ((k : Int) == 5) = false) (ho : objB k = false) :
    Calls Tryz.prog 153 #[.agg #[.int .u8 (k : Int), .float .f64 x, .string s, .int .i64 r]] w fun e w' => e = .returned (.agg #[.int .u8 (k : Int), .float .f64 x, .string s, .int .i64 r]) ∧ Below w.heap.size w w' := by
  have k1 := fun w => IsObject_v k x s r w
  rw [ho] at k1
  clear ho
  have hst := vstore
  go_enter Tryz.func153, Tryz.ntmps153
  go_wp2_with (go_at_call 66; (with_reducible refine (k1 _).mono ?_); rintro e w1 ⟨rfl, h1⟩; obtain ⟨hc1, hf1⟩ := vcell h1; obtain ⟨hz1, hz2⟩ := vlt2 h1)
  exact val_end Tryz.results153 rfl (vset4 (vblk2 h1).2 _ _ _ _) ⟨rfl, vbel4 (vafter2 h1) (Nat.le_succ _) _ _ _ _⟩
theorem beside_k2 : Calls Tryz.prog 153 #[.agg #[.int .u8 2, .float .f64 x, .string s, .int .i64 r]] w fun e w' => e = .returned (.agg #[.int .u8 2, .float .f64 0, .string s, .int .i64 r]) ∧ Below w.heap.size w w' := by
  have hst := vstore
  go_enter Tryz.func153, Tryz.ntmps153
  go_wp2_with (fail)
  exact val_end Tryz.results153 rfl (vblk2 (Below.refl _ _)).2 ⟨rfl, vafter2 (Below.refl _ _)⟩
theorem beside_k3 : Calls Tryz.prog 153 #[.agg #[.int .u8 3, .float .f64 x, .string s, .int .i64 r]] w fun e w' => e = .returned (.agg #[.int .u8 3, .float .f64 0, .string s, .int .i64 r]) ∧ Below w.heap.size w w' := by
  have hst := vstore
  go_enter Tryz.func153, Tryz.ntmps153
  go_wp2_with (fail)
  exact val_end Tryz.results153 rfl (vblk2 (Below.refl _ _)).2 ⟨rfl, vafter2 (Below.refl _ _)⟩
theorem beside_k4 : Calls Tryz.prog 153 #[.agg #[.int .u8 4, .float .f64 x, .string s, .int .i64 r]] w fun e w' => e = .returned (.agg #[.int .u8 4, .float .f64 x, .string ⟨#[]⟩, .int .i64 r]) ∧ Below w.heap.size w w' := by
  have hst := vstore
  go_enter Tryz.func153, Tryz.ntmps153
  go_wp2_with (fail)
  exact val_end Tryz.results153 rfl (vblk2 (Below.refl _ _)).2 ⟨rfl, vafter2 (Below.refl _ _)⟩
theorem beside_k5 : Calls Tryz.prog 153 #[.agg #[.int .u8 5, .float .f64 x, .string s, .int .i64 r]] w fun e w' => e = .returned (.agg #[.int .u8 5, .float .f64 x, .string s, .int .i64 0]) ∧ Below w.heap.size w w' := by
  have hst := vstore
  go_enter Tryz.func153, Tryz.ntmps153
  go_wp2_with (fail)
  exact val_end Tryz.results153 rfl (vblk2 (Below.refl _ _)).2 ⟨rfl, vafter2 (Below.refl _ _)⟩
theorem beside_obj (k : Nat) (h2 : ((k : Int) == 2) = false) (h3 : ((k : Int) == 3) = false) (h4 : ((k : Int) == 4) = false) (h5 : ((k : Int) == 5) = false) (ho : objB k = true) :
    Calls Tryz.prog 153 #[.agg #[.int .u8 (k : Int), .float .f64 x, .string s, .int .i64 r]] w fun e w' => e = .returned (.agg #[.int .u8 (k : Int), .float .f64 x, .string s, .int .i64 0]) ∧ Below w.heap.size w w' := by
  have k1 := fun w => IsObject_v k x s r w
  rw [ho] at k1
  clear ho
  have hst := vstore
  go_enter Tryz.func153, Tryz.ntmps153
  go_wp2_with (go_at_call 66; (with_reducible refine (k1 _).mono ?_); rintro e w1 ⟨rfl, h1⟩; obtain ⟨hc1, hf1⟩ := vcell h1; obtain ⟨hz1, hz2⟩ := vlt2 h1; obtain ⟨b1, b2⟩ := vblk2 h1; have c0 : w1.cell? ⟨w.heap.size, 0, none⟩ = some (.int .u8 (k : Int)) := vcells b1 0; have c1 : w1.cell? ⟨w.heap.size, 1, none⟩ = some (.float .f64 x) := vcells b1 1; have c2 : w1.cell? ⟨w.heap.size, 2, none⟩ = some (.string s) := vcells b1 2; have c3 : w1.cell? ⟨w.heap.size, 3, none⟩ = some (.int .i64 r) := vcells b1 3)
  exact val_end Tryz.results153 rfl (vset4 ((vset1o b2 (by omega) 3 _)) _ _ _ _) ⟨rfl, vbel4 ((vafter2 h1).setCell (p := ⟨w.heap.size, 3, none⟩) (Nat.le_refl _) _) (Nat.le_succ _) _ _ _ _⟩
end
end Go.Proofs.YthnkllhfmjbbmaaGreatDoor.S
