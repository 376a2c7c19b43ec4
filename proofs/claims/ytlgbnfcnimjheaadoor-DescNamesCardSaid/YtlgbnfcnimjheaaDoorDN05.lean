/-
  value.Same, Strict: walks, for any values that may be.
-/
import Derived.Test.YtlgbnfcnimjheaaDoorDN04
import Derived.Shelf.LaysM
import Derived.Shelf.Strconv.Itoa3
import Derived.Test.YtlgbnfcnimjheaaDoorProg
import Derived.Lib.ItoaLen
import Derived.Test.YtlgbnfcnimjheaaDoorDN03
import Derived.Test.YtlgbnfcnimjheaaDoorDN02
namespace Go.Proofs.YtlgbnfcnimjheaaDoor.S
open Go.RowKit Fl

section
variable (k x : Nat) (s : ByteArray) (r : Int) (k' x' : Nat) (s' : ByteArray) (r' : Int) (w : World)
theorem Same_obj (h : objB k = true) (h' : objB k' = true) : Calls Tryd.prog 30 #[.agg #[.int .u8 (k : Int), .float .f64 x, .string s, .int .i64 r], .agg #[.int .u8 (k' : Int), .float .f64 x', .string s', .int .i64 r']] w fun e w' => e = .returned (.bool (r == r')) ∧ Below w.heap.size w w' := by
  have k1 := fun w => IsObject_v k x s r w
  have k2 := fun w => IsObject_v k' x' s' r' w
  rw [h] at k1
  rw [h'] at k2
  clear h h'
  go_enter Tryd.func30, Tryd.ntmps30
  go_wp2_with (go_at_call 47; first | ((with_reducible refine (k1 _).mono ?_); rintro e w1 ⟨rfl, h1⟩; obtain ⟨hc1, hf1⟩ := vcell h1; obtain ⟨hz1, hz2⟩ := vlt2 h1) | ((with_reducible refine (k2 _).mono ?_); rintro e w2 ⟨rfl, h2⟩; obtain ⟨hc2, hf2⟩ := vcell h2; have hz3 := vltn h2 hz1; have hz4 := vltn h2 hz2))
  go_ret
  exact ⟨rfl, vafter2 (vb h1 h2)⟩
theorem Same_ne (h : (objB k && objB k') = false) (hne : k ≠ k') : Calls Tryd.prog 30 #[.agg #[.int .u8 (k : Int), .float .f64 x, .string s, .int .i64 r], .agg #[.int .u8 (k' : Int), .float .f64 x', .string s', .int .i64 r']] w fun e w' => e = .returned (.bool false) ∧ Below w.heap.size w w' := by
  have k1 := fun w => IsObject_v k x s r w
  have k2 := fun w => IsObject_v k' x' s' r' w
  have hn : ((k : Int) != (k' : Int)) = true := by rw [bne_iff_ne]; omega
  cases ho : objB k
  · rw [ho] at k1
    clear h ho
    go_enter Tryd.func30, Tryd.ntmps30
    go_wp2_with (go_at_call 47; (with_reducible refine (k1 _).mono ?_); rintro e w1 ⟨rfl, h1⟩; obtain ⟨hc1, hf1⟩ := vcell h1; obtain ⟨hz1, hz2⟩ := vlt2 h1)
    go_ret
    exact ⟨rfl, vafter2 h1⟩
  · rw [ho] at k1 h
    rw [Bool.true_and] at h
    rw [h] at k2
    clear h ho
    go_enter Tryd.func30, Tryd.ntmps30
    go_wp2_with (go_at_call 47; first | ((with_reducible refine (k1 _).mono ?_); rintro e w1 ⟨rfl, h1⟩; obtain ⟨hc1, hf1⟩ := vcell h1; obtain ⟨hz1, hz2⟩ := vlt2 h1) | ((with_reducible refine (k2 _).mono ?_); rintro e w2 ⟨rfl, h2⟩; obtain ⟨hc2, hf2⟩ := vcell h2; have hz3 := vltn h2 hz1; have hz4 := vltn h2 hz2))
    go_ret
    exact ⟨rfl, vafter2 (vb h1 h2)⟩
end
section
variable (x : Nat) (s : ByteArray) (r : Int) (x' : Nat) (s' : ByteArray) (r' : Int) (w : World)
theorem Same_k01 (k : Nat) (hk : k = 0 ∨ k = 1) : Calls Tryd.prog 30 #[.agg #[.int .u8 (k : Int), .float .f64 x, .string s, .int .i64 r], .agg #[.int .u8 (k : Int), .float .f64 x', .string s', .int .i64 r']] w fun e w' => e = .returned (.bool true) ∧ Below w.heap.size w w' := by
  rcases hk with rfl | rfl
  all_goals simp only [Int.ofNat_zero, Int.natCast_one]
  · have k1 : ∀ w, Calls Tryd.prog 47 #[.agg #[.int .u8 0, .float .f64 x, .string s, .int .i64 r]] w (fun e w' => e = .returned (.bool false) ∧ Below w.heap.size w w') := fun w => IsObject_v 0 x s r w
    go_enter Tryd.func30, Tryd.ntmps30
    go_wp2_with (go_at_call 47; (with_reducible refine (k1 _).mono ?_); rintro e w1 ⟨rfl, h1⟩; obtain ⟨hc1, hf1⟩ := vcell h1; obtain ⟨hz1, hz2⟩ := vlt2 h1)
    go_ret
    exact ⟨rfl, vafter2 h1⟩
  · have k1 : ∀ w, Calls Tryd.prog 47 #[.agg #[.int .u8 1, .float .f64 x, .string s, .int .i64 r]] w (fun e w' => e = .returned (.bool false) ∧ Below w.heap.size w w') := fun w => IsObject_v 1 x s r w
    go_enter Tryd.func30, Tryd.ntmps30
    go_wp2_with (go_at_call 47; (with_reducible refine (k1 _).mono ?_); rintro e w1 ⟨rfl, h1⟩; obtain ⟨hc1, hf1⟩ := vcell h1; obtain ⟨hz1, hz2⟩ := vlt2 h1)
    go_ret
    exact ⟨rfl, vafter2 h1⟩
theorem Same_k2 : Calls Tryd.prog 30 #[.agg #[.int .u8 2, .float .f64 x, .string s, .int .i64 r], .agg #[.int .u8 2, .float .f64 x', .string s', .int .i64 r']] w fun e w' => e = .returned (.bool (feq x x')) ∧ Below w.heap.size w w' := by
  have k1 : ∀ w, Calls Tryd.prog 47 #[.agg #[.int .u8 2, .float .f64 x, .string s, .int .i64 r]] w (fun e w' => e = .returned (.bool false) ∧ Below w.heap.size w w') := fun w => IsObject_v 2 x s r w
  go_enter Tryd.func30, Tryd.ntmps30
  go_wp2_with (go_at_call 47; (with_reducible refine (k1 _).mono ?_); rintro e w1 ⟨rfl, h1⟩; obtain ⟨hc1, hf1⟩ := vcell h1; obtain ⟨hz1, hz2⟩ := vlt2 h1)
  go_ret
  exact ⟨rfl, vafter2 h1⟩
theorem Same_k3 : Calls Tryd.prog 30 #[.agg #[.int .u8 3, .float .f64 x, .string s, .int .i64 r], .agg #[.int .u8 3, .float .f64 x', .string s', .int .i64 r']] w fun e w' => e = .returned (.bool (feq x x' || (!feq x x && !feq x' x'))) ∧ Below w.heap.size w w' := by
  have k1 : ∀ w, Calls Tryd.prog 47 #[.agg #[.int .u8 3, .float .f64 x, .string s, .int .i64 r]] w (fun e w' => e = .returned (.bool false) ∧ Below w.heap.size w w') := fun w => IsObject_v 3 x s r w
  have n1 : ∀ w, Calls Tryd.prog 48 #[.agg #[.int .u8 3, .float .f64 x, .string s, .int .i64 r]] w (fun e w' => e = .returned (.bool (!feq x x)) ∧ Below w.heap.size w w') := fun w => none_v 3 x s r w
  have n2 : ∀ w, Calls Tryd.prog 48 #[.agg #[.int .u8 3, .float .f64 x', .string s', .int .i64 r']] w (fun e w' => e = .returned (.bool (!feq x' x')) ∧ Below w.heap.size w w') := fun w => none_v 3 x' s' r' w
  have hf : (FloatKind.f64.format.order x x' == some .eq) = feq x x' := rfl
  cases h0 : feq x x'
  · rw [h0] at hf
    cases h1 : feq x x
    · rw [h1] at n1
      clear h0 h1
      go_enter Tryd.func30, Tryd.ntmps30
      go_wp2_with (first | (go_at_call 47; (with_reducible refine (k1 _).mono ?_); rintro e w1 ⟨rfl, h1⟩; obtain ⟨hc1, hf1⟩ := vcell h1; obtain ⟨hz1, hz2⟩ := vlt2 h1) | (go_at_call 48; first | ((with_reducible refine (n1 _).mono ?_); rintro e w2 ⟨rfl, h2⟩; obtain ⟨hc2, hf2⟩ := vcell h2; have hz3 := vltn h2 hz1; have hz4 := vltn h2 hz2) | ((with_reducible refine (n2 _).mono ?_); rintro e w3 ⟨rfl, h3⟩)))
      go_ret
      exact ⟨rfl, vafter2 (vb (vb h1 h2) h3)⟩
    · rw [h1] at n1
      clear h0 h1
      go_enter Tryd.func30, Tryd.ntmps30
      go_wp2_with (first | (go_at_call 47; (with_reducible refine (k1 _).mono ?_); rintro e w1 ⟨rfl, h1⟩; obtain ⟨hc1, hf1⟩ := vcell h1; obtain ⟨hz1, hz2⟩ := vlt2 h1) | (go_at_call 48; (with_reducible refine (n1 _).mono ?_); rintro e w2 ⟨rfl, h2⟩; obtain ⟨hc2, hf2⟩ := vcell h2; have hz3 := vltn h2 hz1; have hz4 := vltn h2 hz2))
      go_ret
      exact ⟨rfl, vafter2 (vb h1 h2)⟩
  · rw [h0] at hf
    clear h0
    go_enter Tryd.func30, Tryd.ntmps30
    go_wp2_with (go_at_call 47; (with_reducible refine (k1 _).mono ?_); rintro e w1 ⟨rfl, h1⟩; obtain ⟨hc1, hf1⟩ := vcell h1; obtain ⟨hz1, hz2⟩ := vlt2 h1)
    go_ret
    exact ⟨rfl, vafter2 h1⟩
theorem Same_k4 : Calls Tryd.prog 30 #[.agg #[.int .u8 4, .float .f64 x, .string s, .int .i64 r], .agg #[.int .u8 4, .float .f64 x', .string s', .int .i64 r']] w fun e w' => e = .returned (.bool (s.data.toList == s'.data.toList)) ∧ Below w.heap.size w w' := by
  have k1 : ∀ w, Calls Tryd.prog 47 #[.agg #[.int .u8 4, .float .f64 x, .string s, .int .i64 r]] w (fun e w' => e = .returned (.bool false) ∧ Below w.heap.size w w') := fun w => IsObject_v 4 x s r w
  go_enter Tryd.func30, Tryd.ntmps30
  go_wp2_with (go_at_call 47; (with_reducible refine (k1 _).mono ?_); rintro e w1 ⟨rfl, h1⟩; obtain ⟨hc1, hf1⟩ := vcell h1; obtain ⟨hz1, hz2⟩ := vlt2 h1)
  go_ret
  exact ⟨ret_bool (by simp [toList_data]), vafter2 h1⟩
theorem Same_k5 : Calls Tryd.prog 30 #[.agg #[.int .u8 5, .float .f64 x, .string s, .int .i64 r], .agg #[.int .u8 5, .float .f64 x', .string s', .int .i64 r']] w fun e w' => e = .returned (.bool (r == r')) ∧ Below w.heap.size w w' := by
  have k1 : ∀ w, Calls Tryd.prog 47 #[.agg #[.int .u8 5, .float .f64 x, .string s, .int .i64 r]] w (fun e w' => e = .returned (.bool false) ∧ Below w.heap.size w w') := fun w => IsObject_v 5 x s r w
  go_enter Tryd.func30, Tryd.ntmps30
  go_wp2_with (go_at_call 47; (with_reducible refine (k1 _).mono ?_); rintro e w1 ⟨rfl, h1⟩; obtain ⟨hc1, hf1⟩ := vcell h1; obtain ⟨hz1, hz2⟩ := vlt2 h1)
  go_ret
  exact ⟨rfl, vafter2 h1⟩
end
/-- of any values whose kinds there are -/
theorem Same_any (k x : Nat) (s : ByteArray) (r : Int) (k' x' : Nat) (s' : ByteArray) (r' : Int) (hk : k ≤ 8) (w : World) : Calls Tryd.prog 30 #[.agg #[.int .u8 (k : Int), .float .f64 x, .string s, .int .i64 r], .agg #[.int .u8 (k' : Int), .float .f64 x', .string s', .int .i64 r']] w fun e w' => e = .returned (.bool (sameG k x s r k' x' s' r')) ∧ Below w.heap.size w w' := by
  unfold sameG
  cases ho : (objB k && objB k')
  · rw [if_neg (by decide)]
    by_cases hne : k ≠ k'
    · rw [if_pos hne]
      exact Same_ne _ _ _ _ _ _ _ _ _ ho hne
    · rw [if_neg hne]
      obtain rfl : k = k' := Classical.not_not.1 hne
      rw [Bool.and_self] at ho
      have h5 : k = 0 ∨ k = 1 ∨ k = 2 ∨ k = 3 ∨ k = 4 ∨ k = 5 := by
        have h6 : k ≠ 6 := fun e => by rw [e] at ho; cases ho
        have h7 : k ≠ 7 := fun e => by rw [e] at ho; cases ho
        have h8 : k ≠ 8 := fun e => by rw [e] at ho; cases ho
        omega
      rcases h5 with rfl | rfl | rfl | rfl | rfl | rfl
      · exact Same_k01 _ _ _ _ _ _ _ 0 (.inl rfl)
      · exact Same_k01 _ _ _ _ _ _ _ 1 (.inr rfl)
      · exact Same_k2 _ _ _ _ _ _ _
      · exact Same_k3 _ _ _ _ _ _ _
      · exact Same_k4 _ _ _ _ _ _ _
      · exact Same_k5 _ _ _ _ _ _ _
  · rw [if_pos rfl]
    rw [Bool.and_eq_true] at ho
    exact Same_obj _ _ _ _ _ _ _ _ _ ho.1 ho.2
end Go.Proofs.YtlgbnfcnimjheaaDoor.S
/-
  value.May: walks, for any value.
-/
namespace Go.Proofs.YtlgbnfcnimjheaaDoor.S
open Go.RowKit Fl

structure NoK (k : Nat) : Prop where
  n0 : ((k : Int) == 0) = false
  n1 : ((k : Int) == 1) = false
  n2 : ((k : Int) == 2) = false
  n3 : ((k : Int) == 3) = false
  n4 : ((k : Int) == 4) = false
  n5 : ((k : Int) == 5) = false
  n6 : ((k : Int) == 6) = false
  n7 : ((k : Int) == 7) = false
  n8 : ((k : Int) == 8) = false
theorem kinds_all (k : Nat) : k = 0 ∨ k = 1 ∨ k = 2 ∨ k = 3 ∨ k = 4 ∨ k = 5 ∨ k = 6 ∨ k = 7 ∨ k = 8 ∨ NoK k := by
  by_cases h : k ≤ 8
  · omega
  · have : NoK k := by constructor <;> (rw [beq_eq_false_iff_ne]; omega)
    simp [this]
theorem veq_float (d : Nat) (a b : Nat) (w : World) : (Op.equalIn (d + 1) 28 (.float .f64 a) (.float .f64 b)).run Tryd.prog w = .ok (feq a b) w := by
  simp [Op.equalIn, run_underlying Tryd.underlying28]; rfl

section
variable (x : Nat) (s : ByteArray) (r : Int) (w : World)
/-- what stands beside the field of a kind -/
theorem beside_same (k : Nat) (h2 : ((k : Int) == 2) = false) (h3 : ((k : Int) == 3) = false) (h4 : ((k : Int) == 4) = false) (h5 : ((k : Int) == 5) = false) (ho : objB k = false) :
    Calls Tryd.prog 43 #[.agg #[.int .u8 (k : Int), .float .f64 x, .string s, .int .i64 r]] w fun e w' => e = .returned (.agg #[.int .u8 (k : Int), .float .f64 x, .string s, .int .i64 r]) ∧ Below w.heap.size w w' := by
  have k1 := fun w => IsObject_v k x s r w
  rw [ho] at k1
  clear ho
  have hst := vstore
  go_enter Tryd.func43, Tryd.ntmps43
  go_wp2_with (go_at_call 47; (with_reducible refine (k1 _).mono ?_); rintro e w1 ⟨rfl, h1⟩; obtain ⟨hc1, hf1⟩ := vcell h1; obtain ⟨hz1, hz2⟩ := vlt2 h1)
  exact val_end Tryd.results43 rfl (vset4 (vblk2 h1).2 _ _ _ _) ⟨rfl, vbel4 (vafter2 h1) (Nat.le_succ _) _ _ _ _⟩
theorem beside_k2 : Calls Tryd.prog 43 #[.agg #[.int .u8 2, .float .f64 x, .string s, .int .i64 r]] w fun e w' => e = .returned (.agg #[.int .u8 2, .float .f64 0, .string s, .int .i64 r]) ∧ Below w.heap.size w w' := by
  have hst := vstore
  go_enter Tryd.func43, Tryd.ntmps43
  go_wp2_with (fail)
  exact val_end Tryd.results43 rfl (vblk2 (Below.refl _ _)).2 ⟨rfl, vafter2 (Below.refl _ _)⟩
theorem beside_k3 : Calls Tryd.prog 43 #[.agg #[.int .u8 3, .float .f64 x, .string s, .int .i64 r]] w fun e w' => e = .returned (.agg #[.int .u8 3, .float .f64 0, .string s, .int .i64 r]) ∧ Below w.heap.size w w' := by
  have hst := vstore
  go_enter Tryd.func43, Tryd.ntmps43
  go_wp2_with (fail)
  exact val_end Tryd.results43 rfl (vblk2 (Below.refl _ _)).2 ⟨rfl, vafter2 (Below.refl _ _)⟩
theorem beside_k4 : Calls Tryd.prog 43 #[.agg #[.int .u8 4, .float .f64 x, .string s, .int .i64 r]] w fun e w' => e = .returned (.agg #[.int .u8 4, .float .f64 x, .string ⟨#[]⟩, .int .i64 r]) ∧ Below w.heap.size w w' := by
  have hst := vstore
  go_enter Tryd.func43, Tryd.ntmps43
  go_wp2_with (fail)
  exact val_end Tryd.results43 rfl (vblk2 (Below.refl _ _)).2 ⟨rfl, vafter2 (Below.refl _ _)⟩
theorem beside_k5 : Calls Tryd.prog 43 #[.agg #[.int .u8 5, .float .f64 x, .string s, .int .i64 r]] w fun e w' => e = .returned (.agg #[.int .u8 5, .float .f64 x, .string s, .int .i64 0]) ∧ Below w.heap.size w w' := by
  have hst := vstore
  go_enter Tryd.func43, Tryd.ntmps43
  go_wp2_with (fail)
  exact val_end Tryd.results43 rfl (vblk2 (Below.refl _ _)).2 ⟨rfl, vafter2 (Below.refl _ _)⟩
theorem beside_obj (k : Nat) (h2 : ((k : Int) == 2) = false) (h3 : ((k : Int) == 3) = false) (h4 : ((k : Int) == 4) = false) (h5 : ((k : Int) == 5) = false) (ho : objB k = true) :
    Calls Tryd.prog 43 #[.agg #[.int .u8 (k : Int), .float .f64 x, .string s, .int .i64 r]] w fun e w' => e = .returned (.agg #[.int .u8 (k : Int), .float .f64 x, .string s, .int .i64 0]) ∧ Below w.heap.size w w' := by
  have k1 := fun w => IsObject_v k x s r w
  rw [ho] at k1
  clear ho
  have hst := vstore
  go_enter Tryd.func43, Tryd.ntmps43
  go_wp2_with (go_at_call 47; (with_reducible refine (k1 _).mono ?_); rintro e w1 ⟨rfl, h1⟩; obtain ⟨hc1, hf1⟩ := vcell h1; obtain ⟨hz1, hz2⟩ := vlt2 h1; obtain ⟨b1, b2⟩ := vblk2 h1; have c0 : w1.cell? ⟨w.heap.size, 0, none⟩ = some (.int .u8 (k : Int)) := vcells b1 0; have c1 : w1.cell? ⟨w.heap.size, 1, none⟩ = some (.float .f64 x) := vcells b1 1; have c2 : w1.cell? ⟨w.heap.size, 2, none⟩ = some (.string s) := vcells b1 2; have c3 : w1.cell? ⟨w.heap.size, 3, none⟩ = some (.int .i64 r) := vcells b1 3)
  exact val_end Tryd.results43 rfl (vset4 ((vset1o b2 (by omega) 3 _)) _ _ _ _) ⟨rfl, vbel4 ((vafter2 h1).setCell (p := ⟨w.heap.size, 3, none⟩) (Nat.le_refl _) _) (Nat.le_succ _) _ _ _ _⟩
end
end Go.Proofs.YtlgbnfcnimjheaaDoor.S
/-
  value.May: walks, for any value.
-/
namespace Go.Proofs.YtlgbnfcnimjheaaDoor.S
open Go.RowKit Fl

section
variable (x : Nat) (s : ByteArray) (r : Int) (w : World)
theorem fits_k0 : Calls Tryd.prog 44 #[.agg #[.int .u8 0, .float .f64 x, .string s, .int .i64 r]] w fun e w' => e = .returned (.bool true) ∧ Below w.heap.size w w' := by
  go_enter Tryd.func44, Tryd.ntmps44
  go_wp2_with (fail)
  go_ret
  exact ⟨rfl, vafter (Below.refl _ _)⟩
theorem fits_k1 : Calls Tryd.prog 44 #[.agg #[.int .u8 1, .float .f64 x, .string s, .int .i64 r]] w fun e w' => e = .returned (.bool true) ∧ Below w.heap.size w w' := by
  go_enter Tryd.func44, Tryd.ntmps44
  go_wp2_with (fail)
  go_ret
  exact ⟨rfl, vafter (Below.refl _ _)⟩
theorem fits_k2 : Calls Tryd.prog 44 #[.agg #[.int .u8 2, .float .f64 x, .string s, .int .i64 r]] w fun e w' => e = .returned (.bool (feq x 0 || feq x 4607182418800017408)) ∧ Below w.heap.size w w' := by
  have hf : (FloatKind.f64.format.order x 0 == some .eq) = feq x 0 := rfl
  cases h0 : feq x 0
  all_goals
    rw [h0] at hf
    clear h0
    go_enter Tryd.func44, Tryd.ntmps44
    go_wp2_with (fail)
    go_ret
    exact ⟨rfl, vafter (Below.refl _ _)⟩
theorem fits_k3 {c : Cl} (hx : Is c x) : Calls Tryd.prog 44 #[.agg #[.int .u8 3, .float .f64 x, .string s, .int .i64 r]] w fun e w' => e = .returned (.bool (mayC c)) ∧ Below w.heap.size w w' := by
  have km := fun w => May_cls hx w
  generalize mayC c = b at *
  clear hx
  go_enter Tryd.func44, Tryd.ntmps44
  go_wp2_with (go_at_call 71; (with_reducible refine (km _).mono ?_); rintro e w1 ⟨rfl, rfl⟩)
  go_ret
  exact ⟨rfl, vafter (Below.refl _ _)⟩
theorem fits_k4 : Calls Tryd.prog 44 #[.agg #[.int .u8 4, .float .f64 x, .string s, .int .i64 r]] w fun e w' => e = .returned (.bool (decide ((s.size : Int) ≤ 4096))) ∧ Below w.heap.size w w' := by
  go_enter Tryd.func44, Tryd.ntmps44
  go_wp2_with (fail)
  go_ret
  exact ⟨ret_bool (by simp), vafter (Below.refl _ _)⟩
theorem fits_k5 : Calls Tryd.prog 44 #[.agg #[.int .u8 5, .float .f64 x, .string s, .int .i64 r]] w fun e w' => e = .returned (.bool (decide (0 ≤ r))) ∧ Below w.heap.size w w' := by
  go_enter Tryd.func44, Tryd.ntmps44
  go_wp2_with (fail)
  go_ret
  exact ⟨ret_bool (by simp), vafter (Below.refl _ _)⟩
theorem fits_obj (k : Nat) (h0 : ((k : Int) == 0) = false) (h1 : ((k : Int) == 1) = false) (h2 : ((k : Int) == 2) = false) (h3 : ((k : Int) == 3) = false) (h4 : ((k : Int) == 4) = false) (h5 : ((k : Int) == 5) = false) :
    Calls Tryd.prog 44 #[.agg #[.int .u8 (k : Int), .float .f64 x, .string s, .int .i64 r]] w fun e w' => e = .returned (.bool (objB k && decide (0 ≤ r))) ∧ Below w.heap.size w w' := by
  have k1 := fun w => IsObject_v k x s r w
  cases ho : objB k
  all_goals
    rw [ho] at k1
    clear ho
    go_enter Tryd.func44, Tryd.ntmps44
    go_wp2_with (go_at_call 47; (with_reducible refine (k1 _).mono ?_); rintro e w1 ⟨rfl, h1⟩; obtain ⟨hc1, hf1⟩ := vcell h1; have hz1 := vlt1 h1)
    go_ret
    exact ⟨ret_bool (by simp), vafter h1⟩
/-- what a value beside the field of its kind must be -/
def restB (x : Nat) (s : ByteArray) (r : Int) : Bool := feq x 0 && s.toList.isEmpty && r == 0 && !sgn x
theorem May_k0 (hx : x < 2 ^ 64) : Calls Tryd.prog 23 #[.agg #[.int .u8 0, .float .f64 x, .string s, .int .i64 r]] w fun e w' => e = .returned (.bool ((true) && restB x s r)) ∧ Below w.heap.size w w' := by
  have k1 : ∀ w, Calls Tryd.prog 43 #[.agg #[.int .u8 0, .float .f64 x, .string s, .int .i64 r]] w (fun e w' => e = .returned (.agg #[.int .u8 0, .float .f64 x, .string s, .int .i64 r]) ∧ Below w.heap.size w w') := fun w => beside_same x s r w 0 rfl rfl rfl rfl rfl
  have k2 : ∀ w, Calls Tryd.prog 44 #[.agg #[.int .u8 0, .float .f64 x, .string s, .int .i64 r]] w (fun e w' => e = .returned (.bool (true)) ∧ Below w.heap.size w w') := fun w => fits_k0 x s r w
  have k3 := fun w => Signbit_any x w hx
  have hv := fun w => veq_float 9998 x 0 w
  have hst := vstore
  have z3 : (⟨#[]⟩ : ByteArray).toList = [] := by rw [toList_data]
  go_enter Tryd.func23, Tryd.ntmps23
  go_wp2_with (first | (go_at_call 43; (with_reducible refine (k1 _).mono ?_); rintro e w1 ⟨rfl, h1⟩; obtain ⟨hc1, hf1⟩ := vcell h1; have hz1 := vlt1 h1) | (go_at_call 44; (with_reducible refine (k2 _).mono ?_); rintro e w2 ⟨rfl, h2⟩; obtain ⟨hc2, hf2⟩ := vcell h2; have hz2 := vlt1 h2; have hz3 := Nat.lt_trans hz1 hz2) | (go_at_call 45; (with_reducible refine (k3 _).mono ?_); rintro e w3 ⟨rfl, rfl⟩))
  all_goals (go_ret; exact ⟨ret_bool (by simp [restB, *]), vb (vafter h1) (vafter h2)⟩)
theorem May_k1 (hx : x < 2 ^ 64) : Calls Tryd.prog 23 #[.agg #[.int .u8 1, .float .f64 x, .string s, .int .i64 r]] w fun e w' => e = .returned (.bool ((true) && restB x s r)) ∧ Below w.heap.size w w' := by
  have k1 : ∀ w, Calls Tryd.prog 43 #[.agg #[.int .u8 1, .float .f64 x, .string s, .int .i64 r]] w (fun e w' => e = .returned (.agg #[.int .u8 1, .float .f64 x, .string s, .int .i64 r]) ∧ Below w.heap.size w w') := fun w => beside_same x s r w 1 rfl rfl rfl rfl rfl
  have k2 : ∀ w, Calls Tryd.prog 44 #[.agg #[.int .u8 1, .float .f64 x, .string s, .int .i64 r]] w (fun e w' => e = .returned (.bool (true)) ∧ Below w.heap.size w w') := fun w => fits_k1 x s r w
  have k3 := fun w => Signbit_any x w hx
  have hv := fun w => veq_float 9998 x 0 w
  have hst := vstore
  have z3 : (⟨#[]⟩ : ByteArray).toList = [] := by rw [toList_data]
  go_enter Tryd.func23, Tryd.ntmps23
  go_wp2_with (first | (go_at_call 43; (with_reducible refine (k1 _).mono ?_); rintro e w1 ⟨rfl, h1⟩; obtain ⟨hc1, hf1⟩ := vcell h1; have hz1 := vlt1 h1) | (go_at_call 44; (with_reducible refine (k2 _).mono ?_); rintro e w2 ⟨rfl, h2⟩; obtain ⟨hc2, hf2⟩ := vcell h2; have hz2 := vlt1 h2; have hz3 := Nat.lt_trans hz1 hz2) | (go_at_call 45; (with_reducible refine (k3 _).mono ?_); rintro e w3 ⟨rfl, rfl⟩))
  all_goals (go_ret; exact ⟨ret_bool (by simp [restB, *]), vb (vafter h1) (vafter h2)⟩)
theorem May_k2 : Calls Tryd.prog 23 #[.agg #[.int .u8 2, .float .f64 x, .string s, .int .i64 r]] w fun e w' => e = .returned (.bool ((feq x 0 || feq x 4607182418800017408) && restB 0 s r)) ∧ Below w.heap.size w w' := by
  have k1 : ∀ w, Calls Tryd.prog 43 #[.agg #[.int .u8 2, .float .f64 x, .string s, .int .i64 r]] w (fun e w' => e = .returned (.agg #[.int .u8 2, .float .f64 0, .string s, .int .i64 r]) ∧ Below w.heap.size w w') := fun w => beside_k2 x s r w
  have k2 : ∀ w, Calls Tryd.prog 44 #[.agg #[.int .u8 2, .float .f64 x, .string s, .int .i64 r]] w (fun e w' => e = .returned (.bool (feq x 0 || feq x 4607182418800017408)) ∧ Below w.heap.size w w') := fun w => fits_k2 x s r w
  have k3 : ∀ w, Calls Tryd.prog 45 #[.float .f64 0] w (fun e w' => e = .returned (.bool false) ∧ w = w') := fun w => Signbit_any 0 w (by decide)
  have hv : ∀ w, (Op.equalIn (9998 + 1) 28 (.float .f64 0) (.float .f64 0)).run Tryd.prog w = .ok true w := fun w => veq_float 9998 0 0 w
  have z1 : feq 0 0 = true := by decide
  have z2 : sgn 0 = false := by decide
  have hst := vstore
  have z3 : (⟨#[]⟩ : ByteArray).toList = [] := by rw [toList_data]
  cases hfit : (feq x 0 || feq x 4607182418800017408)
  all_goals
    rw [hfit] at k2
    try clear hfit
    go_enter Tryd.func23, Tryd.ntmps23
    go_wp2_with (first | (go_at_call 43; (with_reducible refine (k1 _).mono ?_); rintro e w1 ⟨rfl, h1⟩; obtain ⟨hc1, hf1⟩ := vcell h1; have hz1 := vlt1 h1) | (go_at_call 44; (with_reducible refine (k2 _).mono ?_); rintro e w2 ⟨rfl, h2⟩; obtain ⟨hc2, hf2⟩ := vcell h2; have hz2 := vlt1 h2; have hz3 := Nat.lt_trans hz1 hz2) | (go_at_call 45; (with_reducible refine (k3 _).mono ?_); rintro e w3 ⟨rfl, rfl⟩))
    all_goals (go_ret; exact ⟨ret_bool (by simp [restB, *]), vb (vafter h1) (vafter h2)⟩)
theorem May_k3 {c : Cl} (hc : Is c x) : Calls Tryd.prog 23 #[.agg #[.int .u8 3, .float .f64 x, .string s, .int .i64 r]] w fun e w' => e = .returned (.bool ((mayC c) && restB 0 s r)) ∧ Below w.heap.size w w' := by
  have k1 : ∀ w, Calls Tryd.prog 43 #[.agg #[.int .u8 3, .float .f64 x, .string s, .int .i64 r]] w (fun e w' => e = .returned (.agg #[.int .u8 3, .float .f64 0, .string s, .int .i64 r]) ∧ Below w.heap.size w w') := fun w => beside_k3 x s r w
  have k2 : ∀ w, Calls Tryd.prog 44 #[.agg #[.int .u8 3, .float .f64 x, .string s, .int .i64 r]] w (fun e w' => e = .returned (.bool (mayC c)) ∧ Below w.heap.size w w') := fun w => fits_k3 x s r w hc
  have k3 : ∀ w, Calls Tryd.prog 45 #[.float .f64 0] w (fun e w' => e = .returned (.bool false) ∧ w = w') := fun w => Signbit_any 0 w (by decide)
  have hv : ∀ w, (Op.equalIn (9998 + 1) 28 (.float .f64 0) (.float .f64 0)).run Tryd.prog w = .ok true w := fun w => veq_float 9998 0 0 w
  have z1 : feq 0 0 = true := by decide
  have z2 : sgn 0 = false := by decide
  have hst := vstore
  have z3 : (⟨#[]⟩ : ByteArray).toList = [] := by rw [toList_data]
  cases hfit : (mayC c)
  all_goals
    rw [hfit] at k2
    try clear hfit
    go_enter Tryd.func23, Tryd.ntmps23
    go_wp2_with (first | (go_at_call 43; (with_reducible refine (k1 _).mono ?_); rintro e w1 ⟨rfl, h1⟩; obtain ⟨hc1, hf1⟩ := vcell h1; have hz1 := vlt1 h1) | (go_at_call 44; (with_reducible refine (k2 _).mono ?_); rintro e w2 ⟨rfl, h2⟩; obtain ⟨hc2, hf2⟩ := vcell h2; have hz2 := vlt1 h2; have hz3 := Nat.lt_trans hz1 hz2) | (go_at_call 45; (with_reducible refine (k3 _).mono ?_); rintro e w3 ⟨rfl, rfl⟩))
    all_goals (go_ret; exact ⟨ret_bool (by simp [restB, *]), vb (vafter h1) (vafter h2)⟩)
theorem May_k4 (hx : x < 2 ^ 64) : Calls Tryd.prog 23 #[.agg #[.int .u8 4, .float .f64 x, .string s, .int .i64 r]] w fun e w' => e = .returned (.bool ((decide ((s.size : Int) ≤ 4096)) && restB x ⟨#[]⟩ r)) ∧ Below w.heap.size w w' := by
  have k1 : ∀ w, Calls Tryd.prog 43 #[.agg #[.int .u8 4, .float .f64 x, .string s, .int .i64 r]] w (fun e w' => e = .returned (.agg #[.int .u8 4, .float .f64 x, .string ⟨#[]⟩, .int .i64 r]) ∧ Below w.heap.size w w') := fun w => beside_k4 x s r w
  have k2 : ∀ w, Calls Tryd.prog 44 #[.agg #[.int .u8 4, .float .f64 x, .string s, .int .i64 r]] w (fun e w' => e = .returned (.bool (decide ((s.size : Int) ≤ 4096))) ∧ Below w.heap.size w w') := fun w => fits_k4 x s r w
  have k3 := fun w => Signbit_any x w hx
  have hv := fun w => veq_float 9998 x 0 w
  have hst := vstore
  have z3 : (⟨#[]⟩ : ByteArray).toList = [] := by rw [toList_data]
  cases hfit : (decide ((s.size : Int) ≤ 4096))
  all_goals
    rw [hfit] at k2
    try clear hfit
    go_enter Tryd.func23, Tryd.ntmps23
    go_wp2_with (first | (go_at_call 43; (with_reducible refine (k1 _).mono ?_); rintro e w1 ⟨rfl, h1⟩; obtain ⟨hc1, hf1⟩ := vcell h1; have hz1 := vlt1 h1) | (go_at_call 44; (with_reducible refine (k2 _).mono ?_); rintro e w2 ⟨rfl, h2⟩; obtain ⟨hc2, hf2⟩ := vcell h2; have hz2 := vlt1 h2; have hz3 := Nat.lt_trans hz1 hz2) | (go_at_call 45; (with_reducible refine (k3 _).mono ?_); rintro e w3 ⟨rfl, rfl⟩))
    all_goals (go_ret; exact ⟨ret_bool (by simp [restB, *]), vb (vafter h1) (vafter h2)⟩)
theorem May_k5 (hx : x < 2 ^ 64) : Calls Tryd.prog 23 #[.agg #[.int .u8 5, .float .f64 x, .string s, .int .i64 r]] w fun e w' => e = .returned (.bool ((decide (0 ≤ r)) && restB x s 0)) ∧ Below w.heap.size w w' := by
  have k1 : ∀ w, Calls Tryd.prog 43 #[.agg #[.int .u8 5, .float .f64 x, .string s, .int .i64 r]] w (fun e w' => e = .returned (.agg #[.int .u8 5, .float .f64 x, .string s, .int .i64 0]) ∧ Below w.heap.size w w') := fun w => beside_k5 x s r w
  have k2 : ∀ w, Calls Tryd.prog 44 #[.agg #[.int .u8 5, .float .f64 x, .string s, .int .i64 r]] w (fun e w' => e = .returned (.bool (decide (0 ≤ r))) ∧ Below w.heap.size w w') := fun w => fits_k5 x s r w
  have k3 := fun w => Signbit_any x w hx
  have hv := fun w => veq_float 9998 x 0 w
  have hst := vstore
  have z3 : (⟨#[]⟩ : ByteArray).toList = [] := by rw [toList_data]
  cases hfit : (decide (0 ≤ r))
  all_goals
    rw [hfit] at k2
    try clear hfit
    go_enter Tryd.func23, Tryd.ntmps23
    go_wp2_with (first | (go_at_call 43; (with_reducible refine (k1 _).mono ?_); rintro e w1 ⟨rfl, h1⟩; obtain ⟨hc1, hf1⟩ := vcell h1; have hz1 := vlt1 h1) | (go_at_call 44; (with_reducible refine (k2 _).mono ?_); rintro e w2 ⟨rfl, h2⟩; obtain ⟨hc2, hf2⟩ := vcell h2; have hz2 := vlt1 h2; have hz3 := Nat.lt_trans hz1 hz2) | (go_at_call 45; (with_reducible refine (k3 _).mono ?_); rintro e w3 ⟨rfl, rfl⟩))
    all_goals (go_ret; exact ⟨ret_bool (by simp [restB, *]), vb (vafter h1) (vafter h2)⟩)
theorem May_obj (k : Nat) (hx : x < 2 ^ 64) (g0 : ((k : Int) == 0) = false) (g1 : ((k : Int) == 1) = false) (g2 : ((k : Int) == 2) = false) (g3 : ((k : Int) == 3) = false) (g4 : ((k : Int) == 4) = false) (g5 : ((k : Int) == 5) = false) (ho : objB k = true) : Calls Tryd.prog 23 #[.agg #[.int .u8 (k : Int), .float .f64 x, .string s, .int .i64 r]] w fun e w' => e = .returned (.bool ((decide (0 ≤ r)) && restB x s 0)) ∧ Below w.heap.size w w' := by
  have k1 : ∀ w, Calls Tryd.prog 43 #[.agg #[.int .u8 (k : Int), .float .f64 x, .string s, .int .i64 r]] w (fun e w' => e = .returned (.agg #[.int .u8 (k : Int), .float .f64 x, .string s, .int .i64 0]) ∧ Below w.heap.size w w') := fun w => beside_obj x s r w k g2 g3 g4 g5 ho
  have k2 : ∀ w, Calls Tryd.prog 44 #[.agg #[.int .u8 (k : Int), .float .f64 x, .string s, .int .i64 r]] w (fun e w' => e = .returned (.bool (decide (0 ≤ r))) ∧ Below w.heap.size w w') := fun w => by have h := fits_obj x s r w k g0 g1 g2 g3 g4 g5; rw [ho] at h; exact h
  have k3 := fun w => Signbit_any x w hx
  have hv := fun w => veq_float 9998 x 0 w
  have hst := vstore
  have z3 : (⟨#[]⟩ : ByteArray).toList = [] := by rw [toList_data]
  cases hfit : (decide (0 ≤ r))
  all_goals
    rw [hfit] at k2
    try clear hfit
    go_enter Tryd.func23, Tryd.ntmps23
    go_wp2_with (first | (go_at_call 43; (with_reducible refine (k1 _).mono ?_); rintro e w1 ⟨rfl, h1⟩; obtain ⟨hc1, hf1⟩ := vcell h1; have hz1 := vlt1 h1) | (go_at_call 44; (with_reducible refine (k2 _).mono ?_); rintro e w2 ⟨rfl, h2⟩; obtain ⟨hc2, hf2⟩ := vcell h2; have hz2 := vlt1 h2; have hz3 := Nat.lt_trans hz1 hz2) | (go_at_call 45; (with_reducible refine (k3 _).mono ?_); rintro e w3 ⟨rfl, rfl⟩))
    all_goals (go_ret; exact ⟨ret_bool (by simp [restB, *]), vb (vafter h1) (vafter h2)⟩)
theorem May_no (k : Nat) (hx : x < 2 ^ 64) (g0 : ((k : Int) == 0) = false) (g1 : ((k : Int) == 1) = false) (g2 : ((k : Int) == 2) = false) (g3 : ((k : Int) == 3) = false) (g4 : ((k : Int) == 4) = false) (g5 : ((k : Int) == 5) = false) (ho : objB k = false) : Calls Tryd.prog 23 #[.agg #[.int .u8 (k : Int), .float .f64 x, .string s, .int .i64 r]] w fun e w' => e = .returned (.bool ((false) && restB x s r)) ∧ Below w.heap.size w w' := by
  have k1 : ∀ w, Calls Tryd.prog 43 #[.agg #[.int .u8 (k : Int), .float .f64 x, .string s, .int .i64 r]] w (fun e w' => e = .returned (.agg #[.int .u8 (k : Int), .float .f64 x, .string s, .int .i64 r]) ∧ Below w.heap.size w w') := fun w => beside_same x s r w k g2 g3 g4 g5 ho
  have k2 : ∀ w, Calls Tryd.prog 44 #[.agg #[.int .u8 (k : Int), .float .f64 x, .string s, .int .i64 r]] w (fun e w' => e = .returned (.bool (false)) ∧ Below w.heap.size w w') := fun w => by have h := fits_obj x s r w k g0 g1 g2 g3 g4 g5; rw [ho] at h; exact h
  have k3 := fun w => Signbit_any x w hx
  have hv := fun w => veq_float 9998 x 0 w
  have hst := vstore
  have z3 : (⟨#[]⟩ : ByteArray).toList = [] := by rw [toList_data]
  cases hfit : (false)
  all_goals
    rw [hfit] at k2
    try clear hfit
    go_enter Tryd.func23, Tryd.ntmps23
    go_wp2_with (first | (go_at_call 43; (with_reducible refine (k1 _).mono ?_); rintro e w1 ⟨rfl, h1⟩; obtain ⟨hc1, hf1⟩ := vcell h1; have hz1 := vlt1 h1) | (go_at_call 44; (with_reducible refine (k2 _).mono ?_); rintro e w2 ⟨rfl, h2⟩; obtain ⟨hc2, hf2⟩ := vcell h2; have hz2 := vlt1 h2; have hz3 := Nat.lt_trans hz1 hz2) | (go_at_call 45; (with_reducible refine (k3 _).mono ?_); rintro e w3 ⟨rfl, rfl⟩))
    all_goals (go_ret; exact ⟨ret_bool (by simp [restB, *]), vb (vafter h1) (vafter h2)⟩)
end
end Go.Proofs.YtlgbnfcnimjheaaDoor.S
/-
  value.May of any value: what may be is one of nine shapes.
-/
namespace Go.Proofs.YtlgbnfcnimjheaaDoor.S
open Go.RowKit Fl

theorem feq_F {x : Nat} {m : Int} (hx : x < 2 ^ 64) (hm : SafeN m) (h : feq x (F m) = true) : x = F m ∨ (x = 2 ^ 63 ∧ m = 0) := by
  obtain ⟨c, hc⟩ := cls x hx
  have h : FloatKind.f64.format.order x (F m) = some .eq := by unfold feq at h; exact eq_of_beq h
  have h : Ieee.double.order x (F m) = some .eq := h
  cases c with
  | nan => rw [order_nan_l _ hc.2] at h; cases h
  | other =>
    obtain ⟨_, g | g | g⟩ := hc
    · rw [(order_big g m hm.abs).1] at h
      have h := Option.some.inj h
      split at h <;> cases h
    · exact absurd h (order_frac g m hm.abs).1
    · subst g
      rw [(order_m0 m hm.abs).1] at h
      have h : compare 0 m = .eq := Option.some.inj h
      have h : 0 = m := Int.compare_eq_eq.1 h
      exact .inr ⟨rfl, h.symm⟩
  | ours n =>
    obtain ⟨rfl, hs⟩ := hc
    rw [order_F n m hs.abs hm.abs] at h
    have h : compare n m = .eq := Option.some.inj h
    have h : n = m := Int.compare_eq_eq.1 h
    subst h
    exact .inl rfl
theorem rest_of {x : Nat} {s : ByteArray} {r : Int} (hx : x < 2 ^ 64) (h : restB x s r = true) : x = 0 ∧ s = ⟨#[]⟩ ∧ r = 0 := by
  unfold restB at h
  simp only [Bool.and_eq_true, Bool.not_eq_true', List.isEmpty_iff, beq_iff_eq] at h
  obtain ⟨⟨⟨h1, h2⟩, h3⟩, h4⟩ := h
  refine ⟨?_, ?_, h3⟩
  · rcases feq_F (m := 0) hx (by unfold SafeN; omega) (by rw [F_zero]; exact h1) with e | ⟨e, _⟩
    · rw [e, F_zero]
    · rw [e] at h4; exact absurd h4 (by decide)
  · rw [toList_data] at h2
    exact bytes_ext h2
/-- what value.May comes to -/
def MayTo (k x : Nat) (s : ByteArray) (r : Int) (w : World) (e : Ending) (w' : World) : Prop :=
  ∃ b, e = .returned (.bool b) ∧ Below w.heap.size w w' ∧ (b = true → ∃ v : Vl, v.ok ∧ v.kd = k ∧ v.fl = x ∧ v.st = s ∧ v.rf = r)
theorem may_of {k x : Nat} {s : ByteArray} {r : Int} {w : World} {b : Bool} {e : Ending} {w' : World} (h : e = .returned (.bool b) ∧ Below w.heap.size w w') (g : b = true → ∃ v : Vl, v.ok ∧ v.kd = k ∧ v.fl = x ∧ v.st = s ∧ v.rf = r) : MayTo k x s r w e w' := ⟨b, h.1, h.2, g⟩
theorem May_any (k x : Nat) (s : ByteArray) (r : Int) (w : World) (hx : x < 2 ^ 64) (hr : r < 2 ^ 63) : Calls Tryd.prog 23 #[.agg #[.int .u8 (k : Int), .float .f64 x, .string s, .int .i64 r]] w (MayTo k x s r w) := by
  have e0 := kd_eq k 0
  have e1 := kd_eq k 1
  have e2 := kd_eq k 2
  have e3 := kd_eq k 3
  have e4 := kd_eq k 4
  have e5 := kd_eq k 5
  by_cases c0 : k = 0
  · subst c0
    refine (May_k0 x s r w hx).mono fun e w' h => may_of h fun hb => ?_
    obtain ⟨rfl, rfl, rfl⟩ := rest_of hx hb
    exact ⟨.und, trivial, rfl, rfl, rfl, rfl⟩
  by_cases c1 : k = 1
  · subst c1
    refine (May_k1 x s r w hx).mono fun e w' h => may_of h fun hb => ?_
    obtain ⟨rfl, rfl, rfl⟩ := rest_of hx hb
    exact ⟨.nul, trivial, rfl, rfl, rfl, rfl⟩
  by_cases c2 : k = 2
  · subst c2
    refine (May_k2 x s r w).mono fun e w' h => may_of h fun hb => ?_
    rw [Bool.and_eq_true, Bool.or_eq_true] at hb
    obtain ⟨_, rfl, rfl⟩ := rest_of (by decide) hb.2
    refine ⟨.boo x, ?_, rfl, rfl, rfl, rfl⟩
    rcases hb.1 with h | h
    · rcases feq_F (m := 0) hx (by unfold SafeN; omega) (by rw [F_zero]; exact h) with e | ⟨e, _⟩
      · rw [F_zero] at e; exact .inl e
      · exact .inr (.inl e)
    · rcases feq_F (m := 1) hx (by unfold SafeN; omega) (by rw [show F 1 = 4607182418800017408 by decide]; exact h) with e | ⟨_, e⟩
      · rw [show F 1 = 4607182418800017408 by decide] at e; exact .inr (.inr e)
      · cases e
  by_cases c3 : k = 3
  · subst c3
    obtain ⟨c, hc⟩ := cls x hx
    refine (May_k3 x s r w hc).mono fun e w' h => may_of h fun hb => ?_
    rw [Bool.and_eq_true] at hb
    obtain ⟨_, rfl, rfl⟩ := rest_of (by decide) hb.2
    exact ⟨.num x, ⟨c, hc, hb.1⟩, rfl, rfl, rfl, rfl⟩
  by_cases c4 : k = 4
  · subst c4
    refine (May_k4 x s r w hx).mono fun e w' h => may_of h fun hb => ?_
    rw [Bool.and_eq_true] at hb
    obtain ⟨rfl, _, rfl⟩ := rest_of hx hb.2
    have := of_decide_eq_true hb.1
    exact ⟨.str s, by show s.size ≤ 4096; omega, rfl, rfl, rfl, rfl⟩
  by_cases c5 : k = 5
  · subst c5
    refine (May_k5 x s r w hx).mono fun e w' h => may_of h fun hb => ?_
    rw [Bool.and_eq_true] at hb
    obtain ⟨rfl, rfl, _⟩ := rest_of hx hb.2
    exact ⟨.sym r, ⟨of_decide_eq_true hb.1, hr⟩, rfl, rfl, rfl, rfl⟩
  have f0 : ((k : Int) == 0) = false := by rw [beq_eq_false_iff_ne]; omega
  have f1 : ((k : Int) == 1) = false := by rw [beq_eq_false_iff_ne]; omega
  have f2 : ((k : Int) == 2) = false := by rw [beq_eq_false_iff_ne]; omega
  have f3 : ((k : Int) == 3) = false := by rw [beq_eq_false_iff_ne]; omega
  have f4 : ((k : Int) == 4) = false := by rw [beq_eq_false_iff_ne]; omega
  have f5 : ((k : Int) == 5) = false := by rw [beq_eq_false_iff_ne]; omega
  cases ho : objB k
  · refine (May_no x s r w k hx f0 f1 f2 f3 f4 f5 ho).mono fun e w' h => may_of h fun hb => ?_
    cases hb
  · refine (May_obj x s r w k hx f0 f1 f2 f3 f4 f5 ho).mono fun e w' h => may_of h fun hb => ?_
    rw [Bool.and_eq_true] at hb
    obtain ⟨rfl, rfl, _⟩ := rest_of hx hb.2
    refine ⟨.obj k r, ⟨?_, of_decide_eq_true hb.1, hr⟩, rfl, rfl, rfl, rfl⟩
    unfold objB at ho
    simp only [Bool.or_eq_true, beq_iff_eq] at ho
    omega
end Go.Proofs.YtlgbnfcnimjheaaDoor.S
/-
  DERIVED: THE SHELF's CONTRACTS AT THIS DUMP, IN PLAIN WORDS (tools/lay-plain.mjs out of 'YtlgbnfcnimjheaaDoorValShelfTry.lean', which tools/lay-shelf.mjs wrote): THE SAME DECLARATIONS UNDER THE SAME NAMES: 'import', 'namespace', 'open', 'def', 'theorem' AND NOTHING ELSE: no command of the shelf's: FOR A HAND-IN. Each laying: the table of numbers ('.._ren') and one theorem, a field a fact of the dump's own or the kernel's comparison; each contract: ONE APPLICATION.
-/
namespace Go.Proofs
open Go.Shelf
def Tryd.laysM171_ren : Go.Shelf.Ren := ⟨fun | 171 => 52 | 243 => 79 | 246 => 88 | 283 => 102 | 284 => 103 | 285 => 104 | 286 => 105 | 129 => 114 | 317 => 113 | 318 => 115 | 319 => 116 | 320 => 117 | 337 => 123 | 338 => 124 | n => n, fun | 3 => 3 | 9 => 9 | 2 => 2 | 4 => 4 | 171 => 126 | 0 => 0 | 53 => 103 | 37 => 84 | 5 => 5 | 173 => 129 | 212 => 138 | 51 => 139 | 20 => 20 | 213 => 140 | 46 => 113 | 232 => 153 | 233 => 154 | n => n, fun | 17 => 2 | 18 => 5 | 19 => 6 | n => n⟩
theorem Tryd.laysM171 : Go.Proofs.LaysM.n171 Tryd.prog Tryd.laysM171_ren := {
  mixed := by kernel_rfl
  f129 := Tryd.func114.trans (congrArg some (by kernel_rfl))
  f171 := Tryd.func52.trans (congrArg some (by kernel_rfl))
  f243 := Tryd.func79.trans (congrArg some (by kernel_rfl))
  f246 := Tryd.func88.trans (congrArg some (by kernel_rfl))
  f283 := Tryd.func102.trans (congrArg some (by kernel_rfl))
  f284 := Tryd.func103.trans (congrArg some (by kernel_rfl))
  f285 := Tryd.func104.trans (congrArg some (by kernel_rfl))
  f286 := Tryd.func105.trans (congrArg some (by kernel_rfl))
  f317 := Tryd.func113.trans (congrArg some (by kernel_rfl))
  f318 := Tryd.func115.trans (congrArg some (by kernel_rfl))
  f319 := Tryd.func116.trans (congrArg some (by kernel_rfl))
  f320 := Tryd.func117.trans (congrArg some (by kernel_rfl))
  f337 := Tryd.func123.trans (congrArg some (by kernel_rfl))
  f338 := Tryd.func124.trans (congrArg some (by kernel_rfl))
  t0 := Tryd.underlying0
  a0 := Tryd.isAgg0
  z0 := Tryd.sizeOf0
  v0 := Tryd.zeroValue0
  t2 := Tryd.underlying2
  a2 := Tryd.isAgg2
  z2 := Tryd.sizeOf2
  v2 := Tryd.zeroValue2
  t3 := Tryd.underlying3
  a3 := Tryd.isAgg3
  z3 := Tryd.sizeOf3
  v3 := Tryd.zeroValue3
  t4 := Tryd.underlying4
  a4 := Tryd.isAgg4
  z4 := Tryd.sizeOf4
  v4 := Tryd.zeroValue4
  t5 := Tryd.underlying5
  a5 := Tryd.isAgg5
  z5 := Tryd.sizeOf5
  v5 := Tryd.zeroValue5
  t9 := Tryd.underlying9
  a9 := Tryd.isAgg9
  z9 := Tryd.sizeOf9
  v9 := Tryd.zeroValue9
  t20 := Tryd.underlying20
  a20 := Tryd.isAgg20
  z20 := Tryd.sizeOf20
  v20 := Tryd.zeroValue20
  t37 := Tryd.underlying84
  a37 := Tryd.isAgg84
  z37 := Tryd.sizeOf84
  v37 := Tryd.zeroValue84
  t46 := Tryd.underlying113
  a46 := Tryd.isAgg113
  z46 := Tryd.sizeOf113
  v46 := Tryd.zeroValue113
  t51 := Tryd.underlying139
  a51 := Tryd.isAgg139
  z51 := Tryd.sizeOf139
  v51 := Tryd.zeroValue139
  t53 := Tryd.underlying103
  a53 := Tryd.isAgg103
  z53 := Tryd.sizeOf103
  v53 := Tryd.zeroValue103
  t171 := Tryd.underlying126
  a171 := Tryd.isAgg126
  z171 := Tryd.sizeOf126
  v171 := Tryd.zeroValue126
  t173 := Tryd.underlying129
  a173 := Tryd.isAgg129
  z173 := Tryd.sizeOf129
  v173 := Tryd.zeroValue129
  t212 := Tryd.underlying138
  a212 := Tryd.isAgg138
  z212 := Tryd.sizeOf138
  v212 := Tryd.zeroValue138
  t213 := Tryd.underlying140
  a213 := Tryd.isAgg140
  z213 := Tryd.sizeOf140
  t232 := Tryd.underlying153
  a232 := Tryd.isAgg153
  z232 := Tryd.sizeOf153
  v232 := Tryd.zeroValue153
  t233 := Tryd.underlying154
  a233 := Tryd.isAgg154
  z233 := Tryd.sizeOf154
  v233 := Tryd.zeroValue154
  g17 := by kernel_rfl
  g18 := by kernel_rfl
  g19 := by kernel_rfl
  i0 := by kernel_rfl
  i2 := by kernel_rfl
  i3 := by kernel_rfl
  i4 := by kernel_rfl
  i5 := by kernel_rfl
  i9 := by kernel_rfl
  i20 := by kernel_rfl
  i37 := by kernel_rfl
  i46 := by kernel_rfl
  i51 := by kernel_rfl
  i53 := by kernel_rfl
  i171 := by kernel_rfl
  i173 := by kernel_rfl
  i212 := by kernel_rfl
  i232 := by kernel_rfl
  i233 := by kernel_rfl
  m17 := by kernel_rfl
  m18 := by kernel_rfl
  m19 := by kernel_rfl }
open Go.RowKit Go.Sort Go.Lib in
/-- strconv.Itoa, for every int. -/
theorem Tryd.strconv_Itoa (n : Int) (h0 : -9223372036854775808 ≤ n) (h1 : n ≤ 9223372036854775807) (w : World) (htab : Lib.TabIs Tryd.prog w "internal/strconv.uint64pow10" .u64 Lib.pow10Tab) :
    Calls Tryd.prog 52 #[.int .i64 n] w fun e w' => e = .returned (.string ⟨(Lib.itoa n).toArray⟩) ∧ ∃ k os, w' = grow (w.drewN k) os := Any.strconv_Itoa Tryd.laysM171 n h0 h1 w htab
end Go.Proofs
/-
  value.Truth, Type, Text: walks, for any value that may be.
-/
namespace Go.Proofs.YtlgbnfcnimjheaaDoor.S
open Go.RowKit Fl

theorem May_ok {v : Vl} (h : v.ok) (w : World) : Calls Tryd.prog 23 #[v.val] w fun e w' => e = .returned (.bool true) ∧ Below w.heap.size w w' := by
  have z : restB 0 ⟨#[]⟩ 0 = true := by
    have z3 : (⟨#[]⟩ : ByteArray).toList = [] := by rw [toList_data]
    unfold restB; rw [z3]; decide
  have fin : ∀ {b : Bool} {e : Ending} {w' : World}, b = true → (e = .returned (.bool b) ∧ Below w.heap.size w w') → (e = .returned (.bool true) ∧ Below w.heap.size w w') := fun hb h => ⟨by rw [h.1, hb], h.2⟩
  cases v with
  | und => exact (May_k0 0 ⟨#[]⟩ 0 w (by decide)).mono fun e w' => fin (by rw [z]; rfl)
  | nul => exact (May_k1 0 ⟨#[]⟩ 0 w (by decide)).mono fun e w' => fin (by rw [z]; rfl)
  | boo x => exact (May_k2 x ⟨#[]⟩ 0 w).mono fun e w' => fin (by
      rw [z, Bool.and_true]
      rcases h with rfl | rfl | rfl <;> decide)
  | num x =>
    obtain ⟨c, hc, hm⟩ := h
    exact (May_k3 x ⟨#[]⟩ 0 w hc).mono fun e w' => fin (by rw [z, hm]; rfl)
  | str s => exact (May_k4 0 s 0 w (by decide)).mono fun e w' => fin (by
      have h : s.size ≤ 4096 := h
      rw [z, Bool.and_true]; exact decide_eq_true (by omega))
  | sym r => exact (May_k5 0 ⟨#[]⟩ r w (by decide)).mono fun e w' => fin (by rw [z, Bool.and_true]; exact decide_eq_true h.1)
  | obj k r =>
    have hk := h.1
    exact (May_obj 0 ⟨#[]⟩ r w k (by decide) (by rw [beq_eq_false_iff_ne]; omega) (by rw [beq_eq_false_iff_ne]; omega) (by rw [beq_eq_false_iff_ne]; omega) (by rw [beq_eq_false_iff_ne]; omega) (by rw [beq_eq_false_iff_ne]; omega) (by rw [beq_eq_false_iff_ne]; omega) (obj_kd hk)).mono fun e w' => fin (by rw [z, Bool.and_true]; exact decide_eq_true h.2.1)
theorem obj_facts {k : Nat} (h : k = 6 ∨ k = 7 ∨ k = 8) : ((k : Int) == 0) = false ∧ ((k : Int) == 1) = false ∧ ((k : Int) == 2) = false ∧ ((k : Int) == 3) = false ∧ ((k : Int) == 4) = false ∧ ((k : Int) == 5) = false := by
  refine ⟨?_, ?_, ?_, ?_, ?_, ?_⟩ <;> (rw [beq_eq_false_iff_ne]; omega)

end Go.Proofs.YtlgbnfcnimjheaaDoor.S
/-
  value.Text, for any value that may be; plain, counted, reads: walks.
-/
namespace Go.Proofs.YtlgbnfcnimjheaaDoor.S
open Go.RowKit Fl

theorem inFormatBool_b (b : Bool) (w : World) : Calls Tryd.prog 74 #[.bool b] w fun e w' => e = .returned (.string (if b then ⟨#[116, 114, 117, 101]⟩ else ⟨#[102, 97, 108, 115, 101]⟩)) ∧ w = w' := by
  cases b
  all_goals
    go_enter Tryd.func74, Tryd.ntmps74
    go_wp2
    go_ret
    exact ⟨rfl, rfl⟩
theorem FormatBool_b (b : Bool) (w : World) : Calls Tryd.prog 49 #[.bool b] w fun e w' => e = .returned (.string (if b then ⟨#[116, 114, 117, 101]⟩ else ⟨#[102, 97, 108, 115, 101]⟩)) ∧ w = w' := by
  have k1 := fun w => inFormatBool_b b w
  generalize (if b then (⟨#[116, 114, 117, 101]⟩ : ByteArray) else ⟨#[102, 97, 108, 115, 101]⟩) = t at *
  go_enter Tryd.func49, Tryd.ntmps49
  go_wp2_with (go_at_call 74; (with_reducible refine (k1 _).mono ?_); rintro e w' ⟨rfl, rfl⟩)
  go_ret
  exact ⟨rfl, rfl⟩
def TextVTo (v : Vl) (w : World) (e : Ending) (w' : World) : Prop := ∃ t : ByteArray, e = .returned (.string t) ∧ TextV v t.data.toList ∧ Below w.heap.size w w'
theorem Itoa_r (r : Int) (h0 : 0 ≤ r) (h1 : r < 2 ^ 63) (w : World) (htab : Lib.TabIs Tryd.prog w "internal/strconv.uint64pow10" .u64 Lib.pow10Tab) : Calls Tryd.prog 52 #[.int .i64 r] w fun e w' => ∃ t : ByteArray, e = .returned (.string t) ∧ Hid (t.data.toList = Lib.itoa r ∧ t.size ≤ 21) ∧ Below w.heap.size w w' := by
  refine (Tryd.strconv_Itoa r (by omega) (by omega) w htab).mono fun e w' ⟨he, k, os, hw⟩ => ⟨_, he, Lib.hid ⟨rfl, ?_⟩, by rw [hw]; exact grow_below w k os⟩
  have := Lib.itoa_length_le r (by omega) (by omega)
  show (Lib.itoa r).toArray.size ≤ 21
  simpa using this
theorem app_list (a t : ByteArray) : (a ++ t).data.toList = a.data.toList ++ t.data.toList := by
  rw [ByteArray.data_append, Array.toList_append]
set_option maxHeartbeats 1000000 in
theorem Text_v {v : Vl} (h : v.ok) (w : World) (htab : TabHere w) : Calls Tryd.prog 32 #[v.val] w (TextVTo v w) := by
  have HTAB := Lib.hid htab
  clear htab
  cases v with
  | und =>
    show Calls _ _ #[.agg #[.int .u8 0, .float .f64 0, .string ⟨#[]⟩, .int .i64 0]] w (TextVTo .und w)
    go_enter Tryd.func32, Tryd.ntmps32
    go_wp2_with (fail)
    go_ret
    exact ⟨_, rfl, rfl, vafter (Below.refl _ _)⟩
  | nul =>
    show Calls _ _ #[.agg #[.int .u8 1, .float .f64 0, .string ⟨#[]⟩, .int .i64 0]] w (TextVTo .nul w)
    go_enter Tryd.func32, Tryd.ntmps32
    go_wp2_with (fail)
    go_ret
    exact ⟨_, rfl, rfl, vafter (Below.refl _ _)⟩
  | boo x =>
    show Calls _ _ #[.agg #[.int .u8 2, .float .f64 x, .string ⟨#[]⟩, .int .i64 0]] w (TextVTo (.boo x) w)
    have k1 : ∀ w, Calls Tryd.prog 49 #[.bool (FloatKind.f64.format.order x 0 != some .eq)] w _ := fun w => FormatBool_b (!feq x 0) w
    have hq : TextV (.boo x) (if (!feq x 0) = true then (⟨#[116, 114, 117, 101]⟩ : ByteArray) else ⟨#[102, 97, 108, 115, 101]⟩).data.toList := by
      show _ = if feq x 0 then _ else _
      cases feq x 0 <;> rfl
    generalize (if (!feq x 0) = true then (⟨#[116, 114, 117, 101]⟩ : ByteArray) else ⟨#[102, 97, 108, 115, 101]⟩) = t at *
    have HQ := Lib.hid hq
    clear h hq
    go_enter Tryd.func32, Tryd.ntmps32
    go_wp2_with (go_at_call 49; refine (k1 _).mono ?_; rintro e w1 ⟨rfl, rfl⟩)
    go_ret
    exact ⟨_, rfl, HQ.out, vafter (Below.refl _ _)⟩
  | num x =>
    show Calls _ _ #[.agg #[.int .u8 3, .float .f64 x, .string ⟨#[]⟩, .int .i64 0]] w (TextVTo (.num x) w)
    obtain ⟨c, hc, hm⟩ := h
    have hT := fun w ht => Text_cls hc w ht
    have HC := Lib.hid (And.intro hc hm)
    clear hc hm
    go_enter Tryd.func32, Tryd.ntmps32
    go_wp2_with (go_at_call 50; refine (hT _ (HTAB.out _ (vzero _ _))).mono ?_; rintro e w1 ⟨t, ht, rfl, h1⟩; have H1 := Lib.hid h1; have HT := Lib.hid ht; clear h1 ht)
    go_ret
    exact ⟨_, rfl, ⟨c, HC.out.1, HC.out.2, HT.out⟩, vafter H1.out⟩
  | str s =>
    show Calls _ _ #[.agg #[.int .u8 4, .float .f64 0, .string s, .int .i64 0]] w (TextVTo (.str s) w)
    have h : s.size ≤ 4096 := h
    have hq := fun w => Quote_any s w (by omega)
    have HQ : Hid (TextV (.str s) (⟨(quoteL s.data.toList).toArray⟩ : ByteArray).data.toList) := Lib.hid rfl
    generalize (⟨(quoteL s.data.toList).toArray⟩ : ByteArray) = t at *
    clear h
    go_enter Tryd.func32, Tryd.ntmps32
    go_wp2_with (go_at_call 51; refine (hq _).mono ?_; rintro e w1 ⟨rfl, h1⟩; have H1 := Lib.hid h1; clear h1)
    go_ret
    exact ⟨_, rfl, HQ.out, vafter H1.out⟩
  | sym r =>
    show Calls _ _ #[.agg #[.int .u8 5, .float .f64 0, .string ⟨#[]⟩, .int .i64 r]] w (TextVTo (.sym r) w)
    have hI := fun w ht => Itoa_r r h.1 h.2 w ht
    clear h
    go_enter Tryd.func32, Tryd.ntmps32
    go_wp2_with (go_at_call 52; refine (hI _ (HTAB.out _ (vzero _ _))).mono ?_; rintro e w1 ⟨t, rfl, HT, h1⟩; have H1 := Lib.hid h1; clear h1)
    · exfalso
      have := HT.out.2
      simp_all
      omega
    · go_ret
      refine ⟨_, rfl, ?_, vafter H1.out⟩
      show _ = _
      rw [app_list, HT.out.1]
  | obj k r =>
    show Calls _ _ #[.agg #[.int .u8 (k : Int), .float .f64 0, .string ⟨#[]⟩, .int .i64 r]] w (TextVTo (.obj k r) w)
    have hI := fun w ht => Itoa_r r h.2.1 h.2.2 w ht
    obtain ⟨f0, f1, f2, f3, f4, f5⟩ := obj_facts h.1
    have k1 := fun w => IsObject_v k 0 ⟨#[]⟩ r w
    rw [obj_kd h.1] at k1
    clear h
    go_enter Tryd.func32, Tryd.ntmps32
    go_wp2_with (first
      | (go_at_call 47; (with_reducible refine (k1 _).mono ?_); rintro e w1 ⟨rfl, h1⟩; obtain ⟨hc1, hf1⟩ := vcell h1; have hz1 := vlt1 h1; have HB1 := Lib.hid (vafter h1))
      | (go_at_call 52; refine (hI _ (HTAB.out _ HB1.out)).mono ?_; rintro e w2 ⟨t, rfl, HT, h2⟩; have H2 := Lib.hid h2; clear h2))
    · exfalso
      have := HT.out.2
      simp_all
      omega
    · go_ret
      refine ⟨_, rfl, ?_, vb HB1.out H2.out⟩
      show _ = _
      rw [app_list, HT.out.1]
end Go.Proofs.YtlgbnfcnimjheaaDoor.S
/-
  Keys: which are indices; key.Of, symbol, Number, Index, rank: walks.
-/
namespace Go.Proofs.YtlgbnfcnimjheaaDoor.S
open Go.RowKit Fl

/-- the number that a text is the index of -/
def idxO (s : ByteArray) : Option Nat := match readR s.data.toList with
  | .ok n => if 0 ≤ n ∧ n < 1024 ∧ s.data.toList = Lib.itoa n then some n.toNat else none
  | _ => none
/-- .. and a key -/
def ixK (s : ByteArray) (y : Int) : Option Nat := if y ≤ 0 then idxO s else none
/-- a key's rank in the order -/
def rkO (o : Option Nat) (y : Int) : Nat := match o with
  | some n => n
  | none => if y ≤ 0 then 1024 else 1025
def rkK (s : ByteArray) (y : Int) : Nat := rkO (ixK s y) y
theorem idxO_lt {s : ByteArray} {n : Nat} (h : idxO s = some n) : n < 1024 ∧ s.data.toList = Lib.itoa (n : Int) := by
  unfold idxO at h
  split at h
  · split at h
    · rename_i m _ hc
      cases h
      refine ⟨by omega, ?_⟩
      rw [show ((m.toNat : Nat) : Int) = m by omega]; exact hc.2.2
    · cases h
  · cases h
theorem ixK_lt {s : ByteArray} {y : Int} {n : Nat} (h : ixK s y = some n) : n < 1024 ∧ s.data.toList = Lib.itoa (n : Int) ∧ y ≤ 0 := by
  unfold ixK at h
  split at h
  · exact ⟨(idxO_lt h).1, (idxO_lt h).2, by assumption⟩
  · cases h
theorem digR_err {neg : Bool} {l : List UInt8} {j : Int} (h : digR neg l = .err j) : j = 10 := by
  unfold digR at h
  split at h
  · cases h
  · split at h
    · cases h; rfl
    · split at h
      · cases h; rfl
      · cases h
theorem bareR_err {l : List UInt8} {j : Int} (h : bareR l = .err j) : j = 10 := by
  cases l with
  | nil => rw [show bareR [] = .ok 0 from rfl] at h; cases h
  | cons c r =>
    rw [bareR_cons] at h
    split at h
    · exact digR_err h
    · split at h
      · exact digR_err h
      · exact digR_err h

theorem keyOf_k (s : ByteArray) (w : World) : Calls Tryd.prog 86 #[.string s] w fun e w' => e = .returned (.agg #[.string s, .int .i64 0]) ∧ Below w.heap.size w w' := by
  go_enter Tryd.func86, Tryd.ntmps86
  go_wp2
  refine bodyPost_ret (v := .agg #[.string s, .int .i64 0]) (by simp [results, Tryd.results86, go_sem]) rfl ⟨rfl, ?_⟩
  exact vzero _ _
theorem keysymbol_k (s : ByteArray) (y : Int) (w : World) : Calls Tryd.prog 37 #[.agg #[.string s, .int .i64 y]] w fun e w' => e = .returned (.bool (decide (0 < y))) ∧ Below w.heap.size w w' := by
  go_enter Tryd.func37, Tryd.ntmps37
  go_wp2
  go_ret
  exact ⟨rfl, vzero _ _⟩
theorem Itoa_k (n : Int) (h0 : -9223372036854775808 ≤ n) (h1 : n ≤ 9223372036854775807) (w : World) (htab : Lib.TabIs Tryd.prog w "internal/strconv.uint64pow10" .u64 Lib.pow10Tab) : Calls Tryd.prog 52 #[.int .i64 n] w fun e w' => e = .returned (.string ⟨(Lib.itoa n).toArray⟩) ∧ Below w.heap.size w w' :=
  (Tryd.strconv_Itoa n h0 h1 w htab).mono fun e w' ⟨he, k, os, hw⟩ => ⟨he, by rw [hw]; exact grow_below w k os⟩
/-- a key's two cells, set in a block of the call's own -/
theorem kset2 {w : World} {g : Nat} {t : TypeId} {c0 c1 : Value} (h : w.heap[g]? = some (.cells #[c0, c1] t (0, 0))) (a b : Value) :
    ((w.setCell ⟨g, 0, none⟩ a).setCell ⟨g, 1, none⟩ b).heap[g]? = some (.cells #[a, b] t (0, 0)) := vset1 (vset1 h 0 a) 1 b
theorem kbel2 {B g : Nat} {w0 w : World} (h : Below B w0 w) (hg : B ≤ g) (a b : Value) : Below B w0 ((w.setCell ⟨g, 0, none⟩ a).setCell ⟨g, 1, none⟩ b) :=
  (h.setCell (p := ⟨g, 0, none⟩) hg a).setCell (p := ⟨g, 1, none⟩) hg b
theorem kc2 {w : World} {g : Nat} {t : TypeId} {c0 c1 : Value} (h : w.heap[g]? = some (.cells #[c0, c1] t (0, 0))) :
    w.cell? ⟨g, 0, none⟩ = some c0 ∧ w.cell? ⟨g, 1, none⟩ = some c1 ∧ ∀ i, w.frozen? ⟨g, i, none⟩ = false := ⟨vcells h 0, vcells h 1, vfz h⟩
/-- a function whose one result is a key in a block of its own -/
theorem key_end {f : Func} {i : Nat} {t : TypeId} {Q : Ending → World → Prop} {tmps : Array Value} {W : World} {g : Nat} {s : ByteArray} {r : Int} (hf : f.results = #[.cell i 24])
    (h2 : tmps[i]?.getD undef = .pointer (some ⟨g, 0, none⟩)) (hb : W.heap[g]? = some (.cells #[.string s, .int .i64 r] t (0, 0))) (hQ : Q (.returned (.agg #[.string s, .int .i64 r])) W) :
    bodyPost Tryd.prog f Q .ret { tmps := tmps, defers := [] } W := by
  have c0 : W.cell? ⟨g, 0, none⟩ = some (.string s) := vcells hb 0
  have c1 : W.cell? ⟨g, 1, none⟩ = some (.int .i64 r) := vcells hb 1
  clear hb
  refine bodyPost_ret (v := .agg #[.string s, .int .i64 r]) ?_ rfl hQ
  simp [h2, c0, c1, results, hf, go_sem]
theorem Number_k (n : Int) (h0 : -9223372036854775808 ≤ n) (h1 : n ≤ 9223372036854775807) (w : World) (htab : TabHere w) : Calls Tryd.prog 58 #[.int .i64 n] w fun e w' => e = .returned (.agg #[.string ⟨(Lib.itoa n).toArray⟩, .int .i64 0]) ∧ Below w.heap.size w w' := by
  have hI := fun w ht => Itoa_k n h0 h1 w ht
  have hO := fun w => keyOf_k ⟨(Lib.itoa n).toArray⟩ w
  generalize (⟨(Lib.itoa n).toArray⟩ : ByteArray) = t at *
  have HTAB := Lib.hid htab
  clear h0 h1 htab
  go_enter Tryd.func58, Tryd.ntmps58
  go_wp2_with (first
    | (go_at_call 52; refine (hI _ (HTAB.out _ (vzero _ _))).mono ?_; rintro e w1 ⟨rfl, h1⟩; have hb1 := vblk1 h1; have hz1 := vlt1 h1; have H1 := Lib.hid h1; clear h1)
    | (go_at_call 86; refine (hO _).mono ?_; rintro e w2 ⟨rfl, h2⟩; have hb2 := vblkn h2 hb1; have hz2 := vltn h2 hz1; obtain ⟨hc0, hc1, hfr⟩ := kc2 hb2; have HB2 := Lib.hid hb2; clear hb1 hb2; have H2 := Lib.hid h2; clear h2))
  refine key_end (g := w.heap.size) Tryd.results58 rfl (kset2 HB2.out _ _) ⟨rfl, ?_⟩
  exact kbel2 (vb (vafter H1.out) H2.out) (Nat.le_refl _) _ _
end Go.Proofs.YtlgbnfcnimjheaaDoor.S
