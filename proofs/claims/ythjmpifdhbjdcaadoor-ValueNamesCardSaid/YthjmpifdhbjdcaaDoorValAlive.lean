/-
  What ValueSame and ValueNames begin with.
-/
import Derived.Test.YthjmpifdhbjdcaaDoorValMath2
namespace Go.Proofs.YthjmpifdhbjdcaaDoor.S
open Go.RowKit Fl

theorem object_v (k : Int) (n : Int) (w : World) : Calls Tryd.prog 8 #[.int .u8 k, .int .i64 n] w fun e w' => e = .returned (.agg #[.int .u8 k, .float .f64 0, .string ⟨#[]⟩, .int .i64 n]) ∧ Below w.heap.size w w' := by
  have hst := vstore
  go_enter Tryd.func8, Tryd.ntmps8
  go_wp2
  exact val_end Tryd.results8 rfl (heap_alloc_new _ _) ⟨rfl, vzero _ _⟩
set_option maxHeartbeats 1000000 in
theorem valalive_any (w : World) : Calls Tryd.prog 17 #[] w fun e w' => e = .returned (.bool true) ∧ Below w.heap.size w w' := by
  have s1 := fun w => Str_v ⟨#[48]⟩ w
  have n1 := fun w => Num_v 0 w
  have n2 := fun w => Num_v 4607182418800017408 w
  have o1 := fun w => object_v 8 1 w
  have t1 : ∀ w, Calls Tryd.prog 10 #[.agg #[.int .u8 4, .float .f64 0, .string ⟨#[48]⟩, .int .i64 0]] w (fun e w' => e = .returned (.bool true) ∧ Below w.heap.size w w') := fun w => Truth_v (v := .str ⟨#[48]⟩) (by show (1 : Nat) ≤ 4096; omega) w
  have hc0 : Is (.ours 0) 0 := ⟨F_zero.symm, by unfold SafeN; omega⟩
  have hc1 : Is (.ours 1) 4607182418800017408 := ⟨by decide, by unfold SafeN; omega⟩
  have t2 : ∀ w, Calls Tryd.prog 10 #[.agg #[.int .u8 3, .float .f64 0, .string ⟨#[]⟩, .int .i64 0]] w (fun e w' => e = .returned (.bool false) ∧ Below w.heap.size w w') := fun w => by
    have h := Truth_v (v := .num 0) ⟨_, hc0, rfl⟩ w
    rw [show truthV (.num 0) = false by decide] at h
    exact h
  have t3 : ∀ w, Calls Tryd.prog 11 #[.agg #[.int .u8 8, .float .f64 0, .string ⟨#[]⟩, .int .i64 1]] w (fun e w' => e = .returned (.string ⟨#[102, 117, 110, 99, 116, 105, 111, 110]⟩) ∧ Below w.heap.size w w') := fun w => Type_v (v := .obj 8 1) ⟨.inr (.inr rfl), by omega, by omega⟩ w
  have t4 : ∀ w, Calls Tryd.prog 16 #[.agg #[.int .u8 3, .float .f64 4607182418800017408, .string ⟨#[]⟩, .int .i64 0]] w (fun e w' => e = .returned (.bool true) ∧ Below w.heap.size w w') := fun w => May_ok (v := .num 4607182418800017408) ⟨_, hc1, rfl⟩ w
  clear hc0 hc1
  go_enter Tryd.func17, Tryd.ntmps17
  go_wp2_with (first
    | (go_at_call 13; (with_reducible refine (s1 _).mono ?_); rintro e w1 ⟨rfl, h1⟩)
    | (go_at_call 5; first | ((with_reducible refine (n1 _).mono ?_); rintro e w3 ⟨rfl, h3⟩) | ((with_reducible refine (n2 _).mono ?_); rintro e w7 ⟨rfl, h7⟩))
    | (go_at_call 8; (with_reducible refine (o1 _).mono ?_); rintro e w5 ⟨rfl, h5⟩)
    | (go_at_call 10; first | ((with_reducible refine (t1 _).mono ?_); rintro e w2 ⟨rfl, h2⟩) | ((with_reducible refine (t2 _).mono ?_); rintro e w4 ⟨rfl, h4⟩))
    | (go_at_call 11; (with_reducible refine (t3 _).mono ?_); rintro e w6 ⟨rfl, h6⟩)
    | (go_at_call 16; (with_reducible refine (t4 _).mono ?_); rintro e w8 ⟨rfl, h8⟩))
  go_ret
  exact ⟨rfl, vb (vb (vb (vb (vb (vb (vb h1 h2) h3) h4) h5) h6) h7) h8⟩
end Go.Proofs.YthjmpifdhbjdcaaDoor.S
