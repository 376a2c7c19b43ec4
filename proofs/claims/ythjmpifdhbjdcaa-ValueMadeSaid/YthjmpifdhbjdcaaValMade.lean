/-
  ValueMade: values made of any float, string, boolean are the document's own: walks.
-/
import Derived.Test.YthjmpifdhbjdcaaValNew
namespace Go.Proofs.Ythjmpifdhbjdcaa.S
open Go.RowKit Fl

theorem vb {w a b : World} (h : Below w.heap.size w a) (g : Below a.heap.size a b) : Below w.heap.size w b := h.trans (g.mono h.size)
theorem vafter {w w1 : World} {o : Obj} (h : Below (w.alloc o).heap.size (w.alloc o) w1) : Below w.heap.size w w1 := (vzero w o).trans (h.mono (vzero w o).size)
theorem vafter2 {w w1 : World} {o p : Obj} (h : Below ((w.alloc o).alloc p).heap.size ((w.alloc o).alloc p) w1) : Below w.heap.size w w1 := vafter (vafter h)
theorem Same_self {x : Nat} (hx : x < 2 ^ 64) (w : World) : Calls Try.prog 11 #[.float .f64 x, .float .f64 x] w fun e w' => e = .returned (.bool true) ∧ Below w.heap.size w w' := by
  by_cases hn : IsNaN x
  · have h1 : FloatKind.f64.format.order x x = none := order_nan_l _ hn
    go_enter Try.func11, Try.ntmps11
    go_wp2
    go_ret
    exact ⟨rfl, Below.refl _ _⟩
  · have h1 : FloatKind.f64.format.order x x = some .eq := order_self hn
    by_cases h0 : FloatKind.f64.format.order x 0 = some .eq
    · have hx0 : x = 0 ∨ x = 2 ^ 63 := by
        obtain ⟨c, hc⟩ := cls x hx
        cases c with
        | nan => exact absurd hc.2 hn
        | other =>
          obtain ⟨_, h | h | h⟩ := hc
          · have := (order_big h 0 (by decide)).1
            rw [F_zero] at this
            have h0 : Ieee.double.order x 0 = some .eq := h0
            rw [this] at h0
            have h0 := Option.some.inj h0
            split at h0 <;> cases h0
          · have := (order_frac h 0 (by decide)).1
            rw [F_zero] at this
            exact absurd h0 this
          · exact .inr h
        | ours n =>
          obtain ⟨rfl, hs⟩ := hc
          have := order_F n 0 hs.abs (by decide)
          rw [F_zero] at this
          have h0 : Ieee.double.order (F n) 0 = some .eq := h0
          rw [this] at h0
          have : n = 0 := by simpa [Int.compare_eq_eq] using h0
          subst this
          exact .inl F_zero
      rcases hx0 with rfl | rfl
      · have hq := fun w => run_float_arith (P := Try.prog) w .quo 22 .f64 4607182418800017408 0 9218868437227405312 (by decide)
        have h2 : FloatKind.f64.format.order 9218868437227405312 9218868437227405312 = some .eq := by decide
        clear hn hx
        go_enter Try.func11, Try.ntmps11
        go_wp2
        go_ret
        exact ⟨rfl, Below.refl _ _⟩
      · have hq := fun w => run_float_arith (P := Try.prog) w .quo 22 .f64 4607182418800017408 9223372036854775808 18442240474082181120 (by decide)
        have h2 : FloatKind.f64.format.order 18442240474082181120 18442240474082181120 = some .eq := by decide
        have e : (2 : Nat) ^ 63 = 9223372036854775808 := by decide
        rw [e] at *
        clear hn hx e
        go_enter Try.func11, Try.ntmps11
        go_wp2
        go_ret
        exact ⟨rfl, Below.refl _ _⟩
    · have h2 : (FloatKind.f64.format.order x 0 == some .eq) = false := by rw [beq_eq_false_iff_ne]; exact h0
      have h3 : (FloatKind.f64.format.order x 0 != some .eq) = true := by rw [bne, h2]; rfl
      clear hn hx h0
      go_enter Try.func11, Try.ntmps11
      go_wp2
      go_ret
      exact ⟨rfl, Below.refl _ _⟩
theorem Alike_self {k : Int} {x : Nat} {s : ByteArray} {r : Int} (hx : x < 2 ^ 64) (w : World) : Calls Try.prog 4 #[.agg #[.int .u8 k, .float .f64 x, .string s, .int .i64 r], .agg #[.int .u8 k, .float .f64 x, .string s, .int .i64 r]] w fun e w' => e = .returned (.bool true) ∧ Below w.heap.size w w' := by
  have k1 := fun w => Same_self hx w
  go_enter Try.func4, Try.ntmps4
  go_wp2_with (go_at_call 11; refine (k1 _).mono ?_; rintro e w1 ⟨rfl, h1⟩)
  go_ret
  exact ⟨rfl, vafter2 h1⟩
set_option maxHeartbeats 1000000 in
theorem ValueMade_walk (x : Nat) (s : ByteArray) (b : Bool) (w : World) (hx : x < 2 ^ 64) (_hs : s.size ≤ maxLen) :
    Calls Try.prog 3 #[.float .f64 x, .string s, .bool b] w fun e w' => e = .returned (.bool true) ∧ Below w.heap.size w w' := by
  have k1 := fun w => Alike_self (k := 3) (s := ⟨#[]⟩) (r := 0) hx w
  have k2 := fun w => Alike_self (k := 4) (x := 0) (s := s) (r := 0) (by decide) w
  have k3 := fun w => Alike_self (k := 2) (x := oneB b) (s := ⟨#[]⟩) (r := 0) (by cases b <;> decide) w
  have n1 := fun w => Num_v x w
  have n2 := fun w => refNum_v x w
  have s1 := fun w => Str_v s w
  have s2 := fun w => refStr_v s w
  have b1 := fun w => Bool_v b w
  have b2 := fun w => refBool_v b w
  generalize oneB b = y at *
  go_enter Try.func3, Try.ntmps3
  go_wp2_with (first
    | (go_at_call 5; refine (n1 _).mono ?_; rintro e w1 ⟨rfl, h1⟩)
    | (go_at_call 6; refine (n2 _).mono ?_; rintro e w2 ⟨rfl, h2⟩)
    | (go_at_call 7; refine (s1 _).mono ?_; rintro e w4 ⟨rfl, h4⟩)
    | (go_at_call 8; refine (s2 _).mono ?_; rintro e w5 ⟨rfl, h5⟩)
    | (go_at_call 9; refine (b1 _).mono ?_; rintro e w7 ⟨rfl, h7⟩)
    | (go_at_call 10; refine (b2 _).mono ?_; rintro e w8 ⟨rfl, h8⟩)
    | (go_at_call 4; first | ((with_reducible refine (k1 _).mono ?_); rintro e w3 ⟨rfl, h3⟩) | ((with_reducible refine (k2 _).mono ?_); rintro e w6 ⟨rfl, h6⟩) | ((with_reducible refine (k3 _).mono ?_); rintro e w9 ⟨rfl, h9⟩)))
  go_ret
  exact ⟨rfl, vb (vb (vb (vb (vb (vb (vb (vb h1 h2) h3) h4) h5) h6) h7) h8) h9⟩
end Go.Proofs.Ythjmpifdhbjdcaa.S
