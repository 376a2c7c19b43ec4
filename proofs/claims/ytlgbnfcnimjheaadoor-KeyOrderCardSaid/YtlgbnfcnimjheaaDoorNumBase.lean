/-
  What the small functions of package num and of the document's own answer do to one float: walks, for every float.
-/
import Derived.Test.YtlgbnfcnimjheaaDoorChecked
import Derived.Test.YtlgbnfcnimjheaaDoorFloat
import Derived.WalkKit
import Derived.WalkSpells
import Derived.WalkLawsBesides
import Derived.Lib.Hide
namespace Go.Proofs.YtlgbnfcnimjheaaDoor
open Go.RowKit Fl

theorem run_archTrunc (x : Nat) (w : World) (h : ¬ IsNaN x) : (callFunc 111 #[.float .f64 x]).run Tryd.prog w = .ok (.value (.float .f64 (truncW x))) w := by
  rw [run_callFunc_extern Tryd.func111 (by kernel_rfl) (by kernel_rfl) (by kernel_rfl) (e := Extern.MathFloor.toIntegral "math.archTrunc" .zero) (by kernel_rfl)]
  have e : Extern.MathFloor.toIntegral "math.archTrunc" .zero #[.float .f64 x] = pure (.float .f64 (truncW x)) := by
    show (match Ieee.double.read x with
      | .nan s t => _
      | d => (pure (.float .f64 (Ieee.double.write (d.integral .zero))) : Sem Value)) = _
    unfold truncW
    cases hd : Ieee.double.read x with
    | nan s t => exact absurd hd (by
        intro hd
        rcases Nat.lt_or_eq_of_le (Nat.le_of_not_lt h) with c | c
        · obtain ⟨m, e, h1, _⟩ := read_fin c
          rw [h1] at hd; cases hd
        · rw [read_inf c] at hd; cases hd)
    | number s m i => rfl
    | infinity s => rfl
  rw [e]; rfl

theorem run_Float64bits (x : Nat) (w : World) : (callFunc 72 #[.float .f64 x]).run Tryd.prog w = .ok (.value (.int .u64 x)) w := by
  rw [run_callFunc_extern Tryd.func72 (by kernel_rfl) (by kernel_rfl) (by kernel_rfl) (e := Extern.MathFloatBits.float64bits) (by kernel_rfl)]
  rfl

theorem none_any (x : Nat) (w : World) :
    Calls Tryd.prog 75 #[.float .f64 x] w fun e w' => e = .returned (.bool (FloatKind.f64.format.order x x != some .eq)) ∧ w = w' := by
  go_enter Tryd.func75, Tryd.ntmps75
  go_wp2
  go_ret
  exact ⟨rfl, rfl⟩

theorem Trunc_num (x : Nat) (w : World) (hn : ¬ IsNaN x) :
    Calls Tryd.prog 100 #[.float .f64 x] w fun e w' => e = .returned (.float .f64 (truncW x)) ∧ w = w' := by
  have ht := fun w => run_archTrunc x w hn
  go_enter Tryd.func100, Tryd.ntmps100
  go_wp2
  go_ret
  exact ⟨rfl, rfl⟩

theorem sgn_wrap (x : Nat) (_hx : x < 2 ^ 64) : decide (wrap64 (x : Int) < 0) = sgn x := by
  unfold sgn wrap64
  rw [Bool.eq_iff_iff, decide_eq_true_iff, beq_iff_eq]; omega

theorem ret_bool {a b : Bool} (h : a = b) : Ending.returned (.bool a) = .returned (.bool b) := by rw [h]
theorem ret_int {k : IntKind} {a b : Int} (h : a = b) : Ending.returned (.int k a) = .returned (.int k b) := by rw [h]

theorem Signbit_any (x : Nat) (w : World) (hx : x < 2 ^ 64) :
    Calls Tryd.prog 45 #[.float .f64 x] w fun e w' => e = .returned (.bool (sgn x)) ∧ w = w' := by
  have hb := fun w => run_Float64bits x w
  have hs : Hid (decide (wrap64 (x : Int) < 0) = sgn x) := Lib.hid (sgn_wrap x hx)
  go_enter Tryd.func45, Tryd.ntmps45
  go_wp2
  go_ret
  exact ⟨ret_bool hs.out, rfl⟩

/-- whether a float is whole and no minus nought -/
def wholeB (x : Nat) : Bool := (FloatKind.f64.format.order x (truncW x) == some .eq) && !((FloatKind.f64.format.order x 0 == some .eq) && sgn x)
def leB (x y : Nat) : Bool := FloatKind.f64.format.order x y == some .lt || FloatKind.f64.format.order x y == some .eq

theorem whole_num (x : Nat) (w : World) (hx : x < 2 ^ 64) (hn : ¬ IsNaN x) :
    Calls Tryd.prog 85 #[.float .f64 x] w fun e w' => e = .returned (.bool (wholeB x)) ∧ w = w' := by
  go_enter Tryd.func85, Tryd.ntmps85
  go_wp2_with (first | (go_at_call 100; refine (Trunc_num _ _ hn).mono ?_; rintro e w' ⟨rfl, rfl⟩) | (go_at_call 45; refine (Signbit_any _ _ hx).mono ?_; rintro e w' ⟨rfl, rfl⟩))
  all_goals (go_ret; exact ⟨ret_bool (by simp [wholeB, *]), rfl⟩)

def inB (x : Nat) : Bool := leB 14069245235905429503 x && leB x 4845873199050653695

theorem May_nan (x : Nat) (w : World) (hn : IsNaN x) :
    Calls Tryd.prog 71 #[.float .f64 x] w fun e w' => e = .returned (.bool true) ∧ w = w' := by
  have ho : FloatKind.f64.format.order x x = none := order_nan_l x hn
  go_enter Tryd.func71, Tryd.ntmps71
  go_wp2_with (first | (go_at_call 75; refine (none_any _ _).mono ?_; rintro e w' ⟨rfl, rfl⟩))
  go_ret
  exact ⟨rfl, rfl⟩

theorem May_num (x : Nat) (w : World) (hx : x < 2 ^ 64) (hn : ¬ IsNaN x) :
    Calls Tryd.prog 71 #[.float .f64 x] w fun e w' => e = .returned (.bool (wholeB x && inB x)) ∧ w = w' := by
  have ho : FloatKind.f64.format.order x x = some .eq := order_self hn
  cases hb : wholeB x
  all_goals
    have HB := Lib.hid hb
    clear hb
    go_enter Tryd.func71, Tryd.ntmps71
    go_wp2_with (first | (go_at_call 75; refine (none_any _ _).mono ?_; rintro e w' ⟨rfl, rfl⟩) | (go_at_call 85; refine (whole_num _ _ hx hn).mono ?_; rintro e w' ⟨rfl, rfl⟩; rw [HB.out]))
    all_goals (go_ret; exact ⟨ret_bool (by simp [inB, leB, *]), rfl⟩)

theorem F_safe : F 9007199254740991 = 4845873199050653695 := by decide
theorem F_nsafe : F (-9007199254740991) = 14069245235905429503 := by decide
theorem F_0 : F 0 = 0 := F_zero

def mayC (c : Cl) : Bool := match c with
  | .nan => true
  | .other => false
  | .ours _ => true

theorem wholeB_ours (n : Int) (h : n.natAbs < 2 ^ 53) : wholeB (F n) = true := by
  have e1 : FloatKind.f64.format.order (F n) (F n) = some .eq := order_self (not_nan_F n h)
  have e2 : FloatKind.f64.format.order (F n) 0 = some (compare n 0) := by
    have := order_F n 0 h (by decide)
    rw [F_zero] at this; exact this
  unfold wholeB
  rw [truncW_F n h, e1, e2, sgn_F]
  rcases Int.lt_trichotomy n 0 with c | c | c
  · rw [Int.compare_eq_lt.2 c]; simp
  · subst c; simp
  · rw [Int.compare_eq_gt.2 c]; simp

theorem inB_ours (n : Int) (h : SafeN n) : inB (F n) = true := by
  have e1 : FloatKind.f64.format.order 14069245235905429503 (F n) = some (compare (-9007199254740991) n) := by
    have := order_F (-9007199254740991) n (by decide) h.abs
    rw [F_nsafe] at this; exact this
  have e2 : FloatKind.f64.format.order (F n) 4845873199050653695 = some (compare n 9007199254740991) := by
    have := order_F n 9007199254740991 h.abs (by decide)
    rw [F_safe] at this; exact this
  obtain ⟨h1, h2⟩ := h
  unfold inB leB
  rw [e1, e2]
  have a : compare (-9007199254740991) n = .lt ∨ compare (-9007199254740991) n = .eq := by
    rcases Int.lt_or_eq_of_le h1 with c | c
    · exact Or.inl (Int.compare_eq_lt.2 c)
    · right; rw [c]; simp
  have b : compare n 9007199254740991 = .lt ∨ compare n 9007199254740991 = .eq := by
    rcases Int.lt_or_eq_of_le h2 with c | c
    · exact Or.inl (Int.compare_eq_lt.2 c)
    · right; rw [c]; simp
  rcases a with a | a <;> rcases b with b | b <;> rw [a, b] <;> rfl

theorem inB_big {x : Nat} (h : Big x) : inB x = false := by
  have e1 := (order_big h (-9007199254740991) (by decide)).2
  have e2 := (order_big h 9007199254740991 (by decide)).1
  rw [F_nsafe] at e1
  rw [F_safe] at e2
  have e1' : FloatKind.f64.format.order 14069245235905429503 x = _ := e1
  have e2' : FloatKind.f64.format.order x 4845873199050653695 = _ := e2
  unfold inB leB
  rw [e1', e2']
  cases sgn x <;> rfl

theorem wholeB_frac {x : Nat} (h : Frac x) : wholeB x = false := by
  have e : (FloatKind.f64.format.order x (truncW x) == some .eq) = false := truncW_frac h
  unfold wholeB; rw [e]; rfl
theorem wholeB_m0 : wholeB (2 ^ 63) = false := by decide

theorem big_not_nan {x : Nat} (h : Big x) : ¬ IsNaN x := by have := h.1; unfold IsNaN; omega
theorem frac_not_nan {x : Nat} (h : Frac x) : ¬ IsNaN x := by have := h.1; unfold IsFin at this; unfold IsNaN; omega
theorem m0_not_nan : ¬ IsNaN (2 ^ 63) := by unfold IsNaN rung; decide

theorem other_not_nan {x : Nat} (h : Is .other x) : ¬ IsNaN x := by
  obtain ⟨_, h | h | h⟩ := h
  · exact big_not_nan h
  · exact frac_not_nan h
  · rw [h]; exact m0_not_nan

theorem mayB_other {x : Nat} (h : Is .other x) : (wholeB x && inB x) = false := by
  obtain ⟨_, h | h | h⟩ := h
  · rw [inB_big h, Bool.and_false]
  · rw [wholeB_frac h, Bool.false_and]
  · rw [h, wholeB_m0, Bool.false_and]

/-- num.May -/
theorem May_cls {c : Cl} {x : Nat} (h : Is c x) (w : World) :
    Calls Tryd.prog 71 #[.float .f64 x] w fun e w' => e = .returned (.bool (mayC c)) ∧ w = w' := by
  have hx := h.lt
  cases c with
  | nan => exact May_nan x w h.2
  | other =>
    have := May_num x w hx (other_not_nan h)
    rw [mayB_other h] at this; exact this
  | ours n =>
    obtain ⟨rfl, hs⟩ := h
    have := May_num (F n) w hx (not_nan_F n hs.abs)
    rw [wholeB_ours n hs.abs, inB_ours n hs] at this; exact this

/-- what a reckoning comes to: no number, an error, or one of our numbers -/
inductive Res where
  | nan | err (k : Int) | ok (n : Int)
def EncR (r : Res) (v : Nat) (k : Int) : Prop := match r with
  | .nan => (v < 2 ^ 64 ∧ IsNaN v) ∧ k = 0
  | .err j => v = 0 ∧ k = j
  | .ok n => (v = F n ∧ SafeN n) ∧ k = 0
def RetR (r : Res) (w : World) (e : Ending) (w' : World) : Prop := ∃ v k n, EncR r v k ∧ e = .returned (.tuple #[.float .f64 v, .int .i64 k]) ∧ w' = w.drewN n
/-- a worth, told -/
def tellC (c : Cl) : Res := match c with
  | .nan => .nan
  | .other => .err 10
  | .ours n => .ok n

theorem tell_cls {c : Cl} {x : Nat} (h : Is c x) (w : World) :
    Calls Tryd.prog 84 #[.float .f64 x] w fun e w' => ∃ v k, EncR (tellC c) v k ∧ e = .returned (.tuple #[.float .f64 v, .int .i64 k]) ∧ w = w' := by
  have m1 := fun w => May_cls h w
  cases c
  all_goals
    unfold mayC at m1
    go_enter Tryd.func84, Tryd.ntmps84
    go_wp2_with (first | (go_at_call 71; refine (m1 _).mono ?_; rintro e w' ⟨rfl, rfl⟩))
    go_ret2
  · exact ⟨x, 0, ⟨h, rfl⟩, rfl, rfl⟩
  · exact ⟨0, 10, ⟨rfl, rfl⟩, rfl, rfl⟩
  · exact ⟨x, 0, ⟨h, rfl⟩, rfl, rfl⟩
end Go.Proofs.YtlgbnfcnimjheaaDoor
