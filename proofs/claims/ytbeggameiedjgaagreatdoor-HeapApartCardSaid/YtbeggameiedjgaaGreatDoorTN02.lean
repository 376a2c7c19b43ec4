/-
  What the small functions of package num and of the document's own answer do to one float: walks, for every float.
-/
import Derived.Test.YtbeggameiedjgaaGreatDoorChecked
import Derived.Test.YtbeggameiedjgaaGreatDoorTN01
import Derived.WalkKit
import Derived.WalkSpells
import Derived.WalkLawsBesides
import Derived.Lib.Hide
import Derived.Deep.Draws
namespace Go.Proofs.YtbeggameiedjgaaGreatDoor
open Go.RowKit Fl

theorem run_archTrunc (x : Nat) (w : World) (h : ¬ IsNaN x) : (callFunc 204 #[.float .f64 x]).run Tryz.prog w = .ok (.value (.float .f64 (truncW x))) w := by
  rw [run_callFunc_extern Tryz.func204 (by kernel_rfl) (by kernel_rfl) (by kernel_rfl) (e := Extern.MathFloor.toIntegral "math.archTrunc" .zero) (by kernel_rfl)]
  have e : Extern.MathFloor.toIntegral "math.archTrunc" .zero #[.float .f64 x] = pure (.float .f64 (truncW x)) := by
    show (match Ieee.double.read x with
      | .nan s t => _
      | d => (pure (.float .f64 (Ieee.double.write (d.integral .zero))) : Sem Value)) = _
    unfold truncW
    cases hd : Ieee.double.read x with
    | nan s t => exact absurd hd (by
        intro hd
        rcases Nat.lt_or_eq_of_le (Nat.le_of_not_lt h) with c | c
        · obtain ⟨m, e, h1, _⟩ := read_fin c
          rw [h1] at hd; cases hd
        · rw [read_inf c] at hd; cases hd)
    | number s m i => rfl
    | infinity s => rfl
  rw [e]; rfl

theorem run_Float64bits (x : Nat) (w : World) : (callFunc 166 #[.float .f64 x]).run Tryz.prog w = .ok (.value (.int .u64 x)) w := by
  rw [run_callFunc_extern Tryz.func166 (by kernel_rfl) (by kernel_rfl) (by kernel_rfl) (e := Extern.MathFloatBits.float64bits) (by kernel_rfl)]
  rfl

theorem none_any (x : Nat) (w : World) :
    Calls Tryz.prog 173 #[.float .f64 x] w fun e w' => e = .returned (.bool (FloatKind.f64.format.order x x != some .eq)) ∧ w = w' := by
  go_enter Tryz.func173, Tryz.ntmps173
  go_wp2
  go_ret
  exact ⟨rfl, rfl⟩

theorem Trunc_num (x : Nat) (w : World) (hn : ¬ IsNaN x) :
    Calls Tryz.prog 195 #[.float .f64 x] w fun e w' => e = .returned (.float .f64 (truncW x)) ∧ w = w' := by
  have ht := fun w => run_archTrunc x w hn
  go_enter Tryz.func195, Tryz.ntmps195
  go_wp2
  go_ret
  exact ⟨rfl, rfl⟩

theorem sgn_wrap (x : Nat) (_hx : x < 2 ^ 64) : decide (wrap64 (x : Int) < 0) = sgn x := by
  unfold sgn wrap64
  rw [Bool.eq_iff_iff, decide_eq_true_iff, beq_iff_eq]; omega

theorem ret_bool {a b : Bool} (h : a = b) : Ending.returned (.bool a) = .returned (.bool b) := by rw [h]
theorem ret_int {k : IntKind} {a b : Int} (h : a = b) : Ending.returned (.int k a) = .returned (.int k b) := by rw [h]

theorem Signbit_any (x : Nat) (w : World) (hx : x < 2 ^ 64) :
    Calls Tryz.prog 129 #[.float .f64 x] w fun e w' => e = .returned (.bool (sgn x)) ∧ w = w' := by
  have hb := fun w => run_Float64bits x w
  have hs : Hid (decide (wrap64 (x : Int) < 0) = sgn x) := Lib.hid (sgn_wrap x hx)
  go_enter Tryz.func129, Tryz.ntmps129
  go_wp2
  go_ret
  exact ⟨ret_bool hs.out, rfl⟩

/-- whether a float is whole and no minus nought -/
def wholeB (x : Nat) : Bool := (FloatKind.f64.format.order x (truncW x) == some .eq) && !((FloatKind.f64.format.order x 0 == some .eq) && sgn x)
def leB (x y : Nat) : Bool := FloatKind.f64.format.order x y == some .lt || FloatKind.f64.format.order x y == some .eq

theorem whole_num (x : Nat) (w : World) (hx : x < 2 ^ 64) (hn : ¬ IsNaN x) :
    Calls Tryz.prog 180 #[.float .f64 x] w fun e w' => e = .returned (.bool (wholeB x)) ∧ w = w' := by
  go_enter Tryz.func180, Tryz.ntmps180
  go_wp2_with (first | (go_at_call 195; refine (Trunc_num _ _ hn).mono ?_; rintro e w' ⟨rfl, rfl⟩) | (go_at_call 129; refine (Signbit_any _ _ hx).mono ?_; rintro e w' ⟨rfl, rfl⟩))
  all_goals (go_ret; exact ⟨ret_bool (by simp [wholeB, *]), rfl⟩)

def inB (x : Nat) : Bool := leB 14069245235905429503 x && leB x 4845873199050653695

theorem May_nan (x : Nat) (w : World) (hn : IsNaN x) :
    Calls Tryz.prog 165 #[.float .f64 x] w fun e w' => e = .returned (.bool true) ∧ w = w' := by
  have ho : FloatKind.f64.format.order x x = none := order_nan_l x hn
  go_enter Tryz.func165, Tryz.ntmps165
  go_wp2_with (first | (go_at_call 173; refine (none_any _ _).mono ?_; rintro e w' ⟨rfl, rfl⟩))
  go_ret
  exact ⟨rfl, rfl⟩

theorem May_num (x : Nat) (w : World) (hx : x < 2 ^ 64) (hn : ¬ IsNaN x) :
    Calls Tryz.prog 165 #[.float .f64 x] w fun e w' => e = .returned (.bool (wholeB x && inB x)) ∧ w = w' := by
  have ho : FloatKind.f64.format.order x x = some .eq := order_self hn
  cases hb : wholeB x
  all_goals
    have HB := Lib.hid hb
    clear hb
    go_enter Tryz.func165, Tryz.ntmps165
    go_wp2_with (first | (go_at_call 173; refine (none_any _ _).mono ?_; rintro e w' ⟨rfl, rfl⟩) | (go_at_call 180; refine (whole_num _ _ hx hn).mono ?_; rintro e w' ⟨rfl, rfl⟩; rw [HB.out]))
    all_goals (go_ret; exact ⟨ret_bool (by simp [inB, leB, *]), rfl⟩)

theorem F_safe : F 9007199254740991 = 4845873199050653695 := by decide
theorem F_nsafe : F (-9007199254740991) = 14069245235905429503 := by decide
theorem F_0 : F 0 = 0 := F_zero

def mayC (c : Cl) : Bool := match c with
  | .nan => true
  | .other => false
  | .ours _ => true

theorem wholeB_ours (n : Int) (h : n.natAbs < 2 ^ 53) : wholeB (F n) = true := by
  have e1 : FloatKind.f64.format.order (F n) (F n) = some .eq := order_self (not_nan_F n h)
  have e2 : FloatKind.f64.format.order (F n) 0 = some (compare n 0) := by
    have := order_F n 0 h (by decide)
    rw [F_zero] at this; exact this
  unfold wholeB
  rw [truncW_F n h, e1, e2, sgn_F]
  rcases Int.lt_trichotomy n 0 with c | c | c
  · rw [Int.compare_eq_lt.2 c]; simp
  · subst c; simp
  · rw [Int.compare_eq_gt.2 c]; simp

theorem inB_ours (n : Int) (h : SafeN n) : inB (F n) = true := by
  have e1 : FloatKind.f64.format.order 14069245235905429503 (F n) = some (compare (-9007199254740991) n) := by
    have := order_F (-9007199254740991) n (by decide) h.abs
    rw [F_nsafe] at this; exact this
  have e2 : FloatKind.f64.format.order (F n) 4845873199050653695 = some (compare n 9007199254740991) := by
    have := order_F n 9007199254740991 h.abs (by decide)
    rw [F_safe] at this; exact this
  obtain ⟨h1, h2⟩ := h
  unfold inB leB
  rw [e1, e2]
  have a : compare (-9007199254740991) n = .lt ∨ compare (-9007199254740991) n = .eq := by
    rcases Int.lt_or_eq_of_le h1 with c | c
    · exact Or.inl (Int.compare_eq_lt.2 c)
    · right; rw [c]; simp
  have b : compare n 9007199254740991 = .lt ∨ compare n 9007199254740991 = .eq := by
    rcases Int.lt_or_eq_of_le h2 with c | c
    · exact Or.inl (Int.compare_eq_lt.2 c)
    · right; rw [c]; simp
  rcases a with a | a <;> rcases b with b | b <;> rw [a, b] <;> rfl

theorem inB_big {x : Nat} (h : Big x) : inB x = false := by
  have e1 := (order_big h (-9007199254740991) (by decide)).2
  have e2 := (order_big h 9007199254740991 (by decide)).1
  rw [F_nsafe] at e1
  rw [F_safe] at e2
  have e1' : FloatKind.f64.format.order 14069245235905429503 x = _ := e1
  have e2' : FloatKind.f64.format.order x 4845873199050653695 = _ := e2
  unfold inB leB
  rw [e1', e2']
  cases sgn x <;> rfl

theorem wholeB_frac {x : Nat} (h : Frac x) : wholeB x = false := by
  have e : (FloatKind.f64.format.order x (truncW x) == some .eq) = false := truncW_frac h
  unfold wholeB; rw [e]; rfl
theorem wholeB_m0 : wholeB (2 ^ 63) = false := by decide

theorem big_not_nan {x : Nat} (h : Big x) : ¬ IsNaN x := by have := h.1; unfold IsNaN; omega
theorem frac_not_nan {x : Nat} (h : Frac x) : ¬ IsNaN x := by have := h.1; unfold IsFin at this; unfold IsNaN; omega
theorem m0_not_nan : ¬ IsNaN (2 ^ 63) := by unfold IsNaN rung; decide

theorem other_not_nan {x : Nat} (h : Is .other x) : ¬ IsNaN x := by
  obtain ⟨_, h | h | h⟩ := h
  · exact big_not_nan h
  · exact frac_not_nan h
  · rw [h]; exact m0_not_nan

theorem mayB_other {x : Nat} (h : Is .other x) : (wholeB x && inB x) = false := by
  obtain ⟨_, h | h | h⟩ := h
  · rw [inB_big h, Bool.and_false]
  · rw [wholeB_frac h, Bool.false_and]
  · rw [h, wholeB_m0, Bool.false_and]

/-- num.May -/
theorem May_cls {c : Cl} {x : Nat} (h : Is c x) (w : World) :
    Calls Tryz.prog 165 #[.float .f64 x] w fun e w' => e = .returned (.bool (mayC c)) ∧ w = w' := by
  have hx := h.lt
  cases c with
  | nan => exact May_nan x w h.2
  | other =>
    have := May_num x w hx (other_not_nan h)
    rw [mayB_other h] at this; exact this
  | ours n =>
    obtain ⟨rfl, hs⟩ := h
    have := May_num (F n) w hx (not_nan_F n hs.abs)
    rw [wholeB_ours n hs.abs, inB_ours n hs] at this; exact this

/-- what a reckoning comes to: no number, an error, or one of our numbers -/
inductive Res where
  | nan | err (k : Int) | ok (n : Int)
def EncR (r : Res) (v : Nat) (k : Int) : Prop := match r with
  | .nan => (v < 2 ^ 64 ∧ IsNaN v) ∧ k = 0
  | .err j => v = 0 ∧ k = j
  | .ok n => (v = F n ∧ SafeN n) ∧ k = 0
def RetR (r : Res) (w : World) (e : Ending) (w' : World) : Prop := ∃ v k n, EncR r v k ∧ e = .returned (.tuple #[.float .f64 v, .int .i64 k]) ∧ w' = w.drewN n
/-- a worth, told -/
def tellC (c : Cl) : Res := match c with
  | .nan => .nan
  | .other => .err 10
  | .ours n => .ok n

theorem tell_cls {c : Cl} {x : Nat} (h : Is c x) (w : World) :
    Calls Tryz.prog 179 #[.float .f64 x] w fun e w' => ∃ v k, EncR (tellC c) v k ∧ e = .returned (.tuple #[.float .f64 v, .int .i64 k]) ∧ w = w' := by
  have m1 := fun w => May_cls h w
  cases c
  all_goals
    unfold mayC at m1
    go_enter Tryz.func179, Tryz.ntmps179
    go_wp2_with (first | (go_at_call 165; refine (m1 _).mono ?_; rintro e w' ⟨rfl, rfl⟩))
    go_ret2
  · exact ⟨x, 0, ⟨h, rfl⟩, rfl, rfl⟩
  · exact ⟨0, 10, ⟨rfl, rfl⟩, rfl, rfl⟩
  · exact ⟨x, 0, ⟨h, rfl⟩, rfl, rfl⟩
end Go.Proofs.YtbeggameiedjgaaGreatDoor
/-
  Less and Index of package num beside the document's own, for every two floats: walks.
-/
namespace Go.Proofs.YtbeggameiedjgaaGreatDoor
open Go.RowKit Fl

/-- the document's whole: of our numbers the number and true, else 0 and false -/
def wholeI (c : Cl) : Int := match c with
  | .ours n => n
  | _ => 0
def wholeC (c : Cl) : Bool := match c with
  | .ours _ => true
  | _ => false

theorem order_some {x y : Nat} (hx : IsFin x) (hy : IsFin y) : ∃ o, FloatKind.f64.format.order x y = some o := ⟨_, order_fin hx hy⟩

theorem conv_run {x : Nat} {k : Int} (h : floatToIntVal .f64 x .i64 = some k) (w : World) : (convert 24 2 (.float .f64 x)).run Tryz.prog w = .ok (.int .i64 k) w :=
  run_convert_float_int w _ _ .f64 .i64 x k (by rw [Tryz.underlying24]; rfl) Tryz.underlying2 h

theorem run_archTrunc_nan (x : Nat) (w : World) : ∃ y n, (callFunc 204 #[.float .f64 x]).run Tryz.prog w = .ok (.value (.float .f64 y)) (w.drewN n) := by
  rw [run_callFunc_extern Tryz.func204 (by kernel_rfl) (by kernel_rfl) (by kernel_rfl) (e := Extern.MathFloor.toIntegral "math.archTrunc" .zero) (by kernel_rfl)]
  obtain ⟨q, hq, e⟩ : ∃ q : Question, q.forced = false ∧ Extern.MathFloor.toIntegral "math.archTrunc" .zero #[.float .f64 x] = (match Ieee.double.read x with
      | .nan s t => if FloatKind.f64.format.quiet t = t then pure (Value.float .f64 x) else do
        let kept ← choose q
        pure (.float .f64 (if kept == 1 then x else FloatKind.f64.encode (.nan s (FloatKind.f64.format.quiet t))))
      | d => pure (.float .f64 (Ieee.double.write (d.integral .zero)))) := by
    refine ⟨_, ?_, rfl⟩
    rfl
  rw [e]
  generalize Ieee.double.read x = r
  cases r with
  | number s m i => exact ⟨_, 0, rfl⟩
  | infinity s => exact ⟨_, 0, rfl⟩
  | nan s t =>
    by_cases c : FloatKind.f64.format.quiet t = t
    · exact ⟨x, 0, by simp only [if_pos c]; rfl⟩
    · refine ⟨if q.cut (w.tape w.drawn q) == 1 then x else FloatKind.f64.encode (.nan s (FloatKind.f64.format.quiet t)), 1, ?_⟩
      simp only [if_neg c, Sem.run_bind, run_choose, hq, Bool.false_eq_true, if_false, Result.andThen]
      rfl

def SomeFloat (w : World) (e : Ending) (w' : World) : Prop := ∃ y n, e = .returned (.float .f64 y) ∧ w' = w.drewN n
def DrawnBool (b : Bool) (w : World) (e : Ending) (w' : World) : Prop := ∃ n, e = .returned (.bool b) ∧ w' = w.drewN n

set_option maxRecDepth 1000000 in
theorem Trunc_nan (x : Nat) (w : World) : Calls Tryz.prog 195 #[.float .f64 x] w (SomeFloat w) := by
  obtain ⟨y, n, ht⟩ := run_archTrunc_nan x w
  go_enter Tryz.func195, Tryz.ntmps195
  go_wp2
  go_ret
  exact ⟨y, n, rfl, rfl⟩

theorem whole_nan {x : Nat} (hn : IsNaN x) (w : World) : Calls Tryz.prog 180 #[.float .f64 x] w (DrawnBool false w) := by
  have ho : ∀ y, FloatKind.f64.format.order x y = none := fun y => order_nan_l y hn
  go_enter Tryz.func180, Tryz.ntmps180
  go_wp2_with (go_at_call 195; refine (Trunc_nan _ _).mono ?_; rintro e w' ⟨y, n, rfl, rfl⟩)
  go_ret
  exact ⟨_, rfl, rfl⟩

def idxB (c : Cl) : Bool := match c with
  | .ours n => decide (0 ≤ n) && decide (n < 1024)
  | _ => false
def idxI (c : Cl) : Int := if idxB c then wholeI c else 0
def DrawnIdx (c : Cl) (w : World) (e : Ending) (w' : World) : Prop := ∃ n, e = .returned (.tuple #[.int .i64 (idxI c), .bool (idxB c)]) ∧ w' = w.drewN n

theorem F_1024 : F 1024 = 4652218415073722368 := by decide

theorem conv_run_int {x : Nat} {k : Int} (h : floatToIntVal .f64 x .i64 = some k) (w : World) : (convert 24 3 (.float .f64 x)).run Tryz.prog w = .ok (.int .i64 k) w :=
  run_convert_float_int w _ _ .f64 .i64 x k (by rw [Tryz.underlying24]; rfl) Tryz.underlying3 h

theorem Index_nan {x : Nat} (h : IsNaN x) (w : World) : Calls Tryz.prog 148 #[.float .f64 x] w (DrawnIdx .nan w) := by
  go_enter Tryz.func148, Tryz.ntmps148
  go_wp2_with (go_at_call 180; refine (whole_nan h _).mono ?_; rintro e w' ⟨n, rfl, rfl⟩)
  go_ret2
  exact ⟨_, rfl, rfl⟩

theorem Index_out {x : Nat} (hx : x < 2 ^ 64) (hn : ¬ IsNaN x) (h : wholeB x = false ∨ FloatKind.f64.format.order x 0 = some .lt ∨ (FloatKind.f64.format.order x 0 = some .gt ∧ FloatKind.f64.format.order x 4652218415073722368 = some .gt)) (w : World) :
    Calls Tryz.prog 148 #[.float .f64 x] w fun e w' => e = .returned (.tuple #[.int .i64 0, .bool false]) ∧ w = w' := by
  have hw := fun w => whole_num x w hx hn
  cases hb : wholeB x
  · rw [hb] at hw
    clear hb h
    go_enter Tryz.func148, Tryz.ntmps148
    go_wp2_with (go_at_call 180; refine (hw _).mono ?_; rintro e w' ⟨rfl, rfl⟩)
    go_ret2
    exact ⟨rfl, rfl⟩
  · rw [hb] at hw h
    clear hb
    rcases h with h | h | ⟨h1, h2⟩
    · cases h
    · go_enter Tryz.func148, Tryz.ntmps148
      go_wp2_with (go_at_call 180; refine (hw _).mono ?_; rintro e w' ⟨rfl, rfl⟩)
      go_ret2
      exact ⟨rfl, rfl⟩
    · go_enter Tryz.func148, Tryz.ntmps148
      go_wp2_with (go_at_call 180; refine (hw _).mono ?_; rintro e w' ⟨rfl, rfl⟩)
      go_ret2
      exact ⟨rfl, rfl⟩

theorem Index_ours {n : Int} (h : SafeN n) (w : World) :
    Calls Tryz.prog 148 #[.float .f64 (F n)] w fun e w' => e = .returned (.tuple #[.int .i64 (idxI (.ours n)), .bool (idxB (.ours n))]) ∧ w = w' := by
  have ha := h.abs
  have hw := fun w => whole_num (F n) w (F_lt n) (not_nan_F n ha)
  rw [wholeB_ours n ha] at hw
  have hc := fun w => conv_run_int (floatToIntVal_F n ha) w
  have e1 := order_F n 0 ha (by decide)
  have e2 := order_F n 1024 ha (by decide)
  rw [F_zero] at e1
  rw [F_1024] at e2
  obtain ⟨x, hx⟩ : ∃ x, x = F n := ⟨_, rfl⟩
  rw [← hx] at hw hc e1 e2 ⊢
  clear hx
  have c1 : (n < 0 ∧ compare n 0 = .lt ∧ idxB (.ours n) = false) ∨ (0 ≤ n ∧ compare n 0 ≠ .lt) := by
    by_cases c : n < 0
    · exact Or.inl ⟨c, Int.compare_eq_lt.2 c, by simp [idxB]; omega⟩
    · exact Or.inr ⟨by omega, fun e => c (Int.compare_eq_lt.1 e)⟩
  have c2 : (n < 1024 ∧ compare n 1024 = .lt) ∨ (1024 ≤ n ∧ compare n 1024 ≠ .lt ∧ idxB (.ours n) = false) := by
    by_cases c : n < 1024
    · exact Or.inl ⟨c, Int.compare_eq_lt.2 c⟩
    · exact Or.inr ⟨by omega, fun e => c (Int.compare_eq_lt.1 e), by simp [idxB]; omega⟩
  have o1 : FloatKind.f64.format.order x 0 = _ := e1
  have o2 : FloatKind.f64.format.order x 4652218415073722368 = _ := e2
  clear e1 e2 ha
  rcases c1 with ⟨c, d, b⟩ | ⟨c, d⟩
  · rw [d] at o1
    unfold idxI
    rw [b]
    clear c2 d b c o2
    go_enter Tryz.func148, Tryz.ntmps148
    go_wp2_with (go_at_call 180; refine (hw _).mono ?_; rintro e w' ⟨rfl, rfl⟩)
    go_ret2
    exact ⟨rfl, rfl⟩
  · rcases c2 with ⟨c', d'⟩ | ⟨c', d', b⟩
    · have b : idxB (.ours n) = true := by simp [idxB, c, c']
      rw [d'] at o2
      unfold idxI
      rw [b]
      obtain ⟨o, ho⟩ : ∃ o, compare n 0 = o := ⟨_, rfl⟩
      rw [ho] at d o1
      clear ho b d' c c'
      show Calls _ _ _ _ fun e w' => e = .returned (.tuple #[.int .i64 n, .bool true]) ∧ w = w'
      cases o
      · exact absurd rfl d
      all_goals
        clear d
        go_enter Tryz.func148, Tryz.ntmps148
        go_wp2_with (go_at_call 180; refine (hw _).mono ?_; rintro e w' ⟨rfl, rfl⟩)
        go_ret2
        exact ⟨rfl, rfl⟩
    · unfold idxI
      rw [b]
      obtain ⟨o, ho⟩ : ∃ o, compare n 0 = o := ⟨_, rfl⟩
      obtain ⟨u, hu⟩ : ∃ u, compare n 1024 = u := ⟨_, rfl⟩
      rw [ho] at d o1
      rw [hu] at d' o2
      clear ho hu b c c'
      cases o
      · exact absurd rfl d
      all_goals
        cases u
        · exact absurd rfl d'
        all_goals
          clear d d'
          go_enter Tryz.func148, Tryz.ntmps148
          go_wp2_with (go_at_call 180; refine (hw _).mono ?_; rintro e w' ⟨rfl, rfl⟩)
          go_ret2
          exact ⟨rfl, rfl⟩

theorem drewN_zero (w : World) : w = w.drewN 0 := rfl

theorem Index_cls {c : Cl} {x : Nat} (h : Is c x) (w : World) : Calls Tryz.prog 148 #[.float .f64 x] w (DrawnIdx c w) := by
  cases c with
  | nan => exact Index_nan h.2 w
  | other =>
    refine (Index_out h.lt (other_not_nan h) ?_ w).mono fun e w' ⟨he, hw⟩ => ⟨0, he, hw ▸ rfl⟩
    obtain ⟨_, h | h | h⟩ := h
    · have e1 := (order_big h 0 (by decide)).1
      have e2 := (order_big h 1024 (by decide)).1
      rw [F_zero] at e1
      rw [F_1024] at e2
      cases hs : sgn x
      · rw [hs] at e1 e2; exact Or.inr (Or.inr ⟨e1, e2⟩)
      · rw [hs] at e1; exact Or.inr (Or.inl e1)
    · exact Or.inl (wholeB_frac h)
    · exact Or.inl (by rw [h]; exact wholeB_m0)
  | ours n =>
    obtain ⟨rfl, hs⟩ := h
    exact (Index_ours hs w).mono fun e w' ⟨he, hw⟩ => ⟨0, he, hw ▸ rfl⟩

def lessV (x y : Nat) : Int := if FloatKind.f64.format.order x x != some .eq || FloatKind.f64.format.order y y != some .eq then -1 else if FloatKind.f64.format.order x y == some .lt then 1 else 0

theorem below_drawn (w : World) (n : Nat) : Below w.heap.size w (w.drewN n) := ⟨rfl, rfl, rfl, Nat.le_refl _, fun _ _ => rfl⟩

end Go.Proofs.YtbeggameiedjgaaGreatDoor
