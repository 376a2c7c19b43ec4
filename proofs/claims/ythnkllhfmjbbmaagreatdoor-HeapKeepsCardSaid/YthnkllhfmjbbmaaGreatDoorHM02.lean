/-
  What the small functions of package num and of the document's own answer do to one float: walks, for every float.
-/
import Derived.Test.YthnkllhfmjbbmaaGreatDoorChecked
import Derived.Test.YthnkllhfmjbbmaaGreatDoorHM01
import Derived.WalkKit
import Derived.WalkSpells
import Derived.WalkLawsBesides
import Derived.Lib.Hide
import Derived.Deep.Draws
namespace Go.Proofs.YthnkllhfmjbbmaaGreatDoor
open Go.RowKit Fl

theorem run_archTrunc (x : Nat) (w : World) (h : ¬ IsNaN x) : (callFunc 226 #[.float .f64 x]).run Tryz.prog w = .ok (.value (.float .f64 (truncW x))) w := by
  rw [run_callFunc_extern Tryz.func226 (by kernel_rfl) (by kernel_rfl) (by kernel_rfl) (e := Extern.MathFloor.toIntegral "math.archTrunc" .zero) (by kernel_rfl)]
  have e : Extern.MathFloor.toIntegral "math.archTrunc" .zero #[.float .f64 x] = pure (.float .f64 (truncW x)) := by
    show (match Ieee.double.read x with
      | .nan s t => _
      | d => (pure (.float .f64 (Ieee.double.write (d.integral .zero))) : Sem Value)) = _
    unfold truncW
    cases hd : Ieee.double.read x with
    | nan s t => exact absurd hd (by
        intro hd
        rcases Nat.lt_or_eq_of_le (Nat.le_of_not_lt h) with c | c
        · obtain ⟨m, e, h1, _⟩ := read_fin c
          rw [h1] at hd; cases hd
        · rw [read_inf c] at hd; cases hd)
    | number s m i => rfl
    | infinity s => rfl
  rw [e]; rfl

theorem run_Float64bits (x : Nat) (w : World) : (callFunc 181 #[.float .f64 x]).run Tryz.prog w = .ok (.value (.int .u64 x)) w := by
  rw [run_callFunc_extern Tryz.func181 (by kernel_rfl) (by kernel_rfl) (by kernel_rfl) (e := Extern.MathFloatBits.float64bits) (by kernel_rfl)]
  rfl

theorem none_any (x : Nat) (w : World) :
    Calls Tryz.prog 190 #[.float .f64 x] w fun e w' => e = .returned (.bool (FloatKind.f64.format.order x x != some .eq)) ∧ w = w' := by
  go_enter Tryz.func190, Tryz.ntmps190
  go_wp2
  go_ret
  exact ⟨rfl, rfl⟩

theorem Trunc_num (x : Nat) (w : World) (hn : ¬ IsNaN x) :
    Calls Tryz.prog 219 #[.float .f64 x] w fun e w' => e = .returned (.float .f64 (truncW x)) ∧ w = w' := by
  have ht := fun w => run_archTrunc x w hn
  go_enter Tryz.func219, Tryz.ntmps219
  go_wp2
  go_ret
  exact ⟨rfl, rfl⟩

theorem sgn_wrap (x : Nat) (_hx : x < 2 ^ 64) : decide (wrap64 (x : Int) < 0) = sgn x := by
  unfold sgn wrap64
  rw [Bool.eq_iff_iff, decide_eq_true_iff, beq_iff_eq]; omega

theorem ret_bool {a b : Bool} (h : a = b) : Ending.returned (.bool a) = .returned (.bool b) := by rw [h]
theorem ret_int {k : IntKind} {a b : Int} (h : a = b) : Ending.returned (.int k a) = .returned (.int k b) := by rw [h]

theorem Signbit_any (x : Nat) (w : World) (hx : x < 2 ^ 64) :
    Calls Tryz.prog 155 #[.float .f64 x] w fun e w' => e = .returned (.bool (sgn x)) ∧ w = w' := by
  have hb := fun w => run_Float64bits x w
  have hs : Hid (decide (wrap64 (x : Int) < 0) = sgn x) := Lib.hid (sgn_wrap x hx)
  go_enter Tryz.func155, Tryz.ntmps155
  go_wp2
  go_ret
  exact ⟨ret_bool hs.out, rfl⟩

/-- whether a float is whole and no minus nought -/
def wholeB (x : Nat) : Bool := (FloatKind.f64.format.order x (truncW x) == some .eq) && !((FloatKind.f64.format.order x 0 == some .eq) && sgn x)
def leB (x y : Nat) : Bool := FloatKind.f64.format.order x y == some .lt || FloatKind.f64.format.order x y == some .eq

theorem whole_num (x : Nat) (w : World) (hx : x < 2 ^ 64) (hn : ¬ IsNaN x) :
    Calls Tryz.prog 199 #[.float .f64 x] w fun e w' => e = .returned (.bool (wholeB x)) ∧ w = w' := by
  go_enter Tryz.func199, Tryz.ntmps199
  go_wp2_with (first | (go_at_call 219; refine (Trunc_num _ _ hn).mono ?_; rintro e w' ⟨rfl, rfl⟩) | (go_at_call 155; refine (Signbit_any _ _ hx).mono ?_; rintro e w' ⟨rfl, rfl⟩))
  all_goals (go_ret; exact ⟨ret_bool (by simp [wholeB, *]), rfl⟩)

def inB (x : Nat) : Bool := leB 14069245235905429503 x && leB x 4845873199050653695

theorem May_nan (x : Nat) (w : World) (hn : IsNaN x) :
    Calls Tryz.prog 180 #[.float .f64 x] w fun e w' => e = .returned (.bool true) ∧ w = w' := by
  have ho : FloatKind.f64.format.order x x = none := order_nan_l x hn
  go_enter Tryz.func180, Tryz.ntmps180
  go_wp2_with (first | (go_at_call 190; refine (none_any _ _).mono ?_; rintro e w' ⟨rfl, rfl⟩))
  go_ret
  exact ⟨rfl, rfl⟩

theorem May_num (x : Nat) (w : World) (hx : x < 2 ^ 64) (hn : ¬ IsNaN x) :
    Calls Tryz.prog 180 #[.float .f64 x] w fun e w' => e = .returned (.bool (wholeB x && inB x)) ∧ w = w' := by
  have ho : FloatKind.f64.format.order x x = some .eq := order_self hn
  cases hb : wholeB x
  all_goals
    have HB := Lib.hid hb
    clear hb
    go_enter Tryz.func180, Tryz.ntmps180
    go_wp2_with (first | (go_at_call 190; refine (none_any _ _).mono ?_; rintro e w' ⟨rfl, rfl⟩) | (go_at_call 199; refine (whole_num _ _ hx hn).mono ?_; rintro e w' ⟨rfl, rfl⟩; rw [HB.out]))
    all_goals (go_ret; exact ⟨ret_bool (by simp [inB, leB, *]), rfl⟩)

theorem F_safe : F 9007199254740991 = 4845873199050653695 := by decide
theorem F_nsafe : F (-9007199254740991) = 14069245235905429503 := by decide
theorem F_0 : F 0 = 0 := F_zero

def mayC (c : Cl) : Bool := match c with
  | .nan => true
  | .other => false
  | .ours _ => true

theorem wholeB_ours (n : Int) (h : n.natAbs < 2 ^ 53) : wholeB (F n) = true := by
  have e1 : FloatKind.f64.format.order (F n) (F n) = some .eq := order_self (not_nan_F n h)
  have e2 : FloatKind.f64.format.order (F n) 0 = some (compare n 0) := by
    have := order_F n 0 h (by decide)
    rw [F_zero] at this; exact this
  unfold wholeB
  rw [truncW_F n h, e1, e2, sgn_F]
  rcases Int.lt_trichotomy n 0 with c | c | c
  · rw [Int.compare_eq_lt.2 c]; simp
  · subst c; simp
  · rw [Int.compare_eq_gt.2 c]; simp

theorem inB_ours (n : Int) (h : SafeN n) : inB (F n) = true := by
  have e1 : FloatKind.f64.format.order 14069245235905429503 (F n) = some (compare (-9007199254740991) n) := by
    have := order_F (-9007199254740991) n (by decide) h.abs
    rw [F_nsafe] at this; exact this
  have e2 : FloatKind.f64.format.order (F n) 4845873199050653695 = some (compare n 9007199254740991) := by
    have := order_F n 9007199254740991 h.abs (by decide)
    rw [F_safe] at this; exact this
  obtain ⟨h1, h2⟩ := h
  unfold inB leB
  rw [e1, e2]
  have a : compare (-9007199254740991) n = .lt ∨ compare (-9007199254740991) n = .eq := by
    rcases Int.lt_or_eq_of_le h1 with c | c
    · exact Or.inl (Int.compare_eq_lt.2 c)
    · right; rw [c]; simp
  have b : compare n 9007199254740991 = .lt ∨ compare n 9007199254740991 = .eq := by
    rcases Int.lt_or_eq_of_le h2 with c | c
    · exact Or.inl (Int.compare_eq_lt.2 c)
    · right; rw [c]; simp
  rcases a with a | a <;> rcases b with b | b <;> rw [a, b] <;> rfl

theorem inB_big {x : Nat} (h : Big x) : inB x = false := by
  have e1 := (order_big h (-9007199254740991) (by decide)).2
  have e2 := (order_big h 9007199254740991 (by decide)).1
  rw [F_nsafe] at e1
  rw [F_safe] at e2
  have e1' : FloatKind.f64.format.order 14069245235905429503 x = _ := e1
  have e2' : FloatKind.f64.format.order x 4845873199050653695 = _ := e2
  unfold inB leB
  rw [e1', e2']
  cases sgn x <;> rfl

theorem wholeB_frac {x : Nat} (h : Frac x) : wholeB x = false := by
  have e : (FloatKind.f64.format.order x (truncW x) == some .eq) = false := truncW_frac h
  unfold wholeB; rw [e]; rfl
theorem wholeB_m0 : wholeB (2 ^ 63) = false := by decide

theorem big_not_nan {x : Nat} (h : Big x) : ¬ IsNaN x := by have := h.1; unfold IsNaN; omega
theorem frac_not_nan {x : Nat} (h : Frac x) : ¬ IsNaN x := by have := h.1; unfold IsFin at this; unfold IsNaN; omega
theorem m0_not_nan : ¬ IsNaN (2 ^ 63) := by unfold IsNaN rung; decide

theorem other_not_nan {x : Nat} (h : Is .other x) : ¬ IsNaN x := by
  obtain ⟨_, h | h | h⟩ := h
  · exact big_not_nan h
  · exact frac_not_nan h
  · rw [h]; exact m0_not_nan

theorem mayB_other {x : Nat} (h : Is .other x) : (wholeB x && inB x) = false := by
  obtain ⟨_, h | h | h⟩ := h
  · rw [inB_big h, Bool.and_false]
  · rw [wholeB_frac h, Bool.false_and]
  · rw [h, wholeB_m0, Bool.false_and]

/-- num.May -/
theorem May_cls {c : Cl} {x : Nat} (h : Is c x) (w : World) :
    Calls Tryz.prog 180 #[.float .f64 x] w fun e w' => e = .returned (.bool (mayC c)) ∧ w = w' := by
  have hx := h.lt
  cases c with
  | nan => exact May_nan x w h.2
  | other =>
    have := May_num x w hx (other_not_nan h)
    rw [mayB_other h] at this; exact this
  | ours n =>
    obtain ⟨rfl, hs⟩ := h
    have := May_num (F n) w hx (not_nan_F n hs.abs)
    rw [wholeB_ours n hs.abs, inB_ours n hs] at this; exact this

/-- what a reckoning comes to: no number, an error, or one of our numbers -/
inductive Res where
  | nan | err (k : Int) | ok (n : Int)
def EncR (r : Res) (v : Nat) (k : Int) : Prop := match r with
  | .nan => (v < 2 ^ 64 ∧ IsNaN v) ∧ k = 0
  | .err j => v = 0 ∧ k = j
  | .ok n => (v = F n ∧ SafeN n) ∧ k = 0
def RetR (r : Res) (w : World) (e : Ending) (w' : World) : Prop := ∃ v k n, EncR r v k ∧ e = .returned (.tuple #[.float .f64 v, .int .i64 k]) ∧ w' = w.drewN n
/-- a worth, told -/
def tellC (c : Cl) : Res := match c with
  | .nan => .nan
  | .other => .err 10
  | .ours n => .ok n

theorem tell_cls {c : Cl} {x : Nat} (h : Is c x) (w : World) :
    Calls Tryz.prog 222 #[.float .f64 x] w fun e w' => ∃ v k, EncR (tellC c) v k ∧ e = .returned (.tuple #[.float .f64 v, .int .i64 k]) ∧ w = w' := by
  have m1 := fun w => May_cls h w
  cases c
  all_goals
    unfold mayC at m1
    go_enter Tryz.func222, Tryz.ntmps222
    go_wp2_with (first | (go_at_call 180; refine (m1 _).mono ?_; rintro e w' ⟨rfl, rfl⟩))
    go_ret2
  · exact ⟨x, 0, ⟨h, rfl⟩, rfl, rfl⟩
  · exact ⟨0, 10, ⟨rfl, rfl⟩, rfl, rfl⟩
  · exact ⟨x, 0, ⟨h, rfl⟩, rfl, rfl⟩
end Go.Proofs.YthnkllhfmjbbmaaGreatDoor
/-
  Less and Index of package num beside the document's own, for every two floats: walks.
-/
namespace Go.Proofs.YthnkllhfmjbbmaaGreatDoor
open Go.RowKit Fl

/-- the document's whole: of our numbers the number and true, else 0 and false -/
def wholeI (c : Cl) : Int := match c with
  | .ours n => n
  | _ => 0
def wholeC (c : Cl) : Bool := match c with
  | .ours _ => true
  | _ => false

theorem order_some {x y : Nat} (hx : IsFin x) (hy : IsFin y) : ∃ o, FloatKind.f64.format.order x y = some o := ⟨_, order_fin hx hy⟩

theorem conv_run {x : Nat} {k : Int} (h : floatToIntVal .f64 x .i64 = some k) (w : World) : (convert 29 2 (.float .f64 x)).run Tryz.prog w = .ok (.int .i64 k) w :=
  run_convert_float_int w _ _ .f64 .i64 x k (by rw [Tryz.underlying29]; rfl) Tryz.underlying2 h

theorem run_archTrunc_nan (x : Nat) (w : World) : ∃ y n, (callFunc 226 #[.float .f64 x]).run Tryz.prog w = .ok (.value (.float .f64 y)) (w.drewN n) := by
  rw [run_callFunc_extern Tryz.func226 (by kernel_rfl) (by kernel_rfl) (by kernel_rfl) (e := Extern.MathFloor.toIntegral "math.archTrunc" .zero) (by kernel_rfl)]
  obtain ⟨q, hq, e⟩ : ∃ q : Question, q.forced = false ∧ Extern.MathFloor.toIntegral "math.archTrunc" .zero #[.float .f64 x] = (match Ieee.double.read x with
      | .nan s t => if FloatKind.f64.format.quiet t = t then pure (Value.float .f64 x) else do
        let kept ← choose q
        pure (.float .f64 (if kept == 1 then x else FloatKind.f64.encode (.nan s (FloatKind.f64.format.quiet t))))
      | d => pure (.float .f64 (Ieee.double.write (d.integral .zero)))) := by
    refine ⟨_, ?_, rfl⟩
    rfl
  rw [e]
  generalize Ieee.double.read x = r
  cases r with
  | number s m i => exact ⟨_, 0, rfl⟩
  | infinity s => exact ⟨_, 0, rfl⟩
  | nan s t =>
    by_cases c : FloatKind.f64.format.quiet t = t
    · exact ⟨x, 0, by simp only [if_pos c]; rfl⟩
    · refine ⟨if q.cut (w.tape w.drawn q) == 1 then x else FloatKind.f64.encode (.nan s (FloatKind.f64.format.quiet t)), 1, ?_⟩
      simp only [if_neg c, Sem.run_bind, run_choose, hq, Bool.false_eq_true, if_false, Result.andThen]
      rfl

def SomeFloat (w : World) (e : Ending) (w' : World) : Prop := ∃ y n, e = .returned (.float .f64 y) ∧ w' = w.drewN n
def DrawnBool (b : Bool) (w : World) (e : Ending) (w' : World) : Prop := ∃ n, e = .returned (.bool b) ∧ w' = w.drewN n

set_option maxRecDepth 1000000 in
theorem Trunc_nan (x : Nat) (w : World) : Calls Tryz.prog 219 #[.float .f64 x] w (SomeFloat w) := by
  obtain ⟨y, n, ht⟩ := run_archTrunc_nan x w
  go_enter Tryz.func219, Tryz.ntmps219
  go_wp2
  go_ret
  exact ⟨y, n, rfl, rfl⟩

theorem whole_nan {x : Nat} (hn : IsNaN x) (w : World) : Calls Tryz.prog 199 #[.float .f64 x] w (DrawnBool false w) := by
  have ho : ∀ y, FloatKind.f64.format.order x y = none := fun y => order_nan_l y hn
  go_enter Tryz.func199, Tryz.ntmps199
  go_wp2_with (go_at_call 219; refine (Trunc_nan _ _).mono ?_; rintro e w' ⟨y, n, rfl, rfl⟩)
  go_ret
  exact ⟨_, rfl, rfl⟩

def idxB (c : Cl) : Bool := match c with
  | .ours n => decide (0 ≤ n) && decide (n < 1024)
  | _ => false
def idxI (c : Cl) : Int := if idxB c then wholeI c else 0
def DrawnIdx (c : Cl) (w : World) (e : Ending) (w' : World) : Prop := ∃ n, e = .returned (.tuple #[.int .i64 (idxI c), .bool (idxB c)]) ∧ w' = w.drewN n

theorem F_1024 : F 1024 = 4652218415073722368 := by decide

theorem conv_run_int {x : Nat} {k : Int} (h : floatToIntVal .f64 x .i64 = some k) (w : World) : (convert 29 3 (.float .f64 x)).run Tryz.prog w = .ok (.int .i64 k) w :=
  run_convert_float_int w _ _ .f64 .i64 x k (by rw [Tryz.underlying29]; rfl) Tryz.underlying3 h

theorem Index_nan {x : Nat} (h : IsNaN x) (w : World) : Calls Tryz.prog 201 #[.float .f64 x] w (DrawnIdx .nan w) := by
  go_enter Tryz.func201, Tryz.ntmps201
  go_wp2_with (go_at_call 199; refine (whole_nan h _).mono ?_; rintro e w' ⟨n, rfl, rfl⟩)
  go_ret2
  exact ⟨_, rfl, rfl⟩

theorem Index_out {x : Nat} (hx : x < 2 ^ 64) (hn : ¬ IsNaN x) (h : wholeB x = false ∨ FloatKind.f64.format.order x 0 = some .lt ∨ (FloatKind.f64.format.order x 0 = some .gt ∧ FloatKind.f64.format.order x 4652218415073722368 = some .gt)) (w : World) :
    Calls Tryz.prog 201 #[.float .f64 x] w fun e w' => e = .returned (.tuple #[.int .i64 0, .bool false]) ∧ w = w' := by
  have hw := fun w => whole_num x w hx hn
  cases hb : wholeB x
  · rw [hb] at hw
    clear hb h
    go_enter Tryz.func201, Tryz.ntmps201
    go_wp2_with (go_at_call 199; refine (hw _).mono ?_; rintro e w' ⟨rfl, rfl⟩)
    go_ret2
    exact ⟨rfl, rfl⟩
  · rw [hb] at hw h
    clear hb
    rcases h with h | h | ⟨h1, h2⟩
    · cases h
    · go_enter Tryz.func201, Tryz.ntmps201
      go_wp2_with (go_at_call 199; refine (hw _).mono ?_; rintro e w' ⟨rfl, rfl⟩)
      go_ret2
      exact ⟨rfl, rfl⟩
    · go_enter Tryz.func201, Tryz.ntmps201
      go_wp2_with (go_at_call 199; refine (hw _).mono ?_; rintro e w' ⟨rfl, rfl⟩)
      go_ret2
      exact ⟨rfl, rfl⟩

theorem Index_ours {n : Int} (h : SafeN n) (w : World) :
    Calls Tryz.prog 201 #[.float .f64 (F n)] w fun e w' => e = .returned (.tuple #[.int .i64 (idxI (.ours n)), .bool (idxB (.ours n))]) ∧ w = w' := by
  have ha := h.abs
  have hw := fun w => whole_num (F n) w (F_lt n) (not_nan_F n ha)
  rw [wholeB_ours n ha] at hw
  have hc := fun w => conv_run_int (floatToIntVal_F n ha) w
  have e1 := order_F n 0 ha (by decide)
  have e2 := order_F n 1024 ha (by decide)
  rw [F_zero] at e1
  rw [F_1024] at e2
  obtain ⟨x, hx⟩ : ∃ x, x = F n := ⟨_, rfl⟩
  rw [← hx] at hw hc e1 e2 ⊢
  clear hx
  have c1 : (n < 0 ∧ compare n 0 = .lt ∧ idxB (.ours n) = false) ∨ (0 ≤ n ∧ compare n 0 ≠ .lt) := by
    by_cases c : n < 0
    · exact Or.inl ⟨c, Int.compare_eq_lt.2 c, by simp [idxB]; omega⟩
    · exact Or.inr ⟨by omega, fun e => c (Int.compare_eq_lt.1 e)⟩
  have c2 : (n < 1024 ∧ compare n 1024 = .lt) ∨ (1024 ≤ n ∧ compare n 1024 ≠ .lt ∧ idxB (.ours n) = false) := by
    by_cases c : n < 1024
    · exact Or.inl ⟨c, Int.compare_eq_lt.2 c⟩
    · exact Or.inr ⟨by omega, fun e => c (Int.compare_eq_lt.1 e), by simp [idxB]; omega⟩
  have o1 : FloatKind.f64.format.order x 0 = _ := e1
  have o2 : FloatKind.f64.format.order x 4652218415073722368 = _ := e2
  clear e1 e2 ha
  rcases c1 with ⟨c, d, b⟩ | ⟨c, d⟩
  · rw [d] at o1
    unfold idxI
    rw [b]
    clear c2 d b c o2
    go_enter Tryz.func201, Tryz.ntmps201
    go_wp2_with (go_at_call 199; refine (hw _).mono ?_; rintro e w' ⟨rfl, rfl⟩)
    go_ret2
    exact ⟨rfl, rfl⟩
  · rcases c2 with ⟨c', d'⟩ | ⟨c', d', b⟩
    · have b : idxB (.ours n) = true := by simp [idxB, c, c']
      rw [d'] at o2
      unfold idxI
      rw [b]
      obtain ⟨o, ho⟩ : ∃ o, compare n 0 = o := ⟨_, rfl⟩
      rw [ho] at d o1
      clear ho b d' c c'
      show Calls _ _ _ _ fun e w' => e = .returned (.tuple #[.int .i64 n, .bool true]) ∧ w = w'
      cases o
      · exact absurd rfl d
      all_goals
        clear d
        go_enter Tryz.func201, Tryz.ntmps201
        go_wp2_with (go_at_call 199; refine (hw _).mono ?_; rintro e w' ⟨rfl, rfl⟩)
        go_ret2
        exact ⟨rfl, rfl⟩
    · unfold idxI
      rw [b]
      obtain ⟨o, ho⟩ : ∃ o, compare n 0 = o := ⟨_, rfl⟩
      obtain ⟨u, hu⟩ : ∃ u, compare n 1024 = u := ⟨_, rfl⟩
      rw [ho] at d o1
      rw [hu] at d' o2
      clear ho hu b c c'
      cases o
      · exact absurd rfl d
      all_goals
        cases u
        · exact absurd rfl d'
        all_goals
          clear d d'
          go_enter Tryz.func201, Tryz.ntmps201
          go_wp2_with (go_at_call 199; refine (hw _).mono ?_; rintro e w' ⟨rfl, rfl⟩)
          go_ret2
          exact ⟨rfl, rfl⟩

theorem drewN_zero (w : World) : w = w.drewN 0 := rfl

theorem Index_cls {c : Cl} {x : Nat} (h : Is c x) (w : World) : Calls Tryz.prog 201 #[.float .f64 x] w (DrawnIdx c w) := by
  cases c with
  | nan => exact Index_nan h.2 w
  | other =>
    refine (Index_out h.lt (other_not_nan h) ?_ w).mono fun e w' ⟨he, hw⟩ => ⟨0, he, hw ▸ rfl⟩
    obtain ⟨_, h | h | h⟩ := h
    · have e1 := (order_big h 0 (by decide)).1
      have e2 := (order_big h 1024 (by decide)).1
      rw [F_zero] at e1
      rw [F_1024] at e2
      cases hs : sgn x
      · rw [hs] at e1 e2; exact Or.inr (Or.inr ⟨e1, e2⟩)
      · rw [hs] at e1; exact Or.inr (Or.inl e1)
    · exact Or.inl (wholeB_frac h)
    · exact Or.inl (by rw [h]; exact wholeB_m0)
  | ours n =>
    obtain ⟨rfl, hs⟩ := h
    exact (Index_ours hs w).mono fun e w' ⟨he, hw⟩ => ⟨0, he, hw ▸ rfl⟩

def lessV (x y : Nat) : Int := if FloatKind.f64.format.order x x != some .eq || FloatKind.f64.format.order y y != some .eq then -1 else if FloatKind.f64.format.order x y == some .lt then 1 else 0

theorem below_drawn (w : World) (n : Nat) : Below w.heap.size w (w.drewN n) := ⟨rfl, rfl, rfl, Nat.le_refl _, fun _ _ => rfl⟩

end Go.Proofs.YthnkllhfmjbbmaaGreatDoor
/-
  What reckoning with two floats comes to, told by what the floats are: package num's operations and the document's own: walks.
-/
namespace Go.Proofs.YthnkllhfmjbbmaaGreatDoor
open Go.RowKit Fl

theorem results_tmp4 {fn : Func} {t u v x : Tmp} (h : fn.results = #[.tmp t, .tmp u, .tmp v, .tmp x]) (tmps : Array Value) (P : Program) (w : World) :
    (results fn tmps).run P w = .ok (.tuple #[tmps.getD t undef, tmps.getD u undef, tmps.getD v undef, tmps.getD x undef]) w := by simp [results, h]

/-- the class of a whole number's word -/
def clF (n : Int) : Cl := if -9007199254740991 ≤ n ∧ n ≤ 9007199254740991 then .ours n else .other
theorem is_clF (n : Int) : Is (clF n) (F n) := by
  unfold clF
  by_cases h : -9007199254740991 ≤ n ∧ n ≤ 9007199254740991
  · rw [if_pos h]; exact ⟨rfl, h⟩
  · rw [if_neg h]; exact ⟨F_lt n, Or.inl (F_big n (by omega))⟩
def tellN (n : Int) : Res := if -9007199254740991 ≤ n ∧ n ≤ 9007199254740991 then .ok n else .err 10
theorem tell_clF (n : Int) : tellC (clF n) = tellN n := by unfold tellN clF; split <;> rfl
theorem is_m0 : Is .other (2 ^ 63) := ⟨by decide, Or.inr (Or.inr rfl)⟩
theorem other_of_frac {z : Nat} (hz : z < 2 ^ 64) (hf : IsFin z) (hm : ru (rung z) % U ≠ 0) : Is .other z := by
  by_cases b : 2 ^ 53 * U ≤ ru (rung z)
  · exact ⟨hz, Or.inl ⟨Nat.le_of_lt hf, b⟩⟩
  · exact ⟨hz, Or.inr (Or.inl ⟨hf, hm, Nat.lt_of_not_le b⟩)⟩
theorem is_inf (s : Bool) : Is .other (Ieee.double.word s Ieee.double.infRung) := by
  have e4 : Ieee.double.infRung = 2047 * 2 ^ 52 := by decide
  rw [e4]
  have w := word_sgn s (2047 * 2 ^ 52) (by decide)
  refine ⟨w.2.2, Or.inl ⟨by rw [w.2.1]; exact Nat.le_refl _, ?_⟩⟩
  rw [w.2.1]; exact ru_inf

/-- an operation that has no answer gives some NaN -/
theorem run_float_none {P : Program} {op : BinOp} {x y : Nat} (hop : op = .add ∨ op = .sub ∨ op = .mul ∨ op = .quo) (h : floatBits op .f64 x y = none) (w : World) :
    ∃ v, v < 2 ^ 64 ∧ IsNaN v ∧ ∀ t, (binOp op t (.float .f64 x) (.float .f64 y)).run P w = .ok (.float .f64 v) (w.drewN 1) := by
  refine ⟨(Question.nanBits .f64 x y).cut (w.tape w.drawn (.nanBits .f64 x y)), ?_, ?_, ?_⟩
  · unfold Question.cut; dsimp only; omega
  · unfold IsNaN rung Question.cut; dsimp only
    generalize w.tape w.drawn (Question.nanBits FloatKind.f64 x y) = t
    obtain ⟨a, ha, ha2⟩ : ∃ a, a = t % 2 ∧ a < 2 := ⟨_, rfl, Nat.mod_lt _ (by decide)⟩
    obtain ⟨b, hb, hb2⟩ : ∃ b, b = t / 2 % (2 ^ 52 - 1) ∧ b < 2 ^ 52 - 1 := ⟨_, rfl, Nat.mod_lt _ (by decide)⟩
    rw [← ha, ← hb]
    clear ha hb
    have : a = 0 ∨ a = 1 := by omega
    rcases this with c | c <;> subst c <;> omega
  · intro t
    unfold floatBits at h
    rcases hop with rfl | rfl | rfl | rfl
    all_goals
      simp only at h
      simp [binOp, Op.floatArith, h, Question.forced, World.drewN]

theorem nan_l {op : BinOp} {x : Nat} (y : Nat) (h : IsNaN x) : floatBits op .f64 x y = none := by
  obtain ⟨t, hr⟩ := read_nan h
  have h2 : FloatKind.f64.format.read x = .nan (sgn x) t := hr
  unfold floatBits
  cases op <;> first | rfl | (simp only [Ieee.Format.add, Ieee.Format.sub, Ieee.Format.mul, Ieee.Format.div, h2]; rfl)

theorem nan_r {op : BinOp} (x : Nat) {y : Nat} (h : IsNaN y) : floatBits op .f64 x y = none := by
  obtain ⟨t, hr⟩ := read_nan h
  have h2 : FloatKind.f64.format.read y = .nan (sgn y) t := hr
  unfold floatBits
  cases op <;> first | rfl | (simp only [Ieee.Format.add, Ieee.Format.sub, Ieee.Format.mul, Ieee.Format.div, h2]; cases FloatKind.f64.format.read x <;> rfl)

/-- the class of a sum, a difference, a product, a quotient of our numbers, and its word -/
def SomeNaN (w : World) (e : Ending) (w' : World) : Prop := ∃ v n, (v < 2 ^ 64 ∧ IsNaN v) ∧ e = .returned (.float .f64 v) ∧ w' = w.drewN n

def twoV (c d : Cl) : Value := if mayC c && mayC d then .tuple #[.int .i64 (wholeI c), .int .i64 (wholeI d), .bool (!wholeC c || !wholeC d), .int .i64 0] else .tuple #[.int .i64 0, .int .i64 0, .bool false, .int .i64 2]

def EncV (r : Res) (w : World) (e : Ending) (w' : World) : Prop := ∃ v k, EncR r v k ∧ e = .returned (.tuple #[.float .f64 v, .int .i64 k]) ∧ w = w'

/-- a reckoning of two of our numbers by f; an error where one is none of ours, no number where one is no number -/
def opR (f : Int → Int → Res) (c d : Cl) : Res := match c, d with
  | .other, _ => .err 2
  | _, .other => .err 2
  | .ours a, .ours b => f a b
  | _, _ => .nan

theorem retR_err (k : Int) (w : World) : RetR (.err k) w (.returned (.tuple #[.float .f64 0, .int .i64 k])) w := ⟨0, k, 0, ⟨rfl, rfl⟩, rfl, rfl⟩
theorem retR_of {r : Res} {v : Nat} {k : Int} (h : EncR r v k) (w : World) (n : Nat) : RetR r w (.returned (.tuple #[.float .f64 v, .int .i64 k])) (w.drewN n) := ⟨v, k, n, h, rfl, rfl⟩

/-- one operation of two of our numbers, of any class: what it comes to -/
def Worth (op : BinOp) (f : Int → Int → Res) : Prop := ∀ a b : Int, SafeN a → SafeN b →
  (∃ c z, floatBits op .f64 (F a) (F b) = some z ∧ Is c z ∧ tellC c = f a b) ∨ (floatBits op .f64 (F a) (F b) = none ∧ f a b = .nan)

def sumR (a b : Int) : Res := tellN (a + b)
def subR (a b : Int) : Res := tellN (a - b)
def mulR (a b : Int) : Res := if a = 0 ∨ b = 0 then (if a < 0 ∨ b < 0 then .err 10 else .ok 0) else tellN (a * b)
def divR (a b : Int) : Res := if b = 0 then (if a = 0 then .nan else .err 10) else if a = 0 then (if b < 0 then .err 10 else .ok 0) else if a.tmod b ≠ 0 then .err 10 else .ok (a.tdiv b)
def remR (a b : Int) : Res := if b = 0 then .nan else if a < 0 ∧ a.tmod b = 0 then .err 10 else .ok (a.tmod b)
def negR (a : Int) : Res := if a = 0 then .err 10 else .ok (-a)

theorem word_f0 : Ieee.double.word false 0 = F 0 := by decide
theorem word_t0 : Ieee.double.word true 0 = 2 ^ 63 := by decide

theorem worth_add : Worth .add sumR := fun a b ha hb => Or.inl ⟨_, _, add_F a b ha.abs hb.abs, is_clF _, tell_clF _⟩
theorem worth_sub : Worth .sub subR := fun a b ha hb => Or.inl ⟨_, _, sub_F a b ha.abs hb.abs, is_clF _, tell_clF _⟩
theorem worth_mul : Worth .mul mulR := by
  intro a b ha hb
  left
  have h : floatBits .mul .f64 (F a) (F b) = _ := mul_F a b ha.abs hb.abs
  unfold mulR
  by_cases c : a = 0 ∨ b = 0
  · rw [if_pos c] at h ⊢
    by_cases d : a < 0 ∨ b < 0
    · rw [if_pos d]
      refine ⟨.other, _, h, ?_, rfl⟩
      have : (decide (a < 0) ^^ decide (b < 0)) = true := by
        rcases c with c | c <;> rcases d with d | d <;> simp [c, d] <;> omega
      rw [this, word_t0]; exact is_m0
    · rw [if_neg d]
      refine ⟨.ours 0, _, h, ?_, rfl⟩
      have : (decide (a < 0) ^^ decide (b < 0)) = false := by
        have d1 : ¬ a < 0 := fun e => d (Or.inl e)
        have d2 : ¬ b < 0 := fun e => d (Or.inr e)
        simp [d1, d2]
      rw [this, word_f0]; exact ⟨rfl, by unfold SafeN; omega⟩
  · rw [if_neg c] at h ⊢
    exact ⟨_, _, h, is_clF _, tell_clF _⟩
theorem worth_div : Worth .quo divR := by
  intro a b ha hb
  unfold divR
  by_cases b0 : b = 0
  · subst b0
    rw [if_pos rfl]
    by_cases a0 : a = 0
    · subst a0; right; exact ⟨div_zero_zero, rfl⟩
    · rw [if_neg a0]; left
      exact ⟨.other, _, div_zero_r a ha.abs a0, is_inf _, rfl⟩
  · rw [if_neg b0]
    left
    by_cases a0 : a = 0
    · subst a0
      rw [if_pos rfl]
      have h : floatBits .quo .f64 (F 0) (F b) = _ := div_zero_l b hb.abs b0
      by_cases d : b < 0
      · rw [if_pos d]
        refine ⟨.other, _, h, ?_, rfl⟩
        rw [decide_eq_true d, word_t0]; exact is_m0
      · rw [if_neg d]
        refine ⟨.ours 0, _, h, ?_, rfl⟩
        rw [decide_eq_false d, word_f0]; exact ⟨rfl, by unfold SafeN; omega⟩
    · rw [if_neg a0]
      by_cases m : a.tmod b = 0
      · rw [if_neg (by simp [m])]
        have hq : a = a.tdiv b * b := by
          have := Int.tmod_add_mul_tdiv a b
          rw [m, Int.zero_add, Int.mul_comm] at this; exact this.symm
        refine ⟨.ours (a.tdiv b), _, div_F a b ha.abs hb.abs a0 b0 _ hq, ⟨rfl, ?_⟩, rfl⟩
        have h1 : (a.tdiv b).natAbs ≤ a.natAbs := by
          rw [Int.natAbs_tdiv]; exact Nat.div_le_self _ _
        have := ha; unfold SafeN at this ⊢; omega
      · rw [if_pos m]
        obtain ⟨z, h, hz, hf, hm⟩ := div_F_frac a b ha.abs hb.abs b0 (by
          intro q hq
          apply m
          have : a.natAbs % b.natAbs = 0 := by rw [hq]; exact Nat.mul_mod_left _ _
          have h2 : (a.tmod b).natAbs = a.natAbs % b.natAbs := Int.natAbs_tmod a b
          omega)
        exact ⟨.other, z, h, other_of_frac hz hf hm, rfl⟩

/-- an operation of package num that asks 'both', reckons, and tells: all of them at once -/
theorem reckon {op : BinOp} {f : Int → Int → Res} {c d : Cl} {x y : Nat} (hop : op = .add ∨ op = .sub ∨ op = .mul ∨ op = .quo) (hf : Worth op f) (h : Is c x) (g : Is d y) (hm : (mayC c && mayC d) = true) (w : World) :
    ∃ e z n, Is e z ∧ tellC e = opR f c d ∧ ∀ t, (binOp op t (.float .f64 x) (.float .f64 y)).run Tryz.prog w = .ok (.float .f64 z) (w.drewN n) := by
  have key : (∃ e z, floatBits op .f64 x y = some z ∧ Is e z ∧ tellC e = opR f c d) ∨ (floatBits op .f64 x y = none ∧ opR f c d = .nan) := by
    cases c with
    | other => cases hm
    | nan =>
      cases d with
      | other => cases hm
      | nan => exact Or.inr ⟨nan_l y h.2, rfl⟩
      | ours b => exact Or.inr ⟨nan_l y h.2, rfl⟩
    | ours a =>
      cases d with
      | other => cases hm
      | nan => exact Or.inr ⟨nan_r x g.2, rfl⟩
      | ours b =>
        obtain ⟨rfl, ha⟩ := h
        obtain ⟨rfl, hb⟩ := g
        rcases hf a b ha hb with ⟨e, z, h1, h2, h3⟩ | ⟨h1, h2⟩
        · exact Or.inl ⟨e, z, h1, h2, h3⟩
        · exact Or.inr ⟨h1, h2⟩
  rcases key with ⟨e, z, h1, h2, h3⟩ | ⟨h1, h2⟩
  · exact ⟨e, z, 0, h2, h3, fun t => run_float_arith w op t .f64 x y z h1⟩
  · obtain ⟨v, v1, v2, v3⟩ := run_float_none (P := Tryz.prog) hop h1 w
    exact ⟨.nan, v, 1, ⟨v1, v2⟩, h2.symm, v3⟩

theorem opR_no {f : Int → Int → Res} {c d : Cl} (hm : (mayC c && mayC d) = false) : opR f c d = .err 2 := by
  cases c <;> cases d <;> first | rfl | cases hm

end Go.Proofs.YthnkllhfmjbbmaaGreatDoor
