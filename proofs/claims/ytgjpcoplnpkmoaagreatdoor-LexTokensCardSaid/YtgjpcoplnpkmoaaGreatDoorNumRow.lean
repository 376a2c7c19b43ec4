/-
  Less and Index of package num beside the document's own, for every two floats: walks.
-/
import Derived.Test.YtgjpcoplnpkmoaaGreatDoorNumBase
import Derived.Deep.Draws
namespace Go.Proofs.YtgjpcoplnpkmoaaGreatDoor
open Go.RowKit Fl

/-- the document's whole: of our numbers the number and true, else 0 and false -/
def wholeI (c : Cl) : Int := match c with
  | .ours n => n
  | _ => 0
def wholeC (c : Cl) : Bool := match c with
  | .ours _ => true
  | _ => false

theorem order_some {x y : Nat} (hx : IsFin x) (hy : IsFin y) : ∃ o, FloatKind.f64.format.order x y = some o := ⟨_, order_fin hx hy⟩

theorem refwhole_nan {x : Nat} (h : IsNaN x) (w : World) :
    Calls Tryz.prog 56 #[.float .f64 x] w fun e w' => e = .returned (.tuple #[.int .i64 0, .bool false]) ∧ w = w' := by
  have ho : FloatKind.f64.format.order x 14069245235905429503 = none := order_nan_l _ h
  go_enter Tryz.func56, Tryz.ntmps56
  go_wp2
  go_ret2
  exact ⟨rfl, rfl⟩

theorem refwhole_big {x : Nat} (h : Big x) (w : World) :
    Calls Tryz.prog 56 #[.float .f64 x] w fun e w' => e = .returned (.tuple #[.int .i64 0, .bool false]) ∧ w = w' := by
  have e1 := (order_big h (-9007199254740991) (by decide)).1
  have e2 := (order_big h 9007199254740991 (by decide)).1
  rw [F_nsafe] at e1
  rw [F_safe] at e2
  cases hs : sgn x
  · rw [hs] at e1 e2
    have o1 : FloatKind.f64.format.order x 14069245235905429503 = some .gt := e1
    have o2 : FloatKind.f64.format.order x 4845873199050653695 = some .gt := e2
    clear e1 e2 hs
    go_enter Tryz.func56, Tryz.ntmps56
    go_wp2
    go_ret2
    exact ⟨rfl, rfl⟩
  · rw [hs] at e1
    have o1 : FloatKind.f64.format.order x 14069245235905429503 = some .lt := e1
    clear e1 e2 hs
    go_enter Tryz.func56, Tryz.ntmps56
    go_wp2
    go_ret2
    exact ⟨rfl, rfl⟩

theorem conv_run {x : Nat} {k : Int} (h : floatToIntVal .f64 x .i64 = some k) (w : World) : (convert 23 2 (.float .f64 x)).run Tryz.prog w = .ok (.int .i64 k) w :=
  run_convert_float_int w _ _ .f64 .i64 x k (by rw [Tryz.underlying23]; rfl) Tryz.underlying2 h

theorem refwhole_frac {x : Nat} (h : Frac x) (w : World) :
    Calls Tryz.prog 56 #[.float .f64 x] w fun e w' => e = .returned (.tuple #[.int .i64 0, .bool false]) ∧ w = w' := by
  obtain ⟨k, hk, hb⟩ := floatToIntVal_frac h
  obtain ⟨o1, h1⟩ := order_some h.1 (F_small (-9007199254740991) (by decide)).1
  obtain ⟨o2, h2⟩ := order_some h.1 (F_small 9007199254740991 (by decide)).1
  obtain ⟨o3, h3⟩ := order_some (F_small k hb).1 h.1
  have hne : o3 ≠ .eq := by
    have := (order_frac h k hb).2
    intro c; rw [c] at h3; exact this h3
  have hc := fun w => conv_run hk w
  rw [F_nsafe] at h1
  rw [F_safe] at h2
  clear hk hb
  cases o1 <;> cases o2 <;> cases o3 <;> first | exact absurd rfl hne | skip
  all_goals
    clear hne
    go_enter Tryz.func56, Tryz.ntmps56
    go_wp2
    go_ret2
    exact ⟨rfl, rfl⟩

theorem refwhole_m0 {x : Nat} (hx : x = 2 ^ 63) (w : World) :
    Calls Tryz.prog 56 #[.float .f64 x] w fun e w' => e = .returned (.tuple #[.int .i64 0, .bool false]) ∧ w = w' := by
  have h1 : FloatKind.f64.format.order x 14069245235905429503 = some .gt := by rw [hx]; decide
  have h2 : FloatKind.f64.format.order x 4845873199050653695 = some .lt := by rw [hx]; decide
  have h3 : FloatKind.f64.format.order (floatOfInt .f64 0) x = some .eq := by rw [hx]; decide
  have h4 : FloatKind.f64.format.order x 0 = some .eq := by rw [hx]; decide
  have hd : floatBits .quo .f64 4607182418800017408 x = some 18442240474082181120 := by rw [hx]; decide
  have h5 : FloatKind.f64.format.order 18442240474082181120 0 = some .lt := by decide
  have hc := fun w => conv_run (x := x) (k := 0) (by rw [hx]; decide) w
  have hq := fun w => run_float_arith (P := Tryz.prog) w .quo 23 .f64 _ _ _ hd
  clear hx hd
  go_enter Tryz.func56, Tryz.ntmps56
  go_wp2
  go_ret2
  exact ⟨rfl, rfl⟩

theorem refwhole_ours {n : Int} (h : SafeN n) (w : World) :
    Calls Tryz.prog 56 #[.float .f64 (F n)] w fun e w' => e = .returned (.tuple #[.int .i64 n, .bool true]) ∧ w = w' := by
  have ha := h.abs
  have hc := fun w => conv_run (floatToIntVal_F n ha) w
  have e1 := order_F n (-9007199254740991) ha (by decide)
  have e2 := order_F n 9007199254740991 ha (by decide)
  have e3 : FloatKind.f64.format.order (floatOfInt .f64 n) (F n) = some .eq := order_self (not_nan_F n ha)
  have e4 := order_F n 0 ha (by decide)
  rw [F_nsafe] at e1
  rw [F_safe] at e2
  rw [F_zero] at e4
  have hq : n = 0 → ∀ w, (binOp .quo 23 (.float .f64 4607182418800017408) (.float .f64 (F n))).run Tryz.prog w = .ok (.float .f64 9218868437227405312) w := by
    intro h0 w
    exact run_float_arith (P := Tryz.prog) w .quo 23 .f64 _ _ _ (by rw [h0]; decide)
  have h5 : FloatKind.f64.format.order 9218868437227405312 0 = some .gt := by decide
  obtain ⟨h1, h2⟩ := h
  have a : compare n (-9007199254740991) = .gt ∨ compare n (-9007199254740991) = .eq := by
    rcases Int.lt_or_eq_of_le h1 with c | c
    · exact Or.inl (Int.compare_eq_gt.2 c)
    · right; rw [← c]; simp
  have b : compare n 9007199254740991 = .lt ∨ compare n 9007199254740991 = .eq := by
    rcases Int.lt_or_eq_of_le h2 with c | c
    · exact Or.inl (Int.compare_eq_lt.2 c)
    · right; rw [c]; simp
  have d : (compare n 0 = .eq ∧ n = 0) ∨ compare n 0 = .lt ∨ compare n 0 = .gt := by
    rcases Int.lt_trichotomy n 0 with c | c | c
    · exact Or.inr (Or.inl (Int.compare_eq_lt.2 c))
    · exact Or.inl ⟨by rw [c]; simp, c⟩
    · exact Or.inr (Or.inr (Int.compare_eq_gt.2 c))
  obtain ⟨x, hx⟩ : ∃ x, x = F n := ⟨_, rfl⟩
  rw [← hx] at hc e1 e2 e3 e4 hq ⊢
  rcases a with a | a <;> rcases b with b | b <;> rcases d with ⟨d, z⟩ | d | d
  all_goals
    rw [a] at e1; rw [b] at e2; rw [d] at e4
    clear a b d
    first | (have hq' := hq z; clear hq z) | clear hq
    have o1 : FloatKind.f64.format.order x 14069245235905429503 = _ := e1
    have o2 : FloatKind.f64.format.order x 4845873199050653695 = _ := e2
    have o4 : FloatKind.f64.format.order x 0 = _ := e4
    clear e1 e2 e4 ha h1 h2 hx
    go_enter Tryz.func56, Tryz.ntmps56
    go_wp2
    go_ret2
    exact ⟨rfl, rfl⟩

theorem refwhole_cls {c : Cl} {x : Nat} (h : Is c x) (w : World) :
    Calls Tryz.prog 56 #[.float .f64 x] w fun e w' => e = .returned (.tuple #[.int .i64 (wholeI c), .bool (wholeC c)]) ∧ w = w' := by
  cases c with
  | nan => exact refwhole_nan h.2 w
  | other =>
    obtain ⟨_, h | h | h⟩ := h
    · exact refwhole_big h w
    · exact refwhole_frac h w
    · exact refwhole_m0 h w
  | ours n => obtain ⟨rfl, hs⟩ := h; exact refwhole_ours hs w

theorem run_archTrunc_nan (x : Nat) (w : World) : ∃ y n, (callFunc 194 #[.float .f64 x]).run Tryz.prog w = .ok (.value (.float .f64 y)) (w.drewN n) := by
  rw [run_callFunc_extern Tryz.func194 (by kernel_rfl) (by kernel_rfl) (by kernel_rfl) (e := Extern.MathFloor.toIntegral "math.archTrunc" .zero) (by kernel_rfl)]
  obtain ⟨q, hq, e⟩ : ∃ q : Question, q.forced = false ∧ Extern.MathFloor.toIntegral "math.archTrunc" .zero #[.float .f64 x] = (match Ieee.double.read x with
      | .nan s t => if FloatKind.f64.format.quiet t = t then pure (Value.float .f64 x) else do
        let kept ← choose q
        pure (.float .f64 (if kept == 1 then x else FloatKind.f64.encode (.nan s (FloatKind.f64.format.quiet t))))
      | d => pure (.float .f64 (Ieee.double.write (d.integral .zero)))) := by
    refine ⟨_, ?_, rfl⟩
    rfl
  rw [e]
  generalize Ieee.double.read x = r
  cases r with
  | number s m i => exact ⟨_, 0, rfl⟩
  | infinity s => exact ⟨_, 0, rfl⟩
  | nan s t =>
    by_cases c : FloatKind.f64.format.quiet t = t
    · exact ⟨x, 0, by simp only [if_pos c]; rfl⟩
    · refine ⟨if q.cut (w.tape w.drawn q) == 1 then x else FloatKind.f64.encode (.nan s (FloatKind.f64.format.quiet t)), 1, ?_⟩
      simp only [if_neg c, Sem.run_bind, run_choose, hq, Bool.false_eq_true, if_false, Result.andThen]
      rfl

def SomeFloat (w : World) (e : Ending) (w' : World) : Prop := ∃ y n, e = .returned (.float .f64 y) ∧ w' = w.drewN n
def DrawnBool (b : Bool) (w : World) (e : Ending) (w' : World) : Prop := ∃ n, e = .returned (.bool b) ∧ w' = w.drewN n

set_option maxRecDepth 1000000 in
theorem Trunc_nan (x : Nat) (w : World) : Calls Tryz.prog 167 #[.float .f64 x] w (SomeFloat w) := by
  obtain ⟨y, n, ht⟩ := run_archTrunc_nan x w
  go_enter Tryz.func167, Tryz.ntmps167
  go_wp2
  go_ret
  exact ⟨y, n, rfl, rfl⟩

theorem whole_nan {x : Nat} (hn : IsNaN x) (w : World) : Calls Tryz.prog 113 #[.float .f64 x] w (DrawnBool false w) := by
  have ho : ∀ y, FloatKind.f64.format.order x y = none := fun y => order_nan_l y hn
  go_enter Tryz.func113, Tryz.ntmps113
  go_wp2_with (go_at_call 167; refine (Trunc_nan _ _).mono ?_; rintro e w' ⟨y, n, rfl, rfl⟩)
  go_ret
  exact ⟨_, rfl, rfl⟩

def idxB (c : Cl) : Bool := match c with
  | .ours n => decide (0 ≤ n) && decide (n < 1024)
  | _ => false
def idxI (c : Cl) : Int := if idxB c then wholeI c else 0
def DrawnIdx (c : Cl) (w : World) (e : Ending) (w' : World) : Prop := ∃ n, e = .returned (.tuple #[.int .i64 (idxI c), .bool (idxB c)]) ∧ w' = w.drewN n

theorem F_1024 : F 1024 = 4652218415073722368 := by decide

theorem conv_run_int {x : Nat} {k : Int} (h : floatToIntVal .f64 x .i64 = some k) (w : World) : (convert 23 3 (.float .f64 x)).run Tryz.prog w = .ok (.int .i64 k) w :=
  run_convert_float_int w _ _ .f64 .i64 x k (by rw [Tryz.underlying23]; rfl) Tryz.underlying3 h

theorem drewN_zero (w : World) : w = w.drewN 0 := rfl

def lessV (x y : Nat) : Int := if FloatKind.f64.format.order x x != some .eq || FloatKind.f64.format.order y y != some .eq then -1 else if FloatKind.f64.format.order x y == some .lt then 1 else 0

theorem below_drawn (w : World) (n : Nat) : Below w.heap.size w (w.drewN n) := ⟨rfl, rfl, rfl, Nat.le_refl _, fun _ _ => rfl⟩

end Go.Proofs.YtgjpcoplnpkmoaaGreatDoor
