/-
  Less and Index of package num beside the document's own, for every two floats: walks.
-/
import Derived.Test.YtlgbnfcnimjheaaNumBase
import Derived.Deep.Draws
namespace Go.Proofs.Ytlgbnfcnimjheaa
open Go.RowKit Fl

/-- the document's whole: of our numbers the number and true, else 0 and false -/
def wholeI (c : Cl) : Int := match c with
  | .ours n => n
  | _ => 0
def wholeC (c : Cl) : Bool := match c with
  | .ours _ => true
  | _ => false

theorem order_some {x y : Nat} (hx : IsFin x) (hy : IsFin y) : ∃ o, FloatKind.f64.format.order x y = some o := ⟨_, order_fin hx hy⟩

theorem conv_run {x : Nat} {k : Int} (h : floatToIntVal .f64 x .i64 = some k) (w : World) : (convert 22 2 (.float .f64 x)).run Try.prog w = .ok (.int .i64 k) w :=
  run_convert_float_int w _ _ .f64 .i64 x k (by rw [Try.underlying22]; rfl) Try.underlying2 h

theorem run_archTrunc_nan (x : Nat) (w : World) : ∃ y n, (callFunc 36 #[.float .f64 x]).run Try.prog w = .ok (.value (.float .f64 y)) (w.drewN n) := by
  rw [run_callFunc_extern Try.func36 (by kernel_rfl) (by kernel_rfl) (by kernel_rfl) (e := Extern.MathFloor.toIntegral "math.archTrunc" .zero) (by kernel_rfl)]
  obtain ⟨q, hq, e⟩ : ∃ q : Question, q.forced = false ∧ Extern.MathFloor.toIntegral "math.archTrunc" .zero #[.float .f64 x] = (match Ieee.double.read x with
      | .nan s t => if FloatKind.f64.format.quiet t = t then pure (Value.float .f64 x) else do
        let kept ← choose q
        pure (.float .f64 (if kept == 1 then x else FloatKind.f64.encode (.nan s (FloatKind.f64.format.quiet t))))
      | d => pure (.float .f64 (Ieee.double.write (d.integral .zero)))) := by
    refine ⟨_, ?_, rfl⟩
    rfl
  rw [e]
  generalize Ieee.double.read x = r
  cases r with
  | number s m i => exact ⟨_, 0, rfl⟩
  | infinity s => exact ⟨_, 0, rfl⟩
  | nan s t =>
    by_cases c : FloatKind.f64.format.quiet t = t
    · exact ⟨x, 0, by simp only [if_pos c]; rfl⟩
    · refine ⟨if q.cut (w.tape w.drawn q) == 1 then x else FloatKind.f64.encode (.nan s (FloatKind.f64.format.quiet t)), 1, ?_⟩
      simp only [if_neg c, Sem.run_bind, run_choose, hq, Bool.false_eq_true, if_false, Result.andThen]
      rfl

def SomeFloat (w : World) (e : Ending) (w' : World) : Prop := ∃ y n, e = .returned (.float .f64 y) ∧ w' = w.drewN n
def DrawnBool (b : Bool) (w : World) (e : Ending) (w' : World) : Prop := ∃ n, e = .returned (.bool b) ∧ w' = w.drewN n

set_option maxRecDepth 1000000 in
theorem Trunc_nan (x : Nat) (w : World) : Calls Try.prog 35 #[.float .f64 x] w (SomeFloat w) := by
  obtain ⟨y, n, ht⟩ := run_archTrunc_nan x w
  go_enter Try.func35, Try.ntmps35
  go_wp2
  go_ret
  exact ⟨y, n, rfl, rfl⟩

theorem whole_nan {x : Nat} (hn : IsNaN x) (w : World) : Calls Try.prog 34 #[.float .f64 x] w (DrawnBool false w) := by
  have ho : ∀ y, FloatKind.f64.format.order x y = none := fun y => order_nan_l y hn
  go_enter Try.func34, Try.ntmps34
  go_wp2_with (go_at_call 35; refine (Trunc_nan _ _).mono ?_; rintro e w' ⟨y, n, rfl, rfl⟩)
  go_ret
  exact ⟨_, rfl, rfl⟩

def idxB (c : Cl) : Bool := match c with
  | .ours n => decide (0 ≤ n) && decide (n < 1024)
  | _ => false
def idxI (c : Cl) : Int := if idxB c then wholeI c else 0
def DrawnIdx (c : Cl) (w : World) (e : Ending) (w' : World) : Prop := ∃ n, e = .returned (.tuple #[.int .i64 (idxI c), .bool (idxB c)]) ∧ w' = w.drewN n

theorem F_1024 : F 1024 = 4652218415073722368 := by decide

theorem conv_run_int {x : Nat} {k : Int} (h : floatToIntVal .f64 x .i64 = some k) (w : World) : (convert 22 3 (.float .f64 x)).run Try.prog w = .ok (.int .i64 k) w :=
  run_convert_float_int w _ _ .f64 .i64 x k (by rw [Try.underlying22]; rfl) Try.underlying3 h

theorem drewN_zero (w : World) : w = w.drewN 0 := rfl

def lessV (x y : Nat) : Int := if FloatKind.f64.format.order x x != some .eq || FloatKind.f64.format.order y y != some .eq then -1 else if FloatKind.f64.format.order x y == some .lt then 1 else 0

theorem below_drawn (w : World) (n : Nat) : Below w.heap.size w (w.drewN n) := ⟨rfl, rfl, rfl, Nat.le_refl _, fun _ _ => rfl⟩

end Go.Proofs.Ytlgbnfcnimjheaa
