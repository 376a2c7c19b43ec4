/-
  Less and Index of package num beside the document's own, for every two floats: walks.
-/
import Derived.Test.YtlgbnfcnimjheaaDoorNumBase
import Derived.Deep.Draws
namespace Go.Proofs.YtlgbnfcnimjheaaDoor
open Go.RowKit Fl

/-- the document's whole: of our numbers the number and true, else 0 and false -/
def wholeI (c : Cl) : Int := match c with
  | .ours n => n
  | _ => 0
def wholeC (c : Cl) : Bool := match c with
  | .ours _ => true
  | _ => false

theorem order_some {x y : Nat} (hx : IsFin x) (hy : IsFin y) : ∃ o, FloatKind.f64.format.order x y = some o := ⟨_, order_fin hx hy⟩

theorem conv_run {x : Nat} {k : Int} (h : floatToIntVal .f64 x .i64 = some k) (w : World) : (convert 28 2 (.float .f64 x)).run Tryd.prog w = .ok (.int .i64 k) w :=
  run_convert_float_int w _ _ .f64 .i64 x k (by rw [Tryd.underlying28]; rfl) Tryd.underlying2 h

theorem run_archTrunc_nan (x : Nat) (w : World) : ∃ y n, (callFunc 111 #[.float .f64 x]).run Tryd.prog w = .ok (.value (.float .f64 y)) (w.drewN n) := by
  rw [run_callFunc_extern Tryd.func111 (by kernel_rfl) (by kernel_rfl) (by kernel_rfl) (e := Extern.MathFloor.toIntegral "math.archTrunc" .zero) (by kernel_rfl)]
  obtain ⟨q, hq, e⟩ : ∃ q : Question, q.forced = false ∧ Extern.MathFloor.toIntegral "math.archTrunc" .zero #[.float .f64 x] = (match Ieee.double.read x with
      | .nan s t => if FloatKind.f64.format.quiet t = t then pure (Value.float .f64 x) else do
        let kept ← choose q
        pure (.float .f64 (if kept == 1 then x else FloatKind.f64.encode (.nan s (FloatKind.f64.format.quiet t))))
      | d => pure (.float .f64 (Ieee.double.write (d.integral .zero)))) := by
    refine ⟨_, ?_, rfl⟩
    rfl
  rw [e]
  generalize Ieee.double.read x = r
  cases r with
  | number s m i => exact ⟨_, 0, rfl⟩
  | infinity s => exact ⟨_, 0, rfl⟩
  | nan s t =>
    by_cases c : FloatKind.f64.format.quiet t = t
    · exact ⟨x, 0, by simp only [if_pos c]; rfl⟩
    · refine ⟨if q.cut (w.tape w.drawn q) == 1 then x else FloatKind.f64.encode (.nan s (FloatKind.f64.format.quiet t)), 1, ?_⟩
      simp only [if_neg c, Sem.run_bind, run_choose, hq, Bool.false_eq_true, if_false, Result.andThen]
      rfl

def SomeFloat (w : World) (e : Ending) (w' : World) : Prop := ∃ y n, e = .returned (.float .f64 y) ∧ w' = w.drewN n
def DrawnBool (b : Bool) (w : World) (e : Ending) (w' : World) : Prop := ∃ n, e = .returned (.bool b) ∧ w' = w.drewN n

set_option maxRecDepth 1000000 in
theorem Trunc_nan (x : Nat) (w : World) : Calls Tryd.prog 100 #[.float .f64 x] w (SomeFloat w) := by
  obtain ⟨y, n, ht⟩ := run_archTrunc_nan x w
  go_enter Tryd.func100, Tryd.ntmps100
  go_wp2
  go_ret
  exact ⟨y, n, rfl, rfl⟩

theorem whole_nan {x : Nat} (hn : IsNaN x) (w : World) : Calls Tryd.prog 85 #[.float .f64 x] w (DrawnBool false w) := by
  have ho : ∀ y, FloatKind.f64.format.order x y = none := fun y => order_nan_l y hn
  go_enter Tryd.func85, Tryd.ntmps85
  go_wp2_with (go_at_call 100; refine (Trunc_nan _ _).mono ?_; rintro e w' ⟨y, n, rfl, rfl⟩)
  go_ret
  exact ⟨_, rfl, rfl⟩

def idxB (c : Cl) : Bool := match c with
  | .ours n => decide (0 ≤ n) && decide (n < 1024)
  | _ => false
def idxI (c : Cl) : Int := if idxB c then wholeI c else 0
def DrawnIdx (c : Cl) (w : World) (e : Ending) (w' : World) : Prop := ∃ n, e = .returned (.tuple #[.int .i64 (idxI c), .bool (idxB c)]) ∧ w' = w.drewN n

theorem F_1024 : F 1024 = 4652218415073722368 := by decide

theorem conv_run_int {x : Nat} {k : Int} (h : floatToIntVal .f64 x .i64 = some k) (w : World) : (convert 28 3 (.float .f64 x)).run Tryd.prog w = .ok (.int .i64 k) w :=
  run_convert_float_int w _ _ .f64 .i64 x k (by rw [Tryd.underlying28]; rfl) Tryd.underlying3 h

theorem Index_nan {x : Nat} (h : IsNaN x) (w : World) : Calls Tryd.prog 57 #[.float .f64 x] w (DrawnIdx .nan w) := by
  go_enter Tryd.func57, Tryd.ntmps57
  go_wp2_with (go_at_call 85; refine (whole_nan h _).mono ?_; rintro e w' ⟨n, rfl, rfl⟩)
  go_ret2
  exact ⟨_, rfl, rfl⟩

theorem Index_out {x : Nat} (hx : x < 2 ^ 64) (hn : ¬ IsNaN x) (h : wholeB x = false ∨ FloatKind.f64.format.order x 0 = some .lt ∨ (FloatKind.f64.format.order x 0 = some .gt ∧ FloatKind.f64.format.order x 4652218415073722368 = some .gt)) (w : World) :
    Calls Tryd.prog 57 #[.float .f64 x] w fun e w' => e = .returned (.tuple #[.int .i64 0, .bool false]) ∧ w = w' := by
  have hw := fun w => whole_num x w hx hn
  cases hb : wholeB x
  · rw [hb] at hw
    clear hb h
    go_enter Tryd.func57, Tryd.ntmps57
    go_wp2_with (go_at_call 85; refine (hw _).mono ?_; rintro e w' ⟨rfl, rfl⟩)
    go_ret2
    exact ⟨rfl, rfl⟩
  · rw [hb] at hw h
    clear hb
    rcases h with h | h | ⟨h1, h2⟩
    · cases h
    · go_enter Tryd.func57, Tryd.ntmps57
      go_wp2_with (go_at_call 85; refine (hw _).mono ?_; rintro e w' ⟨rfl, rfl⟩)
      go_ret2
      exact ⟨rfl, rfl⟩
    · go_enter Tryd.func57, Tryd.ntmps57
      go_wp2_with (go_at_call 85; refine (hw _).mono ?_; rintro e w' ⟨rfl, rfl⟩)
      go_ret2
      exact ⟨rfl, rfl⟩

theorem Index_ours {n : Int} (h : SafeN n) (w : World) :
    Calls Tryd.prog 57 #[.float .f64 (F n)] w fun e w' => e = .returned (.tuple #[.int .i64 (idxI (.ours n)), .bool (idxB (.ours n))]) ∧ w = w' := by
  have ha := h.abs
  have hw := fun w => whole_num (F n) w (F_lt n) (not_nan_F n ha)
  rw [wholeB_ours n ha] at hw
  have hc := fun w => conv_run_int (floatToIntVal_F n ha) w
  have e1 := order_F n 0 ha (by decide)
  have e2 := order_F n 1024 ha (by decide)
  rw [F_zero] at e1
  rw [F_1024] at e2
  obtain ⟨x, hx⟩ : ∃ x, x = F n := ⟨_, rfl⟩
  rw [← hx] at hw hc e1 e2 ⊢
  clear hx
  have c1 : (n < 0 ∧ compare n 0 = .lt ∧ idxB (.ours n) = false) ∨ (0 ≤ n ∧ compare n 0 ≠ .lt) := by
    by_cases c : n < 0
    · exact Or.inl ⟨c, Int.compare_eq_lt.2 c, by simp [idxB]; omega⟩
    · exact Or.inr ⟨by omega, fun e => c (Int.compare_eq_lt.1 e)⟩
  have c2 : (n < 1024 ∧ compare n 1024 = .lt) ∨ (1024 ≤ n ∧ compare n 1024 ≠ .lt ∧ idxB (.ours n) = false) := by
    by_cases c : n < 1024
    · exact Or.inl ⟨c, Int.compare_eq_lt.2 c⟩
    · exact Or.inr ⟨by omega, fun e => c (Int.compare_eq_lt.1 e), by simp [idxB]; omega⟩
  have o1 : FloatKind.f64.format.order x 0 = _ := e1
  have o2 : FloatKind.f64.format.order x 4652218415073722368 = _ := e2
  clear e1 e2 ha
  rcases c1 with ⟨c, d, b⟩ | ⟨c, d⟩
  · rw [d] at o1
    unfold idxI
    rw [b]
    clear c2 d b c o2
    go_enter Tryd.func57, Tryd.ntmps57
    go_wp2_with (go_at_call 85; refine (hw _).mono ?_; rintro e w' ⟨rfl, rfl⟩)
    go_ret2
    exact ⟨rfl, rfl⟩
  · rcases c2 with ⟨c', d'⟩ | ⟨c', d', b⟩
    · have b : idxB (.ours n) = true := by simp [idxB, c, c']
      rw [d'] at o2
      unfold idxI
      rw [b]
      obtain ⟨o, ho⟩ : ∃ o, compare n 0 = o := ⟨_, rfl⟩
      rw [ho] at d o1
      clear ho b d' c c'
      show Calls _ _ _ _ fun e w' => e = .returned (.tuple #[.int .i64 n, .bool true]) ∧ w = w'
      cases o
      · exact absurd rfl d
      all_goals
        clear d
        go_enter Tryd.func57, Tryd.ntmps57
        go_wp2_with (go_at_call 85; refine (hw _).mono ?_; rintro e w' ⟨rfl, rfl⟩)
        go_ret2
        exact ⟨rfl, rfl⟩
    · unfold idxI
      rw [b]
      obtain ⟨o, ho⟩ : ∃ o, compare n 0 = o := ⟨_, rfl⟩
      obtain ⟨u, hu⟩ : ∃ u, compare n 1024 = u := ⟨_, rfl⟩
      rw [ho] at d o1
      rw [hu] at d' o2
      clear ho hu b c c'
      cases o
      · exact absurd rfl d
      all_goals
        cases u
        · exact absurd rfl d'
        all_goals
          clear d d'
          go_enter Tryd.func57, Tryd.ntmps57
          go_wp2_with (go_at_call 85; refine (hw _).mono ?_; rintro e w' ⟨rfl, rfl⟩)
          go_ret2
          exact ⟨rfl, rfl⟩

theorem drewN_zero (w : World) : w = w.drewN 0 := rfl

theorem Index_cls {c : Cl} {x : Nat} (h : Is c x) (w : World) : Calls Tryd.prog 57 #[.float .f64 x] w (DrawnIdx c w) := by
  cases c with
  | nan => exact Index_nan h.2 w
  | other =>
    refine (Index_out h.lt (other_not_nan h) ?_ w).mono fun e w' ⟨he, hw⟩ => ⟨0, he, hw ▸ rfl⟩
    obtain ⟨_, h | h | h⟩ := h
    · have e1 := (order_big h 0 (by decide)).1
      have e2 := (order_big h 1024 (by decide)).1
      rw [F_zero] at e1
      rw [F_1024] at e2
      cases hs : sgn x
      · rw [hs] at e1 e2; exact Or.inr (Or.inr ⟨e1, e2⟩)
      · rw [hs] at e1; exact Or.inr (Or.inl e1)
    · exact Or.inl (wholeB_frac h)
    · exact Or.inl (by rw [h]; exact wholeB_m0)
  | ours n =>
    obtain ⟨rfl, hs⟩ := h
    exact (Index_ours hs w).mono fun e w' ⟨he, hw⟩ => ⟨0, he, hw ▸ rfl⟩

def lessV (x y : Nat) : Int := if FloatKind.f64.format.order x x != some .eq || FloatKind.f64.format.order y y != some .eq then -1 else if FloatKind.f64.format.order x y == some .lt then 1 else 0

theorem below_drawn (w : World) (n : Nat) : Below w.heap.size w (w.drewN n) := ⟨rfl, rfl, rfl, Nat.le_refl _, fun _ _ => rfl⟩

end Go.Proofs.YtlgbnfcnimjheaaDoor
