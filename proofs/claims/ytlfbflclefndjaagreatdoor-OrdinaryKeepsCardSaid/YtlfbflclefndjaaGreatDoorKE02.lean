/-
  What the small functions of package num and of the document's own answer do to one float: walks, for every float.
-/
import Derived.Test.YtlfbflclefndjaaGreatDoorChecked
import Derived.Test.YtlfbflclefndjaaGreatDoorKE01
import Derived.WalkKit
import Derived.WalkSpells
import Derived.WalkLawsBesides
import Derived.Lib.Hide
import Derived.Deep.Draws
import Derived.Lib.SlTrimSet
import Derived.Lib.ItoaNum
import Derived.Shelf.Strings.SlTrimAscii
import Derived.Shelf.LaysM
import Derived.Shelf.Strconv.Itoa4
import Derived.Test.YtlfbflclefndjaaGreatDoorProg
namespace Go.Proofs.YtlfbflclefndjaaGreatDoor
open Go.RowKit Fl

theorem run_archTrunc (x : Nat) (w : World) (h : ¬ IsNaN x) : (callFunc 123 #[.float .f64 x]).run Tryz.prog w = .ok (.value (.float .f64 (truncW x))) w := by
  rw [run_callFunc_extern Tryz.func123 (by kernel_rfl) (by kernel_rfl) (by kernel_rfl) (e := Extern.MathFloor.toIntegral "math.archTrunc" .zero) (by kernel_rfl)]
  have e : Extern.MathFloor.toIntegral "math.archTrunc" .zero #[.float .f64 x] = pure (.float .f64 (truncW x)) := by
    show (match Ieee.double.read x with
      | .nan s t => _
      | d => (pure (.float .f64 (Ieee.double.write (d.integral .zero))) : Sem Value)) = _
    unfold truncW
    cases hd : Ieee.double.read x with
    | nan s t => exact absurd hd (by
        intro hd
        rcases Nat.lt_or_eq_of_le (Nat.le_of_not_lt h) with c | c
        · obtain ⟨m, e, h1, _⟩ := read_fin c
          rw [h1] at hd; cases hd
        · rw [read_inf c] at hd; cases hd)
    | number s m i => rfl
    | infinity s => rfl
  rw [e]; rfl

theorem run_Float64bits (x : Nat) (w : World) : (callFunc 99 #[.float .f64 x]).run Tryz.prog w = .ok (.value (.int .u64 x)) w := by
  rw [run_callFunc_extern Tryz.func99 (by kernel_rfl) (by kernel_rfl) (by kernel_rfl) (e := Extern.MathFloatBits.float64bits) (by kernel_rfl)]
  rfl

theorem none_any (x : Nat) (w : World) :
    Calls Tryz.prog 106 #[.float .f64 x] w fun e w' => e = .returned (.bool (FloatKind.f64.format.order x x != some .eq)) ∧ w = w' := by
  go_enter Tryz.func106, Tryz.ntmps106
  go_wp2
  go_ret
  exact ⟨rfl, rfl⟩

theorem Trunc_num (x : Nat) (w : World) (hn : ¬ IsNaN x) :
    Calls Tryz.prog 114 #[.float .f64 x] w fun e w' => e = .returned (.float .f64 (truncW x)) ∧ w = w' := by
  have ht := fun w => run_archTrunc x w hn
  go_enter Tryz.func114, Tryz.ntmps114
  go_wp2
  go_ret
  exact ⟨rfl, rfl⟩

theorem sgn_wrap (x : Nat) (_hx : x < 2 ^ 64) : decide (wrap64 (x : Int) < 0) = sgn x := by
  unfold sgn wrap64
  rw [Bool.eq_iff_iff, decide_eq_true_iff, beq_iff_eq]; omega

theorem ret_bool {a b : Bool} (h : a = b) : Ending.returned (.bool a) = .returned (.bool b) := by rw [h]
theorem Signbit_any (x : Nat) (w : World) (hx : x < 2 ^ 64) :
    Calls Tryz.prog 80 #[.float .f64 x] w fun e w' => e = .returned (.bool (sgn x)) ∧ w = w' := by
  have hb := fun w => run_Float64bits x w
  have hs : Hid (decide (wrap64 (x : Int) < 0) = sgn x) := Lib.hid (sgn_wrap x hx)
  go_enter Tryz.func80, Tryz.ntmps80
  go_wp2
  go_ret
  exact ⟨ret_bool hs.out, rfl⟩

/-- whether a float is whole and no minus nought -/
def wholeB (x : Nat) : Bool := (FloatKind.f64.format.order x (truncW x) == some .eq) && !((FloatKind.f64.format.order x 0 == some .eq) && sgn x)
def leB (x y : Nat) : Bool := FloatKind.f64.format.order x y == some .lt || FloatKind.f64.format.order x y == some .eq

theorem whole_num (x : Nat) (w : World) (hx : x < 2 ^ 64) (hn : ¬ IsNaN x) :
    Calls Tryz.prog 107 #[.float .f64 x] w fun e w' => e = .returned (.bool (wholeB x)) ∧ w = w' := by
  go_enter Tryz.func107, Tryz.ntmps107
  go_wp2_with (first | (go_at_call 114; refine (Trunc_num _ _ hn).mono ?_; rintro e w' ⟨rfl, rfl⟩) | (go_at_call 80; refine (Signbit_any _ _ hx).mono ?_; rintro e w' ⟨rfl, rfl⟩))
  all_goals (go_ret; exact ⟨ret_bool (by simp [wholeB, *]), rfl⟩)

def inB (x : Nat) : Bool := leB 14069245235905429503 x && leB x 4845873199050653695

theorem May_nan (x : Nat) (w : World) (hn : IsNaN x) :
    Calls Tryz.prog 98 #[.float .f64 x] w fun e w' => e = .returned (.bool true) ∧ w = w' := by
  have ho : FloatKind.f64.format.order x x = none := order_nan_l x hn
  go_enter Tryz.func98, Tryz.ntmps98
  go_wp2_with (first | (go_at_call 106; refine (none_any _ _).mono ?_; rintro e w' ⟨rfl, rfl⟩))
  go_ret
  exact ⟨rfl, rfl⟩

theorem May_num (x : Nat) (w : World) (hx : x < 2 ^ 64) (hn : ¬ IsNaN x) :
    Calls Tryz.prog 98 #[.float .f64 x] w fun e w' => e = .returned (.bool (wholeB x && inB x)) ∧ w = w' := by
  have ho : FloatKind.f64.format.order x x = some .eq := order_self hn
  cases hb : wholeB x
  all_goals
    have HB := Lib.hid hb
    clear hb
    go_enter Tryz.func98, Tryz.ntmps98
    go_wp2_with (first | (go_at_call 106; refine (none_any _ _).mono ?_; rintro e w' ⟨rfl, rfl⟩) | (go_at_call 107; refine (whole_num _ _ hx hn).mono ?_; rintro e w' ⟨rfl, rfl⟩; rw [HB.out]))
    all_goals (go_ret; exact ⟨ret_bool (by simp [inB, leB, *]), rfl⟩)

theorem F_safe : F 9007199254740991 = 4845873199050653695 := by decide
theorem F_nsafe : F (-9007199254740991) = 14069245235905429503 := by decide
def mayC (c : Cl) : Bool := match c with
  | .nan => true
  | .other => false
  | .ours _ => true

theorem wholeB_ours (n : Int) (h : n.natAbs < 2 ^ 53) : wholeB (F n) = true := by
  have e1 : FloatKind.f64.format.order (F n) (F n) = some .eq := order_self (not_nan_F n h)
  have e2 : FloatKind.f64.format.order (F n) 0 = some (compare n 0) := by
    have := order_F n 0 h (by decide)
    rw [F_zero] at this; exact this
  unfold wholeB
  rw [truncW_F n h, e1, e2, sgn_F]
  rcases Int.lt_trichotomy n 0 with c | c | c
  · rw [Int.compare_eq_lt.2 c]; simp
  · subst c; simp
  · rw [Int.compare_eq_gt.2 c]; simp

theorem inB_ours (n : Int) (h : SafeN n) : inB (F n) = true := by
  have e1 : FloatKind.f64.format.order 14069245235905429503 (F n) = some (compare (-9007199254740991) n) := by
    have := order_F (-9007199254740991) n (by decide) h.abs
    rw [F_nsafe] at this; exact this
  have e2 : FloatKind.f64.format.order (F n) 4845873199050653695 = some (compare n 9007199254740991) := by
    have := order_F n 9007199254740991 h.abs (by decide)
    rw [F_safe] at this; exact this
  obtain ⟨h1, h2⟩ := h
  unfold inB leB
  rw [e1, e2]
  have a : compare (-9007199254740991) n = .lt ∨ compare (-9007199254740991) n = .eq := by
    rcases Int.lt_or_eq_of_le h1 with c | c
    · exact Or.inl (Int.compare_eq_lt.2 c)
    · right; rw [c]; simp
  have b : compare n 9007199254740991 = .lt ∨ compare n 9007199254740991 = .eq := by
    rcases Int.lt_or_eq_of_le h2 with c | c
    · exact Or.inl (Int.compare_eq_lt.2 c)
    · right; rw [c]; simp
  rcases a with a | a <;> rcases b with b | b <;> rw [a, b] <;> rfl

theorem inB_big {x : Nat} (h : Big x) : inB x = false := by
  have e1 := (order_big h (-9007199254740991) (by decide)).2
  have e2 := (order_big h 9007199254740991 (by decide)).1
  rw [F_nsafe] at e1
  rw [F_safe] at e2
  have e1' : FloatKind.f64.format.order 14069245235905429503 x = _ := e1
  have e2' : FloatKind.f64.format.order x 4845873199050653695 = _ := e2
  unfold inB leB
  rw [e1', e2']
  cases sgn x <;> rfl

theorem wholeB_frac {x : Nat} (h : Frac x) : wholeB x = false := by
  have e : (FloatKind.f64.format.order x (truncW x) == some .eq) = false := truncW_frac h
  unfold wholeB; rw [e]; rfl
theorem wholeB_m0 : wholeB (2 ^ 63) = false := by decide

theorem big_not_nan {x : Nat} (h : Big x) : ¬ IsNaN x := by have := h.1; unfold IsNaN; omega
theorem frac_not_nan {x : Nat} (h : Frac x) : ¬ IsNaN x := by have := h.1; unfold IsFin at this; unfold IsNaN; omega
theorem m0_not_nan : ¬ IsNaN (2 ^ 63) := by unfold IsNaN rung; decide

theorem other_not_nan {x : Nat} (h : Is .other x) : ¬ IsNaN x := by
  obtain ⟨_, h | h | h⟩ := h
  · exact big_not_nan h
  · exact frac_not_nan h
  · rw [h]; exact m0_not_nan

theorem mayB_other {x : Nat} (h : Is .other x) : (wholeB x && inB x) = false := by
  obtain ⟨_, h | h | h⟩ := h
  · rw [inB_big h, Bool.and_false]
  · rw [wholeB_frac h, Bool.false_and]
  · rw [h, wholeB_m0, Bool.false_and]

/-- num.May -/
theorem May_cls {c : Cl} {x : Nat} (h : Is c x) (w : World) :
    Calls Tryz.prog 98 #[.float .f64 x] w fun e w' => e = .returned (.bool (mayC c)) ∧ w = w' := by
  have hx := h.lt
  cases c with
  | nan => exact May_nan x w h.2
  | other =>
    have := May_num x w hx (other_not_nan h)
    rw [mayB_other h] at this; exact this
  | ours n =>
    obtain ⟨rfl, hs⟩ := h
    have := May_num (F n) w hx (not_nan_F n hs.abs)
    rw [wholeB_ours n hs.abs, inB_ours n hs] at this; exact this

/-- what a reckoning comes to: no number, an error, or one of our numbers -/
inductive Res where
  | nan | err (k : Int) | ok (n : Int)
def EncR (r : Res) (v : Nat) (k : Int) : Prop := match r with
  | .nan => (v < 2 ^ 64 ∧ IsNaN v) ∧ k = 0
  | .err j => v = 0 ∧ k = j
  | .ok n => (v = F n ∧ SafeN n) ∧ k = 0
def RetR (r : Res) (w : World) (e : Ending) (w' : World) : Prop := ∃ v k n, EncR r v k ∧ e = .returned (.tuple #[.float .f64 v, .int .i64 k]) ∧ w' = w.drewN n
/-- a worth, told -/
def tellC (c : Cl) : Res := match c with
  | .nan => .nan
  | .other => .err 10
  | .ours n => .ok n

theorem tell_cls {c : Cl} {x : Nat} (h : Is c x) (w : World) :
    Calls Tryz.prog 117 #[.float .f64 x] w fun e w' => ∃ v k, EncR (tellC c) v k ∧ e = .returned (.tuple #[.float .f64 v, .int .i64 k]) ∧ w = w' := by
  have m1 := fun w => May_cls h w
  cases c
  all_goals
    unfold mayC at m1
    go_enter Tryz.func117, Tryz.ntmps117
    go_wp2_with (first | (go_at_call 98; refine (m1 _).mono ?_; rintro e w' ⟨rfl, rfl⟩))
    go_ret2
  · exact ⟨x, 0, ⟨h, rfl⟩, rfl, rfl⟩
  · exact ⟨0, 10, ⟨rfl, rfl⟩, rfl, rfl⟩
  · exact ⟨x, 0, ⟨h, rfl⟩, rfl, rfl⟩
end Go.Proofs.YtlfbflclefndjaaGreatDoor
/-
  Less and Index of package num beside the document's own, for every two floats: walks.
-/
namespace Go.Proofs.YtlfbflclefndjaaGreatDoor
open Go.RowKit Fl

/-- the document's whole: of our numbers the number and true, else 0 and false -/
def wholeI (c : Cl) : Int := match c with
  | .ours n => n
  | _ => 0
def wholeC (c : Cl) : Bool := match c with
  | .ours _ => true
  | _ => false

theorem run_archTrunc_nan (x : Nat) (w : World) : ∃ y n, (callFunc 123 #[.float .f64 x]).run Tryz.prog w = .ok (.value (.float .f64 y)) (w.drewN n) := by
  rw [run_callFunc_extern Tryz.func123 (by kernel_rfl) (by kernel_rfl) (by kernel_rfl) (e := Extern.MathFloor.toIntegral "math.archTrunc" .zero) (by kernel_rfl)]
  obtain ⟨q, hq, e⟩ : ∃ q : Question, q.forced = false ∧ Extern.MathFloor.toIntegral "math.archTrunc" .zero #[.float .f64 x] = (match Ieee.double.read x with
      | .nan s t => if FloatKind.f64.format.quiet t = t then pure (Value.float .f64 x) else do
        let kept ← choose q
        pure (.float .f64 (if kept == 1 then x else FloatKind.f64.encode (.nan s (FloatKind.f64.format.quiet t))))
      | d => pure (.float .f64 (Ieee.double.write (d.integral .zero)))) := by
    refine ⟨_, ?_, rfl⟩
    rfl
  rw [e]
  generalize Ieee.double.read x = r
  cases r with
  | number s m i => exact ⟨_, 0, rfl⟩
  | infinity s => exact ⟨_, 0, rfl⟩
  | nan s t =>
    by_cases c : FloatKind.f64.format.quiet t = t
    · exact ⟨x, 0, by simp only [if_pos c]; rfl⟩
    · refine ⟨if q.cut (w.tape w.drawn q) == 1 then x else FloatKind.f64.encode (.nan s (FloatKind.f64.format.quiet t)), 1, ?_⟩
      simp only [if_neg c, Sem.run_bind, run_choose, hq, Bool.false_eq_true, if_false, Result.andThen]
      rfl

def SomeFloat (w : World) (e : Ending) (w' : World) : Prop := ∃ y n, e = .returned (.float .f64 y) ∧ w' = w.drewN n
def DrawnBool (b : Bool) (w : World) (e : Ending) (w' : World) : Prop := ∃ n, e = .returned (.bool b) ∧ w' = w.drewN n

set_option maxRecDepth 1000000 in
theorem Trunc_nan (x : Nat) (w : World) : Calls Tryz.prog 114 #[.float .f64 x] w (SomeFloat w) := by
  obtain ⟨y, n, ht⟩ := run_archTrunc_nan x w
  go_enter Tryz.func114, Tryz.ntmps114
  go_wp2
  go_ret
  exact ⟨y, n, rfl, rfl⟩

theorem whole_nan {x : Nat} (hn : IsNaN x) (w : World) : Calls Tryz.prog 107 #[.float .f64 x] w (DrawnBool false w) := by
  have ho : ∀ y, FloatKind.f64.format.order x y = none := fun y => order_nan_l y hn
  go_enter Tryz.func107, Tryz.ntmps107
  go_wp2_with (go_at_call 114; refine (Trunc_nan _ _).mono ?_; rintro e w' ⟨y, n, rfl, rfl⟩)
  go_ret
  exact ⟨_, rfl, rfl⟩

def idxB (c : Cl) : Bool := match c with
  | .ours n => decide (0 ≤ n) && decide (n < 1024)
  | _ => false
def idxI (c : Cl) : Int := if idxB c then wholeI c else 0
def DrawnIdx (c : Cl) (w : World) (e : Ending) (w' : World) : Prop := ∃ n, e = .returned (.tuple #[.int .i64 (idxI c), .bool (idxB c)]) ∧ w' = w.drewN n

theorem F_1024 : F 1024 = 4652218415073722368 := by decide

theorem conv_run_int {x : Nat} {k : Int} (h : floatToIntVal .f64 x .i64 = some k) (w : World) : (convert 32 3 (.float .f64 x)).run Tryz.prog w = .ok (.int .i64 k) w :=
  run_convert_float_int w _ _ .f64 .i64 x k (by rw [Tryz.underlying32]; rfl) Tryz.underlying3 h

theorem Index_nan {x : Nat} (h : IsNaN x) (w : World) : Calls Tryz.prog 109 #[.float .f64 x] w (DrawnIdx .nan w) := by
  go_enter Tryz.func109, Tryz.ntmps109
  go_wp2_with (go_at_call 107; refine (whole_nan h _).mono ?_; rintro e w' ⟨n, rfl, rfl⟩)
  go_ret2
  exact ⟨_, rfl, rfl⟩

theorem Index_out {x : Nat} (hx : x < 2 ^ 64) (hn : ¬ IsNaN x) (h : wholeB x = false ∨ FloatKind.f64.format.order x 0 = some .lt ∨ (FloatKind.f64.format.order x 0 = some .gt ∧ FloatKind.f64.format.order x 4652218415073722368 = some .gt)) (w : World) :
    Calls Tryz.prog 109 #[.float .f64 x] w fun e w' => e = .returned (.tuple #[.int .i64 0, .bool false]) ∧ w = w' := by
  have hw := fun w => whole_num x w hx hn
  cases hb : wholeB x
  · rw [hb] at hw
    clear hb h
    go_enter Tryz.func109, Tryz.ntmps109
    go_wp2_with (go_at_call 107; refine (hw _).mono ?_; rintro e w' ⟨rfl, rfl⟩)
    go_ret2
    exact ⟨rfl, rfl⟩
  · rw [hb] at hw h
    clear hb
    rcases h with h | h | ⟨h1, h2⟩
    · cases h
    · go_enter Tryz.func109, Tryz.ntmps109
      go_wp2_with (go_at_call 107; refine (hw _).mono ?_; rintro e w' ⟨rfl, rfl⟩)
      go_ret2
      exact ⟨rfl, rfl⟩
    · go_enter Tryz.func109, Tryz.ntmps109
      go_wp2_with (go_at_call 107; refine (hw _).mono ?_; rintro e w' ⟨rfl, rfl⟩)
      go_ret2
      exact ⟨rfl, rfl⟩

theorem Index_ours {n : Int} (h : SafeN n) (w : World) :
    Calls Tryz.prog 109 #[.float .f64 (F n)] w fun e w' => e = .returned (.tuple #[.int .i64 (idxI (.ours n)), .bool (idxB (.ours n))]) ∧ w = w' := by
  have ha := h.abs
  have hw := fun w => whole_num (F n) w (F_lt n) (not_nan_F n ha)
  rw [wholeB_ours n ha] at hw
  have hc := fun w => conv_run_int (floatToIntVal_F n ha) w
  have e1 := order_F n 0 ha (by decide)
  have e2 := order_F n 1024 ha (by decide)
  rw [F_zero] at e1
  rw [F_1024] at e2
  obtain ⟨x, hx⟩ : ∃ x, x = F n := ⟨_, rfl⟩
  rw [← hx] at hw hc e1 e2 ⊢
  clear hx
  have c1 : (n < 0 ∧ compare n 0 = .lt ∧ idxB (.ours n) = false) ∨ (0 ≤ n ∧ compare n 0 ≠ .lt) := by
    by_cases c : n < 0
    · exact Or.inl ⟨c, Int.compare_eq_lt.2 c, by simp [idxB]; omega⟩
    · exact Or.inr ⟨by omega, fun e => c (Int.compare_eq_lt.1 e)⟩
  have c2 : (n < 1024 ∧ compare n 1024 = .lt) ∨ (1024 ≤ n ∧ compare n 1024 ≠ .lt ∧ idxB (.ours n) = false) := by
    by_cases c : n < 1024
    · exact Or.inl ⟨c, Int.compare_eq_lt.2 c⟩
    · exact Or.inr ⟨by omega, fun e => c (Int.compare_eq_lt.1 e), by simp [idxB]; omega⟩
  have o1 : FloatKind.f64.format.order x 0 = _ := e1
  have o2 : FloatKind.f64.format.order x 4652218415073722368 = _ := e2
  clear e1 e2 ha
  rcases c1 with ⟨c, d, b⟩ | ⟨c, d⟩
  · rw [d] at o1
    unfold idxI
    rw [b]
    clear c2 d b c o2
    go_enter Tryz.func109, Tryz.ntmps109
    go_wp2_with (go_at_call 107; refine (hw _).mono ?_; rintro e w' ⟨rfl, rfl⟩)
    go_ret2
    exact ⟨rfl, rfl⟩
  · rcases c2 with ⟨c', d'⟩ | ⟨c', d', b⟩
    · have b : idxB (.ours n) = true := by simp [idxB, c, c']
      rw [d'] at o2
      unfold idxI
      rw [b]
      obtain ⟨o, ho⟩ : ∃ o, compare n 0 = o := ⟨_, rfl⟩
      rw [ho] at d o1
      clear ho b d' c c'
      show Calls _ _ _ _ fun e w' => e = .returned (.tuple #[.int .i64 n, .bool true]) ∧ w = w'
      cases o
      · exact absurd rfl d
      all_goals
        clear d
        go_enter Tryz.func109, Tryz.ntmps109
        go_wp2_with (go_at_call 107; refine (hw _).mono ?_; rintro e w' ⟨rfl, rfl⟩)
        go_ret2
        exact ⟨rfl, rfl⟩
    · unfold idxI
      rw [b]
      obtain ⟨o, ho⟩ : ∃ o, compare n 0 = o := ⟨_, rfl⟩
      obtain ⟨u, hu⟩ : ∃ u, compare n 1024 = u := ⟨_, rfl⟩
      rw [ho] at d o1
      rw [hu] at d' o2
      clear ho hu b c c'
      cases o
      · exact absurd rfl d
      all_goals
        cases u
        · exact absurd rfl d'
        all_goals
          clear d d'
          go_enter Tryz.func109, Tryz.ntmps109
          go_wp2_with (go_at_call 107; refine (hw _).mono ?_; rintro e w' ⟨rfl, rfl⟩)
          go_ret2
          exact ⟨rfl, rfl⟩

theorem Index_cls {c : Cl} {x : Nat} (h : Is c x) (w : World) : Calls Tryz.prog 109 #[.float .f64 x] w (DrawnIdx c w) := by
  cases c with
  | nan => exact Index_nan h.2 w
  | other =>
    refine (Index_out h.lt (other_not_nan h) ?_ w).mono fun e w' ⟨he, hw⟩ => ⟨0, he, hw ▸ rfl⟩
    obtain ⟨_, h | h | h⟩ := h
    · have e1 := (order_big h 0 (by decide)).1
      have e2 := (order_big h 1024 (by decide)).1
      rw [F_zero] at e1
      rw [F_1024] at e2
      cases hs : sgn x
      · rw [hs] at e1 e2; exact Or.inr (Or.inr ⟨e1, e2⟩)
      · rw [hs] at e1; exact Or.inr (Or.inl e1)
    · exact Or.inl (wholeB_frac h)
    · exact Or.inl (by rw [h]; exact wholeB_m0)
  | ours n =>
    obtain ⟨rfl, hs⟩ := h
    exact (Index_ours hs w).mono fun e w' ⟨he, hw⟩ => ⟨0, he, hw ▸ rfl⟩

def lessV (x y : Nat) : Int := if FloatKind.f64.format.order x x != some .eq || FloatKind.f64.format.order y y != some .eq then -1 else if FloatKind.f64.format.order x y == some .lt then 1 else 0

theorem below_drawn (w : World) (n : Nat) : Below w.heap.size w (w.drewN n) := ⟨rfl, rfl, rfl, Nat.le_refl _, fun _ _ => rfl⟩

end Go.Proofs.YtlfbflclefndjaaGreatDoor
/-
  What reckoning with two floats comes to, told by what the floats are: package num's operations and the document's own: walks.
-/
namespace Go.Proofs.YtlfbflclefndjaaGreatDoor
open Go.RowKit Fl

/-- the class of a whole number's word -/
def clF (n : Int) : Cl := if -9007199254740991 ≤ n ∧ n ≤ 9007199254740991 then .ours n else .other
def tellN (n : Int) : Res := if -9007199254740991 ≤ n ∧ n ≤ 9007199254740991 then .ok n else .err 10
theorem is_m0 : Is .other (2 ^ 63) := ⟨by decide, Or.inr (Or.inr rfl)⟩
/-- the class of a sum, a difference, a product, a quotient of our numbers, and its word -/
def SomeNaN (w : World) (e : Ending) (w' : World) : Prop := ∃ v n, (v < 2 ^ 64 ∧ IsNaN v) ∧ e = .returned (.float .f64 v) ∧ w' = w.drewN n

def twoV (c d : Cl) : Value := if mayC c && mayC d then .tuple #[.int .i64 (wholeI c), .int .i64 (wholeI d), .bool (!wholeC c || !wholeC d), .int .i64 0] else .tuple #[.int .i64 0, .int .i64 0, .bool false, .int .i64 2]

def EncV (r : Res) (w : World) (e : Ending) (w' : World) : Prop := ∃ v k, EncR r v k ∧ e = .returned (.tuple #[.float .f64 v, .int .i64 k]) ∧ w = w'

/-- a reckoning of two of our numbers by f; an error where one is none of ours, no number where one is no number -/
def opR (f : Int → Int → Res) (c d : Cl) : Res := match c, d with
  | .other, _ => .err 2
  | _, .other => .err 2
  | .ours a, .ours b => f a b
  | _, _ => .nan

/-- one operation of two of our numbers, of any class: what it comes to -/
def Worth (op : BinOp) (f : Int → Int → Res) : Prop := ∀ a b : Int, SafeN a → SafeN b →
  (∃ c z, floatBits op .f64 (F a) (F b) = some z ∧ Is c z ∧ tellC c = f a b) ∨ (floatBits op .f64 (F a) (F b) = none ∧ f a b = .nan)

def sumR (a b : Int) : Res := tellN (a + b)
def subR (a b : Int) : Res := tellN (a - b)
def mulR (a b : Int) : Res := if a = 0 ∨ b = 0 then (if a < 0 ∨ b < 0 then .err 10 else .ok 0) else tellN (a * b)
def divR (a b : Int) : Res := if b = 0 then (if a = 0 then .nan else .err 10) else if a = 0 then (if b < 0 then .err 10 else .ok 0) else if a.tmod b ≠ 0 then .err 10 else .ok (a.tdiv b)
def remR (a b : Int) : Res := if b = 0 then .nan else if a < 0 ∧ a.tmod b = 0 then .err 10 else .ok (a.tmod b)
def negR (a : Int) : Res := if a = 0 then .err 10 else .ok (-a)

end Go.Proofs.YtlfbflclefndjaaGreatDoor
/-
  Texts of digits and what they are worth; floats that have grown beyond 53 bits stay there: plain lemmas.
-/
namespace Go.Proofs.YtlfbflclefndjaaGreatDoor
open Go.RowKit Fl Ieee

def isDig (c : UInt8) : Bool := decide (48 ≤ c.toNat) && decide (c.toNat ≤ 57)
def valD (l : List UInt8) : Nat := l.foldl (fun n c => n * 10 + (c.toNat - 48)) 0
theorem valD_snoc (l : List UInt8) (c : UInt8) : valD (l ++ [c]) = valD l * 10 + (c.toNat - 48) := by unfold valD; rw [List.foldl_append]; rfl

/-- digits behind a sign -/
def digR (neg : Bool) (l : List UInt8) : Res :=
  if l = [] ∨ l.all isDig = false then .nan
  else if 9007199254740991 < valD l then .err 10
  else if neg = true ∧ valD l = 0 then .err 10
  else .ok (if neg then -(valD l : Int) else (valD l : Int))
/-- a text without blanks at its ends -/
def bareR : List UInt8 → Res
  | [] => .ok 0
  | c :: r => if c = 45 then digR true r else if c = 43 then digR false r else digR false (c :: r)
def blanksL : List UInt8 := [9, 10, 13, 32]
def readR (l : List UInt8) : Res := bareR (Lib.trimS l blanksL)

def Acc (n v : Nat) : Prop := (n < 2 ^ 53 ∧ v = F (n : Int)) ∨ (2 ^ 53 ≤ n ∧ Big v ∧ sgn v = false ∧ v < 2 ^ 64)

theorem big_log {m : Nat} {e : Int} (he : -1074 ≤ e) (h : 2 ^ 53 * U ≤ m * 2 ^ (e + 1074).toNat) : m ≠ 0 ∧ 53 ≤ (m.log2 : Int) + e := by
  obtain ⟨k, hk⟩ : ∃ k, k = 1074 := ⟨_, rfl⟩
  rw [U_pow k hk, ← Nat.pow_add] at h
  have hp := Nat.two_pow_pos (53 + k)
  have m0 : m ≠ 0 := by intro c; rw [c, Nat.zero_mul] at h; omega
  refine ⟨m0, ?_⟩
  have hne : m * 2 ^ (e + 1074).toNat ≠ 0 := by omega
  have := (Nat.le_log2 hne).2 h
  rw [log2_scale _ _ m0] at this
  omega

theorem log2_ge {m n k : Nat} (m0 : m ≠ 0) (h : m * 2 ^ k ≤ n) : n ≠ 0 ∧ m.log2 + k ≤ n.log2 := by
  have hp := Nat.mul_pos (Nat.pos_of_ne_zero m0) (Nat.two_pow_pos k)
  refine ⟨by omega, (Nat.le_log2 (by omega)).2 (Nat.le_trans ?_ h)⟩
  rw [Nat.pow_add]
  exact Nat.mul_le_mul_right _ (Nat.log2_self_le m0)

theorem big_inf : Big (double.word false double.infRung) ∧ sgn (double.word false double.infRung) = false ∧ double.word false double.infRung < 2 ^ 64 := by
  have e4 : double.infRung = 2047 * 2 ^ 52 := by decide
  rw [e4]
  have w := word_sgn false (2047 * 2 ^ 52) (by decide)
  exact ⟨⟨by rw [w.2.1]; exact Nat.le_refl _, by rw [w.2.1]; exact ru_inf⟩, w.1, w.2.2⟩

theorem nearest_grown (mag : Nat) (place : Int) (h : mag ≠ 0) (hb : 53 ≤ place + mag.log2) : Big (double.nearest false mag place) ∧ sgn (double.nearest false mag place) = false ∧ double.nearest false mag place < 2 ^ 64 :=
  ⟨nearest_big _ _ _ h hb, (nearest_all _ _ _ h).1, double.nearest_lt _ _ _⟩

theorem big_mul {v : Nat} (hb : Big v) (hs : sgn v = false) : ∃ y, floatBits .mul .f64 v (F 10) = some y ∧ Big y ∧ sgn y = false ∧ y < 2 ^ 64 := by
  obtain ⟨j, g, _, _⟩ := read_F 10 (by decide)
  show ∃ y, double.mul v (F 10) = some y ∧ _
  unfold Format.mul
  rw [g]
  have d10 : decide ((10 : Int) < 0) = false := by decide
  rw [d10]
  rcases Nat.lt_or_eq_of_le hb.1 with c | c
  · obtain ⟨m, e, h1, h2, _, h4, _⟩ := read_fin c
    rw [h1, hs]
    obtain ⟨m0, hl⟩ := big_log h2 (by rw [h4]; exact hb.2)
    refine ⟨_, rfl, ?_⟩
    obtain ⟨n0, hn⟩ := log2_ge (n := m * ((10 : Int).natAbs * 2 ^ j)) (k := j) m0 (by
      have : m * 2 ^ j ≤ m * 2 ^ j * 10 := Nat.le_mul_of_pos_right _ (by decide)
      have e2 : m * ((10 : Int).natAbs * 2 ^ j) = m * 2 ^ j * 10 := by rw [show (10 : Int).natAbs = 10 from rfl, Nat.mul_comm 10, Nat.mul_assoc]
      rw [e2]; exact this)
    exact nearest_grown _ _ n0 (by omega)
  · rw [read_inf c, hs]
    unfold Datum.product
    have n0 : (10 : Int).natAbs * 2 ^ j ≠ 0 := by have := Nat.mul_pos (show 0 < (10 : Int).natAbs by decide) (Nat.two_pow_pos j); omega
    simp only [n0, if_false, Option.map_some]
    exact ⟨_, rfl, big_inf⟩

theorem big_add {v d : Nat} (hb : Big v) (hs : sgn v = false) (hd : d ≤ 9) : ∃ y, floatBits .add .f64 v (F (d : Int)) = some y ∧ Big y ∧ sgn y = false ∧ y < 2 ^ 64 := by
  obtain ⟨j, g, _, _⟩ := read_F (d : Int) (by omega)
  show ∃ y, double.add v (F (d : Int)) = some y ∧ _
  unfold Format.add
  rw [g]
  have dd : decide ((d : Int) < 0) = false := decide_eq_false (by omega)
  rw [dd]
  rcases Nat.lt_or_eq_of_le hb.1 with c | c
  · obtain ⟨m, e, h1, h2, _, h4, _⟩ := read_fin c
    rw [h1, hs]
    obtain ⟨m0, hl⟩ := big_log h2 (by rw [h4]; exact hb.2)
    unfold Datum.sum
    simp only [Option.map_some]
    obtain ⟨T, hT⟩ : ∃ T : Nat, (signed false m (e - min e (-(j : Int))).toNat + signed false ((d : Int).natAbs * 2 ^ j) (-(j : Int) - min e (-(j : Int))).toNat) = (T : Int) ∧ m * 2 ^ (e - min e (-(j : Int))).toNat ≤ T := by
      rw [signed_eq, signed_eq]
      simp only [Bool.false_eq_true, if_false]
      exact ⟨m * 2 ^ (e - min e (-(j : Int))).toNat + (d : Int).natAbs * 2 ^ j * 2 ^ (-(j : Int) - min e (-(j : Int))).toNat, by omega, by omega⟩
    rw [hT.1]
    obtain ⟨n0, hn⟩ := log2_ge m0 hT.2
    have t0 : ¬ ((T : Int) = 0) := by omega
    have t1 : decide ((T : Int) < 0) = false := decide_eq_false (by omega)
    simp only [t0, if_false, t1, Int.natAbs_natCast]
    exact ⟨_, rfl, nearest_grown _ _ n0 (by omega)⟩
  · rw [read_inf c, hs]
    exact ⟨_, rfl, big_inf⟩

theorem F_grown (n : Nat) (h : 2 ^ 53 ≤ n) : Big (F (n : Int)) ∧ sgn (F (n : Int)) = false ∧ F (n : Int) < 2 ^ 64 :=
  ⟨F_big _ (by omega), by rw [sgn_F]; exact decide_eq_false (by omega), F_lt _⟩

theorem acc_step {n v d : Nat} (h : Acc n v) (hd : d ≤ 9) : ∃ v1 v2, floatBits .mul .f64 v (F 10) = some v1 ∧ floatBits .add .f64 v1 (F (d : Int)) = some v2 ∧ Acc (n * 10 + d) v2 := by
  rcases h with ⟨h1, rfl⟩ | ⟨h1, h2, h3, h4⟩
  · have hm : floatBits .mul .f64 (F (n : Int)) (F 10) = some (F ((n * 10 : Nat) : Int)) := by
      have := mul_F (n : Int) 10 (by omega) (by decide)
      refine (show floatBits .mul .f64 (F (n : Int)) (F 10) = _ from this).trans ?_
      by_cases z : n = 0
      · subst z; decide
      · rw [if_neg (by omega)]; congr 2
    by_cases c : n * 10 < 2 ^ 53
    · refine ⟨_, _, hm, add_F _ _ (by omega) (by omega), ?_⟩
      have e : ((n * 10 : Nat) : Int) + (d : Int) = ((n * 10 + d : Nat) : Int) := by omega
      rw [e]
      by_cases c2 : n * 10 + d < 2 ^ 53
      · exact Or.inl ⟨c2, rfl⟩
      · obtain ⟨b1, b2, b3⟩ := F_grown (n * 10 + d) (by omega)
        exact Or.inr ⟨by omega, b1, b2, b3⟩
    · obtain ⟨b1, b2, b3⟩ := F_grown (n * 10) (by omega)
      obtain ⟨y, hy, y1, y2, y3⟩ := big_add (d := d) b1 b2 hd
      exact ⟨_, y, hm, hy, Or.inr ⟨by omega, y1, y2, y3⟩⟩
  · obtain ⟨y, hy, y1, y2, y3⟩ := big_mul h2 h3
    obtain ⟨z, hz, z1, z2, z3⟩ := big_add (d := d) y1 y2 hd
    exact ⟨y, z, hy, hz, Or.inr ⟨by omega, z1, z2, z3⟩⟩

theorem take_snoc (s : ByteArray) (k : Nat) (h : k < s.size) : s.data.toList.take (k + 1) = s.data.toList.take k ++ [s[k]] := by
  rw [List.take_succ_eq_append_getElem (by simpa using h)]; rfl

/-- a worth behind a sign, told -/
theorem acc_cls {l : List UInt8} {v : Nat} (neg : Bool) (hl : ¬ (l = [] ∨ l.all isDig = false)) (h : Acc (valD l) v) :
    ∃ c, Is c (if neg then Op.negFloat .f64 v else v) ∧ tellC c = digR neg l := by
  unfold digR
  rw [if_neg hl]
  have negW : ∀ x, x < 2 ^ 64 → sgn x = false → Big x → Is .other (Op.negFloat .f64 x) := by
    intro x hx hs hb
    have e : Op.negFloat .f64 x = if x < 2 ^ 63 then x + 2 ^ 63 else x - 2 ^ 63 := neg_word x hx
    rw [e]
    have hr : rung (if x < 2 ^ 63 then x + 2 ^ 63 else x - 2 ^ 63) = rung x := by unfold rung; split <;> omega
    refine ⟨by split <;> omega, Or.inl ?_⟩
    unfold Big; rw [hr]; exact hb
  rcases h with ⟨h1, rfl⟩ | ⟨h1, h2, h3, h4⟩
  · by_cases big : 9007199254740991 < valD l
    · exfalso; omega
    · rw [if_neg big]
      cases neg
      · simp only [Bool.false_eq_true, if_false, false_and]
        exact ⟨.ours _, ⟨rfl, by unfold SafeN; omega⟩, rfl⟩
      · simp only [if_true, true_and]
        by_cases z : valD l = 0
        · rw [if_pos z, z]
          refine ⟨.other, ?_, rfl⟩
          have : Op.negFloat .f64 (F ((0 : Nat) : Int)) = 2 ^ 63 := by decide
          rw [this]; exact is_m0
        · rw [if_neg z]
          exact ⟨.ours _, ⟨neg_F _ (by omega) (by omega), by unfold SafeN; omega⟩, rfl⟩
  · have hbig : 9007199254740991 < valD l := by omega
    rw [if_pos hbig]
    cases neg
    · simp only [Bool.false_eq_true, if_false]
      exact ⟨.other, ⟨h4, Or.inl h2⟩, rfl⟩
    · simp only [if_true]
      exact ⟨.other, negW v h4 h3 h2, rfl⟩
end Go.Proofs.YtlfbflclefndjaaGreatDoor
/-
  The document's own reckoning, and package num's Neg, told by what the floats are: walks.
-/
namespace Go.Proofs.YtlfbflclefndjaaGreatDoor
open Go.RowKit Fl

@[go_sem] theorem unary_negf (k : FloatKind) (b : Nat) : Op.unary .neg (.float k b) = pure (.float k (Op.negFloat k b)) := rfl

theorem neg_nan {x : Nat} (hx : x < 2 ^ 64) (h : IsNaN x) : x ^^^ 2 ^ 63 < 2 ^ 64 ∧ IsNaN (x ^^^ 2 ^ 63) := by
  rw [neg_word x hx]
  unfold IsNaN rung at *
  split <;> omega

def negC (c : Cl) : Res := match c with
  | .nan => .nan
  | .other => .err 2
  | .ours a => negR a

end Go.Proofs.YtlfbflclefndjaaGreatDoor
/-
  math.Mod at our numbers: what is left of a behind b times the whole quotient; no number where one is none or b is 0: walks.
-/
namespace Go.Proofs.YtlfbflclefndjaaGreatDoor
open Go.RowKit Fl

theorem run_Float64frombits (x : Nat) (w : World) : (callFunc 147 #[.int .u64 (x : Int)]).run Tryz.prog w = .ok (.value (.float .f64 x)) w := by
  rw [run_callFunc_extern Tryz.func147 (by kernel_rfl) (by kernel_rfl) (by kernel_rfl) (e := Extern.MathFloatBits.float64frombits) (by kernel_rfl)]
  rfl

/-- the fraction that Frexp gives -/
def frW (n : Nat) : Nat := 1022 * 2 ^ 52 + (n * 2 ^ (52 - n.log2) - 2 ^ 52)

/-- the leading digits of a number, 53 of them -/
def lead (n : Nat) : Nat := n * 2 ^ (52 - n.log2)

def wordOf (v : Value) : Nat := match v with | .float _ x => x | _ => 0

end Go.Proofs.YtlfbflclefndjaaGreatDoor
/-
  Rem of package num, and NumSums: every operation of two floats beside the document's own: walks.
-/
namespace Go.Proofs.YtlfbflclefndjaaGreatDoor
open Go.RowKit Fl

theorem NaN_any (w : World) : Calls Tryz.prog 132 #[] w fun e w' => e = .returned (.float .f64 9221120237041090561) ∧ w = w' := by
  have hf : ∀ w, (callFunc 147 #[.int .u64 9221120237041090561]).run Tryz.prog w = .ok (.value (.float .f64 9221120237041090561)) w := fun w => run_Float64frombits 9221120237041090561 w
  go_enter Tryz.func132, Tryz.ntmps132
  go_wp2
  go_ret
  exact ⟨rfl, rfl⟩
theorem is_uvnan : Is .nan 9221120237041090561 := ⟨by decide, by unfold IsNaN rung; decide⟩

def nanC (c : Cl) : Bool := match c with | .nan => true | _ => false
def DrawnTrue (w : World) (e : Ending) (w' : World) : Prop := ∃ n, e = .returned (.bool true) ∧ w' = w.drewN n

end Go.Proofs.YtlfbflclefndjaaGreatDoor
/-
  DERIVED: THE SHELF's CONTRACTS AT THIS DUMP, IN PLAIN WORDS (tools/lay-plain.mjs out of 'YtlfbflclefndjaaGreatDoorShelfTry.lean', which tools/lay-shelf.mjs wrote): THE SAME DECLARATIONS UNDER THE SAME NAMES: 'import', 'namespace', 'open', 'def', 'theorem' AND NOTHING ELSE: no command of the shelf's: FOR A HAND-IN. Each laying: the table of numbers ('.._ren') and one theorem, a field a fact of the dump's own or the kernel's comparison; each contract: ONE APPLICATION.
-/
namespace Go.Proofs
open Go.Shelf
def Tryz.lays160_ren : Go.Shelf.Ren := ⟨fun | 160 => 115 | 232 => 126 | 231 => 125 | 227 => 127 | 234 => 129 | 233 => 128 | 236 => 131 | 235 => 130 | 228 => 148 | 271 => 151 | 151 => 150 | 197 => 149 | 120 => 156 | 152 => 155 | 260 => 154 | 137 => 162 | 119 => 163 | 224 => 164 | 225 => 165 | 217 => 171 | 266 => 174 | n => n, fun | 9 => 9 | 4 => 4 | 3 => 3 | 5 => 5 | 117 => 172 | 116 => 171 | 0 => 0 | 124 => 175 | 21 => 21 | 105 => 185 | 46 => 183 | 119 => 196 | 139 => 199 | 138 => 198 | n => n, fun | 3 => 1 | 4 => 2 | n => n⟩
theorem Tryz.lays160 : Go.Proofs.Lays.n160 Tryz.prog Tryz.lays160_ren := {
  mixed := by kernel_rfl
  f119 := Tryz.func163.trans (congrArg some (by kernel_rfl))
  f120 := Tryz.func156.trans (congrArg some (by kernel_rfl))
  f137 := Tryz.func162.trans (congrArg some (by kernel_rfl))
  f151 := Tryz.func150.trans (congrArg some (by kernel_rfl))
  f152 := Tryz.func155.trans (congrArg some (by kernel_rfl))
  f160 := Tryz.func115.trans (congrArg some (by kernel_rfl))
  f197 := Tryz.func149.trans (congrArg some (by kernel_rfl))
  f217 := Tryz.func171.trans (congrArg some (by kernel_rfl))
  f224 := Tryz.func164.trans (congrArg some (by kernel_rfl))
  f225 := Tryz.func165.trans (congrArg some (by kernel_rfl))
  f227 := Tryz.func127.trans (congrArg some (by kernel_rfl))
  f228 := Tryz.func148.trans (congrArg some (by kernel_rfl))
  f231 := Tryz.func125.trans (congrArg some (by kernel_rfl))
  f232 := Tryz.func126.trans (congrArg some (by kernel_rfl))
  f233 := Tryz.func128.trans (congrArg some (by kernel_rfl))
  f234 := Tryz.func129.trans (congrArg some (by kernel_rfl))
  f235 := Tryz.func130.trans (congrArg some (by kernel_rfl))
  f236 := Tryz.func131.trans (congrArg some (by kernel_rfl))
  f260 := Tryz.func154.trans (congrArg some (by kernel_rfl))
  f266 := Tryz.func174.trans (congrArg some (by kernel_rfl))
  f271 := Tryz.func151.trans (congrArg some (by kernel_rfl))
  t0 := Tryz.underlying0
  a0 := Tryz.isAgg0
  z0 := Tryz.sizeOf0
  v0 := Tryz.zeroValue0
  t3 := Tryz.underlying3
  a3 := Tryz.isAgg3
  z3 := Tryz.sizeOf3
  v3 := Tryz.zeroValue3
  t4 := Tryz.underlying4
  a4 := Tryz.isAgg4
  z4 := Tryz.sizeOf4
  v4 := Tryz.zeroValue4
  t5 := Tryz.underlying5
  a5 := Tryz.isAgg5
  z5 := Tryz.sizeOf5
  v5 := Tryz.zeroValue5
  t9 := Tryz.underlying9
  a9 := Tryz.isAgg9
  z9 := Tryz.sizeOf9
  v9 := Tryz.zeroValue9
  t21 := Tryz.underlying21
  a21 := Tryz.isAgg21
  z21 := Tryz.sizeOf21
  v21 := Tryz.zeroValue21
  t46 := Tryz.underlying183
  a46 := Tryz.isAgg183
  z46 := Tryz.sizeOf183
  v46 := Tryz.zeroValue183
  t105 := Tryz.underlying185
  a105 := Tryz.isAgg185
  z105 := Tryz.sizeOf185
  v105 := Tryz.zeroValue185
  t116 := Tryz.underlying171
  a116 := Tryz.isAgg171
  z116 := Tryz.sizeOf171
  t117 := Tryz.underlying172
  a117 := Tryz.isAgg172
  z117 := Tryz.sizeOf172
  v117 := Tryz.zeroValue172
  t119 := Tryz.underlying196
  a119 := Tryz.isAgg196
  z119 := Tryz.sizeOf196
  t124 := Tryz.underlying175
  a124 := Tryz.isAgg175
  z124 := Tryz.sizeOf175
  v124 := Tryz.zeroValue175
  t138 := Tryz.underlying198
  a138 := Tryz.isAgg198
  z138 := Tryz.sizeOf198
  v138 := Tryz.zeroValue198
  t139 := Tryz.underlying199
  a139 := Tryz.isAgg199
  z139 := Tryz.sizeOf199
  v139 := Tryz.zeroValue199
  g3 := by kernel_rfl
  g4 := by kernel_rfl }
end Go.Proofs
