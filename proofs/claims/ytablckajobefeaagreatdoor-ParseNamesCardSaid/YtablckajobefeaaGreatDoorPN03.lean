/-
  What the small functions of package num and of the document's own answer do to one float: walks, for every float.
-/
import Derived.Test.YtablckajobefeaaGreatDoorChecked
import Derived.Test.YtablckajobefeaaGreatDoorPN02
import Derived.WalkKit
import Derived.WalkSpells
import Derived.WalkLawsBesides
import Derived.Lib.Hide
import Derived.Deep.Draws
import Derived.Lib.SlTrimSet
import Derived.Lib.ItoaNum
import Derived.Shelf.Strings.SlTrimAscii
import Derived.Shelf.LaysM
import Derived.Shelf.Strconv.Itoa4
import Derived.Test.YtablckajobefeaaGreatDoorProg
namespace Go.Proofs.YtablckajobefeaaGreatDoor
open Go.RowKit Fl

theorem run_archTrunc (x : Nat) (w : World) (h : ¬ IsNaN x) : (callFunc 161 #[.float .f64 x]).run Tryz.prog w = .ok (.value (.float .f64 (truncW x))) w := by
  rw [run_callFunc_extern Tryz.func161 (by kernel_rfl) (by kernel_rfl) (by kernel_rfl) (e := Extern.MathFloor.toIntegral "math.archTrunc" .zero) (by kernel_rfl)]
  have e : Extern.MathFloor.toIntegral "math.archTrunc" .zero #[.float .f64 x] = pure (.float .f64 (truncW x)) := by
    show (match Ieee.double.read x with
      | .nan s t => _
      | d => (pure (.float .f64 (Ieee.double.write (d.integral .zero))) : Sem Value)) = _
    unfold truncW
    cases hd : Ieee.double.read x with
    | nan s t => exact absurd hd (by
        intro hd
        rcases Nat.lt_or_eq_of_le (Nat.le_of_not_lt h) with c | c
        · obtain ⟨m, e, h1, _⟩ := read_fin c
          rw [h1] at hd; cases hd
        · rw [read_inf c] at hd; cases hd)
    | number s m i => rfl
    | infinity s => rfl
  rw [e]; rfl

theorem run_Float64bits (x : Nat) (w : World) : (callFunc 163 #[.float .f64 x]).run Tryz.prog w = .ok (.value (.int .u64 x)) w := by
  rw [run_callFunc_extern Tryz.func163 (by kernel_rfl) (by kernel_rfl) (by kernel_rfl) (e := Extern.MathFloatBits.float64bits) (by kernel_rfl)]
  rfl

theorem none_any (x : Nat) (w : World) :
    Calls Tryz.prog 87 #[.float .f64 x] w fun e w' => e = .returned (.bool (FloatKind.f64.format.order x x != some .eq)) ∧ w = w' := by
  go_enter Tryz.func87, Tryz.ntmps87
  go_wp2
  go_ret
  exact ⟨rfl, rfl⟩

theorem Trunc_num (x : Nat) (w : World) (hn : ¬ IsNaN x) :
    Calls Tryz.prog 139 #[.float .f64 x] w fun e w' => e = .returned (.float .f64 (truncW x)) ∧ w = w' := by
  have ht := fun w => run_archTrunc x w hn
  go_enter Tryz.func139, Tryz.ntmps139
  go_wp2
  go_ret
  exact ⟨rfl, rfl⟩

theorem sgn_wrap (x : Nat) (_hx : x < 2 ^ 64) : decide (wrap64 (x : Int) < 0) = sgn x := by
  unfold sgn wrap64
  rw [Bool.eq_iff_iff, decide_eq_true_iff, beq_iff_eq]; omega

theorem ret_bool {a b : Bool} (h : a = b) : Ending.returned (.bool a) = .returned (.bool b) := by rw [h]
theorem ret_int {k : IntKind} {a b : Int} (h : a = b) : Ending.returned (.int k a) = .returned (.int k b) := by rw [h]

theorem Signbit_any (x : Nat) (w : World) (hx : x < 2 ^ 64) :
    Calls Tryz.prog 140 #[.float .f64 x] w fun e w' => e = .returned (.bool (sgn x)) ∧ w = w' := by
  have hb := fun w => run_Float64bits x w
  have hs : Hid (decide (wrap64 (x : Int) < 0) = sgn x) := Lib.hid (sgn_wrap x hx)
  go_enter Tryz.func140, Tryz.ntmps140
  go_wp2
  go_ret
  exact ⟨ret_bool hs.out, rfl⟩

/-- whether a float is whole and no minus nought -/
def wholeB (x : Nat) : Bool := (FloatKind.f64.format.order x (truncW x) == some .eq) && !((FloatKind.f64.format.order x 0 == some .eq) && sgn x)
def leB (x y : Nat) : Bool := FloatKind.f64.format.order x y == some .lt || FloatKind.f64.format.order x y == some .eq

theorem whole_num (x : Nat) (w : World) (hx : x < 2 ^ 64) (hn : ¬ IsNaN x) :
    Calls Tryz.prog 115 #[.float .f64 x] w fun e w' => e = .returned (.bool (wholeB x)) ∧ w = w' := by
  go_enter Tryz.func115, Tryz.ntmps115
  go_wp2_with (first | (go_at_call 139; refine (Trunc_num _ _ hn).mono ?_; rintro e w' ⟨rfl, rfl⟩) | (go_at_call 140; refine (Signbit_any _ _ hx).mono ?_; rintro e w' ⟨rfl, rfl⟩))
  all_goals (go_ret; exact ⟨ret_bool (by simp [wholeB, *]), rfl⟩)

def inB (x : Nat) : Bool := leB 14069245235905429503 x && leB x 4845873199050653695

theorem May_nan (x : Nat) (w : World) (hn : IsNaN x) :
    Calls Tryz.prog 84 #[.float .f64 x] w fun e w' => e = .returned (.bool true) ∧ w = w' := by
  have ho : FloatKind.f64.format.order x x = none := order_nan_l x hn
  go_enter Tryz.func84, Tryz.ntmps84
  go_wp2_with (first | (go_at_call 87; refine (none_any _ _).mono ?_; rintro e w' ⟨rfl, rfl⟩))
  go_ret
  exact ⟨rfl, rfl⟩

theorem May_num (x : Nat) (w : World) (hx : x < 2 ^ 64) (hn : ¬ IsNaN x) :
    Calls Tryz.prog 84 #[.float .f64 x] w fun e w' => e = .returned (.bool (wholeB x && inB x)) ∧ w = w' := by
  have ho : FloatKind.f64.format.order x x = some .eq := order_self hn
  cases hb : wholeB x
  all_goals
    have HB := Lib.hid hb
    clear hb
    go_enter Tryz.func84, Tryz.ntmps84
    go_wp2_with (first | (go_at_call 87; refine (none_any _ _).mono ?_; rintro e w' ⟨rfl, rfl⟩) | (go_at_call 115; refine (whole_num _ _ hx hn).mono ?_; rintro e w' ⟨rfl, rfl⟩; rw [HB.out]))
    all_goals (go_ret; exact ⟨ret_bool (by simp [inB, leB, *]), rfl⟩)

theorem F_safe : F 9007199254740991 = 4845873199050653695 := by decide
theorem F_nsafe : F (-9007199254740991) = 14069245235905429503 := by decide
def mayC (c : Cl) : Bool := match c with
  | .nan => true
  | .other => false
  | .ours _ => true

theorem wholeB_ours (n : Int) (h : n.natAbs < 2 ^ 53) : wholeB (F n) = true := by
  have e1 : FloatKind.f64.format.order (F n) (F n) = some .eq := order_self (not_nan_F n h)
  have e2 : FloatKind.f64.format.order (F n) 0 = some (compare n 0) := by
    have := order_F n 0 h (by decide)
    rw [F_zero] at this; exact this
  unfold wholeB
  rw [truncW_F n h, e1, e2, sgn_F]
  rcases Int.lt_trichotomy n 0 with c | c | c
  · rw [Int.compare_eq_lt.2 c]; simp
  · subst c; simp
  · rw [Int.compare_eq_gt.2 c]; simp

theorem inB_ours (n : Int) (h : SafeN n) : inB (F n) = true := by
  have e1 : FloatKind.f64.format.order 14069245235905429503 (F n) = some (compare (-9007199254740991) n) := by
    have := order_F (-9007199254740991) n (by decide) h.abs
    rw [F_nsafe] at this; exact this
  have e2 : FloatKind.f64.format.order (F n) 4845873199050653695 = some (compare n 9007199254740991) := by
    have := order_F n 9007199254740991 h.abs (by decide)
    rw [F_safe] at this; exact this
  obtain ⟨h1, h2⟩ := h
  unfold inB leB
  rw [e1, e2]
  have a : compare (-9007199254740991) n = .lt ∨ compare (-9007199254740991) n = .eq := by
    rcases Int.lt_or_eq_of_le h1 with c | c
    · exact Or.inl (Int.compare_eq_lt.2 c)
    · right; rw [c]; simp
  have b : compare n 9007199254740991 = .lt ∨ compare n 9007199254740991 = .eq := by
    rcases Int.lt_or_eq_of_le h2 with c | c
    · exact Or.inl (Int.compare_eq_lt.2 c)
    · right; rw [c]; simp
  rcases a with a | a <;> rcases b with b | b <;> rw [a, b] <;> rfl

theorem inB_big {x : Nat} (h : Big x) : inB x = false := by
  have e1 := (order_big h (-9007199254740991) (by decide)).2
  have e2 := (order_big h 9007199254740991 (by decide)).1
  rw [F_nsafe] at e1
  rw [F_safe] at e2
  have e1' : FloatKind.f64.format.order 14069245235905429503 x = _ := e1
  have e2' : FloatKind.f64.format.order x 4845873199050653695 = _ := e2
  unfold inB leB
  rw [e1', e2']
  cases sgn x <;> rfl

theorem wholeB_frac {x : Nat} (h : Frac x) : wholeB x = false := by
  have e : (FloatKind.f64.format.order x (truncW x) == some .eq) = false := truncW_frac h
  unfold wholeB; rw [e]; rfl
theorem wholeB_m0 : wholeB (2 ^ 63) = false := by decide

theorem big_not_nan {x : Nat} (h : Big x) : ¬ IsNaN x := by have := h.1; unfold IsNaN; omega
theorem frac_not_nan {x : Nat} (h : Frac x) : ¬ IsNaN x := by have := h.1; unfold IsFin at this; unfold IsNaN; omega
theorem m0_not_nan : ¬ IsNaN (2 ^ 63) := by unfold IsNaN rung; decide

theorem other_not_nan {x : Nat} (h : Is .other x) : ¬ IsNaN x := by
  obtain ⟨_, h | h | h⟩ := h
  · exact big_not_nan h
  · exact frac_not_nan h
  · rw [h]; exact m0_not_nan

theorem mayB_other {x : Nat} (h : Is .other x) : (wholeB x && inB x) = false := by
  obtain ⟨_, h | h | h⟩ := h
  · rw [inB_big h, Bool.and_false]
  · rw [wholeB_frac h, Bool.false_and]
  · rw [h, wholeB_m0, Bool.false_and]

/-- num.May -/
theorem May_cls {c : Cl} {x : Nat} (h : Is c x) (w : World) :
    Calls Tryz.prog 84 #[.float .f64 x] w fun e w' => e = .returned (.bool (mayC c)) ∧ w = w' := by
  have hx := h.lt
  cases c with
  | nan => exact May_nan x w h.2
  | other =>
    have := May_num x w hx (other_not_nan h)
    rw [mayB_other h] at this; exact this
  | ours n =>
    obtain ⟨rfl, hs⟩ := h
    have := May_num (F n) w hx (not_nan_F n hs.abs)
    rw [wholeB_ours n hs.abs, inB_ours n hs] at this; exact this

/-- what a reckoning comes to: no number, an error, or one of our numbers -/
inductive Res where
  | nan | err (k : Int) | ok (n : Int)
def EncR (r : Res) (v : Nat) (k : Int) : Prop := match r with
  | .nan => (v < 2 ^ 64 ∧ IsNaN v) ∧ k = 0
  | .err j => v = 0 ∧ k = j
  | .ok n => (v = F n ∧ SafeN n) ∧ k = 0
def RetR (r : Res) (w : World) (e : Ending) (w' : World) : Prop := ∃ v k n, EncR r v k ∧ e = .returned (.tuple #[.float .f64 v, .int .i64 k]) ∧ w' = w.drewN n
/-- a worth, told -/
def tellC (c : Cl) : Res := match c with
  | .nan => .nan
  | .other => .err 10
  | .ours n => .ok n

theorem tell_cls {c : Cl} {x : Nat} (h : Is c x) (w : World) :
    Calls Tryz.prog 93 #[.float .f64 x] w fun e w' => ∃ v k, EncR (tellC c) v k ∧ e = .returned (.tuple #[.float .f64 v, .int .i64 k]) ∧ w = w' := by
  have m1 := fun w => May_cls h w
  cases c
  all_goals
    unfold mayC at m1
    go_enter Tryz.func93, Tryz.ntmps93
    go_wp2_with (first | (go_at_call 84; refine (m1 _).mono ?_; rintro e w' ⟨rfl, rfl⟩))
    go_ret2
  · exact ⟨x, 0, ⟨h, rfl⟩, rfl, rfl⟩
  · exact ⟨0, 10, ⟨rfl, rfl⟩, rfl, rfl⟩
  · exact ⟨x, 0, ⟨h, rfl⟩, rfl, rfl⟩
end Go.Proofs.YtablckajobefeaaGreatDoor
/-
  Less and Index of package num beside the document's own, for every two floats: walks.
-/
namespace Go.Proofs.YtablckajobefeaaGreatDoor
open Go.RowKit Fl

/-- the document's whole: of our numbers the number and true, else 0 and false -/
def wholeI (c : Cl) : Int := match c with
  | .ours n => n
  | _ => 0
def wholeC (c : Cl) : Bool := match c with
  | .ours _ => true
  | _ => false

theorem conv_run {x : Nat} {k : Int} (h : floatToIntVal .f64 x .i64 = some k) (w : World) : (convert 41 2 (.float .f64 x)).run Tryz.prog w = .ok (.int .i64 k) w :=
  run_convert_float_int w _ _ .f64 .i64 x k (by rw [Tryz.underlying41]; rfl) Tryz.underlying2 h

def SomeFloat (w : World) (e : Ending) (w' : World) : Prop := ∃ y n, e = .returned (.float .f64 y) ∧ w' = w.drewN n
def DrawnBool (b : Bool) (w : World) (e : Ending) (w' : World) : Prop := ∃ n, e = .returned (.bool b) ∧ w' = w.drewN n

def idxB (c : Cl) : Bool := match c with
  | .ours n => decide (0 ≤ n) && decide (n < 1024)
  | _ => false
def idxI (c : Cl) : Int := if idxB c then wholeI c else 0
def DrawnIdx (c : Cl) (w : World) (e : Ending) (w' : World) : Prop := ∃ n, e = .returned (.tuple #[.int .i64 (idxI c), .bool (idxB c)]) ∧ w' = w.drewN n

def lessV (x y : Nat) : Int := if FloatKind.f64.format.order x x != some .eq || FloatKind.f64.format.order y y != some .eq then -1 else if FloatKind.f64.format.order x y == some .lt then 1 else 0

theorem below_drawn (w : World) (n : Nat) : Below w.heap.size w (w.drewN n) := ⟨rfl, rfl, rfl, Nat.le_refl _, fun _ _ => rfl⟩

end Go.Proofs.YtablckajobefeaaGreatDoor
/-
  What reckoning with two floats comes to, told by what the floats are: package num's operations and the document's own: walks.
-/
namespace Go.Proofs.YtablckajobefeaaGreatDoor
open Go.RowKit Fl

/-- the class of a whole number's word -/
def clF (n : Int) : Cl := if -9007199254740991 ≤ n ∧ n ≤ 9007199254740991 then .ours n else .other
def tellN (n : Int) : Res := if -9007199254740991 ≤ n ∧ n ≤ 9007199254740991 then .ok n else .err 10
theorem is_m0 : Is .other (2 ^ 63) := ⟨by decide, Or.inr (Or.inr rfl)⟩
/-- the class of a sum, a difference, a product, a quotient of our numbers, and its word -/
def SomeNaN (w : World) (e : Ending) (w' : World) : Prop := ∃ v n, (v < 2 ^ 64 ∧ IsNaN v) ∧ e = .returned (.float .f64 v) ∧ w' = w.drewN n

def twoV (c d : Cl) : Value := if mayC c && mayC d then .tuple #[.int .i64 (wholeI c), .int .i64 (wholeI d), .bool (!wholeC c || !wholeC d), .int .i64 0] else .tuple #[.int .i64 0, .int .i64 0, .bool false, .int .i64 2]

def EncV (r : Res) (w : World) (e : Ending) (w' : World) : Prop := ∃ v k, EncR r v k ∧ e = .returned (.tuple #[.float .f64 v, .int .i64 k]) ∧ w = w'

/-- a reckoning of two of our numbers by f; an error where one is none of ours, no number where one is no number -/
def opR (f : Int → Int → Res) (c d : Cl) : Res := match c, d with
  | .other, _ => .err 2
  | _, .other => .err 2
  | .ours a, .ours b => f a b
  | _, _ => .nan

/-- one operation of two of our numbers, of any class: what it comes to -/
def Worth (op : BinOp) (f : Int → Int → Res) : Prop := ∀ a b : Int, SafeN a → SafeN b →
  (∃ c z, floatBits op .f64 (F a) (F b) = some z ∧ Is c z ∧ tellC c = f a b) ∨ (floatBits op .f64 (F a) (F b) = none ∧ f a b = .nan)

def sumR (a b : Int) : Res := tellN (a + b)
def subR (a b : Int) : Res := tellN (a - b)
def mulR (a b : Int) : Res := if a = 0 ∨ b = 0 then (if a < 0 ∨ b < 0 then .err 10 else .ok 0) else tellN (a * b)
def divR (a b : Int) : Res := if b = 0 then (if a = 0 then .nan else .err 10) else if a = 0 then (if b < 0 then .err 10 else .ok 0) else if a.tmod b ≠ 0 then .err 10 else .ok (a.tdiv b)
def remR (a b : Int) : Res := if b = 0 then .nan else if a < 0 ∧ a.tmod b = 0 then .err 10 else .ok (a.tmod b)
def negR (a : Int) : Res := if a = 0 then .err 10 else .ok (-a)

end Go.Proofs.YtablckajobefeaaGreatDoor
/-
  Texts of digits and what they are worth; floats that have grown beyond 53 bits stay there: plain lemmas.
-/
namespace Go.Proofs.YtablckajobefeaaGreatDoor
open Go.RowKit Fl Ieee

def isDig (c : UInt8) : Bool := decide (48 ≤ c.toNat) && decide (c.toNat ≤ 57)
def valD (l : List UInt8) : Nat := l.foldl (fun n c => n * 10 + (c.toNat - 48)) 0
theorem valD_snoc (l : List UInt8) (c : UInt8) : valD (l ++ [c]) = valD l * 10 + (c.toNat - 48) := by unfold valD; rw [List.foldl_append]; rfl

/-- digits behind a sign -/
def digR (neg : Bool) (l : List UInt8) : Res :=
  if l = [] ∨ l.all isDig = false then .nan
  else if 9007199254740991 < valD l then .err 10
  else if neg = true ∧ valD l = 0 then .err 10
  else .ok (if neg then -(valD l : Int) else (valD l : Int))
/-- a text without blanks at its ends -/
def bareR : List UInt8 → Res
  | [] => .ok 0
  | c :: r => if c = 45 then digR true r else if c = 43 then digR false r else digR false (c :: r)
def blanksL : List UInt8 := [9, 10, 13, 32]
def readR (l : List UInt8) : Res := bareR (Lib.trimS l blanksL)

def Acc (n v : Nat) : Prop := (n < 2 ^ 53 ∧ v = F (n : Int)) ∨ (2 ^ 53 ≤ n ∧ Big v ∧ sgn v = false ∧ v < 2 ^ 64)

theorem big_log {m : Nat} {e : Int} (he : -1074 ≤ e) (h : 2 ^ 53 * U ≤ m * 2 ^ (e + 1074).toNat) : m ≠ 0 ∧ 53 ≤ (m.log2 : Int) + e := by
  obtain ⟨k, hk⟩ : ∃ k, k = 1074 := ⟨_, rfl⟩
  rw [U_pow k hk, ← Nat.pow_add] at h
  have hp := Nat.two_pow_pos (53 + k)
  have m0 : m ≠ 0 := by intro c; rw [c, Nat.zero_mul] at h; omega
  refine ⟨m0, ?_⟩
  have hne : m * 2 ^ (e + 1074).toNat ≠ 0 := by omega
  have := (Nat.le_log2 hne).2 h
  rw [log2_scale _ _ m0] at this
  omega

theorem log2_ge {m n k : Nat} (m0 : m ≠ 0) (h : m * 2 ^ k ≤ n) : n ≠ 0 ∧ m.log2 + k ≤ n.log2 := by
  have hp := Nat.mul_pos (Nat.pos_of_ne_zero m0) (Nat.two_pow_pos k)
  refine ⟨by omega, (Nat.le_log2 (by omega)).2 (Nat.le_trans ?_ h)⟩
  rw [Nat.pow_add]
  exact Nat.mul_le_mul_right _ (Nat.log2_self_le m0)

theorem big_inf : Big (double.word false double.infRung) ∧ sgn (double.word false double.infRung) = false ∧ double.word false double.infRung < 2 ^ 64 := by
  have e4 : double.infRung = 2047 * 2 ^ 52 := by decide
  rw [e4]
  have w := word_sgn false (2047 * 2 ^ 52) (by decide)
  exact ⟨⟨by rw [w.2.1]; exact Nat.le_refl _, by rw [w.2.1]; exact ru_inf⟩, w.1, w.2.2⟩

theorem nearest_grown (mag : Nat) (place : Int) (h : mag ≠ 0) (hb : 53 ≤ place + mag.log2) : Big (double.nearest false mag place) ∧ sgn (double.nearest false mag place) = false ∧ double.nearest false mag place < 2 ^ 64 :=
  ⟨nearest_big _ _ _ h hb, (nearest_all _ _ _ h).1, double.nearest_lt _ _ _⟩

theorem big_mul {v : Nat} (hb : Big v) (hs : sgn v = false) : ∃ y, floatBits .mul .f64 v (F 10) = some y ∧ Big y ∧ sgn y = false ∧ y < 2 ^ 64 := by
  obtain ⟨j, g, _, _⟩ := read_F 10 (by decide)
  show ∃ y, double.mul v (F 10) = some y ∧ _
  unfold Format.mul
  rw [g]
  have d10 : decide ((10 : Int) < 0) = false := by decide
  rw [d10]
  rcases Nat.lt_or_eq_of_le hb.1 with c | c
  · obtain ⟨m, e, h1, h2, _, h4, _⟩ := read_fin c
    rw [h1, hs]
    obtain ⟨m0, hl⟩ := big_log h2 (by rw [h4]; exact hb.2)
    refine ⟨_, rfl, ?_⟩
    obtain ⟨n0, hn⟩ := log2_ge (n := m * ((10 : Int).natAbs * 2 ^ j)) (k := j) m0 (by
      have : m * 2 ^ j ≤ m * 2 ^ j * 10 := Nat.le_mul_of_pos_right _ (by decide)
      have e2 : m * ((10 : Int).natAbs * 2 ^ j) = m * 2 ^ j * 10 := by rw [show (10 : Int).natAbs = 10 from rfl, Nat.mul_comm 10, Nat.mul_assoc]
      rw [e2]; exact this)
    exact nearest_grown _ _ n0 (by omega)
  · rw [read_inf c, hs]
    unfold Datum.product
    have n0 : (10 : Int).natAbs * 2 ^ j ≠ 0 := by have := Nat.mul_pos (show 0 < (10 : Int).natAbs by decide) (Nat.two_pow_pos j); omega
    simp only [n0, if_false, Option.map_some]
    exact ⟨_, rfl, big_inf⟩

theorem big_add {v d : Nat} (hb : Big v) (hs : sgn v = false) (hd : d ≤ 9) : ∃ y, floatBits .add .f64 v (F (d : Int)) = some y ∧ Big y ∧ sgn y = false ∧ y < 2 ^ 64 := by
  obtain ⟨j, g, _, _⟩ := read_F (d : Int) (by omega)
  show ∃ y, double.add v (F (d : Int)) = some y ∧ _
  unfold Format.add
  rw [g]
  have dd : decide ((d : Int) < 0) = false := decide_eq_false (by omega)
  rw [dd]
  rcases Nat.lt_or_eq_of_le hb.1 with c | c
  · obtain ⟨m, e, h1, h2, _, h4, _⟩ := read_fin c
    rw [h1, hs]
    obtain ⟨m0, hl⟩ := big_log h2 (by rw [h4]; exact hb.2)
    unfold Datum.sum
    simp only [Option.map_some]
    obtain ⟨T, hT⟩ : ∃ T : Nat, (signed false m (e - min e (-(j : Int))).toNat + signed false ((d : Int).natAbs * 2 ^ j) (-(j : Int) - min e (-(j : Int))).toNat) = (T : Int) ∧ m * 2 ^ (e - min e (-(j : Int))).toNat ≤ T := by
      rw [signed_eq, signed_eq]
      simp only [Bool.false_eq_true, if_false]
      exact ⟨m * 2 ^ (e - min e (-(j : Int))).toNat + (d : Int).natAbs * 2 ^ j * 2 ^ (-(j : Int) - min e (-(j : Int))).toNat, by omega, by omega⟩
    rw [hT.1]
    obtain ⟨n0, hn⟩ := log2_ge m0 hT.2
    have t0 : ¬ ((T : Int) = 0) := by omega
    have t1 : decide ((T : Int) < 0) = false := decide_eq_false (by omega)
    simp only [t0, if_false, t1, Int.natAbs_natCast]
    exact ⟨_, rfl, nearest_grown _ _ n0 (by omega)⟩
  · rw [read_inf c, hs]
    exact ⟨_, rfl, big_inf⟩

theorem F_grown (n : Nat) (h : 2 ^ 53 ≤ n) : Big (F (n : Int)) ∧ sgn (F (n : Int)) = false ∧ F (n : Int) < 2 ^ 64 :=
  ⟨F_big _ (by omega), by rw [sgn_F]; exact decide_eq_false (by omega), F_lt _⟩

theorem acc_step {n v d : Nat} (h : Acc n v) (hd : d ≤ 9) : ∃ v1 v2, floatBits .mul .f64 v (F 10) = some v1 ∧ floatBits .add .f64 v1 (F (d : Int)) = some v2 ∧ Acc (n * 10 + d) v2 := by
  rcases h with ⟨h1, rfl⟩ | ⟨h1, h2, h3, h4⟩
  · have hm : floatBits .mul .f64 (F (n : Int)) (F 10) = some (F ((n * 10 : Nat) : Int)) := by
      have := mul_F (n : Int) 10 (by omega) (by decide)
      refine (show floatBits .mul .f64 (F (n : Int)) (F 10) = _ from this).trans ?_
      by_cases z : n = 0
      · subst z; decide
      · rw [if_neg (by omega)]; congr 2
    by_cases c : n * 10 < 2 ^ 53
    · refine ⟨_, _, hm, add_F _ _ (by omega) (by omega), ?_⟩
      have e : ((n * 10 : Nat) : Int) + (d : Int) = ((n * 10 + d : Nat) : Int) := by omega
      rw [e]
      by_cases c2 : n * 10 + d < 2 ^ 53
      · exact Or.inl ⟨c2, rfl⟩
      · obtain ⟨b1, b2, b3⟩ := F_grown (n * 10 + d) (by omega)
        exact Or.inr ⟨by omega, b1, b2, b3⟩
    · obtain ⟨b1, b2, b3⟩ := F_grown (n * 10) (by omega)
      obtain ⟨y, hy, y1, y2, y3⟩ := big_add (d := d) b1 b2 hd
      exact ⟨_, y, hm, hy, Or.inr ⟨by omega, y1, y2, y3⟩⟩
  · obtain ⟨y, hy, y1, y2, y3⟩ := big_mul h2 h3
    obtain ⟨z, hz, z1, z2, z3⟩ := big_add (d := d) y1 y2 hd
    exact ⟨y, z, hy, hz, Or.inr ⟨by omega, z1, z2, z3⟩⟩

theorem take_snoc (s : ByteArray) (k : Nat) (h : k < s.size) : s.data.toList.take (k + 1) = s.data.toList.take k ++ [s[k]] := by
  rw [List.take_succ_eq_append_getElem (by simpa using h)]; rfl

/-- a worth behind a sign, told -/
theorem acc_cls {l : List UInt8} {v : Nat} (neg : Bool) (hl : ¬ (l = [] ∨ l.all isDig = false)) (h : Acc (valD l) v) :
    ∃ c, Is c (if neg then Op.negFloat .f64 v else v) ∧ tellC c = digR neg l := by
  unfold digR
  rw [if_neg hl]
  have negW : ∀ x, x < 2 ^ 64 → sgn x = false → Big x → Is .other (Op.negFloat .f64 x) := by
    intro x hx hs hb
    have e : Op.negFloat .f64 x = if x < 2 ^ 63 then x + 2 ^ 63 else x - 2 ^ 63 := neg_word x hx
    rw [e]
    have hr : rung (if x < 2 ^ 63 then x + 2 ^ 63 else x - 2 ^ 63) = rung x := by unfold rung; split <;> omega
    refine ⟨by split <;> omega, Or.inl ?_⟩
    unfold Big; rw [hr]; exact hb
  rcases h with ⟨h1, rfl⟩ | ⟨h1, h2, h3, h4⟩
  · by_cases big : 9007199254740991 < valD l
    · exfalso; omega
    · rw [if_neg big]
      cases neg
      · simp only [Bool.false_eq_true, if_false, false_and]
        exact ⟨.ours _, ⟨rfl, by unfold SafeN; omega⟩, rfl⟩
      · simp only [if_true, true_and]
        by_cases z : valD l = 0
        · rw [if_pos z, z]
          refine ⟨.other, ?_, rfl⟩
          have : Op.negFloat .f64 (F ((0 : Nat) : Int)) = 2 ^ 63 := by decide
          rw [this]; exact is_m0
        · rw [if_neg z]
          exact ⟨.ours _, ⟨neg_F _ (by omega) (by omega), by unfold SafeN; omega⟩, rfl⟩
  · have hbig : 9007199254740991 < valD l := by omega
    rw [if_pos hbig]
    cases neg
    · simp only [Bool.false_eq_true, if_false]
      exact ⟨.other, ⟨h4, Or.inl h2⟩, rfl⟩
    · simp only [if_true]
      exact ⟨.other, negW v h4 h3 h2, rfl⟩
end Go.Proofs.YtablckajobefeaaGreatDoor
/-
  The document's own reckoning, and package num's Neg, told by what the floats are: walks.
-/
namespace Go.Proofs.YtablckajobefeaaGreatDoor
open Go.RowKit Fl

@[go_sem] theorem unary_negf (k : FloatKind) (b : Nat) : Op.unary .neg (.float k b) = pure (.float k (Op.negFloat k b)) := rfl

theorem neg_nan {x : Nat} (hx : x < 2 ^ 64) (h : IsNaN x) : x ^^^ 2 ^ 63 < 2 ^ 64 ∧ IsNaN (x ^^^ 2 ^ 63) := by
  rw [neg_word x hx]
  unfold IsNaN rung at *
  split <;> omega

def negC (c : Cl) : Res := match c with
  | .nan => .nan
  | .other => .err 2
  | .ours a => negR a

end Go.Proofs.YtablckajobefeaaGreatDoor
/-
  math.Mod at our numbers: what is left of a behind b times the whole quotient; no number where one is none or b is 0: walks.
-/
namespace Go.Proofs.YtablckajobefeaaGreatDoor
open Go.RowKit Fl

theorem run_Float64frombits (x : Nat) (w : World) : (callFunc 150 #[.int .u64 (x : Int)]).run Tryz.prog w = .ok (.value (.float .f64 x)) w := by
  rw [run_callFunc_extern Tryz.func150 (by kernel_rfl) (by kernel_rfl) (by kernel_rfl) (e := Extern.MathFloatBits.float64frombits) (by kernel_rfl)]
  rfl

/-- the fraction that Frexp gives -/
def frW (n : Nat) : Nat := 1022 * 2 ^ 52 + (n * 2 ^ (52 - n.log2) - 2 ^ 52)

/-- the leading digits of a number, 53 of them -/
def lead (n : Nat) : Nat := n * 2 ^ (52 - n.log2)

def wordOf (v : Value) : Nat := match v with | .float _ x => x | _ => 0

end Go.Proofs.YtablckajobefeaaGreatDoor
/-
  Rem of package num, and NumSums: every operation of two floats beside the document's own: walks.
-/
namespace Go.Proofs.YtablckajobefeaaGreatDoor
open Go.RowKit Fl

theorem NaN_any (w : World) : Calls Tryz.prog 126 #[] w fun e w' => e = .returned (.float .f64 9221120237041090561) ∧ w = w' := by
  have hf : ∀ w, (callFunc 150 #[.int .u64 9221120237041090561]).run Tryz.prog w = .ok (.value (.float .f64 9221120237041090561)) w := fun w => run_Float64frombits 9221120237041090561 w
  go_enter Tryz.func126, Tryz.ntmps126
  go_wp2
  go_ret
  exact ⟨rfl, rfl⟩
theorem is_uvnan : Is .nan 9221120237041090561 := ⟨by decide, by unfold IsNaN rung; decide⟩

def nanC (c : Cl) : Bool := match c with | .nan => true | _ => false
def DrawnTrue (w : World) (e : Ending) (w' : World) : Prop := ∃ n, e = .returned (.bool true) ∧ w' = w.drewN n

end Go.Proofs.YtablckajobefeaaGreatDoor
/-
  DERIVED: THE SHELF's CONTRACTS AT THIS DUMP, IN PLAIN WORDS (tools/lay-plain.mjs out of 'YtablckajobefeaaGreatDoorShelfTry.lean', which tools/lay-shelf.mjs wrote): THE SAME DECLARATIONS UNDER THE SAME NAMES: 'import', 'namespace', 'open', 'def', 'theorem' AND NOTHING ELSE: no command of the shelf's: FOR A HAND-IN. Each laying: the table of numbers ('.._ren') and one theorem, a field a fact of the dump's own or the kernel's comparison; each contract: ONE APPLICATION.
-/
namespace Go.Proofs
open Go.Shelf
def Tryz.lays160_ren : Go.Shelf.Ren := ⟨fun | 160 => 91 | 232 => 120 | 231 => 119 | 227 => 121 | 234 => 123 | 233 => 122 | 236 => 125 | 235 => 124 | 228 => 146 | 271 => 149 | 151 => 148 | 197 => 147 | 120 => 171 | 152 => 170 | 260 => 169 | 137 => 181 | 119 => 182 | 224 => 183 | 225 => 184 | 217 => 186 | 266 => 188 | n => n, fun | 9 => 9 | 4 => 4 | 3 => 3 | 5 => 5 | 117 => 140 | 116 => 139 | 0 => 0 | 124 => 143 | 21 => 21 | 105 => 157 | 46 => 136 | 119 => 173 | 139 => 176 | 138 => 175 | n => n, fun | 3 => 3 | 4 => 4 | n => n⟩
theorem Tryz.lays160 : Go.Proofs.Lays.n160 Tryz.prog Tryz.lays160_ren := {
  mixed := by kernel_rfl
  f119 := Tryz.func182.trans (congrArg some (by kernel_rfl))
  f120 := Tryz.func171.trans (congrArg some (by kernel_rfl))
  f137 := Tryz.func181.trans (congrArg some (by kernel_rfl))
  f151 := Tryz.func148.trans (congrArg some (by kernel_rfl))
  f152 := Tryz.func170.trans (congrArg some (by kernel_rfl))
  f160 := Tryz.func91.trans (congrArg some (by kernel_rfl))
  f197 := Tryz.func147.trans (congrArg some (by kernel_rfl))
  f217 := Tryz.func186.trans (congrArg some (by kernel_rfl))
  f224 := Tryz.func183.trans (congrArg some (by kernel_rfl))
  f225 := Tryz.func184.trans (congrArg some (by kernel_rfl))
  f227 := Tryz.func121.trans (congrArg some (by kernel_rfl))
  f228 := Tryz.func146.trans (congrArg some (by kernel_rfl))
  f231 := Tryz.func119.trans (congrArg some (by kernel_rfl))
  f232 := Tryz.func120.trans (congrArg some (by kernel_rfl))
  f233 := Tryz.func122.trans (congrArg some (by kernel_rfl))
  f234 := Tryz.func123.trans (congrArg some (by kernel_rfl))
  f235 := Tryz.func124.trans (congrArg some (by kernel_rfl))
  f236 := Tryz.func125.trans (congrArg some (by kernel_rfl))
  f260 := Tryz.func169.trans (congrArg some (by kernel_rfl))
  f266 := Tryz.func188.trans (congrArg some (by kernel_rfl))
  f271 := Tryz.func149.trans (congrArg some (by kernel_rfl))
  t0 := Tryz.underlying0
  a0 := Tryz.isAgg0
  z0 := Tryz.sizeOf0
  v0 := Tryz.zeroValue0
  t3 := Tryz.underlying3
  a3 := Tryz.isAgg3
  z3 := Tryz.sizeOf3
  v3 := Tryz.zeroValue3
  t4 := Tryz.underlying4
  a4 := Tryz.isAgg4
  z4 := Tryz.sizeOf4
  v4 := Tryz.zeroValue4
  t5 := Tryz.underlying5
  a5 := Tryz.isAgg5
  z5 := Tryz.sizeOf5
  v5 := Tryz.zeroValue5
  t9 := Tryz.underlying9
  a9 := Tryz.isAgg9
  z9 := Tryz.sizeOf9
  v9 := Tryz.zeroValue9
  t21 := Tryz.underlying21
  a21 := Tryz.isAgg21
  z21 := Tryz.sizeOf21
  v21 := Tryz.zeroValue21
  t46 := Tryz.underlying136
  a46 := Tryz.isAgg136
  z46 := Tryz.sizeOf136
  v46 := Tryz.zeroValue136
  t105 := Tryz.underlying157
  a105 := Tryz.isAgg157
  z105 := Tryz.sizeOf157
  v105 := Tryz.zeroValue157
  t116 := Tryz.underlying139
  a116 := Tryz.isAgg139
  z116 := Tryz.sizeOf139
  t117 := Tryz.underlying140
  a117 := Tryz.isAgg140
  z117 := Tryz.sizeOf140
  v117 := Tryz.zeroValue140
  t119 := Tryz.underlying173
  a119 := Tryz.isAgg173
  z119 := Tryz.sizeOf173
  t124 := Tryz.underlying143
  a124 := Tryz.isAgg143
  z124 := Tryz.sizeOf143
  v124 := Tryz.zeroValue143
  t138 := Tryz.underlying175
  a138 := Tryz.isAgg175
  z138 := Tryz.sizeOf175
  v138 := Tryz.zeroValue175
  t139 := Tryz.underlying176
  a139 := Tryz.isAgg176
  z139 := Tryz.sizeOf176
  v139 := Tryz.zeroValue176
  g3 := by kernel_rfl
  g4 := by kernel_rfl }
open Go.RowKit in
def Tryz.laysM173_ren : Go.Shelf.Ren := ⟨fun | 173 => 88 | 246 => 116 | 283 => 141 | 284 => 142 | 285 => 143 | 286 => 144 | 129 => 165 | 317 => 164 | 318 => 166 | 319 => 167 | 320 => 168 | 337 => 179 | 338 => 180 | n => n, fun | 2 => 2 | 3 => 3 | 9 => 9 | 4 => 4 | 171 => 150 | 0 => 0 | 53 => 151 | 37 => 23 | 5 => 5 | 173 => 154 | 212 => 166 | 51 => 167 | 20 => 20 | 213 => 168 | 46 => 136 | 232 => 181 | 233 => 182 | n => n, fun | 17 => 1 | 18 => 5 | 19 => 6 | n => n⟩
theorem Tryz.laysM173 : Go.Proofs.LaysM.n173 Tryz.prog Tryz.laysM173_ren := {
  mixed := by kernel_rfl
  f129 := Tryz.func165.trans (congrArg some (by kernel_rfl))
  f173 := Tryz.func88.trans (congrArg some (by kernel_rfl))
  f246 := Tryz.func116.trans (congrArg some (by kernel_rfl))
  f283 := Tryz.func141.trans (congrArg some (by kernel_rfl))
  f284 := Tryz.func142.trans (congrArg some (by kernel_rfl))
  f285 := Tryz.func143.trans (congrArg some (by kernel_rfl))
  f286 := Tryz.func144.trans (congrArg some (by kernel_rfl))
  f317 := Tryz.func164.trans (congrArg some (by kernel_rfl))
  f318 := Tryz.func166.trans (congrArg some (by kernel_rfl))
  f319 := Tryz.func167.trans (congrArg some (by kernel_rfl))
  f320 := Tryz.func168.trans (congrArg some (by kernel_rfl))
  f337 := Tryz.func179.trans (congrArg some (by kernel_rfl))
  f338 := Tryz.func180.trans (congrArg some (by kernel_rfl))
  t0 := Tryz.underlying0
  a0 := Tryz.isAgg0
  z0 := Tryz.sizeOf0
  v0 := Tryz.zeroValue0
  t2 := Tryz.underlying2
  a2 := Tryz.isAgg2
  z2 := Tryz.sizeOf2
  v2 := Tryz.zeroValue2
  t3 := Tryz.underlying3
  a3 := Tryz.isAgg3
  z3 := Tryz.sizeOf3
  v3 := Tryz.zeroValue3
  t4 := Tryz.underlying4
  a4 := Tryz.isAgg4
  z4 := Tryz.sizeOf4
  v4 := Tryz.zeroValue4
  t5 := Tryz.underlying5
  a5 := Tryz.isAgg5
  z5 := Tryz.sizeOf5
  v5 := Tryz.zeroValue5
  t9 := Tryz.underlying9
  a9 := Tryz.isAgg9
  z9 := Tryz.sizeOf9
  v9 := Tryz.zeroValue9
  t20 := Tryz.underlying20
  a20 := Tryz.isAgg20
  z20 := Tryz.sizeOf20
  v20 := Tryz.zeroValue20
  t37 := Tryz.underlying23
  a37 := Tryz.isAgg23
  z37 := Tryz.sizeOf23
  v37 := Tryz.zeroValue23
  t46 := Tryz.underlying136
  a46 := Tryz.isAgg136
  z46 := Tryz.sizeOf136
  v46 := Tryz.zeroValue136
  t51 := Tryz.underlying167
  a51 := Tryz.isAgg167
  z51 := Tryz.sizeOf167
  v51 := Tryz.zeroValue167
  t53 := Tryz.underlying151
  a53 := Tryz.isAgg151
  z53 := Tryz.sizeOf151
  v53 := Tryz.zeroValue151
  t171 := Tryz.underlying150
  a171 := Tryz.isAgg150
  z171 := Tryz.sizeOf150
  v171 := Tryz.zeroValue150
  t173 := Tryz.underlying154
  a173 := Tryz.isAgg154
  z173 := Tryz.sizeOf154
  v173 := Tryz.zeroValue154
  t212 := Tryz.underlying166
  a212 := Tryz.isAgg166
  z212 := Tryz.sizeOf166
  v212 := Tryz.zeroValue166
  t213 := Tryz.underlying168
  a213 := Tryz.isAgg168
  z213 := Tryz.sizeOf168
  t232 := Tryz.underlying181
  a232 := Tryz.isAgg181
  z232 := Tryz.sizeOf181
  v232 := Tryz.zeroValue181
  t233 := Tryz.underlying182
  a233 := Tryz.isAgg182
  z233 := Tryz.sizeOf182
  v233 := Tryz.zeroValue182
  g17 := by kernel_rfl
  g18 := by kernel_rfl
  g19 := by kernel_rfl
  i0 := by kernel_rfl
  i2 := by kernel_rfl
  i3 := by kernel_rfl
  i4 := by kernel_rfl
  i5 := by kernel_rfl
  i9 := by kernel_rfl
  i20 := by kernel_rfl
  i37 := by kernel_rfl
  i46 := by kernel_rfl
  i51 := by kernel_rfl
  i53 := by kernel_rfl
  i171 := by kernel_rfl
  i173 := by kernel_rfl
  i212 := by kernel_rfl
  i232 := by kernel_rfl
  i233 := by kernel_rfl
  m17 := by kernel_rfl
  m18 := by kernel_rfl
  m19 := by kernel_rfl }
open Go.RowKit Go.Sort Go.Lib in
/-- strconv.FormatInt at base 10, for every int64. -/
theorem Tryz.strconv_FormatInt_10 (n : Int) (h0 : -9223372036854775808 ≤ n) (h1 : n ≤ 9223372036854775807) (w : World) (htab : Lib.TabIs Tryz.prog w "internal/strconv.uint64pow10" .u64 Lib.pow10Tab) :
    Calls Tryz.prog 88 #[.int .i64 n, .int .i64 10] w fun e w' => e = .returned (.string ⟨(Lib.itoa n).toArray⟩) ∧ ∃ k os, w' = grow (w.drewN k) os := Any.strconv_FormatInt_10 Tryz.laysM173 n h0 h1 w htab
end Go.Proofs
/-
  Read of package num: what a text is worth, for every text: walks.
-/
namespace Go.Proofs.YtablckajobefeaaGreatDoor
open Go.RowKit Fl

theorem F_10 : F 10 = 4621819117588971520 := by decide

/-- what 'digits' gives -/
def DigW (l : List UInt8) (x : Nat) : Prop := if l = [] ∨ l.all isDig = false then Is .nan x else Acc (valD l) x
def RetDig (l : List UInt8) (w : World) (e : Ending) (w' : World) : Prop := ∃ x, DigW l x ∧ e = .returned (.float .f64 x) ∧ w = w'

theorem all_take_snoc (s : ByteArray) (k : Nat) (h : k < s.size) : (s.data.toList.take (k + 1)).all isDig = ((s.data.toList.take k).all isDig && isDig s[k]) := by
  rw [take_snoc s k h, List.all_append]; simp

theorem not_all (s : ByteArray) (k : Nat) (h : k < s.size) (hd : isDig s[k] = false) : s.data.toList.all isDig = false := by
  rw [List.all_eq_false]
  exact ⟨s[k], by simp [ByteArray.getElem_eq_getElem_data], by simp [hd]⟩

theorem acc_zero : Acc (valD []) 0 := Or.inl ⟨by decide, by decide⟩

theorem toList_data (s : ByteArray) : s.toList = s.data.toList := Go.ByteArray.toList_eq s

theorem isDig_iff (c : UInt8) : isDig c = true ↔ 48 ≤ c.toNat ∧ c.toNat ≤ 57 := by unfold isDig; simp
theorem isDig_no (c : UInt8) (h : c.toNat < 48 ∨ 57 < c.toNat) : isDig c = false := by
  unfold isDig; rcases h with h | h
  · rw [decide_eq_false (by omega)]; rfl
  · rw [decide_eq_false (p := c.toNat ≤ 57) (by omega), Bool.and_false]

set_option maxHeartbeats 400000 in
theorem digits_any (s : ByteArray) (w : World) (hs : s.size ≤ maxLen) : Calls Tryz.prog 92 #[.string s] w (RetDig s.data.toList w) := by
  unfold maxLen at hs
  by_cases h0 : s.data.toList = []
  · have hz : s.toList = [] := (toList_data s).trans h0
    have hd : DigW s.data.toList 9221120237041090561 := by unfold DigW; rw [if_pos (Or.inl h0)]; exact is_uvnan
    have HD := Lib.hid hd
    clear hd h0
    go_enter Tryz.func92, Tryz.ntmps92
    go_wp2_with (go_at_call 126; refine (NaN_any _).mono ?_; rintro e w' ⟨rfl, rfl⟩)
    go_ret
    exact ⟨_, HD.out, rfl, rfl⟩
  · have hz : s.toList.isEmpty = false := by rw [toList_data]; simpa using h0
    have H0 := Lib.hid h0
    clear h0
    go_enter Tryz.func92, Tryz.ntmps92
    go_wp2_with (fail)
    clear hz
    go_loop [3, 4] (fun x i => ∃ (k v : Nat), k ≤ s.size ∧ i = .int .i64 k ∧ x = .float .f64 v ∧ Acc (valD (s.data.toList.take k)) v ∧ (s.data.toList.take k).all isDig = true) (fun _ i => s.size - (intOf i).toNat)
    case atStart => exact ⟨0, 0, Nat.zero_le _, rfl, rfl, by rw [List.take_zero]; exact acc_zero, by rw [List.take_zero]; rfl⟩
    case round =>
      obtain ⟨k, v, hk, rfl, rfl, hacc, hall⟩ := hrel
      by_cases hlt : k < s.size
      · obtain ⟨c, hc⟩ : ∃ c, c = s[k] := ⟨_, rfl⟩
        have hsn := Lib.hid (take_snoc s k hlt)
        have hc255 : c.toNat < 256 := c.toNat_lt
        by_cases h1 : c.toNat < 48
        · have hna := Lib.hid (not_all s k hlt (isDig_no _ (Or.inl (by rw [← hc]; exact h1))))
          have h1' : ((s[k].toNat : Nat) : Int) < 48 := by rw [← hc]; omega
          clear hacc hall hsn h1 hc
          go_wp2_with (go_at_call 126; refine (NaN_any _).mono ?_; rintro e w' ⟨rfl, rfl⟩)
          go_ret
          exact ⟨_, by unfold DigW; rw [if_pos (Or.inr hna.out)]; exact is_uvnan, rfl, rfl⟩
        · by_cases h2 : 57 < c.toNat
          · have hna := Lib.hid (not_all s k hlt (isDig_no _ (Or.inr (by rw [← hc]; exact h2))))
            have h1' : ¬ ((s[k].toNat : Nat) : Int) < 48 := by rw [← hc]; omega
            have h2' : 57 < ((s[k].toNat : Nat) : Int) := by rw [← hc]; omega
            clear hacc hall hsn h1 h2 hc
            go_wp2_with (go_at_call 126; refine (NaN_any _).mono ?_; rintro e w' ⟨rfl, rfl⟩)
            go_ret
            exact ⟨_, by unfold DigW; rw [if_pos (Or.inr hna.out)]; exact is_uvnan, rfl, rfl⟩
          · obtain ⟨v1, v2, hm, ha, hacc2⟩ := acc_step hacc (show c.toNat - 48 ≤ 9 by omega)
            have hall2 : (s.data.toList.take (k + 1)).all isDig = true := by
              rw [all_take_snoc s k hlt, hall, Bool.true_and]
              exact (isDig_iff _).2 (by rw [← hc]; omega)
            have hval : valD (s.data.toList.take (k + 1)) = valD (s.data.toList.take k) * 10 + (c.toNat - 48) := by rw [hsn.out, valD_snoc, ← hc]
            have HV := Lib.hid hval
            have HA2 := Lib.hid hall2
            have HAC := Lib.hid hacc2
            rw [F_10] at hm
            have e1 : ((c.toNat - 48 : Nat) : Int) = ((s[k].toNat : Nat) : Int) - 48 := by rw [← hc]; omega
            rw [e1] at ha
            have hm' := fun w => run_float_arith (P := Tryz.prog) w .mul 41 .f64 _ _ _ hm
            have ha' := fun w => run_float_arith (P := Tryz.prog) w .add 41 .f64 _ _ _ ha
            have h1' : ¬ ((s[k].toNat : Nat) : Int) < 48 := by rw [← hc]; omega
            have h2' : ¬ 57 < ((s[k].toNat : Nat) : Int) := by rw [← hc]; omega
            clear hacc hall hsn h1 h2 hm ha e1 hval hall2 hacc2 hc
            go_wp2
            go_round
            case rel => exact ⟨k + 1, v2, by omega, by go_num, rfl, by rw [HV.out]; exact HAC.out, HA2.out⟩
            case measure => simp [intOf]; omega
      · have he : s.data.toList.take k = s.data.toList := List.take_of_length_le (by simp; omega)
        rw [he] at hacc hall
        have HD : Hid (DigW s.data.toList v) := Lib.hid (by unfold DigW; rw [if_neg (by intro h; rcases h with h | h; exact H0.out h; rw [hall] at h; cases h)]; exact hacc)
        clear hacc hall he
        go_wp2
        go_ret
        exact ⟨v, HD.out, rfl, rfl⟩

theorem extract_tail (t : ByteArray) (c : UInt8) (r : List UInt8) (h : t.data.toList = c :: r) : (t.extract 1 t.size).data.toList = r := by
  have hsz : t.size = r.length + 1 := by
    have : t.size = t.data.toList.length := by simp
    rw [this, h]; rfl
  rw [ByteArray.data_extract, Array.toList_extract, h]
  simp [hsz]

theorem digW_cls {l : List UInt8} {x : Nat} (h : DigW l x) (neg : Bool) : ∃ c, Is c (if neg then Op.negFloat .f64 x else x) ∧ tellC c = digR neg l := by
  unfold DigW at h
  by_cases hl : l = [] ∨ l.all isDig = false
  · rw [if_pos hl] at h
    refine ⟨.nan, ?_, by unfold digR; rw [if_pos hl]; rfl⟩
    cases neg
    · exact h
    · exact neg_nan h.1 h.2
  · rw [if_neg hl] at h
    exact acc_cls neg hl h

def RetRead (r : Res) (w : World) (e : Ending) (w' : World) : Prop := ∃ v k, EncR r v k ∧ e = .returned (.tuple #[.float .f64 v, .int .i64 k]) ∧ Below w.heap.size w w'

theorem Trim_blanks (s : ByteArray) (w : World) (hs : s.size ≤ maxLen) :
    Calls Tryz.prog 91 #[.string s, .string ⟨#[9, 10, 13, 32]⟩] w fun e w' => ∃ t : ByteArray, t.data.toList = Lib.trimS s.data.toList blanksL ∧ e = .returned (.string t) ∧ Below w.heap.size w w' := by
  have h := Any.strings_Trim_laid Tryz.lays160 (by kernel_rfl) s ⟨#[9, 10, 13, 32]⟩ w (by unfold maxLen at hs; omega) (by decide) (ascii_of_all (by decide))
  change Calls Tryz.prog 91 _ _ _ at h
  exact h.mono fun e w' ⟨he, hb⟩ => ⟨_, rfl, he, hb⟩

theorem trim_length (l cs : List UInt8) : (Lib.trimS l cs).length ≤ l.length := by
  unfold Lib.trimS Lib.trimLeftS Lib.trimRightS
  refine Nat.le_trans (List.dropWhile_suffix _).length_le ?_
  rw [List.length_reverse]
  refine Nat.le_trans (List.dropWhile_suffix _).length_le ?_
  rw [List.length_reverse]; exact Nat.le_refl _

def TrimTo (s : ByteArray) (w : World) (e : Ending) (w' : World) : Prop := ∃ t : ByteArray, t.data.toList = Lib.trimS s.data.toList blanksL ∧ e = .returned (.string t) ∧ Below w.heap.size w w'

theorem bareR_cons (c : UInt8) (r : List UInt8) : bareR (c :: r) = if c = 45 then digR true r else if c = 43 then digR false r else digR false (c :: r) := rfl

theorem size_len (t : ByteArray) : t.size = t.data.toList.length := by simp

set_option maxHeartbeats 400000 in
theorem Read_any (s : ByteArray) (w : World) (hs : s.size ≤ maxLen) : Calls Tryz.prog 64 #[.string s] w (RetRead (readR s.data.toList) w) := by
  have ht : Calls Tryz.prog 91 #[.string s, .string ⟨#[9, 10, 13, 32]⟩] w (TrimTo s w) := Trim_blanks s w hs
  unfold readR
  have hlen := trim_length s.data.toList blanksL
  rw [← size_len] at hlen
  cases hb : Lib.trimS s.data.toList blanksL with
  | nil =>
    have HB := Lib.hid hb
    clear hb
    go_enter Tryz.func64, Tryz.ntmps64
    go_wp2_with (go_at_call 91; refine ht.mono ?_; rintro e w' ⟨t, h1, rfl, h2⟩; have hz : t.toList = [] := ((toList_data t).trans h1).trans HB.out; clear h1; have H2 := Lib.hid h2; clear h2)
    go_ret2
    exact ⟨_, _, ⟨⟨F_zero.symm, by unfold SafeN; omega⟩, rfl⟩, rfl, H2.out⟩
  | cons c r =>
    have hr0 : (c :: r).length ≤ s.size := by rw [← hb]; exact hlen
    have HB := Lib.hid hb
    clear hb hlen
    have key : ∀ t : ByteArray, t.data.toList = c :: r → 0 < t.size ∧ t.size ≤ maxLen ∧ t.toList.isEmpty = false ∧ (∀ h : 0 < t.size, t[0] = c) ∧ (t.extract 1 t.size).data.toList = r ∧ (t.extract 1 t.size).size ≤ maxLen := by
      intro t ht
      have h1 : t.size = r.length + 1 := by rw [size_len, ht]; rfl
      have h2 : (t.extract 1 t.size).data.toList = r := extract_tail t c r ht
      have h3 : (t.extract 1 t.size).size = r.length := by rw [size_len, h2]
      rw [List.length_cons] at hr0
      refine ⟨by omega, by omega, by rw [toList_data, ht]; rfl, fun h => ?_, h2, by omega⟩
      have : t[0] = t.data.toList[0]'(by rw [← size_len]; exact h) := by simp [ByteArray.getElem_eq_getElem_data]
      rw [this]; simp [ht]
    have KEY := Lib.hid key
    clear key
    rw [bareR_cons]
    by_cases c1 : c = 45
    · rw [if_pos c1]
      go_enter Tryz.func64, Tryz.ntmps64
      go_wp2_with (first
        | (go_at_call 91; refine ht.mono ?_; rintro e w' ⟨t, h1, rfl, h2⟩; obtain ⟨k1, k2, k3, k4, k5, k6⟩ := KEY.out t (h1.trans HB.out)
           have k7 : (t[0].toNat : Int) = 45 := by rw [k4 k1, c1]; rfl
           have k8 := fun w => digits_any (t.extract 1 t.size) w k6; rw [k5] at k8
           clear k4 k5 k6 h1; have H2 := Lib.hid h2; clear h2)
        | (go_at_call 92; refine (k8 _).mono ?_; rintro e w' ⟨x, hx, rfl, rfl⟩; obtain ⟨cx, hcx0, htl⟩ := digW_cls hx true; have hcx : Is cx (Op.negFloat .f64 x) := hcx0; have HT := Lib.hid htl; clear htl hx hcx0)
        | (go_at_call 93; refine (tell_cls hcx _).mono ?_; rintro e w' ⟨v, j, hj, rfl, rfl⟩))
      go_ret2
      exact ⟨v, j, by rw [← HT.out]; exact hj, rfl, H2.out⟩
    · rw [if_neg c1]
      have n1 : c.toNat ≠ 45 := fun h => c1 (UInt8.toNat_inj.1 h)
      by_cases c2 : c = 43
      · rw [if_pos c2]
        go_enter Tryz.func64, Tryz.ntmps64
        go_wp2_with (first
          | (go_at_call 91; refine ht.mono ?_; rintro e w' ⟨t, h1, rfl, h2⟩; obtain ⟨k1, k2, k3, k4, k5, k6⟩ := KEY.out t (h1.trans HB.out)
             have k7 : (t[0].toNat : Int) = 43 := by rw [k4 k1, c2]; rfl
             have k8 := fun w => digits_any (t.extract 1 t.size) w k6; rw [k5] at k8
             clear k4 k5 k6 h1; have H2 := Lib.hid h2; clear h2)
          | (go_at_call 92; refine (k8 _).mono ?_; rintro e w' ⟨x, hx, rfl, rfl⟩; obtain ⟨cx, hcx0, htl⟩ := digW_cls hx false; have hcx : Is cx x := hcx0; have HT := Lib.hid htl; clear htl hx hcx0)
          | (go_at_call 93; refine (tell_cls hcx _).mono ?_; rintro e w' ⟨v, j, hj, rfl, rfl⟩))
        go_ret2
        exact ⟨v, j, by rw [← HT.out]; exact hj, rfl, H2.out⟩
      · rw [if_neg c2]
        have n2 : c.toNat ≠ 43 := fun h => c2 (UInt8.toNat_inj.1 h)
        go_enter Tryz.func64, Tryz.ntmps64
        go_wp2_with (first
          | (go_at_call 91; refine ht.mono ?_; rintro e w' ⟨t, h1, rfl, h2⟩; obtain ⟨k1, k2, k3, k4, k5, k6⟩ := KEY.out t (h1.trans HB.out)
             have k7 : ((t[0].toNat : Int) == 45) = false := by rw [k4 k1]; simp; omega
             have k9 : ((t[0].toNat : Int) == 43) = false := by rw [k4 k1]; simp; omega
             have k8 := fun w => digits_any t w k2; rw [h1.trans HB.out] at k8
             clear k4 k5 k6 h1; have H2 := Lib.hid h2; clear h2)
          | (go_at_call 92; refine (k8 _).mono ?_; rintro e w' ⟨x, hx, rfl, rfl⟩; obtain ⟨cx, hcx0, htl⟩ := digW_cls hx false; have hcx : Is cx x := hcx0; have HT := Lib.hid htl; clear htl hx hcx0)
          | (go_at_call 93; refine (tell_cls hcx _).mono ?_; rintro e w' ⟨v, j, hj, rfl, rfl⟩))
        go_ret2
        exact ⟨v, j, by rw [← HT.out]; exact hj, rfl, H2.out⟩
end Go.Proofs.YtablckajobefeaaGreatDoor
/-
  NumBack: what package num reckoned is reckoned back, for every two floats: walks.
-/

namespace Go.Proofs.YtablckajobefeaaGreatDoor
open Go.RowKit Fl

def RetOk (n : Int) (w : World) (e : Ending) (w' : World) : Prop := ∃ m, e = .returned (.tuple #[.float .f64 (F n), .int .i64 0]) ∧ w' = w.drewN m
def RetBad (w : World) (e : Ending) (w' : World) : Prop := ∃ v k m, k ≠ 0 ∧ e = .returned (.tuple #[.float .f64 v, .int .i64 k]) ∧ w' = w.drewN m
def sizeV (b : Int) : Int := (b.natAbs : Int)
def Drawn (w w' : World) : Prop := ∃ n, w' = w.drewN n

def selfO (c : Cl) : Option Ordering := match c with
  | .nan => none
  | _ => some .eq
theorem self_cls {c : Cl} {x : Nat} (h : Is c x) : FloatKind.f64.format.order x x = selfO c := by
  cases c with
  | nan => exact order_nan_l x h.2
  | other => exact order_self (other_not_nan h)
  | ours n => obtain ⟨rfl, hs⟩ := h; exact order_self (not_nan_F n hs.abs)

/-- what comes of a reckoning that tells n -/
def OkAt (x : Nat) (w : World) (e : Ending) (w' : World) : Prop := ∃ m, e = .returned (.tuple #[.float .f64 x, .int .i64 0]) ∧ w' = w.drewN m
end Go.Proofs.YtablckajobefeaaGreatDoor
