/-
  What the small functions of package num and of the document's own answer do to one float: walks, for every float.
-/
import Derived.Test.YtkmgdaagannhkaaChecked
import Derived.Test.YtkmgdaagannhkaaPT01
import Derived.WalkKit
import Derived.WalkSpells
import Derived.WalkLawsBesides
import Derived.Lib.Hide
import Derived.Deep.Draws
import Derived.Lib.SlTrimSet
import Derived.Lib.ItoaNum
import Derived.Shelf.Strings.SlTrimAscii
import Derived.Shelf.LaysM
import Derived.Shelf.Strconv.Itoa4
import Derived.Test.YtkmgdaagannhkaaProg
import Derived.Lib.AppendIntMem
namespace Go.Proofs.Ytkmgdaagannhkaa
open Go.RowKit Fl

theorem run_archTrunc (x : Nat) (w : World) (h : ¬ IsNaN x) : (callFunc 76 #[.float .f64 x]).run Try.prog w = .ok (.value (.float .f64 (truncW x))) w := by
  rw [run_callFunc_extern Try.func76 (by kernel_rfl) (by kernel_rfl) (by kernel_rfl) (e := Extern.MathFloor.toIntegral "math.archTrunc" .zero) (by kernel_rfl)]
  have e : Extern.MathFloor.toIntegral "math.archTrunc" .zero #[.float .f64 x] = pure (.float .f64 (truncW x)) := by
    show (match Ieee.double.read x with
      | .nan s t => _
      | d => (pure (.float .f64 (Ieee.double.write (d.integral .zero))) : Sem Value)) = _
    unfold truncW
    cases hd : Ieee.double.read x with
    | nan s t => exact absurd hd (by
        intro hd
        rcases Nat.lt_or_eq_of_le (Nat.le_of_not_lt h) with c | c
        · obtain ⟨m, e, h1, _⟩ := read_fin c
          rw [h1] at hd; cases hd
        · rw [read_inf c] at hd; cases hd)
    | number s m i => rfl
    | infinity s => rfl
  rw [e]; rfl

theorem run_Float64bits (x : Nat) (w : World) : (callFunc 70 #[.float .f64 x]).run Try.prog w = .ok (.value (.int .u64 x)) w := by
  rw [run_callFunc_extern Try.func70 (by kernel_rfl) (by kernel_rfl) (by kernel_rfl) (e := Extern.MathFloatBits.float64bits) (by kernel_rfl)]
  rfl

theorem none_any (x : Nat) (w : World) :
    Calls Try.prog 73 #[.float .f64 x] w fun e w' => e = .returned (.bool (FloatKind.f64.format.order x x != some .eq)) ∧ w = w' := by
  go_enter Try.func73, Try.ntmps73
  go_wp2
  go_ret
  exact ⟨rfl, rfl⟩

theorem Trunc_num (x : Nat) (w : World) (hn : ¬ IsNaN x) :
    Calls Try.prog 75 #[.float .f64 x] w fun e w' => e = .returned (.float .f64 (truncW x)) ∧ w = w' := by
  have ht := fun w => run_archTrunc x w hn
  go_enter Try.func75, Try.ntmps75
  go_wp2
  go_ret
  exact ⟨rfl, rfl⟩

theorem sgn_wrap (x : Nat) (_hx : x < 2 ^ 64) : decide (wrap64 (x : Int) < 0) = sgn x := by
  unfold sgn wrap64
  rw [Bool.eq_iff_iff, decide_eq_true_iff, beq_iff_eq]; omega

theorem ret_bool {a b : Bool} (h : a = b) : Ending.returned (.bool a) = .returned (.bool b) := by rw [h]
theorem Signbit_any (x : Nat) (w : World) (hx : x < 2 ^ 64) :
    Calls Try.prog 64 #[.float .f64 x] w fun e w' => e = .returned (.bool (sgn x)) ∧ w = w' := by
  have hb := fun w => run_Float64bits x w
  have hs : Hid (decide (wrap64 (x : Int) < 0) = sgn x) := Lib.hid (sgn_wrap x hx)
  go_enter Try.func64, Try.ntmps64
  go_wp2
  go_ret
  exact ⟨ret_bool hs.out, rfl⟩

/-- whether a float is whole and no minus nought -/
def wholeB (x : Nat) : Bool := (FloatKind.f64.format.order x (truncW x) == some .eq) && !((FloatKind.f64.format.order x 0 == some .eq) && sgn x)
def leB (x y : Nat) : Bool := FloatKind.f64.format.order x y == some .lt || FloatKind.f64.format.order x y == some .eq

theorem whole_num (x : Nat) (w : World) (hx : x < 2 ^ 64) (hn : ¬ IsNaN x) :
    Calls Try.prog 74 #[.float .f64 x] w fun e w' => e = .returned (.bool (wholeB x)) ∧ w = w' := by
  go_enter Try.func74, Try.ntmps74
  go_wp2_with (first | (go_at_call 75; refine (Trunc_num _ _ hn).mono ?_; rintro e w' ⟨rfl, rfl⟩) | (go_at_call 64; refine (Signbit_any _ _ hx).mono ?_; rintro e w' ⟨rfl, rfl⟩))
  all_goals (go_ret; exact ⟨ret_bool (by simp [wholeB, *]), rfl⟩)

def inB (x : Nat) : Bool := leB 14069245235905429503 x && leB x 4845873199050653695

theorem May_nan (x : Nat) (w : World) (hn : IsNaN x) :
    Calls Try.prog 69 #[.float .f64 x] w fun e w' => e = .returned (.bool true) ∧ w = w' := by
  have ho : FloatKind.f64.format.order x x = none := order_nan_l x hn
  go_enter Try.func69, Try.ntmps69
  go_wp2_with (first | (go_at_call 73; refine (none_any _ _).mono ?_; rintro e w' ⟨rfl, rfl⟩))
  go_ret
  exact ⟨rfl, rfl⟩

theorem May_num (x : Nat) (w : World) (hx : x < 2 ^ 64) (hn : ¬ IsNaN x) :
    Calls Try.prog 69 #[.float .f64 x] w fun e w' => e = .returned (.bool (wholeB x && inB x)) ∧ w = w' := by
  have ho : FloatKind.f64.format.order x x = some .eq := order_self hn
  cases hb : wholeB x
  all_goals
    have HB := Lib.hid hb
    clear hb
    go_enter Try.func69, Try.ntmps69
    go_wp2_with (first | (go_at_call 73; refine (none_any _ _).mono ?_; rintro e w' ⟨rfl, rfl⟩) | (go_at_call 74; refine (whole_num _ _ hx hn).mono ?_; rintro e w' ⟨rfl, rfl⟩; rw [HB.out]))
    all_goals (go_ret; exact ⟨ret_bool (by simp [inB, leB, *]), rfl⟩)

theorem F_safe : F 9007199254740991 = 4845873199050653695 := by decide
theorem F_nsafe : F (-9007199254740991) = 14069245235905429503 := by decide
def mayC (c : Cl) : Bool := match c with
  | .nan => true
  | .other => false
  | .ours _ => true

theorem wholeB_ours (n : Int) (h : n.natAbs < 2 ^ 53) : wholeB (F n) = true := by
  have e1 : FloatKind.f64.format.order (F n) (F n) = some .eq := order_self (not_nan_F n h)
  have e2 : FloatKind.f64.format.order (F n) 0 = some (compare n 0) := by
    have := order_F n 0 h (by decide)
    rw [F_zero] at this; exact this
  unfold wholeB
  rw [truncW_F n h, e1, e2, sgn_F]
  rcases Int.lt_trichotomy n 0 with c | c | c
  · rw [Int.compare_eq_lt.2 c]; simp
  · subst c; simp
  · rw [Int.compare_eq_gt.2 c]; simp

theorem inB_ours (n : Int) (h : SafeN n) : inB (F n) = true := by
  have e1 : FloatKind.f64.format.order 14069245235905429503 (F n) = some (compare (-9007199254740991) n) := by
    have := order_F (-9007199254740991) n (by decide) h.abs
    rw [F_nsafe] at this; exact this
  have e2 : FloatKind.f64.format.order (F n) 4845873199050653695 = some (compare n 9007199254740991) := by
    have := order_F n 9007199254740991 h.abs (by decide)
    rw [F_safe] at this; exact this
  obtain ⟨h1, h2⟩ := h
  unfold inB leB
  rw [e1, e2]
  have a : compare (-9007199254740991) n = .lt ∨ compare (-9007199254740991) n = .eq := by
    rcases Int.lt_or_eq_of_le h1 with c | c
    · exact Or.inl (Int.compare_eq_lt.2 c)
    · right; rw [c]; simp
  have b : compare n 9007199254740991 = .lt ∨ compare n 9007199254740991 = .eq := by
    rcases Int.lt_or_eq_of_le h2 with c | c
    · exact Or.inl (Int.compare_eq_lt.2 c)
    · right; rw [c]; simp
  rcases a with a | a <;> rcases b with b | b <;> rw [a, b] <;> rfl

theorem inB_big {x : Nat} (h : Big x) : inB x = false := by
  have e1 := (order_big h (-9007199254740991) (by decide)).2
  have e2 := (order_big h 9007199254740991 (by decide)).1
  rw [F_nsafe] at e1
  rw [F_safe] at e2
  have e1' : FloatKind.f64.format.order 14069245235905429503 x = _ := e1
  have e2' : FloatKind.f64.format.order x 4845873199050653695 = _ := e2
  unfold inB leB
  rw [e1', e2']
  cases sgn x <;> rfl

theorem wholeB_frac {x : Nat} (h : Frac x) : wholeB x = false := by
  have e : (FloatKind.f64.format.order x (truncW x) == some .eq) = false := truncW_frac h
  unfold wholeB; rw [e]; rfl
theorem wholeB_m0 : wholeB (2 ^ 63) = false := by decide

theorem big_not_nan {x : Nat} (h : Big x) : ¬ IsNaN x := by have := h.1; unfold IsNaN; omega
theorem frac_not_nan {x : Nat} (h : Frac x) : ¬ IsNaN x := by have := h.1; unfold IsFin at this; unfold IsNaN; omega
theorem m0_not_nan : ¬ IsNaN (2 ^ 63) := by unfold IsNaN rung; decide

theorem other_not_nan {x : Nat} (h : Is .other x) : ¬ IsNaN x := by
  obtain ⟨_, h | h | h⟩ := h
  · exact big_not_nan h
  · exact frac_not_nan h
  · rw [h]; exact m0_not_nan

theorem mayB_other {x : Nat} (h : Is .other x) : (wholeB x && inB x) = false := by
  obtain ⟨_, h | h | h⟩ := h
  · rw [inB_big h, Bool.and_false]
  · rw [wholeB_frac h, Bool.false_and]
  · rw [h, wholeB_m0, Bool.false_and]

/-- num.May -/
theorem May_cls {c : Cl} {x : Nat} (h : Is c x) (w : World) :
    Calls Try.prog 69 #[.float .f64 x] w fun e w' => e = .returned (.bool (mayC c)) ∧ w = w' := by
  have hx := h.lt
  cases c with
  | nan => exact May_nan x w h.2
  | other =>
    have := May_num x w hx (other_not_nan h)
    rw [mayB_other h] at this; exact this
  | ours n =>
    obtain ⟨rfl, hs⟩ := h
    have := May_num (F n) w hx (not_nan_F n hs.abs)
    rw [wholeB_ours n hs.abs, inB_ours n hs] at this; exact this

/-- what a reckoning comes to: no number, an error, or one of our numbers -/
inductive Res where
  | nan | err (k : Int) | ok (n : Int)
def EncR (r : Res) (v : Nat) (k : Int) : Prop := match r with
  | .nan => (v < 2 ^ 64 ∧ IsNaN v) ∧ k = 0
  | .err j => v = 0 ∧ k = j
  | .ok n => (v = F n ∧ SafeN n) ∧ k = 0
def RetR (r : Res) (w : World) (e : Ending) (w' : World) : Prop := ∃ v k n, EncR r v k ∧ e = .returned (.tuple #[.float .f64 v, .int .i64 k]) ∧ w' = w.drewN n
/-- a worth, told -/
def tellC (c : Cl) : Res := match c with
  | .nan => .nan
  | .other => .err 10
  | .ours n => .ok n

end Go.Proofs.Ytkmgdaagannhkaa
/-
  Less and Index of package num beside the document's own, for every two floats: walks.
-/
namespace Go.Proofs.Ytkmgdaagannhkaa
open Go.RowKit Fl

/-- the document's whole: of our numbers the number and true, else 0 and false -/
def wholeI (c : Cl) : Int := match c with
  | .ours n => n
  | _ => 0
def wholeC (c : Cl) : Bool := match c with
  | .ours _ => true
  | _ => false

def SomeFloat (w : World) (e : Ending) (w' : World) : Prop := ∃ y n, e = .returned (.float .f64 y) ∧ w' = w.drewN n
def DrawnBool (b : Bool) (w : World) (e : Ending) (w' : World) : Prop := ∃ n, e = .returned (.bool b) ∧ w' = w.drewN n

def idxB (c : Cl) : Bool := match c with
  | .ours n => decide (0 ≤ n) && decide (n < 1024)
  | _ => false
def idxI (c : Cl) : Int := if idxB c then wholeI c else 0
def DrawnIdx (c : Cl) (w : World) (e : Ending) (w' : World) : Prop := ∃ n, e = .returned (.tuple #[.int .i64 (idxI c), .bool (idxB c)]) ∧ w' = w.drewN n

def lessV (x y : Nat) : Int := if FloatKind.f64.format.order x x != some .eq || FloatKind.f64.format.order y y != some .eq then -1 else if FloatKind.f64.format.order x y == some .lt then 1 else 0

end Go.Proofs.Ytkmgdaagannhkaa
/-
  What reckoning with two floats comes to, told by what the floats are: package num's operations and the document's own: walks.
-/
namespace Go.Proofs.Ytkmgdaagannhkaa
open Go.RowKit Fl

/-- the class of a whole number's word -/
def clF (n : Int) : Cl := if -9007199254740991 ≤ n ∧ n ≤ 9007199254740991 then .ours n else .other
def tellN (n : Int) : Res := if -9007199254740991 ≤ n ∧ n ≤ 9007199254740991 then .ok n else .err 10
/-- the class of a sum, a difference, a product, a quotient of our numbers, and its word -/
def SomeNaN (w : World) (e : Ending) (w' : World) : Prop := ∃ v n, (v < 2 ^ 64 ∧ IsNaN v) ∧ e = .returned (.float .f64 v) ∧ w' = w.drewN n

def twoV (c d : Cl) : Value := if mayC c && mayC d then .tuple #[.int .i64 (wholeI c), .int .i64 (wholeI d), .bool (!wholeC c || !wholeC d), .int .i64 0] else .tuple #[.int .i64 0, .int .i64 0, .bool false, .int .i64 2]

def EncV (r : Res) (w : World) (e : Ending) (w' : World) : Prop := ∃ v k, EncR r v k ∧ e = .returned (.tuple #[.float .f64 v, .int .i64 k]) ∧ w = w'

/-- a reckoning of two of our numbers by f; an error where one is none of ours, no number where one is no number -/
def opR (f : Int → Int → Res) (c d : Cl) : Res := match c, d with
  | .other, _ => .err 2
  | _, .other => .err 2
  | .ours a, .ours b => f a b
  | _, _ => .nan

/-- one operation of two of our numbers, of any class: what it comes to -/
def Worth (op : BinOp) (f : Int → Int → Res) : Prop := ∀ a b : Int, SafeN a → SafeN b →
  (∃ c z, floatBits op .f64 (F a) (F b) = some z ∧ Is c z ∧ tellC c = f a b) ∨ (floatBits op .f64 (F a) (F b) = none ∧ f a b = .nan)

def sumR (a b : Int) : Res := tellN (a + b)
def subR (a b : Int) : Res := tellN (a - b)
def mulR (a b : Int) : Res := if a = 0 ∨ b = 0 then (if a < 0 ∨ b < 0 then .err 10 else .ok 0) else tellN (a * b)
def divR (a b : Int) : Res := if b = 0 then (if a = 0 then .nan else .err 10) else if a = 0 then (if b < 0 then .err 10 else .ok 0) else if a.tmod b ≠ 0 then .err 10 else .ok (a.tdiv b)
def remR (a b : Int) : Res := if b = 0 then .nan else if a < 0 ∧ a.tmod b = 0 then .err 10 else .ok (a.tmod b)
def negR (a : Int) : Res := if a = 0 then .err 10 else .ok (-a)

end Go.Proofs.Ytkmgdaagannhkaa
/-
  Texts of digits and what they are worth; floats that have grown beyond 53 bits stay there: plain lemmas.
-/
namespace Go.Proofs.Ytkmgdaagannhkaa
open Go.RowKit Fl Ieee

def isDig (c : UInt8) : Bool := decide (48 ≤ c.toNat) && decide (c.toNat ≤ 57)
def valD (l : List UInt8) : Nat := l.foldl (fun n c => n * 10 + (c.toNat - 48)) 0
/-- digits behind a sign -/
def digR (neg : Bool) (l : List UInt8) : Res :=
  if l = [] ∨ l.all isDig = false then .nan
  else if 9007199254740991 < valD l then .err 10
  else if neg = true ∧ valD l = 0 then .err 10
  else .ok (if neg then -(valD l : Int) else (valD l : Int))
/-- a text without blanks at its ends -/
def bareR : List UInt8 → Res
  | [] => .ok 0
  | c :: r => if c = 45 then digR true r else if c = 43 then digR false r else digR false (c :: r)
def blanksL : List UInt8 := [9, 10, 13, 32]
def readR (l : List UInt8) : Res := bareR (Lib.trimS l blanksL)

def Acc (n v : Nat) : Prop := (n < 2 ^ 53 ∧ v = F (n : Int)) ∨ (2 ^ 53 ≤ n ∧ Big v ∧ sgn v = false ∧ v < 2 ^ 64)

end Go.Proofs.Ytkmgdaagannhkaa
/-
  The document's own reckoning, and package num's Neg, told by what the floats are: walks.
-/
namespace Go.Proofs.Ytkmgdaagannhkaa
open Go.RowKit Fl

@[go_sem] theorem unary_negf (k : FloatKind) (b : Nat) : Op.unary .neg (.float k b) = pure (.float k (Op.negFloat k b)) := rfl

def negC (c : Cl) : Res := match c with
  | .nan => .nan
  | .other => .err 2
  | .ours a => negR a

end Go.Proofs.Ytkmgdaagannhkaa
/-
  math.Mod at our numbers: what is left of a behind b times the whole quotient; no number where one is none or b is 0: walks.
-/
namespace Go.Proofs.Ytkmgdaagannhkaa
open Go.RowKit Fl

/-- the fraction that Frexp gives -/
def frW (n : Nat) : Nat := 1022 * 2 ^ 52 + (n * 2 ^ (52 - n.log2) - 2 ^ 52)

/-- the leading digits of a number, 53 of them -/
def lead (n : Nat) : Nat := n * 2 ^ (52 - n.log2)

def wordOf (v : Value) : Nat := match v with | .float _ x => x | _ => 0

end Go.Proofs.Ytkmgdaagannhkaa
/-
  Rem of package num, and NumSums: every operation of two floats beside the document's own: walks.
-/
namespace Go.Proofs.Ytkmgdaagannhkaa
open Go.RowKit Fl

def nanC (c : Cl) : Bool := match c with | .nan => true | _ => false
def DrawnTrue (w : World) (e : Ending) (w' : World) : Prop := ∃ n, e = .returned (.bool true) ∧ w' = w.drewN n

end Go.Proofs.Ytkmgdaagannhkaa
/-
  DERIVED: THE SHELF's CONTRACTS AT THIS DUMP, IN PLAIN WORDS (tools/lay-plain.mjs out of 'YtkmgdaagannhkaaShelfTry.lean', which tools/lay-shelf.mjs wrote): THE SAME DECLARATIONS UNDER THE SAME NAMES: 'import', 'namespace', 'open', 'def', 'theorem' AND NOTHING ELSE: no command of the shelf's: FOR A HAND-IN. Each laying: the table of numbers ('.._ren') and one theorem, a field a fact of the dump's own or the kernel's comparison; each contract: ONE APPLICATION.
-/
namespace Go.Proofs
open Go.Shelf
end Go.Proofs
/-
  Read of package num: what a text is worth, for every text: walks.
-/
namespace Go.Proofs.Ytkmgdaagannhkaa
open Go.RowKit Fl

/-- what 'digits' gives -/
def DigW (l : List UInt8) (x : Nat) : Prop := if l = [] ∨ l.all isDig = false then Is .nan x else Acc (valD l) x
def RetDig (l : List UInt8) (w : World) (e : Ending) (w' : World) : Prop := ∃ x, DigW l x ∧ e = .returned (.float .f64 x) ∧ w = w'

theorem toList_data (s : ByteArray) : s.toList = s.data.toList := Go.ByteArray.toList_eq s

def RetRead (r : Res) (w : World) (e : Ending) (w' : World) : Prop := ∃ v k, EncR r v k ∧ e = .returned (.tuple #[.float .f64 v, .int .i64 k]) ∧ Below w.heap.size w w'

def TrimTo (s : ByteArray) (w : World) (e : Ending) (w' : World) : Prop := ∃ t : ByteArray, t.data.toList = Lib.trimS s.data.toList blanksL ∧ e = .returned (.string t) ∧ Below w.heap.size w w'

end Go.Proofs.Ytkmgdaagannhkaa
/-
  NumBack: what package num reckoned is reckoned back, for every two floats: walks.
-/

namespace Go.Proofs.Ytkmgdaagannhkaa
open Go.RowKit Fl

def RetOk (n : Int) (w : World) (e : Ending) (w' : World) : Prop := ∃ m, e = .returned (.tuple #[.float .f64 (F n), .int .i64 0]) ∧ w' = w.drewN m
def RetBad (w : World) (e : Ending) (w' : World) : Prop := ∃ v k m, k ≠ 0 ∧ e = .returned (.tuple #[.float .f64 v, .int .i64 k]) ∧ w' = w.drewN m
def sizeV (b : Int) : Int := (b.natAbs : Int)
def Drawn (w w' : World) : Prop := ∃ n, w' = w.drewN n

def selfO (c : Cl) : Option Ordering := match c with
  | .nan => none
  | _ => some .eq
/-- what comes of a reckoning that tells n -/
def OkAt (x : Nat) (w : World) (e : Ending) (w' : World) : Prop := ∃ m, e = .returned (.tuple #[.float .f64 x, .int .i64 0]) ∧ w' = w.drewN m
end Go.Proofs.Ytkmgdaagannhkaa
/-
  Text of package num beside the document's own, for every float: walks.
-/
namespace Go.Proofs.Ytkmgdaagannhkaa
open Go.RowKit Fl

def textL (c : Cl) : List UInt8 := match c with
  | .nan => [78, 97, 78]
  | .other => []
  | .ours n => Lib.itoa n
def TextTo (l : List UInt8) (w : World) (e : Ending) (w' : World) : Prop := ∃ t : ByteArray, t.data.toList = l ∧ e = .returned (.string t) ∧ Below w.heap.size w w'

end Go.Proofs.Ytkmgdaagannhkaa
/-
  The document's own Read, and NumTexts: walks.
-/
namespace Go.Proofs.Ytkmgdaagannhkaa
open Go.RowKit Fl

def blankB (c : UInt8) : Bool := blanksL.contains c
def BlankTo (l : List UInt8) (k : Nat) : Prop := ∀ (j : Nat) b, j < k → l[j]? = some b → blanksL.contains b = true
def BlankFrom (l : List UInt8) (k : Nat) : Prop := ∀ (j : Nat) b, k ≤ j → l[j]? = some b → blanksL.contains b = true
def StopAt (l : List UInt8) (k : Nat) : Prop := ∀ b, l[k]? = some b → blanksL.contains b = false

end Go.Proofs.Ytkmgdaagannhkaa
