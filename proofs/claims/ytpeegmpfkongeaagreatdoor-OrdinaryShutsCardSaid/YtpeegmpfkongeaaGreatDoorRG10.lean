/-
  Keys: the order is one; key.Sym, key.Text; the law's alive.
-/
import Derived.Test.YtpeegmpfkongeaaGreatDoorRG09
import Derived.Deep.RegionHeld3
import Derived.Deep.QuietTactic
import Derived.BigQuiet
import Derived.Test.YtpeegmpfkongeaaGreatDoorRG03
import Derived.Deep.Draws
namespace Go.Proofs.YtpeegmpfkongeaaGreatDoor.S
open Go.RowKit Fl

def kA : Ky := ⟨⟨#[97]⟩, 0⟩
def k3 : Ky := ⟨⟨#[51]⟩, 0⟩
/-- a key's text -/
def symText (n : Int) : ByteArray := (⟨#[115, 121, 109, 98, 111, 108, 32]⟩ : ByteArray) ++ ⟨(Lib.itoa n).toArray⟩
theorem of_keep (s : ByteArray) (g : Nat) (w0 w : World) (hg : g < w.heap.size) (hb : Below w0.heap.size w0 w) :
    Calls Tryz.prog 152 #[.string s] w fun e w' => e = .returned (.agg #[.string s, .int .i64 0]) ∧ g < w'.heap.size ∧ Below w0.heap.size w0 w' ∧ ∀ o, w'.cell? ⟨g, o, none⟩ = w.cell? ⟨g, o, none⟩ :=
  (keyOf_k s w).mono fun _ _ ⟨he, h⟩ => ⟨he, Nat.lt_of_lt_of_le hg h.size, vb hb h, fun o => h.cell (p := ⟨g, o, none⟩) hg⟩
end Go.Proofs.YtpeegmpfkongeaaGreatDoor.S
/-
  Plain, the program's and the document's own: what an escape stands for: walks.
-/
namespace Go.Proofs.YtpeegmpfkongeaaGreatDoor.S
open Go.RowKit

/-- what a digit of sixteens is worth -/
def worthN (n : Nat) : Int := if 48 ≤ n ∧ n ≤ 57 then (n : Int) - 48 else if 97 ≤ n ∧ n ≤ 102 then (n : Int) - 87 else -1
/-- what two digits of sixteens stand for -/
def hexOf (a b : Int) : UInt8 := (16 * a + b).toNat.toUInt8
def sixR (s : ByteArray) : UInt8 × Nat :=
  if h : s.size < 4 then (0, 0) else if worthN s[2].toNat < 0 ∨ worthN s[3].toNat < 0 then (0, 0) else (hexOf (worthN s[2].toNat) (worthN s[3].toNat), 4)
/-- the answer is a byte and how many bytes it is written with -/
def ByteTo (r : UInt8 × Nat) (w : World) (e : Ending) (w' : World) : Prop := e = .returned (.tuple #[.int .u8 (r.1.toNat : Int), .int .i64 (r.2 : Int)]) ∧ ∃ n, w' = w.drewN n

/-- what stands at a string's beginning: a byte, and how many bytes it is written with -/
def escS (s : ByteArray) : UInt8 × Nat :=
  if h0 : s.size < 1 then (0, 0)
  else if s[0].toNat ≠ 92 then (s[0], 1)
  else if h1 : s.size < 2 then (0, 0)
  else if s[1].toNat = 92 ∨ s[1].toNat = 34 ∨ s[1].toNat = 39 then (s[1], 2)
  else if s[1].toNat = 110 then (10, 2)
  else if s[1].toNat = 116 then (9, 2)
  else if s[1].toNat = 114 then (13, 2)
  else if s[1].toNat = 120 then sixR s
  else (0, 0)

/-- a literal's inside, gone through from a place on: the place of the backslash that begins no escape, or the bytes -/
def plainR (s : ByteArray) : Nat → Nat → List UInt8 → Nat ⊕ List UInt8
  | 0, _, acc => .inr acc
  | f + 1, i, acc => if i < s.size then (if (escS (s.extract i s.size)).2 = 0 then .inl i else plainR s f (i + (escS (s.extract i s.size)).2) (acc ++ [(escS (s.extract i s.size)).1])) else .inr acc
def outOf (r : Nat ⊕ List UInt8) : ByteArray × Int × Int :=
  match r with
  | .inl i => (⟨#[]⟩, (i : Int), 5)
  | .inr acc => if acc.length > 4096 then (⟨#[]⟩, 0, 20) else (⟨acc.toArray⟩, 0, 0)
def plainO (s : ByteArray) : ByteArray × Int × Int := if s.size > 65536 then (⟨#[]⟩, 0, 3) else outOf (plainR s s.size 0 [])
/-- the answer is a string, a place and a number -/
def Str3To (r : ByteArray × Int × Int) (w : World) (e : Ending) (w' : World) : Prop := e = .returned (.tuple #[.string r.1, .int .i64 r.2.1, .int .i64 r.2.2]) ∧ Below w.heap.size w w'

theorem BB.drewN {B b : Nat} {l : List UInt8} {w0 w : World} (h : BB B b l w0 w) (n : Nat) : BB B b l w0 (w.drewN n) := by
  induction n with
  | zero => exact h
  | succ n ih => exact ih.drew

end Go.Proofs.YtpeegmpfkongeaaGreatDoor.S
/-
  Quoted and read it is itself: the facts of it without a walk.
-/
namespace Go.Proofs.YtpeegmpfkongeaaGreatDoor.S
open Go.RowKit
end Go.Proofs.YtpeegmpfkongeaaGreatDoor.S
/-
  NumAgain: texts and bits come back, for every two floats: walks.
-/
namespace Go.Proofs.YtpeegmpfkongeaaGreatDoor
open Go.RowKit Fl

end Go.Proofs.YtpeegmpfkongeaaGreatDoor
/-
  Values: what they are, and when they are the same: mathematics.
-/
namespace Go.Proofs.YtpeegmpfkongeaaGreatDoor.S
open Go.RowKit Fl

def feq (x y : Nat) : Bool := FloatKind.f64.format.order x y == some .eq
/-- what a float is worth: no number, or a whole number (a minus nought is 0) -/
def NV (x : Nat) (o : Option Int) : Prop := x < 2 ^ 64 ∧ ((IsNaN x ∧ o = none) ∨ (x = 2 ^ 63 ∧ o = some 0) ∨ ∃ n, SafeN n ∧ x = F n ∧ o = some n)
theorem cmp_eq (a b : Int) : (some (compare a b) == some Ordering.eq) = (some a == some b) := by
  rcases Int.lt_trichotomy a b with c | c | c
  · rw [Int.compare_eq_lt.2 c, Bool.eq_iff_iff]; simp; omega
  · subst c; simp
  · rw [Int.compare_eq_gt.2 c, Bool.eq_iff_iff]; simp; omega
theorem feq_nv {x y : Nat} {o p : Option Int} (h : NV x o) (g : NV y p) : feq x y = (o.isSome && o == p) := by
  obtain ⟨_, h⟩ := h
  obtain ⟨_, g⟩ := g
  rcases h with ⟨h, rfl⟩ | ⟨rfl, rfl⟩ | ⟨n, hn, rfl, rfl⟩
  · have e : FloatKind.f64.format.order x y = none := order_nan_l y h
    unfold feq; rw [e]; rfl
  · rcases g with ⟨g, rfl⟩ | ⟨rfl, rfl⟩ | ⟨m, hm, rfl, rfl⟩
    · have e : FloatKind.f64.format.order (2 ^ 63) y = none := order_nan_r _ g
      unfold feq; rw [e]; rfl
    · have e : FloatKind.f64.format.order (2 ^ 63) (2 ^ 63) = some .eq := order_m0_self
      unfold feq; rw [e]; rfl
    · have e : FloatKind.f64.format.order (2 ^ 63) (F m) = some (compare 0 m) := (order_m0 m hm.abs).1
      unfold feq; rw [e, cmp_eq]; rfl
  · rcases g with ⟨g, rfl⟩ | ⟨rfl, rfl⟩ | ⟨m, hm, rfl, rfl⟩
    · have e : FloatKind.f64.format.order (F n) y = none := order_nan_r _ g
      unfold feq; rw [e]; rfl
    · have e : FloatKind.f64.format.order (F n) (2 ^ 63) = some (compare n 0) := (order_m0 n hn.abs).2
      unfold feq; rw [e, cmp_eq]; rfl
    · have e : FloatKind.f64.format.order (F n) (F m) = some (compare n m) := order_F n m hn.abs hm.abs
      unfold feq; rw [e, cmp_eq]; rfl
theorem nv_cls {c : Cl} {x : Nat} (h : Is c x) (hm : mayC c = true) : ∃ o, NV x o ∧ ((c = .nan ∧ o = none) ∨ ∃ n, c = .ours n ∧ o = some n) := by
  cases c with
  | nan => exact ⟨none, ⟨h.1, Or.inl ⟨h.2, rfl⟩⟩, Or.inl ⟨rfl, rfl⟩⟩
  | other => cases hm
  | ours n => exact ⟨some n, ⟨h.lt, Or.inr (Or.inr ⟨n, h.2, h.1, rfl⟩)⟩, Or.inr ⟨n, rfl, rfl⟩⟩

/-! ### values that may be -/
inductive Vl where
  | und | nul | boo (x : Nat) | num (x : Nat) | str (s : ByteArray) | sym (r : Int) | obj (k : Nat) (r : Int)
namespace Vl
def kd : Vl → Nat
  | .und => 0 | .nul => 1 | .boo _ => 2 | .num _ => 3 | .str _ => 4 | .sym _ => 5 | .obj k _ => k
def fl : Vl → Nat
  | .boo x => x | .num x => x | _ => 0
def st : Vl → ByteArray
  | .str s => s | _ => ⟨#[]⟩
def rf : Vl → Int
  | .sym r => r | .obj _ r => r | _ => 0
def val (v : Vl) : Value := .agg #[.int .u8 (v.kd : Int), .float .f64 v.fl, .string v.st, .int .i64 v.rf]
def ok : Vl → Prop
  | .und => True
  | .nul => True
  | .boo x => x = 0 ∨ x = 2 ^ 63 ∨ x = 4607182418800017408
  | .num x => ∃ c, Is c x ∧ mayC c = true
  | .str s => s.size ≤ 4096
  | .sym r => 0 ≤ r ∧ r < 2 ^ 63
  | .obj k r => (k = 6 ∨ k = 7 ∨ k = 8) ∧ 0 ≤ r ∧ r < 2 ^ 63
end Vl

def objB (k : Nat) : Bool := k == 6 || k == 7 || k == 8
def calB (k : Nat) : Bool := k == 7 || k == 8
/-- same, of any values -/
def sameG (k x : Nat) (s : ByteArray) (r : Int) (k' x' : Nat) (s' : ByteArray) (r' : Int) : Bool :=
  if objB k && objB k' then r == r' else if k ≠ k' then false else if k = 0 ∨ k = 1 then true else if k = 2 then feq x x' else if k = 3 then feq x x' || (!feq x x && !feq x' x')
  else if k = 4 then s.data.toList == s'.data.toList else if k = 5 then r == r' else false
def sameV (a b : Vl) : Bool := sameG a.kd a.fl a.st a.rf b.kd b.fl b.st b.rf
def noneV (v : Vl) : Bool := v.kd == 3 && !feq v.fl v.fl
def truthV (v : Vl) : Bool := match v with
  | .und => false
  | .nul => false
  | .boo x => !feq x 0 && feq x x
  | .num x => !feq x 0 && feq x x
  | .str s => !s.data.toList.isEmpty
  | _ => true
def typeV (v : Vl) : List UInt8 := match v with
  | .und => [117, 110, 100, 101, 102, 105, 110, 101, 100]
  | .nul => [111, 98, 106, 101, 99, 116]
  | .boo _ => [98, 111, 111, 108, 101, 97, 110]
  | .num _ => [110, 117, 109, 98, 101, 114]
  | .str _ => [115, 116, 114, 105, 110, 103]
  | .sym _ => [115, 121, 109, 98, 111, 108]
  | .obj k _ => if k = 6 then [111, 98, 106, 101, 99, 116] else [102, 117, 110, 99, 116, 105, 111, 110]
/-- the text of a value -/
def TextV (v : Vl) (l : List UInt8) : Prop := match v with
  | .und => l = [117, 110, 100, 101, 102, 105, 110, 101, 100]
  | .nul => l = [110, 117, 108, 108]
  | .boo x => l = if feq x 0 then [102, 97, 108, 115, 101] else [116, 114, 117, 101]
  | .num x => ∃ c, Is c x ∧ mayC c = true ∧ l = textL c
  | .str s => l = quoteL s.data.toList
  | .sym r => l = [115, 121, 109, 98, 111, 108, 32] ++ Lib.itoa r
  | .obj _ r => l = [111, 98, 106, 101, 99, 116, 32] ++ Lib.itoa r

theorem boo_nv {x : Nat} (h : (Vl.boo x).ok) : ∃ o, NV x o ∧ (o = some 0 ∨ o = some 1) := by
  rcases h with rfl | rfl | rfl
  · exact ⟨some 0, ⟨by decide, Or.inr (Or.inr ⟨0, by unfold SafeN; omega, F_zero.symm, rfl⟩)⟩, Or.inl rfl⟩
  · exact ⟨some 0, ⟨by decide, Or.inr (Or.inl ⟨rfl, rfl⟩)⟩, Or.inl rfl⟩
  · exact ⟨some 1, ⟨by decide, Or.inr (Or.inr ⟨1, by unfold SafeN; omega, by decide, rfl⟩)⟩, Or.inr rfl⟩
theorem num_nv {x : Nat} (h : (Vl.num x).ok) : ∃ o, NV x o := by
  obtain ⟨c, hc, hm⟩ := h
  obtain ⟨o, ho, _⟩ := nv_cls hc hm
  exact ⟨o, ho⟩
/-- the same, in one form: of one kind, or two objects -/
theorem obj_kd {k : Nat} (h : k = 6 ∨ k = 7 ∨ k = 8) : objB k = true := by rcases h with rfl | rfl | rfl <;> rfl
theorem sameV_refl {a : Vl} (h : a.ok) : sameV a a = true := by
  cases a with
  | und => rfl
  | nul => rfl
  | boo x =>
    obtain ⟨o, ho, h1⟩ := boo_nv h
    show feq x x = true
    rw [feq_nv ho ho]
    rcases h1 with rfl | rfl <;> rfl
  | num x =>
    obtain ⟨o, ho⟩ := num_nv h
    show (feq x x || (!feq x x && !feq x x)) = true
    cases feq x x <;> rfl
  | str s => show (s.data.toList == s.data.toList) = true; exact beq_self_eq_true _
  | sym r => show (r == r) = true; exact beq_self_eq_true _
  | obj k r =>
    unfold sameV sameG
    have : objB k = true := obj_kd h.1
    simp only [Vl.kd, this, Bool.and_self, if_true, Vl.rf, beq_self_eq_true]
/-- which values are the same -/
def Sm (a b : Vl) : Prop := match a, b with
  | .und, .und => True
  | .nul, .nul => True
  | .boo x, .boo y => ∃ o, NV x o ∧ NV y o
  | .num x, .num y => ∃ o, NV x o ∧ NV y o
  | .str s, .str t => s.data.toList = t.data.toList
  | .sym r, .sym q => r = q
  | .obj _ r, .obj _ q => r = q
  | _, _ => False
end Go.Proofs.YtpeegmpfkongeaaGreatDoor.S
/-
  The small functions of package value: walks, for any value.
-/
namespace Go.Proofs.YtpeegmpfkongeaaGreatDoor.S
open Go.RowKit Fl

theorem kd_eq (k n : Nat) : ((k : Int) == (n : Int)) = (k == n) := by rw [Bool.eq_iff_iff]; simp only [beq_iff_eq]; omega
theorem Calls_v (k x : Nat) (s : ByteArray) (r : Int) (w : World) : Calls Tryz.prog 97 #[.agg #[.int .u8 (k : Int), .float .f64 x, .string s, .int .i64 r]] w fun e w' => e = .returned (.bool (calB k)) ∧ Below w.heap.size w w' := by
  have e7 : ((k : Int) == 7) = (k == 7) := kd_eq k 7
  have e8 : ((k : Int) == 8) = (k == 8) := kd_eq k 8
  unfold calB
  cases h7 : (k == 7) <;> cases h8 : (k == 8)
  all_goals
    rw [h7] at e7
    rw [h8] at e8
    go_enter Tryz.func97, Tryz.ntmps97
    go_wp2
    go_ret
    exact ⟨rfl, vzero _ _⟩
theorem IsObject_v (k x : Nat) (s : ByteArray) (r : Int) (w : World) : Calls Tryz.prog 58 #[.agg #[.int .u8 (k : Int), .float .f64 x, .string s, .int .i64 r]] w fun e w' => e = .returned (.bool (objB k)) ∧ Below w.heap.size w w' := by
  have e6 : ((k : Int) == 6) = (k == 6) := kd_eq k 6
  have ho : objB k = (k == 6 || calB k) := by unfold objB calB; cases (k == 6) <;> rfl
  have kc := fun w => Calls_v k x s r w
  rw [ho]
  cases h6 : (k == 6)
  all_goals
    rw [h6] at e6
    go_enter Tryz.func58, Tryz.ntmps58
    go_wp2_with (go_at_call 97; refine (kc _).mono ?_; rintro e w1 ⟨rfl, h1⟩)
    go_ret
  · exact ⟨rfl, vafter h1⟩
  · exact ⟨rfl, vzero _ _⟩
theorem IsNaN_f (x : Nat) (w : World) : Calls Tryz.prog 98 #[.float .f64 x] w fun e w' => e = .returned (.bool (FloatKind.f64.format.order x x != some .eq)) ∧ w = w' := by
  go_enter Tryz.func98, Tryz.ntmps98
  go_wp2
  go_ret
  exact ⟨rfl, rfl⟩
theorem none_v (k x : Nat) (s : ByteArray) (r : Int) (w : World) : Calls Tryz.prog 59 #[.agg #[.int .u8 (k : Int), .float .f64 x, .string s, .int .i64 r]] w fun e w' => e = .returned (.bool (k == 3 && !feq x x)) ∧ Below w.heap.size w w' := by
  have e3 : ((k : Int) == 3) = (k == 3) := kd_eq k 3
  have kn := fun w => IsNaN_f x w
  cases h3 : (k == 3)
  all_goals
    rw [h3] at e3
    go_enter Tryz.func59, Tryz.ntmps59
    go_wp2_with (go_at_call 98; refine (kn _).mono ?_; rintro e w' ⟨rfl, rfl⟩)
    go_ret
    exact ⟨rfl, vzero _ _⟩
end Go.Proofs.YtpeegmpfkongeaaGreatDoor.S
/-
  value.Same, Strict: walks, for any values that may be.
-/
namespace Go.Proofs.YtpeegmpfkongeaaGreatDoor.S
open Go.RowKit Fl

section
variable (k x : Nat) (s : ByteArray) (r : Int) (k' x' : Nat) (s' : ByteArray) (r' : Int) (w : World)
theorem Same_obj (h : objB k = true) (h' : objB k' = true) : Calls Tryz.prog 30 #[.agg #[.int .u8 (k : Int), .float .f64 x, .string s, .int .i64 r], .agg #[.int .u8 (k' : Int), .float .f64 x', .string s', .int .i64 r']] w fun e w' => e = .returned (.bool (r == r')) ∧ Below w.heap.size w w' := by
  have k1 := fun w => IsObject_v k x s r w
  have k2 := fun w => IsObject_v k' x' s' r' w
  rw [h] at k1
  rw [h'] at k2
  clear h h'
  go_enter Tryz.func30, Tryz.ntmps30
  go_wp2_with (go_at_call 58; first | ((with_reducible refine (k1 _).mono ?_); rintro e w1 ⟨rfl, h1⟩; obtain ⟨hc1, hf1⟩ := vcell h1; obtain ⟨hz1, hz2⟩ := vlt2 h1) | ((with_reducible refine (k2 _).mono ?_); rintro e w2 ⟨rfl, h2⟩; obtain ⟨hc2, hf2⟩ := vcell h2; have hz3 := vltn h2 hz1; have hz4 := vltn h2 hz2))
  go_ret
  exact ⟨rfl, vafter2 (vb h1 h2)⟩
theorem Same_ne (h : (objB k && objB k') = false) (hne : k ≠ k') : Calls Tryz.prog 30 #[.agg #[.int .u8 (k : Int), .float .f64 x, .string s, .int .i64 r], .agg #[.int .u8 (k' : Int), .float .f64 x', .string s', .int .i64 r']] w fun e w' => e = .returned (.bool false) ∧ Below w.heap.size w w' := by
  have k1 := fun w => IsObject_v k x s r w
  have k2 := fun w => IsObject_v k' x' s' r' w
  have hn : ((k : Int) != (k' : Int)) = true := by rw [bne_iff_ne]; omega
  cases ho : objB k
  · rw [ho] at k1
    clear h ho
    go_enter Tryz.func30, Tryz.ntmps30
    go_wp2_with (go_at_call 58; (with_reducible refine (k1 _).mono ?_); rintro e w1 ⟨rfl, h1⟩; obtain ⟨hc1, hf1⟩ := vcell h1; obtain ⟨hz1, hz2⟩ := vlt2 h1)
    go_ret
    exact ⟨rfl, vafter2 h1⟩
  · rw [ho] at k1 h
    rw [Bool.true_and] at h
    rw [h] at k2
    clear h ho
    go_enter Tryz.func30, Tryz.ntmps30
    go_wp2_with (go_at_call 58; first | ((with_reducible refine (k1 _).mono ?_); rintro e w1 ⟨rfl, h1⟩; obtain ⟨hc1, hf1⟩ := vcell h1; obtain ⟨hz1, hz2⟩ := vlt2 h1) | ((with_reducible refine (k2 _).mono ?_); rintro e w2 ⟨rfl, h2⟩; obtain ⟨hc2, hf2⟩ := vcell h2; have hz3 := vltn h2 hz1; have hz4 := vltn h2 hz2))
    go_ret
    exact ⟨rfl, vafter2 (vb h1 h2)⟩
end
section
variable (x : Nat) (s : ByteArray) (r : Int) (x' : Nat) (s' : ByteArray) (r' : Int) (w : World)
theorem Same_k01 (k : Nat) (hk : k = 0 ∨ k = 1) : Calls Tryz.prog 30 #[.agg #[.int .u8 (k : Int), .float .f64 x, .string s, .int .i64 r], .agg #[.int .u8 (k : Int), .float .f64 x', .string s', .int .i64 r']] w fun e w' => e = .returned (.bool true) ∧ Below w.heap.size w w' := by
  rcases hk with rfl | rfl
  all_goals simp only [Int.ofNat_zero, Int.natCast_one]
  · have k1 : ∀ w, Calls Tryz.prog 58 #[.agg #[.int .u8 0, .float .f64 x, .string s, .int .i64 r]] w (fun e w' => e = .returned (.bool false) ∧ Below w.heap.size w w') := fun w => IsObject_v 0 x s r w
    go_enter Tryz.func30, Tryz.ntmps30
    go_wp2_with (go_at_call 58; (with_reducible refine (k1 _).mono ?_); rintro e w1 ⟨rfl, h1⟩; obtain ⟨hc1, hf1⟩ := vcell h1; obtain ⟨hz1, hz2⟩ := vlt2 h1)
    go_ret
    exact ⟨rfl, vafter2 h1⟩
  · have k1 : ∀ w, Calls Tryz.prog 58 #[.agg #[.int .u8 1, .float .f64 x, .string s, .int .i64 r]] w (fun e w' => e = .returned (.bool false) ∧ Below w.heap.size w w') := fun w => IsObject_v 1 x s r w
    go_enter Tryz.func30, Tryz.ntmps30
    go_wp2_with (go_at_call 58; (with_reducible refine (k1 _).mono ?_); rintro e w1 ⟨rfl, h1⟩; obtain ⟨hc1, hf1⟩ := vcell h1; obtain ⟨hz1, hz2⟩ := vlt2 h1)
    go_ret
    exact ⟨rfl, vafter2 h1⟩
theorem Same_k2 : Calls Tryz.prog 30 #[.agg #[.int .u8 2, .float .f64 x, .string s, .int .i64 r], .agg #[.int .u8 2, .float .f64 x', .string s', .int .i64 r']] w fun e w' => e = .returned (.bool (feq x x')) ∧ Below w.heap.size w w' := by
  have k1 : ∀ w, Calls Tryz.prog 58 #[.agg #[.int .u8 2, .float .f64 x, .string s, .int .i64 r]] w (fun e w' => e = .returned (.bool false) ∧ Below w.heap.size w w') := fun w => IsObject_v 2 x s r w
  go_enter Tryz.func30, Tryz.ntmps30
  go_wp2_with (go_at_call 58; (with_reducible refine (k1 _).mono ?_); rintro e w1 ⟨rfl, h1⟩; obtain ⟨hc1, hf1⟩ := vcell h1; obtain ⟨hz1, hz2⟩ := vlt2 h1)
  go_ret
  exact ⟨rfl, vafter2 h1⟩
theorem Same_k3 : Calls Tryz.prog 30 #[.agg #[.int .u8 3, .float .f64 x, .string s, .int .i64 r], .agg #[.int .u8 3, .float .f64 x', .string s', .int .i64 r']] w fun e w' => e = .returned (.bool (feq x x' || (!feq x x && !feq x' x'))) ∧ Below w.heap.size w w' := by
  have k1 : ∀ w, Calls Tryz.prog 58 #[.agg #[.int .u8 3, .float .f64 x, .string s, .int .i64 r]] w (fun e w' => e = .returned (.bool false) ∧ Below w.heap.size w w') := fun w => IsObject_v 3 x s r w
  have n1 : ∀ w, Calls Tryz.prog 59 #[.agg #[.int .u8 3, .float .f64 x, .string s, .int .i64 r]] w (fun e w' => e = .returned (.bool (!feq x x)) ∧ Below w.heap.size w w') := fun w => none_v 3 x s r w
  have n2 : ∀ w, Calls Tryz.prog 59 #[.agg #[.int .u8 3, .float .f64 x', .string s', .int .i64 r']] w (fun e w' => e = .returned (.bool (!feq x' x')) ∧ Below w.heap.size w w') := fun w => none_v 3 x' s' r' w
  have hf : (FloatKind.f64.format.order x x' == some .eq) = feq x x' := rfl
  cases h0 : feq x x'
  · rw [h0] at hf
    cases h1 : feq x x
    · rw [h1] at n1
      clear h0 h1
      go_enter Tryz.func30, Tryz.ntmps30
      go_wp2_with (first | (go_at_call 58; (with_reducible refine (k1 _).mono ?_); rintro e w1 ⟨rfl, h1⟩; obtain ⟨hc1, hf1⟩ := vcell h1; obtain ⟨hz1, hz2⟩ := vlt2 h1) | (go_at_call 59; first | ((with_reducible refine (n1 _).mono ?_); rintro e w2 ⟨rfl, h2⟩; obtain ⟨hc2, hf2⟩ := vcell h2; have hz3 := vltn h2 hz1; have hz4 := vltn h2 hz2) | ((with_reducible refine (n2 _).mono ?_); rintro e w3 ⟨rfl, h3⟩)))
      go_ret
      exact ⟨rfl, vafter2 (vb (vb h1 h2) h3)⟩
    · rw [h1] at n1
      clear h0 h1
      go_enter Tryz.func30, Tryz.ntmps30
      go_wp2_with (first | (go_at_call 58; (with_reducible refine (k1 _).mono ?_); rintro e w1 ⟨rfl, h1⟩; obtain ⟨hc1, hf1⟩ := vcell h1; obtain ⟨hz1, hz2⟩ := vlt2 h1) | (go_at_call 59; (with_reducible refine (n1 _).mono ?_); rintro e w2 ⟨rfl, h2⟩; obtain ⟨hc2, hf2⟩ := vcell h2; have hz3 := vltn h2 hz1; have hz4 := vltn h2 hz2))
      go_ret
      exact ⟨rfl, vafter2 (vb h1 h2)⟩
  · rw [h0] at hf
    clear h0
    go_enter Tryz.func30, Tryz.ntmps30
    go_wp2_with (go_at_call 58; (with_reducible refine (k1 _).mono ?_); rintro e w1 ⟨rfl, h1⟩; obtain ⟨hc1, hf1⟩ := vcell h1; obtain ⟨hz1, hz2⟩ := vlt2 h1)
    go_ret
    exact ⟨rfl, vafter2 h1⟩
theorem Same_k4 : Calls Tryz.prog 30 #[.agg #[.int .u8 4, .float .f64 x, .string s, .int .i64 r], .agg #[.int .u8 4, .float .f64 x', .string s', .int .i64 r']] w fun e w' => e = .returned (.bool (s.data.toList == s'.data.toList)) ∧ Below w.heap.size w w' := by
  have k1 : ∀ w, Calls Tryz.prog 58 #[.agg #[.int .u8 4, .float .f64 x, .string s, .int .i64 r]] w (fun e w' => e = .returned (.bool false) ∧ Below w.heap.size w w') := fun w => IsObject_v 4 x s r w
  go_enter Tryz.func30, Tryz.ntmps30
  go_wp2_with (go_at_call 58; (with_reducible refine (k1 _).mono ?_); rintro e w1 ⟨rfl, h1⟩; obtain ⟨hc1, hf1⟩ := vcell h1; obtain ⟨hz1, hz2⟩ := vlt2 h1)
  go_ret
  exact ⟨ret_bool (by simp [toList_data]), vafter2 h1⟩
theorem Same_k5 : Calls Tryz.prog 30 #[.agg #[.int .u8 5, .float .f64 x, .string s, .int .i64 r], .agg #[.int .u8 5, .float .f64 x', .string s', .int .i64 r']] w fun e w' => e = .returned (.bool (r == r')) ∧ Below w.heap.size w w' := by
  have k1 : ∀ w, Calls Tryz.prog 58 #[.agg #[.int .u8 5, .float .f64 x, .string s, .int .i64 r]] w (fun e w' => e = .returned (.bool false) ∧ Below w.heap.size w w') := fun w => IsObject_v 5 x s r w
  go_enter Tryz.func30, Tryz.ntmps30
  go_wp2_with (go_at_call 58; (with_reducible refine (k1 _).mono ?_); rintro e w1 ⟨rfl, h1⟩; obtain ⟨hc1, hf1⟩ := vcell h1; obtain ⟨hz1, hz2⟩ := vlt2 h1)
  go_ret
  exact ⟨rfl, vafter2 h1⟩
end
/-- of any values whose kinds there are -/
theorem Same_any (k x : Nat) (s : ByteArray) (r : Int) (k' x' : Nat) (s' : ByteArray) (r' : Int) (hk : k ≤ 8) (w : World) : Calls Tryz.prog 30 #[.agg #[.int .u8 (k : Int), .float .f64 x, .string s, .int .i64 r], .agg #[.int .u8 (k' : Int), .float .f64 x', .string s', .int .i64 r']] w fun e w' => e = .returned (.bool (sameG k x s r k' x' s' r')) ∧ Below w.heap.size w w' := by
  unfold sameG
  cases ho : (objB k && objB k')
  · rw [if_neg (by decide)]
    by_cases hne : k ≠ k'
    · rw [if_pos hne]
      exact Same_ne _ _ _ _ _ _ _ _ _ ho hne
    · rw [if_neg hne]
      obtain rfl : k = k' := Classical.not_not.1 hne
      rw [Bool.and_self] at ho
      have h5 : k = 0 ∨ k = 1 ∨ k = 2 ∨ k = 3 ∨ k = 4 ∨ k = 5 := by
        have h6 : k ≠ 6 := fun e => by rw [e] at ho; cases ho
        have h7 : k ≠ 7 := fun e => by rw [e] at ho; cases ho
        have h8 : k ≠ 8 := fun e => by rw [e] at ho; cases ho
        omega
      rcases h5 with rfl | rfl | rfl | rfl | rfl | rfl
      · exact Same_k01 _ _ _ _ _ _ _ 0 (.inl rfl)
      · exact Same_k01 _ _ _ _ _ _ _ 1 (.inr rfl)
      · exact Same_k2 _ _ _ _ _ _ _
      · exact Same_k3 _ _ _ _ _ _ _
      · exact Same_k4 _ _ _ _ _ _ _
      · exact Same_k5 _ _ _ _ _ _ _
  · rw [if_pos rfl]
    rw [Bool.and_eq_true] at ho
    exact Same_obj _ _ _ _ _ _ _ _ _ ho.1 ho.2
end Go.Proofs.YtpeegmpfkongeaaGreatDoor.S
/-
  value.May: walks, for any value.
-/
namespace Go.Proofs.YtpeegmpfkongeaaGreatDoor.S
open Go.RowKit Fl

structure NoK (k : Nat) : Prop where
  n0 : ((k : Int) == 0) = false
  n1 : ((k : Int) == 1) = false
  n2 : ((k : Int) == 2) = false
  n3 : ((k : Int) == 3) = false
  n4 : ((k : Int) == 4) = false
  n5 : ((k : Int) == 5) = false
  n6 : ((k : Int) == 6) = false
  n7 : ((k : Int) == 7) = false
  n8 : ((k : Int) == 8) = false
theorem veq_float (d : Nat) (a b : Nat) (w : World) : (Op.equalIn (d + 1) 29 (.float .f64 a) (.float .f64 b)).run Tryz.prog w = .ok (feq a b) w := by
  simp [Op.equalIn, run_underlying Tryz.underlying29]; rfl

section
variable (x : Nat) (s : ByteArray) (r : Int) (w : World)
/-- what stands beside the field of a kind -/
theorem beside_same (k : Nat) (h2 : ((k : Int) == 2) = false) (h3 : ((k : Int) == 3) = false) (h4 : ((k : Int) == 4) = false) (h5 : ((k : Int) == 5) = false) (ho : objB k = false) :
    Calls Tryz.prog 149 #[.agg #[.int .u8 (k : Int), .float .f64 x, .string s, .int .i64 r]] w fun e w' => e = .returned (.agg #[.int .u8 (k : Int), .float .f64 x, .string s, .int .i64 r]) ∧ Below w.heap.size w w' := by
  have k1 := fun w => IsObject_v k x s r w
  rw [ho] at k1
  clear ho
  have hst := vstore
  go_enter Tryz.func149, Tryz.ntmps149
  go_wp2_with (go_at_call 58; (with_reducible refine (k1 _).mono ?_); rintro e w1 ⟨rfl, h1⟩; obtain ⟨hc1, hf1⟩ := vcell h1; obtain ⟨hz1, hz2⟩ := vlt2 h1)
  exact val_end Tryz.results149 rfl (vset4 (vblk2 h1).2 _ _ _ _) ⟨rfl, vbel4 (vafter2 h1) (Nat.le_succ _) _ _ _ _⟩
theorem beside_k2 : Calls Tryz.prog 149 #[.agg #[.int .u8 2, .float .f64 x, .string s, .int .i64 r]] w fun e w' => e = .returned (.agg #[.int .u8 2, .float .f64 0, .string s, .int .i64 r]) ∧ Below w.heap.size w w' := by
  have hst := vstore
  go_enter Tryz.func149, Tryz.ntmps149
  go_wp2_with (fail)
  exact val_end Tryz.results149 rfl (vblk2 (Below.refl _ _)).2 ⟨rfl, vafter2 (Below.refl _ _)⟩
theorem beside_k3 : Calls Tryz.prog 149 #[.agg #[.int .u8 3, .float .f64 x, .string s, .int .i64 r]] w fun e w' => e = .returned (.agg #[.int .u8 3, .float .f64 0, .string s, .int .i64 r]) ∧ Below w.heap.size w w' := by
  have hst := vstore
  go_enter Tryz.func149, Tryz.ntmps149
  go_wp2_with (fail)
  exact val_end Tryz.results149 rfl (vblk2 (Below.refl _ _)).2 ⟨rfl, vafter2 (Below.refl _ _)⟩
theorem beside_k4 : Calls Tryz.prog 149 #[.agg #[.int .u8 4, .float .f64 x, .string s, .int .i64 r]] w fun e w' => e = .returned (.agg #[.int .u8 4, .float .f64 x, .string ⟨#[]⟩, .int .i64 r]) ∧ Below w.heap.size w w' := by
  have hst := vstore
  go_enter Tryz.func149, Tryz.ntmps149
  go_wp2_with (fail)
  exact val_end Tryz.results149 rfl (vblk2 (Below.refl _ _)).2 ⟨rfl, vafter2 (Below.refl _ _)⟩
theorem beside_k5 : Calls Tryz.prog 149 #[.agg #[.int .u8 5, .float .f64 x, .string s, .int .i64 r]] w fun e w' => e = .returned (.agg #[.int .u8 5, .float .f64 x, .string s, .int .i64 0]) ∧ Below w.heap.size w w' := by
  have hst := vstore
  go_enter Tryz.func149, Tryz.ntmps149
  go_wp2_with (fail)
  exact val_end Tryz.results149 rfl (vblk2 (Below.refl _ _)).2 ⟨rfl, vafter2 (Below.refl _ _)⟩
theorem beside_obj (k : Nat) (h2 : ((k : Int) == 2) = false) (h3 : ((k : Int) == 3) = false) (h4 : ((k : Int) == 4) = false) (h5 : ((k : Int) == 5) = false) (ho : objB k = true) :
    Calls Tryz.prog 149 #[.agg #[.int .u8 (k : Int), .float .f64 x, .string s, .int .i64 r]] w fun e w' => e = .returned (.agg #[.int .u8 (k : Int), .float .f64 x, .string s, .int .i64 0]) ∧ Below w.heap.size w w' := by
  have k1 := fun w => IsObject_v k x s r w
  rw [ho] at k1
  clear ho
  have hst := vstore
  go_enter Tryz.func149, Tryz.ntmps149
  go_wp2_with (go_at_call 58; (with_reducible refine (k1 _).mono ?_); rintro e w1 ⟨rfl, h1⟩; obtain ⟨hc1, hf1⟩ := vcell h1; obtain ⟨hz1, hz2⟩ := vlt2 h1; obtain ⟨b1, b2⟩ := vblk2 h1; have c0 : w1.cell? ⟨w.heap.size, 0, none⟩ = some (.int .u8 (k : Int)) := vcells b1 0; have c1 : w1.cell? ⟨w.heap.size, 1, none⟩ = some (.float .f64 x) := vcells b1 1; have c2 : w1.cell? ⟨w.heap.size, 2, none⟩ = some (.string s) := vcells b1 2; have c3 : w1.cell? ⟨w.heap.size, 3, none⟩ = some (.int .i64 r) := vcells b1 3)
  exact val_end Tryz.results149 rfl (vset4 ((vset1o b2 (by omega) 3 _)) _ _ _ _) ⟨rfl, vbel4 ((vafter2 h1).setCell (p := ⟨w.heap.size, 3, none⟩) (Nat.le_refl _) _) (Nat.le_succ _) _ _ _ _⟩
end
end Go.Proofs.YtpeegmpfkongeaaGreatDoor.S
