/-
  The document's own Read at every text: a walk.
-/
import Derived.Test.YtkmgdaagannhkaaPT02
import Derived.Laws.Bits64b
import Derived.Shelf.Strings.Builder1
import Derived.Shelf.Strings.Builder2
import Derived.Shelf.Strings.Search3
import Derived.Shelf.Strings.Shaped
import Derived.Shelf.LaysM
import Derived.Test.YtkmgdaagannhkaaProg
import Derived.Test.YtkmgdaagannhkaaChecked
import Derived.WalkKit
import Derived.WalkSpells
import Derived.WalkLawsBesides
import Derived.BigCall
import Derived.Lib.Hide
import Derived.Test.YtkmgdaagannhkaaPT01
import Derived.Below
import Derived.Deep.Draws
namespace Go.Proofs.Ytkmgdaagannhkaa
open Go.RowKit Fl

def seg (t : ByteArray) (a k : Nat) : List UInt8 := (t.data.toList.take k).drop a
end Go.Proofs.Ytkmgdaagannhkaa
/-
  Int and Bits of package num beside the document's own, for every byte and every two floats: walks.
-/
namespace Go.Proofs.Ytkmgdaagannhkaa
open Go.RowKit Fl

/-- the 32 bits of what a float is -/
def intC (c : Cl) : Int := wrap32 (wholeI c)

/-- what the operation of a byte makes of 32 bits and 32 bits -/
def bitsI (op a b : Int) : Int :=
  if op = 38 then bits .and .i32 a b else if op = 124 then bits .or .i32 a b else if op = 94 then bits .xor .i32 a b
  else if op = 60 then wrap32 (a * 2 ^ (b % 32).toNat) else if op = 62 then a / 2 ^ (b % 32).toNat else a % 4294967296 / 2 ^ (b % 32).toNat
def codeB (op : Int) : Bool := op == 38 || op == 124 || op == 94 || op == 60 || op == 62 || op == 117
def bitsR (op : Int) (c d : Cl) : Res := if mayC c && mayC d then (if codeB op then .ok (bitsI op (intC c) (intC d)) else .err 2) else .err 2

end Go.Proofs.Ytkmgdaagannhkaa
/-
  NumTexts and NumAgain: texts and what they are worth, beside the document's own, and back: walks.
-/
namespace Go.Proofs.Ytkmgdaagannhkaa
open Go.RowKit Fl

theorem bytes_ext {a b : ByteArray} (h : a.data.toList = b.data.toList) : a = b := Go.WideShapes.bytes_inj h

def TabHere (w : World) : Prop := Lib.TabBelow Try.prog w.heap.size w "internal/strconv.uint64pow10" .u64 Lib.pow10Tab

end Go.Proofs.Ytkmgdaagannhkaa
/-
  DERIVED: THE SHELF's CONTRACTS AT THIS DUMP, IN PLAIN WORDS (tools/lay-plain.mjs out of 'YtkmgdaagannhkaaStrShelfTry.lean', which tools/lay-shelf.mjs wrote): THE SAME DECLARATIONS UNDER THE SAME NAMES: 'import', 'namespace', 'open', 'def', 'theorem' AND NOTHING ELSE: no command of the shelf's: FOR A HAND-IN. Each laying: the table of numbers ('.._ren') and one theorem, a field a fact of the dump's own or the kernel's comparison; each contract: ONE APPLICATION.
-/
namespace Go.Proofs
open Go.Shelf
end Go.Proofs
/-
  The library's contracts of (*strings.Builder).WriteByte and WriteString laid at this seat by hand: the shelf's command lays them not where no body names the type of the panic's value.
-/
namespace Go.Proofs
open Go.Shelf
end Go.Proofs
/-
  The builder in the words of lists of bytes; a string laid anew: walks.
-/
namespace Go.Proofs.Ytkmgdaagannhkaa.S
open Go.RowKit

theorem ret_bool {a b : Bool} (h : a = b) : Ending.returned (.bool a) = .returned (.bool b) := by rw [h]
theorem toList_data (s : ByteArray) : s.toList = s.data.toList := Go.ByteArray.toList_eq s
/-- the answer is a string -/
def StrTo (t : ByteArray) (w : World) (e : Ending) (w' : World) : Prop := e = .returned (.string t) ∧ Below w.heap.size w w'
/-- the answer is a string and a number -/
def StrIntTo (t : ByteArray) (k : Int) (w : World) (e : Ending) (w' : World) : Prop := e = .returned (.tuple #[.string t, .int .i64 k]) ∧ Below w.heap.size w w'

end Go.Proofs.Ytkmgdaagannhkaa.S
/-
  StrMade: Join and Repeat, the program's and the document's own: walks.
-/
namespace Go.Proofs.Ytkmgdaagannhkaa.S
open Go.RowKit

def joinE (a b : ByteArray) : Int := if a.size + b.size > 4096 then 20 else 0
def joinT (a b : ByteArray) : ByteArray := if a.size + b.size > 4096 then ⟨#[]⟩ else ⟨(a.data.toList ++ b.data.toList).toArray⟩

/-- a list of bytes so many times -/
def reps (l : List UInt8) : Nat → List UInt8
  | 0 => []
  | k + 1 => reps l k ++ l
def repE (s : ByteArray) (n : Int) : Int := if n < 0 then 2 else if s.size = 0 then 0 else if n.toNat * s.size > 4096 then 20 else 0
def repT (s : ByteArray) (n : Int) : ByteArray := if n < 0 then ⟨#[]⟩ else if s.size = 0 then ⟨#[]⟩ else if n.toNat * s.size > 4096 then ⟨#[]⟩ else ⟨(reps s.data.toList n.toNat).toArray⟩

end Go.Proofs.Ytkmgdaagannhkaa.S
/-
  Quote, the program's and the document's own: walks.
-/
namespace Go.Proofs.Ytkmgdaagannhkaa.S
open Go.RowKit

/-- a sixteen's byte -/
def hexN (n : Nat) : Nat := if n < 10 then 48 + n else 87 + n
/-- what stands for a byte between quotes -/
def qb (c : UInt8) : List UInt8 :=
  if c.toNat = 34 ∨ c.toNat = 92 then [92, c] else if c.toNat = 10 then [92, 110] else if c.toNat = 9 then [92, 116] else if c.toNat = 13 then [92, 114]
  else if c.toNat < 32 ∨ 126 < c.toNat then [92, 120, (hexN (c.toNat / 16)).toUInt8, (hexN (c.toNat % 16)).toUInt8] else [c]
def quoteI (l : List UInt8) : List UInt8 := l.flatMap qb
def quoteL (l : List UInt8) : List UInt8 := 34 :: (quoteI l ++ [34])
def signT (n : Nat) : ByteArray := (⟨#[48, 49, 50, 51, 52, 53, 54, 55, 56, 57, 97, 98, 99, 100, 101, 102]⟩ : ByteArray).extract n (n + 1)
end Go.Proofs.Ytkmgdaagannhkaa.S
/-
  Values: what they are, and when they are the same: mathematics.
-/
namespace Go.Proofs.Ytkmgdaagannhkaa.S
open Go.RowKit Fl

def feq (x y : Nat) : Bool := FloatKind.f64.format.order x y == some .eq
/-- what a float is worth: no number, or a whole number (a minus nought is 0) -/
def NV (x : Nat) (o : Option Int) : Prop := x < 2 ^ 64 ∧ ((IsNaN x ∧ o = none) ∨ (x = 2 ^ 63 ∧ o = some 0) ∨ ∃ n, SafeN n ∧ x = F n ∧ o = some n)
theorem cmp_eq (a b : Int) : (some (compare a b) == some Ordering.eq) = (some a == some b) := by
  rcases Int.lt_trichotomy a b with c | c | c
  · rw [Int.compare_eq_lt.2 c, Bool.eq_iff_iff]; simp; omega
  · subst c; simp
  · rw [Int.compare_eq_gt.2 c, Bool.eq_iff_iff]; simp; omega
theorem feq_nv {x y : Nat} {o p : Option Int} (h : NV x o) (g : NV y p) : feq x y = (o.isSome && o == p) := by
  obtain ⟨_, h⟩ := h
  obtain ⟨_, g⟩ := g
  rcases h with ⟨h, rfl⟩ | ⟨rfl, rfl⟩ | ⟨n, hn, rfl, rfl⟩
  · have e : FloatKind.f64.format.order x y = none := order_nan_l y h
    unfold feq; rw [e]; rfl
  · rcases g with ⟨g, rfl⟩ | ⟨rfl, rfl⟩ | ⟨m, hm, rfl, rfl⟩
    · have e : FloatKind.f64.format.order (2 ^ 63) y = none := order_nan_r _ g
      unfold feq; rw [e]; rfl
    · have e : FloatKind.f64.format.order (2 ^ 63) (2 ^ 63) = some .eq := order_m0_self
      unfold feq; rw [e]; rfl
    · have e : FloatKind.f64.format.order (2 ^ 63) (F m) = some (compare 0 m) := (order_m0 m hm.abs).1
      unfold feq; rw [e, cmp_eq]; rfl
  · rcases g with ⟨g, rfl⟩ | ⟨rfl, rfl⟩ | ⟨m, hm, rfl, rfl⟩
    · have e : FloatKind.f64.format.order (F n) y = none := order_nan_r _ g
      unfold feq; rw [e]; rfl
    · have e : FloatKind.f64.format.order (F n) (2 ^ 63) = some (compare n 0) := (order_m0 n hn.abs).2
      unfold feq; rw [e, cmp_eq]; rfl
    · have e : FloatKind.f64.format.order (F n) (F m) = some (compare n m) := order_F n m hn.abs hm.abs
      unfold feq; rw [e, cmp_eq]; rfl
theorem nv_cls {c : Cl} {x : Nat} (h : Is c x) (hm : mayC c = true) : ∃ o, NV x o ∧ ((c = .nan ∧ o = none) ∨ ∃ n, c = .ours n ∧ o = some n) := by
  cases c with
  | nan => exact ⟨none, ⟨h.1, Or.inl ⟨h.2, rfl⟩⟩, Or.inl ⟨rfl, rfl⟩⟩
  | other => cases hm
  | ours n => exact ⟨some n, ⟨h.lt, Or.inr (Or.inr ⟨n, h.2, h.1, rfl⟩)⟩, Or.inr ⟨n, rfl, rfl⟩⟩

/-! ### values that may be -/
inductive Vl where
  | und | nul | boo (x : Nat) | num (x : Nat) | str (s : ByteArray) | sym (r : Int) | obj (k : Nat) (r : Int)
namespace Vl
def kd : Vl → Nat
  | .und => 0 | .nul => 1 | .boo _ => 2 | .num _ => 3 | .str _ => 4 | .sym _ => 5 | .obj k _ => k
def fl : Vl → Nat
  | .boo x => x | .num x => x | _ => 0
def st : Vl → ByteArray
  | .str s => s | _ => ⟨#[]⟩
def rf : Vl → Int
  | .sym r => r | .obj _ r => r | _ => 0
def val (v : Vl) : Value := .agg #[.int .u8 (v.kd : Int), .float .f64 v.fl, .string v.st, .int .i64 v.rf]
def ok : Vl → Prop
  | .und => True
  | .nul => True
  | .boo x => x = 0 ∨ x = 2 ^ 63 ∨ x = 4607182418800017408
  | .num x => ∃ c, Is c x ∧ mayC c = true
  | .str s => s.size ≤ 4096
  | .sym r => 0 ≤ r ∧ r < 2 ^ 63
  | .obj k r => (k = 6 ∨ k = 7 ∨ k = 8) ∧ 0 ≤ r ∧ r < 2 ^ 63
end Vl

def objB (k : Nat) : Bool := k == 6 || k == 7 || k == 8
def calB (k : Nat) : Bool := k == 7 || k == 8
/-- same, of any values -/
def sameG (k x : Nat) (s : ByteArray) (r : Int) (k' x' : Nat) (s' : ByteArray) (r' : Int) : Bool :=
  if objB k && objB k' then r == r' else if k ≠ k' then false else if k = 0 ∨ k = 1 then true else if k = 2 then feq x x' else if k = 3 then feq x x' || (!feq x x && !feq x' x')
  else if k = 4 then s.data.toList == s'.data.toList else if k = 5 then r == r' else false
def sameV (a b : Vl) : Bool := sameG a.kd a.fl a.st a.rf b.kd b.fl b.st b.rf
def noneV (v : Vl) : Bool := v.kd == 3 && !feq v.fl v.fl
def truthV (v : Vl) : Bool := match v with
  | .und => false
  | .nul => false
  | .boo x => !feq x 0 && feq x x
  | .num x => !feq x 0 && feq x x
  | .str s => !s.data.toList.isEmpty
  | _ => true
def typeV (v : Vl) : List UInt8 := match v with
  | .und => [117, 110, 100, 101, 102, 105, 110, 101, 100]
  | .nul => [111, 98, 106, 101, 99, 116]
  | .boo _ => [98, 111, 111, 108, 101, 97, 110]
  | .num _ => [110, 117, 109, 98, 101, 114]
  | .str _ => [115, 116, 114, 105, 110, 103]
  | .sym _ => [115, 121, 109, 98, 111, 108]
  | .obj k _ => if k = 6 then [111, 98, 106, 101, 99, 116] else [102, 117, 110, 99, 116, 105, 111, 110]
/-- the text of a value -/
def TextV (v : Vl) (l : List UInt8) : Prop := match v with
  | .und => l = [117, 110, 100, 101, 102, 105, 110, 101, 100]
  | .nul => l = [110, 117, 108, 108]
  | .boo x => l = if feq x 0 then [102, 97, 108, 115, 101] else [116, 114, 117, 101]
  | .num x => ∃ c, Is c x ∧ mayC c = true ∧ l = textL c
  | .str s => l = quoteL s.data.toList
  | .sym r => l = [115, 121, 109, 98, 111, 108, 32] ++ Lib.itoa r
  | .obj _ r => l = [111, 98, 106, 101, 99, 116, 32] ++ Lib.itoa r

theorem boo_nv {x : Nat} (h : (Vl.boo x).ok) : ∃ o, NV x o ∧ (o = some 0 ∨ o = some 1) := by
  rcases h with rfl | rfl | rfl
  · exact ⟨some 0, ⟨by decide, Or.inr (Or.inr ⟨0, by unfold SafeN; omega, F_zero.symm, rfl⟩)⟩, Or.inl rfl⟩
  · exact ⟨some 0, ⟨by decide, Or.inr (Or.inl ⟨rfl, rfl⟩)⟩, Or.inl rfl⟩
  · exact ⟨some 1, ⟨by decide, Or.inr (Or.inr ⟨1, by unfold SafeN; omega, by decide, rfl⟩)⟩, Or.inr rfl⟩
theorem num_nv {x : Nat} (h : (Vl.num x).ok) : ∃ o, NV x o := by
  obtain ⟨c, hc, hm⟩ := h
  obtain ⟨o, ho, _⟩ := nv_cls hc hm
  exact ⟨o, ho⟩
/-- the same, in one form: of one kind, or two objects -/
theorem obj_kd {k : Nat} (h : k = 6 ∨ k = 7 ∨ k = 8) : objB k = true := by rcases h with rfl | rfl | rfl <;> rfl
theorem sameV_refl {a : Vl} (h : a.ok) : sameV a a = true := by
  cases a with
  | und => rfl
  | nul => rfl
  | boo x =>
    obtain ⟨o, ho, h1⟩ := boo_nv h
    show feq x x = true
    rw [feq_nv ho ho]
    rcases h1 with rfl | rfl <;> rfl
  | num x =>
    obtain ⟨o, ho⟩ := num_nv h
    show (feq x x || (!feq x x && !feq x x)) = true
    cases feq x x <;> rfl
  | str s => show (s.data.toList == s.data.toList) = true; exact beq_self_eq_true _
  | sym r => show (r == r) = true; exact beq_self_eq_true _
  | obj k r =>
    unfold sameV sameG
    have : objB k = true := obj_kd h.1
    simp only [Vl.kd, this, Bool.and_self, if_true, Vl.rf, beq_self_eq_true]
/-- which values are the same -/
def Sm (a b : Vl) : Prop := match a, b with
  | .und, .und => True
  | .nul, .nul => True
  | .boo x, .boo y => ∃ o, NV x o ∧ NV y o
  | .num x, .num y => ∃ o, NV x o ∧ NV y o
  | .str s, .str t => s.data.toList = t.data.toList
  | .sym r, .sym q => r = q
  | .obj _ r, .obj _ q => r = q
  | _, _ => False
end Go.Proofs.Ytkmgdaagannhkaa.S
/-
  Values made of any float, string, boolean: walks.
-/
namespace Go.Proofs.Ytkmgdaagannhkaa.S
open Go.RowKit Fl

/-- a store of a float into a cell (the walk has no law of its own for it) -/
theorem vstore (a : Addr) (x : Nat) (m : Mode) (w : World) : (store a (.float .f64 x) m).run Try.prog w = stored Try.prog w a (.float .f64 x) m := run_store Try.prog w a _ m rfl
theorem vzero (w : World) (o : Obj) : Below w.heap.size w (w.alloc o) := (Below.refl _ _).alloc (Nat.le_refl _) o
theorem vb {w a b : World} (h : Below w.heap.size w a) (g : Below a.heap.size a b) : Below w.heap.size w b := h.trans (g.mono h.size)
theorem vafter {w w1 : World} {o : Obj} (h : Below (w.alloc o).heap.size (w.alloc o) w1) : Below w.heap.size w w1 := (vzero w o).trans (h.mono (vzero w o).size)
theorem vafter2 {w w1 : World} {o p : Obj} (h : Below ((w.alloc o).alloc p).heap.size ((w.alloc o).alloc p) w1) : Below w.heap.size w w1 := vafter (vafter h)
theorem vcell {W w1 : World} {B : Nat} (hb : Below B W w1) : (∀ b o, b < B → w1.cell? ⟨b, o, none⟩ = W.cell? ⟨b, o, none⟩) ∧ (∀ b o, b < B → w1.frozen? ⟨b, o, none⟩ = W.frozen? ⟨b, o, none⟩) :=
  ⟨fun b o h => hb.cell (p := ⟨b, o, none⟩) h, fun b o h => hb.frozen (p := ⟨b, o, none⟩) h⟩
theorem vlt1 {w w1 : World} {o : Obj} (h : Below (w.alloc o).heap.size (w.alloc o) w1) : w.heap.size < w1.heap.size := by have := h.size; simp at this; omega
theorem vlt2 {w w1 : World} {o p : Obj} (h : Below ((w.alloc o).alloc p).heap.size ((w.alloc o).alloc p) w1) : w.heap.size < w1.heap.size ∧ w.heap.size + 1 < w1.heap.size := by have := h.size; simp at this; omega
theorem vltn {w1 w2 : World} {n : Nat} (h : Below w1.heap.size w1 w2) (g : n < w1.heap.size) : n < w2.heap.size := Nat.lt_of_lt_of_le g h.size
theorem vset1 {w : World} {g : Nat} {t : TypeId} {cs : Array Value} (h : w.heap[g]? = some (.cells cs t (0, 0))) (i : Nat) (a : Value) : (w.setCell ⟨g, i, none⟩ a).heap[g]? = some (.cells (cs.setIfInBounds i a) t (0, 0)) := by
  simp [World.setCell, Array.getElem?_modify, h]
theorem vset1o {w : World} {g j : Nat} {o : Obj} (h : w.heap[g]? = some o) (hj : j ≠ g) (i : Nat) (a : Value) : (w.setCell ⟨j, i, none⟩ a).heap[g]? = some o := by
  simp [World.setCell, Array.getElem?_modify, h, hj]
theorem vblk1 {w w1 : World} {o : Obj} (h : Below (w.alloc o).heap.size (w.alloc o) w1) : w1.heap[w.heap.size]? = some o := by
  have e : (w.alloc o).heap.size = w.heap.size + 1 := by simp
  rw [h.block w.heap.size (by omega)]; exact heap_alloc_new w o
theorem vblk2 {w w1 : World} {o p : Obj} (h : Below ((w.alloc o).alloc p).heap.size ((w.alloc o).alloc p) w1) : w1.heap[w.heap.size]? = some o ∧ w1.heap[w.heap.size + 1]? = some p := by
  have e : (w.alloc o).heap.size = w.heap.size + 1 := by simp
  have e2 : ((w.alloc o).alloc p).heap.size = w.heap.size + 1 + 1 := by simp
  refine ⟨?_, ?_⟩
  · rw [h.block w.heap.size (by omega), ← heap_alloc_new w o]
    exact (vzero (w.alloc o) p).block _ (by omega)
  · rw [h.block (w.heap.size + 1) (by omega), ← e]; exact heap_alloc_new _ p
theorem vblkn {w1 w2 : World} {g : Nat} {o : Obj} (h : Below w1.heap.size w1 w2) (hb : w1.heap[g]? = some o) : w2.heap[g]? = some o := by
  have hg : g < w1.heap.size := by
    rcases Nat.lt_or_ge g w1.heap.size with c | c
    · exact c
    · rw [Array.getElem?_eq_none c] at hb; cases hb
  rw [h.block g hg]; exact hb
theorem vcells {w : World} {g : Nat} {t : TypeId} {cs : Array Value} (h : w.heap[g]? = some (.cells cs t (0, 0))) (i : Nat) : w.cell? ⟨g, i, none⟩ = cs[i]? := cell_of_row w g i cs t (0, 0) h
theorem vfz {w : World} {g : Nat} {t : TypeId} {cs : Array Value} (h : w.heap[g]? = some (.cells cs t (0, 0))) (i : Nat) : w.frozen? ⟨g, i, none⟩ = false := by
  simp [World.frozen?, h]
theorem vc4 {w : World} {g : Nat} {t : TypeId} {c0 c1 c2 c3 : Value} (h : w.heap[g]? = some (.cells #[c0, c1, c2, c3] t (0, 0))) :
    w.cell? ⟨g, 0, none⟩ = some c0 ∧ w.cell? ⟨g, 1, none⟩ = some c1 ∧ w.cell? ⟨g, 2, none⟩ = some c2 ∧ w.cell? ⟨g, 3, none⟩ = some c3 ∧ ∀ i, w.frozen? ⟨g, i, none⟩ = false := ⟨vcells h 0, vcells h 1, vcells h 2, vcells h 3, vfz h⟩
/-- a function whose one result is a value in a block of its own -/
theorem val_end {f : Func} {i : Nat} {t : TypeId} {Q : Ending → World → Prop} {tmps : Array Value} {W : World} {g : Nat} {k : Int} {x : Nat} {s : ByteArray} {r : Int} (hf : f.results = #[.cell i 24])
    (h2 : tmps[i]?.getD undef = .pointer (some ⟨g, 0, none⟩)) (hb : W.heap[g]? = some (.cells #[.int .u8 k, .float .f64 x, .string s, .int .i64 r] t (0, 0))) (hQ : Q (.returned (.agg #[.int .u8 k, .float .f64 x, .string s, .int .i64 r])) W) :
    bodyPost Try.prog f Q .ret { tmps := tmps, defers := [] } W := by
  have c0 : W.cell? ⟨g, 0, none⟩ = some (.int .u8 k) := vcells hb 0
  have c1 : W.cell? ⟨g, 1, none⟩ = some (.float .f64 x) := vcells hb 1
  have c2 : W.cell? ⟨g, 2, none⟩ = some (.string s) := vcells hb 2
  have c3 : W.cell? ⟨g, 3, none⟩ = some (.int .i64 r) := vcells hb 3
  clear hb
  refine bodyPost_ret (v := .agg #[.int .u8 k, .float .f64 x, .string s, .int .i64 r]) ?_ rfl hQ
  simp [h2, c0, c1, c2, c3, results, hf, go_sem]
theorem vset4 {w : World} {g : Nat} {t : TypeId} {c0 c1 c2 c3 : Value} (h : w.heap[g]? = some (.cells #[c0, c1, c2, c3] t (0, 0))) (a b c d : Value) :
    ((((w.setCell ⟨g, 0, none⟩ a).setCell ⟨g, 1, none⟩ b).setCell ⟨g, 2, none⟩ c).setCell ⟨g, 3, none⟩ d).heap[g]? = some (.cells #[a, b, c, d] t (0, 0)) :=
  vset1 (vset1 (vset1 (vset1 h 0 a) 1 b) 2 c) 3 d
theorem vbel4 {B g : Nat} {w0 w : World} (h : Below B w0 w) (hg : B ≤ g) (a b c d : Value) :
    Below B w0 ((((w.setCell ⟨g, 0, none⟩ a).setCell ⟨g, 1, none⟩ b).setCell ⟨g, 2, none⟩ c).setCell ⟨g, 3, none⟩ d) :=
  (((h.setCell (p := ⟨g, 0, none⟩) hg a).setCell (p := ⟨g, 1, none⟩) hg b).setCell (p := ⟨g, 2, none⟩) hg c).setCell (p := ⟨g, 3, none⟩) hg d
def valG (k x : Nat) (s : ByteArray) (r : Int) : Value := .agg #[.int .u8 (k : Int), .float .f64 x, .string s, .int .i64 r]

def oneB (b : Bool) : Nat := if b then 4607182418800017408 else 0
end Go.Proofs.Ytkmgdaagannhkaa.S
/-
  The small functions of package value: walks, for any value.
-/
namespace Go.Proofs.Ytkmgdaagannhkaa.S
open Go.RowKit Fl

theorem kd_eq (k n : Nat) : ((k : Int) == (n : Int)) = (k == n) := by rw [Bool.eq_iff_iff]; simp only [beq_iff_eq]; omega
theorem Calls_v (k x : Nat) (s : ByteArray) (r : Int) (w : World) : Calls Try.prog 45 #[.agg #[.int .u8 (k : Int), .float .f64 x, .string s, .int .i64 r]] w fun e w' => e = .returned (.bool (calB k)) ∧ Below w.heap.size w w' := by
  have e7 : ((k : Int) == 7) = (k == 7) := kd_eq k 7
  have e8 : ((k : Int) == 8) = (k == 8) := kd_eq k 8
  unfold calB
  cases h7 : (k == 7) <;> cases h8 : (k == 8)
  all_goals
    rw [h7] at e7
    rw [h8] at e8
    go_enter Try.func45, Try.ntmps45
    go_wp2
    go_ret
    exact ⟨rfl, vzero _ _⟩
theorem IsObject_v (k x : Nat) (s : ByteArray) (r : Int) (w : World) : Calls Try.prog 24 #[.agg #[.int .u8 (k : Int), .float .f64 x, .string s, .int .i64 r]] w fun e w' => e = .returned (.bool (objB k)) ∧ Below w.heap.size w w' := by
  have e6 : ((k : Int) == 6) = (k == 6) := kd_eq k 6
  have ho : objB k = (k == 6 || calB k) := by unfold objB calB; cases (k == 6) <;> rfl
  have kc := fun w => Calls_v k x s r w
  rw [ho]
  cases h6 : (k == 6)
  all_goals
    rw [h6] at e6
    go_enter Try.func24, Try.ntmps24
    go_wp2_with (go_at_call 45; refine (kc _).mono ?_; rintro e w1 ⟨rfl, h1⟩)
    go_ret
  · exact ⟨rfl, vafter h1⟩
  · exact ⟨rfl, vzero _ _⟩
theorem IsNaN_f (x : Nat) (w : World) : Calls Try.prog 46 #[.float .f64 x] w fun e w' => e = .returned (.bool (FloatKind.f64.format.order x x != some .eq)) ∧ w = w' := by
  go_enter Try.func46, Try.ntmps46
  go_wp2
  go_ret
  exact ⟨rfl, rfl⟩
theorem none_v (k x : Nat) (s : ByteArray) (r : Int) (w : World) : Calls Try.prog 25 #[.agg #[.int .u8 (k : Int), .float .f64 x, .string s, .int .i64 r]] w fun e w' => e = .returned (.bool (k == 3 && !feq x x)) ∧ Below w.heap.size w w' := by
  have e3 : ((k : Int) == 3) = (k == 3) := kd_eq k 3
  have kn := fun w => IsNaN_f x w
  cases h3 : (k == 3)
  all_goals
    rw [h3] at e3
    go_enter Try.func25, Try.ntmps25
    go_wp2_with (go_at_call 46; refine (kn _).mono ?_; rintro e w' ⟨rfl, rfl⟩)
    go_ret
    exact ⟨rfl, vzero _ _⟩
end Go.Proofs.Ytkmgdaagannhkaa.S
/-
  value.Same, Strict: walks, for any values that may be.
-/
namespace Go.Proofs.Ytkmgdaagannhkaa.S
open Go.RowKit Fl

section
variable (k x : Nat) (s : ByteArray) (r : Int) (k' x' : Nat) (s' : ByteArray) (r' : Int) (w : World)
theorem Same_obj (h : objB k = true) (h' : objB k' = true) : Calls Try.prog 18 #[.agg #[.int .u8 (k : Int), .float .f64 x, .string s, .int .i64 r], .agg #[.int .u8 (k' : Int), .float .f64 x', .string s', .int .i64 r']] w fun e w' => e = .returned (.bool (r == r')) ∧ Below w.heap.size w w' := by
  have k1 := fun w => IsObject_v k x s r w
  have k2 := fun w => IsObject_v k' x' s' r' w
  rw [h] at k1
  rw [h'] at k2
  clear h h'
  go_enter Try.func18, Try.ntmps18
  go_wp2_with (go_at_call 24; first | ((with_reducible refine (k1 _).mono ?_); rintro e w1 ⟨rfl, h1⟩; obtain ⟨hc1, hf1⟩ := vcell h1; obtain ⟨hz1, hz2⟩ := vlt2 h1) | ((with_reducible refine (k2 _).mono ?_); rintro e w2 ⟨rfl, h2⟩; obtain ⟨hc2, hf2⟩ := vcell h2; have hz3 := vltn h2 hz1; have hz4 := vltn h2 hz2))
  go_ret
  exact ⟨rfl, vafter2 (vb h1 h2)⟩
theorem Same_ne (h : (objB k && objB k') = false) (hne : k ≠ k') : Calls Try.prog 18 #[.agg #[.int .u8 (k : Int), .float .f64 x, .string s, .int .i64 r], .agg #[.int .u8 (k' : Int), .float .f64 x', .string s', .int .i64 r']] w fun e w' => e = .returned (.bool false) ∧ Below w.heap.size w w' := by
  have k1 := fun w => IsObject_v k x s r w
  have k2 := fun w => IsObject_v k' x' s' r' w
  have hn : ((k : Int) != (k' : Int)) = true := by rw [bne_iff_ne]; omega
  cases ho : objB k
  · rw [ho] at k1
    clear h ho
    go_enter Try.func18, Try.ntmps18
    go_wp2_with (go_at_call 24; (with_reducible refine (k1 _).mono ?_); rintro e w1 ⟨rfl, h1⟩; obtain ⟨hc1, hf1⟩ := vcell h1; obtain ⟨hz1, hz2⟩ := vlt2 h1)
    go_ret
    exact ⟨rfl, vafter2 h1⟩
  · rw [ho] at k1 h
    rw [Bool.true_and] at h
    rw [h] at k2
    clear h ho
    go_enter Try.func18, Try.ntmps18
    go_wp2_with (go_at_call 24; first | ((with_reducible refine (k1 _).mono ?_); rintro e w1 ⟨rfl, h1⟩; obtain ⟨hc1, hf1⟩ := vcell h1; obtain ⟨hz1, hz2⟩ := vlt2 h1) | ((with_reducible refine (k2 _).mono ?_); rintro e w2 ⟨rfl, h2⟩; obtain ⟨hc2, hf2⟩ := vcell h2; have hz3 := vltn h2 hz1; have hz4 := vltn h2 hz2))
    go_ret
    exact ⟨rfl, vafter2 (vb h1 h2)⟩
end
section
variable (x : Nat) (s : ByteArray) (r : Int) (x' : Nat) (s' : ByteArray) (r' : Int) (w : World)
theorem Same_k01 (k : Nat) (hk : k = 0 ∨ k = 1) : Calls Try.prog 18 #[.agg #[.int .u8 (k : Int), .float .f64 x, .string s, .int .i64 r], .agg #[.int .u8 (k : Int), .float .f64 x', .string s', .int .i64 r']] w fun e w' => e = .returned (.bool true) ∧ Below w.heap.size w w' := by
  rcases hk with rfl | rfl
  all_goals simp only [Int.ofNat_zero, Int.natCast_one]
  · have k1 : ∀ w, Calls Try.prog 24 #[.agg #[.int .u8 0, .float .f64 x, .string s, .int .i64 r]] w (fun e w' => e = .returned (.bool false) ∧ Below w.heap.size w w') := fun w => IsObject_v 0 x s r w
    go_enter Try.func18, Try.ntmps18
    go_wp2_with (go_at_call 24; (with_reducible refine (k1 _).mono ?_); rintro e w1 ⟨rfl, h1⟩; obtain ⟨hc1, hf1⟩ := vcell h1; obtain ⟨hz1, hz2⟩ := vlt2 h1)
    go_ret
    exact ⟨rfl, vafter2 h1⟩
  · have k1 : ∀ w, Calls Try.prog 24 #[.agg #[.int .u8 1, .float .f64 x, .string s, .int .i64 r]] w (fun e w' => e = .returned (.bool false) ∧ Below w.heap.size w w') := fun w => IsObject_v 1 x s r w
    go_enter Try.func18, Try.ntmps18
    go_wp2_with (go_at_call 24; (with_reducible refine (k1 _).mono ?_); rintro e w1 ⟨rfl, h1⟩; obtain ⟨hc1, hf1⟩ := vcell h1; obtain ⟨hz1, hz2⟩ := vlt2 h1)
    go_ret
    exact ⟨rfl, vafter2 h1⟩
theorem Same_k2 : Calls Try.prog 18 #[.agg #[.int .u8 2, .float .f64 x, .string s, .int .i64 r], .agg #[.int .u8 2, .float .f64 x', .string s', .int .i64 r']] w fun e w' => e = .returned (.bool (feq x x')) ∧ Below w.heap.size w w' := by
  have k1 : ∀ w, Calls Try.prog 24 #[.agg #[.int .u8 2, .float .f64 x, .string s, .int .i64 r]] w (fun e w' => e = .returned (.bool false) ∧ Below w.heap.size w w') := fun w => IsObject_v 2 x s r w
  go_enter Try.func18, Try.ntmps18
  go_wp2_with (go_at_call 24; (with_reducible refine (k1 _).mono ?_); rintro e w1 ⟨rfl, h1⟩; obtain ⟨hc1, hf1⟩ := vcell h1; obtain ⟨hz1, hz2⟩ := vlt2 h1)
  go_ret
  exact ⟨rfl, vafter2 h1⟩
theorem Same_k3 : Calls Try.prog 18 #[.agg #[.int .u8 3, .float .f64 x, .string s, .int .i64 r], .agg #[.int .u8 3, .float .f64 x', .string s', .int .i64 r']] w fun e w' => e = .returned (.bool (feq x x' || (!feq x x && !feq x' x'))) ∧ Below w.heap.size w w' := by
  have k1 : ∀ w, Calls Try.prog 24 #[.agg #[.int .u8 3, .float .f64 x, .string s, .int .i64 r]] w (fun e w' => e = .returned (.bool false) ∧ Below w.heap.size w w') := fun w => IsObject_v 3 x s r w
  have n1 : ∀ w, Calls Try.prog 25 #[.agg #[.int .u8 3, .float .f64 x, .string s, .int .i64 r]] w (fun e w' => e = .returned (.bool (!feq x x)) ∧ Below w.heap.size w w') := fun w => none_v 3 x s r w
  have n2 : ∀ w, Calls Try.prog 25 #[.agg #[.int .u8 3, .float .f64 x', .string s', .int .i64 r']] w (fun e w' => e = .returned (.bool (!feq x' x')) ∧ Below w.heap.size w w') := fun w => none_v 3 x' s' r' w
  have hf : (FloatKind.f64.format.order x x' == some .eq) = feq x x' := rfl
  cases h0 : feq x x'
  · rw [h0] at hf
    cases h1 : feq x x
    · rw [h1] at n1
      clear h0 h1
      go_enter Try.func18, Try.ntmps18
      go_wp2_with (first | (go_at_call 24; (with_reducible refine (k1 _).mono ?_); rintro e w1 ⟨rfl, h1⟩; obtain ⟨hc1, hf1⟩ := vcell h1; obtain ⟨hz1, hz2⟩ := vlt2 h1) | (go_at_call 25; first | ((with_reducible refine (n1 _).mono ?_); rintro e w2 ⟨rfl, h2⟩; obtain ⟨hc2, hf2⟩ := vcell h2; have hz3 := vltn h2 hz1; have hz4 := vltn h2 hz2) | ((with_reducible refine (n2 _).mono ?_); rintro e w3 ⟨rfl, h3⟩)))
      go_ret
      exact ⟨rfl, vafter2 (vb (vb h1 h2) h3)⟩
    · rw [h1] at n1
      clear h0 h1
      go_enter Try.func18, Try.ntmps18
      go_wp2_with (first | (go_at_call 24; (with_reducible refine (k1 _).mono ?_); rintro e w1 ⟨rfl, h1⟩; obtain ⟨hc1, hf1⟩ := vcell h1; obtain ⟨hz1, hz2⟩ := vlt2 h1) | (go_at_call 25; (with_reducible refine (n1 _).mono ?_); rintro e w2 ⟨rfl, h2⟩; obtain ⟨hc2, hf2⟩ := vcell h2; have hz3 := vltn h2 hz1; have hz4 := vltn h2 hz2))
      go_ret
      exact ⟨rfl, vafter2 (vb h1 h2)⟩
  · rw [h0] at hf
    clear h0
    go_enter Try.func18, Try.ntmps18
    go_wp2_with (go_at_call 24; (with_reducible refine (k1 _).mono ?_); rintro e w1 ⟨rfl, h1⟩; obtain ⟨hc1, hf1⟩ := vcell h1; obtain ⟨hz1, hz2⟩ := vlt2 h1)
    go_ret
    exact ⟨rfl, vafter2 h1⟩
theorem Same_k4 : Calls Try.prog 18 #[.agg #[.int .u8 4, .float .f64 x, .string s, .int .i64 r], .agg #[.int .u8 4, .float .f64 x', .string s', .int .i64 r']] w fun e w' => e = .returned (.bool (s.data.toList == s'.data.toList)) ∧ Below w.heap.size w w' := by
  have k1 : ∀ w, Calls Try.prog 24 #[.agg #[.int .u8 4, .float .f64 x, .string s, .int .i64 r]] w (fun e w' => e = .returned (.bool false) ∧ Below w.heap.size w w') := fun w => IsObject_v 4 x s r w
  go_enter Try.func18, Try.ntmps18
  go_wp2_with (go_at_call 24; (with_reducible refine (k1 _).mono ?_); rintro e w1 ⟨rfl, h1⟩; obtain ⟨hc1, hf1⟩ := vcell h1; obtain ⟨hz1, hz2⟩ := vlt2 h1)
  go_ret
  exact ⟨ret_bool (by simp [toList_data]), vafter2 h1⟩
theorem Same_k5 : Calls Try.prog 18 #[.agg #[.int .u8 5, .float .f64 x, .string s, .int .i64 r], .agg #[.int .u8 5, .float .f64 x', .string s', .int .i64 r']] w fun e w' => e = .returned (.bool (r == r')) ∧ Below w.heap.size w w' := by
  have k1 : ∀ w, Calls Try.prog 24 #[.agg #[.int .u8 5, .float .f64 x, .string s, .int .i64 r]] w (fun e w' => e = .returned (.bool false) ∧ Below w.heap.size w w') := fun w => IsObject_v 5 x s r w
  go_enter Try.func18, Try.ntmps18
  go_wp2_with (go_at_call 24; (with_reducible refine (k1 _).mono ?_); rintro e w1 ⟨rfl, h1⟩; obtain ⟨hc1, hf1⟩ := vcell h1; obtain ⟨hz1, hz2⟩ := vlt2 h1)
  go_ret
  exact ⟨rfl, vafter2 h1⟩
end
/-- of any values whose kinds there are -/
theorem Same_any (k x : Nat) (s : ByteArray) (r : Int) (k' x' : Nat) (s' : ByteArray) (r' : Int) (hk : k ≤ 8) (w : World) : Calls Try.prog 18 #[.agg #[.int .u8 (k : Int), .float .f64 x, .string s, .int .i64 r], .agg #[.int .u8 (k' : Int), .float .f64 x', .string s', .int .i64 r']] w fun e w' => e = .returned (.bool (sameG k x s r k' x' s' r')) ∧ Below w.heap.size w w' := by
  unfold sameG
  cases ho : (objB k && objB k')
  · rw [if_neg (by decide)]
    by_cases hne : k ≠ k'
    · rw [if_pos hne]
      exact Same_ne _ _ _ _ _ _ _ _ _ ho hne
    · rw [if_neg hne]
      obtain rfl : k = k' := Classical.not_not.1 hne
      rw [Bool.and_self] at ho
      have h5 : k = 0 ∨ k = 1 ∨ k = 2 ∨ k = 3 ∨ k = 4 ∨ k = 5 := by
        have h6 : k ≠ 6 := fun e => by rw [e] at ho; cases ho
        have h7 : k ≠ 7 := fun e => by rw [e] at ho; cases ho
        have h8 : k ≠ 8 := fun e => by rw [e] at ho; cases ho
        omega
      rcases h5 with rfl | rfl | rfl | rfl | rfl | rfl
      · exact Same_k01 _ _ _ _ _ _ _ 0 (.inl rfl)
      · exact Same_k01 _ _ _ _ _ _ _ 1 (.inr rfl)
      · exact Same_k2 _ _ _ _ _ _ _
      · exact Same_k3 _ _ _ _ _ _ _
      · exact Same_k4 _ _ _ _ _ _ _
      · exact Same_k5 _ _ _ _ _ _ _
  · rw [if_pos rfl]
    rw [Bool.and_eq_true] at ho
    exact Same_obj _ _ _ _ _ _ _ _ _ ho.1 ho.2
end Go.Proofs.Ytkmgdaagannhkaa.S
/-
  value.May: walks, for any value.
-/
namespace Go.Proofs.Ytkmgdaagannhkaa.S
open Go.RowKit Fl

structure NoK (k : Nat) : Prop where
  n0 : ((k : Int) == 0) = false
  n1 : ((k : Int) == 1) = false
  n2 : ((k : Int) == 2) = false
  n3 : ((k : Int) == 3) = false
  n4 : ((k : Int) == 4) = false
  n5 : ((k : Int) == 5) = false
  n6 : ((k : Int) == 6) = false
  n7 : ((k : Int) == 7) = false
  n8 : ((k : Int) == 8) = false
theorem veq_float (d : Nat) (a b : Nat) (w : World) : (Op.equalIn (d + 1) 22 (.float .f64 a) (.float .f64 b)).run Try.prog w = .ok (feq a b) w := by
  simp [Op.equalIn, run_underlying Try.underlying22]; rfl

section
variable (x : Nat) (s : ByteArray) (r : Int) (w : World)
/-- what stands beside the field of a kind -/
theorem beside_same (k : Nat) (h2 : ((k : Int) == 2) = false) (h3 : ((k : Int) == 3) = false) (h4 : ((k : Int) == 4) = false) (h5 : ((k : Int) == 5) = false) (ho : objB k = false) :
    Calls Try.prog 62 #[.agg #[.int .u8 (k : Int), .float .f64 x, .string s, .int .i64 r]] w fun e w' => e = .returned (.agg #[.int .u8 (k : Int), .float .f64 x, .string s, .int .i64 r]) ∧ Below w.heap.size w w' := by
  have k1 := fun w => IsObject_v k x s r w
  rw [ho] at k1
  clear ho
  have hst := vstore
  go_enter Try.func62, Try.ntmps62
  go_wp2_with (go_at_call 24; (with_reducible refine (k1 _).mono ?_); rintro e w1 ⟨rfl, h1⟩; obtain ⟨hc1, hf1⟩ := vcell h1; obtain ⟨hz1, hz2⟩ := vlt2 h1)
  exact val_end Try.results62 rfl (vset4 (vblk2 h1).2 _ _ _ _) ⟨rfl, vbel4 (vafter2 h1) (Nat.le_succ _) _ _ _ _⟩
theorem beside_k2 : Calls Try.prog 62 #[.agg #[.int .u8 2, .float .f64 x, .string s, .int .i64 r]] w fun e w' => e = .returned (.agg #[.int .u8 2, .float .f64 0, .string s, .int .i64 r]) ∧ Below w.heap.size w w' := by
  have hst := vstore
  go_enter Try.func62, Try.ntmps62
  go_wp2_with (fail)
  exact val_end Try.results62 rfl (vblk2 (Below.refl _ _)).2 ⟨rfl, vafter2 (Below.refl _ _)⟩
theorem beside_k3 : Calls Try.prog 62 #[.agg #[.int .u8 3, .float .f64 x, .string s, .int .i64 r]] w fun e w' => e = .returned (.agg #[.int .u8 3, .float .f64 0, .string s, .int .i64 r]) ∧ Below w.heap.size w w' := by
  have hst := vstore
  go_enter Try.func62, Try.ntmps62
  go_wp2_with (fail)
  exact val_end Try.results62 rfl (vblk2 (Below.refl _ _)).2 ⟨rfl, vafter2 (Below.refl _ _)⟩
theorem beside_k4 : Calls Try.prog 62 #[.agg #[.int .u8 4, .float .f64 x, .string s, .int .i64 r]] w fun e w' => e = .returned (.agg #[.int .u8 4, .float .f64 x, .string ⟨#[]⟩, .int .i64 r]) ∧ Below w.heap.size w w' := by
  have hst := vstore
  go_enter Try.func62, Try.ntmps62
  go_wp2_with (fail)
  exact val_end Try.results62 rfl (vblk2 (Below.refl _ _)).2 ⟨rfl, vafter2 (Below.refl _ _)⟩
theorem beside_k5 : Calls Try.prog 62 #[.agg #[.int .u8 5, .float .f64 x, .string s, .int .i64 r]] w fun e w' => e = .returned (.agg #[.int .u8 5, .float .f64 x, .string s, .int .i64 0]) ∧ Below w.heap.size w w' := by
  have hst := vstore
  go_enter Try.func62, Try.ntmps62
  go_wp2_with (fail)
  exact val_end Try.results62 rfl (vblk2 (Below.refl _ _)).2 ⟨rfl, vafter2 (Below.refl _ _)⟩
theorem beside_obj (k : Nat) (h2 : ((k : Int) == 2) = false) (h3 : ((k : Int) == 3) = false) (h4 : ((k : Int) == 4) = false) (h5 : ((k : Int) == 5) = false) (ho : objB k = true) :
    Calls Try.prog 62 #[.agg #[.int .u8 (k : Int), .float .f64 x, .string s, .int .i64 r]] w fun e w' => e = .returned (.agg #[.int .u8 (k : Int), .float .f64 x, .string s, .int .i64 0]) ∧ Below w.heap.size w w' := by
  have k1 := fun w => IsObject_v k x s r w
  rw [ho] at k1
  clear ho
  have hst := vstore
  go_enter Try.func62, Try.ntmps62
  go_wp2_with (go_at_call 24; (with_reducible refine (k1 _).mono ?_); rintro e w1 ⟨rfl, h1⟩; obtain ⟨hc1, hf1⟩ := vcell h1; obtain ⟨hz1, hz2⟩ := vlt2 h1; obtain ⟨b1, b2⟩ := vblk2 h1; have c0 : w1.cell? ⟨w.heap.size, 0, none⟩ = some (.int .u8 (k : Int)) := vcells b1 0; have c1 : w1.cell? ⟨w.heap.size, 1, none⟩ = some (.float .f64 x) := vcells b1 1; have c2 : w1.cell? ⟨w.heap.size, 2, none⟩ = some (.string s) := vcells b1 2; have c3 : w1.cell? ⟨w.heap.size, 3, none⟩ = some (.int .i64 r) := vcells b1 3)
  exact val_end Try.results62 rfl (vset4 ((vset1o b2 (by omega) 3 _)) _ _ _ _) ⟨rfl, vbel4 ((vafter2 h1).setCell (p := ⟨w.heap.size, 3, none⟩) (Nat.le_refl _) _) (Nat.le_succ _) _ _ _ _⟩
end
end Go.Proofs.Ytkmgdaagannhkaa.S
