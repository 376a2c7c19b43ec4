/-
  DERIVED: THE SHELF's CONTRACTS AT THIS DUMP, IN PLAIN WORDS (tools/lay-plain.mjs out of 'YtkcikdggfbjedaaGreatDoorKeyShelfTry.lean', which tools/lay-shelf.mjs wrote): THE SAME DECLARATIONS UNDER THE SAME NAMES: 'import', 'namespace', 'open', 'def', 'theorem' AND NOTHING ELSE: no command of the shelf's: FOR A HAND-IN. Each laying: the table of numbers ('.._ren') and one theorem, a field a fact of the dump's own or the kernel's comparison; each contract: ONE APPLICATION.
-/
import Derived.Shelf.GgSortMore.Lays
import Derived.Test.YtkcikdggfbjedaaGreatDoorProg
import Derived.Test.YtkcikdggfbjedaaGreatDoorCH04
import Derived.Test.YtkcikdggfbjedaaGreatDoorCH08
import Derived.OwnWalk
import Derived.Deep.RegionWith
import Derived.Shelf.Strings.Builder1
import Derived.Shelf.Strings.Builder2
import Derived.Shelf.Strings.Search3
import Derived.Shelf.Strings.Shaped
import Derived.Shelf.LaysM
import Derived.Test.YtkcikdggfbjedaaGreatDoorChecked
import Derived.WalkKit
import Derived.WalkSpells
import Derived.WalkLawsBesides
import Derived.BigCall
import Derived.Lib.Hide
import Derived.Deep.RegionHeld3
import Derived.Deep.QuietTactic
import Derived.BigQuiet
namespace Go.Proofs
open Go.Shelf
def Tryz.sl8_ren : Go.Shelf.Ren := ⟨fun | 8 => 146 | 13 => 152 | 14 => 153 | 16 => 155 | 15 => 154 | 29 => 176 | 30 => 177 | 42 => 186 | 49 => 194 | n => n, fun | 20 => 20 | 26 => 178 | 36 => 188 | 0 => 0 | 38 => 190 | 42 => 194 | 3 => 3 | 4 => 4 | 47 => 210 | 17 => 17 | 33 => 185 | 34 => 186 | 89 => 252 | 12 => 12 | 56 => 233 | 82 => 245 | 5 => 5 | 83 => 246 | 84 => 247 | 85 => 248 | 86 => 249 | 87 => 250 | n => n, fun | n => n⟩
end Go.Proofs
/-
  Keys: the rows of key.Order, sorted.
-/
namespace Go.Proofs.YtkcikdggfbjedaaGreatDoor.S
open Go.Shelf Go.RowKit Go.Lib Go.Sort Fl

/-- a key -/
structure Ky where
  str : ByteArray
  sym : Int
instance : Inhabited Ky := ⟨⟨⟨#[]⟩, 0⟩⟩
def rkKy (k : Ky) : Nat := rkK k.str k.sym
/-- a row's cells: the rank and the key -/
def encR (k : Ky) : List Value := [.int .i64 (rkKy k : Nat), .string k.str, .int .i64 k.sym]
noncomputable def rowsT : TypeInfo := (Tryz.prog.info? 174).get (by kernel_rfl)
noncomputable def rowT : TypeInfo := (Tryz.prog.info? 177).get (by kernel_rfl)
end Go.Proofs.YtkcikdggfbjedaaGreatDoor.S
/-
  key.Order: what its loops keep; what the sort leaves.
-/
namespace Go.Proofs.YtkcikdggfbjedaaGreatDoor.S
open Go.RowKit Go.Sort Fl

def KyIn (k : Ky) : Prop := k.str.size ≤ maxLen ∧ -2 ^ 63 ≤ k.sym ∧ k.sym < 2 ^ 63
/-- keys in a row, wherever it lies -/
def RK (w : World) (A : Option Addr) (L : List Ky) : Prop := 0 < L.length → ∃ a, A = some a ∧ a.block < w.heap.size ∧ ∀ i (h : i < L.length), w.cell? (a.add (i * 2)) = some (.string L[i].str) ∧ w.cell? ⟨(a.add (i * 2)).block, (a.add (i * 2)).off + 1, none⟩ = some (.int .i64 L[i].sym)
def kyCells (L : List Ky) : List Value := L.flatMap fun k => [.string k.str, .int .i64 k.sym]
/-- the order of keys -/
structure OrdOf (L M : List Ky) : Prop where
  sorted : M.Pairwise fun a b => rkKy a ≤ rkKy b
  fil : ∀ r, M.filter (fun k => rkKy k == r) = L.filter (fun k => rkKy k == r)
  len : M.length = L.length
def OrdTo (L : List Ky) (w : World) (e : Ending) (w' : World) : Prop := ∃ M O, e = .returned (.slice (some ⟨O, 0, none⟩) L.length L.length) ∧ OrdOf L M ∧ w.heap.size ≤ O ∧ w'.heap[O]? = some (.cells (kyCells M).toArray 45 (0, 0)) ∧ Below w.heap.size w w'
/-- in the midst of filling the rows -/
structure Lp1 (L : List Ky) (w : World) (B i : Nat) (wr : World) : Prop where
  below : Below w.heap.size w wr
  box : wr.heap[B]? = some (.cells #[.slice (some ⟨w.heap.size, 0, none⟩) L.length L.length] 174 (0, 0))
  rows : ∃ cs : Array Value, cs.size = L.length * 3 ∧ wr.heap[w.heap.size]? = some (.cells cs 177 (0, 0)) ∧ ∀ j (hj : j < L.length), j < i → cs[j * 3]? = some (.int .i64 (rkKy L[j] : Nat)) ∧ cs[j * 3 + 1]? = some (.string L[j].str) ∧ cs[j * 3 + 2]? = some (.int .i64 L[j].sym)
theorem lt_blk {w : World} {g : Nat} {o : Obj} (hb : w.heap[g]? = some o) : g < w.heap.size := by
  rcases Nat.lt_or_ge g w.heap.size with c | c
  · exact c
  · rw [Array.getElem?_eq_none c] at hb; cases hb
theorem Lp1.alloc {L : List Ky} {w : World} {B i : Nat} {wr : World} (h : Lp1 L w B i wr) (o : Obj) : Lp1 L w B i (wr.alloc o) := by
  have hB := lt_blk h.box
  obtain ⟨cs, h1, h2, h3⟩ := h.rows
  have hR := lt_blk h2
  exact ⟨vb h.below (vzero wr o), ((vzero wr o).block _ hB).trans h.box, cs, h1, ((vzero wr o).block _ hR).trans h2, h3⟩
/-- in the midst of copying the keys out -/
structure Lp2 (d : Array Ky) (w : World) (R O i : Nat) (wr : World) : Prop where
  below : Below w.heap.size w wr
  rows : HoldsK encR 3 wr R 0 d
  out : ∃ cs : Array Value, cs.size = d.size * 2 ∧ wr.heap[O]? = some (.cells cs 45 (0, 0)) ∧ ∀ j, j < d.size → j < i → cs[j * 2]? = some (.string d[j]!.str) ∧ cs[j * 2 + 1]? = some (.int .i64 d[j]!.sym)
end Go.Proofs.YtkcikdggfbjedaaGreatDoor.S
/-
  key.Order: walk.
-/
namespace Go.Proofs.YtkcikdggfbjedaaGreatDoor.S
open Go.RowKit Go.Sort Fl

end Go.Proofs.YtkcikdggfbjedaaGreatDoor.S
/-
  DERIVED: THE SHELF's CONTRACTS AT THIS DUMP, IN PLAIN WORDS (tools/lay-plain.mjs out of 'YtkcikdggfbjedaaGreatDoorStrShelfTry.lean', which tools/lay-shelf.mjs wrote): THE SAME DECLARATIONS UNDER THE SAME NAMES: 'import', 'namespace', 'open', 'def', 'theorem' AND NOTHING ELSE: no command of the shelf's: FOR A HAND-IN. Each laying: the table of numbers ('.._ren') and one theorem, a field a fact of the dump's own or the kernel's comparison; each contract: ONE APPLICATION.
-/
namespace Go.Proofs
open Go.Shelf
end Go.Proofs
/-
  The library's contracts of (*strings.Builder).WriteByte and WriteString laid at this seat by hand: the shelf's command lays them not where no body names the type of the panic's value.
-/
namespace Go.Proofs
open Go.Shelf
end Go.Proofs
/-
  The builder in the words of lists of bytes; a string laid anew: walks.
-/
namespace Go.Proofs.YtkcikdggfbjedaaGreatDoor.S
open Go.RowKit

theorem ret_bool {a b : Bool} (h : a = b) : Ending.returned (.bool a) = .returned (.bool b) := by rw [h]
theorem size_len (t : ByteArray) : t.size = t.data.toList.length := by simp
theorem toList_data (s : ByteArray) : s.toList = s.data.toList := Go.ByteArray.toList_eq s
/-- the answer is a string -/
def StrTo (t : ByteArray) (w : World) (e : Ending) (w' : World) : Prop := e = .returned (.string t) ∧ Below w.heap.size w w'
/-- the answer is a string and a number -/
def StrIntTo (t : ByteArray) (k : Int) (w : World) (e : Ending) (w' : World) : Prop := e = .returned (.tuple #[.string t, .int .i64 k]) ∧ Below w.heap.size w w'

end Go.Proofs.YtkcikdggfbjedaaGreatDoor.S
/-
  StrMade: Join and Repeat, the program's and the document's own: walks.
-/
namespace Go.Proofs.YtkcikdggfbjedaaGreatDoor.S
open Go.RowKit

def joinE (a b : ByteArray) : Int := if a.size + b.size > 4096 then 20 else 0
def joinT (a b : ByteArray) : ByteArray := if a.size + b.size > 4096 then ⟨#[]⟩ else ⟨(a.data.toList ++ b.data.toList).toArray⟩

/-- a list of bytes so many times -/
def reps (l : List UInt8) : Nat → List UInt8
  | 0 => []
  | k + 1 => reps l k ++ l
def repE (s : ByteArray) (n : Int) : Int := if n < 0 then 2 else if s.size = 0 then 0 else if n.toNat * s.size > 4096 then 20 else 0
def repT (s : ByteArray) (n : Int) : ByteArray := if n < 0 then ⟨#[]⟩ else if s.size = 0 then ⟨#[]⟩ else if n.toNat * s.size > 4096 then ⟨#[]⟩ else ⟨(reps s.data.toList n.toNat).toArray⟩

end Go.Proofs.YtkcikdggfbjedaaGreatDoor.S
/-
  Quote, the program's and the document's own: walks.
-/
namespace Go.Proofs.YtkcikdggfbjedaaGreatDoor.S
open Go.RowKit

/-- a sixteen's byte -/
def hexN (n : Nat) : Nat := if n < 10 then 48 + n else 87 + n
/-- what stands for a byte between quotes -/
def qb (c : UInt8) : List UInt8 :=
  if c.toNat = 34 ∨ c.toNat = 92 then [92, c] else if c.toNat = 10 then [92, 110] else if c.toNat = 9 then [92, 116] else if c.toNat = 13 then [92, 114]
  else if c.toNat < 32 ∨ 126 < c.toNat then [92, 120, (hexN (c.toNat / 16)).toUInt8, (hexN (c.toNat % 16)).toUInt8] else [c]
def quoteI (l : List UInt8) : List UInt8 := l.flatMap qb
def quoteL (l : List UInt8) : List UInt8 := 34 :: (quoteI l ++ [34])
def signT (n : Nat) : ByteArray := (⟨#[48, 49, 50, 51, 52, 53, 54, 55, 56, 57, 97, 98, 99, 100, 101, 102]⟩ : ByteArray).extract n (n + 1)
end Go.Proofs.YtkcikdggfbjedaaGreatDoor.S
/-
  Keys: the order is one; key.Sym, key.Text; the law's alive.
-/
namespace Go.Proofs.YtkcikdggfbjedaaGreatDoor.S
open Go.RowKit Fl

def kA : Ky := ⟨⟨#[97]⟩, 0⟩
def k3 : Ky := ⟨⟨#[51]⟩, 0⟩
/-- a key's text -/
def symText (n : Int) : ByteArray := (⟨#[115, 121, 109, 98, 111, 108, 32]⟩ : ByteArray) ++ ⟨(Lib.itoa n).toArray⟩
theorem of_keep (s : ByteArray) (g : Nat) (w0 w : World) (hg : g < w.heap.size) (hb : Below w0.heap.size w0 w) :
    Calls Tryz.prog 122 #[.string s] w fun e w' => e = .returned (.agg #[.string s, .int .i64 0]) ∧ g < w'.heap.size ∧ Below w0.heap.size w0 w' ∧ ∀ o, w'.cell? ⟨g, o, none⟩ = w.cell? ⟨g, o, none⟩ :=
  (keyOf_k s w).mono fun _ _ ⟨he, h⟩ => ⟨he, Nat.lt_of_lt_of_le hg h.size, vb hb h, fun o => h.cell (p := ⟨g, o, none⟩) hg⟩
end Go.Proofs.YtkcikdggfbjedaaGreatDoor.S
/-
  Plain, the program's and the document's own: what an escape stands for: walks.
-/
namespace Go.Proofs.YtkcikdggfbjedaaGreatDoor.S
open Go.RowKit

/-- what a digit of sixteens is worth -/
def worthN (n : Nat) : Int := if 48 ≤ n ∧ n ≤ 57 then (n : Int) - 48 else if 97 ≤ n ∧ n ≤ 102 then (n : Int) - 87 else -1
/-- what two digits of sixteens stand for -/
def hexOf (a b : Int) : UInt8 := (16 * a + b).toNat.toUInt8
def sixR (s : ByteArray) : UInt8 × Nat :=
  if h : s.size < 4 then (0, 0) else if worthN s[2].toNat < 0 ∨ worthN s[3].toNat < 0 then (0, 0) else (hexOf (worthN s[2].toNat) (worthN s[3].toNat), 4)
/-- the answer is a byte and how many bytes it is written with -/
def ByteTo (r : UInt8 × Nat) (w : World) (e : Ending) (w' : World) : Prop := e = .returned (.tuple #[.int .u8 (r.1.toNat : Int), .int .i64 (r.2 : Int)]) ∧ ∃ n, w' = w.drewN n

/-- what stands at a string's beginning: a byte, and how many bytes it is written with -/
def escS (s : ByteArray) : UInt8 × Nat :=
  if h0 : s.size < 1 then (0, 0)
  else if s[0].toNat ≠ 92 then (s[0], 1)
  else if h1 : s.size < 2 then (0, 0)
  else if s[1].toNat = 92 ∨ s[1].toNat = 34 ∨ s[1].toNat = 39 then (s[1], 2)
  else if s[1].toNat = 110 then (10, 2)
  else if s[1].toNat = 116 then (9, 2)
  else if s[1].toNat = 114 then (13, 2)
  else if s[1].toNat = 120 then sixR s
  else (0, 0)

/-- a literal's inside, gone through from a place on: the place of the backslash that begins no escape, or the bytes -/
def plainR (s : ByteArray) : Nat → Nat → List UInt8 → Nat ⊕ List UInt8
  | 0, _, acc => .inr acc
  | f + 1, i, acc => if i < s.size then (if (escS (s.extract i s.size)).2 = 0 then .inl i else plainR s f (i + (escS (s.extract i s.size)).2) (acc ++ [(escS (s.extract i s.size)).1])) else .inr acc
def outOf (r : Nat ⊕ List UInt8) : ByteArray × Int × Int :=
  match r with
  | .inl i => (⟨#[]⟩, (i : Int), 5)
  | .inr acc => if acc.length > 4096 then (⟨#[]⟩, 0, 20) else (⟨acc.toArray⟩, 0, 0)
def plainO (s : ByteArray) : ByteArray × Int × Int := if s.size > 65536 then (⟨#[]⟩, 0, 3) else outOf (plainR s s.size 0 [])
/-- the answer is a string, a place and a number -/
def Str3To (r : ByteArray × Int × Int) (w : World) (e : Ending) (w' : World) : Prop := e = .returned (.tuple #[.string r.1, .int .i64 r.2.1, .int .i64 r.2.2]) ∧ Below w.heap.size w w'

end Go.Proofs.YtkcikdggfbjedaaGreatDoor.S
/-
  Quoted and read it is itself: the facts of it without a walk.
-/
namespace Go.Proofs.YtkcikdggfbjedaaGreatDoor.S
open Go.RowKit
end Go.Proofs.YtkcikdggfbjedaaGreatDoor.S
