/-
  The writer of trees in plain mathematics: which tokens are told of a tree, or that it is refused. Open recursion: 'wstep rec' is one method's body, 'wrun n' is n bodies deep.
-/
import Derived.Test.YtablckajobefeaaGreatDoorPN07
import Derived.Test.YtablckajobefeaaGreatDoorPN06
import Derived.Test.YtablckajobefeaaGreatDoorPN04
import Derived.Deep.AppendLies
import Derived.Deep.Draws
import Derived.Shelf.Strings.BuilderK
import Derived.Lib.OthersKept
namespace Go.Proofs.YtablckajobefeaaGreatDoor.S
open Go.RowKit Fl

/-- how far a writer is: its tokens, and how many stood ahead of the expression statement that was begun last -/
structure Wr where
  toks : List Tk
  first : Int
/-- what a method comes to: how far one is then; a fault; or the depth of the recursion ran out -/
inductive WR where
  | ok (s : Wr)
  | bad (k : Int)
  | out
def WR.bind (r : WR) (f : Wr → WR) : WR :=
  match r with
  | .ok s => f s
  | .bad k => .bad k
  | .out => .out
theorem WR.bind_ok {r : WR} {s : Wr} (h : r = .ok s) (f : Wr → WR) : r.bind f = f s := by rw [h]; rfl
theorem WR.bind_bad {r : WR} {k : Int} (h : r = .bad k) (f : Wr → WR) : r.bind f = .bad k := by rw [h]; rfl
theorem WR.bind_out {r : WR} (h : r = .out) (f : Wr → WR) : r.bind f = .out := by rw [h]; rfl

def Tr.text : Tr → ByteArray | .mk _ _ t _ _ => t
def Tr.num : Tr → Nat | .mk _ _ _ x _ => x
def Tr.pos : Tr → Int | .mk _ p _ _ _ => p
def noTr : Tr := .mk 0 0 ⟨#[]⟩ 0 []
def Tr.kid (x : Tr) (i : Nat) : Tr := x.kids.getD i noTr
def putW (k : Nat) (t : ByteArray) (x : Nat) (s : Wr) : WR := if s.toks.length = 16384 then .bad 4 else .ok { s with toks := s.toks ++ [⟨k, 0, t, x⟩] }
def sayK (c : ByteArray) : Nat := if wordB c.data.toList then 2 else 5
def sayW (c : ByteArray) (s : Wr) : WR := putW (sayK c) c 0 s
def saysW : List ByteArray → Wr → WR
  | [], s => .ok s
  | c :: r, s => (sayW c s).bind (saysW r)
def nameW (c : ByteArray) (s : Wr) : WR := putW 1 c 0 s
def wordW (c : ByteArray) (s : Wr) : WR := if wordB c.data.toList then sayW c s else nameW c s
def paramW (x : Tr) (s : Wr) : WR := if x.kind = 26 then nameW x.text s else .bad 5
def eachW (f : Tr → Wr → WR) : List Tr → Wr → WR
  | [], s => .ok s
  | x :: l, s => (f x s).bind (eachW f l)
/-- nodes with commas between; i: how many are told -/
def listedW (f : Tr → Wr → WR) (most : Nat) : Nat → List Tr → Wr → WR
  | _, [], s => .ok s
  | i, x :: l, s => (if 0 < i then sayW (⟨#[44]⟩ : ByteArray) s else .ok s).bind fun s1 => if i = most then .bad 5 else (f x s1).bind (listedW f most (i + 1) l)
def kindsT : List ByteArray := [⟨#[]⟩, (⟨#[115, 99, 114, 105, 112, 116]⟩ : ByteArray), (⟨#[98, 108, 111, 99, 107]⟩ : ByteArray), (⟨#[108, 101, 116]⟩ : ByteArray), (⟨#[99, 111, 110, 115, 116]⟩ : ByteArray), (⟨#[102, 117, 110, 99, 116, 105, 111, 110]⟩ : ByteArray), (⟨#[101, 120, 112, 114]⟩ : ByteArray), (⟨#[105, 102]⟩ : ByteArray), (⟨#[119, 104, 105, 108, 101]⟩ : ByteArray), (⟨#[102, 111, 114, 105, 110]⟩ : ByteArray), (⟨#[102, 111, 114, 111, 102]⟩ : ByteArray), (⟨#[114, 101, 116, 117, 114, 110]⟩ : ByteArray), (⟨#[116, 104, 114, 111, 119]⟩ : ByteArray), (⟨#[98, 114, 101, 97, 107]⟩ : ByteArray), (⟨#[99, 111, 110, 116, 105, 110, 117, 101]⟩ : ByteArray), (⟨#[101, 109, 112, 116, 121]⟩ : ByteArray), (⟨#[116, 114, 121]⟩ : ByteArray), (⟨#[99, 97, 116, 99, 104]⟩ : ByteArray), (⟨#[102, 105, 110, 97, 108, 108, 121]⟩ : ByteArray), ⟨#[]⟩,
  (⟨#[110, 117, 109, 98, 101, 114]⟩ : ByteArray), (⟨#[115, 116, 114, 105, 110, 103]⟩ : ByteArray), (⟨#[116, 114, 117, 101]⟩ : ByteArray), (⟨#[102, 97, 108, 115, 101]⟩ : ByteArray), (⟨#[110, 117, 108, 108]⟩ : ByteArray), (⟨#[116, 104, 105, 115]⟩ : ByteArray), (⟨#[110, 97, 109, 101]⟩ : ByteArray), (⟨#[102, 117, 110, 99]⟩ : ByteArray), (⟨#[111, 98, 106, 101, 99, 116]⟩ : ByteArray), (⟨#[112, 97, 105, 114]⟩ : ByteArray), (⟨#[103, 101, 116, 116, 101, 114]⟩ : ByteArray), (⟨#[115, 101, 116, 116, 101, 114]⟩ : ByteArray), (⟨#[99, 111, 109, 112, 117, 116, 101, 100]⟩ : ByteArray), (⟨#[97, 114, 114, 97, 121]⟩ : ByteArray), (⟨#[109, 101, 109, 98, 101, 114]⟩ : ByteArray), (⟨#[105, 110, 100, 101, 120]⟩ : ByteArray), (⟨#[99, 97, 108, 108]⟩ : ByteArray), (⟨#[110, 101, 119]⟩ : ByteArray), (⟨#[117, 110, 97, 114, 121]⟩ : ByteArray), (⟨#[98, 105, 110, 97, 114, 121]⟩ : ByteArray), (⟨#[97, 110, 100]⟩ : ByteArray), (⟨#[111, 114]⟩ : ByteArray), (⟨#[99, 111, 110, 100]⟩ : ByteArray), (⟨#[97, 115, 115, 105, 103, 110]⟩ : ByteArray)]
def kindW (k : Nat) : ByteArray := kindsT.getD k ⟨#[]⟩
/-- how tight a value holds together -/
def tightI (x : Tr) : Int :=
  let k := x.kind
  if k = 20 ∨ k = 21 ∨ k = 22 ∨ k = 23 ∨ k = 24 ∨ k = 25 ∨ k = 26 ∨ k = 27 ∨ k = 28 ∨ k = 33 ∨ k = 37 ∨ k = 34 ∨ k = 35 then 13
  else if k = 36 then 12
  else if k = 38 then (if leadsB x.text then 11 else -1)
  else if k = 39 then (if levelOf x.text > 2 then (levelOf x.text : Int) else -1)
  else if k = 40 then 2
  else if k = 41 then 1
  else if k = 42 then 0
  else if k = 43 then (if putsB x.text then 0 else -1)
  else -1
def misreadB (x : Tr) (s : Wr) : Bool := (s.toks.length : Int) == s.first && (x.kind == 28 || x.kind == 27)

inductive Wm where
  | statement | body | block | declaration | function | test | branch | loop | guarded | value | args | pair | key
  | held (n : Nat) | bare (n : Nat) | chain (n : Nat) | sides (c : ByteArray) | accessor (n : Nat)

/-- one method's body -/
def wstep (rec : Wm → Tr → Wr → WR) : Wm → Tr → Wr → WR
  | .statement, x, s =>
    if x.kind = 2 then rec .block x s
    else if x.kind = 15 then saysW [(⟨#[59]⟩ : ByteArray)] s
    else if x.kind = 3 ∨ x.kind = 4 then rec .declaration x s
    else if x.kind = 5 then (saysW [(⟨#[102, 117, 110, 99, 116, 105, 111, 110]⟩ : ByteArray)] s).bind fun s1 => (nameW x.text s1).bind fun s2 => rec .function x s2
    else if x.kind = 6 then (rec .value (x.kid 0) { s with first := (s.toks.length : Int) }).bind fun s1 => saysW [(⟨#[59]⟩ : ByteArray)] s1
    else if x.kind = 7 then rec .branch x s
    else if x.kind = 8 then (saysW [(⟨#[119, 104, 105, 108, 101]⟩ : ByteArray)] s).bind fun s1 => (rec .test (x.kid 0) s1).bind fun s2 => rec .body (x.kid 1) s2
    else if x.kind = 9 ∨ x.kind = 10 then rec .loop x s
    else if x.kind = 11 ∨ x.kind = 12 then (saysW [kindW x.kind] s).bind fun s1 => (eachW (rec .value) x.kids s1).bind fun s2 => saysW [(⟨#[59]⟩ : ByteArray)] s2
    else if x.kind = 13 ∨ x.kind = 14 then saysW [kindW x.kind, (⟨#[59]⟩ : ByteArray)] s
    else if x.kind = 16 then rec .guarded x s
    else .bad 5
  | .body, x, s => if x.kind = 3 ∨ x.kind = 4 ∨ x.kind = 5 then .bad 5 else rec .statement x s
  | .block, x, s => if x.kind = 2 then (saysW [(⟨#[123]⟩ : ByteArray)] s).bind fun s1 => (eachW (rec .statement) x.kids s1).bind fun s2 => saysW [(⟨#[125]⟩ : ByteArray)] s2 else .bad 5
  | .declaration, x, s => if x.kind = 4 ∧ x.kids.length = 0 then .bad 5 else
      (saysW [kindW x.kind] s).bind fun s1 => (nameW x.text s1).bind fun s2 => (eachW (fun y s => (saysW [(⟨#[61]⟩ : ByteArray)] s).bind (rec .value y)) x.kids s2).bind fun s3 => saysW [(⟨#[59]⟩ : ByteArray)] s3
  | .function, x, s => (saysW [(⟨#[40]⟩ : ByteArray)] s).bind fun s1 => (listedW paramW 64 0 (x.kids.take (x.kids.length - 1)) s1).bind fun s2 => (saysW [(⟨#[41]⟩ : ByteArray)] s2).bind fun s3 => rec .block (x.kid (x.kids.length - 1)) s3
  | .test, x, s => (saysW [(⟨#[40]⟩ : ByteArray)] s).bind fun s1 => (rec .value x s1).bind fun s2 => saysW [(⟨#[41]⟩ : ByteArray)] s2
  | .branch, x, s => (saysW [(⟨#[105, 102]⟩ : ByteArray)] s).bind fun s1 => (rec .test (x.kid 0) s1).bind fun s2 => (rec .body (x.kid 1) s2).bind fun s3 => eachW (fun y s => (saysW [(⟨#[101, 108, 115, 101]⟩ : ByteArray)] s).bind (rec .body y)) (x.kids.drop 2) s3
  | .loop, x, s => (saysW [(⟨#[102, 111, 114]⟩ : ByteArray), (⟨#[40]⟩ : ByteArray)] s).bind fun s1 =>
      if (x.kid 0).kind = 3 ∨ (x.kid 0).kind = 4 then
        (if 0 < (x.kid 0).kids.length then .bad 5 else
          (saysW [kindW (x.kid 0).kind] s1).bind fun s2 => (nameW (x.kid 0).text s2).bind fun s3 => (if x.kind = 9 then saysW [(⟨#[105, 110]⟩ : ByteArray)] s3 else nameW (⟨#[111, 102]⟩ : ByteArray) s3).bind fun s4 =>
            (rec .value (x.kid 1) s4).bind fun s5 => (saysW [(⟨#[41]⟩ : ByteArray)] s5).bind fun s6 => rec .body (x.kid 2) s6)
      else .bad 5
  | .guarded, x, s => (saysW [(⟨#[116, 114, 121]⟩ : ByteArray)] s).bind fun s1 => (rec .block (x.kid 0) s1).bind fun s2 =>
      (if x.kids.length = 3 ∨ (x.kid (x.kids.length - 1)).kind = 17 then
        (if (x.kid 1).kind = 17 then (saysW [(⟨#[99, 97, 116, 99, 104]⟩ : ByteArray), (⟨#[40]⟩ : ByteArray)] s2).bind fun s3 => (nameW (x.kid 1).text s3).bind fun s4 => (saysW [(⟨#[41]⟩ : ByteArray)] s4).bind fun s5 => rec .block ((x.kid 1).kid 0) s5 else .bad 5)
      else .ok s2).bind fun s6 =>
      if x.kids.length = 3 ∨ (x.kid (x.kids.length - 1)).kind ≠ 17 then
        (if (x.kid (x.kids.length - 1)).kind = 18 then (saysW [(⟨#[102, 105, 110, 97, 108, 108, 121]⟩ : ByteArray)] s6).bind fun s7 => rec .block ((x.kid (x.kids.length - 1)).kid 0) s7 else .bad 5)
      else .ok s6
  | .value, x, s => rec (.held 0) x s
  | .held n, x, s => if tightI x < 0 then .bad 5
      else if (n : Int) ≤ tightI x ∧ misreadB x s = false then rec (.bare n) x s
      else (saysW [(⟨#[40]⟩ : ByteArray)] s).bind fun s1 => (rec (.bare 0) x s1).bind fun s2 => saysW [(⟨#[41]⟩ : ByteArray)] s2
  | .bare n, x, s =>
    if x.kind = 20 then putW 3 ⟨#[]⟩ x.num s
    else if x.kind = 21 then putW 4 x.text 0 s
    else if x.kind = 26 then nameW x.text s
    else if x.kind = 27 then (saysW [(⟨#[102, 117, 110, 99, 116, 105, 111, 110]⟩ : ByteArray)] s).bind fun s1 => (if x.text == ⟨#[]⟩ then .ok s1 else nameW x.text s1).bind fun s2 => rec .function x s2
    else if x.kind = 28 then (saysW [(⟨#[123]⟩ : ByteArray)] s).bind fun s1 => (listedW (rec .pair) 16384 0 x.kids s1).bind fun s2 => saysW [(⟨#[125]⟩ : ByteArray)] s2
    else if x.kind = 33 then (saysW [(⟨#[91]⟩ : ByteArray)] s).bind fun s1 => (listedW (rec .value) 16384 0 x.kids s1).bind fun s2 => saysW [(⟨#[93]⟩ : ByteArray)] s2
    else if x.kind = 34 ∨ x.kind = 35 ∨ x.kind = 36 then rec (.chain n) x s
    else if x.kind = 37 then (saysW [(⟨#[110, 101, 119]⟩ : ByteArray)] s).bind fun s1 => (rec (.held 13) (x.kid 0) s1).bind fun s2 => rec .args x s2
    else if x.kind = 38 then (saysW [x.text] s).bind fun s1 => rec (.held 11) (x.kid 0) s1
    else if x.kind = 40 then rec (.sides (⟨#[38, 38]⟩ : ByteArray)) x s
    else if x.kind = 41 then rec (.sides (⟨#[124, 124]⟩ : ByteArray)) x s
    else if x.kind = 39 then rec (.sides x.text) x s
    else if x.kind = 42 then (rec (.held 1) (x.kid 0) s).bind fun s1 => (saysW [(⟨#[63]⟩ : ByteArray)] s1).bind fun s2 => (rec .value (x.kid 1) s2).bind fun s3 => (saysW [(⟨#[58]⟩ : ByteArray)] s3).bind fun s4 => rec .value (x.kid 2) s4
    else if x.kind = 43 then (if targetB (x.kid 0).kind then (rec (.held 0) (x.kid 0) s).bind fun s1 => (saysW [x.text] s1).bind fun s2 => rec .value (x.kid 1) s2 else .bad 5)
    else saysW [kindW x.kind] s
  | .chain n, x, s => (rec (.held (max n 12)) (x.kid 0) s).bind fun s1 =>
      if x.kind = 34 then (saysW [(⟨#[46]⟩ : ByteArray)] s1).bind fun s2 => wordW x.text s2
      else if x.kind = 35 then (saysW [(⟨#[91]⟩ : ByteArray)] s1).bind fun s2 => (rec .value (x.kid 1) s2).bind fun s3 => saysW [(⟨#[93]⟩ : ByteArray)] s3
      else rec .args x s1
  | .sides c, x, s => (rec (.held (levelOf c)) (x.kid 0) s).bind fun s1 => (saysW [c] s1).bind fun s2 => rec (.held (levelOf c + 1)) (x.kid 1) s2
  | .args, x, s => (saysW [(⟨#[40]⟩ : ByteArray)] s).bind fun s1 => (listedW (rec .value) 64 0 (x.kids.drop 1) s1).bind fun s2 => saysW [(⟨#[41]⟩ : ByteArray)] s2
  | .pair, x, s =>
    if x.kind = 29 then (rec .key (x.kid 0) s).bind fun s1 => (saysW [(⟨#[58]⟩ : ByteArray)] s1).bind fun s2 => rec .value (x.kid 1) s2
    else if x.kind = 30 then (nameW (⟨#[103, 101, 116]⟩ : ByteArray) s).bind fun s1 => (rec .key (x.kid 0) s1).bind fun s2 => rec (.accessor 0) (x.kid 1) s2
    else if x.kind = 31 then (nameW (⟨#[115, 101, 116]⟩ : ByteArray) s).bind fun s1 => (rec .key (x.kid 0) s1).bind fun s2 => rec (.accessor 1) (x.kid 1) s2
    else .bad 5
  | .accessor n, x, s => if x.kind = 27 then (if (x.text == ⟨#[]⟩) = false ∨ x.kids.length ≠ n + 1 then .bad 5 else rec .function x s) else .bad 5
  | .key, x, s => if x.kind = 21 ∨ x.kind = 20 ∨ x.kind = 32 then
      (if x.kind ≠ 32 then rec (.bare 0) x s else (saysW [(⟨#[91]⟩ : ByteArray)] s).bind fun s1 => (rec .value (x.kid 0) s1).bind fun s2 => saysW [(⟨#[93]⟩ : ByteArray)] s2) else .bad 5
/-- n bodies deep -/
def wrun : Nat → Wm → Tr → Wr → WR
  | 0 => fun _ _ _ => .out
  | n + 1 => wstep (wrun n)
def scriptW (n : Nat) (x : Tr) : WR := eachW (wrun n .statement) x.kids ⟨[], 0⟩

/-- how many kids a node of a kind has, and whether it has a text -/
def kidsB (k n : Nat) : Bool :=
  if k = 1 ∨ k = 2 ∨ k = 28 ∨ k = 33 then n ≤ 16384
  else if k = 5 ∨ k = 27 ∨ k = 36 ∨ k = 37 then 1 ≤ n && n ≤ 16384
  else if k = 13 ∨ k = 14 ∨ k = 15 ∨ k = 20 ∨ k = 21 ∨ k = 22 ∨ k = 23 ∨ k = 24 ∨ k = 25 ∨ k = 26 then n == 0
  else if k = 3 ∨ k = 4 ∨ k = 11 then n ≤ 1
  else if k = 6 ∨ k = 12 ∨ k = 17 ∨ k = 18 ∨ k = 32 ∨ k = 34 ∨ k = 38 then n == 1
  else if k = 8 ∨ k = 29 ∨ k = 30 ∨ k = 31 ∨ k = 35 ∨ k = 39 ∨ k = 40 ∨ k = 41 ∨ k = 43 then n == 2
  else if k = 7 ∨ k = 16 then 2 ≤ n && n ≤ 3
  else if k = 9 ∨ k = 10 ∨ k = 42 then n == 3
  else false
def textB (k : Nat) (t : ByteArray) : Bool :=
  if k = 21 ∨ k = 27 then true
  else if k = 3 ∨ k = 4 ∨ k = 5 ∨ k = 17 ∨ k = 26 ∨ k = 34 ∨ k = 38 ∨ k = 39 ∨ k = 43 then !(t == ⟨#[]⟩)
  else t == ⟨#[]⟩
def rowedB (k n : Nat) (t : ByteArray) : Bool := kidsB k n && textB k t
mutual
def RowT : Tr → Bool
  | .mk k _ t _ l => rowedB k l.length t && RowTs l
def RowTs : List Tr → Bool
  | [] => true
  | t :: l => RowT t && RowTs l
end
theorem rowTs_get : ∀ (l : List Tr) (i : Nat) (h : i < l.length), RowTs l = true → RowT l[i] = true
  | [], i, h, _ => by simp at h
  | t :: l, i, h, hr => by
    unfold RowTs at hr
    rw [Bool.and_eq_true] at hr
    cases i with
    | zero => exact hr.1
    | succ i => exact rowTs_get l i (by simpa using h) hr.2
theorem rowT_kids {x : Tr} (h : RowT x = true) : kidsB x.kind x.kids.length = true ∧ textB x.kind x.text = true ∧ RowTs x.kids = true := by
  cases x
  unfold RowT at h
  unfold rowedB at h
  simp only [Bool.and_eq_true] at h
  exact ⟨h.1.1, h.1.2, h.2⟩
theorem rowT_kid {x : Tr} (h : RowT x = true) {i : Nat} (hi : i < x.kids.length) : RowT (x.kid i) = true := by
  have := rowTs_get x.kids i hi (rowT_kids h).2.2
  unfold Tr.kid
  rw [List.getD_eq_getElem?_getD, List.getElem?_eq_getElem hi]
  exact this
end Go.Proofs.YtablckajobefeaaGreatDoor.S
/-
  Tokens laid one behind the other are read as they were; what is read may be, and stands at its place: plain mathematics.
-/
namespace Go.Proofs.YtablckajobefeaaGreatDoor.S
open Go.RowKit Fl

def SameT (a b : Tk) : Prop := a.kind = b.kind ∧ a.text = b.text ∧ FloatKind.f64.format.order a.num b.num = some .eq
def SameL (a b : List Tk) : Prop := a.length = b.length ∧ ∀ (i : Nat) (x y : Tk), a[i]? = some x → b[i]? = some y → SameT x y
/-- what stands between tokens, and what stands at the end -/
def skipS (sp : List UInt8) : Prop := ∀ i st X, ∃ st', passM 0 st i (sp ++ X) = passM 0 st' (i + sp.length) X
def skipE (e : List UInt8) : Prop := ∀ i st, passM 0 st i e = (i + e.length, true)
def laidB (sp e : List UInt8) : List Tk → List UInt8
  | [] => e
  | t :: r => sp ++ (writL t ++ laidB sp e r)
def GoodT (t : Tk) : Prop := TokP t ∧ t.kind ≠ 0 ∧ t.num < 2 ^ 64

/-! ### what is read may be -/
/-- a token at its place in a text -/
def AtP (L : List UInt8) (t : Tk) : Prop := ∃ p : Nat, t.pos = (p : Int) ∧ p < L.length ∧ ((t.kind = 1 ∨ t.kind = 2 ∨ t.kind = 5) → p + t.text.size ≤ L.length ∧ (L.drop p).take t.text.size = t.text.data.toList)
theorem ours_nat (v : Nat) (h : v ≤ 9007199254740991) : numOurs (F (v : Int)) := ⟨v, h, rfl⟩
theorem plain_size {u t : ByteArray} {a : Int} (h : plainO u = (t, a, 0)) : t.size ≤ 4096 := by
  unfold plainO at h
  split at h
  · cases h
  · cases hr : plainR u u.size 0 [] with
    | inl j => rw [hr] at h; unfold outOf at h; cases h
    | inr acc =>
      rw [hr] at h
      by_cases c : acc.length > 4096
      · rw [outOf_long acc c] at h; cases h
      · rw [outOf_short acc c] at h; cases h; rw [mk_size]; omega
theorem alone_sign : ∀ {x : List UInt8}, x ∈ signsL → pieceL x = .tok 5 (mkB x) 0 x.length := by
  intro x hx
  have hs := signL_app (sign_mem.2 hx) [] (Or.inl rfl)
  rw [List.append_nil] at hs
  obtain ⟨_, h1⟩ := signs_len3 x hx
  cases x with
  | nil => simp at h1
  | cons c r =>
    obtain ⟨i1, i2, i3, i4, _⟩ := signs_first _ hx c rfl
    rw [pieceL_cons, if_neg (by rw [i1]; decide), if_neg (by rw [i2]; decide), if_neg (by rintro (h | h); exact i3 h; exact i4 h)]
    exact hs
theorem piece_may {l : List UInt8} {k : Nat} {t : ByteArray} {n wd : Nat} (h : pieceL l = .tok k t n wd) (p : Int) : GoodT ⟨k, p, t, n⟩ ∧ ((k = 1 ∨ k = 2 ∨ k = 5) → t.size = wd ∧ l.take wd = t.data.toList) := by
  cases l with
  | nil => cases h
  | cons c r =>
    rcases kind_of h with ⟨c1, kk, hn⟩ | ⟨c1, c2, kk, hn⟩ | ⟨c1, c2, c3, kk, hn⟩ | ⟨c1, c2, c3, kk, hn⟩
    · unfold nameL at hn
      split at hn
      · cases hn
      · rename_i hle
        injection hn with h1 h2 h3 h4
        subst h4 h3 h2
        have hr := runL_le innB (c :: r)
        have hlen : ((c :: r).take (runL innB (c :: r))).length = runL innB (c :: r) := by rw [List.length_take]; omega
        have hpos : 1 ≤ runL innB (c :: r) := by rw [runL_cons, if_pos (by unfold innB; rw [c1]; rfl)]; omega
        have hal := run_take_all innB (c :: r)
        refine ⟨⟨Or.inr (Or.inr (Or.inr ⟨by rcases kk with e | e <;> simp [e], zero_0, ?_⟩)), by simp; omega, by simp⟩, fun _ => ⟨by rw [mkB_size, hlen], rfl⟩⟩
        show aloneP k ((c :: r).take (runL innB (c :: r)))
        obtain ⟨j, hj⟩ : ∃ j, runL innB (c :: r) = j + 1 := ⟨runL innB (c :: r) - 1, by omega⟩
        have hna := nameL_app hal (by rw [hlen]; omega) [] (Or.inl rfl)
        rw [List.append_nil, h1] at hna
        refine ⟨mkB ((c :: r).take (runL innB (c :: r))), 0, ?_⟩
        rw [← hna]
        rw [hj, List.take_succ_cons, pieceL_cons, if_pos c1]
    · unfold numberL at hn
      split at hn
      · cases hn
      · have hne : (c :: r).take (runL isDig (c :: r)) ≠ [] := by
          rw [runL_cons, if_pos c2, List.take_succ_cons]; simp
        rw [readR_dig hne (run_take_all isDig (c :: r))] at hn
        by_cases hv : valD ((c :: r).take (runL isDig (c :: r))) ≤ 9007199254740991
        · rw [if_pos hv] at hn
          injection hn with h1 h2 h3 h4
          subst h3 h2 kk
          exact ⟨⟨Or.inr (Or.inl ⟨rfl, rfl, ours_nat _ hv⟩), by simp, F_lt _⟩, fun h => by omega⟩
        · rw [if_neg hv] at hn; cases hn
    · unfold literalL at hn
      split at hn
      · cases hn
      · rename_i e he
        have hh := plainP_le hn
        generalize hq : plainO (mkB (((c :: r).drop 1).take (e - 1))) = q at *
        obtain ⟨t', a', k'⟩ := q
        obtain ⟨_, h2, h3, h4, h5⟩ := hh
        dsimp only at h4 h5
        subst h4 h5 h3 kk
        exact ⟨⟨Or.inr (Or.inr (Or.inl ⟨rfl, plain_size hq, zero_0⟩)), by simp, by simp⟩, fun h => by omega⟩
    · unfold signL at hn
      split at hn
      · cases hn
      · rename_i hsn
        injection hn with h1 h2 h3 h4
        subst h4 h3 h2 kk
        obtain ⟨g1, g2⟩ := sg_1 (c :: r) _ (by omega) rfl
        have hlen : ((c :: r).take (signN (c :: r))).length = signN (c :: r) := by rw [List.length_take]; omega
        exact ⟨⟨Or.inr (Or.inr (Or.inr ⟨Or.inr (Or.inr rfl), zero_0, _, _, alone_sign (sign_mem.1 g2)⟩)), by simp, by simp⟩, fun _ => ⟨by rw [mkB_size, hlen], rfl⟩⟩

def BodyP (L : List UInt8) (l : List Tk) (i : Nat) : Prop := (∀ t ∈ l, GoodT t ∧ AtP L t ∧ t.pos < (i : Int)) ∧ l.Pairwise (fun a b => a.pos < b.pos)
theorem toksF_told (L : List UInt8) : ∀ (f i : Nat) (acc r : List Tk), i ≤ L.length → BodyP L acc i → toksF f i (L.drop i) acc = .ok r → ∃ b, r = b ++ [⟨0, (L.length : Int), ⟨#[]⟩, 0⟩] ∧ BodyP L b L.length ∧ (acc.length ≤ 16384 → b.length ≤ 16384)
  | 0, _, _, _, _, _, h => by cases h
  | f + 1, i, acc, r, hi, hb, h => by
    have hge := passM_ge (L.drop i) 0 i i
    have hle := (passM_le (L.drop i) 0 i i (Nat.le_refl _)).2
    rw [List.length_drop] at hle
    obtain ⟨⟨p, y⟩, hp⟩ : ∃ x, passM 0 i i (L.drop i) = x := ⟨_, rfl⟩
    rw [hp] at hge hle
    dsimp only at hge hle
    cases y with
    | false => rw [toks_stop hp] at h; cases h
    | true =>
      have hip := hge rfl
      by_cases he : L.length ≤ p
      · rw [toks_end hip hp he] at h
        cases h
        have : p = L.length := by omega
        subst this
        exact ⟨acc, rfl, ⟨fun t ht => ⟨(hb.1 t ht).1, (hb.1 t ht).2.1, by have := (hb.1 t ht).2.2; omega⟩, hb.2⟩, id⟩
      · cases hk : pieceL (L.drop p) with
        | bad j => rw [toks_bad hip hp (by omega) hk] at h; cases h
        | tok k t n wd =>
          by_cases hm : acc.length = 16384
          · rw [toks_many hip hp (by omega) hk hm] at h; cases h
          · rw [toks_step hip hp (by omega) hk hm] at h
            obtain ⟨hw1, hw2⟩ := pieceL_wide hk
            rw [List.length_drop] at hw2
            obtain ⟨hg, hat⟩ := piece_may hk (p : Int)
            have hb2 : BodyP L (acc ++ [⟨k, (p : Int), t, n⟩]) (p + wd) := by
              refine ⟨fun u hu => ?_, ?_⟩
              · rw [List.mem_append, List.mem_singleton] at hu
                rcases hu with hu | rfl
                · obtain ⟨q1, q2, q3⟩ := hb.1 u hu
                  exact ⟨q1, q2, by omega⟩
                · refine ⟨hg, ⟨p, rfl, by omega, fun hh => ?_⟩, by show (p : Int) < _; omega⟩
                  obtain ⟨e1, e2⟩ := hat hh
                  exact ⟨by show p + t.size ≤ _; omega, by show (L.drop p).take t.size = _; rw [e1]; exact e2⟩
              · rw [List.pairwise_append]
                refine ⟨hb.2, List.pairwise_singleton _ _, fun a ha b hb' => ?_⟩
                rw [List.mem_singleton] at hb'
                subst hb'
                have := (hb.1 a ha).2.2
                show a.pos < (p : Int)
                omega
            obtain ⟨b, h1, h2, h3⟩ := toksF_told L f (p + wd) _ r (by omega) hb2 h
            exact ⟨b, h1, h2, fun hl => h3 (by simp; omega)⟩
theorem toks_told {L : List UInt8} {r : List Tk} (h : toks L = .ok r) : ∃ b, r = b ++ [⟨0, (L.length : Int), ⟨#[]⟩, 0⟩] ∧ BodyP L b L.length ∧ b.length ≤ 16384 ∧ L.length ≤ 65536 := by
  unfold toks at h
  split at h
  · cases h
  · have h' : toksF (L.length + 1) 0 (L.drop 0) [] = .ok r := h
    obtain ⟨b, h1, h2, h3⟩ := toksF_told L _ 0 [] r (Nat.zero_le _) ⟨fun t ht => (by cases ht), List.Pairwise.nil⟩ h'
    exact ⟨b, h1, h2, h3 (Nat.zero_le _), by omega⟩
theorem told_may {b : List Tk} {p : Int} (h : ∀ t ∈ b, GoodT t) : MayP (b ++ [⟨0, p, ⟨#[]⟩, 0⟩]) := by
  refine ⟨by simp, fun i t hi => ?_⟩
  by_cases c : i < b.length
  · rw [List.getElem?_append_left c] at hi
    have := h t (List.mem_of_getElem? hi)
    exact ⟨this.1, fun e => absurd e this.2.1, fun e => by simp at e; omega⟩
  · by_cases d : i = b.length
    · subst d
      rw [List.getElem?_append_right (Nat.le_refl _), Nat.sub_self] at hi
      cases hi
      exact ⟨Or.inl ⟨rfl, rfl, zero_0⟩, fun _ => by simp, fun _ => rfl⟩
    · rw [List.getElem?_append_right (by omega), List.getElem?_eq_none (by simp; omega)] at hi
      cases hi
end Go.Proofs.YtablckajobefeaaGreatDoor.S
/-
  Two lists of tokens that hold the same are told to be the same: the document's own Same.
-/
namespace Go.Proofs.YtablckajobefeaaGreatDoor.S
open Go.RowKit Fl

/-- a slice at A reads as the tokens l -/
def RdT (w : World) (A : Option Addr) (l : List Tk) : Prop := 0 < l.length → ∃ g, A = some ⟨g, 0, none⟩ ∧ ∀ j, j < l.length * 4 → w.cell? ⟨g, j, none⟩ = (tkCells l)[j]?
theorem tkCells_at (l : List Tk) : ∀ (k : Nat) (hk : k < l.length) (j : Nat), j < 4 → (tkCells l)[k * 4 + j]? = (tkC l[k])[j]? := by
  induction l with
  | nil => intro k hk; simp at hk
  | cons t r ih =>
    intro k hk j hj
    have e : tkCells (t :: r) = tkC t ++ tkCells r := by unfold tkCells; rw [List.flatMap_cons]
    rw [e]
    have hl : (tkC t).length = 4 := rfl
    cases k with
    | zero => rw [Nat.zero_mul, Nat.zero_add, List.getElem?_append_left (by omega)]; rfl
    | succ k =>
      rw [List.getElem?_append_right (by omega), hl, List.getElem_cons_succ]
      have e2 : (k + 1) * 4 + j - 4 = k * 4 + j := by omega
      rw [e2]
      exact ih k (by simpa using hk) j hj

end Go.Proofs.YtablckajobefeaaGreatDoor.S
/-
  Which tokens may be, and tokens written as a text: walks of package lex.
-/
namespace Go.Proofs.YtablckajobefeaaGreatDoor.S
open Go.RowKit Fl

/-! ### a slice that reads as tokens, wherever it lies -/
theorem block_of_add (a : Addr) (n : Nat) : (a.add n).block = a.block := by
  cases n with
  | zero => rfl
  | succ n => rfl
theorem add_of_add (a : Addr) (i j : Nat) : (a.add i).add j = a.add (i + j) := by
  cases i with
  | zero => rw [Nat.zero_add]; rfl
  | succ i =>
    cases j with
    | zero => rfl
    | succ j =>
      have e : i + 1 + (j + 1) = (i + 1 + j) + 1 := by omega
      rw [e]
      unfold Addr.add
      rw [if_neg (by omega), if_neg (by omega), if_neg (by omega)]
      congr 1
      dsimp only
      omega
def RdA (w : World) (A : Option Addr) (l : List Tk) : Prop := 0 < l.length → ∃ a, A = some a ∧ a.block < w.heap.size ∧ ∀ j, j < l.length * 4 → w.cell? (a.add j) = (tkCells l)[j]?
theorem rda_up {w w' : World} {A : Option Addr} {l : List Tk} (h : RdA w A l) (hb : Below w.heap.size w w') : RdA w' A l := fun hl => by
  obtain ⟨a, ha, hlt, hc⟩ := h hl
  exact ⟨a, ha, Nat.lt_of_lt_of_le hlt hb.size, fun j hj => (hb.cell (p := a.add j) (by rw [block_of_add]; exact hlt)).trans (hc j hj)⟩
theorem rda_tb {B : Nat} {A : Option Addr} {n cap : Nat} {l : List Tk} {w0 w : World} (h : TB B (.slice A n cap) l w0 w) : RdA w A l := fun hl => by
  have h0 := h.1
  rcases h.1.2 with ⟨_, h1⟩ | ⟨g, cap', cur, hv, hb, hh, _⟩
  · omega
  · injection hv with hA hn hc
    subst hA hn hc
    refine ⟨_, rfl, (h0.lt g rfl).2, fun j hj => ?_⟩
    have e : (⟨g, 0, none⟩ : Addr).add j = ⟨g, j, none⟩ := by unfold Addr.add; split <;> simp_all
    rw [e]
    exact h0.cellAt j hj
/-- the four cells of one token -/
theorem rda_at {w : World} {A : Option Addr} {l : List Tk} (h : RdA w A l) (k : Nat) (hk : k < l.length) : ∃ a, A = some a ∧ a.block < w.heap.size ∧
    w.cell? (a.add (k * 4)) = some (.int .u8 (l[k].kind : Int)) ∧ w.cell? (a.add (k * 4 + 1)) = some (.int .i64 l[k].pos) ∧ w.cell? (a.add (k * 4 + 2)) = some (.string l[k].text) ∧ w.cell? (a.add (k * 4 + 3)) = some (.float .f64 l[k].num) := by
  obtain ⟨a, ha, hlt, hc⟩ := h (by omega)
  exact ⟨a, ha, hlt, (hc (k * 4 + 0) (by omega)).trans (tkCells_at l k hk 0 (by omega)), (hc (k * 4 + 1) (by omega)).trans (tkCells_at l k hk 1 (by omega)), (hc (k * 4 + 2) (by omega)).trans (tkCells_at l k hk 2 (by omega)), (hc (k * 4 + 3) (by omega)).trans (tkCells_at l k hk 3 (by omega))⟩
/-! ### is a token what its Text is read as? -/
def aloneB (k : Nat) (l : List UInt8) : Bool := match pieceL l with | .tok k' _ _ wd => decide (k' = k) && decide (wd = l.length) | .bad _ => false
theorem aloneB_iff {k : Nat} {l : List UInt8} : aloneB k l = true ↔ aloneP k l := by
  unfold aloneB aloneP
  cases h : pieceL l with
  | tok k' t n wd =>
    dsimp only
    rw [Bool.and_eq_true, decide_eq_true_eq, decide_eq_true_eq]
    constructor
    · rintro ⟨rfl, rfl⟩; exact ⟨t, n, rfl⟩
    · rintro ⟨t', n', e⟩; injection e with e1 e2 e3 e4; exact ⟨e1, e4⟩
  | bad f =>
    dsimp only
    constructor
    · intro h; cases h
    · rintro ⟨t', n', e⟩; cases e

set_option maxHeartbeats 2000000 in
theorem alone_any (k : Nat) (p : Int) (s : ByteArray) (n : Nat) (hk0 : k ≠ 0) (hs : s.size ≤ 9223372036854775807) (w : World) :
    Calls Tryz.prog 85 #[.agg #[.int .u8 (k : Int), .int .i64 p, .string s, .float .f64 n]] w fun e w' => e = .returned (.bool (aloneB k s.data.toList)) ∧ Below w.heap.size w w' := by
  by_cases h0 : 0 < s.size
  · have hz : s.toList.isEmpty = false := by rw [toList_data]; cases hl : s.data.toList with | nil => rw [size_len, hl] at h0; exact absurd h0 (by simp) | cons _ _ => rfl
    have hz2 : (!s.data.toList.isEmpty) = true := by rw [← toList_data, hz]; rfl
    have kp := fun w => piece_any s h0 hs w
    have hl : s.data.toList.length = s.size := (size_len s).symm
    unfold aloneB
    rw [hl]
    generalize pieceL s.data.toList = r at *
    cases r with
    | bad f =>
      have kp : ∀ w, Calls Tryz.prog 23 #[.string s] w (fun e w' => e = .returned (.tuple #[.agg #[.int .u8 0, .int .i64 0, .string ⟨#[]⟩, .float .f64 0], .int .i64 0, .int .i64 f]) ∧ Below w.heap.size w w') := kp
      have hst := store_f
      have hk : ((0 : Int) == (k : Int)) = false := by rw [beq_eq_false_iff_ne]; omega
      clear hl
      go_enter Tryz.func85, Tryz.ntmps85
      go_wp2_with (go_at_call 23; refine (kp _).mono ?_; rintro e w1 ⟨rfl, h1⟩; obtain ⟨hc, hf⟩ := bcell h1; have hzz := lt_after h1; have H1 := Lib.hid h1; clear h1)
      go_ret
      exact ⟨rfl, alloc_of (after_alloc H1.out) (Nat.le_refl _) _⟩
    | tok k' t n' wd =>
      have kp : ∀ w, Calls Tryz.prog 23 #[.string s] w (fun e w' => e = .returned (.tuple #[.agg #[.int .u8 (k' : Int), .int .i64 0, .string t, .float .f64 n'], .int .i64 (wd : Int), .int .i64 0]) ∧ Below w.heap.size w w') := kp
      have hst := store_f
      clear hl
      dsimp only
      by_cases c1 : k' = k
      · have hk : ((k' : Int) == (k : Int)) = true := by rw [c1]; simp
        rw [decide_eq_true c1]
        clear c1
        by_cases c2 : wd = s.size
        · have hk2 : ((wd : Int) == (s.size : Int)) = true := by rw [c2]; simp
          rw [decide_eq_true c2]
          clear c2
          go_enter Tryz.func85, Tryz.ntmps85
          go_wp2_with (go_at_call 23; refine (kp _).mono ?_; rintro e w1 ⟨rfl, h1⟩; obtain ⟨hc, hf⟩ := bcell h1; have hzz := lt_after h1; have H1 := Lib.hid h1; clear h1)
          go_ret
          exact ⟨rfl, alloc_of (after_alloc H1.out) (Nat.le_refl _) _⟩
        · have hk2 : ((wd : Int) == (s.size : Int)) = false := by rw [beq_eq_false_iff_ne]; omega
          rw [decide_eq_false c2]
          clear c2
          go_enter Tryz.func85, Tryz.ntmps85
          go_wp2_with (go_at_call 23; refine (kp _).mono ?_; rintro e w1 ⟨rfl, h1⟩; obtain ⟨hc, hf⟩ := bcell h1; have hzz := lt_after h1; have H1 := Lib.hid h1; clear h1)
          go_ret
          exact ⟨rfl, alloc_of (after_alloc H1.out) (Nat.le_refl _) _⟩
      · have hk : ((k' : Int) == (k : Int)) = false := by rw [beq_eq_false_iff_ne]; omega
        rw [decide_eq_false c1]
        clear c1
        go_enter Tryz.func85, Tryz.ntmps85
        go_wp2_with (go_at_call 23; refine (kp _).mono ?_; rintro e w1 ⟨rfl, h1⟩; obtain ⟨hc, hf⟩ := bcell h1; have hzz := lt_after h1; have H1 := Lib.hid h1; clear h1)
        go_ret
        exact ⟨rfl, alloc_of (after_alloc H1.out) (Nat.le_refl _) _⟩
  · have hn : s.data.toList = [] := List.length_eq_zero_iff.1 (by rw [← size_len]; omega)
    have hs0 : s = ⟨#[]⟩ := str_ext hn
    subst hs0
    clear hn h0 hs
    go_enter Tryz.func85, Tryz.ntmps85
    go_wp2
    go_ret
    exact ⟨rfl, zero_alloc _ _⟩

/-! ### told: may a token be? -/
def zrB (x : Nat) : Bool := FloatKind.f64.format.order x 0 == some .eq
def nmB (c : Cl) : Bool := match c with | .ours n => decide (0 ≤ n) | _ => false
theorem zrB_iff {x : Nat} : zrB x = true ↔ zeroP x := by unfold zrB zeroP; simp
theorem told_other (k : Nat) (p : Int) (s : ByteArray) (n : Nat) (h : k ≠ 0 ∧ k ≠ 1 ∧ k ≠ 2 ∧ k ≠ 3 ∧ k ≠ 4 ∧ k ≠ 5) (w : World) :
    Calls Tryz.prog 56 #[.agg #[.int .u8 (k : Int), .int .i64 p, .string s, .float .f64 n]] w fun e w' => e = .returned (.bool false) ∧ Below w.heap.size w w' := by
  have h0 : ((k : Int) == 0) = false := by rw [beq_eq_false_iff_ne]; omega
  have h1 : ((k : Int) == 1) = false := by rw [beq_eq_false_iff_ne]; omega
  have h2 : ((k : Int) == 2) = false := by rw [beq_eq_false_iff_ne]; omega
  have h3 : ((k : Int) == 3) = false := by rw [beq_eq_false_iff_ne]; omega
  have h4 : ((k : Int) == 4) = false := by rw [beq_eq_false_iff_ne]; omega
  have h5 : ((k : Int) == 5) = false := by rw [beq_eq_false_iff_ne]; omega
  clear h
  go_enter Tryz.func56, Tryz.ntmps56
  go_wp2
  go_ret
  exact ⟨rfl, zero_alloc _ _⟩
theorem told_alone (k : Nat) (p : Int) (s : ByteArray) (n : Nat) (h : k = 1 ∨ k = 2 ∨ k = 5) (hs : s.size ≤ 9223372036854775807) (w : World) :
    Calls Tryz.prog 56 #[.agg #[.int .u8 (k : Int), .int .i64 p, .string s, .float .f64 n]] w fun e w' => e = .returned (.bool (zrB n && aloneB k s.data.toList)) ∧ Below w.heap.size w w' := by
  have ka := fun w => alone_any k p s n (by omega) hs w
  generalize aloneB k s.data.toList = b at *
  have hz : (FloatKind.f64.format.order n 0 == some .eq) = zrB n := rfl
  cases hc : zrB n
  all_goals
    rw [hc] at hz
    clear hc
    rcases h with rfl | rfl | rfl
    all_goals
      go_enter Tryz.func56, Tryz.ntmps56
      go_wp2_with (go_at_call 85; refine (ka _).mono ?_; rintro e w1 ⟨rfl, h1⟩; have H1 := Lib.hid h1; clear h1)
      go_ret
      first | exact ⟨rfl, zero_alloc _ _⟩ | exact ⟨ret_bool (by simp), after_alloc H1.out⟩
end Go.Proofs.YtablckajobefeaaGreatDoor.S
/-
  Which tokens may be, and how each is written: walks of package lex.
-/
namespace Go.Proofs.YtablckajobefeaaGreatDoor.S
open Go.RowKit Fl

theorem emp_or (s : ByteArray) : s = ⟨#[]⟩ ∨ (s ≠ ⟨#[]⟩ ∧ s.toList.isEmpty = false ∧ (!s.data.toList.isEmpty) = true) := by
  by_cases h : s.data.toList = []
  · exact Or.inl (str_ext h)
  · have hz : s.data.toList.isEmpty = false := by simpa using h
    exact Or.inr ⟨fun e => h (by rw [e]), by rw [toList_data]; exact hz, by rw [hz]; rfl⟩
theorem told_end (p : Int) (s : ByteArray) (n : Nat) (w : World) :
    Calls Tryz.prog 56 #[.agg #[.int .u8 0, .int .i64 p, .string s, .float .f64 n]] w fun e w' => e = .returned (.bool (s.data.toList.isEmpty && zrB n)) ∧ Below w.heap.size w w' := by
  have hz : (FloatKind.f64.format.order n 0 == some .eq) = zrB n := rfl
  cases hc : zrB n
  all_goals
    rw [hc] at hz
    clear hc
    rcases emp_or s with rfl | ⟨_, h1, h2⟩
    all_goals
      go_enter Tryz.func56, Tryz.ntmps56
      go_wp2
      go_ret
      exact ⟨ret_bool (by first | rfl | (rw [← toList_data, h1]; rfl)), zero_alloc _ _⟩
theorem told_str (p : Int) (s : ByteArray) (n : Nat) (hs : s.size ≤ 9223372036854775807) (w : World) :
    Calls Tryz.prog 56 #[.agg #[.int .u8 4, .int .i64 p, .string s, .float .f64 n]] w fun e w' => e = .returned (.bool (decide (s.size ≤ 4096) && zrB n)) ∧ Below w.heap.size w w' := by
  have hz : (FloatKind.f64.format.order n 0 == some .eq) = zrB n := rfl
  cases hc : zrB n
  all_goals
    rw [hc] at hz
    clear hc
    by_cases h : s.size ≤ 4096
    · rw [decide_eq_true h]
      go_enter Tryz.func56, Tryz.ntmps56
      go_wp2
      go_ret
      exact ⟨rfl, zero_alloc _ _⟩
    · rw [decide_eq_false h]
      have h' : ¬ (s.size : Int) ≤ 4096 := by omega
      go_enter Tryz.func56, Tryz.ntmps56
      go_wp2
      go_ret
      exact ⟨rfl, zero_alloc _ _⟩
theorem told_num (p : Int) (s : ByteArray) {c : Cl} {n : Nat} (h : Is c n) (w : World) :
    Calls Tryz.prog 56 #[.agg #[.int .u8 3, .int .i64 p, .string s, .float .f64 n]] w fun e w' => e = .returned (.bool (s.data.toList.isEmpty && nmB c)) ∧ Below w.heap.size w w' := by
  have km := fun w => May_cls h w
  rcases emp_or s with rfl | ⟨_, h1, h2⟩
  · cases c with
    | nan =>
      have ho : FloatKind.f64.format.order n 0 = none := order_nan_l 0 h.2
      clear h
      go_enter Tryz.func56, Tryz.ntmps56
      go_wp2_with (go_at_call 84; refine (km _).mono ?_; rintro e w1 ⟨rfl, rfl⟩)
      go_ret
      exact ⟨rfl, zero_alloc _ _⟩
    | other =>
      have km : ∀ w, Calls Tryz.prog 84 #[.float .f64 n] w (fun e w' => e = .returned (.bool false) ∧ w = w') := km
      clear h
      go_enter Tryz.func56, Tryz.ntmps56
      go_wp2_with (go_at_call 84; refine (km _).mono ?_; rintro e w1 ⟨rfl, rfl⟩)
      go_ret
      exact ⟨rfl, zero_alloc _ _⟩
    | ours m =>
      have km : ∀ w, Calls Tryz.prog 84 #[.float .f64 n] w (fun e w' => e = .returned (.bool true) ∧ w = w') := km
      obtain ⟨hn, hs⟩ := h
      have ho := order_F m 0 hs.abs (by decide)
      rw [← hn, F_zero] at ho
      have ho : FloatKind.f64.format.order n 0 = some (compare m 0) := ho
      clear hn hs
      by_cases hm : 0 ≤ m
      · have hb : nmB (.ours m) = true := decide_eq_true hm
        rw [hb]
        have hcmp : compare m 0 = .gt ∨ compare m 0 = .eq := by
          show (if m < 0 then Ordering.lt else if m = 0 then .eq else .gt) = .gt ∨ (if m < 0 then Ordering.lt else if m = 0 then .eq else .gt) = .eq
          rw [if_neg (by omega)]
          by_cases h0 : m = 0
          · rw [if_pos h0]; exact Or.inr rfl
          · rw [if_neg h0]; exact Or.inl rfl
        rcases hcmp with hh | hh
        all_goals
          rw [hh] at ho
          clear hh hb hm
          go_enter Tryz.func56, Tryz.ntmps56
          go_wp2_with (go_at_call 84; refine (km _).mono ?_; rintro e w1 ⟨rfl, rfl⟩)
          go_ret
          exact ⟨rfl, zero_alloc _ _⟩
      · have hb : nmB (.ours m) = false := decide_eq_false hm
        rw [hb]
        have hcmp : compare m 0 = .lt := by
          have : m < 0 := by omega
          simp [compare, compareOfLessAndEq, this]
        rw [hcmp] at ho
        clear hcmp hb hm
        go_enter Tryz.func56, Tryz.ntmps56
        go_wp2_with (go_at_call 84; refine (km _).mono ?_; rintro e w1 ⟨rfl, rfl⟩)
        go_ret
        exact ⟨rfl, zero_alloc _ _⟩
  · have hb : s.data.toList.isEmpty = false := by rw [← toList_data]; exact h1
    rw [hb]
    clear km h
    go_enter Tryz.func56, Tryz.ntmps56
    go_wp2
    go_ret
    exact ⟨rfl, zero_alloc _ _⟩

theorem nm_ours {c : Cl} {x : Nat} (h : Is c x) : nmB c = true ↔ numOurs x := by
  cases c with
  | nan =>
    refine ⟨fun h => (by cases h), ?_⟩
    rintro ⟨n, h1, h2⟩
    have hs : SafeN (n : Int) := by unfold SafeN; omega
    exact absurd (by rw [← h2]; exact h.2) (not_nan_F (n : Int) hs.abs)
  | other =>
    refine ⟨fun h => (by cases h), ?_⟩
    rintro ⟨n, h1, h2⟩
    have hs : SafeN (n : Int) := by unfold SafeN; omega
    have := mayB_other h
    rw [h2, wholeB_ours _ hs.abs, inB_ours _ hs] at this
    cases this
  | ours m =>
    obtain ⟨rfl, hs⟩ := h
    show decide (0 ≤ m) = true ↔ _
    rw [decide_eq_true_eq]
    constructor
    · intro hm
      exact ⟨m.toNat, by have := hs.2; omega, by rw [show ((m.toNat : Nat) : Int) = m by omega]⟩
    · rintro ⟨n, h1, h2⟩
      have hn : SafeN (n : Int) := by unfold SafeN; omega
      have := congrArg numN h2
      rw [numN_F hs, numN_F hn] at this
      omega

/-- what a token that comes in is like -/
def TkIn (t : Tk) : Prop := t.kind < 256 ∧ t.text.size ≤ 9223372036854775807 ∧ t.num < 2 ^ 64
theorem told_yes (t : Tk) (hi : TkIn t) (h : TokP t) (w : World) :
    Calls Tryz.prog 56 #[.agg #[.int .u8 (t.kind : Int), .int .i64 t.pos, .string t.text, .float .f64 t.num]] w fun e w' => e = .returned (.bool true) ∧ Below w.heap.size w w' := by
  obtain ⟨k, p, s, n⟩ := t
  obtain ⟨h1, h2, h3⟩ := hi
  dsimp only at h1 h2 h3
  rcases h with ⟨hk, hs, hz⟩ | ⟨hk, hs, hn⟩ | ⟨hk, hs, hz⟩ | ⟨hk, hz, ha⟩
  · dsimp only at hk hs hz
    subst hk hs
    have := told_end p ⟨#[]⟩ n w
    rw [zrB_iff.2 hz] at this
    exact this
  · dsimp only at hk hs hn
    subst hk hs
    obtain ⟨c, hc⟩ := cls n h3
    have := told_num p ⟨#[]⟩ hc w
    rw [(nm_ours hc).2 hn] at this
    exact this
  · dsimp only at hk hs hz
    subst hk
    have := told_str p s n h2 w
    rw [zrB_iff.2 hz, decide_eq_true hs] at this
    exact this
  · dsimp only at hk hz ha
    have := told_alone k p s n hk h2 w
    rw [zrB_iff.2 hz, aloneB_iff.2 ha] at this
    exact this
theorem told_no (t : Tk) (hi : TkIn t) (h : ¬ TokP t) (w : World) :
    Calls Tryz.prog 56 #[.agg #[.int .u8 (t.kind : Int), .int .i64 t.pos, .string t.text, .float .f64 t.num]] w fun e w' => e = .returned (.bool false) ∧ Below w.heap.size w w' := by
  obtain ⟨k, p, s, n⟩ := t
  obtain ⟨h1, h2, h3⟩ := hi
  dsimp only at h1 h2 h3
  by_cases k0 : k = 0
  · subst k0
    refine (told_end p s n w).mono fun e w' ⟨he, hb⟩ => ⟨?_, hb⟩
    rw [he]; refine ret_bool (Bool.eq_false_iff.2 fun g => h ?_)
    rw [Bool.and_eq_true] at g
    exact Or.inl ⟨rfl, str_ext (List.isEmpty_iff.1 g.1), zrB_iff.1 g.2⟩
  · by_cases k3 : k = 3
    · subst k3
      obtain ⟨c, hc⟩ := cls n h3
      refine (told_num p s hc w).mono fun e w' ⟨he, hb⟩ => ⟨?_, hb⟩
      rw [he]; refine ret_bool (Bool.eq_false_iff.2 fun g => h ?_)
      rw [Bool.and_eq_true] at g
      exact Or.inr (Or.inl ⟨rfl, str_ext (List.isEmpty_iff.1 g.1), (nm_ours hc).1 g.2⟩)
    · by_cases k4 : k = 4
      · subst k4
        refine (told_str p s n h2 w).mono fun e w' ⟨he, hb⟩ => ⟨?_, hb⟩
        rw [he]; refine ret_bool (Bool.eq_false_iff.2 fun g => h ?_)
        rw [Bool.and_eq_true] at g
        exact Or.inr (Or.inr (Or.inl ⟨rfl, of_decide_eq_true g.1, zrB_iff.1 g.2⟩))
      · by_cases kk : k = 1 ∨ k = 2 ∨ k = 5
        · refine (told_alone k p s n kk h2 w).mono fun e w' ⟨he, hb⟩ => ⟨?_, hb⟩
          rw [he]; refine ret_bool (Bool.eq_false_iff.2 fun g => h ?_)
          rw [Bool.and_eq_true] at g
          exact Or.inr (Or.inr (Or.inr ⟨kk, zrB_iff.1 g.1, aloneB_iff.1 g.2⟩))
        · exact told_other k p s n (by omega) w

/-! ### how it is written -/
theorem writ_len {t : Tk} (h : TokP t) : (writL t).length ≤ 20000 := by
  rcases h with ⟨hk, hs, hz⟩ | ⟨hk, hs, m, hm, hn⟩ | ⟨hk, hs, hz⟩ | ⟨hk, hz, tt, n, ha⟩
  · have : writL t = t.text.data.toList := by unfold writL; rw [if_neg (by omega), if_neg (by omega)]
    rw [this, hs]; simp
  · have hsf : SafeN (m : Int) := by unfold SafeN; omega
    have : writL t = Lib.itoa (m : Int) := by unfold writL; rw [if_pos hk, hn, numN_F hsf]
    rw [this]; have := itoa_len m hm; omega
  · have : writL t = quoteL t.text.data.toList := by unfold writL; rw [if_neg (by omega), if_pos hk]
    rw [this]
    unfold quoteL
    have := quoteI_len t.text.data.toList
    rw [← size_len] at this
    simp; omega
  · have : writL t = t.text.data.toList := by unfold writL; rw [if_neg (by omega), if_neg (by omega)]
    rw [this]
    cases hl : t.text.data.toList with
    | nil => simp
    | cons c r =>
      rw [hl] at ha
      rcases kind_of ha with ⟨c1, kk, hna⟩ | ⟨_, _, kk, _⟩ | ⟨_, _, _, kk, _⟩ | ⟨c1, c2, c3, kk, hna⟩
      · have := (nameL_alone hna).2.1; omega
      · omega
      · omega
      · have hsn : signN (c :: r) = (c :: r).length := by
          unfold signL at hna
          split at hna
          · cases hna
          · injection hna
        have := signN_3 (c :: r)
        omega
theorem written_any (t : Tk) (h : TokP t) (w : World) (htab : TabHere w) :
    Calls Tryz.prog 33 #[.agg #[.int .u8 (t.kind : Int), .int .i64 t.pos, .string t.text, .float .f64 t.num]] w fun e w' => e = .returned (.string (mkB (writL t))) ∧ Below w.heap.size w w' := by
  obtain ⟨k, p, s, n⟩ := t
  rcases h with ⟨hk, hs, hz⟩ | ⟨hk, hs, m, hm, hn⟩ | ⟨hk, hs, hz⟩ | ⟨hk, hz, tt, n', ha⟩
  · dsimp only at hk hs hz
    subst hk hs
    have hw : Hid (mkB (writL ⟨0, p, ⟨#[]⟩, n⟩) = ⟨#[]⟩) := Lib.hid rfl
    clear hz htab
    rw [hw.out]
    go_enter Tryz.func33, Tryz.ntmps33
    go_wp2
    go_ret
    exact ⟨rfl, zero_alloc _ _⟩
  · dsimp only at hk hs hn
    subst hk hs
    have hsf : SafeN (m : Int) := by unfold SafeN; omega
    have hw : Hid (writL ⟨3, p, ⟨#[]⟩, n⟩ = Lib.itoa (m : Int)) := Lib.hid (by unfold writL; rw [if_pos rfl, hn, numN_F hsf])
    rw [hw.out]
    have hT := fun w ht => Text_cls (c := .ours (m : Int)) ⟨hn, hsf⟩ w ht
    have HTAB := Lib.hid htab
    clear hn hsf hm htab
    go_enter Tryz.func33, Tryz.ntmps33
    go_wp2_with (go_at_call 58; refine (hT _ (HTAB.out _ (zero_alloc _ _))).mono ?_; rintro e w1 ⟨t1, h1, rfl, b1⟩; have H1 := Lib.hid h1; have B1 := Lib.hid b1; clear h1 b1)
    go_ret
    exact ⟨ret_str (str_ext H1.out), after_alloc B1.out⟩
  · dsimp only at hk hs hz
    subst hk
    have hw : Hid (mkB (writL ⟨4, p, s, n⟩) = ⟨(quoteL s.data.toList).toArray⟩) := Lib.hid rfl
    rw [hw.out]
    have hq := fun w => Quote_any s w (by omega)
    clear hz htab
    go_enter Tryz.func33, Tryz.ntmps33
    go_wp2_with (go_at_call 59; refine (hq _).mono ?_; rintro e w1 ⟨rfl, b1⟩; have B1 := Lib.hid b1; clear b1)
    go_ret
    exact ⟨rfl, after_alloc B1.out⟩
  · dsimp only at hk hz ha
    have hw : Hid (mkB (writL ⟨k, p, s, n⟩) = s) := Lib.hid (by
      have : writL ⟨k, p, s, n⟩ = s.data.toList := by unfold writL; rw [if_neg (by show k ≠ 3; omega), if_neg (by show k ≠ 4; omega)]
      rw [this]; exact mkB_of s)
    rw [hw.out]
    clear hz htab ha
    rcases hk with rfl | rfl | rfl
    all_goals
      go_enter Tryz.func33, Tryz.ntmps33
      go_wp2
      go_ret
      exact ⟨rfl, zero_alloc _ _⟩
end Go.Proofs.YtablckajobefeaaGreatDoor.S
/-
  A builder of the call's own among other blocks: what is no row of bytes stays as it was.
-/
namespace Go.Proofs.YtablckajobefeaaGreatDoor.S
open Go.RowKit Fl

/-- a builder in block b that holds the bytes l, its row's head frozen or not -/
def BF (B b : Nat) (l : List UInt8) (w0 w : World) : Prop := Lib.IsBuilderF 78 5 B b (Lib.byteCells l) w ∧ Below B w0 w ∧ B ≤ w.heap.size
theorem bf_of {B b : Nat} {l : List UInt8} {w0 w : World} (h : BB B b l w0 w) : BF B b l w0 w := ⟨Lib.IsBuilderF.of h.1, h.2⟩
theorem bf_alloc (w : World) : BF w.heap.size w.heap.size [] w (w.alloc (.cells #[.pointer none, .slice none 0 0] 78)) := bf_of (bb_alloc w)
theorem bf_lt {B b : Nat} {l : List UInt8} {w0 w : World} (h : BF B b l w0 w) : b < w.heap.size := by
  rcases h.1 with g | g <;> exact g.lt
theorem bf_up {B b : Nat} {l : List UInt8} {w0 w w' : World} (h : BF B b l w0 w) (hb : Below w.heap.size w w') : BF B b l w0 w' := by
  have key : ∀ p, Lib.BuilderAtF 78 5 B b p (Lib.byteCells l) w → Lib.BuilderAtF 78 5 B b p (Lib.byteCells l) w' := by
    intro p g
    have hlt := g.lt
    obtain ⟨h1, v, h2, h3, h4⟩ := g
    refine ⟨h1, v, by rw [hb.block b hlt]; exact h2, h3.kept (row := none) ⟨hb.os, hb.tape, hb.output, hb.size, fun k hk _ => hb.block k hk⟩ ?_, h4⟩
    rcases h3.2 with ⟨rfl, _⟩ | ⟨g, cap, cur, fz, rfl, _⟩
    · exact Or.inl rfl
    · exact Or.inr (by simp [Value.ownBlock])
  exact ⟨h.1.imp (key _) (key _), h.2.1.trans (hb.mono h.2.2), Nat.le_trans h.2.2 hb.size⟩
/-- every block but the builder's own and the rows of bytes is as it was -/
def Kept (b : Nat) (w w' : World) : Prop := Lib.OthersKept 5 (some b) w w'
theorem kept_blk {b k : Nat} {w w' : World} {cs : Array Value} {t : TypeId} {fz : Nat × Nat} (h : Kept b w w') (hk : w.heap[k]? = some (.cells cs t fz)) (hb : k ≠ b) (ht : t ≠ 5) : w'.heap[k]? = some (.cells cs t fz) :=
  h k _ hk (fun e => hb (Option.some.inj e)) (fun c f e => ht (by injection e))
theorem bf_byte {B b : Nat} {l : List UInt8} (c : UInt8) {w0 w : World} (h : BF B b l w0 w) (hl : l.length + 1 ≤ 140737488355328) :
    Calls Tryz.prog 31 #[.pointer (some ⟨b, 0, none⟩), .int .u8 (c.toNat : Int)] w fun e w' => e = .returned .nilIface ∧ BF B b (l ++ [c]) w0 w' ∧ Kept b w w' := by
  refine (Any.Builder_WriteByte_k Tryz.lays167 Tryz.Builder_Extra_167 B b _ c.toNat w h.1 (by rw [Lib.byteCells_length]; exact hl) h.2.2).mono fun e w' ⟨he, hb, hw, hk⟩ => ⟨he, ⟨Or.inr (by rw [Lib.byteCells_append]; exact hb), h.2.1.trans hw, Nat.le_trans h.2.2 hw.size⟩, hk⟩
theorem bf_blank {B b : Nat} {l : List UInt8} {w0 w : World} (h : BF B b l w0 w) (hl : l.length + 1 ≤ 140737488355328) :
    Calls Tryz.prog 31 #[.pointer (some ⟨b, 0, none⟩), .int .u8 32] w fun e w' => e = .returned .nilIface ∧ BF B b (l ++ [32]) w0 w' ∧ Kept b w w' := bf_byte 32 h hl
theorem bf_str {B b : Nat} {l : List UInt8} (s : ByteArray) {w0 w : World} (h : BF B b l w0 w) (hl : l.length + s.size ≤ 140737488355328) :
    Calls Tryz.prog 32 #[.pointer (some ⟨b, 0, none⟩), .string s] w fun e w' => e = .returned (.tuple #[.int .i64 s.size, .nilIface]) ∧ BF B b (l ++ s.data.toList) w0 w' ∧ Kept b w w' := by
  refine (Any.Builder_WriteString_k Tryz.lays166 Tryz.Builder_Extra_166 B b _ s w h.1 (by rw [Lib.byteCells_length]; exact hl) h.2.2).mono fun e w' ⟨he, hb, hw, hk⟩ => ⟨he, ⟨Or.inr (by rw [Lib.byteCells_append, ← Lib.strCells_eq]; exact hb), h.2.1.trans hw, Nat.le_trans h.2.2 hw.size⟩, hk⟩
theorem bf_string {B b : Nat} {l : List UInt8} {w0 w : World} (h : BF B b l w0 w) :
    Calls Tryz.prog 35 #[.pointer (some ⟨b, 0, none⟩)] w fun e w' => e = .returned (.string ⟨l.toArray⟩) ∧ Below B w0 w' :=
  (Any.Builder_String_any_k Tryz.lays169 Tryz.Builder_Extra_169 B b l w h.1 h.2.2).mono fun _ _ ⟨he, _, hw, _⟩ => ⟨he, h.2.1.trans hw⟩
theorem bf_len {B b : Nat} {l : List UInt8} {w0 w : World} (h : BF B b l w0 w) :
    Calls Tryz.prog 34 #[.pointer (some ⟨b, 0, none⟩)] w fun e w' => e = .returned (.int .i64 (l.length : Int)) ∧ w = w' := by
  have hl : (Lib.byteCells l).length = l.length := Lib.byteCells_length l
  have key : ∃ A cap, w.cell? ⟨b, 1, none⟩ = some (.slice A l.length cap) := by
    have : ∀ p, Lib.BuilderAtF 78 5 B b p (Lib.byteCells l) w → ∃ A cap, w.cell? ⟨b, 1, none⟩ = some (.slice A l.length cap) := by
      intro p g
      obtain ⟨_, v, h2, h3, _⟩ := g
      have hc : w.cell? ⟨b, 1, none⟩ = some v := by simp [World.cell?, h2]
      rw [hl] at h3
      rcases h3.2 with ⟨rfl, h0⟩ | ⟨g, cap, cur, fz, rfl, _⟩
      · exact ⟨none, 0, by rw [hc, h0]⟩
      · exact ⟨_, _, hc⟩
    rcases h.1 with g | g
    · exact this _ g
    · exact this _ g
  obtain ⟨A, cap, hc⟩ := key
  clear h hl
  go_enter Tryz.func34, Tryz.ntmps34
  go_wp2
  go_ret
  exact ⟨rfl, rfl⟩
end Go.Proofs.YtablckajobefeaaGreatDoor.S
