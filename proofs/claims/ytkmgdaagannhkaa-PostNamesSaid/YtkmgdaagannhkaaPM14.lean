/-
  PostLies: the call of Check, told of an input.
-/
import Derived.Test.YtkmgdaagannhkaaPM13
import Derived.Test.YtkmgdaagannhkaaPM03
import Derived.Deep.Slices
import Derived.Deep.Fields
import Derived.ChangeSame
import Derived.Carry
import Derived.OpenShut
import Derived.Laws.Cover2
import Derived.Test.YtkmgdaagannhkaaPM05
namespace Go.Proofs.Ytkmgdaagannhkaa.S
open Go.RowKit Go.Lib Fl
open Classical

/-- an input and an answer in blocks of their own -/
structure Sx (w : World) (c : Array Value) (g : Nat) (X : Oq) (W : World) : Prop where
  below : Below w.heap.size w W
  c : W.heap[w.heap.size]? = some (.cells c 52 (0, 0))
  o : W.heap[g]? = some (.cells (oql X).toArray 33 (0, 0))
theorem Sx.up {w W W' : World} {c : Array Value} {g : Nat} {X : Oq} (h : Sx w c g X W) (hb : Below W.heap.size W W') : Sx w c g X W' := ⟨vb h.below hb, vblkn hb h.c, vblkn hb h.o⟩
/-- what Check comes to, but for the world -/
def ChX (a : Ak) (q : Oq) (f : Fq) (K L : List Ky) (D : List Dq) (X : Oq) (b : Bool) : Prop :=
  (mayE a q f K L D ≠ 0 ∧ X = oz0 ∧ b = false) ∨ (mayE a q f K L D = 0 ∧ holdsB a q f K L D = false ∧ X = oz0 ∧ b = false) ∨ (mayE a q f K L D = 0 ∧ holdsB a q f K L D = true ∧ b = true ∧ ∃ ka kc, X = delQ a.m q K.length ka kc)
section
variable {o : Oper} {a : Act} {w : World}
theorem en_o26 (ho : o.op = .alloc 33) : (execOp a.eval o).run Try.prog w = .ok (.value (.pointer (some ⟨w.heap.size, 0, none⟩))) (w.alloc (.cells oz26 33)) := by
  unfold execOp
  simp only [ho]
  kernel_rfl
end
end Go.Proofs.Ytkmgdaagannhkaa.S
/-
  What a descriptor that is delivered keeps of a fixed property.
-/
namespace Go.Proofs.Ytkmgdaagannhkaa.S
open Go.RowKit Go.Lib Fl
open Classical

structure Kept (c : Dq) (f : Fq) : Prop where
  h : c.h = 51 ∨ c.h = 60
  k : 0 ≤ c.a.k ∧ c.a.k ≤ 8
  z : fixedB f = true → c.z = false
  s : fixedB f = true → f.d.h = c.h
  q : fixedB f = true → c.q = f.d.q
  p : fixedB f = true → hasB f.d.h 3 = true → f.d.p = false → c.p = false ∧ sameQ c.a f.d.a = true
end Go.Proofs.Ytkmgdaagannhkaa.S
/-
  A value that comes in, opened: a struct of four fields.
-/
namespace Go.Proofs.Ytkmgdaagannhkaa.S
open Go.ChangeShapes Go.WideShapes Go.Deep Go.RowKit Fl

section
variable {H : Type} {enc : TypeId × Value → H} {w : World} {base : Nat} {spare : Nat → Bool} {held : Bool}
end
end Go.Proofs.Ytkmgdaagannhkaa.S
/-
  A descriptor that comes in, opened: a struct of seven fields, three of them structs.
-/
namespace Go.Proofs.Ytkmgdaagannhkaa.S
open Go.ChangeShapes Go.WideShapes Go.Deep Go.RowKit Fl

section
variable {H : Type} {enc : TypeId × Value → H} {w : World} {base : Nat} {spare : Nat → Bool} {held : Bool}
end
end Go.Proofs.Ytkmgdaagannhkaa.S
/-
  The input of the laws on post, opened. Generated: gen_postopen.py.
-/
namespace Go.Proofs.Ytkmgdaagannhkaa.S
open Go.ChangeShapes Go.WideShapes Go.Deep Go.RowKit Fl

section
variable {H : Type} {enc : TypeId × Value → H} {w : World} {base : Nat} {spare : Nat → Bool} {held : Bool}
/-- what is known of an input -/
structure SIn (w : World) (a : Ak) (q : Oq) (f : Fq) (K L : List Ky) (D : List Dq) : Prop where
  ad : a.d.In
  av : a.v.In
  qv : q.v.In
  qd : q.d.In
  fp : f.proto.In
  fd : f.d.In
  kn : q.kn = K.length
  kc : K.length ≤ q.kc
  knil : q.ka = none → q.kc = 0
  k : RK w q.ka K
  fk : f.kn = L.length
  lc : L.length ≤ f.kc
  lnil : f.ka = none → f.kc = 0
  l : RK w f.ka L
  fn : f.on = D.length
  d : RD w f.oa D
  di : ∀ d ∈ D, d.In
end
end Go.Proofs.Ytkmgdaagannhkaa.S
/-
  PostTruth: what says what the target itself says is delivered: the mathematics, and the six calls of Check.
-/
namespace Go.Proofs.Ytkmgdaagannhkaa.S
open Go.RowKit Go.Lib Fl
open Classical

def valO (v : Vq) : Oq := ⟨1, v, false, false, dz 0, none, 0, 0, 0, ⟨#[]⟩⟩
def keyO (A : Option Addr) (n c : Nat) : Oq := ⟨1, v0, false, false, dz 0, A, n, c, 0, ⟨#[]⟩⟩
def fndO (b : Bool) (d : Dq) : Oq := ⟨1, v0, false, b, d, none, 0, 0, 0, ⟨#[]⟩⟩
/-- what Check comes to, where what counts may be -/
def TrX (E m : Int) (q : Oq) (n : Nat) (X : Oq) (b : Bool) : Prop := E = 0 → b = true ∧ ∃ ka kc, X = delQ m q n ka kc
theorem check_t (W : World) (a : Ak) (q : Oq) (f : Fq) (K L : List Ky) (D : List Dq) (hi : CIn W a q f K L D) (hl : K.length ≤ 70000) (hh : mayE a q f K L D = 0 → holdsB a q f K L D = true) : Calls Try.prog 8 #[.agg (akA a), .agg (oqA q), .agg (fqA f)] W fun e w' =>
    ∃ (X : Oq) (b : Bool), e = .returned (.tuple #[.agg (oqA X), .bool b, .int .i64 (mayE a q f K L D)]) ∧ TrX (mayE a q f K L D) a.m q K.length X b ∧ Below W.heap.size W w' := by
  refine (check_p W a q f K L D hi hl).mono fun e w' h => ?_
  obtain ⟨X, t, he, h, hb⟩ := h
  refine ⟨X, t, he, fun h0 => ?_, hb⟩
  rcases h with ⟨h1, _⟩ | ⟨_, h1, _⟩ | ⟨_, _, h3, ka, kc, h4⟩
  · exact absurd h0 h1
  · rw [hh h0] at h1; cases h1
  · exact ⟨h3, ka, kc, h4⟩
theorem t_may5 {f : Fq} {q : Oq} {L : List Ky} {D : List Dq} (hq : q.kind = 1) : mayE (akz 5) q f [] L D = orE (descE q) (thereE f) := by
  unfold mayE akz; simp [hq]
/-- a whole descriptor, made complete -/
structure Self (x d : Dq) : Prop where
  g : Good x
  h : x.h = d.h
  a : hasB d.h 1 = true → x.a = d.a
  b : hasB d.h 4 = true → x.b = d.b
  c : hasB d.h 8 = true → x.c = d.c
  p : hasB d.h 2 = true → x.p = d.p
  q : x.q = d.q
  z : x.z = d.z
end Go.Proofs.Ytkmgdaagannhkaa.S
