/-
  Descriptors as a structure, and what the package's functions make of them: plain functions.
-/
import Derived.Test.YtlgbnfcnimjheaaDescCheck
namespace Go.Proofs.Ytlgbnfcnimjheaa.S
open Go.RowKit Fl

structure Vq where
  k : Int
  x : Nat
  s : ByteArray
  r : Int
structure Dq where
  h : Int
  a : Vq
  b : Vq
  c : Vq
  p : Bool
  q : Bool
  z : Bool
def v0 : Vq := ⟨0, 0, ⟨#[]⟩, 0⟩
def Vq.val (v : Vq) : Value := .agg #[.int .u8 v.k, .float .f64 v.x, .string v.s, .int .i64 v.r]
def Dq.cells (d : Dq) : Array Value := #[.int .u8 d.h, .int .u8 d.a.k, .float .f64 d.a.x, .string d.a.s, .int .i64 d.a.r, .int .u8 d.b.k, .float .f64 d.b.x, .string d.b.s, .int .i64 d.b.r, .int .u8 d.c.k, .float .f64 d.c.x, .string d.c.s, .int .i64 d.c.r, .bool d.p, .bool d.q, .bool d.z]
def Dq.val (d : Dq) : Value := .agg d.cells
def dz (h : Int) : Dq := ⟨h, v0, v0, v0, false, false, false⟩
def layQ (u d : Dq) : Dq := ⟨bits .or .u8 u.h d.h, bif hasB d.h 1 then d.a else u.a, bif hasB d.h 4 then d.b else u.b, bif hasB d.h 8 then d.c else u.c, bif hasB d.h 2 then d.p else u.p, bif hasB d.h 16 then d.q else u.q, bif hasB d.h 32 then d.z else u.z⟩
theorem lay_q (u d : Dq) (w : World) : Calls Try.prog 22 #[u.val, d.val] w fun e w' => e = .returned (layQ u d).val ∧ Below w.heap.size w w' := by
  refine (lay_c u.h d.h u.a.k u.a.x u.a.s u.a.r u.b.k u.b.x u.b.s u.b.r u.c.k u.c.x u.c.s u.c.r d.a.k d.a.x d.a.s d.a.r d.b.k d.b.x d.b.s d.b.r d.c.k d.c.x d.c.s d.c.r u.p u.q u.z d.p d.q d.z w).mono fun e w' ⟨he, hb⟩ => ⟨he.trans ?_, hb⟩
  unfold Dq.val Dq.cells layQ
  dsimp only [layC]
  cases hasB d.h 1 <;> cases hasB d.h 2 <;> cases hasB d.h 4 <;> cases hasB d.h 8 <;> cases hasB d.h 16 <;> cases hasB d.h 32 <;> rfl
def Vq.In (v : Vq) : Prop := VIn v.k v.x v.r
def Vq.Ok (v : Vq) : Prop := VOk v.k v.x v.s v.r
noncomputable def Vq.may (v : Vq) : Bool := mayI v.k v.x v.s v.r
noncomputable def Vq.calls (v : Vq) : Bool := callsI v.k v.x v.s v.r
def Vq.z (v : Vq) : Bool := zV v.k v.x v.s v.r
def sameQ (a b : Vq) : Bool := sameI a.k a.x a.s a.r b.k b.x b.s b.r
noncomputable def chkQ (d : Dq) : Bool :=
  chk6 (hiB d.h) (hasB d.h 3 && hasB d.h 12) (!zD (layQ d (dz d.h)).h d.h (layQ d (dz d.h)).a.z (layQ d (dz d.h)).b.z (layQ d (dz d.h)).c.z (layQ d (dz d.h)).p (layQ d (dz d.h)).q (layQ d (dz d.h)).z) (!d.a.may) (hasB d.h 4 && !d.b.calls) (hasB d.h 8 && !d.c.calls)
structure Dq.In (d : Dq) : Prop where
  h0 : 0 ≤ d.h
  h1 : d.h < 256
  a : d.a.In
  b : d.b.In
  c : d.c.In
theorem Check_q {d : Dq} (hd : d.In) (w : World) : Calls Try.prog 16 #[d.val] w fun e w' => e = .returned (.int .i64 (errI (chkQ d))) ∧ Below w.heap.size w w' :=
  Check_x d.h (layQ d (dz d.h)).h d.a.k d.a.x d.a.s d.a.r d.b.k d.b.x d.b.s d.b.r d.c.k d.c.x d.c.s d.c.r (layQ d (dz d.h)).a.k (layQ d (dz d.h)).a.x (layQ d (dz d.h)).a.s (layQ d (dz d.h)).a.r (layQ d (dz d.h)).b.k (layQ d (dz d.h)).b.x (layQ d (dz d.h)).b.s (layQ d (dz d.h)).b.r (layQ d (dz d.h)).c.k (layQ d (dz d.h)).c.x (layQ d (dz d.h)).c.s (layQ d (dz d.h)).c.r d.p d.q d.z (layQ d (dz d.h)).p (layQ d (dz d.h)).q (layQ d (dz d.h)).z
    (fun w => lay_q d (dz d.h) w) (fun w => may_i hd.a w) (fun w => calls_i hd.b w) (fun w => calls_i hd.c w) w
theorem Same_q {a b : Dq} (ha : (0 ≤ a.a.k ∧ a.a.k ≤ 8) ∧ (0 ≤ a.b.k ∧ a.b.k ≤ 8) ∧ (0 ≤ a.c.k ∧ a.c.k ≤ 8)) (hb : 0 ≤ b.a.k ∧ 0 ≤ b.b.k ∧ 0 ≤ b.c.k) (w : World) :
    Calls Try.prog 9 #[a.val, b.val] w fun e w' => e = .returned (.bool (sameD a.h b.h (sameQ a.a b.a) (sameQ a.b b.b) (sameQ a.c b.c) a.p b.p a.q b.q a.z b.z)) ∧ Below w.heap.size w w' :=
  Same_d a.h b.h a.a.k a.a.x a.a.s a.a.r a.b.k a.b.x a.b.s a.b.r a.c.k a.c.x a.c.s a.c.r b.a.k b.a.x b.a.s b.a.r b.b.k b.b.x b.b.s b.b.r b.c.k b.c.x b.c.s b.c.r a.p a.q a.z b.p b.q b.z
    (fun w => same_i ha.1 hb.1 w) (fun w => same_i ha.2.1 hb.2.1 w) (fun w => same_i ha.2.2 hb.2.2 w) w
theorem IsData_q (d : Dq) (w : World) : Calls Try.prog 23 #[d.val] w fun e w' => e = .returned (.bool (hasB d.h 3)) ∧ Below w.heap.size w w' := IsData_c d.h d.a.k d.a.x d.a.s d.a.r d.b.k d.b.x d.b.s d.b.r d.c.k d.c.x d.c.s d.c.r d.p d.q d.z w
theorem IsAccess_q (d : Dq) (w : World) : Calls Try.prog 11 #[d.val] w fun e w' => e = .returned (.bool (hasB d.h 12)) ∧ Below w.heap.size w w' := IsAccess_c d.h d.a.k d.a.x d.a.s d.a.r d.b.k d.b.x d.b.s d.b.r d.c.k d.c.x d.c.s d.c.r d.p d.q d.z w

def completeQ (d : Dq) : Dq := bif hasB d.h 12 then layQ (dz 60) d else layQ (dz 51) d
def becomeQ (d now : Dq) : Dq := completeQ (layQ { now with h := bif hasB d.h 3 then bits .andNot .u8 now.h 12 else bif hasB d.h 12 then bits .andNot .u8 now.h 3 else now.h } d)
noncomputable def wholeQ (d : Dq) : Bool := chkQ d && (d.h == 51 || d.h == 60)
/-- d's Has, as it is held against now's -/
def heldH (d now : Dq) : Int := bif now.p then bits .andNot .u8 d.h 3 else d.h
def changesQ (d now : Dq) : Bool :=
  now.z || (!(hasB d.h 3 && hasB now.h 12) && (!(hasB d.h 12 && hasB now.h 3) &&
    sameD (heldH d now) (bits .and .u8 now.h (heldH d now)) (sameQ d.a now.a) (sameQ d.b now.b) (sameQ d.c now.c) d.p now.p d.q now.q d.z now.z))
noncomputable def compatQ (ext : Bool) (d : Dq) (found : Bool) (now : Dq) : Bool × Int :=
  bif !chkQ d || (found && !wholeQ now) then (false, 90) else bif !found then (ext, 0) else (changesQ d now, 0)
noncomputable def applyQ (ext : Bool) (d : Dq) (found : Bool) (now : Dq) : Dq :=
  bif !(compatQ ext d found now).1 then dz 0 else bif !found then completeQ d else becomeQ d now
end Go.Proofs.Ytlgbnfcnimjheaa.S
