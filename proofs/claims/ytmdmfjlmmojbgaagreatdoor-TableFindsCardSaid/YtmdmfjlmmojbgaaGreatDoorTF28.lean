/-
  Descriptors as a structure, and what the package's functions make of them: plain functions.
-/
import Derived.Test.YtmdmfjlmmojbgaaGreatDoorTF27
namespace Go.Proofs.YtmdmfjlmmojbgaaGreatDoor.S
open Go.RowKit Fl

structure Vq where
  k : Int
  x : Nat
  s : ByteArray
  r : Int
structure Dq where
  h : Int
  a : Vq
  b : Vq
  c : Vq
  p : Bool
  q : Bool
  z : Bool
def v0 : Vq := ⟨0, 0, ⟨#[]⟩, 0⟩
def Vq.val (v : Vq) : Value := .agg #[.int .u8 v.k, .float .f64 v.x, .string v.s, .int .i64 v.r]
def Dq.cells (d : Dq) : Array Value := #[.int .u8 d.h, .int .u8 d.a.k, .float .f64 d.a.x, .string d.a.s, .int .i64 d.a.r, .int .u8 d.b.k, .float .f64 d.b.x, .string d.b.s, .int .i64 d.b.r, .int .u8 d.c.k, .float .f64 d.c.x, .string d.c.s, .int .i64 d.c.r, .bool d.p, .bool d.q, .bool d.z]
def Dq.val (d : Dq) : Value := .agg d.cells
def dz (h : Int) : Dq := ⟨h, v0, v0, v0, false, false, false⟩
def layQ (u d : Dq) : Dq := ⟨bits .or .u8 u.h d.h, bif hasB d.h 1 then d.a else u.a, bif hasB d.h 4 then d.b else u.b, bif hasB d.h 8 then d.c else u.c, bif hasB d.h 2 then d.p else u.p, bif hasB d.h 16 then d.q else u.q, bif hasB d.h 32 then d.z else u.z⟩
theorem lay_q (u d : Dq) (w : World) : Calls Tryz.prog 69 #[u.val, d.val] w fun e w' => e = .returned (layQ u d).val ∧ Below w.heap.size w w' := by
  refine (lay_c u.h d.h u.a.k u.a.x u.a.s u.a.r u.b.k u.b.x u.b.s u.b.r u.c.k u.c.x u.c.s u.c.r d.a.k d.a.x d.a.s d.a.r d.b.k d.b.x d.b.s d.b.r d.c.k d.c.x d.c.s d.c.r u.p u.q u.z d.p d.q d.z w).mono fun e w' ⟨he, hb⟩ => ⟨he.trans ?_, hb⟩
  unfold Dq.val Dq.cells layQ
  dsimp only [layC]
  cases hasB d.h 1 <;> cases hasB d.h 2 <;> cases hasB d.h 4 <;> cases hasB d.h 8 <;> cases hasB d.h 16 <;> cases hasB d.h 32 <;> rfl
def Vq.In (v : Vq) : Prop := VIn v.k v.x v.r
def Vq.Ok (v : Vq) : Prop := VOk v.k v.x v.s v.r
noncomputable def Vq.may (v : Vq) : Bool := mayI v.k v.x v.s v.r
noncomputable def Vq.calls (v : Vq) : Bool := callsI v.k v.x v.s v.r
def Vq.z (v : Vq) : Bool := zV v.k v.x v.s v.r
def sameQ (a b : Vq) : Bool := sameI a.k a.x a.s a.r b.k b.x b.s b.r
noncomputable def chkQ (d : Dq) : Bool :=
  chk6 (hiB d.h) (hasB d.h 3 && hasB d.h 12) (!zD (layQ d (dz d.h)).h d.h (layQ d (dz d.h)).a.z (layQ d (dz d.h)).b.z (layQ d (dz d.h)).c.z (layQ d (dz d.h)).p (layQ d (dz d.h)).q (layQ d (dz d.h)).z) (!d.a.may) (hasB d.h 4 && !d.b.calls) (hasB d.h 8 && !d.c.calls)
structure Dq.In (d : Dq) : Prop where
  h0 : 0 ≤ d.h
  h1 : d.h < 256
  a : d.a.In
  b : d.b.In
  c : d.c.In
theorem Check_q {d : Dq} (hd : d.In) (w : World) : Calls Tryz.prog 51 #[d.val] w fun e w' => e = .returned (.int .i64 (errI (chkQ d))) ∧ Below w.heap.size w w' :=
  Check_x d.h (layQ d (dz d.h)).h d.a.k d.a.x d.a.s d.a.r d.b.k d.b.x d.b.s d.b.r d.c.k d.c.x d.c.s d.c.r (layQ d (dz d.h)).a.k (layQ d (dz d.h)).a.x (layQ d (dz d.h)).a.s (layQ d (dz d.h)).a.r (layQ d (dz d.h)).b.k (layQ d (dz d.h)).b.x (layQ d (dz d.h)).b.s (layQ d (dz d.h)).b.r (layQ d (dz d.h)).c.k (layQ d (dz d.h)).c.x (layQ d (dz d.h)).c.s (layQ d (dz d.h)).c.r d.p d.q d.z (layQ d (dz d.h)).p (layQ d (dz d.h)).q (layQ d (dz d.h)).z
    (fun w => lay_q d (dz d.h) w) (fun w => may_i hd.a w) (fun w => calls_i hd.b w) (fun w => calls_i hd.c w) w
theorem Same_q {a b : Dq} (ha : (0 ≤ a.a.k ∧ a.a.k ≤ 8) ∧ (0 ≤ a.b.k ∧ a.b.k ≤ 8) ∧ (0 ≤ a.c.k ∧ a.c.k ≤ 8)) (hb : 0 ≤ b.a.k ∧ 0 ≤ b.b.k ∧ 0 ≤ b.c.k) (w : World) :
    Calls Tryz.prog 20 #[a.val, b.val] w fun e w' => e = .returned (.bool (sameD a.h b.h (sameQ a.a b.a) (sameQ a.b b.b) (sameQ a.c b.c) a.p b.p a.q b.q a.z b.z)) ∧ Below w.heap.size w w' :=
  Same_d a.h b.h a.a.k a.a.x a.a.s a.a.r a.b.k a.b.x a.b.s a.b.r a.c.k a.c.x a.c.s a.c.r b.a.k b.a.x b.a.s b.a.r b.b.k b.b.x b.b.s b.b.r b.c.k b.c.x b.c.s b.c.r a.p a.q a.z b.p b.q b.z
    (fun w => same_i ha.1 hb.1 w) (fun w => same_i ha.2.1 hb.2.1 w) (fun w => same_i ha.2.2 hb.2.2 w) w
theorem IsData_q (d : Dq) (w : World) : Calls Tryz.prog 67 #[d.val] w fun e w' => e = .returned (.bool (hasB d.h 3)) ∧ Below w.heap.size w w' := IsData_c d.h d.a.k d.a.x d.a.s d.a.r d.b.k d.b.x d.b.s d.b.r d.c.k d.c.x d.c.s d.c.r d.p d.q d.z w
theorem IsAccess_q (d : Dq) (w : World) : Calls Tryz.prog 68 #[d.val] w fun e w' => e = .returned (.bool (hasB d.h 12)) ∧ Below w.heap.size w w' := IsAccess_c d.h d.a.k d.a.x d.a.s d.a.r d.b.k d.b.x d.b.s d.b.r d.c.k d.c.x d.c.s d.c.r d.p d.q d.z w

def completeQ (d : Dq) : Dq := bif hasB d.h 12 then layQ (dz 60) d else layQ (dz 51) d
def becomeQ (d now : Dq) : Dq := completeQ (layQ { now with h := bif hasB d.h 3 then bits .andNot .u8 now.h 12 else bif hasB d.h 12 then bits .andNot .u8 now.h 3 else now.h } d)
noncomputable def wholeQ (d : Dq) : Bool := chkQ d && (d.h == 51 || d.h == 60)
/-- d's Has, as it is held against now's -/
def heldH (d now : Dq) : Int := bif now.p then bits .andNot .u8 d.h 3 else d.h
def changesQ (d now : Dq) : Bool :=
  now.z || (!(hasB d.h 3 && hasB now.h 12) && (!(hasB d.h 12 && hasB now.h 3) &&
    sameD (heldH d now) (bits .and .u8 now.h (heldH d now)) (sameQ d.a now.a) (sameQ d.b now.b) (sameQ d.c now.c) d.p now.p d.q now.q d.z now.z))
noncomputable def compatQ (ext : Bool) (d : Dq) (found : Bool) (now : Dq) : Bool × Int :=
  bif !chkQ d || (found && !wholeQ now) then (false, 90) else bif !found then (ext, 0) else (changesQ d now, 0)
noncomputable def applyQ (ext : Bool) (d : Dq) (found : Bool) (now : Dq) : Dq :=
  bif !(compatQ ext d found now).1 then dz 0 else bif !found then completeQ d else becomeQ d now
end Go.Proofs.YtmdmfjlmmojbgaaGreatDoor.S
/-
  Descriptors that may be; what a property becomes: the mathematics.
-/
namespace Go.Proofs.YtmdmfjlmmojbgaaGreatDoor.S
open Go.RowKit Fl

def allH : List Int := [0, 1, 2, 3, 4, 8, 12, 16, 17, 18, 19, 20, 24, 28, 32, 33, 34, 35, 36, 40, 44, 48, 49, 50, 51, 52, 56, 60]
theorem allH_nat : ∀ n : Fin 256, hiB ((n : Nat) : Int) = false → (hasB ((n : Nat) : Int) 3 && hasB ((n : Nat) : Int) 12) = false → ((n : Nat) : Int) ∈ allH := by decide +kernel
theorem allH_of {h : Int} (h0 : 0 ≤ h) (h1 : h < 256) (a : hiB h = false) (b : (hasB h 3 && hasB h 12) = false) : h ∈ allH := by
  obtain ⟨n, rfl⟩ := Int.eq_ofNat_of_zero_le h0
  exact allH_nat ⟨n, by omega⟩ a b
theorem allH_bits : ∀ h ∈ allH, hiB h = false ∧ (hasB h 3 && hasB h 12) = false ∧ bits .or .u8 h h = h ∧ hasB h 3 = (hasB h 1 || hasB h 2) ∧ hasB h 12 = (hasB h 4 || hasB h 8) ∧ bits .and .u8 h h = h := by decide +kernel
structure Good (d : Dq) : Prop where
  mem : d.h ∈ allH
  a : d.a.Ok
  na : hasB d.h 1 = false → d.a.z = true
  b : hasB d.h 4 = true → d.b.Ok ∧ calI d.b.k = true
  nb : hasB d.h 4 = false → d.b.z = true
  c : hasB d.h 8 = true → d.c.Ok ∧ calI d.c.k = true
  nc : hasB d.h 8 = false → d.c.z = true
  np : hasB d.h 2 = false → d.p = false
  nq : hasB d.h 16 = false → d.q = false
  nz : hasB d.h 32 = false → d.z = false
theorem v0_z : v0.z = true := by
  have z3 : (⟨#[]⟩ : ByteArray).toList = [] := by rw [toList_data]
  unfold v0 Vq.z zV
  dsimp only
  rw [z3, show feq 0 0 = true from by decide]
  rfl
theorem v0_ok : v0.Ok := vok_und
theorem calls_iff {v : Vq} : v.calls = true ↔ v.Ok ∧ calI v.k = true := by
  unfold Vq.calls callsI Vq.Ok
  rw [Bool.and_eq_true, mayI_iff]
theorem good_of {d : Dq} (hd : d.In) (h : chkQ d = true) : Good d := by
  unfold chkQ chk6 zD layQ dz at h
  dsimp only at h
  simp only [Bool.and_eq_true, Bool.not_eq_true', Bool.not_eq_false'] at h
  obtain ⟨⟨⟨⟨⟨h0, h1⟩, _, h3, h4, h5, h6, h7, h8⟩, hm⟩, hb⟩, hc⟩ := h
  refine ⟨allH_of hd.h0 hd.h1 h0 h1, mayI_iff.1 hm, ?_, ?_, ?_, ?_, ?_, ?_, ?_, ?_⟩
  · intro e; rw [e] at h3; exact h3
  · intro e; rw [e] at hb; simpa [calls_iff] using hb
  · intro e; rw [e] at h4; exact h4
  · intro e; rw [e] at hc; simpa [calls_iff] using hc
  · intro e; rw [e] at h5; exact h5
  · intro e; rw [e] at h6; exact h6
  · intro e; rw [e] at h7; exact h7
  · intro e; rw [e] at h8; exact h8
theorem chk_of {d : Dq} (g : Good d) : chkQ d = true := by
  obtain ⟨b0, b1, b2, _⟩ := allH_bits _ g.mem
  have ea : (bif hasB d.h 1 then v0 else d.a).z = true := by cases e : hasB d.h 1 with | false => exact g.na e | true => exact v0_z
  have eb : (bif hasB d.h 4 then v0 else d.b).z = true := by cases e : hasB d.h 4 with | false => exact g.nb e | true => exact v0_z
  have ec : (bif hasB d.h 8 then v0 else d.c).z = true := by cases e : hasB d.h 8 with | false => exact g.nc e | true => exact v0_z
  have ep : (bif hasB d.h 2 then false else d.p) = false := by cases e : hasB d.h 2 with | false => exact g.np e | true => rfl
  have eq : (bif hasB d.h 16 then false else d.q) = false := by cases e : hasB d.h 16 with | false => exact g.nq e | true => rfl
  have ez : (bif hasB d.h 32 then false else d.z) = false := by cases e : hasB d.h 32 with | false => exact g.nz e | true => rfl
  have em : d.a.may = true := mayI_iff.2 g.a
  have e4 : (hasB d.h 4 && !d.b.calls) = false := by cases e : hasB d.h 4 with | false => rfl | true => rw [calls_iff.2 (g.b e)]; rfl
  have e8 : (hasB d.h 8 && !d.c.calls) = false := by cases e : hasB d.h 8 with | false => rfl | true => rw [calls_iff.2 (g.c e)]; rfl
  unfold chkQ chk6 zD layQ dz
  dsimp only
  rw [b0, b1, b2, ea, eb, ec, ep, eq, ez, em, e4, e8, beq_self_eq_true]
  rfl
theorem z_kind {v : Vq} (h : v.z = true) : v.k = 0 := by
  unfold Vq.z zV at h
  rw [Bool.and_eq_true] at h
  exact eq_of_beq h.1
theorem good_kinds {d : Dq} (g : Good d) : (0 ≤ d.a.k ∧ d.a.k ≤ 8) ∧ (0 ≤ d.b.k ∧ d.b.k ≤ 8) ∧ (0 ≤ d.c.k ∧ d.c.k ≤ 8) := by
  refine ⟨vok_kind g.a, ?_, ?_⟩
  · cases e : hasB d.h 4 with
    | true => exact vok_kind (g.b e).1
    | false => rw [z_kind (g.nb e)]; omega
  · cases e : hasB d.h 8 with
    | true => exact vok_kind (g.c e).1
    | false => rw [z_kind (g.nc e)]; omega
theorem whole_iff {d : Dq} (hd : d.In) : wholeQ d = true ↔ Good d ∧ (d.h = 51 ∨ d.h = 60) := by
  unfold wholeQ
  rw [Bool.and_eq_true, Bool.or_eq_true, beq_iff_eq, beq_iff_eq]
  exact ⟨fun ⟨a, b⟩ => ⟨good_of hd a, b⟩, fun ⟨a, b⟩ => ⟨chk_of a, b⟩⟩

/-- what it becomes, where there is none -/
theorem complete_eq {d : Dq} (g : d.h ∈ allH) : completeQ d = ⟨bif hasB d.h 12 then 60 else 51, bif hasB d.h 1 then d.a else v0, bif hasB d.h 4 then d.b else v0, bif hasB d.h 8 then d.c else v0, bif hasB d.h 2 then d.p else false, bif hasB d.h 16 then d.q else false, bif hasB d.h 32 then d.z else false⟩ := by
  obtain ⟨h, a, b, c, p, q, z⟩ := d
  dsimp only at g ⊢
  simp only [allH, List.mem_cons, List.not_mem_nil, or_false] at g
  rcases g with rfl | rfl | rfl | rfl | rfl | rfl | rfl | rfl | rfl | rfl | rfl | rfl | rfl | rfl | rfl | rfl | rfl | rfl | rfl | rfl | rfl | rfl | rfl | rfl | rfl | rfl | rfl | rfl <;> kernel_rfl
/-- what it becomes, where there is one -/
theorem become_eq {d now : Dq} (g : d.h ∈ allH) (hn : now.h = 51 ∨ now.h = 60) : becomeQ d now = ⟨bif hasB d.h 3 then 51 else bif hasB d.h 12 then 60 else now.h,
    bif hasB d.h 1 then d.a else bif !hasB d.h 12 && now.h == 51 then now.a else v0, bif hasB d.h 4 then d.b else bif !hasB d.h 3 && now.h == 60 then now.b else v0, bif hasB d.h 8 then d.c else bif !hasB d.h 3 && now.h == 60 then now.c else v0,
    bif hasB d.h 2 then d.p else bif !hasB d.h 12 && now.h == 51 then now.p else false, bif hasB d.h 16 then d.q else now.q, bif hasB d.h 32 then d.z else now.z⟩ := by
  obtain ⟨h, a, b, c, p, q, z⟩ := d
  obtain ⟨m, a', b', c', p', q', z'⟩ := now
  dsimp only at g hn ⊢
  simp only [allH, List.mem_cons, List.not_mem_nil, or_false] at g
  rcases hn with rfl | rfl <;>
  rcases g with rfl | rfl | rfl | rfl | rfl | rfl | rfl | rfl | rfl | rfl | rfl | rfl | rfl | rfl | rfl | rfl | rfl | rfl | rfl | rfl | rfl | rfl | rfl | rfl | rfl | rfl | rfl | rfl <;> kernel_rfl
end Go.Proofs.YtmdmfjlmmojbgaaGreatDoor.S
