/-
  Descriptors that may be; what a property becomes: the mathematics.
-/
import Derived.Test.YtlgbnfcnimjheaaDescMath
namespace Go.Proofs.Ytlgbnfcnimjheaa.S
open Go.RowKit Fl

def allH : List Int := [0, 1, 2, 3, 4, 8, 12, 16, 17, 18, 19, 20, 24, 28, 32, 33, 34, 35, 36, 40, 44, 48, 49, 50, 51, 52, 56, 60]
theorem allH_nat : ∀ n : Fin 256, hiB ((n : Nat) : Int) = false → (hasB ((n : Nat) : Int) 3 && hasB ((n : Nat) : Int) 12) = false → ((n : Nat) : Int) ∈ allH := by decide +kernel
theorem allH_of {h : Int} (h0 : 0 ≤ h) (h1 : h < 256) (a : hiB h = false) (b : (hasB h 3 && hasB h 12) = false) : h ∈ allH := by
  obtain ⟨n, rfl⟩ := Int.eq_ofNat_of_zero_le h0
  exact allH_nat ⟨n, by omega⟩ a b
theorem allH_bits : ∀ h ∈ allH, hiB h = false ∧ (hasB h 3 && hasB h 12) = false ∧ bits .or .u8 h h = h ∧ hasB h 3 = (hasB h 1 || hasB h 2) ∧ hasB h 12 = (hasB h 4 || hasB h 8) ∧ bits .and .u8 h h = h := by decide +kernel
structure Good (d : Dq) : Prop where
  mem : d.h ∈ allH
  a : d.a.Ok
  na : hasB d.h 1 = false → d.a.z = true
  b : hasB d.h 4 = true → d.b.Ok ∧ calI d.b.k = true
  nb : hasB d.h 4 = false → d.b.z = true
  c : hasB d.h 8 = true → d.c.Ok ∧ calI d.c.k = true
  nc : hasB d.h 8 = false → d.c.z = true
  np : hasB d.h 2 = false → d.p = false
  nq : hasB d.h 16 = false → d.q = false
  nz : hasB d.h 32 = false → d.z = false
theorem v0_z : v0.z = true := by
  have z3 : (⟨#[]⟩ : ByteArray).toList = [] := by rw [toList_data]
  unfold v0 Vq.z zV
  dsimp only
  rw [z3, show feq 0 0 = true from by decide]
  rfl
theorem v0_ok : v0.Ok := vok_und
theorem calls_iff {v : Vq} : v.calls = true ↔ v.Ok ∧ calI v.k = true := by
  unfold Vq.calls callsI Vq.Ok
  rw [Bool.and_eq_true, mayI_iff]
theorem good_of {d : Dq} (hd : d.In) (h : chkQ d = true) : Good d := by
  unfold chkQ chk6 zD layQ dz at h
  dsimp only at h
  simp only [Bool.and_eq_true, Bool.not_eq_true', Bool.not_eq_false'] at h
  obtain ⟨⟨⟨⟨⟨h0, h1⟩, _, h3, h4, h5, h6, h7, h8⟩, hm⟩, hb⟩, hc⟩ := h
  refine ⟨allH_of hd.h0 hd.h1 h0 h1, mayI_iff.1 hm, ?_, ?_, ?_, ?_, ?_, ?_, ?_, ?_⟩
  · intro e; rw [e] at h3; exact h3
  · intro e; rw [e] at hb; simpa [calls_iff] using hb
  · intro e; rw [e] at h4; exact h4
  · intro e; rw [e] at hc; simpa [calls_iff] using hc
  · intro e; rw [e] at h5; exact h5
  · intro e; rw [e] at h6; exact h6
  · intro e; rw [e] at h7; exact h7
  · intro e; rw [e] at h8; exact h8
theorem chk_of {d : Dq} (g : Good d) : chkQ d = true := by
  obtain ⟨b0, b1, b2, _⟩ := allH_bits _ g.mem
  have ea : (bif hasB d.h 1 then v0 else d.a).z = true := by cases e : hasB d.h 1 with | false => exact g.na e | true => exact v0_z
  have eb : (bif hasB d.h 4 then v0 else d.b).z = true := by cases e : hasB d.h 4 with | false => exact g.nb e | true => exact v0_z
  have ec : (bif hasB d.h 8 then v0 else d.c).z = true := by cases e : hasB d.h 8 with | false => exact g.nc e | true => exact v0_z
  have ep : (bif hasB d.h 2 then false else d.p) = false := by cases e : hasB d.h 2 with | false => exact g.np e | true => rfl
  have eq : (bif hasB d.h 16 then false else d.q) = false := by cases e : hasB d.h 16 with | false => exact g.nq e | true => rfl
  have ez : (bif hasB d.h 32 then false else d.z) = false := by cases e : hasB d.h 32 with | false => exact g.nz e | true => rfl
  have em : d.a.may = true := mayI_iff.2 g.a
  have e4 : (hasB d.h 4 && !d.b.calls) = false := by cases e : hasB d.h 4 with | false => rfl | true => rw [calls_iff.2 (g.b e)]; rfl
  have e8 : (hasB d.h 8 && !d.c.calls) = false := by cases e : hasB d.h 8 with | false => rfl | true => rw [calls_iff.2 (g.c e)]; rfl
  unfold chkQ chk6 zD layQ dz
  dsimp only
  rw [b0, b1, b2, ea, eb, ec, ep, eq, ez, em, e4, e8, beq_self_eq_true]
  rfl
theorem z_kind {v : Vq} (h : v.z = true) : v.k = 0 := by
  unfold Vq.z zV at h
  rw [Bool.and_eq_true] at h
  exact eq_of_beq h.1
theorem good_kinds {d : Dq} (g : Good d) : (0 ≤ d.a.k ∧ d.a.k ≤ 8) ∧ (0 ≤ d.b.k ∧ d.b.k ≤ 8) ∧ (0 ≤ d.c.k ∧ d.c.k ≤ 8) := by
  refine ⟨vok_kind g.a, ?_, ?_⟩
  · cases e : hasB d.h 4 with
    | true => exact vok_kind (g.b e).1
    | false => rw [z_kind (g.nb e)]; omega
  · cases e : hasB d.h 8 with
    | true => exact vok_kind (g.c e).1
    | false => rw [z_kind (g.nc e)]; omega
theorem whole_iff {d : Dq} (hd : d.In) : wholeQ d = true ↔ Good d ∧ (d.h = 51 ∨ d.h = 60) := by
  unfold wholeQ
  rw [Bool.and_eq_true, Bool.or_eq_true, beq_iff_eq, beq_iff_eq]
  exact ⟨fun ⟨a, b⟩ => ⟨good_of hd a, b⟩, fun ⟨a, b⟩ => ⟨chk_of a, b⟩⟩

/-- what it becomes, where there is none -/
theorem complete_eq {d : Dq} (g : d.h ∈ allH) : completeQ d = ⟨bif hasB d.h 12 then 60 else 51, bif hasB d.h 1 then d.a else v0, bif hasB d.h 4 then d.b else v0, bif hasB d.h 8 then d.c else v0, bif hasB d.h 2 then d.p else false, bif hasB d.h 16 then d.q else false, bif hasB d.h 32 then d.z else false⟩ := by
  obtain ⟨h, a, b, c, p, q, z⟩ := d
  dsimp only at g ⊢
  simp only [allH, List.mem_cons, List.not_mem_nil, or_false] at g
  rcases g with rfl | rfl | rfl | rfl | rfl | rfl | rfl | rfl | rfl | rfl | rfl | rfl | rfl | rfl | rfl | rfl | rfl | rfl | rfl | rfl | rfl | rfl | rfl | rfl | rfl | rfl | rfl | rfl <;> kernel_rfl
/-- what it becomes, where there is one -/
theorem become_eq {d now : Dq} (g : d.h ∈ allH) (hn : now.h = 51 ∨ now.h = 60) : becomeQ d now = ⟨bif hasB d.h 3 then 51 else bif hasB d.h 12 then 60 else now.h,
    bif hasB d.h 1 then d.a else bif !hasB d.h 12 && now.h == 51 then now.a else v0, bif hasB d.h 4 then d.b else bif !hasB d.h 3 && now.h == 60 then now.b else v0, bif hasB d.h 8 then d.c else bif !hasB d.h 3 && now.h == 60 then now.c else v0,
    bif hasB d.h 2 then d.p else bif !hasB d.h 12 && now.h == 51 then now.p else false, bif hasB d.h 16 then d.q else now.q, bif hasB d.h 32 then d.z else now.z⟩ := by
  obtain ⟨h, a, b, c, p, q, z⟩ := d
  obtain ⟨m, a', b', c', p', q', z'⟩ := now
  dsimp only at g hn ⊢
  simp only [allH, List.mem_cons, List.not_mem_nil, or_false] at g
  rcases hn with rfl | rfl <;>
  rcases g with rfl | rfl | rfl | rfl | rfl | rfl | rfl | rfl | rfl | rfl | rfl | rfl | rfl | rfl | rfl | rfl | rfl | rfl | rfl | rfl | rfl | rfl | rfl | rfl | rfl | rfl | rfl | rfl <;> kernel_rfl
end Go.Proofs.Ytlgbnfcnimjheaa.S
