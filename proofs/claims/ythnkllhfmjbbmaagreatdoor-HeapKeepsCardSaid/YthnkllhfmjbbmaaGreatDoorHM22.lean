/-
  Descriptors that may be; what a property becomes: the mathematics.
-/
import Derived.Test.YthnkllhfmjbbmaaGreatDoorHM21
import Derived.Test.YthnkllhfmjbbmaaGreatDoorHM18
namespace Go.Proofs.YthnkllhfmjbbmaaGreatDoor.S
open Go.RowKit Fl

def allH : List Int := [0, 1, 2, 3, 4, 8, 12, 16, 17, 18, 19, 20, 24, 28, 32, 33, 34, 35, 36, 40, 44, 48, 49, 50, 51, 52, 56, 60]
theorem allH_nat : ∀ n : Fin 256, hiB ((n : Nat) : Int) = false → (hasB ((n : Nat) : Int) 3 && hasB ((n : Nat) : Int) 12) = false → ((n : Nat) : Int) ∈ allH := by decide +kernel
theorem allH_of {h : Int} (h0 : 0 ≤ h) (h1 : h < 256) (a : hiB h = false) (b : (hasB h 3 && hasB h 12) = false) : h ∈ allH := by
  obtain ⟨n, rfl⟩ := Int.eq_ofNat_of_zero_le h0
  exact allH_nat ⟨n, by omega⟩ a b
theorem allH_bits : ∀ h ∈ allH, hiB h = false ∧ (hasB h 3 && hasB h 12) = false ∧ bits .or .u8 h h = h ∧ hasB h 3 = (hasB h 1 || hasB h 2) ∧ hasB h 12 = (hasB h 4 || hasB h 8) ∧ bits .and .u8 h h = h := by decide +kernel
structure Good (d : Dq) : Prop where
  mem : d.h ∈ allH
  a : d.a.Ok
  na : hasB d.h 1 = false → d.a.z = true
  b : hasB d.h 4 = true → d.b.Ok ∧ calI d.b.k = true
  nb : hasB d.h 4 = false → d.b.z = true
  c : hasB d.h 8 = true → d.c.Ok ∧ calI d.c.k = true
  nc : hasB d.h 8 = false → d.c.z = true
  np : hasB d.h 2 = false → d.p = false
  nq : hasB d.h 16 = false → d.q = false
  nz : hasB d.h 32 = false → d.z = false
theorem v0_z : v0.z = true := by
  have z3 : (⟨#[]⟩ : ByteArray).toList = [] := by rw [toList_data]
  unfold v0 Vq.z zV
  dsimp only
  rw [z3, show feq 0 0 = true from by decide]
  rfl
theorem v0_ok : v0.Ok := vok_und
theorem calls_iff {v : Vq} : v.calls = true ↔ v.Ok ∧ calI v.k = true := by
  unfold Vq.calls callsI Vq.Ok
  rw [Bool.and_eq_true, mayI_iff]
theorem good_of {d : Dq} (hd : d.In) (h : chkQ d = true) : Good d := by
  unfold chkQ chk6 zD layQ dz at h
  dsimp only at h
  simp only [Bool.and_eq_true, Bool.not_eq_true', Bool.not_eq_false'] at h
  obtain ⟨⟨⟨⟨⟨h0, h1⟩, _, h3, h4, h5, h6, h7, h8⟩, hm⟩, hb⟩, hc⟩ := h
  refine ⟨allH_of hd.h0 hd.h1 h0 h1, mayI_iff.1 hm, ?_, ?_, ?_, ?_, ?_, ?_, ?_, ?_⟩
  · intro e; rw [e] at h3; exact h3
  · intro e; rw [e] at hb; simpa [calls_iff] using hb
  · intro e; rw [e] at h4; exact h4
  · intro e; rw [e] at hc; simpa [calls_iff] using hc
  · intro e; rw [e] at h5; exact h5
  · intro e; rw [e] at h6; exact h6
  · intro e; rw [e] at h7; exact h7
  · intro e; rw [e] at h8; exact h8
theorem chk_of {d : Dq} (g : Good d) : chkQ d = true := by
  obtain ⟨b0, b1, b2, _⟩ := allH_bits _ g.mem
  have ea : (bif hasB d.h 1 then v0 else d.a).z = true := by cases e : hasB d.h 1 with | false => exact g.na e | true => exact v0_z
  have eb : (bif hasB d.h 4 then v0 else d.b).z = true := by cases e : hasB d.h 4 with | false => exact g.nb e | true => exact v0_z
  have ec : (bif hasB d.h 8 then v0 else d.c).z = true := by cases e : hasB d.h 8 with | false => exact g.nc e | true => exact v0_z
  have ep : (bif hasB d.h 2 then false else d.p) = false := by cases e : hasB d.h 2 with | false => exact g.np e | true => rfl
  have eq : (bif hasB d.h 16 then false else d.q) = false := by cases e : hasB d.h 16 with | false => exact g.nq e | true => rfl
  have ez : (bif hasB d.h 32 then false else d.z) = false := by cases e : hasB d.h 32 with | false => exact g.nz e | true => rfl
  have em : d.a.may = true := mayI_iff.2 g.a
  have e4 : (hasB d.h 4 && !d.b.calls) = false := by cases e : hasB d.h 4 with | false => rfl | true => rw [calls_iff.2 (g.b e)]; rfl
  have e8 : (hasB d.h 8 && !d.c.calls) = false := by cases e : hasB d.h 8 with | false => rfl | true => rw [calls_iff.2 (g.c e)]; rfl
  unfold chkQ chk6 zD layQ dz
  dsimp only
  rw [b0, b1, b2, ea, eb, ec, ep, eq, ez, em, e4, e8, beq_self_eq_true]
  rfl
theorem z_kind {v : Vq} (h : v.z = true) : v.k = 0 := by
  unfold Vq.z zV at h
  rw [Bool.and_eq_true] at h
  exact eq_of_beq h.1
theorem good_kinds {d : Dq} (g : Good d) : (0 ≤ d.a.k ∧ d.a.k ≤ 8) ∧ (0 ≤ d.b.k ∧ d.b.k ≤ 8) ∧ (0 ≤ d.c.k ∧ d.c.k ≤ 8) := by
  refine ⟨vok_kind g.a, ?_, ?_⟩
  · cases e : hasB d.h 4 with
    | true => exact vok_kind (g.b e).1
    | false => rw [z_kind (g.nb e)]; omega
  · cases e : hasB d.h 8 with
    | true => exact vok_kind (g.c e).1
    | false => rw [z_kind (g.nc e)]; omega
theorem whole_iff {d : Dq} (hd : d.In) : wholeQ d = true ↔ Good d ∧ (d.h = 51 ∨ d.h = 60) := by
  unfold wholeQ
  rw [Bool.and_eq_true, Bool.or_eq_true, beq_iff_eq, beq_iff_eq]
  exact ⟨fun ⟨a, b⟩ => ⟨good_of hd a, b⟩, fun ⟨a, b⟩ => ⟨chk_of a, b⟩⟩

/-- what it becomes, where there is none -/
theorem complete_eq {d : Dq} (g : d.h ∈ allH) : completeQ d = ⟨bif hasB d.h 12 then 60 else 51, bif hasB d.h 1 then d.a else v0, bif hasB d.h 4 then d.b else v0, bif hasB d.h 8 then d.c else v0, bif hasB d.h 2 then d.p else false, bif hasB d.h 16 then d.q else false, bif hasB d.h 32 then d.z else false⟩ := by
  obtain ⟨h, a, b, c, p, q, z⟩ := d
  dsimp only at g ⊢
  simp only [allH, List.mem_cons, List.not_mem_nil, or_false] at g
  rcases g with rfl | rfl | rfl | rfl | rfl | rfl | rfl | rfl | rfl | rfl | rfl | rfl | rfl | rfl | rfl | rfl | rfl | rfl | rfl | rfl | rfl | rfl | rfl | rfl | rfl | rfl | rfl | rfl <;> kernel_rfl
/-- what it becomes, where there is one -/
theorem become_eq {d now : Dq} (g : d.h ∈ allH) (hn : now.h = 51 ∨ now.h = 60) : becomeQ d now = ⟨bif hasB d.h 3 then 51 else bif hasB d.h 12 then 60 else now.h,
    bif hasB d.h 1 then d.a else bif !hasB d.h 12 && now.h == 51 then now.a else v0, bif hasB d.h 4 then d.b else bif !hasB d.h 3 && now.h == 60 then now.b else v0, bif hasB d.h 8 then d.c else bif !hasB d.h 3 && now.h == 60 then now.c else v0,
    bif hasB d.h 2 then d.p else bif !hasB d.h 12 && now.h == 51 then now.p else false, bif hasB d.h 16 then d.q else now.q, bif hasB d.h 32 then d.z else now.z⟩ := by
  obtain ⟨h, a, b, c, p, q, z⟩ := d
  obtain ⟨m, a', b', c', p', q', z'⟩ := now
  dsimp only at g hn ⊢
  simp only [allH, List.mem_cons, List.not_mem_nil, or_false] at g
  rcases hn with rfl | rfl <;>
  rcases g with rfl | rfl | rfl | rfl | rfl | rfl | rfl | rfl | rfl | rfl | rfl | rfl | rfl | rfl | rfl | rfl | rfl | rfl | rfl | rfl | rfl | rfl | rfl | rfl | rfl | rfl | rfl | rfl <;> kernel_rfl
end Go.Proofs.YthnkllhfmjbbmaaGreatDoor.S
/-
  What a property becomes may be, is complete and has what was asked; applied to itself it stays; what is not configurable stays: the mathematics.
-/
namespace Go.Proofs.YthnkllhfmjbbmaaGreatDoor.S
open Go.RowKit Fl

def leftQ (d : Dq) (m : Int) : Dq := ⟨bits .and .u8 d.h m, bif hasB (bits .and .u8 d.h m) 1 then d.a else v0, bif hasB (bits .and .u8 d.h m) 4 then d.b else v0, bif hasB (bits .and .u8 d.h m) 8 then d.c else v0, bif hasB (bits .and .u8 d.h m) 2 then d.p else false, bif hasB (bits .and .u8 d.h m) 16 then d.q else false, bif hasB (bits .and .u8 d.h m) 32 then d.z else false⟩
theorem bits_ways {h : Int} (g : h ∈ allH) : ∃ b1 b2 b4 b8, hasB h 1 = b1 ∧ hasB h 2 = b2 ∧ hasB h 4 = b4 ∧ hasB h 8 = b8 ∧ hasB h 3 = (b1 || b2) ∧ hasB h 12 = (b4 || b8) ∧ ((b1 || b2) && (b4 || b8)) = false := by
  obtain ⟨_, h2, _, h4, h5, _⟩ := allH_bits h g
  exact ⟨_, _, _, _, rfl, rfl, rfl, rfl, h4, h5, by rw [← h4, ← h5]; exact h2⟩
theorem good51 {a : Vq} {p q z : Bool} (ha : a.Ok) : Good ⟨51, a, v0, v0, p, q, z⟩ :=
  ⟨by dsimp only; decide, ha, fun h => absurd h (by dsimp only; decide), fun h => absurd h (by dsimp only; decide), fun _ => v0_z, fun h => absurd h (by dsimp only; decide), fun _ => v0_z, fun h => absurd h (by dsimp only; decide), fun h => absurd h (by dsimp only; decide), fun h => absurd h (by dsimp only; decide)⟩
theorem good60 {b c : Vq} {q z : Bool} (hb : b.Ok ∧ calI b.k = true) (hc : c.Ok ∧ calI c.k = true) : Good ⟨60, v0, b, c, false, q, z⟩ :=
  ⟨by dsimp only; decide, v0_ok, fun _ => v0_z, fun _ => hb, fun h => absurd h (by dsimp only; decide), fun _ => hc, fun h => absurd h (by dsimp only; decide), fun _ => rfl, fun h => absurd h (by dsimp only; decide), fun h => absurd h (by dsimp only; decide)⟩
theorem v0_cal : v0.Ok ∧ calI v0.k = true := ⟨v0_ok, rfl⟩
theorem become_good {d now : Dq} (g : Good d) (n : Good now) (hn : now.h = 51 ∨ now.h = 60) : Good (becomeQ d now) ∧ ((becomeQ d now).h = 51 ∨ (becomeQ d now).h = 60) := by
  rw [become_eq g.mem hn]
  obtain ⟨b1, b2, b4, b8, e1, e2, e4, e8, e3, e12, ex⟩ := bits_ways g.mem
  have ga := g.a
  have gb := g.b
  have gc := g.c
  have na := n.a
  have nb := n.b
  have nc := n.c
  rw [e4] at gb
  rw [e8] at gc
  rw [e1, e2, e4, e8, e3, e12]
  clear e1 e2 e4 e8 e3 e12 g n
  obtain ⟨m, a', b', c', p', q', z'⟩ := now
  rcases hn with hn | hn <;> dsimp only at hn <;> subst hn <;> dsimp only at na nb nc ⊢
  · clear nb nc
    cases b1 <;> cases b2 <;> cases b4 <;> cases b8 <;> first
      | exact absurd ex (by decide)
      | exact ⟨good51 ga, Or.inl rfl⟩
      | exact ⟨good51 na, Or.inl rfl⟩
      | exact ⟨good60 (gb rfl) (gc rfl), Or.inr rfl⟩
      | exact ⟨good60 (gb rfl) v0_cal, Or.inr rfl⟩
      | exact ⟨good60 v0_cal (gc rfl), Or.inr rfl⟩
  · have nb := nb (by decide)
    have nc := nc (by decide)
    cases b1 <;> cases b2 <;> cases b4 <;> cases b8 <;> first
      | exact absurd ex (by decide)
      | exact ⟨good51 ga, Or.inl rfl⟩
      | exact ⟨good51 v0_ok, Or.inl rfl⟩
      | exact ⟨good60 (gb rfl) (gc rfl), Or.inr rfl⟩
      | exact ⟨good60 (gb rfl) nc, Or.inr rfl⟩
      | exact ⟨good60 nb (gc rfl), Or.inr rfl⟩
      | exact ⟨good60 nb nc, Or.inr rfl⟩
theorem complete_good {d : Dq} (g : Good d) : Good (completeQ d) ∧ ((completeQ d).h = 51 ∨ (completeQ d).h = 60) := by
  rw [complete_eq g.mem]
  obtain ⟨b1, b2, b4, b8, e1, e2, e4, e8, e3, e12, ex⟩ := bits_ways g.mem
  have ga := g.a
  have gb := g.b
  have gc := g.c
  rw [e4] at gb
  rw [e8] at gc
  rw [e1, e2, e4, e8, e12]
  clear e1 e2 e4 e8 e3 e12 g
  cases b1 <;> cases b2 <;> cases b4 <;> cases b8 <;> first
    | exact absurd ex (by decide)
    | exact ⟨good51 ga, Or.inl rfl⟩
    | exact ⟨good51 v0_ok, Or.inl rfl⟩
    | exact ⟨good60 (gb rfl) (gc rfl), Or.inr rfl⟩
    | exact ⟨good60 (gb rfl) v0_cal, Or.inr rfl⟩
    | exact ⟨good60 v0_cal (gc rfl), Or.inr rfl⟩
/-- the fields that d has are there as d has them -/
structure Has (d x : Dq) : Prop where
  h : bits .and .u8 x.h d.h = d.h
  a : hasB d.h 1 = true → x.a = d.a
  b : hasB d.h 4 = true → x.b = d.b
  c : hasB d.h 8 = true → x.c = d.c
  p : hasB d.h 2 = true → x.p = d.p
  q : hasB d.h 16 = true → x.q = d.q
  z : hasB d.h 32 = true → x.z = d.z
theorem has_bits : ∀ h ∈ allH, bits .and .u8 (bif hasB h 12 then 60 else 51) h = h ∧ bits .and .u8 (bif hasB h 3 then 51 else bif hasB h 12 then 60 else 51) h = h ∧ bits .and .u8 (bif hasB h 3 then 51 else bif hasB h 12 then 60 else 60) h = h := by decide +kernel
theorem complete_has {d : Dq} (g : d.h ∈ allH) : Has d (completeQ d) := by
  rw [complete_eq g]
  refine ⟨(has_bits _ g).1, ?_, ?_, ?_, ?_, ?_, ?_⟩ <;> (intro e; dsimp only; rw [e]; rfl)
theorem become_has {d now : Dq} (g : d.h ∈ allH) (hn : now.h = 51 ∨ now.h = 60) : Has d (becomeQ d now) := by
  rw [become_eq g hn]
  refine ⟨?_, ?_, ?_, ?_, ?_, ?_, ?_⟩
  · rcases hn with e | e <;> (dsimp only; rw [e])
    · exact (has_bits _ g).2.1
    · exact (has_bits _ g).2.2
  all_goals (intro e; dsimp only; rw [e]; rfl)
theorem same_refl {v : Vq} (h : v.Ok) : sameQ v v = true := same_i_refl h
theorem sameD_true {h : Int} {sA sB sC p p' q q' z z' : Bool} (a : hasB h 1 = true → sA = true) (b : hasB h 4 = true → sB = true) (c : hasB h 8 = true → sC = true) (hp : hasB h 2 = true → p = p') (hq : hasB h 16 = true → q = q') (hz : hasB h 32 = true → z = z') : sameD h h sA sB sC p p' q q' z z' = true := by
  unfold sameD same7
  rw [beq_self_eq_true]
  have f1 : (hasB h 1 && !sA) = false := by cases e : hasB h 1 with | false => rfl | true => rw [a e]; rfl
  have f2 : (hasB h 2 && (p != p')) = false := by cases e : hasB h 2 with | false => rfl | true => rw [hp e]; cases p' <;> rfl
  have f3 : (hasB h 4 && !sB) = false := by cases e : hasB h 4 with | false => rfl | true => rw [b e]; rfl
  have f4 : (hasB h 8 && !sC) = false := by cases e : hasB h 8 with | false => rfl | true => rw [c e]; rfl
  have f5 : (hasB h 16 && (q != q')) = false := by cases e : hasB h 16 with | false => rfl | true => rw [hq e]; cases q' <;> rfl
  have f6 : (hasB h 32 && (z != z')) = false := by cases e : hasB h 32 with | false => rfl | true => rw [hz e]; cases z' <;> rfl
  rw [f1, f2, f3, f4, f5, f6]
  rfl
/-- what desc.Same answers of two descriptors -/
def sameDq (a b : Dq) : Bool := sameD a.h b.h (sameQ a.a b.a) (sameQ a.b b.b) (sameQ a.c b.c) a.p b.p a.q b.q a.z b.z
theorem left_same {d x : Dq} (g : Good d) (hx : Has d x) : sameDq d (leftQ x d.h) = true := by
  unfold sameDq leftQ
  dsimp only
  rw [hx.h]
  refine sameD_true ?_ ?_ ?_ ?_ ?_ ?_ <;> intro e <;> rw [e]
  · show sameQ d.a x.a = true
    rw [hx.a e]; exact same_refl g.a
  · show sameQ d.b x.b = true
    rw [hx.b e]; exact same_refl (g.b e).1
  · show sameQ d.c x.c = true
    rw [hx.c e]; exact same_refl (g.c e).1
  · exact (hx.p e).symm
  · exact (hx.q e).symm
  · exact (hx.z e).symm
theorem held_bits : bits .and .u8 51 (bits .andNot .u8 51 3) = bits .andNot .u8 51 3 ∧ bits .and .u8 60 (bits .andNot .u8 60 3) = bits .andNot .u8 60 3 ∧ bits .and .u8 51 51 = 51 ∧ bits .and .u8 60 60 = 60 := by decide +kernel
/-- applied to itself it may, and stays -/
theorem self_changes {x : Dq} (g : Good x) (hx : x.h = 51 ∨ x.h = 60) : changesQ x x = true := by
  unfold changesQ
  obtain ⟨_, hb, _⟩ := allH_bits _ g.mem
  have hb' : (hasB x.h 12 && hasB x.h 3) = false := by rw [Bool.and_comm]; exact hb
  rw [hb, hb']
  have e : bits .and .u8 x.h (heldH x x) = heldH x x := by
    unfold heldH
    rcases hx with e | e <;> rw [e] <;> cases x.p
    · exact held_bits.2.2.1
    · exact held_bits.1
    · exact held_bits.2.2.2
    · exact held_bits.2.1
  rw [e]
  have hk : (∀ e : hasB (heldH x x) 4 = true, hasB x.h 4 = true) ∧ (∀ e : hasB (heldH x x) 8 = true, hasB x.h 8 = true) := by
    unfold heldH
    rcases hx with e | e <;> rw [e] <;> cases x.p <;> exact ⟨by decide, by decide⟩
  rw [sameD_true (fun _ => same_refl g.a) (fun e => same_refl (g.b (hk.1 e)).1) (fun e => same_refl (g.c (hk.2 e)).1) (fun _ => rfl) (fun _ => rfl) (fun _ => rfl)]
  cases x.z <;> rfl
theorem self_same {x : Dq} (g : Good x) (hx : x.h = 51 ∨ x.h = 60) : sameDq x (becomeQ x x) = true := by
  have hh := become_has (d := x) (now := x) g.mem hx
  have eh : (becomeQ x x).h = x.h := by rw [become_eq g.mem hx]; dsimp only; rcases hx with e | e <;> rw [e] <;> rfl
  unfold sameDq
  rw [eh]
  refine sameD_true ?_ ?_ ?_ ?_ ?_ ?_ <;> intro e
  · rw [hh.a e]; exact same_refl g.a
  · rw [hh.b e]; exact same_refl (g.b e).1
  · rw [hh.c e]; exact same_refl (g.c e).1
  · exact (hh.p e).symm
  · exact (hh.q e).symm
  · exact (hh.z e).symm
end Go.Proofs.YthnkllhfmjbbmaaGreatDoor.S
/-
  Properties and their lists: which may be, where a key stands, what Put and Drop make of a list: plain functions.
-/
namespace Go.Proofs.YthnkllhfmjbbmaaGreatDoor.S
open Go.RowKit Fl
open Classical

structure Pq where
  k : Ky
  d : Dq
instance : Inhabited Pq := ⟨⟨⟨⟨#[]⟩, 0⟩, dz 0⟩⟩
def pcl (p : Pq) : List Value := .string p.k.str :: .int .i64 p.k.sym :: p.d.cells.toList
def Pq.In (p : Pq) : Prop := KyIn p.k ∧ p.d.In
def Pq.Ok (p : Pq) : Prop := mayKy p.k ∧ wholeQ p.d = true
noncomputable def mayT (p : Pq) : Int := if mayKy p.k then (if wholeQ p.d = true then 0 else 90) else 9
theorem mayT_ok {p : Pq} : mayT p = 0 ↔ p.Ok := by
  unfold mayT Pq.Ok
  by_cases h : mayKy p.k
  · rw [if_pos h]
    by_cases g : wholeQ p.d = true
    · rw [if_pos g]; exact ⟨fun _ => ⟨h, g⟩, fun _ => rfl⟩
    · rw [if_neg g]; exact ⟨fun e => absurd e (by decide), fun e => absurd e.2 g⟩
  · rw [if_neg h]; exact ⟨fun e => absurd e (by decide), fun e => absurd e.1 h⟩
/-- is the key on the list? -/
def hasK (S : List Pq) (k : Ky) : Bool := S.any fun x => eqK x.k k
theorem hasK_iff {S : List Pq} {k : Ky} : hasK S k = true ↔ ∃ x ∈ S, x.k = k := by
  unfold hasK
  rw [List.any_eq_true]
  exact ⟨fun ⟨x, h, e⟩ => ⟨x, h, eqK_iff.1 e⟩, fun ⟨x, h, e⟩ => ⟨x, h, eqK_iff.2 e⟩⟩
theorem hasK_no {S : List Pq} {k : Ky} (h : ∀ x ∈ S, x.k ≠ k) : hasK S k = false := by
  cases e : hasK S k with
  | false => rfl
  | true => obtain ⟨x, hx, he⟩ := hasK_iff.1 e; exact absurd he (h x hx)
noncomputable def chkL : List Pq → List Pq → Int
  | _, [] => 0
  | S, p :: r => if mayT p = 0 then (bif hasK S p.k then 100 else chkL (S ++ [p]) r) else mayT p
noncomputable def chkT (L : List Pq) : Int := if 1024 < L.length then 4 else chkL [] L
structure TabOk (L : List Pq) : Prop where
  len : L.length ≤ 1024
  all : ∀ p ∈ L, p.Ok
  one : L.Pairwise fun a b => a.k ≠ b.k
theorem chkL_ok : ∀ (r S : List Pq), chkL S r = 0 ↔ (∀ p ∈ r, p.Ok) ∧ r.Pairwise (fun a b => a.k ≠ b.k) ∧ ∀ p ∈ r, ∀ x ∈ S, x.k ≠ p.k
  | [], S => by unfold chkL; simp
  | p :: r, S => by
    unfold chkL
    by_cases h : mayT p = 0
    · rw [if_pos h]
      cases e : hasK S p.k with
      | true =>
        obtain ⟨x, hx, he⟩ := hasK_iff.1 e
        exact ⟨fun a => absurd (show (100 : Int) = 0 from a) (by decide), fun a => absurd he (a.2.2 p (List.mem_cons_self) x hx)⟩
      | false =>
        have hn : ∀ x ∈ S, x.k ≠ p.k := fun x hx he => by rw [hasK_iff.2 ⟨x, hx, he⟩] at e; cases e
        refine (chkL_ok r (S ++ [p])).trans ?_
        constructor
        · rintro ⟨h1, h2, h3⟩
          refine ⟨fun q hq => ?_, List.pairwise_cons.2 ⟨fun b hb => h3 b hb p (by simp), h2⟩, fun q hq x hx => ?_⟩
          · rcases List.mem_cons.1 hq with rfl | hq
            · exact mayT_ok.1 h
            · exact h1 q hq
          · rcases List.mem_cons.1 hq with rfl | hq
            · exact hn x hx
            · exact h3 q hq x (by simp [hx])
        · rintro ⟨h1, h2, h3⟩
          obtain ⟨g1, g2⟩ := List.pairwise_cons.1 h2
          refine ⟨fun q hq => h1 q (List.mem_cons_of_mem _ hq), g2, fun q hq x hx => ?_⟩
          rcases List.mem_append.1 hx with hx | hx
          · exact h3 q (List.mem_cons_of_mem _ hq) x hx
          · obtain rfl := List.mem_singleton.1 hx
            exact g1 q hq
    · rw [if_neg h]
      exact ⟨fun a => absurd a h, fun a => absurd (mayT_ok.2 (a.1 p (List.mem_cons_self))) h⟩
theorem chkT_ok {L : List Pq} : chkT L = 0 ↔ TabOk L := by
  unfold chkT
  by_cases h : 1024 < L.length
  · rw [if_pos h]; exact ⟨fun a => absurd a (by decide), fun a => absurd a.len (by omega)⟩
  · rw [if_neg h]
    refine (chkL_ok L []).trans ⟨fun a => ⟨by omega, a.1, a.2.1⟩, fun a => ⟨a.all, a.one, fun _ _ x hx => by cases hx⟩⟩
theorem chkT_yes {L : List Pq} (h : TabOk L) : chkT L = 0 := chkT_ok.2 h
/-- where a key stands: the list's length where it doesn't -/
def cutN : List Pq → Ky → Nat
  | [], _ => 0
  | p :: r, k => bif eqK p.k k then 0 else cutN r k + 1
theorem cutN_le : ∀ (L : List Pq) (k : Ky), cutN L k ≤ L.length
  | [], _ => Nat.le_refl _
  | p :: r, k => by
    unfold cutN
    cases eqK p.k k with
    | true => exact Nat.zero_le _
    | false => have := cutN_le r k; simp; omega
theorem cutN_mid : ∀ {A : List Pq} {x : Pq} {B : List Pq} {k : Ky}, (∀ y ∈ A, y.k ≠ k) → x.k = k → cutN (A ++ x :: B) k = A.length
  | [], x, B, k, _, h => by show (bif eqK x.k k then 0 else _) = 0; rw [eqK_iff.2 h]; rfl
  | y :: A, x, B, k, h0, h => by
    show (bif eqK y.k k then 0 else cutN (A ++ x :: B) k + 1) = _
    rw [eqK_no (h0 y (List.mem_cons_self)), cutN_mid (fun z hz => h0 z (List.mem_cons_of_mem _ hz)) h]; rfl
theorem cutN_none : ∀ {L : List Pq} {k : Ky}, (∀ y ∈ L, y.k ≠ k) → cutN L k = L.length
  | [], _, _ => rfl
  | y :: L, k, h0 => by
    show (bif eqK y.k k then 0 else cutN L k + 1) = _
    rw [eqK_no (h0 y (List.mem_cons_self)), cutN_none (fun z hz => h0 z (List.mem_cons_of_mem _ hz))]; rfl
theorem cut_ways : ∀ (L : List Pq) (k : Ky), (∀ y ∈ L, y.k ≠ k) ∨ ∃ A x B, L = A ++ x :: B ∧ x.k = k ∧ ∀ y ∈ A, y.k ≠ k
  | [], k => .inl fun y hy => by cases hy
  | p :: r, k => by
    by_cases h : p.k = k
    · exact .inr ⟨[], p, r, rfl, h, fun y hy => by cases hy⟩
    · rcases cut_ways r k with h1 | ⟨A, x, B, rfl, h2, h3⟩
      · exact .inl fun y hy => by
          rcases List.mem_cons.1 hy with rfl | hy
          · exact h
          · exact h1 y hy
      · exact .inr ⟨p :: A, x, B, rfl, h2, fun y hy => by
          rcases List.mem_cons.1 hy with rfl | hy
          · exact h
          · exact h3 y hy⟩
/-- the property of a key -/
def findT (L : List Pq) (k : Ky) : Option Pq := L[cutN L k]?
def putT (L : List Pq) (p : Pq) : List Pq := L.take (cutN L p.k) ++ p :: L.drop (cutN L p.k + 1)
def dropT (L : List Pq) (k : Ky) : List Pq := L.take (cutN L k) ++ L.drop (cutN L k + 1)
theorem find_none {L : List Pq} {k : Ky} (h : ∀ y ∈ L, y.k ≠ k) : findT L k = none := by unfold findT; rw [cutN_none h]; simp
theorem find_mid {A : List Pq} {x : Pq} {B : List Pq} {k : Ky} (h0 : ∀ y ∈ A, y.k ≠ k) (h : x.k = k) : findT (A ++ x :: B) k = some x := by unfold findT; rw [cutN_mid h0 h]; simp
theorem put_none {L : List Pq} {p : Pq} (h : ∀ y ∈ L, y.k ≠ p.k) : putT L p = L ++ [p] := by unfold putT; rw [cutN_none h, List.take_length, List.drop_eq_nil_of_le (Nat.le_succ _)]
theorem put_mid {A : List Pq} {x p : Pq} {B : List Pq} (h0 : ∀ y ∈ A, y.k ≠ p.k) (h : x.k = p.k) : putT (A ++ x :: B) p = A ++ p :: B := by unfold putT; rw [cutN_mid h0 h]; simp
theorem drop_none {L : List Pq} {k : Ky} (h : ∀ y ∈ L, y.k ≠ k) : dropT L k = L := by unfold dropT; rw [cutN_none h, List.take_length, List.drop_eq_nil_of_le (Nat.le_succ _), List.append_nil]
theorem drop_mid {A : List Pq} {x : Pq} {B : List Pq} {k : Ky} (h0 : ∀ y ∈ A, y.k ≠ k) (h : x.k = k) : dropT (A ++ x :: B) k = A ++ B := by unfold dropT; rw [cutN_mid h0 h]; simp
/-- a property that stands under another key is neither here nor there -/
theorem find_skip : ∀ {A : List Pq} {x : Pq} {B : List Pq} {k : Ky}, x.k ≠ k → findT (A ++ x :: B) k = findT (A ++ B) k
  | [], x, B, k, h => by
    unfold findT
    show (x :: B)[bif eqK x.k k then 0 else cutN B k + 1]? = _
    rw [eqK_no h]; rfl
  | y :: A, x, B, k, h => by
    have := find_skip (A := A) (B := B) h
    unfold findT at this ⊢
    show (y :: (A ++ x :: B))[bif eqK y.k k then 0 else cutN (A ++ x :: B) k + 1]? = (y :: (A ++ B))[bif eqK y.k k then 0 else cutN (A ++ B) k + 1]?
    cases eqK y.k k with
    | true => rfl
    | false => simpa using this
theorem pair_mid {A : List Pq} {x : Pq} {B : List Pq} (h : (A ++ x :: B).Pairwise fun a b => a.k ≠ b.k) : (∀ y ∈ A, y.k ≠ x.k) ∧ (∀ y ∈ B, y.k ≠ x.k) ∧ (A ++ B).Pairwise fun a b => a.k ≠ b.k := by
  obtain ⟨h1, h2, h3⟩ := List.pairwise_append.1 h
  obtain ⟨h4, h5⟩ := List.pairwise_cons.1 h2
  exact ⟨fun y hy => h3 y hy x (List.mem_cons_self), fun y hy e => h4 y hy e.symm, List.pairwise_append.2 ⟨h1, h5, fun a ha b hb => h3 a ha b (List.mem_cons_of_mem _ hb)⟩⟩
/-- what Put comes to -/
structure PutTo (L : List Pq) (p : Pq) (M : List Pq) : Prop where
  ok : TabOk M
  found : findT M p.k = some p
  other : ∀ k, k ≠ p.k → findT M k = findT L k
  len : M.length = if (findT L p.k).isSome then L.length else L.length + 1
  keys : ∀ i (h : i < L.length) (h' : i < M.length), M[i].k = L[i].k
theorem put_to {L : List Pq} {p : Pq} (hL : TabOk L) (hp : p.Ok) (hn : cutN L p.k ≠ 1024) : PutTo L p (putT L p) := by
  rcases cut_ways L p.k with h | ⟨A, x, B, rfl, h1, h2⟩
  · rw [put_none h]
    rw [cutN_none h] at hn
    refine ⟨⟨?_, ?_, ?_⟩, find_mid h rfl, fun k hk => ?_, ?_, fun i hi hi' => ?_⟩
    · have := hL.len; simp; omega
    · intro q hq
      rcases List.mem_append.1 hq with hq | hq
      · exact hL.all q hq
      · obtain rfl := List.mem_singleton.1 hq; exact hp
    · refine List.pairwise_append.2 ⟨hL.one, List.pairwise_singleton _ _, fun a ha b hb => ?_⟩
      obtain rfl := List.mem_singleton.1 hb
      exact h a ha
    · rw [find_skip (Ne.symm hk), List.append_nil]
    · rw [find_none h]; simp
    · rw [List.getElem_append_left hi]
  · rw [put_mid h2 h1]
    obtain ⟨g1, g2, g3⟩ := pair_mid hL.one
    refine ⟨⟨?_, ?_, ?_⟩, find_mid h2 rfl, fun k hk => ?_, ?_, fun i hi hi' => ?_⟩
    · have := hL.len; simp at this ⊢; omega
    · intro q hq
      rcases List.mem_append.1 hq with hq | hq
      · exact hL.all q (by simp [hq])
      · rcases List.mem_cons.1 hq with rfl | hq
        · exact hp
        · exact hL.all q (by simp [hq])
    · obtain ⟨p1, p2, p3⟩ := List.pairwise_append.1 g3
      refine List.pairwise_append.2 ⟨p1, List.pairwise_cons.2 ⟨fun b hb e => g2 b hb (by rw [h1]; exact e.symm), p2⟩, fun a ha b hb => ?_⟩
      rcases List.mem_cons.1 hb with rfl | hb
      · exact h2 a ha
      · exact p3 a ha b hb
    · rw [find_skip (Ne.symm hk), find_skip (by rw [h1]; exact Ne.symm hk)]
    · rw [find_mid h2 h1]; simp
    · by_cases c : i < A.length
      · rw [List.getElem_append_left c, List.getElem_append_left c]
      · by_cases e : i = A.length
        · subst e; simp [h1]
        · obtain ⟨j, hj⟩ : ∃ j, i - A.length = j + 1 := ⟨i - A.length - 1, by omega⟩
          rw [List.getElem_append_right (by omega), List.getElem_append_right (by omega)]
          simp only [hj, List.getElem_cons_succ]
/-- what Drop comes to -/
structure DropTo (L : List Pq) (k : Ky) (M : List Pq) : Prop where
  ok : TabOk M
  gone : findT M k = none
  other : ∀ c, c ≠ k → findT M c = findT L c
  rest : L.filter (fun p => !eqK p.k k) = M
theorem fil_all {L : List Pq} {k : Ky} (h : ∀ y ∈ L, y.k ≠ k) : L.filter (fun p => !eqK p.k k) = L := List.filter_eq_self.2 fun y hy => by rw [eqK_no (h y hy)]; rfl
theorem drop_to {L : List Pq} {k : Ky} (hL : TabOk L) : DropTo L k (dropT L k) := by
  rcases cut_ways L k with h | ⟨A, x, B, rfl, h1, h2⟩
  · rw [drop_none h]
    exact ⟨hL, find_none h, fun _ _ => rfl, fil_all h⟩
  · rw [drop_mid h2 h1]
    obtain ⟨g1, g2, g3⟩ := pair_mid hL.one
    have hB : ∀ y ∈ B, y.k ≠ k := fun y hy => by rw [← h1]; exact g2 y hy
    refine ⟨⟨?_, ?_, g3⟩, find_none fun y hy => ?_, fun c hc => ?_, ?_⟩
    · have := hL.len; simp at this ⊢; omega
    · intro q hq
      rcases List.mem_append.1 hq with hq | hq
      · exact hL.all q (by simp [hq])
      · exact hL.all q (by simp [hq])
    · rcases List.mem_append.1 hy with hy | hy
      · exact h2 y hy
      · exact hB y hy
    · rw [find_skip (by rw [h1]; exact Ne.symm hc)]
    · rw [List.filter_append, List.filter_cons_of_neg (by rw [eqK_iff.2 h1]; simp), fil_all h2, fil_all hB]
end Go.Proofs.YthnkllhfmjbbmaaGreatDoor.S
