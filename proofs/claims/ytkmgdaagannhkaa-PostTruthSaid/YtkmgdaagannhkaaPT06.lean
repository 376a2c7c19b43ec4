/-
  What a property becomes may be, is complete and has what was asked; applied to itself it stays; what is not configurable stays: the mathematics.
-/
import Derived.Test.YtkmgdaagannhkaaPT05
namespace Go.Proofs.Ytkmgdaagannhkaa.S
open Go.RowKit Fl

def leftQ (d : Dq) (m : Int) : Dq := ⟨bits .and .u8 d.h m, bif hasB (bits .and .u8 d.h m) 1 then d.a else v0, bif hasB (bits .and .u8 d.h m) 4 then d.b else v0, bif hasB (bits .and .u8 d.h m) 8 then d.c else v0, bif hasB (bits .and .u8 d.h m) 2 then d.p else false, bif hasB (bits .and .u8 d.h m) 16 then d.q else false, bif hasB (bits .and .u8 d.h m) 32 then d.z else false⟩
theorem bits_ways {h : Int} (g : h ∈ allH) : ∃ b1 b2 b4 b8, hasB h 1 = b1 ∧ hasB h 2 = b2 ∧ hasB h 4 = b4 ∧ hasB h 8 = b8 ∧ hasB h 3 = (b1 || b2) ∧ hasB h 12 = (b4 || b8) ∧ ((b1 || b2) && (b4 || b8)) = false := by
  obtain ⟨_, h2, _, h4, h5, _⟩ := allH_bits h g
  exact ⟨_, _, _, _, rfl, rfl, rfl, rfl, h4, h5, by rw [← h4, ← h5]; exact h2⟩
theorem good51 {a : Vq} {p q z : Bool} (ha : a.Ok) : Good ⟨51, a, v0, v0, p, q, z⟩ :=
  ⟨by dsimp only; decide, ha, fun h => absurd h (by dsimp only; decide), fun h => absurd h (by dsimp only; decide), fun _ => v0_z, fun h => absurd h (by dsimp only; decide), fun _ => v0_z, fun h => absurd h (by dsimp only; decide), fun h => absurd h (by dsimp only; decide), fun h => absurd h (by dsimp only; decide)⟩
theorem good60 {b c : Vq} {q z : Bool} (hb : b.Ok ∧ calI b.k = true) (hc : c.Ok ∧ calI c.k = true) : Good ⟨60, v0, b, c, false, q, z⟩ :=
  ⟨by dsimp only; decide, v0_ok, fun _ => v0_z, fun _ => hb, fun h => absurd h (by dsimp only; decide), fun _ => hc, fun h => absurd h (by dsimp only; decide), fun _ => rfl, fun h => absurd h (by dsimp only; decide), fun h => absurd h (by dsimp only; decide)⟩
theorem v0_cal : v0.Ok ∧ calI v0.k = true := ⟨v0_ok, rfl⟩
theorem complete_good {d : Dq} (g : Good d) : Good (completeQ d) ∧ ((completeQ d).h = 51 ∨ (completeQ d).h = 60) := by
  rw [complete_eq g.mem]
  obtain ⟨b1, b2, b4, b8, e1, e2, e4, e8, e3, e12, ex⟩ := bits_ways g.mem
  have ga := g.a
  have gb := g.b
  have gc := g.c
  rw [e4] at gb
  rw [e8] at gc
  rw [e1, e2, e4, e8, e12]
  clear e1 e2 e4 e8 e3 e12 g
  cases b1 <;> cases b2 <;> cases b4 <;> cases b8 <;> first
    | exact absurd ex (by decide)
    | exact ⟨good51 ga, Or.inl rfl⟩
    | exact ⟨good51 v0_ok, Or.inl rfl⟩
    | exact ⟨good60 (gb rfl) (gc rfl), Or.inr rfl⟩
    | exact ⟨good60 (gb rfl) v0_cal, Or.inr rfl⟩
    | exact ⟨good60 v0_cal (gc rfl), Or.inr rfl⟩
/-- the fields that d has are there as d has them -/
structure Has (d x : Dq) : Prop where
  h : bits .and .u8 x.h d.h = d.h
  a : hasB d.h 1 = true → x.a = d.a
  b : hasB d.h 4 = true → x.b = d.b
  c : hasB d.h 8 = true → x.c = d.c
  p : hasB d.h 2 = true → x.p = d.p
  q : hasB d.h 16 = true → x.q = d.q
  z : hasB d.h 32 = true → x.z = d.z
theorem same_refl {v : Vq} (h : v.Ok) : sameQ v v = true := same_i_refl h
theorem sameD_true {h : Int} {sA sB sC p p' q q' z z' : Bool} (a : hasB h 1 = true → sA = true) (b : hasB h 4 = true → sB = true) (c : hasB h 8 = true → sC = true) (hp : hasB h 2 = true → p = p') (hq : hasB h 16 = true → q = q') (hz : hasB h 32 = true → z = z') : sameD h h sA sB sC p p' q q' z z' = true := by
  unfold sameD same7
  rw [beq_self_eq_true]
  have f1 : (hasB h 1 && !sA) = false := by cases e : hasB h 1 with | false => rfl | true => rw [a e]; rfl
  have f2 : (hasB h 2 && (p != p')) = false := by cases e : hasB h 2 with | false => rfl | true => rw [hp e]; cases p' <;> rfl
  have f3 : (hasB h 4 && !sB) = false := by cases e : hasB h 4 with | false => rfl | true => rw [b e]; rfl
  have f4 : (hasB h 8 && !sC) = false := by cases e : hasB h 8 with | false => rfl | true => rw [c e]; rfl
  have f5 : (hasB h 16 && (q != q')) = false := by cases e : hasB h 16 with | false => rfl | true => rw [hq e]; cases q' <;> rfl
  have f6 : (hasB h 32 && (z != z')) = false := by cases e : hasB h 32 with | false => rfl | true => rw [hz e]; cases z' <;> rfl
  rw [f1, f2, f3, f4, f5, f6]
  rfl
/-- what desc.Same answers of two descriptors -/
def sameDq (a b : Dq) : Bool := sameD a.h b.h (sameQ a.a b.a) (sameQ a.b b.b) (sameQ a.c b.c) a.p b.p a.q b.q a.z b.z
theorem held_bits : bits .and .u8 51 (bits .andNot .u8 51 3) = bits .andNot .u8 51 3 ∧ bits .and .u8 60 (bits .andNot .u8 60 3) = bits .andNot .u8 60 3 ∧ bits .and .u8 51 51 = 51 ∧ bits .and .u8 60 60 = 60 := by decide +kernel
end Go.Proofs.Ytkmgdaagannhkaa.S
/-
  What is not configurable stays: the mathematics; what Compatible and Apply come to.
-/
namespace Go.Proofs.Ytkmgdaagannhkaa.S
open Go.RowKit Fl

theorem imp_of {b t : Bool} (h : (b && !t) = false) : b = true → t = true := by intro e; rw [e] at h; simpa using h
theorem ne_of {b p p' : Bool} (h : (b && (p != p')) = false) : b = true → p = p' := by intro e; rw [e] at h; revert h; cases p <;> cases p' <;> decide
theorem sameD_inv {h h' : Int} {sA sB sC p p' q q' z z' : Bool} (e : sameD h h' sA sB sC p p' q q' z z' = true) : (hasB h 1 = true → sA = true) ∧ (hasB h 4 = true → sB = true) ∧ (hasB h 8 = true → sC = true) ∧ (hasB h 2 = true → p = p') ∧ (hasB h 16 = true → q = q') ∧ (hasB h 32 = true → z = z') := by
  unfold sameD same7 at e
  simp only [Bool.and_eq_true, Bool.not_eq_true'] at e
  obtain ⟨⟨⟨⟨⟨⟨_, f1⟩, f2⟩, f3⟩, f4⟩, f5⟩, f6⟩ := e
  exact ⟨imp_of f1, imp_of f3, imp_of f4, ne_of f2, ne_of f5, ne_of f6⟩
theorem held_all : ∀ h ∈ allH, hasB (bits .andNot .u8 h 3) 4 = hasB h 4 ∧ hasB (bits .andNot .u8 h 3) 8 = hasB h 8 ∧ hasB (bits .andNot .u8 h 3) 16 = hasB h 16 ∧ hasB (bits .andNot .u8 h 3) 32 = hasB h 32 := by decide +kernel
structure Stays (x now : Dq) : Prop where
  z : x.z = false
  q : x.q = now.q
  h : x.h = now.h
  acc : hasB now.h 12 = true → sameQ x.b now.b = true ∧ sameQ x.c now.c = true
  dat : hasB now.h 12 = false → now.p = true ∨ (x.p = false ∧ sameQ x.a now.a = true)
theorem stays {d now : Dq} (g : Good d) (n : Good now) (hn : now.h = 51 ∨ now.h = 60) (hz : now.z = false) (hc : changesQ d now = true) : Stays (becomeQ d now) now := by
  unfold changesQ at hc
  rw [hz] at hc
  simp only [Bool.false_or, Bool.and_eq_true, Bool.not_eq_true'] at hc
  obtain ⟨hA, hB, hS⟩ := hc
  obtain ⟨s1, s4, s8, s2, s16, s32⟩ := sameD_inv hS
  obtain ⟨k4, k8, k16, k32⟩ := held_all _ g.mem
  have e4 : hasB (heldH d now) 4 = hasB d.h 4 := by unfold heldH; cases now.p; exact rfl; exact k4
  have e8 : hasB (heldH d now) 8 = hasB d.h 8 := by unfold heldH; cases now.p; exact rfl; exact k8
  have e16 : hasB (heldH d now) 16 = hasB d.h 16 := by unfold heldH; cases now.p; exact rfl; exact k16
  have e32 : hasB (heldH d now) 32 = hasB d.h 32 := by unfold heldH; cases now.p; exact rfl; exact k32
  rw [e4] at s4
  rw [e8] at s8
  rw [e16] at s16
  rw [e32] at s32
  rw [become_eq g.mem hn]
  refine ⟨?_, ?_, ?_, ?_, ?_⟩ <;> dsimp only
  · cases e : hasB d.h 32 with
    | true => exact s32 e
    | false => exact hz
  · cases e : hasB d.h 16 with
    | true => exact s16 e
    | false => rfl
  · cases e3 : hasB d.h 3 with
    | true =>
      rw [e3] at hA
      rcases hn with e | e
      · rw [e]; rfl
      · rw [e] at hA; exact absurd hA (by decide)
    | false =>
      cases e12 : hasB d.h 12 with
      | true =>
        rw [e12] at hB
        rcases hn with e | e
        · rw [e] at hB; exact absurd hB (by decide)
        · rw [e]; rfl
      | false => rfl
  · intro h12
    rw [h12, Bool.and_true] at hA
    have hn6 : now.h = 60 := by
      rcases hn with e | e
      · rw [e] at h12; exact absurd h12 (by decide)
      · exact e
    have nb := (n.b (by rw [hn6]; decide)).1
    have nc := (n.c (by rw [hn6]; decide)).1
    rw [hA, hn6]
    constructor
    · cases e : hasB d.h 4 with
      | true => exact s4 e
      | false => exact same_refl nb
    · cases e : hasB d.h 8 with
      | true => exact s8 e
      | false => exact same_refl nc
  · intro h12
    have hn5 : now.h = 51 := by
      rcases hn with e | e
      · exact e
      · rw [e] at h12; exact absurd h12 (by decide)
    have h3 : hasB now.h 3 = true := by rw [hn5]; decide
    rw [h3, Bool.and_true] at hB
    cases hp : now.p with
    | true => exact Or.inl rfl
    | false =>
      right
      have eh : heldH d now = d.h := by unfold heldH; rw [hp]; rfl
      rw [eh] at s1 s2
      rw [hB, hn5]
      constructor
      · cases e : hasB d.h 2 with
        | true => exact (s2 e).trans hp
        | false => rfl
      · cases e : hasB d.h 1 with
        | true => exact s1 e
        | false => exact same_refl n.a
structure Came (ext : Bool) (d : Dq) (found : Bool) (now x : Dq) : Prop where
  g : Good x
  h : x.h = 51 ∨ x.h = 60
  has : Has d x
  gd : Good d
  new : found = false → ext = true
  old : found = true → now.z = false → Stays x now
end Go.Proofs.Ytkmgdaagannhkaa.S
/-
  The law's left: a descriptor's fields that another one has; the law's long. Generated: gen_descleft.py.
-/
namespace Go.Proofs.Ytkmgdaagannhkaa.S
open Go.RowKit Fl

end Go.Proofs.Ytkmgdaagannhkaa.S
/-
  Descriptors: complete, become, whole, changes, Compatible, Apply, Complete: walks. Generated: gen_descwalk.py.
-/
namespace Go.Proofs.Ytkmgdaagannhkaa.S
open Go.RowKit Fl

set_option maxRecDepth 1000000 in
set_option maxHeartbeats 4000000 in
theorem complete_x (h n : Int) (ka : Int) (xa : Nat) (sa : ByteArray) (ra : Int) (kb : Int) (xb : Nat) (sb : ByteArray) (rb : Int) (kc : Int) (xc : Nat) (sc : ByteArray) (rc : Int) (kg : Int) (xg : Nat) (sg : ByteArray) (rg : Int) (ki : Int) (xi : Nat) (si : ByteArray) (ri : Int) (kj : Int) (xj : Nat) (sj : ByteArray) (rj : Int) (p q z p1 q1 z1 : Bool) {acc : Bool} (ha : ∀ w, Calls Try.prog 49 #[.agg #[.int .u8 h, .int .u8 ka, .float .f64 xa, .string sa, .int .i64 ra, .int .u8 kb, .float .f64 xb, .string sb, .int .i64 rb, .int .u8 kc, .float .f64 xc, .string sc, .int .i64 rc, .bool p, .bool q, .bool z]] w fun e w' => e = .returned (.bool acc) ∧ Below w.heap.size w w') (l1 : acc = true → ∀ w, Calls Try.prog 50 #[.agg #[.int .u8 60, .int .u8 0, .float .f64 0, .string ⟨#[]⟩, .int .i64 0, .int .u8 0, .float .f64 0, .string ⟨#[]⟩, .int .i64 0, .int .u8 0, .float .f64 0, .string ⟨#[]⟩, .int .i64 0, .bool false, .bool false, .bool false], .agg #[.int .u8 h, .int .u8 ka, .float .f64 xa, .string sa, .int .i64 ra, .int .u8 kb, .float .f64 xb, .string sb, .int .i64 rb, .int .u8 kc, .float .f64 xc, .string sc, .int .i64 rc, .bool p, .bool q, .bool z]] w fun e w' => e = .returned (.agg #[.int .u8 n, .int .u8 kg, .float .f64 xg, .string sg, .int .i64 rg, .int .u8 ki, .float .f64 xi, .string si, .int .i64 ri, .int .u8 kj, .float .f64 xj, .string sj, .int .i64 rj, .bool p1, .bool q1, .bool z1]) ∧ Below w.heap.size w w') (l2 : acc = false → ∀ w, Calls Try.prog 50 #[.agg #[.int .u8 51, .int .u8 0, .float .f64 0, .string ⟨#[]⟩, .int .i64 0, .int .u8 0, .float .f64 0, .string ⟨#[]⟩, .int .i64 0, .int .u8 0, .float .f64 0, .string ⟨#[]⟩, .int .i64 0, .bool false, .bool false, .bool false], .agg #[.int .u8 h, .int .u8 ka, .float .f64 xa, .string sa, .int .i64 ra, .int .u8 kb, .float .f64 xb, .string sb, .int .i64 rb, .int .u8 kc, .float .f64 xc, .string sc, .int .i64 rc, .bool p, .bool q, .bool z]] w fun e w' => e = .returned (.agg #[.int .u8 n, .int .u8 kg, .float .f64 xg, .string sg, .int .i64 rg, .int .u8 ki, .float .f64 xi, .string si, .int .i64 ri, .int .u8 kj, .float .f64 xj, .string sj, .int .i64 rj, .bool p1, .bool q1, .bool z1]) ∧ Below w.heap.size w w') (w : World) : Calls Try.prog 68 #[.agg #[.int .u8 h, .int .u8 ka, .float .f64 xa, .string sa, .int .i64 ra, .int .u8 kb, .float .f64 xb, .string sb, .int .i64 rb, .int .u8 kc, .float .f64 xc, .string sc, .int .i64 rc, .bool p, .bool q, .bool z]] w fun e w' => e = .returned (.agg #[.int .u8 n, .int .u8 kg, .float .f64 xg, .string sg, .int .i64 rg, .int .u8 ki, .float .f64 xi, .string si, .int .i64 ri, .int .u8 kj, .float .f64 xj, .string sj, .int .i64 rj, .bool p1, .bool q1, .bool z1]) ∧ Below w.heap.size w w' := by
  have hB0 : Below w.heap.size w ((w.alloc (.cells #[.int .u8 h, .int .u8 ka, .float .f64 xa, .string sa, .int .i64 ra, .int .u8 kb, .float .f64 xb, .string sb, .int .i64 rb, .int .u8 kc, .float .f64 xc, .string sc, .int .i64 rc, .bool p, .bool q, .bool z] 27)).alloc (.cells #[.int .u8 0, .int .u8 0, .float .f64 0, .string ⟨#[]⟩, .int .i64 0, .int .u8 0, .float .f64 0, .string ⟨#[]⟩, .int .i64 0, .int .u8 0, .float .f64 0, .string ⟨#[]⟩, .int .i64 0, .bool false, .bool false, .bool false] 27)) := vafter (vzero _ _)
  obtain ⟨b1, b2⟩ := vblk2 (w := w) (Below.refl _ ((w.alloc (.cells #[.int .u8 h, .int .u8 ka, .float .f64 xa, .string sa, .int .i64 ra, .int .u8 kb, .float .f64 xb, .string sb, .int .i64 rb, .int .u8 kc, .float .f64 xc, .string sc, .int .i64 rc, .bool p, .bool q, .bool z] 27)).alloc (.cells #[.int .u8 0, .int .u8 0, .float .f64 0, .string ⟨#[]⟩, .int .i64 0, .int .u8 0, .float .f64 0, .string ⟨#[]⟩, .int .i64 0, .int .u8 0, .float .f64 0, .string ⟨#[]⟩, .int .i64 0, .bool false, .bool false, .bool false] 27)))
  cases acc
  · have L := l2 rfl
    clear l1 l2
    go_enter Try.func68, Try.ntmps68
    go_wp2_with (first | ((with_reducible refine d_load ?_ rfl rfl b1 ?_); (rfl)) | (go_at_call 49; (with_reducible refine (ha _).mono ?_); rintro e w1 ⟨rfl, h1⟩; have b1 := vblkn h1 b1; have b2 := vblkn h1 b2; have hB0 := vb hB0 h1) | (go_at_call 50; (with_reducible refine (L _).mono ?_); rintro e w1 ⟨rfl, h1⟩; have b1 := vblkn h1 b1; have b2 := vblkn h1 b2; have hB0 := vb hB0 h1) | ((with_reducible refine d_store rfl rfl rfl rfl b2 ?_ ?_ ?_); (rfl); (rfl)))
    exact d_end Try.results68 rfl (setRow_heap _ _ _ _ _ _ b2) ⟨rfl, below_row hB0 (by omega) _⟩
  · have L := l1 rfl
    clear l1 l2
    go_enter Try.func68, Try.ntmps68
    go_wp2_with (first | ((with_reducible refine d_load ?_ rfl rfl b1 ?_); (rfl)) | (go_at_call 49; (with_reducible refine (ha _).mono ?_); rintro e w1 ⟨rfl, h1⟩; have b1 := vblkn h1 b1; have b2 := vblkn h1 b2; have hB0 := vb hB0 h1) | (go_at_call 50; (with_reducible refine (L _).mono ?_); rintro e w1 ⟨rfl, h1⟩; have b1 := vblkn h1 b1; have b2 := vblkn h1 b2; have hB0 := vb hB0 h1) | ((with_reducible refine d_store rfl rfl rfl rfl b2 ?_ ?_ ?_); (rfl); (rfl)))
    exact d_end Try.results68 rfl (setRow_heap _ _ _ _ _ _ b2) ⟨rfl, below_row hB0 (by omega) _⟩
theorem complete_q (d : Dq) (w : World) : Calls Try.prog 68 #[d.val] w fun e w' => e = .returned (completeQ d).val ∧ Below w.heap.size w w' := by
  refine complete_x d.h (completeQ d).h d.a.k d.a.x d.a.s d.a.r d.b.k d.b.x d.b.s d.b.r d.c.k d.c.x d.c.s d.c.r (completeQ d).a.k (completeQ d).a.x (completeQ d).a.s (completeQ d).a.r (completeQ d).b.k (completeQ d).b.x (completeQ d).b.s (completeQ d).b.r (completeQ d).c.k (completeQ d).c.x (completeQ d).c.s (completeQ d).c.r d.p d.q d.z (completeQ d).p (completeQ d).q (completeQ d).z (fun w => IsAccess_q d w) (fun hac w => ?_) (fun hac w => ?_) w
  · have e1 : completeQ d = layQ (dz 60) d := by unfold completeQ; rw [hac]; rfl
    have := lay_q (dz 60) d w
    rw [← e1] at this
    exact this
  · have e1 : completeQ d = layQ (dz 51) d := by unfold completeQ; rw [hac]; rfl
    have := lay_q (dz 51) d w
    rw [← e1] at this
    exact this
section
variable {f : Func} {i j k : Nat} {t : TypeId} {Q : Ending → World → Prop} {tmps : Array Value} {W : World} {g : Nat} {c0 c1 c2 c3 c4 c5 c6 c7 c8 c9 c10 c11 c12 c13 c14 c15 v u : Value}
theorem dldv (h : W.heap[g]? = some (.cells #[c0, c1, c2, c3, c4, c5, c6, c7, c8, c9, c10, c11, c12, c13, c14, c15] t (0, 0))) :
    (loadVar 27 ⟨g, 0, none⟩).run Try.prog W = .ok (.agg #[c0, c1, c2, c3, c4, c5, c6, c7, c8, c9, c10, c11, c12, c13, c14, c15]) W := run_loadVar_row W g t 27 _ (0, 0) _ h Try.underlying27 rfl dsz
theorem d_end2 (hf : f.results = #[.cell i 27, .tmp j]) (h2 : tmps[i]?.getD undef = .pointer (some ⟨g, 0, none⟩)) (h3 : tmps[j]?.getD undef = v) (hb : W.heap[g]? = some (.cells #[c0, c1, c2, c3, c4, c5, c6, c7, c8, c9, c10, c11, c12, c13, c14, c15] t (0, 0)))
    (hQ : Q (.returned (.tuple #[.agg #[c0, c1, c2, c3, c4, c5, c6, c7, c8, c9, c10, c11, c12, c13, c14, c15], v])) W) : bodyPost Try.prog f Q .ret { tmps := tmps, defers := [] } W := by
  have e := dldv hb
  refine bodyPost_ret (v := .tuple #[.agg #[c0, c1, c2, c3, c4, c5, c6, c7, c8, c9, c10, c11, c12, c13, c14, c15], v]) ?_ rfl hQ
  simp [results, hf, h2, h3, asAddr, e]
end
end Go.Proofs.Ytkmgdaagannhkaa.S
/-
  Descriptors: whole, changes, Compatible, Apply, Complete: walks. Generated: gen_descwalk2.py.
-/
namespace Go.Proofs.Ytkmgdaagannhkaa.S
open Go.RowKit Fl

set_option maxRecDepth 1000000 in
set_option maxHeartbeats 4000000 in
theorem whole_x (h : Int) (ka : Int) (xa : Nat) (sa : ByteArray) (ra : Int) (kb : Int) (xb : Nat) (sb : ByteArray) (rb : Int) (kc : Int) (xc : Nat) (sc : ByteArray) (rc : Int) (p q z : Bool) {ck : Bool} (hc : ∀ w, Calls Try.prog 32 #[.agg #[.int .u8 h, .int .u8 ka, .float .f64 xa, .string sa, .int .i64 ra, .int .u8 kb, .float .f64 xb, .string sb, .int .i64 rb, .int .u8 kc, .float .f64 xc, .string sc, .int .i64 rc, .bool p, .bool q, .bool z]] w fun e w' => e = .returned (.int .i64 (errI ck)) ∧ Below w.heap.size w w') (w : World) : Calls Try.prog 71 #[.agg #[.int .u8 h, .int .u8 ka, .float .f64 xa, .string sa, .int .i64 ra, .int .u8 kb, .float .f64 xb, .string sb, .int .i64 rb, .int .u8 kc, .float .f64 xc, .string sc, .int .i64 rc, .bool p, .bool q, .bool z]] w fun e w' => e = .returned (.bool (ck && (h == 51 || h == 60))) ∧ Below w.heap.size w w' := by
  have hB0 : Below w.heap.size w (w.alloc (.cells #[.int .u8 h, .int .u8 ka, .float .f64 xa, .string sa, .int .i64 ra, .int .u8 kb, .float .f64 xb, .string sb, .int .i64 rb, .int .u8 kc, .float .f64 xc, .string sc, .int .i64 rc, .bool p, .bool q, .bool z] 27)) := vzero _ _
  have b1 := heap_alloc_new w (.cells #[.int .u8 h, .int .u8 ka, .float .f64 xa, .string sa, .int .i64 ra, .int .u8 kb, .float .f64 xb, .string sb, .int .i64 rb, .int .u8 kc, .float .f64 xc, .string sc, .int .i64 rc, .bool p, .bool q, .bool z] 27)
  cases ck
  · have hc : ∀ w, Calls Try.prog 32 #[.agg #[.int .u8 h, .int .u8 ka, .float .f64 xa, .string sa, .int .i64 ra, .int .u8 kb, .float .f64 xb, .string sb, .int .i64 rb, .int .u8 kc, .float .f64 xc, .string sc, .int .i64 rc, .bool p, .bool q, .bool z]] w fun e w' => e = .returned (.int .i64 90) ∧ Below w.heap.size w w' := hc
    go_enter Try.func71, Try.ntmps71
    go_wp2_with (first | ((with_reducible refine d_load ?_ rfl rfl b1 ?_); (rfl)) | (go_at_call 32; (with_reducible refine (hc _).mono ?_); rintro e w1 ⟨rfl, h9⟩; have b1 := vblkn h9 b1; have hB0 := vb hB0 h9))
    go_ret
    exact ⟨rfl, hB0⟩
  · have hc : ∀ w, Calls Try.prog 32 #[.agg #[.int .u8 h, .int .u8 ka, .float .f64 xa, .string sa, .int .i64 ra, .int .u8 kb, .float .f64 xb, .string sb, .int .i64 rb, .int .u8 kc, .float .f64 xc, .string sc, .int .i64 rc, .bool p, .bool q, .bool z]] w fun e w' => e = .returned (.int .i64 0) ∧ Below w.heap.size w w' := hc
    rcases Bool.eq_false_or_eq_true (h == 51) with n0 | n0
    all_goals
      go_enter Try.func71, Try.ntmps71
      go_wp2_with (first | ((with_reducible refine d_load ?_ rfl rfl b1 ?_); (rfl)) | (go_at_call 32; (with_reducible refine (hc _).mono ?_); rintro e w1 ⟨rfl, h9⟩; have b1 := vblkn h9 b1; have e0 := vcells b1 0; have hB0 := vb hB0 h9))
      go_ret
      exact ⟨dret (by rw [n0]; rfl), hB0⟩
theorem whole_q {d : Dq} (hd : d.In) (w : World) : Calls Try.prog 71 #[d.val] w fun e w' => e = .returned (.bool (wholeQ d)) ∧ Below w.heap.size w w' :=
  whole_x d.h d.a.k d.a.x d.a.s d.a.r d.b.k d.b.x d.b.s d.b.r d.c.k d.c.x d.c.s d.c.r d.p d.q d.z (fun w => Check_q hd w) w
set_option maxRecDepth 1000000 in
set_option maxHeartbeats 4000000 in
theorem Compatible_x (ext found : Bool) (h m : Int) (ka : Int) (xa : Nat) (sa : ByteArray) (ra : Int) (kb : Int) (xb : Nat) (sb : ByteArray) (rb : Int) (kc : Int) (xc : Nat) (sc : ByteArray) (rc : Int) (kd : Int) (xd : Nat) (sd : ByteArray) (rd : Int) (ke : Int) (xe : Nat) (se : ByteArray) (re : Int) (kf : Int) (xf : Nat) (sf : ByteArray) (rf : Int) (p q z p' q' z' : Bool) {ck wh ch : Bool} (hc : ∀ w, Calls Try.prog 32 #[.agg #[.int .u8 h, .int .u8 ka, .float .f64 xa, .string sa, .int .i64 ra, .int .u8 kb, .float .f64 xb, .string sb, .int .i64 rb, .int .u8 kc, .float .f64 xc, .string sc, .int .i64 rc, .bool p, .bool q, .bool z]] w fun e w' => e = .returned (.int .i64 (errI ck)) ∧ Below w.heap.size w w') (hw : found = true → ∀ w, Calls Try.prog 71 #[.agg #[.int .u8 m, .int .u8 kd, .float .f64 xd, .string sd, .int .i64 rd, .int .u8 ke, .float .f64 xe, .string se, .int .i64 re, .int .u8 kf, .float .f64 xf, .string sf, .int .i64 rf, .bool p', .bool q', .bool z']] w fun e w' => e = .returned (.bool wh) ∧ Below w.heap.size w w') (hg : ck = true → found = true → wh = true → ∀ w, Calls Try.prog 72 #[.agg #[.int .u8 h, .int .u8 ka, .float .f64 xa, .string sa, .int .i64 ra, .int .u8 kb, .float .f64 xb, .string sb, .int .i64 rb, .int .u8 kc, .float .f64 xc, .string sc, .int .i64 rc, .bool p, .bool q, .bool z], .agg #[.int .u8 m, .int .u8 kd, .float .f64 xd, .string sd, .int .i64 rd, .int .u8 ke, .float .f64 xe, .string se, .int .i64 re, .int .u8 kf, .float .f64 xf, .string sf, .int .i64 rf, .bool p', .bool q', .bool z']] w fun e w' => e = .returned (.bool ch) ∧ Below w.heap.size w w') (w : World) : Calls Try.prog 67 #[.bool ext, .agg #[.int .u8 h, .int .u8 ka, .float .f64 xa, .string sa, .int .i64 ra, .int .u8 kb, .float .f64 xb, .string sb, .int .i64 rb, .int .u8 kc, .float .f64 xc, .string sc, .int .i64 rc, .bool p, .bool q, .bool z], .bool found, .agg #[.int .u8 m, .int .u8 kd, .float .f64 xd, .string sd, .int .i64 rd, .int .u8 ke, .float .f64 xe, .string se, .int .i64 re, .int .u8 kf, .float .f64 xf, .string sf, .int .i64 rf, .bool p', .bool q', .bool z']] w fun e w' => e = .returned (.tuple #[.bool (bif !ck || (found && !wh) then false else bif !found then ext else ch), .int .i64 (bif !ck || (found && !wh) then 90 else 0)]) ∧ Below w.heap.size w w' := by
  have hB0 : Below w.heap.size w ((w.alloc (.cells #[.int .u8 h, .int .u8 ka, .float .f64 xa, .string sa, .int .i64 ra, .int .u8 kb, .float .f64 xb, .string sb, .int .i64 rb, .int .u8 kc, .float .f64 xc, .string sc, .int .i64 rc, .bool p, .bool q, .bool z] 27)).alloc (.cells #[.int .u8 m, .int .u8 kd, .float .f64 xd, .string sd, .int .i64 rd, .int .u8 ke, .float .f64 xe, .string se, .int .i64 re, .int .u8 kf, .float .f64 xf, .string sf, .int .i64 rf, .bool p', .bool q', .bool z'] 27)) := vafter (vzero _ _)
  obtain ⟨b1, b2⟩ := vblk2 (w := w) (Below.refl _ ((w.alloc (.cells #[.int .u8 h, .int .u8 ka, .float .f64 xa, .string sa, .int .i64 ra, .int .u8 kb, .float .f64 xb, .string sb, .int .i64 rb, .int .u8 kc, .float .f64 xc, .string sc, .int .i64 rc, .bool p, .bool q, .bool z] 27)).alloc (.cells #[.int .u8 m, .int .u8 kd, .float .f64 xd, .string sd, .int .i64 rd, .int .u8 ke, .float .f64 xe, .string se, .int .i64 re, .int .u8 kf, .float .f64 xf, .string sf, .int .i64 rf, .bool p', .bool q', .bool z'] 27)))
  cases ck
  · clear hg hw
    have hc : ∀ w, Calls Try.prog 32 #[.agg #[.int .u8 h, .int .u8 ka, .float .f64 xa, .string sa, .int .i64 ra, .int .u8 kb, .float .f64 xb, .string sb, .int .i64 rb, .int .u8 kc, .float .f64 xc, .string sc, .int .i64 rc, .bool p, .bool q, .bool z]] w fun e w' => e = .returned (.int .i64 90) ∧ Below w.heap.size w w' := hc
    go_enter Try.func67, Try.ntmps67
    go_wp2_with (first | ((with_reducible refine d_load ?_ rfl rfl b1 ?_); (rfl)) | ((with_reducible refine d_load ?_ rfl rfl b2 ?_); (rfl)) | (go_at_call 32; (with_reducible refine (hc _).mono ?_); rintro e w1 ⟨rfl, h9⟩; have b1 := vblkn h9 b1; have b2 := vblkn h9 b2; have hB0 := vb hB0 h9))
    go_ret2
    exact ⟨rfl, hB0⟩
  · have hc : ∀ w, Calls Try.prog 32 #[.agg #[.int .u8 h, .int .u8 ka, .float .f64 xa, .string sa, .int .i64 ra, .int .u8 kb, .float .f64 xb, .string sb, .int .i64 rb, .int .u8 kc, .float .f64 xc, .string sc, .int .i64 rc, .bool p, .bool q, .bool z]] w fun e w' => e = .returned (.int .i64 0) ∧ Below w.heap.size w w' := hc
    cases found
    · clear hg hw
      go_enter Try.func67, Try.ntmps67
      go_wp2_with (first | ((with_reducible refine d_load ?_ rfl rfl b1 ?_); (rfl)) | ((with_reducible refine d_load ?_ rfl rfl b2 ?_); (rfl)) | (go_at_call 32; (with_reducible refine (hc _).mono ?_); rintro e w1 ⟨rfl, h9⟩; have b1 := vblkn h9 b1; have b2 := vblkn h9 b2; have hB0 := vb hB0 h9))
      go_ret2
      exact ⟨rfl, hB0⟩
    · have HW := hw rfl
      clear hw
      cases wh
      · clear hg
        go_enter Try.func67, Try.ntmps67
        go_wp2_with (first | ((with_reducible refine d_load ?_ rfl rfl b1 ?_); (rfl)) | ((with_reducible refine d_load ?_ rfl rfl b2 ?_); (rfl)) | (go_at_call 32; (with_reducible refine (hc _).mono ?_); rintro e w1 ⟨rfl, h9⟩; have b1 := vblkn h9 b1; have b2 := vblkn h9 b2; have hB0 := vb hB0 h9) | (go_at_call 71; (with_reducible refine (HW _).mono ?_); rintro e w1 ⟨rfl, h9⟩; have b1 := vblkn h9 b1; have b2 := vblkn h9 b2; have hB0 := vb hB0 h9))
        go_ret2
        exact ⟨rfl, hB0⟩
      · have HG := hg rfl rfl rfl
        clear hg
        go_enter Try.func67, Try.ntmps67
        go_wp2_with (first | ((with_reducible refine d_load ?_ rfl rfl b1 ?_); (rfl)) | ((with_reducible refine d_load ?_ rfl rfl b2 ?_); (rfl)) | (go_at_call 32; (with_reducible refine (hc _).mono ?_); rintro e w1 ⟨rfl, h9⟩; have b1 := vblkn h9 b1; have b2 := vblkn h9 b2; have hB0 := vb hB0 h9) | (go_at_call 71; (with_reducible refine (HW _).mono ?_); rintro e w1 ⟨rfl, h9⟩; have b1 := vblkn h9 b1; have b2 := vblkn h9 b2; have hB0 := vb hB0 h9) | (go_at_call 72; (with_reducible refine (HG _).mono ?_); rintro e w1 ⟨rfl, h9⟩; have b1 := vblkn h9 b1; have b2 := vblkn h9 b2; have hB0 := vb hB0 h9))
        go_ret2
        exact ⟨rfl, hB0⟩
set_option maxRecDepth 1000000 in
set_option maxHeartbeats 4000000 in
theorem Complete_x (h n : Int) (ka : Int) (xa : Nat) (sa : ByteArray) (ra : Int) (kb : Int) (xb : Nat) (sb : ByteArray) (rb : Int) (kc : Int) (xc : Nat) (sc : ByteArray) (rc : Int) (kg : Int) (xg : Nat) (sg : ByteArray) (rg : Int) (ki : Int) (xi : Nat) (si : ByteArray) (ri : Int) (kj : Int) (xj : Nat) (sj : ByteArray) (rj : Int) (p q z p1 q1 z1 : Bool) {ck : Bool} (hc : ∀ w, Calls Try.prog 32 #[.agg #[.int .u8 h, .int .u8 ka, .float .f64 xa, .string sa, .int .i64 ra, .int .u8 kb, .float .f64 xb, .string sb, .int .i64 rb, .int .u8 kc, .float .f64 xc, .string sc, .int .i64 rc, .bool p, .bool q, .bool z]] w fun e w' => e = .returned (.int .i64 (errI ck)) ∧ Below w.heap.size w w') (h1 : ∀ w, Calls Try.prog 68 #[.agg #[.int .u8 h, .int .u8 ka, .float .f64 xa, .string sa, .int .i64 ra, .int .u8 kb, .float .f64 xb, .string sb, .int .i64 rb, .int .u8 kc, .float .f64 xc, .string sc, .int .i64 rc, .bool p, .bool q, .bool z]] w fun e w' => e = .returned (.agg #[.int .u8 n, .int .u8 kg, .float .f64 xg, .string sg, .int .i64 rg, .int .u8 ki, .float .f64 xi, .string si, .int .i64 ri, .int .u8 kj, .float .f64 xj, .string sj, .int .i64 rj, .bool p1, .bool q1, .bool z1]) ∧ Below w.heap.size w w') (w : World) : Calls Try.prog 61 #[.agg #[.int .u8 h, .int .u8 ka, .float .f64 xa, .string sa, .int .i64 ra, .int .u8 kb, .float .f64 xb, .string sb, .int .i64 rb, .int .u8 kc, .float .f64 xc, .string sc, .int .i64 rc, .bool p, .bool q, .bool z]] w fun e w' => (ck = false → e = .returned (.tuple #[.agg #[.int .u8 0, .int .u8 0, .float .f64 0, .string ⟨#[]⟩, .int .i64 0, .int .u8 0, .float .f64 0, .string ⟨#[]⟩, .int .i64 0, .int .u8 0, .float .f64 0, .string ⟨#[]⟩, .int .i64 0, .bool false, .bool false, .bool false], .int .i64 90])) ∧ (ck = true → e = .returned (.tuple #[.agg #[.int .u8 n, .int .u8 kg, .float .f64 xg, .string sg, .int .i64 rg, .int .u8 ki, .float .f64 xi, .string si, .int .i64 ri, .int .u8 kj, .float .f64 xj, .string sj, .int .i64 rj, .bool p1, .bool q1, .bool z1], .int .i64 0])) ∧ Below w.heap.size w w' := by
  have hB0 : Below w.heap.size w ((w.alloc (.cells #[.int .u8 h, .int .u8 ka, .float .f64 xa, .string sa, .int .i64 ra, .int .u8 kb, .float .f64 xb, .string sb, .int .i64 rb, .int .u8 kc, .float .f64 xc, .string sc, .int .i64 rc, .bool p, .bool q, .bool z] 27)).alloc (.cells #[.int .u8 0, .int .u8 0, .float .f64 0, .string ⟨#[]⟩, .int .i64 0, .int .u8 0, .float .f64 0, .string ⟨#[]⟩, .int .i64 0, .int .u8 0, .float .f64 0, .string ⟨#[]⟩, .int .i64 0, .bool false, .bool false, .bool false] 27)) := vafter (vzero _ _)
  obtain ⟨b1, b2⟩ := vblk2 (w := w) (Below.refl _ ((w.alloc (.cells #[.int .u8 h, .int .u8 ka, .float .f64 xa, .string sa, .int .i64 ra, .int .u8 kb, .float .f64 xb, .string sb, .int .i64 rb, .int .u8 kc, .float .f64 xc, .string sc, .int .i64 rc, .bool p, .bool q, .bool z] 27)).alloc (.cells #[.int .u8 0, .int .u8 0, .float .f64 0, .string ⟨#[]⟩, .int .i64 0, .int .u8 0, .float .f64 0, .string ⟨#[]⟩, .int .i64 0, .int .u8 0, .float .f64 0, .string ⟨#[]⟩, .int .i64 0, .bool false, .bool false, .bool false] 27)))
  cases ck
  · have hc : ∀ w, Calls Try.prog 32 #[.agg #[.int .u8 h, .int .u8 ka, .float .f64 xa, .string sa, .int .i64 ra, .int .u8 kb, .float .f64 xb, .string sb, .int .i64 rb, .int .u8 kc, .float .f64 xc, .string sc, .int .i64 rc, .bool p, .bool q, .bool z]] w fun e w' => e = .returned (.int .i64 90) ∧ Below w.heap.size w w' := hc
    go_enter Try.func61, Try.ntmps61
    go_wp2_with (first | ((with_reducible refine d_load ?_ rfl rfl b1 ?_); (rfl)) | (go_at_call 32; (with_reducible refine (hc _).mono ?_); rintro e w1 ⟨rfl, h9⟩; have b1 := vblkn h9 b1; have b2 := vblkn h9 b2; have hB0 := vb hB0 h9) | (go_at_call 68; (with_reducible refine (h1 _).mono ?_); rintro e w1 ⟨rfl, h9⟩; have b1 := vblkn h9 b1; have b2 := vblkn h9 b2; have hB0 := vb hB0 h9) | ((with_reducible refine d_store rfl rfl rfl rfl b2 ?_ ?_ ?_); (rfl); (rfl)))
    exact d_end2 Try.results61 rfl rfl (setRow_heap _ _ _ _ _ _ b2) ⟨fun _ => rfl, (fun h => by cases h), below_row hB0 (by omega) _⟩
  · have hc : ∀ w, Calls Try.prog 32 #[.agg #[.int .u8 h, .int .u8 ka, .float .f64 xa, .string sa, .int .i64 ra, .int .u8 kb, .float .f64 xb, .string sb, .int .i64 rb, .int .u8 kc, .float .f64 xc, .string sc, .int .i64 rc, .bool p, .bool q, .bool z]] w fun e w' => e = .returned (.int .i64 0) ∧ Below w.heap.size w w' := hc
    go_enter Try.func61, Try.ntmps61
    go_wp2_with (first | ((with_reducible refine d_load ?_ rfl rfl b1 ?_); (rfl)) | (go_at_call 32; (with_reducible refine (hc _).mono ?_); rintro e w1 ⟨rfl, h9⟩; have b1 := vblkn h9 b1; have b2 := vblkn h9 b2; have hB0 := vb hB0 h9) | (go_at_call 68; (with_reducible refine (h1 _).mono ?_); rintro e w1 ⟨rfl, h9⟩; have b1 := vblkn h9 b1; have b2 := vblkn h9 b2; have hB0 := vb hB0 h9) | ((with_reducible refine d_store rfl rfl rfl rfl b2 ?_ ?_ ?_); (rfl); (rfl)))
    exact d_end2 Try.results61 rfl rfl (setRow_heap _ _ _ _ _ _ b2) ⟨(fun h => by cases h), fun _ => rfl, below_row hB0 (by omega) _⟩
end Go.Proofs.Ytkmgdaagannhkaa.S
/-
  Descriptors: changes: the walk; and Compatible, Apply, Complete said of structures. Generated: gen_descchanges.py.
-/
namespace Go.Proofs.Ytkmgdaagannhkaa.S
open Go.RowKit Fl

set_option maxRecDepth 1000000 in
set_option maxHeartbeats 4000000 in
theorem changes_x (h h1 m m1 : Int) (ka : Int) (xa : Nat) (sa : ByteArray) (ra : Int) (kb : Int) (xb : Nat) (sb : ByteArray) (rb : Int) (kc : Int) (xc : Nat) (sc : ByteArray) (rc : Int) (kd : Int) (xd : Nat) (sd : ByteArray) (rd : Int) (ke : Int) (xe : Nat) (se : ByteArray) (re : Int) (kf : Int) (xf : Nat) (sf : ByteArray) (rf : Int) (p q z p' q' z' : Bool) {bd ba nd na t : Bool} (hh : h1 = bif p' then bits .andNot .u8 h 3 else h) (hm : m1 = bits .and .u8 m h1) (cd : ∀ w, Calls Try.prog 20 #[.agg #[.int .u8 h, .int .u8 ka, .float .f64 xa, .string sa, .int .i64 ra, .int .u8 kb, .float .f64 xb, .string sb, .int .i64 rb, .int .u8 kc, .float .f64 xc, .string sc, .int .i64 rc, .bool p, .bool q, .bool z]] w fun e w' => e = .returned (.bool bd) ∧ Below w.heap.size w w') (ca : ∀ w, Calls Try.prog 49 #[.agg #[.int .u8 h, .int .u8 ka, .float .f64 xa, .string sa, .int .i64 ra, .int .u8 kb, .float .f64 xb, .string sb, .int .i64 rb, .int .u8 kc, .float .f64 xc, .string sc, .int .i64 rc, .bool p, .bool q, .bool z]] w fun e w' => e = .returned (.bool ba) ∧ Below w.heap.size w w') (ed : ∀ w, Calls Try.prog 20 #[.agg #[.int .u8 m, .int .u8 kd, .float .f64 xd, .string sd, .int .i64 rd, .int .u8 ke, .float .f64 xe, .string se, .int .i64 re, .int .u8 kf, .float .f64 xf, .string sf, .int .i64 rf, .bool p', .bool q', .bool z']] w fun e w' => e = .returned (.bool nd) ∧ Below w.heap.size w w') (ea : ∀ w, Calls Try.prog 49 #[.agg #[.int .u8 m, .int .u8 kd, .float .f64 xd, .string sd, .int .i64 rd, .int .u8 ke, .float .f64 xe, .string se, .int .i64 re, .int .u8 kf, .float .f64 xf, .string sf, .int .i64 rf, .bool p', .bool q', .bool z']] w fun e w' => e = .returned (.bool na) ∧ Below w.heap.size w w') (cs : ∀ w, Calls Try.prog 19 #[.agg #[.int .u8 h1, .int .u8 ka, .float .f64 xa, .string sa, .int .i64 ra, .int .u8 kb, .float .f64 xb, .string sb, .int .i64 rb, .int .u8 kc, .float .f64 xc, .string sc, .int .i64 rc, .bool p, .bool q, .bool z], .agg #[.int .u8 m1, .int .u8 kd, .float .f64 xd, .string sd, .int .i64 rd, .int .u8 ke, .float .f64 xe, .string se, .int .i64 re, .int .u8 kf, .float .f64 xf, .string sf, .int .i64 rf, .bool p', .bool q', .bool z']] w fun e w' => e = .returned (.bool t) ∧ Below w.heap.size w w') (w : World) : Calls Try.prog 72 #[.agg #[.int .u8 h, .int .u8 ka, .float .f64 xa, .string sa, .int .i64 ra, .int .u8 kb, .float .f64 xb, .string sb, .int .i64 rb, .int .u8 kc, .float .f64 xc, .string sc, .int .i64 rc, .bool p, .bool q, .bool z], .agg #[.int .u8 m, .int .u8 kd, .float .f64 xd, .string sd, .int .i64 rd, .int .u8 ke, .float .f64 xe, .string se, .int .i64 re, .int .u8 kf, .float .f64 xf, .string sf, .int .i64 rf, .bool p', .bool q', .bool z']] w fun e w' => e = .returned (.bool (z' || (!(bd && na) && (!(ba && nd) && t)))) ∧ Below w.heap.size w w' := by
  have hB0 : Below w.heap.size w ((w.alloc (.cells #[.int .u8 h, .int .u8 ka, .float .f64 xa, .string sa, .int .i64 ra, .int .u8 kb, .float .f64 xb, .string sb, .int .i64 rb, .int .u8 kc, .float .f64 xc, .string sc, .int .i64 rc, .bool p, .bool q, .bool z] 27)).alloc (.cells #[.int .u8 m, .int .u8 kd, .float .f64 xd, .string sd, .int .i64 rd, .int .u8 ke, .float .f64 xe, .string se, .int .i64 re, .int .u8 kf, .float .f64 xf, .string sf, .int .i64 rf, .bool p', .bool q', .bool z'] 27)) := vafter (vzero _ _)
  obtain ⟨b1, b2⟩ := vblk2 (w := w) (Below.refl _ ((w.alloc (.cells #[.int .u8 h, .int .u8 ka, .float .f64 xa, .string sa, .int .i64 ra, .int .u8 kb, .float .f64 xb, .string sb, .int .i64 rb, .int .u8 kc, .float .f64 xc, .string sc, .int .i64 rc, .bool p, .bool q, .bool z] 27)).alloc (.cells #[.int .u8 m, .int .u8 kd, .float .f64 xd, .string sd, .int .i64 rd, .int .u8 ke, .float .f64 xe, .string se, .int .i64 re, .int .u8 kf, .float .f64 xf, .string sf, .int .i64 rf, .bool p', .bool q', .bool z'] 27)))
  have HH := Lib.hid hh
  have HM := Lib.hid hm
  clear hh hm
  have e1 := vcells b2 15
  cases z'
  rotate_left
  · go_enter Try.func72, Try.ntmps72
    go_wp2
    go_ret
    exact ⟨rfl, hB0⟩
  go_enter Try.func72, Try.ntmps72
  go_upto_region 3 with (fail)
  go_cut [8] from 5 to 36 (fun u wx => u = .bool (bd && na) ∧ wx.heap[w.heap.size]? = some (.cells #[.int .u8 h, .int .u8 ka, .float .f64 xa, .string sa, .int .i64 ra, .int .u8 kb, .float .f64 xb, .string sb, .int .i64 rb, .int .u8 kc, .float .f64 xc, .string sc, .int .i64 rc, .bool p, .bool q, .bool z] 27 (0, 0)) ∧ wx.heap[w.heap.size + 1]? = some (.cells #[.int .u8 m, .int .u8 kd, .float .f64 xd, .string sd, .int .i64 rd, .int .u8 ke, .float .f64 xe, .string se, .int .i64 re, .int .u8 kf, .float .f64 xf, .string sf, .int .i64 rf, .bool p', .bool q', .bool false] 27 (0, 0)) ∧ Below w.heap.size w wx)
  case first =>
    cases bd
    all_goals
      go_wp2_with (first | ((with_reducible refine d_load ?_ rfl rfl b1 ?_); (rfl)) | ((with_reducible refine d_load ?_ rfl rfl b2 ?_); (rfl)) | (go_at_call 20; (with_reducible refine (cd _).mono ?_); rintro e w1 ⟨rfl, h1⟩; have b1 := vblkn h1 b1; have b2 := vblkn h1 b2; have hB0 := vb hB0 h1) | (go_at_call 49; (with_reducible refine (ea _).mono ?_); rintro e w1 ⟨rfl, h1⟩; have b1 := vblkn h1 b1; have b2 := vblkn h1 b2; have hB0 := vb hB0 h1))
      go_meet
      case rel => exact ⟨rfl, b1, b2, hB0⟩
  case rest =>
  clear b1 b2 hB0 e1
  obtain ⟨rfl, b1, b2, hB0⟩ := hcut
  generalize hg3 : (bd && na) = g3
  have G3 := Lib.hid hg3
  clear hg3
  cases g3
  rotate_left
  · go_wp2
    go_ret
    exact ⟨dret (by rw [G3.out]; rfl), hB0⟩
  go_upto_region 4 with (fail)
  go_cut [8] from 5 to 36 (fun u wx => u = .bool (ba && nd) ∧ wx.heap[w.heap.size]? = some (.cells #[.int .u8 h, .int .u8 ka, .float .f64 xa, .string sa, .int .i64 ra, .int .u8 kb, .float .f64 xb, .string sb, .int .i64 rb, .int .u8 kc, .float .f64 xc, .string sc, .int .i64 rc, .bool p, .bool q, .bool z] 27 (0, 0)) ∧ wx.heap[w.heap.size + 1]? = some (.cells #[.int .u8 m, .int .u8 kd, .float .f64 xd, .string sd, .int .i64 rd, .int .u8 ke, .float .f64 xe, .string se, .int .i64 re, .int .u8 kf, .float .f64 xf, .string sf, .int .i64 rf, .bool p', .bool q', .bool false] 27 (0, 0)) ∧ Below w.heap.size w wx)
  case first =>
    cases ba
    all_goals
      go_wp2_with (first | ((with_reducible refine d_load ?_ rfl rfl b1 ?_); (rfl)) | ((with_reducible refine d_load ?_ rfl rfl b2 ?_); (rfl)) | (go_at_call 49; (with_reducible refine (ca _).mono ?_); rintro e w1 ⟨rfl, h1⟩; have b1 := vblkn h1 b1; have b2 := vblkn h1 b2; have hB0 := vb hB0 h1) | (go_at_call 20; (with_reducible refine (ed _).mono ?_); rintro e w1 ⟨rfl, h1⟩; have b1 := vblkn h1 b1; have b2 := vblkn h1 b2; have hB0 := vb hB0 h1))
      go_meet
      case rel => exact ⟨rfl, b1, b2, hB0⟩
  case rest =>
  clear b1 b2 hB0
  obtain ⟨rfl, b1, b2, hB0⟩ := hcut
  generalize hg4 : (ba && nd) = g4
  have G4 := Lib.hid hg4
  clear hg4
  cases g4
  rotate_left
  · go_wp2
    go_ret
    exact ⟨dret (by rw [G3.out, G4.out]; rfl), hB0⟩
  have e4 := vcells b2 13
  have e5 := vcells b1 0
  have f5 := vfz b1 0
  have e6 := vcells b2 0
  have f6 := vfz b2 0
  cases p'
  · have hh : h1 = h := HH.out
    have hm := HM.out
    clear HH HM
    rw [hh] at hm cs
    rw [hm] at cs
    clear hh hm
    go_upto_region 9 with (fail)
    have b2 : (World.setCell _ ⟨w.heap.size + 1, 0, none⟩ (.int .u8 (bits .and .u8 m h))).heap[w.heap.size + 1]? = some (.cells #[.int .u8 (bits .and .u8 m h), .int .u8 kd, .float .f64 xd, .string sd, .int .i64 rd, .int .u8 ke, .float .f64 xe, .string se, .int .i64 re, .int .u8 kf, .float .f64 xf, .string sf, .int .i64 rf, .bool false, .bool q', .bool false] 27 (0, 0)) := vset1 b2 0 _
    have b1 := vset1o (j := w.heap.size + 1) b1 (by omega) 0 (.int .u8 (bits .and .u8 m h))
    have hB0 := hB0.setCell (p := ⟨w.heap.size + 1, 0, none⟩) (Nat.le_succ _) (.int .u8 (bits .and .u8 m h))
    go_wp2_with (first | ((with_reducible refine d_load ?_ rfl rfl b1 ?_); (rfl)) | ((with_reducible refine d_load ?_ rfl rfl b2 ?_); (rfl)) | (go_at_call 19; (with_reducible refine (cs _).mono ?_); rintro e w1 ⟨rfl, h1⟩; have b1 := vblkn h1 b1; have b2 := vblkn h1 b2; have hB0 := vb hB0 h1))
    go_ret
    exact ⟨dret (by rw [G3.out, G4.out]; rfl), hB0⟩
  · have hh : h1 = bits .andNot .u8 h 3 := HH.out
    have hm := HM.out
    clear HH HM
    rw [hh] at hm cs
    rw [hm] at cs
    clear hh hm
    go_upto_region 9 with (fail)
    have b1 : (World.setCell _ ⟨w.heap.size, 0, none⟩ (.int .u8 (bits .andNot .u8 h 3))).heap[w.heap.size]? = some (.cells #[.int .u8 (bits .andNot .u8 h 3), .int .u8 ka, .float .f64 xa, .string sa, .int .i64 ra, .int .u8 kb, .float .f64 xb, .string sb, .int .i64 rb, .int .u8 kc, .float .f64 xc, .string sc, .int .i64 rc, .bool p, .bool q, .bool z] 27 (0, 0)) := vset1 b1 0 _
    have b2 := vset1o (j := w.heap.size) b2 (by omega) 0 (.int .u8 (bits .andNot .u8 h 3))
    have hB0 := hB0.setCell (p := ⟨w.heap.size, 0, none⟩) (Nat.le_refl _) (.int .u8 (bits .andNot .u8 h 3))
    have b2 : (World.setCell _ ⟨w.heap.size + 1, 0, none⟩ (.int .u8 (bits .and .u8 m (bits .andNot .u8 h 3)))).heap[w.heap.size + 1]? = some (.cells #[.int .u8 (bits .and .u8 m (bits .andNot .u8 h 3)), .int .u8 kd, .float .f64 xd, .string sd, .int .i64 rd, .int .u8 ke, .float .f64 xe, .string se, .int .i64 re, .int .u8 kf, .float .f64 xf, .string sf, .int .i64 rf, .bool true, .bool q', .bool false] 27 (0, 0)) := vset1 b2 0 _
    have b1 := vset1o (j := w.heap.size + 1) b1 (by omega) 0 (.int .u8 (bits .and .u8 m (bits .andNot .u8 h 3)))
    have hB0 := hB0.setCell (p := ⟨w.heap.size + 1, 0, none⟩) (Nat.le_succ _) (.int .u8 (bits .and .u8 m (bits .andNot .u8 h 3)))
    go_wp2_with (first | ((with_reducible refine d_load ?_ rfl rfl b1 ?_); (rfl)) | ((with_reducible refine d_load ?_ rfl rfl b2 ?_); (rfl)) | (go_at_call 19; (with_reducible refine (cs _).mono ?_); rintro e w1 ⟨rfl, h1⟩; have b1 := vblkn h1 b1; have b2 := vblkn h1 b2; have hB0 := vb hB0 h1))
    go_ret
    exact ⟨dret (by rw [G3.out, G4.out]; rfl), hB0⟩
end Go.Proofs.Ytkmgdaagannhkaa.S
/-
  Descriptors: changes, Compatible, Apply, Complete said of structures; a comparison with the zero one.
-/
namespace Go.Proofs.Ytkmgdaagannhkaa.S
open Go.RowKit Fl

theorem changes_q {d now : Dq} (g : Good d) (n : Good now) (w : World) : Calls Try.prog 72 #[d.val, now.val] w fun e w' => e = .returned (.bool (changesQ d now)) ∧ Below w.heap.size w w' := by
  obtain ⟨ka, kb, kc⟩ := good_kinds g
  obtain ⟨na, nb, nc⟩ := good_kinds n
  exact changes_x d.h (heldH d now) now.h (bits .and .u8 now.h (heldH d now)) d.a.k d.a.x d.a.s d.a.r d.b.k d.b.x d.b.s d.b.r d.c.k d.c.x d.c.s d.c.r now.a.k now.a.x now.a.s now.a.r now.b.k now.b.x now.b.s now.b.r now.c.k now.c.x now.c.s now.c.r d.p d.q d.z now.p now.q now.z rfl rfl
    (fun w => IsData_q d w) (fun w => IsAccess_q d w) (fun w => IsData_q now w) (fun w => IsAccess_q now w) (fun w => Same_q (a := { d with h := heldH d now }) (b := { now with h := bits .and .u8 now.h (heldH d now) }) ⟨ka, kb, kc⟩ ⟨na.1, nb.1, nc.1⟩ w) w
theorem compat_q {ext found : Bool} {d now : Dq} (hd : d.In) (hn : now.In) (w : World) : Calls Try.prog 67 #[.bool ext, d.val, .bool found, now.val] w fun e w' => e = .returned (.tuple #[.bool (compatQ ext d found now).1, .int .i64 (compatQ ext d found now).2]) ∧ Below w.heap.size w w' := by
  have h := Compatible_x ext found d.h now.h d.a.k d.a.x d.a.s d.a.r d.b.k d.b.x d.b.s d.b.r d.c.k d.c.x d.c.s d.c.r now.a.k now.a.x now.a.s now.a.r now.b.k now.b.x now.b.s now.b.r now.c.k now.c.x now.c.s now.c.r d.p d.q d.z now.p now.q now.z
    (ck := chkQ d) (wh := wholeQ now) (ch := changesQ d now) (fun w => Check_q hd w) (fun _ w => whole_q hn w) (fun h1 _ h3 w => changes_q (good_of hd h1) ((whole_iff hn).1 h3).1 w) w
  refine h.mono fun e w' ⟨he, hb⟩ => ⟨he.trans ?_, hb⟩
  unfold compatQ
  cases chkQ d <;> cases found <;> cases wholeQ now <;> rfl
/-- what comes out may come in -/
theorem ok_in {v : Vq} (h : v.Ok) : v.In := by
  obtain ⟨u, ok, e1, e2, _, e4⟩ := h
  obtain ⟨k0, k8⟩ := vok_kind ⟨u, ok, e1, e2, rfl, e4⟩
  refine ⟨k0, by omega, ?_, ?_⟩
  · rw [← e2]
    cases u with
    | boo x => rcases ok with rfl | rfl | rfl <;> simp only [Vl.fl] <;> omega
    | num x => obtain ⟨c, hc, _⟩ := ok; simp only [Vl.fl]; exact hc.lt
    | _ => simp only [Vl.fl]; omega
  · rw [← e4]
    cases u with
    | sym r => exact ok.2
    | obj k r => exact ok.2.2
    | _ => simp only [Vl.rf]; omega
section
variable {ops : Array Oper} {rest : List Oper} {o : Oper} {a : Act} {w : World} {Q : Exit → Act → World → Prop} {x y : Operand}
end
end Go.Proofs.Ytkmgdaagannhkaa.S
