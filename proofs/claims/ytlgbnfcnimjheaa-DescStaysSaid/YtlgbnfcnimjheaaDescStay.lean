/-
  What is not configurable stays: the mathematics; what Compatible and Apply come to.
-/
import Derived.Test.YtlgbnfcnimjheaaDescFacts
namespace Go.Proofs.Ytlgbnfcnimjheaa.S
open Go.RowKit Fl

theorem imp_of {b t : Bool} (h : (b && !t) = false) : b = true → t = true := by intro e; rw [e] at h; simpa using h
theorem ne_of {b p p' : Bool} (h : (b && (p != p')) = false) : b = true → p = p' := by intro e; rw [e] at h; revert h; cases p <;> cases p' <;> decide
theorem sameD_inv {h h' : Int} {sA sB sC p p' q q' z z' : Bool} (e : sameD h h' sA sB sC p p' q q' z z' = true) : (hasB h 1 = true → sA = true) ∧ (hasB h 4 = true → sB = true) ∧ (hasB h 8 = true → sC = true) ∧ (hasB h 2 = true → p = p') ∧ (hasB h 16 = true → q = q') ∧ (hasB h 32 = true → z = z') := by
  unfold sameD same7 at e
  simp only [Bool.and_eq_true, Bool.not_eq_true'] at e
  obtain ⟨⟨⟨⟨⟨⟨_, f1⟩, f2⟩, f3⟩, f4⟩, f5⟩, f6⟩ := e
  exact ⟨imp_of f1, imp_of f3, imp_of f4, ne_of f2, ne_of f5, ne_of f6⟩
theorem held_all : ∀ h ∈ allH, hasB (bits .andNot .u8 h 3) 4 = hasB h 4 ∧ hasB (bits .andNot .u8 h 3) 8 = hasB h 8 ∧ hasB (bits .andNot .u8 h 3) 16 = hasB h 16 ∧ hasB (bits .andNot .u8 h 3) 32 = hasB h 32 := by decide +kernel
structure Stays (x now : Dq) : Prop where
  z : x.z = false
  q : x.q = now.q
  h : x.h = now.h
  acc : hasB now.h 12 = true → sameQ x.b now.b = true ∧ sameQ x.c now.c = true
  dat : hasB now.h 12 = false → now.p = true ∨ (x.p = false ∧ sameQ x.a now.a = true)
theorem stays {d now : Dq} (g : Good d) (n : Good now) (hn : now.h = 51 ∨ now.h = 60) (hz : now.z = false) (hc : changesQ d now = true) : Stays (becomeQ d now) now := by
  unfold changesQ at hc
  rw [hz] at hc
  simp only [Bool.false_or, Bool.and_eq_true, Bool.not_eq_true'] at hc
  obtain ⟨hA, hB, hS⟩ := hc
  obtain ⟨s1, s4, s8, s2, s16, s32⟩ := sameD_inv hS
  obtain ⟨k4, k8, k16, k32⟩ := held_all _ g.mem
  have e4 : hasB (heldH d now) 4 = hasB d.h 4 := by unfold heldH; cases now.p; exact rfl; exact k4
  have e8 : hasB (heldH d now) 8 = hasB d.h 8 := by unfold heldH; cases now.p; exact rfl; exact k8
  have e16 : hasB (heldH d now) 16 = hasB d.h 16 := by unfold heldH; cases now.p; exact rfl; exact k16
  have e32 : hasB (heldH d now) 32 = hasB d.h 32 := by unfold heldH; cases now.p; exact rfl; exact k32
  rw [e4] at s4
  rw [e8] at s8
  rw [e16] at s16
  rw [e32] at s32
  rw [become_eq g.mem hn]
  refine ⟨?_, ?_, ?_, ?_, ?_⟩ <;> dsimp only
  · cases e : hasB d.h 32 with
    | true => exact s32 e
    | false => exact hz
  · cases e : hasB d.h 16 with
    | true => exact s16 e
    | false => rfl
  · cases e3 : hasB d.h 3 with
    | true =>
      rw [e3] at hA
      rcases hn with e | e
      · rw [e]; rfl
      · rw [e] at hA; exact absurd hA (by decide)
    | false =>
      cases e12 : hasB d.h 12 with
      | true =>
        rw [e12] at hB
        rcases hn with e | e
        · rw [e] at hB; exact absurd hB (by decide)
        · rw [e]; rfl
      | false => rfl
  · intro h12
    rw [h12, Bool.and_true] at hA
    have hn6 : now.h = 60 := by
      rcases hn with e | e
      · rw [e] at h12; exact absurd h12 (by decide)
      · exact e
    have nb := (n.b (by rw [hn6]; decide)).1
    have nc := (n.c (by rw [hn6]; decide)).1
    rw [hA, hn6]
    constructor
    · cases e : hasB d.h 4 with
      | true => exact s4 e
      | false => exact same_refl nb
    · cases e : hasB d.h 8 with
      | true => exact s8 e
      | false => exact same_refl nc
  · intro h12
    have hn5 : now.h = 51 := by
      rcases hn with e | e
      · exact e
      · rw [e] at h12; exact absurd h12 (by decide)
    have h3 : hasB now.h 3 = true := by rw [hn5]; decide
    rw [h3, Bool.and_true] at hB
    cases hp : now.p with
    | true => exact Or.inl rfl
    | false =>
      right
      have eh : heldH d now = d.h := by unfold heldH; rw [hp]; rfl
      rw [eh] at s1 s2
      rw [hB, hn5]
      constructor
      · cases e : hasB d.h 2 with
        | true => exact (s2 e).trans hp
        | false => rfl
      · cases e : hasB d.h 1 with
        | true => exact s1 e
        | false => exact same_refl n.a
/-- what Apply answers, when it may be -/
theorem apply_self {x : Dq} (hx : x.In) (g : Good x) (h : x.h = 51 ∨ x.h = 60) : compatQ false x true x = (true, 0) ∧ applyQ false x true x = becomeQ x x := by
  have hw : wholeQ x = true := (whole_iff hx).2 ⟨g, h⟩
  have e : compatQ false x true x = (true, 0) := by unfold compatQ; rw [chk_of g, hw, self_changes g h]; rfl
  exact ⟨e, by unfold applyQ; rw [e]; rfl⟩
structure Came (ext : Bool) (d : Dq) (found : Bool) (now x : Dq) : Prop where
  g : Good x
  h : x.h = 51 ∨ x.h = 60
  has : Has d x
  gd : Good d
  new : found = false → ext = true
  old : found = true → now.z = false → Stays x now
theorem came {ext : Bool} {d : Dq} {found : Bool} {now : Dq} (hd : d.In) (hn : now.In) (h : (compatQ ext d found now).1 = true) : Came ext d found now (applyQ ext d found now) ∧ (compatQ ext d found now).2 = 0 := by
  have hx : applyQ ext d found now = bif !found then completeQ d else becomeQ d now := by unfold applyQ; rw [h]; rfl
  rw [hx]
  unfold compatQ at h ⊢
  cases hc : chkQ d with
  | false => rw [hc] at h; exact absurd h (by simp)
  | true =>
    rw [hc] at h
    have gd := good_of hd hc
    cases found with
    | false =>
      obtain ⟨a, b⟩ := complete_good gd
      exact ⟨⟨a, b, complete_has gd.mem, gd, fun _ => h, fun e => by cases e⟩, rfl⟩
    | true =>
      cases hw : wholeQ now with
      | false => rw [hw] at h; exact absurd h (by simp)
      | true =>
        rw [hw] at h
        obtain ⟨gn, hn'⟩ := (whole_iff hn).1 hw
        obtain ⟨a, b⟩ := become_good gd gn hn'
        exact ⟨⟨a, b, become_has gd.mem hn', gd, (fun e => by cases e), fun _ hz => stays gd gn hn' hz h⟩, rfl⟩
end Go.Proofs.Ytlgbnfcnimjheaa.S
