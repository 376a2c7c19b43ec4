/-
  The law DescStays: any two descriptors. Generated: gen_desclaw3.py.
-/
import Derived.Test.YtlgbnfcnimjheaaDescLaw2
namespace Go.Proofs.Ytlgbnfcnimjheaa.S
open Go.RowKit Fl

theorem complete_b {d : Dq} (g : d.h ∈ allH) (h : (completeQ d).h = 51) : (completeQ d).b = v0 ∧ (completeQ d).c = v0 := by
  rw [complete_eq g] at h ⊢
  obtain ⟨b1, b2, b4, b8, e1, e2, e4, e8, e3, e12, ex⟩ := bits_ways g
  dsimp only at h ⊢
  rw [e12] at h
  rw [e4, e8]
  cases b4 <;> cases b8 <;> first | exact ⟨rfl, rfl⟩ | exact absurd h (by decide)
theorem become_b {d now : Dq} (g : d.h ∈ allH) (hn : now.h = 51 ∨ now.h = 60) (h : (becomeQ d now).h = 51) : (becomeQ d now).b = v0 ∧ (becomeQ d now).c = v0 := by
  rw [become_eq g hn] at h ⊢
  obtain ⟨b1, b2, b4, b8, e1, e2, e4, e8, e3, e12, ex⟩ := bits_ways g
  dsimp only at h ⊢
  rw [e3, e12] at h
  rw [e4, e8, e3]
  rcases hn with e | e <;> rw [e] at h ⊢ <;> cases b1 <;> cases b2 <;> cases b4 <;> cases b8 <;> first | exact ⟨rfl, rfl⟩ | exact absurd h (by decide) | exact absurd ex (by decide)
theorem complete_h {x : Dq} (g : x.h ∈ allH) (h : x.h = 51 ∨ x.h = 60) : (completeQ x).h = x.h := by
  rw [complete_eq g]
  dsimp only
  rcases h with e | e <;> rw [e] <;> decide
theorem apply_b {ext found : Bool} {d now : Dq} (hd : d.In) (hn : now.In) (h : (compatQ ext d found now).1 = true) (hx : (applyQ ext d found now).h = 51) : (applyQ ext d found now).b = v0 ∧ (applyQ ext d found now).c = v0 := by
  have gd := (came hd hn h).1.gd
  have e : applyQ ext d found now = bif !found then completeQ d else becomeQ d now := by unfold applyQ; rw [h]; rfl
  rw [e] at hx ⊢
  cases found with
  | false => exact complete_b gd.mem hx
  | true =>
    unfold compatQ at h
    rw [chk_of gd] at h
    cases hw : wholeQ now with
    | false => rw [hw] at h; exact absurd h (by simp)
    | true => exact become_b gd.mem ((whole_iff hn).1 hw).2 hx
theorem compat_er (ext : Bool) (d : Dq) (found : Bool) (now : Dq) : (compatQ ext d found now).2 = 0 ∨ (compatQ ext d found now).2 = 90 := by
  unfold compatQ
  cases (!chkQ d || (found && !wholeQ now)) <;> cases found <;> first | exact Or.inl rfl | exact Or.inr rfl
theorem bif_k {b : Bool} {v : Vq} (h : 0 ≤ v.k) : 0 ≤ (bif b then v else v0).k := by
  cases b
  · exact Int.le_refl 0
  · exact h
theorem DescStays_any (ext : Bool) (d : Dq) (found : Bool) (now : Dq) (w : World) (hd : d.In) (hn : now.In) : Calls Try.prog 3 #[.bool ext, d.val, .bool found, now.val] w fun e w' => e = .returned (.bool true) ∧ Below w.heap.size w w' := by
  obtain ⟨ld, hld⟩ := long_c d.h d.a.k d.a.x d.a.s d.a.r d.b.k d.b.x d.b.s d.b.r d.c.k d.c.x d.c.s d.c.r d.p d.q d.z
  obtain ⟨ln, hln⟩ := long_c now.h now.a.k now.a.x now.a.s now.a.r now.b.k now.b.x now.b.s now.b.r now.c.k now.c.x now.c.s now.c.r now.p now.q now.z
  cases hm : (compatQ ext d found now).1 with
  | false =>
    have e1 : applyQ ext d found now = dz 0 := by unfold applyQ; rw [hm]; rfl
    refine DS_no ext found d.h now.h (compatQ ext d found now).2 d.a.k d.a.x d.a.s d.a.r d.b.k d.b.x d.b.s d.b.r d.c.k d.c.x d.c.s d.c.r now.a.k now.a.x now.a.s now.a.r now.b.k now.b.x now.b.s now.b.r now.c.k now.c.x now.c.s now.c.r d.p d.q d.z now.p now.q now.z (fun w => descalive_any w) hld hln (fun w => ?_) (fun w => ?_) (compat_er ext d found now) w
    · have := apply_q (ext := ext) (found := found) hd hn w
      rw [hm, e1] at this
      exact this
    · have := compat_q (ext := ext) (found := found) hd hn w
      rw [hm] at this
      exact this
  | true =>
    obtain ⟨c, er⟩ := came hd hn hm
    have hb := apply_b hd hn hm
    have hA := fun w => apply_q (ext := ext) (found := found) hd hn w
    have hC := fun w => compat_q (ext := ext) (found := found) hd hn w
    rw [hm, er] at hA hC
    generalize applyQ ext d found now = X at c hA hb
    have hX := came_in c hb
    obtain ⟨s1, s2⟩ := apply_self hX c.g c.h
    have hK := fun w => Complete_q hX c.g w
    have hh := complete_h c.g.mem c.h
    have hL := fun w => left_q X d.h w
    obtain ⟨ka, kb, kc⟩ := good_kinds c.g
    have hS1 := fun w => Same_q (a := d) (b := leftQ X d.h) (good_kinds c.gd) ⟨bif_k ka.1, bif_k kb.1, bif_k kc.1⟩ w
    have e1 : sameDq d (leftQ X d.h) = true := left_same c.gd c.has
    unfold sameDq at e1
    rw [e1] at hS1
    have hA2 := fun w => apply_q (ext := false) (found := true) hX hX w
    rw [s1, s2] at hA2
    have gY := (become_good c.g c.g c.h).1
    obtain ⟨ya, yb, yc⟩ := good_kinds gY
    have hS2 := fun w => Same_q (a := X) (b := becomeQ X X) ⟨ka, kb, kc⟩ ⟨ya.1, yb.1, yc.1⟩ w
    have e2 : sameDq X (becomeQ X X) = true := self_same c.g c.h
    unfold sameDq at e2
    rw [e2] at hS2
    generalize hCX : completeQ X = CX at hK hh
    generalize leftQ X d.h = LX at hL hS1
    generalize becomeQ X X = Y at hA2 hS2
    refine DS_yes ext found d.h now.h X.h LX.h Y.h d.a.k d.a.x d.a.s d.a.r d.b.k d.b.x d.b.s d.b.r d.c.k d.c.x d.c.s d.c.r now.a.k now.a.x now.a.s now.a.r now.b.k now.b.x now.b.s now.b.r now.c.k now.c.x now.c.s now.c.r X.a.k X.a.x X.a.s X.a.r X.b.k X.b.x X.b.s X.b.r X.c.k X.c.x X.c.s X.c.r CX.a.k CX.a.x CX.a.s CX.a.r CX.b.k CX.b.x CX.b.s CX.b.r CX.c.k CX.c.x CX.c.s CX.c.r LX.a.k LX.a.x LX.a.s LX.a.r LX.b.k LX.b.x LX.b.s LX.b.r LX.c.k LX.c.x LX.c.s LX.c.r Y.a.k Y.a.x Y.a.s Y.a.r Y.b.k Y.b.x Y.b.s Y.b.r Y.c.k Y.c.x Y.c.s Y.c.r d.p d.q d.z now.p now.q now.z X.p X.q X.z CX.p CX.q CX.z LX.p LX.q LX.z Y.p Y.q Y.z (fun w => descalive_any w) hld hln hA hC ?_ hL hS1 hA2 hS2 (fun w => IsAccess_q now w) c.h c.new ?_ ?_ ?_ ?_ ?_ w
    · intro w
      have := hK w
      unfold Dq.val Dq.cells at this
      rw [hh] at this
      exact this
    · intro hf hz
      have s := c.old hf hz
      exact ⟨s.z, s.q, s.h⟩
    · intro hf hz ha w
      have := same_i (sa := X.b.s) (xa := X.b.x) (ra := X.b.r) (xb := now.b.x) (sb := now.b.s) (rb := now.b.r) kb hn.b.1 w
      rw [show sameI X.b.k X.b.x X.b.s X.b.r now.b.k now.b.x now.b.s now.b.r = true from ((c.old hf hz).acc ha).1] at this
      exact this
    · intro hf hz ha w
      have := same_i (sa := X.c.s) (xa := X.c.x) (ra := X.c.r) (xb := now.c.x) (sb := now.c.s) (rb := now.c.r) kc hn.c.1 w
      rw [show sameI X.c.k X.c.x X.c.s X.c.r now.c.k now.c.x now.c.s now.c.r = true from ((c.old hf hz).acc ha).2] at this
      exact this
    · intro hf hz ha hp
      rcases (c.old hf hz).dat ha with h | h
      · rw [hp] at h; cases h
      · exact h.1
    · intro hf hz ha hp w
      have := same_i (sa := X.a.s) (xa := X.a.x) (ra := X.a.r) (xb := now.a.x) (sb := now.a.s) (rb := now.a.r) ka hn.a.1 w
      have hs : sameQ X.a now.a = true := by
        rcases (c.old hf hz).dat ha with h | h
        · rw [hp] at h; cases h
        · exact h.2
      rw [show sameI X.a.k X.a.x X.a.s X.a.r now.a.k now.a.x now.a.s now.a.r = true from hs] at this
      exact this
end Go.Proofs.Ytlgbnfcnimjheaa.S
