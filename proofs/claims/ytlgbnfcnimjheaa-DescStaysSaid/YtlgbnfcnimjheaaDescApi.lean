/-
  Descriptors: changes, Compatible, Apply, Complete said of structures; a comparison with the zero one.
-/
import Derived.Test.YtlgbnfcnimjheaaDescLeft
import Derived.Test.YtlgbnfcnimjheaaDescChanges
namespace Go.Proofs.Ytlgbnfcnimjheaa.S
open Go.RowKit Fl

theorem changes_q {d now : Dq} (g : Good d) (n : Good now) (w : World) : Calls Try.prog 18 #[d.val, now.val] w fun e w' => e = .returned (.bool (changesQ d now)) ∧ Below w.heap.size w w' := by
  obtain ⟨ka, kb, kc⟩ := good_kinds g
  obtain ⟨na, nb, nc⟩ := good_kinds n
  exact changes_x d.h (heldH d now) now.h (bits .and .u8 now.h (heldH d now)) d.a.k d.a.x d.a.s d.a.r d.b.k d.b.x d.b.s d.b.r d.c.k d.c.x d.c.s d.c.r now.a.k now.a.x now.a.s now.a.r now.b.k now.b.x now.b.s now.b.r now.c.k now.c.x now.c.s now.c.r d.p d.q d.z now.p now.q now.z rfl rfl
    (fun w => IsData_q d w) (fun w => IsAccess_q d w) (fun w => IsData_q now w) (fun w => IsAccess_q now w) (fun w => Same_q (a := { d with h := heldH d now }) (b := { now with h := bits .and .u8 now.h (heldH d now) }) ⟨ka, kb, kc⟩ ⟨na.1, nb.1, nc.1⟩ w) w
theorem compat_q {ext found : Bool} {d now : Dq} (hd : d.In) (hn : now.In) (w : World) : Calls Try.prog 7 #[.bool ext, d.val, .bool found, now.val] w fun e w' => e = .returned (.tuple #[.bool (compatQ ext d found now).1, .int .i64 (compatQ ext d found now).2]) ∧ Below w.heap.size w w' := by
  have h := Compatible_x ext found d.h now.h d.a.k d.a.x d.a.s d.a.r d.b.k d.b.x d.b.s d.b.r d.c.k d.c.x d.c.s d.c.r now.a.k now.a.x now.a.s now.a.r now.b.k now.b.x now.b.s now.b.r now.c.k now.c.x now.c.s now.c.r d.p d.q d.z now.p now.q now.z
    (ck := chkQ d) (wh := wholeQ now) (ch := changesQ d now) (fun w => Check_q hd w) (fun _ w => whole_q hn w) (fun h1 _ h3 w => changes_q (good_of hd h1) ((whole_iff hn).1 h3).1 w) w
  refine h.mono fun e w' ⟨he, hb⟩ => ⟨he.trans ?_, hb⟩
  unfold compatQ
  cases chkQ d <;> cases found <;> cases wholeQ now <;> rfl
theorem apply_q {ext found : Bool} {d now : Dq} (hd : d.In) (hn : now.In) (w : World) : Calls Try.prog 6 #[.bool ext, d.val, .bool found, now.val] w fun e w' => e = .returned (.tuple #[(applyQ ext d found now).val, .bool (compatQ ext d found now).1, .int .i64 (compatQ ext d found now).2]) ∧ Below w.heap.size w w' := by
  generalize hX : (bif !found then completeQ d else becomeQ d now) = X
  have h := Apply_x ext found d.h now.h X.h d.a.k d.a.x d.a.s d.a.r d.b.k d.b.x d.b.s d.b.r d.c.k d.c.x d.c.s d.c.r now.a.k now.a.x now.a.s now.a.r now.b.k now.b.x now.b.s now.b.r now.c.k now.c.x now.c.s now.c.r X.a.k X.a.x X.a.s X.a.r X.b.k X.b.x X.b.s X.b.r X.c.k X.c.x X.c.s X.c.r d.p d.q d.z now.p now.q now.z X.p X.q X.z
    (may := (compatQ ext d found now).1) (er := (compatQ ext d found now).2) (fun w => compat_q hd hn w)
    (fun hf w => by
      have := complete_q d w
      rw [show completeQ d = X by rw [← hX, hf]; rfl] at this
      exact this)
    (fun hf w => by
      have := become_q d now w
      rw [show becomeQ d now = X by rw [← hX, hf]; rfl] at this
      exact this)
    (fun hm => (came hd hn hm).2) w
  refine h.mono fun e w' ⟨h1, h2, hb⟩ => ⟨?_, hb⟩
  cases hm : (compatQ ext d found now).1 with
  | false =>
    have : applyQ ext d found now = dz 0 := by unfold applyQ; rw [hm]; rfl
    rw [h1 hm, this]
    rfl
  | true =>
    have : applyQ ext d found now = X := by rw [← hX]; unfold applyQ; rw [hm]; rfl
    rw [h2 hm, this, (came hd hn hm).2]
    rfl
theorem Complete_q {d : Dq} (hd : d.In) (g : Good d) (w : World) : Calls Try.prog 8 #[d.val] w fun e w' => e = .returned (.tuple #[(completeQ d).val, .int .i64 0]) ∧ Below w.heap.size w w' := by
  generalize hX : completeQ d = X
  refine (Complete_x d.h X.h d.a.k d.a.x d.a.s d.a.r d.b.k d.b.x d.b.s d.b.r d.c.k d.c.x d.c.s d.c.r X.a.k X.a.x X.a.s X.a.r X.b.k X.b.x X.b.s X.b.r X.c.k X.c.x X.c.s X.c.r d.p d.q d.z X.p X.q X.z (ck := chkQ d) (fun w => Check_q hd w) (fun w => hX ▸ complete_q d w) w).mono fun e w' ⟨_, h2, hb⟩ => ⟨h2 (chk_of g), hb⟩
/-- what comes out may come in -/
theorem ok_in {v : Vq} (h : v.Ok) : v.In := by
  obtain ⟨u, ok, e1, e2, _, e4⟩ := h
  obtain ⟨k0, k8⟩ := vok_kind ⟨u, ok, e1, e2, rfl, e4⟩
  refine ⟨k0, by omega, ?_, ?_⟩
  · rw [← e2]
    cases u with
    | boo x => rcases ok with rfl | rfl | rfl <;> simp only [Vl.fl] <;> omega
    | num x => obtain ⟨c, hc, _⟩ := ok; simp only [Vl.fl]; exact hc.lt
    | _ => simp only [Vl.fl]; omega
  · rw [← e4]
    cases u with
    | sym r => exact ok.2
    | obj k r => exact ok.2.2
    | _ => simp only [Vl.rf]; omega
theorem came_in {ext : Bool} {d : Dq} {found : Bool} {now x : Dq} (c : Came ext d found now x) (hb : x.h = 51 → x.b = v0 ∧ x.c = v0) : x.In := by
  refine ⟨?_, ?_, ok_in c.g.a, ?_, ?_⟩
  · rcases c.h with e | e <;> omega
  · rcases c.h with e | e <;> omega
  · rcases c.h with e | e
    · rw [(hb e).1]; exact ok_in v0_ok
    · exact ok_in (c.g.b (by rw [e]; decide)).1
  · rcases c.h with e | e
    · rw [(hb e).2]; exact ok_in v0_ok
    · exact ok_in (c.g.c (by rw [e]; decide)).1
section
variable {ops : Array Oper} {rest : List Oper} {o : Oper} {a : Act} {w : World} {Q : Exit → Act → World → Prop} {x y : Operand}
theorem d_neq {n h : Int} {p q z : Bool} {kd : Int} {xd : Nat} {sd : ByteArray} {rd : Int} {ke : Int} {xe : Nat} {se : ByteArray} {re : Int} {kf : Int} {xf : Nat} {sf : ByteArray} {rf : Int} (hw : Region.wanted o (yielded ops a.tmps) = true) (ho : o.op = .binOp .neq 26 x y 26) (hx : a.eval x = .agg #[.int .u8 n, .int .u8 kd, .float .f64 xd, .string sd, .int .i64 rd, .int .u8 ke, .float .f64 xe, .string se, .int .i64 re, .int .u8 kf, .float .f64 xf, .string sf, .int .i64 rf, .bool p, .bool q, .bool z]) (hy : a.eval y = .agg #[.int .u8 h, .int .u8 0, .float .f64 0, .string ⟨#[]⟩, .int .i64 0, .int .u8 0, .float .f64 0, .string ⟨#[]⟩, .int .i64 0, .int .u8 0, .float .f64 0, .string ⟨#[]⟩, .int .i64 0, .bool false, .bool false, .bool false])
    (h : wpList Try.prog ops Q rest (a.put o.dst (.bool (!zD n h (zV kd xd sd rd) (zV ke xe se re) (zV kf xf sf rf) p q z))) w) : wpList Try.prog ops Q (o :: rest) a w :=
  wpList_wanted hw fun K hK => by
    unfold Oper.wp
    rw [ex_neq ho hx hy]
    exact hK _ _ h
end
end Go.Proofs.Ytlgbnfcnimjheaa.S
