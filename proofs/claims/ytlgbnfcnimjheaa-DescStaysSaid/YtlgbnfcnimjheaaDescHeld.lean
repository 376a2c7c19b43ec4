/-
  Regions that draw, with loads of whole descriptors and a comparison of two: laws of one operation under what the world holds.
-/
import Derived.Test.YtlgbnfcnimjheaaDescEq
import Derived.Deep.RegionHeld3
import Derived.Deep.CutRange
namespace Go.Proofs.Ytlgbnfcnimjheaa.S
open Go.RowKit Fl

theorem hput_some (xs : List Value) (d : List Deferred) (i : Nat) (v : Value) : Act.put ⟨xs.toArray, d⟩ (some i) v = ⟨(xs.set i v).toArray, d⟩ := by simp [Act.put]
theorem hH_take {P : Program} {ops : Array Oper} {Q : Exit → Act → World → Prop} {md : Region.Mode} {S : World → Prop} {i d : Nat} {oi : Oper} {v : Value} {fuel : Nat} {listed l2 : Array Bool} {xs : List Value} {ds : List Deferred} {w : World} (hi : ops[i]? = some oi)
    (hs : Region.noSelect ops = true) (hf : Region.free md ops listed i = true) (hr : (Region.ready md ops listed).contains i = true)
    (hQ : ∀ c a w, Q (.panic c) (a.put oi.dst v) w → Q (.panic c) a w) (hw : Region.wanted oi (yielded ops (Act.mk xs.toArray ds).tmps) = true) (hv : ∀ w, S w → (execOp (Act.mk xs.toArray ds).eval oi).run P w = .ok (.value v) w) (hS : S w) (hd : oi.dst = some d) (hl : listed.setIfInBounds i true = l2)
    (h : wpAnyH P md ops Q S fuel l2 ⟨(xs.set d v).toArray, ds⟩ w) : wpAnyH P md ops Q S (fuel + 1) listed ⟨xs.toArray, ds⟩ w :=
  wpAnyH_take hi hs hf hr hQ (Or.inl ⟨hw, hv⟩) hS (by rw [hd, hput_some, hl]; exact h)
theorem hH_skip {P : Program} {ops : Array Oper} {Q : Exit → Act → World → Prop} {md : Region.Mode} {S : World → Prop} {i : Nat} {oi : Oper} {fuel : Nat} {listed l2 : Array Bool} {a : Act} {w : World} (hi : ops[i]? = some oi)
    (hs : Region.noSelect ops = true) (hf : Region.free md ops listed i = true) (hr : (Region.ready md ops listed).contains i = true)
    (hQ : ∀ c a w, Q (.panic c) (a.put oi.dst undef) w → Q (.panic c) a w) (hw : Region.wanted oi (yielded ops a.tmps) = false) (he : a.put oi.dst undef = a) (hl : listed.setIfInBounds i true = l2) (hS : S w)
    (h : wpAnyH P md ops Q S fuel l2 a w) : wpAnyH P md ops Q S (fuel + 1) listed a w :=
  wpAnyH_take hi hs hf hr hQ (Or.inr ⟨hw, rfl⟩) hS (by rw [he, hl]; exact h)
theorem hH_drop {P : Program} {ops : Array Oper} {Q : Exit → Act → World → Prop} {md : Region.Mode} {S : World → Prop} {i d : Nat} {oi : Oper} {fuel : Nat} {listed l2 : Array Bool} {xs : List Value} {ds : List Deferred} {w : World} (hi : ops[i]? = some oi)
    (hs : Region.noSelect ops = true) (hf : Region.free md ops listed i = true) (hr : (Region.ready md ops listed).contains i = true)
    (hQ : ∀ c a w, Q (.panic c) (a.put oi.dst undef) w → Q (.panic c) a w) (hw : Region.wanted oi (yielded ops (Act.mk xs.toArray ds).tmps) = false) (hS : S w) (hd : oi.dst = some d) (hl : listed.setIfInBounds i true = l2)
    (h : wpAnyH P md ops Q S fuel l2 ⟨(xs.set d undef).toArray, ds⟩ w) : wpAnyH P md ops Q S (fuel + 1) listed ⟨xs.toArray, ds⟩ w :=
  wpAnyH_take hi hs hf hr hQ (Or.inr ⟨hw, rfl⟩) hS (by rw [hd, hput_some, hl]; exact h)
section
variable {a : Act} {o : Oper} {w : World} {x y : Operand} {g : Nat} {t : TypeId} {c0 c1 c2 c3 c4 c5 c6 c7 c8 c9 c10 c11 c12 c13 c14 c15 : Value}
theorem ex_load (ho : o.op = .load 26 x) (hx : a.eval x = .pointer (some ⟨g, 0, none⟩)) (hg : w.heap[g]? = some (.cells #[c0, c1, c2, c3, c4, c5, c6, c7, c8, c9, c10, c11, c12, c13, c14, c15] t (0, 0))) :
    (execOp a.eval o).run Try.prog w = .ok (.value (.agg #[c0, c1, c2, c3, c4, c5, c6, c7, c8, c9, c10, c11, c12, c13, c14, c15])) w := by
  unfold execOp
  simp only [ho, hx, Instr.loadAt, Instr.sureAddr, Sem.run_bind, Sem.run_pure, Result.andThen_ok, run_loadVar_row (P := Try.prog) w g t 26 _ (0, 0) _ hg Try.underlying26 rfl dsz]
theorem ex_neq {n h : Int} {p q z : Bool} {kd : Int} {xd : Nat} {sd : ByteArray} {rd : Int} {ke : Int} {xe : Nat} {se : ByteArray} {re : Int} {kf : Int} {xf : Nat} {sf : ByteArray} {rf : Int} (ho : o.op = .binOp .neq 26 x y 26) (hx : a.eval x = .agg #[.int .u8 n, .int .u8 kd, .float .f64 xd, .string sd, .int .i64 rd, .int .u8 ke, .float .f64 xe, .string se, .int .i64 re, .int .u8 kf, .float .f64 xf, .string sf, .int .i64 rf, .bool p, .bool q, .bool z]) (hy : a.eval y = .agg #[.int .u8 h, .int .u8 0, .float .f64 0, .string ⟨#[]⟩, .int .i64 0, .int .u8 0, .float .f64 0, .string ⟨#[]⟩, .int .i64 0, .int .u8 0, .float .f64 0, .string ⟨#[]⟩, .int .i64 0, .bool false, .bool false, .bool false]) :
    (execOp a.eval o).run Try.prog w = .ok (.value (.bool (!zD n h (zV kd xd sd rd) (zV ke xe se re) (zV kf xf sf rf) p q z))) w := by
  have he := eq_desc 9997 n h kd xd sd rd ke xe se re kf xf sf rf p q z w
  unfold execOp
  simp only [ho, hx, hy, Sem.run_bind, Sem.run_pure, run_eqGuard_agg w _ _ _ _ _ _ (show Try.prog.eqGuardType Try.prog.depth 26 = false by kernel_rfl), run_neq_struct, he, Result.andThen_ok]
end
end Go.Proofs.Ytlgbnfcnimjheaa.S
