/-
  heap.New.
-/
import Derived.Test.YtkcikdggfbjedaaGreatDoorOD21
namespace Go.Proofs.YtkcikdggfbjedaaGreatDoor.S
open Go.RowKit Go.Lib Fl
open Classical

theorem Tw.mono {n0 n1 B : Nat} {H M : List Ob} {W : World} (h : Tw n0 B H M W) (hn : n1 ≤ n0) : Tw n1 B H M W := ⟨h.len, h.all, h.b, Nat.le_trans hn h.le⟩
/-- New's error -/
noncomputable def newE (H : List Ob) (o : Ob) : Int := bif !mayH H then 9 else bif decide (H.length = 4096) then 4 else bif mayB (H ++ [o]) o H.length && !loopsB (H ++ [o]) then 0 else 9
def NewTo (H : List Ob) (o : Ob) (w : World) (e : Ending) (w' : World) : Prop := Below w.heap.size w w' ∧ ((newE H o ≠ 0 ∧ e = .returned (.tuple #[.agg #[.slice none 0 0], .int .i64 0, .int .i64 (newE H o)])) ∨
  (newE H o = 0 ∧ ∃ B M, e = .returned (.tuple #[.agg #[.slice (some ⟨B, 0, none⟩) (H.length + 1) (H.length + 1)], .int .i64 H.length, .int .i64 0]) ∧ Tw w.heap.size B (H ++ [o]) M w'))
/-- New's own blocks -/
structure Nw (w : World) (A : Option Addr) (n cap : Nat) (o : Ob) (W : World) : Prop where
  below : Below w.heap.size w W
  h : W.heap[w.heap.size]? = some (.cells #[.slice A n cap] 24 (0, 0))
  o : W.heap[w.heap.size + 1]? = some (.cells (obA o) 64 (0, 0))
  r : W.heap[w.heap.size + 1 + 1]? = some (.cells #[.slice none 0 0] 24 (0, 0))
theorem Nw.up {w : World} {A : Option Addr} {n cap : Nat} {o : Ob} {W W' : World} (h : Nw w A n cap o W) (hb : Below W.heap.size W W') : Nw w A n cap o W' := ⟨vb h.below hb, vblkn hb h.h, vblkn hb h.o, vblkn hb h.r⟩
theorem Nw.q {w : World} {A : Option Addr} {n cap : Nat} {o : Ob} {W : World} (h : Nw w A n cap o W) : W.cell? ⟨w.heap.size, 0, none⟩ = some (.slice A n cap) := (vcells h.h 0).trans rfl
end Go.Proofs.YtkcikdggfbjedaaGreatDoor.S
/-
  TableNames: slices built of properties, properties built of parts.
-/
namespace Go.Proofs.YtkcikdggfbjedaaGreatDoor.S
open Go.RowKit Go.Lib Fl
open Classical

section
variable {ops : Array Oper} {rest : List Oper} {o : Oper} {a : Act} {w : World} {Q : Exit → Act → World → Prop}
theorem w_run {v : Value} {w2 : World} (hw : Region.wanted o (yielded ops a.tmps) = true) (hr : (execOp a.eval o).run Tryz.prog w = .ok (.value v) w2) (h : wpList Tryz.prog ops Q rest (a.put o.dst v) w2) : wpList Tryz.prog ops Q (o :: rest) a w :=
  wpList_wanted hw fun K hK => by
    unfold Oper.wp
    rw [hr]
    exact hK _ _ h
end
end Go.Proofs.YtkcikdggfbjedaaGreatDoor.S
/-
  The heap of the chapter, and a proxy of its two objects: what may be.
-/
namespace Go.Proofs.YtkcikdggfbjedaaGreatDoor.S
open Go.RowKit Go.Lib Fl
open Classical

def p7 : Pq := pN (⟨#[97]⟩ : ByteArray) 0 4619567317775286272
theorem n7_ok : (⟨3, 4619567317775286272, ⟨#[]⟩, 0⟩ : Vq).Ok := ⟨.num 4619567317775286272, ⟨.ours 7, ⟨by decide, by unfold SafeN; omega⟩, rfl⟩, rfl, rfl, rfl, rfl⟩
theorem p7_in : p7.In := pN_in (by decide) (by decide) n7_ok
theorem p7_ok : p7.Ok := pN_ok (by decide) (by decide) (fun h => absurd h (by decide)) n7_ok
def vN : Vq := ⟨1, 0, ⟨#[]⟩, 0⟩
def vT (r : Int) : Vq := ⟨6, 0, ⟨#[]⟩, r⟩
theorem vN_ok : vN.Ok := ⟨.nul, trivial, rfl, rfl, rfl, rfl⟩
theorem vT_ok {r : Int} (h0 : 0 ≤ r) (h1 : r < 100) : (vT r).Ok := ⟨.obj 6 r, by simp [Vl.ok]; omega, rfl, rfl, rfl, rfl⟩
def oA (a : Option Addr) : Ob := ⟨1, vN, true, a, 1, [p7], v0, v0, ⟨#[]⟩, false, false⟩
def oB : Ob := ⟨1, vT 0, true, none, 0, [], v0, v0, ⟨#[]⟩, false, false⟩
def oP (t h : Int) : Ob := ⟨6, vN, false, none, 0, [], vT t, vT h, ⟨#[]⟩, false, false⟩
def H2 (a : Option Addr) : List Ob := [oA a, oB]
theorem ok_may {v : Vq} (h : v.Ok) : v.may = true := mayI_iff.2 h
theorem tab1 : TabOk [p7] := ⟨by decide, fun p hp => by obtain rfl := List.mem_singleton.1 hp; exact p7_ok, List.pairwise_singleton _ _⟩
theorem hold_n {H : List Ob} {v : Vq} (h : v.Ok) (ho : objQ v = false) : holdsB H v = true := by unfold holdsB; rw [ok_may h, ho]; rfl
theorem hold_t {H : List Ob} {r : Int} (h : (vT r).Ok) (hr : refB H (vT r) = true) : holdsB H (vT r) = true := by unfold holdsB; rw [ok_may h, hr]; rfl
theorem may_A (a b : Option Addr) (G : List Ob) : mayB (H2 b ++ G) (oA a) 0 = true := by
  unfold mayB
  have h1 : chkT (oA a).props = 0 := chkT_ok.2 tab1
  have h2 : (valsO (oA a)).all (holdsB (H2 b ++ G)) = true := by
    rw [List.all_eq_true]
    intro v hv
    have : v = vN ∨ v = v0 ∨ v = (⟨3, 4619567317775286272, ⟨#[]⟩, 0⟩ : Vq) := by
      simp [valsO, oA, p7, pN, dN] at hv
      rcases hv with h | h | h | h <;> simp [h]
    rcases this with rfl | rfl | rfl
    · exact hold_n vN_ok rfl
    · exact hold_n v0_ok rfl
    · exact hold_n n7_ok rfl
  have h3 : fitsB (H2 b ++ G) (oA a) 0 = true := by kernel_rfl
  rw [h1, h2, h3]; rfl
theorem may_B (b : Option Addr) (G : List Ob) : mayB (H2 b ++ G) oB 1 = true := by
  unfold mayB
  have h1 : chkT oB.props = 0 := chkT_ok.2 ⟨by decide, (fun _ h => by cases h), List.Pairwise.nil⟩
  have h2 : (valsO oB).all (holdsB (H2 b ++ G)) = true := by
    rw [List.all_eq_true]
    intro v hv
    have : v = vT 0 ∨ v = v0 := by
      simp [valsO, oB] at hv
      exact hv
    rcases this with rfl | rfl
    · exact hold_t (vT_ok (by decide) (by decide)) rfl
    · exact hold_n v0_ok rfl
  have h3 : fitsB (H2 b ++ G) oB 1 = true := by kernel_rfl
  rw [h1, h2, h3]; rfl
theorem may_P (b : Option Addr) : mayB (H2 b ++ [oP 0 1]) (oP 0 1) 2 = true := by
  unfold mayB
  have h1 : chkT (oP 0 1).props = 0 := chkT_ok.2 ⟨by decide, (fun _ h => by cases h), List.Pairwise.nil⟩
  have h2 : (valsO (oP 0 1)).all (holdsB (H2 b ++ [oP 0 1])) = true := by
    rw [List.all_eq_true]
    intro v hv
    have : v = vN ∨ v = vT 0 ∨ v = vT 1 := by
      simp [valsO, oP] at hv
      exact hv
    rcases this with rfl | rfl | rfl
    · exact hold_n vN_ok rfl
    · exact hold_t (vT_ok (by decide) (by decide)) rfl
    · exact hold_t (vT_ok (by decide) (by decide)) rfl
  have h3 : fitsB (H2 b ++ [oP 0 1]) (oP 0 1) 2 = true := by kernel_rfl
  rw [h1, h2, h3]; rfl
theorem loops2 (b : Option Addr) : loopsB (H2 b) = false := by kernel_rfl
theorem loops3 (b : Option Addr) : loopsB (H2 b ++ [oP 0 1]) = false := by kernel_rfl
theorem may2 (b : Option Addr) : mayH (H2 b) = true := mayH_iff.2 ⟨(by show 2 ≤ 4096; decide), fun i hi => by
  have e := List.append_nil (H2 b)
  match i, hi with
  | 0, _ => have := may_A b b []; rw [e] at this; exact this
  | 1, _ => have := may_B b []; rw [e] at this; exact this
  | n + 2, h => exact absurd h (by simp [H2]), loops2 b⟩
theorem new2 (b : Option Addr) : newE (H2 b) (oP 0 1) = 0 := by
  unfold newE
  rw [may2, show decide ((H2 b).length = 4096) = false from rfl, show (H2 b).length = 2 from rfl, may_P, loops3]; rfl
theorem oA_in (g : Nat) : (oA (some ⟨g, 0, none⟩)).In := ⟨(by show (0 : Int) ≤ 1; decide), (by show (1 : Int) < 256; decide), ok_in2 vN_ok, ok_in2 v0_ok, ok_in2 v0_ok, (by show 0 ≤ maxLen; unfold maxLen; omega), (fun p hp => by obtain rfl := List.mem_singleton.1 hp; exact p7_in), (by show 1 ≤ 1; decide), (by show 1 < 9223372036854775808; decide), fun h => by cases h⟩
theorem oB_in : oB.In := ⟨(by show (0 : Int) ≤ 1; decide), (by show (1 : Int) < 256; decide), ok_in2 (vT_ok (by decide) (by decide)), ok_in2 v0_ok, ok_in2 v0_ok, (by show 0 ≤ maxLen; unfold maxLen; omega), (fun p hp => by cases hp), Nat.le_refl _, (by show 0 < 9223372036854775808; decide), fun _ => rfl⟩
theorem oP_in : (oP 0 1).In := ⟨(by show (0 : Int) ≤ 6; decide), (by show (6 : Int) < 256; decide), ok_in2 vN_ok, ok_in2 (vT_ok (by decide) (by decide)), ok_in2 (vT_ok (by decide) (by decide)), (by show 0 ≤ maxLen; unfold maxLen; omega), (fun p hp => by cases hp), Nat.le_refl _, (by show 0 < 9223372036854775808; decide), fun _ => rfl⟩
end Go.Proofs.YtkcikdggfbjedaaGreatDoor.S
/-
  The law's own: null, proxied; what is built of parts.
-/
namespace Go.Proofs.YtkcikdggfbjedaaGreatDoor.S
open Go.RowKit Go.Lib Fl
open Classical

set_option maxRecDepth 100000 in
theorem rb_n (w : World) : (Instr.build 48 #[(0, .int .u8 1)]).run Tryz.prog w = .ok vN.val w := by kernel_rfl
set_option maxRecDepth 100000 in
theorem rb_t0 (w : World) : (Instr.build 48 #[(0, .int .u8 6)]).run Tryz.prog w = .ok (vT 0).val w := by kernel_rfl
set_option maxRecDepth 100000 in
theorem rb_t (r : Int) (w : World) : (Instr.build 48 #[(0, .int .u8 6), (3, .int .i64 r)]).run Tryz.prog w = .ok (vT r).val w := by kernel_rfl
set_option maxRecDepth 100000 in
theorem rb_7 (w : World) : (Instr.build 48 #[(0, .int .u8 3), (1, .float .f64 4619567317775286272)]).run Tryz.prog w = .ok (Vq.val ⟨3, 4619567317775286272, ⟨#[]⟩, 0⟩) w := by kernel_rfl
set_option maxRecDepth 100000 in
theorem rb_d (w : World) : (Instr.build 50 #[(0, .int .u8 51), (1, Vq.val ⟨3, 4619567317775286272, ⟨#[]⟩, 0⟩), (4, .bool true), (5, .bool true), (6, .bool true)]).run Tryz.prog w = .ok (.agg p7.d.cells) w := by kernel_rfl
set_option maxRecDepth 100000 in
theorem rb_k (w : World) : (Instr.build 45 #[(0, .string (⟨#[97]⟩ : ByteArray))]).run Tryz.prog w = .ok (.agg #[.string p7.k.str, .int .i64 p7.k.sym]) w := by kernel_rfl
set_option maxRecDepth 100000 in
theorem rb_a (a : Option Addr) (w : World) : (Instr.build 64 #[(0, .int .u8 1), (1, vN.val), (2, .bool true), (3, .slice a 1 1)]).run Tryz.prog w = .ok (.agg (obA (oA a))) w := by kernel_rfl
set_option maxRecDepth 100000 in
theorem rb_b (w : World) : (Instr.build 64 #[(0, .int .u8 1), (1, (vT 0).val), (2, .bool true)]).run Tryz.prog w = .ok (.agg (obA oB)) w := by kernel_rfl
set_option maxRecDepth 100000 in
theorem rb_p (t h : Int) (w : World) : (Instr.build 64 #[(0, .int .u8 6), (1, vN.val), (4, (vT t).val), (5, (vT h).val)]).run Tryz.prog w = .ok (.agg (obA (oP t h))) w := by kernel_rfl
set_option maxRecDepth 100000 in
theorem rb_s (a : Option Addr) (w : World) : (Instr.buildSlice 22 2 #[(0, .agg (obA (oA a))), (1, .agg (obA oB))]).run Tryz.prog w = .ok (.slice (some ⟨w.heap.size, 0, none⟩) 2 2) (w.alloc (.cells (hcl (H2 a)).toArray 64)) := by kernel_rfl
set_option maxRecDepth 100000 in
theorem rb_s7 (w : World) : (Instr.buildSlice 62 1 #[(0, .agg (prA p7))]).run Tryz.prog w = .ok (.slice (some ⟨w.heap.size, 0, none⟩) 1 1) (w.alloc (.cells (prCells [p7]).toArray 109)) := by kernel_rfl
set_option maxRecDepth 100000 in
theorem rb_h (v : Option Addr) (w : World) : (Instr.build 24 #[(0, .slice v 2 2)]).run Tryz.prog w = .ok (.agg #[.slice v 2 2]) w := by kernel_rfl
section
variable {ops : Array Oper} {rest : List Oper} {o : Oper} {a : Act} {w : World} {Q : Exit → Act → World → Prop} {x y z : Operand}
theorem eb_n (ho : o.op = .build 48 #[(0, .const (.int .u8 1))]) : (execOp a.eval o).run Tryz.prog w = .ok (.value vN.val) w := by
  unfold execOp
  simp only [ho, List.map_toArray, List.map_cons, List.map_nil, Act.eval, rb_n, Sem.run_bind, Sem.run_pure, Result.andThen_ok]
theorem eb_t0 (ho : o.op = .build 48 #[(0, .const (.int .u8 6))]) : (execOp a.eval o).run Tryz.prog w = .ok (.value (vT 0).val) w := by
  unfold execOp
  simp only [ho, List.map_toArray, List.map_cons, List.map_nil, Act.eval, rb_t0, Sem.run_bind, Sem.run_pure, Result.andThen_ok]
theorem eb_t {r : Int} (ho : o.op = .build 48 #[(0, .const (.int .u8 6)), (3, x)]) (hx : a.eval x = .int .i64 r) : (execOp a.eval o).run Tryz.prog w = .ok (.value (vT r).val) w := by
  unfold execOp
  have hc : ∀ v, a.eval (.const v) = v := fun _ => rfl
  simp only [ho, List.map_toArray, List.map_cons, List.map_nil, hc, hx, rb_t, Sem.run_bind, Sem.run_pure, Result.andThen_ok]
theorem eb_7 (ho : o.op = .build 48 #[(0, .const (.int .u8 3)), (1, .const (.float .f64 4619567317775286272))]) : (execOp a.eval o).run Tryz.prog w = .ok (.value (Vq.val ⟨3, 4619567317775286272, ⟨#[]⟩, 0⟩)) w := by
  unfold execOp
  simp only [ho, List.map_toArray, List.map_cons, List.map_nil, Act.eval, rb_7, Sem.run_bind, Sem.run_pure, Result.andThen_ok]
theorem eb_d (ho : o.op = .build 50 #[(0, .const (.int .u8 51)), (1, x), (4, .const (.bool true)), (5, .const (.bool true)), (6, .const (.bool true))]) (hx : a.eval x = Vq.val ⟨3, 4619567317775286272, ⟨#[]⟩, 0⟩) : (execOp a.eval o).run Tryz.prog w = .ok (.value (.agg p7.d.cells)) w := by
  unfold execOp
  have hc : ∀ v, a.eval (.const v) = v := fun _ => rfl
  simp only [ho, List.map_toArray, List.map_cons, List.map_nil, hc, hx, rb_d, Sem.run_bind, Sem.run_pure, Result.andThen_ok]
theorem eb_k (ho : o.op = .build 45 #[(0, .const (.string (⟨#[97]⟩ : ByteArray)))]) : (execOp a.eval o).run Tryz.prog w = .ok (.value (.agg #[.string p7.k.str, .int .i64 p7.k.sym])) w := by
  unfold execOp
  simp only [ho, List.map_toArray, List.map_cons, List.map_nil, Act.eval, rb_k, Sem.run_bind, Sem.run_pure, Result.andThen_ok]
theorem eb_a {A : Option Addr} (ho : o.op = .build 64 #[(0, .const (.int .u8 1)), (1, x), (2, .const (.bool true)), (3, y)]) (hx : a.eval x = vN.val) (hy : a.eval y = .slice A 1 1) : (execOp a.eval o).run Tryz.prog w = .ok (.value (.agg (obA (oA A)))) w := by
  unfold execOp
  have hc : ∀ v, a.eval (.const v) = v := fun _ => rfl
  simp only [ho, List.map_toArray, List.map_cons, List.map_nil, hc, hx, hy, rb_a, Sem.run_bind, Sem.run_pure, Result.andThen_ok]
theorem eb_b (ho : o.op = .build 64 #[(0, .const (.int .u8 1)), (1, x), (2, .const (.bool true))]) (hx : a.eval x = (vT 0).val) : (execOp a.eval o).run Tryz.prog w = .ok (.value (.agg (obA oB))) w := by
  unfold execOp
  have hc : ∀ v, a.eval (.const v) = v := fun _ => rfl
  simp only [ho, List.map_toArray, List.map_cons, List.map_nil, hc, hx, rb_b, Sem.run_bind, Sem.run_pure, Result.andThen_ok]
theorem eb_p {t h : Int} (ho : o.op = .build 64 #[(0, .const (.int .u8 6)), (1, x), (4, y), (5, z)]) (hx : a.eval x = vN.val) (hy : a.eval y = (vT t).val) (hz : a.eval z = (vT h).val) : (execOp a.eval o).run Tryz.prog w = .ok (.value (.agg (obA (oP t h)))) w := by
  unfold execOp
  have hc : ∀ v, a.eval (.const v) = v := fun _ => rfl
  simp only [ho, List.map_toArray, List.map_cons, List.map_nil, hc, hx, hy, hz, rb_p, Sem.run_bind, Sem.run_pure, Result.andThen_ok]
theorem eb_s {A : Option Addr} (ho : o.op = .buildSlice 22 2 #[(0, x), (1, y)]) (hx : a.eval x = .agg (obA (oA A))) (hy : a.eval y = .agg (obA oB)) : (execOp a.eval o).run Tryz.prog w = .ok (.value (.slice (some ⟨w.heap.size, 0, none⟩) 2 2)) (w.alloc (.cells (hcl (H2 A)).toArray 64)) := by
  unfold execOp
  simp only [ho, List.map_toArray, List.map_cons, List.map_nil, hx, hy, rb_s, Sem.run_bind, Sem.run_pure, Result.andThen_ok]
theorem eb_h {v : Option Addr} (ho : o.op = .build 24 #[(0, x)]) (hx : a.eval x = .slice v 2 2) : (execOp a.eval o).run Tryz.prog w = .ok (.value (.agg #[.slice v 2 2])) w := by
  unfold execOp
  simp only [ho, List.map_toArray, List.map_cons, List.map_nil, hx, rb_h, Sem.run_bind, Sem.run_pure, Result.andThen_ok]
end
theorem vN_one : (#[.int .u8 vN.k, .float .f64 vN.x, .string vN.s, .int .i64 vN.r] : Array Value).all (·.oneCell') = true := cells_one (l := [.int .u8 vN.k, .float .f64 vN.x, .string vN.s, .int .i64 vN.r]) rfl
theorem o_end {f : Func} {i : Nat} {t : TypeId} {Q : Ending → World → Prop} {tmps : Array Value} {W : World} {g : Nat} {p : Ob} (hf : f.results = #[.cell i 64]) (h2 : tmps.getD i undef = .pointer (some ⟨g, 0, none⟩)) (hb : W.heap[g]? = some (.cells (obA p) t (0, 0)))
    (hQ : Q (.returned (.agg (obA p))) W) : bodyPost Tryz.prog f Q .ret { tmps := tmps, defers := [] } W :=
  bodyPost_ret (results_cell_row hf tmps W g t _ (0, 0) _ h2 hb Tryz.underlying64 rfl osz) rfl hQ
end Go.Proofs.YtkcikdggfbjedaaGreatDoor.S
/-
  The law's own: two.
-/
namespace Go.Proofs.YtkcikdggfbjedaaGreatDoor.S
open Go.RowKit Go.Lib Fl
open Classical

theorem wpAnyH_strong {P : Program} {md : Region.Mode} {ops : Array Oper} {Q : Exit → Act → World → Prop} {S S' : World → Prop} (h : ∀ w, S' w → S w) : ∀ (fuel : Nat) (listed : Array Bool) (a : Act) (w : World), wpAnyH P md ops Q S' fuel listed a w → wpAnyH P md ops Q S fuel listed a w
  | 0, _, _, _, g => g
  | fuel + 1, _, _, _, g => ⟨g.1, fun i hi => wpOp_mono (fun a' w' h' => ⟨h _ h'.1, wpAnyH_strong h fuel _ a' w' h'.2⟩) (g.2 i hi)⟩
section
variable {ops : Array Oper} {o : Oper} {w w2 : World} {Q : Exit → Act → World → Prop} {K : Act → World → Prop} {x y : Operand} {xs : List Value} {ds : List Deferred} {d g : Nat} {v : Value} {t ty : TypeId} {cs old : Array Value}
theorem r_val (hw : Region.wanted o (yielded ops (Act.mk xs.toArray ds).tmps) = true) (hr : (execOp (Act.mk xs.toArray ds).eval o).run Tryz.prog w = .ok (.value v) w2) (hd : o.dst = some d) (h : K ⟨(xs.set d v).toArray, ds⟩ w2) :
    if Region.wanted o (yielded ops (Act.mk xs.toArray ds).tmps) = true then Oper.wp Tryz.prog o ⟨xs.toArray, ds⟩ w K Q else K ((Act.mk xs.toArray ds).put o.dst undef) w := by
  rw [if_pos hw]
  unfold Oper.wp
  rw [hr]
  show K ((Act.mk xs.toArray ds).put o.dst v) w2
  rw [hd, hput_some]
  exact h
theorem r_store (hw : Region.wanted o (yielded ops (Act.mk xs.toArray ds).tmps) = true) (ho : o.op = .store ty x y) (hx : (Act.mk xs.toArray ds).eval x = .pointer (some ⟨g, 0, none⟩)) (hy : (Act.mk xs.toArray ds).eval y = .agg cs) (hg : w.heap[g]? = some (.cells old t (0, 0)))
    (hi : (Tryz.prog.info? ty).map (·.size) = some cs.size) (hold : old.size = cs.size) (h1 : cs.all (·.oneCell') = true) (hd : o.dst = none) (h : K ⟨xs.toArray, ds⟩ (w.setRow g cs)) :
    if Region.wanted o (yielded ops (Act.mk xs.toArray ds).tmps) = true then Oper.wp Tryz.prog o ⟨xs.toArray, ds⟩ w K Q else K ((Act.mk xs.toArray ds).put o.dst undef) w := by
  rw [if_pos hw]
  refine wp_store_row ty x y ho g cs hx hy t old hg hi hold h1 ?_
  rw [hd]
  exact h
end
/-- two's own blocks -/
structure Ts (w : World) (W : World) : Prop where
  b : ∃ v, W.heap[w.heap.size]? = some (.cells #[v] 24 (0, 0))
  d : W.heap[w.heap.size + 1]? = some (.cells p7.d.cells 50 (0, 0))
  below : Below w.heap.size w W
theorem Ts.up {w W W' : World} (h : Ts w W) (hb : Below W.heap.size W W') : Ts w W' := ⟨h.b.imp fun _ g => vblkn hb g, vblkn hb h.d, vb h.below hb⟩
structure Tp (w : World) (g : Nat) (W : World) : Prop where
  ts : Ts w W
  p : W.heap[g]? = some (.cells (prCells [p7]).toArray 109 (0, 0))
  le : w.heap.size + 2 ≤ g
theorem Tp.up {w W W' : World} {g : Nat} (h : Tp w g W) (hb : Below W.heap.size W W') : Tp w g W' := ⟨h.ts.up hb, vblkn hb h.p, h.le⟩
theorem Ts.size {w W : World} (h : Ts w W) : w.heap.size + 2 ≤ W.heap.size := lt_blk h.d
theorem Tp.set {w W : World} {g : Nat} (h : Tp w g W) (v : Value) : Tp w g (W.setRow w.heap.size #[v]) :=
  ⟨⟨⟨v, setRow_heap _ _ _ _ _ _ h.ts.b.choose_spec⟩, (setRow_other W _ _ _ (by omega)).trans h.ts.d, below_row h.ts.below (Nat.le_refl _) _⟩, (setRow_other W _ _ _ (by have := h.le; omega)).trans h.p, h.le⟩
def TwoTo (w : World) (e : Ending) (w' : World) : Prop := ∃ B g, e = .returned (.agg #[.slice (some ⟨B, 0, none⟩) 2 2]) ∧ w'.heap[B]? = some (.cells (hcl (H2 (some ⟨g, 0, none⟩))).toArray 64 (0, 0)) ∧ w'.heap[g]? = some (.cells (prCells [p7]).toArray 109 (0, 0)) ∧ Below w.heap.size w w'
end Go.Proofs.YtkcikdggfbjedaaGreatDoor.S
/-
  The law's own: alive.
-/
namespace Go.Proofs.YtkcikdggfbjedaaGreatDoor.S
open Go.RowKit Go.Lib Fl
open Classical

structure TwoAt (B g : Nat) (W : World) : Prop where
  b : W.heap[B]? = some (.cells (hcl (H2 (some ⟨g, 0, none⟩))).toArray 64 (0, 0))
  p : W.heap[g]? = some (.cells (prCells [p7]).toArray 109 (0, 0))
theorem TwoAt.up {B g : Nat} {W W' : World} (h : TwoAt B g W) (hb : Below W.heap.size W W') : TwoAt B g W' := ⟨vblkn hb h.b, vblkn hb h.p⟩
theorem TwoAt.inn {B g : Nat} {W : World} (h : TwoAt B g W) : HIn W (some ⟨B, 0, none⟩) (H2 (some ⟨g, 0, none⟩)) 2 := by
  refine ⟨fun o ho => ?_, fun _ => ⟨_, rfl, lt_blk h.b, fun i hi => ⟨?_, ?_⟩⟩, by show 2 ≤ 5000; decide, fun o ho => ?_, Nat.le_refl _, by decide, fun hc => by cases hc⟩
  · simp only [H2, List.mem_cons, List.not_mem_nil, or_false] at ho
    rcases ho with rfl | rfl
    · exact oA_in g
    · exact oB_in
  · refine of_cells (by rw [add_blk]; exact lt_blk h.b) fun j u hu => ?_
    have hj : j < 18 := by have := (List.getElem?_eq_some_iff.1 hu).1; rw [ocl_len] at this; exact this
    rw [add_add, Addr.add_mid, Nat.zero_add, vcells h.b (i * 18 + j), List.getElem?_toArray, hcl_at _ i hi j hj]
    exact hu
  · match i, hi with
    | 0, _ => exact pr_blk h.p
    | 1, _ => exact pr_nil
    | n + 2, h => exact absurd h (by simp [H2])
  · simp only [H2, List.mem_cons, List.not_mem_nil, or_false] at ho
    rcases ho with rfl | rfl
    · show 1 < 1000000000000; decide
    · show 0 < 1000000000000; decide
theorem two_few {a : Option Addr} : ∀ o ∈ H2 a, o.props.length ≤ 100000 := fun o ho => by
  simp only [H2, List.mem_cons, List.not_mem_nil, or_false] at ho
  rcases ho with rfl | rfl
  · show 1 ≤ 100000; decide
  · show 0 ≤ 100000; decide
end Go.Proofs.YtkcikdggfbjedaaGreatDoor.S
/-
  heap.Same: a heap's twin is the same.
-/
namespace Go.Proofs.YtkcikdggfbjedaaGreatDoor.S
open Go.RowKit Go.Lib Fl
open Classical

set_option maxRecDepth 100000 in
theorem hsame_refl (k : Int) (x : Nat) (s : ByteArray) (r : Int) (w : World) : Calls Tryz.prog 74 #[.agg #[.int .u8 k, .float .f64 x, .string s, .int .i64 r], .agg #[.int .u8 k, .float .f64 x, .string s, .int .i64 r]] w fun e w' => e = .returned (.bool true) ∧ Below w.heap.size w w' := by
  have kn := fun w => IsNaN_f x w
  have hB : ∀ o1 o2, Below w.heap.size w ((w.alloc o1).alloc o2) := fun o1 o2 => vafter (vzero _ _)
  cases hf : FloatKind.f64.format.order x x == some .eq
  · have hn : (FloatKind.f64.format.order x x != some .eq) = true := by rw [bne, hf]; rfl
    rw [hn] at kn
    go_enter Tryz.func74, Tryz.ntmps74
    go_wp2_with (go_at_call 98; refine (kn _).mono ?_; rintro e w' ⟨rfl, rfl⟩)
    go_ret
    exact ⟨rfl, hB _ _⟩
  · go_enter Tryz.func74, Tryz.ntmps74
    go_wp2_with (go_at_call 98; refine (kn _).mono ?_; rintro e w' ⟨rfl, rfl⟩)
    go_ret
    exact ⟨rfl, hB _ _⟩
end Go.Proofs.YtkcikdggfbjedaaGreatDoor.S
/-
  heap.sameProp: a property is the same as itself. Generated: gen_heapsame2.py.
-/
namespace Go.Proofs.YtkcikdggfbjedaaGreatDoor.S
open Go.RowKit Go.Lib Fl
open Classical

theorem pd2_load {W : World} {p : Pq} {g : Nat} (h : W.heap[g]? = some (.cells (prA p) 109 (0, 0))) : (Instr.loadAt 50 (.pointer (some ⟨g, 2, none⟩))).run Tryz.prog W = .ok (.agg p.d.cells) W :=
  run_loadAt_at (A := ⟨g, 2, none⟩) (cs := p.d.cells.toList) (fun j v hv => by
    rw [Addr.add_mid]
    refine pb_cells h (2 + j) v ?_
    rw [show 2 + j = j + 1 + 1 by omega]
    exact hv) Tryz.underlying50 rfl dsz
/-- the two boxes -/
structure Bz (w : World) (p : Pq) (W : World) : Prop where
  a : W.heap[w.heap.size]? = some (.cells (prA p) 109 (0, 0))
  b : W.heap[w.heap.size + 1]? = some (.cells (prA p) 109 (0, 0))
  below : Below w.heap.size w W
theorem Bz.up {w : World} {p : Pq} {W W' : World} (h : Bz w p W) (hb : Below W.heap.size W W') : Bz w p W' := ⟨vblkn hb h.a, vblkn hb h.b, vb h.below hb⟩
theorem Bz.size {w : World} {p : Pq} {W : World} (h : Bz w p W) : w.heap.size + 2 ≤ W.heap.size := lt_blk h.b
theorem Bz.set {w : World} {p : Pq} {W : World} (h : Bz w p W) {g : Nat} (hg : w.heap.size + 2 ≤ g) (cs : Array Value) : Bz w p (W.setRow g cs) :=
  ⟨(setRow_other W _ _ _ (by omega)).trans h.a, (setRow_other W _ _ _ (by omega)).trans h.b, below_row h.below (by omega) _⟩
section
variable {o : Oper} {a : Act} {w : World}
theorem ea_d (ho : o.op = .alloc 50) : (execOp a.eval o).run Tryz.prog w = .ok (.value (.pointer (some ⟨w.heap.size, 0, none⟩))) (w.alloc (.cells (dz 0).cells 50)) := by
  unfold execOp
  simp only [ho]
  kernel_rfl
end
/-- the two descriptors by value -/
structure Dd (w : World) (p : Pq) (g5 g6 : Nat) (W : World) : Prop where
  bx : Bz w p W
  x : W.heap[g5]? = some (.cells p.d.cells 50 (0, 0))
  y : W.heap[g6]? = some (.cells p.d.cells 50 (0, 0))
theorem Dd.up {w : World} {p : Pq} {g5 g6 : Nat} {W W' : World} (h : Dd w p g5 g6 W) (hb : Below W.heap.size W W') : Dd w p g5 g6 W' := ⟨h.bx.up hb, vblkn hb h.x, vblkn hb h.y⟩
theorem cells_d {W : World} {d : Dq} {g : Nat} (h : W.heap[g]? = some (.cells d.cells 50 (0, 0))) :
    W.cell? ⟨g, 0, none⟩ = some (.int .u8 d.h) ∧ VAt W ⟨g, 1, none⟩ d.a ∧ VAt W ⟨g, 5, none⟩ d.b ∧ VAt W ⟨g, 9, none⟩ d.c ∧ W.cell? ⟨g, 13, none⟩ = some (.bool d.p) ∧ W.cell? ⟨g, 14, none⟩ = some (.bool d.q) ∧ W.cell? ⟨g, 15, none⟩ = some (.bool d.z) :=
  ⟨vcells h 0, ⟨lt_blk h, vcells h 1, vcells h 2, vcells h 3, vcells h 4⟩, ⟨lt_blk h, vcells h 5, vcells h 6, vcells h 7, vcells h 8⟩, ⟨lt_blk h, vcells h 9, vcells h 10, vcells h 11, vcells h 12⟩, vcells h 13, vcells h 14, vcells h 15⟩
section
variable {ops : Array Oper} {rest : List Oper} {o : Oper} {a : Act} {w : World} {Q : Exit → Act → World → Prop} {x y : Operand}
theorem k_neq {k : Ky} (hw : Region.wanted o (yielded ops a.tmps) = true) (ho : o.op = .binOp .neq 45 x y 45) (hx : a.eval x = .agg #[.string k.str, .int .i64 k.sym]) (hy : a.eval y = .agg #[.string k.str, .int .i64 k.sym])
    (h : wpList Tryz.prog ops Q rest (a.put o.dst (.bool false)) w) : wpList Tryz.prog ops Q (o :: rest) a w :=
  wpList_wanted hw fun K hK => by
    have he := key_eq 9998 k.str k.str k.sym k.sym w
    have e1 : ((k.str == k.str) && (k.sym == k.sym)) = true := eqK_iff.2 (rfl : k = k)
    rw [e1] at he
    have hr : (execOp a.eval o).run Tryz.prog w = .ok (.value (.bool false)) w := by
      unfold execOp
      simp only [ho, hx, hy, Sem.run_bind, Sem.run_pure, run_eqGuard_agg w _ _ _ _ _ _ (show Tryz.prog.eqGuardType Tryz.prog.depth 45 = false by kernel_rfl), run_neq_struct, he, Result.andThen_ok]
      rfl
    unfold Oper.wp
    rw [hr]
    exact hK _ _ h
end
set_option maxHeartbeats 4000000 in
set_option maxRecDepth 100000 in
theorem sameprop_refl (p : Pq) (w : World) : Calls Tryz.prog 76 #[.agg (prA p), .agg (prA p)] w fun e w' => e = .returned (.bool true) ∧ Below w.heap.size w w' := by
  have cS := fun W (v : Vq) => hsame_refl v.k v.x v.s v.r W
  have hc1 : p.d.cells.all (·.oneCell') = true := cells_one (l := p.d.cells.toList) rfl
  have hi1 : (Tryz.prog.info? 50).map (·.size) = some p.d.cells.size := dsz
  have hS : Bz w p ((w.alloc (.cells (prA p) 109)).alloc (.cells (prA p) 109)).drew := ⟨(vblk2 (Below.refl _ _)).1, (vblk2 (Below.refl _ _)).2, (vafter (vzero _ _)).drew⟩
  go_enter Tryz.func76, Tryz.ntmps76
  go_upto_region 1 with (fail)
  go_cut [5, 6] from 7 (fun q r wx => ∃ g5 g6 : Nat, q = .pointer (some ⟨g5, 0, none⟩) ∧ r = .pointer (some ⟨g6, 0, none⟩) ∧ Hid (Dd w p g5 g6 wx))
  case first =>
    refine wp_region_held_drew (S := Bz w p) (by kernel_rfl) hS (fun hHeld => ?_)
    generalize ((w.alloc (.cells (prA p) 109)).alloc (.cells (prA p) 109)).drew = W0 at *
    refine hH_take (i := 0) (v := .pointer (some ⟨w.heap.size, 2, none⟩)) (d := 7) (l2 := #[true, false, false, false, false, false, false, false]) rfl (by kernel_rfl) (by kernel_rfl) (by kernel_rfl) (fun _ _ _ h => h) (by kernel_rfl) (fun w' hSw => by go_simp) (by assumption) rfl (by kernel_rfl) ?_
    simp only [List.set]
    refine hH_take (i := 1) (v := .agg p.d.cells) (d := 8) (l2 := #[true, true, false, false, false, false, false, false]) rfl (by kernel_rfl) (by kernel_rfl) (by kernel_rfl) (fun _ _ _ h => h) (by kernel_rfl) (fun w' hSw => ex_load_at (pd2_load hSw.a) rfl rfl) (by assumption) rfl (by kernel_rfl) ?_
    simp only [List.set]
    refine hH_take (i := 2) (v := .pointer (some ⟨w.heap.size + 1, 2, none⟩)) (d := 9) (l2 := #[true, true, true, false, false, false, false, false]) rfl (by kernel_rfl) (by kernel_rfl) (by kernel_rfl) (fun _ _ _ h => h) (by kernel_rfl) (fun w' hSw => by go_simp) (by assumption) rfl (by kernel_rfl) ?_
    simp only [List.set]
    refine hH_take (i := 3) (v := .agg p.d.cells) (d := 10) (l2 := #[true, true, true, true, false, false, false, false]) rfl (by kernel_rfl) (by kernel_rfl) (by kernel_rfl) (fun _ _ _ h => h) (by kernel_rfl) (fun w' hSw => ex_load_at (pd2_load hSw.b) rfl rfl) (by assumption) rfl (by kernel_rfl) ?_
    simp only [List.set]
    refine wpAnyH_ready (rs := [4, 5]) (by kernel_rfl) (by simp) ?_
    refine (AllReadyH.cons rfl (fun K hK => ?_) (AllReadyH.cons rfl (fun K hK => ?_) AllReadyH.nil))
    · skip
      refine r_val (by kernel_rfl) (ea_d rfl) rfl ?_
      simp only [List.set]
      have h5 := heap_alloc_new (W0) (.cells (dz 0).cells 50)
      have e5 := hS.size
      have hS := hS.up (vzero _ (.cells (dz 0).cells 50))
      refine hK.out _ _ hS (fun hHeld => ?_)
      clear hK K
      refine wpAnyH_ready (rs := [5]) (by kernel_rfl) (by simp) ?_
      refine (AllReadyH.cons rfl (fun K hK => ?_) AllReadyH.nil)
      refine r_val (by kernel_rfl) (ea_d rfl) rfl ?_
      simp only [List.set]
      have h6 := heap_alloc_new ((W0).alloc (.cells (dz 0).cells 50)) (.cells (dz 0).cells 50)
      have e6 := hS.size
      have hne := lt_blk h5
      have h5 := vblkn (vzero _ (.cells (dz 0).cells 50)) h5
      have hS := hS.up (vzero _ (.cells (dz 0).cells 50))
      refine hK.out _ _ hS (fun hHeld => ?_)
      clear hK K
      refine wpAnyH_ready (rs := [6]) (by kernel_rfl) (by simp) ?_
      refine (AllReadyH.cons rfl (fun K hK => ?_) AllReadyH.nil)
      refine r_store (by kernel_rfl) rfl rfl rfl h5 hi1 rfl hc1 rfl ?_
      have h6 := (setRow_other (((W0).alloc (.cells (dz 0).cells 50)).alloc (.cells (dz 0).cells 50)) ((W0).heap.size) _ p.d.cells (by omega)).trans h6
      have h5 : ((((W0).alloc (.cells (dz 0).cells 50)).alloc (.cells (dz 0).cells 50)).setRow ((W0).heap.size) p.d.cells).heap[(W0).heap.size]? = some (.cells p.d.cells 50 (0, 0)) := setRow_heap _ _ _ _ _ _ h5
      have hS := hS.set e5 p.d.cells
      refine hK.out _ _ hS (fun hHeld => ?_)
      clear hK K
      refine wpAnyH_ready (rs := [7]) (by kernel_rfl) (by simp) ?_
      refine (AllReadyH.cons rfl (fun K hK => ?_) AllReadyH.nil)
      refine r_store (by kernel_rfl) rfl rfl rfl h6 hi1 rfl hc1 rfl ?_
      have h5 := (setRow_other ((((W0).alloc (.cells (dz 0).cells 50)).alloc (.cells (dz 0).cells 50)).setRow ((W0).heap.size) p.d.cells) (((W0).alloc (.cells (dz 0).cells 50)).heap.size) _ p.d.cells (by omega)).trans h5
      have h6 : (((((W0).alloc (.cells (dz 0).cells 50)).alloc (.cells (dz 0).cells 50)).setRow ((W0).heap.size) p.d.cells).setRow (((W0).alloc (.cells (dz 0).cells 50)).heap.size) p.d.cells).heap[((W0).alloc (.cells (dz 0).cells 50)).heap.size]? = some (.cells p.d.cells 50 (0, 0)) := setRow_heap _ _ _ _ _ _ h6
      have hS := hS.set e6 p.d.cells
      refine hK.out _ _ hS (fun hHeld => ?_)
      clear hK K
      refine wpAnyH_done (by kernel_rfl) ?_ _
      go_wp2_with (fail)
      go_meet
      case rel => exact ⟨_, _, rfl, rfl, Lib.hid ⟨hS, h5, h6⟩⟩
    · skip
      refine r_val (by kernel_rfl) (ea_d rfl) rfl ?_
      simp only [List.set]
      have h6 := heap_alloc_new (W0) (.cells (dz 0).cells 50)
      have e6 := hS.size
      have hS := hS.up (vzero _ (.cells (dz 0).cells 50))
      refine hK.out _ _ hS (fun hHeld => ?_)
      clear hK K
      refine wpAnyH_ready (rs := [4]) (by kernel_rfl) (by simp) ?_
      refine (AllReadyH.cons rfl (fun K hK => ?_) AllReadyH.nil)
      refine r_val (by kernel_rfl) (ea_d rfl) rfl ?_
      simp only [List.set]
      have h5 := heap_alloc_new ((W0).alloc (.cells (dz 0).cells 50)) (.cells (dz 0).cells 50)
      have e5 := hS.size
      have hne := lt_blk h6
      have h6 := vblkn (vzero _ (.cells (dz 0).cells 50)) h6
      have hS := hS.up (vzero _ (.cells (dz 0).cells 50))
      refine hK.out _ _ hS (fun hHeld => ?_)
      clear hK K
      refine wpAnyH_ready (rs := [6]) (by kernel_rfl) (by simp) ?_
      refine (AllReadyH.cons rfl (fun K hK => ?_) AllReadyH.nil)
      refine r_store (by kernel_rfl) rfl rfl rfl h5 hi1 rfl hc1 rfl ?_
      have h6 := (setRow_other (((W0).alloc (.cells (dz 0).cells 50)).alloc (.cells (dz 0).cells 50)) (((W0).alloc (.cells (dz 0).cells 50)).heap.size) _ p.d.cells (by omega)).trans h6
      have h5 : ((((W0).alloc (.cells (dz 0).cells 50)).alloc (.cells (dz 0).cells 50)).setRow (((W0).alloc (.cells (dz 0).cells 50)).heap.size) p.d.cells).heap[((W0).alloc (.cells (dz 0).cells 50)).heap.size]? = some (.cells p.d.cells 50 (0, 0)) := setRow_heap _ _ _ _ _ _ h5
      have hS := hS.set e5 p.d.cells
      refine hK.out _ _ hS (fun hHeld => ?_)
      clear hK K
      refine wpAnyH_ready (rs := [7]) (by kernel_rfl) (by simp) ?_
      refine (AllReadyH.cons rfl (fun K hK => ?_) AllReadyH.nil)
      refine r_store (by kernel_rfl) rfl rfl rfl h6 hi1 rfl hc1 rfl ?_
      have h5 := (setRow_other ((((W0).alloc (.cells (dz 0).cells 50)).alloc (.cells (dz 0).cells 50)).setRow (((W0).alloc (.cells (dz 0).cells 50)).heap.size) p.d.cells) ((W0).heap.size) _ p.d.cells (by omega)).trans h5
      have h6 : (((((W0).alloc (.cells (dz 0).cells 50)).alloc (.cells (dz 0).cells 50)).setRow (((W0).alloc (.cells (dz 0).cells 50)).heap.size) p.d.cells).setRow ((W0).heap.size) p.d.cells).heap[(W0).heap.size]? = some (.cells p.d.cells 50 (0, 0)) := setRow_heap _ _ _ _ _ _ h6
      have hS := hS.set e6 p.d.cells
      refine hK.out _ _ hS (fun hHeld => ?_)
      clear hK K
      refine wpAnyH_done (by kernel_rfl) ?_ _
      go_wp2_with (fail)
      go_meet
      case rel => exact ⟨_, _, rfl, rfl, Lib.hid ⟨hS, h5, h6⟩⟩
  case rest =>
    obtain ⟨g5, g6, rfl, rfl, HY⟩ := hcut
    clear hS
    obtain ⟨c0, ca, cb, cc, c1, c2, c3⟩ := cells_d HY.out.x
    obtain ⟨d0, da, db, dc, d1, d2, d3⟩ := cells_d HY.out.y
    have hD := HY
    have ba := hD.out.bx.a
    have bb := hD.out.bx.b
    go_wp2_with (first
      | ((with_reducible refine pk_load ?_ rfl rfl ba ?_); (rfl))
      | ((with_reducible refine pk_load ?_ rfl rfl bb ?_); (rfl))
      | ((with_reducible refine k_neq ?_ rfl rfl rfl ?_); (rfl))
      | ((with_reducible refine va_load ?_ rfl rfl ca ?_); (rfl))
      | ((with_reducible refine va_load ?_ rfl rfl cb ?_); (rfl))
      | ((with_reducible refine va_load ?_ rfl rfl cc ?_); (rfl))
      | ((with_reducible refine va_load ?_ rfl rfl da ?_); (rfl))
      | ((with_reducible refine va_load ?_ rfl rfl db ?_); (rfl))
      | ((with_reducible refine va_load ?_ rfl rfl dc ?_); (rfl))
      | (go_at_call 74; (with_reducible refine (cS _ _).mono ?_); rintro e w1 ⟨rfl, h9⟩; have hD := Lib.hid (hD.out.up h9); clear c0 ca cb cc c1 c2 c3 d0 da db dc d1 d2 d3 h9; obtain ⟨c0, ca, cb, cc, c1, c2, c3⟩ := cells_d hD.out.x; obtain ⟨d0, da, db, dc, d1, d2, d3⟩ := cells_d hD.out.y))
    go_ret
    exact ⟨by simp, hD.out.bx.below⟩
end Go.Proofs.YtkcikdggfbjedaaGreatDoor.S
/-
  slices.EqualFunc of properties by heap.sameProp: a row is the same as its like.
-/
namespace Go.Proofs.YtkcikdggfbjedaaGreatDoor.S
open Go.RowKit Go.Lib Fl
open Classical

set_option maxHeartbeats 4000000 in
set_option maxRecDepth 100000 in
theorem eqprops (L : List Pq) (A B : Option Addr) (ca cb : Nat) (w : World) (hA : PR w A L) (hB : PR w B L) (hl : L.length ≤ 1000000) :
    Calls Tryz.prog 75 #[.slice A L.length ca, .slice B L.length cb, .func (.func 76) #[] #[]] w fun e w' => e = .returned (.bool true) ∧ Below w.heap.size w w' := by
  have hle : ((L.length : Int) != (L.length : Int)) = false := by simp
  have hHA := Lib.hid hA
  have hHB := Lib.hid hB
  clear hA hB
  go_enter Tryz.func75, Tryz.ntmps75
  go_wp2_with (fail)
  go_loopg [17] L.length (fun kx s17 wr => ∃ i : Nat, s17 = .int .i64 i ∧ i + kx = L.length ∧ Hid (Below w.heap.size w wr))
  case atStart => exact ⟨0, rfl, by omega, Lib.hid (Below.refl _ _)⟩
  case round =>
    obtain ⟨i, rfl, hik, H⟩ := hrel
    cases gk with
    | zero =>
      obtain rfl : i = L.length := by omega
      go_wp2_with (fail)
      go_ret
      exact ⟨rfl, H.out⟩
    | succ kx =>
      have hlt : i < L.length := by omega
      have hlz : (i : Int) < (L.length : Int) := by omega
      have hi0 : (0 : Int) ≤ (i : Int) := by omega
      obtain ⟨a, rfl, hab, hrow⟩ := pr_up hHA.out H.out (by omega)
      obtain ⟨b, rfl, hbb, hrow2⟩ := pr_up hHB.out H.out (by omega)
      have hc : ∀ j u, (pcl L[i])[j]? = some u → wr.cell? ((a.add (i * 18)).add j) = some u := fun j u hu => by rw [add_add]; exact hrow i hlt j u hu
      have hd : ∀ W, Below wr.heap.size wr W → ∀ j u, (pcl L[i])[j]? = some u → W.cell? ((b.add (i * 18)).add j) = some u := fun W hb j u hu => by
        rw [add_add, hb.cell (by rw [add_blk]; exact hbb)]; exact hrow2 i hlt j u hu
      clear hrow hrow2
      generalize L[i] = P at *
      have hi1 : (Tryz.prog.info? 109).map (·.size) = some (prA P).size := psz
      have kk := fun W => sameprop_refl P W
      go_wp2_with (first
        | ((with_reducible refine p_load ?_ rfl rfl hc ?_); (rfl))
        | ((with_reducible refine p_load ?_ rfl rfl (hd _ HB1.out) ?_); (rfl))
        | ((with_reducible refine t_store rfl rfl rfl rfl (heap_alloc_new wr _) hi1 ?_ (prA_one P) (vzero wr _) (Nat.le_refl _) ?_); (rfl); intro W1 hBW1 hW1 hO1 hz1; clear hO1 hz1; have HB1 := Lib.hid hBW1)
        | ((with_reducible refine t_store rfl rfl rfl rfl (heap_alloc_new W1 _) hi1 ?_ (prA_one P) (vzero W1 _) (Nat.le_refl _) ?_); (rfl); intro W2 hBW2 hW2 hO2 hz2; clear hz2; have hW12 := (hO2 _ (by have := lt_blk hW1; omega)).trans (vblkn (vzero _ _) hW1))
        | ((with_reducible refine pw_load ?_ rfl rfl hW12 ?_); (rfl))
        | ((with_reducible refine pw_load ?_ rfl rfl hW2 ?_); (rfl)))
      refine (kk _).mono ?_
      rintro e w5 ⟨rfl, h9⟩
      dsimp only
      go_wp2_with (fail)
      go_roundg kx
      case measure => omega
      case rel => exact ⟨i + 1, by congr 1, by omega, Lib.hid (vb H.out (vb HB1.out (vb hBW2 h9)))⟩
end Go.Proofs.YtkcikdggfbjedaaGreatDoor.S
/-
  heap.sameObject: an object is the same as its like in other memory.
-/
namespace Go.Proofs.YtkcikdggfbjedaaGreatDoor.S
open Go.RowKit Go.Lib Fl
open Classical

theorem cells_o {W : World} {o : Ob} {g : Nat} {t : TypeId} (h : W.heap[g]? = some (.cells (obA o) t (0, 0))) :
    W.cell? ⟨g, 0, none⟩ = some (.int .u8 o.kind) ∧ VAt W ⟨g, 1, none⟩ o.proto ∧ W.cell? ⟨g, 5, none⟩ = some (.bool o.ext) ∧ W.cell? ⟨g, 6, none⟩ = some (.slice o.pa o.props.length o.pc) ∧ VAt W ⟨g, 7, none⟩ o.target ∧ VAt W ⟨g, 11, none⟩ o.handler ∧ W.cell? ⟨g, 15, none⟩ = some (.string o.text) ∧ W.cell? ⟨g, 16, none⟩ = some (.bool o.calls) ∧ W.cell? ⟨g, 17, none⟩ = some (.bool o.makes) :=
  ⟨vcells h 0, ⟨lt_blk h, vcells h 1, vcells h 2, vcells h 3, vcells h 4⟩, vcells h 5, vcells h 6, ⟨lt_blk h, vcells h 7, vcells h 8, vcells h 9, vcells h 10⟩, ⟨lt_blk h, vcells h 11, vcells h 12, vcells h 13, vcells h 14⟩, vcells h 15, vcells h 16, vcells h 17⟩
/-- the two boxes of two objects -/
structure Oz (w : World) (p q : Ob) (W : World) : Prop where
  a : W.heap[w.heap.size]? = some (.cells (obA p) 64 (0, 0))
  b : W.heap[w.heap.size + 1]? = some (.cells (obA q) 64 (0, 0))
  below : Below w.heap.size w W
theorem Oz.up {w : World} {p q : Ob} {W W' : World} (h : Oz w p q W) (hb : Below W.heap.size W W') : Oz w p q W' := ⟨vblkn hb h.a, vblkn hb h.b, vb h.below hb⟩
set_option maxHeartbeats 4000000 in
set_option maxRecDepth 100000 in
theorem sameobj_like (o : Ob) (a : Option Addr) (c : Nat) (w : World) (hP : PR w o.pa o.props) (hQ : PR w a o.props) (hl : o.props.length ≤ 1000000) : Calls Tryz.prog 51 #[.agg (obA o), .agg (obA { o with pa := a, pc := c })] w fun e w' => e = .returned (.bool true) ∧ Below w.heap.size w w' := by
  have cS := fun W (v : Vq) => hsame_refl v.k v.x v.s v.r W
  have cE := fun W (hb : Below w.heap.size w W) => eqprops o.props o.pa a o.pc c W (pr_up hP hb) (pr_up hQ hb) hl
  have hD := Lib.hid (Oz.mk (vblk2 (Below.refl _ ((w.alloc (.cells (obA o) 64)).alloc (.cells (obA { o with pa := a, pc := c }) 64)))).1 (vblk2 (Below.refl _ ((w.alloc (.cells (obA o) 64)).alloc (.cells (obA { o with pa := a, pc := c }) 64)))).2 (vafter (vzero _ _)))
  obtain ⟨c0, c1, c2, c3, c4, c5, c6, c7, c8⟩ := cells_o hD.out.a
  obtain ⟨d0, d1, d2, d3, d4, d5, d6, d7, d8⟩ := cells_o hD.out.b
  go_enter Tryz.func51, Tryz.ntmps51
  go_wp2_with (first
    | ((with_reducible refine va_load ?_ rfl rfl c1 ?_); (rfl))
    | ((with_reducible refine va_load ?_ rfl rfl c4 ?_); (rfl))
    | ((with_reducible refine va_load ?_ rfl rfl c5 ?_); (rfl))
    | ((with_reducible refine va_load ?_ rfl rfl d1 ?_); (rfl))
    | ((with_reducible refine va_load ?_ rfl rfl d4 ?_); (rfl))
    | ((with_reducible refine va_load ?_ rfl rfl d5 ?_); (rfl))
    | (go_at_call 74; (with_reducible refine (cS _ _).mono ?_); rintro e w1 ⟨rfl, h9⟩; have hD := Lib.hid (hD.out.up h9); clear c0 c1 c2 c3 c4 c5 c6 c7 c8 d0 d1 d2 d3 d4 d5 d6 d7 d8 h9; obtain ⟨c0, c1, c2, c3, c4, c5, c6, c7, c8⟩ := cells_o hD.out.a; obtain ⟨d0, d1, d2, d3, d4, d5, d6, d7, d8⟩ := cells_o hD.out.b)
    | (go_at_call 75; (with_reducible refine (cE _ hD.out.below).mono ?_); rintro e w1 ⟨rfl, h9⟩; have hD := Lib.hid (hD.out.up h9); clear c0 c1 c2 c3 c4 c5 c6 c7 c8 d0 d1 d2 d3 d4 d5 d6 d7 d8 h9))
  go_ret
  exact ⟨rfl, hD.out.below⟩
end Go.Proofs.YtkcikdggfbjedaaGreatDoor.S
