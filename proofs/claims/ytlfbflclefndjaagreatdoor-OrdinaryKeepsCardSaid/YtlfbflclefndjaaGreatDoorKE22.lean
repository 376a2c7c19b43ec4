/-
  TableNames: slices built of properties, properties built of parts.
-/
import Derived.Test.YtlfbflclefndjaaGreatDoorKE21
import Derived.Test.YtlfbflclefndjaaGreatDoorKE14
namespace Go.Proofs.YtlfbflclefndjaaGreatDoor.S
open Go.RowKit Go.Lib Fl
open Classical

section
variable {ops : Array Oper} {rest : List Oper} {o : Oper} {a : Act} {w : World} {Q : Exit → Act → World → Prop}
theorem w_run {v : Value} {w2 : World} (hw : Region.wanted o (yielded ops a.tmps) = true) (hr : (execOp a.eval o).run Tryz.prog w = .ok (.value v) w2) (h : wpList Tryz.prog ops Q rest (a.put o.dst v) w2) : wpList Tryz.prog ops Q (o :: rest) a w :=
  wpList_wanted hw fun K hK => by
    unfold Oper.wp
    rw [hr]
    exact hK _ _ h
end
end Go.Proofs.YtlfbflclefndjaaGreatDoor.S
/-
  The heap of the chapter, and a proxy of its two objects: what may be.
-/
namespace Go.Proofs.YtlfbflclefndjaaGreatDoor.S
open Go.RowKit Go.Lib Fl
open Classical

def p7 : Pq := pN (⟨#[97]⟩ : ByteArray) 0 4619567317775286272
theorem n7_ok : (⟨3, 4619567317775286272, ⟨#[]⟩, 0⟩ : Vq).Ok := ⟨.num 4619567317775286272, ⟨.ours 7, ⟨by decide, by unfold SafeN; omega⟩, rfl⟩, rfl, rfl, rfl, rfl⟩
theorem p7_in : p7.In := pN_in (by decide) (by decide) n7_ok
theorem p7_ok : p7.Ok := pN_ok (by decide) (by decide) (fun h => absurd h (by decide)) n7_ok
def vN : Vq := ⟨1, 0, ⟨#[]⟩, 0⟩
def vT (r : Int) : Vq := ⟨6, 0, ⟨#[]⟩, r⟩
theorem vN_ok : vN.Ok := ⟨.nul, trivial, rfl, rfl, rfl, rfl⟩
theorem vT_ok {r : Int} (h0 : 0 ≤ r) (h1 : r < 100) : (vT r).Ok := ⟨.obj 6 r, by simp [Vl.ok]; omega, rfl, rfl, rfl, rfl⟩
def oA (a : Option Addr) : Ob := ⟨1, vN, true, a, 1, [p7], v0, v0, ⟨#[]⟩, false, false⟩
def oB : Ob := ⟨1, vT 0, true, none, 0, [], v0, v0, ⟨#[]⟩, false, false⟩
def oP (t h : Int) : Ob := ⟨6, vN, false, none, 0, [], vT t, vT h, ⟨#[]⟩, false, false⟩
def H2 (a : Option Addr) : List Ob := [oA a, oB]
theorem ok_may {v : Vq} (h : v.Ok) : v.may = true := mayI_iff.2 h
theorem tab1 : TabOk [p7] := ⟨by decide, fun p hp => by obtain rfl := List.mem_singleton.1 hp; exact p7_ok, List.pairwise_singleton _ _⟩
theorem hold_n {H : List Ob} {v : Vq} (h : v.Ok) (ho : objQ v = false) : holdsB H v = true := by unfold holdsB; rw [ok_may h, ho]; rfl
theorem hold_t {H : List Ob} {r : Int} (h : (vT r).Ok) (hr : refB H (vT r) = true) : holdsB H (vT r) = true := by unfold holdsB; rw [ok_may h, hr]; rfl
theorem may_A (a b : Option Addr) (G : List Ob) : mayB (H2 b ++ G) (oA a) 0 = true := by
  unfold mayB
  have h1 : chkT (oA a).props = 0 := chkT_ok.2 tab1
  have h2 : (valsO (oA a)).all (holdsB (H2 b ++ G)) = true := by
    rw [List.all_eq_true]
    intro v hv
    have : v = vN ∨ v = v0 ∨ v = (⟨3, 4619567317775286272, ⟨#[]⟩, 0⟩ : Vq) := by
      simp [valsO, oA, p7, pN, dN] at hv
      rcases hv with h | h | h | h <;> simp [h]
    rcases this with rfl | rfl | rfl
    · exact hold_n vN_ok rfl
    · exact hold_n v0_ok rfl
    · exact hold_n n7_ok rfl
  have h3 : fitsB (H2 b ++ G) (oA a) 0 = true := by kernel_rfl
  rw [h1, h2, h3]; rfl
theorem may_B (b : Option Addr) (G : List Ob) : mayB (H2 b ++ G) oB 1 = true := by
  unfold mayB
  have h1 : chkT oB.props = 0 := chkT_ok.2 ⟨by decide, (fun _ h => by cases h), List.Pairwise.nil⟩
  have h2 : (valsO oB).all (holdsB (H2 b ++ G)) = true := by
    rw [List.all_eq_true]
    intro v hv
    have : v = vT 0 ∨ v = v0 := by
      simp [valsO, oB] at hv
      exact hv
    rcases this with rfl | rfl
    · exact hold_t (vT_ok (by decide) (by decide)) rfl
    · exact hold_n v0_ok rfl
  have h3 : fitsB (H2 b ++ G) oB 1 = true := by kernel_rfl
  rw [h1, h2, h3]; rfl
theorem loops2 (b : Option Addr) : loopsB (H2 b) = false := by kernel_rfl
theorem may2 (b : Option Addr) : mayH (H2 b) = true := mayH_iff.2 ⟨(by show 2 ≤ 4096; decide), fun i hi => by
  have e := List.append_nil (H2 b)
  match i, hi with
  | 0, _ => have := may_A b b []; rw [e] at this; exact this
  | 1, _ => have := may_B b []; rw [e] at this; exact this
  | n + 2, h => exact absurd h (by simp [H2]), loops2 b⟩
theorem oA_in (g : Nat) : (oA (some ⟨g, 0, none⟩)).In := ⟨(by show (0 : Int) ≤ 1; decide), (by show (1 : Int) < 256; decide), ok_in2 vN_ok, ok_in2 v0_ok, ok_in2 v0_ok, (by show 0 ≤ maxLen; unfold maxLen; omega), (fun p hp => by obtain rfl := List.mem_singleton.1 hp; exact p7_in), (by show 1 ≤ 1; decide), (by show 1 < 9223372036854775808; decide), fun h => by cases h⟩
theorem oB_in : oB.In := ⟨(by show (0 : Int) ≤ 1; decide), (by show (1 : Int) < 256; decide), ok_in2 (vT_ok (by decide) (by decide)), ok_in2 v0_ok, ok_in2 v0_ok, (by show 0 ≤ maxLen; unfold maxLen; omega), (fun p hp => by cases hp), Nat.le_refl _, (by show 0 < 9223372036854775808; decide), fun _ => rfl⟩
end Go.Proofs.YtlfbflclefndjaaGreatDoor.S
/-
  The law's own: null, proxied; what is built of parts.
-/
namespace Go.Proofs.YtlfbflclefndjaaGreatDoor.S
open Go.RowKit Go.Lib Fl
open Classical

set_option maxRecDepth 100000 in
theorem rb_n (w : World) : (Instr.build 34 #[(0, .int .u8 1)]).run Tryz.prog w = .ok vN.val w := by kernel_rfl
set_option maxRecDepth 100000 in
theorem rb_a (a : Option Addr) (w : World) : (Instr.build 37 #[(0, .int .u8 1), (1, vN.val), (2, .bool true), (3, .slice a 1 1)]).run Tryz.prog w = .ok (.agg (obA (oA a))) w := by kernel_rfl
set_option maxRecDepth 100000 in
theorem rb_b (w : World) : (Instr.build 37 #[(0, .int .u8 1), (1, (vT 0).val), (2, .bool true)]).run Tryz.prog w = .ok (.agg (obA oB)) w := by kernel_rfl
set_option maxRecDepth 100000 in
theorem rb_s (a : Option Addr) (w : World) : (Instr.buildSlice 22 2 #[(0, .agg (obA (oA a))), (1, .agg (obA oB))]).run Tryz.prog w = .ok (.slice (some ⟨w.heap.size, 0, none⟩) 2 2) (w.alloc (.cells (hcl (H2 a)).toArray 37)) := by kernel_rfl
set_option maxRecDepth 100000 in
theorem rb_h (v : Option Addr) (w : World) : (Instr.build 24 #[(0, .slice v 2 2)]).run Tryz.prog w = .ok (.agg #[.slice v 2 2]) w := by kernel_rfl
section
variable {ops : Array Oper} {rest : List Oper} {o : Oper} {a : Act} {w : World} {Q : Exit → Act → World → Prop} {x y z : Operand}
theorem eb_n (ho : o.op = .build 34 #[(0, .const (.int .u8 1))]) : (execOp a.eval o).run Tryz.prog w = .ok (.value vN.val) w := by
  unfold execOp
  simp only [ho, List.map_toArray, List.map_cons, List.map_nil, Act.eval, rb_n, Sem.run_bind, Sem.run_pure, Result.andThen_ok]
theorem eb_a {A : Option Addr} (ho : o.op = .build 37 #[(0, .const (.int .u8 1)), (1, x), (2, .const (.bool true)), (3, y)]) (hx : a.eval x = vN.val) (hy : a.eval y = .slice A 1 1) : (execOp a.eval o).run Tryz.prog w = .ok (.value (.agg (obA (oA A)))) w := by
  unfold execOp
  have hc : ∀ v, a.eval (.const v) = v := fun _ => rfl
  simp only [ho, List.map_toArray, List.map_cons, List.map_nil, hc, hx, hy, rb_a, Sem.run_bind, Sem.run_pure, Result.andThen_ok]
theorem eb_b (ho : o.op = .build 37 #[(0, .const (.int .u8 1)), (1, x), (2, .const (.bool true))]) (hx : a.eval x = (vT 0).val) : (execOp a.eval o).run Tryz.prog w = .ok (.value (.agg (obA oB))) w := by
  unfold execOp
  have hc : ∀ v, a.eval (.const v) = v := fun _ => rfl
  simp only [ho, List.map_toArray, List.map_cons, List.map_nil, hc, hx, rb_b, Sem.run_bind, Sem.run_pure, Result.andThen_ok]
theorem eb_s {A : Option Addr} (ho : o.op = .buildSlice 22 2 #[(0, x), (1, y)]) (hx : a.eval x = .agg (obA (oA A))) (hy : a.eval y = .agg (obA oB)) : (execOp a.eval o).run Tryz.prog w = .ok (.value (.slice (some ⟨w.heap.size, 0, none⟩) 2 2)) (w.alloc (.cells (hcl (H2 A)).toArray 37)) := by
  unfold execOp
  simp only [ho, List.map_toArray, List.map_cons, List.map_nil, hx, hy, rb_s, Sem.run_bind, Sem.run_pure, Result.andThen_ok]
theorem eb_h {v : Option Addr} (ho : o.op = .build 24 #[(0, x)]) (hx : a.eval x = .slice v 2 2) : (execOp a.eval o).run Tryz.prog w = .ok (.value (.agg #[.slice v 2 2])) w := by
  unfold execOp
  simp only [ho, List.map_toArray, List.map_cons, List.map_nil, hx, rb_h, Sem.run_bind, Sem.run_pure, Result.andThen_ok]
end
end Go.Proofs.YtlfbflclefndjaaGreatDoor.S
/-
  The law's own: two.
-/
namespace Go.Proofs.YtlfbflclefndjaaGreatDoor.S
open Go.RowKit Go.Lib Fl
open Classical

section
variable {ops : Array Oper} {o : Oper} {w w2 : World} {Q : Exit → Act → World → Prop} {K : Act → World → Prop} {x y : Operand} {xs : List Value} {ds : List Deferred} {d g : Nat} {v : Value} {t ty : TypeId} {cs old : Array Value}
theorem r_val (hw : Region.wanted o (yielded ops (Act.mk xs.toArray ds).tmps) = true) (hr : (execOp (Act.mk xs.toArray ds).eval o).run Tryz.prog w = .ok (.value v) w2) (hd : o.dst = some d) (h : K ⟨(xs.set d v).toArray, ds⟩ w2) :
    if Region.wanted o (yielded ops (Act.mk xs.toArray ds).tmps) = true then Oper.wp Tryz.prog o ⟨xs.toArray, ds⟩ w K Q else K ((Act.mk xs.toArray ds).put o.dst undef) w := by
  rw [if_pos hw]
  unfold Oper.wp
  rw [hr]
  show K ((Act.mk xs.toArray ds).put o.dst v) w2
  rw [hd, hput_some]
  exact h
theorem r_store (hw : Region.wanted o (yielded ops (Act.mk xs.toArray ds).tmps) = true) (ho : o.op = .store ty x y) (hx : (Act.mk xs.toArray ds).eval x = .pointer (some ⟨g, 0, none⟩)) (hy : (Act.mk xs.toArray ds).eval y = .agg cs) (hg : w.heap[g]? = some (.cells old t (0, 0)))
    (hi : (Tryz.prog.info? ty).map (·.size) = some cs.size) (hold : old.size = cs.size) (h1 : cs.all (·.oneCell') = true) (hd : o.dst = none) (h : K ⟨xs.toArray, ds⟩ (w.setRow g cs)) :
    if Region.wanted o (yielded ops (Act.mk xs.toArray ds).tmps) = true then Oper.wp Tryz.prog o ⟨xs.toArray, ds⟩ w K Q else K ((Act.mk xs.toArray ds).put o.dst undef) w := by
  rw [if_pos hw]
  refine wp_store_row ty x y ho g cs hx hy t old hg hi hold h1 ?_
  rw [hd]
  exact h
end
/-- two's own blocks -/
structure Ts (w : World) (W : World) : Prop where
  b : ∃ v, W.heap[w.heap.size]? = some (.cells #[v] 24 (0, 0))
  d : W.heap[w.heap.size + 1]? = some (.cells p7.d.cells 41 (0, 0))
  below : Below w.heap.size w W
theorem Ts.up {w W W' : World} (h : Ts w W) (hb : Below W.heap.size W W') : Ts w W' := ⟨h.b.imp fun _ g => vblkn hb g, vblkn hb h.d, vb h.below hb⟩
structure Tp (w : World) (g : Nat) (W : World) : Prop where
  ts : Ts w W
  p : W.heap[g]? = some (.cells (prCells [p7]).toArray 68 (0, 0))
  le : w.heap.size + 2 ≤ g
theorem Tp.up {w W W' : World} {g : Nat} (h : Tp w g W) (hb : Below W.heap.size W W') : Tp w g W' := ⟨h.ts.up hb, vblkn hb h.p, h.le⟩
theorem Ts.size {w W : World} (h : Ts w W) : w.heap.size + 2 ≤ W.heap.size := lt_blk h.d
theorem Tp.set {w W : World} {g : Nat} (h : Tp w g W) (v : Value) : Tp w g (W.setRow w.heap.size #[v]) :=
  ⟨⟨⟨v, setRow_heap _ _ _ _ _ _ h.ts.b.choose_spec⟩, (setRow_other W _ _ _ (by omega)).trans h.ts.d, below_row h.ts.below (Nat.le_refl _) _⟩, (setRow_other W _ _ _ (by have := h.le; omega)).trans h.p, h.le⟩
def TwoTo (w : World) (e : Ending) (w' : World) : Prop := ∃ B g, e = .returned (.agg #[.slice (some ⟨B, 0, none⟩) 2 2]) ∧ w'.heap[B]? = some (.cells (hcl (H2 (some ⟨g, 0, none⟩))).toArray 37 (0, 0)) ∧ w'.heap[g]? = some (.cells (prCells [p7]).toArray 68 (0, 0)) ∧ Below w.heap.size w w'
end Go.Proofs.YtlfbflclefndjaaGreatDoor.S
/-
  The law's own: alive.
-/
namespace Go.Proofs.YtlfbflclefndjaaGreatDoor.S
open Go.RowKit Go.Lib Fl
open Classical

structure TwoAt (B g : Nat) (W : World) : Prop where
  b : W.heap[B]? = some (.cells (hcl (H2 (some ⟨g, 0, none⟩))).toArray 37 (0, 0))
  p : W.heap[g]? = some (.cells (prCells [p7]).toArray 68 (0, 0))
theorem TwoAt.up {B g : Nat} {W W' : World} (h : TwoAt B g W) (hb : Below W.heap.size W W') : TwoAt B g W' := ⟨vblkn hb h.b, vblkn hb h.p⟩
theorem TwoAt.inn {B g : Nat} {W : World} (h : TwoAt B g W) : HIn W (some ⟨B, 0, none⟩) (H2 (some ⟨g, 0, none⟩)) 2 := by
  refine ⟨fun o ho => ?_, fun _ => ⟨_, rfl, lt_blk h.b, fun i hi => ⟨?_, ?_⟩⟩, by show 2 ≤ 5000; decide, fun o ho => ?_, Nat.le_refl _, by decide, fun hc => by cases hc⟩
  · simp only [H2, List.mem_cons, List.not_mem_nil, or_false] at ho
    rcases ho with rfl | rfl
    · exact oA_in g
    · exact oB_in
  · refine of_cells (by rw [add_blk]; exact lt_blk h.b) fun j u hu => ?_
    have hj : j < 18 := by have := (List.getElem?_eq_some_iff.1 hu).1; rw [ocl_len] at this; exact this
    rw [add_add, Addr.add_mid, Nat.zero_add, vcells h.b (i * 18 + j), List.getElem?_toArray, hcl_at _ i hi j hj]
    exact hu
  · match i, hi with
    | 0, _ => exact pr_blk h.p
    | 1, _ => exact pr_nil
    | n + 2, h => exact absurd h (by simp [H2])
  · simp only [H2, List.mem_cons, List.not_mem_nil, or_false] at ho
    rcases ho with rfl | rfl
    · show 1 < 1000000000000; decide
    · show 0 < 1000000000000; decide
theorem two_few {a : Option Addr} : ∀ o ∈ H2 a, o.props.length ≤ 100000 := fun o ho => by
  simp only [H2, List.mem_cons, List.not_mem_nil, or_false] at ho
  rcases ho with rfl | rfl
  · show 1 ≤ 100000; decide
  · show 0 ≤ 100000; decide
end Go.Proofs.YtlfbflclefndjaaGreatDoor.S
/-
  heap.Same: a heap's twin is the same.
-/
namespace Go.Proofs.YtlfbflclefndjaaGreatDoor.S
open Go.RowKit Go.Lib Fl
open Classical

end Go.Proofs.YtlfbflclefndjaaGreatDoor.S
/-
  heap.sameProp: a property is the same as itself. Generated: gen_heapsame2.py.
-/
namespace Go.Proofs.YtlfbflclefndjaaGreatDoor.S
open Go.RowKit Go.Lib Fl
open Classical

/-- the two boxes -/
structure Bz (w : World) (p : Pq) (W : World) : Prop where
  a : W.heap[w.heap.size]? = some (.cells (prA p) 68 (0, 0))
  b : W.heap[w.heap.size + 1]? = some (.cells (prA p) 68 (0, 0))
  below : Below w.heap.size w W
theorem Bz.up {w : World} {p : Pq} {W W' : World} (h : Bz w p W) (hb : Below W.heap.size W W') : Bz w p W' := ⟨vblkn hb h.a, vblkn hb h.b, vb h.below hb⟩
theorem Bz.size {w : World} {p : Pq} {W : World} (h : Bz w p W) : w.heap.size + 2 ≤ W.heap.size := lt_blk h.b
theorem Bz.set {w : World} {p : Pq} {W : World} (h : Bz w p W) {g : Nat} (hg : w.heap.size + 2 ≤ g) (cs : Array Value) : Bz w p (W.setRow g cs) :=
  ⟨(setRow_other W _ _ _ (by omega)).trans h.a, (setRow_other W _ _ _ (by omega)).trans h.b, below_row h.below (by omega) _⟩
section
variable {o : Oper} {a : Act} {w : World}
theorem ea_d (ho : o.op = .alloc 41) : (execOp a.eval o).run Tryz.prog w = .ok (.value (.pointer (some ⟨w.heap.size, 0, none⟩))) (w.alloc (.cells (dz 0).cells 41)) := by
  unfold execOp
  simp only [ho]
  kernel_rfl
end
/-- the two descriptors by value -/
structure Dd (w : World) (p : Pq) (g5 g6 : Nat) (W : World) : Prop where
  bx : Bz w p W
  x : W.heap[g5]? = some (.cells p.d.cells 41 (0, 0))
  y : W.heap[g6]? = some (.cells p.d.cells 41 (0, 0))
theorem Dd.up {w : World} {p : Pq} {g5 g6 : Nat} {W W' : World} (h : Dd w p g5 g6 W) (hb : Below W.heap.size W W') : Dd w p g5 g6 W' := ⟨h.bx.up hb, vblkn hb h.x, vblkn hb h.y⟩
section
variable {ops : Array Oper} {rest : List Oper} {o : Oper} {a : Act} {w : World} {Q : Exit → Act → World → Prop} {x y : Operand}
end
end Go.Proofs.YtlfbflclefndjaaGreatDoor.S
/-
  slices.EqualFunc of properties by heap.sameProp: a row is the same as its like.
-/
namespace Go.Proofs.YtlfbflclefndjaaGreatDoor.S
open Go.RowKit Go.Lib Fl
open Classical

end Go.Proofs.YtlfbflclefndjaaGreatDoor.S
/-
  heap.sameObject: an object is the same as its like in other memory.
-/
namespace Go.Proofs.YtlfbflclefndjaaGreatDoor.S
open Go.RowKit Go.Lib Fl
open Classical

/-- the two boxes of two objects -/
structure Oz (w : World) (p q : Ob) (W : World) : Prop where
  a : W.heap[w.heap.size]? = some (.cells (obA p) 37 (0, 0))
  b : W.heap[w.heap.size + 1]? = some (.cells (obA q) 37 (0, 0))
  below : Below w.heap.size w W
theorem Oz.up {w : World} {p q : Ob} {W W' : World} (h : Oz w p q W) (hb : Below W.heap.size W W') : Oz w p q W' := ⟨vblkn hb h.a, vblkn hb h.b, vb h.below hb⟩
end Go.Proofs.YtlfbflclefndjaaGreatDoor.S
/-
  slices.EqualFunc of objects by heap.sameObject; heap.Same.
-/
namespace Go.Proofs.YtlfbflclefndjaaGreatDoor.S
open Go.RowKit Go.Lib Fl
open Classical

/-- objects' cells in a row -/
def ORow (w : World) (A : Option Addr) (M : List Ob) : Prop := 0 < M.length → ∃ a, A = some a ∧ a.block < w.heap.size ∧ ∀ i (h : i < M.length) j u, (ocl M[i])[j]? = some u → w.cell? ((a.add (i * 18)).add j) = some u
theorem ORow.up {w W : World} {A : Option Addr} {M : List Ob} (h : ORow w A M) (hb : Below w.heap.size w W) : ORow W A M := fun hp => by
  obtain ⟨a, h1, h2, h3⟩ := h hp
  exact ⟨a, h1, Nat.lt_of_lt_of_le h2 hb.size, fun i hi j u hu => by rw [hb.cell (by rw [add_blk, add_blk]; exact h2)]; exact h3 i hi j u hu⟩
theorem orow_b {w : World} {B : Nat} {M : List Ob} {t : TypeId} (h : w.heap[B]? = some (.cells (hcl M).toArray t (0, 0))) : ORow w (some ⟨B, 0, none⟩) M := fun _ => by
  refine ⟨_, rfl, lt_blk h, fun i hi j u hu => ?_⟩
  have hj : j < 18 := by have := (List.getElem?_eq_some_iff.1 hu).1; rw [ocl_len] at this; exact this
  rw [add_add, Addr.add_mid, Nat.zero_add, vcells h (i * 18 + j), List.getElem?_toArray, hcl_at M i hi j hj]
  exact hu
section
variable {ops : Array Oper} {rest : List Oper} {o : Oper} {a : Act} {w : World} {Q : Exit → Act → World → Prop} {x y : Operand} {g : Nat} {t : TypeId}
theorem oa_load {A : Addr} {p : Ob} (hw : Region.wanted o (yielded ops a.tmps) = true) (ho : o.op = .load 37 x) (hx : a.eval x = .pointer (some A)) (hc : ∀ j u, (ocl p)[j]? = some u → w.cell? (A.add j) = some u)
    (h : wpList Tryz.prog ops Q rest (a.put o.dst (.agg (obA p))) w) : wpList Tryz.prog ops Q (o :: rest) a w :=
  wpList_wanted hw fun _ hK => wp_load_at ho hx hc Tryz.underlying37 rfl osz (hK _ _ h)
end
end Go.Proofs.YtlfbflclefndjaaGreatDoor.S
/-
  The law's own: large.
-/
namespace Go.Proofs.YtlfbflclefndjaaGreatDoor.S
open Go.RowKit Go.Lib Fl
open Classical

def largeB (H : List Ob) : Bool := H.any fun o => decide (100 < o.props.length)
/-- large's own block -/
structure Lg (w : World) (A : Option Addr) (n cap : Nat) (W : World) : Prop where
  below : Below w.heap.size w W
  h : W.heap[w.heap.size]? = some (.cells #[.slice A n cap] 24 (0, 0))
end Go.Proofs.YtlfbflclefndjaaGreatDoor.S
/-
  The law's own: spoil writes over a twin, and over nothing else.
-/
namespace Go.Proofs.YtlfbflclefndjaaGreatDoor.S
open Go.RowKit Go.Lib Fl
open Classical

section
variable {ops : Array Oper} {rest : List Oper} {o : Oper} {a : Act} {w : World} {Q : Exit → Act → World → Prop} {x y : Operand} {g : Nat} {t ty : TypeId}
end
def pz : Pq := ⟨⟨⟨#[]⟩, 0⟩, dz 0⟩
def o77 : Ob := ⟨77, v0, false, none, 0, [], v0, v0, ⟨#[]⟩, false, false⟩
section
variable {o : Oper} {a : Act} {w : World}
end
/-- how far spoil has come -/
structure Sp (w : World) (n1 B n : Nat) (M : List Ob) (i : Nat) (W : World) : Prop where
  m : ∃ Mi : List Ob, Mi.length = n ∧ (∀ j (h : j < Mi.length) (h' : j < M.length), i ≤ j → Mi[j] = M[j]) ∧ (∀ j (h : j < Mi.length), j < i → Mi[j].kind = 77) ∧ W.heap[B]? = some (.cells (hcl Mi).toArray 37 (0, 0))
  p : ∀ j (h : j < M.length), ∃ (g : Nat) (cur : List Value), M[j].pa = some ⟨g, 0, none⟩ ∧ B < g ∧ g < n1 ∧ M[j].pc = M[j].props.length ∧ W.heap[g]? = some (.cells cur.toArray 68 (0, 0)) ∧ cur.length = M[j].props.length * 18
  box : W.heap[w.heap.size]? = some (.cells #[.slice (some ⟨B, 0, none⟩) n n] 24 (0, 0))
  below : Below B w W
  keep : ∀ j, n1 ≤ j → j < w.heap.size → W.heap[j]? = w.heap[j]?
  lt : B < n1 ∧ n1 ≤ w.heap.size
  len : M.length = n
theorem Sp.put {w W W' : World} {n1 B n i g : Nat} {M : List Ob} {cur cur' : List Value} (h : Sp w n1 B n M i W) (hg : B < g) (hg1 : g < n1) (hb : ∀ B w0, Below B w0 W → B ≤ g → Below B w0 W') (hc : W.heap[g]? = some (.cells cur.toArray 68 (0, 0))) (hc' : W'.heap[g]? = some (.cells cur'.toArray 68 (0, 0))) (hl : cur'.length = cur.length) (hO : ∀ j, j ≠ g → W'.heap[j]? = W.heap[j]?) : Sp w n1 B n M i W' := by
  have hlt := h.lt
  obtain ⟨Mi, m1, m2, m3, m4⟩ := h.m
  refine ⟨⟨Mi, m1, m2, m3, (hO _ (by omega)).trans m4⟩, fun j hj => ?_, (hO _ (by omega)).trans h.box, hb _ _ h.below (by omega), fun j h1 h2 => (hO j (by omega)).trans (h.keep j h1 h2), hlt, h.len⟩
  obtain ⟨g2, c2, p1, p2, p3, p4, p5, p6⟩ := h.p j hj
  by_cases c : g2 = g
  · subst c
    rw [hc] at p5
    have e : cur.toArray = c2.toArray := by simpa using p5
    have e2 : cur = c2 := by simpa using e
    exact ⟨g2, cur', p1, p2, p3, p4, hc', by rw [hl, e2]; exact p6⟩
  · exact ⟨g2, c2, p1, p2, p3, p4, (hO _ c).trans p5, p6⟩
theorem Sp.next {w W W' : World} {n1 B n i : Nat} {M Mi : List Ob} (h : Sp w n1 B n M i W) (hi : i < n) (m1 : Mi.length = n) (m2 : ∀ j (h : j < Mi.length) (h' : j < M.length), i ≤ j → Mi[j] = M[j]) (m3 : ∀ j (h : j < Mi.length), j < i → Mi[j].kind = 77)
    (hb : ∀ B' w0, Below B' w0 W → B' ≤ B → Below B' w0 W') (hc' : W'.heap[B]? = some (.cells ((hcl Mi).take (i * 18) ++ ocl o77 ++ (hcl Mi).drop (i * 18 + 18)).toArray 37 (0, 0))) (hO : ∀ j, j ≠ B → W'.heap[j]? = W.heap[j]?) : Sp w n1 B n M (i + 1) W' := by
  have hlt := h.lt
  rw [hcl_put Mi i o77 (by omega)] at hc'
  refine ⟨⟨Mi.set i o77, by rw [List.length_set]; exact m1, fun j hj h' hij => ?_, fun j hj hji => ?_, hc'⟩, fun j hj => ?_, (hO _ (by omega)).trans h.box, hb _ _ h.below (Nat.le_refl _), fun j h1 h2 => (hO j (by omega)).trans (h.keep j h1 h2), hlt, h.len⟩
  · rw [List.length_set] at hj
    rw [List.getElem_set_ne (by omega)]
    exact m2 j hj h' (by omega)
  · rw [List.length_set] at hj
    by_cases c : j = i
    · subst c; rw [List.getElem_set_self]; rfl
    · rw [List.getElem_set_ne (by omega)]; exact m3 j hj (by omega)
  · obtain ⟨g2, c2, p1, p2, p3, p4, p5, p6⟩ := h.p j hj
    exact ⟨g2, c2, p1, p2, p3, p4, (hO _ (by omega)).trans p5, p6⟩
end Go.Proofs.YtlfbflclefndjaaGreatDoor.S
/-
  The law's own: spoil, the walk.
-/
namespace Go.Proofs.YtlfbflclefndjaaGreatDoor.S
open Go.RowKit Go.Lib Fl
open Classical

theorem Sp.cell {w W : World} {n1 B n i g N : Nat} {M : List Ob} (h : Sp w n1 B n M i W) (hi : i < M.length) (hg : M[i].pa = some ⟨g, 0, none⟩) (hc : M[i].pc = M[i].props.length) (hN : M[i].props.length = N) : W.cell? ⟨B, i * 18 + 6, none⟩ = some (.slice (some ⟨g, 0, none⟩) N N) := by
  obtain ⟨Mi, m1, m2, _, m4⟩ := h.m
  have hl := h.len
  have := hcl_at Mi i (by omega) 6 (by decide)
  rw [vcells m4 (i * 18 + 6), List.getElem?_toArray, this, m2 i (by omega) hi (Nat.le_refl _)]
  show some (Value.slice M[i].pa M[i].props.length M[i].pc) = _
  rw [hg, hc, hN]
end Go.Proofs.YtlfbflclefndjaaGreatDoor.S
/-
  HeapApart: what the law is handed, and what stands ahead of its last statement.
-/
namespace Go.Proofs.YtlfbflclefndjaaGreatDoor.S
open Go.RowKit Go.Lib Fl
open Classical

/-- a heap that comes in, however many objects it has -/
structure HIn0 (w : World) (A : Option Addr) (H : List Ob) (cap : Nat) : Prop where
  inn : ∀ o ∈ H, o.In
  row : HRow w A H
  room : H.length ≤ cap
  cap63 : cap < 9223372036854775808
  nil : A = none → cap = 0
theorem small_p {H : List Ob} (h : largeB H = false) : ∀ o ∈ H, o.props.length ≤ 100000 := fun o ho => by
  unfold largeB at h
  rw [List.any_eq_false] at h
  have := h o ho
  simp at this
  omega
theorem HIn0.few {w : World} {A : Option Addr} {H : List Ob} {cap : Nat} (h : HIn0 w A H cap) (hf : H.length ≤ 5000) (hs : largeB H = false) : HIn w A H cap := ⟨h.inn, h.row, hf, fun o ho => by have := small_p hs o ho; omega, h.room, h.cap63, h.nil⟩
theorem Tw.keep {n0 B : Nat} {H M : List Ob} {W W' : World} (h : Tw n0 B H M W) (hO : ∀ j, B ≤ j → j < W.heap.size → W'.heap[j]? = W.heap[j]?) : Tw n0 B H M W' :=
  ⟨h.len, fun j h1 h2 => by obtain ⟨g, g1, g2, g3⟩ := (h.all j h1 h2).out; exact ⟨g, g1, g2, (hO g (by omega) (lt_blk g3)).trans g3⟩, (hO B (Nat.le_refl _) (lt_blk h.b)).trans h.b, h.le⟩
/-- ahead of the last statement: the heap, the twin that was written over, the other twin -/
structure Ap (w : World) (A : Option Addr) (H : List Ob) (cap n gt gu B1 B2 : Nat) (M2 : List Ob) (W : World) : Prop where
  below : Below w.heap.size w W
  h : W.heap[w.heap.size]? = some (.cells #[.slice A n cap] 24 (0, 0))
  t : W.heap[gt]? = some (.cells #[.slice (some ⟨B1, 0, none⟩) n n] 24 (0, 0))
  u : W.heap[gu]? = some (.cells #[.slice (some ⟨B2, 0, none⟩) n n] 24 (0, 0))
  m : ∃ M1 : List Ob, M1.length = n ∧ (∀ i (h : i < M1.length), M1[i].kind = 77) ∧ W.heap[B1]? = some (.cells (hcl M1).toArray 37 (0, 0))
  tw : Tw 0 B2 H M2 W
theorem Ap.up {w : World} {A : Option Addr} {H : List Ob} {cap n gt gu B1 B2 : Nat} {M2 : List Ob} {W W' : World} (h : Ap w A H cap n gt gu B1 B2 M2 W) (hb : Below W.heap.size W W') : Ap w A H cap n gt gu B1 B2 M2 W' :=
  ⟨vb h.below hb, vblkn hb h.h, vblkn hb h.t, vblkn hb h.u, h.m.imp fun _ g => ⟨g.1, g.2.1, vblkn hb g.2.2⟩, h.tw.up hb⟩
end Go.Proofs.YtlfbflclefndjaaGreatDoor.S
/-
  HeapApart: the walk.
-/
namespace Go.Proofs.YtlfbflclefndjaaGreatDoor.S
open Go.RowKit Go.Lib Fl
open Classical

theorem h1_load {W : World} {v : Value} {g : Nat} (h : W.heap[g]? = some (.cells #[v] 24 (0, 0))) : (Instr.loadAt 24 (.pointer (some ⟨g, 0, none⟩))).run Tryz.prog W = .ok (.agg #[v]) W :=
  run_loadAt_at (A := ⟨g, 0, none⟩) (cs := [v]) (fun j u hu => by
    rw [Addr.add_mid, Nat.zero_add, vcells h j]
    simpa using hu) Tryz.underlying24 rfl hsz
/-- ahead of the twins -/
structure Aq (w : World) (A : Option Addr) (n cap : Nat) (W : World) : Prop where
  below : Below w.heap.size w W
  h : W.heap[w.heap.size]? = some (.cells #[.slice A n cap] 24 (0, 0))
theorem Aq.up {w : World} {A : Option Addr} {n cap : Nat} {W W' : World} (h : Aq w A n cap W) (hb : Below W.heap.size W W') : Aq w A n cap W' := ⟨vb h.below hb, vblkn hb h.h⟩
theorem Aq.q {w : World} {A : Option Addr} {n cap : Nat} {W : World} (h : Aq w A n cap W) : W.cell? ⟨w.heap.size, 0, none⟩ = some (.slice A n cap) := (vcells h.h 0).trans rfl
end Go.Proofs.YtlfbflclefndjaaGreatDoor.S
/-
  HeapMore: from more objects one comes to all that one comes to from fewer.
-/
namespace Go.Proofs.YtlfbflclefndjaaGreatDoor.S
open Go.RowKit Go.Lib Fl
open Classical

def E0 (k : Int) (w : World) (e : Ending) (w' : World) : Prop := e = .returned (.tuple #[.slice none 0 0, .int .i64 k]) ∧ Below w.heap.size w w'
def R0 (L : List Nat) (w : World) (e : Ending) (w' : World) : Prop := ∃ g cap, e = .returned (.tuple #[.slice (some ⟨g, 0, none⟩) L.length cap, .int .i64 0]) ∧ (w'.ownsRow w.heap.size 3 1 (.slice (some ⟨g, 0, none⟩) L.length cap) L.length (wkv L) ∧ Below w.heap.size w w')
/-- the loops' world -/
structure Mo (w : World) (g1 g2 gp : Nat) (L M : List Nat) (p : Vq) (W : World) : Prop where
  below : Below w.heap.size w W
  l : ∀ i (h : i < L.length), W.cell? ⟨g1, i, none⟩ = some (.int .i64 (L[i] : Int))
  m : ∀ i (h : i < M.length), W.cell? ⟨g2, i, none⟩ = some (.int .i64 (M[i] : Int))
  p : W.heap[gp]? = some (.cells #[.int .u8 p.k, .float .f64 p.x, .string p.s, .int .i64 p.r] 34 (0, 0))
theorem Mo.drew {w : World} {g1 g2 gp : Nat} {L M : List Nat} {p : Vq} {W : World} (h : Mo w g1 g2 gp L M p W) : Mo w g1 g2 gp L M p W.drew := ⟨h.below.trans ((Below.refl _ _).drew), h.l, h.m, h.p⟩
theorem Mo.c {w : World} {g1 g2 gp : Nat} {L M : List Nat} {p : Vq} {W : World} (h : Mo w g1 g2 gp L M p W) : W.cell? ⟨gp, 3, none⟩ = some (.int .i64 p.r) := (vcells h.p 3).trans rfl
def anyR (L : List Nat) (i : Nat) (r : Int) : Bool := (L.take i).any fun x => ((x : Int) == r)
end Go.Proofs.YtlfbflclefndjaaGreatDoor.S
/-
  HeapKeeps' reaches: from what one comes to one comes to nothing else.
-/
namespace Go.Proofs.YtlfbflclefndjaaGreatDoor.S
open Go.RowKit Go.Lib Fl
open Classical

/-- the loop's world -/
structure Mq (w : World) (g1 g2 : Nat) (L : List Nat) (W : World) : Prop where
  below : Below w.heap.size w W
  l : ∀ i (h : i < L.length), W.cell? ⟨g1, i, none⟩ = some (.int .i64 (L[i] : Int))
  m : ∀ i (h : i < L.length), W.cell? ⟨g2, i, none⟩ = some (.int .i64 (L[i] : Int))
theorem Mq.drew {w : World} {g1 g2 : Nat} {L : List Nat} {W : World} (h : Mq w g1 g2 L W) : Mq w g1 g2 L W.drew := ⟨h.below.trans ((Below.refl _ _).drew), h.l, h.m⟩
end Go.Proofs.YtlfbflclefndjaaGreatDoor.S
/-
  heap.Put.
-/
namespace Go.Proofs.YtlfbflclefndjaaGreatDoor.S
open Go.RowKit Go.Lib Fl
open Classical

def thE (H : List Ob) (n : Int) : Int := if n < 0 ∨ (H.length : Int) ≤ n then 2 else 0
theorem th_zero {H : List Ob} {n : Int} (h : thE H n = 0) : inZ H n := by
  unfold thE at h
  unfold inZ
  split at h
  · exact absurd h (by decide)
  · omega
theorem orE_zero {x y : Int} (h : orE x y = 0) : x = 0 ∧ y = 0 := by
  unfold orE at h
  split at h
  · exact ⟨by assumption, h⟩
  · contradiction
/-- Put's error -/
noncomputable def hpE (H : List Ob) (n : Int) (o : Ob) : Int := if orE (chkH H) (thE H n) = 0 then chkH (hput H n.toNat o) else orE (chkH H) (thE H n)
def HputTo (H : List Ob) (n : Int) (o : Ob) (w : World) (e : Ending) (w' : World) : Prop := Below w.heap.size w w' ∧ ((hpE H n o ≠ 0 ∧ e = .returned (.tuple #[.agg #[.slice none 0 0], .int .i64 (hpE H n o)])) ∨
  (hpE H n o = 0 ∧ ∃ B M, e = .returned (.tuple #[.agg #[.slice (some ⟨B, 0, none⟩) H.length H.length], .int .i64 0]) ∧ Tw w.heap.size B (hput H n.toNat o) M w'))
section
variable {ops : Array Oper} {rest : List Oper} {o : Oper} {a : Act} {w : World} {Q : Exit → Act → World → Prop} {x : Operand} {g : Nat}
theorem h1_ld {v : Value} (hw : Region.wanted o (yielded ops a.tmps) = true) (ho : o.op = .load 24 x) (hx : a.eval x = .pointer (some ⟨g, 0, none⟩)) (hg : w.heap[g]? = some (.cells #[v] 24 (0, 0)))
    (h : wpList Tryz.prog ops Q rest (a.put o.dst (.agg #[v])) w) : wpList Tryz.prog ops Q (o :: rest) a w :=
  wpList_wanted hw fun _ hK => wp_load_row 24 x ho g hx 24 _ (0, 0) _ hg Tryz.underlying24 rfl hsz (hK _ _ h)
end
end Go.Proofs.YtlfbflclefndjaaGreatDoor.S
