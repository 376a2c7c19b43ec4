/-
  The law's own: null, proxied; what is built of parts.
-/
import Derived.Test.YthnkllhfmjbbmaaGreatDoorHM41
namespace Go.Proofs.YthnkllhfmjbbmaaGreatDoor.S
open Go.RowKit Go.Lib Fl
open Classical

set_option maxRecDepth 100000 in
theorem rb_n (w : World) : (Instr.build 31 #[(0, .int .u8 1)]).run Tryz.prog w = .ok vN.val w := by kernel_rfl
set_option maxRecDepth 100000 in
theorem rb_t0 (w : World) : (Instr.build 31 #[(0, .int .u8 6)]).run Tryz.prog w = .ok (vT 0).val w := by kernel_rfl
set_option maxRecDepth 100000 in
theorem rb_t (r : Int) (w : World) : (Instr.build 31 #[(0, .int .u8 6), (3, .int .i64 r)]).run Tryz.prog w = .ok (vT r).val w := by kernel_rfl
set_option maxRecDepth 100000 in
theorem rb_7 (w : World) : (Instr.build 31 #[(0, .int .u8 3), (1, .float .f64 4619567317775286272)]).run Tryz.prog w = .ok (Vq.val ⟨3, 4619567317775286272, ⟨#[]⟩, 0⟩) w := by kernel_rfl
set_option maxRecDepth 100000 in
theorem rb_d (w : World) : (Instr.build 55 #[(0, .int .u8 51), (1, Vq.val ⟨3, 4619567317775286272, ⟨#[]⟩, 0⟩), (4, .bool true), (5, .bool true), (6, .bool true)]).run Tryz.prog w = .ok (.agg p7.d.cells) w := by kernel_rfl
set_option maxRecDepth 100000 in
theorem rb_k (w : World) : (Instr.build 63 #[(0, .string (⟨#[97]⟩ : ByteArray))]).run Tryz.prog w = .ok (.agg #[.string p7.k.str, .int .i64 p7.k.sym]) w := by kernel_rfl
set_option maxRecDepth 100000 in
theorem rb_a (a : Option Addr) (w : World) : (Instr.build 34 #[(0, .int .u8 1), (1, vN.val), (2, .bool true), (3, .slice a 1 1)]).run Tryz.prog w = .ok (.agg (obA (oA a))) w := by kernel_rfl
set_option maxRecDepth 100000 in
theorem rb_b (w : World) : (Instr.build 34 #[(0, .int .u8 1), (1, (vT 0).val), (2, .bool true)]).run Tryz.prog w = .ok (.agg (obA oB)) w := by kernel_rfl
set_option maxRecDepth 100000 in
theorem rb_p (t h : Int) (w : World) : (Instr.build 34 #[(0, .int .u8 6), (1, vN.val), (4, (vT t).val), (5, (vT h).val)]).run Tryz.prog w = .ok (.agg (obA (oP t h))) w := by kernel_rfl
set_option maxRecDepth 100000 in
theorem rb_s (a : Option Addr) (w : World) : (Instr.buildSlice 22 2 #[(0, .agg (obA (oA a))), (1, .agg (obA oB))]).run Tryz.prog w = .ok (.slice (some ⟨w.heap.size, 0, none⟩) 2 2) (w.alloc (.cells (hcl (H2 a)).toArray 34)) := by kernel_rfl
set_option maxRecDepth 100000 in
theorem rb_s7 (w : World) : (Instr.buildSlice 32 1 #[(0, .agg (prA p7))]).run Tryz.prog w = .ok (.slice (some ⟨w.heap.size, 0, none⟩) 1 1) (w.alloc (.cells (prCells [p7]).toArray 93)) := by kernel_rfl
set_option maxRecDepth 100000 in
theorem rb_h (v : Option Addr) (w : World) : (Instr.build 24 #[(0, .slice v 2 2)]).run Tryz.prog w = .ok (.agg #[.slice v 2 2]) w := by kernel_rfl
section
variable {ops : Array Oper} {rest : List Oper} {o : Oper} {a : Act} {w : World} {Q : Exit → Act → World → Prop} {x y z : Operand}
theorem eb_n (ho : o.op = .build 31 #[(0, .const (.int .u8 1))]) : (execOp a.eval o).run Tryz.prog w = .ok (.value vN.val) w := by
  unfold execOp
  simp only [ho, List.map_toArray, List.map_cons, List.map_nil, Act.eval, rb_n, Sem.run_bind, Sem.run_pure, Result.andThen_ok]
theorem eb_t0 (ho : o.op = .build 31 #[(0, .const (.int .u8 6))]) : (execOp a.eval o).run Tryz.prog w = .ok (.value (vT 0).val) w := by
  unfold execOp
  simp only [ho, List.map_toArray, List.map_cons, List.map_nil, Act.eval, rb_t0, Sem.run_bind, Sem.run_pure, Result.andThen_ok]
theorem eb_t {r : Int} (ho : o.op = .build 31 #[(0, .const (.int .u8 6)), (3, x)]) (hx : a.eval x = .int .i64 r) : (execOp a.eval o).run Tryz.prog w = .ok (.value (vT r).val) w := by
  unfold execOp
  have hc : ∀ v, a.eval (.const v) = v := fun _ => rfl
  simp only [ho, List.map_toArray, List.map_cons, List.map_nil, hc, hx, rb_t, Sem.run_bind, Sem.run_pure, Result.andThen_ok]
theorem eb_7 (ho : o.op = .build 31 #[(0, .const (.int .u8 3)), (1, .const (.float .f64 4619567317775286272))]) : (execOp a.eval o).run Tryz.prog w = .ok (.value (Vq.val ⟨3, 4619567317775286272, ⟨#[]⟩, 0⟩)) w := by
  unfold execOp
  simp only [ho, List.map_toArray, List.map_cons, List.map_nil, Act.eval, rb_7, Sem.run_bind, Sem.run_pure, Result.andThen_ok]
theorem eb_d (ho : o.op = .build 55 #[(0, .const (.int .u8 51)), (1, x), (4, .const (.bool true)), (5, .const (.bool true)), (6, .const (.bool true))]) (hx : a.eval x = Vq.val ⟨3, 4619567317775286272, ⟨#[]⟩, 0⟩) : (execOp a.eval o).run Tryz.prog w = .ok (.value (.agg p7.d.cells)) w := by
  unfold execOp
  have hc : ∀ v, a.eval (.const v) = v := fun _ => rfl
  simp only [ho, List.map_toArray, List.map_cons, List.map_nil, hc, hx, rb_d, Sem.run_bind, Sem.run_pure, Result.andThen_ok]
theorem eb_k (ho : o.op = .build 63 #[(0, .const (.string (⟨#[97]⟩ : ByteArray)))]) : (execOp a.eval o).run Tryz.prog w = .ok (.value (.agg #[.string p7.k.str, .int .i64 p7.k.sym])) w := by
  unfold execOp
  simp only [ho, List.map_toArray, List.map_cons, List.map_nil, Act.eval, rb_k, Sem.run_bind, Sem.run_pure, Result.andThen_ok]
theorem eb_a {A : Option Addr} (ho : o.op = .build 34 #[(0, .const (.int .u8 1)), (1, x), (2, .const (.bool true)), (3, y)]) (hx : a.eval x = vN.val) (hy : a.eval y = .slice A 1 1) : (execOp a.eval o).run Tryz.prog w = .ok (.value (.agg (obA (oA A)))) w := by
  unfold execOp
  have hc : ∀ v, a.eval (.const v) = v := fun _ => rfl
  simp only [ho, List.map_toArray, List.map_cons, List.map_nil, hc, hx, hy, rb_a, Sem.run_bind, Sem.run_pure, Result.andThen_ok]
theorem eb_b (ho : o.op = .build 34 #[(0, .const (.int .u8 1)), (1, x), (2, .const (.bool true))]) (hx : a.eval x = (vT 0).val) : (execOp a.eval o).run Tryz.prog w = .ok (.value (.agg (obA oB))) w := by
  unfold execOp
  have hc : ∀ v, a.eval (.const v) = v := fun _ => rfl
  simp only [ho, List.map_toArray, List.map_cons, List.map_nil, hc, hx, rb_b, Sem.run_bind, Sem.run_pure, Result.andThen_ok]
theorem eb_p {t h : Int} (ho : o.op = .build 34 #[(0, .const (.int .u8 6)), (1, x), (4, y), (5, z)]) (hx : a.eval x = vN.val) (hy : a.eval y = (vT t).val) (hz : a.eval z = (vT h).val) : (execOp a.eval o).run Tryz.prog w = .ok (.value (.agg (obA (oP t h)))) w := by
  unfold execOp
  have hc : ∀ v, a.eval (.const v) = v := fun _ => rfl
  simp only [ho, List.map_toArray, List.map_cons, List.map_nil, hc, hx, hy, hz, rb_p, Sem.run_bind, Sem.run_pure, Result.andThen_ok]
theorem eb_s {A : Option Addr} (ho : o.op = .buildSlice 22 2 #[(0, x), (1, y)]) (hx : a.eval x = .agg (obA (oA A))) (hy : a.eval y = .agg (obA oB)) : (execOp a.eval o).run Tryz.prog w = .ok (.value (.slice (some ⟨w.heap.size, 0, none⟩) 2 2)) (w.alloc (.cells (hcl (H2 A)).toArray 34)) := by
  unfold execOp
  simp only [ho, List.map_toArray, List.map_cons, List.map_nil, hx, hy, rb_s, Sem.run_bind, Sem.run_pure, Result.andThen_ok]
theorem eb_h {v : Option Addr} (ho : o.op = .build 24 #[(0, x)]) (hx : a.eval x = .slice v 2 2) : (execOp a.eval o).run Tryz.prog w = .ok (.value (.agg #[.slice v 2 2])) w := by
  unfold execOp
  simp only [ho, List.map_toArray, List.map_cons, List.map_nil, hx, rb_h, Sem.run_bind, Sem.run_pure, Result.andThen_ok]
end
theorem vN_one : (#[.int .u8 vN.k, .float .f64 vN.x, .string vN.s, .int .i64 vN.r] : Array Value).all (·.oneCell') = true := cells_one (l := [.int .u8 vN.k, .float .f64 vN.x, .string vN.s, .int .i64 vN.r]) rfl
set_option maxRecDepth 100000 in
theorem null_l (w : World) : Calls Tryz.prog 18 #[] w fun e w' => e = .returned vN.val ∧ Below w.heap.size w w' := by
  have hb : (w.alloc (.cells #[.int .u8 0, .float .f64 0, .string ⟨#[]⟩, .int .i64 0] 31)).heap[w.heap.size]? = some (.cells #[.int .u8 0, .float .f64 0, .string ⟨#[]⟩, .int .i64 0] 31 (0, 0)) := heap_alloc_new _ _
  have hB := vzero w (.cells #[.int .u8 0, .float .f64 0, .string ⟨#[]⟩, .int .i64 0] 31)
  go_enter Tryz.func18, Tryz.ntmps18
  go_wp2_with (first
    | ((with_reducible refine w_run ?_ (eb_n rfl) ?_); (rfl))
    | ((with_reducible refine t_store (cs := #[.int .u8 vN.k, .float .f64 vN.x, .string vN.s, .int .i64 vN.r]) rfl rfl rfl rfl hb ?_ ?_ vN_one hB (Nat.le_refl _) ?_); (exact vsz4); (rfl); intro W hBW hW _ _))
  exact val_end Tryz.results18 rfl hW ⟨rfl, hBW⟩
theorem o_end {f : Func} {i : Nat} {t : TypeId} {Q : Ending → World → Prop} {tmps : Array Value} {W : World} {g : Nat} {p : Ob} (hf : f.results = #[.cell i 34]) (h2 : tmps.getD i undef = .pointer (some ⟨g, 0, none⟩)) (hb : W.heap[g]? = some (.cells (obA p) t (0, 0)))
    (hQ : Q (.returned (.agg (obA p))) W) : bodyPost Tryz.prog f Q .ret { tmps := tmps, defers := [] } W :=
  bodyPost_ret (results_cell_row hf tmps W g t _ (0, 0) _ h2 hb Tryz.underlying34 rfl osz) rfl hQ
set_option maxRecDepth 100000 in
theorem proxied_l (t h : Int) (w : World) : Calls Tryz.prog 13 #[.int .i64 t, .int .i64 h] w fun e w' => e = .returned (.agg (obA (oP t h))) ∧ Below w.heap.size w w' := by
  have cN := fun W => null_l W
  have hc1 := obA_one (oP t h)
  have hi1 : (Tryz.prog.info? 34).map (·.size) = some (obA (oP t h)).size := osz
  go_enter Tryz.func13, Tryz.ntmps13
  go_wp2_with (first
    | (go_at_call 18; (with_reducible refine (cN _).mono ?_); rintro e w1 ⟨rfl, h9⟩; have hb := vblk1 h9; have HB := Lib.hid (vafter h9); clear h9)
    | ((with_reducible refine w_run ?_ (eb_t rfl rfl) ?_); (rfl))
    | ((with_reducible refine w_run ?_ (eb_p rfl rfl rfl rfl) ?_); (rfl))
    | ((with_reducible refine t_store rfl rfl rfl rfl hb hi1 ?_ hc1 HB.out (Nat.le_refl _) ?_); (rfl); intro W hBW hW _ _))
  exact o_end Tryz.results13 rfl hW ⟨rfl, hBW⟩
end Go.Proofs.YthnkllhfmjbbmaaGreatDoor.S
/-
  The law's own: two.
-/
namespace Go.Proofs.YthnkllhfmjbbmaaGreatDoor.S
open Go.RowKit Go.Lib Fl
open Classical

theorem wpAnyH_strong {P : Program} {md : Region.Mode} {ops : Array Oper} {Q : Exit → Act → World → Prop} {S S' : World → Prop} (h : ∀ w, S' w → S w) : ∀ (fuel : Nat) (listed : Array Bool) (a : Act) (w : World), wpAnyH P md ops Q S' fuel listed a w → wpAnyH P md ops Q S fuel listed a w
  | 0, _, _, _, g => g
  | fuel + 1, _, _, _, g => ⟨g.1, fun i hi => wpOp_mono (fun a' w' h' => ⟨h _ h'.1, wpAnyH_strong h fuel _ a' w' h'.2⟩) (g.2 i hi)⟩
section
variable {ops : Array Oper} {o : Oper} {w w2 : World} {Q : Exit → Act → World → Prop} {K : Act → World → Prop} {x y : Operand} {xs : List Value} {ds : List Deferred} {d g : Nat} {v : Value} {t ty : TypeId} {cs old : Array Value}
theorem r_val (hw : Region.wanted o (yielded ops (Act.mk xs.toArray ds).tmps) = true) (hr : (execOp (Act.mk xs.toArray ds).eval o).run Tryz.prog w = .ok (.value v) w2) (hd : o.dst = some d) (h : K ⟨(xs.set d v).toArray, ds⟩ w2) :
    if Region.wanted o (yielded ops (Act.mk xs.toArray ds).tmps) = true then Oper.wp Tryz.prog o ⟨xs.toArray, ds⟩ w K Q else K ((Act.mk xs.toArray ds).put o.dst undef) w := by
  rw [if_pos hw]
  unfold Oper.wp
  rw [hr]
  show K ((Act.mk xs.toArray ds).put o.dst v) w2
  rw [hd, hput_some]
  exact h
theorem r_store (hw : Region.wanted o (yielded ops (Act.mk xs.toArray ds).tmps) = true) (ho : o.op = .store ty x y) (hx : (Act.mk xs.toArray ds).eval x = .pointer (some ⟨g, 0, none⟩)) (hy : (Act.mk xs.toArray ds).eval y = .agg cs) (hg : w.heap[g]? = some (.cells old t (0, 0)))
    (hi : (Tryz.prog.info? ty).map (·.size) = some cs.size) (hold : old.size = cs.size) (h1 : cs.all (·.oneCell') = true) (hd : o.dst = none) (h : K ⟨xs.toArray, ds⟩ (w.setRow g cs)) :
    if Region.wanted o (yielded ops (Act.mk xs.toArray ds).tmps) = true then Oper.wp Tryz.prog o ⟨xs.toArray, ds⟩ w K Q else K ((Act.mk xs.toArray ds).put o.dst undef) w := by
  rw [if_pos hw]
  refine wp_store_row ty x y ho g cs hx hy t old hg hi hold h1 ?_
  rw [hd]
  exact h
end
/-- two's own blocks -/
structure Ts (w : World) (W : World) : Prop where
  b : ∃ v, W.heap[w.heap.size]? = some (.cells #[v] 24 (0, 0))
  d : W.heap[w.heap.size + 1]? = some (.cells p7.d.cells 55 (0, 0))
  below : Below w.heap.size w W
theorem Ts.up {w W W' : World} (h : Ts w W) (hb : Below W.heap.size W W') : Ts w W' := ⟨h.b.imp fun _ g => vblkn hb g, vblkn hb h.d, vb h.below hb⟩
structure Tp (w : World) (g : Nat) (W : World) : Prop where
  ts : Ts w W
  p : W.heap[g]? = some (.cells (prCells [p7]).toArray 93 (0, 0))
  le : w.heap.size + 2 ≤ g
theorem Tp.up {w W W' : World} {g : Nat} (h : Tp w g W) (hb : Below W.heap.size W W') : Tp w g W' := ⟨h.ts.up hb, vblkn hb h.p, h.le⟩
theorem Ts.size {w W : World} (h : Ts w W) : w.heap.size + 2 ≤ W.heap.size := lt_blk h.d
theorem Tp.set {w W : World} {g : Nat} (h : Tp w g W) (v : Value) : Tp w g (W.setRow w.heap.size #[v]) :=
  ⟨⟨⟨v, setRow_heap _ _ _ _ _ _ h.ts.b.choose_spec⟩, (setRow_other W _ _ _ (by omega)).trans h.ts.d, below_row h.ts.below (Nat.le_refl _) _⟩, (setRow_other W _ _ _ (by have := h.le; omega)).trans h.p, h.le⟩
def TwoTo (w : World) (e : Ending) (w' : World) : Prop := ∃ B g, e = .returned (.agg #[.slice (some ⟨B, 0, none⟩) 2 2]) ∧ w'.heap[B]? = some (.cells (hcl (H2 (some ⟨g, 0, none⟩))).toArray 34 (0, 0)) ∧ w'.heap[g]? = some (.cells (prCells [p7]).toArray 93 (0, 0)) ∧ Below w.heap.size w w'
set_option maxHeartbeats 4000000 in
set_option maxRecDepth 100000 in
theorem two_l (w : World) : Calls Tryz.prog 12 #[] w (TwoTo w) := by
  have cN := fun W => null_l W
  have hsz1 : ∀ v : Value, (Tryz.prog.info? 24).map (·.size) = some (#[v] : Array Value).size := fun v => hsz
  have hdc : ∀ c : Array Value, (w.alloc (.cells #[.slice none 0 0] 24)).heap.size = w.heap.size + 1 := fun _ => by simp
  have hi1 : (Tryz.prog.info? 55).map (·.size) = some p7.d.cells.size := dsz
  have hc1 : p7.d.cells.all (·.oneCell') = true := cells_one (l := p7.d.cells.toList) rfl
  go_enter Tryz.func12, Tryz.ntmps12
  go_upto_region 2 with (first
    | ((with_reducible refine w_run ?_ (eb_7 rfl) ?_); (rfl))
    | ((with_reducible refine w_run ?_ (eb_d rfl rfl) ?_); (rfl))
    | ((with_reducible refine t_store rfl rfl rfl rfl (vblk2 (Below.refl _ _)).2 hi1 ?_ hc1 (vafter (vzero _ _)) (Nat.le_succ _) ?_); (rfl); intro W hBW hW hO hs))
  have hb0 : W.heap[w.heap.size]? = some (.cells #[.slice none 0 0] 24 (0, 0)) := (hO _ (by omega)).trans (vblk2 (Below.refl _ _)).1
  have hS : Ts w W.drew := (Ts.mk ⟨_, hb0⟩ hW hBW).up (Below.refl _ _).drew
  clear hO hs hBW hW hb0 hdc
  refine wp_region_held_drew (S := Ts w) (by kernel_rfl) hS (fun hHeld => ?_)
  refine hH_take (i := 1) (v := .agg #[.string p7.k.str, .int .i64 p7.k.sym]) (d := 5) (l2 := #[false, true, false, false, false, false, false, false, false, false, false]) rfl (by kernel_rfl) (by kernel_rfl) (by kernel_rfl) (fun _ _ _ h => h) (by kernel_rfl) (fun w hSw => eb_k rfl) (by assumption) rfl (by kernel_rfl) ?_
  simp only [List.set]
  refine hH_take (i := 2) (v := .agg p7.d.cells) (d := 6) (l2 := #[false, true, true, false, false, false, false, false, false, false, false]) rfl (by kernel_rfl) (by kernel_rfl) (by kernel_rfl) (fun _ _ _ h => h) (by kernel_rfl) (fun w hSw => ex_load_at (d2_load hSw.d) rfl rfl) (by assumption) rfl (by kernel_rfl) ?_
  simp only [List.set]
  refine hH_take (i := 3) (v := .agg (prA p7)) (d := 7) (l2 := #[false, true, true, true, false, false, false, false, false, false, false]) rfl (by kernel_rfl) (by kernel_rfl) (by kernel_rfl) (fun _ _ _ h => h) (by kernel_rfl) (fun w hSw => e_build rfl rfl rfl) (by assumption) rfl (by kernel_rfl) ?_
  simp only [List.set]
  refine hH_take (i := 6) (v := (vT 0).val) (d := 10) (l2 := #[false, true, true, true, false, false, true, false, false, false, false]) rfl (by kernel_rfl) (by kernel_rfl) (by kernel_rfl) (fun _ _ _ h => h) (by kernel_rfl) (fun w hSw => eb_t0 rfl) (by assumption) rfl (by kernel_rfl) ?_
  simp only [List.set]
  refine hH_take (i := 7) (v := .agg (obA oB)) (d := 11) (l2 := #[false, true, true, true, false, false, true, true, false, false, false]) rfl (by kernel_rfl) (by kernel_rfl) (by kernel_rfl) (fun _ _ _ h => h) (by kernel_rfl) (fun w hSw => eb_b rfl rfl) (by assumption) rfl (by kernel_rfl) ?_
  simp only [List.set]
  refine wpAnyH_ready (rs := [0, 4]) (by kernel_rfl) (by simp) ?_
  refine AllReadyH.cons rfl (fun K hK => ?_) (AllReadyH.cons rfl (fun K hK => ?_) AllReadyH.nil)
  · go_simp
    go_at_call 18
    (with_reducible refine (cN _).mono ?_)
    rintro e w1 ⟨rfl, h1⟩
    have hS := hS.up h1
    refine hK.out _ _ hS (fun hHeld => ?_)
    clear hK K h1
    refine wpAnyH_ready (rs := [4]) (by kernel_rfl) (by simp) ?_
    refine AllReadyH.cons rfl (fun K hK => ?_) AllReadyH.nil
    refine r_val (by kernel_rfl) (e_slice1 (p := p7) rfl rfl) rfl ?_
    simp only [List.set]
    have hT : Tp w (w1).heap.size ((w1).alloc (.cells (prCells [p7]).toArray 93)) := ⟨hS.up (vzero _ _), heap_alloc_new _ _, hS.size⟩
    refine hK.out _ _ hT.ts (fun hHeld => ?_)
    clear hK K hHeld
    refine wpAnyH_strong (S' := Tp w (w1).heap.size) (fun _ h => h.ts) _ _ _ _ ?_
    refine hH_take (i := 5) (v := .agg (obA (oA (some ⟨(w1).heap.size, 0, none⟩)))) (d := 9) (l2 := #[true, true, true, true, true, true, true, true, false, false, false]) rfl (by kernel_rfl) (by kernel_rfl) (by kernel_rfl) (fun _ _ _ h => h) (by kernel_rfl) (fun w hSw => eb_a rfl rfl rfl) (by assumption) rfl (by kernel_rfl) ?_
    simp only [List.set]
    refine wpAnyH_ready (rs := [8]) (by kernel_rfl) (by simp) ?_
    refine AllReadyH.cons rfl (fun K hK => ?_) AllReadyH.nil
    refine r_val (by kernel_rfl) (eb_s rfl rfl rfl) rfl ?_
    simp only [List.set]
    have hT2 := hT.up (vzero _ (.cells (hcl (H2 (some ⟨(w1).heap.size, 0, none⟩))).toArray 34))
    have hH2 := heap_alloc_new (w1.alloc (.cells (prCells [p7]).toArray 93)) (.cells (hcl (H2 (some ⟨(w1).heap.size, 0, none⟩))).toArray 34)
    have hsz := hT.ts.size
    refine hK.out _ _ hT2 (fun hHeld => ?_)
    clear hK K hHeld
    refine hH_take (i := 9) (v := .agg #[.slice (some ⟨(w1.alloc (.cells (prCells [p7]).toArray 93)).heap.size, 0, none⟩) 2 2]) (d := 13) (l2 := #[true, true, true, true, true, true, true, true, true, true, false]) rfl (by kernel_rfl) (by kernel_rfl) (by kernel_rfl) (fun _ _ _ h => h) (by kernel_rfl) (fun w hSw => eb_h rfl rfl) (by assumption) rfl (by kernel_rfl) ?_
    simp only [List.set]
    refine wpAnyH_ready (rs := [10]) (by kernel_rfl) (by simp) ?_
    refine AllReadyH.cons rfl (fun K hK => ?_) AllReadyH.nil
    refine r_store (by kernel_rfl) rfl rfl rfl hT2.ts.b.choose_spec (hsz1 _) rfl (cells_one (l := [.slice (some ⟨(w1.alloc (.cells (prCells [p7]).toArray 93)).heap.size, 0, none⟩) 2 2]) rfl) rfl ?_
    have hT3 := hT2.set (.slice (some ⟨(w1.alloc (.cells (prCells [p7]).toArray 93)).heap.size, 0, none⟩) 2 2)
    have hH3 := (setRow_other _ w.heap.size _ #[.slice (some ⟨(w1.alloc (.cells (prCells [p7]).toArray 93)).heap.size, 0, none⟩) 2 2] (by omega)).trans hH2
    have hr3 : (World.setRow _ w.heap.size #[Value.slice (some ⟨(w1.alloc (.cells (prCells [p7]).toArray 93)).heap.size, 0, none⟩) 2 2]).heap[w.heap.size]? = some (.cells #[Value.slice (some ⟨(w1.alloc (.cells (prCells [p7]).toArray 93)).heap.size, 0, none⟩) 2 2] 24 (0, 0)) := setRow_heap _ _ _ _ _ _ hT2.ts.b.choose_spec
    refine hK.out _ _ hT3 (fun hHeld => ?_)
    clear hK K hHeld
    refine wpAnyH_done (by kernel_rfl) ?_ _
    go_wp2
    exact h_end Tryz.results12 rfl hr3 ⟨_, _, rfl, hH3, hT3.p, hT3.ts.below⟩
  · skip
    refine r_val (by kernel_rfl) (e_slice1 (p := p7) rfl rfl) rfl ?_
    simp only [List.set]
    have hT : Tp w (W.drew).heap.size ((W.drew).alloc (.cells (prCells [p7]).toArray 93)) := ⟨hS.up (vzero _ _), heap_alloc_new _ _, hS.size⟩
    refine hK.out _ _ hT.ts (fun hHeld => ?_)
    clear hK K hHeld
    refine wpAnyH_strong (S' := Tp w (W.drew).heap.size) (fun _ h => h.ts) _ _ _ _ ?_
    refine wpAnyH_ready (rs := [0]) (by kernel_rfl) (by simp) ?_
    refine AllReadyH.cons rfl (fun K hK => ?_) AllReadyH.nil
    go_simp
    go_at_call 18
    (with_reducible refine (cN _).mono ?_)
    rintro e w1 ⟨rfl, h1⟩
    have hT := hT.up h1
    refine hK.out _ _ hT (fun hHeld => ?_)
    clear hK K h1
    refine hH_take (i := 5) (v := .agg (obA (oA (some ⟨(W.drew).heap.size, 0, none⟩)))) (d := 9) (l2 := #[true, true, true, true, true, true, true, true, false, false, false]) rfl (by kernel_rfl) (by kernel_rfl) (by kernel_rfl) (fun _ _ _ h => h) (by kernel_rfl) (fun w hSw => eb_a rfl rfl rfl) (by assumption) rfl (by kernel_rfl) ?_
    simp only [List.set]
    refine wpAnyH_ready (rs := [8]) (by kernel_rfl) (by simp) ?_
    refine AllReadyH.cons rfl (fun K hK => ?_) AllReadyH.nil
    refine r_val (by kernel_rfl) (eb_s rfl rfl rfl) rfl ?_
    simp only [List.set]
    have hT2 := hT.up (vzero _ (.cells (hcl (H2 (some ⟨(W.drew).heap.size, 0, none⟩))).toArray 34))
    have hH2 := heap_alloc_new w1 (.cells (hcl (H2 (some ⟨(W.drew).heap.size, 0, none⟩))).toArray 34)
    have hsz := hT.ts.size
    refine hK.out _ _ hT2 (fun hHeld => ?_)
    clear hK K hHeld
    refine hH_take (i := 9) (v := .agg #[.slice (some ⟨w1.heap.size, 0, none⟩) 2 2]) (d := 13) (l2 := #[true, true, true, true, true, true, true, true, true, true, false]) rfl (by kernel_rfl) (by kernel_rfl) (by kernel_rfl) (fun _ _ _ h => h) (by kernel_rfl) (fun w hSw => eb_h rfl rfl) (by assumption) rfl (by kernel_rfl) ?_
    simp only [List.set]
    refine wpAnyH_ready (rs := [10]) (by kernel_rfl) (by simp) ?_
    refine AllReadyH.cons rfl (fun K hK => ?_) AllReadyH.nil
    refine r_store (by kernel_rfl) rfl rfl rfl hT2.ts.b.choose_spec (hsz1 _) rfl (cells_one (l := [.slice (some ⟨w1.heap.size, 0, none⟩) 2 2]) rfl) rfl ?_
    have hT3 := hT2.set (.slice (some ⟨w1.heap.size, 0, none⟩) 2 2)
    have hH3 := (setRow_other _ w.heap.size _ #[.slice (some ⟨w1.heap.size, 0, none⟩) 2 2] (by omega)).trans hH2
    have hr3 : (World.setRow _ w.heap.size #[Value.slice (some ⟨w1.heap.size, 0, none⟩) 2 2]).heap[w.heap.size]? = some (.cells #[Value.slice (some ⟨w1.heap.size, 0, none⟩) 2 2] 24 (0, 0)) := setRow_heap _ _ _ _ _ _ hT2.ts.b.choose_spec
    refine hK.out _ _ hT3 (fun hHeld => ?_)
    clear hK K hHeld
    refine wpAnyH_done (by kernel_rfl) ?_ _
    go_wp2
    exact h_end Tryz.results12 rfl hr3 ⟨_, _, rfl, hH3, hT3.p, hT3.ts.below⟩
end Go.Proofs.YthnkllhfmjbbmaaGreatDoor.S
/-
  The law's own: alive.
-/
namespace Go.Proofs.YthnkllhfmjbbmaaGreatDoor.S
open Go.RowKit Go.Lib Fl
open Classical

structure TwoAt (B g : Nat) (W : World) : Prop where
  b : W.heap[B]? = some (.cells (hcl (H2 (some ⟨g, 0, none⟩))).toArray 34 (0, 0))
  p : W.heap[g]? = some (.cells (prCells [p7]).toArray 93 (0, 0))
theorem TwoAt.up {B g : Nat} {W W' : World} (h : TwoAt B g W) (hb : Below W.heap.size W W') : TwoAt B g W' := ⟨vblkn hb h.b, vblkn hb h.p⟩
theorem TwoAt.inn {B g : Nat} {W : World} (h : TwoAt B g W) : HIn W (some ⟨B, 0, none⟩) (H2 (some ⟨g, 0, none⟩)) 2 := by
  refine ⟨fun o ho => ?_, fun _ => ⟨_, rfl, lt_blk h.b, fun i hi => ⟨?_, ?_⟩⟩, by show 2 ≤ 5000; decide, fun o ho => ?_, Nat.le_refl _, by decide, fun hc => by cases hc⟩
  · simp only [H2, List.mem_cons, List.not_mem_nil, or_false] at ho
    rcases ho with rfl | rfl
    · exact oA_in g
    · exact oB_in
  · refine of_cells (by rw [add_blk]; exact lt_blk h.b) fun j u hu => ?_
    have hj : j < 18 := by have := (List.getElem?_eq_some_iff.1 hu).1; rw [ocl_len] at this; exact this
    rw [add_add, Addr.add_mid, Nat.zero_add, vcells h.b (i * 18 + j), List.getElem?_toArray, hcl_at _ i hi j hj]
    exact hu
  · match i, hi with
    | 0, _ => exact pr_blk h.p
    | 1, _ => exact pr_nil
    | n + 2, h => exact absurd h (by simp [H2])
  · simp only [H2, List.mem_cons, List.not_mem_nil, or_false] at ho
    rcases ho with rfl | rfl
    · show 1 < 1000000000000; decide
    · show 0 < 1000000000000; decide
theorem two_few {a : Option Addr} : ∀ o ∈ H2 a, o.props.length ≤ 100000 := fun o ho => by
  simp only [H2, List.mem_cons, List.not_mem_nil, or_false] at ho
  rcases ho with rfl | rfl
  · show 1 ≤ 100000; decide
  · show 0 ≤ 100000; decide
theorem new_two {B g : Nat} {W : World} (h : TwoAt B g W) (htab : TabHere W) : Calls Tryz.prog 11 #[.agg #[.slice (some ⟨B, 0, none⟩) 2 2], .agg (obA (oP 0 1))] W fun e w' => ∃ B' : Nat, e = .returned (.tuple #[.agg #[.slice (some ⟨B', 0, none⟩) 3 3], .int .i64 2, .int .i64 0]) ∧ w'.cell? ⟨B', 36, none⟩ = some (.int .u8 6) ∧ Below W.heap.size W w' := by
  refine (New_h (some ⟨B, 0, none⟩) (H2 (some ⟨g, 0, none⟩)) 2 (oP 0 1) W h.inn two_few pr_nil oP_in (by show 0 ≤ 100000; decide) htab).mono ?_
  rintro e w' ⟨hb, ⟨hz, _⟩ | ⟨_, B', M, rfl, hT⟩⟩
  · exact absurd (new2 _) hz
  · refine ⟨B', rfl, ?_, hb⟩
    have hl : M.length = 3 := hT.len
    obtain ⟨g2, _, e2, _⟩ := (hT.all 2 (by omega) (by show 2 < 3; decide)).out
    have h3 := hcl_at M 2 (by omega) 0 (by decide)
    rw [vcells hT.b 36, List.getElem?_toArray]
    refine h3.trans ?_
    rw [e2]
    rfl
theorem chk_two {B g : Nat} {W : World} (h : TwoAt B g W) (htab : TabHere W) : Calls Tryz.prog 20 #[.agg #[.slice (some ⟨B, 0, none⟩) 2 2]] W fun e w' => e = .returned (.int .i64 0) ∧ Below W.heap.size W w' := by
  have := Check_h (some ⟨B, 0, none⟩) (H2 (some ⟨g, 0, none⟩)) 2 W h.inn htab
  rw [chk_ok (may2 _)] at this
  exact this
set_option maxHeartbeats 4000000 in
set_option maxRecDepth 100000 in
theorem hpalive_any (w : World) (htab : TabHere w) : Calls Tryz.prog 19 #[] w fun e w' => e = .returned (.bool true) ∧ Below w.heap.size w w' := by
  have cT := fun W => two_l W
  have cP := fun W => proxied_l 0 1 W
  have cN := fun W B g (hb : Below w.heap.size w W) (h : TwoAt B g W) => new_two h (tab_up htab hb)
  have cC := fun W B g (hb : Below w.heap.size w W) (h : TwoAt B g W) => chk_two h (tab_up htab hb)
  clear htab
  go_enter Tryz.func19, Tryz.ntmps19
  go_wp2_with (first
    | (go_at_call 12; (with_reducible refine (cT _).mono ?_); rintro e w4 ⟨B, g, rfl, t1, t2, h9⟩; have hT : TwoAt B g w4 := ⟨t1, t2⟩; have HB := Lib.hid (vb HB.out (vafter h9)); clear h9 t1 t2)
    | (go_at_call 12; (with_reducible refine (cT _).mono ?_); rintro e w1 ⟨B, g, rfl, t1, t2, h9⟩; have hT : TwoAt B g w1 := ⟨t1, t2⟩; have HB := Lib.hid h9; clear h9 t1 t2)
    | (go_at_call 20; (with_reducible refine (cC _ _ _ HB.out hT).mono ?_); rintro e w5 ⟨rfl, h9⟩; have HB := Lib.hid (vb HB.out h9); clear h9 hT)
    | (go_at_call 13; (with_reducible refine (cP _).mono ?_); rintro e w2 ⟨rfl, h9⟩; have hT := hT.up h9; have HB := Lib.hid (vb HB.out h9); clear h9)
    | (go_at_call 11; (with_reducible refine (cN _ _ _ HB.out hT).mono ?_); rintro e w3 ⟨B3, rfl, hc3, h9⟩; have hc4 := cell_old hc3 (.cells #[.slice (some ⟨B3, 0, none⟩) 3 3] 24); have HB := Lib.hid (vb HB.out h9); clear h9 hT))
  go_ret
  exact ⟨rfl, HB.out⟩
end Go.Proofs.YthnkllhfmjbbmaaGreatDoor.S
/-
  heap.Same: a heap's twin is the same.
-/
namespace Go.Proofs.YthnkllhfmjbbmaaGreatDoor.S
open Go.RowKit Go.Lib Fl
open Classical

set_option maxRecDepth 100000 in
theorem hsame_refl (k : Int) (x : Nat) (s : ByteArray) (r : Int) (w : World) : Calls Tryz.prog 87 #[.agg #[.int .u8 k, .float .f64 x, .string s, .int .i64 r], .agg #[.int .u8 k, .float .f64 x, .string s, .int .i64 r]] w fun e w' => e = .returned (.bool true) ∧ Below w.heap.size w w' := by
  have kn := fun w => IsNaN_f x w
  have hB : ∀ o1 o2, Below w.heap.size w ((w.alloc o1).alloc o2) := fun o1 o2 => vafter (vzero _ _)
  cases hf : FloatKind.f64.format.order x x == some .eq
  · have hn : (FloatKind.f64.format.order x x != some .eq) = true := by rw [bne, hf]; rfl
    rw [hn] at kn
    go_enter Tryz.func87, Tryz.ntmps87
    go_wp2_with (go_at_call 105; refine (kn _).mono ?_; rintro e w' ⟨rfl, rfl⟩)
    go_ret
    exact ⟨rfl, hB _ _⟩
  · go_enter Tryz.func87, Tryz.ntmps87
    go_wp2_with (go_at_call 105; refine (kn _).mono ?_; rintro e w' ⟨rfl, rfl⟩)
    go_ret
    exact ⟨rfl, hB _ _⟩
end Go.Proofs.YthnkllhfmjbbmaaGreatDoor.S
