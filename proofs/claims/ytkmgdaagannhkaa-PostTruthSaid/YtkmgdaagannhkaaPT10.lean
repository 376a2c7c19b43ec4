/-
  post: the checks of Get and Set.
-/
import Derived.Test.YtkmgdaagannhkaaPT09
import Derived.Test.YtkmgdaagannhkaaPT05
namespace Go.Proofs.Ytkmgdaagannhkaa.S
open Go.RowKit Go.Lib Fl
open Classical

theorem n_vbm {B : Nat} {w W W' : World} (h : Below B w W) (hB : B ≤ w.heap.size) (hb : Below W.heap.size W W') : Below B w W' := ⟨hb.os.trans h.os, hb.tape.trans h.tape, hb.output.trans h.output, Nat.le_trans h.size hb.size, fun k hk => (hb.block k (Nat.lt_of_lt_of_le hk (Nat.le_trans hB h.size))).trans (h.block k hk)⟩
section
variable {ops : Array Oper} {Q : Exit → Act → World → Prop} {xs : List Value} {ds : List Deferred} {w w2 : World} {g d : Nat} {K : Act → World → Prop} {o : Oper} {x y : Operand} {t ty : TypeId} {v : Value} {old cs : Array Value}
theorem r_val (hw : Region.wanted o (yielded ops (Act.mk xs.toArray ds).tmps) = true) (hr : (execOp (Act.mk xs.toArray ds).eval o).run Try.prog w = .ok (.value v) w2) (hd : o.dst = some d) (h : K ⟨(xs.set d v).toArray, ds⟩ w2) :
    if Region.wanted o (yielded ops (Act.mk xs.toArray ds).tmps) = true then Oper.wp Try.prog o ⟨xs.toArray, ds⟩ w K Q else K ((Act.mk xs.toArray ds).put o.dst undef) w := by
  rw [if_pos hw]
  unfold Oper.wp
  rw [hr]
  show K ((Act.mk xs.toArray ds).put o.dst v) w2
  rw [hd, hput_some]
  exact h
theorem r_store (hw : Region.wanted o (yielded ops (Act.mk xs.toArray ds).tmps) = true) (ho : o.op = .store ty x y) (hx : (Act.mk xs.toArray ds).eval x = .pointer (some ⟨g, 0, none⟩)) (hy : (Act.mk xs.toArray ds).eval y = .agg cs) (hg : w.heap[g]? = some (.cells old t (0, 0)))
    (hi : (Try.prog.info? ty).map (·.size) = some cs.size) (hold : old.size = cs.size) (h1 : cs.all (·.oneCell') = true) (hd : o.dst = none) (h : K ⟨xs.toArray, ds⟩ (w.setRow g cs)) :
    if Region.wanted o (yielded ops (Act.mk xs.toArray ds).tmps) = true then Oper.wp Try.prog o ⟨xs.toArray, ds⟩ w K Q else K ((Act.mk xs.toArray ds).put o.dst undef) w := by
  rw [if_pos hw]
  refine wp_store_row ty x y ho g cs hx hy t old hg hi hold h1 ?_
  rw [hd]
  exact h
end
section
variable {P : Program} {ops : Array Oper} {Q : Exit → Act → World → Prop} {md : Region.Mode} {S : World → Prop} {fuel : Nat} {l : Array Bool} {xs : List Value} {ds : List Deferred} {w : World} {a : Act}
theorem hT (i d : Nat) (v : Value) {oi : Oper} (hi : ops[i]? = some oi) (hd : oi.dst = some d) (hv : ∀ w, S w → (execOp (Act.mk xs.toArray ds).eval oi).run P w = .ok (.value v) w)
    (h : wpAnyH P md ops Q S fuel (l.setIfInBounds i true) ⟨(xs.set d v).toArray, ds⟩ w) (hs : Region.noSelect ops = true := by kernel_rfl) (hf : Region.free md ops l i = true := by kernel_rfl) (hr : (Region.ready md ops l).contains i = true := by kernel_rfl)
    (hQ : ∀ c a w, Q (.panic c) (a.put oi.dst v) w → Q (.panic c) a w := by exact fun _ _ _ h => h) (hw : Region.wanted oi (yielded ops (Act.mk xs.toArray ds).tmps) = true := by kernel_rfl) (hS : S w := by assumption) : wpAnyH P md ops Q S (fuel + 1) l ⟨xs.toArray, ds⟩ w :=
  hH_take hi hs hf hr hQ hw hv hS hd rfl h
variable {o1 o2 o3 : Oper}
theorem aH1 (i : Nat) (h1 : ops[i]? = some o1) (g1 : ∀ K' : Act → World → Prop, Shut (∀ a w, S w → (S w → wpAnyH P md ops Q S fuel (l.setIfInBounds i true) a w) → K' a w) → if Region.wanted o1 (yielded ops a.tmps) = true then Oper.wp P o1 a w K' Q else K' (a.put o1.dst undef) w)
    (hr : Region.ready md ops l = [i] := by kernel_rfl) : wpAnyH P md ops Q S (fuel + 1) l a w := wpAnyH_ready hr (by simp) (.cons h1 g1 .nil)
theorem aH2 (i j : Nat) (h1 : ops[i]? = some o1) (h2 : ops[j]? = some o2) (g1 : ∀ K' : Act → World → Prop, Shut (∀ a w, S w → (S w → wpAnyH P md ops Q S fuel (l.setIfInBounds i true) a w) → K' a w) → if Region.wanted o1 (yielded ops a.tmps) = true then Oper.wp P o1 a w K' Q else K' (a.put o1.dst undef) w)
    (g2 : ∀ K' : Act → World → Prop, Shut (∀ a w, S w → (S w → wpAnyH P md ops Q S fuel (l.setIfInBounds j true) a w) → K' a w) → if Region.wanted o2 (yielded ops a.tmps) = true then Oper.wp P o2 a w K' Q else K' (a.put o2.dst undef) w)
    (hr : Region.ready md ops l = [i, j] := by kernel_rfl) : wpAnyH P md ops Q S (fuel + 1) l a w := wpAnyH_ready hr (by simp) (.cons h1 g1 (.cons h2 g2 .nil))
end
section
variable {ops : Array Oper} {Q : Exit → Act → World → Prop} {md : Region.Mode} {fuel : Nat} {l : Array Bool} {xs : List Value} {ds : List Deferred} {w w0 : World} {n g d : Nat} {K : Act → World → Prop} {o : Oper} {x y : Operand} {t ty : TypeId} {c old cs : Array Value}
theorem aNew (hr : (execOp (Act.mk xs.toArray ds).eval o).run Try.prog w = .ok (.value (.pointer (some ⟨w.heap.size, 0, none⟩))) (w.alloc (.cells c t))) (hd : o.dst = some d) (hS : Below n w0 w) (hn : n ≤ w0.heap.size) (hK : Shut (∀ a w, Below n w0 w → (Below n w0 w → wpAnyH Try.prog md ops Q (fun V : World => Below n w0 V) fuel l a w) → K a w))
    (h : ∀ (W : World) (g : Nat), Below n w0 W → n ≤ g → W.heap[g]? = some (.cells c t (0, 0)) → Below w.heap.size w W → wpAnyH Try.prog md ops Q (fun V : World => Below n w0 V) fuel l ⟨(xs.set d (.pointer (some ⟨g, 0, none⟩))).toArray, ds⟩ W)
    (hw : Region.wanted o (yielded ops (Act.mk xs.toArray ds).tmps) = true := by kernel_rfl) : if Region.wanted o (yielded ops (Act.mk xs.toArray ds).tmps) = true then Oper.wp Try.prog o ⟨xs.toArray, ds⟩ w K Q else K ((Act.mk xs.toArray ds).put o.dst undef) w :=
  r_val hw hr hd (hK.out _ _ (n_vbm hS hn (vzero _ _)) fun hS2 => h _ _ hS2 (Nat.le_trans hn hS.size) (heap_alloc_new _ _) (vzero _ _))
theorem aPut (ho : o.op = .store ty x y) (hx : (Act.mk xs.toArray ds).eval x = .pointer (some ⟨g, 0, none⟩)) (hy : (Act.mk xs.toArray ds).eval y = .agg cs) (hg : w.heap[g]? = some (.cells old t (0, 0))) (hi : (Try.prog.info? ty).map (·.size) = some cs.size) (hold : old.size = cs.size) (h1 : cs.all (·.oneCell') = true) (hd : o.dst = none) (hS : Below n w0 w) (hn : n ≤ g)
    (hK : Shut (∀ a w, Below n w0 w → (Below n w0 w → wpAnyH Try.prog md ops Q (fun V : World => Below n w0 V) fuel l a w) → K a w))
    (h : ∀ W : World, Below n w0 W → W.heap[g]? = some (.cells cs t (0, 0)) → (∀ j, g ≠ j → W.heap[j]? = w.heap[j]?) → wpAnyH Try.prog md ops Q (fun V : World => Below n w0 V) fuel l ⟨xs.toArray, ds⟩ W)
    (hw : Region.wanted o (yielded ops (Act.mk xs.toArray ds).tmps) = true := by kernel_rfl) : if Region.wanted o (yielded ops (Act.mk xs.toArray ds).tmps) = true then Oper.wp Try.prog o ⟨xs.toArray, ds⟩ w K Q else K ((Act.mk xs.toArray ds).put o.dst undef) w :=
  r_store hw ho hx hy hg hi hold h1 hd (hK.out _ _ (below_row hS hn cs) fun hS => h _ hS (setRow_heap _ _ _ cs _ _ hg) fun j hj => setRow_other w g j cs (fun e => hj e.symm))
end
/-- the claim, with a descriptor and a value in blocks of their own -/
structure Gt (w : World) (c : Array Value) (d : Dq) (g3 : Nat) (W : World) : Prop where
  below : Below w.heap.size w W
  c : W.heap[w.heap.size]? = some (.cells c 59 (0, 0))
  d : W.heap[g3]? = some (.cells d.cells 27 (0, 0))
theorem Gt.up {w : World} {c : Array Value} {d : Dq} {g3 : Nat} {W W' : World} (h : Gt w c d g3 W) (hb : Below W.heap.size W W') : Gt w c d g3 W' := ⟨vb h.below hb, vblkn hb h.c, vblkn hb h.d⟩
structure Gt4 (w : World) (c : Array Value) (d : Dq) (v : Vq) (g3 g4 : Nat) (W : World) : Prop where
  g : Gt w c d g3 W
  v : W.heap[g4]? = some (.cells #[.int .u8 v.k, .float .f64 v.x, .string v.s, .int .i64 v.r] 24 (0, 0))
theorem Gt4.up {w : World} {c : Array Value} {d : Dq} {v : Vq} {g3 g4 : Nat} {W W' : World} (h : Gt4 w c d v g3 g4 W) (hb : Below W.heap.size W W') : Gt4 w c d v g3 g4 W' := ⟨h.g.up hb, vblkn hb h.v⟩
theorem Gt4.c {w : World} {c : Array Value} {d : Dq} {v : Vq} {g3 g4 : Nat} {W : World} (h : Gt4 w c d v g3 g4 W) : W.heap[w.heap.size]? = some (.cells c 59 (0, 0)) := h.g.c
theorem Gt4.d {w : World} {c : Array Value} {d : Dq} {v : Vq} {g3 g4 : Nat} {W : World} (h : Gt4 w c d v g3 g4 W) : W.heap[g3]? = some (.cells d.cells 27 (0, 0)) := h.g.d
theorem Gt4.below {w : World} {c : Array Value} {d : Dq} {v : Vq} {g3 g4 : Nat} {W : World} (h : Gt4 w c d v g3 g4 W) : Below w.heap.size w W := h.g.below
def gotB (v : Vq) (f : Fq) : Bool := bif !fixedB f then true else bif hasB f.d.h 12 then (f.d.b.k != 0 || v.k == 0) else (f.d.p || sameQ v f.d.a)
def putB (v : Vq) (f : Fq) : Bool := bif !fixedB f then true else bif hasB f.d.h 12 then f.d.c.k != 0 else (f.d.p || sameQ v f.d.a)
set_option maxHeartbeats 8000000 in
set_option maxRecDepth 1000000 in
theorem put_p (a : Ak) (q : Oq) (f : Fq) (hv : 0 ≤ a.v.k ∧ a.v.k ≤ 8) (h2 : 0 ≤ f.d.a.k) (w : World) : Calls Try.prog 41 #[.agg (clA a q f)] w fun e w' => e = .returned (.bool (putB a.v f)) ∧ Below w.heap.size w w' := by
  have HS := Lib.hid (ow_start w (clA a q f) 59)
  obtain ⟨q1, q2⟩ := vblk2 (w := w) (Below.refl _ ((w.alloc (.cells (clA a q f) 59)).alloc (.cells (dz 0).cells 27)))
  have hB0 : Below w.heap.size w ((w.alloc (.cells (clA a q f) 59)).alloc (.cells (dz 0).cells 27)) := vafter (vzero _ _)
  have hdi := dc_size
  have hdo := dc_one
  have cF := fun W => fixed_p a q f W
  have cS := fun W => samev hv h2 W
  have cA := fun W => isAccess_p f.d W
  unfold putB
  generalize fixedB f = b1 at *
  generalize hasB f.d.h 12 = b2 at *
  generalize sameQ a.v f.d.a = b3 at *
  go_enter Try.func41, Try.ntmps41
  go_upto_region 2 with (first
    | ((with_reducible refine cd_ld (d := f.d) (all := cll a q f) ?_ rfl rfl HS.out.c ?_ ?_); (rfl); (rfl))
    | ((refine t_store (cs := f.d.cells) rfl rfl rfl rfl q2 (hdi f.d) rfl (hdo f.d) hB0 (Nat.le_succ _) ?_); intro W2 hb2 hW2 hO2 _; have HG := Lib.hid (show Gt w (clA a q f) f.d (w.heap.size + 1) W2 from ⟨hb2, (hO2 w.heap.size (by omega)).trans q1, hW2⟩); clear hb2 hW2 hO2))
  clear q1 q2 hB0 HS
  cases b1
  · go_wp2_with (first
      | ((with_reducible refine cc_ld (k := a) (q := q) (f := f) ?_ rfl rfl HG.out.c ?_); (rfl))
      | ((with_reducible refine cv_ld (v := a.v) (all := cll a q f) ?_ rfl rfl HG.out.c ?_ ?_); (rfl); (rfl))
      | ((with_reducible refine dq_load (d := f.d) ?_ rfl rfl HG.out.d ?_); (rfl))
      | ((with_reducible refine dv_l2 (d := f.d) (v := f.d.a) ?_ rfl rfl HG.out.d ?_ ?_); (rfl); (rfl))
      | ((with_reducible refine lb_d2 ?_ rfl rfl HG.out.d ?_); (rfl); refine ⟨_, rfl, ?_⟩)
      | ((with_reducible refine lu_d2 ?_ rfl rfl HG.out.d ?_); (rfl); refine ⟨_, rfl, ?_⟩)
      | (go_at_call 57; (with_reducible refine (cF _).mono ?_); rintro e w1 ⟨rfl, h9⟩; have HG := Lib.hid (HG.out.up h9); clear h9)
      | (go_at_call 49; (with_reducible refine (cA _).mono ?_); rintro e w2 ⟨rfl, h9⟩; have HG := Lib.hid (HG.out.up h9); clear h9)
      | (go_at_call 18; (with_reducible refine (cS _).mono ?_); rintro e w3 ⟨rfl, h9⟩; have HG := Lib.hid (HG.out.up h9); clear h9)
      | (fail))
    go_ret
    exact ⟨by first | rfl | (rw [hp]; rfl) | (rw [hb]; rfl) | (simp_all), HG.out.below⟩
  · cases b2
    · cases hp : f.d.p
      · go_wp2_with (first
          | ((with_reducible refine cc_ld (k := a) (q := q) (f := f) ?_ rfl rfl HG.out.c ?_); (rfl))
          | ((with_reducible refine cv_ld (v := a.v) (all := cll a q f) ?_ rfl rfl HG.out.c ?_ ?_); (rfl); (rfl))
          | ((with_reducible refine dq_load (d := f.d) ?_ rfl rfl HG.out.d ?_); (rfl))
          | ((with_reducible refine dv_l2 (d := f.d) (v := f.d.a) ?_ rfl rfl HG.out.d ?_ ?_); (rfl); (rfl))
          | ((with_reducible refine lb_d2 ?_ rfl rfl HG.out.d ?_); (rfl); refine ⟨_, rfl, ?_⟩)
          | ((with_reducible refine lu_d2 ?_ rfl rfl HG.out.d ?_); (rfl); refine ⟨_, rfl, ?_⟩)
          | (go_at_call 57; (with_reducible refine (cF _).mono ?_); rintro e w1 ⟨rfl, h9⟩; have HG := Lib.hid (HG.out.up h9); clear h9)
          | (go_at_call 49; (with_reducible refine (cA _).mono ?_); rintro e w2 ⟨rfl, h9⟩; have HG := Lib.hid (HG.out.up h9); clear h9)
          | (go_at_call 18; (with_reducible refine (cS _).mono ?_); rintro e w3 ⟨rfl, h9⟩; have HG := Lib.hid (HG.out.up h9); clear h9)
          | (fail))
        go_ret
        exact ⟨by first | rfl | (rw [hp]; rfl) | (rw [hb]; rfl) | (simp_all), HG.out.below⟩
      · go_wp2_with (first
          | ((with_reducible refine cc_ld (k := a) (q := q) (f := f) ?_ rfl rfl HG.out.c ?_); (rfl))
          | ((with_reducible refine cv_ld (v := a.v) (all := cll a q f) ?_ rfl rfl HG.out.c ?_ ?_); (rfl); (rfl))
          | ((with_reducible refine dq_load (d := f.d) ?_ rfl rfl HG.out.d ?_); (rfl))
          | ((with_reducible refine dv_l2 (d := f.d) (v := f.d.a) ?_ rfl rfl HG.out.d ?_ ?_); (rfl); (rfl))
          | ((with_reducible refine lb_d2 ?_ rfl rfl HG.out.d ?_); (rfl); refine ⟨_, rfl, ?_⟩)
          | ((with_reducible refine lu_d2 ?_ rfl rfl HG.out.d ?_); (rfl); refine ⟨_, rfl, ?_⟩)
          | (go_at_call 57; (with_reducible refine (cF _).mono ?_); rintro e w1 ⟨rfl, h9⟩; have HG := Lib.hid (HG.out.up h9); clear h9)
          | (go_at_call 49; (with_reducible refine (cA _).mono ?_); rintro e w2 ⟨rfl, h9⟩; have HG := Lib.hid (HG.out.up h9); clear h9)
          | (go_at_call 18; (with_reducible refine (cS _).mono ?_); rintro e w3 ⟨rfl, h9⟩; have HG := Lib.hid (HG.out.up h9); clear h9)
          | (fail))
        go_ret
        exact ⟨by first | rfl | (rw [hp]; rfl) | (rw [hb]; rfl) | (simp_all), HG.out.below⟩
    · go_wp2_with (first
        | ((with_reducible refine cc_ld (k := a) (q := q) (f := f) ?_ rfl rfl HG.out.c ?_); (rfl))
        | ((with_reducible refine cv_ld (v := a.v) (all := cll a q f) ?_ rfl rfl HG.out.c ?_ ?_); (rfl); (rfl))
        | ((with_reducible refine dq_load (d := f.d) ?_ rfl rfl HG.out.d ?_); (rfl))
        | ((with_reducible refine dv_l2 (d := f.d) (v := f.d.a) ?_ rfl rfl HG.out.d ?_ ?_); (rfl); (rfl))
        | ((with_reducible refine lb_d2 ?_ rfl rfl HG.out.d ?_); (rfl); refine ⟨_, rfl, ?_⟩)
        | ((with_reducible refine lu_d2 ?_ rfl rfl HG.out.d ?_); (rfl); refine ⟨_, rfl, ?_⟩)
        | (go_at_call 57; (with_reducible refine (cF _).mono ?_); rintro e w1 ⟨rfl, h9⟩; have HG := Lib.hid (HG.out.up h9); clear h9)
        | (go_at_call 49; (with_reducible refine (cA _).mono ?_); rintro e w2 ⟨rfl, h9⟩; have HG := Lib.hid (HG.out.up h9); clear h9)
        | (go_at_call 18; (with_reducible refine (cS _).mono ?_); rintro e w3 ⟨rfl, h9⟩; have HG := Lib.hid (HG.out.up h9); clear h9)
        | (fail))
      go_ret
      exact ⟨by first | rfl | (rw [hp]; rfl) | (rw [hb]; rfl) | (simp_all), HG.out.below⟩
theorem sub_run {ty : TypeId} {cs all : List Value} {d : TypeDesc} {w : World} {g i : Nat} {t : TypeId} (hg : w.heap[g]? = some (.cells all.toArray t (0, 0))) (hs : (all.drop i).take cs.length = cs) (hu : Try.prog.underlying ty = some d) (hd : d.isRow = true) (hi : (Try.prog.info? ty).map (·.size) = some cs.length) :
    (Instr.loadAt ty (.pointer (some ⟨g, i, none⟩))).run Try.prog w = .ok (.agg cs.toArray) w :=
  run_loadAt_at (fun j v hv => by
    rw [Addr.add_mid, vcells hg (i + j), List.getElem?_toArray]
    exact sub_of hs j v hv) hu hd hi
theorem vq_size (v : Vq) : (Try.prog.info? 24).map (·.size) = some (#[.int .u8 v.k, .float .f64 v.x, .string v.s, .int .i64 v.r] : Array Value).size := vsz
theorem vq_one (v : Vq) : (#[.int .u8 v.k, .float .f64 v.x, .string v.s, .int .i64 v.r] : Array Value).all (·.oneCell') = true := cells_one (l := [.int .u8 v.k, .float .f64 v.x, .string v.s, .int .i64 v.r]) rfl
section
variable {o : Oper} {a : Act} {w : World}
theorem en_d (ho : o.op = .alloc 27) : (execOp a.eval o).run Try.prog w = .ok (.value (.pointer (some ⟨w.heap.size, 0, none⟩))) (w.alloc (.cells (dz 0).cells 27)) := by
  unfold execOp
  simp only [ho]
  kernel_rfl
theorem en_v (ho : o.op = .alloc 24) : (execOp a.eval o).run Try.prog w = .ok (.value (.pointer (some ⟨w.heap.size, 0, none⟩))) (w.alloc (.cells #[.int .u8 v0.k, .float .f64 v0.x, .string v0.s, .int .i64 v0.r] 24)) := by
  unfold execOp
  simp only [ho]
  kernel_rfl
end
theorem dv_ne {W : World} {g j : Nat} {c c2 : Array Value} (h1 : W.heap[g]? = some (.cells c 27 (0, 0))) (h2 : W.heap[j]? = some (.cells c2 24 (0, 0))) : g ≠ j := fun e => by rw [e, h2] at h1; cases h1
set_option maxHeartbeats 8000000 in
set_option maxRecDepth 1000000 in
theorem got_p (a : Ak) (q : Oq) (f : Fq) (hv : 0 ≤ q.v.k ∧ q.v.k ≤ 8) (h2 : 0 ≤ f.d.a.k) (w : World) : Calls Try.prog 40 #[.agg (clA a q f)] w fun e w' => e = .returned (.bool (gotB q.v f)) ∧ Below w.heap.size w w' := by
  have HS := Lib.hid (ow_start w (clA a q f) 59)
  have hdi := dc_size
  have hdo := dc_one
  have cF := fun W => fixed_p a q f W
  have cS := fun W => samev hv h2 W
  have cA := fun W => isAccess_p f.d W
  unfold gotB
  generalize fixedB f = b1 at *
  generalize hasB f.d.h 12 = b2 at *
  generalize sameQ q.v f.d.a = b3 at *
  go_enter Try.func40, Try.ntmps40
  go_upto_region 1 with (fail)
  (try dsimp only [Act.put])
  go_cut [3, 4] from 5 (fun s3 s4 wx => ∃ g3 g4 : Nat, s3 = .pointer (some ⟨g3, 0, none⟩) ∧ s4 = .pointer (some ⟨g4, 0, none⟩) ∧ Hid (Gt4 w (clA a q f) f.d q.v g3 g4 wx))
  case first =>
    obtain ⟨W1, hW1⟩ : ∃ x, x = w.alloc (.cells (clA a q f) 59) := ⟨_, rfl⟩
    rw [← hW1] at HS ⊢
    have HD := Lib.hid (HS.out.up (Below.refl _ _).drew)
    have hS : Below W1.drew.heap.size W1.drew W1.drew := Below.refl _ _
    refine wp_region_held_drew (S := fun V : World => Below W1.drew.heap.size W1.drew V) (by kernel_rfl) hS (fun hHeld => ?_)
    clear hW1 HS
    generalize World.drew W1 = W0 at *
    have HV : Hid (∀ V : World, Below W0.heap.size W0 V → Below w.heap.size w V) := Lib.hid fun V h => vb HD.out.below h
    have HC : Hid (∀ V : World, Below W0.heap.size W0 V → V.heap[w.heap.size]? = some (.cells (cll a q f).toArray 59 (0, 0))) := Lib.hid fun V h => (HD.out.up h).c
    refine hH_take (i := 0) (v := .pointer (some ⟨w.heap.size, 55, none⟩)) (d := 5) (l2 := #[true, false, false, false, false, false, false, false, false, false]) rfl (by kernel_rfl) (by kernel_rfl) (by kernel_rfl) (fun _ _ _ h => h) (by kernel_rfl) ?_ (by assumption) rfl (by kernel_rfl) ?_
    · intro w hSw; go_simp; (try with_reducible rfl)
    simp only [List.set]
    refine hH_take (i := 1) (v := .pointer (some ⟨w.heap.size, 61, none⟩)) (d := 6) (l2 := #[true, true, false, false, false, false, false, false, false, false]) rfl (by kernel_rfl) (by kernel_rfl) (by kernel_rfl) (fun _ _ _ h => h) (by kernel_rfl) ?_ (by assumption) rfl (by kernel_rfl) ?_
    · intro w hSw; go_simp; (try with_reducible rfl)
    simp only [List.set]
    refine hH_take (i := 2) (v := .agg f.d.cells) (d := 7) (l2 := #[true, true, true, false, false, false, false, false, false, false]) rfl (by kernel_rfl) (by kernel_rfl) (by kernel_rfl) (fun _ _ _ h => h) (by kernel_rfl) ?_ (by assumption) rfl (by kernel_rfl) ?_
    · intro w hSw; exact ex_load_at (sub_run (cs := f.d.cells.toList) (all := cll a q f) (HC.out _ hSw) rfl Try.underlying27 rfl dsz) rfl rfl
    simp only [List.set]
    refine hH_take (i := 3) (v := .pointer (some ⟨w.heap.size, 29, none⟩)) (d := 8) (l2 := #[true, true, true, true, false, false, false, false, false, false]) rfl (by kernel_rfl) (by kernel_rfl) (by kernel_rfl) (fun _ _ _ h => h) (by kernel_rfl) ?_ (by assumption) rfl (by kernel_rfl) ?_
    · intro w hSw; go_simp; (try with_reducible rfl)
    simp only [List.set]
    refine hH_take (i := 4) (v := .pointer (some ⟨w.heap.size, 30, none⟩)) (d := 9) (l2 := #[true, true, true, true, true, false, false, false, false, false]) rfl (by kernel_rfl) (by kernel_rfl) (by kernel_rfl) (fun _ _ _ h => h) (by kernel_rfl) ?_ (by assumption) rfl (by kernel_rfl) ?_
    · intro w hSw; go_simp; (try with_reducible rfl)
    simp only [List.set]
    refine hH_take (i := 5) (v := .agg #[.int .u8 q.v.k, .float .f64 q.v.x, .string q.v.s, .int .i64 q.v.r]) (d := 10) (l2 := #[true, true, true, true, true, true, false, false, false, false]) rfl (by kernel_rfl) (by kernel_rfl) (by kernel_rfl) (fun _ _ _ h => h) (by kernel_rfl) ?_ (by assumption) rfl (by kernel_rfl) ?_
    · intro w hSw; exact ex_load_at (sub_run (cs := [.int .u8 q.v.k, .float .f64 q.v.x, .string q.v.s, .int .i64 q.v.r]) (all := cll a q f) (HC.out _ hSw) rfl Try.underlying24 rfl vsz) rfl rfl
    simp only [List.set]

    refine aH2 6 7 rfl rfl (fun K hK => ?_) (fun K hK => ?_)
    ·refine aNew (en_d rfl) rfl hS (Nat.le_refl _) hK fun _ g3 hS hm3 h3 h9 => ?_
     clear h9 hK K; simp only [List.set]
     refine aH1 7 rfl (fun K hK => ?_)
     ·refine aNew (en_v rfl) rfl hS (Nat.le_refl _) hK fun _ g4 hS hm4 h4 h9 => ?_
      have h3 := vblkn h9 h3; clear h9 hK K; simp only [List.set]
      refine aH1 8 rfl (fun K hK => ?_)
      ·have h3o := h3; refine aPut rfl rfl rfl h3 (hdi f.d) rfl (hdo f.d) rfl hS hm3 hK fun _ hS h3 hO => ?_
       have h4 := (hO g4 (dv_ne h3o h4)).trans h4; clear hO hK K
       refine aH1 9 rfl (fun K hK => ?_)
       ·have h4o := h4; refine aPut rfl rfl rfl h4 (vq_size q.v) rfl (vq_one q.v) rfl hS hm4 hK fun _ hS h4 hO => ?_
        have h3 := (hO g3 (fun e => dv_ne h3 h4o e.symm)).trans h3; clear hO hK K
        refine wpAnyH_done (by kernel_rfl) ?_ _
        go_wp2_with (fail)
        go_meet
        case rel => exact ⟨g3, g4, rfl, rfl, Lib.hid ⟨⟨HV.out _ hS, (HC.out _ hS), h3⟩, h4⟩⟩
    ·refine aNew (en_v rfl) rfl hS (Nat.le_refl _) hK fun _ g4 hS hm4 h4 h9 => ?_
     clear h9 hK K; simp only [List.set]
     refine aH1 6 rfl (fun K hK => ?_)
     ·refine aNew (en_d rfl) rfl hS (Nat.le_refl _) hK fun _ g3 hS hm3 h3 h9 => ?_
      have h4 := vblkn h9 h4; clear h9 hK K; simp only [List.set]
      refine aH1 8 rfl (fun K hK => ?_)
      ·have h3o := h3; refine aPut rfl rfl rfl h3 (hdi f.d) rfl (hdo f.d) rfl hS hm3 hK fun _ hS h3 hO => ?_
       have h4 := (hO g4 (dv_ne h3o h4)).trans h4; clear hO hK K
       refine aH1 9 rfl (fun K hK => ?_)
       ·have h4o := h4; refine aPut rfl rfl rfl h4 (vq_size q.v) rfl (vq_one q.v) rfl hS hm4 hK fun _ hS h4 hO => ?_
        have h3 := (hO g3 (fun e => dv_ne h3 h4o e.symm)).trans h3; clear hO hK K
        refine wpAnyH_done (by kernel_rfl) ?_ _
        go_wp2_with (fail)
        go_meet
        case rel => exact ⟨g3, g4, rfl, rfl, Lib.hid ⟨⟨HV.out _ hS, (HC.out _ hS), h3⟩, h4⟩⟩
  case rest =>
    obtain ⟨g3, g4, rfl, rfl, HG⟩ := hcut
    cases b1
    · go_wp2_with (first
        | ((with_reducible refine cc_ld (k := a) (q := q) (f := f) ?_ rfl rfl HG.out.c ?_); (rfl))
        | ((with_reducible refine dq_load (d := f.d) ?_ rfl rfl HG.out.d ?_); (rfl))
        | ((with_reducible refine dv_l2 (d := f.d) (v := f.d.a) ?_ rfl rfl HG.out.d ?_ ?_); (rfl); (rfl))
        | ((with_reducible refine lb_d2 ?_ rfl rfl HG.out.d ?_); (rfl); refine ⟨_, rfl, ?_⟩)
        | ((with_reducible refine lu_d2 ?_ rfl rfl HG.out.d ?_); (rfl); refine ⟨_, rfl, ?_⟩)
        | ((with_reducible refine lu_l2 (all := [.int .u8 q.v.k, .float .f64 q.v.x, .string q.v.s, .int .i64 q.v.r]) ?_ rfl rfl HG.out.v ?_); (rfl); refine ⟨_, rfl, ?_⟩)
        | ((with_reducible refine cv_ld (v := q.v) (all := [.int .u8 q.v.k, .float .f64 q.v.x, .string q.v.s, .int .i64 q.v.r]) ?_ rfl rfl HG.out.v ?_ ?_); (rfl); (rfl))
        | (go_at_call 57; (with_reducible refine (cF _).mono ?_); rintro e w1 ⟨rfl, h9⟩; have HG := Lib.hid (HG.out.up h9); clear h9)
        | (go_at_call 49; (with_reducible refine (cA _).mono ?_); rintro e w2 ⟨rfl, h9⟩; have HG := Lib.hid (HG.out.up h9); clear h9)
        | (go_at_call 18; (with_reducible refine (cS _).mono ?_); rintro e w3 ⟨rfl, h9⟩; have HG := Lib.hid (HG.out.up h9); clear h9)
        | (fail))
      go_ret
      exact ⟨by first | rfl | (rw [hp]; rfl) | (rw [hb]; rfl) | (simp_all), HG.out.below⟩
    · cases b2
      · cases hp : f.d.p
        · go_wp2_with (first
            | ((with_reducible refine cc_ld (k := a) (q := q) (f := f) ?_ rfl rfl HG.out.c ?_); (rfl))
            | ((with_reducible refine dq_load (d := f.d) ?_ rfl rfl HG.out.d ?_); (rfl))
            | ((with_reducible refine dv_l2 (d := f.d) (v := f.d.a) ?_ rfl rfl HG.out.d ?_ ?_); (rfl); (rfl))
            | ((with_reducible refine lb_d2 ?_ rfl rfl HG.out.d ?_); (rfl); refine ⟨_, rfl, ?_⟩)
            | ((with_reducible refine lu_d2 ?_ rfl rfl HG.out.d ?_); (rfl); refine ⟨_, rfl, ?_⟩)
            | ((with_reducible refine lu_l2 (all := [.int .u8 q.v.k, .float .f64 q.v.x, .string q.v.s, .int .i64 q.v.r]) ?_ rfl rfl HG.out.v ?_); (rfl); refine ⟨_, rfl, ?_⟩)
            | ((with_reducible refine cv_ld (v := q.v) (all := [.int .u8 q.v.k, .float .f64 q.v.x, .string q.v.s, .int .i64 q.v.r]) ?_ rfl rfl HG.out.v ?_ ?_); (rfl); (rfl))
            | (go_at_call 57; (with_reducible refine (cF _).mono ?_); rintro e w1 ⟨rfl, h9⟩; have HG := Lib.hid (HG.out.up h9); clear h9)
            | (go_at_call 49; (with_reducible refine (cA _).mono ?_); rintro e w2 ⟨rfl, h9⟩; have HG := Lib.hid (HG.out.up h9); clear h9)
            | (go_at_call 18; (with_reducible refine (cS _).mono ?_); rintro e w3 ⟨rfl, h9⟩; have HG := Lib.hid (HG.out.up h9); clear h9)
            | (fail))
          go_ret
          exact ⟨by first | rfl | (rw [hp]; rfl) | (rw [hb]; rfl) | (simp_all), HG.out.below⟩
        · go_wp2_with (first
            | ((with_reducible refine cc_ld (k := a) (q := q) (f := f) ?_ rfl rfl HG.out.c ?_); (rfl))
            | ((with_reducible refine dq_load (d := f.d) ?_ rfl rfl HG.out.d ?_); (rfl))
            | ((with_reducible refine dv_l2 (d := f.d) (v := f.d.a) ?_ rfl rfl HG.out.d ?_ ?_); (rfl); (rfl))
            | ((with_reducible refine lb_d2 ?_ rfl rfl HG.out.d ?_); (rfl); refine ⟨_, rfl, ?_⟩)
            | ((with_reducible refine lu_d2 ?_ rfl rfl HG.out.d ?_); (rfl); refine ⟨_, rfl, ?_⟩)
            | ((with_reducible refine lu_l2 (all := [.int .u8 q.v.k, .float .f64 q.v.x, .string q.v.s, .int .i64 q.v.r]) ?_ rfl rfl HG.out.v ?_); (rfl); refine ⟨_, rfl, ?_⟩)
            | ((with_reducible refine cv_ld (v := q.v) (all := [.int .u8 q.v.k, .float .f64 q.v.x, .string q.v.s, .int .i64 q.v.r]) ?_ rfl rfl HG.out.v ?_ ?_); (rfl); (rfl))
            | (go_at_call 57; (with_reducible refine (cF _).mono ?_); rintro e w1 ⟨rfl, h9⟩; have HG := Lib.hid (HG.out.up h9); clear h9)
            | (go_at_call 49; (with_reducible refine (cA _).mono ?_); rintro e w2 ⟨rfl, h9⟩; have HG := Lib.hid (HG.out.up h9); clear h9)
            | (go_at_call 18; (with_reducible refine (cS _).mono ?_); rintro e w3 ⟨rfl, h9⟩; have HG := Lib.hid (HG.out.up h9); clear h9)
            | (fail))
          go_ret
          exact ⟨by first | rfl | (rw [hp]; rfl) | (rw [hb]; rfl) | (simp_all), HG.out.below⟩
      · cases hb : (f.d.b.k != 0)
        · go_wp2_with (first
            | ((with_reducible refine cc_ld (k := a) (q := q) (f := f) ?_ rfl rfl HG.out.c ?_); (rfl))
            | ((with_reducible refine dq_load (d := f.d) ?_ rfl rfl HG.out.d ?_); (rfl))
            | ((with_reducible refine dv_l2 (d := f.d) (v := f.d.a) ?_ rfl rfl HG.out.d ?_ ?_); (rfl); (rfl))
            | ((with_reducible refine lb_d2 ?_ rfl rfl HG.out.d ?_); (rfl); refine ⟨_, rfl, ?_⟩)
            | ((with_reducible refine lu_d2 ?_ rfl rfl HG.out.d ?_); (rfl); refine ⟨_, rfl, ?_⟩)
            | ((with_reducible refine lu_l2 (all := [.int .u8 q.v.k, .float .f64 q.v.x, .string q.v.s, .int .i64 q.v.r]) ?_ rfl rfl HG.out.v ?_); (rfl); refine ⟨_, rfl, ?_⟩)
            | ((with_reducible refine cv_ld (v := q.v) (all := [.int .u8 q.v.k, .float .f64 q.v.x, .string q.v.s, .int .i64 q.v.r]) ?_ rfl rfl HG.out.v ?_ ?_); (rfl); (rfl))
            | (go_at_call 57; (with_reducible refine (cF _).mono ?_); rintro e w1 ⟨rfl, h9⟩; have HG := Lib.hid (HG.out.up h9); clear h9)
            | (go_at_call 49; (with_reducible refine (cA _).mono ?_); rintro e w2 ⟨rfl, h9⟩; have HG := Lib.hid (HG.out.up h9); clear h9)
            | (go_at_call 18; (with_reducible refine (cS _).mono ?_); rintro e w3 ⟨rfl, h9⟩; have HG := Lib.hid (HG.out.up h9); clear h9)
            | (fail))
          go_ret
          exact ⟨by first | rfl | (rw [hp]; rfl) | (rw [hb]; rfl) | (simp_all), HG.out.below⟩
        · go_wp2_with (first
            | ((with_reducible refine cc_ld (k := a) (q := q) (f := f) ?_ rfl rfl HG.out.c ?_); (rfl))
            | ((with_reducible refine dq_load (d := f.d) ?_ rfl rfl HG.out.d ?_); (rfl))
            | ((with_reducible refine dv_l2 (d := f.d) (v := f.d.a) ?_ rfl rfl HG.out.d ?_ ?_); (rfl); (rfl))
            | ((with_reducible refine lb_d2 ?_ rfl rfl HG.out.d ?_); (rfl); refine ⟨_, rfl, ?_⟩)
            | ((with_reducible refine lu_d2 ?_ rfl rfl HG.out.d ?_); (rfl); refine ⟨_, rfl, ?_⟩)
            | ((with_reducible refine lu_l2 (all := [.int .u8 q.v.k, .float .f64 q.v.x, .string q.v.s, .int .i64 q.v.r]) ?_ rfl rfl HG.out.v ?_); (rfl); refine ⟨_, rfl, ?_⟩)
            | ((with_reducible refine cv_ld (v := q.v) (all := [.int .u8 q.v.k, .float .f64 q.v.x, .string q.v.s, .int .i64 q.v.r]) ?_ rfl rfl HG.out.v ?_ ?_); (rfl); (rfl))
            | (go_at_call 57; (with_reducible refine (cF _).mono ?_); rintro e w1 ⟨rfl, h9⟩; have HG := Lib.hid (HG.out.up h9); clear h9)
            | (go_at_call 49; (with_reducible refine (cA _).mono ?_); rintro e w2 ⟨rfl, h9⟩; have HG := Lib.hid (HG.out.up h9); clear h9)
            | (go_at_call 18; (with_reducible refine (cS _).mono ?_); rintro e w3 ⟨rfl, h9⟩; have HG := Lib.hid (HG.out.up h9); clear h9)
            | (fail))
          go_ret
          exact ⟨by first | rfl | (rw [hp]; rfl) | (rw [hb]; rfl) | (simp_all), HG.out.below⟩
end Go.Proofs.Ytkmgdaagannhkaa.S
/-
  post: what the target told of its keys.
-/
namespace Go.Proofs.Ytkmgdaagannhkaa.S
open Go.RowKit Go.Lib Fl
open Classical

/-- descriptors in a row, wherever it lies -/
def RD (w : World) (A : Option Addr) (D : List Dq) : Prop := 0 < D.length → ∃ a, A = some a ∧ a.block < w.heap.size ∧ ∀ i (h : i < D.length), ∀ j u, D[i].cells.toList[j]? = some u → w.cell? ((a.add (i * 16)).add j) = some u
theorem rd_up {w w' : World} {A : Option Addr} {D : List Dq} (h : RD w A D) (hb : Below w.heap.size w w') : RD w' A D := fun hp => by
  obtain ⟨a, h1, h2, h3⟩ := h hp
  exact ⟨a, h1, Nat.lt_of_lt_of_le h2 hb.size, fun i hi j u hu => (hb.cell (by rw [add_blk, add_blk]; exact h2)).trans (h3 i hi j u hu)⟩
theorem rk_take {w : World} {A : Option Addr} {L : List Ky} (h : RK w A L) (n : Nat) : RK w A (L.take n) := fun hp => by
  rw [List.length_take] at hp
  obtain ⟨a, h1, h2, h3⟩ := h (by omega)
  refine ⟨a, h1, h2, fun i hi => ?_⟩
  rw [List.length_take] at hi
  rw [List.getElem_take]
  exact h3 i (by omega)
section
variable {ops : Array Oper} {rest : List Oper} {o : Oper} {a : Act} {w : World} {Q : Exit → Act → World → Prop} {x y : Operand}
theorem dA_ld {A : Addr} {d : Dq} (hw : Region.wanted o (yielded ops a.tmps) = true) (ho : o.op = .load 27 x) (hx : a.eval x = .pointer (some A)) (hc : ∀ j u, d.cells.toList[j]? = some u → w.cell? (A.add j) = some u)
    (h : wpList Try.prog ops Q rest (a.put o.dst (.agg d.cells)) w) : wpList Try.prog ops Q (o :: rest) a w :=
  w_val hw (ex_load_at (run_loadAt_at (cs := d.cells.toList) hc Try.underlying27 rfl dsz) ho hx) h
end
/-- the key of a round, in a block of its own -/
structure Kb (w : World) (g : Nat) (P : Ky) (W : World) : Prop where
  below : Below w.heap.size w W
  k : W.heap[g]? = some (.cells #[.string P.str, .int .i64 P.sym] 29 (0, 0))
theorem Kb.up {w : World} {g : Nat} {P : Ky} {W W' : World} (h : Kb w g P W) (hb : Below W.heap.size W W') : Kb w g P W' := ⟨vb h.below hb, vblkn hb h.k⟩
theorem kb_load {W : World} {g : Nat} {k : Ky} (h : W.heap[g]? = some (.cells #[.string k.str, .int .i64 k.sym] 29 (0, 0))) : (Instr.loadAt 29 (.pointer (some ⟨g, 0, none⟩))).run Try.prog W = .ok (.agg #[.string k.str, .int .i64 k.sym]) W :=
  k2_at (A := ⟨g, 0, none⟩) (vcells h 0) (vcells h 1)
/-- whether a key stands twice in a list -/
noncomputable def twiceB (L : List Ky) : Bool := !decide (L.Nodup)
theorem twice_no {L : List Ky} (h : L.Nodup) : twiceB L = false := by unfold twiceB; rw [decide_eq_true h]; rfl
theorem twice_hit {L : List Ky} {i : Nat} (hi : i < L.length) (h : inB (L.take i) L[i] = true) : twiceB L = true := by
  have hm := inB_iff.1 h
  unfold twiceB
  rw [Bool.not_eq_true', decide_eq_false_iff_not]
  intro hn
  have e : L = L.take i ++ L.drop i := (List.take_append_drop i L).symm
  rw [e, List.nodup_append] at hn
  have hd : L[i] ∈ L.drop i := by
    rw [List.drop_eq_getElem_cons hi]
    exact List.mem_cons_self
  exact hn.2.2 _ hm _ hd rfl
theorem twice_miss {L : List Ky} {i : Nat} (hi : i < L.length) (hn : (L.take i).Nodup) (h : inB (L.take i) L[i] = false) : (L.take (i + 1)).Nodup := by
  rw [List.take_succ_eq_append_getElem hi, List.nodup_append]
  refine ⟨hn, List.nodup_cons.2 ⟨by simp, List.nodup_nil⟩, fun a ha b hb => ?_⟩
  rw [List.mem_singleton] at hb
  subst hb
  intro e
  subst e
  rw [inB_iff.2 ha] at h
  cases h
set_option maxHeartbeats 8000000 in
set_option maxRecDepth 1000000 in
theorem twice_p (A : Option Addr) (L : List Ky) (cap : Nat) (w : World) (hl : L.length < 1000000000000) (hL : RK w A L) (hcp : L.length ≤ cap) : Calls Try.prog 53 #[.slice A L.length cap, .func (.func 54) #[] #[]] w fun e w' => e = .returned (.bool (twiceB L)) ∧ Below w.heap.size w w' := by
  obtain ⟨E, hE⟩ : ∃ E, E = twiceB L := ⟨_, rfl⟩
  rw [← hE]
  have HE := Lib.hid hE
  clear hE
  go_enter Try.func53, Try.ntmps53
  go_wp2
  go_loopg [9] L.length (fun kx s wr => ∃ i : Nat, s = .int .i64 i ∧ i + kx = L.length ∧ Hid ((L.take i).Nodup ∧ Below w.heap.size w wr))
  case atStart => exact ⟨0, rfl, by omega, Lib.hid ⟨List.nodup_nil, Below.refl _ _⟩⟩
  case round =>
    obtain ⟨i, rfl, hik, H⟩ := hrel
    cases gk with
    | zero =>
      obtain rfl : i = L.length := by omega
      go_wp2
      go_ret
      have hn := H.out.1
      rw [List.take_length] at hn
      exact ⟨by rw [HE.out, twice_no hn]; rfl, H.out.2⟩
    | succ kx =>
      have hlt : i < L.length := by omega
      have hlz : (i : Int) < (L.length : Int) := by omega
      have hw1 : wrap64 ((i : Int) + 1) = (i : Int) + 1 := by unfold wrap64; omega
      obtain ⟨ad, rfl, hab, hrow⟩ := rk_up hL H.out.2 (by omega)
      obtain ⟨c0, c1⟩ := hrow i hlt
      obtain ⟨P, hP⟩ : ∃ P, P = L[i] := ⟨_, rfl⟩
      rw [← hP] at c0 c1
      have HP := Lib.hid hP
      have HL := Lib.hid hlt
      have HH := Lib.hid H.out
      have hcap : i ≤ cap := by omega
      have hiz : (0 : Int) ≤ (i : Int) := by omega
      have hcz : (i : Int) ≤ (cap : Int) := by omega
      have cS := fun W (hb : Below w.heap.size w W) => has_p (some ad) (L.take i) cap P W (by rw [List.length_take]; omega) (rk_take (rk_up hL hb) i)
      rw [List.length_take, Nat.min_eq_left (Nat.le_of_lt hlt)] at cS
      have HI : Hid (inB (L.take i) P = inB (L.take i) L[i]) := Lib.hid (congrArg (inB (L.take i)) hP)
      clear hrow hP H hL
      generalize inB (L.take i) P = b at *
      go_upto_region 4 with (first
        | ((refine kA_ld (k := P) ?_ rfl rfl c0 c1 ?_); (rfl))
        | ((with_reducible refine t_store (cs := #[.string P.str, .int .i64 P.sym]) rfl rfl rfl rfl (heap_alloc_new wr _) (key_size P) ?_ (key_one P) (vzero wr _) (Nat.le_refl _) ?_); (rfl); intro W2 hb2 hW2 _ _; have HO := Lib.hid (show Kb w wr.heap.size P W2 from ⟨vb HH.out.2 hb2, hW2⟩); clear hb2 hW2))
      have hS := HO.out.up (Below.refl _ _).drew
      refine wp_region_held_drew (S := Kb w wr.heap.size P) (by kernel_rfl) hS (fun hHeld => ?_)
      clear HO
      cases b with
      | true =>
        refine hH_take (i := 0) (v := .slice (some ad) L.length cap) (d := 14) (l2 := #[true, false, false, false, false, false]) rfl (by kernel_rfl) (by kernel_rfl) (by kernel_rfl) (fun _ _ _ h => h) (by kernel_rfl) ?_ (by assumption) rfl (by kernel_rfl) ?_
        · intro w hSw; go_simp; (try with_reducible rfl)
        simp only [List.set]
        refine hH_take (i := 1) (v := .int .i64 (i : Int)) (d := 15) (l2 := #[true, true, false, false, false, false]) rfl (by kernel_rfl) (by kernel_rfl) (by kernel_rfl) (fun _ _ _ h => h) (by kernel_rfl) ?_ (by assumption) rfl (by kernel_rfl) ?_
        · intro w hSw; go_simp; (try with_reducible rfl)
        simp only [List.set]
        refine hH_take (i := 2) (v := .slice (some ad) i cap) (d := 16) (l2 := #[true, true, true, false, false, false]) rfl (by kernel_rfl) (by kernel_rfl) (by kernel_rfl) (fun _ _ _ h => h) (by kernel_rfl) ?_ (by assumption) rfl (by kernel_rfl) ?_
        · intro w hSw; go_simp; (try rw [if_pos hcap]); (try with_reducible rfl)
        simp only [List.set]
        refine hH_take (i := 3) (v := .agg #[.string P.str, .int .i64 P.sym]) (d := 17) (l2 := #[true, true, true, true, false, false]) rfl (by kernel_rfl) (by kernel_rfl) (by kernel_rfl) (fun _ _ _ h => h) (by kernel_rfl) ?_ (by assumption) rfl (by kernel_rfl) ?_
        · intro w hSw; exact ex_load_at (kb_load hSw.k) rfl rfl
        simp only [List.set]
        refine hH_take (i := 4) (v := .func (.func 54) #[] #[]) (d := 18) (l2 := #[true, true, true, true, true, false]) rfl (by kernel_rfl) (by kernel_rfl) (by kernel_rfl) (fun _ _ _ h => h) (by kernel_rfl) ?_ (by assumption) rfl (by kernel_rfl) ?_
        · intro w hSw; go_simp; (try with_reducible rfl)
        simp only [List.set]
        refine wpAnyH_ready (rs := [5]) (by kernel_rfl) (by simp) ?_
        refine AllReadyH.cons rfl (fun K hK => ?_) AllReadyH.nil
        go_simp
        go_at_call 66
        (with_reducible refine (cS _ hS.below).mono ?_)
        rintro e wc ⟨rfl, h1⟩
        have hS := hS.up h1
        clear h1
        refine hK.out _ _ hS (fun hHeld => ?_)
        clear hK K
        refine wpAnyH_done (by kernel_rfl) ?_ _
        have HO := Lib.hid hS.below
        go_wp2
        go_ret
        exact ⟨by rw [HE.out, twice_hit HL.out HI.out.symm]; rfl, HO.out⟩
      | false =>
        refine hH_take (i := 0) (v := .slice (some ad) L.length cap) (d := 14) (l2 := #[true, false, false, false, false, false]) rfl (by kernel_rfl) (by kernel_rfl) (by kernel_rfl) (fun _ _ _ h => h) (by kernel_rfl) ?_ (by assumption) rfl (by kernel_rfl) ?_
        · intro w hSw; go_simp; (try with_reducible rfl)
        simp only [List.set]
        refine hH_take (i := 1) (v := .int .i64 (i : Int)) (d := 15) (l2 := #[true, true, false, false, false, false]) rfl (by kernel_rfl) (by kernel_rfl) (by kernel_rfl) (fun _ _ _ h => h) (by kernel_rfl) ?_ (by assumption) rfl (by kernel_rfl) ?_
        · intro w hSw; go_simp; (try with_reducible rfl)
        simp only [List.set]
        refine hH_take (i := 2) (v := .slice (some ad) i cap) (d := 16) (l2 := #[true, true, true, false, false, false]) rfl (by kernel_rfl) (by kernel_rfl) (by kernel_rfl) (fun _ _ _ h => h) (by kernel_rfl) ?_ (by assumption) rfl (by kernel_rfl) ?_
        · intro w hSw; go_simp; (try rw [if_pos hcap]); (try with_reducible rfl)
        simp only [List.set]
        refine hH_take (i := 3) (v := .agg #[.string P.str, .int .i64 P.sym]) (d := 17) (l2 := #[true, true, true, true, false, false]) rfl (by kernel_rfl) (by kernel_rfl) (by kernel_rfl) (fun _ _ _ h => h) (by kernel_rfl) ?_ (by assumption) rfl (by kernel_rfl) ?_
        · intro w hSw; exact ex_load_at (kb_load hSw.k) rfl rfl
        simp only [List.set]
        refine hH_take (i := 4) (v := .func (.func 54) #[] #[]) (d := 18) (l2 := #[true, true, true, true, true, false]) rfl (by kernel_rfl) (by kernel_rfl) (by kernel_rfl) (fun _ _ _ h => h) (by kernel_rfl) ?_ (by assumption) rfl (by kernel_rfl) ?_
        · intro w hSw; go_simp; (try with_reducible rfl)
        simp only [List.set]
        refine wpAnyH_ready (rs := [5]) (by kernel_rfl) (by simp) ?_
        refine AllReadyH.cons rfl (fun K hK => ?_) AllReadyH.nil
        go_simp
        go_at_call 66
        (with_reducible refine (cS _ hS.below).mono ?_)
        rintro e wc ⟨rfl, h1⟩
        have hS := hS.up h1
        clear h1
        refine hK.out _ _ hS (fun hHeld => ?_)
        clear hK K
        refine wpAnyH_done (by kernel_rfl) ?_ _
        have HO := Lib.hid hS.below
        go_wp2
        go_roundg kx
        case measure => omega
        case rel => exact ⟨i + 1, by congr 1, by omega, Lib.hid ⟨twice_miss HL.out HH.out.1 HI.out.symm, HO.out⟩⟩
noncomputable def ownedE (L : List Ky) (D : List Dq) : Int := if keysE L ≠ 0 then keysE L else if twiceB L = true ∨ D.length ≠ L.length then 2 else if ∀ d ∈ D, goneB d = true ∨ wholeQ d = true then 0 else 90
theorem owned_1 {L : List Ky} {D : List Dq} (h : keysE L ≠ 0) : ownedE L D = keysE L := by unfold ownedE; rw [if_pos h]
theorem owned_2 {L : List Ky} {D : List Dq} (h : keysE L = 0) (g : twiceB L = true ∨ D.length ≠ L.length) : ownedE L D = 2 := by unfold ownedE; rw [if_neg (by rw [h]; decide), if_pos g]
theorem owned_3 {L : List Ky} {D : List Dq} (h : keysE L = 0) (g : ¬ (twiceB L = true ∨ D.length ≠ L.length)) (k : ∀ d ∈ D, goneB d = true ∨ wholeQ d = true) : ownedE L D = 0 := by unfold ownedE; rw [if_neg (by rw [h]; decide), if_neg g, if_pos k]
theorem owned_4 {L : List Ky} {D : List Dq} (h : keysE L = 0) (g : ¬ (twiceB L = true ∨ D.length ≠ L.length)) {d : Dq} (hd : d ∈ D) (k : ¬ (goneB d = true ∨ wholeQ d = true)) : ownedE L D = 90 := by unfold ownedE; rw [if_neg (by rw [h]; decide), if_neg g, if_neg fun f => k (f d hd)]
theorem lk_l2 {ops : Array Oper} {rest : List Oper} {o : Oper} {a : Act} {w : World} {Q : Exit → Act → World → Prop} {x : Operand} {g i : Nat} {t : TypeId} {all : List Value} (hw : Region.wanted o (yielded ops a.tmps) = true) (ho : o.op = .load 31 x) (hx : a.eval x = .pointer (some ⟨g, i, none⟩)) (hg : w.heap[g]? = some (.cells all.toArray t (0, 0)))
    (h : ∃ A l c, all[i]? = some (.slice A l c) ∧ wpList Try.prog ops Q rest (a.put o.dst (.slice A l c)) w) : wpList Try.prog ops Q (o :: rest) a w := by
  obtain ⟨A, l, c, hs, h⟩ := h
  exact lk_ld hw ho hx hg hs h
theorem ld_l2 {ops : Array Oper} {rest : List Oper} {o : Oper} {a : Act} {w : World} {Q : Exit → Act → World → Prop} {x : Operand} {g i : Nat} {t : TypeId} {all : List Value} (hw : Region.wanted o (yielded ops a.tmps) = true) (ho : o.op = .load 41 x) (hx : a.eval x = .pointer (some ⟨g, i, none⟩)) (hg : w.heap[g]? = some (.cells all.toArray t (0, 0)))
    (h : ∃ A l c, all[i]? = some (.slice A l c) ∧ wpList Try.prog ops Q rest (a.put o.dst (.slice A l c)) w) : wpList Try.prog ops Q (o :: rest) a w := by
  obtain ⟨A, l, c, hs, h⟩ := h
  exact ld_ld hw ho hx hg hs h
/-- a round's descriptor in a block of its own, with the facts -/
structure Db (w : World) (c : Array Value) (g : Nat) (d : Dq) (W : World) : Prop where
  s : Ow w c 43 W
  d : W.heap[g]? = some (.cells d.cells 27 (0, 0))
theorem Db.up {w : World} {c : Array Value} {g : Nat} {d : Dq} {W W' : World} (h : Db w c g d W) (hb : Below W.heap.size W W') : Db w c g d W' := ⟨h.s.up hb, vblkn hb h.d⟩
set_option maxHeartbeats 8000000 in
set_option maxRecDepth 1000000 in
theorem owned_p (f : Fq) (A : Option Addr) (L : List Ky) (cap : Nat) (A2 : Option Addr) (D : List Dq) (cap2 : Nat) (w : World) (hl : L.length < 1000000000000) (hL : RK w A L) (hcp : L.length ≤ cap) (hdl : D.length < 1000000000000) (hD : RD w A2 D) (hDi : ∀ d ∈ D, d.In) : Calls Try.prog 34 #[.agg (fqA ⟨f.ext, f.proto, f.found, f.d, A, L.length, cap, A2, D.length, cap2⟩)] w fun e w' => e = .returned (.int .i64 (ownedE L D)) ∧ Below w.heap.size w w' := by
  obtain ⟨E, hE⟩ : ∃ E, E = ownedE L D := ⟨_, rfl⟩
  rw [← hE]
  have HE := Lib.hid hE
  have HS := Lib.hid (ow_start w (fqA ⟨f.ext, f.proto, f.found, f.d, A, L.length, cap, A2, D.length, cap2⟩) 43)
  have cK := fun W (hb : Below w.heap.size w W) => keys_p A L cap W hl (rk_up hL hb)
  have cT := fun W (hb : Below w.heap.size w W) => twice_p A L cap W hl (rk_up hL hb) hcp
  have HDI := Lib.hid hDi
  clear hE hDi
  by_cases hk : keysE L = 0
  · rw [hk] at cK
    by_cases ht : twiceB L = true
    · obtain rfl : E = 2 := HE.out.trans (owned_2 hk (.inl ht))
      rw [ht] at cT
      clear HE hk ht HDI hD hL
      go_enter Try.func34, Try.ntmps34
      go_wp2_with (first
        | ((with_reducible refine lk_l2 (all := fql ⟨f.ext, f.proto, f.found, f.d, A, L.length, cap, A2, D.length, cap2⟩) ?_ rfl rfl HS.out.c ?_); (rfl); refine ⟨_, _, _, rfl, ?_⟩)
        | ((with_reducible refine ld_l2 (all := fql ⟨f.ext, f.proto, f.found, f.d, A, L.length, cap, A2, D.length, cap2⟩) ?_ rfl rfl HS.out.c ?_); (rfl); refine ⟨_, _, _, rfl, ?_⟩)
        | (go_at_call 33; (with_reducible refine (cK _ HS.out.below).mono ?_); rintro e w1 ⟨rfl, h9⟩; have HS := Lib.hid (HS.out.up h9); clear h9)
        | (go_at_call 53; (with_reducible refine (cT _ HS.out.below).mono ?_); rintro e w2 ⟨rfl, h9⟩; have HS := Lib.hid (HS.out.up h9); clear h9)
        | (fail))
      go_ret
      exact ⟨rfl, HS.out.below⟩
    · have ht := eq_false_of_ne_true ht
      by_cases hn : D.length = L.length
      · have HK := Lib.hid hk
        have HT : Hid (¬ (twiceB L = true ∨ D.length ≠ L.length)) := Lib.hid (by rw [ht]; rintro (h | h); cases h; exact h hn)
        have hnz : ((D.length : Int) != (L.length : Int)) = false := by rw [hn]; exact bne_self_eq_false _
        rw [ht] at cT
        clear hk ht hn hL
        go_enter Try.func34, Try.ntmps34
        go_upto_region 6 with (first
          | ((with_reducible refine lk_l2 (all := fql ⟨f.ext, f.proto, f.found, f.d, A, L.length, cap, A2, D.length, cap2⟩) ?_ rfl rfl HS.out.c ?_); (rfl); refine ⟨_, _, _, rfl, ?_⟩)
          | ((with_reducible refine ld_l2 (all := fql ⟨f.ext, f.proto, f.found, f.d, A, L.length, cap, A2, D.length, cap2⟩) ?_ rfl rfl HS.out.c ?_); (rfl); refine ⟨_, _, _, rfl, ?_⟩)
          | (go_at_call 33; (with_reducible refine (cK _ HS.out.below).mono ?_); rintro e w1 ⟨rfl, h9⟩; have HS := Lib.hid (HS.out.up h9); clear h9)
          | (go_at_call 53; (with_reducible refine (cT _ HS.out.below).mono ?_); rintro e w2 ⟨rfl, h9⟩; have HS := Lib.hid (HS.out.up h9); clear h9)
          | (fail))
        go_wp2_with (first
          | ((with_reducible refine ld_l2 (all := fql ⟨f.ext, f.proto, f.found, f.d, A, L.length, cap, A2, D.length, cap2⟩) ?_ rfl rfl HS.out.c ?_); (rfl); refine ⟨_, _, _, rfl, ?_⟩)
          | (fail))
        go_loopg [28] D.length (fun kx s wr => ∃ i : Nat, s = .int .i64 i ∧ i + kx = D.length ∧ Hid ((∀ d ∈ D.take i, goneB d = true ∨ wholeQ d = true) ∧ Ow w (fqA ⟨f.ext, f.proto, f.found, f.d, A, L.length, cap, A2, D.length, cap2⟩) 43 wr))
        case atStart => exact ⟨0, rfl, by omega, Lib.hid ⟨fun k hk => by simp at hk, HS.out⟩⟩
        case round =>
        obtain ⟨i, rfl, hik, H⟩ := hrel
        clear HS
        cases gk with
        | zero =>
          obtain rfl : i = D.length := by omega
          go_wp2
          go_ret
          have hn := H.out.1
          rw [List.take_length] at hn
          exact ⟨by rw [HE.out, owned_3 HK.out HT.out hn]; rfl, H.out.2.below⟩
        | succ kx =>
          have hlt : i < D.length := by omega
          have hlz : (i : Int) < (D.length : Int) := by omega
          have hw1 : wrap64 ((i : Int) + 1) = (i : Int) + 1 := by unfold wrap64; omega
          obtain ⟨ad, rfl, hab, hrow⟩ := rd_up hD H.out.2.below (by omega)
          have hc := hrow i hlt
          obtain ⟨d, hd⟩ : ∃ d, d = D[i] := ⟨_, rfl⟩
          rw [← hd] at hc
          have hdin : d.In := HDI.out d (by rw [hd]; exact List.getElem_mem hlt)
          have HM : Hid (d ∈ D) := Lib.hid (by rw [hd]; exact List.getElem_mem hlt)
          have HA : Hid (∀ x ∈ D.take (i + 1), x ∈ D.take i ∨ x = d) := Lib.hid fun x hx => by
            rw [List.take_succ_eq_append_getElem hlt, List.mem_append, List.mem_singleton] at hx
            rw [hd]
            exact hx
          have HH := Lib.hid H.out
          have cW := fun W => whole_p hdin W
          have cG := fun W => gone_p d W
          have hdi := dc_size
          have hdo := dc_one
          unfold wholeE at cW
          clear hrow hd H hD hdin
          cases hg : goneB d with
          | true =>
            rw [hg] at cG
            generalize (bif wholeQ d then (0 : Int) else 90) = x at *
            go_wp2_with (first
              | ((refine dA_ld (d := d) ?_ rfl rfl hc ?_); (rfl))
              | ((with_reducible refine t_store (cs := d.cells) rfl rfl rfl rfl (heap_alloc_new wr _) (hdi d) ?_ (hdo d) (vzero wr _) (Nat.le_refl _) ?_); (rfl); intro W2 hb2 hW2 _ _; have HO := Lib.hid (show Db w (fqA ⟨f.ext, f.proto, f.found, f.d, A, L.length, cap, some ad, D.length, cap2⟩) wr.heap.size d W2 from ⟨HH.out.2.up hb2, hW2⟩); clear hb2 hW2)
              | ((with_reducible refine dq_load (d := d) ?_ rfl rfl HO.out.d ?_); (rfl))
              | (go_at_call 48; (with_reducible refine (cW _).mono ?_); rintro e w5 ⟨rfl, h9⟩; have HO := Lib.hid (HO.out.up h9); clear h9)
              | (go_at_call 55; (with_reducible refine (cG _).mono ?_); rintro e w6 ⟨rfl, h9⟩; have HO := Lib.hid (HO.out.up h9); clear h9)
              | (fail))
            go_roundg kx
            case measure => omega
            case rel => exact ⟨i + 1, by congr 1, by omega, Lib.hid ⟨fun y hy => by
              rcases HA.out y hy with h | h
              · exact HH.out.1 y h
              · rw [h]; exact .inl hg, HO.out.s⟩⟩
          | false =>
            rw [hg] at cG
            cases hwq : wholeQ d with
            | true =>
              rw [hwq] at cW
              have cW : ∀ W, Calls Try.prog 48 #[.agg d.cells] W fun e w' => e = .returned (.int .i64 0) ∧ Below W.heap.size W w' := cW
              go_wp2_with (first
                | ((refine dA_ld (d := d) ?_ rfl rfl hc ?_); (rfl))
                | ((with_reducible refine t_store (cs := d.cells) rfl rfl rfl rfl (heap_alloc_new wr _) (hdi d) ?_ (hdo d) (vzero wr _) (Nat.le_refl _) ?_); (rfl); intro W2 hb2 hW2 _ _; have HO := Lib.hid (show Db w (fqA ⟨f.ext, f.proto, f.found, f.d, A, L.length, cap, some ad, D.length, cap2⟩) wr.heap.size d W2 from ⟨HH.out.2.up hb2, hW2⟩); clear hb2 hW2)
                | ((with_reducible refine dq_load (d := d) ?_ rfl rfl HO.out.d ?_); (rfl))
                | (go_at_call 48; (with_reducible refine (cW _).mono ?_); rintro e w5 ⟨rfl, h9⟩; have HO := Lib.hid (HO.out.up h9); clear h9)
                | (go_at_call 55; (with_reducible refine (cG _).mono ?_); rintro e w6 ⟨rfl, h9⟩; have HO := Lib.hid (HO.out.up h9); clear h9)
                | (fail))
              go_roundg kx
              case measure => omega
              case rel => exact ⟨i + 1, by congr 1, by omega, Lib.hid ⟨fun y hy => by
                rcases HA.out y hy with h | h
                · exact HH.out.1 y h
                · rw [h]; exact .inr hwq, HO.out.s⟩⟩
            | false =>
              rw [hwq] at cW
              have cW : ∀ W, Calls Try.prog 48 #[.agg d.cells] W fun e w' => e = .returned (.int .i64 90) ∧ Below W.heap.size W w' := cW
              go_wp2_with (first
                | ((refine dA_ld (d := d) ?_ rfl rfl hc ?_); (rfl))
                | ((with_reducible refine t_store (cs := d.cells) rfl rfl rfl rfl (heap_alloc_new wr _) (hdi d) ?_ (hdo d) (vzero wr _) (Nat.le_refl _) ?_); (rfl); intro W2 hb2 hW2 _ _; have HO := Lib.hid (show Db w (fqA ⟨f.ext, f.proto, f.found, f.d, A, L.length, cap, some ad, D.length, cap2⟩) wr.heap.size d W2 from ⟨HH.out.2.up hb2, hW2⟩); clear hb2 hW2)
                | ((with_reducible refine dq_load (d := d) ?_ rfl rfl HO.out.d ?_); (rfl))
                | (go_at_call 48; (with_reducible refine (cW _).mono ?_); rintro e w5 ⟨rfl, h9⟩; have HO := Lib.hid (HO.out.up h9); clear h9)
                | (go_at_call 55; (with_reducible refine (cG _).mono ?_); rintro e w6 ⟨rfl, h9⟩; have HO := Lib.hid (HO.out.up h9); clear h9)
                | (fail))
              go_ret
              exact ⟨by rw [HE.out, owned_4 HK.out HT.out HM.out (by rw [hg, hwq]; rintro (h | h) <;> cases h)]; rfl, HO.out.s.below⟩
      · obtain rfl : E = 2 := HE.out.trans (owned_2 hk (.inr hn))
        have hnz : ((D.length : Int) != (L.length : Int)) = true := by
          rw [bne_iff_ne]
          omega
        rw [ht] at cT
        clear HE hk ht HDI hD hL hn
        go_enter Try.func34, Try.ntmps34
        go_wp2_with (first
          | ((with_reducible refine lk_l2 (all := fql ⟨f.ext, f.proto, f.found, f.d, A, L.length, cap, A2, D.length, cap2⟩) ?_ rfl rfl HS.out.c ?_); (rfl); refine ⟨_, _, _, rfl, ?_⟩)
          | ((with_reducible refine ld_l2 (all := fql ⟨f.ext, f.proto, f.found, f.d, A, L.length, cap, A2, D.length, cap2⟩) ?_ rfl rfl HS.out.c ?_); (rfl); refine ⟨_, _, _, rfl, ?_⟩)
          | (go_at_call 33; (with_reducible refine (cK _ HS.out.below).mono ?_); rintro e w1 ⟨rfl, h9⟩; have HS := Lib.hid (HS.out.up h9); clear h9)
          | (go_at_call 53; (with_reducible refine (cT _ HS.out.below).mono ?_); rintro e w2 ⟨rfl, h9⟩; have HS := Lib.hid (HS.out.up h9); clear h9)
          | (fail))
        go_ret
        exact ⟨rfl, HS.out.below⟩
  · obtain rfl : E = keysE L := HE.out.trans (owned_1 hk)
    have hkb : (keysE L != 0) = true := by rw [bne_iff_ne]; exact hk
    clear HE hk HDI hD hL
    generalize keysE L = E at *
    go_enter Try.func34, Try.ntmps34
    go_wp2_with (first
      | ((with_reducible refine lk_l2 (all := fql ⟨f.ext, f.proto, f.found, f.d, A, L.length, cap, A2, D.length, cap2⟩) ?_ rfl rfl HS.out.c ?_); (rfl); refine ⟨_, _, _, rfl, ?_⟩)
      | ((with_reducible refine ld_l2 (all := fql ⟨f.ext, f.proto, f.found, f.d, A, L.length, cap, A2, D.length, cap2⟩) ?_ rfl rfl HS.out.c ?_); (rfl); refine ⟨_, _, _, rfl, ?_⟩)
      | (go_at_call 33; (with_reducible refine (cK _ HS.out.below).mono ?_); rintro e w1 ⟨rfl, h9⟩; have HS := Lib.hid (HS.out.up h9); clear h9)
      | (go_at_call 53; (with_reducible refine (cT _ HS.out.below).mono ?_); rintro e w2 ⟨rfl, h9⟩; have HS := Lib.hid (HS.out.up h9); clear h9)
      | (fail))
    go_ret
    exact ⟨rfl, HS.out.below⟩
end Go.Proofs.Ytkmgdaagannhkaa.S
