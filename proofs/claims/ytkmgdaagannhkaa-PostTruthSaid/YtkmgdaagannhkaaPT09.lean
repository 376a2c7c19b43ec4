/-
  post: the checks of what can't change, but for OwnKeys.
-/
import Derived.Test.YtkmgdaagannhkaaPT08
namespace Go.Proofs.Ytkmgdaagannhkaa.S
open Go.RowKit Go.Lib Fl
open Classical

/-- two blocks of a call's own -/
structure Ow2 (w : World) (c : Array Value) (ty : TypeId) (c2 : Array Value) (ty2 : TypeId) (W : World) : Prop where
  below : Below w.heap.size w W
  c : W.heap[w.heap.size]? = some (.cells c ty (0, 0))
  d : W.heap[w.heap.size + 1]? = some (.cells c2 ty2 (0, 0))
theorem Ow2.up {w : World} {c : Array Value} {ty : TypeId} {c2 : Array Value} {ty2 : TypeId} {W W' : World} (h : Ow2 w c ty c2 ty2 W) (hb : Below W.heap.size W W') : Ow2 w c ty c2 ty2 W' := ⟨vb h.below hb, vblkn hb h.c, vblkn hb h.d⟩
theorem ow2_start (w : World) (c : Array Value) (ty : TypeId) (c2 : Array Value) (ty2 : TypeId) : Ow2 w c ty c2 ty2 ((w.alloc (.cells c ty)).alloc (.cells c2 ty2)) := by
  obtain ⟨b1, b2⟩ := vblk2 (w := w) (Below.refl _ ((w.alloc (.cells c ty)).alloc (.cells c2 ty2)))
  exact ⟨vafter (vzero _ _), b1, b2⟩
theorem dq_end {f : Func} {i : Nat} {t : TypeId} {Q : Ending → World → Prop} {tmps : Array Value} {W : World} {g : Nat} {d : Dq} (hf : f.results = #[.cell i 27]) (h2 : tmps.getD i undef = .pointer (some ⟨g, 0, none⟩)) (hb : W.heap[g]? = some (.cells d.cells t (0, 0)))
    (hQ : Q (.returned (.agg d.cells)) W) : bodyPost Try.prog f Q .ret { tmps := tmps, defers := [] } W :=
  bodyPost_ret (results_cell_row hf tmps W g t _ (0, 0) _ h2 hb Try.underlying27 rfl dsz) rfl hQ
noncomputable def compQ (d : Dq) : Dq := bif chkQ d then completeQ d else dz 0
theorem compat_p {ext found : Bool} {d now : Dq} (hd : d.In) (hn : now.In) (w : World) : Calls Try.prog 67 #[.bool ext, .agg d.cells, .bool found, .agg now.cells] w fun e w' => e = .returned (.tuple #[.bool (compatQ ext d found now).1, .int .i64 (compatQ ext d found now).2]) ∧ Below w.heap.size w w' := compat_q hd hn w
theorem isData_p (d : Dq) (w : World) : Calls Try.prog 20 #[.agg d.cells] w fun e w' => e = .returned (.bool (hasB d.h 3)) ∧ Below w.heap.size w w' := IsData_q d w
theorem isAccess_p (d : Dq) (w : World) : Calls Try.prog 49 #[.agg d.cells] w fun e w' => e = .returned (.bool (hasB d.h 12)) ∧ Below w.heap.size w w' := IsAccess_q d w
set_option maxHeartbeats 8000000 in
set_option maxRecDepth 1000000 in
theorem completed_p {d : Dq} (hd : d.In) (w : World) : Calls Try.prog 44 #[.agg d.cells] w fun e w' => e = .returned (.agg (compQ d).cells) ∧ Below w.heap.size w w' := by
  have HS := Lib.hid (ow2_start w d.cells 27 (dz 0).cells 27)
  have cC := fun W => complete_p hd W
  have hdi := dc_size
  have hdo := dc_one
  have hX : (bif chkQ d then completeQ d else dz 0) = compQ d := rfl
  rw [hX] at cC
  clear hX
  generalize compQ d = X at *
  generalize errI (chkQ d) = E at *
  go_enter Try.func44, Try.ntmps44
  go_wp2_with (first
    | ((with_reducible refine dq_load (d := d) ?_ rfl rfl HS.out.c ?_); (rfl))
    | (go_at_call 61; (with_reducible refine (cC _).mono ?_); rintro e w1 ⟨rfl, h9⟩; have HS := Lib.hid (HS.out.up h9); clear h9)
    | ((with_reducible refine t_store (cs := X.cells) rfl rfl rfl rfl (heap_alloc_new w1 _) (hdi X) ?_ (hdo X) (vzero w1 _) (Nat.le_refl _) ?_); (rfl); intro W2 hb2 hW2 _ _; have HS := Lib.hid (HS.out.up hb2); clear hb2)
    | ((with_reducible refine dq_load (d := X) ?_ rfl rfl hW2 ?_); (rfl))
    | ((with_reducible refine t_store (cs := X.cells) rfl rfl rfl rfl HS.out.d (hdi X) ?_ (hdo X) HS.out.below (Nat.le_succ _) ?_); (rfl); intro W3 hb3 hW3 _ _)
    | (fail))
  exact dq_end Try.results44 rfl hW3 ⟨rfl, hb3⟩
set_option maxHeartbeats 8000000 in
set_option maxRecDepth 1000000 in
theorem fits_p (a : Ak) (q : Oq) (f : Fq) {d : Dq} (hd : d.In) (hn : f.d.In) (w : World) : Calls Try.prog 56 #[.agg (clA a q f), .agg d.cells] w fun e w' => e = .returned (.bool (fitsB f d)) ∧ Below w.heap.size w w' := by
  have HS := Lib.hid (ow2_start w (clA a q f) 59 d.cells 27)
  have cC := fun W => compat_p (ext := f.ext) (found := f.found) hd hn W
  unfold fitsB
  generalize compatQ f.ext d f.found f.d = C at *
  obtain ⟨b, E⟩ := C
  go_enter Try.func56, Try.ntmps56
  go_wp2_with (first
    | ((with_reducible refine lb_l2 (all := cll a q f) ?_ rfl rfl HS.out.c ?_); (rfl); refine ⟨_, rfl, ?_⟩)
    | ((with_reducible refine dq_load (d := d) ?_ rfl rfl HS.out.d ?_); (rfl))
    | ((with_reducible refine cd_ld (d := f.d) (all := cll a q f) ?_ rfl rfl HS.out.c ?_ ?_); (rfl); (rfl))
    | (go_at_call 67; (with_reducible refine (cC _).mono ?_); rintro e w1 ⟨rfl, h9⟩; have HS := Lib.hid (HS.out.up h9); clear h9)
    | (fail))
  go_ret
  exact ⟨rfl, HS.out.below⟩
def narrowsB (f : Fq) (d : Dq) : Bool := fixedB f && (f.d.p && (hasB d.h 2 && !d.p))
set_option maxHeartbeats 8000000 in
set_option maxRecDepth 1000000 in
theorem narrows_p (a : Ak) (q : Oq) (f : Fq) (d : Dq) (w : World) : Calls Try.prog 58 #[.agg (clA a q f), .agg d.cells] w fun e w' => e = .returned (.bool (narrowsB f d)) ∧ Below w.heap.size w w' := by
  have HS := Lib.hid (ow2_start w (clA a q f) 59 d.cells 27)
  have cF := fun W => fixed_p a q f W
  unfold narrowsB
  generalize fixedB f = b at *
  have hh : (bits .and .u8 d.h 2 != 0) = hasB d.h 2 := rfl
  generalize hasB d.h 2 = h at *
  cases b <;> cases hp : f.d.p <;> cases h <;>
  (go_enter Try.func58, Try.ntmps58
   go_wp2_with (first
     | ((with_reducible refine lb_l2 (all := cll a q f) ?_ rfl rfl HS.out.c ?_); (rfl); refine ⟨_, rfl, ?_⟩)
     | ((with_reducible refine cc_ld (k := a) (q := q) (f := f) ?_ rfl rfl HS.out.c ?_); (rfl))
     | ((with_reducible refine lb_d2 ?_ rfl rfl HS.out.d ?_); (rfl); refine ⟨_, rfl, ?_⟩)
     | ((with_reducible refine lu_d2 ?_ rfl rfl HS.out.d ?_); (rfl); refine ⟨_, rfl, ?_⟩)
     | (go_at_call 57; (with_reducible refine (cF _).mono ?_); rintro e w1 ⟨rfl, h9⟩; have HS := Lib.hid (HS.out.up h9); clear h9)
     | (fail))
   go_ret
   exact ⟨rfl, HS.out.below⟩)
noncomputable def toldB (q : Oq) (f : Fq) : Bool := bif !q.found then freeB f else fitsB f (compQ q.d) && ((compQ q.d).z || (fixedB f && !narrowsB f (compQ q.d)))
theorem compQ_in {d : Dq} (hd : d.In) : (compQ d).In := by
  unfold compQ
  cases hc : chkQ d with
  | true =>
    have g := good_of hd hc
    show (completeQ d).In
    rw [complete_eq g.mem]
    refine ⟨?_, ?_, ?_, ?_, ?_⟩
    · show (0 : Int) ≤ bif hasB d.h 12 then 60 else 51
      cases hasB d.h 12 <;> decide
    · show (bif hasB d.h 12 then 60 else 51 : Int) < 256
      cases hasB d.h 12 <;> decide
    · show (bif hasB d.h 1 then d.a else v0).In
      cases hasB d.h 1
      · exact ok_in v0_ok
      · exact hd.a
    · show (bif hasB d.h 4 then d.b else v0).In
      cases hasB d.h 4
      · exact ok_in v0_ok
      · exact hd.b
    · show (bif hasB d.h 8 then d.c else v0).In
      cases hasB d.h 8
      · exact ok_in v0_ok
      · exact hd.c
  | false =>
    show (dz 0).In
    exact ⟨by decide, by decide, ok_in v0_ok, ok_in v0_ok, ok_in v0_ok⟩
set_option maxHeartbeats 8000000 in
set_option maxRecDepth 1000000 in
theorem told_p (a : Ak) (q : Oq) (f : Fq) (hd : q.d.In) (hn : f.d.In) (w : World) : Calls Try.prog 37 #[.agg (clA a q f)] w fun e w' => e = .returned (.bool (toldB q f)) ∧ Below w.heap.size w w' := by
  have HS := Lib.hid (ow_start w (clA a q f) 59)
  have hdi := dc_size
  have hdo := dc_one
  have cF := fun W => fixed_p a q f W
  have cR := fun W => free_p a q f W
  have cX := fun W => completed_p hd W
  have cT := fun W => fits_p a q f (compQ_in hd) hn W
  have cN := fun W => narrows_p a q f (compQ q.d) W
  unfold toldB
  generalize compQ q.d = X at *
  generalize fixedB f = b1 at *
  generalize freeB f = b2 at *
  generalize fitsB f X = b3 at *
  generalize narrowsB f X = b4 at *
  cases hf : q.found
  · (go_enter Try.func37, Try.ntmps37
     go_wp2_with (first
       | ((with_reducible refine lb_l2 (all := cll a q f) ?_ rfl rfl HS.out.c ?_); (rfl); refine ⟨_, rfl, ?_⟩)
       | ((with_reducible refine cc_ld (k := a) (q := q) (f := f) ?_ rfl rfl HS.out.c ?_); (rfl))
       | ((with_reducible refine cd_ld (d := q.d) (all := cll a q f) ?_ rfl rfl HS.out.c ?_ ?_); (rfl); (rfl))
       | (go_at_call 44; (with_reducible refine (cX _).mono ?_); rintro e w1 ⟨rfl, h9⟩; have HS := Lib.hid (HS.out.up h9); clear h9)
       | ((with_reducible refine t_store (cs := X.cells) rfl rfl rfl rfl (heap_alloc_new w1 _) (hdi X) ?_ (hdo X) (vzero w1 _) (Nat.le_refl _) ?_); (rfl); intro W2 hb2 hW2 _ _; have HS := Lib.hid (HS.out.up hb2); have HX := Lib.hid hW2; clear hb2 hW2)
       | ((with_reducible refine dq_load (d := X) ?_ rfl rfl HX.out ?_); (rfl))
       | ((with_reducible refine lb_d2 ?_ rfl rfl HX.out ?_); (rfl); refine ⟨_, rfl, ?_⟩)
       | (go_at_call 56; (with_reducible refine (cT _).mono ?_); rintro e w2 ⟨rfl, h9⟩; have HS := Lib.hid (HS.out.up h9); have HX := Lib.hid (vblkn h9 HX.out); clear h9)
       | (go_at_call 57; (with_reducible refine (cF _).mono ?_); rintro e w3 ⟨rfl, h9⟩; have HS := Lib.hid (HS.out.up h9); have HX := Lib.hid (vblkn h9 HX.out); clear h9)
       | (go_at_call 58; (with_reducible refine (cN _).mono ?_); rintro e w4 ⟨rfl, h9⟩; have HS := Lib.hid (HS.out.up h9); have HX := Lib.hid (vblkn h9 HX.out); clear h9)
       | (go_at_call 39; (with_reducible refine (cR _).mono ?_); rintro e w5 ⟨rfl, h9⟩; have HS := Lib.hid (HS.out.up h9); clear h9)
       | (fail))
     go_ret
     exact ⟨rfl, HS.out.below⟩)
  · cases b3
    · go_enter Try.func37, Try.ntmps37
      go_wp2_with (first
        | ((with_reducible refine lb_l2 (all := cll a q f) ?_ rfl rfl HS.out.c ?_); (rfl); refine ⟨_, rfl, ?_⟩)
        | ((with_reducible refine cc_ld (k := a) (q := q) (f := f) ?_ rfl rfl HS.out.c ?_); (rfl))
        | ((with_reducible refine cd_ld (d := q.d) (all := cll a q f) ?_ rfl rfl HS.out.c ?_ ?_); (rfl); (rfl))
        | (go_at_call 44; (with_reducible refine (cX _).mono ?_); rintro e w1 ⟨rfl, h9⟩; have HS := Lib.hid (HS.out.up h9); clear h9)
        | ((with_reducible refine t_store (cs := X.cells) rfl rfl rfl rfl (heap_alloc_new w1 _) (hdi X) ?_ (hdo X) (vzero w1 _) (Nat.le_refl _) ?_); (rfl); intro W2 hb2 hW2 _ _; have HS := Lib.hid (HS.out.up hb2); have HX := Lib.hid hW2; clear hb2 hW2)
        | ((with_reducible refine dq_load (d := X) ?_ rfl rfl HX.out ?_); (rfl))
        | ((with_reducible refine lb_d2 ?_ rfl rfl HX.out ?_); (rfl); refine ⟨_, rfl, ?_⟩)
        | (go_at_call 56; (with_reducible refine (cT _).mono ?_); rintro e w2 ⟨rfl, h9⟩; have HS := Lib.hid (HS.out.up h9); have HX := Lib.hid (vblkn h9 HX.out); clear h9)
        | (go_at_call 57; (with_reducible refine (cF _).mono ?_); rintro e w3 ⟨rfl, h9⟩; have HS := Lib.hid (HS.out.up h9); have HX := Lib.hid (vblkn h9 HX.out); clear h9)
        | (go_at_call 58; (with_reducible refine (cN _).mono ?_); rintro e w4 ⟨rfl, h9⟩; have HS := Lib.hid (HS.out.up h9); have HX := Lib.hid (vblkn h9 HX.out); clear h9)
        | (go_at_call 39; (with_reducible refine (cR _).mono ?_); rintro e w5 ⟨rfl, h9⟩; have HS := Lib.hid (HS.out.up h9); clear h9)
        | (fail))
      go_ret
      exact ⟨rfl, HS.out.below⟩
    · cases hz : X.z
      · cases b1
        · go_enter Try.func37, Try.ntmps37
          go_wp2_with (first
            | ((with_reducible refine lb_l2 (all := cll a q f) ?_ rfl rfl HS.out.c ?_); (rfl); refine ⟨_, rfl, ?_⟩)
            | ((with_reducible refine cc_ld (k := a) (q := q) (f := f) ?_ rfl rfl HS.out.c ?_); (rfl))
            | ((with_reducible refine cd_ld (d := q.d) (all := cll a q f) ?_ rfl rfl HS.out.c ?_ ?_); (rfl); (rfl))
            | (go_at_call 44; (with_reducible refine (cX _).mono ?_); rintro e w1 ⟨rfl, h9⟩; have HS := Lib.hid (HS.out.up h9); clear h9)
            | ((with_reducible refine t_store (cs := X.cells) rfl rfl rfl rfl (heap_alloc_new w1 _) (hdi X) ?_ (hdo X) (vzero w1 _) (Nat.le_refl _) ?_); (rfl); intro W2 hb2 hW2 _ _; have HS := Lib.hid (HS.out.up hb2); have HX := Lib.hid hW2; clear hb2 hW2)
            | ((with_reducible refine dq_load (d := X) ?_ rfl rfl HX.out ?_); (rfl))
            | ((with_reducible refine lb_d2 ?_ rfl rfl HX.out ?_); (rfl); refine ⟨_, rfl, ?_⟩)
            | (go_at_call 56; (with_reducible refine (cT _).mono ?_); rintro e w2 ⟨rfl, h9⟩; have HS := Lib.hid (HS.out.up h9); have HX := Lib.hid (vblkn h9 HX.out); clear h9)
            | (go_at_call 57; (with_reducible refine (cF _).mono ?_); rintro e w3 ⟨rfl, h9⟩; have HS := Lib.hid (HS.out.up h9); have HX := Lib.hid (vblkn h9 HX.out); clear h9)
            | (go_at_call 58; (with_reducible refine (cN _).mono ?_); rintro e w4 ⟨rfl, h9⟩; have HS := Lib.hid (HS.out.up h9); have HX := Lib.hid (vblkn h9 HX.out); clear h9)
            | (go_at_call 39; (with_reducible refine (cR _).mono ?_); rintro e w5 ⟨rfl, h9⟩; have HS := Lib.hid (HS.out.up h9); clear h9)
            | (fail))
          go_ret
          exact ⟨rfl, HS.out.below⟩
        · cases b4
          · go_enter Try.func37, Try.ntmps37
            go_wp2_with (first
              | ((with_reducible refine lb_l2 (all := cll a q f) ?_ rfl rfl HS.out.c ?_); (rfl); refine ⟨_, rfl, ?_⟩)
              | ((with_reducible refine cc_ld (k := a) (q := q) (f := f) ?_ rfl rfl HS.out.c ?_); (rfl))
              | ((with_reducible refine cd_ld (d := q.d) (all := cll a q f) ?_ rfl rfl HS.out.c ?_ ?_); (rfl); (rfl))
              | (go_at_call 44; (with_reducible refine (cX _).mono ?_); rintro e w1 ⟨rfl, h9⟩; have HS := Lib.hid (HS.out.up h9); clear h9)
              | ((with_reducible refine t_store (cs := X.cells) rfl rfl rfl rfl (heap_alloc_new w1 _) (hdi X) ?_ (hdo X) (vzero w1 _) (Nat.le_refl _) ?_); (rfl); intro W2 hb2 hW2 _ _; have HS := Lib.hid (HS.out.up hb2); have HX := Lib.hid hW2; clear hb2 hW2)
              | ((with_reducible refine dq_load (d := X) ?_ rfl rfl HX.out ?_); (rfl))
              | ((with_reducible refine lb_d2 ?_ rfl rfl HX.out ?_); (rfl); refine ⟨_, rfl, ?_⟩)
              | (go_at_call 56; (with_reducible refine (cT _).mono ?_); rintro e w2 ⟨rfl, h9⟩; have HS := Lib.hid (HS.out.up h9); have HX := Lib.hid (vblkn h9 HX.out); clear h9)
              | (go_at_call 57; (with_reducible refine (cF _).mono ?_); rintro e w3 ⟨rfl, h9⟩; have HS := Lib.hid (HS.out.up h9); have HX := Lib.hid (vblkn h9 HX.out); clear h9)
              | (go_at_call 58; (with_reducible refine (cN _).mono ?_); rintro e w4 ⟨rfl, h9⟩; have HS := Lib.hid (HS.out.up h9); have HX := Lib.hid (vblkn h9 HX.out); clear h9)
              | (go_at_call 39; (with_reducible refine (cR _).mono ?_); rintro e w5 ⟨rfl, h9⟩; have HS := Lib.hid (HS.out.up h9); clear h9)
              | (fail))
            go_ret
            exact ⟨rfl, HS.out.below⟩
          · go_enter Try.func37, Try.ntmps37
            go_wp2_with (first
              | ((with_reducible refine lb_l2 (all := cll a q f) ?_ rfl rfl HS.out.c ?_); (rfl); refine ⟨_, rfl, ?_⟩)
              | ((with_reducible refine cc_ld (k := a) (q := q) (f := f) ?_ rfl rfl HS.out.c ?_); (rfl))
              | ((with_reducible refine cd_ld (d := q.d) (all := cll a q f) ?_ rfl rfl HS.out.c ?_ ?_); (rfl); (rfl))
              | (go_at_call 44; (with_reducible refine (cX _).mono ?_); rintro e w1 ⟨rfl, h9⟩; have HS := Lib.hid (HS.out.up h9); clear h9)
              | ((with_reducible refine t_store (cs := X.cells) rfl rfl rfl rfl (heap_alloc_new w1 _) (hdi X) ?_ (hdo X) (vzero w1 _) (Nat.le_refl _) ?_); (rfl); intro W2 hb2 hW2 _ _; have HS := Lib.hid (HS.out.up hb2); have HX := Lib.hid hW2; clear hb2 hW2)
              | ((with_reducible refine dq_load (d := X) ?_ rfl rfl HX.out ?_); (rfl))
              | ((with_reducible refine lb_d2 ?_ rfl rfl HX.out ?_); (rfl); refine ⟨_, rfl, ?_⟩)
              | (go_at_call 56; (with_reducible refine (cT _).mono ?_); rintro e w2 ⟨rfl, h9⟩; have HS := Lib.hid (HS.out.up h9); have HX := Lib.hid (vblkn h9 HX.out); clear h9)
              | (go_at_call 57; (with_reducible refine (cF _).mono ?_); rintro e w3 ⟨rfl, h9⟩; have HS := Lib.hid (HS.out.up h9); have HX := Lib.hid (vblkn h9 HX.out); clear h9)
              | (go_at_call 58; (with_reducible refine (cN _).mono ?_); rintro e w4 ⟨rfl, h9⟩; have HS := Lib.hid (HS.out.up h9); have HX := Lib.hid (vblkn h9 HX.out); clear h9)
              | (go_at_call 39; (with_reducible refine (cR _).mono ?_); rintro e w5 ⟨rfl, h9⟩; have HS := Lib.hid (HS.out.up h9); clear h9)
              | (fail))
            go_ret
            exact ⟨rfl, HS.out.below⟩
      · go_enter Try.func37, Try.ntmps37
        go_wp2_with (first
          | ((with_reducible refine lb_l2 (all := cll a q f) ?_ rfl rfl HS.out.c ?_); (rfl); refine ⟨_, rfl, ?_⟩)
          | ((with_reducible refine cc_ld (k := a) (q := q) (f := f) ?_ rfl rfl HS.out.c ?_); (rfl))
          | ((with_reducible refine cd_ld (d := q.d) (all := cll a q f) ?_ rfl rfl HS.out.c ?_ ?_); (rfl); (rfl))
          | (go_at_call 44; (with_reducible refine (cX _).mono ?_); rintro e w1 ⟨rfl, h9⟩; have HS := Lib.hid (HS.out.up h9); clear h9)
          | ((with_reducible refine t_store (cs := X.cells) rfl rfl rfl rfl (heap_alloc_new w1 _) (hdi X) ?_ (hdo X) (vzero w1 _) (Nat.le_refl _) ?_); (rfl); intro W2 hb2 hW2 _ _; have HS := Lib.hid (HS.out.up hb2); have HX := Lib.hid hW2; clear hb2 hW2)
          | ((with_reducible refine dq_load (d := X) ?_ rfl rfl HX.out ?_); (rfl))
          | ((with_reducible refine lb_d2 ?_ rfl rfl HX.out ?_); (rfl); refine ⟨_, rfl, ?_⟩)
          | (go_at_call 56; (with_reducible refine (cT _).mono ?_); rintro e w2 ⟨rfl, h9⟩; have HS := Lib.hid (HS.out.up h9); have HX := Lib.hid (vblkn h9 HX.out); clear h9)
          | (go_at_call 57; (with_reducible refine (cF _).mono ?_); rintro e w3 ⟨rfl, h9⟩; have HS := Lib.hid (HS.out.up h9); have HX := Lib.hid (vblkn h9 HX.out); clear h9)
          | (go_at_call 58; (with_reducible refine (cN _).mono ?_); rintro e w4 ⟨rfl, h9⟩; have HS := Lib.hid (HS.out.up h9); have HX := Lib.hid (vblkn h9 HX.out); clear h9)
          | (go_at_call 39; (with_reducible refine (cR _).mono ?_); rintro e w5 ⟨rfl, h9⟩; have HS := Lib.hid (HS.out.up h9); clear h9)
          | (fail))
        go_ret
        exact ⟨rfl, HS.out.below⟩
noncomputable def definedB (d : Dq) (f : Fq) : Bool := fitsB f d && ((!(hasB d.h 32 && !d.z) || fixedB f) && !narrowsB f d)
set_option maxHeartbeats 8000000 in
set_option maxRecDepth 1000000 in
theorem defined_p (a : Ak) (q : Oq) (f : Fq) (hd : a.d.In) (hn : f.d.In) (w : World) : Calls Try.prog 38 #[.agg (clA a q f)] w fun e w' => e = .returned (.bool (definedB a.d f)) ∧ Below w.heap.size w w' := by
  have HS0 := Lib.hid (ow_start w (clA a q f) 59)
  obtain ⟨b1, b2⟩ := vblk2 (w := w) (Below.refl _ ((w.alloc (.cells (clA a q f) 59)).alloc (.cells (dz 0).cells 27)))
  have hB0 : Below w.heap.size w ((w.alloc (.cells (clA a q f) 59)).alloc (.cells (dz 0).cells 27)) := vafter (vzero _ _)
  have hdi := dc_size
  have hdo := dc_one
  have cF := fun W => fixed_p a q f W
  have cT := fun W => fits_p a q f hd hn W
  have cN := fun W => narrows_p a q f a.d W
  unfold definedB
  generalize fixedB f = b5 at *
  generalize fitsB f a.d = b3 at *
  generalize narrowsB f a.d = b4 at *
  have hh : (bits .and .u8 a.d.h 32 != 0) = hasB a.d.h 32 := rfl
  generalize hasB a.d.h 32 = h at *
  cases h
  · cases b3
    · go_enter Try.func38, Try.ntmps38
      go_wp2_with (first
        | ((with_reducible refine cc_ld (k := a) (q := q) (f := f) ?_ rfl rfl HS.out.c ?_); (rfl))
        | ((with_reducible refine dq_load (d := a.d) ?_ rfl rfl HX.out ?_); (rfl))
        | ((with_reducible refine lb_d2 ?_ rfl rfl HX.out ?_); (rfl); refine ⟨_, rfl, ?_⟩)
        | ((with_reducible refine lu_d2 ?_ rfl rfl HX.out ?_); (rfl); refine ⟨_, rfl, ?_⟩)
        | ((with_reducible refine cd_ld (d := a.d) (all := cll a q f) ?_ rfl rfl HS0.out.c ?_ ?_); (rfl); (rfl))
        | ((refine t_store (cs := a.d.cells) rfl rfl rfl rfl b2 (hdi a.d) rfl (hdo a.d) hB0 (Nat.le_succ _) ?_); intro W2 hb2 hW2 hO2 _; have HS := Lib.hid (show Ow w (clA a q f) 59 W2 from ⟨hb2, (hO2 w.heap.size (by omega)).trans b1⟩); have HX := Lib.hid hW2; clear hb2 hW2 hO2)
        | (go_at_call 56; (with_reducible refine (cT _).mono ?_); rintro e w2 ⟨rfl, h9⟩; have HS := Lib.hid (HS.out.up h9); have HX := Lib.hid (vblkn h9 HX.out); clear h9)
        | (go_at_call 57; (with_reducible refine (cF _).mono ?_); rintro e w3 ⟨rfl, h9⟩; have HS := Lib.hid (HS.out.up h9); have HX := Lib.hid (vblkn h9 HX.out); clear h9)
        | (go_at_call 58; (with_reducible refine (cN _).mono ?_); rintro e w4 ⟨rfl, h9⟩; have HS := Lib.hid (HS.out.up h9); have HX := Lib.hid (vblkn h9 HX.out); clear h9)
        | (fail))
      go_ret
      exact ⟨rfl, HS.out.below⟩
    · cases hz : a.d.z
      · cases b5
        · cases b4
          · go_enter Try.func38, Try.ntmps38
            go_wp2_with (first
              | ((with_reducible refine cc_ld (k := a) (q := q) (f := f) ?_ rfl rfl HS.out.c ?_); (rfl))
              | ((with_reducible refine dq_load (d := a.d) ?_ rfl rfl HX.out ?_); (rfl))
              | ((with_reducible refine lb_d2 ?_ rfl rfl HX.out ?_); (rfl); refine ⟨_, rfl, ?_⟩)
              | ((with_reducible refine lu_d2 ?_ rfl rfl HX.out ?_); (rfl); refine ⟨_, rfl, ?_⟩)
              | ((with_reducible refine cd_ld (d := a.d) (all := cll a q f) ?_ rfl rfl HS0.out.c ?_ ?_); (rfl); (rfl))
              | ((refine t_store (cs := a.d.cells) rfl rfl rfl rfl b2 (hdi a.d) rfl (hdo a.d) hB0 (Nat.le_succ _) ?_); intro W2 hb2 hW2 hO2 _; have HS := Lib.hid (show Ow w (clA a q f) 59 W2 from ⟨hb2, (hO2 w.heap.size (by omega)).trans b1⟩); have HX := Lib.hid hW2; clear hb2 hW2 hO2)
              | (go_at_call 56; (with_reducible refine (cT _).mono ?_); rintro e w2 ⟨rfl, h9⟩; have HS := Lib.hid (HS.out.up h9); have HX := Lib.hid (vblkn h9 HX.out); clear h9)
              | (go_at_call 57; (with_reducible refine (cF _).mono ?_); rintro e w3 ⟨rfl, h9⟩; have HS := Lib.hid (HS.out.up h9); have HX := Lib.hid (vblkn h9 HX.out); clear h9)
              | (go_at_call 58; (with_reducible refine (cN _).mono ?_); rintro e w4 ⟨rfl, h9⟩; have HS := Lib.hid (HS.out.up h9); have HX := Lib.hid (vblkn h9 HX.out); clear h9)
              | (fail))
            go_ret
            exact ⟨rfl, HS.out.below⟩
          · go_enter Try.func38, Try.ntmps38
            go_wp2_with (first
              | ((with_reducible refine cc_ld (k := a) (q := q) (f := f) ?_ rfl rfl HS.out.c ?_); (rfl))
              | ((with_reducible refine dq_load (d := a.d) ?_ rfl rfl HX.out ?_); (rfl))
              | ((with_reducible refine lb_d2 ?_ rfl rfl HX.out ?_); (rfl); refine ⟨_, rfl, ?_⟩)
              | ((with_reducible refine lu_d2 ?_ rfl rfl HX.out ?_); (rfl); refine ⟨_, rfl, ?_⟩)
              | ((with_reducible refine cd_ld (d := a.d) (all := cll a q f) ?_ rfl rfl HS0.out.c ?_ ?_); (rfl); (rfl))
              | ((refine t_store (cs := a.d.cells) rfl rfl rfl rfl b2 (hdi a.d) rfl (hdo a.d) hB0 (Nat.le_succ _) ?_); intro W2 hb2 hW2 hO2 _; have HS := Lib.hid (show Ow w (clA a q f) 59 W2 from ⟨hb2, (hO2 w.heap.size (by omega)).trans b1⟩); have HX := Lib.hid hW2; clear hb2 hW2 hO2)
              | (go_at_call 56; (with_reducible refine (cT _).mono ?_); rintro e w2 ⟨rfl, h9⟩; have HS := Lib.hid (HS.out.up h9); have HX := Lib.hid (vblkn h9 HX.out); clear h9)
              | (go_at_call 57; (with_reducible refine (cF _).mono ?_); rintro e w3 ⟨rfl, h9⟩; have HS := Lib.hid (HS.out.up h9); have HX := Lib.hid (vblkn h9 HX.out); clear h9)
              | (go_at_call 58; (with_reducible refine (cN _).mono ?_); rintro e w4 ⟨rfl, h9⟩; have HS := Lib.hid (HS.out.up h9); have HX := Lib.hid (vblkn h9 HX.out); clear h9)
              | (fail))
            go_ret
            exact ⟨rfl, HS.out.below⟩
        · cases b4
          · go_enter Try.func38, Try.ntmps38
            go_wp2_with (first
              | ((with_reducible refine cc_ld (k := a) (q := q) (f := f) ?_ rfl rfl HS.out.c ?_); (rfl))
              | ((with_reducible refine dq_load (d := a.d) ?_ rfl rfl HX.out ?_); (rfl))
              | ((with_reducible refine lb_d2 ?_ rfl rfl HX.out ?_); (rfl); refine ⟨_, rfl, ?_⟩)
              | ((with_reducible refine lu_d2 ?_ rfl rfl HX.out ?_); (rfl); refine ⟨_, rfl, ?_⟩)
              | ((with_reducible refine cd_ld (d := a.d) (all := cll a q f) ?_ rfl rfl HS0.out.c ?_ ?_); (rfl); (rfl))
              | ((refine t_store (cs := a.d.cells) rfl rfl rfl rfl b2 (hdi a.d) rfl (hdo a.d) hB0 (Nat.le_succ _) ?_); intro W2 hb2 hW2 hO2 _; have HS := Lib.hid (show Ow w (clA a q f) 59 W2 from ⟨hb2, (hO2 w.heap.size (by omega)).trans b1⟩); have HX := Lib.hid hW2; clear hb2 hW2 hO2)
              | (go_at_call 56; (with_reducible refine (cT _).mono ?_); rintro e w2 ⟨rfl, h9⟩; have HS := Lib.hid (HS.out.up h9); have HX := Lib.hid (vblkn h9 HX.out); clear h9)
              | (go_at_call 57; (with_reducible refine (cF _).mono ?_); rintro e w3 ⟨rfl, h9⟩; have HS := Lib.hid (HS.out.up h9); have HX := Lib.hid (vblkn h9 HX.out); clear h9)
              | (go_at_call 58; (with_reducible refine (cN _).mono ?_); rintro e w4 ⟨rfl, h9⟩; have HS := Lib.hid (HS.out.up h9); have HX := Lib.hid (vblkn h9 HX.out); clear h9)
              | (fail))
            go_ret
            exact ⟨rfl, HS.out.below⟩
          · go_enter Try.func38, Try.ntmps38
            go_wp2_with (first
              | ((with_reducible refine cc_ld (k := a) (q := q) (f := f) ?_ rfl rfl HS.out.c ?_); (rfl))
              | ((with_reducible refine dq_load (d := a.d) ?_ rfl rfl HX.out ?_); (rfl))
              | ((with_reducible refine lb_d2 ?_ rfl rfl HX.out ?_); (rfl); refine ⟨_, rfl, ?_⟩)
              | ((with_reducible refine lu_d2 ?_ rfl rfl HX.out ?_); (rfl); refine ⟨_, rfl, ?_⟩)
              | ((with_reducible refine cd_ld (d := a.d) (all := cll a q f) ?_ rfl rfl HS0.out.c ?_ ?_); (rfl); (rfl))
              | ((refine t_store (cs := a.d.cells) rfl rfl rfl rfl b2 (hdi a.d) rfl (hdo a.d) hB0 (Nat.le_succ _) ?_); intro W2 hb2 hW2 hO2 _; have HS := Lib.hid (show Ow w (clA a q f) 59 W2 from ⟨hb2, (hO2 w.heap.size (by omega)).trans b1⟩); have HX := Lib.hid hW2; clear hb2 hW2 hO2)
              | (go_at_call 56; (with_reducible refine (cT _).mono ?_); rintro e w2 ⟨rfl, h9⟩; have HS := Lib.hid (HS.out.up h9); have HX := Lib.hid (vblkn h9 HX.out); clear h9)
              | (go_at_call 57; (with_reducible refine (cF _).mono ?_); rintro e w3 ⟨rfl, h9⟩; have HS := Lib.hid (HS.out.up h9); have HX := Lib.hid (vblkn h9 HX.out); clear h9)
              | (go_at_call 58; (with_reducible refine (cN _).mono ?_); rintro e w4 ⟨rfl, h9⟩; have HS := Lib.hid (HS.out.up h9); have HX := Lib.hid (vblkn h9 HX.out); clear h9)
              | (fail))
            go_ret
            exact ⟨rfl, HS.out.below⟩
      · cases b5
        · cases b4
          · go_enter Try.func38, Try.ntmps38
            go_wp2_with (first
              | ((with_reducible refine cc_ld (k := a) (q := q) (f := f) ?_ rfl rfl HS.out.c ?_); (rfl))
              | ((with_reducible refine dq_load (d := a.d) ?_ rfl rfl HX.out ?_); (rfl))
              | ((with_reducible refine lb_d2 ?_ rfl rfl HX.out ?_); (rfl); refine ⟨_, rfl, ?_⟩)
              | ((with_reducible refine lu_d2 ?_ rfl rfl HX.out ?_); (rfl); refine ⟨_, rfl, ?_⟩)
              | ((with_reducible refine cd_ld (d := a.d) (all := cll a q f) ?_ rfl rfl HS0.out.c ?_ ?_); (rfl); (rfl))
              | ((refine t_store (cs := a.d.cells) rfl rfl rfl rfl b2 (hdi a.d) rfl (hdo a.d) hB0 (Nat.le_succ _) ?_); intro W2 hb2 hW2 hO2 _; have HS := Lib.hid (show Ow w (clA a q f) 59 W2 from ⟨hb2, (hO2 w.heap.size (by omega)).trans b1⟩); have HX := Lib.hid hW2; clear hb2 hW2 hO2)
              | (go_at_call 56; (with_reducible refine (cT _).mono ?_); rintro e w2 ⟨rfl, h9⟩; have HS := Lib.hid (HS.out.up h9); have HX := Lib.hid (vblkn h9 HX.out); clear h9)
              | (go_at_call 57; (with_reducible refine (cF _).mono ?_); rintro e w3 ⟨rfl, h9⟩; have HS := Lib.hid (HS.out.up h9); have HX := Lib.hid (vblkn h9 HX.out); clear h9)
              | (go_at_call 58; (with_reducible refine (cN _).mono ?_); rintro e w4 ⟨rfl, h9⟩; have HS := Lib.hid (HS.out.up h9); have HX := Lib.hid (vblkn h9 HX.out); clear h9)
              | (fail))
            go_ret
            exact ⟨rfl, HS.out.below⟩
          · go_enter Try.func38, Try.ntmps38
            go_wp2_with (first
              | ((with_reducible refine cc_ld (k := a) (q := q) (f := f) ?_ rfl rfl HS.out.c ?_); (rfl))
              | ((with_reducible refine dq_load (d := a.d) ?_ rfl rfl HX.out ?_); (rfl))
              | ((with_reducible refine lb_d2 ?_ rfl rfl HX.out ?_); (rfl); refine ⟨_, rfl, ?_⟩)
              | ((with_reducible refine lu_d2 ?_ rfl rfl HX.out ?_); (rfl); refine ⟨_, rfl, ?_⟩)
              | ((with_reducible refine cd_ld (d := a.d) (all := cll a q f) ?_ rfl rfl HS0.out.c ?_ ?_); (rfl); (rfl))
              | ((refine t_store (cs := a.d.cells) rfl rfl rfl rfl b2 (hdi a.d) rfl (hdo a.d) hB0 (Nat.le_succ _) ?_); intro W2 hb2 hW2 hO2 _; have HS := Lib.hid (show Ow w (clA a q f) 59 W2 from ⟨hb2, (hO2 w.heap.size (by omega)).trans b1⟩); have HX := Lib.hid hW2; clear hb2 hW2 hO2)
              | (go_at_call 56; (with_reducible refine (cT _).mono ?_); rintro e w2 ⟨rfl, h9⟩; have HS := Lib.hid (HS.out.up h9); have HX := Lib.hid (vblkn h9 HX.out); clear h9)
              | (go_at_call 57; (with_reducible refine (cF _).mono ?_); rintro e w3 ⟨rfl, h9⟩; have HS := Lib.hid (HS.out.up h9); have HX := Lib.hid (vblkn h9 HX.out); clear h9)
              | (go_at_call 58; (with_reducible refine (cN _).mono ?_); rintro e w4 ⟨rfl, h9⟩; have HS := Lib.hid (HS.out.up h9); have HX := Lib.hid (vblkn h9 HX.out); clear h9)
              | (fail))
            go_ret
            exact ⟨rfl, HS.out.below⟩
        · cases b4
          · go_enter Try.func38, Try.ntmps38
            go_wp2_with (first
              | ((with_reducible refine cc_ld (k := a) (q := q) (f := f) ?_ rfl rfl HS.out.c ?_); (rfl))
              | ((with_reducible refine dq_load (d := a.d) ?_ rfl rfl HX.out ?_); (rfl))
              | ((with_reducible refine lb_d2 ?_ rfl rfl HX.out ?_); (rfl); refine ⟨_, rfl, ?_⟩)
              | ((with_reducible refine lu_d2 ?_ rfl rfl HX.out ?_); (rfl); refine ⟨_, rfl, ?_⟩)
              | ((with_reducible refine cd_ld (d := a.d) (all := cll a q f) ?_ rfl rfl HS0.out.c ?_ ?_); (rfl); (rfl))
              | ((refine t_store (cs := a.d.cells) rfl rfl rfl rfl b2 (hdi a.d) rfl (hdo a.d) hB0 (Nat.le_succ _) ?_); intro W2 hb2 hW2 hO2 _; have HS := Lib.hid (show Ow w (clA a q f) 59 W2 from ⟨hb2, (hO2 w.heap.size (by omega)).trans b1⟩); have HX := Lib.hid hW2; clear hb2 hW2 hO2)
              | (go_at_call 56; (with_reducible refine (cT _).mono ?_); rintro e w2 ⟨rfl, h9⟩; have HS := Lib.hid (HS.out.up h9); have HX := Lib.hid (vblkn h9 HX.out); clear h9)
              | (go_at_call 57; (with_reducible refine (cF _).mono ?_); rintro e w3 ⟨rfl, h9⟩; have HS := Lib.hid (HS.out.up h9); have HX := Lib.hid (vblkn h9 HX.out); clear h9)
              | (go_at_call 58; (with_reducible refine (cN _).mono ?_); rintro e w4 ⟨rfl, h9⟩; have HS := Lib.hid (HS.out.up h9); have HX := Lib.hid (vblkn h9 HX.out); clear h9)
              | (fail))
            go_ret
            exact ⟨rfl, HS.out.below⟩
          · go_enter Try.func38, Try.ntmps38
            go_wp2_with (first
              | ((with_reducible refine cc_ld (k := a) (q := q) (f := f) ?_ rfl rfl HS.out.c ?_); (rfl))
              | ((with_reducible refine dq_load (d := a.d) ?_ rfl rfl HX.out ?_); (rfl))
              | ((with_reducible refine lb_d2 ?_ rfl rfl HX.out ?_); (rfl); refine ⟨_, rfl, ?_⟩)
              | ((with_reducible refine lu_d2 ?_ rfl rfl HX.out ?_); (rfl); refine ⟨_, rfl, ?_⟩)
              | ((with_reducible refine cd_ld (d := a.d) (all := cll a q f) ?_ rfl rfl HS0.out.c ?_ ?_); (rfl); (rfl))
              | ((refine t_store (cs := a.d.cells) rfl rfl rfl rfl b2 (hdi a.d) rfl (hdo a.d) hB0 (Nat.le_succ _) ?_); intro W2 hb2 hW2 hO2 _; have HS := Lib.hid (show Ow w (clA a q f) 59 W2 from ⟨hb2, (hO2 w.heap.size (by omega)).trans b1⟩); have HX := Lib.hid hW2; clear hb2 hW2 hO2)
              | (go_at_call 56; (with_reducible refine (cT _).mono ?_); rintro e w2 ⟨rfl, h9⟩; have HS := Lib.hid (HS.out.up h9); have HX := Lib.hid (vblkn h9 HX.out); clear h9)
              | (go_at_call 57; (with_reducible refine (cF _).mono ?_); rintro e w3 ⟨rfl, h9⟩; have HS := Lib.hid (HS.out.up h9); have HX := Lib.hid (vblkn h9 HX.out); clear h9)
              | (go_at_call 58; (with_reducible refine (cN _).mono ?_); rintro e w4 ⟨rfl, h9⟩; have HS := Lib.hid (HS.out.up h9); have HX := Lib.hid (vblkn h9 HX.out); clear h9)
              | (fail))
            go_ret
            exact ⟨rfl, HS.out.below⟩
  · cases b3
    · go_enter Try.func38, Try.ntmps38
      go_wp2_with (first
        | ((with_reducible refine cc_ld (k := a) (q := q) (f := f) ?_ rfl rfl HS.out.c ?_); (rfl))
        | ((with_reducible refine dq_load (d := a.d) ?_ rfl rfl HX.out ?_); (rfl))
        | ((with_reducible refine lb_d2 ?_ rfl rfl HX.out ?_); (rfl); refine ⟨_, rfl, ?_⟩)
        | ((with_reducible refine lu_d2 ?_ rfl rfl HX.out ?_); (rfl); refine ⟨_, rfl, ?_⟩)
        | ((with_reducible refine cd_ld (d := a.d) (all := cll a q f) ?_ rfl rfl HS0.out.c ?_ ?_); (rfl); (rfl))
        | ((refine t_store (cs := a.d.cells) rfl rfl rfl rfl b2 (hdi a.d) rfl (hdo a.d) hB0 (Nat.le_succ _) ?_); intro W2 hb2 hW2 hO2 _; have HS := Lib.hid (show Ow w (clA a q f) 59 W2 from ⟨hb2, (hO2 w.heap.size (by omega)).trans b1⟩); have HX := Lib.hid hW2; clear hb2 hW2 hO2)
        | (go_at_call 56; (with_reducible refine (cT _).mono ?_); rintro e w2 ⟨rfl, h9⟩; have HS := Lib.hid (HS.out.up h9); have HX := Lib.hid (vblkn h9 HX.out); clear h9)
        | (go_at_call 57; (with_reducible refine (cF _).mono ?_); rintro e w3 ⟨rfl, h9⟩; have HS := Lib.hid (HS.out.up h9); have HX := Lib.hid (vblkn h9 HX.out); clear h9)
        | (go_at_call 58; (with_reducible refine (cN _).mono ?_); rintro e w4 ⟨rfl, h9⟩; have HS := Lib.hid (HS.out.up h9); have HX := Lib.hid (vblkn h9 HX.out); clear h9)
        | (fail))
      go_ret
      exact ⟨rfl, HS.out.below⟩
    · cases hz : a.d.z
      · cases b5
        · go_enter Try.func38, Try.ntmps38
          go_wp2_with (first
            | ((with_reducible refine cc_ld (k := a) (q := q) (f := f) ?_ rfl rfl HS.out.c ?_); (rfl))
            | ((with_reducible refine dq_load (d := a.d) ?_ rfl rfl HX.out ?_); (rfl))
            | ((with_reducible refine lb_d2 ?_ rfl rfl HX.out ?_); (rfl); refine ⟨_, rfl, ?_⟩)
            | ((with_reducible refine lu_d2 ?_ rfl rfl HX.out ?_); (rfl); refine ⟨_, rfl, ?_⟩)
            | ((with_reducible refine cd_ld (d := a.d) (all := cll a q f) ?_ rfl rfl HS0.out.c ?_ ?_); (rfl); (rfl))
            | ((refine t_store (cs := a.d.cells) rfl rfl rfl rfl b2 (hdi a.d) rfl (hdo a.d) hB0 (Nat.le_succ _) ?_); intro W2 hb2 hW2 hO2 _; have HS := Lib.hid (show Ow w (clA a q f) 59 W2 from ⟨hb2, (hO2 w.heap.size (by omega)).trans b1⟩); have HX := Lib.hid hW2; clear hb2 hW2 hO2)
            | (go_at_call 56; (with_reducible refine (cT _).mono ?_); rintro e w2 ⟨rfl, h9⟩; have HS := Lib.hid (HS.out.up h9); have HX := Lib.hid (vblkn h9 HX.out); clear h9)
            | (go_at_call 57; (with_reducible refine (cF _).mono ?_); rintro e w3 ⟨rfl, h9⟩; have HS := Lib.hid (HS.out.up h9); have HX := Lib.hid (vblkn h9 HX.out); clear h9)
            | (go_at_call 58; (with_reducible refine (cN _).mono ?_); rintro e w4 ⟨rfl, h9⟩; have HS := Lib.hid (HS.out.up h9); have HX := Lib.hid (vblkn h9 HX.out); clear h9)
            | (fail))
          go_ret
          exact ⟨rfl, HS.out.below⟩
        · cases b4
          · go_enter Try.func38, Try.ntmps38
            go_wp2_with (first
              | ((with_reducible refine cc_ld (k := a) (q := q) (f := f) ?_ rfl rfl HS.out.c ?_); (rfl))
              | ((with_reducible refine dq_load (d := a.d) ?_ rfl rfl HX.out ?_); (rfl))
              | ((with_reducible refine lb_d2 ?_ rfl rfl HX.out ?_); (rfl); refine ⟨_, rfl, ?_⟩)
              | ((with_reducible refine lu_d2 ?_ rfl rfl HX.out ?_); (rfl); refine ⟨_, rfl, ?_⟩)
              | ((with_reducible refine cd_ld (d := a.d) (all := cll a q f) ?_ rfl rfl HS0.out.c ?_ ?_); (rfl); (rfl))
              | ((refine t_store (cs := a.d.cells) rfl rfl rfl rfl b2 (hdi a.d) rfl (hdo a.d) hB0 (Nat.le_succ _) ?_); intro W2 hb2 hW2 hO2 _; have HS := Lib.hid (show Ow w (clA a q f) 59 W2 from ⟨hb2, (hO2 w.heap.size (by omega)).trans b1⟩); have HX := Lib.hid hW2; clear hb2 hW2 hO2)
              | (go_at_call 56; (with_reducible refine (cT _).mono ?_); rintro e w2 ⟨rfl, h9⟩; have HS := Lib.hid (HS.out.up h9); have HX := Lib.hid (vblkn h9 HX.out); clear h9)
              | (go_at_call 57; (with_reducible refine (cF _).mono ?_); rintro e w3 ⟨rfl, h9⟩; have HS := Lib.hid (HS.out.up h9); have HX := Lib.hid (vblkn h9 HX.out); clear h9)
              | (go_at_call 58; (with_reducible refine (cN _).mono ?_); rintro e w4 ⟨rfl, h9⟩; have HS := Lib.hid (HS.out.up h9); have HX := Lib.hid (vblkn h9 HX.out); clear h9)
              | (fail))
            go_ret
            exact ⟨rfl, HS.out.below⟩
          · go_enter Try.func38, Try.ntmps38
            go_wp2_with (first
              | ((with_reducible refine cc_ld (k := a) (q := q) (f := f) ?_ rfl rfl HS.out.c ?_); (rfl))
              | ((with_reducible refine dq_load (d := a.d) ?_ rfl rfl HX.out ?_); (rfl))
              | ((with_reducible refine lb_d2 ?_ rfl rfl HX.out ?_); (rfl); refine ⟨_, rfl, ?_⟩)
              | ((with_reducible refine lu_d2 ?_ rfl rfl HX.out ?_); (rfl); refine ⟨_, rfl, ?_⟩)
              | ((with_reducible refine cd_ld (d := a.d) (all := cll a q f) ?_ rfl rfl HS0.out.c ?_ ?_); (rfl); (rfl))
              | ((refine t_store (cs := a.d.cells) rfl rfl rfl rfl b2 (hdi a.d) rfl (hdo a.d) hB0 (Nat.le_succ _) ?_); intro W2 hb2 hW2 hO2 _; have HS := Lib.hid (show Ow w (clA a q f) 59 W2 from ⟨hb2, (hO2 w.heap.size (by omega)).trans b1⟩); have HX := Lib.hid hW2; clear hb2 hW2 hO2)
              | (go_at_call 56; (with_reducible refine (cT _).mono ?_); rintro e w2 ⟨rfl, h9⟩; have HS := Lib.hid (HS.out.up h9); have HX := Lib.hid (vblkn h9 HX.out); clear h9)
              | (go_at_call 57; (with_reducible refine (cF _).mono ?_); rintro e w3 ⟨rfl, h9⟩; have HS := Lib.hid (HS.out.up h9); have HX := Lib.hid (vblkn h9 HX.out); clear h9)
              | (go_at_call 58; (with_reducible refine (cN _).mono ?_); rintro e w4 ⟨rfl, h9⟩; have HS := Lib.hid (HS.out.up h9); have HX := Lib.hid (vblkn h9 HX.out); clear h9)
              | (fail))
            go_ret
            exact ⟨rfl, HS.out.below⟩
      · cases b5
        · cases b4
          · go_enter Try.func38, Try.ntmps38
            go_wp2_with (first
              | ((with_reducible refine cc_ld (k := a) (q := q) (f := f) ?_ rfl rfl HS.out.c ?_); (rfl))
              | ((with_reducible refine dq_load (d := a.d) ?_ rfl rfl HX.out ?_); (rfl))
              | ((with_reducible refine lb_d2 ?_ rfl rfl HX.out ?_); (rfl); refine ⟨_, rfl, ?_⟩)
              | ((with_reducible refine lu_d2 ?_ rfl rfl HX.out ?_); (rfl); refine ⟨_, rfl, ?_⟩)
              | ((with_reducible refine cd_ld (d := a.d) (all := cll a q f) ?_ rfl rfl HS0.out.c ?_ ?_); (rfl); (rfl))
              | ((refine t_store (cs := a.d.cells) rfl rfl rfl rfl b2 (hdi a.d) rfl (hdo a.d) hB0 (Nat.le_succ _) ?_); intro W2 hb2 hW2 hO2 _; have HS := Lib.hid (show Ow w (clA a q f) 59 W2 from ⟨hb2, (hO2 w.heap.size (by omega)).trans b1⟩); have HX := Lib.hid hW2; clear hb2 hW2 hO2)
              | (go_at_call 56; (with_reducible refine (cT _).mono ?_); rintro e w2 ⟨rfl, h9⟩; have HS := Lib.hid (HS.out.up h9); have HX := Lib.hid (vblkn h9 HX.out); clear h9)
              | (go_at_call 57; (with_reducible refine (cF _).mono ?_); rintro e w3 ⟨rfl, h9⟩; have HS := Lib.hid (HS.out.up h9); have HX := Lib.hid (vblkn h9 HX.out); clear h9)
              | (go_at_call 58; (with_reducible refine (cN _).mono ?_); rintro e w4 ⟨rfl, h9⟩; have HS := Lib.hid (HS.out.up h9); have HX := Lib.hid (vblkn h9 HX.out); clear h9)
              | (fail))
            go_ret
            exact ⟨rfl, HS.out.below⟩
          · go_enter Try.func38, Try.ntmps38
            go_wp2_with (first
              | ((with_reducible refine cc_ld (k := a) (q := q) (f := f) ?_ rfl rfl HS.out.c ?_); (rfl))
              | ((with_reducible refine dq_load (d := a.d) ?_ rfl rfl HX.out ?_); (rfl))
              | ((with_reducible refine lb_d2 ?_ rfl rfl HX.out ?_); (rfl); refine ⟨_, rfl, ?_⟩)
              | ((with_reducible refine lu_d2 ?_ rfl rfl HX.out ?_); (rfl); refine ⟨_, rfl, ?_⟩)
              | ((with_reducible refine cd_ld (d := a.d) (all := cll a q f) ?_ rfl rfl HS0.out.c ?_ ?_); (rfl); (rfl))
              | ((refine t_store (cs := a.d.cells) rfl rfl rfl rfl b2 (hdi a.d) rfl (hdo a.d) hB0 (Nat.le_succ _) ?_); intro W2 hb2 hW2 hO2 _; have HS := Lib.hid (show Ow w (clA a q f) 59 W2 from ⟨hb2, (hO2 w.heap.size (by omega)).trans b1⟩); have HX := Lib.hid hW2; clear hb2 hW2 hO2)
              | (go_at_call 56; (with_reducible refine (cT _).mono ?_); rintro e w2 ⟨rfl, h9⟩; have HS := Lib.hid (HS.out.up h9); have HX := Lib.hid (vblkn h9 HX.out); clear h9)
              | (go_at_call 57; (with_reducible refine (cF _).mono ?_); rintro e w3 ⟨rfl, h9⟩; have HS := Lib.hid (HS.out.up h9); have HX := Lib.hid (vblkn h9 HX.out); clear h9)
              | (go_at_call 58; (with_reducible refine (cN _).mono ?_); rintro e w4 ⟨rfl, h9⟩; have HS := Lib.hid (HS.out.up h9); have HX := Lib.hid (vblkn h9 HX.out); clear h9)
              | (fail))
            go_ret
            exact ⟨rfl, HS.out.below⟩
        · cases b4
          · go_enter Try.func38, Try.ntmps38
            go_wp2_with (first
              | ((with_reducible refine cc_ld (k := a) (q := q) (f := f) ?_ rfl rfl HS.out.c ?_); (rfl))
              | ((with_reducible refine dq_load (d := a.d) ?_ rfl rfl HX.out ?_); (rfl))
              | ((with_reducible refine lb_d2 ?_ rfl rfl HX.out ?_); (rfl); refine ⟨_, rfl, ?_⟩)
              | ((with_reducible refine lu_d2 ?_ rfl rfl HX.out ?_); (rfl); refine ⟨_, rfl, ?_⟩)
              | ((with_reducible refine cd_ld (d := a.d) (all := cll a q f) ?_ rfl rfl HS0.out.c ?_ ?_); (rfl); (rfl))
              | ((refine t_store (cs := a.d.cells) rfl rfl rfl rfl b2 (hdi a.d) rfl (hdo a.d) hB0 (Nat.le_succ _) ?_); intro W2 hb2 hW2 hO2 _; have HS := Lib.hid (show Ow w (clA a q f) 59 W2 from ⟨hb2, (hO2 w.heap.size (by omega)).trans b1⟩); have HX := Lib.hid hW2; clear hb2 hW2 hO2)
              | (go_at_call 56; (with_reducible refine (cT _).mono ?_); rintro e w2 ⟨rfl, h9⟩; have HS := Lib.hid (HS.out.up h9); have HX := Lib.hid (vblkn h9 HX.out); clear h9)
              | (go_at_call 57; (with_reducible refine (cF _).mono ?_); rintro e w3 ⟨rfl, h9⟩; have HS := Lib.hid (HS.out.up h9); have HX := Lib.hid (vblkn h9 HX.out); clear h9)
              | (go_at_call 58; (with_reducible refine (cN _).mono ?_); rintro e w4 ⟨rfl, h9⟩; have HS := Lib.hid (HS.out.up h9); have HX := Lib.hid (vblkn h9 HX.out); clear h9)
              | (fail))
            go_ret
            exact ⟨rfl, HS.out.below⟩
          · go_enter Try.func38, Try.ntmps38
            go_wp2_with (first
              | ((with_reducible refine cc_ld (k := a) (q := q) (f := f) ?_ rfl rfl HS.out.c ?_); (rfl))
              | ((with_reducible refine dq_load (d := a.d) ?_ rfl rfl HX.out ?_); (rfl))
              | ((with_reducible refine lb_d2 ?_ rfl rfl HX.out ?_); (rfl); refine ⟨_, rfl, ?_⟩)
              | ((with_reducible refine lu_d2 ?_ rfl rfl HX.out ?_); (rfl); refine ⟨_, rfl, ?_⟩)
              | ((with_reducible refine cd_ld (d := a.d) (all := cll a q f) ?_ rfl rfl HS0.out.c ?_ ?_); (rfl); (rfl))
              | ((refine t_store (cs := a.d.cells) rfl rfl rfl rfl b2 (hdi a.d) rfl (hdo a.d) hB0 (Nat.le_succ _) ?_); intro W2 hb2 hW2 hO2 _; have HS := Lib.hid (show Ow w (clA a q f) 59 W2 from ⟨hb2, (hO2 w.heap.size (by omega)).trans b1⟩); have HX := Lib.hid hW2; clear hb2 hW2 hO2)
              | (go_at_call 56; (with_reducible refine (cT _).mono ?_); rintro e w2 ⟨rfl, h9⟩; have HS := Lib.hid (HS.out.up h9); have HX := Lib.hid (vblkn h9 HX.out); clear h9)
              | (go_at_call 57; (with_reducible refine (cF _).mono ?_); rintro e w3 ⟨rfl, h9⟩; have HS := Lib.hid (HS.out.up h9); have HX := Lib.hid (vblkn h9 HX.out); clear h9)
              | (go_at_call 58; (with_reducible refine (cN _).mono ?_); rintro e w4 ⟨rfl, h9⟩; have HS := Lib.hid (HS.out.up h9); have HX := Lib.hid (vblkn h9 HX.out); clear h9)
              | (fail))
            go_ret
            exact ⟨rfl, HS.out.below⟩
end Go.Proofs.Ytkmgdaagannhkaa.S
