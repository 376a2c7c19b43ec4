/-
  post: no lie about what can't change.
-/
import Derived.Test.YtkmgdaagannhkaaPT11
import Derived.Test.YtkmgdaagannhkaaPT12
namespace Go.Proofs.Ytkmgdaagannhkaa.S
open Go.RowKit Go.Lib Fl
open Classical

/-- whether a claim holds -/
noncomputable def holdsB (a : Ak) (q : Oq) (f : Fq) (K L : List Ky) (D : List Dq) : Bool :=
  if a.m = 1 then leadsB q.v && keepsB f q.v else if a.m = 2 then !q.b || keepsB f a.v else if a.m = 3 then q.b == f.ext else if a.m = 4 then !q.b || !f.ext
  else if a.m = 5 then toldB q f else if a.m = 6 then !q.b || definedB a.d f else if a.m = 7 then q.b || freeB f else if a.m = 8 then gotB q.v f
  else if a.m = 9 then !q.b || putB a.v f else if a.m = 10 then !q.b || freeB f else if a.m = 11 then listedB K L D f.ext else if a.m = 13 then objQ q.v else true
set_option maxHeartbeats 8000000 in
set_option maxRecDepth 1000000 in
theorem holds_1 (w : World) (a : Ak) (q : Oq) (f : Fq) (K L : List Ky) (D : List Dq) (hv : 0 ≤ q.v.k ∧ q.v.k ≤ 8) (hp : 0 ≤ f.proto.k) (hm : a.m = 1) : Calls Try.prog 22 #[.agg (clA a q f)] w fun e w' => e = .returned (.bool (holdsB a q f K L D)) ∧ Below w.heap.size w w' := by
  have HS := Lib.hid (ow_start w (clA a q f) 59)
  have hE : holdsB a q f K L D = (leadsB q.v && keepsB f q.v) := by unfold holdsB; rw [hm]; simp
  rw [hE]
  clear hE
  have c0 := fun W => leads_p (v := q.v) hv.1 W
  have c1 := fun W => keeps_p a q f (v := q.v) hv hp W
  generalize leadsB q.v = b0 at *
  generalize keepsB f q.v = b1 at *
  cases b0
  · go_enter Try.func22, Try.ntmps22
    go_wp2_with (first
      | ((with_reducible refine lu_l2 (all := cll a q f) ?_ rfl rfl HS.out.c ?_); (rfl); refine ⟨_, rfl, ?_⟩)
      | ((with_reducible refine cc_ld (k := a) (q := q) (f := f) ?_ rfl rfl HS.out.c ?_); (rfl))
      | ((with_reducible refine lb_l2 (all := cll a q f) ?_ rfl rfl HS.out.c ?_); (rfl); refine ⟨_, rfl, ?_⟩)
      | ((with_reducible refine cv_ld (v := q.v) (all := cll a q f) ?_ rfl rfl HS.out.c ?_ ?_); (rfl); (rfl))
      | (go_at_call 35; (with_reducible refine (c0 _).mono ?_); rintro e w1 ⟨rfl, h9⟩; have HS := Lib.hid (HS.out.up h9); clear h9)
      | (go_at_call 36; (with_reducible refine (c1 _).mono ?_); rintro e w1 ⟨rfl, h9⟩; have HS := Lib.hid (HS.out.up h9); clear h9)
      | (fail))
    go_ret
    exact ⟨rfl, HS.out.below⟩
  · go_enter Try.func22, Try.ntmps22
    go_wp2_with (first
      | ((with_reducible refine lu_l2 (all := cll a q f) ?_ rfl rfl HS.out.c ?_); (rfl); refine ⟨_, rfl, ?_⟩)
      | ((with_reducible refine cc_ld (k := a) (q := q) (f := f) ?_ rfl rfl HS.out.c ?_); (rfl))
      | ((with_reducible refine lb_l2 (all := cll a q f) ?_ rfl rfl HS.out.c ?_); (rfl); refine ⟨_, rfl, ?_⟩)
      | ((with_reducible refine cv_ld (v := q.v) (all := cll a q f) ?_ rfl rfl HS.out.c ?_ ?_); (rfl); (rfl))
      | (go_at_call 35; (with_reducible refine (c0 _).mono ?_); rintro e w1 ⟨rfl, h9⟩; have HS := Lib.hid (HS.out.up h9); clear h9)
      | (go_at_call 36; (with_reducible refine (c1 _).mono ?_); rintro e w1 ⟨rfl, h9⟩; have HS := Lib.hid (HS.out.up h9); clear h9)
      | (fail))
    go_ret
    exact ⟨rfl, HS.out.below⟩
set_option maxHeartbeats 8000000 in
set_option maxRecDepth 1000000 in
theorem holds_2 (w : World) (a : Ak) (q : Oq) (f : Fq) (K L : List Ky) (D : List Dq) (hv : 0 ≤ a.v.k ∧ a.v.k ≤ 8) (hp : 0 ≤ f.proto.k) (hm : a.m = 2) : Calls Try.prog 22 #[.agg (clA a q f)] w fun e w' => e = .returned (.bool (holdsB a q f K L D)) ∧ Below w.heap.size w w' := by
  have HS := Lib.hid (ow_start w (clA a q f) 59)
  have hE : holdsB a q f K L D = (!q.b || keepsB f a.v) := by unfold holdsB; rw [hm]; simp
  rw [hE]
  clear hE
  have c0 := fun W => keeps_p a q f (v := a.v) hv hp W
  generalize keepsB f a.v = b0 at *
  cases hb : q.b
  · go_enter Try.func22, Try.ntmps22
    go_wp2_with (first
      | ((with_reducible refine lu_l2 (all := cll a q f) ?_ rfl rfl HS.out.c ?_); (rfl); refine ⟨_, rfl, ?_⟩)
      | ((with_reducible refine cc_ld (k := a) (q := q) (f := f) ?_ rfl rfl HS.out.c ?_); (rfl))
      | ((with_reducible refine lb_l2 (all := cll a q f) ?_ rfl rfl HS.out.c ?_); (rfl); refine ⟨_, rfl, ?_⟩)
      | ((with_reducible refine cv_ld (v := a.v) (all := cll a q f) ?_ rfl rfl HS.out.c ?_ ?_); (rfl); (rfl))
      | (go_at_call 36; (with_reducible refine (c0 _).mono ?_); rintro e w1 ⟨rfl, h9⟩; have HS := Lib.hid (HS.out.up h9); clear h9)
      | (fail))
    go_ret
    exact ⟨rfl, HS.out.below⟩
  · go_enter Try.func22, Try.ntmps22
    go_wp2_with (first
      | ((with_reducible refine lu_l2 (all := cll a q f) ?_ rfl rfl HS.out.c ?_); (rfl); refine ⟨_, rfl, ?_⟩)
      | ((with_reducible refine cc_ld (k := a) (q := q) (f := f) ?_ rfl rfl HS.out.c ?_); (rfl))
      | ((with_reducible refine lb_l2 (all := cll a q f) ?_ rfl rfl HS.out.c ?_); (rfl); refine ⟨_, rfl, ?_⟩)
      | ((with_reducible refine cv_ld (v := a.v) (all := cll a q f) ?_ rfl rfl HS.out.c ?_ ?_); (rfl); (rfl))
      | (go_at_call 36; (with_reducible refine (c0 _).mono ?_); rintro e w1 ⟨rfl, h9⟩; have HS := Lib.hid (HS.out.up h9); clear h9)
      | (fail))
    go_ret
    exact ⟨rfl, HS.out.below⟩
set_option maxHeartbeats 8000000 in
set_option maxRecDepth 1000000 in
theorem holds_3 (w : World) (a : Ak) (q : Oq) (f : Fq) (K L : List Ky) (D : List Dq)  (hm : a.m = 3) : Calls Try.prog 22 #[.agg (clA a q f)] w fun e w' => e = .returned (.bool (holdsB a q f K L D)) ∧ Below w.heap.size w w' := by
  have HS := Lib.hid (ow_start w (clA a q f) 59)
  have hE : holdsB a q f K L D = (q.b == f.ext) := by unfold holdsB; rw [hm]; simp
  rw [hE]
  clear hE
  cases hb : q.b
  · cases hx : f.ext
    · go_enter Try.func22, Try.ntmps22
      go_wp2_with (first
        | ((with_reducible refine lu_l2 (all := cll a q f) ?_ rfl rfl HS.out.c ?_); (rfl); refine ⟨_, rfl, ?_⟩)
        | ((with_reducible refine cc_ld (k := a) (q := q) (f := f) ?_ rfl rfl HS.out.c ?_); (rfl))
        | ((with_reducible refine lb_l2 (all := cll a q f) ?_ rfl rfl HS.out.c ?_); (rfl); refine ⟨_, rfl, ?_⟩)
        | (fail))
      go_ret
      exact ⟨rfl, HS.out.below⟩
    · go_enter Try.func22, Try.ntmps22
      go_wp2_with (first
        | ((with_reducible refine lu_l2 (all := cll a q f) ?_ rfl rfl HS.out.c ?_); (rfl); refine ⟨_, rfl, ?_⟩)
        | ((with_reducible refine cc_ld (k := a) (q := q) (f := f) ?_ rfl rfl HS.out.c ?_); (rfl))
        | ((with_reducible refine lb_l2 (all := cll a q f) ?_ rfl rfl HS.out.c ?_); (rfl); refine ⟨_, rfl, ?_⟩)
        | (fail))
      go_ret
      exact ⟨rfl, HS.out.below⟩
  · cases hx : f.ext
    · go_enter Try.func22, Try.ntmps22
      go_wp2_with (first
        | ((with_reducible refine lu_l2 (all := cll a q f) ?_ rfl rfl HS.out.c ?_); (rfl); refine ⟨_, rfl, ?_⟩)
        | ((with_reducible refine cc_ld (k := a) (q := q) (f := f) ?_ rfl rfl HS.out.c ?_); (rfl))
        | ((with_reducible refine lb_l2 (all := cll a q f) ?_ rfl rfl HS.out.c ?_); (rfl); refine ⟨_, rfl, ?_⟩)
        | (fail))
      go_ret
      exact ⟨rfl, HS.out.below⟩
    · go_enter Try.func22, Try.ntmps22
      go_wp2_with (first
        | ((with_reducible refine lu_l2 (all := cll a q f) ?_ rfl rfl HS.out.c ?_); (rfl); refine ⟨_, rfl, ?_⟩)
        | ((with_reducible refine cc_ld (k := a) (q := q) (f := f) ?_ rfl rfl HS.out.c ?_); (rfl))
        | ((with_reducible refine lb_l2 (all := cll a q f) ?_ rfl rfl HS.out.c ?_); (rfl); refine ⟨_, rfl, ?_⟩)
        | (fail))
      go_ret
      exact ⟨rfl, HS.out.below⟩
set_option maxHeartbeats 8000000 in
set_option maxRecDepth 1000000 in
theorem holds_4 (w : World) (a : Ak) (q : Oq) (f : Fq) (K L : List Ky) (D : List Dq)  (hm : a.m = 4) : Calls Try.prog 22 #[.agg (clA a q f)] w fun e w' => e = .returned (.bool (holdsB a q f K L D)) ∧ Below w.heap.size w w' := by
  have HS := Lib.hid (ow_start w (clA a q f) 59)
  have hE : holdsB a q f K L D = (!q.b || !f.ext) := by unfold holdsB; rw [hm]; simp
  rw [hE]
  clear hE
  cases hb : q.b
  · cases hx : f.ext
    · go_enter Try.func22, Try.ntmps22
      go_wp2_with (first
        | ((with_reducible refine lu_l2 (all := cll a q f) ?_ rfl rfl HS.out.c ?_); (rfl); refine ⟨_, rfl, ?_⟩)
        | ((with_reducible refine cc_ld (k := a) (q := q) (f := f) ?_ rfl rfl HS.out.c ?_); (rfl))
        | ((with_reducible refine lb_l2 (all := cll a q f) ?_ rfl rfl HS.out.c ?_); (rfl); refine ⟨_, rfl, ?_⟩)
        | (fail))
      go_ret
      exact ⟨rfl, HS.out.below⟩
    · go_enter Try.func22, Try.ntmps22
      go_wp2_with (first
        | ((with_reducible refine lu_l2 (all := cll a q f) ?_ rfl rfl HS.out.c ?_); (rfl); refine ⟨_, rfl, ?_⟩)
        | ((with_reducible refine cc_ld (k := a) (q := q) (f := f) ?_ rfl rfl HS.out.c ?_); (rfl))
        | ((with_reducible refine lb_l2 (all := cll a q f) ?_ rfl rfl HS.out.c ?_); (rfl); refine ⟨_, rfl, ?_⟩)
        | (fail))
      go_ret
      exact ⟨rfl, HS.out.below⟩
  · cases hx : f.ext
    · go_enter Try.func22, Try.ntmps22
      go_wp2_with (first
        | ((with_reducible refine lu_l2 (all := cll a q f) ?_ rfl rfl HS.out.c ?_); (rfl); refine ⟨_, rfl, ?_⟩)
        | ((with_reducible refine cc_ld (k := a) (q := q) (f := f) ?_ rfl rfl HS.out.c ?_); (rfl))
        | ((with_reducible refine lb_l2 (all := cll a q f) ?_ rfl rfl HS.out.c ?_); (rfl); refine ⟨_, rfl, ?_⟩)
        | (fail))
      go_ret
      exact ⟨rfl, HS.out.below⟩
    · go_enter Try.func22, Try.ntmps22
      go_wp2_with (first
        | ((with_reducible refine lu_l2 (all := cll a q f) ?_ rfl rfl HS.out.c ?_); (rfl); refine ⟨_, rfl, ?_⟩)
        | ((with_reducible refine cc_ld (k := a) (q := q) (f := f) ?_ rfl rfl HS.out.c ?_); (rfl))
        | ((with_reducible refine lb_l2 (all := cll a q f) ?_ rfl rfl HS.out.c ?_); (rfl); refine ⟨_, rfl, ?_⟩)
        | (fail))
      go_ret
      exact ⟨rfl, HS.out.below⟩
set_option maxHeartbeats 8000000 in
set_option maxRecDepth 1000000 in
theorem holds_5 (w : World) (a : Ak) (q : Oq) (f : Fq) (K L : List Ky) (D : List Dq) (hqd : q.d.In) (hfd : f.d.In) (hm : a.m = 5) : Calls Try.prog 22 #[.agg (clA a q f)] w fun e w' => e = .returned (.bool (holdsB a q f K L D)) ∧ Below w.heap.size w w' := by
  have HS := Lib.hid (ow_start w (clA a q f) 59)
  have hE : holdsB a q f K L D = (toldB q f) := by unfold holdsB; rw [hm]; simp
  rw [hE]
  clear hE
  have c0 := fun W => told_p a q f hqd hfd W
  generalize toldB q f = b0 at *
  go_enter Try.func22, Try.ntmps22
  go_wp2_with (first
    | ((with_reducible refine lu_l2 (all := cll a q f) ?_ rfl rfl HS.out.c ?_); (rfl); refine ⟨_, rfl, ?_⟩)
    | ((with_reducible refine cc_ld (k := a) (q := q) (f := f) ?_ rfl rfl HS.out.c ?_); (rfl))
    | ((with_reducible refine lb_l2 (all := cll a q f) ?_ rfl rfl HS.out.c ?_); (rfl); refine ⟨_, rfl, ?_⟩)
    | (go_at_call 37; (with_reducible refine (c0 _).mono ?_); rintro e w1 ⟨rfl, h9⟩; have HS := Lib.hid (HS.out.up h9); clear h9)
    | (fail))
  go_ret
  exact ⟨rfl, HS.out.below⟩
set_option maxHeartbeats 8000000 in
set_option maxRecDepth 1000000 in
theorem holds_6 (w : World) (a : Ak) (q : Oq) (f : Fq) (K L : List Ky) (D : List Dq) (had : a.d.In) (hfd : f.d.In) (hm : a.m = 6) : Calls Try.prog 22 #[.agg (clA a q f)] w fun e w' => e = .returned (.bool (holdsB a q f K L D)) ∧ Below w.heap.size w w' := by
  have HS := Lib.hid (ow_start w (clA a q f) 59)
  have hE : holdsB a q f K L D = (!q.b || definedB a.d f) := by unfold holdsB; rw [hm]; simp
  rw [hE]
  clear hE
  have c0 := fun W => defined_p a q f had hfd W
  generalize definedB a.d f = b0 at *
  cases hb : q.b
  · go_enter Try.func22, Try.ntmps22
    go_wp2_with (first
      | ((with_reducible refine lu_l2 (all := cll a q f) ?_ rfl rfl HS.out.c ?_); (rfl); refine ⟨_, rfl, ?_⟩)
      | ((with_reducible refine cc_ld (k := a) (q := q) (f := f) ?_ rfl rfl HS.out.c ?_); (rfl))
      | ((with_reducible refine lb_l2 (all := cll a q f) ?_ rfl rfl HS.out.c ?_); (rfl); refine ⟨_, rfl, ?_⟩)
      | (go_at_call 38; (with_reducible refine (c0 _).mono ?_); rintro e w1 ⟨rfl, h9⟩; have HS := Lib.hid (HS.out.up h9); clear h9)
      | (fail))
    go_ret
    exact ⟨rfl, HS.out.below⟩
  · go_enter Try.func22, Try.ntmps22
    go_wp2_with (first
      | ((with_reducible refine lu_l2 (all := cll a q f) ?_ rfl rfl HS.out.c ?_); (rfl); refine ⟨_, rfl, ?_⟩)
      | ((with_reducible refine cc_ld (k := a) (q := q) (f := f) ?_ rfl rfl HS.out.c ?_); (rfl))
      | ((with_reducible refine lb_l2 (all := cll a q f) ?_ rfl rfl HS.out.c ?_); (rfl); refine ⟨_, rfl, ?_⟩)
      | (go_at_call 38; (with_reducible refine (c0 _).mono ?_); rintro e w1 ⟨rfl, h9⟩; have HS := Lib.hid (HS.out.up h9); clear h9)
      | (fail))
    go_ret
    exact ⟨rfl, HS.out.below⟩
set_option maxHeartbeats 8000000 in
set_option maxRecDepth 1000000 in
theorem holds_7 (w : World) (a : Ak) (q : Oq) (f : Fq) (K L : List Ky) (D : List Dq)  (hm : a.m = 7) : Calls Try.prog 22 #[.agg (clA a q f)] w fun e w' => e = .returned (.bool (holdsB a q f K L D)) ∧ Below w.heap.size w w' := by
  have HS := Lib.hid (ow_start w (clA a q f) 59)
  have hE : holdsB a q f K L D = (q.b || freeB f) := by unfold holdsB; rw [hm]; simp
  rw [hE]
  clear hE
  have c0 := fun W => free_p a q f W
  generalize freeB f = b0 at *
  cases hb : q.b
  · go_enter Try.func22, Try.ntmps22
    go_wp2_with (first
      | ((with_reducible refine lu_l2 (all := cll a q f) ?_ rfl rfl HS.out.c ?_); (rfl); refine ⟨_, rfl, ?_⟩)
      | ((with_reducible refine cc_ld (k := a) (q := q) (f := f) ?_ rfl rfl HS.out.c ?_); (rfl))
      | ((with_reducible refine lb_l2 (all := cll a q f) ?_ rfl rfl HS.out.c ?_); (rfl); refine ⟨_, rfl, ?_⟩)
      | (go_at_call 39; (with_reducible refine (c0 _).mono ?_); rintro e w1 ⟨rfl, h9⟩; have HS := Lib.hid (HS.out.up h9); clear h9)
      | (fail))
    go_ret
    exact ⟨rfl, HS.out.below⟩
  · go_enter Try.func22, Try.ntmps22
    go_wp2_with (first
      | ((with_reducible refine lu_l2 (all := cll a q f) ?_ rfl rfl HS.out.c ?_); (rfl); refine ⟨_, rfl, ?_⟩)
      | ((with_reducible refine cc_ld (k := a) (q := q) (f := f) ?_ rfl rfl HS.out.c ?_); (rfl))
      | ((with_reducible refine lb_l2 (all := cll a q f) ?_ rfl rfl HS.out.c ?_); (rfl); refine ⟨_, rfl, ?_⟩)
      | (go_at_call 39; (with_reducible refine (c0 _).mono ?_); rintro e w1 ⟨rfl, h9⟩; have HS := Lib.hid (HS.out.up h9); clear h9)
      | (fail))
    go_ret
    exact ⟨rfl, HS.out.below⟩
set_option maxHeartbeats 8000000 in
set_option maxRecDepth 1000000 in
theorem holds_8 (w : World) (a : Ak) (q : Oq) (f : Fq) (K L : List Ky) (D : List Dq) (hv : 0 ≤ q.v.k ∧ q.v.k ≤ 8) (h2 : 0 ≤ f.d.a.k) (hm : a.m = 8) : Calls Try.prog 22 #[.agg (clA a q f)] w fun e w' => e = .returned (.bool (holdsB a q f K L D)) ∧ Below w.heap.size w w' := by
  have HS := Lib.hid (ow_start w (clA a q f) 59)
  have hE : holdsB a q f K L D = (gotB q.v f) := by unfold holdsB; rw [hm]; simp
  rw [hE]
  clear hE
  have c0 := fun W => got_p a q f hv h2 W
  generalize gotB q.v f = b0 at *
  go_enter Try.func22, Try.ntmps22
  go_wp2_with (first
    | ((with_reducible refine lu_l2 (all := cll a q f) ?_ rfl rfl HS.out.c ?_); (rfl); refine ⟨_, rfl, ?_⟩)
    | ((with_reducible refine cc_ld (k := a) (q := q) (f := f) ?_ rfl rfl HS.out.c ?_); (rfl))
    | ((with_reducible refine lb_l2 (all := cll a q f) ?_ rfl rfl HS.out.c ?_); (rfl); refine ⟨_, rfl, ?_⟩)
    | (go_at_call 40; (with_reducible refine (c0 _).mono ?_); rintro e w1 ⟨rfl, h9⟩; have HS := Lib.hid (HS.out.up h9); clear h9)
    | (fail))
  go_ret
  exact ⟨rfl, HS.out.below⟩
set_option maxHeartbeats 8000000 in
set_option maxRecDepth 1000000 in
theorem holds_9 (w : World) (a : Ak) (q : Oq) (f : Fq) (K L : List Ky) (D : List Dq) (hv : 0 ≤ a.v.k ∧ a.v.k ≤ 8) (h2 : 0 ≤ f.d.a.k) (hm : a.m = 9) : Calls Try.prog 22 #[.agg (clA a q f)] w fun e w' => e = .returned (.bool (holdsB a q f K L D)) ∧ Below w.heap.size w w' := by
  have HS := Lib.hid (ow_start w (clA a q f) 59)
  have hE : holdsB a q f K L D = (!q.b || putB a.v f) := by unfold holdsB; rw [hm]; simp
  rw [hE]
  clear hE
  have c0 := fun W => put_p a q f hv h2 W
  generalize putB a.v f = b0 at *
  cases hb : q.b
  · go_enter Try.func22, Try.ntmps22
    go_wp2_with (first
      | ((with_reducible refine lu_l2 (all := cll a q f) ?_ rfl rfl HS.out.c ?_); (rfl); refine ⟨_, rfl, ?_⟩)
      | ((with_reducible refine cc_ld (k := a) (q := q) (f := f) ?_ rfl rfl HS.out.c ?_); (rfl))
      | ((with_reducible refine lb_l2 (all := cll a q f) ?_ rfl rfl HS.out.c ?_); (rfl); refine ⟨_, rfl, ?_⟩)
      | (go_at_call 41; (with_reducible refine (c0 _).mono ?_); rintro e w1 ⟨rfl, h9⟩; have HS := Lib.hid (HS.out.up h9); clear h9)
      | (fail))
    go_ret
    exact ⟨rfl, HS.out.below⟩
  · go_enter Try.func22, Try.ntmps22
    go_wp2_with (first
      | ((with_reducible refine lu_l2 (all := cll a q f) ?_ rfl rfl HS.out.c ?_); (rfl); refine ⟨_, rfl, ?_⟩)
      | ((with_reducible refine cc_ld (k := a) (q := q) (f := f) ?_ rfl rfl HS.out.c ?_); (rfl))
      | ((with_reducible refine lb_l2 (all := cll a q f) ?_ rfl rfl HS.out.c ?_); (rfl); refine ⟨_, rfl, ?_⟩)
      | (go_at_call 41; (with_reducible refine (c0 _).mono ?_); rintro e w1 ⟨rfl, h9⟩; have HS := Lib.hid (HS.out.up h9); clear h9)
      | (fail))
    go_ret
    exact ⟨rfl, HS.out.below⟩
set_option maxHeartbeats 8000000 in
set_option maxRecDepth 1000000 in
theorem holds_10 (w : World) (a : Ak) (q : Oq) (f : Fq) (K L : List Ky) (D : List Dq)  (hm : a.m = 10) : Calls Try.prog 22 #[.agg (clA a q f)] w fun e w' => e = .returned (.bool (holdsB a q f K L D)) ∧ Below w.heap.size w w' := by
  have HS := Lib.hid (ow_start w (clA a q f) 59)
  have hE : holdsB a q f K L D = (!q.b || freeB f) := by unfold holdsB; rw [hm]; simp
  rw [hE]
  clear hE
  have c0 := fun W => free_p a q f W
  generalize freeB f = b0 at *
  cases hb : q.b
  · go_enter Try.func22, Try.ntmps22
    go_wp2_with (first
      | ((with_reducible refine lu_l2 (all := cll a q f) ?_ rfl rfl HS.out.c ?_); (rfl); refine ⟨_, rfl, ?_⟩)
      | ((with_reducible refine cc_ld (k := a) (q := q) (f := f) ?_ rfl rfl HS.out.c ?_); (rfl))
      | ((with_reducible refine lb_l2 (all := cll a q f) ?_ rfl rfl HS.out.c ?_); (rfl); refine ⟨_, rfl, ?_⟩)
      | (go_at_call 39; (with_reducible refine (c0 _).mono ?_); rintro e w1 ⟨rfl, h9⟩; have HS := Lib.hid (HS.out.up h9); clear h9)
      | (fail))
    go_ret
    exact ⟨rfl, HS.out.below⟩
  · go_enter Try.func22, Try.ntmps22
    go_wp2_with (first
      | ((with_reducible refine lu_l2 (all := cll a q f) ?_ rfl rfl HS.out.c ?_); (rfl); refine ⟨_, rfl, ?_⟩)
      | ((with_reducible refine cc_ld (k := a) (q := q) (f := f) ?_ rfl rfl HS.out.c ?_); (rfl))
      | ((with_reducible refine lb_l2 (all := cll a q f) ?_ rfl rfl HS.out.c ?_); (rfl); refine ⟨_, rfl, ?_⟩)
      | (go_at_call 39; (with_reducible refine (c0 _).mono ?_); rintro e w1 ⟨rfl, h9⟩; have HS := Lib.hid (HS.out.up h9); clear h9)
      | (fail))
    go_ret
    exact ⟨rfl, HS.out.below⟩
set_option maxHeartbeats 8000000 in
set_option maxRecDepth 1000000 in
theorem holds_11 (w : World) (a : Ak) (q : Oq) (f : Fq) (K L : List Ky) (D : List Dq) (hkn : q.kn = K.length) (hKl : K.length < 1000000000000) (hK : RK w q.ka K) (hKc : K.length ≤ q.kc) (hfk : f.kn = L.length) (hLl : L.length ≤ 1200) (hL : RK w f.ka L) (hfn : f.on = D.length) (hDL : D.length = L.length) (hD : RD w f.oa D) (hm : a.m = 11) : Calls Try.prog 22 #[.agg (clA a q f)] w fun e w' => e = .returned (.bool (holdsB a q f K L D)) ∧ Below w.heap.size w w' := by
  have HS := Lib.hid (ow_start w (clA a q f) 59)
  have hE : holdsB a q f K L D = (listedB K L D f.ext) := by unfold holdsB; rw [hm]; simp
  rw [hE]
  clear hE
  have c0 : ∀ W, Below w.heap.size w W → Calls Try.prog 42 #[.agg (clA a q f)] W fun e w' => e = .returned (.bool (listedB K L D f.ext)) ∧ Below W.heap.size W w' := fun W hb => by
    have h := listed_p a q f f.ext q.ka K q.kc f.ka L f.kc f.oa D f.oc W hKl (rk_up hK hb) hKc hDL hLl (rk_up hL hb) (rd_up hD hb)
    rw [← hkn, ← hfk, ← hfn] at h
    exact h
  clear hkn hKl hK hKc hfk hLl hL hfn hDL hD
  generalize listedB K L D f.ext = b0 at *
  go_enter Try.func22, Try.ntmps22
  go_wp2_with (first
    | ((with_reducible refine lu_l2 (all := cll a q f) ?_ rfl rfl HS.out.c ?_); (rfl); refine ⟨_, rfl, ?_⟩)
    | ((with_reducible refine cc_ld (k := a) (q := q) (f := f) ?_ rfl rfl HS.out.c ?_); (rfl))
    | ((with_reducible refine lb_l2 (all := cll a q f) ?_ rfl rfl HS.out.c ?_); (rfl); refine ⟨_, rfl, ?_⟩)
    | (go_at_call 42; (with_reducible refine (c0 _ HS.out.below).mono ?_); rintro e w1 ⟨rfl, h9⟩; have HS := Lib.hid (HS.out.up h9); clear h9)
    | (fail))
  go_ret
  exact ⟨rfl, HS.out.below⟩
set_option maxHeartbeats 8000000 in
set_option maxRecDepth 1000000 in
theorem holds_12 (w : World) (a : Ak) (q : Oq) (f : Fq) (K L : List Ky) (D : List Dq)  (hm : a.m = 12) : Calls Try.prog 22 #[.agg (clA a q f)] w fun e w' => e = .returned (.bool (holdsB a q f K L D)) ∧ Below w.heap.size w w' := by
  have HS := Lib.hid (ow_start w (clA a q f) 59)
  have hE : holdsB a q f K L D = (true) := by unfold holdsB; rw [hm]; simp
  rw [hE]
  clear hE
  go_enter Try.func22, Try.ntmps22
  go_wp2_with (first
    | ((with_reducible refine lu_l2 (all := cll a q f) ?_ rfl rfl HS.out.c ?_); (rfl); refine ⟨_, rfl, ?_⟩)
    | ((with_reducible refine cc_ld (k := a) (q := q) (f := f) ?_ rfl rfl HS.out.c ?_); (rfl))
    | ((with_reducible refine lb_l2 (all := cll a q f) ?_ rfl rfl HS.out.c ?_); (rfl); refine ⟨_, rfl, ?_⟩)
    | (fail))
  go_ret
  exact ⟨rfl, HS.out.below⟩
set_option maxHeartbeats 8000000 in
set_option maxRecDepth 1000000 in
theorem holds_13 (w : World) (a : Ak) (q : Oq) (f : Fq) (K L : List Ky) (D : List Dq) (h0 : 0 ≤ q.v.k) (hm : a.m = 13) : Calls Try.prog 22 #[.agg (clA a q f)] w fun e w' => e = .returned (.bool (holdsB a q f K L D)) ∧ Below w.heap.size w w' := by
  have HS := Lib.hid (ow_start w (clA a q f) 59)
  have hE : holdsB a q f K L D = (objQ q.v) := by unfold holdsB; rw [hm]; simp
  rw [hE]
  clear hE
  have c0 := fun W => IsObject_q q.v h0 W
  generalize objQ q.v = b0 at *
  go_enter Try.func22, Try.ntmps22
  go_wp2_with (first
    | ((with_reducible refine lu_l2 (all := cll a q f) ?_ rfl rfl HS.out.c ?_); (rfl); refine ⟨_, rfl, ?_⟩)
    | ((with_reducible refine cc_ld (k := a) (q := q) (f := f) ?_ rfl rfl HS.out.c ?_); (rfl))
    | ((with_reducible refine lb_l2 (all := cll a q f) ?_ rfl rfl HS.out.c ?_); (rfl); refine ⟨_, rfl, ?_⟩)
    | ((with_reducible refine cv_ld (v := q.v) (all := cll a q f) ?_ rfl rfl HS.out.c ?_ ?_); (rfl); (rfl))
    | (go_at_call 24; (with_reducible refine (c0 _).mono ?_); rintro e w1 ⟨rfl, h9⟩; have HS := Lib.hid (HS.out.up h9); clear h9)
    | (fail))
  go_ret
  exact ⟨rfl, HS.out.below⟩
end Go.Proofs.Ytkmgdaagannhkaa.S
/-
  post.Check.
-/
namespace Go.Proofs.Ytkmgdaagannhkaa.S
open Go.RowKit Go.Lib Fl
open Classical

theorem CIn.up {w w' : World} {a : Ak} {q : Oq} {f : Fq} {K L : List Ky} {D : List Dq} (h : CIn w a q f K L D) (hb : Below w.heap.size w w') : CIn w' a q f K L D :=
  { h with k := rk_up h.k hb, l := rk_up h.l hb, d := rd_up h.d hb }
theorem what_ok {v : Vq} (h : whatE v = 0) : v.Ok ∧ (0 ≤ v.k ∧ v.k ≤ 8) := by
  unfold whatE at h
  cases hm : v.may with
  | true => exact ⟨mayI_iff.1 hm, vok_kind (mayI_iff.1 hm)⟩
  | false => rw [hm] at h; cases h
theorem par_ok {v : Vq} (h : parE v = 0) : leadsB v = true ∧ v.Ok ∧ (0 ≤ v.k ∧ v.k ≤ 8) := by
  unfold parE at h
  cases hl : leadsB v with
  | true => rw [hl] at h; exact ⟨rfl, what_ok h⟩
  | false => rw [hl] at h; cases h
theorem or_ok {x y : Int} (h : orE x y = 0) : x = 0 ∧ y = 0 := by
  unfold orE at h
  by_cases c : x = 0
  · rw [if_pos c] at h; exact ⟨c, h⟩
  · rw [if_neg c] at h; exact absurd h c
theorem keys_ok {L : List Ky} (h : keysE L = 0) : L.length ≤ 1024 ∧ ∀ k ∈ L, mayKy k := by
  unfold keysE at h
  by_cases c : 1024 < L.length
  · rw [if_pos c] at h; cases h
  · rw [if_neg c] at h
    by_cases g : ∀ k ∈ L, mayKy k
    · exact ⟨by omega, g⟩
    · rw [if_neg g] at h; cases h
theorem owned_ok {L : List Ky} {D : List Dq} (h : ownedE L D = 0) : keysE L = 0 ∧ L.Nodup ∧ D.length = L.length ∧ ∀ d ∈ D, goneB d = true ∨ wholeQ d = true := by
  unfold ownedE at h
  by_cases c : keysE L = 0
  · rw [if_neg (by rw [c]; decide)] at h
    by_cases g : twiceB L = true ∨ D.length ≠ L.length
    · rw [if_pos g] at h; cases h
    · rw [if_neg g] at h
      rw [not_or] at g
      by_cases k : ∀ d ∈ D, goneB d = true ∨ wholeQ d = true
      · refine ⟨c, ?_, by have := g.2; omega, k⟩
        have g1 := g.1
        unfold twiceB at g1
        simpa using g1
      · rw [if_neg k] at h; cases h
  · rw [if_pos c] at h; exact absurd h c
set_option maxHeartbeats 8000000 in
set_option maxRecDepth 1000000 in
theorem may_kind (w : World) (a : Ak) (q : Oq) (f : Fq) (K L : List Ky) (D : List Dq) (hk : ¬ q.kind = 1) : Calls Try.prog 21 #[.agg (clA a q f)] w fun e w' => e = .returned (.int .i64 (mayE a q f K L D)) ∧ Below w.heap.size w w' := by
  have HS := Lib.hid (ow_start w (clA a q f) 59)
  have hE : mayE a q f K L D = 2 := by unfold mayE; rw [if_pos hk]
  rw [hE]
  clear hE
  go_enter Try.func21, Try.ntmps21
  go_wp2_with (first
    | ((with_reducible refine lu_l2 (all := cll a q f) ?_ rfl rfl HS.out.c ?_); (rfl); refine ⟨_, rfl, ?_⟩)
    | (fail))
  go_ret
  exact ⟨rfl, HS.out.below⟩
set_option maxHeartbeats 8000000 in
set_option maxRecDepth 1000000 in
theorem may_none (w : World) (a : Ak) (q : Oq) (f : Fq) (K L : List Ky) (D : List Dq) (hk : q.kind = 1) (hm : ¬ (1 ≤ a.m ∧ a.m ≤ 13)) : Calls Try.prog 21 #[.agg (clA a q f)] w fun e w' => e = .returned (.int .i64 (mayE a q f K L D)) ∧ Below w.heap.size w w' := by
  have HS := Lib.hid (ow_start w (clA a q f) 59)
  have n1 : ¬ a.m = 1 := by omega
  have n2 : ¬ a.m = 2 := by omega
  have n3 : ¬ a.m = 3 := by omega
  have n4 : ¬ a.m = 4 := by omega
  have n5 : ¬ a.m = 5 := by omega
  have n6 : ¬ a.m = 6 := by omega
  have n7 : ¬ a.m = 7 := by omega
  have n8 : ¬ a.m = 8 := by omega
  have n9 : ¬ a.m = 9 := by omega
  have n10 : ¬ a.m = 10 := by omega
  have n11 : ¬ a.m = 11 := by omega
  have n12 : ¬ a.m = 12 := by omega
  have n13 : ¬ a.m = 13 := by omega
  have hE : mayE a q f K L D = 2 := by unfold mayE; simp [hk, n1, n2, n3, n4, n5, n6, n7, n8, n9, n10, n11, n12, n13]
  rw [hE]
  clear hE hm
  go_enter Try.func21, Try.ntmps21
  go_wp2_with (first
    | ((with_reducible refine lu_l2 (all := cll a q f) ?_ rfl rfl HS.out.c ?_); (rfl); refine ⟨_, rfl, ?_⟩)
    | (fail))
  go_ret
  exact ⟨rfl, HS.out.below⟩
theorem may_all (w : World) (a : Ak) (q : Oq) (f : Fq) (K L : List Ky) (D : List Dq) (h : CIn w a q f K L D) : Calls Try.prog 21 #[.agg (clA a q f)] w fun e w' => e = .returned (.int .i64 (mayE a q f K L D)) ∧ Below w.heap.size w w' := by
  by_cases hk : q.kind = 1
  · by_cases hr : 1 ≤ a.m ∧ a.m ≤ 13
    · have hw : a.m = 1 ∨ a.m = 2 ∨ a.m = 3 ∨ a.m = 4 ∨ a.m = 5 ∨ a.m = 6 ∨ a.m = 7 ∨ a.m = 8 ∨ a.m = 9 ∨ a.m = 10 ∨ a.m = 11 ∨ a.m = 12 ∨ a.m = 13 := by omega
      rcases hw with hm | hm | hm | hm | hm | hm | hm | hm | hm | hm | hm | hm | hm
      · exact may_1 w a q f K L D h hk hm
      · exact may_2 w a q f K L D h hk hm
      · exact may_3 w a q f K L D h hk hm
      · exact may_4 w a q f K L D h hk hm
      · exact may_5 w a q f K L D h hk hm
      · exact may_6 w a q f K L D h hk hm
      · exact may_7 w a q f K L D h hk hm
      · exact may_8 w a q f K L D h hk hm
      · exact may_9 w a q f K L D h hk hm
      · exact may_10 w a q f K L D h hk hm
      · exact may_11 w a q f K L D h hk hm
      · exact may_12 w a q f K L D h hk hm
      · exact may_13 w a q f K L D h hk hm
    · exact may_none w a q f K L D hk hr
  · exact may_kind w a q f K L D hk
/-- of a claim, of which all that counts may be -/
theorem may_is {a : Ak} {q : Oq} {f : Fq} {K L : List Ky} {D : List Dq} (h : mayE a q f K L D = 0) : q.kind = 1 ∧ (a.m = 1 ∨ a.m = 2 ∨ a.m = 3 ∨ a.m = 4 ∨ a.m = 5 ∨ a.m = 6 ∨ a.m = 7 ∨ a.m = 8 ∨ a.m = 9 ∨ a.m = 10 ∨ a.m = 11 ∨ a.m = 12 ∨ a.m = 13) := by
  by_cases hk : q.kind = 1
  · refine ⟨hk, ?_⟩
    refine Classical.byContradiction fun hn => ?_
    simp only [not_or] at hn
    obtain ⟨n1, n2, n3, n4, n5, n6, n7, n8, n9, n10, n11, n12, n13⟩ := hn
    have hE : mayE a q f K L D = 2 := by unfold mayE; simp [hk, n1, n2, n3, n4, n5, n6, n7, n8, n9, n10, n11, n12, n13]
    rw [hE] at h
    cases h
  · unfold mayE at h
    rw [if_pos hk] at h
    cases h
theorem holds_all (w : World) (a : Ak) (q : Oq) (f : Fq) (K L : List Ky) (D : List Dq) (hi : CIn w a q f K L D) (h : mayE a q f K L D = 0) : Calls Try.prog 22 #[.agg (clA a q f)] w fun e w' => e = .returned (.bool (holdsB a q f K L D)) ∧ Below w.heap.size w w' := by
  obtain ⟨hk, hw⟩ := may_is h
  rcases hw with hm | hm | hm | hm | hm | hm | hm | hm | hm | hm | hm | hm | hm
  · have h3 : orE (whatE q.v) (parE f.proto) = 0 := by
      have h2 := h
      unfold mayE at h2
      simpa [hk, hm] using h2
    exact holds_1 w a q f K L D (what_ok (or_ok h3).1).2 (par_ok (or_ok h3).2).2.2.1 hm
  · have h3 : orE (parE a.v) (parE f.proto) = 0 := by
      have h2 := h
      unfold mayE at h2
      simpa [hk, hm] using h2
    exact holds_2 w a q f K L D (par_ok (or_ok h3).1).2.2 (par_ok (or_ok h3).2).2.2.1 hm
  · exact holds_3 w a q f K L D hm
  · exact holds_4 w a q f K L D hm
  · exact holds_5 w a q f K L D hi.qd hi.fd hm
  · exact holds_6 w a q f K L D hi.ad hi.fd hm
  · exact holds_7 w a q f K L D hm
  · have h3 : orE (whatE q.v) (thereE f) = 0 := by
      have h2 := h
      unfold mayE at h2
      simpa [hk, hm] using h2
    exact holds_8 w a q f K L D (what_ok (or_ok h3).1).2 hi.fd.a.1 hm
  · have h3 : orE (whatE a.v) (thereE f) = 0 := by
      have h2 := h
      unfold mayE at h2
      simpa [hk, hm] using h2
    exact holds_9 w a q f K L D (what_ok (or_ok h3).1).2 hi.fd.a.1 hm
  · exact holds_10 w a q f K L D hm
  · have h3 : orE (keysE K) (ownedE L D) = 0 := by
      have h2 := h
      unfold mayE at h2
      simpa [hk, hm] using h2
    obtain ⟨g1, _, g3, _⟩ := owned_ok (or_ok h3).2
    exact holds_11 w a q f K L D hi.kn hi.kl hi.k hi.kc hi.fk (by have := (keys_ok g1).1; omega) hi.l hi.fn g3 hi.d hm
  · exact holds_12 w a q f K L D hm
  · exact holds_13 w a q f K L D hi.qv.1 hm
end Go.Proofs.Ytkmgdaagannhkaa.S
/-
  post.Check: the walk.
-/
namespace Go.Proofs.Ytkmgdaagannhkaa.S
open Go.RowKit Go.Lib Fl
open Classical

/-- nothing delivered -/
def oz0 : Oq := ⟨0, v0, false, false, dz 0, none, 0, 0, 0, ⟨#[]⟩⟩
/-- what Check comes to -/
def CheckTo (a : Ak) (q : Oq) (f : Fq) (K L : List Ky) (D : List Dq) (w : World) (e : Ending) (w' : World) : Prop :=
  ∃ (X : Oq) (b : Bool), e = .returned (.tuple #[.agg (oqA X), .bool b, .int .i64 (mayE a q f K L D)]) ∧ ((mayE a q f K L D ≠ 0 ∧ X = oz0 ∧ b = false) ∨ (mayE a q f K L D = 0 ∧ holdsB a q f K L D = false ∧ X = oz0 ∧ b = false) ∨ (mayE a q f K L D = 0 ∧ holdsB a q f K L D = true ∧ b = true ∧ ∃ ka kc, X = delQ a.m q K.length ka kc)) ∧ Below w.heap.size w w'
theorem vblk5 {w w1 : World} {o p q r s : Obj} (h : Below (((((w.alloc o).alloc p).alloc q).alloc r).alloc s).heap.size (((((w.alloc o).alloc p).alloc q).alloc r).alloc s) w1) : w1.heap[w.heap.size]? = some o ∧ w1.heap[w.heap.size + 1]? = some p ∧ w1.heap[w.heap.size + 1 + 1]? = some q ∧ w1.heap[w.heap.size + 1 + 1 + 1]? = some r ∧ w1.heap[w.heap.size + 1 + 1 + 1 + 1]? = some s := by
  have e : ((w.alloc o).alloc p).heap.size = w.heap.size + 1 + 1 := by simp
  obtain ⟨a, b, c⟩ := vblk3 h
  rw [e] at a b c
  obtain ⟨d1, d2⟩ := vblk2 (w := w) (o := o) (p := p) (vafter (vafter (vafter h)) |> fun h => h)
  exact ⟨d1, d2, a, b, c⟩
theorem vblk4 {w w1 : World} {o p q r : Obj} (h : Below ((((w.alloc o).alloc p).alloc q).alloc r).heap.size ((((w.alloc o).alloc p).alloc q).alloc r) w1) : w1.heap[w.heap.size]? = some o ∧ w1.heap[w.heap.size + 1]? = some p ∧ w1.heap[w.heap.size + 1 + 1]? = some q ∧ w1.heap[w.heap.size + 1 + 1 + 1]? = some r := by
  have e : ((w.alloc o).alloc p).heap.size = w.heap.size + 1 + 1 := by simp
  obtain ⟨a, b⟩ := vblk2 h
  rw [e] at a b
  obtain ⟨d1, d2⟩ := vblk2 (w := w) (o := o) (p := p) (vafter (vafter h))
  exact ⟨d1, d2, a, b⟩
/-- the result's block and the claim's -/
structure Ck (w : World) (c : Array Value) (W : World) : Prop where
  below : Below w.heap.size w W
  r : ∃ z : Array Value, z.size = 26 ∧ W.heap[w.heap.size + 1 + 1 + 1]? = some (.cells z 33 (0, 0))
  c : W.heap[w.heap.size + 1 + 1 + 1 + 1]? = some (.cells c 59 (0, 0))
theorem Ck.up {w : World} {c : Array Value} {W W' : World} (h : Ck w c W) (hb : Below W.heap.size W W') : Ck w c W' := by
  obtain ⟨z, hz, hr⟩ := h.r
  exact ⟨vb h.below hb, ⟨z, hz, vblkn hb hr⟩, vblkn hb h.c⟩
theorem cl_rb (a : Ak) (q : Oq) (f : Fq) (w : World) : (Instr.build 59 #[(0, .agg (akA a)), (1, .agg (oqA q)), (2, .agg (fqA f))]).run Try.prog w = .ok (.agg (clA a q f)) w := by kernel_rfl
theorem oz_rb (w : World) : (Instr.build 33 #[]).run Try.prog w = .ok (.agg (oqA oz0)) w := by kernel_rfl
section
variable {o : Oper} {a : Act} {w : World} {x y z : Operand}
theorem cl_ea {k : Ak} {q : Oq} {f : Fq} (ho : o.op = .build 59 #[(0, x), (1, y), (2, z)]) (hx : a.eval x = .agg (akA k)) (hy : a.eval y = .agg (oqA q)) (hz : a.eval z = .agg (fqA f)) : (execOp a.eval o).run Try.prog w = .ok (.value (.agg (clA k q f))) w := by
  unfold execOp
  simp only [ho, List.map_toArray, List.map_cons, List.map_nil, hx, hy, hz, cl_rb, Sem.run_bind, Sem.run_pure, Result.andThen_ok]
theorem oz_ea (ho : o.op = .build 33 #[]) : (execOp a.eval o).run Try.prog w = .ok (.value (.agg (oqA oz0))) w := by
  unfold execOp
  simp only [ho, List.map_toArray, List.map_nil, oz_rb, Sem.run_bind, Sem.run_pure, Result.andThen_ok]
end
theorem chk_end {f : Func} {i j k : Nat} {t : TypeId} {Q : Ending → World → Prop} {tmps : Array Value} {W : World} {g : Nat} {o : Oq} {b : Bool} {e : Int} (hf : f.results = #[.cell i 33, .tmp j, .tmp k]) (h2 : tmps[i]?.getD undef = .pointer (some ⟨g, 0, none⟩)) (h3 : tmps[j]?.getD undef = .bool b) (h4 : tmps[k]?.getD undef = .int .i64 e) (hb : W.heap[g]? = some (.cells (oqA o) t (0, 0)))
    (hQ : Q (.returned (.tuple #[.agg (oqA o), .bool b, .int .i64 e])) W) : bodyPost Try.prog f Q .ret { tmps := tmps, defers := [] } W := by
  have hl := run_loadVar_row (P := Try.prog) W g t 33 (oqA o) (0, 0) _ hb Try.underlying33 rfl out_sz
  refine bodyPost_ret (v := .tuple #[.agg (oqA o), .bool b, .int .i64 e]) ?_ rfl hQ
  simp [h2, h3, h4, results, hf, hl, asAddr]
set_option maxHeartbeats 8000000 in
set_option maxRecDepth 1000000 in
theorem check_p (w : World) (a : Ak) (q : Oq) (f : Fq) (K L : List Ky) (D : List Dq) (hi : CIn w a q f K L D) (hl : K.length ≤ 70000) : Calls Try.prog 8 #[.agg (akA a), .agg (oqA q), .agg (fqA f)] w (CheckTo a q f K L D w) := by
  obtain ⟨c1, c2, c3, _⟩ := vblk4 (w := w) (Below.refl _ ((((w.alloc (.cells (akA a) 39)).alloc (.cells (oqA q) 33)).alloc (.cells (fqA f) 43)).alloc (.cells oz26 33)))
  obtain ⟨_, _, _, b4, b5⟩ := vblk5 (w := w) (Below.refl _ (((((w.alloc (.cells (akA a) 39)).alloc (.cells (oqA q) 33)).alloc (.cells (fqA f) 43)).alloc (.cells oz26 33)).alloc (.cells (clA ⟨0, 0, ⟨⟨#[]⟩, 0⟩, dz 0, v0, v0, none, 0, 0⟩ oz0 ⟨false, v0, false, dz 0, none, 0, 0, none, 0, 0⟩) 59)))
  have hB0 : Below w.heap.size w (((((w.alloc (.cells (akA a) 39)).alloc (.cells (oqA q) 33)).alloc (.cells (fqA f) 43)).alloc (.cells oz26 33)).alloc (.cells (clA ⟨0, 0, ⟨⟨#[]⟩, 0⟩, dz 0, v0, v0, none, 0, 0⟩ oz0 ⟨false, v0, false, dz 0, none, 0, 0, none, 0, 0⟩) 59)) := vafter (vafter (vafter (vafter (vzero _ _))))
  have cM := fun W (hb : Below w.heap.size w W) => may_all W a q f K L D (hi.up hb)
  have cH := fun (h : mayE a q f K L D = 0) W (hb : Below w.heap.size w W) => holds_all W a q f K L D (hi.up hb) h
  have cD : mayE a q f K L D = 0 → ∀ W, Below w.heap.size w W → Calls Try.prog 23 #[.agg (clA a q f)] W (DelTo a.m q K W) := fun h W hb => by
    obtain ⟨_, hw⟩ := may_is h
    have h2 := delivered_p a q q.found rfl f q.ka K q.kc W (by omega) (by omega) hl (rk_up hi.k hb) hi.knil hi.qd
    rw [← hi.kn] at h2
    exact h2
  unfold CheckTo
  unfold DelTo at cD
  obtain ⟨E, hE⟩ : ∃ E, E = mayE a q f K L D := ⟨_, rfl⟩
  obtain ⟨H, hH⟩ : ∃ H, H = holdsB a q f K L D := ⟨_, rfl⟩
  rw [← hE] at cM cH cD ⊢
  rw [← hH] at cH ⊢
  clear hE hH hi hl
  by_cases h0 : E = 0
  · replace cH := cH h0
    replace cD := cD h0
    subst h0
    cases H
    · clear cD
      go_enter Try.func8, Try.ntmps8
      go_wp2_with (first
        | ((refine ca_ld (k := a) (all := akl a) ?_ rfl rfl c1 rfl ?_); (rfl))
        | ((refine co_ld (q := q) (all := oql q) ?_ rfl rfl c2 rfl ?_); (rfl))
        | ((refine cf_ld (f := f) (all := fql f) ?_ rfl rfl c3 rfl ?_); (rfl))
        | ((refine w_val ?_ (cl_ea (k := a) (q := q) (f := f) rfl rfl rfl rfl) ?_); (rfl))
        | ((refine t_store (cs := clA a q f) rfl rfl rfl rfl b5 cl_sz rfl (clA_one a q f) hB0 (by omega) ?_); intro W2 hb2 hW2 hO2 _; have HS := Lib.hid (show Ck w (clA a q f) W2 from ⟨hb2, ⟨_, rfl, (hO2 _ (by omega)).trans b4⟩, hW2⟩); clear hb2 hW2 hO2)
        | ((with_reducible refine cc_ld (k := a) (q := q) (f := f) ?_ rfl rfl HS.out.c ?_); (rfl))
        | (go_at_call 21; (with_reducible refine (cM _ HS.out.below).mono ?_); rintro e w3 ⟨rfl, h9⟩; have HS := Lib.hid (HS.out.up h9); clear h9)
        | (go_at_call 22; (with_reducible refine (cH _ HS.out.below).mono ?_); rintro e w3 ⟨rfl, h9⟩; have HS := Lib.hid (HS.out.up h9); clear h9)
        | ((refine w_val ?_ (oz_ea rfl) ?_); (rfl))
        | ((with_reducible refine t_store (cs := oqA oz0) rfl rfl rfl rfl HS.out.r.choose_spec.2 (oq_info _) ?_ (oqA_one _) HS.out.below ?_ ?_); (exact HS.out.r.choose_spec.1); (omega); intro W8 hb8 hW8 hO8 _)
        | (fail))
      refine chk_end Try.results8 rfl rfl rfl hW8 ?_
      exact ⟨oz0, false, rfl, .inr (.inl ⟨by first | rfl | trivial, by first | rfl | trivial, rfl, rfl⟩), hb8⟩
    · go_enter Try.func8, Try.ntmps8
      go_wp2_with (first
        | ((refine ca_ld (k := a) (all := akl a) ?_ rfl rfl c1 rfl ?_); (rfl))
        | ((refine co_ld (q := q) (all := oql q) ?_ rfl rfl c2 rfl ?_); (rfl))
        | ((refine cf_ld (f := f) (all := fql f) ?_ rfl rfl c3 rfl ?_); (rfl))
        | ((refine w_val ?_ (cl_ea (k := a) (q := q) (f := f) rfl rfl rfl rfl) ?_); (rfl))
        | ((refine t_store (cs := clA a q f) rfl rfl rfl rfl b5 cl_sz rfl (clA_one a q f) hB0 (by omega) ?_); intro W2 hb2 hW2 hO2 _; have HS := Lib.hid (show Ck w (clA a q f) W2 from ⟨hb2, ⟨_, rfl, (hO2 _ (by omega)).trans b4⟩, hW2⟩); clear hb2 hW2 hO2)
        | ((with_reducible refine cc_ld (k := a) (q := q) (f := f) ?_ rfl rfl HS.out.c ?_); (rfl))
        | (go_at_call 21; (with_reducible refine (cM _ HS.out.below).mono ?_); rintro e w3 ⟨rfl, h9⟩; have HS := Lib.hid (HS.out.up h9); clear h9)
        | (go_at_call 22; (with_reducible refine (cH _ HS.out.below).mono ?_); rintro e w3 ⟨rfl, h9⟩; have HS := Lib.hid (HS.out.up h9); clear h9)
        | (go_at_call 23; (with_reducible refine (cD _ HS.out.below).mono ?_); rintro e w5 ⟨ka, kc, rfl, h9⟩; have HS := Lib.hid (HS.out.up h9); clear h9)
        | ((with_reducible refine t_store (cs := oqA (delQ a.m q K.length ka kc)) rfl rfl rfl rfl HS.out.r.choose_spec.2 (oq_info _) ?_ (oqA_one _) HS.out.below ?_ ?_); (exact HS.out.r.choose_spec.1); (omega); intro W8 hb8 hW8 hO8 _)
        | (fail))
      refine chk_end Try.results8 rfl rfl rfl hW8 ?_
      exact ⟨_, true, rfl, .inr (.inr ⟨by first | rfl | trivial, by first | rfl | trivial, rfl, ka, kc, rfl⟩), hb8⟩
  · have hEb : (E != 0) = true := by rw [bne_iff_ne]; exact h0
    have H0 := Lib.hid h0
    clear cH cD h0
    go_enter Try.func8, Try.ntmps8
    go_wp2_with (first
      | ((refine ca_ld (k := a) (all := akl a) ?_ rfl rfl c1 rfl ?_); (rfl))
      | ((refine co_ld (q := q) (all := oql q) ?_ rfl rfl c2 rfl ?_); (rfl))
      | ((refine cf_ld (f := f) (all := fql f) ?_ rfl rfl c3 rfl ?_); (rfl))
      | ((refine w_val ?_ (cl_ea (k := a) (q := q) (f := f) rfl rfl rfl rfl) ?_); (rfl))
      | ((refine t_store (cs := clA a q f) rfl rfl rfl rfl b5 cl_sz rfl (clA_one a q f) hB0 (by omega) ?_); intro W2 hb2 hW2 hO2 _; have HS := Lib.hid (show Ck w (clA a q f) W2 from ⟨hb2, ⟨_, rfl, (hO2 _ (by omega)).trans b4⟩, hW2⟩); clear hb2 hW2 hO2)
      | ((with_reducible refine cc_ld (k := a) (q := q) (f := f) ?_ rfl rfl HS.out.c ?_); (rfl))
      | (go_at_call 21; (with_reducible refine (cM _ HS.out.below).mono ?_); rintro e w3 ⟨rfl, h9⟩; have HS := Lib.hid (HS.out.up h9); clear h9)
      | ((refine w_val ?_ (oz_ea rfl) ?_); (rfl))
      | ((with_reducible refine t_store (cs := oqA oz0) rfl rfl rfl rfl HS.out.r.choose_spec.2 (oq_info _) ?_ (oqA_one _) HS.out.below ?_ ?_); (exact HS.out.r.choose_spec.1); (omega); intro W8 hb8 hW8 hO8 _)
      | (fail))
    refine chk_end Try.results8 rfl rfl rfl hW8 ?_
    exact ⟨oz0, false, rfl, .inl ⟨H0.out, rfl, rfl⟩, hb8⟩
end Go.Proofs.Ytkmgdaagannhkaa.S
/-
  The law's own small functions: ask, yes; the short claims.
-/
namespace Go.Proofs.Ytkmgdaagannhkaa.S
open Go.RowKit Go.Lib Fl
open Classical

def akz (m : Int) : Ak := ⟨m, 0, ⟨⟨#[]⟩, 0⟩, dz 0, v0, v0, none, 0, 0⟩
def fz (b : Bool) : Fq := ⟨b, v0, false, dz 0, none, 0, 0, none, 0, 0⟩
theorem ak_info (a : Ak) : (Try.prog.info? 39).map (·.size) = some (akA a).size := ask_sz
theorem akz_rb (m : Int) (w : World) : (Instr.build 39 #[(0, .int .u8 m)]).run Try.prog w = .ok (.agg (akA (akz m))) w := by kernel_rfl
theorem yes_rb (b : Bool) (w : World) : (Instr.build 33 #[(0, .int .u8 1), (2, .bool b)]).run Try.prog w = .ok (.agg (oqA (yesO b))) w := by kernel_rfl
theorem fzt_rb (w : World) : (Instr.build 43 #[(0, .bool true)]).run Try.prog w = .ok (.agg (fqA (fz true))) w := by kernel_rfl
theorem fzf_rb (w : World) : (Instr.build 43 #[]).run Try.prog w = .ok (.agg (fqA (fz false))) w := by kernel_rfl
theorem ask_end {f : Func} {i : Nat} {t : TypeId} {Q : Ending → World → Prop} {tmps : Array Value} {W : World} {g : Nat} {o : Ak} (hf : f.results = #[.cell i 39]) (h2 : tmps.getD i undef = .pointer (some ⟨g, 0, none⟩)) (hb : W.heap[g]? = some (.cells (akA o) t (0, 0)))
    (hQ : Q (.returned (.agg (akA o))) W) : bodyPost Try.prog f Q .ret { tmps := tmps, defers := [] } W :=
  bodyPost_ret (results_cell_row hf tmps W g t _ (0, 0) _ h2 hb Try.underlying39 rfl ask_sz) rfl hQ
section
variable {o : Oper} {a : Act} {w : World} {x y z : Operand}
theorem akz_ea {m : Int} (ho : o.op = .build 39 #[(0, x)]) (hx : a.eval x = .int .u8 m) : (execOp a.eval o).run Try.prog w = .ok (.value (.agg (akA (akz m)))) w := by
  unfold execOp
  simp only [ho, List.map_toArray, List.map_cons, List.map_nil, hx, akz_rb, Sem.run_bind, Sem.run_pure, Result.andThen_ok]
theorem yes_ea {b : Bool} (ho : o.op = .build 33 #[(0, .const (.int .u8 1)), (2, y)]) (hy : a.eval y = .bool b) : (execOp a.eval o).run Try.prog w = .ok (.value (.agg (oqA (yesO b)))) w := by
  have h1 : a.eval (.const (.int .u8 1)) = .int .u8 1 := rfl
  unfold execOp
  simp only [ho, List.map_toArray, List.map_cons, List.map_nil, h1, hy, yes_rb, Sem.run_bind, Sem.run_pure, Result.andThen_ok]
theorem fzt_ea (ho : o.op = .build 43 #[(0, .const (.bool true))]) : (execOp a.eval o).run Try.prog w = .ok (.value (.agg (fqA (fz true)))) w := by
  have h1 : a.eval (.const (.bool true)) = .bool true := rfl
  unfold execOp
  simp only [ho, List.map_toArray, List.map_cons, List.map_nil, h1, fzt_rb, Sem.run_bind, Sem.run_pure, Result.andThen_ok]
theorem fzf_ea (ho : o.op = .build 43 #[]) : (execOp a.eval o).run Try.prog w = .ok (.value (.agg (fqA (fz false)))) w := by
  unfold execOp
  simp only [ho, List.map_toArray, List.map_nil, fzf_rb, Sem.run_bind, Sem.run_pure, Result.andThen_ok]
end
set_option maxHeartbeats 4000000 in
set_option maxRecDepth 1000000 in
theorem yes_p (b : Bool) (w : World) : Calls Try.prog 12 #[.bool b] w fun e w' => e = .returned (.agg (oqA (yesO b))) ∧ Below w.heap.size w w' := by
  go_enter Try.func12, Try.ntmps12
  go_wp2_with (first
    | ((refine w_val ?_ (yes_ea (b := b) rfl rfl) ?_); (rfl))
    | (refine t_store (cs := oqA (yesO b)) rfl rfl rfl rfl (heap_alloc_new w _) (oq_info _) rfl (oqA_one _) (vzero w _) (Nat.le_refl _) ?_; intro W1 hb1 hW1 _ _))
  exact oq_end Try.results12 rfl hW1 ⟨rfl, hb1⟩
set_option maxHeartbeats 4000000 in
set_option maxRecDepth 1000000 in
theorem ask_p (m : Int) (w : World) : Calls Try.prog 9 #[.int .u8 m] w fun e w' => e = .returned (.agg (akA (akz m))) ∧ Below w.heap.size w w' := by
  go_enter Try.func9, Try.ntmps9
  go_wp2_with (first
    | ((refine w_val ?_ (akz_ea (m := m) rfl rfl) ?_); (rfl))
    | (refine t_store (cs := akA (akz m)) rfl rfl rfl rfl (heap_alloc_new w _) (ak_info _) rfl (akA_one _) (vzero w _) (Nat.le_refl _) ?_; intro W1 hb1 hW1 _ _))
  exact ask_end Try.results9 rfl hW1 ⟨rfl, hb1⟩
/-- may an answer to a plain ask count: method by method -/
theorem mayE_3 {q : Oq} {f : Fq} {K L : List Ky} {D : List Dq} (h : q.kind = 1) : mayE (akz 3) q f K L D = 0 := by
  unfold mayE akz; simp [h]
theorem holdsB_3 {q : Oq} {f : Fq} {K L : List Ky} {D : List Dq} : holdsB (akz 3) q f K L D = (q.b == f.ext) := by
  unfold holdsB akz; simp
theorem delQ_3 {q : Oq} {n : Nat} {ka : Option Addr} {kc : Nat} : delQ 3 q n ka kc = yesO q.b := rfl
end Go.Proofs.Ytkmgdaagannhkaa.S
/-
  Check of the plainest asks: is it extensible?
-/
namespace Go.Proofs.Ytkmgdaagannhkaa.S
open Go.RowKit Go.Lib Fl
open Classical

theorem v0_in : v0.In := by unfold Vq.In v0 VIn; decide
theorem dz_in : (dz 0).In := ⟨by decide, by decide, v0_in, v0_in, v0_in⟩
/-- nothing in it -/
theorem cin_yes (W : World) (m : Int) (b c : Bool) : CIn W (akz m) (yesO b) (fz c) [] [] [] :=
  ⟨v0_in, dz_in, v0_in, dz_in, v0_in, dz_in, rfl, by decide, fun h => absurd h (by decide), Nat.zero_le _, fun _ => rfl, rfl, by decide, fun h => absurd h (by decide), Nat.zero_le _, rfl, by decide, fun h => absurd h (by decide), fun d h => nomatch h⟩
/-- an answer to isExtensible, where no lists are told -/
theorem check_yes (W : World) (b c : Bool) : Calls Try.prog 8 #[.agg (akA (akz 3)), .agg (oqA (yesO b)), .agg (fqA (fz c))] W fun e w' => e = .returned (.tuple #[.agg (oqA (bif b == c then yesO b else oz0)), .bool (b == c), .int .i64 0]) ∧ Below W.heap.size W w' := by
  refine (check_p W (akz 3) (yesO b) (fz c) [] [] [] (cin_yes W 3 b c) (by decide)).mono fun e w' h => ?_
  obtain ⟨X, t, he, h, hb⟩ := h
  refine ⟨?_, hb⟩
  rw [mayE_3 rfl, holdsB_3] at h
  rw [mayE_3 rfl] at he
  have hq : (yesO b).b = b := rfl
  have hc : (fz c).ext = c := rfl
  rw [hq, hc] at h
  rcases h with ⟨h0, _⟩ | ⟨_, h1, rfl, rfl⟩ | ⟨_, h1, rfl, _, _, rfl⟩
  · exact absurd rfl h0
  · rw [he, h1]; rfl
  · rw [he, h1]
    show _ = Ending.returned (.tuple #[.agg (oqA (bif true then yesO b else oz0)), .bool true, .int .i64 0])
    have e : (akz 3).m = 3 := rfl
    rw [e, delQ_3]
    rfl
end Go.Proofs.Ytkmgdaagannhkaa.S
/-
  The law's alive: one that is well, and one that is not.
-/
namespace Go.Proofs.Ytkmgdaagannhkaa.S
open Go.RowKit Go.Lib Fl
open Classical

/-- an answer in a block of its own -/
structure Al (w : World) (g : Nat) (q : Oq) (W : World) : Prop where
  below : Below w.heap.size w W
  o : W.heap[g]? = some (.cells (oql q).toArray 33 (0, 0))
theorem Al.up {w W W' : World} {g : Nat} {q : Oq} (h : Al w g q W) (hb : Below W.heap.size W W') : Al w g q W' := ⟨vb h.below hb, vblkn hb h.o⟩
theorem Al.more {w W W' : World} {g n : Nat} {q : Oq} (h : Al w g q W) (hb : Below n W W') (hg : g < n) (hn : w.heap.size ≤ n) : Al w g q W' :=
  ⟨⟨hb.os.trans h.below.os, hb.tape.trans h.below.tape, hb.output.trans h.below.output, Nat.le_trans h.below.size hb.size, fun k hk => (hb.block k (Nat.lt_of_lt_of_le hk hn)).trans (h.below.block k hk)⟩, (hb.block g hg).trans h.o⟩
set_option maxHeartbeats 8000000 in
set_option maxRecDepth 1000000 in
theorem alive_p (w : World) : Calls Try.prog 14 #[] w fun e w' => e = .returned (.bool true) ∧ Below w.heap.size w w' := by
  have HB := Lib.hid (Below.refl w.heap.size w)
  have cA := fun W => ask_p 3 W
  have cY := fun W => yes_p true W
  have cT := fun W => check_yes W true true
  have cF := fun W => check_yes W true false
  go_enter Try.func14, Try.ntmps14
  go_upto_region 2 with (first
    | ((refine w_val ?_ (fzt_ea rfl) ?_); (rfl))
    | (go_at_call 9; (with_reducible refine (cA _).mono ?_); rintro e w1 ⟨rfl, h9⟩; have HB := Lib.hid (vb HB.out h9); clear h9)
    | (go_at_call 12; (with_reducible refine (cY _).mono ?_); rintro e w2 ⟨rfl, h9⟩; have HB := Lib.hid (vb HB.out h9); clear h9)
    | (go_at_call 8; (with_reducible refine (cT _).mono ?_); rintro e w3 ⟨rfl, h9⟩; have HB := Lib.hid (vb HB.out h9); clear h9)
    | ((refine t_store (cs := oqA (yesO true)) rfl rfl rfl rfl (heap_alloc_new _ _) (oq_info _) rfl (oqA_one _) (vb HB.out (vzero _ _)) HB.out.size ?_); intro W1 hb1 hW1 _ _; obtain ⟨g, hg⟩ : ∃ g, g = w3.heap.size := ⟨_, rfl⟩; rw [← hg] at hW1 ⊢; have HS := Lib.hid (show Al w g (yesO true) W1 from ⟨hb1, hW1⟩); clear hb1 hW1 HB hg)
    | (fail))
  go_wp2_with (first
    | ((refine w_val ?_ (fzf_ea rfl) ?_); (rfl))
    | ((with_reducible refine lb_l2 (all := oql (yesO true)) ?_ rfl rfl HS.out.o ?_); (rfl); refine ⟨_, rfl, ?_⟩)
    | (go_at_call 9; (with_reducible refine (cA _).mono ?_); rintro e w4 ⟨rfl, h9⟩; have HS := Lib.hid (HS.out.up h9); clear h9)
    | (go_at_call 12; (with_reducible refine (cY _).mono ?_); rintro e w5 ⟨rfl, h9⟩; have HS := Lib.hid (HS.out.up h9); clear h9)
    | (go_at_call 8; (with_reducible refine (cF _).mono ?_); rintro e w6 ⟨rfl, h9⟩; have HS := Lib.hid (HS.out.up h9); clear h9)
    | ((refine t_store (cs := oqA oz0) rfl rfl rfl rfl (heap_alloc_new _ _) (oq_info _) rfl (oqA_one _) (vzero _ _) (Nat.le_refl _) ?_); intro W7 hb7 hW7 _ _; have HS := Lib.hid (HS.out.up hb7); clear hb7 hW7)
    | (fail))
  go_ret
  exact ⟨rfl, HS.out.below⟩
end Go.Proofs.Ytkmgdaagannhkaa.S
/-
  The law's facts and long: what it takes of an input.
-/
namespace Go.Proofs.Ytkmgdaagannhkaa.S
open Go.RowKit Go.Lib Fl
open Classical

abbrev fz24 : Array Value := #[.bool false, .int .u8 0, .float .f64 0, .string ⟨#[]⟩, .int .i64 0, .bool false, .int .u8 0, .int .u8 0, .float .f64 0, .string ⟨#[]⟩, .int .i64 0, .int .u8 0, .float .f64 0, .string ⟨#[]⟩, .int .i64 0, .int .u8 0, .float .f64 0, .string ⟨#[]⟩, .int .i64 0, .bool false, .bool false, .bool false, .slice none 0 0, .slice none 0 0]
theorem fq_rb (f : Fq) (w : World) : (Instr.build 43 #[(0, .bool f.ext), (1, .agg #[.int .u8 f.proto.k, .float .f64 f.proto.x, .string f.proto.s, .int .i64 f.proto.r]), (2, .bool f.found), (3, .agg f.d.cells), (4, .slice f.ka f.kn f.kc), (5, .slice f.oa f.on f.oc)]).run Try.prog w = .ok (.agg (fqA f)) w := by kernel_rfl
theorem fq_info2 (f : Fq) : (Try.prog.info? 43).map (·.size) = some (fqA f).size := fq_sz
theorem fq_end {f : Func} {i : Nat} {t : TypeId} {Q : Ending → World → Prop} {tmps : Array Value} {W : World} {g : Nat} {o : Fq} (hf : f.results = #[.cell i 43]) (h2 : tmps.getD i undef = .pointer (some ⟨g, 0, none⟩)) (hb : W.heap[g]? = some (.cells (fqA o) t (0, 0)))
    (hQ : Q (.returned (.agg (fqA o))) W) : bodyPost Try.prog f Q .ret { tmps := tmps, defers := [] } W :=
  bodyPost_ret (results_cell_row hf tmps W g t _ (0, 0) _ h2 hb Try.underlying43 rfl fq_sz) rfl hQ
section
variable {o : Oper} {a : Act} {w : World} {x0 x1 x2 x3 x4 x5 : Operand}
theorem fq_ea {f : Fq} (ho : o.op = .build 43 #[(0, x0), (1, x1), (2, x2), (3, x3), (4, x4), (5, x5)]) (h0 : a.eval x0 = .bool f.ext) (h1 : a.eval x1 = .agg #[.int .u8 f.proto.k, .float .f64 f.proto.x, .string f.proto.s, .int .i64 f.proto.r]) (h2 : a.eval x2 = .bool f.found) (h3 : a.eval x3 = .agg f.d.cells) (h4 : a.eval x4 = .slice f.ka f.kn f.kc) (h5 : a.eval x5 = .slice f.oa f.on f.oc) :
    (execOp a.eval o).run Try.prog w = .ok (.value (.agg (fqA f))) w := by
  unfold execOp
  simp only [ho, List.map_toArray, List.map_cons, List.map_nil, h0, h1, h2, h3, h4, h5, fq_rb, Sem.run_bind, Sem.run_pure, Result.andThen_ok]
end
set_option maxHeartbeats 8000000 in
set_option maxRecDepth 1000000 in
theorem facts_p (a : Ak) (q : Oq) (f : Fq) (w : World) : Calls Try.prog 17 #[.agg (clA a q f)] w fun e w' => e = .returned (.agg (fqA f)) ∧ Below w.heap.size w w' := by
  obtain ⟨q1, q2⟩ := vblk2 (w := w) (Below.refl _ ((w.alloc (.cells (clA a q f) 52)).alloc (.cells fz24 43)))
  have hB0 : Below w.heap.size w ((w.alloc (.cells (clA a q f) 52)).alloc (.cells fz24 43)) := vafter (vzero _ _)
  go_enter Try.func17, Try.ntmps17
  go_wp2_with (first
    | ((with_reducible refine lb_l2 (all := cll a q f) ?_ rfl rfl q1 ?_); (rfl); refine ⟨_, rfl, ?_⟩)
    | ((with_reducible refine cv_ld (v := f.proto) (all := cll a q f) ?_ rfl rfl q1 ?_ ?_); (rfl); (rfl))
    | ((with_reducible refine cd_ld (d := f.d) (all := cll a q f) ?_ rfl rfl q1 ?_ ?_); (rfl); (rfl))
    | ((with_reducible refine lk_ld (all := cll a q f) (A := f.ka) (l := f.kn) (c := f.kc) ?_ rfl rfl q1 ?_ ?_); (rfl); (rfl))
    | ((with_reducible refine ld_ld (all := cll a q f) (A := f.oa) (l := f.on) (c := f.oc) ?_ rfl rfl q1 ?_ ?_); (rfl); (rfl))
    | ((refine w_val ?_ (fq_ea (f := f) rfl rfl rfl rfl rfl rfl rfl) ?_); (rfl))
    | ((refine t_store (cs := fqA f) rfl rfl rfl rfl q2 (fq_info2 f) rfl (fqA_one f) hB0 (Nat.le_succ _) ?_); intro W1 hb1 hW1 _ _)
    | (fail))
  exact fq_end Try.results17 rfl hW1 ⟨rfl, hb1⟩
end Go.Proofs.Ytkmgdaagannhkaa.S
/-
  The law's long.
-/
namespace Go.Proofs.Ytkmgdaagannhkaa.S
open Go.RowKit Go.Lib Fl
open Classical

/-- more than is gone through -/
def longN (n : Nat) : Bool := decide ((150 < n ∧ n < 1024) ∨ 1100 < n)
theorem longN_is {n : Nat} {b : Bool} (h : b = true ↔ ((150 < n ∧ n < 1024) ∨ 1100 < n)) : Ending.returned (.bool b) = Ending.returned (.bool (longN n)) := by
  have : b = longN n := by
    unfold longN
    cases b
    · exact (decide_eq_false (fun hn => by cases h.2 hn)).symm
    · exact (decide_eq_true (h.1 rfl)).symm
  rw [this]
set_option maxHeartbeats 8000000 in
set_option maxRecDepth 1000000 in
theorem long_p (a : Ak) (q : Oq) (f : Fq) (w : World) : Calls Try.prog 16 #[.agg (clA a q f)] w fun e w' => e = .returned (.bool (longN (max (max q.kn f.kn) f.on))) ∧ Below w.heap.size w w' := by
  have HS := Lib.hid (ow_start w (clA a q f) 52)
  go_enter Try.func16, Try.ntmps16
  go_upto_region 2 with (first
    | ((with_reducible refine lk_ld (all := cll a q f) (A := q.ka) (l := q.kn) (c := q.kc) ?_ rfl rfl HS.out.c ?_ ?_); (rfl); (rfl))
    | ((with_reducible refine lk_ld (all := cll a q f) (A := f.ka) (l := f.kn) (c := f.kc) ?_ rfl rfl HS.out.c ?_ ?_); (rfl); (rfl))
    | ((with_reducible refine ld_ld (all := cll a q f) (A := f.oa) (l := f.on) (c := f.oc) ?_ rfl rfl HS.out.c ?_ ?_); (rfl); (rfl))
    | (fail))
  all_goals (try dsimp only [Act.put])
  all_goals (go_wp2_with (fail))
  all_goals go_ret
  all_goals (refine ⟨longN_is ?_, HS.out.below⟩)
  all_goals (simp; omega)
end Go.Proofs.Ytkmgdaagannhkaa.S
/-
  What an answer that holds says of the facts.
-/
namespace Go.Proofs.Ytkmgdaagannhkaa.S
open Go.RowKit Go.Lib Fl
open Classical

theorem allB_iff {L T : List Ky} : allB L T = true ↔ ∀ k ∈ T, k ∈ L := by
  unfold allB
  rw [List.all_eq_true]
  exact ⟨fun h k hk => inB_iff.1 (h k hk), fun h k hk => inB_iff.2 (h k hk)⟩
theorem twiceB_no {L : List Ky} : twiceB L = false ↔ L.Nodup := by
  unfold twiceB
  rw [Bool.not_eq_false', decide_eq_true_iff]
/-- lists that are owned hold no double -/
theorem owned_nodup {L : List Ky} {D : List Dq} (h : ownedE L D = 0) : L.Nodup := by
  by_cases h1 : keysE L = 0
  · by_cases h2 : twiceB L = true ∨ D.length ≠ L.length
    · rw [owned_2 h1 h2] at h; cases h
    · refine twiceB_no.1 ?_
      cases h3 : twiceB L
      · rfl
      · exact absurd (.inl h3) h2
  · rw [owned_1 h1] at h; exact absurd h h1
theorem orE_0 {x y : Int} (h : orE x y = 0) : x = 0 ∧ y = 0 := by
  unfold orE at h
  split at h
  · exact ⟨by assumption, h⟩
  · exact absurd h (by assumption)
end Go.Proofs.Ytkmgdaagannhkaa.S
/-
  PostLies: where lists are longer than are gone through.
-/
namespace Go.Proofs.Ytkmgdaagannhkaa.S
open Go.RowKit Go.Lib Fl
open Classical

theorem as_sz : (Try.prog.info? 52).map (·.size) = some 79 := by kernel_rfl
section
variable {ops : Array Oper} {rest : List Oper} {o : Oper} {a : Act} {w : World} {Q : Exit → Act → World → Prop} {x : Operand} {g : Nat} {t : TypeId}
/-- the whole input -/
theorem sx_ld {k : Ak} {q : Oq} {f : Fq} (hw : Region.wanted o (yielded ops a.tmps) = true) (ho : o.op = .load 52 x) (hx : a.eval x = .pointer (some ⟨g, 0, none⟩)) (hg : w.heap[g]? = some (.cells (clA k q f) t (0, 0)))
    (h : wpList Try.prog ops Q rest (a.put o.dst (.agg (clA k q f))) w) : wpList Try.prog ops Q (o :: rest) a w :=
  sub_load (all := cll k q f) (cs := cll k q f) hw ho hx hg rfl Try.underlying52 rfl as_sz h
end
set_option maxHeartbeats 8000000 in
set_option maxRecDepth 1000000 in
theorem truth_long (a : Ak) (q : Oq) (f : Fq) (w : World) (h : longN (max (max q.kn f.kn) f.on) = true) : Calls Try.prog 4 #[.agg (clA a q f)] w fun e w' => e = .returned (.bool true) ∧ Below w.heap.size w w' := by
  have HS := Lib.hid (ow_start w (clA a q f) 52)
  have cL := fun W => long_p a q f W
  rw [h] at cL
  go_enter Try.func4, Try.ntmps4
  go_wp2_with (first
    | ((with_reducible refine sx_ld (k := a) (q := q) (f := f) ?_ rfl rfl HS.out.c ?_); (rfl))
    | (go_at_call 14; (with_reducible refine (alive_p _).mono ?_); rintro e w1 ⟨rfl, h9⟩; have HS := Lib.hid (HS.out.up h9); clear h9)
    | (go_at_call 16; (with_reducible refine (cL _).mono ?_); rintro e w2 ⟨rfl, h9⟩; have HS := Lib.hid (HS.out.up h9); clear h9)
    | (fail))
  go_ret
  exact ⟨rfl, HS.out.below⟩
end Go.Proofs.Ytkmgdaagannhkaa.S
