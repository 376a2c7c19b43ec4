/-
  cmp.Or of two errors; whether a descriptor is complete, whether a property may be.
-/
import Derived.Test.YtmdmfjlmmojbgaaGreatDoorTF30
import Derived.Test.YtmdmfjlmmojbgaaGreatDoorTF31
import Derived.Deep.LoopGhost
import Derived.Test.YtmdmfjlmmojbgaaGreatDoorTF26
namespace Go.Proofs.YtmdmfjlmmojbgaaGreatDoor.S
open Go.RowKit Fl
open Classical

noncomputable def orE (x y : Int) : Int := if x = 0 then y else x
set_option maxRecDepth 100000 in
theorem Or_2 (g : Nat) (x y : Int) (w : World) (h0 : w.cell? ⟨g, 0, none⟩ = some (.int .i64 x)) (h1 : w.cell? ⟨g, 1, none⟩ = some (.int .i64 y)) : Calls Tryz.prog 23 #[.slice (some ⟨g, 0, none⟩) 2 2] w fun e w' => e = .returned (.int .i64 (orE x y)) ∧ w' = w := by
  go_enter Tryz.func23, Tryz.ntmps23
  go_wp2
  go_loopg [8] 2 (fun kx s8 wr => ∃ i : Nat, s8 = .int .i64 i ∧ i + kx = 2 ∧ Hid ((0 < i → x = 0) ∧ (1 < i → y = 0)) ∧ wr = w)
  case atStart => exact ⟨0, rfl, rfl, Lib.hid ⟨fun h => absurd h (by decide), fun h => absurd h (by decide)⟩, rfl⟩
  case round =>
    obtain ⟨i, rfl, hik, H, rfl⟩ := hrel
    cases gk with
    | zero =>
      obtain rfl : i = 2 := by omega
      have hx := H.out.1 (by decide)
      have hy := H.out.2 (by decide)
      clear H
      subst hx hy
      go_wp2
      go_ret
      exact ⟨by unfold orE; rfl, rfl⟩
    | succ kx =>
      have hi : i = 0 ∨ i = 1 := by omega
      rcases hi with rfl | rfl
      · by_cases hx : x = 0
        · go_wp2
          go_roundg kx
          case measure => omega
          case rel => exact ⟨1, rfl, by omega, Lib.hid ⟨fun _ => hx, fun h => absurd h (by decide)⟩, rfl⟩
        · go_wp2
          go_ret
          exact ⟨by unfold orE; rw [if_neg hx]; rfl, rfl⟩
      · have hx := H.out.1 (by decide)
        by_cases hy : y = 0
        · go_wp2
          go_roundg kx
          case measure => omega
          case rel => exact ⟨2, rfl, by omega, Lib.hid ⟨fun _ => hx, fun _ => hy⟩, rfl⟩
        · clear H
          subst hx
          go_wp2
          go_ret
          exact ⟨by unfold orE; rfl, rfl⟩
noncomputable def whoE (d : Dq) : Int := if wholeQ d = true then 0 else 90
theorem comp_h {d : Dq} (hd : d.In) (g : chkQ d = true) : (completeQ d).h = d.h ↔ wholeQ d = true := by
  have gd := good_of hd g
  have e : wholeQ d = (d.h == 51 || d.h == 60) := by unfold wholeQ; rw [g]; rfl
  rw [e, complete_eq gd.mem]
  dsimp only
  constructor
  · intro h
    cases hh : hasB d.h 12 <;> rw [hh] at h
    · have : d.h = 51 := h.symm
      simp [this]
    · have : d.h = 60 := h.symm
      simp [this]
  · intro h
    simp at h
    rcases h with h | h <;> rw [h] <;> decide
theorem who_no {d : Dq} (g : chkQ d = false) : whoE d = 90 := by unfold whoE wholeQ; rw [g]; rfl
set_option maxRecDepth 100000 in
theorem whole_t {d : Dq} (hd : d.In) (w : World) : Calls Tryz.prog 35 #[.agg d.cells] w fun e w' => e = .returned (.int .i64 (whoE d)) ∧ Below w.heap.size w w' := by
  have hC := fun w => Complete_x d.h (completeQ d).h d.a.k d.a.x d.a.s d.a.r d.b.k d.b.x d.b.s d.b.r d.c.k d.c.x d.c.s d.c.r (completeQ d).a.k (completeQ d).a.x (completeQ d).a.s (completeQ d).a.r (completeQ d).b.k (completeQ d).b.x (completeQ d).b.s (completeQ d).b.r (completeQ d).c.k (completeQ d).c.x (completeQ d).c.s (completeQ d).c.r d.p d.q d.z (completeQ d).p (completeQ d).q (completeQ d).z (ck := chkQ d) (fun w => Check_q hd w) (fun w => complete_q d w) w
  have hB0 : Below w.heap.size w (w.alloc (.cells d.cells 28)) := vzero _ _
  have b1 : (w.alloc (.cells d.cells 28)).heap[w.heap.size]? = some (.cells d.cells 28 (0, 0)) := heap_alloc_new w _
  cases hck : chkQ d with
  | false =>
    have hC : ∀ w, Calls Tryz.prog 42 #[.agg d.cells] w fun e w' => e = .returned (.tuple #[.agg (dz 0).cells, .int .i64 90]) ∧ Below w.heap.size w w' := fun w => (hC w).mono fun e w' h => ⟨h.1 hck, h.2.2⟩
    rw [who_no hck]
    generalize hX : dz 0 = X at hC
    clear hX hck
    have hc1 : X.cells.all (·.oneCell') = true := cells_one (l := X.cells.toList) rfl
    have hi1 : (Tryz.prog.info? 28).map (·.size) = some X.cells.size := dsz
    go_enter Tryz.func35, Tryz.ntmps35
    go_wp2_with (first | ((with_reducible refine dq_load ?_ rfl rfl b1 ?_); (rfl)) | (go_at_call 42; (with_reducible refine (hC _).mono ?_); rintro e w1 ⟨rfl, h9⟩; have b1 := vblkn h9 b1; have hB0 := vb hB0 h9) | ((with_reducible refine t_store (cs := X.cells) rfl rfl rfl rfl (heap_alloc_new _ _) hi1 ?_ hc1 (hB0.alloc hB0.size _) hB0.size ?_); (rfl); intro W hBW hW _ _))
    go_ret
    exact ⟨rfl, hBW⟩
  | true =>
    have hC : ∀ w, Calls Tryz.prog 42 #[.agg d.cells] w fun e w' => e = .returned (.tuple #[.agg (completeQ d).cells, .int .i64 0]) ∧ Below w.heap.size w w' := fun w => (hC w).mono fun e w' h => ⟨h.2.1 hck, h.2.2⟩
    have hw : whoE d = if (completeQ d).h = d.h then 0 else 90 := by
      unfold whoE
      by_cases c : wholeQ d = true
      · rw [if_pos c, if_pos ((comp_h hd hck).2 c)]
      · rw [if_neg c, if_neg (fun h => c ((comp_h hd hck).1 h))]
    rw [hw]
    generalize hX : completeQ d = X at hC
    clear hX hck hw
    have hc1 : X.cells.all (·.oneCell') = true := cells_one (l := X.cells.toList) rfl
    have hi1 : (Tryz.prog.info? 28).map (·.size) = some X.cells.size := dsz
    have d0 : d.cells[0]? = some (.int .u8 d.h) := rfl
    have x0 : X.cells[0]? = some (.int .u8 X.h) := rfl
    by_cases he : X.h = d.h
    · have hb : (X.h != d.h) = false := by simp [he]
      go_enter Tryz.func35, Tryz.ntmps35
      go_wp2_with (first | ((with_reducible refine dq_load ?_ rfl rfl b1 ?_); (rfl)) | (go_at_call 42; (with_reducible refine (hC _).mono ?_); rintro e w1 ⟨rfl, h9⟩; have b1 := vblkn h9 b1; have hB0 := vb hB0 h9; have q1 := lt_blk b1) | ((with_reducible refine t_store (cs := X.cells) rfl rfl rfl rfl (heap_alloc_new _ _) hi1 ?_ hc1 (hB0.alloc hB0.size _) hB0.size ?_); (rfl); intro W hBW hW hO hz; have c0 := (vcells hW 0).trans x0; have c1 := (vcells ((hO w.heap.size (by omega)).trans ((heap_alloc_old _ _ q1).trans b1)) 0).trans d0))
      go_ret
      exact ⟨by first | rfl | (rw [if_pos he]; rfl), hBW⟩
    · have hb : (X.h != d.h) = true := by simp [he]
      go_enter Tryz.func35, Tryz.ntmps35
      go_wp2_with (first | ((with_reducible refine dq_load ?_ rfl rfl b1 ?_); (rfl)) | (go_at_call 42; (with_reducible refine (hC _).mono ?_); rintro e w1 ⟨rfl, h9⟩; have b1 := vblkn h9 b1; have hB0 := vb hB0 h9; have q1 := lt_blk b1) | ((with_reducible refine t_store (cs := X.cells) rfl rfl rfl rfl (heap_alloc_new _ _) hi1 ?_ hc1 (hB0.alloc hB0.size _) hB0.size ?_); (rfl); intro W hBW hW hO hz; have c0 := (vcells hW 0).trans x0; have c1 := (vcells ((hO w.heap.size (by omega)).trans ((heap_alloc_old _ _ q1).trans b1)) 0).trans d0))
      go_ret
      exact ⟨by first | rfl | (rw [if_neg he]; rfl), hBW⟩
noncomputable def keyE (k : Ky) : Int := if mayKy k then 0 else 9
theorem keyCheck_t (k : Ky) (w : World) : Calls Tryz.prog 17 #[.agg #[.string k.str, .int .i64 k.sym]] w fun e w' => e = .returned (.int .i64 (keyE k)) ∧ Below w.heap.size w w' := by
  unfold keyE
  by_cases h : mayKy k
  · rw [if_pos h]; exact keyCheck_ok k.str k.sym w h
  · rw [if_neg h]; exact keyCheck_bad k.str k.sym w h
theorem mayT_or (p : Pq) : mayT p = orE (keyE p.k) (whoE p.d) := by
  unfold mayT orE keyE whoE
  by_cases h : mayKy p.k
  · rw [if_pos h, if_pos h, if_pos rfl]
  · rw [if_neg h, if_neg h, if_neg (by decide)]
theorem keyE_ok {k : Ky} : keyE k = 0 ↔ mayKy k := by
  unfold keyE
  by_cases h : mayKy k
  · rw [if_pos h]; exact ⟨fun _ => h, fun _ => rfl⟩
  · rw [if_neg h]; exact ⟨fun e => absurd e (by decide), fun e => absurd e h⟩
end Go.Proofs.YtmdmfjlmmojbgaaGreatDoor.S
/-
  table.may.
-/
namespace Go.Proofs.YtmdmfjlmmojbgaaGreatDoor.S
open Go.RowKit Fl
open Classical

theorem k2_load {W : World} {k : Ky} {g : Nat} (h : W.heap[g]? = some (.cells #[.string k.str, .int .i64 k.sym] 23 (0, 0))) : (Instr.loadAt 23 (.pointer (some ⟨g, 0, none⟩))).run Tryz.prog W = .ok (.agg #[.string k.str, .int .i64 k.sym]) W :=
  run_loadAt_at (A := ⟨g, 0, none⟩) (cs := [.string k.str, .int .i64 k.sym]) (fun j v hv => by
    rw [Addr.add_mid, Nat.zero_add, vcells h j]
    simpa using hv) Tryz.underlying23 rfl ksz
theorem d2_load {W : World} {d : Dq} {g : Nat} (h : W.heap[g]? = some (.cells d.cells 28 (0, 0))) : (Instr.loadAt 28 (.pointer (some ⟨g, 0, none⟩))).run Tryz.prog W = .ok (.agg d.cells) W :=
  run_loadAt_at (A := ⟨g, 0, none⟩) (cs := d.cells.toList) (fun j v hv => by
    rw [Addr.add_mid, Nat.zero_add, vcells h j]
    simpa using hv) Tryz.underlying28 rfl dsz
/-- what may, and Put, hold on to while they ask -/
structure Hm (w : World) (k : Ky) (d : Dq) (W : World) : Prop where
  below : Below w.heap.size w W
  k : W.heap[w.heap.size]? = some (.cells #[.string k.str, .int .i64 k.sym] 23 (0, 0))
  d : W.heap[w.heap.size + 1]? = some (.cells d.cells 28 (0, 0))
theorem Hm.up {w W W' : World} {k : Ky} {d : Dq} (h : Hm w k d W) (hb : Below W.heap.size W W') : Hm w k d W' := ⟨vb h.below hb, vblkn hb h.k, vblkn hb h.d⟩
theorem Hm.drew {w W : World} {k : Ky} {d : Dq} (h : Hm w k d W) : Hm w k d W.drew := ⟨h.below.drew, h.k, h.d⟩
theorem hm_start (w : World) (k : Ky) (d : Dq) : Hm w k d ((w.alloc (.cells #[.string k.str, .int .i64 k.sym] 23)).alloc (.cells d.cells 28)) :=
  ⟨vafter (vzero _ _), (vblk2 (Below.refl _ _)).1, (vblk2 (Below.refl _ _)).2⟩
theorem ex_load_at {a : Act} {o : Oper} {w : World} {x : Operand} {ty : TypeId} {A : Addr} {v : Value} (h : (Instr.loadAt ty (.pointer (some A))).run Tryz.prog w = .ok v w) (ho : o.op = .load ty x) (hx : a.eval x = .pointer (some A)) : (execOp a.eval o).run Tryz.prog w = .ok (.value v) w := by
  unfold execOp
  simp only [ho, hx, h, Sem.run_bind, Sem.run_pure, Result.andThen_ok]
theorem orS_new (w : World) (x y : Int) : (w.alloc (.cells #[.int .i64 x, .int .i64 y] 37)).cell? ⟨w.heap.size, 0, none⟩ = some (.int .i64 x) ∧ (w.alloc (.cells #[.int .i64 x, .int .i64 y] 37)).cell? ⟨w.heap.size, 1, none⟩ = some (.int .i64 y) :=
  ⟨vcells (heap_alloc_new w _) 0, vcells (heap_alloc_new w _) 1⟩
set_option maxRecDepth 100000 in
theorem may_t {p : Pq} (hp : p.In) (w : World) : Calls Tryz.prog 26 #[.agg #[.string p.k.str, .int .i64 p.k.sym], .agg p.d.cells] w fun e w' => e = .returned (.int .i64 (mayT p)) ∧ Below w.heap.size w w' := by
  rw [mayT_or]
  have H0 := (hm_start w p.k p.d).drew
  have kC := fun W => keyCheck_t p.k W
  have wC := fun W => whole_t hp.2 W
  generalize keyE p.k = x at *
  generalize whoE p.d = y at *
  have hS := H0
  clear H0
  go_enter Tryz.func26, Tryz.ntmps26
  go_upto_region 1 with (fail)
  refine wp_region_held_drew (S := Hm w p.k p.d) (by kernel_rfl) hS (fun hHeld => ?_)
  refine hH_take (i := 0) (v := .agg #[.string p.k.str, .int .i64 p.k.sym]) (d := 5) (l2 := #[true, false, false, false, false, false, false]) rfl (by kernel_rfl) (by kernel_rfl) (by kernel_rfl) (fun _ _ _ h => h) (by kernel_rfl) (fun w hSw => ?_) (by assumption) rfl (by kernel_rfl) ?_
  · exact ex_load_at (k2_load hSw.k) rfl rfl
  simp only [List.set]
  refine hH_take (i := 2) (v := .agg p.d.cells) (d := 7) (l2 := #[true, false, true, false, false, false, false]) rfl (by kernel_rfl) (by kernel_rfl) (by kernel_rfl) (fun _ _ _ h => h) (by kernel_rfl) (fun w hSw => ?_) (by assumption) rfl (by kernel_rfl) ?_
  · exact ex_load_at (d2_load hSw.d) rfl rfl
  simp only [List.set]
  refine wpAnyH_ready (rs := [1]) (by kernel_rfl) (by simp) ?_
  refine AllReadyH.cons rfl (fun K hK => ?_) AllReadyH.nil
  go_simp
  go_at_call 17
  (with_reducible refine (kC _).mono ?_)
  rintro e w1 ⟨rfl, h1⟩
  have hS := hS.up h1
  clear h1
  refine hK.out _ _ hS (fun hHeld => ?_)
  clear hK K
  refine wpAnyH_ready (rs := [3]) (by kernel_rfl) (by simp) ?_
  refine AllReadyH.cons rfl (fun K hK => ?_) AllReadyH.nil
  go_simp
  go_at_call 35
  (with_reducible refine (wC _).mono ?_)
  rintro e w1 ⟨rfl, h1⟩
  have hS := hS.up h1
  clear h1
  refine hK.out _ _ hS (fun hHeld => ?_)
  clear hK K
  refine wpAnyH_ready (rs := [4]) (by kernel_rfl) (by simp) ?_
  refine AllReadyH.cons rfl (fun K hK => ?_) AllReadyH.nil
  go_simp
  have hS := hS.up (vzero _ (.cells #[.int .i64 x, .int .i64 y] 37))
  have hO := orS_new w1 x y
  refine hK.out _ _ hS (fun hHeld => ?_)
  clear hK K
  refine wpAnyH_ready (rs := [5]) (by kernel_rfl) (by simp) ?_
  refine AllReadyH.cons rfl (fun K hK => ?_) AllReadyH.nil
  go_simp
  go_at_call 23
  (with_reducible refine (Or_2 _ x y _ hO.1 hO.2).mono ?_)
  rintro e w2 ⟨rfl, rfl⟩
  refine hK.out _ _ hS (fun hHeld => ?_)
  clear hK K
  refine hH_take (i := 6) (v := .int .i64 (orE x y)) (d := 4) (l2 := #[true, true, true, true, true, true, true]) rfl (by kernel_rfl) (by kernel_rfl) (by kernel_rfl) (fun _ _ _ h => h) (by kernel_rfl) (fun w hSw => ?_) (by assumption) rfl (by kernel_rfl) ?_
  · go_simp
  simp only [List.set]
  refine wpAnyH_done (by kernel_rfl) ?_ _
  go_wp2
  go_ret
  exact ⟨rfl, hS.below⟩
end Go.Proofs.YtmdmfjlmmojbgaaGreatDoor.S
