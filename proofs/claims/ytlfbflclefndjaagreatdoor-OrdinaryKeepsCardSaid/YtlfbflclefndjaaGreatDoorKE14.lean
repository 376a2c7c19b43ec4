/-
  cmp.Or of two errors; whether a descriptor is complete, whether a property may be.
-/
import Derived.Test.YtlfbflclefndjaaGreatDoorKE13
import Derived.Deep.LoopGhost
import Derived.Test.YtlfbflclefndjaaGreatDoorKE12
import Derived.Laws.AppendOwnNone
import Derived.Lib.AppendZerosOnto
import Derived.Deep.AppendSrc
import Derived.Maps.OwnSet
import Derived.DeepKeys4
import Derived.WalkKit
namespace Go.Proofs.YtlfbflclefndjaaGreatDoor.S
open Go.RowKit Fl
open Classical

noncomputable def orE (x y : Int) : Int := if x = 0 then y else x
set_option maxRecDepth 100000 in
theorem Or_2 (g : Nat) (x y : Int) (w : World) (h0 : w.cell? ⟨g, 0, none⟩ = some (.int .i64 x)) (h1 : w.cell? ⟨g, 1, none⟩ = some (.int .i64 y)) : Calls Tryz.prog 20 #[.slice (some ⟨g, 0, none⟩) 2 2] w fun e w' => e = .returned (.int .i64 (orE x y)) ∧ w' = w := by
  go_enter Tryz.func20, Tryz.ntmps20
  go_wp2
  go_loopg [8] 2 (fun kx s8 wr => ∃ i : Nat, s8 = .int .i64 i ∧ i + kx = 2 ∧ Hid ((0 < i → x = 0) ∧ (1 < i → y = 0)) ∧ wr = w)
  case atStart => exact ⟨0, rfl, rfl, Lib.hid ⟨fun h => absurd h (by decide), fun h => absurd h (by decide)⟩, rfl⟩
  case round =>
    obtain ⟨i, rfl, hik, H, rfl⟩ := hrel
    cases gk with
    | zero =>
      obtain rfl : i = 2 := by omega
      have hx := H.out.1 (by decide)
      have hy := H.out.2 (by decide)
      clear H
      subst hx hy
      go_wp2
      go_ret
      exact ⟨by unfold orE; rfl, rfl⟩
    | succ kx =>
      have hi : i = 0 ∨ i = 1 := by omega
      rcases hi with rfl | rfl
      · by_cases hx : x = 0
        · go_wp2
          go_roundg kx
          case measure => omega
          case rel => exact ⟨1, rfl, by omega, Lib.hid ⟨fun _ => hx, fun h => absurd h (by decide)⟩, rfl⟩
        · go_wp2
          go_ret
          exact ⟨by unfold orE; rw [if_neg hx]; rfl, rfl⟩
      · have hx := H.out.1 (by decide)
        by_cases hy : y = 0
        · go_wp2
          go_roundg kx
          case measure => omega
          case rel => exact ⟨2, rfl, by omega, Lib.hid ⟨fun _ => hx, fun _ => hy⟩, rfl⟩
        · clear H
          subst hx
          go_wp2
          go_ret
          exact ⟨by unfold orE; rfl, rfl⟩
noncomputable def whoE (d : Dq) : Int := if wholeQ d = true then 0 else 90
theorem comp_h {d : Dq} (hd : d.In) (g : chkQ d = true) : (completeQ d).h = d.h ↔ wholeQ d = true := by
  have gd := good_of hd g
  have e : wholeQ d = (d.h == 51 || d.h == 60) := by unfold wholeQ; rw [g]; rfl
  rw [e, complete_eq gd.mem]
  dsimp only
  constructor
  · intro h
    cases hh : hasB d.h 12 <;> rw [hh] at h
    · have : d.h = 51 := h.symm
      simp [this]
    · have : d.h = 60 := h.symm
      simp [this]
  · intro h
    simp at h
    rcases h with h | h <;> rw [h] <;> decide
theorem who_no {d : Dq} (g : chkQ d = false) : whoE d = 90 := by unfold whoE wholeQ; rw [g]; rfl
set_option maxRecDepth 100000 in
theorem whole_t {d : Dq} (hd : d.In) (w : World) : Calls Tryz.prog 77 #[.agg d.cells] w fun e w' => e = .returned (.int .i64 (whoE d)) ∧ Below w.heap.size w w' := by
  have hC := fun w => Complete_x d.h (completeQ d).h d.a.k d.a.x d.a.s d.a.r d.b.k d.b.x d.b.s d.b.r d.c.k d.c.x d.c.s d.c.r (completeQ d).a.k (completeQ d).a.x (completeQ d).a.s (completeQ d).a.r (completeQ d).b.k (completeQ d).b.x (completeQ d).b.s (completeQ d).b.r (completeQ d).c.k (completeQ d).c.x (completeQ d).c.s (completeQ d).c.r d.p d.q d.z (completeQ d).p (completeQ d).q (completeQ d).z (ck := chkQ d) (fun w => Check_q hd w) (fun w => complete_q d w) w
  have hB0 : Below w.heap.size w (w.alloc (.cells d.cells 41)) := vzero _ _
  have b1 : (w.alloc (.cells d.cells 41)).heap[w.heap.size]? = some (.cells d.cells 41 (0, 0)) := heap_alloc_new w _
  cases hck : chkQ d with
  | false =>
    have hC : ∀ w, Calls Tryz.prog 97 #[.agg d.cells] w fun e w' => e = .returned (.tuple #[.agg (dz 0).cells, .int .i64 90]) ∧ Below w.heap.size w w' := fun w => (hC w).mono fun e w' h => ⟨h.1 hck, h.2.2⟩
    rw [who_no hck]
    generalize hX : dz 0 = X at hC
    clear hX hck
    have hc1 : X.cells.all (·.oneCell') = true := cells_one (l := X.cells.toList) rfl
    have hi1 : (Tryz.prog.info? 41).map (·.size) = some X.cells.size := dsz
    go_enter Tryz.func77, Tryz.ntmps77
    go_wp2_with (first | ((with_reducible refine dq_load ?_ rfl rfl b1 ?_); (rfl)) | (go_at_call 97; (with_reducible refine (hC _).mono ?_); rintro e w1 ⟨rfl, h9⟩; have b1 := vblkn h9 b1; have hB0 := vb hB0 h9) | ((with_reducible refine t_store (cs := X.cells) rfl rfl rfl rfl (heap_alloc_new _ _) hi1 ?_ hc1 (hB0.alloc hB0.size _) hB0.size ?_); (rfl); intro W hBW hW _ _))
    go_ret
    exact ⟨rfl, hBW⟩
  | true =>
    have hC : ∀ w, Calls Tryz.prog 97 #[.agg d.cells] w fun e w' => e = .returned (.tuple #[.agg (completeQ d).cells, .int .i64 0]) ∧ Below w.heap.size w w' := fun w => (hC w).mono fun e w' h => ⟨h.2.1 hck, h.2.2⟩
    have hw : whoE d = if (completeQ d).h = d.h then 0 else 90 := by
      unfold whoE
      by_cases c : wholeQ d = true
      · rw [if_pos c, if_pos ((comp_h hd hck).2 c)]
      · rw [if_neg c, if_neg (fun h => c ((comp_h hd hck).1 h))]
    rw [hw]
    generalize hX : completeQ d = X at hC
    clear hX hck hw
    have hc1 : X.cells.all (·.oneCell') = true := cells_one (l := X.cells.toList) rfl
    have hi1 : (Tryz.prog.info? 41).map (·.size) = some X.cells.size := dsz
    have d0 : d.cells[0]? = some (.int .u8 d.h) := rfl
    have x0 : X.cells[0]? = some (.int .u8 X.h) := rfl
    by_cases he : X.h = d.h
    · have hb : (X.h != d.h) = false := by simp [he]
      go_enter Tryz.func77, Tryz.ntmps77
      go_wp2_with (first | ((with_reducible refine dq_load ?_ rfl rfl b1 ?_); (rfl)) | (go_at_call 97; (with_reducible refine (hC _).mono ?_); rintro e w1 ⟨rfl, h9⟩; have b1 := vblkn h9 b1; have hB0 := vb hB0 h9; have q1 := lt_blk b1) | ((with_reducible refine t_store (cs := X.cells) rfl rfl rfl rfl (heap_alloc_new _ _) hi1 ?_ hc1 (hB0.alloc hB0.size _) hB0.size ?_); (rfl); intro W hBW hW hO hz; have c0 := (vcells hW 0).trans x0; have c1 := (vcells ((hO w.heap.size (by omega)).trans ((heap_alloc_old _ _ q1).trans b1)) 0).trans d0))
      go_ret
      exact ⟨by first | rfl | (rw [if_pos he]; rfl), hBW⟩
    · have hb : (X.h != d.h) = true := by simp [he]
      go_enter Tryz.func77, Tryz.ntmps77
      go_wp2_with (first | ((with_reducible refine dq_load ?_ rfl rfl b1 ?_); (rfl)) | (go_at_call 97; (with_reducible refine (hC _).mono ?_); rintro e w1 ⟨rfl, h9⟩; have b1 := vblkn h9 b1; have hB0 := vb hB0 h9; have q1 := lt_blk b1) | ((with_reducible refine t_store (cs := X.cells) rfl rfl rfl rfl (heap_alloc_new _ _) hi1 ?_ hc1 (hB0.alloc hB0.size _) hB0.size ?_); (rfl); intro W hBW hW hO hz; have c0 := (vcells hW 0).trans x0; have c1 := (vcells ((hO w.heap.size (by omega)).trans ((heap_alloc_old _ _ q1).trans b1)) 0).trans d0))
      go_ret
      exact ⟨by first | rfl | (rw [if_neg he]; rfl), hBW⟩
noncomputable def keyE (k : Ky) : Int := if mayKy k then 0 else 9
theorem keyCheck_t (k : Ky) (w : World) : Calls Tryz.prog 39 #[.agg #[.string k.str, .int .i64 k.sym]] w fun e w' => e = .returned (.int .i64 (keyE k)) ∧ Below w.heap.size w w' := by
  unfold keyE
  by_cases h : mayKy k
  · rw [if_pos h]; exact keyCheck_ok k.str k.sym w h
  · rw [if_neg h]; exact keyCheck_bad k.str k.sym w h
theorem mayT_or (p : Pq) : mayT p = orE (keyE p.k) (whoE p.d) := by
  unfold mayT orE keyE whoE
  by_cases h : mayKy p.k
  · rw [if_pos h, if_pos h, if_pos rfl]
  · rw [if_neg h, if_neg h, if_neg (by decide)]
theorem keyE_ok {k : Ky} : keyE k = 0 ↔ mayKy k := by
  unfold keyE
  by_cases h : mayKy k
  · rw [if_pos h]; exact ⟨fun _ => h, fun _ => rfl⟩
  · rw [if_neg h]; exact ⟨fun e => absurd e (by decide), fun e => absurd e h⟩
end Go.Proofs.YtlfbflclefndjaaGreatDoor.S
/-
  table.may.
-/
namespace Go.Proofs.YtlfbflclefndjaaGreatDoor.S
open Go.RowKit Fl
open Classical

theorem k2_load {W : World} {k : Ky} {g : Nat} (h : W.heap[g]? = some (.cells #[.string k.str, .int .i64 k.sym] 26 (0, 0))) : (Instr.loadAt 26 (.pointer (some ⟨g, 0, none⟩))).run Tryz.prog W = .ok (.agg #[.string k.str, .int .i64 k.sym]) W :=
  run_loadAt_at (A := ⟨g, 0, none⟩) (cs := [.string k.str, .int .i64 k.sym]) (fun j v hv => by
    rw [Addr.add_mid, Nat.zero_add, vcells h j]
    simpa using hv) Tryz.underlying26 rfl ksz
theorem d2_load {W : World} {d : Dq} {g : Nat} (h : W.heap[g]? = some (.cells d.cells 41 (0, 0))) : (Instr.loadAt 41 (.pointer (some ⟨g, 0, none⟩))).run Tryz.prog W = .ok (.agg d.cells) W :=
  run_loadAt_at (A := ⟨g, 0, none⟩) (cs := d.cells.toList) (fun j v hv => by
    rw [Addr.add_mid, Nat.zero_add, vcells h j]
    simpa using hv) Tryz.underlying41 rfl dsz
/-- what may, and Put, hold on to while they ask -/
structure Hm (w : World) (k : Ky) (d : Dq) (W : World) : Prop where
  below : Below w.heap.size w W
  k : W.heap[w.heap.size]? = some (.cells #[.string k.str, .int .i64 k.sym] 26 (0, 0))
  d : W.heap[w.heap.size + 1]? = some (.cells d.cells 41 (0, 0))
theorem Hm.up {w W W' : World} {k : Ky} {d : Dq} (h : Hm w k d W) (hb : Below W.heap.size W W') : Hm w k d W' := ⟨vb h.below hb, vblkn hb h.k, vblkn hb h.d⟩
theorem Hm.drew {w W : World} {k : Ky} {d : Dq} (h : Hm w k d W) : Hm w k d W.drew := ⟨h.below.drew, h.k, h.d⟩
theorem hm_start (w : World) (k : Ky) (d : Dq) : Hm w k d ((w.alloc (.cells #[.string k.str, .int .i64 k.sym] 26)).alloc (.cells d.cells 41)) :=
  ⟨vafter (vzero _ _), (vblk2 (Below.refl _ _)).1, (vblk2 (Below.refl _ _)).2⟩
theorem ex_load_at {a : Act} {o : Oper} {w : World} {x : Operand} {ty : TypeId} {A : Addr} {v : Value} (h : (Instr.loadAt ty (.pointer (some A))).run Tryz.prog w = .ok v w) (ho : o.op = .load ty x) (hx : a.eval x = .pointer (some A)) : (execOp a.eval o).run Tryz.prog w = .ok (.value v) w := by
  unfold execOp
  simp only [ho, hx, h, Sem.run_bind, Sem.run_pure, Result.andThen_ok]
theorem orS_new (w : World) (x y : Int) : (w.alloc (.cells #[.int .i64 x, .int .i64 y] 30)).cell? ⟨w.heap.size, 0, none⟩ = some (.int .i64 x) ∧ (w.alloc (.cells #[.int .i64 x, .int .i64 y] 30)).cell? ⟨w.heap.size, 1, none⟩ = some (.int .i64 y) :=
  ⟨vcells (heap_alloc_new w _) 0, vcells (heap_alloc_new w _) 1⟩
set_option maxRecDepth 100000 in
theorem may_t {p : Pq} (hp : p.In) (w : World) : Calls Tryz.prog 55 #[.agg #[.string p.k.str, .int .i64 p.k.sym], .agg p.d.cells] w fun e w' => e = .returned (.int .i64 (mayT p)) ∧ Below w.heap.size w w' := by
  rw [mayT_or]
  have H0 := (hm_start w p.k p.d).drew
  have kC := fun W => keyCheck_t p.k W
  have wC := fun W => whole_t hp.2 W
  generalize keyE p.k = x at *
  generalize whoE p.d = y at *
  have hS := H0
  clear H0
  go_enter Tryz.func55, Tryz.ntmps55
  go_upto_region 1 with (fail)
  refine wp_region_held_drew (S := Hm w p.k p.d) (by kernel_rfl) hS (fun hHeld => ?_)
  refine hH_take (i := 0) (v := .agg #[.string p.k.str, .int .i64 p.k.sym]) (d := 5) (l2 := #[true, false, false, false, false, false, false]) rfl (by kernel_rfl) (by kernel_rfl) (by kernel_rfl) (fun _ _ _ h => h) (by kernel_rfl) (fun w hSw => ?_) (by assumption) rfl (by kernel_rfl) ?_
  · exact ex_load_at (k2_load hSw.k) rfl rfl
  simp only [List.set]
  refine hH_take (i := 2) (v := .agg p.d.cells) (d := 7) (l2 := #[true, false, true, false, false, false, false]) rfl (by kernel_rfl) (by kernel_rfl) (by kernel_rfl) (fun _ _ _ h => h) (by kernel_rfl) (fun w hSw => ?_) (by assumption) rfl (by kernel_rfl) ?_
  · exact ex_load_at (d2_load hSw.d) rfl rfl
  simp only [List.set]
  refine wpAnyH_ready (rs := [1]) (by kernel_rfl) (by simp) ?_
  refine AllReadyH.cons rfl (fun K hK => ?_) AllReadyH.nil
  go_simp
  go_at_call 39
  (with_reducible refine (kC _).mono ?_)
  rintro e w1 ⟨rfl, h1⟩
  have hS := hS.up h1
  clear h1
  refine hK.out _ _ hS (fun hHeld => ?_)
  clear hK K
  refine wpAnyH_ready (rs := [3]) (by kernel_rfl) (by simp) ?_
  refine AllReadyH.cons rfl (fun K hK => ?_) AllReadyH.nil
  go_simp
  go_at_call 77
  (with_reducible refine (wC _).mono ?_)
  rintro e w1 ⟨rfl, h1⟩
  have hS := hS.up h1
  clear h1
  refine hK.out _ _ hS (fun hHeld => ?_)
  clear hK K
  refine wpAnyH_ready (rs := [4]) (by kernel_rfl) (by simp) ?_
  refine AllReadyH.cons rfl (fun K hK => ?_) AllReadyH.nil
  go_simp
  have hS := hS.up (vzero _ (.cells #[.int .i64 x, .int .i64 y] 30))
  have hO := orS_new w1 x y
  refine hK.out _ _ hS (fun hHeld => ?_)
  clear hK K
  refine wpAnyH_ready (rs := [5]) (by kernel_rfl) (by simp) ?_
  refine AllReadyH.cons rfl (fun K hK => ?_) AllReadyH.nil
  go_simp
  go_at_call 20
  (with_reducible refine (Or_2 _ x y _ hO.1 hO.2).mono ?_)
  rintro e w2 ⟨rfl, rfl⟩
  refine hK.out _ _ hS (fun hHeld => ?_)
  clear hK K
  refine hH_take (i := 6) (v := .int .i64 (orE x y)) (d := 4) (l2 := #[true, true, true, true, true, true, true]) rfl (by kernel_rfl) (by kernel_rfl) (by kernel_rfl) (fun _ _ _ h => h) (by kernel_rfl) (fun w hSw => ?_) (by assumption) rfl (by kernel_rfl) ?_
  · go_simp
  simp only [List.set]
  refine wpAnyH_done (by kernel_rfl) ?_ _
  go_wp2
  go_ret
  exact ⟨rfl, hS.below⟩
end Go.Proofs.YtlfbflclefndjaaGreatDoor.S
/-
  table.cut: what stands ahead of a key's property, and behind it.
-/
namespace Go.Proofs.YtlfbflclefndjaaGreatDoor.S
open Go.RowKit Fl
open Classical

theorem cut_hit {L : List Pq} {k : Ky} {i : Nat} (hi : i < L.length) (h : cutN L k = i + cutN (L.drop i) k) (e : L[i].k = k) : cutN L k = i := by
  rw [h, List.drop_eq_getElem_cons hi]
  unfold cutN
  rw [eqK_iff.2 e]; rfl
theorem cut_miss {L : List Pq} {k : Ky} {i : Nat} (hi : i < L.length) (h : cutN L k = i + cutN (L.drop i) k) (e : L[i].k ≠ k) : cutN L k = i + 1 + cutN (L.drop (i + 1)) k := by
  rw [h, List.drop_eq_getElem_cons hi]
  show i + (bif eqK L[i].k k then 0 else cutN (L.drop (i + 1)) k + 1) = _
  rw [eqK_no e]
  show i + (cutN (L.drop (i + 1)) k + 1) = _
  omega
theorem cut_end {L : List Pq} {k : Ky} (h : cutN L k = L.length + cutN (L.drop L.length) k) : cutN L k = L.length := by
  rw [List.drop_length] at h; exact h
/-- a slice of properties -/
structure Sl (w : World) (v : Value) (L : List Pq) (c : Nat) : Prop where
  out : ∃ A, v = .slice A L.length c ∧ PR w A L ∧ (A = none → c = 0)
theorem pr_nil {w : World} {A : Option Addr} : PR w A [] := fun h => absurd h (Nat.lt_irrefl _)
theorem pr_take {w : World} {A : Option Addr} {L : List Pq} (h : PR w A L) (n : Nat) : PR w A (L.take n) := fun hp => by
  obtain ⟨a, h1, h2, h3⟩ := h (by rw [List.length_take] at hp; omega)
  refine ⟨a, h1, h2, fun i hi j u hu => ?_⟩
  have hi2 : i < L.length := by rw [List.length_take] at hi; omega
  refine h3 i hi2 j u ?_
  rw [← hu, List.getElem_take]
theorem pr_drop {w : World} {a : Addr} {L : List Pq} (h : PR w (some a) L) (n : Nat) : PR w (some (a.add (n * 18))) (L.drop n) := fun hp => by
  have hn : n < L.length := by rw [List.length_drop] at hp; omega
  obtain ⟨b, h1, h2, h3⟩ := h (by omega)
  obtain rfl := Option.some.inj h1
  refine ⟨_, rfl, by rw [add_blk]; exact h2, fun i hi j u hu => ?_⟩
  rw [add_add, show n * 18 + (i * 18 + j) = (n + i) * 18 + j by omega]
  refine h3 (n + i) (by rw [List.length_drop] at hi; omega) j u ?_
  rw [← hu, List.getElem_drop]
theorem tdrewN {B : Nat} {w0 w : World} (h : Below B w0 w) (n : Nat) : Below B w0 (w.drewN n) := ⟨h.os, h.tape, h.output, h.size, h.block⟩
def CutTo (L : List Pq) (k : Ky) (w : World) (e : Ending) (w' : World) : Prop := ∃ A1 A2 c2, e = .returned (.tuple #[.slice A1 (cutN L k) (cutN L k), .slice A2 (L.length - (cutN L k + 1)) c2]) ∧ PR w A1 (L.take (cutN L k)) ∧ PR w A2 (L.drop (cutN L k + 1)) ∧ Below w.heap.size w w' ∧ (A2 = none → c2 = 0)
set_option maxHeartbeats 2000000 in
set_option maxRecDepth 100000 in
theorem cut_t (A : Option Addr) (L : List Pq) (cap : Nat) (k : Ky) (w : World) (hl : L.length < 1000000000000) (hcap : L.length ≤ cap) (hc63 : cap < 9223372036854775808) (hL : PR w A L) (hA : A = none → cap = 0) : Calls Tryz.prog 93 #[.slice A L.length cap, .agg #[.string k.str, .int .i64 k.sym]] w (CutTo L k w) := by
  go_enter Tryz.func93, Tryz.ntmps93
  go_wp2
  go_loopg [10] L.length (fun kx s10 wr => ∃ i : Nat, s10 = .int .i64 i ∧ i + kx = L.length ∧ Hid (cutN L k = i + cutN (L.drop i) k ∧ Below w.heap.size w wr ∧ wr.heap[w.heap.size]? = some (.cells #[.string k.str, .int .i64 k.sym] 26 (0, 0))))
  case atStart => exact ⟨0, rfl, by omega, Lib.hid ⟨by simp, vzero _ _, heap_alloc_new w _⟩⟩
  case round =>
    obtain ⟨i, rfl, hik, H⟩ := hrel
    cases gk with
    | zero =>
      obtain rfl : i = L.length := by omega
      have hn := cut_end H.out.1
      cases A with
      | none =>
        obtain rfl := hA rfl
        have hL0 : L = [] := List.length_eq_zero_iff.1 (by omega)
        subst hL0
        go_wp2
        go_ret2
        exact ⟨none, none, 0, rfl, pr_nil, pr_nil, H.out.2.1, fun _ => rfl⟩
      | some a =>
        go_wp2
        go_ret2
        refine ⟨some a, none, 0, ?_, ?_, ?_, H.out.2.1, fun _ => rfl⟩
        · rw [hn]; simp
        · rw [hn, List.take_length]; exact hL
        · rw [hn, List.drop_eq_nil_of_le (Nat.le_succ _)]; exact pr_nil
    | succ kx =>
      have hlt : i < L.length := by omega
      have hlz : (i : Int) < (L.length : Int) := by omega
      obtain ⟨a, rfl, hab, hrow⟩ := pr_up hL H.out.2.1 (by omega)
      have hc : ∀ j u, (pcl L[i])[j]? = some u → wr.cell? ((a.add (i * 18)).add j) = some u := fun j u hu => by rw [add_add]; exact hrow i hlt j u hu
      have hhit := cut_hit hlt H.out.1
      have hmiss := cut_miss hlt H.out.1
      have b1 := H.out.2.2
      have q1 := lt_blk b1
      have HB := Lib.hid H.out.2.1
      have HHM := Lib.hid (And.intro hhit hmiss)
      have qe := key_eq 9998 L[i].k.str k.str L[i].k.sym k.sym
      rw [show (L[i].k.str == k.str && L[i].k.sym == k.sym) = eqK L[i].k k from rfl] at qe
      obtain ⟨P, hP⟩ : ∃ P, P = L[i] := ⟨_, rfl⟩
      rw [← hP] at qe hc
      have HP := Lib.hid hP
      have hi1 : (Tryz.prog.info? 68).map (·.size) = some (prA P).size := psz
      clear hrow hhit hmiss hP
      by_cases he : P.k = k
      · rw [eqK_iff.2 he] at qe
        go_wp2_with (first
          | ((with_reducible refine p_load ?_ rfl rfl hc ?_); (rfl))
          | ((with_reducible refine t_store rfl rfl rfl rfl (heap_alloc_new _ _) hi1 ?_ (prA_one P) (vzero wr _) (Nat.le_refl _) ?_); (rfl); intro W hBW hW hO hz2; have b2 := ((hO _ (Nat.ne_of_lt q1)).trans (heap_alloc_old _ _ q1)).trans b1; obtain ⟨k0, k1, kf⟩ := kc2 b2)
          | ((with_reducible refine pk_load ?_ rfl rfl hW ?_); (rfl)))
        have HB2 := Lib.hid (vb HB.out hBW)
        have hw1 : wrap64 ((i : Int) + 1) = (i : Int) + 1 := by unfold wrap64; omega
        have n0 : (0 : Int) ≤ (i : Int) := by omega
        have n1 : (0 : Int) ≤ (i : Int) + 1 := by omega
        have n2 : (i : Int) + 1 ≤ (L.length : Int) := by omega
        have n3 : (L.length : Int) ≤ (cap : Int) := by omega
        have n4 : ((i : Int) + 1).toNat = i + 1 := by omega
        clear hc hW hO b1 b2 k0 k1 kf qe
        go_quiet (fail)
        all_goals go_wp2
        · go_ret2
          have hn := HHM.out.1 (by rw [← HP.out]; exact he)
          refine ⟨some a, some a, 0, ?_, pr_take hL _, ?_, tdrewN HB2.out nq, fun h => by cases h⟩
          · rw [hn]; rfl
          · rw [hn, List.drop_eq_nil_of_le (by omega)]; exact pr_nil
        · go_ret2
          have hn := HHM.out.1 (by rw [← HP.out]; exact he)
          refine ⟨some a, some (a.add ((i + 1) * 18)), cap - (i + 1), ?_, pr_take hL _, ?_, tdrewN HB2.out nq, fun h => by cases h⟩
          · rw [hn]; rfl
          · rw [hn]; exact pr_drop hL _
      · rw [eqK_no he] at qe
        go_wp2_with (first
          | ((with_reducible refine p_load ?_ rfl rfl hc ?_); (rfl))
          | ((with_reducible refine t_store rfl rfl rfl rfl (heap_alloc_new _ _) hi1 ?_ (prA_one P) (vzero wr _) (Nat.le_refl _) ?_); (rfl); intro W hBW hW hO hz2; have b2 := ((hO _ (Nat.ne_of_lt q1)).trans (heap_alloc_old _ _ q1)).trans b1; obtain ⟨k0, k1, kf⟩ := kc2 b2)
          | ((with_reducible refine pk_load ?_ rfl rfl hW ?_); (rfl)))
        go_roundg kx
        case measure => omega
        case rel => exact ⟨i + 1, by congr 1, by omega, Lib.hid ⟨HHM.out.2 (by rw [← HP.out]; exact he), vb HB.out hBW, b2⟩⟩
end Go.Proofs.YtlfbflclefndjaaGreatDoor.S
/-
  Rows of properties of a call's own: appends, slices.Grow, slices.Concat.
-/
namespace Go.Proofs.YtlfbflclefndjaaGreatDoor.S
open Go.RowKit Fl
open Classical

def prCells (L : List Pq) : List Value := L.flatMap pcl
theorem prCells_len (L : List Pq) : (prCells L).length = L.length * 18 := by
  induction L with
  | nil => rfl
  | cons p L ih => show (pcl p ++ prCells L).length = _; rw [List.length_append, ih, pcl_len]; simp; omega
theorem prCells_app (L M : List Pq) : prCells (L ++ M) = prCells L ++ prCells M := List.flatMap_append
theorem prCells_at : ∀ (L : List Pq) (i : Nat) (h : i < L.length) (j : Nat), j < 18 → (prCells L)[i * 18 + j]? = (pcl L[i])[j]?
  | [], _, h, _, _ => by simp at h
  | p :: L, 0, _, j, hj => by
    show (pcl p ++ prCells L)[0 * 18 + j]? = (pcl p)[j]?
    rw [Nat.zero_mul, Nat.zero_add, List.getElem?_append_left (by rw [pcl_len]; exact hj)]
  | p :: L, i + 1, h, j, hj => by
    show (pcl p ++ prCells L)[(i + 1) * 18 + j]? = (pcl (L[i]'(by simpa using h)))[j]?
    rw [List.getElem?_append_right (by rw [pcl_len]; omega), pcl_len, show (i + 1) * 18 + j - 18 = i * 18 + j by omega]
    exact prCells_at L i (by simpa using h) j hj
theorem pcl_one (p : Pq) : ∀ u ∈ pcl p, u.oneCell' = true := List.all_eq_true.1 (rfl : (pcl p).all (·.oneCell') = true)
theorem prCells_one (L : List Pq) : ∀ u ∈ prCells L, u.oneCell' = true := fun u hu => by
  obtain ⟨p, _, hp⟩ := List.mem_flatMap.1 hu
  exact pcl_one p u hp
theorem pr_cells {w : World} {a : Addr} {L : List Pq} (h : PR w (some a) L) (j : Nat) (u : Value) (hj : (prCells L)[j]? = some u) : w.cell? (a.add j) = some u := by
  have hlt : j < (prCells L).length := (List.getElem?_eq_some_iff.1 hj).1
  rw [prCells_len] at hlt
  obtain ⟨b, hb, _, hc⟩ := h (by omega)
  obtain rfl := Option.some.inj hb
  have hi : j / 18 < L.length := by omega
  have e := prCells_at L (j / 18) hi (j % 18) (by omega)
  rw [show j / 18 * 18 + j % 18 = j by omega] at e
  have := hc (j / 18) hi (j % 18) u (by rw [← e]; exact hj)
  rw [show j / 18 * 18 + j % 18 = j by omega] at this
  exact this
/-- what a function hands out: properties in a slice -/
structure OutS (w : World) (v : Value) (M : List Pq) : Prop where
  out : ∃ A c, v = .slice A M.length c ∧ PR w A M ∧ M.length ≤ c ∧ c ≤ maxLen ∧ (A = none → c = 0)
  blk : ∀ a n c, v = .slice (some a) n c → ∃ cs, w.heap[a.block]? = some (.cells cs 68 (0, 0))
theorem own_out {w : World} {B : Nat} {v : Value} {M : List Pq} (h : w.ownsRow B 68 18 v M.length (prCells M)) : OutS w v M := by
  obtain ⟨h1, h2⟩ := h
  rcases h2 with ⟨rfl, h0⟩ | ⟨g, cap, cur, rfl, hB, hg, hn, hc, hs, ht⟩
  · have : M = [] := List.length_eq_zero_iff.1 h0
    subst this
    exact ⟨⟨none, 0, rfl, pr_nil, Nat.le_refl _, Nat.zero_le _, fun _ => rfl⟩, fun _ _ _ h => by cases h⟩
  · refine ⟨⟨some ⟨g, 0, none⟩, cap, rfl, fun _ => ⟨_, rfl, lt_blk hg, fun i hi j u hu => ?_⟩, hn, hc, fun h => by cases h⟩, fun _ _ _ h => by cases h; exact ⟨cur, hg⟩⟩
    have hj : j < 18 := by have := (List.getElem?_eq_some_iff.1 hu).1; rw [pcl_len] at this; exact this
    rw [← prCells_at M i hi j hj, ← ht, List.getElem?_take] at hu
    rw [Addr.add_mid, Nat.zero_add, vcells hg]
    split at hu
    · simpa using hu
    · cases hu
def p0 : Pq := ⟨⟨⟨#[]⟩, 0⟩, dz 0⟩
theorem prop_info : (Tryz.prog.info? 68).map (fun i => (i.zero, i.size, i.bytes)) = some (some (.agg (prA p0)), 18, 160) := by kernel_rfl
section
variable {ops : Array Oper} {rest : List Oper} {o : Oper} {a : Act} {Q : Exit → Act → World → Prop}
/-- properties of somewhere else, put behind a row of the call's own -/
theorem pr_append {w : World} {B n : Nat} {v : Value} {xs : List Value} {A : Option Addr} {m c : Nat} {L : List Pq} (hgd : o.guard = none) (s x : Operand) (ho : o.op = .call { callee := .builtin .append, args := #[s, x], argTypes := #[35, 35] })
    (hs : a.eval s = v) (hown : w.ownsRow B 68 18 v n xs) (hx : a.eval x = .slice A m c) (hm : m = L.length) (hr : PR w A L) (hA : A = none → c = 0) (hl : n + L.length ≤ 70000) (hB : B ≤ w.heap.size)
    (kk : ∀ v' w', w'.ownsRow B 68 18 v' (n + L.length) (xs ++ prCells L) → w.grownBy w' v.ownBlock → wpList Tryz.prog ops Q rest (a.put o.dst v') w') : wpList Tryz.prog ops Q (o :: rest) a w := by
  obtain ⟨i0, hi, hz0, hz1, hz2⟩ := info_parts prop_info
  cases A with
  | none =>
    obtain rfl := hA rfl
    have hL : L = [] := by
      cases L with
      | nil => rfl
      | cons p L => obtain ⟨b, hb, _⟩ := hr (by simp); cases hb
    subst hL
    subst hm
    refine wpList_append_own_none hgd s x 35 ho B 68 i0 18 Tryz.underlying35 hi v n xs hs hown hx ?_
    exact kk v w (by simpa [prCells] using hown) ⟨rfl, rfl, rfl, Nat.le_refl _, fun _ _ _ => rfl⟩
  | some b =>
    subst hm
    exact wpList_append_own w hgd s x 35 ho B 68 i0 (.agg (prA p0)) 18 160 Tryz.underlying35 hi hz0 hz1 hz2 rfl (by decide) v n xs hs hown b L.length c (prCells L) hx (prCells_len L)
      (fun j u hu => pr_cells hr j u hu) (prCells_one L) (by unfold maxLen; omega) (by omega) hB fun v' w' h1 h2 _ => kk v' w' h1 h2
/-- one property put behind properties of somewhere else that leave no room -/
theorem pr_one {w : World} {A : Option Addr} {n : Nat} {M : List Pq} {p : Pq} {g : Nat} (hgd : o.guard = none) (s x : Operand) (ho : o.op = .call { callee := .builtin .append, args := #[s, x], argTypes := #[35, 35] })
    (hs : a.eval s = .slice A n n) (hn : n = M.length) (hr : PR w A M) (hx : a.eval x = .slice (some ⟨g, 0, none⟩) 1 1) (hg : w.heap[g]? = some (.cells (prA p) 68 (0, 0))) (hl : n ≤ 70000)
    (kk : ∀ v' w', w'.ownsRow w.heap.size 68 18 v' (M.length + 1) (prCells (M ++ [p])) → Below w.heap.size w w' → wpList Tryz.prog ops Q rest (a.put o.dst v') w') : wpList Tryz.prog ops Q (o :: rest) a w := by
  obtain ⟨i0, hi, hz0, hz1, hz2⟩ := info_parts prop_info
  subst hn
  have hsz : ∀ w : World, w.drew.heap.size = w.heap.size := fun _ => rfl
  have hold : (Builtin.firstCells i0.size M.length (.slice A M.length M.length)).run Tryz.prog w.drew = .ok (prCells M).toArray w.drew := by
    rw [hz1]
    cases A with
    | none =>
      have hM : M = [] := by
        cases M with
        | nil => rfl
        | cons p L => obtain ⟨b, hb, _⟩ := hr (by simp); cases hb
      subst hM
      exact run_firstCells_none w.drew 18 0 0 0
    | some b => exact run_firstCells_some w.drew 18 M.length b M.length M.length (prCells M) (prCells_len M) (fun j v hj => pr_cells hr j v hj)
  have hsrc : Src Tryz.prog i0.size 35 (.slice (some ⟨g, 0, none⟩) 1 1) 1 (pcl p) w := by
    rw [hz1]
    exact Src.ofSlice w Tryz.underlying35 ⟨g, 0, none⟩ 1 1 (pcl p) rfl (fun j u hu => by rw [Addr.add_mid, Nat.zero_add]; exact pb_cells hg j u hu) (pcl_one p)
  have hfit : Builtin.nextslicecap (M.length + 1) M.length * i0.bytes ≤ 281474976710656 := growslice_fits (by omega) (by rw [hz2]; omega)
  have hrun := fun ty => run_append_grow_src w 35 35 ty 68 i0 (.agg (prA p0)) Tryz.underlying35 hi hz0 A M.length M.length (prCells M) hold (.slice (some ⟨g, 0, none⟩) 1 1) 1 (pcl p) hsrc (by omega) (by omega) hfit
  refine Lib.wpList_append_run w hgd s x 35 35 ho _ _ hs hx _ _ (hrun o.type) (kk _ _ ?_ ?_)
  · have hG := grownCap_ge w (M.length + 1) M.length 68
    have hG2 := grownCap_le_maxLen w (M.length + 1) M.length 68 (by unfold maxLen; omega)
    refine ⟨by rw [prCells_len]; simp, .inr ⟨w.heap.size, _, _, rfl, Nat.le_refl _, heap_alloc_new w.drew _, hG, hG2, ?_, ?_⟩⟩
    · rw [Array.size_append, size_zeroCells, List.size_toArray, List.length_append, prCells_len, pcl_len]
      show M.length * 18 + 18 + _ * 18 = _
      omega
    · rw [Array.toList_append, List.toList_toArray, prCells_app]
      show List.take ((M.length + 1) * 18) ((prCells M ++ pcl p) ++ _) = prCells M ++ (pcl p ++ [])
      rw [List.append_nil, List.take_append_of_le_length (by rw [List.length_append, prCells_len, pcl_len]; omega), List.take_of_length_le (by rw [List.length_append, prCells_len, pcl_len]; omega)]
  · exact (Below.refl w.heap.size w).drew.alloc (Nat.le_refl _) _
end
end Go.Proofs.YtlfbflclefndjaaGreatDoor.S
/-
  Keys as the keys of a map: the set of the keys seen so far.
-/
namespace Go.Proofs.YtlfbflclefndjaaGreatDoor.S
open Go.RowKit Go.Maps Fl

theorem tlaid : laidOutB Tryz.prog = true := by kernel_rfl
theorem kwide : (match Tryz.prog.underlying 26 with | some (.array _ _) | some (.struct _) => true | _ => false) = true := by kernel_rfl
set_option maxRecDepth 100000 in
theorem klaw : Keyed Tryz.prog 26 := Keyed.of_law (deep_law_laid tlaid (m := 2) (by omega) (of_decide_eq_true (by kernel_rfl)) (by kernel_rfl) kwide)
def klit (k : Ky) : Lit := .string (keyBytes [.string k.str.data.toList, .int .i64 k.sym])
def kval (k : Ky) : Value := .agg #[.string k.str, .int .i64 k.sym]
theorem twf {n : Int} (h : -2 ^ 63 ≤ n ∧ n < 2 ^ 63) : (Lit.int .i64 n).wf = true := by
  show (decide (IntKind.i64.min ≤ n) && decide (n ≤ IntKind.i64.max)) = true
  rw [show IntKind.i64.min = -9223372036854775808 by decide, show IntKind.i64.max = 9223372036854775807 by decide]
  simp; omega
set_option maxRecDepth 100000 in
theorem klits {n : Nat} {k : Ky} (h : KyIn k) : Tryz.prog.keyLits (n + 2) 26 [.string k.str, .int .i64 k.sym] = some [.string k.str.data.toList, .int .i64 k.sym] := by
  have e3 : Tryz.prog.cellsOf 3 = 1 := by kernel_rfl
  have e9 : Tryz.prog.cellsOf 9 = 1 := by kernel_rfl
  have ek : Tryz.prog.cellsOf 26 = 2 := by kernel_rfl
  have h0 : Tryz.prog.keyLits (n + 1) 9 [.string k.str] = some [.string k.str.data.toList] := by
    unfold Program.keyLits
    simp only [Tryz.underlying9]
    rw [if_pos h.1]
  have h1 : Tryz.prog.keyLits (n + 1) 3 [.int .i64 k.sym] = some [.int .i64 k.sym] := by
    unfold Program.keyLits
    simp only [Tryz.underlying3]
    rw [if_pos ⟨trivial, twf h.2⟩]
  unfold Program.keyLits
  simp only [Tryz.underlying26]
  rw [if_pos ⟨by rw [ek]; rfl, by kernel_rfl⟩]
  simp [e3, e9, h0, h1]
set_option maxRecDepth 100000 in
theorem key_of {k : Ky} (h : KyIn k) : keyOf Tryz.prog 26 (kval k) = some (klit k) := by
  have h1 : Tryz.prog.keyType 26 = true := by kernel_rfl
  have h2 : (kval k).formed Tryz.prog 26 = true := by
    show (match Tryz.prog.underlying 26 with | some (.struct _) | some (.array _ _) => (2 : Nat) == Tryz.prog.cellsOf 26 | _ => false) = true
    kernel_rfl
  have h3 : Tryz.prog.keyLits (Tryz.prog.types.size + 1) 26 (kval k).cells.toList = some [.string k.str.data.toList, .int .i64 k.sym] := by
    obtain ⟨n, hn⟩ : ∃ n, Tryz.prog.types.size = n + 1 := ⟨Tryz.prog.types.size - 1, by have : 0 < Tryz.prog.types.size := of_decide_eq_true (by kernel_rfl); omega⟩
    rw [hn]
    exact klits h
  unfold keyOf
  simp only [Tryz.underlying26, h1, h2, Bool.and_self, if_true, h3]
  rfl
theorem klit_inj {a b : Ky} (ha : KyIn a) (hb : KyIn b) (h : klit a = klit b) : a = b := by
  have := klaw.inj (key_of ha) (by rw [h]; exact key_of hb)
  unfold kval at this
  injection this with this
  cases a; cases b
  simp at this
  obtain ⟨rfl, rfl⟩ := this
  rfl
/-- the set of the keys -/
noncomputable def seenT (S : List Pq) : DataW Unit := setOf (.agg []) (S.map fun p => klit p.k)
theorem has_seen {S : List Pq} {k : Ky} (hS : ∀ p ∈ S, KyIn p.k) (hk : KyIn k) : Maps.has (seenT S) (klit k) = hasK S k := by
  unfold seenT
  rw [has_setOf _ _ _ (fun x hx => by obtain ⟨p, _, rfl⟩ := List.mem_map.1 hx; exact trivial)]
  unfold hasK
  rw [List.any_map]
  induction S with
  | nil => rfl
  | cons p S ih =>
    rw [List.any_cons, List.any_cons, ih fun q hq => hS q (List.mem_cons_of_mem _ hq)]
    congr 1
    show (klit p.k).sameKey (klit k) = eqK p.k k
    by_cases e : p.k = k
    · rw [eqK_iff.2 e, e]
      exact WideAt.sameKey_self (show WideAt.IsKeyLit (klit k) from trivial)
    · rw [eqK_no e]
      exact sameKey_ne fun he => e (klit_inj (hS p (List.mem_cons_self)) hk he)
theorem seen_snoc (S : List Pq) (p : Pq) : seenT (S ++ [p]) = (seenT S).put (klit p.k) (.agg []) := by
  unfold seenT
  rw [List.map_append, List.map_cons, List.map_nil, setOf_snoc]
/-- the map of Check -/
def Seen (w : World) (M n : Nat) (S : List Pq) : Prop := w.ownsMap Tryz.prog 26 (unitElem (H := Unit)) M n (seenT S)
theorem seen_up {w w' : World} {M n : Nat} {S : List Pq} (h : Seen w M n S) (hb : w'.heap[M]? = w.heap[M]?) : Seen w' M n S := by
  obtain ⟨es, clock, h1, h2⟩ := h
  exact ⟨es, clock, hb.trans h1, h2⟩
theorem seen_made (w : World) : Seen (w.alloc (.map #[] 0)) w.heap.size 0 [] := World.ownsMap_made _ _ _ _
theorem tzero (w : World) : (zeroValue 98).run Tryz.prog w = .ok (.agg #[]) w := by kernel_rfl
end Go.Proofs.YtlfbflclefndjaaGreatDoor.S
/-
  table.Check: any properties.
-/
namespace Go.Proofs.YtlfbflclefndjaaGreatDoor.S
open Go.RowKit Go.Maps Fl
open Classical

theorem take_snoc {L : List Pq} {i : Nat} (h : i < L.length) : L.take (i + 1) = L.take i ++ [L[i]] := by rw [List.take_add_one, List.getElem?_eq_getElem h]; rfl
theorem chk_step {L : List Pq} {i : Nat} (h : i < L.length) : chkL (L.take i) (L.drop i) = if mayT L[i] = 0 then (bif hasK (L.take i) L[i].k then 100 else chkL (L.take (i + 1)) (L.drop (i + 1))) else mayT L[i] := by
  rw [List.drop_eq_getElem_cons h, take_snoc h]; rfl
theorem tmake (n : Int) (w : World) : (Instr.makeMap 96 (some (.int .i64 n))).run Tryz.prog w = .ok (.map (some w.heap.size)) (w.alloc (.map #[] 0)) := by
  simp [Instr.makeMap, run_underlying Tryz.underlying96, asInt, asIntOf]
theorem al_blk {w : World} {o p : Obj} {g : Nat} (h : w.heap[g]? = some p) : (w.alloc o).heap[g]? = some p := (heap_alloc_old w o (lt_blk h)).trans h
theorem below_grown {w w1 w2 : World} (h : Below w.heap.size w w1) (g : w1.grownBy w2 (some w.heap.size)) : Below w.heap.size w w2 :=
  ⟨g.os.trans h.os, g.tape.trans h.tape, g.output.trans h.output, Nat.le_trans h.size g.size, fun i hi => (g.block i (Nat.lt_of_lt_of_le hi h.size) (fun e => by injection e with e; omega)).trans (h.block i hi)⟩
structure InCk (L : List Pq) (w : World) (i : Nat) (wr : World) : Prop where
  chk : chkL (L.take i) (L.drop i) = chkL [] L
  below : Below w.heap.size w wr
  seen : Seen wr w.heap.size i (L.take i)
set_option maxHeartbeats 2000000 in
set_option maxRecDepth 100000 in
theorem Check_t (A : Option Addr) (L : List Pq) (cap : Nat) (w : World) (hin : ∀ p ∈ L, p.In) (hl : L.length < 1000000000000) (hL : PR w A L) : Calls Tryz.prog 32 #[.slice A L.length cap] w fun e w' => e = .returned (.int .i64 (chkT L)) ∧ Below w.heap.size w w' := by
  unfold chkT
  by_cases h : 1024 < L.length
  · rw [if_pos h]
    have hz : (1024 : Int) < (L.length : Int) := by omega
    go_enter Tryz.func32, Tryz.ntmps32
    go_wp2
    go_ret
    exact ⟨rfl, Below.refl _ _⟩
  · rw [if_neg h]
    have hz : ¬ (1024 : Int) < (L.length : Int) := by omega
    have hmm := tmake (L.length : Int)
    have HS := Lib.hid (seen_made w)
    go_enter Tryz.func32, Tryz.ntmps32
    go_wp2
    clear hmm
    go_loopg [17] L.length (fun kx s17 wr => ∃ i : Nat, s17 = .int .i64 i ∧ i + kx = L.length ∧ Hid (InCk L w i wr))
    case atStart => exact ⟨0, rfl, by omega, Lib.hid ⟨rfl, vzero _ _, HS.out⟩⟩
    case round =>
      obtain ⟨i, rfl, hik, H⟩ := hrel
      cases gk with
      | zero =>
        obtain rfl : i = L.length := by omega
        go_wp2
        go_ret
        refine ⟨?_, H.out.below⟩
        rw [← H.out.chk, List.drop_length]; rfl
      | succ kx =>
        have hlt : i < L.length := by omega
        have hlz : (i : Int) < (L.length : Int) := by omega
        have hstep := (chk_step hlt).symm.trans H.out.chk
        obtain ⟨a, rfl, hab, hrow⟩ := pr_up hL H.out.below (by omega)
        have hc : ∀ j u, (pcl L[i])[j]? = some u → wr.cell? ((a.add (i * 18)).add j) = some u := fun j u hu => by rw [add_add]; exact hrow i hlt j u hu
        have hSi : ∀ p ∈ L.take i, KyIn p.k := fun p hp => (hin p (List.mem_of_mem_take hp)).1
        have hpi := hin L[i] (List.getElem_mem hlt)
        have hhas := has_seen hSi hpi.1
        have hkey := key_of hpi.1
        have hnext := seen_snoc (L.take i) L[i]
        rw [← take_snoc hlt] at hnext
        have mC := fun W => may_t hpi W
        have HM := Lib.hid H.out.seen.lt
        obtain ⟨P, hP⟩ : ∃ P, P = L[i] := ⟨_, rfl⟩
        rw [← hP] at hstep hc hhas hkey hnext mC hpi
        have HP := Lib.hid hP
        have HST := Lib.hid hstep
        have HNX := Lib.hid hnext
        have HB := Lib.hid H.out.below
        have HSN := Lib.hid H.out.seen
        clear hP hrow hSi hstep hnext
        have hi1 : (Tryz.prog.info? 68).map (·.size) = some (prA P).size := psz
        by_cases h0 : mayT P = 0
        · rw [h0] at mC
          cases hk : hasK (L.take i) P.k with
          | true =>
            rw [hk] at hhas
            go_wp2_with (first
              | ((with_reducible refine p_load ?_ rfl rfl hc ?_); (rfl))
              | ((with_reducible refine t_store rfl rfl rfl rfl (heap_alloc_new _ _) hi1 ?_ (prA_one P) (vzero wr _) (Nat.le_refl _) ?_); (rfl); intro W hBW hW hO hz2; have HSN := Lib.hid (seen_up HSN.out ((hO _ (Nat.ne_of_lt HM.out)).trans (heap_alloc_old _ _ HM.out))); have HB := Lib.hid (vb HB.out hBW))
              | ((with_reducible refine pk_load ?_ rfl rfl hW ?_); (rfl))
              | ((with_reducible refine pd_load ?_ rfl rfl hW ?_); (rfl))
              | (go_at_call 55; (with_reducible refine (mC _).mono ?_); rintro e w1 ⟨rfl, h9⟩; have hW := vblkn h9 hW; have HSN := Lib.hid (seen_up HSN.out (h9.block _ HSN.out.lt)); have HB := Lib.hid (vb HB.out h9); clear h9)
              | (at_lookup; refine wpList_lookup_own_unit _ rfl _ _ 96 rfl 26 98 klaw Tryz.underlying96 (tzero _) w.heap.size i _ rfl HSN.out _ _ rfl hkey ?_))
            go_ret
            refine ⟨?_, HB.out.alloc HB.out.size _⟩
            rw [← HST.out, if_pos h0, hk]; rfl
          | false =>
            rw [hk] at hhas
            go_wp2_with (first
              | ((with_reducible refine p_load ?_ rfl rfl hc ?_); (rfl))
              | ((with_reducible refine t_store rfl rfl rfl rfl (heap_alloc_new _ _) hi1 ?_ (prA_one P) (vzero wr _) (Nat.le_refl _) ?_); (rfl); intro W hBW hW hO hz2; have HSN := Lib.hid (seen_up HSN.out ((hO _ (Nat.ne_of_lt HM.out)).trans (heap_alloc_old _ _ HM.out))); have HB := Lib.hid (vb HB.out hBW))
              | ((with_reducible refine pk_load ?_ rfl rfl hW ?_); (rfl))
              | ((with_reducible refine pd_load ?_ rfl rfl hW ?_); (rfl))
              | (go_at_call 55; (with_reducible refine (mC _).mono ?_); rintro e w1 ⟨rfl, h9⟩; have hW := vblkn h9 hW; have HSN := Lib.hid (seen_up HSN.out (h9.block _ HSN.out.lt)); have HB := Lib.hid (vb HB.out h9); clear h9)
              | (at_lookup; refine wpList_lookup_own_unit _ rfl _ _ 96 rfl 26 98 klaw Tryz.underlying96 (tzero _) w.heap.size i _ rfl HSN.out _ _ rfl hkey ?_)
              | ((with_reducible refine pk_load ?_ rfl rfl (al_blk hW) ?_); (rfl))
              | (at_mapUpdate; refine wpList_mapUpdate_own _ rfl _ _ _ 96 rfl 26 98 klaw Tryz.underlying96 (unitElem (H := Unit)) w.heap.size i _ rfl (HSN.out.alloc _) (by unfold maxLen; omega) _ _ _ rfl rfl hkey _ [] unitElem_mk ?_; intro w2 hown2 hgrow2))
            have hb2 := below_grown (HB.out.alloc HB.out.size _) hgrow2
            go_roundg kx
            case measure => omega
            case rel => exact ⟨i + 1, by congr 1, by omega, Lib.hid ⟨by rw [← HST.out, if_pos h0, hk]; rfl, hb2, by rw [Seen, HNX.out]; exact hown2⟩⟩
        · go_wp2_with (first
              | ((with_reducible refine p_load ?_ rfl rfl hc ?_); (rfl))
              | ((with_reducible refine t_store rfl rfl rfl rfl (heap_alloc_new _ _) hi1 ?_ (prA_one P) (vzero wr _) (Nat.le_refl _) ?_); (rfl); intro W hBW hW hO hz2; have HSN := Lib.hid (seen_up HSN.out ((hO _ (Nat.ne_of_lt HM.out)).trans (heap_alloc_old _ _ HM.out))); have HB := Lib.hid (vb HB.out hBW))
              | ((with_reducible refine pk_load ?_ rfl rfl hW ?_); (rfl))
              | ((with_reducible refine pd_load ?_ rfl rfl hW ?_); (rfl))
              | (go_at_call 55; (with_reducible refine (mC _).mono ?_); rintro e w1 ⟨rfl, h9⟩; have hW := vblkn h9 hW; have HSN := Lib.hid (seen_up HSN.out (h9.block _ HSN.out.lt)); have HB := Lib.hid (vb HB.out h9); clear h9)
              )
          go_ret
          refine ⟨?_, HB.out⟩
          rw [← HST.out, if_neg h0]; rfl
end Go.Proofs.YtlfbflclefndjaaGreatDoor.S
/-
  slices.Grow of nothing, slices.Concat of two; table.Drop, table.Put, table.Find where the properties may be. Generated: gen_tabput.py.
-/
namespace Go.Proofs.YtlfbflclefndjaaGreatDoor.S
open Go.RowKit Go.Lib Fl
open Classical

set_option maxHeartbeats 2000000 in
set_option maxRecDepth 100000 in
theorem Grow_t (n : Nat) (hn : n ≤ 70000) (w : World) : Calls Tryz.prog 104 #[.slice none 0 0, .int .i64 n] w fun e w' => ∃ v, e = .returned v ∧ w'.ownsRow w.heap.size 68 18 v 0 [] ∧ Below w.heap.size w w' := by
  have h1 : ¬ ((n : Int) < 0) := by omega
  have h3 : wrap64 ((n : Int) - 0) = (n : Int) := by unfold wrap64; omega
  by_cases h0 : n = 0
  · subst h0
    go_enter Tryz.func104, Tryz.ntmps104
    go_wp2
    go_ret
    exact ⟨_, rfl, World.ownsRow_nil _ _ _ _, Below.refl _ _⟩
  · have h4 : (n : Int) > 0 := by omega
    obtain ⟨i0, hi, hz0, hz1, hz2⟩ := info_parts prop_info
    have hrz : ∀ ty, (Builtin.append_ #[35, 3] ty #[.slice none 0 0, .int .i64 (n : Int)]).run Tryz.prog w =
        .ok (.slice (some ⟨w.heap.size, 0, none⟩) n (grownCap w n 0 68)) (w.drew.alloc (.cells (Builtin.zeroCells (prA p0) n ++ Builtin.zeroCells (prA p0) (grownCap w n 0 68 - n)) 68)) := fun ty => by
      have h := run_append_grow_zeros w 35 3 ty 68 i0 (.agg (prA p0)) .i64 .i64 Tryz.underlying35 Tryz.underlying3 hi hz0 none 0 0 [] (run_firstCells_none w.drew i0.size 0 0 0) n (by omega) (by rw [hz1]; decide) (by omega) (by omega) (by rw [hz2]; omega)
        (growslice_fits (by omega) (by rw [hz2]; omega))
      rw [Nat.zero_add, show ([] : List Value).toArray = #[] from rfl, Array.empty_append] at h
      exact h
    have hG := grownCap_ge w n 0 68
    have hG2 := grownCap_le_maxLen w n 0 68 (by unfold maxLen; omega)
    obtain ⟨G, hGe⟩ : ∃ G, G = grownCap w n 0 68 := ⟨_, rfl⟩
    rw [← hGe] at hrz hG hG2
    have hG63 : G < 9223372036854775808 := by unfold maxLen at hG2; omega
    have hfin : (w.drew.alloc (.cells (Builtin.zeroCells (prA p0) n ++ Builtin.zeroCells (prA p0) (G - n)) 68)).ownsRow w.heap.size 68 18 (.slice (some ⟨w.heap.size, 0, none⟩) 0 G) 0 [] :=
      World.ownsRow_made (w := w.drew) _ G (Nat.le_refl _) hG2 (by rw [Array.size_append, size_zeroCells, size_zeroCells, prA_size]; omega)
    have HF := Lib.hid hfin
    clear hfin hGe hG2
    go_enter Tryz.func104, Tryz.ntmps104
    go_wp2_with (at_builtin; refine Lib.wpList_append_run _ rfl _ _ _ _ rfl _ _ rfl rfl _ _ (hrz _) ?_)
    go_ret
    exact ⟨_, rfl, HF.out, (Below.refl w.heap.size w).drew.alloc (Nat.le_refl _) _⟩
end Go.Proofs.YtlfbflclefndjaaGreatDoor.S
/-
  slices.Concat of two slices of properties.
-/
namespace Go.Proofs.YtlfbflclefndjaaGreatDoor.S
open Go.RowKit Go.Lib Fl
open Classical

theorem grown_below2 {w wr w2 : World} {v : Value} {n : Nat} {xs : List Value} (h : Below w.heap.size w wr) (ho : wr.ownsRow w.heap.size 68 18 v n xs) (g : wr.grownBy w2 v.ownBlock) : Below w.heap.size w w2 :=
  ⟨g.os.trans h.os, g.tape.trans h.tape, g.output.trans h.output, Nat.le_trans h.size g.size, fun i hi => (g.block i (Nat.lt_of_lt_of_le hi h.size) (fun e => by have := (ho.lt i e.symm).1; omega)).trans (h.block i hi)⟩
set_option maxHeartbeats 4000000 in
set_option maxRecDepth 100000 in
theorem Concat_t (g : Nat) (A1 A2 : Option Addr) (L1 L2 : List Pq) (n1 n2 c1 c2 : Nat) (w : World) (hn1 : n1 = L1.length) (hn2 : n2 = L2.length) (h0 : w.cell? ⟨g, 0, none⟩ = some (.slice A1 n1 c1)) (h1 : w.cell? ⟨g, 1, none⟩ = some (.slice A2 n2 c2)) (hg : g < w.heap.size) (r1 : PR w A1 L1) (r2 : PR w A2 L2)
    (a1 : A1 = none → c1 = 0) (a2 : A2 = none → c2 = 0) (hl : n1 + n2 ≤ 70000) :
    Calls Tryz.prog 94 #[.slice (some ⟨g, 0, none⟩) 2 2] w fun e w' => ∃ v, e = .returned v ∧ w'.ownsRow w.heap.size 68 18 v (L1 ++ L2).length (prCells (L1 ++ L2)) ∧ Below w.heap.size w w' := by
  have hz1 : ¬ ((n1 : Int) < 0) := by omega
  have hz2 : ¬ ((n1 : Int) + (n2 : Int) < 0) := by omega
  have hw1 : wrap64 ((n1 : Int)) = (n1 : Int) := by unfold wrap64; omega
  have hw2 : wrap64 ((n1 : Int) + (n2 : Int)) = (n1 : Int) + (n2 : Int) := by unfold wrap64; omega
  have HR := Lib.hid (And.intro r1 (And.intro r2 (And.intro a1 (And.intro a2 (And.intro hn1 hn2)))))
  clear r1 r2 a1 a2 hn1 hn2
  go_enter Tryz.func94, Tryz.ntmps94
  go_wp2
  go_loopg [3, 11] 2 (fun kx s3 s11 wr => ∃ i m : Nat, s11 = .int .i64 i ∧ s3 = .int .i64 m ∧ i + kx = 2 ∧ Hid ((i = 0 → m = 0) ∧ (i = 1 → m = n1) ∧ (i = 2 → m = n1 + n2)) ∧ wr = w)
  case atStart => exact ⟨0, 0, rfl, rfl, rfl, Lib.hid ⟨fun _ => rfl, fun h => absurd h (by decide), fun h => absurd h (by decide)⟩, rfl⟩
  case round =>
    obtain ⟨i, m, rfl, rfl, hik, HM, rfl⟩ := hrel
    cases gk with
    | succ kx =>
      have hi : i = 0 ∨ i = 1 := by omega
      rcases hi with rfl | rfl
      · obtain rfl := HM.out.1 rfl
        clear HM
        go_wp2
        go_roundg kx
        case measure => omega
        case rel => exact ⟨1, n1, rfl, by simp, by omega, Lib.hid ⟨fun h => absurd h (by decide), fun _ => rfl, fun h => absurd h (by decide)⟩, rfl⟩
      · obtain rfl := HM.out.2.1 rfl
        clear HM
        go_wp2
        go_roundg kx
        case measure => omega
        case rel => exact ⟨2, m + n2, rfl, by simp, by omega, Lib.hid ⟨fun h => absurd h (by decide), fun h => absurd h (by decide), fun _ => rfl⟩, rfl⟩
    | zero =>
      obtain rfl : i = 2 := by omega
      have hm := HM.out.2.2 rfl
      have G := fun W => Grow_t m (by omega) W
      clear HM
      have HMM := Lib.hid hm
      clear hm hz1 hz2 hw1 hw2
      go_wp2_with (go_at_call 104; (with_reducible refine (G _).mono ?_); rintro e w1 ⟨v0, rfl, ho, hb⟩; have HB := Lib.hid (And.intro ho hb); clear ho hb)
      clear G
      go_loopg [6, 27] 2 (fun kx s6 s27 w2 => ∃ i : Nat, s27 = .int .i64 i ∧ i + kx = 2 ∧ Hid (∃ M : List Pq, w2.ownsRow wr.heap.size 68 18 s6 M.length (prCells M) ∧ Below wr.heap.size wr w2 ∧ (i = 0 → M = []) ∧ (i = 1 → M = L1) ∧ (i = 2 → M = L1 ++ L2)))
      case atStart => exact ⟨0, rfl, rfl, Lib.hid ⟨[], HB.out.1, HB.out.2, fun _ => rfl, fun h => absurd h (by decide), fun h => absurd h (by decide)⟩⟩
      case round =>
        clear HB
        obtain ⟨i, rfl, hik, H⟩ := hrel
        cases gk with
        | succ kx =>
          have hi : i = 0 ∨ i = 1 := by omega
          obtain ⟨M, ho, hb, m0, m1, m2⟩ := H.out
          clear H
          have hc0 := (hb.cell (p := ⟨g, 0, none⟩) hg).trans h0
          have hc1 := (hb.cell (p := ⟨g, 1, none⟩) hg).trans h1
          rcases hi with rfl | rfl
          · obtain rfl := m0 rfl
            have HO := Lib.hid ho
            clear m0 m1 m2 ho
            go_wp2_with (at_builtin; refine pr_append (n := 0) (xs := []) (L := L1) rfl _ _ rfl rfl HO.out rfl HR.out.2.2.2.2.1 (pr_up HR.out.1 hb) HR.out.2.2.1 (by have := HR.out.2.2.2.2.1; omega) hb.size ?_; intro v' w3 hown' hgrow; have HO' := Lib.hid (And.intro hown' (grown_below2 hb HO.out hgrow)); clear hown' hgrow)
            go_roundg kx
            case measure => omega
            case rel => exact ⟨1, rfl, by omega, Lib.hid ⟨L1, by have := HO'.out.1; simpa using this, HO'.out.2, fun h => absurd h (by decide), fun _ => rfl, fun h => absurd h (by decide)⟩⟩
          · obtain rfl := m1 rfl
            have HO := Lib.hid ho
            clear m0 m1 m2 ho
            go_wp2_with (at_builtin; refine pr_append (n := M.length) (xs := prCells M) (L := L2) rfl _ _ rfl rfl HO.out rfl HR.out.2.2.2.2.2 (pr_up HR.out.2.1 hb) HR.out.2.2.2.1 (by have := HR.out.2.2.2.2; omega) hb.size ?_; intro v' w3 hown' hgrow; have HO' := Lib.hid (And.intro hown' (grown_below2 hb HO.out hgrow)); clear hown' hgrow)
            go_roundg kx
            case measure => omega
            case rel => exact ⟨2, rfl, by omega, Lib.hid ⟨M ++ L2, by rw [List.length_append, prCells_app]; exact HO'.out.1, HO'.out.2, fun h => absurd h (by decide), fun h => absurd h (by decide), fun _ => rfl⟩⟩
        | zero =>
          obtain rfl : i = 2 := by omega
          obtain ⟨M, ho, hb, _, _, m2⟩ := H.out
          obtain rfl := m2 rfl
          have HO := Lib.hid (And.intro ho hb)
          clear H m2 ho hb
          go_wp2
          go_ret
          exact ⟨_, rfl, by have := HO.out.1; rw [List.length_append] at this; exact this, HO.out.2⟩
end Go.Proofs.YtlfbflclefndjaaGreatDoor.S
/-
  table.Drop, Find, Put where the properties may be. Generated: gen_tabdrop.py.
-/
namespace Go.Proofs.YtlfbflclefndjaaGreatDoor.S
open Go.RowKit Go.Lib Fl
open Classical

theorem Or_0 (g : Nat) (y : Int) (w : World) (h0 : w.cell? ⟨g, 0, none⟩ = some (.int .i64 0)) (h1 : w.cell? ⟨g, 1, none⟩ = some (.int .i64 y)) : Calls Tryz.prog 20 #[.slice (some ⟨g, 0, none⟩) 2 2] w fun e w' => e = .returned (.int .i64 y) ∧ w' = w :=
  (Or_2 g 0 y w h0 h1).mono fun e w' ⟨he, hw⟩ => ⟨he.trans (by unfold orE; rw [if_pos rfl]), hw⟩
/-- what Drop holds on to while it asks -/
structure Hk (w : World) (k : Ky) (W : World) : Prop where
  below : Below w.heap.size w W
  k : W.heap[w.heap.size]? = some (.cells #[.string k.str, .int .i64 k.sym] 26 (0, 0))
theorem Hk.up {w W W' : World} {k : Ky} (h : Hk w k W) (hb : Below W.heap.size W W') : Hk w k W' := ⟨vb h.below hb, vblkn hb h.k⟩
theorem Hk.drew {w W : World} {k : Ky} (h : Hk w k W) : Hk w k W.drew := ⟨h.below.drew, h.k⟩
theorem hk_start (w : World) (k : Ky) : Hk w k (w.alloc (.cells #[.string k.str, .int .i64 k.sym] 26)) := ⟨vzero _ _, heap_alloc_new w _⟩
theorem kk_load {ops : Array Oper} {rest : List Oper} {o : Oper} {a : Act} {w : World} {Q : Exit → Act → World → Prop} {x : Operand} {g : Nat} {k : Ky} (hw : Region.wanted o (yielded ops a.tmps) = true) (ho : o.op = .load 26 x) (hx : a.eval x = .pointer (some ⟨g, 0, none⟩)) (hg : w.heap[g]? = some (.cells #[.string k.str, .int .i64 k.sym] 26 (0, 0)))
    (h : wpList Tryz.prog ops Q rest (a.put o.dst (.agg #[.string k.str, .int .i64 k.sym])) w) : wpList Tryz.prog ops Q (o :: rest) a w :=
  wpList_wanted hw fun _ hK => wp_load_row 26 x ho g hx 26 _ (0, 0) _ hg Tryz.underlying26 rfl ksz (hK _ _ h)
theorem two_new (w : World) (t : TypeId) (x y : Value) : (w.alloc (.cells #[x, y] t)).cell? ⟨w.heap.size, 0, none⟩ = some x ∧ (w.alloc (.cells #[x, y] t)).cell? ⟨w.heap.size, 1, none⟩ = some y := ⟨vcells (heap_alloc_new w _) 0, vcells (heap_alloc_new w _) 1⟩
theorem new_lt (w : World) (o : Obj) : w.heap.size < (w.alloc o).heap.size := by simp
theorem cut_nil {w : World} {A : Option Addr} {L : List Pq} {n : Nat} (h : PR w A (L.take n)) (hn : n ≤ L.length) : A = none → n = 0 := fun e => by
  subst e
  rcases Nat.eq_zero_or_pos n with c | c
  · exact c
  · obtain ⟨a, ha, _⟩ := h (by rw [List.length_take]; omega)
    cases ha
/-- a slice of properties that may be -/
structure TabIn (w : World) (A : Option Addr) (L : List Pq) (cap : Nat) : Prop where
  ok : TabOk L
  inn : ∀ p ∈ L, p.In
  row : PR w A L
  room : L.length ≤ cap
  cap63 : cap < 9223372036854775808
  nil : A = none → cap = 0
theorem TabIn.up {w w' : World} {A : Option Addr} {L : List Pq} {cap : Nat} (h : TabIn w A L cap) (hb : Below w.heap.size w w') : TabIn w' A L cap := ⟨h.ok, h.inn, pr_up h.row hb, h.room, h.cap63, h.nil⟩
theorem TabIn.few {w : World} {A : Option Addr} {L : List Pq} {cap : Nat} (h : TabIn w A L cap) : L.length < 1000000000000 := by have := h.ok.len; omega
theorem TabIn.check {w W : World} {A : Option Addr} {L : List Pq} {cap : Nat} (h : TabIn w A L cap) (hb : Below w.heap.size w W) : Calls Tryz.prog 32 #[.slice A L.length cap] W fun e w' => e = .returned (.int .i64 0) ∧ Below W.heap.size W w' :=
  (Check_t A L cap W h.inn h.few (pr_up h.row hb)).mono fun e w' ⟨he, hb⟩ => ⟨he.trans (by rw [chkT_yes h.ok]), hb⟩
theorem TabIn.cut {w W : World} {A : Option Addr} {L : List Pq} {cap : Nat} (h : TabIn w A L cap) (hb : Below w.heap.size w W) (k : Ky) : Calls Tryz.prog 93 #[.slice A L.length cap, .agg #[.string k.str, .int .i64 k.sym]] W (CutTo L k W) :=
  cut_t A L cap k W h.few h.room h.cap63 (pr_up h.row hb) h.nil
theorem key_fine {k : Ky} (h : mayKy k) (W : World) : Calls Tryz.prog 39 #[.agg #[.string k.str, .int .i64 k.sym]] W fun e w' => e = .returned (.int .i64 0) ∧ Below W.heap.size W w' := keyCheck_ok k.str k.sym W h
/-- properties handed out -/
def OutTo (M : List Pq) (z : Int) (w : World) (e : Ending) (w' : World) : Prop := ∃ v, e = .returned (.tuple #[v, .int .i64 z]) ∧ OutS w' v M ∧ Below w.heap.size w w'
set_option maxHeartbeats 4000000 in
set_option maxRecDepth 100000 in
theorem Drop_t (A : Option Addr) (L : List Pq) (cap : Nat) (k : Ky) (w : World) (hT : TabIn w A L cap) (hk : mayKy k) : Calls Tryz.prog 75 #[.slice A L.length cap, .agg #[.string k.str, .int .i64 k.sym]] w (OutTo (dropT L k) 0 w) := by
  have cC := fun W hb => hT.check (W := W) hb
  have kC := key_fine hk
  have hcut := fun W hb => hT.cut (W := W) hb k
  have hlen := hT.ok.len
  have hle := cutN_le L k
  have hn1 : cutN L k = (L.take (cutN L k)).length := by rw [List.length_take]; omega
  have hn2 : L.length - (cutN L k + 1) = (L.drop (cutN L k + 1)).length := by rw [List.length_drop]
  have hsum : cutN L k + (L.length - (cutN L k + 1)) ≤ 70000 := by omega
  have HN := Lib.hid (And.intro hn1 (And.intro hn2 (And.intro hsum hle)))
  clear hn1 hn2 hsum hle hlen
  have hS := (hk_start w k).drew
  go_enter Tryz.func75, Tryz.ntmps75
  go_upto_region 1 with (fail)
  refine wp_region_held_drew (S := Hk w k) (by kernel_rfl) hS (fun hHeld => ?_)
  refine hH_take (i := 0) (v := .slice A L.length cap) (d := 9) (l2 := #[true, false, false, false, false, false, false]) rfl (by kernel_rfl) (by kernel_rfl) (by kernel_rfl) (fun _ _ _ h => h) (by kernel_rfl) (fun w hSw => ?_) (by assumption) rfl (by kernel_rfl) ?_
  · go_simp
  simp only [List.set]
  refine hH_take (i := 2) (v := .agg #[.string k.str, .int .i64 k.sym]) (d := 11) (l2 := #[true, false, true, false, false, false, false]) rfl (by kernel_rfl) (by kernel_rfl) (by kernel_rfl) (fun _ _ _ h => h) (by kernel_rfl) (fun w hSw => ?_) (by assumption) rfl (by kernel_rfl) ?_
  · exact ex_load_at (k2_load hSw.k) rfl rfl
  simp only [List.set]
  refine wpAnyH_ready (rs := [1]) (by kernel_rfl) (by simp) ?_
  refine AllReadyH.cons rfl (fun K hK => ?_) AllReadyH.nil
  go_simp
  go_at_call 32
  (with_reducible refine (cC _ hS.below).mono ?_)
  rintro e w1 ⟨rfl, h1⟩
  have hS := hS.up h1
  clear h1
  refine hK.out _ _ hS (fun hHeld => ?_)
  clear hK K
  refine wpAnyH_ready (rs := [3]) (by kernel_rfl) (by simp) ?_
  refine AllReadyH.cons rfl (fun K hK => ?_) AllReadyH.nil
  go_simp
  go_at_call 39
  (with_reducible refine (kC _).mono ?_)
  rintro e w1 ⟨rfl, h1⟩
  have hS := hS.up h1
  clear h1
  refine hK.out _ _ hS (fun hHeld => ?_)
  clear hK K
  refine wpAnyH_ready (rs := [4]) (by kernel_rfl) (by simp) ?_
  refine AllReadyH.cons rfl (fun K hK => ?_) AllReadyH.nil
  go_simp
  have hS := hS.up (vzero _ (.cells #[.int .i64 0, .int .i64 0] 30))
  have hO := orS_new w1 0 0
  refine hK.out _ _ hS (fun hHeld => ?_)
  clear hK K
  refine wpAnyH_ready (rs := [5]) (by kernel_rfl) (by simp) ?_
  refine AllReadyH.cons rfl (fun K hK => ?_) AllReadyH.nil
  go_simp
  go_at_call 20
  (with_reducible refine (Or_0 _ 0 _ hO.1 hO.2).mono ?_)
  rintro e w2 ⟨rfl, rfl⟩
  refine hK.out _ _ hS (fun hHeld => ?_)
  clear hK K
  refine hH_take (i := 6) (v := .int .i64 0) (d := 6) (l2 := #[true, true, true, true, true, true, true]) rfl (by kernel_rfl) (by kernel_rfl) (by kernel_rfl) (fun _ _ _ h => h) (by kernel_rfl) (fun w hSw => ?_) (by assumption) rfl (by kernel_rfl) ?_
  · go_simp
  simp only [List.set]
  refine wpAnyH_done (by kernel_rfl) ?_ _
  have HB := Lib.hid hS.below
  have hb1 := hS.k
  clear cC kC hO
  go_wp2_with (first
    | ((with_reducible refine kk_load ?_ rfl rfl hb1 ?_); (rfl))
    | (go_at_call 93; (with_reducible refine (hcut _ HB.out).mono ?_); rintro e w3 ⟨A1, A2, c2, rfl, q1, q2, hb3, q3⟩; have HQ := Lib.hid (And.intro (pr_up q1 hb3) (And.intro (pr_up q2 hb3) q3)); have HB := Lib.hid (vb HB.out hb3); clear q1 q2 q3 hb3)
    | (go_at_call 94; (with_reducible refine (Concat_t _ A1 A2 (L.take (cutN L k)) (L.drop (cutN L k + 1)) _ _ _ _ _ HN.out.1 HN.out.2.1 (two_new _ _ _ _).1 (two_new _ _ _ _).2 (new_lt _ _) (pr_up HQ.out.1 (vzero _ _)) (pr_up HQ.out.2.1 (vzero _ _)) (cut_nil HQ.out.1 HN.out.2.2.2) HQ.out.2.2 HN.out.2.2.1).mono ?_); rintro e w4 ⟨v, rfl, ho, hb4⟩; have HO := Lib.hid (And.intro ho (vb HB.out (vafter hb4))); clear ho hb4))
  go_ret2
  exact ⟨_, rfl, own_out HO.out.1, HO.out.2⟩
end Go.Proofs.YtlfbflclefndjaaGreatDoor.S
