/-
  chain: valueOf, Make.
-/
import Derived.Test.YtkcikdggfbjedaaGreatDoorCH26
import Derived.Test.YtkcikdggfbjedaaGreatDoorCH22
import Derived.Test.YtkcikdggfbjedaaGreatDoorCH24
namespace Go.Proofs.YtkcikdggfbjedaaGreatDoor.S
open Go.RowKit Go.Lib Fl
open Classical

theorem vsz4c (k : Int) (x : Nat) (s : ByteArray) (r : Int) : (Tryz.prog.info? 48).map (·.size) = some (#[Value.int .u8 k, .float .f64 x, .string s, .int .i64 r] : Array Value).size := vsz4
theorem vq_blk {w : World} {g : Nat} {v : Vq} {t : TypeId} (hb : w.heap[g]? = some (.cells #[.int .u8 v.k, .float .f64 v.x, .string v.s, .int .i64 v.r] t (0, 0))) : VAt w ⟨g, 0, none⟩ v :=
  ⟨lt_blk hb, (vcells hb 0).trans rfl, (vcells hb 1).trans rfl, (vcells hb 2).trans rfl, (vcells hb 3).trans rfl⟩
set_option maxRecDepth 100000 in
theorem valueOf_c (o : Ob) (n : Nat) (w : World) : Calls Tryz.prog 47 #[.agg (obA o), .int .i64 (n : Int)] w fun e w' => e = .returned (.agg #[.int .u8 (kindP o), .float .f64 0, .string ⟨#[]⟩, .int .i64 (n : Int)]) ∧ Below w.heap.size w w' := by
  have hst := vstore
  obtain ⟨b1, b2, b3, hsz0, hB0⟩ := objs_blk (w := w) (.slice none 0 0) (obA o) (.slice none 0 0) 24 64 24
  clear b1 b2 b3 hsz0 hB0
  have hz : (w.alloc (.cells (obA o) 64)).heap.size = w.heap.size + 1 := by simp
  have hz2 : ((w.alloc (.cells (obA o) 64)).alloc (.cells #[.int .u8 0, .float .f64 0, .string ⟨#[]⟩, .int .i64 0] 48)).heap.size = w.heap.size + 1 + 1 := by simp
  have h0 := heap_alloc_new w (.cells (obA o) 64)
  have h1 := heap_alloc_new (w.alloc (.cells (obA o) 64)) (.cells #[.int .u8 0, .float .f64 0, .string ⟨#[]⟩, .int .i64 0] 48)
  have h2 := heap_alloc_new ((w.alloc (.cells (obA o) 64)).alloc (.cells #[.int .u8 0, .float .f64 0, .string ⟨#[]⟩, .int .i64 0] 48)) (.cells #[.int .u8 0, .float .f64 0, .string ⟨#[]⟩, .int .i64 0] 48)
  rw [hz] at h1
  rw [hz2] at h2
  have hB : Below w.heap.size w (((w.alloc (.cells (obA o) 64)).alloc (.cells #[.int .u8 0, .float .f64 0, .string ⟨#[]⟩, .int .i64 0] 48)).alloc (.cells #[.int .u8 0, .float .f64 0, .string ⟨#[]⟩, .int .i64 0] 48)) := vafter (vafter (vzero _ _))
  have g0 := vblkn (vzero _ (.cells #[.int .u8 0, .float .f64 0, .string ⟨#[]⟩, .int .i64 0] 48)) (vblkn (vzero _ (.cells #[.int .u8 0, .float .f64 0, .string ⟨#[]⟩, .int .i64 0] 48)) h0)
  have g1 := vblkn (vzero _ (.cells #[.int .u8 0, .float .f64 0, .string ⟨#[]⟩, .int .i64 0] 48)) h1
  have hi1 : ∀ v : Vq, (Tryz.prog.info? 48).map (·.size) = some (#[Value.int .u8 v.k, .float .f64 v.x, .string v.s, .int .i64 v.r] : Array Value).size := fun v => vsz4
  have hc1 : ∀ v : Vq, (#[Value.int .u8 v.k, .float .f64 v.x, .string v.s, .int .i64 v.r] : Array Value).all (·.oneCell') = true := fun v => vq_one v.k v.x v.s v.r
  have hs4 : 0 < (#[Value.int .u8 6, .float .f64 0, .string ⟨#[]⟩, .int .i64 (n : Int)] : Array Value).size := by show 0 < 4; omega
  clear hz hz2 h0 h1
  unfold kindP
  cases e1 : o.makes <;> cases e2 : o.calls
  all_goals
    go_enter Tryz.func47, Tryz.ntmps47
    go_wp2_with (first
      | ((with_reducible refine w_run ?_ (eb_t (r := (n : Int)) rfl rfl) ?_); (rfl))
      | ((with_reducible refine t_store (cs := #[.int .u8 6, .float .f64 0, .string ⟨#[]⟩, .int .i64 (n : Int)]) rfl rfl rfl rfl h2 (hi1 ⟨6, 0, ⟨#[]⟩, n⟩) ?_ (hc1 ⟨6, 0, ⟨#[]⟩, n⟩) hB (by omega) ?_); (rfl); intro W1 hb1 hW1 hO1 hz1; have k0 := (hO1 w.heap.size (by omega)).trans g0; have k1 := (hO1 (w.heap.size + 1) (by omega)).trans g1; have qm : W1.cell? ⟨w.heap.size, 17, none⟩ = some (.bool o.makes) := (vcells k0 17).trans rfl; have qc : W1.cell? ⟨w.heap.size, 16, none⟩ = some (.bool o.calls) := (vcells k0 16).trans rfl; rw [e1] at qm; rw [e2] at qc; have hv := vq_blk (v := ⟨6, 0, ⟨#[]⟩, n⟩) hW1; have k2 := k1; have hb2 := hb1; clear hO1 hz1 h2 hB)
      | ((with_reducible refine cb_store rfl rfl rfl rfl hW1 hs4 ?_); intro W2 hW2 hG2 hz2; have k2 := (hG2.block (w.heap.size + 1) (by have := lt_blk hW1; omega) (by simp)).trans k1; have hb2 := below_grow hb1 hG2 (by omega) hb1.size; have hv := vq_blk (v := ⟨8, 0, ⟨#[]⟩, n⟩) hW2)
      | ((with_reducible refine cb_store rfl rfl rfl rfl hW1 hs4 ?_); intro W2 hW2 hG2 hz2; have k2 := (hG2.block (w.heap.size + 1) (by have := lt_blk hW1; omega) (by simp)).trans k1; have hb2 := below_grow hb1 hG2 (by omega) hb1.size; have hv := vq_blk (v := ⟨7, 0, ⟨#[]⟩, n⟩) hW2)
      | ((with_reducible refine va_load ?_ rfl rfl hv ?_); (rfl))
      | ((with_reducible refine t_store rfl rfl rfl rfl k2 (vsz4c _ _ _ _) ?_ (vq_one _ _ _ _) hb2 (by omega) ?_); (rfl); intro W6 hb6 hW6 hO6 hz6))
    exact val_end Tryz.results47 rfl hW6 ⟨rfl, hb6⟩
set_option maxRecDepth 100000 in
theorem rb_pm (u v : Vq) (c m : Bool) (w : World) : (Instr.build 64 #[(0, .int .u8 6), (1, vN.val), (4, u.val), (5, v.val), (7, .bool c), (8, .bool m)]).run Tryz.prog w = .ok (.agg (obA ⟨6, vN, false, none, 0, [], u, v, ⟨#[]⟩, c, m⟩)) w := by kernel_rfl
section
variable {ops : Array Oper} {rest : List Oper} {o : Oper} {a : Act} {w : World} {Q : Exit → Act → World → Prop} {x y z p q : Operand}
theorem eb_pm {u v : Vq} {c m : Bool} (ho : o.op = .build 64 #[(0, .const (.int .u8 6)), (1, x), (4, y), (5, z), (7, p), (8, q)]) (hx : a.eval x = vN.val) (hy : a.eval y = u.val) (hz : a.eval z = v.val) (hp : a.eval p = .bool c) (hq : a.eval q = .bool m) : (execOp a.eval o).run Tryz.prog w = .ok (.value (.agg (obA ⟨6, vN, false, none, 0, [], u, v, ⟨#[]⟩, c, m⟩))) w := by
  unfold execOp
  have hc : ∀ v, a.eval (.const v) = v := fun _ => rfl
  simp only [ho, List.map_toArray, List.map_cons, List.map_nil, hc, hx, hy, hz, hp, hq, rb_pm, Sem.run_bind, Sem.run_pure, Result.andThen_ok]
theorem ea_ob (ho : o.op = .alloc 64) : (execOp a.eval o).run Tryz.prog w = .ok (.value (.pointer (some ⟨w.heap.size, 0, none⟩))) (w.alloc (.cells ozA 64)) := by
  unfold execOp
  simp only [ho]
  kernel_rfl
end
theorem oa_run {w : World} {A : Addr} {p : Ob} (hc : ∀ j u, (ocl p)[j]? = some u → w.cell? (A.add j) = some u) : (Instr.loadAt 64 (.pointer (some A))).run Tryz.prog w = .ok (.agg (obA p)) w :=
  run_loadAt_at (A := A) (cs := ocl p) hc Tryz.underlying64 rfl osz
theorem ob_cells {w : World} {g : Nat} {p : Ob} {t : TypeId} (hb : w.heap[g]? = some (.cells (obA p) t (0, 0))) : ∀ j u, (ocl p)[j]? = some u → w.cell? ((⟨g, 0, none⟩ : Addr).add j) = some u := fun j u hu => by
  rw [Addr.add_mid, Nat.zero_add, vcells hb j, show obA p = (ocl p).toArray from rfl, List.getElem?_toArray]
  exact hu
/-- is an object a revoked proxy? -/
def goneN (H : List Ob) (n : Int) : Bool := match H[n.toNat]? with | some o => chGone o | none => false
/-- Make's error -/
noncomputable def mkE (H : List Ob) (t g : Int) : Int := if orE (ckE H t) (thE H g) = 0 then (if goneN H t = true ∨ goneN H g = true then 140 else if H.length = 4096 then 4 else 0) else orE (ckE H t) (thE H g)
def MakeTo (H : List Ob) (t g : Int) (w : World) (e : Ending) (w' : World) : Prop := Below w.heap.size w w' ∧ ((mkE H t g ≠ 0 ∧ e = .returned (.tuple #[.agg #[.slice none 0 0], .int .i64 0, .int .i64 (mkE H t g)])) ∨
  (mkE H t g = 0 ∧ ∃ B M, e = .returned (.tuple #[.agg #[.slice (some ⟨B, 0, none⟩) (H.length + 1) (H.length + 1)], .int .i64 H.length, .int .i64 0]) ∧ Tw w.heap.size B (H ++ [chObj H t.toNat g.toNat]) M w'))
/-- Make's own blocks -/
structure Mk (w : World) (A : Option Addr) (n cap : Nat) (W : World) : Prop where
  below : Below w.heap.size w W
  h : W.heap[w.heap.size]? = some (.cells #[.slice A n cap] 24 (0, 0))
  r : ∃ v, W.heap[w.heap.size + 1]? = some (.cells #[v] 24 (0, 0))
theorem Mk.up {w : World} {A : Option Addr} {n cap : Nat} {W W' : World} (h : Mk w A n cap W) (hb : Below W.heap.size W W') : Mk w A n cap W' := ⟨vb h.below hb, vblkn hb h.h, h.r.imp fun _ g => vblkn hb g⟩
theorem Mk.row {w : World} {A : Option Addr} {n cap : Nat} {W : World} (h : Mk w A n cap W) {g : Nat} (hg : w.heap.size + 2 ≤ g) (cs : Array Value) : Mk w A n cap (W.setRow g cs) := ⟨below_row h.below (by omega) cs, (setRow_other W _ _ _ (by omega)).trans h.h, h.r.imp fun _ e => (setRow_other W _ _ _ (by omega)).trans e⟩
theorem Mk.size {w : World} {A : Option Addr} {n cap : Nat} {W : World} (h : Mk w A n cap W) : w.heap.size + 2 ≤ W.heap.size := lt_blk h.r.choose_spec
theorem Mk.set {w : World} {A : Option Addr} {n cap : Nat} {W : World} (h : Mk w A n cap W) (v : Value) : Mk w A n cap (W.setRow (w.heap.size + 1) #[v]) := ⟨below_row h.below (by omega) _, (setRow_other W _ _ _ (by omega)).trans h.h, v, setRow_heap _ _ _ _ _ _ h.r.choose_spec⟩
theorem mk_start (w : World) (A : Option Addr) (n cap : Nat) : Mk w A n cap ((w.alloc (.cells #[.slice A n cap] 24)).alloc (.cells #[.slice none 0 0] 24)) := by
  obtain ⟨b1, b2⟩ := vblk2 (w := w) (Below.refl _ ((w.alloc (.cells #[.slice A n cap] 24)).alloc (.cells #[.slice none 0 0] 24)))
  exact ⟨vafter (vzero _ _), b1, _, b2⟩
/-- with both objects in blocks of their own -/
structure Mko (w : World) (A : Option Addr) (n cap g k : Nat) (p q : Ob) (W : World) : Prop where
  bk : Mk w A n cap W
  ft : W.heap[g]? = some (.cells (obA p) 64 (0, 0))
  fg : W.heap[k]? = some (.cells (obA q) 64 (0, 0))
  gl : w.heap.size + 2 ≤ g
  kl : w.heap.size + 2 ≤ k
theorem Mko.up {w : World} {A : Option Addr} {n cap g k : Nat} {p q : Ob} {W W' : World} (h : Mko w A n cap g k p q W) (hb : Below W.heap.size W W') : Mko w A n cap g k p q W' := ⟨h.bk.up hb, vblkn hb h.ft, vblkn hb h.fg, h.gl, h.kl⟩
theorem Mko.set {w : World} {A : Option Addr} {n cap g k : Nat} {p q : Ob} {W : World} (h : Mko w A n cap g k p q W) (v : Value) : Mko w A n cap g k p q (W.setRow (w.heap.size + 1) #[v]) := ⟨h.bk.set v, (setRow_other W _ _ _ (by have := h.gl; omega)).trans h.ft, (setRow_other W _ _ _ (by have := h.kl; omega)).trans h.fg, h.gl, h.kl⟩
set_option maxHeartbeats 8000000 in
set_option maxRecDepth 1000000 in
theorem Make_c (A : Option Addr) (H : List Ob) (cap : Nat) (t g : Int) (w : World) (hH : HIn w A H cap) (hp : ∀ o ∈ H, o.props.length ≤ 100000) (htab : TabHere w) :
    Calls Tryz.prog 14 #[.agg #[.slice A H.length cap], .int .i64 t, .int .i64 g] w (MakeTo H t g w) := by
  have HN := Lib.hid (mk_start w A H.length cap)
  have cC := fun W (hb : Below w.heap.size w W) => check_c A H cap t W (hH.up hb) (tab_up htab hb)
  have cT := fun W => there_c H A cap g W
  have hi1 : ∀ v : Value, (Tryz.prog.info? 24).map (·.size) = some (#[v] : Array Value).size := fun v => hsz
  have hc1 : ∀ v : Value, v.oneCell' = true → (#[v] : Array Value).all (·.oneCell') = true := fun v h => cells_one (l := [v]) (by simpa using h)
  have hmk1 : orE (ckE H t) (thE H g) ≠ 0 → mkE H t g = orE (ckE H t) (thE H g) := fun h => if_neg h
  have hmk2 : orE (ckE H t) (thE H g) = 0 → mkE H t g = (if goneN H t = true ∨ goneN H g = true then 140 else if H.length = 4096 then 4 else 0) := fun h => if_pos h
  have hz1 : ckE H t = 0 → mayH H = true ∧ inZ H t := ck_zero
  have hz2 : thE H g = 0 → inZ H g := th_zero
  have HH := Lib.hid hH
  have HT := Lib.hid htab
  have hfew := hH.few
  unfold MakeTo
  clear hH htab
  generalize ckE H t = x at *
  generalize thE H g = y at *
  go_enter Tryz.func14, Tryz.ntmps14
  go_upto_region 1 with (fail)
  have hS : Mk w A H.length cap _ := HN.out.up (Below.refl _ _).drew
  refine wp_region_held_drew (S := Mk w A H.length cap) (by kernel_rfl) hS (fun hHeld => ?_)
  refine hH_take (i := 0) (v := .agg #[.slice A H.length cap]) (d := 12) (l2 := #[true, false, false, false, false, false, false, false, false]) rfl (by kernel_rfl) (by kernel_rfl) (by kernel_rfl) (fun _ _ _ h => h) (by kernel_rfl) (fun w hSw => ?_) (by assumption) rfl (by kernel_rfl) ?_
  · exact ex_load_at (h1_load hSw.h) rfl rfl
  simp only [List.set]
  refine hH_take (i := 1) (v := .int .i64 t) (d := 13) (l2 := #[true, true, false, false, false, false, false, false, false]) rfl (by kernel_rfl) (by kernel_rfl) (by kernel_rfl) (fun _ _ _ h => h) (by kernel_rfl) (fun w hSw => ?_) (by assumption) rfl (by kernel_rfl) ?_
  · go_simp
  simp only [List.set]
  refine hH_take (i := 3) (v := .agg #[.slice A H.length cap]) (d := 15) (l2 := #[true, true, false, true, false, false, false, false, false]) rfl (by kernel_rfl) (by kernel_rfl) (by kernel_rfl) (fun _ _ _ h => h) (by kernel_rfl) (fun w hSw => ?_) (by assumption) rfl (by kernel_rfl) ?_
  · exact ex_load_at (h1_load hSw.h) rfl rfl
  simp only [List.set]
  refine hH_take (i := 4) (v := .int .i64 g) (d := 16) (l2 := #[true, true, false, true, true, false, false, false, false]) rfl (by kernel_rfl) (by kernel_rfl) (by kernel_rfl) (fun _ _ _ h => h) (by kernel_rfl) (fun w hSw => ?_) (by assumption) rfl (by kernel_rfl) ?_
  · go_simp
  simp only [List.set]
  refine wpAnyH_ready (rs := [2]) (by kernel_rfl) (by simp) ?_
  refine AllReadyH.cons rfl (fun K hK => ?_) AllReadyH.nil
  go_simp
  go_at_call 39
  (with_reducible refine (cC _ hS.below).mono ?_)
  rintro e w1 ⟨rfl, h1⟩
  have hS := hS.up h1
  clear h1
  refine hK.out _ _ hS (fun hHeld => ?_)
  clear hK K
  refine wpAnyH_ready (rs := [5]) (by kernel_rfl) (by simp) ?_
  refine AllReadyH.cons rfl (fun K hK => ?_) AllReadyH.nil
  go_simp
  go_at_call 45
  (with_reducible refine (cT _).mono ?_)
  rintro e w1 ⟨rfl, h1⟩
  have hS := hS.up h1
  clear h1
  refine hK.out _ _ hS (fun hHeld => ?_)
  clear hK K
  refine wpAnyH_ready (rs := [6]) (by kernel_rfl) (by simp) ?_
  refine AllReadyH.cons rfl (fun K hK => ?_) AllReadyH.nil
  go_simp
  have hS := hS.up (vzero _ (.cells #[.int .i64 x, .int .i64 y] 25))
  have hO := orS_new w1 x y
  refine hK.out _ _ hS (fun hHeld => ?_)
  clear hK K
  refine wpAnyH_ready (rs := [7]) (by kernel_rfl) (by simp) ?_
  refine AllReadyH.cons rfl (fun K hK => ?_) AllReadyH.nil
  go_simp
  go_at_call 44
  (with_reducible refine (Or_2 _ x y _ hO.1 hO.2).mono ?_)
  rintro e w2 ⟨rfl, rfl⟩
  refine hK.out _ _ hS (fun hHeld => ?_)
  clear hK K
  refine hH_take (i := 8) (v := .int .i64 (orE x y)) (d := 9) (l2 := #[true, true, true, true, true, true, true, true, true]) rfl (by kernel_rfl) (by kernel_rfl) (by kernel_rfl) (fun _ _ _ h => h) (by kernel_rfl) (fun w hSw => ?_) (by assumption) rfl (by kernel_rfl) ?_
  · go_simp
  simp only [List.set]
  refine wpAnyH_done (by kernel_rfl) ?_ _
  clear hO
  have HN := Lib.hid hS
  clear hS hHeld cC cT
  generalize w1.alloc (.cells #[.int .i64 x, .int .i64 y] 25) = V0 at *
  by_cases h0 : orE x y = 0
  · obtain ⟨hx0, hy0⟩ := orE_zero h0
    obtain ⟨hm, hin⟩ := hz1 hx0
    have hin2 := hz2 hy0
    obtain ⟨k, rfl⟩ := Int.eq_ofNat_of_zero_le hin.1
    obtain ⟨l, rfl⟩ := Int.eq_ofNat_of_zero_le hin2.1
    have hkz : (k : Int) < (H.length : Int) := hin.2
    have hlz : (l : Int) < (H.length : Int) := hin2.2
    have hk0 : (0 : Int) ≤ (k : Int) := hin.1
    have hl0 : (0 : Int) ≤ (l : Int) := hin2.1
    have hk : k < H.length := by omega
    have hl : l < H.length := by omega
    have hmk := hmk2 h0
    rw [h0]
    obtain ⟨p, hp0⟩ : ∃ p, p = H[k] := ⟨_, rfl⟩
    obtain ⟨q, hq0⟩ : ∃ q, q = H[l] := ⟨_, rfl⟩
    have hgp : goneN H (k : Int) = chGone p := by unfold goneN; rw [Int.toNat_natCast, List.getElem?_eq_getElem hk, hp0]
    have hgq : goneN H (l : Int) = chGone q := by unfold goneN; rw [Int.toNat_natCast, List.getElem?_eq_getElem hl, hq0]
    rw [hgp, hgq] at hmk
    have hob : chObj H k l = ⟨6, vN, false, none, 0, [], chVal p k, chVal q l, ⟨#[]⟩, p.calls, p.makes⟩ := by
      unfold chObj
      rw [List.getElem?_eq_getElem hk, List.getElem?_eq_getElem hl, hp0, hq0]
      rfl
    have hne := chMake_e hm hk hl
    have hpk : 0 ≤ p.target.k := by rw [hp0]; exact (HH.out.inn _ (List.getElem_mem hk)).target.1
    have hqk : 0 ≤ q.target.k := by rw [hq0]; exact (HH.out.inn _ (List.getElem_mem hl)).target.1
    have cRp := fun W => revoked_c p hpk W
    have cRq := fun W => revoked_c q hqk W
    have cN : ∀ W, Below w.heap.size w W → Calls Tryz.prog 46 #[.agg #[.slice A H.length cap], .agg (obA ⟨6, vN, false, none, 0, [], chVal p k, chVal q l, ⟨#[]⟩, p.calls, p.makes⟩)] W (NewTo H (chObj H k l) W) := fun W hb => by
      have := New_h A H cap (chObj H k l) W (HH.out.up hb) hp pr_nil (chObj_in H (by omega) (by omega)) (Nat.zero_le _) (tab_up HT.out hb)
      rw [hob] at this ⊢
      exact this
    have hca : ∃ a, A = some a ∧ (∀ W, Below w.heap.size w W → ∀ j u, (ocl p)[j]? = some u → W.cell? ((a.add (k * 18)).add j) = some u) ∧ (∀ W, Below w.heap.size w W → ∀ j u, (ocl q)[j]? = some u → W.cell? ((a.add (l * 18)).add j) = some u) := by
      obtain ⟨a, h1, h2, h3, _⟩ := HH.out.at hk
      obtain ⟨a', h1', h2', h3', _⟩ := HH.out.at hl
      obtain rfl : a = a' := Option.some.inj (h1.symm.trans h1')
      rw [← hp0] at h3
      rw [← hq0] at h3'
      exact ⟨a, h1, fun W hb j u hu => (hb.cell (p := (a.add (k * 18)).add j) (by rw [add_blk]; exact h2)).trans (of_back h3 j u hu), fun W hb j u hu => (hb.cell (p := (a.add (l * 18)).add j) (by rw [add_blk]; exact h2')).trans (of_back h3' j u hu)⟩
    obtain ⟨a, rfl, hcp, hcq⟩ := hca
    have HMK := Lib.hid hmk
    have HNE := Lib.hid hne
    have HOB := Lib.hid hob
    clear hmk hne hob hm hin hin2 hmk1 hmk2 hz1 hz2 hx0 hy0 h0 hp0 hq0 hgp hgq hpk hqk HH HT hp hk hl
    go_upto_region 4 with (fail)
    (try dsimp only [Act.put])
    go_cut [10, 11] from 12 (fun s10 s11 wx => ∃ g10 g11 : Nat, s10 = .pointer (some ⟨g10, 0, none⟩) ∧ s11 = .pointer (some ⟨g11, 0, none⟩) ∧ Hid (Mko w (some a) H.length cap g10 g11 p q wx))
    case first =>
      have hS : Mk w (some a) H.length cap _ := HN.out.up (Below.refl _ _).drew
      clear HN cN cRp cRq HMK HNE HOB
      refine wp_region_held_drew (S := Mk w (some a) H.length cap) (by kernel_rfl) hS (fun hHeld => ?_)
      generalize V0.drew = W0 at *
      refine hH_take (i := 0) (v := .pointer (some ⟨w.heap.size, 0, none⟩)) (d := 24) (l2 := #[true, false, false, false, false, false, false, false, false, false, false, false, false, false]) rfl (by kernel_rfl) (by kernel_rfl) (by kernel_rfl) (fun _ _ _ h => h) (by kernel_rfl) ?_ (by assumption) rfl (by kernel_rfl) ?_
      · intro w hSw; go_simp; (try with_reducible rfl)
      simp only [List.set]
      refine hH_take (i := 1) (v := .slice (some a) H.length cap) (d := 25) (l2 := #[true, true, false, false, false, false, false, false, false, false, false, false, false, false]) rfl (by kernel_rfl) (by kernel_rfl) (by kernel_rfl) (fun _ _ _ h => h) (by kernel_rfl) ?_ (by assumption) rfl (by kernel_rfl) ?_
      · intro w hSw; have q := (vcells hSw.h 0).trans rfl; go_simp; (try with_reducible rfl)
      simp only [List.set]
      refine hH_take (i := 2) (v := .int .i64 (k : Int)) (d := 26) (l2 := #[true, true, true, false, false, false, false, false, false, false, false, false, false, false]) rfl (by kernel_rfl) (by kernel_rfl) (by kernel_rfl) (fun _ _ _ h => h) (by kernel_rfl) ?_ (by assumption) rfl (by kernel_rfl) ?_
      · intro w hSw; go_simp; (try with_reducible rfl)
      simp only [List.set]
      refine hH_take (i := 3) (v := .pointer (some (a.add (k * 18)))) (d := 27) (l2 := #[true, true, true, true, false, false, false, false, false, false, false, false, false, false]) rfl (by kernel_rfl) (by kernel_rfl) (by kernel_rfl) (fun _ _ _ h => h) (by kernel_rfl) ?_ (by assumption) rfl (by kernel_rfl) ?_
      · intro w hSw; go_simp; (try with_reducible rfl)
      simp only [List.set]
      refine hH_take (i := 4) (v := .agg (obA p)) (d := 28) (l2 := #[true, true, true, true, true, false, false, false, false, false, false, false, false, false]) rfl (by kernel_rfl) (by kernel_rfl) (by kernel_rfl) (fun _ _ _ h => h) (by kernel_rfl) ?_ (by assumption) rfl (by kernel_rfl) ?_
      · intro w hSw; exact ex_load_at (oa_run (hcp _ hSw.below)) rfl rfl
      simp only [List.set]
      refine hH_take (i := 5) (v := .pointer (some ⟨w.heap.size, 0, none⟩)) (d := 29) (l2 := #[true, true, true, true, true, true, false, false, false, false, false, false, false, false]) rfl (by kernel_rfl) (by kernel_rfl) (by kernel_rfl) (fun _ _ _ h => h) (by kernel_rfl) ?_ (by assumption) rfl (by kernel_rfl) ?_
      · intro w hSw; go_simp; (try with_reducible rfl)
      simp only [List.set]
      refine hH_take (i := 6) (v := .slice (some a) H.length cap) (d := 30) (l2 := #[true, true, true, true, true, true, true, false, false, false, false, false, false, false]) rfl (by kernel_rfl) (by kernel_rfl) (by kernel_rfl) (fun _ _ _ h => h) (by kernel_rfl) ?_ (by assumption) rfl (by kernel_rfl) ?_
      · intro w hSw; have q := (vcells hSw.h 0).trans rfl; go_simp; (try with_reducible rfl)
      simp only [List.set]
      refine hH_take (i := 7) (v := .int .i64 (l : Int)) (d := 31) (l2 := #[true, true, true, true, true, true, true, true, false, false, false, false, false, false]) rfl (by kernel_rfl) (by kernel_rfl) (by kernel_rfl) (fun _ _ _ h => h) (by kernel_rfl) ?_ (by assumption) rfl (by kernel_rfl) ?_
      · intro w hSw; go_simp; (try with_reducible rfl)
      simp only [List.set]
      refine hH_take (i := 8) (v := .pointer (some (a.add (l * 18)))) (d := 32) (l2 := #[true, true, true, true, true, true, true, true, true, false, false, false, false, false]) rfl (by kernel_rfl) (by kernel_rfl) (by kernel_rfl) (fun _ _ _ h => h) (by kernel_rfl) ?_ (by assumption) rfl (by kernel_rfl) ?_
      · intro w hSw; go_simp; (try with_reducible rfl)
      simp only [List.set]
      refine hH_take (i := 9) (v := .agg (obA q)) (d := 33) (l2 := #[true, true, true, true, true, true, true, true, true, true, false, false, false, false]) rfl (by kernel_rfl) (by kernel_rfl) (by kernel_rfl) (fun _ _ _ h => h) (by kernel_rfl) ?_ (by assumption) rfl (by kernel_rfl) ?_
      · intro w hSw; exact ex_load_at (oa_run (hcq _ hSw.below)) rfl rfl
      simp only [List.set]
      refine wpAnyH_ready (rs := [10, 11]) (by kernel_rfl) (by simp) ?_
      refine (AllReadyH.cons rfl (fun K hK => ?_) (AllReadyH.cons rfl (fun K hK => ?_) AllReadyH.nil))
      · skip
        refine r_val (by kernel_rfl) (ea_ob rfl) rfl ?_
        simp only [List.set]
        have m10 := hS.size
        have h10 := heap_alloc_new W0 (.cells ozA 64)
        have hS := hS.up (vzero W0 (.cells ozA 64))
        generalize W0.alloc (.cells ozA 64) = W1 at *
        generalize W0.heap.size = g10 at *
        refine hK.out _ _ hS (fun hHeld => ?_)
        clear hK K
        refine wpAnyH_ready (rs := [11]) (by kernel_rfl) (by simp) ?_
        refine AllReadyH.cons rfl (fun K hK => ?_) AllReadyH.nil
        refine r_val (by kernel_rfl) (ea_ob rfl) rfl ?_
        simp only [List.set]
        have m11 := hS.size
        have hne : g10 ≠ W1.heap.size := by have := lt_blk h10; omega
        have h10 := vblkn (vzero W1 (.cells ozA 64)) h10
        have h11 := heap_alloc_new W1 (.cells ozA 64)
        have hS := hS.up (vzero W1 (.cells ozA 64))
        generalize W1.alloc (.cells ozA 64) = W2 at *
        generalize W1.heap.size = g11 at *
        refine hK.out _ _ hS (fun hHeld => ?_)
        clear hK K
        refine wpAnyH_ready (rs := [12]) (by kernel_rfl) (by simp) ?_
        refine AllReadyH.cons rfl (fun K hK => ?_) AllReadyH.nil
        refine r_store (by kernel_rfl) rfl rfl rfl h10 osz rfl (obA_one p) rfl ?_
        have hS := hS.row m10 (obA p)
        have h11 := (setRow_other W2 g10 g11 (obA p) (hne).symm).trans h11
        have h10 := setRow_heap _ _ _ (obA p) _ _ h10
        generalize W2.setRow g10 (obA p) = W3 at *
        refine hK.out _ _ hS (fun hHeld => ?_)
        clear hK K
        refine wpAnyH_ready (rs := [13]) (by kernel_rfl) (by simp) ?_
        refine AllReadyH.cons rfl (fun K hK => ?_) AllReadyH.nil
        refine r_store (by kernel_rfl) rfl rfl rfl h11 osz rfl (obA_one q) rfl ?_
        have hS := hS.row m11 (obA q)
        have h10 := (setRow_other W3 g11 g10 (obA q) (hne)).trans h10
        have h11 := setRow_heap _ _ _ (obA q) _ _ h11
        generalize W3.setRow g11 (obA q) = W4 at *
        refine hK.out _ _ hS (fun hHeld => ?_)
        clear hK K
        refine wpAnyH_done (by kernel_rfl) ?_ _
        go_wp2_with (fail)
        go_meet
        case rel => exact ⟨g10, g11, rfl, rfl, Lib.hid ⟨hS, h10, h11, m10, m11⟩⟩
      · skip
        refine r_val (by kernel_rfl) (ea_ob rfl) rfl ?_
        simp only [List.set]
        have m11 := hS.size
        have h11 := heap_alloc_new W0 (.cells ozA 64)
        have hS := hS.up (vzero W0 (.cells ozA 64))
        generalize W0.alloc (.cells ozA 64) = W1 at *
        generalize W0.heap.size = g11 at *
        refine hK.out _ _ hS (fun hHeld => ?_)
        clear hK K
        refine wpAnyH_ready (rs := [10]) (by kernel_rfl) (by simp) ?_
        refine AllReadyH.cons rfl (fun K hK => ?_) AllReadyH.nil
        refine r_val (by kernel_rfl) (ea_ob rfl) rfl ?_
        simp only [List.set]
        have m10 := hS.size
        have hne : g11 ≠ W1.heap.size := by have := lt_blk h11; omega
        have h11 := vblkn (vzero W1 (.cells ozA 64)) h11
        have h10 := heap_alloc_new W1 (.cells ozA 64)
        have hS := hS.up (vzero W1 (.cells ozA 64))
        generalize W1.alloc (.cells ozA 64) = W2 at *
        generalize W1.heap.size = g10 at *
        refine hK.out _ _ hS (fun hHeld => ?_)
        clear hK K
        refine wpAnyH_ready (rs := [12]) (by kernel_rfl) (by simp) ?_
        refine AllReadyH.cons rfl (fun K hK => ?_) AllReadyH.nil
        refine r_store (by kernel_rfl) rfl rfl rfl h10 osz rfl (obA_one p) rfl ?_
        have hS := hS.row m10 (obA p)
        have h11 := (setRow_other W2 g10 g11 (obA p) (hne.symm).symm).trans h11
        have h10 := setRow_heap _ _ _ (obA p) _ _ h10
        generalize W2.setRow g10 (obA p) = W3 at *
        refine hK.out _ _ hS (fun hHeld => ?_)
        clear hK K
        refine wpAnyH_ready (rs := [13]) (by kernel_rfl) (by simp) ?_
        refine AllReadyH.cons rfl (fun K hK => ?_) AllReadyH.nil
        refine r_store (by kernel_rfl) rfl rfl rfl h11 osz rfl (obA_one q) rfl ?_
        have hS := hS.row m11 (obA q)
        have h10 := (setRow_other W3 g11 g10 (obA q) (hne.symm)).trans h10
        have h11 := setRow_heap _ _ _ (obA q) _ _ h11
        generalize W3.setRow g11 (obA q) = W4 at *
        refine hK.out _ _ hS (fun hHeld => ?_)
        clear hK K
        refine wpAnyH_done (by kernel_rfl) ?_ _
        go_wp2_with (fail)
        go_meet
        case rel => exact ⟨g10, g11, rfl, rfl, Lib.hid ⟨hS, h10, h11, m10, m11⟩⟩
    case rest =>
      obtain ⟨g, g2, rfl, rfl, HX⟩ := hcut
      clear hcp hcq HN
      rename ∀ (a : Act) (w : World), Code.wp Tryz.prog _ _ a w → _ => hK
      refine hK _ _ ?_
      clear hK
      cases hgp : chGone p with
      | true =>
        rw [hgp] at HMK cRp
        have hmk : mkE H (k : Int) (l : Int) = 140 := by rw [HMK.out, if_pos (.inl rfl)]
        clear cRq cN
        go_wp2_with (first
          | ((with_reducible refine ob_load ?_ rfl rfl HX.out.ft ?_); (rfl))
          | (go_at_call 42; (with_reducible refine (cRp _).mono ?_); rintro e w5 ⟨rfl, h9⟩; have HX := Lib.hid (HX.out.up h9); clear h9)
          | ((with_reducible refine t_store rfl rfl rfl rfl HX.out.bk.r.choose_spec (hi1 _) ?_ (hc1 _ rfl) HX.out.bk.below (by omega) ?_); (rfl); intro W6 hb6 hW6 hO6 _))
        exact new_end Tryz.results14 rfl rfl rfl hW6 ⟨hb6, .inl ⟨by rw [hmk]; decide, by rw [hmk]⟩⟩
      | false =>
        rw [hgp] at HMK cRp
        cases hgq : chGone q with
        | true =>
          rw [hgq] at HMK cRq
          have hmk : mkE H (k : Int) (l : Int) = 140 := by rw [HMK.out, if_pos (.inr rfl)]
          clear cN
          go_wp2_with (first
            | ((with_reducible refine ob_load ?_ rfl rfl HX.out.ft ?_); (rfl))
            | ((with_reducible refine ob_load ?_ rfl rfl HX.out.fg ?_); (rfl))
            | (go_at_call 42; (with_reducible refine (cRp _).mono ?_); rintro e w5 ⟨rfl, h9⟩; have HX := Lib.hid (HX.out.up h9); clear h9)
            | (go_at_call 42; (with_reducible refine (cRq _).mono ?_); rintro e w5 ⟨rfl, h9⟩; have HX := Lib.hid (HX.out.up h9); clear h9)
            | ((with_reducible refine t_store rfl rfl rfl rfl HX.out.bk.r.choose_spec (hi1 _) ?_ (hc1 _ rfl) HX.out.bk.below (by omega) ?_); (rfl); intro W6 hb6 hW6 hO6 _))
          exact new_end Tryz.results14 rfl rfl rfl hW6 ⟨hb6, .inl ⟨by rw [hmk]; decide, by rw [hmk]⟩⟩
        | false =>
          rw [hgq] at HMK cRq
          have hmk : mkE H (k : Int) (l : Int) = if H.length = 4096 then 4 else 0 := by rw [HMK.out, if_neg (by simp)]
          by_cases hf : H.length = 4096
          · have cN : ∀ W, Below w.heap.size w W → Calls Tryz.prog 46 #[.agg #[.slice (some a) H.length cap], .agg (obA ⟨6, vN, false, none, 0, [], chVal p k, chVal q l, ⟨#[]⟩, p.calls, p.makes⟩)] W fun e w' => e = .returned (.tuple #[.agg #[.slice none 0 0], .int .i64 0, .int .i64 4]) ∧ Below W.heap.size W w' := fun W hb =>
              (cN W hb).mono fun e w' ⟨h9, h⟩ => by
                have h4 := HNE.out
                rw [if_pos hf] at h4
                rw [h4] at h
                rcases h with ⟨_, h⟩ | ⟨h, _⟩
                · exact ⟨h, h9⟩
                · exact absurd h (by decide)
            rw [if_pos hf] at hmk
            clear hf
            go_upto_region 7 with (first
              | ((with_reducible refine ob_load ?_ rfl rfl HX.out.ft ?_); (rfl))
              | ((with_reducible refine ob_load ?_ rfl rfl HX.out.fg ?_); (rfl))
              | (go_at_call 42; (with_reducible refine (cRp _).mono ?_); rintro e w5 ⟨rfl, h9⟩; have HX := Lib.hid (HX.out.up h9); clear h9)
              | (go_at_call 42; (with_reducible refine (cRq _).mono ?_); rintro e w5 ⟨rfl, h9⟩; have HX := Lib.hid (HX.out.up h9); clear h9))
            have hS : Mko w (some a) H.length cap g g2 p q _ := HX.out.up (Below.refl _ _).drew
            refine wp_region_held_drew (S := Mko w (some a) H.length cap g g2 p q) (by kernel_rfl) hS (fun hHeld => ?_)
            refine hH_take (i := 0) (v := .agg #[.slice (some a) H.length cap]) (d := 41) (l2 := #[true, false, false, false, false, false, false, false, false, false, false, false, false, false, false, false, false, false, false, false]) rfl (by kernel_rfl) (by kernel_rfl) (by kernel_rfl) (fun _ _ _ h => h) (by kernel_rfl) ?_ (by assumption) rfl (by kernel_rfl) ?_
            · intro w hSw; exact ex_load_at (h1_load hSw.bk.h) rfl rfl
            simp only [List.set]
            refine hH_take (i := 1) (v := vN.val) (d := 42) (l2 := #[true, true, false, false, false, false, false, false, false, false, false, false, false, false, false, false, false, false, false, false]) rfl (by kernel_rfl) (by kernel_rfl) (by kernel_rfl) (fun _ _ _ h => h) (by kernel_rfl) ?_ (by assumption) rfl (by kernel_rfl) ?_
            · intro w hSw; exact eb_n rfl
            simp only [List.set]
            refine hH_take (i := 2) (v := .agg (obA p)) (d := 43) (l2 := #[true, true, true, false, false, false, false, false, false, false, false, false, false, false, false, false, false, false, false, false]) rfl (by kernel_rfl) (by kernel_rfl) (by kernel_rfl) (fun _ _ _ h => h) (by kernel_rfl) ?_ (by assumption) rfl (by kernel_rfl) ?_
            · intro w hSw; exact ex_load_at (oa_run (ob_cells hSw.ft)) rfl rfl
            simp only [List.set]
            refine hH_take (i := 3) (v := .int .i64 (k : Int)) (d := 44) (l2 := #[true, true, true, true, false, false, false, false, false, false, false, false, false, false, false, false, false, false, false, false]) rfl (by kernel_rfl) (by kernel_rfl) (by kernel_rfl) (fun _ _ _ h => h) (by kernel_rfl) ?_ (by assumption) rfl (by kernel_rfl) ?_
            · intro w hSw; go_simp; (try with_reducible rfl)
            simp only [List.set]
            refine hH_take (i := 5) (v := .agg (obA q)) (d := 46) (l2 := #[true, true, true, true, false, true, false, false, false, false, false, false, false, false, false, false, false, false, false, false]) rfl (by kernel_rfl) (by kernel_rfl) (by kernel_rfl) (fun _ _ _ h => h) (by kernel_rfl) ?_ (by assumption) rfl (by kernel_rfl) ?_
            · intro w hSw; exact ex_load_at (oa_run (ob_cells hSw.fg)) rfl rfl
            simp only [List.set]
            refine hH_take (i := 6) (v := .int .i64 (l : Int)) (d := 47) (l2 := #[true, true, true, true, false, true, true, false, false, false, false, false, false, false, false, false, false, false, false, false]) rfl (by kernel_rfl) (by kernel_rfl) (by kernel_rfl) (fun _ _ _ h => h) (by kernel_rfl) ?_ (by assumption) rfl (by kernel_rfl) ?_
            · intro w hSw; go_simp; (try with_reducible rfl)
            simp only [List.set]
            refine hH_take (i := 8) (v := .pointer (some ⟨g, 16, none⟩)) (d := 49) (l2 := #[true, true, true, true, false, true, true, false, true, false, false, false, false, false, false, false, false, false, false, false]) rfl (by kernel_rfl) (by kernel_rfl) (by kernel_rfl) (fun _ _ _ h => h) (by kernel_rfl) ?_ (by assumption) rfl (by kernel_rfl) ?_
            · intro w hSw; go_simp; (try with_reducible rfl)
            simp only [List.set]
            refine hH_take (i := 9) (v := .bool p.calls) (d := 50) (l2 := #[true, true, true, true, false, true, true, false, true, true, false, false, false, false, false, false, false, false, false, false]) rfl (by kernel_rfl) (by kernel_rfl) (by kernel_rfl) (fun _ _ _ h => h) (by kernel_rfl) ?_ (by assumption) rfl (by kernel_rfl) ?_
            · intro w hSw; have q : w.cell? ⟨g, 16, none⟩ = some (.bool p.calls) := (vcells hSw.ft 16).trans rfl; go_simp; (try with_reducible rfl)
            simp only [List.set]
            refine hH_take (i := 10) (v := .pointer (some ⟨g, 17, none⟩)) (d := 51) (l2 := #[true, true, true, true, false, true, true, false, true, true, true, false, false, false, false, false, false, false, false, false]) rfl (by kernel_rfl) (by kernel_rfl) (by kernel_rfl) (fun _ _ _ h => h) (by kernel_rfl) ?_ (by assumption) rfl (by kernel_rfl) ?_
            · intro w hSw; go_simp; (try with_reducible rfl)
            simp only [List.set]
            refine hH_take (i := 11) (v := .bool p.makes) (d := 52) (l2 := #[true, true, true, true, false, true, true, false, true, true, true, true, false, false, false, false, false, false, false, false]) rfl (by kernel_rfl) (by kernel_rfl) (by kernel_rfl) (fun _ _ _ h => h) (by kernel_rfl) ?_ (by assumption) rfl (by kernel_rfl) ?_
            · intro w hSw; have q : w.cell? ⟨g, 17, none⟩ = some (.bool p.makes) := (vcells hSw.ft 17).trans rfl; go_simp; (try with_reducible rfl)
            simp only [List.set]
            refine wpAnyH_ready (rs := [4]) (by kernel_rfl) (by simp) ?_
            refine AllReadyH.cons rfl (fun K hK => ?_) AllReadyH.nil
            go_simp
            go_at_call 47
            (with_reducible refine (valueOf_c p k _).mono ?_)
            rintro e w14 ⟨rfl, h1⟩
            have hS := hS.up h1
            clear h1
            refine hK.out _ _ hS (fun hHeld => ?_)
            clear hK K
            refine wpAnyH_ready (rs := [7]) (by kernel_rfl) (by simp) ?_
            refine AllReadyH.cons rfl (fun K hK => ?_) AllReadyH.nil
            go_simp
            go_at_call 47
            (with_reducible refine (valueOf_c q l _).mono ?_)
            rintro e w17 ⟨rfl, h1⟩
            have hS := hS.up h1
            clear h1
            refine hK.out _ _ hS (fun hHeld => ?_)
            clear hK K
            refine hH_take (i := 12) (v := .agg (obA ⟨6, vN, false, none, 0, [], chVal p k, chVal q l, ⟨#[]⟩, p.calls, p.makes⟩)) (d := 53) (l2 := #[true, true, true, true, true, true, true, true, true, true, true, true, true, false, false, false, false, false, false, false]) rfl (by kernel_rfl) (by kernel_rfl) (by kernel_rfl) (fun _ _ _ h => h) (by kernel_rfl) ?_ (by assumption) rfl (by kernel_rfl) ?_
            · intro w hSw; exact eb_pm (u := chVal p k) (v := chVal q l) rfl rfl rfl rfl rfl rfl
            simp only [List.set]
            refine wpAnyH_ready (rs := [13]) (by kernel_rfl) (by simp) ?_
            refine AllReadyH.cons rfl (fun K hK => ?_) AllReadyH.nil
            go_simp
            go_at_call 46
            (with_reducible refine (cN _ hS.bk.below).mono ?_)
            rintro e w20 ⟨rfl, h1⟩
            have hS := hS.up h1
            clear h1
            refine hK.out _ _ hS (fun hHeld => ?_)
            clear hK K
            refine hH_take (i := 14) (v := .agg #[.slice none 0 0]) (d := 55) (l2 := #[true, true, true, true, true, true, true, true, true, true, true, true, true, true, true, false, false, false, false, false]) rfl (by kernel_rfl) (by kernel_rfl) (by kernel_rfl) (fun _ _ _ h => h) (by kernel_rfl) ?_ (by assumption) rfl (by kernel_rfl) ?_
            · intro w hSw; go_simp; (try with_reducible rfl)
            simp only [List.set]
            refine hH_take (i := 15) (v := .int .i64 0) (d := 56) (l2 := #[true, true, true, true, true, true, true, true, true, true, true, true, true, true, true, true, false, false, false, false]) rfl (by kernel_rfl) (by kernel_rfl) (by kernel_rfl) (fun _ _ _ h => h) (by kernel_rfl) ?_ (by assumption) rfl (by kernel_rfl) ?_
            · intro w hSw; go_simp; (try with_reducible rfl)
            simp only [List.set]
            refine hH_take (i := 16) (v := .int .i64 4) (d := 57) (l2 := #[true, true, true, true, true, true, true, true, true, true, true, true, true, true, true, true, true, false, false, false]) rfl (by kernel_rfl) (by kernel_rfl) (by kernel_rfl) (fun _ _ _ h => h) (by kernel_rfl) ?_ (by assumption) rfl (by kernel_rfl) ?_
            · intro w hSw; go_simp; (try with_reducible rfl)
            simp only [List.set]
            refine wpAnyH_ready (rs := [17]) (by kernel_rfl) (by simp) ?_
            refine AllReadyH.cons rfl (fun K hK => ?_) AllReadyH.nil
            refine r_store (by kernel_rfl) rfl rfl rfl hS.bk.r.choose_spec (hi1 (.slice none 0 0)) rfl (hc1 (.slice none 0 0) rfl) rfl ?_
            have hW6 := setRow_heap _ _ _ #[.slice none 0 0] _ _ hS.bk.r.choose_spec
            have hS := hS.set (.slice none 0 0)
            generalize w20.setRow (w.heap.size + 1) #[.slice none 0 0] = W6 at *
            refine hK.out _ _ hS (fun hHeld => ?_)
            clear hK K
            refine hH_take (i := 18) (v := .int .i64 0) (d := 7) (l2 := #[true, true, true, true, true, true, true, true, true, true, true, true, true, true, true, true, true, true, true, false]) rfl (by kernel_rfl) (by kernel_rfl) (by kernel_rfl) (fun _ _ _ h => h) (by kernel_rfl) ?_ (by assumption) rfl (by kernel_rfl) ?_
            · intro w hSw; go_simp; (try with_reducible rfl)
            simp only [List.set]
            refine hH_take (i := 19) (v := .int .i64 4) (d := 8) (l2 := #[true, true, true, true, true, true, true, true, true, true, true, true, true, true, true, true, true, true, true, true]) rfl (by kernel_rfl) (by kernel_rfl) (by kernel_rfl) (fun _ _ _ h => h) (by kernel_rfl) ?_ (by assumption) rfl (by kernel_rfl) ?_
            · intro w hSw; go_simp; (try with_reducible rfl)
            simp only [List.set]
            refine wpAnyH_done (by kernel_rfl) ?_ _
            go_wp2_with (fail)
            exact new_end Tryz.results14 rfl rfl rfl hW6 ⟨hS.bk.below, .inl ⟨by rw [hmk]; decide, by rw [hmk]⟩⟩
          · have cN : ∀ W, Below w.heap.size w W → Calls Tryz.prog 46 #[.agg #[.slice (some a) H.length cap], .agg (obA ⟨6, vN, false, none, 0, [], chVal p k, chVal q l, ⟨#[]⟩, p.calls, p.makes⟩)] W fun e w' => ∃ B M, e = .returned (.tuple #[.agg #[.slice (some ⟨B, 0, none⟩) (H.length + 1) (H.length + 1)], .int .i64 H.length, .int .i64 0]) ∧ Tw W.heap.size B (H ++ [chObj H k l]) M w' ∧ Below W.heap.size W w' := fun W hb =>
              (cN W hb).mono fun e w' ⟨h9, h⟩ => by
                have h4 := HNE.out
                rw [if_neg hf] at h4
                rcases h with ⟨h, _⟩ | ⟨_, B, M, h5, h6⟩
                · exact absurd h4 h
                · exact ⟨B, M, h5, h6, h9⟩
            rw [if_neg hf] at hmk
            clear hf
            go_upto_region 7 with (first
              | ((with_reducible refine ob_load ?_ rfl rfl HX.out.ft ?_); (rfl))
              | ((with_reducible refine ob_load ?_ rfl rfl HX.out.fg ?_); (rfl))
              | (go_at_call 42; (with_reducible refine (cRp _).mono ?_); rintro e w5 ⟨rfl, h9⟩; have HX := Lib.hid (HX.out.up h9); clear h9)
              | (go_at_call 42; (with_reducible refine (cRq _).mono ?_); rintro e w5 ⟨rfl, h9⟩; have HX := Lib.hid (HX.out.up h9); clear h9))
            have hS : Mko w (some a) H.length cap g g2 p q _ := HX.out.up (Below.refl _ _).drew
            refine wp_region_held_drew (S := Mko w (some a) H.length cap g g2 p q) (by kernel_rfl) hS (fun hHeld => ?_)
            refine hH_take (i := 0) (v := .agg #[.slice (some a) H.length cap]) (d := 41) (l2 := #[true, false, false, false, false, false, false, false, false, false, false, false, false, false, false, false, false, false, false, false]) rfl (by kernel_rfl) (by kernel_rfl) (by kernel_rfl) (fun _ _ _ h => h) (by kernel_rfl) ?_ (by assumption) rfl (by kernel_rfl) ?_
            · intro w hSw; exact ex_load_at (h1_load hSw.bk.h) rfl rfl
            simp only [List.set]
            refine hH_take (i := 1) (v := vN.val) (d := 42) (l2 := #[true, true, false, false, false, false, false, false, false, false, false, false, false, false, false, false, false, false, false, false]) rfl (by kernel_rfl) (by kernel_rfl) (by kernel_rfl) (fun _ _ _ h => h) (by kernel_rfl) ?_ (by assumption) rfl (by kernel_rfl) ?_
            · intro w hSw; exact eb_n rfl
            simp only [List.set]
            refine hH_take (i := 2) (v := .agg (obA p)) (d := 43) (l2 := #[true, true, true, false, false, false, false, false, false, false, false, false, false, false, false, false, false, false, false, false]) rfl (by kernel_rfl) (by kernel_rfl) (by kernel_rfl) (fun _ _ _ h => h) (by kernel_rfl) ?_ (by assumption) rfl (by kernel_rfl) ?_
            · intro w hSw; exact ex_load_at (oa_run (ob_cells hSw.ft)) rfl rfl
            simp only [List.set]
            refine hH_take (i := 3) (v := .int .i64 (k : Int)) (d := 44) (l2 := #[true, true, true, true, false, false, false, false, false, false, false, false, false, false, false, false, false, false, false, false]) rfl (by kernel_rfl) (by kernel_rfl) (by kernel_rfl) (fun _ _ _ h => h) (by kernel_rfl) ?_ (by assumption) rfl (by kernel_rfl) ?_
            · intro w hSw; go_simp; (try with_reducible rfl)
            simp only [List.set]
            refine hH_take (i := 5) (v := .agg (obA q)) (d := 46) (l2 := #[true, true, true, true, false, true, false, false, false, false, false, false, false, false, false, false, false, false, false, false]) rfl (by kernel_rfl) (by kernel_rfl) (by kernel_rfl) (fun _ _ _ h => h) (by kernel_rfl) ?_ (by assumption) rfl (by kernel_rfl) ?_
            · intro w hSw; exact ex_load_at (oa_run (ob_cells hSw.fg)) rfl rfl
            simp only [List.set]
            refine hH_take (i := 6) (v := .int .i64 (l : Int)) (d := 47) (l2 := #[true, true, true, true, false, true, true, false, false, false, false, false, false, false, false, false, false, false, false, false]) rfl (by kernel_rfl) (by kernel_rfl) (by kernel_rfl) (fun _ _ _ h => h) (by kernel_rfl) ?_ (by assumption) rfl (by kernel_rfl) ?_
            · intro w hSw; go_simp; (try with_reducible rfl)
            simp only [List.set]
            refine hH_take (i := 8) (v := .pointer (some ⟨g, 16, none⟩)) (d := 49) (l2 := #[true, true, true, true, false, true, true, false, true, false, false, false, false, false, false, false, false, false, false, false]) rfl (by kernel_rfl) (by kernel_rfl) (by kernel_rfl) (fun _ _ _ h => h) (by kernel_rfl) ?_ (by assumption) rfl (by kernel_rfl) ?_
            · intro w hSw; go_simp; (try with_reducible rfl)
            simp only [List.set]
            refine hH_take (i := 9) (v := .bool p.calls) (d := 50) (l2 := #[true, true, true, true, false, true, true, false, true, true, false, false, false, false, false, false, false, false, false, false]) rfl (by kernel_rfl) (by kernel_rfl) (by kernel_rfl) (fun _ _ _ h => h) (by kernel_rfl) ?_ (by assumption) rfl (by kernel_rfl) ?_
            · intro w hSw; have q : w.cell? ⟨g, 16, none⟩ = some (.bool p.calls) := (vcells hSw.ft 16).trans rfl; go_simp; (try with_reducible rfl)
            simp only [List.set]
            refine hH_take (i := 10) (v := .pointer (some ⟨g, 17, none⟩)) (d := 51) (l2 := #[true, true, true, true, false, true, true, false, true, true, true, false, false, false, false, false, false, false, false, false]) rfl (by kernel_rfl) (by kernel_rfl) (by kernel_rfl) (fun _ _ _ h => h) (by kernel_rfl) ?_ (by assumption) rfl (by kernel_rfl) ?_
            · intro w hSw; go_simp; (try with_reducible rfl)
            simp only [List.set]
            refine hH_take (i := 11) (v := .bool p.makes) (d := 52) (l2 := #[true, true, true, true, false, true, true, false, true, true, true, true, false, false, false, false, false, false, false, false]) rfl (by kernel_rfl) (by kernel_rfl) (by kernel_rfl) (fun _ _ _ h => h) (by kernel_rfl) ?_ (by assumption) rfl (by kernel_rfl) ?_
            · intro w hSw; have q : w.cell? ⟨g, 17, none⟩ = some (.bool p.makes) := (vcells hSw.ft 17).trans rfl; go_simp; (try with_reducible rfl)
            simp only [List.set]
            refine wpAnyH_ready (rs := [4]) (by kernel_rfl) (by simp) ?_
            refine AllReadyH.cons rfl (fun K hK => ?_) AllReadyH.nil
            go_simp
            go_at_call 47
            (with_reducible refine (valueOf_c p k _).mono ?_)
            rintro e w14 ⟨rfl, h1⟩
            have hS := hS.up h1
            clear h1
            refine hK.out _ _ hS (fun hHeld => ?_)
            clear hK K
            refine wpAnyH_ready (rs := [7]) (by kernel_rfl) (by simp) ?_
            refine AllReadyH.cons rfl (fun K hK => ?_) AllReadyH.nil
            go_simp
            go_at_call 47
            (with_reducible refine (valueOf_c q l _).mono ?_)
            rintro e w17 ⟨rfl, h1⟩
            have hS := hS.up h1
            clear h1
            refine hK.out _ _ hS (fun hHeld => ?_)
            clear hK K
            refine hH_take (i := 12) (v := .agg (obA ⟨6, vN, false, none, 0, [], chVal p k, chVal q l, ⟨#[]⟩, p.calls, p.makes⟩)) (d := 53) (l2 := #[true, true, true, true, true, true, true, true, true, true, true, true, true, false, false, false, false, false, false, false]) rfl (by kernel_rfl) (by kernel_rfl) (by kernel_rfl) (fun _ _ _ h => h) (by kernel_rfl) ?_ (by assumption) rfl (by kernel_rfl) ?_
            · intro w hSw; exact eb_pm (u := chVal p k) (v := chVal q l) rfl rfl rfl rfl rfl rfl
            simp only [List.set]
            refine wpAnyH_ready (rs := [13]) (by kernel_rfl) (by simp) ?_
            refine AllReadyH.cons rfl (fun K hK => ?_) AllReadyH.nil
            go_simp
            go_at_call 46
            (with_reducible refine (cN _ hS.bk.below).mono ?_)
            rintro e w20 ⟨B, M, rfl, hT, h1⟩
            have hlt : w.heap.size + 1 < B := by have := hT.le; have := hS.bk.size; omega
            have hT := hT.mono hS.bk.below.size
            have hS := hS.up h1
            clear h1
            refine hK.out _ _ hS (fun hHeld => ?_)
            clear hK K
            refine hH_take (i := 14) (v := .agg #[.slice (some ⟨B, 0, none⟩) (H.length + 1) (H.length + 1)]) (d := 55) (l2 := #[true, true, true, true, true, true, true, true, true, true, true, true, true, true, true, false, false, false, false, false]) rfl (by kernel_rfl) (by kernel_rfl) (by kernel_rfl) (fun _ _ _ h => h) (by kernel_rfl) ?_ (by assumption) rfl (by kernel_rfl) ?_
            · intro w hSw; go_simp; (try with_reducible rfl)
            simp only [List.set]
            refine hH_take (i := 15) (v := .int .i64 (H.length : Int)) (d := 56) (l2 := #[true, true, true, true, true, true, true, true, true, true, true, true, true, true, true, true, false, false, false, false]) rfl (by kernel_rfl) (by kernel_rfl) (by kernel_rfl) (fun _ _ _ h => h) (by kernel_rfl) ?_ (by assumption) rfl (by kernel_rfl) ?_
            · intro w hSw; go_simp; (try with_reducible rfl)
            simp only [List.set]
            refine hH_take (i := 16) (v := .int .i64 0) (d := 57) (l2 := #[true, true, true, true, true, true, true, true, true, true, true, true, true, true, true, true, true, false, false, false]) rfl (by kernel_rfl) (by kernel_rfl) (by kernel_rfl) (fun _ _ _ h => h) (by kernel_rfl) ?_ (by assumption) rfl (by kernel_rfl) ?_
            · intro w hSw; go_simp; (try with_reducible rfl)
            simp only [List.set]
            refine wpAnyH_ready (rs := [17]) (by kernel_rfl) (by simp) ?_
            refine AllReadyH.cons rfl (fun K hK => ?_) AllReadyH.nil
            refine r_store (by kernel_rfl) rfl rfl rfl hS.bk.r.choose_spec (hi1 (.slice (some ⟨B, 0, none⟩) (H.length + 1) (H.length + 1))) rfl (hc1 (.slice (some ⟨B, 0, none⟩) (H.length + 1) (H.length + 1)) rfl) rfl ?_
            have hW6 := setRow_heap _ _ _ #[.slice (some ⟨B, 0, none⟩) (H.length + 1) (H.length + 1)] _ _ hS.bk.r.choose_spec
            have hT6 := hT.other (W' := w20.setRow (w.heap.size + 1) #[.slice (some ⟨B, 0, none⟩) (H.length + 1) (H.length + 1)]) (fun j hj => setRow_other w20 _ j _ hj) hlt
            have hS := hS.set (.slice (some ⟨B, 0, none⟩) (H.length + 1) (H.length + 1))
            generalize w20.setRow (w.heap.size + 1) #[.slice (some ⟨B, 0, none⟩) (H.length + 1) (H.length + 1)] = W6 at *
            refine hK.out _ _ hS (fun hHeld => ?_)
            clear hK K
            refine hH_take (i := 18) (v := .int .i64 (H.length : Int)) (d := 7) (l2 := #[true, true, true, true, true, true, true, true, true, true, true, true, true, true, true, true, true, true, true, false]) rfl (by kernel_rfl) (by kernel_rfl) (by kernel_rfl) (fun _ _ _ h => h) (by kernel_rfl) ?_ (by assumption) rfl (by kernel_rfl) ?_
            · intro w hSw; go_simp; (try with_reducible rfl)
            simp only [List.set]
            refine hH_take (i := 19) (v := .int .i64 0) (d := 8) (l2 := #[true, true, true, true, true, true, true, true, true, true, true, true, true, true, true, true, true, true, true, true]) rfl (by kernel_rfl) (by kernel_rfl) (by kernel_rfl) (fun _ _ _ h => h) (by kernel_rfl) ?_ (by assumption) rfl (by kernel_rfl) ?_
            · intro w hSw; go_simp; (try with_reducible rfl)
            simp only [List.set]
            refine wpAnyH_done (by kernel_rfl) ?_ _
            go_wp2_with (fail)
            refine new_end Tryz.results14 rfl rfl rfl hW6 ⟨hS.bk.below, .inr ⟨hmk, B, M, rfl, ?_⟩⟩
            rw [Int.toNat_natCast, Int.toNat_natCast]
            exact hT6
  · have hzb : (orE x y != 0) = true := by unfold bne; rw [beq_eq_false_iff_ne.2 h0]; rfl
    have HM := Lib.hid (hmk1 h0)
    have HZ := Lib.hid h0
    obtain ⟨v0, hr⟩ := HN.out.r
    have hB := HN.out.below
    clear h0 hmk1 hmk2 hz1 hz2
    generalize orE x y = E at *
    go_wp2_with ((with_reducible refine t_store rfl rfl rfl rfl hr (hi1 _) ?_ (hc1 _ rfl) hB (by omega) ?_); (rfl); intro W6 hb6 hW6 hO6 _)
    exact new_end Tryz.results14 rfl rfl rfl hW6 ⟨hb6, .inl ⟨by rw [HM.out]; exact HZ.out, by rw [HM.out]⟩⟩
end Go.Proofs.YtkcikdggfbjedaaGreatDoor.S
/-
  ordinary: asks, what comes of them, and an object that is asked.
-/
namespace Go.Proofs.YtkcikdggfbjedaaGreatDoor.S
open Go.RowKit Go.Lib Fl
open Classical

/-- an ask; where its args lie counts for nothing -/
structure Ak where
  m : Int
  n : Int
  k : Ky
  d : Dq
  v : Vq
  rv : Vq
  aa : Option Addr
  an : Nat
  ac : Nat
def akl (a : Ak) : List Value := [.int .u8 a.m, .int .i64 a.n, .string a.k.str, .int .i64 a.k.sym, .int .u8 a.d.h, .int .u8 a.d.a.k, .float .f64 a.d.a.x, .string a.d.a.s, .int .i64 a.d.a.r, .int .u8 a.d.b.k, .float .f64 a.d.b.x, .string a.d.b.s, .int .i64 a.d.b.r, .int .u8 a.d.c.k, .float .f64 a.d.c.x, .string a.d.c.s, .int .i64 a.d.c.r, .bool a.d.p, .bool a.d.q, .bool a.d.z,
  .int .u8 a.v.k, .float .f64 a.v.x, .string a.v.s, .int .i64 a.v.r, .int .u8 a.rv.k, .float .f64 a.rv.x, .string a.rv.s, .int .i64 a.rv.r, .slice a.aa a.an a.ac]
def akA (a : Ak) : Array Value := (akl a).toArray
/-- what came of an ask -/
structure Oq where
  kind : Int
  v : Vq
  b : Bool
  found : Bool
  d : Dq
  ka : Option Addr
  kn : Nat
  kc : Nat
  err : Int
  text : ByteArray
def oql (o : Oq) : List Value := [.int .u8 o.kind, .int .u8 o.v.k, .float .f64 o.v.x, .string o.v.s, .int .i64 o.v.r, .bool o.b, .bool o.found, .int .u8 o.d.h, .int .u8 o.d.a.k, .float .f64 o.d.a.x, .string o.d.a.s, .int .i64 o.d.a.r, .int .u8 o.d.b.k, .float .f64 o.d.b.x, .string o.d.b.s, .int .i64 o.d.b.r, .int .u8 o.d.c.k, .float .f64 o.d.c.x, .string o.d.c.s, .int .i64 o.d.c.r, .bool o.d.p, .bool o.d.q, .bool o.d.z,
  .slice o.ka o.kn o.kc, .int .u8 o.err, .string o.text]
def oqA (o : Oq) : Array Value := (oql o).toArray
def yesO (b : Bool) : Oq := ⟨1, v0, b, false, dz 0, none, 0, 0, 0, ⟨#[]⟩⟩
/-- an object that is asked: its heap, where it lies, the ask -/
def asl (B m : Nat) (p : Addr) (a : Ak) : List Value := [.slice (some ⟨B, 0, none⟩) m m, .pointer (some p)] ++ akl a
def asA (B m : Nat) (p : Addr) (a : Ak) : Array Value := (asl B m p a).toArray
abbrev oz26 : Array Value := #[.int .u8 0, .int .u8 0, .float .f64 0, .string ⟨#[]⟩, .int .i64 0, .bool false, .bool false, .int .u8 0, .int .u8 0, .float .f64 0, .string ⟨#[]⟩, .int .i64 0, .int .u8 0, .float .f64 0, .string ⟨#[]⟩, .int .i64 0, .int .u8 0, .float .f64 0, .string ⟨#[]⟩, .int .i64 0, .bool false, .bool false, .bool false, .slice none 0 0, .int .u8 0, .string ⟨#[]⟩]
/-- a method's own blocks: the object that is asked by value, its result -/
structure Mw (w : World) (B m : Nat) (p : Addr) (a : Ak) (W : World) : Prop where
  below : Below w.heap.size w W
  a : W.heap[w.heap.size]? = some (.cells (asA B m p a) 103 (0, 0))
  r : W.heap[w.heap.size + 1]? = some (.cells oz26 55 (0, 0))
theorem Mw.up {w : World} {B m : Nat} {p : Addr} {a : Ak} {W W' : World} (h : Mw w B m p a W) (hb : Below W.heap.size W W') : Mw w B m p a W' := ⟨vb h.below hb, vblkn hb h.a, vblkn hb h.r⟩
theorem Mw.p {w : World} {B m : Nat} {p : Addr} {a : Ak} {W : World} (h : Mw w B m p a W) : W.cell? ⟨w.heap.size, 1, none⟩ = some (.pointer (some p)) := (vcells h.a 1).trans rfl
theorem Mw.h {w : World} {B m : Nat} {p : Addr} {a : Ak} {W : World} (h : Mw w B m p a W) : W.cell? ⟨w.heap.size, 0, none⟩ = some (.slice (some ⟨B, 0, none⟩) m m) := (vcells h.a 0).trans rfl
def protoO (o : Ob) : Oq := ⟨1, o.proto, false, false, dz 0, none, 0, 0, 0, ⟨#[]⟩⟩
end Go.Proofs.YtkcikdggfbjedaaGreatDoor.S
