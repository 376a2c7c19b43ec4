/-
  ordinary: what a method changes: a field of an object among others.
-/
import Derived.Test.YtlfbflclefndjaaGreatDoorKE23
namespace Go.Proofs.YtlfbflclefndjaaGreatDoor.S
open Go.RowKit Go.Lib Fl
open Classical

theorem hcl_parts (M : List Ob) (k : Nat) (h : k < M.length) : hcl M = (hcl M).take (k * 18) ++ ocl M[k] ++ (hcl M).drop (k * 18 + 18) := by
  have := hcl_put M k M[k] h
  rw [List.set_getElem_self] at this
  exact this.symm
theorem hcl_patch {M : List Ob} {k j : Nat} {l : List Value} {o : Ob} (h : k < M.length) (hj : j + l.length ≤ 18) (ho : (ocl M[k]).take j ++ l ++ (ocl M[k]).drop (j + l.length) = ocl o) :
    (hcl M).take (k * 18 + j) ++ l ++ (hcl M).drop (k * 18 + j + l.length) = hcl (M.set k o) := by
  have hA : ((hcl M).take (k * 18)).length = k * 18 := by rw [List.length_take, hcl_len]; omega
  have hB := ocl_len M[k]
  rw [← hcl_put M k o h, ← ho]
  have hp := hcl_parts M k h
  generalize (hcl M).take (k * 18) = A at *
  generalize (hcl M).drop (k * 18 + 18) = C at *
  generalize ocl M[k] = B at *
  have e1 : (hcl M).take (k * 18 + j) = A ++ B.take j := by
    rw [hp, List.append_assoc, List.take_append, hA, List.take_of_length_le (by omega), show k * 18 + j - k * 18 = j by omega, List.take_append_of_le_length (by omega)]
  have e2 : (hcl M).drop (k * 18 + j + l.length) = B.drop (j + l.length) ++ C := by
    rw [hp, List.append_assoc, List.drop_append, hA, List.drop_of_length_le (by omega), List.nil_append, show k * 18 + j + l.length - k * 18 = j + l.length by omega, List.drop_append_of_le_length (by omega)]
  rw [e1, e2]
  simp only [List.append_assoc]
/-- the objects in block B are M now, all else that lay is as it was -/
structure Chg (w : World) (B : Nat) (M : List Ob) (W : World) : Prop where
  g : w.grownBy W (some B)
  b : W.heap[B]? = some (.cells (hcl M).toArray 37 (0, 0))
theorem Chg.up {w : World} {B : Nat} {M : List Ob} {W W' : World} (h : Chg w B M W) (hw : w.heap.size ≤ W.heap.size) (hb : Below W.heap.size W W') : Chg w B M W' :=
  ⟨⟨hb.os.trans h.g.os, hb.tape.trans h.g.tape, hb.output.trans h.g.output, Nat.le_trans h.g.size hb.size, fun k hk hn => (hb.block k (by omega)).trans (h.g.block k hk hn)⟩, vblkn hb h.b⟩
theorem of_hcl {W : World} {B k : Nat} {M : List Ob} {t : TypeId} (h : W.heap[B]? = some (.cells (hcl M).toArray t (0, 0))) (hk : k < M.length) : OF W ⟨B, k * 18, none⟩ M[k] := by
  obtain ⟨a, h1, h2, h3⟩ := orow_b h (by omega)
  obtain rfl := Option.some.inj h1
  have e : (⟨B, 0, none⟩ : Addr).add (k * 18) = ⟨B, k * 18, none⟩ := by rw [Addr.add_mid, Nat.zero_add]
  exact of_cells (lt_blk h) fun j u hu => by have := h3 k hk j u hu; rwa [e] at this
section
variable {ops : Array Oper} {rest : List Oper} {o : Oper} {a : Act} {w : World} {Q : Exit → Act → World → Prop} {x y : Operand} {t : TypeId}
/-- a bool stored into a row -/
theorem bl_store {cs : List Value} {g m : Nat} {b : Bool} (hgd : o.guard = none) (ho : o.op = .store 4 x y) (hx : a.eval x = .pointer (some ⟨g, m, none⟩)) (hy : a.eval y = .bool b) (hg : w.heap[g]? = some (.cells cs.toArray t (0, 0))) (hm : m < cs.length)
    (h : ∀ W : World, W.heap[g]? = some (.cells (cs.take m ++ ([.bool b] : List Value) ++ cs.drop (m + 1)).toArray t (0, 0)) → w.grownBy W (some g) → W.heap.size = w.heap.size → wpList Tryz.prog ops Q rest (a.put o.dst undef) W) : wpList Tryz.prog ops Q (o :: rest) a w := by
  have hc : w.cell? ⟨g, m, none⟩ = some cs[m] := by rw [vcells hg m]; simp [hm]
  have hf : w.frozen? ⟨g, m, none⟩ = false := by simp [World.frozen?, hg]
  refine wpList_plain hgd fun K hK => ?_
  have hr : (Instr.storeAt 4 (.pointer (some ⟨g, m, none⟩)) (.bool b)).run Tryz.prog w = .ok () (w.setCell ⟨g, m, none⟩ (.bool b)) := by simp [go_sem, hc, hf]
  unfold Oper.wp execOp
  simp only [ho, hx, hy, hr, Sem.run_bind, Sem.run_pure, Result.andThen_ok]
  have e : cs.toArray.setIfInBounds m (.bool b) = (cs.take m ++ ([.bool b] : List Value) ++ cs.drop (m + 1)).toArray := by
    rw [List.setIfInBounds_toArray, List.set_eq_take_append_cons_drop, if_pos hm]
    simp
  refine hK _ _ (h _ (e ▸ vset1 hg m _) ⟨rfl, rfl, rfl, by simp, fun k _ hk => Below.heap_setCell w ⟨g, m, none⟩ _ k (fun e => hk (by rw [e]))⟩ (by simp))
/-- a value stored into a row -/
theorem vl_store {v : Vq} {g k : Nat} {cur : List Value} (hgd : o.guard = none) (ho : o.op = .store 34 x y) (hx : a.eval x = .pointer (some ⟨g, k, none⟩)) (hy : a.eval y = .agg #[.int .u8 v.k, .float .f64 v.x, .string v.s, .int .i64 v.r]) (hg : w.heap[g]? = some (.cells cur.toArray t (0, 0))) (hk : k + 4 ≤ cur.length)
    (h : ∀ W : World, W.heap[g]? = some (.cells (cur.take k ++ ([.int .u8 v.k, .float .f64 v.x, .string v.s, .int .i64 v.r] : List Value) ++ cur.drop (k + 4)).toArray t (0, 0)) → w.grownBy W (some g) → W.heap.size = w.heap.size → wpList Tryz.prog ops Q rest (a.put o.dst undef) W) : wpList Tryz.prog ops Q (o :: rest) a w := by
  refine wpList_plain hgd fun K hK => ?_
  have hst := run_storeCells_at Tryz.prog g k t ([.int .u8 v.k, .float .f64 v.x, .string v.s, .int .i64 v.r] : List Value) 0 cur.toArray w hg (by simpa using hk) (fun u hu => by have := vq_one v.k v.x v.s v.r; rw [Array.all_eq_true'] at this; exact this u (by simpa using hu))
  rw [Nat.add_zero] at hst
  have e := h (w.setRow g (cur.take k ++ ([.int .u8 v.k, .float .f64 v.x, .string v.s, .int .i64 v.r] : List Value) ++ cur.drop (k + 4)).toArray) (setRow_heap _ _ _ _ _ _ hg) ⟨rfl, rfl, rfl, by simp [World.setRow], fun j _ hj => setRow_other w g j _ (fun e => hj (by rw [e]))⟩ (by simp [World.setRow])
  have hrun : (storeVar 34 ⟨g, k, none⟩ (.agg #[.int .u8 v.k, .float .f64 v.x, .string v.s, .int .i64 v.r])).run Tryz.prog w = .ok () (w.setRow g (cur.take k ++ ([.int .u8 v.k, .float .f64 v.x, .string v.s, .int .i64 v.r] : List Value) ++ cur.drop (k + 4)).toArray) := by
    have hq := vsz4
    cases hq2 : Tryz.prog.info? 34 with
    | none => rw [hq2] at hq; simp at hq
    | some i =>
      have hs : 4 = i.size := by rw [hq2] at hq; simp at hq; omega
      simp [storeVar, sizeOf, typeInfo, hq2, Value.cells, ← hs]
      simpa using hst
  unfold Oper.wp execOp
  simp only [ho, hx, hy, Instr.storeAt, Instr.sureAddr, Sem.run_bind, Sem.run_pure, Result.andThen_ok, hrun]
  exact hK _ _ e
end
/-- an object that is closed; with another prototype -/
def Ob.shut (o : Ob) : Ob := { o with ext := false }
def Ob.under (o : Ob) (v : Vq) : Ob := { o with proto := v }
set_option maxHeartbeats 4000000 in
set_option maxRecDepth 1000000 in
theorem prevExt_o (B m k : Nat) (a : Ak) (M : List Ob) (w : World) (hB : w.heap[B]? = some (.cells (hcl M).toArray 37 (0, 0))) (hk : k < M.length) : Calls Tryz.prog 48 #[.agg (asA B m ⟨B, k * 18, none⟩ a)] w fun e w' => e = .returned (.agg (oqA (yesO true))) ∧ Chg w B (M.set k M[k].shut) w' := by
  have HS := Lib.hid (mw_start w B m ⟨B, k * 18, none⟩ a)
  have h1 := HS.out.p
  have hBl := lt_blk hB
  have hb0 := (HS.out.below.block B hBl).trans hB
  have cA := fun W => answer_o true W
  have hlen : k * 18 + 5 < (hcl M).length := by rw [hcl_len]; omega
  have hpat := hcl_patch (j := 5) (l := [.bool false]) (o := M[k].shut) hk (by simp) rfl
  go_enter Tryz.func48, Tryz.ntmps48
  go_wp2_with (first
    | ((with_reducible refine bl_store rfl rfl rfl rfl hb0 hlen ?_); intro W1 hW1 hG1 hz1; have HW1 := Lib.hid hW1; have HG1 := Lib.hid hG1; have HZ1 := Lib.hid hz1; clear hW1 hG1 hz1)
    | (go_at_call 70; (with_reducible refine (cA _).mono ?_); rintro e w2 ⟨rfl, h9⟩; have H9 := Lib.hid h9; have hr := vblkn h9 ((HG1.out.block (w.heap.size + 1) (lt_blk HS.out.r) (fun e => by have := Option.some.inj e; omega)).trans HS.out.r); clear h9)
    | (refine t_store (cs := oqA (yesO true)) rfl rfl rfl rfl hr (oq_info _) rfl (oqA_one _) (Below.refl (w.heap.size + 1) w2) (Nat.le_refl _) ?_; intro W3 hb3 hW3 hO3 hz3))
  refine oq_end Tryz.results48 rfl hW3 ⟨rfl, ⟨?_, ?_⟩⟩
  · have hb := HS.out.below
    have g1 := HG1.out
    have b2 := H9.out
    have hz1 : W1.heap.size = w.heap.size + 2 := HZ1.out.trans (by simp)
    have hs2 := b2.size
    have hs3 := hb3.size
    refine ⟨hb3.os.trans (b2.os.trans (g1.os.trans hb.os)), hb3.tape.trans (b2.tape.trans (g1.tape.trans hb.tape)), hb3.output.trans (b2.output.trans (g1.output.trans hb.output)), by have := b2.size; omega, fun j hj hn => ?_⟩
    exact (hO3 j (by omega)).trans ((b2.block j (by omega)).trans ((g1.block j (by simp; omega) hn).trans (hb.block j hj)))
  · rw [← hpat]
    exact (hO3 B (by omega)).trans (vblkn H9.out HW1.out)
end Go.Proofs.YtlfbflclefndjaaGreatDoor.S
/-
  ordinary: an asked object's own property.
-/
namespace Go.Proofs.YtlfbflclefndjaaGreatDoor.S
open Go.RowKit Go.Lib Fl
open Classical

abbrev dz16 : Array Value := #[.int .u8 0, .int .u8 0, .float .f64 0, .string ⟨#[]⟩, .int .i64 0, .int .u8 0, .float .f64 0, .string ⟨#[]⟩, .int .i64 0, .int .u8 0, .float .f64 0, .string ⟨#[]⟩, .int .i64 0, .bool false, .bool false, .bool false]
/-- own's blocks -/
structure Mv (w : World) (B m : Nat) (p : Addr) (a : Ak) (W : World) : Prop where
  below : Below w.heap.size w W
  a : W.heap[w.heap.size]? = some (.cells (asA B m p a) 75 (0, 0))
  r : W.heap[w.heap.size + 1]? = some (.cells dz16 41 (0, 0))
theorem Mv.up {w : World} {B m : Nat} {p : Addr} {a : Ak} {W W' : World} (h : Mv w B m p a W) (hb : Below W.heap.size W W') : Mv w B m p a W' := ⟨vb h.below hb, vblkn hb h.a, vblkn hb h.r⟩
theorem mv_start (w : World) (B m : Nat) (p : Addr) (a : Ak) : Mv w B m p a ((w.alloc (.cells (asA B m p a) 75)).alloc (.cells dz16 41)) := by
  obtain ⟨b1, b2⟩ := vblk2 (w := w) (Below.refl _ ((w.alloc (.cells (asA B m p a) 75)).alloc (.cells dz16 41)))
  exact ⟨vafter (vzero _ _), b1, b2⟩
theorem Mv.p {w : World} {B m : Nat} {p : Addr} {a : Ak} {W : World} (h : Mv w B m p a W) : W.cell? ⟨w.heap.size, 1, none⟩ = some (.pointer (some p)) := (vcells h.a 1).trans rfl
theorem ak_key {W : World} {B m g : Nat} {p : Addr} {a : Ak} {t : TypeId} (h : W.heap[g]? = some (.cells (asA B m p a) t (0, 0))) : (Instr.loadAt 26 (.pointer (some ⟨g, 4, none⟩))).run Tryz.prog W = .ok (.agg #[.string a.k.str, .int .i64 a.k.sym]) W :=
  run_loadAt_at (A := ⟨g, 4, none⟩) (cs := [.string a.k.str, .int .i64 a.k.sym]) (fun j u hu => by
    rw [Addr.add_mid, vcells h (4 + j)]
    match j, hu with
    | 0, hu => cases hu; rfl
    | 1, hu => cases hu; rfl
    | n + 2, hu => cases hu) Tryz.underlying26 rfl ksz
section
variable {ops : Array Oper} {rest : List Oper} {o : Oper} {a : Act} {w : World} {Q : Exit → Act → World → Prop} {x : Operand} {g : Nat} {t : TypeId}
theorem dq_ld {d : Dq} (hw : Region.wanted o (yielded ops a.tmps) = true) (ho : o.op = .load 41 x) (hx : a.eval x = .pointer (some ⟨g, 0, none⟩)) (hg : w.heap[g]? = some (.cells d.cells t (0, 0)))
    (h : wpList Tryz.prog ops Q rest (a.put o.dst (.agg d.cells)) w) : wpList Tryz.prog ops Q (o :: rest) a w :=
  wpList_wanted hw fun _ hK => wp_load_row 41 x ho g hx t _ (0, 0) _ hg Tryz.underlying41 rfl dsz (hK _ _ h)
end
theorem dt_end {f : Func} {i j : Nat} {t : TypeId} {Q : Ending → World → Prop} {tmps : Array Value} {W : World} {g : Nat} {d : Dq} {y : Bool} (hf : f.results = #[.cell i 41, .tmp j])
    (h2 : tmps[i]?.getD undef = .pointer (some ⟨g, 0, none⟩)) (h3 : tmps[j]?.getD undef = .bool y) (hb : W.heap[g]? = some (.cells d.cells t (0, 0))) (hQ : Q (.returned (.tuple #[.agg d.cells, .bool y])) W) :
    bodyPost Tryz.prog f Q .ret { tmps := tmps, defers := [] } W := by
  have hl := run_loadVar_row (P := Tryz.prog) W g t 41 d.cells (0, 0) _ hb Tryz.underlying41 rfl dsz
  refine bodyPost_ret (v := .tuple #[.agg d.cells, .bool y]) ?_ rfl hQ
  simp [h2, h3, results, hf, hl, asAddr]
set_option maxHeartbeats 4000000 in
set_option maxRecDepth 1000000 in
theorem own_o (B m k : Nat) (a : Ak) (o : Ob) (w : World) (ho : OF w ⟨B, k * 18, none⟩ o) (hT : TabIn w o.pa o.props o.pc) (hk : mayKy a.k) :
    Calls Tryz.prog 72 #[.agg (asA B m ⟨B, k * 18, none⟩ a)] w fun e w' => e = .returned (.tuple #[.agg (fndD o.props a.k).cells, .bool (findT o.props a.k).isSome]) ∧ Below w.heap.size w w' := by
  have HS := Lib.hid (mv_start w B m ⟨B, k * 18, none⟩ a)
  have hops := fun W (hb : Below w.heap.size w W) => (ho.up hb).props
  dsimp only at hops
  have cF := fun W (hb : Below w.heap.size w W) => Find_t o.pa o.props o.pc a.k W (hT.up hb) hk
  unfold FndTo at cF
  have hdi : ∀ d : Dq, (Tryz.prog.info? 41).map (·.size) = some d.cells.size := dc_size
  generalize fndD o.props a.k = D at *
  generalize (findT o.props a.k).isSome = R at *
  have HO := Lib.hid (And.intro ho hT)
  clear ho hT
  go_enter Tryz.func72, Tryz.ntmps72
  go_upto_region 1 with (fail)
  go_cut [4, 5] from 6 (fun qa ra wx => ∃ g : Nat, qa = .pointer (some ⟨g, 0, none⟩) ∧ ra = .bool R ∧ Hid (Mv w B m ⟨B, k * 18, none⟩ a wx ∧ wx.heap[g]? = some (.cells D.cells 41 (0, 0))))
  case first =>
    have hS : Mv w B m ⟨B, k * 18, none⟩ a (World.drew _) := HS.out.up (Below.refl _ _).drew
    refine wp_region_held_drew (S := Mv w B m ⟨B, k * 18, none⟩ a) (by kernel_rfl) hS (fun hHeld => ?_)
    obtain ⟨W0, hW0⟩ : ∃ W0, W0 = ((w.alloc (.cells (asA B m ⟨B, k * 18, none⟩ a) 75)).alloc (.cells dz16 41)).drew := ⟨_, rfl⟩
    rw [← hW0] at hS ⊢
    clear hW0
    refine hH_take (i := 0) (v := .pointer (some ⟨w.heap.size, 1, none⟩)) (d := 8) (l2 := #[true, false, false, false, false, false, false, false, false, false, false, false, false, false, false, false, false]) rfl (by kernel_rfl) (by kernel_rfl) (by kernel_rfl) (fun _ _ _ h => h) (by kernel_rfl) (fun w' hSw => by go_simp) (by assumption) rfl (by kernel_rfl) ?_
    simp only [List.set]
    refine hH_take (i := 1) (v := .pointer (some ⟨B, k * 18, none⟩)) (d := 9) (l2 := #[true, true, false, false, false, false, false, false, false, false, false, false, false, false, false, false, false]) rfl (by kernel_rfl) (by kernel_rfl) (by kernel_rfl) (fun _ _ _ h => h) (by kernel_rfl) (fun w' hSw => by have q := hSw.p; go_simp) (by assumption) rfl (by kernel_rfl) ?_
    simp only [List.set]
    refine hH_take (i := 2) (v := ?_) (d := 10) (l2 := #[true, true, true, false, false, false, false, false, false, false, false, false, false, false, false, false, false]) rfl (by kernel_rfl) (by kernel_rfl) (by kernel_rfl) (fun _ _ _ h => h) (by kernel_rfl) ?_ (by assumption) rfl (by kernel_rfl) ?_
    rotate_left
    · intro w' hSw; go_simp; (try with_reducible rfl)
    simp only [List.set]
    refine hH_take (i := 3) (v := .pointer (some ⟨B, k * 18 + 6, none⟩)) (d := 11) (l2 := #[true, true, true, true, false, false, false, false, false, false, false, false, false, false, false, false, false]) rfl (by kernel_rfl) (by kernel_rfl) (by kernel_rfl) (fun _ _ _ h => h) (by kernel_rfl) (fun w' hSw => by go_simp) (by assumption) rfl (by kernel_rfl) ?_
    simp only [List.set]
    refine hH_take (i := 4) (v := .slice o.pa o.props.length o.pc) (d := 12) (l2 := #[true, true, true, true, true, false, false, false, false, false, false, false, false, false, false, false, false]) rfl (by kernel_rfl) (by kernel_rfl) (by kernel_rfl) (fun _ _ _ h => h) (by kernel_rfl) (fun w' hSw => by have q := hops _ hSw.below; go_simp) (by assumption) rfl (by kernel_rfl) ?_
    simp only [List.set]
    refine hH_take (i := 5) (v := .pointer (some ⟨w.heap.size, 2, none⟩)) (d := 13) (l2 := #[true, true, true, true, true, true, false, false, false, false, false, false, false, false, false, false, false]) rfl (by kernel_rfl) (by kernel_rfl) (by kernel_rfl) (fun _ _ _ h => h) (by kernel_rfl) (fun w' hSw => by go_simp) (by assumption) rfl (by kernel_rfl) ?_
    simp only [List.set]
    refine hH_take (i := 6) (v := .pointer (some ⟨w.heap.size, 4, none⟩)) (d := 14) (l2 := #[true, true, true, true, true, true, true, false, false, false, false, false, false, false, false, false, false]) rfl (by kernel_rfl) (by kernel_rfl) (by kernel_rfl) (fun _ _ _ h => h) (by kernel_rfl) (fun w' hSw => by go_simp) (by assumption) rfl (by kernel_rfl) ?_
    simp only [List.set]
    refine hH_take (i := 7) (v := .agg #[.string a.k.str, .int .i64 a.k.sym]) (d := 15) (l2 := #[true, true, true, true, true, true, true, true, false, false, false, false, false, false, false, false, false]) rfl (by kernel_rfl) (by kernel_rfl) (by kernel_rfl) (fun _ _ _ h => h) (by kernel_rfl) (fun w' hSw => by exact ex_load_at (ak_key hSw.a) rfl rfl) (by assumption) rfl (by kernel_rfl) ?_
    simp only [List.set]
    refine wpAnyH_ready (rs := [8, 13]) (by kernel_rfl) (by simp) ?_
    refine (AllReadyH.cons rfl (fun K hK => ?_) (AllReadyH.cons rfl (fun K hK => ?_) AllReadyH.nil))
    · skip
      go_simp
      go_at_call 89
      (with_reducible refine (cF _ hS.below).mono ?_)
      rintro e w12 ⟨rfl, h9⟩
      have hS := hS.up h9
      refine hK.out _ _ hS (fun hHeld => ?_)
      clear hK K
      refine hH_take (i := 9) (v := .tuple #[.agg D.cells, .bool R, .int .i64 0]) (d := 7) (l2 := #[true, true, true, true, true, true, true, true, true, true, false, false, false, false, false, false, false]) rfl (by kernel_rfl) (by kernel_rfl) (by kernel_rfl) (fun _ _ _ h => h) (by kernel_rfl) (fun w' hSw => by go_simp) (by assumption) rfl (by kernel_rfl) ?_
      simp only [List.set]
      refine hH_take (i := 10) (v := .agg D.cells) (d := 17) (l2 := #[true, true, true, true, true, true, true, true, true, true, true, false, false, false, false, false, false]) rfl (by kernel_rfl) (by kernel_rfl) (by kernel_rfl) (fun _ _ _ h => h) (by kernel_rfl) (fun w' hSw => by go_simp) (by assumption) rfl (by kernel_rfl) ?_
      simp only [List.set]
      refine hH_take (i := 11) (v := .bool R) (d := 18) (l2 := #[true, true, true, true, true, true, true, true, true, true, true, true, false, false, false, false, false]) rfl (by kernel_rfl) (by kernel_rfl) (by kernel_rfl) (fun _ _ _ h => h) (by kernel_rfl) (fun w' hSw => by go_simp) (by assumption) rfl (by kernel_rfl) ?_
      simp only [List.set]
      refine hH_take (i := 12) (v := .int .i64 0) (d := 19) (l2 := #[true, true, true, true, true, true, true, true, true, true, true, true, true, false, false, false, false]) rfl (by kernel_rfl) (by kernel_rfl) (by kernel_rfl) (fun _ _ _ h => h) (by kernel_rfl) (fun w' hSw => by go_simp) (by assumption) rfl (by kernel_rfl) ?_
      simp only [List.set]
      refine wpAnyH_ready (rs := [13]) (by kernel_rfl) (by simp) ?_
      refine (AllReadyH.cons rfl (fun K hK => ?_) AllReadyH.nil)
      refine r_val (by kernel_rfl) (ea_d rfl) rfl ?_
      simp only [List.set]
      have h18 := heap_alloc_new w12 (.cells (dz 0).cells 41)
      have hS2 := hS.up (vzero w12 (.cells (dz 0).cells 41))
      refine hK.out _ _ hS2 (fun hHeld => ?_)
      clear hK K
      refine wpAnyH_ready (rs := [14]) (by kernel_rfl) (by simp) ?_
      refine (AllReadyH.cons rfl (fun K hK => ?_) AllReadyH.nil)
      refine r_store (by kernel_rfl) rfl rfl rfl h18 (hdi D) rfl (dc_one D) rfl ?_
      have hbs : Below w12.heap.size w12 ((w12.alloc (.cells (dz 0).cells 41)).setRow w12.heap.size D.cells) := below_row (vzero w12 (.cells (dz 0).cells 41)) (Nat.le_refl _) _
      have hS3 := hS.up hbs
      have h18b : ((w12.alloc (.cells (dz 0).cells 41)).setRow w12.heap.size D.cells).heap[w12.heap.size]? = some (.cells D.cells 41 (0, 0)) := setRow_heap _ _ _ _ _ _ h18
      refine hK.out _ _ hS3 (fun hHeld => ?_)
      clear hK K
      refine hH_take (i := 15) (v := .bool R) (d := 5) (l2 := #[true, true, true, true, true, true, true, true, true, true, true, true, true, true, true, true, false]) rfl (by kernel_rfl) (by kernel_rfl) (by kernel_rfl) (fun _ _ _ h => h) (by kernel_rfl) (fun w' hSw => by go_simp) (by assumption) rfl (by kernel_rfl) ?_
      simp only [List.set]
      refine hH_take (i := 16) (v := .int .i64 0) (d := 6) (l2 := #[true, true, true, true, true, true, true, true, true, true, true, true, true, true, true, true, true]) rfl (by kernel_rfl) (by kernel_rfl) (by kernel_rfl) (fun _ _ _ h => h) (by kernel_rfl) (fun w' hSw => by go_simp) (by assumption) rfl (by kernel_rfl) ?_
      simp only [List.set]
      refine wpAnyH_done (by kernel_rfl) ?_ _
      go_wp2_with (fail)
      go_meet
      case rel => exact ⟨_, rfl, rfl, Lib.hid ⟨hS3, h18b⟩⟩
    · skip
      refine r_val (by kernel_rfl) (ea_d rfl) rfl ?_
      simp only [List.set]
      have h18 := heap_alloc_new W0 (.cells (dz 0).cells 41)
      have hSa := hS.up (vzero W0 (.cells (dz 0).cells 41))
      refine hK.out _ _ hSa (fun hHeld => ?_)
      clear hK K
      refine wpAnyH_ready (rs := [8]) (by kernel_rfl) (by simp) ?_
      refine (AllReadyH.cons rfl (fun K hK => ?_) AllReadyH.nil)
      go_simp
      go_at_call 89
      (with_reducible refine (cF _ hSa.below).mono ?_)
      rintro e w12 ⟨rfl, h9⟩
      have hSb := hSa.up h9
      have h18b := vblkn h9 h18
      refine hK.out _ _ hSb (fun hHeld => ?_)
      clear hK K
      refine hH_take (i := 9) (v := .tuple #[.agg D.cells, .bool R, .int .i64 0]) (d := 7) (l2 := #[true, true, true, true, true, true, true, true, true, true, false, false, false, true, false, false, false]) rfl (by kernel_rfl) (by kernel_rfl) (by kernel_rfl) (fun _ _ _ h => h) (by kernel_rfl) (fun w' hSw => by go_simp) (by assumption) rfl (by kernel_rfl) ?_
      simp only [List.set]
      refine hH_take (i := 10) (v := .agg D.cells) (d := 17) (l2 := #[true, true, true, true, true, true, true, true, true, true, true, false, false, true, false, false, false]) rfl (by kernel_rfl) (by kernel_rfl) (by kernel_rfl) (fun _ _ _ h => h) (by kernel_rfl) (fun w' hSw => by go_simp) (by assumption) rfl (by kernel_rfl) ?_
      simp only [List.set]
      refine hH_take (i := 11) (v := .bool R) (d := 18) (l2 := #[true, true, true, true, true, true, true, true, true, true, true, true, false, true, false, false, false]) rfl (by kernel_rfl) (by kernel_rfl) (by kernel_rfl) (fun _ _ _ h => h) (by kernel_rfl) (fun w' hSw => by go_simp) (by assumption) rfl (by kernel_rfl) ?_
      simp only [List.set]
      refine hH_take (i := 12) (v := .int .i64 0) (d := 19) (l2 := #[true, true, true, true, true, true, true, true, true, true, true, true, true, true, false, false, false]) rfl (by kernel_rfl) (by kernel_rfl) (by kernel_rfl) (fun _ _ _ h => h) (by kernel_rfl) (fun w' hSw => by go_simp) (by assumption) rfl (by kernel_rfl) ?_
      simp only [List.set]
      refine wpAnyH_ready (rs := [14]) (by kernel_rfl) (by simp) ?_
      refine (AllReadyH.cons rfl (fun K hK => ?_) AllReadyH.nil)
      refine r_store (by kernel_rfl) rfl rfl rfl h18b (hdi D) rfl (dc_one D) rfl ?_
      have hbs : Below W0.heap.size W0 (w12.setRow W0.heap.size D.cells) := below_row (vafter h9) (Nat.le_refl _) _
      have hS3 := hS.up hbs
      have h18c : (w12.setRow W0.heap.size D.cells).heap[W0.heap.size]? = some (.cells D.cells 41 (0, 0)) := setRow_heap _ _ _ _ _ _ h18b
      refine hK.out _ _ hS3 (fun hHeld => ?_)
      clear hK K
      refine hH_take (i := 15) (v := .bool R) (d := 5) (l2 := #[true, true, true, true, true, true, true, true, true, true, true, true, true, true, true, true, false]) rfl (by kernel_rfl) (by kernel_rfl) (by kernel_rfl) (fun _ _ _ h => h) (by kernel_rfl) (fun w' hSw => by go_simp) (by assumption) rfl (by kernel_rfl) ?_
      simp only [List.set]
      refine hH_take (i := 16) (v := .int .i64 0) (d := 6) (l2 := #[true, true, true, true, true, true, true, true, true, true, true, true, true, true, true, true, true]) rfl (by kernel_rfl) (by kernel_rfl) (by kernel_rfl) (fun _ _ _ h => h) (by kernel_rfl) (fun w' hSw => by go_simp) (by assumption) rfl (by kernel_rfl) ?_
      simp only [List.set]
      refine wpAnyH_done (by kernel_rfl) ?_ _
      go_wp2_with (fail)
      go_meet
      case rel => exact ⟨_, rfl, rfl, Lib.hid ⟨hS3, h18c⟩⟩
  case rest =>
    obtain ⟨g, rfl, rfl, HK⟩ := hcut
    have hr := HK.out.1.r
    have hB := HK.out.1.below
    have hg := HK.out.2
    go_wp2_with (first
      | ((with_reducible refine dq_ld ?_ rfl rfl hg ?_); (rfl))
      | ((with_reducible refine t_store (cs := D.cells) rfl rfl rfl rfl hr (hdi D) ?_ (dc_one D) hB (by omega) ?_); (rfl); intro W6 hb6 hW6 hO6 _))
    exact dt_end Tryz.results72 rfl rfl hW6 ⟨rfl, hb6⟩
end Go.Proofs.YtlfbflclefndjaaGreatDoor.S
/-
  ordinary: getOwnProperty, ownKeys, method.
-/
namespace Go.Proofs.YtlfbflclefndjaaGreatDoor.S
open Go.RowKit Go.Lib Fl
open Classical

section
variable {ops : Array Oper} {rest : List Oper} {o : Oper} {a : Act} {w : World} {Q : Exit → Act → World → Prop} {x : Operand} {g : Nat} {t : TypeId}
theorem as_ld {B m : Nat} {p : Addr} {ak : Ak} (hw : Region.wanted o (yielded ops a.tmps) = true) (ho : o.op = .load 75 x) (hx : a.eval x = .pointer (some ⟨g, 0, none⟩)) (hg : w.heap[g]? = some (.cells (asA B m p ak) t (0, 0)))
    (h : wpList Tryz.prog ops Q rest (a.put o.dst (.agg (asA B m p ak))) w) : wpList Tryz.prog ops Q (o :: rest) a w :=
  wpList_wanted hw fun _ hK => wp_load_row 75 x ho g hx t _ (0, 0) _ hg Tryz.underlying75 rfl as_sz (hK _ _ h)
end
section
variable {ops : Array Oper} {rest : List Oper} {o : Oper} {a : Act} {w : World} {Q : Exit → Act → World → Prop} {x y : Operand} {g : Nat} {t : TypeId}
theorem dq_ld2 {d : Dq} (hw : Region.wanted o (yielded ops a.tmps) = true) (ho : o.op = .load 41 x) (hx : a.eval x = .pointer (some ⟨g, 0, none⟩)) (hg : w.heap[g]? = some (.cells d.cells t (0, 0)))
    (h : wpList Tryz.prog ops Q rest (a.put o.dst (.agg #[.int .u8 d.h, .int .u8 d.a.k, .float .f64 d.a.x, .string d.a.s, .int .i64 d.a.r, .int .u8 d.b.k, .float .f64 d.b.x, .string d.b.s, .int .i64 d.b.r, .int .u8 d.c.k, .float .f64 d.c.x, .string d.c.s, .int .i64 d.c.r, .bool d.p, .bool d.q, .bool d.z])) w) : wpList Tryz.prog ops Q (o :: rest) a w := dq_ld hw ho hx hg h
theorem oq_store {q : Oq} {old : Array Value} {B : Nat} {w0 : World} (hgd : o.guard = none) (ho : o.op = .store 44 x y) (hx : a.eval x = .pointer (some ⟨g, 0, none⟩)) (hy : a.eval y = .agg (oqA q)) (hg : w.heap[g]? = some (.cells old t (0, 0))) (hold : old.size = 26) (hB : Below B w0 w) (hBg : B ≤ g)
    (h : ∀ W : World, Below B w0 W → W.heap[g]? = some (.cells (oqA q) t (0, 0)) → (∀ j, j ≠ g → W.heap[j]? = w.heap[j]?) → W.heap.size = w.heap.size → wpList Tryz.prog ops Q rest (a.put o.dst undef) W) : wpList Tryz.prog ops Q (o :: rest) a w :=
  t_store hgd ho hx hy hg (oq_info q) hold (oqA_one q) hB hBg h
end
def foundO (f : Bool) (d : Dq) : Oq := ⟨1, v0, false, f, d, none, 0, 0, 0, ⟨#[]⟩⟩
set_option maxHeartbeats 800000 in
set_option maxRecDepth 1000000 in
theorem getOwn_o (B m k : Nat) (a : Ak) (o : Ob) (w : World) (ho : OF w ⟨B, k * 18, none⟩ o) (hT : TabIn w o.pa o.props o.pc) (hk : mayKy a.k) :
    Calls Tryz.prog 49 #[.agg (asA B m ⟨B, k * 18, none⟩ a)] w fun e w' => e = .returned (.agg (oqA (foundO (findT o.props a.k).isSome (fndD o.props a.k)))) ∧ Below w.heap.size w w' := by
  have HS := Lib.hid (mw_start w B m ⟨B, k * 18, none⟩ a)
  have cO := fun W (hb : Below w.heap.size w W) => own_o B m k a o W (ho.up hb) (hT.up hb) hk
  have hdi : ∀ d : Dq, (Tryz.prog.info? 41).map (·.size) = some d.cells.size := dc_size
  generalize fndD o.props a.k = D at *
  generalize (findT o.props a.k).isSome = R at *
  clear ho hT
  go_enter Tryz.func49, Tryz.ntmps49
  go_wp2_with (first
    | ((with_reducible refine as_ld ?_ rfl rfl HS.out.a ?_); (rfl))
    | (go_at_call 72; (with_reducible refine (cO _ HS.out.below).mono ?_); rintro e w1 ⟨rfl, h9⟩; have HS := Lib.hid (HS.out.up h9); clear h9)
    | ((with_reducible refine t_store (cs := D.cells) rfl rfl rfl rfl (heap_alloc_new w1 _) (hdi D) ?_ (dc_one D) (vzero w1 _) (Nat.le_refl _) ?_); (rfl); intro W2 hb2 hW2 _ _; have HS := Lib.hid (HS.out.up hb2); have hr := HS.out.r; have hB := HS.out.below; clear hb2)
    | ((with_reducible refine dq_ld2 (d := D) ?_ rfl rfl hW2 ?_); (rfl))
    | (refine oq_store (q := foundO R D) rfl rfl rfl rfl hr rfl hB (by omega) ?_; intro W3 hb3 hW3 _ _))
  exact oq_end Tryz.results49 rfl hW3 ⟨rfl, hb3⟩
def keysO (A : Option Addr) (n : Nat) : Oq := ⟨1, v0, false, false, dz 0, A, n, n, 0, ⟨#[]⟩⟩
set_option maxHeartbeats 4000000 in
set_option maxRecDepth 1000000 in
theorem ownKeys_o (B m k : Nat) (a : Ak) (o : Ob) (w : World) (ho : OF w ⟨B, k * 18, none⟩ o) (hT : TabIn w o.pa o.props o.pc) (htab : TabHere w) :
    Calls Tryz.prog 52 #[.agg (asA B m ⟨B, k * 18, none⟩ a)] w fun e w' => ∃ M O, e = .returned (.agg (oqA (keysO (some ⟨O, 0, none⟩) o.props.length))) ∧ OrdOf (keysL o.props) M ∧ w'.heap[O]? = some (.cells (kyCells M).toArray 26 (0, 0)) ∧ Below w.heap.size w w' := by
  have HS := Lib.hid (mw_start w B m ⟨B, k * 18, none⟩ a)
  have h1 := HS.out.p
  have h2 := (ho.up HS.out.below).props
  have hl := (ho.up HS.out.below).lt
  dsimp only at h2 hl
  have cK := fun W (hb : Below w.heap.size w W) => Keys_w o.pa o.props o.pc W (hT.up hb) (tab_up htab hb)
  unfold KeysTo at cK
  clear ho hT
  go_enter Tryz.func52, Tryz.ntmps52
  go_wp2_with (first
    | (go_at_call 76; (with_reducible refine (cK _ HS.out.below).mono ?_); rintro e w1 ⟨M, O, rfl, hM, hO, h9⟩; have HS := Lib.hid (HS.out.up h9); have hr := HS.out.r; have hB := HS.out.below; have HM := Lib.hid hM; have HO := Lib.hid hO; have hOl := lt_blk hO; have h99 := Lib.hid h9; clear h9 hM hO)
    | (refine oq_store (q := keysO (some ⟨O, 0, none⟩) o.props.length) rfl rfl rfl rfl hr rfl hB (by omega) ?_; intro W3 hb3 hW3 hO3 _))
  refine oq_end Tryz.results52 rfl hW3 ⟨M, O, rfl, HM.out, ?_, hb3⟩
  refine (hO3 O fun e => ?_).trans HO.out
  have := HO.out
  rw [e, hr] at this
  have h2 := congrArg (fun x => x.map fun y => match y with | Obj.cells _ t _ => t | _ => 0) this
  simp at h2
end Go.Proofs.YtlfbflclefndjaaGreatDoor.S
/-
  ordinary: method: which of the eight.
-/
namespace Go.Proofs.YtlfbflclefndjaaGreatDoor.S
open Go.RowKit Go.Lib Fl
open Classical

def methI (m : Int) : Nat := bif m == 1 then 45 else bif m == 2 then 46 else bif m == 3 then 47 else bif m == 4 then 48 else bif m == 5 then 49 else bif m == 6 then 50 else bif m == 10 then 51 else 52
set_option maxHeartbeats 4000000 in
set_option maxRecDepth 1000000 in
theorem method_o (B m : Nat) (p : Addr) (a : Ak) (w : World) : Calls Tryz.prog 25 #[.agg (asA B m p a)] w fun e w' => e = .returned (.func (.func (methI a.m)) #[.agg (asA B m p a)] #[]) ∧ Below w.heap.size w w' := by
  have hb := heap_alloc_new w (.cells (asA B m p a) 75)
  have q2 : (w.alloc (.cells (asA B m p a) 75)).cell? ⟨w.heap.size, 2, none⟩ = some (.int .u8 a.m) := (vcells hb 2).trans rfl
  have hB := vzero w (.cells (asA B m p a) 75)
  unfold methI
  cases e1 : (a.m == 1) with
  | true =>
    go_enter Tryz.func25, Tryz.ntmps25
    go_wp2_with ((with_reducible refine as_ld ?_ rfl rfl hb ?_); (rfl))
    go_ret
    exact ⟨rfl, hB⟩
  | false =>
    cases e2 : (a.m == 2) with
    | true =>
      go_enter Tryz.func25, Tryz.ntmps25
      go_wp2_with ((with_reducible refine as_ld ?_ rfl rfl hb ?_); (rfl))
      go_ret
      exact ⟨rfl, hB⟩
    | false =>
      cases e3 : (a.m == 3) with
      | true =>
        go_enter Tryz.func25, Tryz.ntmps25
        go_wp2_with ((with_reducible refine as_ld ?_ rfl rfl hb ?_); (rfl))
        go_ret
        exact ⟨rfl, hB⟩
      | false =>
        cases e4 : (a.m == 4) with
        | true =>
          go_enter Tryz.func25, Tryz.ntmps25
          go_wp2_with ((with_reducible refine as_ld ?_ rfl rfl hb ?_); (rfl))
          go_ret
          exact ⟨rfl, hB⟩
        | false =>
          cases e5 : (a.m == 5) with
          | true =>
            go_enter Tryz.func25, Tryz.ntmps25
            go_wp2_with ((with_reducible refine as_ld ?_ rfl rfl hb ?_); (rfl))
            go_ret
            exact ⟨rfl, hB⟩
          | false =>
            cases e6 : (a.m == 6) with
            | true =>
              go_enter Tryz.func25, Tryz.ntmps25
              go_wp2_with ((with_reducible refine as_ld ?_ rfl rfl hb ?_); (rfl))
              go_ret
              exact ⟨rfl, hB⟩
            | false =>
              cases e10 : (a.m == 10) with
              | true =>
                go_enter Tryz.func25, Tryz.ntmps25
                go_wp2_with ((with_reducible refine as_ld ?_ rfl rfl hb ?_); (rfl))
                go_ret
                exact ⟨rfl, hB⟩
              | false =>
                go_enter Tryz.func25, Tryz.ntmps25
                go_wp2_with ((with_reducible refine as_ld ?_ rfl rfl hb ?_); (rfl))
                go_ret
                exact ⟨rfl, hB⟩
end Go.Proofs.YtlfbflclefndjaaGreatDoor.S
/-
  ordinary: may: whether an ask may be (all methods but DefineOwnProperty).
-/
namespace Go.Proofs.YtlfbflclefndjaaGreatDoor.S
open Go.RowKit Go.Lib Fl
open Classical

/-- may's blocks -/
structure Ma (w : World) (A : Option Addr) (n cap : Nat) (a : Ak) (W : World) : Prop where
  below : Below w.heap.size w W
  h : W.heap[w.heap.size]? = some (.cells #[.slice A n cap] 24 (0, 0))
  a : W.heap[w.heap.size + 1]? = some (.cells (akA a) 49 (0, 0))
theorem Ma.up {w : World} {A : Option Addr} {n cap : Nat} {a : Ak} {W W' : World} (h : Ma w A n cap a W) (hb : Below W.heap.size W W') : Ma w A n cap a W' := ⟨vb h.below hb, vblkn hb h.h, vblkn hb h.a⟩
theorem ma_start (w : World) (A : Option Addr) (n cap : Nat) (a : Ak) : Ma w A n cap a ((w.alloc (.cells #[.slice A n cap] 24)).alloc (.cells (akA a) 49)) := by
  obtain ⟨b1, b2⟩ := vblk2 (w := w) (Below.refl _ ((w.alloc (.cells #[.slice A n cap] 24)).alloc (.cells (akA a) 49)))
  exact ⟨vafter (vzero _ _), b1, b2⟩
theorem Ma.q {w : World} {A : Option Addr} {n cap : Nat} {a : Ak} {W : World} (h : Ma w A n cap a W) : W.cell? ⟨w.heap.size, 0, none⟩ = some (.slice A n cap) ∧ W.cell? ⟨w.heap.size + 1, 0, none⟩ = some (.int .u8 a.m) ∧ W.cell? ⟨w.heap.size + 1, 1, none⟩ = some (.int .i64 a.n) ∧ W.cell? ⟨w.heap.size + 1, 2, none⟩ = some (.string a.k.str) ∧ W.cell? ⟨w.heap.size + 1, 3, none⟩ = some (.int .i64 a.k.sym) ∧
    W.cell? ⟨w.heap.size + 1, 20, none⟩ = some (.int .u8 a.v.k) ∧ W.cell? ⟨w.heap.size + 1, 21, none⟩ = some (.float .f64 a.v.x) ∧ W.cell? ⟨w.heap.size + 1, 22, none⟩ = some (.string a.v.s) ∧ W.cell? ⟨w.heap.size + 1, 23, none⟩ = some (.int .i64 a.v.r) :=
  ⟨(vcells h.h 0).trans rfl, (vcells h.a 0).trans rfl, (vcells h.a 1).trans rfl, (vcells h.a 2).trans rfl, (vcells h.a 3).trans rfl, (vcells h.a 20).trans rfl, (vcells h.a 21).trans rfl, (vcells h.a 22).trans rfl, (vcells h.a 23).trans rfl⟩
/-- the kind of the object that is asked -/
def askK (H : List Ob) (n : Int) : Bool := match H[n.toNat]? with | some o => plainK o.kind | none => false
noncomputable def mayE (H : List Ob) (a : Ak) : Int := bif eightM a.m && (inB H a.n && askK H a.n) then (bif a.m == 5 || a.m == 10 then keyE a.k else bif a.m == 2 then (bif leadsV H a.v then 0 else 9) else 0) else 2
set_option maxHeartbeats 8000000 in
set_option maxRecDepth 1000000 in
theorem may_o (A : Option Addr) (H : List Ob) (cap : Nat) (a : Ak) (w : World) (hH : HIn w A H cap) (hmH : mayH H = true) (hv : a.v.In) (h6 : (a.m == 6) = false) :
    Calls Tryz.prog 23 #[.agg #[.slice A H.length cap], .agg (akA a)] w fun e w' => e = .returned (.int .i64 (mayE H a)) ∧ Below w.heap.size w w' := by
  have HS := Lib.hid (ma_start w A H.length cap a)
  obtain ⟨q0, q1, q2, q3, q4, q5, q6, q7, q8⟩ := HS.out.q
  have c8 := fun W => eight_o a.m W
  have cT := fun W => there_o H A cap a.n W
  have cL := fun W (hb : Below w.heap.size w W) => leads_o A H cap a.v W (hH.up hb) hmH hv
  have cK := fun W => keyCheck_t a.k W
  unfold mayE
  cases e8 : eightM a.m with
  | false =>
    rw [e8] at c8
    clear hH cL cT cK
    go_enter Tryz.func23, Tryz.ntmps23
    go_wp2_with (go_at_call 36; (with_reducible refine (c8 _).mono ?_); rintro e w1 ⟨rfl, rfl⟩)
    go_ret
    exact ⟨rfl, HS.out.below⟩
  | true =>
    rw [e8] at c8
    cases ei : inB H a.n with
    | false =>
      rw [ei] at cT
      clear hH cL cK
      go_enter Tryz.func23, Tryz.ntmps23
      go_wp2_with (first
        | (go_at_call 36; (with_reducible refine (c8 _).mono ?_); rintro e w1 ⟨rfl, rfl⟩)
        | (go_at_call 37; (with_reducible refine (cT _).mono ?_); rintro e w2 ⟨rfl, h9⟩; have HS := Lib.hid (HS.out.up h9); obtain ⟨q0, q1, q2, q3, q4, q5, q6, q7, q8⟩ := HS.out.q; clear h9))
      go_ret
      exact ⟨rfl, HS.out.below⟩
    | true =>
      rw [ei] at cT
      have hin := of_decide_eq_true (show decide (0 ≤ a.n ∧ a.n < (H.length : Int)) = true from ei)
      obtain ⟨k, hk⟩ := Int.eq_ofNat_of_zero_le hin.1
      have hkl : k < H.length := by have := hin.2; omega
      have eA : askK H a.n = plainK H[k].kind := by unfold askK; rw [hk, Int.toNat_natCast, List.getElem?_eq_getElem hkl]
      rw [eA]
      have cP := fun W => plain_o H[k] W
      obtain ⟨ad, rfl, hab, hof, _⟩ := hH.at hkl
      have hoc := of_back hof
      generalize H[k] = o at *
      have hcl := fun W (hb : Below w.heap.size w W) j u hu => (hb.cell (p := (ad.add (k * 18)).add j) (by rw [add_blk]; exact hab)).trans (hoc j u hu)
      have hkz : (k : Int) < (H.length : Int) := by omega
      have hk0 : (0 : Int) ≤ (k : Int) := by omega
      obtain ⟨am, an, ak, ad', av, arv, aaa, aan, aac⟩ := a
      dsimp only at *
      subst hk
      clear hH hin eA ei hof hoc hab
      cases ep : plainK o.kind with
      | false =>
        rw [ep] at cP
        clear cL cK
        go_enter Tryz.func23, Tryz.ntmps23
        go_wp2_with (first
          | (go_at_call 36; (with_reducible refine (c8 _).mono ?_); rintro e w1 ⟨rfl, rfl⟩)
          | (go_at_call 37; (with_reducible refine (cT _).mono ?_); rintro e w2 ⟨rfl, h9⟩; have HS := Lib.hid (HS.out.up h9); obtain ⟨q0, q1, q2, q3, q4, q5, q6, q7, q8⟩ := HS.out.q; have hc5 := hcl _ HS.out.below; clear h9)
          | ((with_reducible refine oa_load ?_ rfl rfl hc5 ?_); (rfl))
          | (go_at_call 38; (with_reducible refine (cP _).mono ?_); rintro e w3 ⟨rfl, h9⟩; have HS := Lib.hid (HS.out.up h9); obtain ⟨q0, q1, q2, q3, q4, q5, q6, q7, q8⟩ := HS.out.q; clear h9))
        go_ret
        exact ⟨rfl, HS.out.below⟩
      | true =>
        rw [ep] at cP
        generalize keyE ak = KE at *
        cases el : leadsV H av
        all_goals
          rw [el] at cL
          cases e5 : (am == 5)
          · cases e10 : (am == 10)
            · cases e2 : (am == 2)
              all_goals
                go_enter Tryz.func23, Tryz.ntmps23
                go_wp2_with (first
                  | (go_at_call 36; (with_reducible refine (c8 _).mono ?_); rintro e w1 ⟨rfl, rfl⟩)
                  | (go_at_call 37; (with_reducible refine (cT _).mono ?_); rintro e w2 ⟨rfl, h9⟩; have HS := Lib.hid (HS.out.up h9); obtain ⟨q0, q1, q2, q3, q4, q5, q6, q7, q8⟩ := HS.out.q; have hc5 := hcl _ HS.out.below; clear h9)
                  | ((with_reducible refine oa_load ?_ rfl rfl hc5 ?_); (rfl))
                  | (go_at_call 38; (with_reducible refine (cP _).mono ?_); rintro e w3 ⟨rfl, h9⟩; have HS := Lib.hid (HS.out.up h9); obtain ⟨q0, q1, q2, q3, q4, q5, q6, q7, q8⟩ := HS.out.q; clear h9)
                  | (go_at_call 42; (with_reducible refine (cL _ HS.out.below).mono ?_); rintro e w4 ⟨rfl, h9⟩; have HS := Lib.hid (HS.out.up h9); clear h9))
                go_ret
                exact ⟨rfl, HS.out.below⟩
            · go_enter Tryz.func23, Tryz.ntmps23
              go_wp2_with (first
                | (go_at_call 36; (with_reducible refine (c8 _).mono ?_); rintro e w1 ⟨rfl, rfl⟩)
                | (go_at_call 37; (with_reducible refine (cT _).mono ?_); rintro e w2 ⟨rfl, h9⟩; have HS := Lib.hid (HS.out.up h9); obtain ⟨q0, q1, q2, q3, q4, q5, q6, q7, q8⟩ := HS.out.q; have hc5 := hcl _ HS.out.below; clear h9)
                | ((with_reducible refine oa_load ?_ rfl rfl hc5 ?_); (rfl))
                | (go_at_call 38; (with_reducible refine (cP _).mono ?_); rintro e w3 ⟨rfl, h9⟩; have HS := Lib.hid (HS.out.up h9); obtain ⟨q0, q1, q2, q3, q4, q5, q6, q7, q8⟩ := HS.out.q; clear h9)
                | (go_at_call 39; (with_reducible refine (cK _).mono ?_); rintro e w4 ⟨rfl, h9⟩; have HS := Lib.hid (HS.out.up h9); clear h9))
              go_ret
              exact ⟨rfl, HS.out.below⟩
          · go_enter Tryz.func23, Tryz.ntmps23
            go_wp2_with (first
              | (go_at_call 36; (with_reducible refine (c8 _).mono ?_); rintro e w1 ⟨rfl, rfl⟩)
              | (go_at_call 37; (with_reducible refine (cT _).mono ?_); rintro e w2 ⟨rfl, h9⟩; have HS := Lib.hid (HS.out.up h9); obtain ⟨q0, q1, q2, q3, q4, q5, q6, q7, q8⟩ := HS.out.q; have hc5 := hcl _ HS.out.below; clear h9)
              | ((with_reducible refine oa_load ?_ rfl rfl hc5 ?_); (rfl))
              | (go_at_call 38; (with_reducible refine (cP _).mono ?_); rintro e w3 ⟨rfl, h9⟩; have HS := Lib.hid (HS.out.up h9); obtain ⟨q0, q1, q2, q3, q4, q5, q6, q7, q8⟩ := HS.out.q; clear h9)
              | (go_at_call 39; (with_reducible refine (cK _).mono ?_); rintro e w4 ⟨rfl, h9⟩; have HS := Lib.hid (HS.out.up h9); clear h9))
            go_ret
            exact ⟨rfl, HS.out.below⟩
end Go.Proofs.YtlfbflclefndjaaGreatDoor.S
/-
  ordinary.Do, around the method that answers.
-/
namespace Go.Proofs.YtlfbflclefndjaaGreatDoor.S
open Go.RowKit Go.Lib Fl
open Classical

/-- Do's blocks -/
structure Dx (w : World) (A : Option Addr) (n cap : Nat) (a : Ak) (f : Value) (W : World) : Prop where
  below : Below w.heap.size w W
  h : W.heap[w.heap.size]? = some (.cells #[.slice A n cap] 24 (0, 0))
  a : W.heap[w.heap.size + 1]? = some (.cells (akA a) 49 (0, 0))
  f : W.heap[w.heap.size + 2]? = some (.cells #[f] 24 (0, 0))
  o : W.heap[w.heap.size + 3]? = some (.cells oz26 44 (0, 0))
theorem Dx.up {w : World} {A : Option Addr} {n cap : Nat} {a : Ak} {f : Value} {W W' : World} (h : Dx w A n cap a f W) (hb : Below W.heap.size W W') : Dx w A n cap a f W' := ⟨vb h.below hb, vblkn hb h.h, vblkn hb h.a, vblkn hb h.f, vblkn hb h.o⟩
theorem dx_start (w : World) (A : Option Addr) (n cap : Nat) (a : Ak) : Dx w A n cap a (.slice none 0 0) ((((w.alloc (.cells #[.slice A n cap] 24)).alloc (.cells (akA a) 49)).alloc (.cells #[.slice none 0 0] 24)).alloc (.cells oz26 44)) := by
  obtain ⟨b1, b2⟩ := vblk2 (w := w) (Below.refl _ ((w.alloc (.cells #[.slice A n cap] 24)).alloc (.cells (akA a) 49)))
  have hB : Below w.heap.size w ((w.alloc (.cells #[.slice A n cap] 24)).alloc (.cells (akA a) 49)) := vafter (vzero _ _)
  have s1 : ((w.alloc (.cells #[.slice A n cap] 24)).alloc (.cells (akA a) 49)).heap.size = w.heap.size + 2 := by simp
  generalize (w.alloc (.cells #[.slice A n cap] 24)).alloc (.cells (akA a) 49) = W at *
  obtain ⟨b3, b4⟩ := vblk2 (w := W) (Below.refl _ ((W.alloc (.cells #[.slice none 0 0] 24)).alloc (.cells oz26 44)))
  have hb2 : Below W.heap.size W ((W.alloc (.cells #[.slice none 0 0] 24)).alloc (.cells oz26 44)) := vafter (vzero _ _)
  rw [s1] at b3 b4
  exact ⟨vb hB hb2, vblkn hb2 b1, vblkn hb2 b2, b3, b4⟩
theorem ak_load {W : World} {g : Nat} {a : Ak} (h : W.heap[g]? = some (.cells (akA a) 49 (0, 0))) : (Instr.loadAt 49 (.pointer (some ⟨g, 0, none⟩))).run Tryz.prog W = .ok (.agg (akA a)) W :=
  run_loadAt_at (A := ⟨g, 0, none⟩) (cs := akl a) (fun j u hu => by
    rw [Addr.add_mid, Nat.zero_add, vcells h j, akA, List.getElem?_toArray]
    exact hu) Tryz.underlying49 rfl ask_sz
section
variable {ops : Array Oper} {rest : List Oper} {o : Oper} {a : Act} {w : World} {Q : Exit → Act → World → Prop} {x y : Operand} {g : Nat} {t : TypeId}
theorem ak_ld {ak : Ak} (hw : Region.wanted o (yielded ops a.tmps) = true) (ho : o.op = .load 49 x) (hx : a.eval x = .pointer (some ⟨g, 0, none⟩)) (hg : w.heap[g]? = some (.cells (akA ak) 49 (0, 0)))
    (h : wpList Tryz.prog ops Q rest (a.put o.dst (.agg (akA ak))) w) : wpList Tryz.prog ops Q (o :: rest) a w :=
  wpList_wanted hw fun _ hK => wp_load_row 49 x ho g hx 49 _ (0, 0) _ hg Tryz.underlying49 rfl ask_sz (hK _ _ h)
end
theorem run_build_as (B m : Nat) (p : Addr) (a : Ak) (w : World) : (Instr.build 75 #[(0, .agg #[.slice (some ⟨B, 0, none⟩) m m]), (1, .pointer (some p)), (2, .agg (akA a))]).run Tryz.prog w = .ok (.agg (asA B m p a)) w := by kernel_rfl
section
variable {o : Oper} {a : Act} {w : World} {x y z : Operand}
theorem ea_as {B m : Nat} {p : Addr} {ak : Ak} (ho : o.op = .build 75 #[(0, x), (1, y), (2, z)]) (hx : a.eval x = .agg #[.slice (some ⟨B, 0, none⟩) m m]) (hy : a.eval y = .pointer (some p)) (hz : a.eval z = .agg (akA ak)) : (execOp a.eval o).run Tryz.prog w = .ok (.value (.agg (asA B m p ak))) w := by
  unfold execOp
  simp only [ho, List.map_toArray, List.map_cons, List.map_nil, hx, hy, hz, run_build_as, Sem.run_bind, Sem.run_pure, Result.andThen_ok]
end
theorem cond_all {R : Nat → Prop} (b : Bool) {x y : Nat} (hx : R x) (hy : R y) : R (bif b then x else y) := by cases b; exact hy; exact hx
theorem meth_call (m : Int) (args : Array Value) (w : World) : (callFunc (methI m) args).run Tryz.prog w = .ok (.enter (methI m) args) w := by
  obtain ⟨R, hR⟩ : ∃ R : Nat → Prop, R = fun f => (callFunc f args).run Tryz.prog w = .ok (.enter f args) w := ⟨_, rfl⟩
  have h : R (methI m) := by
    unfold methI
    refine cond_all _ ?_ (cond_all _ ?_ (cond_all _ ?_ (cond_all _ ?_ (cond_all _ ?_ (cond_all _ ?_ (cond_all _ ?_ ?_))))))
    all_goals (rw [hR]; dsimp only; kernel_rfl)
  rw [hR] at h
  exact h
theorem Dx.chg {w : World} {A : Option Addr} {n cap B : Nat} {a : Ak} {f : Value} {M : List Ob} {W W' : World} (h : Dx w A n cap a f W) (hC : Chg W B M W') (hB : w.heap.size + 4 ≤ B) : Dx w A n cap a f W' :=
  ⟨h.below.grown hC.g h.below.size (fun k e => by cases e; omega), (hC.g.block _ (lt_blk h.h) (fun e => by cases e; omega)).trans h.h, (hC.g.block _ (lt_blk h.a) (fun e => by cases e; omega)).trans h.a, (hC.g.block _ (lt_blk h.f) (fun e => by cases e; omega)).trans h.f, (hC.g.block _ (lt_blk h.o) (fun e => by cases e; omega)).trans h.o⟩
theorem do_end {f : Func} {i j k : Nat} {t u : TypeId} {Q : Ending → World → Prop} {tmps : Array Value} {W : World} {g h : Nat} {v : Value} {q : Oq} {z : Int} (hf : f.results = #[.cell i 24, .cell j 44, .tmp k])
    (h2 : tmps[i]?.getD undef = .pointer (some ⟨g, 0, none⟩)) (h3 : tmps[j]?.getD undef = .pointer (some ⟨h, 0, none⟩)) (h4 : tmps[k]?.getD undef = .int .i64 z) (hb : W.heap[g]? = some (.cells #[v] t (0, 0))) (hc : W.heap[h]? = some (.cells (oqA q) u (0, 0))) (hQ : Q (.returned (.tuple #[.agg #[v], .agg (oqA q), .int .i64 z])) W) :
    bodyPost Tryz.prog f Q .ret { tmps := tmps, defers := [] } W := by
  have hl := run_loadVar_row (P := Tryz.prog) W g t 24 #[v] (0, 0) _ hb Tryz.underlying24 rfl hsz
  have hm := run_loadVar_row (P := Tryz.prog) W h u 44 (oqA q) (0, 0) _ hc Tryz.underlying44 rfl out_sz
  refine bodyPost_ret (v := .tuple #[.agg #[v], .agg (oqA q), .int .i64 z]) ?_ rfl hQ
  simp [h2, h3, h4, results, hf, hl, hm, asAddr]
set_option maxHeartbeats 8000000 in
set_option maxRecDepth 1000000 in
theorem Do_core (A : Option Addr) (H : List Ob) (cap k : Nat) (a : Ak) (w : World) (G : Oq → List Ob → World → Prop) (hH : HIn w A H cap) (hp : ∀ o ∈ H, o.props.length ≤ 100000) (hmH : mayH H = true) (hn : a.n = k) (hk : k < H.length) (htab : TabHere w)
    (cY : ∀ W, Below w.heap.size w W → Calls Tryz.prog 23 #[.agg #[.slice A H.length cap], .agg (akA a)] W fun e w' => e = .returned (.int .i64 0) ∧ Below W.heap.size W w')
    (cM : ∀ W B M, Tw w.heap.size B H M W → Below w.heap.size w W → Calls Tryz.prog (methI a.m) #[.agg (asA B H.length ⟨B, k * 18, none⟩ a)] W fun e w' => ∃ q M2, e = .returned (.agg (oqA q)) ∧ G q M2 w' ∧ Chg W B M2 w')
    (hG : ∀ q M2 W W', G q M2 W → (∃ c, W.heap[w.heap.size + 2]? = some (.cells c 24 (0, 0))) → (∃ c, W.heap[w.heap.size + 3]? = some (.cells c 44 (0, 0))) → (∀ j, j ≠ w.heap.size + 2 → j ≠ w.heap.size + 3 → W'.heap[j]? = W.heap[j]?) → G q M2 W') :
    Calls Tryz.prog 8 #[.agg #[.slice A H.length cap], .agg (akA a)] w fun e w' => ∃ B q M2, e = .returned (.tuple #[.agg #[.slice (some ⟨B, 0, none⟩) H.length H.length], .agg (oqA q), .int .i64 0]) ∧ G q M2 w' ∧ w'.heap[B]? = some (.cells (hcl M2).toArray 37 (0, 0)) ∧ Below w.heap.size w w' := by
  have HS := Lib.hid (dx_start w A H.length cap a)
  have q0 : ((((w.alloc (.cells #[.slice A H.length cap] 24)).alloc (.cells (akA a) 49)).alloc (.cells #[.slice none 0 0] 24)).alloc (.cells oz26 44)).cell? ⟨w.heap.size, 0, none⟩ = some (.slice A H.length cap) := (vcells HS.out.h 0).trans rfl
  have cC := fun W (hb : Below w.heap.size w W) => Check_h A H cap W (hH.up hb) (tab_up htab hb)
  rw [chk_ok hmH] at cC
  have cT : ∀ W, Below w.heap.size w W → Calls Tryz.prog 24 #[.agg #[.slice A H.length cap]] W fun e w' => ∃ B M, e = .returned (.agg #[.slice (some ⟨B, 0, none⟩) H.length H.length]) ∧ Tw W.heap.size B H M w' ∧ Below W.heap.size W w' := fun W hb => Twin_h A H cap W (hH.up hb) hp
  have cMt := fun W B => method_o B H.length ⟨B, k * 18, none⟩ a W
  have hi1 : ∀ v : Value, (Tryz.prog.info? 24).map (·.size) = some (#[v] : Array Value).size := fun v => hsz
  have hc1 : ∀ v : Value, v.oneCell' = true → (#[v] : Array Value).all (·.oneCell') = true := fun v h => cells_one (l := [v]) (by simpa using h)
  have ha1 : (akA a)[1]? = some (.int .i64 (k : Int)) := by rw [← hn]; rfl
  have hkz : (k : Int) < (H.length : Int) := by omega
  have hk0 : (0 : Int) ≤ (k : Int) := by omega
  clear hH hp hmH htab
  go_enter Tryz.func8, Tryz.ntmps8
  go_wp2_with (first
    | (go_at_call 6; (with_reducible refine (cC _ HS.out.below).mono ?_); rintro e w1 ⟨rfl, h9⟩; have HS := Lib.hid (HS.out.up h9); have q0 := (vcells HS.out.h 0).trans rfl; clear h9)
    | ((with_reducible refine ak_ld ?_ rfl rfl HS.out.a ?_); (rfl))
    | ((with_reducible refine h1_ld ?_ rfl rfl HS.out.h ?_); (rfl))
    | (go_at_call 23; (with_reducible refine (cY _ HS.out.below).mono ?_); rintro e w2 ⟨rfl, h9⟩; have HS := Lib.hid (HS.out.up h9); have q0 := (vcells HS.out.h 0).trans rfl; clear h9)
    | (go_at_call 24; (with_reducible refine (cT _ HS.out.below).mono ?_); rintro e w3 ⟨B, M, rfl, hT, h9⟩; have hBl : w.heap.size + 4 ≤ B := (Nat.le_trans (lt_blk HS.out.o) hT.le); have HT := Lib.hid (hT.mono HS.out.below.size); have HS := Lib.hid (HS.out.up h9); have hf := HS.out.f; have hB0 := HS.out.below; clear hT h9)
    | ((with_reducible refine t_store rfl rfl rfl rfl hf (hi1 _) ?_ (hc1 _ rfl) hB0 (by omega) ?_); (rfl); intro W4 hb4 hW4 hO4 hz4))
  have hBlt : w.heap.size + 2 ≠ B := by omega
  have hS : Dx w A H.length cap a (.slice (some ⟨B, 0, none⟩) H.length H.length) (World.drew W4) := (⟨hb4, (hO4 _ (by omega)).trans HS.out.h, (hO4 _ (by omega)).trans HS.out.a, hW4, (hO4 _ (by omega)).trans HS.out.o⟩ : Dx w A H.length cap a (.slice (some ⟨B, 0, none⟩) H.length H.length) W4).up (Below.refl _ _).drew
  have HT := Lib.hid (HT.out.other hO4 (by omega))
  clear HS hf hB0 q0 hW4 hO4
  dsimp only [Act.put]
  refine wp_region_held_drew (S := Dx w A H.length cap a (.slice (some ⟨B, 0, none⟩) H.length H.length)) (by kernel_rfl) hS (fun hHeld => ?_)
  refine hH_take (i := 0) (v := .agg #[.slice (some ⟨B, 0, none⟩) H.length H.length]) (d := 27) (l2 := #[true, false, false, false, false, false, false, false, false, false]) rfl (by kernel_rfl) (by kernel_rfl) (by kernel_rfl) (fun _ _ _ h => h) (by kernel_rfl) ?_ (by assumption) rfl (by kernel_rfl) ?_
  · intro w hSw; exact ex_load_at (h1_load hSw.f) rfl rfl
  simp only [List.set]
  refine hH_take (i := 1) (v := ?_) (d := 28) (l2 := #[true, true, false, false, false, false, false, false, false, false]) rfl (by kernel_rfl) (by kernel_rfl) (by kernel_rfl) (fun _ _ _ h => h) (by kernel_rfl) ?_ (by assumption) rfl (by kernel_rfl) ?_
  rotate_left
  · intro w hSw; (try dsimp only at hSw); go_simp; (try with_reducible rfl)
  simp only [List.set]
  refine hH_take (i := 2) (v := .slice (some ⟨B, 0, none⟩) H.length H.length) (d := 29) (l2 := #[true, true, true, false, false, false, false, false, false, false]) rfl (by kernel_rfl) (by kernel_rfl) (by kernel_rfl) (fun _ _ _ h => h) (by kernel_rfl) ?_ (by assumption) rfl (by kernel_rfl) ?_
  · intro w hSw; have q := (vcells hSw.f 0).trans rfl; go_simp; (try with_reducible rfl)
  simp only [List.set]
  refine hH_take (i := 3) (v := ?_) (d := 30) (l2 := #[true, true, true, true, false, false, false, false, false, false]) rfl (by kernel_rfl) (by kernel_rfl) (by kernel_rfl) (fun _ _ _ h => h) (by kernel_rfl) ?_ (by assumption) rfl (by kernel_rfl) ?_
  rotate_left
  · intro w hSw; (try dsimp only at hSw); go_simp; (try with_reducible rfl)
  simp only [List.set]
  refine hH_take (i := 4) (v := .int .i64 (k : Int)) (d := 31) (l2 := #[true, true, true, true, true, false, false, false, false, false]) rfl (by kernel_rfl) (by kernel_rfl) (by kernel_rfl) (fun _ _ _ h => h) (by kernel_rfl) ?_ (by assumption) rfl (by kernel_rfl) ?_
  · intro w hSw; have q := (vcells hSw.a 1).trans ha1; go_simp; (try with_reducible rfl)
  simp only [List.set]
  refine hH_take (i := 5) (v := .pointer (some ⟨B, k * 18, none⟩)) (d := 32) (l2 := #[true, true, true, true, true, true, false, false, false, false]) rfl (by kernel_rfl) (by kernel_rfl) (by kernel_rfl) (fun _ _ _ h => h) (by kernel_rfl) ?_ (by assumption) rfl (by kernel_rfl) ?_
  · intro w hSw; go_simp; (try with_reducible rfl)
  simp only [List.set]
  refine hH_take (i := 6) (v := .agg (akA a)) (d := 33) (l2 := #[true, true, true, true, true, true, true, false, false, false]) rfl (by kernel_rfl) (by kernel_rfl) (by kernel_rfl) (fun _ _ _ h => h) (by kernel_rfl) ?_ (by assumption) rfl (by kernel_rfl) ?_
  · intro w hSw; exact ex_load_at (ak_load hSw.a) rfl rfl
  simp only [List.set]
  refine hH_take (i := 7) (v := .agg (asA B H.length ⟨B, k * 18, none⟩ a)) (d := 34) (l2 := #[true, true, true, true, true, true, true, true, false, false]) rfl (by kernel_rfl) (by kernel_rfl) (by kernel_rfl) (fun _ _ _ h => h) (by kernel_rfl) ?_ (by assumption) rfl (by kernel_rfl) ?_
  · intro w hSw; exact ea_as rfl rfl rfl rfl
  simp only [List.set]
  refine wpAnyH_ready (rs := [8]) (by kernel_rfl) (by simp) ?_
  refine AllReadyH.cons rfl (fun K hK => ?_) AllReadyH.nil
  go_simp
  (go_at_call 25; (with_reducible refine (cMt _ _).mono ?_); rintro e wm ⟨rfl, h9⟩; have hS := hS.up h9; have HT := Lib.hid (HT.out.up (vb (Below.refl _ _).drew h9)); clear h9)
  refine hK.out _ _ hS (fun hHeld => ?_)
  clear hK K
  refine hH_take (i := 9) (v := ?_) (d := 9) (l2 := #[true, true, true, true, true, true, true, true, true, true]) rfl (by kernel_rfl) (by kernel_rfl) (by kernel_rfl) (fun _ _ _ h => h) (by kernel_rfl) ?_ (by assumption) rfl (by kernel_rfl) ?_
  rotate_left
  · intro w hSw; (try dsimp only at hSw); go_simp; (try with_reducible rfl)
  simp only [List.set]
  refine wpAnyH_done (by kernel_rfl) ?_ _
  rename ∀ (a : Act) (w : World), Code.wp Tryz.prog _ _ a w → _ => HK9
  refine HK9 _ _ ?_
  clear HK9
  go_step
  go_upto_region 9 with (fail)
  have hS := hS.up (Below.refl _ _).drew
  have HT := Lib.hid (HT.out.up (Below.refl _ _).drew)
  (try dsimp only [Act.put])
  refine wp_region_held_drew (S := fun W : World => W.heap[w.heap.size + 2]? = some (.cells #[.slice (some ⟨B, 0, none⟩) H.length H.length] 24 (0, 0))) (by kernel_rfl) hS.f (fun hHeld => ?_)
  generalize World.drew wm = wn at *
  refine hH_take (i := 0) (v := .agg #[.slice (some ⟨B, 0, none⟩) H.length H.length]) (d := 36) (l2 := #[true, false, false, false, false, false]) rfl (by kernel_rfl) (by kernel_rfl) (by kernel_rfl) (fun _ _ _ h => h) (by kernel_rfl) ?_ (by assumption) rfl (by kernel_rfl) ?_
  · intro w hSw; exact ex_load_at (h1_load hSw) rfl rfl
  simp only [List.set]
  refine hH_take (i := 1) (v := .func (.func (methI a.m)) #[.agg (asA B H.length ⟨B, k * 18, none⟩ a)] #[]) (d := 37) (l2 := #[true, true, false, false, false, false]) rfl (by kernel_rfl) (by kernel_rfl) (by kernel_rfl) (fun _ _ _ h => h) (by kernel_rfl) ?_ (by assumption) rfl (by kernel_rfl) ?_
  · intro w hSw; go_simp; (try with_reducible rfl)
  simp only [List.set]
  refine wpAnyH_ready (rs := [2]) (by kernel_rfl) (by simp) ?_
  refine AllReadyH.cons rfl (fun K hK => ?_) AllReadyH.nil
  go_simp
  rw [meth_call, Oper.upon_enter]
  (with_reducible refine (cM _ B M HT.out hS.below).mono ?_)
  rintro e wc ⟨q, M2, rfl, hG9, hC⟩
  have hS := hS.chg hC hBl
  have hCb := hC.b
  clear hC cM
  dsimp only
  refine hK.out _ _ hS.f (fun hHeld => ?_)
  clear hK K
  refine wpAnyH_ready (rs := [3]) (by kernel_rfl) (by simp) ?_
  refine AllReadyH.cons rfl (fun K hK => ?_) AllReadyH.nil
  refine r_store (by kernel_rfl) rfl rfl rfl hS.f (hi1 _) rfl (hc1 _ rfl) rfl ?_
  have hf5 := setRow_heap _ _ _ #[.slice (some ⟨B, 0, none⟩) H.length H.length] _ _ hS.f
  have hO5 := fun j (hj : j ≠ w.heap.size + 2) => setRow_other wc (w.heap.size + 2) j #[.slice (some ⟨B, 0, none⟩) H.length H.length] hj
  have hb5 := below_row hS.below (Nat.le_add_right _ 2) #[.slice (some ⟨B, 0, none⟩) H.length H.length]
  generalize World.setRow wc (w.heap.size + 2) #[.slice (some ⟨B, 0, none⟩) H.length H.length] = W5 at *
  have ho5 := (hO5 (w.heap.size + 3) (by omega)).trans hS.o
  refine hK.out _ _ hf5 (fun hHeld => ?_)
  clear hK K
  refine wpAnyH_ready (rs := [4]) (by kernel_rfl) (by simp) ?_
  refine AllReadyH.cons rfl (fun K hK => ?_) AllReadyH.nil
  refine r_store (by kernel_rfl) rfl rfl rfl ho5 (oq_info q) rfl (oqA_one q) rfl ?_
  have hf6 := setRow_heap _ _ _ (oqA q) _ _ ho5
  have hO6 := fun j (hj : j ≠ w.heap.size + 3) => setRow_other W5 (w.heap.size + 3) j (oqA q) hj
  have hb6 := below_row hb5 (Nat.le_add_right _ 3) (oqA q)
  generalize World.setRow W5 (w.heap.size + 3) (oqA q) = W6 at *
  have hh6 := (hO6 (w.heap.size + 2) (by omega)).trans hf5
  refine hK.out _ _ hh6 (fun hHeld => ?_)
  clear hK K
  refine hH_take (i := 5) (v := .int .i64 0) (d := 6) (l2 := #[true, true, true, true, true, true]) rfl (by kernel_rfl) (by kernel_rfl) (by kernel_rfl) (fun _ _ _ h => h) (by kernel_rfl) ?_ (by assumption) rfl (by kernel_rfl) ?_
  · intro w hSw; go_simp; (try with_reducible rfl)
  simp only [List.set]
  refine wpAnyH_done (by kernel_rfl) ?_ _
  go_wp2_with (fail)
  exact do_end Tryz.results8 rfl rfl rfl hh6 hf6 ⟨B, q, M2, rfl, hG _ _ _ _ hG9 ⟨_, hS.f⟩ ⟨_, hS.o⟩ (fun j h1 h2 => (hO6 j h2).trans (hO5 j h1)), ((hO6 B (by omega)).trans (hO5 B (by omega))).trans hCb, hb6⟩
end Go.Proofs.YtlfbflclefndjaaGreatDoor.S
