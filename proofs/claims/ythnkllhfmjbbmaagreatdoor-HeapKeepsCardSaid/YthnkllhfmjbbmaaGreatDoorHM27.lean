/-
  table.Find where the properties may be. Generated: gen_tabdrop.py.
-/
import Derived.Test.YthnkllhfmjbbmaaGreatDoorHM26
import Derived.Test.YthnkllhfmjbbmaaGreatDoorHM25
import Derived.Test.YthnkllhfmjbbmaaGreatDoorHM14
import Derived.Maps.AppendAt
import Derived.OwnWalk
namespace Go.Proofs.YthnkllhfmjbbmaaGreatDoor.S
open Go.RowKit Go.Lib Fl
open Classical

theorem dq_end3 {f : Func} {i j k : Nat} {t : TypeId} {Q : Ending → World → Prop} {tmps : Array Value} {W : World} {g : Nat} {d : Dq} {v u : Value} (hf : f.results = #[.cell i 55, .tmp j, .tmp k]) (h2 : tmps[i]?.getD undef = .pointer (some ⟨g, 0, none⟩)) (h3 : tmps[j]?.getD undef = v) (h4 : tmps[k]?.getD undef = u)
    (hb : W.heap[g]? = some (.cells d.cells t (0, 0))) (hQ : Q (.returned (.tuple #[.agg d.cells, v, u])) W) : bodyPost Tryz.prog f Q .ret { tmps := tmps, defers := [] } W := by
  have e : (loadVar 55 ⟨g, 0, none⟩).run Tryz.prog W = .ok (.agg d.cells) W := run_loadVar_row W g t 55 _ (0, 0) _ hb Tryz.underlying55 rfl dsz
  refine bodyPost_ret (v := .tuple #[.agg d.cells, v, u]) ?_ rfl hQ
  simp [results, hf, h2, h3, h4, asAddr, e]
/-- a descriptor found, or none -/
def fndD (L : List Pq) (k : Ky) : Dq := match findT L k with | some p => p.d | none => dz 0
def FndTo (L : List Pq) (k : Ky) (w : World) (e : Ending) (w' : World) : Prop := e = .returned (.tuple #[.agg (fndD L k).cells, .bool (findT L k).isSome, .int .i64 0]) ∧ Below w.heap.size w w'
theorem pd_load2 {ops : Array Oper} {rest : List Oper} {o : Oper} {a : Act} {w : World} {Q : Exit → Act → World → Prop} {x : Operand} {A : Addr} {d : Dq} (hw : Region.wanted o (yielded ops a.tmps) = true) (ho : o.op = .load 55 x) (hx : a.eval x = .pointer (some A)) (hc : ∀ j u, d.cells.toList[j]? = some u → w.cell? (A.add j) = some u)
    (h : wpList Tryz.prog ops Q rest (a.put o.dst (.agg d.cells)) w) : wpList Tryz.prog ops Q (o :: rest) a w :=
  wpList_wanted hw fun _ hK => wp_load_at (cs := d.cells.toList) ho hx hc Tryz.underlying55 rfl dsz (hK _ _ h)
theorem dc_one (d : Dq) : d.cells.all (·.oneCell') = true := cells_one (l := d.cells.toList) rfl
theorem dc_size (d : Dq) : (Tryz.prog.info? 55).map (·.size) = some d.cells.size := dsz
theorem pr_desc {w : World} {a : Addr} {L : List Pq} (h : PR w (some a) L) {i : Nat} (hi : i < L.length) : (a.add (i * 18)).block < w.heap.size ∧ ∀ j u, L[i].d.cells.toList[j]? = some u → w.cell? ((⟨(a.add (i * 18)).block, (a.add (i * 18)).off + 2, none⟩ : Addr).add j) = some u := by
  obtain ⟨b, hb, hlt, hc⟩ := h (by omega)
  obtain rfl := Option.some.inj hb
  refine ⟨by rw [add_blk]; exact hlt, fun j u hu => ?_⟩
  have e : (⟨(a.add (i * 18)).block, (a.add (i * 18)).off + 2, none⟩ : Addr).add j = (a.add (i * 18)).add (2 + j) := by
    rw [Addr.add_mid]
    show _ = Addr.add _ _
    unfold Addr.add
    rw [if_neg (show ¬ 2 + j = 0 by omega)]
    by_cases h0 : i * 18 = 0
    · rw [if_pos h0]; congr 1; omega
    · rw [if_neg h0]; congr 1; omega
  rw [e, add_add, show i * 18 + (2 + j) = i * 18 + (j + 1 + 1) by omega]
  exact hc i hi (j + 1 + 1) u hu
theorem fnd_ways (L : List Pq) (k : Ky) : (∀ h : cutN L k < L.length, fndD L k = L[cutN L k].d ∧ (findT L k).isSome = true) ∧ (¬ cutN L k < L.length → fndD L k = dz 0 ∧ (findT L k).isSome = false) := by
  unfold fndD findT
  refine ⟨fun h => ?_, fun h => ?_⟩
  · rw [List.getElem?_eq_getElem h]; exact ⟨rfl, rfl⟩
  · rw [List.getElem?_eq_none (by omega)]; exact ⟨rfl, rfl⟩
set_option maxHeartbeats 4000000 in
set_option maxRecDepth 100000 in
theorem Find_t (A : Option Addr) (L : List Pq) (cap : Nat) (k : Ky) (w : World) (hT : TabIn w A L cap) (hk : mayKy k) : Calls Tryz.prog 69 #[.slice A L.length cap, .agg #[.string k.str, .int .i64 k.sym]] w (FndTo L k w) := by
  have cC := fun W hb => hT.check (W := W) hb
  have kC := key_fine hk
  have hcut := fun W hb => hT.cut (W := W) hb k
  have hle := cutN_le L k
  have hl63 : L.length < 1000000000000 := hT.few
  have hS : Hm w k (dz 0) ((w.alloc (.cells #[.string k.str, .int .i64 k.sym] 63)).alloc (.cells #[.int .u8 0, .int .u8 0, .float .f64 0, .string ⟨#[]⟩, .int .i64 0, .int .u8 0, .float .f64 0, .string ⟨#[]⟩, .int .i64 0, .int .u8 0, .float .f64 0, .string ⟨#[]⟩, .int .i64 0, .bool false, .bool false, .bool false] 55)).drew := (hm_start w k (dz 0)).drew
  have hw := fnd_ways L k
  unfold FndTo
  generalize fndD L k = D at *
  generalize (findT L k).isSome = b at *
  have HW := Lib.hid hw
  clear hw
  go_enter Tryz.func69, Tryz.ntmps69
  go_upto_region 1 with (fail)
  refine wp_region_held_drew (S := Hm w k (dz 0)) (by kernel_rfl) hS (fun hHeld => ?_)
  refine hH_take (i := 0) (v := .slice A L.length cap) (d := 10) (l2 := #[true, false, false, false, false, false, false]) rfl (by kernel_rfl) (by kernel_rfl) (by kernel_rfl) (fun _ _ _ h => h) (by kernel_rfl) (fun w hSw => ?_) (by assumption) rfl (by kernel_rfl) ?_
  · go_simp
  simp only [List.set]
  refine hH_take (i := 2) (v := .agg #[.string k.str, .int .i64 k.sym]) (d := 12) (l2 := #[true, false, true, false, false, false, false]) rfl (by kernel_rfl) (by kernel_rfl) (by kernel_rfl) (fun _ _ _ h => h) (by kernel_rfl) (fun w hSw => ?_) (by assumption) rfl (by kernel_rfl) ?_
  · exact ex_load_at (k2_load hSw.k) rfl rfl
  simp only [List.set]
  refine wpAnyH_ready (rs := [1]) (by kernel_rfl) (by simp) ?_
  refine AllReadyH.cons rfl (fun K hK => ?_) AllReadyH.nil
  go_simp
  go_at_call 74
  (with_reducible refine (cC _ hS.below).mono ?_)
  rintro e w1 ⟨rfl, h1⟩
  have hS := hS.up h1
  clear h1
  refine hK.out _ _ hS (fun hHeld => ?_)
  clear hK K
  refine wpAnyH_ready (rs := [3]) (by kernel_rfl) (by simp) ?_
  refine AllReadyH.cons rfl (fun K hK => ?_) AllReadyH.nil
  go_simp
  go_at_call 92
  (with_reducible refine (kC _).mono ?_)
  rintro e w1 ⟨rfl, h1⟩
  have hS := hS.up h1
  clear h1
  refine hK.out _ _ hS (fun hHeld => ?_)
  clear hK K
  refine wpAnyH_ready (rs := [4]) (by kernel_rfl) (by simp) ?_
  refine AllReadyH.cons rfl (fun K hK => ?_) AllReadyH.nil
  go_simp
  have hS := hS.up (vzero _ (.cells #[.int .i64 0, .int .i64 0] 25))
  have hO := orS_new w1 0 0
  refine hK.out _ _ hS (fun hHeld => ?_)
  clear hK K
  refine wpAnyH_ready (rs := [5]) (by kernel_rfl) (by simp) ?_
  refine AllReadyH.cons rfl (fun K hK => ?_) AllReadyH.nil
  go_simp
  go_at_call 46
  (with_reducible refine (Or_0 _ 0 _ hO.1 hO.2).mono ?_)
  rintro e w2 ⟨rfl, rfl⟩
  refine hK.out _ _ hS (fun hHeld => ?_)
  clear hK K
  refine hH_take (i := 6) (v := .int .i64 0) (d := 7) (l2 := #[true, true, true, true, true, true, true]) rfl (by kernel_rfl) (by kernel_rfl) (by kernel_rfl) (fun _ _ _ h => h) (by kernel_rfl) (fun w hSw => ?_) (by assumption) rfl (by kernel_rfl) ?_
  · go_simp
  simp only [List.set]
  refine wpAnyH_done (by kernel_rfl) ?_ _
  have HB := Lib.hid hS.below
  have hb1 := hS.k
  have hb2 := hS.d
  clear cC kC hO
  by_cases hn : cutN L k < L.length
  · have hne : ((cutN L k : Int) == (L.length : Int)) = false := by rw [beq_eq_false_iff_ne]; omega
    have hnz : (cutN L k : Int) < (L.length : Int) := by omega
    have HT := Lib.hid hT
    obtain ⟨a, rfl, _, _⟩ := hT.row (by omega)
    obtain ⟨P, hP⟩ : ∃ P, P = L[cutN L k] := ⟨_, rfl⟩
    have HP := Lib.hid hP
    have hc1 := dc_one P.d
    have hi1 := dc_size P.d
    clear hP hT
    go_wp2_with (first
      | ((with_reducible refine kk_load ?_ rfl rfl hb1 ?_); (rfl))
      | (go_at_call 106; (with_reducible refine (hcut _ HB.out).mono ?_); rintro e w3 ⟨A1, A2, c2, rfl, _, _, hb3, _⟩; have hb2 := vblkn hb3 hb2; have HB := Lib.hid (vb HB.out hb3); have hq := (pr_desc (HT.out.up HB.out).row hn); rw [← HP.out] at hq; have hq2 := hq.2; clear hb3 hq)
      | ((with_reducible refine pd_load2 ?_ rfl rfl hq2 ?_); (rfl))
      | ((with_reducible refine t_store (cs := P.d.cells) rfl rfl rfl rfl hb2 hi1 ?_ hc1 HB.out (Nat.le_succ _) ?_); (rfl); intro W hBW hW _ _))
    obtain ⟨e1, e2⟩ := HW.out.1 hn
    exact dq_end3 Tryz.results69 rfl rfl rfl hW ⟨by rw [e1, e2, ← HP.out]; rfl, hBW⟩
  · have hne : ((cutN L k : Int) == (L.length : Int)) = true := by rw [beq_iff_eq]; omega
    have hz1 : w.heap.size ≤ w.heap.size + 1 := Nat.le_succ _
    go_wp2_with (first
      | ((with_reducible refine kk_load ?_ rfl rfl hb1 ?_); (rfl))
      | (go_at_call 106; (with_reducible refine (hcut _ HB.out).mono ?_); rintro e w3 ⟨A1, A2, c2, rfl, _, _, hb3, _⟩; have hb2 := vblkn hb3 hb2; have HB := Lib.hid (vb HB.out hb3); clear hb3)
      | ((with_reducible refine d_store rfl rfl rfl rfl hb2 ?_ ?_ ?_); (rfl); (rfl)))
    obtain ⟨e1, e2⟩ := HW.out.2 hn
    exact d_end3 Tryz.results69 rfl rfl rfl (setRow_heap _ _ _ _ _ _ hb2) ⟨by rw [e1, e2]; rfl, below_row HB.out hz1 _⟩
end Go.Proofs.YthnkllhfmjbbmaaGreatDoor.S
/-
  A property built out of a key and a descriptor; a slice of one.
-/
namespace Go.Proofs.YthnkllhfmjbbmaaGreatDoor.S
open Go.RowKit Go.Lib Fl

set_option maxRecDepth 100000 in
theorem run_build_p (p : Pq) (w : World) : (Instr.build 93 #[(0, .agg #[.string p.k.str, .int .i64 p.k.sym]), (1, .agg p.d.cells)]).run Tryz.prog w = .ok (.agg (prA p)) w := by kernel_rfl
set_option maxRecDepth 100000 in
theorem run_slice_p (p : Pq) (w : World) : (Instr.buildSlice 32 1 #[(0, .agg (prA p))]).run Tryz.prog w = .ok (.slice (some ⟨w.heap.size, 0, none⟩) 1 1) (w.alloc (.cells (prA p) 93)) := by kernel_rfl
section
variable {ops : Array Oper} {rest : List Oper} {o : Oper} {a : Act} {w : World} {Q : Exit → Act → World → Prop}
theorem p_build {p : Pq} (hgd : o.guard = none) (x y : Operand) (ho : o.op = .build 93 #[(0, x), (1, y)]) (hx : a.eval x = .agg #[.string p.k.str, .int .i64 p.k.sym]) (hy : a.eval y = .agg p.d.cells)
    (h : wpList Tryz.prog ops Q rest (a.put o.dst (.agg (prA p))) w) : wpList Tryz.prog ops Q (o :: rest) a w := by
  refine wpList_plain hgd fun _ hK => ?_
  unfold Oper.wp execOp
  simp only [ho, List.map_toArray, List.map_cons, List.map_nil, hx, hy, run_build_p, Sem.run_bind, Sem.run_pure, Result.andThen_ok]
  exact hK _ _ h
theorem p_slice {p : Pq} (hgd : o.guard = none) (x : Operand) (ho : o.op = .buildSlice 32 1 #[(0, x)]) (hx : a.eval x = .agg (prA p))
    (h : wpList Tryz.prog ops Q rest (a.put o.dst (.slice (some ⟨w.heap.size, 0, none⟩) 1 1)) (w.alloc (.cells (prA p) 93))) : wpList Tryz.prog ops Q (o :: rest) a w := by
  refine wpList_plain hgd fun _ hK => ?_
  unfold Oper.wp execOp
  simp only [ho, List.map_toArray, List.map_cons, List.map_nil, hx, run_slice_p, Sem.run_bind, Sem.run_pure, Result.andThen_ok]
  exact hK _ _ h
end
end Go.Proofs.YthnkllhfmjbbmaaGreatDoor.S
/-
  table.Put where the properties may be. Generated: gen_tabdrop.py.
-/
namespace Go.Proofs.YthnkllhfmjbbmaaGreatDoor.S
open Go.RowKit Go.Lib Fl
open Classical

/-- Put's error -/
noncomputable def putE (L : List Pq) (p : Pq) : Int := if mayT p = 0 then (if cutN L p.k = 1024 then 100 else 0) else mayT p
def PutOut (L : List Pq) (p : Pq) (w : World) (e : Ending) (w' : World) : Prop := ∃ v, e = .returned (.tuple #[v, .int .i64 (putE L p)]) ∧ (putE L p = 0 → OutS w' v (putT L p)) ∧ Below w.heap.size w w'
theorem put_split (L : List Pq) (p : Pq) : putT L p = (L.take (cutN L p.k) ++ [p]) ++ L.drop (cutN L p.k + 1) := by unfold putT; simp
theorem kk2 {w : World} {p : Pq} {g : Nat} (h : w.heap[g]? = some (.cells (prA p) 93 (0, 0))) : w.heap[g]? = some (.cells (prA p) 93 (0, 0)) := h
set_option maxHeartbeats 4000000 in
set_option maxRecDepth 100000 in
theorem Put_t (A : Option Addr) (L : List Pq) (cap : Nat) (p : Pq) (w : World) (hT : TabIn w A L cap) (hp : p.In) : Calls Tryz.prog 148 #[.slice A L.length cap, .agg #[.string p.k.str, .int .i64 p.k.sym], .agg p.d.cells] w (PutOut L p w) := by
  have cC := fun W hb => hT.check (W := W) hb
  have mC := fun W => may_t hp W
  have hcut := fun W hb => hT.cut (W := W) hb p.k
  have hlen := hT.ok.len
  have hle := cutN_le L p.k
  have hS : Hm w p.k p.d ((w.alloc (.cells #[.string p.k.str, .int .i64 p.k.sym] 63)).alloc (.cells p.d.cells 55)).drew := (hm_start w p.k p.d).drew
  have hn1 : cutN L p.k = (L.take (cutN L p.k)).length := by rw [List.length_take]; omega
  have hn2 : L.length - (cutN L p.k + 1) = (L.drop (cutN L p.k + 1)).length := by rw [List.length_drop]
  have hsum : (L.take (cutN L p.k)).length + 1 + (L.drop (cutN L p.k + 1)).length ≤ 70000 := by rw [List.length_take, List.length_drop]; omega
  have HN := Lib.hid (And.intro hn1 (And.intro hn2 (And.intro hsum hle)))
  have hn7 : cutN L p.k ≤ 70000 := by omega
  have hE : (mayT p ≠ 0 → putE L p = mayT p) ∧ (mayT p = 0 → cutN L p.k = 1024 → putE L p = 100) ∧ (mayT p = 0 → cutN L p.k ≠ 1024 → putE L p = 0) := by
    unfold putE
    exact ⟨fun h => by rw [if_neg h], fun h g => by rw [if_pos h, if_pos g], fun h g => by rw [if_pos h, if_neg g]⟩
  have HS := Lib.hid (put_split L p)
  unfold PutOut
  generalize putE L p = z at *
  generalize putT L p = M at *
  generalize mayT p = y at *
  have HE := Lib.hid hE
  clear hn1 hn2 hsum hle hlen hE
  go_enter Tryz.func148, Tryz.ntmps148
  go_upto_region 1 with (fail)
  refine wp_region_held_drew (S := Hm w p.k p.d) (by kernel_rfl) hS (fun hHeld => ?_)
  refine hH_take (i := 0) (v := .slice A L.length cap) (d := 11) (l2 := #[true, false, false, false, false, false, false, false]) rfl (by kernel_rfl) (by kernel_rfl) (by kernel_rfl) (fun _ _ _ h => h) (by kernel_rfl) (fun w hSw => ?_) (by assumption) rfl (by kernel_rfl) ?_
  · go_simp
  simp only [List.set]
  refine hH_take (i := 2) (v := .agg #[.string p.k.str, .int .i64 p.k.sym]) (d := 13) (l2 := #[true, false, true, false, false, false, false, false]) rfl (by kernel_rfl) (by kernel_rfl) (by kernel_rfl) (fun _ _ _ h => h) (by kernel_rfl) (fun w hSw => ?_) (by assumption) rfl (by kernel_rfl) ?_
  · exact ex_load_at (k2_load hSw.k) rfl rfl
  simp only [List.set]
  refine hH_take (i := 3) (v := .agg p.d.cells) (d := 14) (l2 := #[true, false, true, true, false, false, false, false]) rfl (by kernel_rfl) (by kernel_rfl) (by kernel_rfl) (fun _ _ _ h => h) (by kernel_rfl) (fun w hSw => ?_) (by assumption) rfl (by kernel_rfl) ?_
  · exact ex_load_at (d2_load hSw.d) rfl rfl
  simp only [List.set]
  refine wpAnyH_ready (rs := [1]) (by kernel_rfl) (by simp) ?_
  refine AllReadyH.cons rfl (fun K hK => ?_) AllReadyH.nil
  go_simp
  go_at_call 74
  (with_reducible refine (cC _ hS.below).mono ?_)
  rintro e w1 ⟨rfl, h1⟩
  have hS := hS.up h1
  clear h1
  refine hK.out _ _ hS (fun hHeld => ?_)
  clear hK K
  refine wpAnyH_ready (rs := [4]) (by kernel_rfl) (by simp) ?_
  refine AllReadyH.cons rfl (fun K hK => ?_) AllReadyH.nil
  go_simp
  go_at_call 113
  (with_reducible refine (mC _).mono ?_)
  rintro e w1 ⟨rfl, h1⟩
  have hS := hS.up h1
  clear h1
  refine hK.out _ _ hS (fun hHeld => ?_)
  clear hK K
  refine wpAnyH_ready (rs := [5]) (by kernel_rfl) (by simp) ?_
  refine AllReadyH.cons rfl (fun K hK => ?_) AllReadyH.nil
  go_simp
  have hS := hS.up (vzero _ (.cells #[.int .i64 0, .int .i64 y] 25))
  have hO := orS_new w1 0 y
  refine hK.out _ _ hS (fun hHeld => ?_)
  clear hK K
  refine wpAnyH_ready (rs := [6]) (by kernel_rfl) (by simp) ?_
  refine AllReadyH.cons rfl (fun K hK => ?_) AllReadyH.nil
  go_simp
  go_at_call 46
  (with_reducible refine (Or_0 _ y _ hO.1 hO.2).mono ?_)
  rintro e w2 ⟨rfl, rfl⟩
  refine hK.out _ _ hS (fun hHeld => ?_)
  clear hK K
  refine hH_take (i := 7) (v := .int .i64 y) (d := 8) (l2 := #[true, true, true, true, true, true, true, true]) rfl (by kernel_rfl) (by kernel_rfl) (by kernel_rfl) (fun _ _ _ h => h) (by kernel_rfl) (fun w hSw => ?_) (by assumption) rfl (by kernel_rfl) ?_
  · go_simp
  simp only [List.set]
  refine wpAnyH_done (by kernel_rfl) ?_ _
  have HB := Lib.hid hS.below
  have hb1 := hS.k
  have hb2 := hS.d
  clear cC mC hO
  by_cases hy : y = 0
  · subst hy
    by_cases hn : cutN L p.k = 1024
    · have hne : ((cutN L p.k : Int) == 1024) = true := by rw [beq_iff_eq]; omega
      go_wp2_with (first
        | ((with_reducible refine kk_load ?_ rfl rfl hb1 ?_); (rfl))
        | (go_at_call 106; (with_reducible refine (hcut _ HB.out).mono ?_); rintro e w3 ⟨A1, A2, c2, rfl, _, _, hb3, _⟩; have HB := Lib.hid (vb HB.out hb3); clear hb3))
      go_ret2
      have e := HE.out.2.1 trivial hn
      exact ⟨_, by rw [e]; rfl, fun h => absurd (e.symm.trans h) (by decide), HB.out⟩
    · have hne : ((cutN L p.k : Int) == 1024) = false := by rw [beq_eq_false_iff_ne]; omega
      go_wp2_with (first
        | ((with_reducible refine kk_load ?_ rfl rfl hb1 ?_); (rfl))
        | ((with_reducible refine dq_load ?_ rfl rfl hb2 ?_); (rfl))
        | (go_at_call 106; (with_reducible refine (hcut _ HB.out).mono ?_); rintro e w3 ⟨A1, A2, c2, rfl, q1, q2, hb3, q3⟩; have HQ := Lib.hid (And.intro (pr_up q1 hb3) (And.intro (pr_up q2 hb3) q3)); have hb1 := vblkn hb3 hb1; have hb2 := vblkn hb3 hb2; have HB := Lib.hid (vb HB.out hb3); clear q1 q2 q3 hb3)
        | ((with_reducible refine p_build (p := p) rfl _ _ rfl rfl rfl ?_))
        | ((with_reducible refine p_slice (p := p) rfl _ rfl rfl ?_); have HG := Lib.hid (heap_alloc_new w3 (.cells (prA p) 93)))
        | (at_builtin; refine pr_one (M := L.take (cutN L p.k)) (p := p) rfl _ _ rfl rfl HN.out.1 (pr_up HQ.out.1 (vzero _ _)) rfl HG.out hn7 ?_; intro v1 w4 ho hb4; have HO := Lib.hid (And.intro ho hb4); clear ho hb4)
        | (at_builtin; refine pr_append (L := L.drop (cutN L p.k + 1)) rfl _ _ rfl rfl HO.out.1 rfl HN.out.2.1 (pr_up (pr_up HQ.out.2.1 (vzero _ _)) HO.out.2) HQ.out.2.2 HN.out.2.2.1 HO.out.2.size ?_; intro v2 w5 ho hg5; have HP := Lib.hid (And.intro ho (grown_below2 HO.out.2 HO.out.1 hg5)); clear ho hg5))
      go_ret2
      have e := HE.out.2.2 trivial hn
      refine ⟨_, by rw [e]; rfl, fun _ => own_out (B := (w3.alloc (.cells (prA p) 93)).heap.size) ?_, vb HB.out (vafter HP.out.2)⟩
      rw [HS.out, prCells_app, List.length_append, List.length_append]
      exact HP.out.1
  · go_wp2_with (fail)
    go_ret2
    have e := HE.out.1 hy
    exact ⟨_, by rw [e]; rfl, fun h => absurd (e.symm.trans h) hy, HB.out⟩
end Go.Proofs.YthnkllhfmjbbmaaGreatDoor.S
/-
  table.Keys, Sealed, Frozen where the properties may be. Generated: gen_tabtell.py.
-/
namespace Go.Proofs.YthnkllhfmjbbmaaGreatDoor.S
open Go.RowKit Go.Lib Fl
open Classical

set_option maxRecDepth 100000 in
theorem keysF (p : Pq) (w : World) : Calls Tryz.prog 112 #[.agg (prA p)] w fun e w' => e = .returned (.bool true) ∧ Below w.heap.size w w' := by
  go_enter Tryz.func112, Tryz.ntmps112
  go_wp2
  go_ret
  exact ⟨rfl, vzero _ _⟩
end Go.Proofs.YthnkllhfmjbbmaaGreatDoor.S
/-
  table.Keys where the properties may be.
-/
namespace Go.Proofs.YthnkllhfmjbbmaaGreatDoor.S
open Go.RowKit Go.Lib Fl
open Classical

theorem ktwo_one (k : Ky) : ∀ u ∈ ([.string k.str, .int .i64 k.sym] : List Value), u.oneCell' = true := List.all_eq_true.1 (rfl : ([.string k.str, .int .i64 k.sym] : List Value).all (·.oneCell') = true)
theorem ktwo_new (w : World) (k : Ky) (j : Nat) (u : Value) (hu : ([.string k.str, .int .i64 k.sym] : List Value)[j]? = some u) : (w.alloc (.cells #[.string k.str, .int .i64 k.sym] 63)).cell? ((⟨w.heap.size, 0, none⟩ : Addr).add j) = some u := by
  rw [Addr.add_mid, Nat.zero_add, vcells (heap_alloc_new w _)]
  simpa using hu
theorem kyCells_app (L M : List Ky) : kyCells (L ++ M) = kyCells L ++ kyCells M := List.flatMap_append
theorem own_keys {w : World} {B n : Nat} {v : Value} {K : List Ky} (h : w.ownsRow B 63 2 v n (kyCells K)) (hn : n = K.length) : ∃ A cap, v = .slice A K.length cap ∧ RK w A K := by
  subst hn
  obtain ⟨h1, h2⟩ := h
  rcases h2 with ⟨rfl, h0⟩ | ⟨g, cap, cur, rfl, hB, hg, hn, hc, hs, ht⟩
  · have : K = [] := List.length_eq_zero_iff.1 h0
    subst this
    exact ⟨none, 0, rfl, fun h => absurd h (Nat.lt_irrefl _)⟩
  · refine ⟨some ⟨g, 0, none⟩, cap, rfl, fun _ => ⟨_, rfl, lt_blk hg, fun i hi => ?_⟩⟩
    obtain ⟨q0, q1⟩ := kyCells_at K i hi
    rw [← ht, List.getElem?_take] at q0 q1
    rw [Addr.add_mid, Nat.zero_add, vcells hg]
    refine ⟨?_, ?_⟩
    · split at q0
      · simpa using q0
      · cases q0
    · show w.cell? ⟨g, i * 2 + 1, none⟩ = _
      rw [vcells hg]
      split at q1
      · simpa using q1
      · cases q1
theorem pw_load {ops : Array Oper} {rest : List Oper} {o : Oper} {a : Act} {w : World} {Q : Exit → Act → World → Prop} {x : Operand} {g : Nat} {p : Pq} (hw : Region.wanted o (yielded ops a.tmps) = true) (ho : o.op = .load 93 x) (hx : a.eval x = .pointer (some ⟨g, 0, none⟩)) (hg : w.heap[g]? = some (.cells (prA p) 93 (0, 0)))
    (h : wpList Tryz.prog ops Q rest (a.put o.dst (.agg (prA p))) w) : wpList Tryz.prog ops Q (o :: rest) a w :=
  wpList_wanted hw fun _ hK => wp_load_row 93 x ho g hx 93 _ (0, 0) _ hg Tryz.underlying93 rfl psz (hK _ _ h)
def keysL (L : List Pq) : List Ky := L.map (·.k)
theorem keysL_snoc {L : List Pq} {i : Nat} (h : i < L.length) : keysL (L.take (i + 1)) = keysL (L.take i) ++ [L[i].k] := by unfold keysL; rw [take_snoc h, List.map_append]; rfl
theorem keysL_len (L : List Pq) : (keysL L).length = L.length := by unfold keysL; simp
def KeysTo (L : List Pq) (w : World) (e : Ending) (w' : World) : Prop := ∃ M O, e = .returned (.tuple #[.slice (some ⟨O, 0, none⟩) L.length L.length, .int .i64 0]) ∧ OrdOf (keysL L) M ∧ w'.heap[O]? = some (.cells (kyCells M).toArray 63 (0, 0)) ∧ Below w.heap.size w w'
theorem below_gb {w w' : World} (h : Below w.heap.size w w') : w.grownBy w' none := ⟨h.os, h.tape, h.output, h.size, fun k hk _ => h.block k hk⟩
theorem grown_key {w wr w2 : World} {e : TypeId} {size n : Nat} {v : Value} {xs : List Value} (h : Below w.heap.size w wr) (ho : wr.ownsRow w.heap.size e size v n xs) (g : wr.grownBy w2 v.ownBlock) : Below w.heap.size w w2 :=
  ⟨g.os.trans h.os, g.tape.trans h.tape, g.output.trans h.output, Nat.le_trans h.size g.size, fun i hi => (g.block i (Nat.lt_of_lt_of_le hi h.size) (fun e => by have := (ho.lt i e.symm).1; omega)).trans (h.block i hi)⟩
theorem own_up {w w' : World} {B : Nat} {e : TypeId} {size n : Nat} {v : Value} {xs : List Value} (h : w.ownsRow B e size v n xs) (hb : Below w.heap.size w w') : w'.ownsRow B e size v n xs :=
  h.kept (below_gb hb) (by cases v.ownBlock <;> simp)
set_option maxHeartbeats 4000000 in
set_option maxRecDepth 100000 in
theorem keys_t (A : Option Addr) (L : List Pq) (cap : Nat) (w : World) (hT : TabIn w A L cap) (htab : TabHere w) : Calls Tryz.prog 111 #[.slice A L.length cap, .func (.func 112) #[] #[]] w (KeysTo L w) := by
  have cC := fun W hb => hT.check (W := W) hb
  have HB := Lib.hid (Below.refl w.heap.size w)
  have HT := Lib.hid hT
  have HTB := Lib.hid htab
  have hlen := hT.ok.len
  obtain ⟨i0, hi, hz0, hz1, hz2⟩ := info_parts key_info
  clear hT htab
  go_enter Tryz.func111, Tryz.ntmps111
  go_wp2_with (go_at_call 74; (with_reducible refine (cC _ HB.out).mono ?_); rintro e w1 ⟨rfl, h9⟩; have HB := Lib.hid (vb HB.out h9); clear h9)
  go_loopg [7, 17] L.length (fun kx s7 s17 wr => ∃ i : Nat, s17 = .int .i64 i ∧ i + kx = L.length ∧ Hid (wr.ownsRow w.heap.size 63 2 s7 i (kyCells (keysL (L.take i))) ∧ Below w.heap.size w wr))
  case atStart => exact ⟨0, rfl, by omega, Lib.hid ⟨World.ownsRow_nil _ _ _ _, HB.out⟩⟩
  case round =>
    clear HB cC
    obtain ⟨i, rfl, hik, H⟩ := hrel
    cases gk with
    | zero =>
      obtain rfl : i = L.length := by omega
      obtain ⟨A2, cap2, rfl, hRK⟩ := own_keys H.out.1 (by rw [List.take_length, keysL_len])
      rw [List.take_length] at hRK ⊢
      have hin : ∀ k ∈ keysL L, KyIn k := fun k hk => by
        obtain ⟨p, hp, rfl⟩ := List.mem_map.1 hk
        exact (HT.out.inn p hp).1
      have hO := Order_k A2 (keysL L) cap2 wr hin (by rw [keysL_len]; omega) hRK (tab_up HTB.out H.out.2)
      go_wp2_with (go_at_call 151; (with_reducible refine hO.mono ?_); rintro e w2 ⟨M, O, rfl, hM, _, hb, h9⟩)
      go_ret2
      exact ⟨M, O, by rw [keysL_len]; rfl, hM, hb, vb H.out.2 h9⟩
    | succ kx =>
      have hlt : i < L.length := by omega
      have hlz : (i : Int) < (L.length : Int) := by omega
      obtain ⟨a, rfl, hab, hrow⟩ := pr_up HT.out.row H.out.2 (by omega)
      have hc : ∀ j u, (pcl L[i])[j]? = some u → wr.cell? ((a.add (i * 18)).add j) = some u := fun j u hu => by rw [add_add]; exact hrow i hlt j u hu
      have hnext := keysL_snoc hlt
      obtain ⟨P, hP⟩ : ∃ P, P = L[i] := ⟨_, rfl⟩
      rw [← hP] at hc hnext
      have hi1 : (Tryz.prog.info? 93).map (·.size) = some (prA P).size := psz
      have hF := fun W => keysF P W
      have HNX := Lib.hid hnext
      have HL := Lib.hid (And.intro hlt hlen)
      clear hP hrow hnext hab
      go_wp2_with (first
        | ((with_reducible refine p_load ?_ rfl rfl hc ?_); (rfl))
        | ((with_reducible refine t_store rfl rfl rfl rfl (heap_alloc_new _ _) hi1 ?_ (prA_one P) (vzero wr _) (Nat.le_refl _) ?_); (rfl); intro W hBW hW _ _)
        | ((with_reducible refine pw_load ?_ rfl rfl hW ?_); (rfl)))
      refine (hF _).mono ?_
      rintro e w1 ⟨rfl, h9⟩
      have hW := vblkn h9 hW
      have hBW := vb hBW h9
      clear h9
      dsimp only
      go_wp2_with (first
        | ((with_reducible refine pk_load ?_ rfl rfl hW ?_); (rfl))
        | (at_builtin; refine wpList_append_own _ rfl _ _ 56 rfl w.heap.size 63 i0 (.agg #[.string ⟨#[]⟩, .int .i64 0]) 2 24 Tryz.underlying56 hi hz0 hz1 hz2 rfl (by decide) _ i _ rfl ((own_up H.out.1 hBW).alloc _) ⟨w1.heap.size, 0, none⟩ 1 1 [.string P.k.str, .int .i64 P.k.sym] rfl rfl (ktwo_new w1 P.k) (ktwo_one P.k) (by have := HL.out.1; unfold maxLen; omega) (by have := HL.out.1; have := HL.out.2; omega) (Nat.le_trans (vb H.out.2 hBW).size (Nat.le_of_lt (new_lt w1 _))) ?_; intro v' w3 hown' hgrow _; have HO := Lib.hid (And.intro hown' (grown_key ((vb H.out.2 hBW).alloc (vb H.out.2 hBW).size _) ((own_up H.out.1 hBW).alloc _) hgrow)); clear hown' hgrow))
      go_roundg kx
      case measure => omega
      case rel => exact ⟨i + 1, by congr 1, by omega, Lib.hid ⟨by rw [HNX.out, kyCells_app]; exact HO.out.1, HO.out.2⟩⟩
end Go.Proofs.YthnkllhfmjbbmaaGreatDoor.S
