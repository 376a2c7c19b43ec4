/-
  table.Find where the properties may be. Generated: gen_tabdrop.py.
-/
import Derived.Test.YtlfbflclefndjaaGreatDoorKE14
import Derived.Test.YtlfbflclefndjaaGreatDoorKE09
import Derived.Maps.AppendAt
import Derived.OwnWalk
import Derived.RangeFuncNested
import Derived.RangeFuncBound
import Derived.RangeFuncCalls
import Derived.RangeFuncLeaves
import Derived.Shelf.Abstract
import Derived.Shelf.RegionOpen
import Derived.WalkKit
import Derived.OwnWalkIn
import Derived.TacticsInMore
import Derived.LoopNIn
import Derived.LoopIn
namespace Go.Proofs.YtlfbflclefndjaaGreatDoor.S
open Go.RowKit Go.Lib Fl
open Classical

theorem dq_end3 {f : Func} {i j k : Nat} {t : TypeId} {Q : Ending → World → Prop} {tmps : Array Value} {W : World} {g : Nat} {d : Dq} {v u : Value} (hf : f.results = #[.cell i 41, .tmp j, .tmp k]) (h2 : tmps[i]?.getD undef = .pointer (some ⟨g, 0, none⟩)) (h3 : tmps[j]?.getD undef = v) (h4 : tmps[k]?.getD undef = u)
    (hb : W.heap[g]? = some (.cells d.cells t (0, 0))) (hQ : Q (.returned (.tuple #[.agg d.cells, v, u])) W) : bodyPost Tryz.prog f Q .ret { tmps := tmps, defers := [] } W := by
  have e : (loadVar 41 ⟨g, 0, none⟩).run Tryz.prog W = .ok (.agg d.cells) W := run_loadVar_row W g t 41 _ (0, 0) _ hb Tryz.underlying41 rfl dsz
  refine bodyPost_ret (v := .tuple #[.agg d.cells, v, u]) ?_ rfl hQ
  simp [results, hf, h2, h3, h4, asAddr, e]
/-- a descriptor found, or none -/
def fndD (L : List Pq) (k : Ky) : Dq := match findT L k with | some p => p.d | none => dz 0
def FndTo (L : List Pq) (k : Ky) (w : World) (e : Ending) (w' : World) : Prop := e = .returned (.tuple #[.agg (fndD L k).cells, .bool (findT L k).isSome, .int .i64 0]) ∧ Below w.heap.size w w'
theorem pd_load2 {ops : Array Oper} {rest : List Oper} {o : Oper} {a : Act} {w : World} {Q : Exit → Act → World → Prop} {x : Operand} {A : Addr} {d : Dq} (hw : Region.wanted o (yielded ops a.tmps) = true) (ho : o.op = .load 41 x) (hx : a.eval x = .pointer (some A)) (hc : ∀ j u, d.cells.toList[j]? = some u → w.cell? (A.add j) = some u)
    (h : wpList Tryz.prog ops Q rest (a.put o.dst (.agg d.cells)) w) : wpList Tryz.prog ops Q (o :: rest) a w :=
  wpList_wanted hw fun _ hK => wp_load_at (cs := d.cells.toList) ho hx hc Tryz.underlying41 rfl dsz (hK _ _ h)
theorem dc_one (d : Dq) : d.cells.all (·.oneCell') = true := cells_one (l := d.cells.toList) rfl
theorem dc_size (d : Dq) : (Tryz.prog.info? 41).map (·.size) = some d.cells.size := dsz
theorem pr_desc {w : World} {a : Addr} {L : List Pq} (h : PR w (some a) L) {i : Nat} (hi : i < L.length) : (a.add (i * 18)).block < w.heap.size ∧ ∀ j u, L[i].d.cells.toList[j]? = some u → w.cell? ((⟨(a.add (i * 18)).block, (a.add (i * 18)).off + 2, none⟩ : Addr).add j) = some u := by
  obtain ⟨b, hb, hlt, hc⟩ := h (by omega)
  obtain rfl := Option.some.inj hb
  refine ⟨by rw [add_blk]; exact hlt, fun j u hu => ?_⟩
  have e : (⟨(a.add (i * 18)).block, (a.add (i * 18)).off + 2, none⟩ : Addr).add j = (a.add (i * 18)).add (2 + j) := by
    rw [Addr.add_mid]
    show _ = Addr.add _ _
    unfold Addr.add
    rw [if_neg (show ¬ 2 + j = 0 by omega)]
    by_cases h0 : i * 18 = 0
    · rw [if_pos h0]; congr 1; omega
    · rw [if_neg h0]; congr 1; omega
  rw [e, add_add, show i * 18 + (2 + j) = i * 18 + (j + 1 + 1) by omega]
  exact hc i hi (j + 1 + 1) u hu
theorem fnd_ways (L : List Pq) (k : Ky) : (∀ h : cutN L k < L.length, fndD L k = L[cutN L k].d ∧ (findT L k).isSome = true) ∧ (¬ cutN L k < L.length → fndD L k = dz 0 ∧ (findT L k).isSome = false) := by
  unfold fndD findT
  refine ⟨fun h => ?_, fun h => ?_⟩
  · rw [List.getElem?_eq_getElem h]; exact ⟨rfl, rfl⟩
  · rw [List.getElem?_eq_none (by omega)]; exact ⟨rfl, rfl⟩
set_option maxHeartbeats 4000000 in
set_option maxRecDepth 100000 in
theorem Find_t (A : Option Addr) (L : List Pq) (cap : Nat) (k : Ky) (w : World) (hT : TabIn w A L cap) (hk : mayKy k) : Calls Tryz.prog 89 #[.slice A L.length cap, .agg #[.string k.str, .int .i64 k.sym]] w (FndTo L k w) := by
  have cC := fun W hb => hT.check (W := W) hb
  have kC := key_fine hk
  have hcut := fun W hb => hT.cut (W := W) hb k
  have hle := cutN_le L k
  have hl63 : L.length < 1000000000000 := hT.few
  have hS : Hm w k (dz 0) ((w.alloc (.cells #[.string k.str, .int .i64 k.sym] 26)).alloc (.cells #[.int .u8 0, .int .u8 0, .float .f64 0, .string ⟨#[]⟩, .int .i64 0, .int .u8 0, .float .f64 0, .string ⟨#[]⟩, .int .i64 0, .int .u8 0, .float .f64 0, .string ⟨#[]⟩, .int .i64 0, .bool false, .bool false, .bool false] 41)).drew := (hm_start w k (dz 0)).drew
  have hw := fnd_ways L k
  unfold FndTo
  generalize fndD L k = D at *
  generalize (findT L k).isSome = b at *
  have HW := Lib.hid hw
  clear hw
  go_enter Tryz.func89, Tryz.ntmps89
  go_upto_region 1 with (fail)
  refine wp_region_held_drew (S := Hm w k (dz 0)) (by kernel_rfl) hS (fun hHeld => ?_)
  refine hH_take (i := 0) (v := .slice A L.length cap) (d := 10) (l2 := #[true, false, false, false, false, false, false]) rfl (by kernel_rfl) (by kernel_rfl) (by kernel_rfl) (fun _ _ _ h => h) (by kernel_rfl) (fun w hSw => ?_) (by assumption) rfl (by kernel_rfl) ?_
  · go_simp
  simp only [List.set]
  refine hH_take (i := 2) (v := .agg #[.string k.str, .int .i64 k.sym]) (d := 12) (l2 := #[true, false, true, false, false, false, false]) rfl (by kernel_rfl) (by kernel_rfl) (by kernel_rfl) (fun _ _ _ h => h) (by kernel_rfl) (fun w hSw => ?_) (by assumption) rfl (by kernel_rfl) ?_
  · exact ex_load_at (k2_load hSw.k) rfl rfl
  simp only [List.set]
  refine wpAnyH_ready (rs := [1]) (by kernel_rfl) (by simp) ?_
  refine AllReadyH.cons rfl (fun K hK => ?_) AllReadyH.nil
  go_simp
  go_at_call 32
  (with_reducible refine (cC _ hS.below).mono ?_)
  rintro e w1 ⟨rfl, h1⟩
  have hS := hS.up h1
  clear h1
  refine hK.out _ _ hS (fun hHeld => ?_)
  clear hK K
  refine wpAnyH_ready (rs := [3]) (by kernel_rfl) (by simp) ?_
  refine AllReadyH.cons rfl (fun K hK => ?_) AllReadyH.nil
  go_simp
  go_at_call 39
  (with_reducible refine (kC _).mono ?_)
  rintro e w1 ⟨rfl, h1⟩
  have hS := hS.up h1
  clear h1
  refine hK.out _ _ hS (fun hHeld => ?_)
  clear hK K
  refine wpAnyH_ready (rs := [4]) (by kernel_rfl) (by simp) ?_
  refine AllReadyH.cons rfl (fun K hK => ?_) AllReadyH.nil
  go_simp
  have hS := hS.up (vzero _ (.cells #[.int .i64 0, .int .i64 0] 30))
  have hO := orS_new w1 0 0
  refine hK.out _ _ hS (fun hHeld => ?_)
  clear hK K
  refine wpAnyH_ready (rs := [5]) (by kernel_rfl) (by simp) ?_
  refine AllReadyH.cons rfl (fun K hK => ?_) AllReadyH.nil
  go_simp
  go_at_call 20
  (with_reducible refine (Or_0 _ 0 _ hO.1 hO.2).mono ?_)
  rintro e w2 ⟨rfl, rfl⟩
  refine hK.out _ _ hS (fun hHeld => ?_)
  clear hK K
  refine hH_take (i := 6) (v := .int .i64 0) (d := 7) (l2 := #[true, true, true, true, true, true, true]) rfl (by kernel_rfl) (by kernel_rfl) (by kernel_rfl) (fun _ _ _ h => h) (by kernel_rfl) (fun w hSw => ?_) (by assumption) rfl (by kernel_rfl) ?_
  · go_simp
  simp only [List.set]
  refine wpAnyH_done (by kernel_rfl) ?_ _
  have HB := Lib.hid hS.below
  have hb1 := hS.k
  have hb2 := hS.d
  clear cC kC hO
  by_cases hn : cutN L k < L.length
  · have hne : ((cutN L k : Int) == (L.length : Int)) = false := by rw [beq_eq_false_iff_ne]; omega
    have hnz : (cutN L k : Int) < (L.length : Int) := by omega
    have HT := Lib.hid hT
    obtain ⟨a, rfl, _, _⟩ := hT.row (by omega)
    obtain ⟨P, hP⟩ : ∃ P, P = L[cutN L k] := ⟨_, rfl⟩
    have HP := Lib.hid hP
    have hc1 := dc_one P.d
    have hi1 := dc_size P.d
    clear hP hT
    go_wp2_with (first
      | ((with_reducible refine kk_load ?_ rfl rfl hb1 ?_); (rfl))
      | (go_at_call 93; (with_reducible refine (hcut _ HB.out).mono ?_); rintro e w3 ⟨A1, A2, c2, rfl, _, _, hb3, _⟩; have hb2 := vblkn hb3 hb2; have HB := Lib.hid (vb HB.out hb3); have hq := (pr_desc (HT.out.up HB.out).row hn); rw [← HP.out] at hq; have hq2 := hq.2; clear hb3 hq)
      | ((with_reducible refine pd_load2 ?_ rfl rfl hq2 ?_); (rfl))
      | ((with_reducible refine t_store (cs := P.d.cells) rfl rfl rfl rfl hb2 hi1 ?_ hc1 HB.out (Nat.le_succ _) ?_); (rfl); intro W hBW hW _ _))
    obtain ⟨e1, e2⟩ := HW.out.1 hn
    exact dq_end3 Tryz.results89 rfl rfl rfl hW ⟨by rw [e1, e2, ← HP.out]; rfl, hBW⟩
  · have hne : ((cutN L k : Int) == (L.length : Int)) = true := by rw [beq_iff_eq]; omega
    have hz1 : w.heap.size ≤ w.heap.size + 1 := Nat.le_succ _
    go_wp2_with (first
      | ((with_reducible refine kk_load ?_ rfl rfl hb1 ?_); (rfl))
      | (go_at_call 93; (with_reducible refine (hcut _ HB.out).mono ?_); rintro e w3 ⟨A1, A2, c2, rfl, _, _, hb3, _⟩; have hb2 := vblkn hb3 hb2; have HB := Lib.hid (vb HB.out hb3); clear hb3)
      | ((with_reducible refine d_store rfl rfl rfl rfl hb2 ?_ ?_ ?_); (rfl); (rfl)))
    obtain ⟨e1, e2⟩ := HW.out.2 hn
    exact d_end3 Tryz.results89 rfl rfl rfl (setRow_heap _ _ _ _ _ _ hb2) ⟨by rw [e1, e2]; rfl, below_row HB.out hz1 _⟩
end Go.Proofs.YtlfbflclefndjaaGreatDoor.S
/-
  A property built out of a key and a descriptor; a slice of one.
-/
namespace Go.Proofs.YtlfbflclefndjaaGreatDoor.S
open Go.RowKit Go.Lib Fl

set_option maxRecDepth 100000 in
theorem run_build_p (p : Pq) (w : World) : (Instr.build 68 #[(0, .agg #[.string p.k.str, .int .i64 p.k.sym]), (1, .agg p.d.cells)]).run Tryz.prog w = .ok (.agg (prA p)) w := by kernel_rfl
set_option maxRecDepth 100000 in
theorem run_slice_p (p : Pq) (w : World) : (Instr.buildSlice 35 1 #[(0, .agg (prA p))]).run Tryz.prog w = .ok (.slice (some ⟨w.heap.size, 0, none⟩) 1 1) (w.alloc (.cells (prA p) 68)) := by kernel_rfl
section
variable {ops : Array Oper} {rest : List Oper} {o : Oper} {a : Act} {w : World} {Q : Exit → Act → World → Prop}
theorem p_build {p : Pq} (hgd : o.guard = none) (x y : Operand) (ho : o.op = .build 68 #[(0, x), (1, y)]) (hx : a.eval x = .agg #[.string p.k.str, .int .i64 p.k.sym]) (hy : a.eval y = .agg p.d.cells)
    (h : wpList Tryz.prog ops Q rest (a.put o.dst (.agg (prA p))) w) : wpList Tryz.prog ops Q (o :: rest) a w := by
  refine wpList_plain hgd fun _ hK => ?_
  unfold Oper.wp execOp
  simp only [ho, List.map_toArray, List.map_cons, List.map_nil, hx, hy, run_build_p, Sem.run_bind, Sem.run_pure, Result.andThen_ok]
  exact hK _ _ h
theorem p_slice {p : Pq} (hgd : o.guard = none) (x : Operand) (ho : o.op = .buildSlice 35 1 #[(0, x)]) (hx : a.eval x = .agg (prA p))
    (h : wpList Tryz.prog ops Q rest (a.put o.dst (.slice (some ⟨w.heap.size, 0, none⟩) 1 1)) (w.alloc (.cells (prA p) 68))) : wpList Tryz.prog ops Q (o :: rest) a w := by
  refine wpList_plain hgd fun _ hK => ?_
  unfold Oper.wp execOp
  simp only [ho, List.map_toArray, List.map_cons, List.map_nil, hx, run_slice_p, Sem.run_bind, Sem.run_pure, Result.andThen_ok]
  exact hK _ _ h
end
end Go.Proofs.YtlfbflclefndjaaGreatDoor.S
/-
  table.Put where the properties may be. Generated: gen_tabdrop.py.
-/
namespace Go.Proofs.YtlfbflclefndjaaGreatDoor.S
open Go.RowKit Go.Lib Fl
open Classical

/-- Put's error -/
noncomputable def putE (L : List Pq) (p : Pq) : Int := if mayT p = 0 then (if cutN L p.k = 1024 then 100 else 0) else mayT p
def PutOut (L : List Pq) (p : Pq) (w : World) (e : Ending) (w' : World) : Prop := ∃ v, e = .returned (.tuple #[v, .int .i64 (putE L p)]) ∧ (putE L p = 0 → OutS w' v (putT L p)) ∧ Below w.heap.size w w'
theorem put_split (L : List Pq) (p : Pq) : putT L p = (L.take (cutN L p.k) ++ [p]) ++ L.drop (cutN L p.k + 1) := by unfold putT; simp
set_option maxHeartbeats 4000000 in
set_option maxRecDepth 100000 in
theorem Put_t (A : Option Addr) (L : List Pq) (cap : Nat) (p : Pq) (w : World) (hT : TabIn w A L cap) (hp : p.In) : Calls Tryz.prog 74 #[.slice A L.length cap, .agg #[.string p.k.str, .int .i64 p.k.sym], .agg p.d.cells] w (PutOut L p w) := by
  have cC := fun W hb => hT.check (W := W) hb
  have mC := fun W => may_t hp W
  have hcut := fun W hb => hT.cut (W := W) hb p.k
  have hlen := hT.ok.len
  have hle := cutN_le L p.k
  have hS : Hm w p.k p.d ((w.alloc (.cells #[.string p.k.str, .int .i64 p.k.sym] 26)).alloc (.cells p.d.cells 41)).drew := (hm_start w p.k p.d).drew
  have hn1 : cutN L p.k = (L.take (cutN L p.k)).length := by rw [List.length_take]; omega
  have hn2 : L.length - (cutN L p.k + 1) = (L.drop (cutN L p.k + 1)).length := by rw [List.length_drop]
  have hsum : (L.take (cutN L p.k)).length + 1 + (L.drop (cutN L p.k + 1)).length ≤ 70000 := by rw [List.length_take, List.length_drop]; omega
  have HN := Lib.hid (And.intro hn1 (And.intro hn2 (And.intro hsum hle)))
  have hn7 : cutN L p.k ≤ 70000 := by omega
  have hE : (mayT p ≠ 0 → putE L p = mayT p) ∧ (mayT p = 0 → cutN L p.k = 1024 → putE L p = 100) ∧ (mayT p = 0 → cutN L p.k ≠ 1024 → putE L p = 0) := by
    unfold putE
    exact ⟨fun h => by rw [if_neg h], fun h g => by rw [if_pos h, if_pos g], fun h g => by rw [if_pos h, if_neg g]⟩
  have HS := Lib.hid (put_split L p)
  unfold PutOut
  generalize putE L p = z at *
  generalize putT L p = M at *
  generalize mayT p = y at *
  have HE := Lib.hid hE
  clear hn1 hn2 hsum hle hlen hE
  go_enter Tryz.func74, Tryz.ntmps74
  go_upto_region 1 with (fail)
  refine wp_region_held_drew (S := Hm w p.k p.d) (by kernel_rfl) hS (fun hHeld => ?_)
  refine hH_take (i := 0) (v := .slice A L.length cap) (d := 11) (l2 := #[true, false, false, false, false, false, false, false]) rfl (by kernel_rfl) (by kernel_rfl) (by kernel_rfl) (fun _ _ _ h => h) (by kernel_rfl) (fun w hSw => ?_) (by assumption) rfl (by kernel_rfl) ?_
  · go_simp
  simp only [List.set]
  refine hH_take (i := 2) (v := .agg #[.string p.k.str, .int .i64 p.k.sym]) (d := 13) (l2 := #[true, false, true, false, false, false, false, false]) rfl (by kernel_rfl) (by kernel_rfl) (by kernel_rfl) (fun _ _ _ h => h) (by kernel_rfl) (fun w hSw => ?_) (by assumption) rfl (by kernel_rfl) ?_
  · exact ex_load_at (k2_load hSw.k) rfl rfl
  simp only [List.set]
  refine hH_take (i := 3) (v := .agg p.d.cells) (d := 14) (l2 := #[true, false, true, true, false, false, false, false]) rfl (by kernel_rfl) (by kernel_rfl) (by kernel_rfl) (fun _ _ _ h => h) (by kernel_rfl) (fun w hSw => ?_) (by assumption) rfl (by kernel_rfl) ?_
  · exact ex_load_at (d2_load hSw.d) rfl rfl
  simp only [List.set]
  refine wpAnyH_ready (rs := [1]) (by kernel_rfl) (by simp) ?_
  refine AllReadyH.cons rfl (fun K hK => ?_) AllReadyH.nil
  go_simp
  go_at_call 32
  (with_reducible refine (cC _ hS.below).mono ?_)
  rintro e w1 ⟨rfl, h1⟩
  have hS := hS.up h1
  clear h1
  refine hK.out _ _ hS (fun hHeld => ?_)
  clear hK K
  refine wpAnyH_ready (rs := [4]) (by kernel_rfl) (by simp) ?_
  refine AllReadyH.cons rfl (fun K hK => ?_) AllReadyH.nil
  go_simp
  go_at_call 55
  (with_reducible refine (mC _).mono ?_)
  rintro e w1 ⟨rfl, h1⟩
  have hS := hS.up h1
  clear h1
  refine hK.out _ _ hS (fun hHeld => ?_)
  clear hK K
  refine wpAnyH_ready (rs := [5]) (by kernel_rfl) (by simp) ?_
  refine AllReadyH.cons rfl (fun K hK => ?_) AllReadyH.nil
  go_simp
  have hS := hS.up (vzero _ (.cells #[.int .i64 0, .int .i64 y] 30))
  have hO := orS_new w1 0 y
  refine hK.out _ _ hS (fun hHeld => ?_)
  clear hK K
  refine wpAnyH_ready (rs := [6]) (by kernel_rfl) (by simp) ?_
  refine AllReadyH.cons rfl (fun K hK => ?_) AllReadyH.nil
  go_simp
  go_at_call 20
  (with_reducible refine (Or_0 _ y _ hO.1 hO.2).mono ?_)
  rintro e w2 ⟨rfl, rfl⟩
  refine hK.out _ _ hS (fun hHeld => ?_)
  clear hK K
  refine hH_take (i := 7) (v := .int .i64 y) (d := 8) (l2 := #[true, true, true, true, true, true, true, true]) rfl (by kernel_rfl) (by kernel_rfl) (by kernel_rfl) (fun _ _ _ h => h) (by kernel_rfl) (fun w hSw => ?_) (by assumption) rfl (by kernel_rfl) ?_
  · go_simp
  simp only [List.set]
  refine wpAnyH_done (by kernel_rfl) ?_ _
  have HB := Lib.hid hS.below
  have hb1 := hS.k
  have hb2 := hS.d
  clear cC mC hO
  by_cases hy : y = 0
  · subst hy
    by_cases hn : cutN L p.k = 1024
    · have hne : ((cutN L p.k : Int) == 1024) = true := by rw [beq_iff_eq]; omega
      go_wp2_with (first
        | ((with_reducible refine kk_load ?_ rfl rfl hb1 ?_); (rfl))
        | (go_at_call 93; (with_reducible refine (hcut _ HB.out).mono ?_); rintro e w3 ⟨A1, A2, c2, rfl, _, _, hb3, _⟩; have HB := Lib.hid (vb HB.out hb3); clear hb3))
      go_ret2
      have e := HE.out.2.1 trivial hn
      exact ⟨_, by rw [e]; rfl, fun h => absurd (e.symm.trans h) (by decide), HB.out⟩
    · have hne : ((cutN L p.k : Int) == 1024) = false := by rw [beq_eq_false_iff_ne]; omega
      go_wp2_with (first
        | ((with_reducible refine kk_load ?_ rfl rfl hb1 ?_); (rfl))
        | ((with_reducible refine dq_load ?_ rfl rfl hb2 ?_); (rfl))
        | (go_at_call 93; (with_reducible refine (hcut _ HB.out).mono ?_); rintro e w3 ⟨A1, A2, c2, rfl, q1, q2, hb3, q3⟩; have HQ := Lib.hid (And.intro (pr_up q1 hb3) (And.intro (pr_up q2 hb3) q3)); have hb1 := vblkn hb3 hb1; have hb2 := vblkn hb3 hb2; have HB := Lib.hid (vb HB.out hb3); clear q1 q2 q3 hb3)
        | ((with_reducible refine p_build (p := p) rfl _ _ rfl rfl rfl ?_))
        | ((with_reducible refine p_slice (p := p) rfl _ rfl rfl ?_); have HG := Lib.hid (heap_alloc_new w3 (.cells (prA p) 68)))
        | (at_builtin; refine pr_one (M := L.take (cutN L p.k)) (p := p) rfl _ _ rfl rfl HN.out.1 (pr_up HQ.out.1 (vzero _ _)) rfl HG.out hn7 ?_; intro v1 w4 ho hb4; have HO := Lib.hid (And.intro ho hb4); clear ho hb4)
        | (at_builtin; refine pr_append (L := L.drop (cutN L p.k + 1)) rfl _ _ rfl rfl HO.out.1 rfl HN.out.2.1 (pr_up (pr_up HQ.out.2.1 (vzero _ _)) HO.out.2) HQ.out.2.2 HN.out.2.2.1 HO.out.2.size ?_; intro v2 w5 ho hg5; have HP := Lib.hid (And.intro ho (grown_below2 HO.out.2 HO.out.1 hg5)); clear ho hg5))
      go_ret2
      have e := HE.out.2.2 trivial hn
      refine ⟨_, by rw [e]; rfl, fun _ => own_out (B := (w3.alloc (.cells (prA p) 68)).heap.size) ?_, vb HB.out (vafter HP.out.2)⟩
      rw [HS.out, prCells_app, List.length_append, List.length_append]
      exact HP.out.1
  · go_wp2_with (fail)
    go_ret2
    have e := HE.out.1 hy
    exact ⟨_, by rw [e]; rfl, fun h => absurd (e.symm.trans h) hy, HB.out⟩
end Go.Proofs.YtlfbflclefndjaaGreatDoor.S
/-
  table.Keys, Sealed, Frozen where the properties may be. Generated: gen_tabtell.py.
-/
namespace Go.Proofs.YtlfbflclefndjaaGreatDoor.S
open Go.RowKit Go.Lib Fl
open Classical

set_option maxRecDepth 100000 in
theorem keysF (p : Pq) (w : World) : Calls Tryz.prog 96 #[.agg (prA p)] w fun e w' => e = .returned (.bool true) ∧ Below w.heap.size w w' := by
  go_enter Tryz.func96, Tryz.ntmps96
  go_wp2
  go_ret
  exact ⟨rfl, vzero _ _⟩
end Go.Proofs.YtlfbflclefndjaaGreatDoor.S
/-
  table.Keys where the properties may be.
-/
namespace Go.Proofs.YtlfbflclefndjaaGreatDoor.S
open Go.RowKit Go.Lib Fl
open Classical

theorem ktwo_one (k : Ky) : ∀ u ∈ ([.string k.str, .int .i64 k.sym] : List Value), u.oneCell' = true := List.all_eq_true.1 (rfl : ([.string k.str, .int .i64 k.sym] : List Value).all (·.oneCell') = true)
theorem ktwo_new (w : World) (k : Ky) (j : Nat) (u : Value) (hu : ([.string k.str, .int .i64 k.sym] : List Value)[j]? = some u) : (w.alloc (.cells #[.string k.str, .int .i64 k.sym] 26)).cell? ((⟨w.heap.size, 0, none⟩ : Addr).add j) = some u := by
  rw [Addr.add_mid, Nat.zero_add, vcells (heap_alloc_new w _)]
  simpa using hu
theorem kyCells_app (L M : List Ky) : kyCells (L ++ M) = kyCells L ++ kyCells M := List.flatMap_append
theorem own_keys {w : World} {B n : Nat} {v : Value} {K : List Ky} (h : w.ownsRow B 26 2 v n (kyCells K)) (hn : n = K.length) : ∃ A cap, v = .slice A K.length cap ∧ RK w A K := by
  subst hn
  obtain ⟨h1, h2⟩ := h
  rcases h2 with ⟨rfl, h0⟩ | ⟨g, cap, cur, rfl, hB, hg, hn, hc, hs, ht⟩
  · have : K = [] := List.length_eq_zero_iff.1 h0
    subst this
    exact ⟨none, 0, rfl, fun h => absurd h (Nat.lt_irrefl _)⟩
  · refine ⟨some ⟨g, 0, none⟩, cap, rfl, fun _ => ⟨_, rfl, lt_blk hg, fun i hi => ?_⟩⟩
    obtain ⟨q0, q1⟩ := kyCells_at K i hi
    rw [← ht, List.getElem?_take] at q0 q1
    rw [Addr.add_mid, Nat.zero_add, vcells hg]
    refine ⟨?_, ?_⟩
    · split at q0
      · simpa using q0
      · cases q0
    · show w.cell? ⟨g, i * 2 + 1, none⟩ = _
      rw [vcells hg]
      split at q1
      · simpa using q1
      · cases q1
theorem pw_load {ops : Array Oper} {rest : List Oper} {o : Oper} {a : Act} {w : World} {Q : Exit → Act → World → Prop} {x : Operand} {g : Nat} {p : Pq} (hw : Region.wanted o (yielded ops a.tmps) = true) (ho : o.op = .load 68 x) (hx : a.eval x = .pointer (some ⟨g, 0, none⟩)) (hg : w.heap[g]? = some (.cells (prA p) 68 (0, 0)))
    (h : wpList Tryz.prog ops Q rest (a.put o.dst (.agg (prA p))) w) : wpList Tryz.prog ops Q (o :: rest) a w :=
  wpList_wanted hw fun _ hK => wp_load_row 68 x ho g hx 68 _ (0, 0) _ hg Tryz.underlying68 rfl psz (hK _ _ h)
def keysL (L : List Pq) : List Ky := L.map (·.k)
theorem keysL_snoc {L : List Pq} {i : Nat} (h : i < L.length) : keysL (L.take (i + 1)) = keysL (L.take i) ++ [L[i].k] := by unfold keysL; rw [take_snoc h, List.map_append]; rfl
theorem keysL_len (L : List Pq) : (keysL L).length = L.length := by unfold keysL; simp
def KeysTo (L : List Pq) (w : World) (e : Ending) (w' : World) : Prop := ∃ M O, e = .returned (.tuple #[.slice (some ⟨O, 0, none⟩) L.length L.length, .int .i64 0]) ∧ OrdOf (keysL L) M ∧ w'.heap[O]? = some (.cells (kyCells M).toArray 26 (0, 0)) ∧ Below w.heap.size w w'
theorem below_gb {w w' : World} (h : Below w.heap.size w w') : w.grownBy w' none := ⟨h.os, h.tape, h.output, h.size, fun k hk _ => h.block k hk⟩
theorem grown_key {w wr w2 : World} {e : TypeId} {size n : Nat} {v : Value} {xs : List Value} (h : Below w.heap.size w wr) (ho : wr.ownsRow w.heap.size e size v n xs) (g : wr.grownBy w2 v.ownBlock) : Below w.heap.size w w2 :=
  ⟨g.os.trans h.os, g.tape.trans h.tape, g.output.trans h.output, Nat.le_trans h.size g.size, fun i hi => (g.block i (Nat.lt_of_lt_of_le hi h.size) (fun e => by have := (ho.lt i e.symm).1; omega)).trans (h.block i hi)⟩
theorem own_up {w w' : World} {B : Nat} {e : TypeId} {size n : Nat} {v : Value} {xs : List Value} (h : w.ownsRow B e size v n xs) (hb : Below w.heap.size w w') : w'.ownsRow B e size v n xs :=
  h.kept (below_gb hb) (by cases v.ownBlock <;> simp)
set_option maxHeartbeats 4000000 in
set_option maxRecDepth 100000 in
theorem keys_t (A : Option Addr) (L : List Pq) (cap : Nat) (w : World) (hT : TabIn w A L cap) (htab : TabHere w) : Calls Tryz.prog 95 #[.slice A L.length cap, .func (.func 96) #[] #[]] w (KeysTo L w) := by
  have cC := fun W hb => hT.check (W := W) hb
  have HB := Lib.hid (Below.refl w.heap.size w)
  have HT := Lib.hid hT
  have HTB := Lib.hid htab
  have hlen := hT.ok.len
  obtain ⟨i0, hi, hz0, hz1, hz2⟩ := info_parts key_info
  clear hT htab
  go_enter Tryz.func95, Tryz.ntmps95
  go_wp2_with (go_at_call 32; (with_reducible refine (cC _ HB.out).mono ?_); rintro e w1 ⟨rfl, h9⟩; have HB := Lib.hid (vb HB.out h9); clear h9)
  go_loopg [7, 17] L.length (fun kx s7 s17 wr => ∃ i : Nat, s17 = .int .i64 i ∧ i + kx = L.length ∧ Hid (wr.ownsRow w.heap.size 26 2 s7 i (kyCells (keysL (L.take i))) ∧ Below w.heap.size w wr))
  case atStart => exact ⟨0, rfl, by omega, Lib.hid ⟨World.ownsRow_nil _ _ _ _, HB.out⟩⟩
  case round =>
    clear HB cC
    obtain ⟨i, rfl, hik, H⟩ := hrel
    cases gk with
    | zero =>
      obtain rfl : i = L.length := by omega
      obtain ⟨A2, cap2, rfl, hRK⟩ := own_keys H.out.1 (by rw [List.take_length, keysL_len])
      rw [List.take_length] at hRK ⊢
      have hin : ∀ k ∈ keysL L, KyIn k := fun k hk => by
        obtain ⟨p, hp, rfl⟩ := List.mem_map.1 hk
        exact (HT.out.inn p hp).1
      have hO := Order_k A2 (keysL L) cap2 wr hin (by rw [keysL_len]; omega) hRK (tab_up HTB.out H.out.2)
      go_wp2_with (go_at_call 105; (with_reducible refine hO.mono ?_); rintro e w2 ⟨M, O, rfl, hM, _, hb, h9⟩)
      go_ret2
      exact ⟨M, O, by rw [keysL_len]; rfl, hM, hb, vb H.out.2 h9⟩
    | succ kx =>
      have hlt : i < L.length := by omega
      have hlz : (i : Int) < (L.length : Int) := by omega
      obtain ⟨a, rfl, hab, hrow⟩ := pr_up HT.out.row H.out.2 (by omega)
      have hc : ∀ j u, (pcl L[i])[j]? = some u → wr.cell? ((a.add (i * 18)).add j) = some u := fun j u hu => by rw [add_add]; exact hrow i hlt j u hu
      have hnext := keysL_snoc hlt
      obtain ⟨P, hP⟩ : ∃ P, P = L[i] := ⟨_, rfl⟩
      rw [← hP] at hc hnext
      have hi1 : (Tryz.prog.info? 68).map (·.size) = some (prA P).size := psz
      have hF := fun W => keysF P W
      have HNX := Lib.hid hnext
      have HL := Lib.hid (And.intro hlt hlen)
      clear hP hrow hnext hab
      go_wp2_with (first
        | ((with_reducible refine p_load ?_ rfl rfl hc ?_); (rfl))
        | ((with_reducible refine t_store rfl rfl rfl rfl (heap_alloc_new _ _) hi1 ?_ (prA_one P) (vzero wr _) (Nat.le_refl _) ?_); (rfl); intro W hBW hW _ _)
        | ((with_reducible refine pw_load ?_ rfl rfl hW ?_); (rfl)))
      refine (hF _).mono ?_
      rintro e w1 ⟨rfl, h9⟩
      have hW := vblkn h9 hW
      have hBW := vb hBW h9
      clear h9
      dsimp only
      go_wp2_with (first
        | ((with_reducible refine pk_load ?_ rfl rfl hW ?_); (rfl))
        | (at_builtin; refine wpList_append_own _ rfl _ _ 42 rfl w.heap.size 26 i0 (.agg #[.string ⟨#[]⟩, .int .i64 0]) 2 24 Tryz.underlying42 hi hz0 hz1 hz2 rfl (by decide) _ i _ rfl ((own_up H.out.1 hBW).alloc _) ⟨w1.heap.size, 0, none⟩ 1 1 [.string P.k.str, .int .i64 P.k.sym] rfl rfl (ktwo_new w1 P.k) (ktwo_one P.k) (by have := HL.out.1; unfold maxLen; omega) (by have := HL.out.1; have := HL.out.2; omega) (Nat.le_trans (vb H.out.2 hBW).size (Nat.le_of_lt (new_lt w1 _))) ?_; intro v' w3 hown' hgrow _; have HO := Lib.hid (And.intro hown' (grown_key ((vb H.out.2 hBW).alloc (vb H.out.2 hBW).size _) ((own_up H.out.1 hBW).alloc _) hgrow)); clear hown' hgrow))
      go_roundg kx
      case measure => omega
      case rel => exact ⟨i + 1, by congr 1, by omega, Lib.hid ⟨by rw [HNX.out, kyCells_app]; exact HO.out.1, HO.out.2⟩⟩
end Go.Proofs.YtlfbflclefndjaaGreatDoor.S
/-
  alive of the laws of table: put, and found.
-/
namespace Go.Proofs.YtlfbflclefndjaaGreatDoor.S
open Go.RowKit Go.Lib Fl
open Classical

theorem Data_t (ka : Int) (xa : Nat) (sa : ByteArray) (ra : Int) (w : World) : Calls Tryz.prog 30 #[.agg #[.int .u8 ka, .float .f64 xa, .string sa, .int .i64 ra]] w fun e w' => e = .returned (.agg #[.int .u8 51, .int .u8 ka, .float .f64 xa, .string sa, .int .i64 ra, .int .u8 0, .float .f64 0, .string ⟨#[]⟩, .int .i64 0, .int .u8 0, .float .f64 0, .string ⟨#[]⟩, .int .i64 0, .bool true, .bool true, .bool true]) ∧ Below w.heap.size w w' := by
  have hst := vstore
  have hB0 : Below w.heap.size w ((w.alloc (.cells #[.int .u8 ka, .float .f64 xa, .string sa, .int .i64 ra] 34)).alloc (.cells #[.int .u8 0, .int .u8 0, .float .f64 0, .string ⟨#[]⟩, .int .i64 0, .int .u8 0, .float .f64 0, .string ⟨#[]⟩, .int .i64 0, .int .u8 0, .float .f64 0, .string ⟨#[]⟩, .int .i64 0, .bool false, .bool false, .bool false] 41)) := vafter (vzero _ _)
  obtain ⟨b1, b2⟩ := vblk2 (w := w) (Below.refl _ ((w.alloc (.cells #[.int .u8 ka, .float .f64 xa, .string sa, .int .i64 ra] 34)).alloc (.cells #[.int .u8 0, .int .u8 0, .float .f64 0, .string ⟨#[]⟩, .int .i64 0, .int .u8 0, .float .f64 0, .string ⟨#[]⟩, .int .i64 0, .int .u8 0, .float .f64 0, .string ⟨#[]⟩, .int .i64 0, .bool false, .bool false, .bool false] 41)))
  go_enter Tryz.func30, Tryz.ntmps30
  go_wp2_with (first | ((with_reducible refine v_load ?_ rfl rfl b1 rfl rfl rfl rfl ?_); (rfl)) | ((with_reducible refine d_store rfl rfl rfl rfl b2 ?_ ?_ ?_); (rfl); (rfl)))
  exact d_end Tryz.results30 rfl (setRow_heap _ _ _ _ _ _ b2) ⟨rfl, below_row hB0 (by omega) _⟩
/-- the usual property of a number -/
def dN (x : Nat) : Dq := ⟨51, ⟨3, x, ⟨#[]⟩, 0⟩, v0, v0, true, true, true⟩
def pN (s : ByteArray) (y : Int) (x : Nat) : Pq := ⟨⟨s, y⟩, dN x⟩

theorem ok_in2 {v : Vq} (h : v.Ok) : v.In := by
  obtain ⟨u, ok, e1, e2, _, e4⟩ := h
  obtain ⟨k0, k8⟩ := vok_kind ⟨u, ok, e1, e2, rfl, e4⟩
  refine ⟨k0, by omega, ?_, ?_⟩
  · rw [← e2]
    cases u with
    | boo x => rcases ok with rfl | rfl | rfl <;> simp only [Vl.fl] <;> omega
    | num x => obtain ⟨c, hc, _⟩ := ok; simp only [Vl.fl]; exact hc.lt
    | _ => simp only [Vl.fl]; omega
  · rw [← e4]
    cases u with
    | sym r => exact ok.2
    | obj k r => exact ok.2.2
    | _ => simp only [Vl.rf]; omega
theorem pN_in {s : ByteArray} {y : Int} {x : Nat} (hs : s.size ≤ 4096) (hy : 0 ≤ y ∧ y < 100) (hv : (⟨3, x, ⟨#[]⟩, 0⟩ : Vq).Ok) : (pN s y x).In :=
  ⟨⟨by show s.size ≤ maxLen; unfold maxLen; omega, by show -2 ^ 63 ≤ y; omega, by show y < 2 ^ 63; omega⟩, by show (0 : Int) ≤ 51; decide, by show (51 : Int) < 256; decide, ok_in2 hv, ok_in2 v0_ok, ok_in2 v0_ok⟩
theorem pN_ok {s : ByteArray} {y : Int} {x : Nat} (hs : s.size ≤ 4096) (hy : 0 ≤ y ∧ y < 100) (hz : 0 < y → s = ⟨#[]⟩) (hv : (⟨3, x, ⟨#[]⟩, 0⟩ : Vq).Ok) : (pN s y x).Ok :=
  ⟨⟨hy.1, hs, hz⟩, (whole_iff (pN_in hs hy hv).2).2 ⟨good51 hv, .inl rfl⟩⟩
def pA : Pq := pN (⟨#[97]⟩ : ByteArray) 0 4607182418800017408
end Go.Proofs.YtlfbflclefndjaaGreatDoor.S
/-
  Heaps: which objects may be, where prototypes lead, what one comes to: plain functions.
-/
namespace Go.Proofs.YtlfbflclefndjaaGreatDoor.S
open Go.RowKit Go.Lib Fl
open Classical

/-- an object; pa and pc: where its properties lie, and how many have room there (they count for nothing) -/
structure Ob where
  kind : Int
  proto : Vq
  ext : Bool
  pa : Option Addr
  pc : Nat
  props : List Pq
  target : Vq
  handler : Vq
  text : ByteArray
  calls : Bool
  makes : Bool
instance : Inhabited Ob := ⟨⟨0, v0, false, none, 0, [], v0, v0, ⟨#[]⟩, false, false⟩⟩
def ocl (o : Ob) : List Value := [.int .u8 o.kind, .int .u8 o.proto.k, .float .f64 o.proto.x, .string o.proto.s, .int .i64 o.proto.r, .bool o.ext, .slice o.pa o.props.length o.pc,
  .int .u8 o.target.k, .float .f64 o.target.x, .string o.target.s, .int .i64 o.target.r, .int .u8 o.handler.k, .float .f64 o.handler.x, .string o.handler.s, .int .i64 o.handler.r, .string o.text, .bool o.calls, .bool o.makes]
def obA (o : Ob) : Array Value := (ocl o).toArray
theorem ocl_len (o : Ob) : (ocl o).length = 18 := rfl
theorem obA_size (o : Ob) : (obA o).size = 18 := rfl
theorem obA_one (o : Ob) : (obA o).all (·.oneCell') = true := cells_one (l := ocl o) rfl
/-- an object that may come in -/
structure Ob.In (o : Ob) : Prop where
  k0 : 0 ≤ o.kind
  k1 : o.kind < 256
  proto : o.proto.In
  target : o.target.In
  handler : o.handler.In
  text : o.text.size ≤ maxLen
  props : ∀ p ∈ o.props, p.In
  room : o.props.length ≤ o.pc
  cap63 : o.pc < 9223372036854775808
  nil : o.pa = none → o.pc = 0
/-- but for where its properties lie -/
def Ob.bare (o : Ob) : Ob := { o with pa := none, pc := 0 }
def objQ (v : Vq) : Bool := v.k == 6 || (v.k == 7 || v.k == 8)
def valsO (o : Ob) : List Vq := [o.proto, o.target, o.handler] ++ o.props.flatMap fun p => [p.d.a, p.d.b, p.d.c]
def kindO (o : Ob) : Int := bif o.calls && o.makes then 8 else bif o.calls then 7 else bif o.makes then 0 else 6
def refB (H : List Ob) (v : Vq) : Bool := match H[v.r.toNat]? with | some o => v.k == kindO o | none => false
noncomputable def holdsB (H : List Ob) (v : Vq) : Bool := v.may && (!objQ v || refB H v)
def aloneB (o : Ob) : Bool := o.target.z && o.handler.z
def bareB (o : Ob) : Bool := aloneB o && o.text.toList.isEmpty
def lenK : Ky := ⟨(⟨#[108, 101, 110, 103, 116, 104]⟩ : ByteArray), 0⟩
/-- the whole number that a float tells, from 0 to 1024 -/
noncomputable def smallN (x : Nat) : Option Nat := if h : ∃ n : Nat, n ≤ 1024 ∧ x = F n then some (Classical.choose h) else none
def idxs (L : List Pq) (such : Nat → Bool) : Bool := L.all fun p => match ixK p.k.str p.k.sym with | some i => such i | none => true
noncomputable def measuredB (L : List Pq) : Bool := match L with
  | [] => false
  | p :: _ => eqK p.k lenK && (p.d.a.k == 3 && (match smallN p.d.a.x with | some n => !p.d.q && (!p.d.z && idxs L fun i => decide (i < n)) | none => false))
def boxesB (o : Ob) : Bool := decide (o.text.size ≤ 4096) && (!(o.props.any fun p => eqK p.k lenK) && idxs o.props fun i => decide (o.text.size ≤ i))
def aheadB (v : Vq) (n : Nat) : Bool := objQ v && decide (v.r < n)
def proxB (H : List Ob) (t : Vq) : Bool := match H[t.r.toNat]? with | some o => o.kind == 6 | none => false
def revokesB (H : List Ob) (t : Vq) (n : Nat) : Bool := t.z || (aheadB t n && proxB H t)
def leadsB (o : Ob) (n : Nat) : Bool := bif o.target.k == 1 && o.handler.k == 1 then !(kindO o == 0) else aheadB o.target n && (aheadB o.handler n && kindO o == o.target.k)
noncomputable def fitsB (H : List Ob) (o : Ob) (n : Nat) : Bool :=
  bif o.kind == 1 then kindO o == 6 && bareB o
  else bif o.kind == 2 then kindO o == 6 && (bareB o && measuredB o.props)
  else bif o.kind == 3 then kindO o == 6 && (aloneB o && boxesB o)
  else bif o.kind == 4 then kindO o == 8 && bareB o
  else bif o.kind == 5 then o.calls && (o.handler.z && (o.text.toList.isEmpty && revokesB H o.target n))
  else bif o.kind == 6 then !o.ext && (o.props.isEmpty && (o.proto.k == 1 && (o.text.toList.isEmpty && leadsB o n)))
  else false
noncomputable def mayB (H : List Ob) (o : Ob) (n : Nat) : Bool :=
  chkT o.props == 0 && ((objQ o.proto || o.proto.k == 1) && ((valsO o).all (holdsB H) && fitsB H o n))
/-- where an object's prototype leads -/
def nextO (H : List Ob) (p : Nat) : Option Nat := match H[p]? with
  | some o => bif objQ o.proto then some o.proto.r.toNat else none
  | none => none
/-- one walk along prototypes: none, if it comes back -/
def walkF (H : List Ob) (k : Nat) : Nat → Nat → List Nat → Option (List Nat)
  | 0, _, W => some W
  | f + 1, p, W => match W[p]? with
    | none => some W
    | some x => bif x == k then none else bif !(x == 0) then some W else match nextO H p with
      | none => some (W.set p k)
      | some q => walkF H k f q (W.set p k)
def loopsL (H : List Ob) : Nat → Nat → List Nat → Bool
  | 0, _, _ => false
  | m + 1, n, W => match walkF H (n + 1) (H.length + 1) n W with
    | none => true
    | some W' => loopsL H m (n + 1) W'
def loopsB (H : List Ob) : Bool := loopsL H H.length 0 (List.replicate H.length 0)
noncomputable def mayH (H : List Ob) : Bool := decide (H.length ≤ 4096) && ((List.range H.length).all (fun i => match H[i]? with | some o => mayB H o i | none => false) && !loopsB H)
noncomputable def chkH (H : List Ob) : Int := bif mayH H then 0 else 9
theorem mayH_iff {H : List Ob} : mayH H = true ↔ H.length ≤ 4096 ∧ (∀ i (h : i < H.length), mayB H H[i] i = true) ∧ loopsB H = false := by
  unfold mayH
  simp only [Bool.and_eq_true, decide_eq_true_eq, List.all_eq_true, List.mem_range, Bool.not_eq_true']
  refine ⟨fun ⟨a, b, c⟩ => ⟨a, fun i h => ?_, c⟩, fun ⟨a, b, c⟩ => ⟨a, fun i h => ?_, c⟩⟩
  · have := b i h
    rw [List.getElem?_eq_getElem h] at this
    exact this
  · rw [List.getElem?_eq_getElem h]; exact b i h
/-- to which objects an object leads -/
def refsO (o : Ob) : List Nat := (valsO o).filterMap fun v => bif objQ v then some v.r.toNat else none
inductive RH (H : List Ob) (F : List Nat) : Nat → Prop where
  | start {x : Nat} : x ∈ F → RH H F x
  | step {x y : Nat} {o : Ob} : RH H F x → H[x]? = some o → y ∈ refsO o → RH H F y
theorem RH.more {H : List Ob} {F G : List Nat} (h : ∀ x ∈ F, RH H G x) {y : Nat} (hy : RH H F y) : RH H G y := by
  induction hy with
  | start h' => exact h _ h'
  | step _ e hm ih => exact .step ih e hm
theorem RH.lt {H : List Ob} {F : List Nat} (hm : mayH H = true) (hF : ∀ x ∈ F, x < H.length) {y : Nat} (hy : RH H F y) : y < H.length := by
  induction hy with
  | start h' => exact hF _ h'
  | @step x y o _ e hm' ih =>
    obtain ⟨hi, he⟩ := List.getElem?_eq_some_iff.1 e
    have hb := (mayH_iff.1 hm).2.1 x hi
    rw [he] at hb
    unfold mayB at hb
    simp only [Bool.and_eq_true] at hb
    obtain ⟨v, hv, hv2⟩ := List.mem_filterMap.1 hm'
    have hh := List.all_eq_true.1 hb.2.2.1 v hv
    cases ho : objQ v with
    | false => rw [ho] at hv2; cases hv2
    | true =>
      rw [ho] at hv2
      obtain rfl : v.r.toNat = y := Option.some.inj hv2
      unfold holdsB at hh
      rw [Bool.and_eq_true, ho, Bool.not_true, Bool.false_or] at hh
      unfold refB at hh
      cases e2 : H[v.r.toNat]? with
      | none => rw [e2] at hh; exact absurd hh.2 (by simp)
      | some u => exact (List.getElem?_eq_some_iff.1 e2).1
end Go.Proofs.YtlfbflclefndjaaGreatDoor.S
/-
  A heap in memory: an object's cells, values in them; what tells an object's kind, and what it has.
-/
namespace Go.Proofs.YtlfbflclefndjaaGreatDoor.S
open Go.RowKit Go.Lib Fl
open Classical

theorem osz : (Tryz.prog.info? 37).map (·.size) = some 18 := by kernel_rfl
theorem vsz4 : (Tryz.prog.info? 34).map (·.size) = some 4 := by kernel_rfl
/-- a value's cells -/
structure VAt (w : World) (A : Addr) (v : Vq) : Prop where
  lt : A.block < w.heap.size
  k : w.cell? A = some (.int .u8 v.k)
  x : w.cell? ⟨A.block, A.off + 1, none⟩ = some (.float .f64 v.x)
  s : w.cell? ⟨A.block, A.off + 2, none⟩ = some (.string v.s)
  r : w.cell? ⟨A.block, A.off + 3, none⟩ = some (.int .i64 v.r)
theorem VAt.up {w w' : World} {A : Addr} {v : Vq} (h : VAt w A v) (hb : Below w.heap.size w w') : VAt w' A v :=
  ⟨Nat.lt_of_lt_of_le h.lt hb.size, (hb.cell (p := A) h.lt).trans h.k, (hb.cell (p := ⟨A.block, A.off + 1, none⟩) h.lt).trans h.x, (hb.cell (p := ⟨A.block, A.off + 2, none⟩) h.lt).trans h.s, (hb.cell (p := ⟨A.block, A.off + 3, none⟩) h.lt).trans h.r⟩
/-- an object's cells -/
structure OF (w : World) (A : Addr) (o : Ob) : Prop where
  lt : A.block < w.heap.size
  kind : w.cell? A = some (.int .u8 o.kind)
  proto : VAt w ⟨A.block, A.off + 1, none⟩ o.proto
  ext : w.cell? ⟨A.block, A.off + 5, none⟩ = some (.bool o.ext)
  props : w.cell? ⟨A.block, A.off + 6, none⟩ = some (.slice o.pa o.props.length o.pc)
  target : VAt w ⟨A.block, A.off + 7, none⟩ o.target
  handler : VAt w ⟨A.block, A.off + 11, none⟩ o.handler
  text : w.cell? ⟨A.block, A.off + 15, none⟩ = some (.string o.text)
  calls : w.cell? ⟨A.block, A.off + 16, none⟩ = some (.bool o.calls)
  makes : w.cell? ⟨A.block, A.off + 17, none⟩ = some (.bool o.makes)
theorem OF.up {w w' : World} {A : Addr} {o : Ob} (h : OF w A o) (hb : Below w.heap.size w w') : OF w' A o :=
  ⟨Nat.lt_of_lt_of_le h.lt hb.size, (hb.cell (p := A) h.lt).trans h.kind, h.proto.up hb, (hb.cell (p := ⟨A.block, A.off + 5, none⟩) h.lt).trans h.ext, (hb.cell (p := ⟨A.block, A.off + 6, none⟩) h.lt).trans h.props,
   h.target.up hb, h.handler.up hb, (hb.cell (p := ⟨A.block, A.off + 15, none⟩) h.lt).trans h.text, (hb.cell (p := ⟨A.block, A.off + 16, none⟩) h.lt).trans h.calls, (hb.cell (p := ⟨A.block, A.off + 17, none⟩) h.lt).trans h.makes⟩
theorem of_cells {w : World} {A : Addr} {o : Ob} (hlt : A.block < w.heap.size) (h : ∀ j u, (ocl o)[j]? = some u → w.cell? (A.add j) = some u) : OF w A o :=
  ⟨hlt, h 0 _ rfl, ⟨hlt, h 1 _ rfl, h 2 _ rfl, h 3 _ rfl, h 4 _ rfl⟩, h 5 _ rfl, h 6 _ rfl, ⟨hlt, h 7 _ rfl, h 8 _ rfl, h 9 _ rfl, h 10 _ rfl⟩, ⟨hlt, h 11 _ rfl, h 12 _ rfl, h 13 _ rfl, h 14 _ rfl⟩, h 15 _ rfl, h 16 _ rfl, h 17 _ rfl⟩
theorem of_back {w : World} {A : Addr} {o : Ob} (h : OF w A o) : ∀ j u, (ocl o)[j]? = some u → w.cell? (A.add j) = some u := fun j u hu => by
  match j, hu with
  | 0, hu => cases hu; exact h.kind
  | 1, hu => cases hu; exact h.proto.k
  | 2, hu => cases hu; exact h.proto.x
  | 3, hu => cases hu; exact h.proto.s
  | 4, hu => cases hu; exact h.proto.r
  | 5, hu => cases hu; exact h.ext
  | 6, hu => cases hu; exact h.props
  | 7, hu => cases hu; exact h.target.k
  | 8, hu => cases hu; exact h.target.x
  | 9, hu => cases hu; exact h.target.s
  | 10, hu => cases hu; exact h.target.r
  | 11, hu => cases hu; exact h.handler.k
  | 12, hu => cases hu; exact h.handler.x
  | 13, hu => cases hu; exact h.handler.s
  | 14, hu => cases hu; exact h.handler.r
  | 15, hu => cases hu; exact h.text
  | 16, hu => cases hu; exact h.calls
  | 17, hu => cases hu; exact h.makes
  | n + 18, hu => cases hu
/-- objects in a row, and their properties, wherever they lie -/
def HRow (w : World) (A : Option Addr) (H : List Ob) : Prop := 0 < H.length → ∃ a, A = some a ∧ a.block < w.heap.size ∧ ∀ i (h : i < H.length), OF w (a.add (i * 18)) H[i] ∧ PR w H[i].pa H[i].props
theorem hrow_up {w w' : World} {A : Option Addr} {H : List Ob} (h : HRow w A H) (hb : Below w.heap.size w w') : HRow w' A H := fun hp => by
  obtain ⟨a, h1, h2, h3⟩ := h hp
  exact ⟨a, h1, Nat.lt_of_lt_of_le h2 hb.size, fun i hi => ⟨(h3 i hi).1.up hb, pr_up (h3 i hi).2 hb⟩⟩
/-- a heap that may come in -/
structure HIn (w : World) (A : Option Addr) (H : List Ob) (cap : Nat) : Prop where
  inn : ∀ o ∈ H, o.In
  row : HRow w A H
  few : H.length ≤ 5000
  pfew : ∀ o ∈ H, o.props.length < 1000000000000
  room : H.length ≤ cap
  cap63 : cap < 9223372036854775808
  nil : A = none → cap = 0
theorem HIn.up {w w' : World} {A : Option Addr} {H : List Ob} {cap : Nat} (h : HIn w A H cap) (hb : Below w.heap.size w w') : HIn w' A H cap := ⟨h.inn, hrow_up h.row hb, h.few, h.pfew, h.room, h.cap63, h.nil⟩
theorem HIn.at {w : World} {A : Option Addr} {H : List Ob} {cap : Nat} (h : HIn w A H cap) {i : Nat} (hi : i < H.length) : ∃ a, A = some a ∧ (a.add (i * 18)).block < w.heap.size ∧ OF w (a.add (i * 18)) H[i] ∧ PR w H[i].pa H[i].props := by
  obtain ⟨a, h1, h2, h3⟩ := h.row (by omega)
  exact ⟨a, h1, by rw [add_blk]; exact h2, h3 i hi⟩
section
variable {ops : Array Oper} {rest : List Oper} {o : Oper} {a : Act} {w : World} {Q : Exit → Act → World → Prop} {x y : Operand} {g i : Nat} {t : TypeId}
/-- a value loaded -/
theorem va_load {A : Addr} {v : Vq} (hw : Region.wanted o (yielded ops a.tmps) = true) (ho : o.op = .load 34 x) (hx : a.eval x = .pointer (some A)) (hv : VAt w A v)
    (h : wpList Tryz.prog ops Q rest (a.put o.dst (.agg #[.int .u8 v.k, .float .f64 v.x, .string v.s, .int .i64 v.r])) w) : wpList Tryz.prog ops Q (o :: rest) a w :=
  wpList_wanted hw fun _ hK => wp_load_at (cs := [.int .u8 v.k, .float .f64 v.x, .string v.s, .int .i64 v.r]) ho hx (fun j u hu => by
    match j, hu with
    | 0, hu => cases hu; exact hv.k
    | 1, hu => cases hu; exact hv.x
    | 2, hu => cases hu; exact hv.s
    | 3, hu => cases hu; exact hv.r
    | n + 4, hu => cases hu) Tryz.underlying34 rfl vsz4 (hK _ _ h)
end
theorem veq0 (v : Vq) (w : World) : (Op.equalIn (9998 + 2) 34 (.agg #[.int .u8 v.k, .float .f64 v.x, .string v.s, .int .i64 v.r]) (.agg #[.int .u8 0, .float .f64 0, .string ⟨#[]⟩, .int .i64 0])).run Tryz.prog w = .ok v.z w := eq_val 9998 v.k v.x v.s v.r w
section
variable {ops : Array Oper} {rest : List Oper} {o : Oper} {a : Act} {w : World} {Q : Exit → Act → World → Prop} {x y : Operand}
theorem ex_eqz {v : Vq} (ho : o.op = .binOp .eql 34 x y 34) (hx : a.eval x = .agg #[.int .u8 v.k, .float .f64 v.x, .string v.s, .int .i64 v.r]) (hy : a.eval y = .agg #[.int .u8 0, .float .f64 0, .string ⟨#[]⟩, .int .i64 0]) :
    (execOp a.eval o).run Tryz.prog w = .ok (.value (.bool v.z)) w := by
  have he := veq0 v w
  unfold execOp
  simp only [ho, hx, hy, Sem.run_bind, Sem.run_pure, run_eqGuard_agg w _ _ _ _ _ _ (show Tryz.prog.eqGuardType Tryz.prog.depth 34 = false by kernel_rfl), run_eql_struct, he, Result.andThen_ok]
/-- a value held against the zero one -/
theorem vz_eq {v : Vq} (hw : Region.wanted o (yielded ops a.tmps) = true) (ho : o.op = .binOp .eql 34 x y 34) (hx : a.eval x = .agg #[.int .u8 v.k, .float .f64 v.x, .string v.s, .int .i64 v.r]) (hy : a.eval y = .agg #[.int .u8 0, .float .f64 0, .string ⟨#[]⟩, .int .i64 0])
    (h : wpList Tryz.prog ops Q rest (a.put o.dst (.bool v.z)) w) : wpList Tryz.prog ops Q (o :: rest) a w :=
  wpList_wanted hw fun K hK => by
    unfold Oper.wp
    rw [ex_eqz ho hx hy]
    exact hK _ _ h
end
theorem kind_h (A : Addr) (o : Ob) (w : World) (h : OF w A o) : Calls Tryz.prog 58 #[.pointer (some A)] w fun e w' => e = .returned (.int .u8 (kindO o)) ∧ w' = w := by
  have h1 := h.calls
  have h2 := h.makes
  have h0 := h.lt
  unfold kindO
  clear h
  generalize o.calls = b at *
  generalize o.makes = c at *
  cases b <;> cases c
  all_goals
    go_enter Tryz.func58, Tryz.ntmps58
    go_wp2
    go_ret
    exact ⟨rfl, rfl⟩
set_option maxRecDepth 100000 in
theorem alone_h (A : Addr) (o : Ob) (w : World) (h : OF w A o) : Calls Tryz.prog 61 #[.pointer (some A)] w fun e w' => e = .returned (.bool (aloneB o)) ∧ w' = w := by
  have h1 := h.target
  have h2 := h.handler
  have h0 := h.lt
  unfold aloneB
  clear h
  cases e1 : o.target.z <;> cases e2 : o.handler.z
  all_goals
    go_enter Tryz.func61, Tryz.ntmps61
    go_wp2_with (first
      | ((with_reducible refine va_load ?_ rfl rfl h1 ?_); (rfl))
      | ((with_reducible refine va_load ?_ rfl rfl h2 ?_); (rfl))
      | ((with_reducible refine vz_eq (v := o.target) ?_ rfl rfl rfl ?_); (rfl); rw [e1])
      | ((with_reducible refine vz_eq (v := o.handler) ?_ rfl rfl rfl ?_); (rfl); rw [e2]))
    go_ret
    exact ⟨rfl, rfl⟩
theorem bare_h (A : Addr) (o : Ob) (w : World) (h : OF w A o) : Calls Tryz.prog 59 #[.pointer (some A)] w fun e w' => e = .returned (.bool (bareB o)) ∧ w' = w := by
  have h1 := h.text
  have h0 := h.lt
  have c1 := alone_h A o w h
  unfold bareB
  clear h
  generalize aloneB o = b at *
  generalize o.text = s at *
  cases b with
  | false =>
    go_enter Tryz.func59, Tryz.ntmps59
    go_wp2_with (go_at_call 61; (with_reducible refine c1.mono ?_); rintro e w1 ⟨rfl, rfl⟩)
    go_ret
    exact ⟨rfl, rfl⟩
  | true =>
    go_enter Tryz.func59, Tryz.ntmps59
    go_wp2_with (go_at_call 61; (with_reducible refine c1.mono ?_); rintro e w1 ⟨rfl, rfl⟩)
    go_ret
    exact ⟨by first | rfl | simp, rfl⟩
theorem IsObject_q (v : Vq) (h : 0 ≤ v.k) (w : World) : Calls Tryz.prog 26 #[.agg #[.int .u8 v.k, .float .f64 v.x, .string v.s, .int .i64 v.r]] w fun e w' => e = .returned (.bool (objQ v)) ∧ Below w.heap.size w w' := by
  obtain ⟨k, x, s, r⟩ := v
  obtain ⟨n, rfl⟩ := Int.eq_ofNat_of_zero_le h
  have := IsObject_v n x s r w
  unfold objQ
  unfold objB at this
  dsimp only at this ⊢
  refine this.mono fun e w' ⟨he, hb⟩ => ⟨he.trans ?_, hb⟩
  have k6 : ((n : Int) == 6) = (n == 6) := kd_eq n 6
  have k7 : ((n : Int) == 7) = (n == 7) := kd_eq n 7
  have k8 : ((n : Int) == 8) = (n == 8) := kd_eq n 8
  rw [k6, k7, k8, Bool.or_assoc]
theorem ahead_h (v : Vq) (h : 0 ≤ v.k) (n : Nat) (w : World) : Calls Tryz.prog 87 #[.agg #[.int .u8 v.k, .float .f64 v.x, .string v.s, .int .i64 v.r], .int .i64 (n : Int)] w fun e w' => e = .returned (.bool (aheadB v n)) ∧ Below w.heap.size w w' := by
  have c1 := fun w => IsObject_q v h w
  have hb := heap_alloc_new w (.cells #[.int .u8 v.k, .float .f64 v.x, .string v.s, .int .i64 v.r] 34)
  obtain ⟨q0, q1, q2, q3, _⟩ := vc4 hb
  unfold aheadB
  generalize objQ v = b at *
  cases b with
  | false =>
    go_enter Tryz.func87, Tryz.ntmps87
    go_wp2_with (go_at_call 26; (with_reducible refine (c1 _).mono ?_); rintro e w1 ⟨rfl, h1⟩; obtain ⟨q0, q1, q2, q3, _⟩ := vc4 (vblkn h1 hb); have hB := vafter h1)
    go_ret
    exact ⟨rfl, hB⟩
  | true =>
    go_enter Tryz.func87, Tryz.ntmps87
    go_wp2_with (go_at_call 26; (with_reducible refine (c1 _).mono ?_); rintro e w1 ⟨rfl, h1⟩; obtain ⟨q0, q1, q2, q3, _⟩ := vc4 (vblkn h1 hb); have hB := vafter h1)
    go_ret
    exact ⟨by first | rfl | simp, hB⟩
end Go.Proofs.YtlfbflclefndjaaGreatDoor.S
/-
  heap.values: an iterator over all that stands in an object.
-/
namespace Go.Proofs.YtlfbflclefndjaaGreatDoor.S
open Go.RowKit Go.Lib Fl Go.Shelf
open Classical
attribute [local go_sem] Oper.semAt_some

def encV (v : Vq) : Array Value := #[.agg #[.int .u8 v.k, .float .f64 v.x, .string v.s, .int .i64 v.r]]
theorem values_h (A : Addr) (w : World) : Calls Tryz.prog 33 #[.pointer (some A)] w fun e w' => e = .returned (.func (.func 56) #[] #[.pointer (some ⟨w.heap.size, 0, none⟩)]) ∧ w' = w.alloc (.cells #[.pointer (some A)] 73) := by
  go_enter Tryz.func33, Tryz.ntmps33
  go_wp2
  go_ret
  exact ⟨rfl, rfl⟩
/-- the values that stand in an object ahead of its i-th property -/
def valsN (o : Ob) (i : Nat) : List Vq := [o.proto, o.target, o.handler] ++ (o.props.take i).flatMap fun p => [p.d.a, p.d.b, p.d.c]
theorem vals_all (o : Ob) : valsN o o.props.length = valsO o := by unfold valsN valsO; rw [List.take_length]
theorem vals_step (o : Ob) (i : Nat) (h : i < o.props.length) : valsN o (i + 1) = valsN o i ++ [o.props[i].d.a] ++ [o.props[i].d.b] ++ [o.props[i].d.c] := by
  unfold valsN
  rw [take_snoc h, List.flatMap_append]
  simp
theorem vals_len (o : Ob) (i : Nat) (h : i ≤ o.props.length) : (valsN o i).length = 3 + 3 * i := by
  unfold valsN
  have : ∀ L : List Pq, (L.flatMap fun p => [p.d.a, p.d.b, p.d.c]).length = 3 * L.length := fun L => by
    induction L with
    | nil => rfl
    | cons x r ih => rw [List.flatMap_cons, List.length_append, ih, List.length_cons]; simp; omega
  rw [List.length_append, this, List.length_take]
  simp; omega
theorem vals_pre (o : Ob) (i : Nat) : valsN o i <+: valsO o := by
  rw [← vals_all]
  unfold valsN
  refine ⟨(o.props.drop i).flatMap fun p => [p.d.a, p.d.b, p.d.c], ?_⟩
  rw [List.append_assoc, ← List.flatMap_append, List.take_append_drop, List.take_length]
end Go.Proofs.YtlfbflclefndjaaGreatDoor.S
