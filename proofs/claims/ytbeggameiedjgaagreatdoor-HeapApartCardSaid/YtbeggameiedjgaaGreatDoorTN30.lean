/-
  table.Drop, Find, Put where the properties may be. Generated: gen_tabdrop.py.
-/
import Derived.Test.YtbeggameiedjgaaGreatDoorTN29
import Derived.Test.YtbeggameiedjgaaGreatDoorTN28
namespace Go.Proofs.YtbeggameiedjgaaGreatDoor.S
open Go.RowKit Go.Lib Fl
open Classical

theorem Or_0 (g : Nat) (y : Int) (w : World) (h0 : w.cell? ⟨g, 0, none⟩ = some (.int .i64 0)) (h1 : w.cell? ⟨g, 1, none⟩ = some (.int .i64 y)) : Calls Tryz.prog 36 #[.slice (some ⟨g, 0, none⟩) 2 2] w fun e w' => e = .returned (.int .i64 y) ∧ w' = w :=
  (Or_2 g 0 y w h0 h1).mono fun e w' ⟨he, hw⟩ => ⟨he.trans (by unfold orE; rw [if_pos rfl]), hw⟩
/-- what Drop holds on to while it asks -/
structure Hk (w : World) (k : Ky) (W : World) : Prop where
  below : Below w.heap.size w W
  k : W.heap[w.heap.size]? = some (.cells #[.string k.str, .int .i64 k.sym] 23 (0, 0))
theorem Hk.up {w W W' : World} {k : Ky} (h : Hk w k W) (hb : Below W.heap.size W W') : Hk w k W' := ⟨vb h.below hb, vblkn hb h.k⟩
theorem Hk.drew {w W : World} {k : Ky} (h : Hk w k W) : Hk w k W.drew := ⟨h.below.drew, h.k⟩
theorem hk_start (w : World) (k : Ky) : Hk w k (w.alloc (.cells #[.string k.str, .int .i64 k.sym] 23)) := ⟨vzero _ _, heap_alloc_new w _⟩
theorem kk_load {ops : Array Oper} {rest : List Oper} {o : Oper} {a : Act} {w : World} {Q : Exit → Act → World → Prop} {x : Operand} {g : Nat} {k : Ky} (hw : Region.wanted o (yielded ops a.tmps) = true) (ho : o.op = .load 23 x) (hx : a.eval x = .pointer (some ⟨g, 0, none⟩)) (hg : w.heap[g]? = some (.cells #[.string k.str, .int .i64 k.sym] 23 (0, 0)))
    (h : wpList Tryz.prog ops Q rest (a.put o.dst (.agg #[.string k.str, .int .i64 k.sym])) w) : wpList Tryz.prog ops Q (o :: rest) a w :=
  wpList_wanted hw fun _ hK => wp_load_row 23 x ho g hx 23 _ (0, 0) _ hg Tryz.underlying23 rfl ksz (hK _ _ h)
theorem two_new (w : World) (t : TypeId) (x y : Value) : (w.alloc (.cells #[x, y] t)).cell? ⟨w.heap.size, 0, none⟩ = some x ∧ (w.alloc (.cells #[x, y] t)).cell? ⟨w.heap.size, 1, none⟩ = some y := ⟨vcells (heap_alloc_new w _) 0, vcells (heap_alloc_new w _) 1⟩
theorem new_lt (w : World) (o : Obj) : w.heap.size < (w.alloc o).heap.size := by simp
theorem cut_nil {w : World} {A : Option Addr} {L : List Pq} {n : Nat} (h : PR w A (L.take n)) (hn : n ≤ L.length) : A = none → n = 0 := fun e => by
  subst e
  rcases Nat.eq_zero_or_pos n with c | c
  · exact c
  · obtain ⟨a, ha, _⟩ := h (by rw [List.length_take]; omega)
    cases ha
/-- a slice of properties that may be -/
structure TabIn (w : World) (A : Option Addr) (L : List Pq) (cap : Nat) : Prop where
  ok : TabOk L
  inn : ∀ p ∈ L, p.In
  row : PR w A L
  room : L.length ≤ cap
  cap63 : cap < 9223372036854775808
  nil : A = none → cap = 0
theorem TabIn.up {w w' : World} {A : Option Addr} {L : List Pq} {cap : Nat} (h : TabIn w A L cap) (hb : Below w.heap.size w w') : TabIn w' A L cap := ⟨h.ok, h.inn, pr_up h.row hb, h.room, h.cap63, h.nil⟩
theorem TabIn.few {w : World} {A : Option Addr} {L : List Pq} {cap : Nat} (h : TabIn w A L cap) : L.length < 1000000000000 := by have := h.ok.len; omega
theorem TabIn.check {w W : World} {A : Option Addr} {L : List Pq} {cap : Nat} (h : TabIn w A L cap) (hb : Below w.heap.size w W) : Calls Tryz.prog 15 #[.slice A L.length cap] W fun e w' => e = .returned (.int .i64 0) ∧ Below W.heap.size W w' :=
  (Check_t A L cap W h.inn h.few (pr_up h.row hb)).mono fun e w' ⟨he, hb⟩ => ⟨he.trans (by rw [chkT_yes h.ok]), hb⟩
theorem TabIn.cut {w W : World} {A : Option Addr} {L : List Pq} {cap : Nat} (h : TabIn w A L cap) (hb : Below w.heap.size w W) (k : Ky) : Calls Tryz.prog 38 #[.slice A L.length cap, .agg #[.string k.str, .int .i64 k.sym]] W (CutTo L k W) :=
  cut_t A L cap k W h.few h.room h.cap63 (pr_up h.row hb) h.nil
theorem key_fine {k : Ky} (h : mayKy k) (W : World) : Calls Tryz.prog 37 #[.agg #[.string k.str, .int .i64 k.sym]] W fun e w' => e = .returned (.int .i64 0) ∧ Below W.heap.size W w' := keyCheck_ok k.str k.sym W h
/-- properties handed out -/
def OutTo (M : List Pq) (z : Int) (w : World) (e : Ending) (w' : World) : Prop := ∃ v, e = .returned (.tuple #[v, .int .i64 z]) ∧ OutS w' v M ∧ Below w.heap.size w w'
set_option maxHeartbeats 4000000 in
set_option maxRecDepth 100000 in
theorem Drop_t (A : Option Addr) (L : List Pq) (cap : Nat) (k : Ky) (w : World) (hT : TabIn w A L cap) (hk : mayKy k) : Calls Tryz.prog 14 #[.slice A L.length cap, .agg #[.string k.str, .int .i64 k.sym]] w (OutTo (dropT L k) 0 w) := by
  have cC := fun W hb => hT.check (W := W) hb
  have kC := key_fine hk
  have hcut := fun W hb => hT.cut (W := W) hb k
  have hlen := hT.ok.len
  have hle := cutN_le L k
  have hn1 : cutN L k = (L.take (cutN L k)).length := by rw [List.length_take]; omega
  have hn2 : L.length - (cutN L k + 1) = (L.drop (cutN L k + 1)).length := by rw [List.length_drop]
  have hsum : cutN L k + (L.length - (cutN L k + 1)) ≤ 70000 := by omega
  have HN := Lib.hid (And.intro hn1 (And.intro hn2 (And.intro hsum hle)))
  clear hn1 hn2 hsum hle hlen
  have hS := (hk_start w k).drew
  go_enter Tryz.func14, Tryz.ntmps14
  go_upto_region 1 with (fail)
  refine wp_region_held_drew (S := Hk w k) (by kernel_rfl) hS (fun hHeld => ?_)
  refine hH_take (i := 0) (v := .slice A L.length cap) (d := 9) (l2 := #[true, false, false, false, false, false, false]) rfl (by kernel_rfl) (by kernel_rfl) (by kernel_rfl) (fun _ _ _ h => h) (by kernel_rfl) (fun w hSw => ?_) (by assumption) rfl (by kernel_rfl) ?_
  · go_simp
  simp only [List.set]
  refine hH_take (i := 2) (v := .agg #[.string k.str, .int .i64 k.sym]) (d := 11) (l2 := #[true, false, true, false, false, false, false]) rfl (by kernel_rfl) (by kernel_rfl) (by kernel_rfl) (fun _ _ _ h => h) (by kernel_rfl) (fun w hSw => ?_) (by assumption) rfl (by kernel_rfl) ?_
  · exact ex_load_at (k2_load hSw.k) rfl rfl
  simp only [List.set]
  refine wpAnyH_ready (rs := [1]) (by kernel_rfl) (by simp) ?_
  refine AllReadyH.cons rfl (fun K hK => ?_) AllReadyH.nil
  go_simp
  go_at_call 15
  (with_reducible refine (cC _ hS.below).mono ?_)
  rintro e w1 ⟨rfl, h1⟩
  have hS := hS.up h1
  clear h1
  refine hK.out _ _ hS (fun hHeld => ?_)
  clear hK K
  refine wpAnyH_ready (rs := [3]) (by kernel_rfl) (by simp) ?_
  refine AllReadyH.cons rfl (fun K hK => ?_) AllReadyH.nil
  go_simp
  go_at_call 37
  (with_reducible refine (kC _).mono ?_)
  rintro e w1 ⟨rfl, h1⟩
  have hS := hS.up h1
  clear h1
  refine hK.out _ _ hS (fun hHeld => ?_)
  clear hK K
  refine wpAnyH_ready (rs := [4]) (by kernel_rfl) (by simp) ?_
  refine AllReadyH.cons rfl (fun K hK => ?_) AllReadyH.nil
  go_simp
  have hS := hS.up (vzero _ (.cells #[.int .i64 0, .int .i64 0] 37))
  have hO := orS_new w1 0 0
  refine hK.out _ _ hS (fun hHeld => ?_)
  clear hK K
  refine wpAnyH_ready (rs := [5]) (by kernel_rfl) (by simp) ?_
  refine AllReadyH.cons rfl (fun K hK => ?_) AllReadyH.nil
  go_simp
  go_at_call 36
  (with_reducible refine (Or_0 _ 0 _ hO.1 hO.2).mono ?_)
  rintro e w2 ⟨rfl, rfl⟩
  refine hK.out _ _ hS (fun hHeld => ?_)
  clear hK K
  refine hH_take (i := 6) (v := .int .i64 0) (d := 6) (l2 := #[true, true, true, true, true, true, true]) rfl (by kernel_rfl) (by kernel_rfl) (by kernel_rfl) (fun _ _ _ h => h) (by kernel_rfl) (fun w hSw => ?_) (by assumption) rfl (by kernel_rfl) ?_
  · go_simp
  simp only [List.set]
  refine wpAnyH_done (by kernel_rfl) ?_ _
  have HB := Lib.hid hS.below
  have hb1 := hS.k
  clear cC kC hO
  go_wp2_with (first
    | ((with_reducible refine kk_load ?_ rfl rfl hb1 ?_); (rfl))
    | (go_at_call 38; (with_reducible refine (hcut _ HB.out).mono ?_); rintro e w3 ⟨A1, A2, c2, rfl, q1, q2, hb3, q3⟩; have HQ := Lib.hid (And.intro (pr_up q1 hb3) (And.intro (pr_up q2 hb3) q3)); have HB := Lib.hid (vb HB.out hb3); clear q1 q2 q3 hb3)
    | (go_at_call 39; (with_reducible refine (Concat_t _ A1 A2 (L.take (cutN L k)) (L.drop (cutN L k + 1)) _ _ _ _ _ HN.out.1 HN.out.2.1 (two_new _ _ _ _).1 (two_new _ _ _ _).2 (new_lt _ _) (pr_up HQ.out.1 (vzero _ _)) (pr_up HQ.out.2.1 (vzero _ _)) (cut_nil HQ.out.1 HN.out.2.2.2) HQ.out.2.2 HN.out.2.2.1).mono ?_); rintro e w4 ⟨v, rfl, ho, hb4⟩; have HO := Lib.hid (And.intro ho (vb HB.out (vafter hb4))); clear ho hb4))
  go_ret2
  exact ⟨_, rfl, own_out HO.out.1, HO.out.2⟩
end Go.Proofs.YtbeggameiedjgaaGreatDoor.S
/-
  table.Find where the properties may be. Generated: gen_tabdrop.py.
-/
namespace Go.Proofs.YtbeggameiedjgaaGreatDoor.S
open Go.RowKit Go.Lib Fl
open Classical

theorem dq_end3 {f : Func} {i j k : Nat} {t : TypeId} {Q : Ending → World → Prop} {tmps : Array Value} {W : World} {g : Nat} {d : Dq} {v u : Value} (hf : f.results = #[.cell i 28, .tmp j, .tmp k]) (h2 : tmps[i]?.getD undef = .pointer (some ⟨g, 0, none⟩)) (h3 : tmps[j]?.getD undef = v) (h4 : tmps[k]?.getD undef = u)
    (hb : W.heap[g]? = some (.cells d.cells t (0, 0))) (hQ : Q (.returned (.tuple #[.agg d.cells, v, u])) W) : bodyPost Tryz.prog f Q .ret { tmps := tmps, defers := [] } W := by
  have e : (loadVar 28 ⟨g, 0, none⟩).run Tryz.prog W = .ok (.agg d.cells) W := run_loadVar_row W g t 28 _ (0, 0) _ hb Tryz.underlying28 rfl dsz
  refine bodyPost_ret (v := .tuple #[.agg d.cells, v, u]) ?_ rfl hQ
  simp [results, hf, h2, h3, h4, asAddr, e]
/-- a descriptor found, or none -/
def fndD (L : List Pq) (k : Ky) : Dq := match findT L k with | some p => p.d | none => dz 0
def FndTo (L : List Pq) (k : Ky) (w : World) (e : Ending) (w' : World) : Prop := e = .returned (.tuple #[.agg (fndD L k).cells, .bool (findT L k).isSome, .int .i64 0]) ∧ Below w.heap.size w w'
theorem pd_load2 {ops : Array Oper} {rest : List Oper} {o : Oper} {a : Act} {w : World} {Q : Exit → Act → World → Prop} {x : Operand} {A : Addr} {d : Dq} (hw : Region.wanted o (yielded ops a.tmps) = true) (ho : o.op = .load 28 x) (hx : a.eval x = .pointer (some A)) (hc : ∀ j u, d.cells.toList[j]? = some u → w.cell? (A.add j) = some u)
    (h : wpList Tryz.prog ops Q rest (a.put o.dst (.agg d.cells)) w) : wpList Tryz.prog ops Q (o :: rest) a w :=
  wpList_wanted hw fun _ hK => wp_load_at (cs := d.cells.toList) ho hx hc Tryz.underlying28 rfl dsz (hK _ _ h)
theorem dc_one (d : Dq) : d.cells.all (·.oneCell') = true := cells_one (l := d.cells.toList) rfl
theorem dc_size (d : Dq) : (Tryz.prog.info? 28).map (·.size) = some d.cells.size := dsz
theorem pr_desc {w : World} {a : Addr} {L : List Pq} (h : PR w (some a) L) {i : Nat} (hi : i < L.length) : (a.add (i * 18)).block < w.heap.size ∧ ∀ j u, L[i].d.cells.toList[j]? = some u → w.cell? ((⟨(a.add (i * 18)).block, (a.add (i * 18)).off + 2, none⟩ : Addr).add j) = some u := by
  obtain ⟨b, hb, hlt, hc⟩ := h (by omega)
  obtain rfl := Option.some.inj hb
  refine ⟨by rw [add_blk]; exact hlt, fun j u hu => ?_⟩
  have e : (⟨(a.add (i * 18)).block, (a.add (i * 18)).off + 2, none⟩ : Addr).add j = (a.add (i * 18)).add (2 + j) := by
    rw [Addr.add_mid]
    show _ = Addr.add _ _
    unfold Addr.add
    rw [if_neg (show ¬ 2 + j = 0 by omega)]
    by_cases h0 : i * 18 = 0
    · rw [if_pos h0]; congr 1; omega
    · rw [if_neg h0]; congr 1; omega
  rw [e, add_add, show i * 18 + (2 + j) = i * 18 + (j + 1 + 1) by omega]
  exact hc i hi (j + 1 + 1) u hu
theorem fnd_ways (L : List Pq) (k : Ky) : (∀ h : cutN L k < L.length, fndD L k = L[cutN L k].d ∧ (findT L k).isSome = true) ∧ (¬ cutN L k < L.length → fndD L k = dz 0 ∧ (findT L k).isSome = false) := by
  unfold fndD findT
  refine ⟨fun h => ?_, fun h => ?_⟩
  · rw [List.getElem?_eq_getElem h]; exact ⟨rfl, rfl⟩
  · rw [List.getElem?_eq_none (by omega)]; exact ⟨rfl, rfl⟩
set_option maxHeartbeats 4000000 in
set_option maxRecDepth 100000 in
theorem Find_t (A : Option Addr) (L : List Pq) (cap : Nat) (k : Ky) (w : World) (hT : TabIn w A L cap) (hk : mayKy k) : Calls Tryz.prog 45 #[.slice A L.length cap, .agg #[.string k.str, .int .i64 k.sym]] w (FndTo L k w) := by
  have cC := fun W hb => hT.check (W := W) hb
  have kC := key_fine hk
  have hcut := fun W hb => hT.cut (W := W) hb k
  have hle := cutN_le L k
  have hl63 : L.length < 1000000000000 := hT.few
  have hS : Hm w k (dz 0) ((w.alloc (.cells #[.string k.str, .int .i64 k.sym] 23)).alloc (.cells #[.int .u8 0, .int .u8 0, .float .f64 0, .string ⟨#[]⟩, .int .i64 0, .int .u8 0, .float .f64 0, .string ⟨#[]⟩, .int .i64 0, .int .u8 0, .float .f64 0, .string ⟨#[]⟩, .int .i64 0, .bool false, .bool false, .bool false] 28)).drew := (hm_start w k (dz 0)).drew
  have hw := fnd_ways L k
  unfold FndTo
  generalize fndD L k = D at *
  generalize (findT L k).isSome = b at *
  have HW := Lib.hid hw
  clear hw
  go_enter Tryz.func45, Tryz.ntmps45
  go_upto_region 1 with (fail)
  refine wp_region_held_drew (S := Hm w k (dz 0)) (by kernel_rfl) hS (fun hHeld => ?_)
  refine hH_take (i := 0) (v := .slice A L.length cap) (d := 10) (l2 := #[true, false, false, false, false, false, false]) rfl (by kernel_rfl) (by kernel_rfl) (by kernel_rfl) (fun _ _ _ h => h) (by kernel_rfl) (fun w hSw => ?_) (by assumption) rfl (by kernel_rfl) ?_
  · go_simp
  simp only [List.set]
  refine hH_take (i := 2) (v := .agg #[.string k.str, .int .i64 k.sym]) (d := 12) (l2 := #[true, false, true, false, false, false, false]) rfl (by kernel_rfl) (by kernel_rfl) (by kernel_rfl) (fun _ _ _ h => h) (by kernel_rfl) (fun w hSw => ?_) (by assumption) rfl (by kernel_rfl) ?_
  · exact ex_load_at (k2_load hSw.k) rfl rfl
  simp only [List.set]
  refine wpAnyH_ready (rs := [1]) (by kernel_rfl) (by simp) ?_
  refine AllReadyH.cons rfl (fun K hK => ?_) AllReadyH.nil
  go_simp
  go_at_call 15
  (with_reducible refine (cC _ hS.below).mono ?_)
  rintro e w1 ⟨rfl, h1⟩
  have hS := hS.up h1
  clear h1
  refine hK.out _ _ hS (fun hHeld => ?_)
  clear hK K
  refine wpAnyH_ready (rs := [3]) (by kernel_rfl) (by simp) ?_
  refine AllReadyH.cons rfl (fun K hK => ?_) AllReadyH.nil
  go_simp
  go_at_call 37
  (with_reducible refine (kC _).mono ?_)
  rintro e w1 ⟨rfl, h1⟩
  have hS := hS.up h1
  clear h1
  refine hK.out _ _ hS (fun hHeld => ?_)
  clear hK K
  refine wpAnyH_ready (rs := [4]) (by kernel_rfl) (by simp) ?_
  refine AllReadyH.cons rfl (fun K hK => ?_) AllReadyH.nil
  go_simp
  have hS := hS.up (vzero _ (.cells #[.int .i64 0, .int .i64 0] 37))
  have hO := orS_new w1 0 0
  refine hK.out _ _ hS (fun hHeld => ?_)
  clear hK K
  refine wpAnyH_ready (rs := [5]) (by kernel_rfl) (by simp) ?_
  refine AllReadyH.cons rfl (fun K hK => ?_) AllReadyH.nil
  go_simp
  go_at_call 36
  (with_reducible refine (Or_0 _ 0 _ hO.1 hO.2).mono ?_)
  rintro e w2 ⟨rfl, rfl⟩
  refine hK.out _ _ hS (fun hHeld => ?_)
  clear hK K
  refine hH_take (i := 6) (v := .int .i64 0) (d := 7) (l2 := #[true, true, true, true, true, true, true]) rfl (by kernel_rfl) (by kernel_rfl) (by kernel_rfl) (fun _ _ _ h => h) (by kernel_rfl) (fun w hSw => ?_) (by assumption) rfl (by kernel_rfl) ?_
  · go_simp
  simp only [List.set]
  refine wpAnyH_done (by kernel_rfl) ?_ _
  have HB := Lib.hid hS.below
  have hb1 := hS.k
  have hb2 := hS.d
  clear cC kC hO
  by_cases hn : cutN L k < L.length
  · have hne : ((cutN L k : Int) == (L.length : Int)) = false := by rw [beq_eq_false_iff_ne]; omega
    have hnz : (cutN L k : Int) < (L.length : Int) := by omega
    have HT := Lib.hid hT
    obtain ⟨a, rfl, _, _⟩ := hT.row (by omega)
    obtain ⟨P, hP⟩ : ∃ P, P = L[cutN L k] := ⟨_, rfl⟩
    have HP := Lib.hid hP
    have hc1 := dc_one P.d
    have hi1 := dc_size P.d
    clear hP hT
    go_wp2_with (first
      | ((with_reducible refine kk_load ?_ rfl rfl hb1 ?_); (rfl))
      | (go_at_call 38; (with_reducible refine (hcut _ HB.out).mono ?_); rintro e w3 ⟨A1, A2, c2, rfl, _, _, hb3, _⟩; have hb2 := vblkn hb3 hb2; have HB := Lib.hid (vb HB.out hb3); have hq := (pr_desc (HT.out.up HB.out).row hn); rw [← HP.out] at hq; have hq2 := hq.2; clear hb3 hq)
      | ((with_reducible refine pd_load2 ?_ rfl rfl hq2 ?_); (rfl))
      | ((with_reducible refine t_store (cs := P.d.cells) rfl rfl rfl rfl hb2 hi1 ?_ hc1 HB.out (Nat.le_succ _) ?_); (rfl); intro W hBW hW _ _))
    obtain ⟨e1, e2⟩ := HW.out.1 hn
    exact dq_end3 Tryz.results45 rfl rfl rfl hW ⟨by rw [e1, e2, ← HP.out]; rfl, hBW⟩
  · have hne : ((cutN L k : Int) == (L.length : Int)) = true := by rw [beq_iff_eq]; omega
    have hz1 : w.heap.size ≤ w.heap.size + 1 := Nat.le_succ _
    go_wp2_with (first
      | ((with_reducible refine kk_load ?_ rfl rfl hb1 ?_); (rfl))
      | (go_at_call 38; (with_reducible refine (hcut _ HB.out).mono ?_); rintro e w3 ⟨A1, A2, c2, rfl, _, _, hb3, _⟩; have hb2 := vblkn hb3 hb2; have HB := Lib.hid (vb HB.out hb3); clear hb3)
      | ((with_reducible refine d_store rfl rfl rfl rfl hb2 ?_ ?_ ?_); (rfl); (rfl)))
    obtain ⟨e1, e2⟩ := HW.out.2 hn
    exact d_end3 Tryz.results45 rfl rfl rfl (setRow_heap _ _ _ _ _ _ hb2) ⟨by rw [e1, e2]; rfl, below_row HB.out hz1 _⟩
end Go.Proofs.YtbeggameiedjgaaGreatDoor.S
/-
  A property built out of a key and a descriptor; a slice of one.
-/
namespace Go.Proofs.YtbeggameiedjgaaGreatDoor.S
open Go.RowKit Go.Lib Fl

set_option maxRecDepth 100000 in
theorem run_build_p (p : Pq) (w : World) : (Instr.build 30 #[(0, .agg #[.string p.k.str, .int .i64 p.k.sym]), (1, .agg p.d.cells)]).run Tryz.prog w = .ok (.agg (prA p)) w := by kernel_rfl
set_option maxRecDepth 100000 in
theorem run_slice_p (p : Pq) (w : World) : (Instr.buildSlice 35 1 #[(0, .agg (prA p))]).run Tryz.prog w = .ok (.slice (some ⟨w.heap.size, 0, none⟩) 1 1) (w.alloc (.cells (prA p) 30)) := by kernel_rfl
section
variable {ops : Array Oper} {rest : List Oper} {o : Oper} {a : Act} {w : World} {Q : Exit → Act → World → Prop}
theorem p_build {p : Pq} (hgd : o.guard = none) (x y : Operand) (ho : o.op = .build 30 #[(0, x), (1, y)]) (hx : a.eval x = .agg #[.string p.k.str, .int .i64 p.k.sym]) (hy : a.eval y = .agg p.d.cells)
    (h : wpList Tryz.prog ops Q rest (a.put o.dst (.agg (prA p))) w) : wpList Tryz.prog ops Q (o :: rest) a w := by
  refine wpList_plain hgd fun _ hK => ?_
  unfold Oper.wp execOp
  simp only [ho, List.map_toArray, List.map_cons, List.map_nil, hx, hy, run_build_p, Sem.run_bind, Sem.run_pure, Result.andThen_ok]
  exact hK _ _ h
theorem p_slice {p : Pq} (hgd : o.guard = none) (x : Operand) (ho : o.op = .buildSlice 35 1 #[(0, x)]) (hx : a.eval x = .agg (prA p))
    (h : wpList Tryz.prog ops Q rest (a.put o.dst (.slice (some ⟨w.heap.size, 0, none⟩) 1 1)) (w.alloc (.cells (prA p) 30))) : wpList Tryz.prog ops Q (o :: rest) a w := by
  refine wpList_plain hgd fun _ hK => ?_
  unfold Oper.wp execOp
  simp only [ho, List.map_toArray, List.map_cons, List.map_nil, hx, run_slice_p, Sem.run_bind, Sem.run_pure, Result.andThen_ok]
  exact hK _ _ h
end
end Go.Proofs.YtbeggameiedjgaaGreatDoor.S
