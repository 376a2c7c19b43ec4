/-
  table.Put where the properties may be. Generated: gen_tabdrop.py.
-/
import Derived.Test.YtbeggameiedjgaaGreatDoorTN30
import Derived.Test.YtbeggameiedjgaaGreatDoorTN17
import Derived.Maps.AppendAt
namespace Go.Proofs.YtbeggameiedjgaaGreatDoor.S
open Go.RowKit Go.Lib Fl
open Classical

/-- Put's error -/
noncomputable def putE (L : List Pq) (p : Pq) : Int := if mayT p = 0 then (if cutN L p.k = 1024 then 100 else 0) else mayT p
def PutOut (L : List Pq) (p : Pq) (w : World) (e : Ending) (w' : World) : Prop := ∃ v, e = .returned (.tuple #[v, .int .i64 (putE L p)]) ∧ (putE L p = 0 → OutS w' v (putT L p)) ∧ Below w.heap.size w w'
theorem put_split (L : List Pq) (p : Pq) : putT L p = (L.take (cutN L p.k) ++ [p]) ++ L.drop (cutN L p.k + 1) := by unfold putT; simp
theorem kk2 {w : World} {p : Pq} {g : Nat} (h : w.heap[g]? = some (.cells (prA p) 30 (0, 0))) : w.heap[g]? = some (.cells (prA p) 30 (0, 0)) := h
set_option maxHeartbeats 4000000 in
set_option maxRecDepth 100000 in
theorem Put_t (A : Option Addr) (L : List Pq) (cap : Nat) (p : Pq) (w : World) (hT : TabIn w A L cap) (hp : p.In) : Calls Tryz.prog 44 #[.slice A L.length cap, .agg #[.string p.k.str, .int .i64 p.k.sym], .agg p.d.cells] w (PutOut L p w) := by
  have cC := fun W hb => hT.check (W := W) hb
  have mC := fun W => may_t hp W
  have hcut := fun W hb => hT.cut (W := W) hb p.k
  have hlen := hT.ok.len
  have hle := cutN_le L p.k
  have hS : Hm w p.k p.d ((w.alloc (.cells #[.string p.k.str, .int .i64 p.k.sym] 23)).alloc (.cells p.d.cells 28)).drew := (hm_start w p.k p.d).drew
  have hn1 : cutN L p.k = (L.take (cutN L p.k)).length := by rw [List.length_take]; omega
  have hn2 : L.length - (cutN L p.k + 1) = (L.drop (cutN L p.k + 1)).length := by rw [List.length_drop]
  have hsum : (L.take (cutN L p.k)).length + 1 + (L.drop (cutN L p.k + 1)).length ≤ 70000 := by rw [List.length_take, List.length_drop]; omega
  have HN := Lib.hid (And.intro hn1 (And.intro hn2 (And.intro hsum hle)))
  have hn7 : cutN L p.k ≤ 70000 := by omega
  have hE : (mayT p ≠ 0 → putE L p = mayT p) ∧ (mayT p = 0 → cutN L p.k = 1024 → putE L p = 100) ∧ (mayT p = 0 → cutN L p.k ≠ 1024 → putE L p = 0) := by
    unfold putE
    exact ⟨fun h => by rw [if_neg h], fun h g => by rw [if_pos h, if_pos g], fun h g => by rw [if_pos h, if_neg g]⟩
  have HS := Lib.hid (put_split L p)
  unfold PutOut
  generalize putE L p = z at *
  generalize putT L p = M at *
  generalize mayT p = y at *
  have HE := Lib.hid hE
  clear hn1 hn2 hsum hle hlen hE
  go_enter Tryz.func44, Tryz.ntmps44
  go_upto_region 1 with (fail)
  refine wp_region_held_drew (S := Hm w p.k p.d) (by kernel_rfl) hS (fun hHeld => ?_)
  refine hH_take (i := 0) (v := .slice A L.length cap) (d := 11) (l2 := #[true, false, false, false, false, false, false, false]) rfl (by kernel_rfl) (by kernel_rfl) (by kernel_rfl) (fun _ _ _ h => h) (by kernel_rfl) (fun w hSw => ?_) (by assumption) rfl (by kernel_rfl) ?_
  · go_simp
  simp only [List.set]
  refine hH_take (i := 2) (v := .agg #[.string p.k.str, .int .i64 p.k.sym]) (d := 13) (l2 := #[true, false, true, false, false, false, false, false]) rfl (by kernel_rfl) (by kernel_rfl) (by kernel_rfl) (fun _ _ _ h => h) (by kernel_rfl) (fun w hSw => ?_) (by assumption) rfl (by kernel_rfl) ?_
  · exact ex_load_at (k2_load hSw.k) rfl rfl
  simp only [List.set]
  refine hH_take (i := 3) (v := .agg p.d.cells) (d := 14) (l2 := #[true, false, true, true, false, false, false, false]) rfl (by kernel_rfl) (by kernel_rfl) (by kernel_rfl) (fun _ _ _ h => h) (by kernel_rfl) (fun w hSw => ?_) (by assumption) rfl (by kernel_rfl) ?_
  · exact ex_load_at (d2_load hSw.d) rfl rfl
  simp only [List.set]
  refine wpAnyH_ready (rs := [1]) (by kernel_rfl) (by simp) ?_
  refine AllReadyH.cons rfl (fun K hK => ?_) AllReadyH.nil
  go_simp
  go_at_call 15
  (with_reducible refine (cC _ hS.below).mono ?_)
  rintro e w1 ⟨rfl, h1⟩
  have hS := hS.up h1
  clear h1
  refine hK.out _ _ hS (fun hHeld => ?_)
  clear hK K
  refine wpAnyH_ready (rs := [4]) (by kernel_rfl) (by simp) ?_
  refine AllReadyH.cons rfl (fun K hK => ?_) AllReadyH.nil
  go_simp
  go_at_call 40
  (with_reducible refine (mC _).mono ?_)
  rintro e w1 ⟨rfl, h1⟩
  have hS := hS.up h1
  clear h1
  refine hK.out _ _ hS (fun hHeld => ?_)
  clear hK K
  refine wpAnyH_ready (rs := [5]) (by kernel_rfl) (by simp) ?_
  refine AllReadyH.cons rfl (fun K hK => ?_) AllReadyH.nil
  go_simp
  have hS := hS.up (vzero _ (.cells #[.int .i64 0, .int .i64 y] 37))
  have hO := orS_new w1 0 y
  refine hK.out _ _ hS (fun hHeld => ?_)
  clear hK K
  refine wpAnyH_ready (rs := [6]) (by kernel_rfl) (by simp) ?_
  refine AllReadyH.cons rfl (fun K hK => ?_) AllReadyH.nil
  go_simp
  go_at_call 36
  (with_reducible refine (Or_0 _ y _ hO.1 hO.2).mono ?_)
  rintro e w2 ⟨rfl, rfl⟩
  refine hK.out _ _ hS (fun hHeld => ?_)
  clear hK K
  refine hH_take (i := 7) (v := .int .i64 y) (d := 8) (l2 := #[true, true, true, true, true, true, true, true]) rfl (by kernel_rfl) (by kernel_rfl) (by kernel_rfl) (fun _ _ _ h => h) (by kernel_rfl) (fun w hSw => ?_) (by assumption) rfl (by kernel_rfl) ?_
  · go_simp
  simp only [List.set]
  refine wpAnyH_done (by kernel_rfl) ?_ _
  have HB := Lib.hid hS.below
  have hb1 := hS.k
  have hb2 := hS.d
  clear cC mC hO
  by_cases hy : y = 0
  · subst hy
    by_cases hn : cutN L p.k = 1024
    · have hne : ((cutN L p.k : Int) == 1024) = true := by rw [beq_iff_eq]; omega
      go_wp2_with (first
        | ((with_reducible refine kk_load ?_ rfl rfl hb1 ?_); (rfl))
        | (go_at_call 38; (with_reducible refine (hcut _ HB.out).mono ?_); rintro e w3 ⟨A1, A2, c2, rfl, _, _, hb3, _⟩; have HB := Lib.hid (vb HB.out hb3); clear hb3))
      go_ret2
      have e := HE.out.2.1 trivial hn
      exact ⟨_, by rw [e]; rfl, fun h => absurd (e.symm.trans h) (by decide), HB.out⟩
    · have hne : ((cutN L p.k : Int) == 1024) = false := by rw [beq_eq_false_iff_ne]; omega
      go_wp2_with (first
        | ((with_reducible refine kk_load ?_ rfl rfl hb1 ?_); (rfl))
        | ((with_reducible refine dq_load ?_ rfl rfl hb2 ?_); (rfl))
        | (go_at_call 38; (with_reducible refine (hcut _ HB.out).mono ?_); rintro e w3 ⟨A1, A2, c2, rfl, q1, q2, hb3, q3⟩; have HQ := Lib.hid (And.intro (pr_up q1 hb3) (And.intro (pr_up q2 hb3) q3)); have hb1 := vblkn hb3 hb1; have hb2 := vblkn hb3 hb2; have HB := Lib.hid (vb HB.out hb3); clear q1 q2 q3 hb3)
        | ((with_reducible refine p_build (p := p) rfl _ _ rfl rfl rfl ?_))
        | ((with_reducible refine p_slice (p := p) rfl _ rfl rfl ?_); have HG := Lib.hid (heap_alloc_new w3 (.cells (prA p) 30)))
        | (at_builtin; refine pr_one (M := L.take (cutN L p.k)) (p := p) rfl _ _ rfl rfl HN.out.1 (pr_up HQ.out.1 (vzero _ _)) rfl HG.out hn7 ?_; intro v1 w4 ho hb4; have HO := Lib.hid (And.intro ho hb4); clear ho hb4)
        | (at_builtin; refine pr_append (L := L.drop (cutN L p.k + 1)) rfl _ _ rfl rfl HO.out.1 rfl HN.out.2.1 (pr_up (pr_up HQ.out.2.1 (vzero _ _)) HO.out.2) HQ.out.2.2 HN.out.2.2.1 HO.out.2.size ?_; intro v2 w5 ho hg5; have HP := Lib.hid (And.intro ho (grown_below2 HO.out.2 HO.out.1 hg5)); clear ho hg5))
      go_ret2
      have e := HE.out.2.2 trivial hn
      refine ⟨_, by rw [e]; rfl, fun _ => own_out (B := (w3.alloc (.cells (prA p) 30)).heap.size) ?_, vb HB.out (vafter HP.out.2)⟩
      rw [HS.out, prCells_app, List.length_append, List.length_append]
      exact HP.out.1
  · go_wp2_with (fail)
    go_ret2
    have e := HE.out.1 hy
    exact ⟨_, by rw [e]; rfl, fun h => absurd (e.symm.trans h) hy, HB.out⟩
end Go.Proofs.YtbeggameiedjgaaGreatDoor.S
/-
  table.Keys, Sealed, Frozen where the properties may be. Generated: gen_tabtell.py.
-/
namespace Go.Proofs.YtbeggameiedjgaaGreatDoor.S
open Go.RowKit Go.Lib Fl
open Classical

set_option maxRecDepth 100000 in
theorem keysF (p : Pq) (w : World) : Calls Tryz.prog 35 #[.agg (prA p)] w fun e w' => e = .returned (.bool true) ∧ Below w.heap.size w w' := by
  go_enter Tryz.func35, Tryz.ntmps35
  go_wp2
  go_ret
  exact ⟨rfl, vzero _ _⟩
set_option maxRecDepth 100000 in
theorem sealF (p : Pq) (w : World) : Calls Tryz.prog 42 #[.agg (prA p)] w fun e w' => e = .returned (.bool p.d.z) ∧ Below w.heap.size w w' := by
  have c0 : (w.alloc (.cells (prA p) 30)).cell? ⟨w.heap.size, 17, none⟩ = some (.bool p.d.z) := (vcells (heap_alloc_new w _) 17).trans rfl
  go_enter Tryz.func42, Tryz.ntmps42
  go_wp2
  go_ret
  exact ⟨rfl, vzero _ _⟩
set_option maxRecDepth 100000 in
theorem frozF (p : Pq) (w : World) : Calls Tryz.prog 43 #[.agg (prA p)] w fun e w' => e = .returned (.bool (p.d.z || p.d.p)) ∧ Below w.heap.size w w' := by
  have c0 : (w.alloc (.cells (prA p) 30)).cell? ⟨w.heap.size, 17, none⟩ = some (.bool p.d.z) := (vcells (heap_alloc_new w _) 17).trans rfl
  have c1 : (w.alloc (.cells (prA p) 30)).cell? ⟨w.heap.size, 15, none⟩ = some (.bool p.d.p) := (vcells (heap_alloc_new w _) 15).trans rfl
  generalize p.d.z = z at *
  generalize p.d.p = q at *
  cases z
  all_goals
    go_enter Tryz.func43, Tryz.ntmps43
    go_wp2
    go_ret
    exact ⟨by simp, vzero _ _⟩
set_option maxHeartbeats 2000000 in
set_option maxRecDepth 100000 in
theorem indexS (A : Option Addr) (L : List Pq) (cap : Nat) (w : World) (hl : L.length < 1000000000000) (hL : PR w A L) : Calls Tryz.prog 86 #[.slice A L.length cap, .func (.func 42) #[] #[]] w fun e w' => ∃ n : Int, e = .returned (.int .i64 n) ∧ (decide (0 ≤ n) = L.any fun p => p.d.z) ∧ Below w.heap.size w w' := by
  go_enter Tryz.func86, Tryz.ntmps86
  go_wp2
  go_loopg [8] L.length (fun kx s8 wr => ∃ i : Nat, s8 = .int .i64 i ∧ i + kx = L.length ∧ Hid ((L.any fun p => p.d.z) = ((L.drop i).any fun p => p.d.z) ∧ Below w.heap.size w wr))
  case atStart => exact ⟨0, rfl, by omega, Lib.hid ⟨by simp, Below.refl _ _⟩⟩
  case round =>
    obtain ⟨i, rfl, hik, H⟩ := hrel
    cases gk with
    | zero =>
      obtain rfl : i = L.length := by omega
      go_wp2
      go_ret
      refine ⟨-1, rfl, ?_, H.out.2⟩
      rw [H.out.1, List.drop_length]; rfl
    | succ kx =>
      have hlt : i < L.length := by omega
      have hlz : (i : Int) < (L.length : Int) := by omega
      obtain ⟨a, rfl, hab, hrow⟩ := pr_up hL H.out.2 (by omega)
      have hc : ∀ j u, (pcl L[i])[j]? = some u → wr.cell? ((a.add (i * 18)).add j) = some u := fun j u hu => by rw [add_add]; exact hrow i hlt j u hu
      have hstep : ((L.drop i).any fun p => p.d.z) = (L[i].d.z || ((L.drop (i + 1)).any fun p => p.d.z)) := by rw [List.drop_eq_getElem_cons hlt]; rfl
      have hF := fun W => sealF L[i] W
      obtain ⟨P, hP⟩ : ∃ P, P = L[i] := ⟨_, rfl⟩
      rw [← hP] at hc hstep hF
      have HS := Lib.hid (H.out.1.trans hstep)
      clear hP hrow hstep
      cases hq : P.d.z with
      | true =>
        rw [hq] at hF
        go_wp2_with ((with_reducible refine p_load ?_ rfl rfl hc ?_); (rfl))
        refine (hF _).mono ?_
        rintro e w1 ⟨rfl, h9⟩
        have HB := Lib.hid (vb H.out.2 h9)
        clear h9
        dsimp only
        go_wp2_with (fail)
        go_ret
        refine ⟨(i : Int), rfl, ?_, HB.out⟩
        rw [HS.out, hq]; simp
      | false =>
        rw [hq] at hF
        go_wp2_with ((with_reducible refine p_load ?_ rfl rfl hc ?_); (rfl))
        refine (hF _).mono ?_
        rintro e w1 ⟨rfl, h9⟩
        have HB := Lib.hid (vb H.out.2 h9)
        clear h9
        dsimp only
        go_wp2_with (fail)
        go_roundg kx
        case measure => omega
        case rel => exact ⟨i + 1, by congr 1, by omega, Lib.hid ⟨by rw [HS.out, hq]; rfl, HB.out⟩⟩
set_option maxRecDepth 100000 in
theorem containsS (A : Option Addr) (L : List Pq) (cap : Nat) (w : World) (hl : L.length < 1000000000000) (hL : PR w A L) : Calls Tryz.prog 65 #[.slice A L.length cap, .func (.func 42) #[] #[]] w fun e w' => e = .returned (.bool (L.any fun p => p.d.z)) ∧ Below w.heap.size w w' := by
  have hI := indexS A L cap w hl hL
  go_enter Tryz.func65, Tryz.ntmps65
  go_wp2_with (go_at_call 86; (with_reducible refine hI.mono ?_); rintro e w1 ⟨n, rfl, hn, hb⟩)
  go_ret
  exact ⟨by rw [← hn]; rfl, hb⟩
set_option maxRecDepth 100000 in
theorem noneS (A : Option Addr) (L : List Pq) (cap : Nat) (w : World) (hT : TabIn w A L cap) : Calls Tryz.prog 41 #[.slice A L.length cap, .func (.func 42) #[] #[]] w fun e w' => e = .returned (.tuple #[.bool (!(L.any fun p => p.d.z)), .int .i64 0]) ∧ Below w.heap.size w w' := by
  have cC := fun W hb => hT.check (W := W) hb
  have cI := fun W hb => containsS A L cap W hT.few (pr_up hT.row hb)
  have HB := Lib.hid (Below.refl w.heap.size w)
  go_enter Tryz.func41, Tryz.ntmps41
  go_wp2_with (first
    | (go_at_call 15; (with_reducible refine (cC _ HB.out).mono ?_); rintro e w1 ⟨rfl, h9⟩; have HB := Lib.hid (vb HB.out h9); clear h9)
    | (go_at_call 65; (with_reducible refine (cI _ HB.out).mono ?_); rintro e w1 ⟨rfl, h9⟩; have HB := Lib.hid (vb HB.out h9); clear h9))
  go_ret2
  exact ⟨rfl, HB.out⟩
set_option maxRecDepth 100000 in
theorem Sealed_t (A : Option Addr) (L : List Pq) (cap : Nat) (w : World) (hT : TabIn w A L cap) : Calls Tryz.prog 16 #[.slice A L.length cap] w fun e w' => e = .returned (.tuple #[.bool (!(L.any fun p => p.d.z)), .int .i64 0]) ∧ Below w.heap.size w w' := by
  have cI := noneS A L cap w hT
  go_enter Tryz.func16, Tryz.ntmps16
  go_wp2_with (go_at_call 41; (with_reducible refine cI.mono ?_); rintro e w1 ⟨rfl, hb⟩)
  go_ret2
  exact ⟨rfl, hb⟩
set_option maxHeartbeats 2000000 in
set_option maxRecDepth 100000 in
theorem indexF (A : Option Addr) (L : List Pq) (cap : Nat) (w : World) (hl : L.length < 1000000000000) (hL : PR w A L) : Calls Tryz.prog 86 #[.slice A L.length cap, .func (.func 43) #[] #[]] w fun e w' => ∃ n : Int, e = .returned (.int .i64 n) ∧ (decide (0 ≤ n) = L.any fun p => (p.d.z || p.d.p)) ∧ Below w.heap.size w w' := by
  go_enter Tryz.func86, Tryz.ntmps86
  go_wp2
  go_loopg [8] L.length (fun kx s8 wr => ∃ i : Nat, s8 = .int .i64 i ∧ i + kx = L.length ∧ Hid ((L.any fun p => (p.d.z || p.d.p)) = ((L.drop i).any fun p => (p.d.z || p.d.p)) ∧ Below w.heap.size w wr))
  case atStart => exact ⟨0, rfl, by omega, Lib.hid ⟨by simp, Below.refl _ _⟩⟩
  case round =>
    obtain ⟨i, rfl, hik, H⟩ := hrel
    cases gk with
    | zero =>
      obtain rfl : i = L.length := by omega
      go_wp2
      go_ret
      refine ⟨-1, rfl, ?_, H.out.2⟩
      rw [H.out.1, List.drop_length]; rfl
    | succ kx =>
      have hlt : i < L.length := by omega
      have hlz : (i : Int) < (L.length : Int) := by omega
      obtain ⟨a, rfl, hab, hrow⟩ := pr_up hL H.out.2 (by omega)
      have hc : ∀ j u, (pcl L[i])[j]? = some u → wr.cell? ((a.add (i * 18)).add j) = some u := fun j u hu => by rw [add_add]; exact hrow i hlt j u hu
      have hstep : ((L.drop i).any fun p => (p.d.z || p.d.p)) = ((L[i].d.z || L[i].d.p) || ((L.drop (i + 1)).any fun p => (p.d.z || p.d.p))) := by rw [List.drop_eq_getElem_cons hlt]; rfl
      have hF := fun W => frozF L[i] W
      obtain ⟨P, hP⟩ : ∃ P, P = L[i] := ⟨_, rfl⟩
      rw [← hP] at hc hstep hF
      have HS := Lib.hid (H.out.1.trans hstep)
      clear hP hrow hstep
      cases hq : (P.d.z || P.d.p) with
      | true =>
        rw [hq] at hF
        go_wp2_with ((with_reducible refine p_load ?_ rfl rfl hc ?_); (rfl))
        refine (hF _).mono ?_
        rintro e w1 ⟨rfl, h9⟩
        have HB := Lib.hid (vb H.out.2 h9)
        clear h9
        dsimp only
        go_wp2_with (fail)
        go_ret
        refine ⟨(i : Int), rfl, ?_, HB.out⟩
        rw [HS.out, hq]; simp
      | false =>
        rw [hq] at hF
        go_wp2_with ((with_reducible refine p_load ?_ rfl rfl hc ?_); (rfl))
        refine (hF _).mono ?_
        rintro e w1 ⟨rfl, h9⟩
        have HB := Lib.hid (vb H.out.2 h9)
        clear h9
        dsimp only
        go_wp2_with (fail)
        go_roundg kx
        case measure => omega
        case rel => exact ⟨i + 1, by congr 1, by omega, Lib.hid ⟨by rw [HS.out, hq]; rfl, HB.out⟩⟩
set_option maxRecDepth 100000 in
theorem containsF (A : Option Addr) (L : List Pq) (cap : Nat) (w : World) (hl : L.length < 1000000000000) (hL : PR w A L) : Calls Tryz.prog 65 #[.slice A L.length cap, .func (.func 43) #[] #[]] w fun e w' => e = .returned (.bool (L.any fun p => (p.d.z || p.d.p))) ∧ Below w.heap.size w w' := by
  have hI := indexF A L cap w hl hL
  go_enter Tryz.func65, Tryz.ntmps65
  go_wp2_with (go_at_call 86; (with_reducible refine hI.mono ?_); rintro e w1 ⟨n, rfl, hn, hb⟩)
  go_ret
  exact ⟨by rw [← hn]; rfl, hb⟩
set_option maxRecDepth 100000 in
theorem noneF (A : Option Addr) (L : List Pq) (cap : Nat) (w : World) (hT : TabIn w A L cap) : Calls Tryz.prog 41 #[.slice A L.length cap, .func (.func 43) #[] #[]] w fun e w' => e = .returned (.tuple #[.bool (!(L.any fun p => (p.d.z || p.d.p))), .int .i64 0]) ∧ Below w.heap.size w w' := by
  have cC := fun W hb => hT.check (W := W) hb
  have cI := fun W hb => containsF A L cap W hT.few (pr_up hT.row hb)
  have HB := Lib.hid (Below.refl w.heap.size w)
  go_enter Tryz.func41, Tryz.ntmps41
  go_wp2_with (first
    | (go_at_call 15; (with_reducible refine (cC _ HB.out).mono ?_); rintro e w1 ⟨rfl, h9⟩; have HB := Lib.hid (vb HB.out h9); clear h9)
    | (go_at_call 65; (with_reducible refine (cI _ HB.out).mono ?_); rintro e w1 ⟨rfl, h9⟩; have HB := Lib.hid (vb HB.out h9); clear h9))
  go_ret2
  exact ⟨rfl, HB.out⟩
set_option maxRecDepth 100000 in
theorem Frozen_t (A : Option Addr) (L : List Pq) (cap : Nat) (w : World) (hT : TabIn w A L cap) : Calls Tryz.prog 17 #[.slice A L.length cap] w fun e w' => e = .returned (.tuple #[.bool (!(L.any fun p => (p.d.z || p.d.p))), .int .i64 0]) ∧ Below w.heap.size w w' := by
  have cI := noneF A L cap w hT
  go_enter Tryz.func17, Tryz.ntmps17
  go_wp2_with (go_at_call 41; (with_reducible refine cI.mono ?_); rintro e w1 ⟨rfl, hb⟩)
  go_ret2
  exact ⟨rfl, hb⟩
end Go.Proofs.YtbeggameiedjgaaGreatDoor.S
