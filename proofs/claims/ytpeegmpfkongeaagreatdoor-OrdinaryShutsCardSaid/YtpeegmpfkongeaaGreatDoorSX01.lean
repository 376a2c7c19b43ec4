/-
  What OrdinaryShuts needs besides.
-/
import Derived.Test.YtpeegmpfkongeaaGreatDoorRG31
import Derived.Test.YtpeegmpfkongeaaGreatDoorRG33
import Derived.Lib.ItoaLen
import Derived.Deep.Slices
import Derived.Deep.Fields
import Derived.ChangeSame
import Derived.Carry
import Derived.OpenShut
import Derived.Laws.Cover2
import Derived.Deep.MidRow
import Derived.Deep.Cut
import Derived.Laws.CopyOwn
import Derived.Maps.AppendAt
import Derived.OwnWalk
import Derived.RangeFuncNested
import Derived.RangeFuncBound
import Derived.RangeFuncCalls
import Derived.RangeFuncLeaves
import Derived.Shelf.Abstract
import Derived.Shelf.RegionOpen
import Derived.WalkKit
import Derived.OwnWalkIn
import Derived.TacticsInMore
import Derived.LoopNIn
import Derived.LoopIn
import Derived.Shelf.Sort.Plain
import Derived.Sort.OwnSortedInts
import Derived.Laws.CopyRow
namespace Go.Proofs.YtpeegmpfkongeaaGreatDoor.S
open Go.RowKit Fl

end Go.Proofs.YtpeegmpfkongeaaGreatDoor.S
namespace Go.Proofs.YtpeegmpfkongeaaGreatDoor.S
open Go.RowKit Fl

end Go.Proofs.YtpeegmpfkongeaaGreatDoor.S
namespace Go.Proofs.YtpeegmpfkongeaaGreatDoor.S
open Go.RowKit Fl

end Go.Proofs.YtpeegmpfkongeaaGreatDoor.S
namespace Go.Proofs.YtpeegmpfkongeaaGreatDoor.S
open Go.RowKit Fl

end Go.Proofs.YtpeegmpfkongeaaGreatDoor.S
namespace Go.Proofs.YtpeegmpfkongeaaGreatDoor.S
open Go.RowKit Fl

end Go.Proofs.YtpeegmpfkongeaaGreatDoor.S
namespace Go.Proofs.YtpeegmpfkongeaaGreatDoor.S
open Go.ChangeShapes Go.WideShapes Go.Deep Go.RowKit Fl

section
variable {H : Type} {enc : TypeId × Value → H} {w : World} {base : Nat} {spare : Nat → Bool} {held : Bool}
set_option maxRecDepth 100000 in
/-- a key that comes in -/
theorem open_key {v : Value} {d : DataW H} {p : List MemPlace} (hv : Value.okWide Tryz.prog w .any base 57 v) (h : DataW.Trod enc Tryz.prog w 0 (fun _ => true) true 57 v d p) :
    ∃ k : Ky, v = .agg #[.string k.str, .int .i64 k.sym] ∧ KyIn k := by
  obtain ⟨cs, rfl, hsz⟩ := okWide_struct Tryz.underlying57 hv
  obtain ⟨fuel, hf⟩ := h
  have hcell : Tryz.prog.cellsOf 57 = 2 := by kernel_rfl
  rw [hcell] at hsz
  have hf : DataW.trod enc Tryz.prog w 0 (fun _ => true) true fuel 57 cs.toList = some (d, p) := hf
  obtain ⟨k, e, hk⟩ := kopen_cells (by simpa using hsz) hf
  exact ⟨k, by rw [← e], hk⟩
end
end Go.Proofs.YtpeegmpfkongeaaGreatDoor.S
namespace Go.Proofs.YtpeegmpfkongeaaGreatDoor.S
open Go.RowKit Fl

end Go.Proofs.YtpeegmpfkongeaaGreatDoor.S
namespace Go.Proofs.YtpeegmpfkongeaaGreatDoor.S
open Go.RowKit Fl

end Go.Proofs.YtpeegmpfkongeaaGreatDoor.S
namespace Go.Proofs.YtpeegmpfkongeaaGreatDoor.S
open Go.RowKit Go.Lib Fl
open Classical

end Go.Proofs.YtpeegmpfkongeaaGreatDoor.S
namespace Go.Proofs.YtpeegmpfkongeaaGreatDoor.S
open Go.RowKit Go.Lib Fl
open Classical

end Go.Proofs.YtpeegmpfkongeaaGreatDoor.S
namespace Go.Proofs.YtpeegmpfkongeaaGreatDoor.S
open Go.RowKit Go.Lib Fl
open Classical

end Go.Proofs.YtpeegmpfkongeaaGreatDoor.S
namespace Go.Proofs.YtpeegmpfkongeaaGreatDoor.S
open Go.RowKit Go.Lib Fl
open Classical

end Go.Proofs.YtpeegmpfkongeaaGreatDoor.S
namespace Go.Proofs.YtpeegmpfkongeaaGreatDoor.S
open Go.RowKit Go.Lib Fl
open Classical

theorem obA_size (o : Ob) : (obA o).size = 18 := rfl
end Go.Proofs.YtpeegmpfkongeaaGreatDoor.S
namespace Go.Proofs.YtpeegmpfkongeaaGreatDoor.S
open Go.RowKit Go.Lib Fl
open Classical

end Go.Proofs.YtpeegmpfkongeaaGreatDoor.S
namespace Go.Proofs.YtpeegmpfkongeaaGreatDoor.S
open Go.RowKit Go.Lib Fl Go.Shelf
open Classical
attribute [local go_sem] Oper.semAt_some

end Go.Proofs.YtpeegmpfkongeaaGreatDoor.S
namespace Go.Proofs.YtpeegmpfkongeaaGreatDoor.S
open Go.RowKit Go.Lib Fl Go.Shelf
open Classical
attribute [local go_sem] Oper.semAt_some

end Go.Proofs.YtpeegmpfkongeaaGreatDoor.S
namespace Go.Proofs.YtpeegmpfkongeaaGreatDoor.S
open Go.RowKit Go.Lib Fl Go.Shelf
open Classical
attribute [local go_sem] Oper.semAt_some

end Go.Proofs.YtpeegmpfkongeaaGreatDoor.S
namespace Go.Proofs.YtpeegmpfkongeaaGreatDoor.S
open Go.RowKit Go.Lib Fl Go.Shelf
open Classical
attribute [local go_sem] Oper.semAt_some

end Go.Proofs.YtpeegmpfkongeaaGreatDoor.S
namespace Go.Proofs.YtpeegmpfkongeaaGreatDoor.S
open Go.RowKit Go.Lib Fl Go.Shelf
open Classical

theorem there_h (H : List Ob) (A : Option Addr) (cap : Nat) (z : Int) (w : World) : Calls Tryz.prog 42 #[.agg #[.slice A H.length cap], .int .i64 z] w fun e w' => e = .returned (.int .i64 (if z < 0 ∨ (H.length : Int) ≤ z then 2 else 0)) ∧ Below w.heap.size w w' := by
  have hb := heap_alloc_new w (.cells #[.slice A H.length cap] 24)
  have q0 : (w.alloc (.cells #[.slice A H.length cap] 24)).cell? ⟨w.heap.size, 0, none⟩ = some (.slice A H.length cap) := (vcells hb 0).trans rfl
  have hB := vzero w (.cells #[.slice A H.length cap] 24)
  by_cases c : z < 0
  · rw [if_pos (.inl c)]
    go_enter Tryz.func42, Tryz.ntmps42
    go_wp2
    go_ret
    exact ⟨rfl, hB⟩
  · by_cases d : (H.length : Int) ≤ z
    · rw [if_pos (.inr d)]
      go_enter Tryz.func42, Tryz.ntmps42
      go_wp2
      go_ret
      exact ⟨rfl, hB⟩
    · rw [if_neg (by omega)]
      go_enter Tryz.func42, Tryz.ntmps42
      go_wp2
      go_ret
      exact ⟨rfl, hB⟩
end Go.Proofs.YtpeegmpfkongeaaGreatDoor.S
namespace Go.Proofs.YtpeegmpfkongeaaGreatDoor.S
open Go.RowKit Go.Lib Fl
open Classical

end Go.Proofs.YtpeegmpfkongeaaGreatDoor.S
namespace Go.Proofs.YtpeegmpfkongeaaGreatDoor.S
open Go.RowKit Go.Lib Fl
open Classical

end Go.Proofs.YtpeegmpfkongeaaGreatDoor.S
namespace Go.Proofs.YtpeegmpfkongeaaGreatDoor.S
open Go.RowKit Go.Lib Fl
open Classical

end Go.Proofs.YtpeegmpfkongeaaGreatDoor.S
namespace Go.Proofs.YtpeegmpfkongeaaGreatDoor.S
open Go.RowKit Go.Lib Fl
open Classical

end Go.Proofs.YtpeegmpfkongeaaGreatDoor.S
namespace Go.Proofs.YtpeegmpfkongeaaGreatDoor.S
open Go.RowKit Go.Lib Fl
open Classical

end Go.Proofs.YtpeegmpfkongeaaGreatDoor.S
namespace Go.Proofs.YtpeegmpfkongeaaGreatDoor.S
open Go.RowKit Go.Lib Fl
open Classical

end Go.Proofs.YtpeegmpfkongeaaGreatDoor.S
namespace Go.Proofs.YtpeegmpfkongeaaGreatDoor.S
open Go.RowKit Go.Lib Fl
open Classical

end Go.Proofs.YtpeegmpfkongeaaGreatDoor.S
namespace Go.Proofs.YtpeegmpfkongeaaGreatDoor.S
open Go.RowKit Go.Lib Fl
open Classical

end Go.Proofs.YtpeegmpfkongeaaGreatDoor.S
namespace Go.Proofs.YtpeegmpfkongeaaGreatDoor.S
open Go.RowKit Go.Lib Fl
open Classical

theorem th_zero {H : List Ob} {n : Int} (h : thE H n = 0) : inZ H n := by
  unfold thE at h
  unfold inZ
  split at h
  · exact absurd h (by decide)
  · omega
theorem orE_zero {x y : Int} (h : orE x y = 0) : x = 0 ∧ y = 0 := by
  unfold orE at h
  split at h
  · exact ⟨by assumption, h⟩
  · contradiction
end Go.Proofs.YtpeegmpfkongeaaGreatDoor.S
namespace Go.Proofs.YtpeegmpfkongeaaGreatDoor.S
open Go.RowKit Go.Lib Fl
open Classical

theorem ow_start (w : World) (A : Option Addr) (n cap : Nat) : Ow w A n cap ((w.alloc (.cells #[.slice A n cap] 24)).alloc (.cells ozA 34)) := by
  obtain ⟨b1, b2⟩ := vblk2 (w := w) (Below.refl _ ((w.alloc (.cells #[.slice A n cap] 24)).alloc (.cells ozA 34)))
  exact ⟨vafter (vzero _ _), b1, b2⟩
theorem of_end {f : Func} {i j : Nat} {t : TypeId} {Q : Ending → World → Prop} {tmps : Array Value} {W : World} {g : Nat} {o : Ob} {y : Int} (hf : f.results = #[.cell i 34, .tmp j])
    (h2 : tmps[i]?.getD undef = .pointer (some ⟨g, 0, none⟩)) (h3 : tmps[j]?.getD undef = .int .i64 y) (hb : W.heap[g]? = some (.cells (obA o) t (0, 0))) (hQ : Q (.returned (.tuple #[.agg (obA o), .int .i64 y])) W) :
    bodyPost Tryz.prog f Q .ret { tmps := tmps, defers := [] } W := by
  have hl := run_loadVar_row (P := Tryz.prog) W g t 34 (obA o) (0, 0) _ hb Tryz.underlying34 rfl osz
  refine bodyPost_ret (v := .tuple #[.agg (obA o), .int .i64 y]) ?_ rfl hQ
  simp [h2, h3, results, hf, hl, asAddr]
theorem obA_at (o : Ob) (g : Nat) : (obA o).setIfInBounds 6 (.slice (some ⟨g, 0, none⟩) o.props.length o.props.length) = obA (o.at g) := rfl
section
variable {ops : Array Oper} {rest : List Oper} {o : Oper} {a : Act} {w : World} {Q : Exit → Act → World → Prop} {x y : Operand} {t : TypeId}
theorem sl_store {cs : Array Value} {P : Option Addr} {B g m n c : Nat} {w0 : World} (hgd : o.guard = none) (ho : o.op = .store 32 x y) (hx : a.eval x = .pointer (some ⟨g, m, none⟩)) (hy : a.eval y = .slice P n c) (hg : w.heap[g]? = some (.cells cs t (0, 0))) (hm : m < cs.size) (hB : Below B w0 w) (hBg : B ≤ g)
    (h : ∀ W : World, Below B w0 W → W.heap[g]? = some (.cells (cs.setIfInBounds m (.slice P n c)) t (0, 0)) → (∀ j, j ≠ g → W.heap[j]? = w.heap[j]?) → W.heap.size = w.heap.size → wpList Tryz.prog ops Q rest (a.put o.dst undef) W) : wpList Tryz.prog ops Q (o :: rest) a w := by
  have hc : w.cell? ⟨g, m, none⟩ = some cs[m] := by rw [vcells hg m]; simp [hm]
  have hf : w.frozen? ⟨g, m, none⟩ = false := by simp [World.frozen?, hg]
  refine wpList_plain hgd fun K hK => ?_
  have hr : (Instr.storeAt 32 (.pointer (some ⟨g, m, none⟩)) (.slice P n c)).run Tryz.prog w = .ok () (w.setCell ⟨g, m, none⟩ (.slice P n c)) := by simp [go_sem, hc, hf]
  unfold Oper.wp execOp
  simp only [ho, hx, hy, hr, Sem.run_bind, Sem.run_pure, Result.andThen_ok]
  refine hK _ _ (h _ (hB.setCell (p := ⟨g, m, none⟩) hBg _) (vset1 hg m _) (fun j hj => ?_) (by simp))
  exact Below.heap_setCell w ⟨g, m, none⟩ _ j hj
end
set_option maxHeartbeats 4000000 in
set_option maxRecDepth 1000000 in
theorem Of_h (A : Option Addr) (H : List Ob) (cap : Nat) (n : Int) (w : World) (hH : HIn w A H cap) (hp : ∀ o ∈ H, o.props.length ≤ 100000) (htab : TabHere w) :
    Calls Tryz.prog 13 #[.agg #[.slice A H.length cap], .int .i64 n] w (OfTo H n w) := by
  have HN := Lib.hid (ow_start w A H.length cap)
  have cC := fun W (hb : Below w.heap.size w W) => Check_h A H cap W (hH.up hb) (tab_up htab hb)
  have cT : ∀ W, Calls Tryz.prog 42 #[.agg #[.slice A H.length cap], .int .i64 n] W fun e w' => e = .returned (.int .i64 (thE H n)) ∧ Below W.heap.size W w' := fun W => there_h H A cap n W
  have hi1 : ∀ o : Ob, (Tryz.prog.info? 34).map (·.size) = some (obA o).size := fun _ => osz
  have hofe : ofE H n = orE (chkH H) (thE H n) := rfl
  have hthz := fun h => th_zero (H := H) (n := n) h
  have HH := Lib.hid hH
  clear hH
  generalize hx : chkH H = x at *
  generalize thE H n = y at *
  go_enter Tryz.func13, Tryz.ntmps13
  go_upto_region 1 with (fail)
  have hS : Ow w A H.length cap _ := HN.out.up (Below.refl _ _).drew
  refine wp_region_held_drew (S := Ow w A H.length cap) (by kernel_rfl) hS (fun hHeld => ?_)
  refine hH_take (i := 0) (v := .agg #[.slice A H.length cap]) (d := 8) (l2 := #[true, false, false, false, false, false, false, false]) rfl (by kernel_rfl) (by kernel_rfl) (by kernel_rfl) (fun _ _ _ h => h) (by kernel_rfl) (fun w hSw => ?_) (by assumption) rfl (by kernel_rfl) ?_
  · exact ex_load_at (h1_load hSw.h) rfl rfl
  simp only [List.set]
  refine hH_take (i := 2) (v := .agg #[.slice A H.length cap]) (d := 10) (l2 := #[true, false, true, false, false, false, false, false]) rfl (by kernel_rfl) (by kernel_rfl) (by kernel_rfl) (fun _ _ _ h => h) (by kernel_rfl) (fun w hSw => ?_) (by assumption) rfl (by kernel_rfl) ?_
  · exact ex_load_at (h1_load hSw.h) rfl rfl
  simp only [List.set]
  refine hH_take (i := 3) (v := .int .i64 n) (d := 11) (l2 := #[true, false, true, true, false, false, false, false]) rfl (by kernel_rfl) (by kernel_rfl) (by kernel_rfl) (fun _ _ _ h => h) (by kernel_rfl) (fun w hSw => ?_) (by assumption) rfl (by kernel_rfl) ?_
  · go_simp
  simp only [List.set]
  refine wpAnyH_ready (rs := [1]) (by kernel_rfl) (by simp) ?_
  refine AllReadyH.cons rfl (fun K hK => ?_) AllReadyH.nil
  go_simp
  go_at_call 18
  (with_reducible refine (cC _ hS.below).mono ?_)
  rintro e w1 ⟨rfl, h1⟩
  have hS := hS.up h1
  clear h1
  refine hK.out _ _ hS (fun hHeld => ?_)
  clear hK K
  refine wpAnyH_ready (rs := [4]) (by kernel_rfl) (by simp) ?_
  refine AllReadyH.cons rfl (fun K hK => ?_) AllReadyH.nil
  go_simp
  go_at_call 42
  (with_reducible refine (cT _).mono ?_)
  rintro e w1 ⟨rfl, h1⟩
  have hS := hS.up h1
  clear h1
  refine hK.out _ _ hS (fun hHeld => ?_)
  clear hK K
  refine wpAnyH_ready (rs := [5]) (by kernel_rfl) (by simp) ?_
  refine AllReadyH.cons rfl (fun K hK => ?_) AllReadyH.nil
  go_simp
  have hS := hS.up (vzero _ (.cells #[.int .i64 x, .int .i64 y] 25))
  have hO := orS_new w1 x y
  refine hK.out _ _ hS (fun hHeld => ?_)
  clear hK K
  refine wpAnyH_ready (rs := [6]) (by kernel_rfl) (by simp) ?_
  refine AllReadyH.cons rfl (fun K hK => ?_) AllReadyH.nil
  go_simp
  go_at_call 41
  (with_reducible refine (Or_2 _ x y _ hO.1 hO.2).mono ?_)
  rintro e w2 ⟨rfl, rfl⟩
  refine hK.out _ _ hS (fun hHeld => ?_)
  clear hK K
  refine hH_take (i := 7) (v := .int .i64 (orE x y)) (d := 6) (l2 := #[true, true, true, true, true, true, true, true]) rfl (by kernel_rfl) (by kernel_rfl) (by kernel_rfl) (fun _ _ _ h => h) (by kernel_rfl) (fun w hSw => ?_) (by assumption) rfl (by kernel_rfl) ?_
  · go_simp
  simp only [List.set]
  refine wpAnyH_done (by kernel_rfl) ?_ _
  clear hO
  have HN := Lib.hid hS
  clear hS hHeld
  generalize w1.alloc (.cells #[.int .i64 x, .int .i64 y] 25) = W0 at *
  have HE := Lib.hid hofe
  clear hofe
  by_cases h0 : orE x y = 0
  · obtain ⟨hx0, hy0⟩ := orE_zero h0
    have hin := hthz hy0
    obtain ⟨k, rfl⟩ := Int.eq_ofNat_of_zero_le hin.1
    have hkz : (k : Int) < (H.length : Int) := hin.2
    have hk0 : (0 : Int) ≤ (k : Int) := hin.1
    have hkl : k < H.length := by omega
    rw [h0] at HE ⊢
    have hkn : ((k : Int)).toNat = k := Int.toNat_natCast k
    have hpk := hp H[k] (List.getElem_mem hkl)
    obtain ⟨a, rfl, hab, hof, hP⟩ := HH.out.at hkl
    have hoc := of_back hof
    have HOQ := Lib.hid (show ∃ o, o = H[k] from ⟨_, rfl⟩)
    obtain ⟨q, hq⟩ : ∃ q, q = H[k] := ⟨_, rfl⟩
    rw [← hq] at hof hP hpk hoc
    have HQ := Lib.hid hq
    have cP := fun W (hb : Below w.heap.size w W) => copiedP_h q.pa q.props.length q.pc (prCells q.props) W (pr_r18 (pr_up hP hb)) (by omega)
    clear hq hin hthz hx0 hy0 h0 cT cC HOQ hp
    have hq0 : W0.cell? ⟨w.heap.size, 0, none⟩ = some (.slice (some a) H.length cap) := (vcells HN.out.h 0).trans rfl
    have hcl := fun W (hb : Below w.heap.size w W) j u hu => (hb.cell (p := (a.add (k * 18)).add j) (by rw [add_blk]; exact hab)).trans (hoc j u hu)
    have hc5 := hcl _ HN.out.below
    go_wp2_with (first
      | ((with_reducible refine oa_load ?_ rfl rfl hc5 ?_); (rfl))
      | ((with_reducible refine t_store rfl rfl rfl rfl (heap_alloc_new W0 _) (hi1 q) ?_ (obA_one q) (vzero W0 _) (Nat.le_refl _) ?_); (rfl); intro W1 hb1 hW1 _ _; have HN1 := Lib.hid (HN.out.up hb1); have q6 : W1.cell? ⟨W0.heap.size, 6, none⟩ = some (.slice q.pa q.props.length q.pc) := (vcells hW1 6).trans rfl; have HB1 := Lib.hid hb1; clear hb1)
      | (go_at_call 43; (with_reducible refine (cP _ HN1.out.below).mono ?_); rintro e W2 ⟨g, rfl, hg1, hg2, h9⟩; have HN2 := Lib.hid (HN1.out.up h9); have hB2 := HN2.out.below; have hw7 := vblkn h9 hW1; have hlt7 := lt_blk hW1; have hle0 := HN.out.below.size; have HG2 := Lib.hid hg2; clear h9)
      | ((with_reducible refine sl_store rfl rfl rfl rfl hw7 (by rw [obA_size]; omega) hB2 hle0 ?_); intro W3 hb3 hW3 hO3 _; have hW3b := (obA_at q g) ▸ hW3; have hr3 := (hO3 _ (by have := lt_blk HN.out.r; omega)).trans HN2.out.r; have hg3 := (hO3 g (by omega)).trans HG2.out)
      | ((with_reducible refine ob_load ?_ rfl rfl hW3b ?_); (rfl))
      | ((with_reducible refine t_store rfl rfl rfl rfl hr3 (hi1 _) ?_ (obA_one (q.at g)) hb3 (by omega) ?_); (rfl); intro W6 hb6 hW6 hO6 _))
    refine of_end Tryz.results13 rfl rfl hW6 ⟨hb6, .inr ⟨HE.out, by rw [hkn]; exact hkl, g, ?_, ?_⟩⟩
    · simp only [hkn, ← HQ.out]
    · simp only [hkn, ← HQ.out]
      exact (hO6 g (by have := lt_blk HN.out.r; omega)).trans hg3
  · have hzb : (orE x y != 0) = true := by unfold bne; rw [beq_eq_false_iff_ne.2 h0]; rfl
    have HZ := Lib.hid h0
    have hr := HN.out.r
    have hB := HN.out.below
    clear h0 cT cC
    generalize orE x y = E at *
    have hoz : Value.agg (obA oZ) = Value.agg (obA oZ) := rfl
    go_wp2_with ((with_reducible refine t_store rfl rfl rfl rfl hr (hi1 oZ) ?_ (obA_one oZ) hB (by omega) ?_); (rfl); intro W6 hb6 hW6 hO6 _)
    exact of_end Tryz.results13 rfl rfl hW6 ⟨hb6, .inl ⟨by rw [HE.out]; exact HZ.out, by rw [HE.out]⟩⟩
end Go.Proofs.YtpeegmpfkongeaaGreatDoor.S
namespace Go.Proofs.YtpeegmpfkongeaaGreatDoor.S
open Go.RowKit Go.Lib Fl
open Classical

end Go.Proofs.YtpeegmpfkongeaaGreatDoor.S
namespace Go.Proofs.YtpeegmpfkongeaaGreatDoor.S
open Go.RowKit Go.Lib Fl
open Classical

end Go.Proofs.YtpeegmpfkongeaaGreatDoor.S
namespace Go.Proofs.YtpeegmpfkongeaaGreatDoor.S
open Go.RowKit Go.Lib Fl
open Classical

end Go.Proofs.YtpeegmpfkongeaaGreatDoor.S
namespace Go.Proofs.YtpeegmpfkongeaaGreatDoor.S
open Go.RowKit Go.Lib Fl
open Classical

end Go.Proofs.YtpeegmpfkongeaaGreatDoor.S
namespace Go.Proofs.YtpeegmpfkongeaaGreatDoor.S
open Go.RowKit Go.Lib Fl
open Classical

theorem of_ok {A : Option Addr} {H : List Ob} {cap n : Nat} {w W : World} (hH : HIn w A H cap) (hp : ∀ o ∈ H, o.props.length ≤ 100000) (htab : TabHere w) (hm : mayH H = true) (hn : n < H.length) (hb : Below w.heap.size w W) :
    Calls Tryz.prog 13 #[.agg #[.slice A H.length cap], .int .i64 (n : Int)] W fun e w' => ∃ g : Nat, e = .returned (.tuple #[.agg (obA (H[n].at g)), .int .i64 0]) ∧ TabIn w' (some ⟨g, 0, none⟩) H[n].props H[n].props.length ∧ Below W.heap.size W w' := by
  refine (Of_h A H cap n W (hH.up hb) hp (tab_up htab hb)).mono ?_
  have hz : ofE H (n : Int) = 0 := by
    unfold ofE
    rw [chk_ok hm, show thE H (n : Int) = 0 from by unfold thE; rw [if_neg (by omega)]]
    rfl
  rintro e w' ⟨h9, ⟨h, _⟩ | ⟨_, h, g, rfl, hg⟩⟩
  · exact absurd hz h
  · exact ⟨g, rfl, tab_of hm hn hH.inn hg, h9⟩
set_option maxHeartbeats 4000000 in
set_option maxRecDepth 1000000 in
theorem Keys_ok (A : Option Addr) (H : List Ob) (cap : Nat) (n : Nat) (w : World) (hH : HIn w A H cap) (hp : ∀ o ∈ H, o.props.length ≤ 100000) (htab : TabHere w) (hm : mayH H = true) (hn : n < H.length) :
    Calls Tryz.prog 37 #[.agg #[.slice A H.length cap], .int .i64 (n : Int)] w fun e w' => ∃ M O, e = .returned (.tuple #[.slice (some ⟨O, 0, none⟩) H[n].props.length H[n].props.length, .int .i64 0]) ∧ OrdOf (keysL H[n].props) M ∧ w'.heap[O]? = some (.cells (kyCells M).toArray 57 (0, 0)) ∧ Below w.heap.size w w' := by
  have cO := fun W hb => of_ok (W := W) hH hp htab hm hn hb
  have hb := heap_alloc_new w (.cells #[.slice A H.length cap] 24)
  have hB := vzero w (.cells #[.slice A H.length cap] 24)
  have HT := Lib.hid htab
  obtain ⟨o, ho⟩ : ∃ o, o = H[n] := ⟨_, rfl⟩
  rw [← ho] at cO ⊢
  clear ho hH hp htab hm hn
  go_enter Tryz.func37, Tryz.ntmps37
  go_wp2_with (first
    | ((with_reducible refine h1_ld ?_ rfl rfl hb ?_); (rfl))
    | (go_at_call 13; (with_reducible refine (cO _ hB).mono ?_); rintro e w1 ⟨g, rfl, hT, h9⟩; have hB := vb hB h9; have HTI := Lib.hid hT; clear h9 hT)
    | (refine t_store (cs := obA (o.at g)) rfl rfl rfl rfl (heap_alloc_new _ _) osz rfl (obA_one _) (vzero w1 _) (Nat.le_refl _) ?_; intro W2 hb2 hW2 hO2 hz2; have HTI := Lib.hid (HTI.out.up hb2); have hB2 := vb hB hb2; have q6 : W2.cell? ⟨w1.heap.size, 6, none⟩ = some (.slice (some ⟨g, 0, none⟩) o.props.length o.props.length) := (vcells hW2 6).trans rfl)
    | (go_at_call 67; (with_reducible refine (Keys_w _ o.props _ _ HTI.out (tab_up HT.out hB2)).mono ?_); rintro e w3 ⟨M, O, rfl, hM, hO, h9⟩; have hb3 := vb hB2 h9; clear h9))
  go_ret2
  exact ⟨M, O, rfl, hM, hO, hb3⟩
theorem nw3_start (w : World) (A : Option Addr) (n cap : Nat) (k : Ky) : Nw3 w A n cap k (((w.alloc (.cells #[.slice A n cap] 24)).alloc (.cells #[.string k.str, .int .i64 k.sym] 57)).alloc (.cells dz16 49)) := by
  obtain ⟨b1, b2⟩ := vblk2 (w := w) (Below.refl _ ((w.alloc (.cells #[.slice A n cap] 24)).alloc (.cells #[.string k.str, .int .i64 k.sym] 57)))
  have hB : Below w.heap.size w ((w.alloc (.cells #[.slice A n cap] 24)).alloc (.cells #[.string k.str, .int .i64 k.sym] 57)) := vafter (vzero _ _)
  have s1 : ((w.alloc (.cells #[.slice A n cap] 24)).alloc (.cells #[.string k.str, .int .i64 k.sym] 57)).heap.size = w.heap.size + 2 := by simp
  generalize (w.alloc (.cells #[.slice A n cap] 24)).alloc (.cells #[.string k.str, .int .i64 k.sym] 57) = W at *
  have b3 := heap_alloc_new W (.cells dz16 49)
  rw [s1] at b3
  exact ⟨vb hB (vzero _ _), vblkn (vzero _ _) b1, vblkn (vzero _ _) b2, b3⟩
set_option maxHeartbeats 4000000 in
set_option maxRecDepth 1000000 in
theorem Own_ok (A : Option Addr) (H : List Ob) (cap : Nat) (k : Ky) (n : Nat) (w : World) (hH : HIn w A H cap) (hp : ∀ o ∈ H, o.props.length ≤ 100000) (htab : TabHere w) (hm : mayH H = true) (hn : n < H.length) (hk : mayKy k) :
    Calls Tryz.prog 33 #[.agg #[.slice A H.length cap], .int .i64 (n : Int), .agg #[.string k.str, .int .i64 k.sym]] w fun e w' => e = .returned (.tuple #[.agg (fndD H[n].props k).cells, .bool (findT H[n].props k).isSome, .int .i64 0]) ∧ Below w.heap.size w w' := by
  have cO := fun W hb => of_ok (W := W) hH hp htab hm hn hb
  have HS := Lib.hid (nw3_start w A H.length cap k)
  have HT := Lib.hid htab
  obtain ⟨o, ho⟩ : ∃ o, o = H[n] := ⟨_, rfl⟩
  rw [← ho] at cO ⊢
  clear ho hH hp htab hm hn
  go_enter Tryz.func33, Tryz.ntmps33
  go_wp2_with (first
    | ((with_reducible refine h1_ld ?_ rfl rfl HS.out.h ?_); (rfl))
    | (go_at_call 13; (with_reducible refine (cO _ HS.out.below).mono ?_); rintro e w1 ⟨g, rfl, hT, h9⟩; have HS := Lib.hid (HS.out.up h9); have HTI := Lib.hid hT; clear h9 hT)
    | (refine t_store (cs := obA (o.at g)) rfl rfl rfl rfl (heap_alloc_new w1 _) osz rfl (obA_one _) (vzero w1 _) (Nat.le_refl _) ?_; intro W2 hb2 hW2 hO2 hz2; have HTI := Lib.hid (HTI.out.up hb2); have HS := Lib.hid (HS.out.up hb2); have q6 : W2.cell? ⟨w1.heap.size, 6, none⟩ = some (.slice (some ⟨g, 0, none⟩) o.props.length o.props.length) := (vcells hW2 6).trans rfl; have q7 : W2.cell? ⟨w.heap.size + 1, 0, none⟩ = some (.string k.str) := (vcells HS.out.k 0).trans rfl; have q8 : W2.cell? ⟨w.heap.size + 1, 1, none⟩ = some (.int .i64 k.sym) := (vcells HS.out.k 1).trans rfl)
    | (go_at_call 61; (with_reducible refine (Find_t _ o.props _ k _ HTI.out hk).mono ?_); rintro e w3 ⟨rfl, h9⟩; have HS := Lib.hid (HS.out.up h9); have hr := HS.out.r; have hB2 := HS.out.below; clear h9)
    | (refine t_store (cs := (fndD o.props k).cells) rfl rfl rfl rfl hr (dc_size _) rfl (dc_one _) hB2 (Nat.le_add_right _ 2) ?_; intro W3 hb3 hW3 hO3 hz3))
  exact dq_end3 Tryz.results33 rfl rfl rfl hW3 ⟨rfl, hb3⟩
end Go.Proofs.YtpeegmpfkongeaaGreatDoor.S
namespace Go.Proofs.YtpeegmpfkongeaaGreatDoor.S
open Go.RowKit Go.Lib Fl
open Classical

set_option maxHeartbeats 4000000 in
set_option maxRecDepth 100000 in
theorem Find_bad (A : Option Addr) (L : List Pq) (cap : Nat) (k : Ky) (w : World) (hT : TabIn w A L cap) (hk : ¬ mayKy k) : Calls Tryz.prog 61 #[.slice A L.length cap, .agg #[.string k.str, .int .i64 k.sym]] w fun e w' => e = .returned (.tuple #[.agg (dz 0).cells, .bool false, .int .i64 9]) ∧ Below w.heap.size w w' := by
  have cC := fun W hb => hT.check (W := W) hb
  have kC := fun W => keyCheck_bad k.str k.sym W hk
  have hl63 : L.length < 1000000000000 := hT.few
  have hS : Hm w k (dz 0) ((w.alloc (.cells #[.string k.str, .int .i64 k.sym] 57)).alloc (.cells #[.int .u8 0, .int .u8 0, .float .f64 0, .string ⟨#[]⟩, .int .i64 0, .int .u8 0, .float .f64 0, .string ⟨#[]⟩, .int .i64 0, .int .u8 0, .float .f64 0, .string ⟨#[]⟩, .int .i64 0, .bool false, .bool false, .bool false] 49)).drew := (hm_start w k (dz 0)).drew
  go_enter Tryz.func61, Tryz.ntmps61
  go_upto_region 1 with (fail)
  refine wp_region_held_drew (S := Hm w k (dz 0)) (by kernel_rfl) hS (fun hHeld => ?_)
  refine hH_take (i := 0) (v := .slice A L.length cap) (d := 10) (l2 := #[true, false, false, false, false, false, false]) rfl (by kernel_rfl) (by kernel_rfl) (by kernel_rfl) (fun _ _ _ h => h) (by kernel_rfl) (fun w hSw => ?_) (by assumption) rfl (by kernel_rfl) ?_
  · go_simp
  simp only [List.set]
  refine hH_take (i := 2) (v := .agg #[.string k.str, .int .i64 k.sym]) (d := 12) (l2 := #[true, false, true, false, false, false, false]) rfl (by kernel_rfl) (by kernel_rfl) (by kernel_rfl) (fun _ _ _ h => h) (by kernel_rfl) (fun w hSw => ?_) (by assumption) rfl (by kernel_rfl) ?_
  · exact ex_load_at (k2_load hSw.k) rfl rfl
  simp only [List.set]
  refine wpAnyH_ready (rs := [1]) (by kernel_rfl) (by simp) ?_
  refine AllReadyH.cons rfl (fun K hK => ?_) AllReadyH.nil
  go_simp
  go_at_call 69
  (with_reducible refine (cC _ hS.below).mono ?_)
  rintro e w1 ⟨rfl, h1⟩
  have hS := hS.up h1
  clear h1
  refine hK.out _ _ hS (fun hHeld => ?_)
  clear hK K
  refine wpAnyH_ready (rs := [3]) (by kernel_rfl) (by simp) ?_
  refine AllReadyH.cons rfl (fun K hK => ?_) AllReadyH.nil
  go_simp
  go_at_call 84
  (with_reducible refine (kC _).mono ?_)
  rintro e w1 ⟨rfl, h1⟩
  have hS := hS.up h1
  clear h1
  refine hK.out _ _ hS (fun hHeld => ?_)
  clear hK K
  refine wpAnyH_ready (rs := [4]) (by kernel_rfl) (by simp) ?_
  refine AllReadyH.cons rfl (fun K hK => ?_) AllReadyH.nil
  go_simp
  have hS := hS.up (vzero _ (.cells #[.int .i64 0, .int .i64 9] 25))
  have hO := orS_new w1 0 9
  refine hK.out _ _ hS (fun hHeld => ?_)
  clear hK K
  refine wpAnyH_ready (rs := [5]) (by kernel_rfl) (by simp) ?_
  refine AllReadyH.cons rfl (fun K hK => ?_) AllReadyH.nil
  go_simp
  go_at_call 41
  (with_reducible refine (Or_0 _ 9 _ hO.1 hO.2).mono ?_)
  rintro e w2 ⟨rfl, rfl⟩
  refine hK.out _ _ hS (fun hHeld => ?_)
  clear hK K
  refine hH_take (i := 6) (v := .int .i64 9) (d := 7) (l2 := #[true, true, true, true, true, true, true]) rfl (by kernel_rfl) (by kernel_rfl) (by kernel_rfl) (fun _ _ _ h => h) (by kernel_rfl) (fun w hSw => ?_) (by assumption) rfl (by kernel_rfl) ?_
  · go_simp
  simp only [List.set]
  refine wpAnyH_done (by kernel_rfl) ?_ _
  have HB := Lib.hid hS.below
  have hb1 := hS.k
  have hb2 := hS.d
  clear cC kC hO
  have hc1 := dc_one (dz 0)
  have hi1 := dc_size (dz 0)
  go_wp2_with (first
    | ((with_reducible refine t_store (cs := (dz 0).cells) rfl rfl rfl rfl hb2 hi1 ?_ hc1 HB.out (Nat.le_succ _) ?_); (rfl); intro W hBW hW _ _))
  exact dq_end3 Tryz.results61 rfl rfl rfl hW ⟨rfl, hBW⟩
set_option maxHeartbeats 4000000 in
set_option maxRecDepth 1000000 in
theorem Own_key (A : Option Addr) (H : List Ob) (cap : Nat) (k : Ky) (n : Nat) (w : World) (hH : HIn w A H cap) (hp : ∀ o ∈ H, o.props.length ≤ 100000) (htab : TabHere w) (hm : mayH H = true) (hn : n < H.length) (hk : ¬ mayKy k) :
    Calls Tryz.prog 33 #[.agg #[.slice A H.length cap], .int .i64 (n : Int), .agg #[.string k.str, .int .i64 k.sym]] w fun e w' => e = .returned (.tuple #[.agg (dz 0).cells, .bool false, .int .i64 9]) ∧ Below w.heap.size w w' := by
  have cO := fun W hb => of_ok (W := W) hH hp htab hm hn hb
  have HS := Lib.hid (nw3_start w A H.length cap k)
  have HT := Lib.hid htab
  obtain ⟨o, ho⟩ : ∃ o, o = H[n] := ⟨_, rfl⟩
  rw [← ho] at cO
  clear ho hH hp htab hm hn
  go_enter Tryz.func33, Tryz.ntmps33
  go_wp2_with (first
    | ((with_reducible refine h1_ld ?_ rfl rfl HS.out.h ?_); (rfl))
    | (go_at_call 13; (with_reducible refine (cO _ HS.out.below).mono ?_); rintro e w1 ⟨g, rfl, hT, h9⟩; have HS := Lib.hid (HS.out.up h9); have HTI := Lib.hid hT; clear h9 hT)
    | (refine t_store (cs := obA (o.at g)) rfl rfl rfl rfl (heap_alloc_new w1 _) osz rfl (obA_one _) (vzero w1 _) (Nat.le_refl _) ?_; intro W2 hb2 hW2 hO2 hz2; have HTI := Lib.hid (HTI.out.up hb2); have HS := Lib.hid (HS.out.up hb2); have q6 : W2.cell? ⟨w1.heap.size, 6, none⟩ = some (.slice (some ⟨g, 0, none⟩) o.props.length o.props.length) := (vcells hW2 6).trans rfl; have q7 : W2.cell? ⟨w.heap.size + 1, 0, none⟩ = some (.string k.str) := (vcells HS.out.k 0).trans rfl; have q8 : W2.cell? ⟨w.heap.size + 1, 1, none⟩ = some (.int .i64 k.sym) := (vcells HS.out.k 1).trans rfl)
    | (go_at_call 61; (with_reducible refine (Find_bad _ o.props _ k _ HTI.out hk).mono ?_); rintro e w3 ⟨rfl, h9⟩; have HS := Lib.hid (HS.out.up h9); have hr := HS.out.r; have hB2 := HS.out.below; clear h9)
    | (refine t_store (cs := (dz 0).cells) rfl rfl rfl rfl hr (dc_size _) rfl (dc_one _) hB2 (Nat.le_add_right _ 2) ?_; intro W3 hb3 hW3 hO3 hz3))
  exact dq_end3 Tryz.results33 rfl rfl rfl hW3 ⟨rfl, hb3⟩
end Go.Proofs.YtpeegmpfkongeaaGreatDoor.S
namespace Go.Proofs.YtpeegmpfkongeaaGreatDoor.S
open Go.RowKit Go.Lib Fl
open Classical

end Go.Proofs.YtpeegmpfkongeaaGreatDoor.S
namespace Go.Proofs.YtpeegmpfkongeaaGreatDoor.S
open Go.RowKit Go.Lib Fl
open Classical

end Go.Proofs.YtpeegmpfkongeaaGreatDoor.S
namespace Go.Proofs.YtpeegmpfkongeaaGreatDoor.S
open Go.RowKit Go.Lib Fl
open Classical

end Go.Proofs.YtpeegmpfkongeaaGreatDoor.S
namespace Go.Proofs.YtpeegmpfkongeaaGreatDoor.S
open Go.RowKit Go.Lib Fl
open Classical

end Go.Proofs.YtpeegmpfkongeaaGreatDoor.S
namespace Go.Proofs.YtpeegmpfkongeaaGreatDoor.S
open Go.RowKit Go.Lib Fl
open Classical

end Go.Proofs.YtpeegmpfkongeaaGreatDoor.S
namespace Go.Proofs.YtpeegmpfkongeaaGreatDoor.S
open Go.RowKit Go.Lib Fl
open Classical

end Go.Proofs.YtpeegmpfkongeaaGreatDoor.S
namespace Go.Proofs.YtpeegmpfkongeaaGreatDoor.S
open Go.RowKit Go.Lib Fl
open Classical

end Go.Proofs.YtpeegmpfkongeaaGreatDoor.S
namespace Go.Proofs.YtpeegmpfkongeaaGreatDoor.S
open Go.RowKit Go.Lib Fl
open Classical

theorem doE_bare {H : List Ob} {m : Int} {k : Nat} {ky : Ky} {v : Vq} (hm : m = 1 ∨ m = 3 ∨ m = 4 ∨ m = 11) (h : mayH H = true) (hk : k < H.length) (hp : plainK H[k].kind = true) : doE H (akq m k ky (dz 0) v) = 0 := by
  have h1 : inB H (k : Int) = true := decide_eq_true ⟨Int.natCast_nonneg k, by omega⟩
  have h2 : askK H (k : Int) = true := by unfold askK; rw [Int.toNat_natCast, List.getElem?_eq_getElem hk]; exact hp
  unfold doE
  rw [h]
  rcases hm with rfl | rfl | rfl | rfl
  all_goals
    show mayE H (akq _ k ky (dz 0) v) = 0
    unfold mayE
    show (bif eightM _ && (inB H (k : Int) && askK H (k : Int)) then _ else _) = 0
    rw [h1, h2]
    rfl
/-- the object that was closed -/
def ShutIs (H M2 : List Ob) (k : Nat) : Prop := ∃ (h : k < M2.length) (g : k < H.length), M2[k].ext = false ∧ M2[k].kind = H[k].kind ∧ M2[k].props = H[k].props
def ShTo (H : List Ob) (k : Nat) (d : Nat) (w : World) (e : Ending) (w' : World) : Prop := ∃ B M2, e = .returned (.tuple #[.agg #[.slice (some ⟨B, 0, none⟩) d d], .agg (oqA (yesO true)), .int .i64 0]) ∧ (LeftH H B M2 w' ∧ ShutIs H M2 k) ∧ Below w.heap.size w w'
theorem shut_do {A : Option Addr} {H : List Ob} {cap k : Nat} {w : World} (hI : HIn w A H cap) (hp : ∀ o ∈ H, o.props.length ≤ 100000) (htab : TabHere w) (hE : doE H (akq 4 k kz (dz 0) v0) = 0) :
    Calls Tryz.prog 24 #[.agg #[.slice A H.length cap], .agg (akA (akq 4 k kz (dz 0) v0))] w (ShTo H k H.length w) := by
  have ha : (akq 4 (k : Int) kz (dz 0) v0).In := akq_in kz_in dz0_in (ok_in v0_ok)
  refine (Do_any A H cap _ w hI hp ha htab).mono fun e w' ⟨hb, h⟩ => ?_
  rcases h with ⟨hne, _⟩ | ⟨_, hm, k2, B, q, M2, hA, he, hD, hB⟩
  · exact absurd hE hne
  · obtain rfl : k2 = k := Int.ofNat.inj hA.n.symm
    have hk := hA.lt
    have hL := done_left hD hB hm hA ha hI.few hI.inn
    obtain ⟨M, p, hl, hkM, hM2, hs⟩ := hD.step
    obtain ⟨h1, h2⟩ := hs.m4 rfl
    have e1 := bare_k hl hkM hk
    have e2 := congrArg Ob.kind e1
    have e3 := congrArg Ob.props e1
    have e2 : M[k2].kind = H[k2].kind := e2
    have e3 : M[k2].props = H[k2].props := e3
    refine ⟨B, M2, by rw [he, h1], ⟨hL, ?_⟩, hb⟩
    subst hM2
    have hx : (M.set k2 p)[k2]'(by rw [List.length_set]; exact hkM) = p := List.getElem_set_self _
    refine ⟨by rw [List.length_set]; exact hkM, hk, ?_, ?_, ?_⟩
    · rw [hx, h2]; rfl
    · rw [hx, h2]; exact e2
    · rw [hx, h2]; exact e3
theorem shut_ext {H M2 : List Ob} {B k : Nat} {W : World} (hL : LeftH H B M2 W) (hS : ShutIs H M2 k) (hp : ∀ g : k < H.length, plainK H[k].kind = true) (htab : TabHere W) :
    Calls Tryz.prog 19 #[.agg #[.slice (some ⟨B, 0, none⟩) H.length H.length], .agg (akA (akq 3 k kz (dz 0) v0))] W fun e w' => ∃ B2 : Nat, e = .returned (.tuple #[.agg #[.slice (some ⟨B2, 0, none⟩) H.length H.length], .agg (oqA (yesO false))]) ∧ Below W.heap.size W w' := by
  obtain ⟨h1, h2, h3, h4, _⟩ := hS
  have ha : (akq 3 (k : Int) kz (dz 0) v0).In := akq_in kz_in dz0_in (ok_in v0_ok)
  have hd : doE M2 (akq 3 k kz (dz 0) v0) = 0 := doE_bare (.inr (.inl rfl)) hL.may h1 (by rw [h4]; exact hp h2)
  have := Does_any (some ⟨B, 0, none⟩) M2 M2.length _ W hL.inn hL.small ha htab
  unfold DoesTo at this
  rw [hL.len] at this
  refine this.mono fun e w' ⟨hb, h⟩ => ?_
  rcases h with ⟨hne, _⟩ | ⟨_, hm, k2, B2, q, M3, hA, he, hD, hB⟩
  · exact absurd hd hne
  · obtain rfl : k2 = k := Int.ofNat.inj hA.n.symm
    obtain ⟨M, p, hl, hkM, hM2, hs⟩ := hD.step
    obtain ⟨g1, _⟩ := hs.m3 rfl
    have e1 := congrArg Ob.ext (bare_k hl hkM h1)
    have e1 : M[k2].ext = M2[k2].ext := e1
    rw [e1, h3] at g1
    exact ⟨B2, by rw [he, g1], hb⟩
theorem shut_put {H M2 : List Ob} {B k : Nat} {W : World} {ky : Ky} {d : Dq} (hL : LeftH H B M2 W) (hS : ShutIs H M2 k) (hky : KyIn ky) (hd : d.In) (htab : TabHere W) :
    Calls Tryz.prog 24 #[.agg #[.slice (some ⟨B, 0, none⟩) H.length H.length], .agg (akA (akq 6 k ky d v0))] W fun e w' => ∃ v q E, v.oneCell' = true ∧ e = .returned (.tuple #[.agg #[v], .agg (oqA q), .int .i64 E]) ∧ (∀ g : k < H.length, E = 0 → (findT H[k].props ky).isSome = false → q = yesO false) ∧ Below W.heap.size W w' := by
  obtain ⟨h1, h2, h3, h4, h5⟩ := hS
  have ha : (akq 6 (k : Int) ky d v0).In := akq_in hky hd (ok_in v0_ok)
  have := Do_any (some ⟨B, 0, none⟩) M2 M2.length _ W hL.inn hL.small ha htab
  unfold DoTo at this
  rw [hL.len] at this
  refine this.mono fun e w' ⟨hb, h⟩ => ?_
  rcases h with ⟨hne, he⟩ | ⟨_, hm, k2, B2, q, M3, hA, he, hD, hB⟩
  · exact ⟨_, _, _, rfl, he, fun _ hz => absurd hz hne, hb⟩
  · obtain rfl : k2 = k := Int.ofNat.inj hA.n.symm
    refine ⟨_, _, _, rfl, he, fun g _ hf => ?_, hb⟩
    obtain ⟨M, p, hl, hkM, hM2, hs⟩ := hD.step
    have hT := hs.m6 rfl
    have e1 := bare_k hl hkM h1
    have e2 := congrArg Ob.ext e1
    have e3 := congrArg Ob.props e1
    have e2 : M[k2].ext = M2[k2].ext := e2
    have e3 : M[k2].props = M2[k2].props := e3
    refine (hT.no ?_).1
    have e4 : (akq 6 (k2 : Int) ky d v0).k = ky := rfl
    rw [e4, e3, h5, e2, h3, hf]
    unfold compatQ
    cases (!chkQ (akq 6 (k2 : Int) ky d v0).d || false && !wholeQ (fndD H[k2].props ky)) <;> rfl
end Go.Proofs.YtpeegmpfkongeaaGreatDoor.S
