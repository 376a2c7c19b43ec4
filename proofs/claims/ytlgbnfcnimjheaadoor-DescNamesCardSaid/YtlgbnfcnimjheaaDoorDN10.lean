/-
  The law DescNames: its walk. Generated: gen_descnames2.py.
-/
import Derived.Test.YtlgbnfcnimjheaaDoorDN09
namespace Go.Proofs.YtlgbnfcnimjheaaDoor.S
open Go.RowKit Fl

theorem al_old {w : World} {o p : Obj} {g : Nat} (h : w.heap[g]? = some p) : (w.alloc o).heap[g]? = some p ∧ g < w.heap.size := by
  have hg : g < w.heap.size := by
    rcases Nat.lt_or_ge g w.heap.size with c | c
    · exact c
    · rw [Array.getElem?_eq_none c] at h; cases h
  exact ⟨(heap_alloc_old w o hg).trans h, hg⟩
theorem num1 (w : World) : Calls Tryd.prog 8 #[.float .f64 4607182418800017408] w fun e w' => e = .returned (.agg #[.int .u8 3, .float .f64 4607182418800017408, .string ⟨#[]⟩, .int .i64 0]) ∧ Below w.heap.size w w' := Num_v 4607182418800017408 w
theorem num2 (w : World) : Calls Tryd.prog 8 #[.float .f64 4611686018427387904] w fun e w' => e = .returned (.agg #[.int .u8 3, .float .f64 4611686018427387904, .string ⟨#[]⟩, .int .i64 0]) ∧ Below w.heap.size w w' := Num_v 4611686018427387904 w
theorem data1 (w : World) : Calls Tryd.prog 12 #[.agg #[.int .u8 3, .float .f64 4607182418800017408, .string ⟨#[]⟩, .int .i64 0]] w fun e w' => e = .returned (.agg #[.int .u8 51, .int .u8 3, .float .f64 4607182418800017408, .string ⟨#[]⟩, .int .i64 0, .int .u8 0, .float .f64 0, .string ⟨#[]⟩, .int .i64 0, .int .u8 0, .float .f64 0, .string ⟨#[]⟩, .int .i64 0, .bool true, .bool true, .bool true]) ∧ Below w.heap.size w w' := Data_c 3 4607182418800017408 ⟨#[]⟩ 0 w
/-- the law's own blocks: a function, and what is fixed -/
def NS (w : World) (gn : Nat) (wx : World) : Prop := wx.heap[w.heap.size]? = some (.cells #[.int .u8 7, .float .f64 0, .string ⟨#[]⟩, .int .i64 5] 30 (0, 0)) ∧ wx.heap[gn]? = some (.cells #[.int .u8 51, .int .u8 3, .float .f64 4607182418800017408, .string ⟨#[]⟩, .int .i64 0, .int .u8 0, .float .f64 0, .string ⟨#[]⟩, .int .i64 0, .int .u8 0, .float .f64 0, .string ⟨#[]⟩, .int .i64 0, .bool false, .bool false, .bool false] 33 (0, 0)) ∧ Below w.heap.size w wx
theorem ns_up {w w1 w2 : World} {gn : Nat} (h : NS w gn w1) (g : Below w1.heap.size w1 w2) : NS w gn w2 := ⟨vblkn g h.1, vblkn g h.2.1, vb h.2.2 g⟩
theorem ns_tab {w w1 : World} {gn : Nat} (h : NS w gn w1) (ht : TabHere w) : TabHere w1 := tab_up ht h.2.2
theorem ns_drew {w w1 : World} {gn : Nat} (h : NS w gn w1) : NS w gn w1.drew := ⟨h.1, h.2.1, h.2.2.drew⟩
theorem ns_alloc {w w1 : World} {gn : Nat} {o : Obj} (h : NS w gn w1) : NS w gn (w1.alloc o) ∧ w.heap.size < w1.heap.size ∧ gn < w1.heap.size := ⟨⟨(al_old h.1).1, (al_old h.2.1).1, h.2.2.alloc h.2.2.size o⟩, (al_old (o := o) h.1).2, (al_old (o := o) h.2.1).2⟩
theorem ns_row {w w1 : World} {gn ga : Nat} {cs : Array Value} (h : NS w gn w1) (h1 : w.heap.size < ga) (h2 : gn < ga) : NS w gn (w1.setRow ga cs) := ⟨vset_o h.1 (by omega) cs, vset_o h.2.1 (by omega) cs, below_row h.2.2 (by omega) cs⟩
theorem ns_new {w w1 : World} {gn : Nat} {cs : Array Value} (_ : NS w gn w1) : (w1.alloc (.cells cs 33)).heap[w1.heap.size]? = some (.cells cs 33 (0, 0)) := heap_alloc_new w1 _
theorem ex_vload {a : Act} {o : Oper} {w : World} {x : Operand} {g : Nat} {t : TypeId} {cs : Array Value} {c0 c1 c2 c3 : Value} (ho : o.op = .load 30 x) (hx : a.eval x = .pointer (some ⟨g, 0, none⟩)) (hg : w.heap[g]? = some (.cells cs t (0, 0)))
    (h0 : cs[0]? = some c0) (h1 : cs[0 + 1]? = some c1) (h2 : cs[0 + 2]? = some c2) (h3 : cs[0 + 3]? = some c3) : (execOp a.eval o).run Tryd.prog w = .ok (.value (.agg #[c0, c1, c2, c3])) w := by
  unfold execOp
  simp only [ho, hx, Instr.loadAt, Instr.sureAddr, Sem.run_bind, Sem.run_pure, Result.andThen_ok, run_loadVar_mid (P := Tryd.prog) w g 0 30 [c0, c1, c2, c3] _ (row_range hg (four h0 h1 h2 h3)) Tryd.underlying30 rfl vsz]
set_option maxRecDepth 1000000 in
set_option maxHeartbeats 16000000 in
theorem DescNames_walk (w : World) (htab0 : TabHere w) : Calls Tryd.prog 4 #[] w fun e w' => e = .returned (.bool true) ∧ Below w.heap.size w w' := by
  have hst := vstore
  have HT := Lib.hid htab0
  clear htab0
  go_enter Tryd.func4, Tryd.ntmps4
  go_upto_region 2 with (fail)
  have b0 := heap_alloc_new w (.cells #[.int .u8 7, .float .f64 0, .string ⟨#[]⟩, .int .i64 5] 30)
  go_cut [2] from 24 to 162 (fun u wx => ∃ gn, u = .pointer (some ⟨gn, 0, none⟩) ∧ NS w gn wx)
  case first =>
    go_wp2_with (first | (go_at_call 8; (with_reducible refine (num1 _).mono ?_); rintro e w1 ⟨rfl, h9⟩) | ((with_reducible refine d_store rfl rfl rfl rfl (heap_alloc_new _ _) ?_ ?_ ?_); (rfl); (rfl)))
    go_meet
    case rel => exact ⟨_, rfl, made_old (vblkn h9 b0), made_row rfl, made_below (vafter h9) (vafter h9).size⟩
  case rest =>
  clear b0
  obtain ⟨gn, rfl, hS⟩ := hcut
  go_upto_region 8 with (first | (go_at_call 8; (with_reducible first | refine (num1 _).mono ?_); rintro e w1 ⟨rfl, h9⟩; replace hS := ns_up hS h9) | (go_at_call 9; (with_reducible first | refine (check_dA _).mono ?_ | refine (check_dB _).mono ?_ | refine (check_dC _).mono ?_ | refine (check_dD _).mono ?_ | refine (check_dO _).mono ?_); rintro e w1 ⟨rfl, h9⟩; replace hS := ns_up hS h9))
  go_upto_region 10 with (first | (go_at_call 10; (with_reducible first | refine (compat_1 _).mono ?_ | refine (compat_2 _).mono ?_); rintro e w1 ⟨rfl, h9⟩; replace hS := ns_up hS h9))
  go_upto_region 10 with (fail)
  go_cut [12, 13] from 67 to 73 (fun u v wx => u = .bool false ∧ v = .int .i64 0 ∧ NS w gn wx)
  case first =>
    have hS := ns_drew hS
    refine wp_region_held_drew (S := NS w gn) (by kernel_rfl) hS (fun hHeld => ?_)
    refine hH_take (i := 2) (v := .agg #[.int .u8 51, .int .u8 3, .float .f64 4607182418800017408, .string ⟨#[]⟩, .int .i64 0, .int .u8 0, .float .f64 0, .string ⟨#[]⟩, .int .i64 0, .int .u8 0, .float .f64 0, .string ⟨#[]⟩, .int .i64 0, .bool false, .bool false, .bool false]) (d := 70) (l2 := #[false, false, true, false, false, false, false, false, false]) rfl (by kernel_rfl) (by kernel_rfl) (by kernel_rfl) (fun _ _ _ h => h) (by kernel_rfl) (fun w hSw => ?_) (by assumption) rfl (by kernel_rfl) ?_
    · exact ex_load rfl rfl hSw.2.1
    simp only [List.set]
    refine wpAnyH_ready (rs := [0]) (by kernel_rfl) (by simp) ?_
    refine AllReadyH.cons rfl (fun K hK => ?_) AllReadyH.nil
    go_simp
    (go_at_call 8; (with_reducible refine (num2 _).mono ?_); rintro e w1 ⟨rfl, h9⟩; replace hS := ns_up hS h9)
    refine hK.out _ _ hS (fun hHeld => ?_)
    clear hK K
    refine hH_take (i := 1) (v := .agg #[.int .u8 1, .int .u8 3, .float .f64 4611686018427387904, .string ⟨#[]⟩, .int .i64 0, .int .u8 0, .float .f64 0, .string ⟨#[]⟩, .int .i64 0, .int .u8 0, .float .f64 0, .string ⟨#[]⟩, .int .i64 0, .bool false, .bool false, .bool false]) (d := 69) (l2 := #[true, true, true, false, false, false, false, false, false]) rfl (by kernel_rfl) (by kernel_rfl) (by kernel_rfl) (fun _ _ _ h => h) (by kernel_rfl) (fun w hSw => ?_) (by assumption) rfl (by kernel_rfl) ?_
    · clear hSw; go_simp
    simp only [List.set]
    refine wpAnyH_ready (rs := [3]) (by kernel_rfl) (by simp) ?_
    refine AllReadyH.cons rfl (fun K hK => ?_) AllReadyH.nil
    go_simp
    (go_at_call 10; (with_reducible refine (compat_3 _).mono ?_); rintro e w1 ⟨rfl, h9⟩; replace hS := ns_up hS h9)
    refine hK.out _ _ hS (fun hHeld => ?_)
    clear hK K
    refine hH_take (i := 4) (v := .tuple #[.bool false, .int .i64 0]) (d := 67) (l2 := #[true, true, true, true, true, false, false, false, false]) rfl (by kernel_rfl) (by kernel_rfl) (by kernel_rfl) (fun _ _ _ h => h) (by kernel_rfl) (fun w hSw => ?_) (by assumption) rfl (by kernel_rfl) ?_
    · clear hSw; go_simp
    simp only [List.set]
    refine hH_take (i := 5) (v := .bool false) (d := 72) (l2 := #[true, true, true, true, true, true, false, false, false]) rfl (by kernel_rfl) (by kernel_rfl) (by kernel_rfl) (fun _ _ _ h => h) (by kernel_rfl) (fun w hSw => ?_) (by assumption) rfl (by kernel_rfl) ?_
    · clear hSw; go_simp
    simp only [List.set]
    refine hH_take (i := 6) (v := .int .i64 0) (d := 73) (l2 := #[true, true, true, true, true, true, true, false, false]) rfl (by kernel_rfl) (by kernel_rfl) (by kernel_rfl) (fun _ _ _ h => h) (by kernel_rfl) (fun w hSw => ?_) (by assumption) rfl (by kernel_rfl) ?_
    · clear hSw; go_simp
    simp only [List.set]
    refine hH_take (i := 7) (v := .bool false) (d := 12) (l2 := #[true, true, true, true, true, true, true, true, false]) rfl (by kernel_rfl) (by kernel_rfl) (by kernel_rfl) (fun _ _ _ h => h) (by kernel_rfl) (fun w hSw => ?_) (by assumption) rfl (by kernel_rfl) ?_
    · clear hSw; go_simp
    simp only [List.set]
    refine hH_take (i := 8) (v := .int .i64 0) (d := 13) (l2 := #[true, true, true, true, true, true, true, true, true]) rfl (by kernel_rfl) (by kernel_rfl) (by kernel_rfl) (fun _ _ _ h => h) (by kernel_rfl) (fun w hSw => ?_) (by assumption) rfl (by kernel_rfl) ?_
    · clear hSw; go_simp
    simp only [List.set]
    refine wpAnyH_done (by kernel_rfl) ?_ _
    go_wp2_with (fail)
    go_meet
    case rel => exact ⟨rfl, rfl, hS⟩
  case rest =>
  clear hS
  obtain ⟨rfl, rfl, hS⟩ := hcut
  go_upto_region 11 with (fail)
  go_cut [14, 15] from 74 to 80 (fun u v wx => u = .bool true ∧ v = .int .i64 0 ∧ NS w gn wx)
  case first =>
    have hS := ns_drew hS
    refine wp_region_held_drew (S := NS w gn) (by kernel_rfl) hS (fun hHeld => ?_)
    refine hH_take (i := 2) (v := .agg #[.int .u8 51, .int .u8 3, .float .f64 4607182418800017408, .string ⟨#[]⟩, .int .i64 0, .int .u8 0, .float .f64 0, .string ⟨#[]⟩, .int .i64 0, .int .u8 0, .float .f64 0, .string ⟨#[]⟩, .int .i64 0, .bool false, .bool false, .bool false]) (d := 77) (l2 := #[false, false, true, false, false, false, false, false, false]) rfl (by kernel_rfl) (by kernel_rfl) (by kernel_rfl) (fun _ _ _ h => h) (by kernel_rfl) (fun w hSw => ?_) (by assumption) rfl (by kernel_rfl) ?_
    · exact ex_load rfl rfl hSw.2.1
    simp only [List.set]
    refine wpAnyH_ready (rs := [0]) (by kernel_rfl) (by simp) ?_
    refine AllReadyH.cons rfl (fun K hK => ?_) AllReadyH.nil
    go_simp
    (go_at_call 8; (with_reducible refine (num1 _).mono ?_); rintro e w1 ⟨rfl, h9⟩; replace hS := ns_up hS h9)
    refine hK.out _ _ hS (fun hHeld => ?_)
    clear hK K
    refine hH_take (i := 1) (v := .agg #[.int .u8 1, .int .u8 3, .float .f64 4607182418800017408, .string ⟨#[]⟩, .int .i64 0, .int .u8 0, .float .f64 0, .string ⟨#[]⟩, .int .i64 0, .int .u8 0, .float .f64 0, .string ⟨#[]⟩, .int .i64 0, .bool false, .bool false, .bool false]) (d := 76) (l2 := #[true, true, true, false, false, false, false, false, false]) rfl (by kernel_rfl) (by kernel_rfl) (by kernel_rfl) (fun _ _ _ h => h) (by kernel_rfl) (fun w hSw => ?_) (by assumption) rfl (by kernel_rfl) ?_
    · clear hSw; go_simp
    simp only [List.set]
    refine wpAnyH_ready (rs := [3]) (by kernel_rfl) (by simp) ?_
    refine AllReadyH.cons rfl (fun K hK => ?_) AllReadyH.nil
    go_simp
    (go_at_call 10; (with_reducible refine (compat_4 _).mono ?_); rintro e w1 ⟨rfl, h9⟩; replace hS := ns_up hS h9)
    refine hK.out _ _ hS (fun hHeld => ?_)
    clear hK K
    refine hH_take (i := 4) (v := .tuple #[.bool true, .int .i64 0]) (d := 74) (l2 := #[true, true, true, true, true, false, false, false, false]) rfl (by kernel_rfl) (by kernel_rfl) (by kernel_rfl) (fun _ _ _ h => h) (by kernel_rfl) (fun w hSw => ?_) (by assumption) rfl (by kernel_rfl) ?_
    · clear hSw; go_simp
    simp only [List.set]
    refine hH_take (i := 5) (v := .bool true) (d := 79) (l2 := #[true, true, true, true, true, true, false, false, false]) rfl (by kernel_rfl) (by kernel_rfl) (by kernel_rfl) (fun _ _ _ h => h) (by kernel_rfl) (fun w hSw => ?_) (by assumption) rfl (by kernel_rfl) ?_
    · clear hSw; go_simp
    simp only [List.set]
    refine hH_take (i := 6) (v := .int .i64 0) (d := 80) (l2 := #[true, true, true, true, true, true, true, false, false]) rfl (by kernel_rfl) (by kernel_rfl) (by kernel_rfl) (fun _ _ _ h => h) (by kernel_rfl) (fun w hSw => ?_) (by assumption) rfl (by kernel_rfl) ?_
    · clear hSw; go_simp
    simp only [List.set]
    refine hH_take (i := 7) (v := .bool true) (d := 14) (l2 := #[true, true, true, true, true, true, true, true, false]) rfl (by kernel_rfl) (by kernel_rfl) (by kernel_rfl) (fun _ _ _ h => h) (by kernel_rfl) (fun w hSw => ?_) (by assumption) rfl (by kernel_rfl) ?_
    · clear hSw; go_simp
    simp only [List.set]
    refine hH_take (i := 8) (v := .int .i64 0) (d := 15) (l2 := #[true, true, true, true, true, true, true, true, true]) rfl (by kernel_rfl) (by kernel_rfl) (by kernel_rfl) (fun _ _ _ h => h) (by kernel_rfl) (fun w hSw => ?_) (by assumption) rfl (by kernel_rfl) ?_
    · clear hSw; go_simp
    simp only [List.set]
    refine wpAnyH_done (by kernel_rfl) ?_ _
    go_wp2_with (fail)
    go_meet
    case rel => exact ⟨rfl, rfl, hS⟩
  case rest =>
  clear hS
  obtain ⟨rfl, rfl, hS⟩ := hcut
  go_upto_region 14 with (first | (go_at_call 10; (with_reducible first | refine (compat_5 _).mono ?_); rintro e w1 ⟨rfl, h9⟩; replace hS := ns_up hS h9))
  go_cut [19, 20, 21] from 119 to 127 (fun u v t wx => ∃ ga, u = .pointer (some ⟨ga, 0, none⟩) ∧ v = .bool true ∧ t = .int .i64 0 ∧ wx.heap[ga]? = some (.cells #[.int .u8 60, .int .u8 0, .float .f64 0, .string ⟨#[]⟩, .int .i64 0, .int .u8 7, .float .f64 0, .string ⟨#[]⟩, .int .i64 5, .int .u8 0, .float .f64 0, .string ⟨#[]⟩, .int .i64 0, .bool false, .bool true, .bool true] 33 (0, 0)) ∧ NS w gn wx)
  case first =>
    have hS := ns_drew hS
    refine wp_region_held_drew (S := NS w gn) (by kernel_rfl) hS (fun hHeld => ?_)
    refine hH_take (i := 0) (v := .agg #[.int .u8 7, .float .f64 0, .string ⟨#[]⟩, .int .i64 5]) (d := 120) (l2 := #[true, false, false, false, false, false, false, false, false, false, false, false, false]) rfl (by kernel_rfl) (by kernel_rfl) (by kernel_rfl) (fun _ _ _ h => h) (by kernel_rfl) (fun w hSw => ?_) (by assumption) rfl (by kernel_rfl) ?_
    · refine ex_vload rfl rfl hSw.1 rfl rfl rfl rfl
    simp only [List.set]
    refine hH_take (i := 1) (v := .agg #[.int .u8 4, .int .u8 0, .float .f64 0, .string ⟨#[]⟩, .int .i64 0, .int .u8 7, .float .f64 0, .string ⟨#[]⟩, .int .i64 5, .int .u8 0, .float .f64 0, .string ⟨#[]⟩, .int .i64 0, .bool false, .bool false, .bool false]) (d := 121) (l2 := #[true, true, false, false, false, false, false, false, false, false, false, false, false]) rfl (by kernel_rfl) (by kernel_rfl) (by kernel_rfl) (fun _ _ _ h => h) (by kernel_rfl) (fun w hSw => ?_) (by assumption) rfl (by kernel_rfl) ?_
    · clear hSw; go_simp
    simp only [List.set]
    refine wpAnyH_ready (rs := [2, 9]) (by kernel_rfl) (by simp) ?_
    refine AllReadyH.cons rfl (fun K hK => ?_) (AllReadyH.cons rfl (fun K hK => ?_) (AllReadyH.nil))
    · skip
      go_simp
      (go_at_call 8; (with_reducible refine (num1 _).mono ?_); rintro e w1 ⟨rfl, h9⟩; replace hS := ns_up hS h9)
      refine hK.out _ _ hS (fun hHeld => ?_)
      clear hK K
      refine wpAnyH_ready (rs := [3, 9]) (by kernel_rfl) (by simp) ?_
      refine AllReadyH.cons rfl (fun K hK => ?_) (AllReadyH.cons rfl (fun K hK => ?_) (AllReadyH.nil))
      · skip
        go_simp
        (go_at_call 12; (with_reducible refine (data1 _).mono ?_); rintro e w1 ⟨rfl, h9⟩; replace hS := ns_up hS h9)
        refine hK.out _ _ hS (fun hHeld => ?_)
        clear hK K
        refine wpAnyH_ready (rs := [4, 9]) (by kernel_rfl) (by simp) ?_
        refine AllReadyH.cons rfl (fun K hK => ?_) (AllReadyH.cons rfl (fun K hK => ?_) (AllReadyH.nil))
        · skip
          go_simp
          (go_at_call 11; (with_reducible refine (apply_1 _).mono ?_); rintro e w1 ⟨rfl, h9⟩; replace hS := ns_up hS h9)
          refine hK.out _ _ hS (fun hHeld => ?_)
          clear hK K
          refine hH_take (i := 5) (v := .tuple #[.agg #[.int .u8 60, .int .u8 0, .float .f64 0, .string ⟨#[]⟩, .int .i64 0, .int .u8 7, .float .f64 0, .string ⟨#[]⟩, .int .i64 5, .int .u8 0, .float .f64 0, .string ⟨#[]⟩, .int .i64 0, .bool false, .bool true, .bool true], .bool true, .int .i64 0]) (d := 119) (l2 := #[true, true, true, true, true, true, false, false, false, false, false, false, false]) rfl (by kernel_rfl) (by kernel_rfl) (by kernel_rfl) (fun _ _ _ h => h) (by kernel_rfl) (fun w hSw => ?_) (by assumption) rfl (by kernel_rfl) ?_
          · clear hSw; go_simp
          simp only [List.set]
          refine hH_take (i := 6) (v := .agg #[.int .u8 60, .int .u8 0, .float .f64 0, .string ⟨#[]⟩, .int .i64 0, .int .u8 7, .float .f64 0, .string ⟨#[]⟩, .int .i64 5, .int .u8 0, .float .f64 0, .string ⟨#[]⟩, .int .i64 0, .bool false, .bool true, .bool true]) (d := 125) (l2 := #[true, true, true, true, true, true, true, false, false, false, false, false, false]) rfl (by kernel_rfl) (by kernel_rfl) (by kernel_rfl) (fun _ _ _ h => h) (by kernel_rfl) (fun w hSw => ?_) (by assumption) rfl (by kernel_rfl) ?_
          · clear hSw; go_simp
          simp only [List.set]
          refine hH_take (i := 7) (v := .bool true) (d := 126) (l2 := #[true, true, true, true, true, true, true, true, false, false, false, false, false]) rfl (by kernel_rfl) (by kernel_rfl) (by kernel_rfl) (fun _ _ _ h => h) (by kernel_rfl) (fun w hSw => ?_) (by assumption) rfl (by kernel_rfl) ?_
          · clear hSw; go_simp
          simp only [List.set]
          refine hH_take (i := 8) (v := .int .i64 0) (d := 127) (l2 := #[true, true, true, true, true, true, true, true, true, false, false, false, false]) rfl (by kernel_rfl) (by kernel_rfl) (by kernel_rfl) (fun _ _ _ h => h) (by kernel_rfl) (fun w hSw => ?_) (by assumption) rfl (by kernel_rfl) ?_
          · clear hSw; go_simp
          simp only [List.set]
          refine wpAnyH_ready (rs := [9]) (by kernel_rfl) (by simp) ?_
          refine AllReadyH.cons rfl (fun K hK => ?_) (AllReadyH.nil)
          go_simp
          obtain ⟨hS2, hl1, hl2⟩ := ns_alloc (o := .cells #[.int .u8 0, .int .u8 0, .float .f64 0, .string ⟨#[]⟩, .int .i64 0, .int .u8 0, .float .f64 0, .string ⟨#[]⟩, .int .i64 0, .int .u8 0, .float .f64 0, .string ⟨#[]⟩, .int .i64 0, .bool false, .bool false, .bool false] 33) hS
          refine hK.out _ _ hS2 (fun hHeld => ?_)
          clear hK K
          have bz := ns_new (cs := #[.int .u8 0, .int .u8 0, .float .f64 0, .string ⟨#[]⟩, .int .i64 0, .int .u8 0, .float .f64 0, .string ⟨#[]⟩, .int .i64 0, .int .u8 0, .float .f64 0, .string ⟨#[]⟩, .int .i64 0, .bool false, .bool false, .bool false]) hS
          clear hS
          have hS := hS2
          clear hS2
          try simp only [hput_some, List.set]
          refine wpAnyH_ready (rs := [10]) (by kernel_rfl) (by simp) ?_
          refine AllReadyH.cons rfl (fun K hK => ?_) (AllReadyH.nil)
          refine wp_store_row 33 _ _ rfl _ _ rfl rfl _ _ bz dsz rfl (cells_one (l := [.int .u8 60, .int .u8 0, .float .f64 0, .string ⟨#[]⟩, .int .i64 0, .int .u8 7, .float .f64 0, .string ⟨#[]⟩, .int .i64 5, .int .u8 0, .float .f64 0, .string ⟨#[]⟩, .int .i64 0, .bool false, .bool true, .bool true]) rfl) ?_
          have hS2 := ns_row (cs := #[.int .u8 60, .int .u8 0, .float .f64 0, .string ⟨#[]⟩, .int .i64 0, .int .u8 7, .float .f64 0, .string ⟨#[]⟩, .int .i64 5, .int .u8 0, .float .f64 0, .string ⟨#[]⟩, .int .i64 0, .bool false, .bool true, .bool true]) hS hl1 hl2
          have bX := vset_same bz #[.int .u8 60, .int .u8 0, .float .f64 0, .string ⟨#[]⟩, .int .i64 0, .int .u8 7, .float .f64 0, .string ⟨#[]⟩, .int .i64 5, .int .u8 0, .float .f64 0, .string ⟨#[]⟩, .int .i64 0, .bool false, .bool true, .bool true]
          refine hK.out _ _ hS2 (fun hHeld => ?_)
          clear hK K
          simp only [Act.put]
          refine hH_take (i := 11) (v := .bool true) (d := 20) (l2 := #[true, true, true, true, true, true, true, true, true, true, true, true, false]) rfl (by kernel_rfl) (by kernel_rfl) (by kernel_rfl) (fun _ _ _ h => h) (by kernel_rfl) (fun w hSw => ?_) (by assumption) rfl (by kernel_rfl) ?_
          · clear hSw; go_simp
          simp only [List.set]
          refine hH_take (i := 12) (v := .int .i64 0) (d := 21) (l2 := #[true, true, true, true, true, true, true, true, true, true, true, true, true]) rfl (by kernel_rfl) (by kernel_rfl) (by kernel_rfl) (fun _ _ _ h => h) (by kernel_rfl) (fun w hSw => ?_) (by assumption) rfl (by kernel_rfl) ?_
          · clear hSw; go_simp
          simp only [List.set]
          refine wpAnyH_done (by kernel_rfl) ?_ _
          go_wp2_with (fail)
          go_meet
          case rel => exact ⟨_, rfl, rfl, rfl, bX, hS2⟩
        · skip
          go_simp
          obtain ⟨hS2, hl1, hl2⟩ := ns_alloc (o := .cells #[.int .u8 0, .int .u8 0, .float .f64 0, .string ⟨#[]⟩, .int .i64 0, .int .u8 0, .float .f64 0, .string ⟨#[]⟩, .int .i64 0, .int .u8 0, .float .f64 0, .string ⟨#[]⟩, .int .i64 0, .bool false, .bool false, .bool false] 33) hS
          refine hK.out _ _ hS2 (fun hHeld => ?_)
          clear hK K
          have bz := ns_new (cs := #[.int .u8 0, .int .u8 0, .float .f64 0, .string ⟨#[]⟩, .int .i64 0, .int .u8 0, .float .f64 0, .string ⟨#[]⟩, .int .i64 0, .int .u8 0, .float .f64 0, .string ⟨#[]⟩, .int .i64 0, .bool false, .bool false, .bool false]) hS
          clear hS
          have hS := hS2
          clear hS2
          try simp only [hput_some, List.set]
          refine wpAnyH_ready (rs := [4]) (by kernel_rfl) (by simp) ?_
          refine AllReadyH.cons rfl (fun K hK => ?_) (AllReadyH.nil)
          go_simp
          (go_at_call 11; (with_reducible refine (apply_1 _).mono ?_); rintro e w1 ⟨rfl, h9⟩; replace hS := ns_up hS h9; replace bz := vblkn h9 bz)
          refine hK.out _ _ hS (fun hHeld => ?_)
          clear hK K
          refine hH_take (i := 5) (v := .tuple #[.agg #[.int .u8 60, .int .u8 0, .float .f64 0, .string ⟨#[]⟩, .int .i64 0, .int .u8 7, .float .f64 0, .string ⟨#[]⟩, .int .i64 5, .int .u8 0, .float .f64 0, .string ⟨#[]⟩, .int .i64 0, .bool false, .bool true, .bool true], .bool true, .int .i64 0]) (d := 119) (l2 := #[true, true, true, true, true, true, false, false, false, true, false, false, false]) rfl (by kernel_rfl) (by kernel_rfl) (by kernel_rfl) (fun _ _ _ h => h) (by kernel_rfl) (fun w hSw => ?_) (by assumption) rfl (by kernel_rfl) ?_
          · clear hSw; go_simp
          simp only [List.set]
          refine hH_take (i := 6) (v := .agg #[.int .u8 60, .int .u8 0, .float .f64 0, .string ⟨#[]⟩, .int .i64 0, .int .u8 7, .float .f64 0, .string ⟨#[]⟩, .int .i64 5, .int .u8 0, .float .f64 0, .string ⟨#[]⟩, .int .i64 0, .bool false, .bool true, .bool true]) (d := 125) (l2 := #[true, true, true, true, true, true, true, false, false, true, false, false, false]) rfl (by kernel_rfl) (by kernel_rfl) (by kernel_rfl) (fun _ _ _ h => h) (by kernel_rfl) (fun w hSw => ?_) (by assumption) rfl (by kernel_rfl) ?_
          · clear hSw; go_simp
          simp only [List.set]
          refine hH_take (i := 7) (v := .bool true) (d := 126) (l2 := #[true, true, true, true, true, true, true, true, false, true, false, false, false]) rfl (by kernel_rfl) (by kernel_rfl) (by kernel_rfl) (fun _ _ _ h => h) (by kernel_rfl) (fun w hSw => ?_) (by assumption) rfl (by kernel_rfl) ?_
          · clear hSw; go_simp
          simp only [List.set]
          refine hH_take (i := 8) (v := .int .i64 0) (d := 127) (l2 := #[true, true, true, true, true, true, true, true, true, true, false, false, false]) rfl (by kernel_rfl) (by kernel_rfl) (by kernel_rfl) (fun _ _ _ h => h) (by kernel_rfl) (fun w hSw => ?_) (by assumption) rfl (by kernel_rfl) ?_
          · clear hSw; go_simp
          simp only [List.set]
          refine wpAnyH_ready (rs := [10]) (by kernel_rfl) (by simp) ?_
          refine AllReadyH.cons rfl (fun K hK => ?_) (AllReadyH.nil)
          refine wp_store_row 33 _ _ rfl _ _ rfl rfl _ _ bz dsz rfl (cells_one (l := [.int .u8 60, .int .u8 0, .float .f64 0, .string ⟨#[]⟩, .int .i64 0, .int .u8 7, .float .f64 0, .string ⟨#[]⟩, .int .i64 5, .int .u8 0, .float .f64 0, .string ⟨#[]⟩, .int .i64 0, .bool false, .bool true, .bool true]) rfl) ?_
          have hS2 := ns_row (cs := #[.int .u8 60, .int .u8 0, .float .f64 0, .string ⟨#[]⟩, .int .i64 0, .int .u8 7, .float .f64 0, .string ⟨#[]⟩, .int .i64 5, .int .u8 0, .float .f64 0, .string ⟨#[]⟩, .int .i64 0, .bool false, .bool true, .bool true]) hS hl1 hl2
          have bX := vset_same bz #[.int .u8 60, .int .u8 0, .float .f64 0, .string ⟨#[]⟩, .int .i64 0, .int .u8 7, .float .f64 0, .string ⟨#[]⟩, .int .i64 5, .int .u8 0, .float .f64 0, .string ⟨#[]⟩, .int .i64 0, .bool false, .bool true, .bool true]
          refine hK.out _ _ hS2 (fun hHeld => ?_)
          clear hK K
          simp only [Act.put]
          refine hH_take (i := 11) (v := .bool true) (d := 20) (l2 := #[true, true, true, true, true, true, true, true, true, true, true, true, false]) rfl (by kernel_rfl) (by kernel_rfl) (by kernel_rfl) (fun _ _ _ h => h) (by kernel_rfl) (fun w hSw => ?_) (by assumption) rfl (by kernel_rfl) ?_
          · clear hSw; go_simp
          simp only [List.set]
          refine hH_take (i := 12) (v := .int .i64 0) (d := 21) (l2 := #[true, true, true, true, true, true, true, true, true, true, true, true, true]) rfl (by kernel_rfl) (by kernel_rfl) (by kernel_rfl) (fun _ _ _ h => h) (by kernel_rfl) (fun w hSw => ?_) (by assumption) rfl (by kernel_rfl) ?_
          · clear hSw; go_simp
          simp only [List.set]
          refine wpAnyH_done (by kernel_rfl) ?_ _
          go_wp2_with (fail)
          go_meet
          case rel => exact ⟨_, rfl, rfl, rfl, bX, hS2⟩
      · skip
        go_simp
        obtain ⟨hS2, hl1, hl2⟩ := ns_alloc (o := .cells #[.int .u8 0, .int .u8 0, .float .f64 0, .string ⟨#[]⟩, .int .i64 0, .int .u8 0, .float .f64 0, .string ⟨#[]⟩, .int .i64 0, .int .u8 0, .float .f64 0, .string ⟨#[]⟩, .int .i64 0, .bool false, .bool false, .bool false] 33) hS
        refine hK.out _ _ hS2 (fun hHeld => ?_)
        clear hK K
        have bz := ns_new (cs := #[.int .u8 0, .int .u8 0, .float .f64 0, .string ⟨#[]⟩, .int .i64 0, .int .u8 0, .float .f64 0, .string ⟨#[]⟩, .int .i64 0, .int .u8 0, .float .f64 0, .string ⟨#[]⟩, .int .i64 0, .bool false, .bool false, .bool false]) hS
        clear hS
        have hS := hS2
        clear hS2
        try simp only [hput_some, List.set]
        refine wpAnyH_ready (rs := [3]) (by kernel_rfl) (by simp) ?_
        refine AllReadyH.cons rfl (fun K hK => ?_) (AllReadyH.nil)
        go_simp
        (go_at_call 12; (with_reducible refine (data1 _).mono ?_); rintro e w1 ⟨rfl, h9⟩; replace hS := ns_up hS h9; replace bz := vblkn h9 bz)
        refine hK.out _ _ hS (fun hHeld => ?_)
        clear hK K
        refine wpAnyH_ready (rs := [4]) (by kernel_rfl) (by simp) ?_
        refine AllReadyH.cons rfl (fun K hK => ?_) (AllReadyH.nil)
        go_simp
        (go_at_call 11; (with_reducible refine (apply_1 _).mono ?_); rintro e w1 ⟨rfl, h9⟩; replace hS := ns_up hS h9; replace bz := vblkn h9 bz)
        refine hK.out _ _ hS (fun hHeld => ?_)
        clear hK K
        refine hH_take (i := 5) (v := .tuple #[.agg #[.int .u8 60, .int .u8 0, .float .f64 0, .string ⟨#[]⟩, .int .i64 0, .int .u8 7, .float .f64 0, .string ⟨#[]⟩, .int .i64 5, .int .u8 0, .float .f64 0, .string ⟨#[]⟩, .int .i64 0, .bool false, .bool true, .bool true], .bool true, .int .i64 0]) (d := 119) (l2 := #[true, true, true, true, true, true, false, false, false, true, false, false, false]) rfl (by kernel_rfl) (by kernel_rfl) (by kernel_rfl) (fun _ _ _ h => h) (by kernel_rfl) (fun w hSw => ?_) (by assumption) rfl (by kernel_rfl) ?_
        · clear hSw; go_simp
        simp only [List.set]
        refine hH_take (i := 6) (v := .agg #[.int .u8 60, .int .u8 0, .float .f64 0, .string ⟨#[]⟩, .int .i64 0, .int .u8 7, .float .f64 0, .string ⟨#[]⟩, .int .i64 5, .int .u8 0, .float .f64 0, .string ⟨#[]⟩, .int .i64 0, .bool false, .bool true, .bool true]) (d := 125) (l2 := #[true, true, true, true, true, true, true, false, false, true, false, false, false]) rfl (by kernel_rfl) (by kernel_rfl) (by kernel_rfl) (fun _ _ _ h => h) (by kernel_rfl) (fun w hSw => ?_) (by assumption) rfl (by kernel_rfl) ?_
        · clear hSw; go_simp
        simp only [List.set]
        refine hH_take (i := 7) (v := .bool true) (d := 126) (l2 := #[true, true, true, true, true, true, true, true, false, true, false, false, false]) rfl (by kernel_rfl) (by kernel_rfl) (by kernel_rfl) (fun _ _ _ h => h) (by kernel_rfl) (fun w hSw => ?_) (by assumption) rfl (by kernel_rfl) ?_
        · clear hSw; go_simp
        simp only [List.set]
        refine hH_take (i := 8) (v := .int .i64 0) (d := 127) (l2 := #[true, true, true, true, true, true, true, true, true, true, false, false, false]) rfl (by kernel_rfl) (by kernel_rfl) (by kernel_rfl) (fun _ _ _ h => h) (by kernel_rfl) (fun w hSw => ?_) (by assumption) rfl (by kernel_rfl) ?_
        · clear hSw; go_simp
        simp only [List.set]
        refine wpAnyH_ready (rs := [10]) (by kernel_rfl) (by simp) ?_
        refine AllReadyH.cons rfl (fun K hK => ?_) (AllReadyH.nil)
        refine wp_store_row 33 _ _ rfl _ _ rfl rfl _ _ bz dsz rfl (cells_one (l := [.int .u8 60, .int .u8 0, .float .f64 0, .string ⟨#[]⟩, .int .i64 0, .int .u8 7, .float .f64 0, .string ⟨#[]⟩, .int .i64 5, .int .u8 0, .float .f64 0, .string ⟨#[]⟩, .int .i64 0, .bool false, .bool true, .bool true]) rfl) ?_
        have hS2 := ns_row (cs := #[.int .u8 60, .int .u8 0, .float .f64 0, .string ⟨#[]⟩, .int .i64 0, .int .u8 7, .float .f64 0, .string ⟨#[]⟩, .int .i64 5, .int .u8 0, .float .f64 0, .string ⟨#[]⟩, .int .i64 0, .bool false, .bool true, .bool true]) hS hl1 hl2
        have bX := vset_same bz #[.int .u8 60, .int .u8 0, .float .f64 0, .string ⟨#[]⟩, .int .i64 0, .int .u8 7, .float .f64 0, .string ⟨#[]⟩, .int .i64 5, .int .u8 0, .float .f64 0, .string ⟨#[]⟩, .int .i64 0, .bool false, .bool true, .bool true]
        refine hK.out _ _ hS2 (fun hHeld => ?_)
        clear hK K
        simp only [Act.put]
        refine hH_take (i := 11) (v := .bool true) (d := 20) (l2 := #[true, true, true, true, true, true, true, true, true, true, true, true, false]) rfl (by kernel_rfl) (by kernel_rfl) (by kernel_rfl) (fun _ _ _ h => h) (by kernel_rfl) (fun w hSw => ?_) (by assumption) rfl (by kernel_rfl) ?_
        · clear hSw; go_simp
        simp only [List.set]
        refine hH_take (i := 12) (v := .int .i64 0) (d := 21) (l2 := #[true, true, true, true, true, true, true, true, true, true, true, true, true]) rfl (by kernel_rfl) (by kernel_rfl) (by kernel_rfl) (fun _ _ _ h => h) (by kernel_rfl) (fun w hSw => ?_) (by assumption) rfl (by kernel_rfl) ?_
        · clear hSw; go_simp
        simp only [List.set]
        refine wpAnyH_done (by kernel_rfl) ?_ _
        go_wp2_with (fail)
        go_meet
        case rel => exact ⟨_, rfl, rfl, rfl, bX, hS2⟩
    · skip
      go_simp
      obtain ⟨hS2, hl1, hl2⟩ := ns_alloc (o := .cells #[.int .u8 0, .int .u8 0, .float .f64 0, .string ⟨#[]⟩, .int .i64 0, .int .u8 0, .float .f64 0, .string ⟨#[]⟩, .int .i64 0, .int .u8 0, .float .f64 0, .string ⟨#[]⟩, .int .i64 0, .bool false, .bool false, .bool false] 33) hS
      refine hK.out _ _ hS2 (fun hHeld => ?_)
      clear hK K
      have bz := ns_new (cs := #[.int .u8 0, .int .u8 0, .float .f64 0, .string ⟨#[]⟩, .int .i64 0, .int .u8 0, .float .f64 0, .string ⟨#[]⟩, .int .i64 0, .int .u8 0, .float .f64 0, .string ⟨#[]⟩, .int .i64 0, .bool false, .bool false, .bool false]) hS
      clear hS
      have hS := hS2
      clear hS2
      try simp only [hput_some, List.set]
      refine wpAnyH_ready (rs := [2]) (by kernel_rfl) (by simp) ?_
      refine AllReadyH.cons rfl (fun K hK => ?_) (AllReadyH.nil)
      go_simp
      (go_at_call 8; (with_reducible refine (num1 _).mono ?_); rintro e w1 ⟨rfl, h9⟩; replace hS := ns_up hS h9; replace bz := vblkn h9 bz)
      refine hK.out _ _ hS (fun hHeld => ?_)
      clear hK K
      refine wpAnyH_ready (rs := [3]) (by kernel_rfl) (by simp) ?_
      refine AllReadyH.cons rfl (fun K hK => ?_) (AllReadyH.nil)
      go_simp
      (go_at_call 12; (with_reducible refine (data1 _).mono ?_); rintro e w1 ⟨rfl, h9⟩; replace hS := ns_up hS h9; replace bz := vblkn h9 bz)
      refine hK.out _ _ hS (fun hHeld => ?_)
      clear hK K
      refine wpAnyH_ready (rs := [4]) (by kernel_rfl) (by simp) ?_
      refine AllReadyH.cons rfl (fun K hK => ?_) (AllReadyH.nil)
      go_simp
      (go_at_call 11; (with_reducible refine (apply_1 _).mono ?_); rintro e w1 ⟨rfl, h9⟩; replace hS := ns_up hS h9; replace bz := vblkn h9 bz)
      refine hK.out _ _ hS (fun hHeld => ?_)
      clear hK K
      refine hH_take (i := 5) (v := .tuple #[.agg #[.int .u8 60, .int .u8 0, .float .f64 0, .string ⟨#[]⟩, .int .i64 0, .int .u8 7, .float .f64 0, .string ⟨#[]⟩, .int .i64 5, .int .u8 0, .float .f64 0, .string ⟨#[]⟩, .int .i64 0, .bool false, .bool true, .bool true], .bool true, .int .i64 0]) (d := 119) (l2 := #[true, true, true, true, true, true, false, false, false, true, false, false, false]) rfl (by kernel_rfl) (by kernel_rfl) (by kernel_rfl) (fun _ _ _ h => h) (by kernel_rfl) (fun w hSw => ?_) (by assumption) rfl (by kernel_rfl) ?_
      · clear hSw; go_simp
      simp only [List.set]
      refine hH_take (i := 6) (v := .agg #[.int .u8 60, .int .u8 0, .float .f64 0, .string ⟨#[]⟩, .int .i64 0, .int .u8 7, .float .f64 0, .string ⟨#[]⟩, .int .i64 5, .int .u8 0, .float .f64 0, .string ⟨#[]⟩, .int .i64 0, .bool false, .bool true, .bool true]) (d := 125) (l2 := #[true, true, true, true, true, true, true, false, false, true, false, false, false]) rfl (by kernel_rfl) (by kernel_rfl) (by kernel_rfl) (fun _ _ _ h => h) (by kernel_rfl) (fun w hSw => ?_) (by assumption) rfl (by kernel_rfl) ?_
      · clear hSw; go_simp
      simp only [List.set]
      refine hH_take (i := 7) (v := .bool true) (d := 126) (l2 := #[true, true, true, true, true, true, true, true, false, true, false, false, false]) rfl (by kernel_rfl) (by kernel_rfl) (by kernel_rfl) (fun _ _ _ h => h) (by kernel_rfl) (fun w hSw => ?_) (by assumption) rfl (by kernel_rfl) ?_
      · clear hSw; go_simp
      simp only [List.set]
      refine hH_take (i := 8) (v := .int .i64 0) (d := 127) (l2 := #[true, true, true, true, true, true, true, true, true, true, false, false, false]) rfl (by kernel_rfl) (by kernel_rfl) (by kernel_rfl) (fun _ _ _ h => h) (by kernel_rfl) (fun w hSw => ?_) (by assumption) rfl (by kernel_rfl) ?_
      · clear hSw; go_simp
      simp only [List.set]
      refine wpAnyH_ready (rs := [10]) (by kernel_rfl) (by simp) ?_
      refine AllReadyH.cons rfl (fun K hK => ?_) (AllReadyH.nil)
      refine wp_store_row 33 _ _ rfl _ _ rfl rfl _ _ bz dsz rfl (cells_one (l := [.int .u8 60, .int .u8 0, .float .f64 0, .string ⟨#[]⟩, .int .i64 0, .int .u8 7, .float .f64 0, .string ⟨#[]⟩, .int .i64 5, .int .u8 0, .float .f64 0, .string ⟨#[]⟩, .int .i64 0, .bool false, .bool true, .bool true]) rfl) ?_
      have hS2 := ns_row (cs := #[.int .u8 60, .int .u8 0, .float .f64 0, .string ⟨#[]⟩, .int .i64 0, .int .u8 7, .float .f64 0, .string ⟨#[]⟩, .int .i64 5, .int .u8 0, .float .f64 0, .string ⟨#[]⟩, .int .i64 0, .bool false, .bool true, .bool true]) hS hl1 hl2
      have bX := vset_same bz #[.int .u8 60, .int .u8 0, .float .f64 0, .string ⟨#[]⟩, .int .i64 0, .int .u8 7, .float .f64 0, .string ⟨#[]⟩, .int .i64 5, .int .u8 0, .float .f64 0, .string ⟨#[]⟩, .int .i64 0, .bool false, .bool true, .bool true]
      refine hK.out _ _ hS2 (fun hHeld => ?_)
      clear hK K
      simp only [Act.put]
      refine hH_take (i := 11) (v := .bool true) (d := 20) (l2 := #[true, true, true, true, true, true, true, true, true, true, true, true, false]) rfl (by kernel_rfl) (by kernel_rfl) (by kernel_rfl) (fun _ _ _ h => h) (by kernel_rfl) (fun w hSw => ?_) (by assumption) rfl (by kernel_rfl) ?_
      · clear hSw; go_simp
      simp only [List.set]
      refine hH_take (i := 12) (v := .int .i64 0) (d := 21) (l2 := #[true, true, true, true, true, true, true, true, true, true, true, true, true]) rfl (by kernel_rfl) (by kernel_rfl) (by kernel_rfl) (fun _ _ _ h => h) (by kernel_rfl) (fun w hSw => ?_) (by assumption) rfl (by kernel_rfl) ?_
      · clear hSw; go_simp
      simp only [List.set]
      refine wpAnyH_done (by kernel_rfl) ?_ _
      go_wp2_with (fail)
      go_meet
      case rel => exact ⟨_, rfl, rfl, rfl, bX, hS2⟩
  case rest =>
  clear hS
  obtain ⟨ga, rfl, rfl, rfl, bX, hS⟩ := hcut
  have b0 := hS.1
  go_upto_region 16 with (first | ((with_reducible refine d_load ?_ rfl rfl bX ?_); (rfl)) | ((with_reducible refine v_load ?_ rfl rfl b0 rfl rfl rfl rfl ?_); (rfl)) | (go_at_call 13; (with_reducible first | refine (same_1 _).mono ?_); rintro e w1 ⟨rfl, h9⟩; replace hS := ns_up hS h9))
  clear b0 bX
  go_upto_region 17 with (first | (go_at_call 8; (with_reducible first | refine (num1 _).mono ?_); rintro e w1 ⟨rfl, h9⟩; replace hS := ns_up hS h9) | (go_at_call 12; (with_reducible first | refine (data1 _).mono ?_); rintro e w1 ⟨rfl, h9⟩; replace hS := ns_up hS h9) | (go_at_call 14; (with_reducible first | refine (text_51 _ (ns_tab hS HT.out)).mono ?_ | refine (text_0 _ (ns_tab hS HT.out)).mono ?_); rintro e w1 ⟨rfl, h9⟩; replace hS := ns_up hS h9))
  go_wp2_with (first | (go_at_call 15; (with_reducible first | refine (descalive_any _).mono ?_); rintro e w1 ⟨rfl, h9⟩; replace hS := ns_up hS h9))
  go_ret
  exact ⟨rfl, hS.2.2⟩
end Go.Proofs.YtlgbnfcnimjheaaDoor.S
