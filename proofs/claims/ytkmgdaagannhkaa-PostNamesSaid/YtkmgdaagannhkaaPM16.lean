/-
  PostNames: the walk. Generated: gen_post27.py.
-/
import Derived.Test.YtkmgdaagannhkaaPM15
import Derived.Test.YtkmgdaagannhkaaRows
import Derived.ProofKit
import Derived.OpenShut
import Derived.ShutString
import Derived.ChangeOld
import Derived.Below
import Derived.Carry
namespace Go.Proofs.Ytkmgdaagannhkaa.S
open Go.RowKit Go.Lib Fl
open Classical

theorem nl_sz : (Try.prog.info? 24).map (·.size) = some (nlL.toArray).size := by kernel_rfl
theorem nl_one : (nlL.toArray).all (·.oneCell') = true := cells_one (l := nlL) rfl
structure Nz (w : World) (g1 g2 g3 g : Nat) (X : Oq) (W : World) : Prop where
  n : Nx w g1 g2 g3 W
  o : W.heap[g]? = some (.cells (oql X).toArray 33 (0, 0))
theorem Nz.up {w W W' : World} {g1 g2 g3 g : Nat} {X : Oq} (h : Nz w g1 g2 g3 g X W) (hb : Below W.heap.size W W') : Nz w g1 g2 g3 g X W' := ⟨h.n.up hb, vblkn hb h.o⟩
theorem ks_slice {ops : Array Oper} {rest : List Oper} {o : Oper} {a : Act} {w : World} {Q : Exit → Act → World → Prop} {x y : Operand} {s s2 : ByteArray} (hgd : o.guard = none) (ho : o.op = .buildSlice 31 2 #[(0, x), (1, y)]) (hx : a.eval x = .agg #[.string s, .int .i64 0]) (hy : a.eval y = .agg #[.string s2, .int .i64 0])
    (h : wpList Try.prog ops Q rest (a.put o.dst (.slice (some ⟨w.heap.size, 0, none⟩) 2 2)) (w.alloc (.cells (kkL ⟨s, 0⟩ ⟨s2, 0⟩).toArray 29))) : wpList Try.prog ops Q (o :: rest) a w := by
  refine wpList_plain hgd fun _ hK => ?_
  unfold Oper.wp
  rw [ks_eb ho hx hy]
  exact hK _ _ h
theorem meth_10 (w : World) : Calls Try.prog 13 #[.string (⟨#[100, 101, 108, 101, 116, 101, 80, 114, 111, 112, 101, 114, 116, 121]⟩ : ByteArray)] w fun e w' => e = .returned (.tuple #[.int .u8 10, .bool true]) ∧ Below w.heap.size w w' := by
  have h := pMethod (⟨#[100, 101, 108, 101, 116, 101, 80, 114, 111, 112, 101, 114, 116, 121]⟩ : ByteArray) w
  rw [show methR (⟨#[100, 101, 108, 101, 116, 101, 80, 114, 111, 112, 101, 114, 116, 121]⟩ : ByteArray) 13 1 = (10, true) by kernel_rfl] at h
  exact h
theorem name_12 (w : World) : Calls Try.prog 15 #[.int .u8 12] w fun e w' => e = .returned (.string (⟨#[97, 112, 112, 108, 121]⟩ : ByteArray)) ∧ Below w.heap.size w w' := pName 12 (by decide) w
theorem name_0 (w : World) : Calls Try.prog 15 #[.int .u8 0] w fun e w' => e = .returned (.string ⟨#[]⟩) ∧ Below w.heap.size w w' := pName 0 (by decide) w
set_option maxHeartbeats 16000000 in
set_option maxRecDepth 1000000 in
theorem PostNames_walk (w : World) : Calls Try.prog 3 #[] w fun e w' => e = .returned (.bool true) ∧ Below w.heap.size w w' := by
  have hds := dc_size fxD
  have hdo := dc_one fxD
  go_enter Try.func3, Try.ntmps3
  go_upto_region 3 with (first
    | ((refine w_val ?_ (nl_ea rfl) ?_); (rfl))
    | ((with_reducible refine t_store (cs := nlL.toArray) rfl rfl rfl rfl (heap_alloc_new w _) nl_sz ?_ nl_one (vzero w _) (Nat.le_refl _) ?_); (rfl); intro W1 hb1 hW1 _ _; have H1 := Lib.hid (And.intro hb1 hW1); clear hb1 hW1)
    | (go_at_call 6; (with_reducible refine (Num_v _ _).mono ?_); rintro e w2 ⟨rfl, h9⟩; have H2 := Lib.hid (show Below w.heap.size w w2 ∧ w2.heap[w.heap.size]? = some (.cells nlL.toArray 24 (0, 0)) from ⟨vb H1.out.1 h9, vblkn h9 H1.out.2⟩); clear h9)
    | ((refine w_val ?_ (fx_ea rfl rfl) ?_); (rfl))
    | ((with_reducible refine t_store (cs := fxD.cells) rfl rfl rfl rfl (heap_alloc_new w2 _) hds ?_ hdo (vzero w2 _) (Nat.le_refl _) ?_); (rfl); intro W3 hb3 hW3 _ _; have H3 := Lib.hid (show Below w.heap.size w W3 ∧ W3.heap[w.heap.size]? = some (.cells nlL.toArray 24 (0, 0)) ∧ W3.heap[w2.heap.size]? = some (.cells fxD.cells 27 (0, 0)) from ⟨vb H2.out.1 hb3, vblkn hb3 H2.out.2, hW3⟩); clear hb3 hW3)
    | (fail))
  (try dsimp only [Act.put])
  clear hds hdo
  go_cut [3] from 22 (fun s3 wx => ∃ g3, s3 = .slice (some ⟨g3, 0, none⟩) 2 2 ∧ Hid (Nx w w.heap.size w2.heap.size g3 wx))
  case first =>
    have HK := H3
    go_wp2_with (first
      | (go_at_call 7; (with_reducible refine (keyOf_k _ _).mono ?_); rintro e w4 ⟨rfl, h9⟩; have HK := Lib.hid (show Below w.heap.size w w4 ∧ w4.heap[w.heap.size]? = some (.cells nlL.toArray 24 (0, 0)) ∧ w4.heap[w2.heap.size]? = some (.cells fxD.cells 27 (0, 0)) from ⟨vb HK.out.1 h9, vblkn h9 HK.out.2.1, vblkn h9 HK.out.2.2⟩); clear h9)
      | ((with_reducible refine ks_slice (s := ⟨#[97]⟩) (s2 := ⟨#[98]⟩) rfl rfl rfl rfl ?_); have HL := Lib.hid (show Nx w w.heap.size w2.heap.size w4.heap.size (w4.alloc (.cells (kkL kA kB).toArray 29)) from ⟨vb HK.out.1 (vzero _ _), vblkn (vzero _ _) HK.out.2.1, vblkn (vzero _ _) HK.out.2.2, rk_two (heap_alloc_new _ _)⟩); obtain ⟨w5, hw5⟩ : ∃ w5, w5 = w4.alloc (.cells (kkL kA kB).toArray 29) := ⟨_, rfl⟩; rw [← hw5] at HL; (try rw [show w4.alloc (.cells (kkL ⟨⟨#[97]⟩, 0⟩ ⟨⟨#[98]⟩, 0⟩).toArray 29) = w5 from hw5.symm]); clear hw5)
      | (fail))
    go_meet
    case rel => exact ⟨_, rfl, HL⟩
  case rest =>
    obtain ⟨g3, rfl, HZ⟩ := hcut
    clear H1 H2 H3
    obtain ⟨g1, hg1⟩ : ∃ g1, g1 = w.heap.size := ⟨_, rfl⟩
    obtain ⟨g2, hg2⟩ : ∃ g2, g2 = w2.heap.size := ⟨_, rfl⟩
    replace HZ : Hid (Nx w g1 g2 g3 wc) := by rw [hg1, hg2]; exact HZ
    (try rw [← hg1])
    (try rw [← hg2])
    have HG12 := Lib.hid (And.intro hg1 hg2)
    clear hg1 hg2
    go_upto_region 4 with (fail)
    (try dsimp only [Act.put])
    go_cut [4, 5, 6] from 22 (fun s4 s5 s6 wx => ∃ g, s4 = .pointer (some ⟨g, 0, none⟩) ∧ s5 = .bool true ∧ s6 = .int .i64 0 ∧ Hid (Nx w g1 g2 g3 wx))
    case first => as_aux_lemma =>
      have HD := Lib.hid (HZ.out.up (Below.refl _ _).drew)
      have hS : Below (World.drew wc).heap.size (World.drew wc) (World.drew wc) := Below.refl _ _
      refine wp_region_held_drew (S := fun V : World => Below (World.drew wc).heap.size (World.drew wc) V) (by kernel_rfl) hS (fun hHeld => ?_)
      clear HZ
      generalize World.drew wc = W0 at *
      have HN : Hid (∀ V : World, Below W0.heap.size W0 V → Nx w g1 g2 g3 V) := Lib.hid fun V h => HD.out.up h
      refine hT 1 30 (.agg nlL.toArray) rfl rfl (fun w hSw => ?_) ?_
      · exact ex_load_at (sub_run (cs := nlL) (all := nlL) (HN.out _ hSw).v rfl Try.underlying24 rfl vsz) rfl rfl
      simp only [List.set]
      refine hT 2 31 (.agg (oqA (valO nlV))) rfl rfl (fun w hSw => ?_) ?_
      · exact val_ea2 (v := nlV) rfl rfl
      simp only [List.set]
      refine hT 3 32 (.agg nlL.toArray) rfl rfl (fun w hSw => ?_) ?_
      · exact ex_load_at (sub_run (cs := nlL) (all := nlL) (HN.out _ hSw).v rfl Try.underlying24 rfl vsz) rfl rfl
      simp only [List.set]
      refine hT 4 33 (.agg (fqA fc1)) rfl rfl (fun w hSw => ?_) ?_
      · exact f1_ea rfl rfl
      simp only [List.set]
      refine aH2 0 10 rfl rfl (fun J hJ => ?_) (fun J hJ => ?_)
      ·go_simp
       go_at_call 9
       (with_reducible refine (ask_p 1 _).mono ?_)
       rintro e _ ⟨rfl, h9⟩
       have hS := vb hS h9; clear h9
       refine hJ.out _ _ hS (fun _ => ?_); clear hJ J
       refine aH2 5 10 rfl rfl (fun J hJ => ?_) (fun J hJ => ?_)
       ·go_simp
        go_at_call 8
        (with_reducible refine (pn_1 _).mono ?_)
        rintro e _ ⟨rfl, h9⟩
        have hS := vb hS h9; clear h9
        refine hJ.out _ _ hS (fun _ => ?_); clear hJ J
        refine hT 6 28 (.tuple #[.agg (oqA (valO nlV)), .bool true, .int .i64 0]) rfl rfl (fun w hSw => ?_) ?_
        · go_simp; (try with_reducible rfl)
        simp only [List.set]
        refine hT 7 35 (.agg (oqA (valO nlV))) rfl rfl (fun w hSw => ?_) ?_
        · go_simp; (try with_reducible rfl)
        simp only [List.set]
        refine hT 8 36 (.bool true) rfl rfl (fun w hSw => ?_) ?_
        · go_simp; (try with_reducible rfl)
        simp only [List.set]
        refine hT 9 37 (.int .i64 0) rfl rfl (fun w hSw => ?_) ?_
        · go_simp; (try with_reducible rfl)
        simp only [List.set]
        refine aH1 10 rfl (fun J hJ => ?_)
        ·refine aNew (en_o26 rfl) rfl hS (Nat.le_refl _) hJ fun _ g hS hm hx h9 => ?_
         ( clear h9 hJ J); simp only [List.set]
         refine aH1 11 rfl (fun J hJ => ?_)
         ·refine aPut rfl rfl rfl hx (oq_info (valO nlV)) rfl (oqA_one (valO nlV)) rfl hS hm hJ fun _ hS hx _ => ?_
          clear hJ J
          refine hT 12 5 (.bool true) rfl rfl (fun w hSw => ?_) ?_
          · go_simp; (try with_reducible rfl)
          simp only [List.set]
          refine hT 13 6 (.int .i64 0) rfl rfl (fun w hSw => ?_) ?_
          · go_simp; (try with_reducible rfl)
          simp only [List.set]
          refine wpAnyH_done (by kernel_rfl) ?_ _
          go_wp2_with (fail)
          go_meet
          case rel => exact ⟨g, rfl, rfl, rfl, Lib.hid (HN.out _ hS)⟩
       ·refine aNew (en_o26 rfl) rfl hS (Nat.le_refl _) hJ fun _ g hS hm hx h9 => ?_
        ( clear h9 hJ J); simp only [List.set]
        refine aH1 5 rfl (fun J hJ => ?_)
        ·go_simp
         go_at_call 8
         (with_reducible refine (pn_1 _).mono ?_)
         rintro e _ ⟨rfl, h9⟩
         have hS := vb hS h9; have hx := vblkn h9 hx; clear h9
         refine hJ.out _ _ hS (fun _ => ?_); clear hJ J
         refine hT 6 28 (.tuple #[.agg (oqA (valO nlV)), .bool true, .int .i64 0]) rfl rfl (fun w hSw => ?_) ?_
         · go_simp; (try with_reducible rfl)
         simp only [List.set]
         refine hT 7 35 (.agg (oqA (valO nlV))) rfl rfl (fun w hSw => ?_) ?_
         · go_simp; (try with_reducible rfl)
         simp only [List.set]
         refine hT 8 36 (.bool true) rfl rfl (fun w hSw => ?_) ?_
         · go_simp; (try with_reducible rfl)
         simp only [List.set]
         refine hT 9 37 (.int .i64 0) rfl rfl (fun w hSw => ?_) ?_
         · go_simp; (try with_reducible rfl)
         simp only [List.set]
         refine aH1 11 rfl (fun J hJ => ?_)
         ·refine aPut rfl rfl rfl hx (oq_info (valO nlV)) rfl (oqA_one (valO nlV)) rfl hS hm hJ fun _ hS hx _ => ?_
          clear hJ J
          refine hT 12 5 (.bool true) rfl rfl (fun w hSw => ?_) ?_
          · go_simp; (try with_reducible rfl)
          simp only [List.set]
          refine hT 13 6 (.int .i64 0) rfl rfl (fun w hSw => ?_) ?_
          · go_simp; (try with_reducible rfl)
          simp only [List.set]
          refine wpAnyH_done (by kernel_rfl) ?_ _
          go_wp2_with (fail)
          go_meet
          case rel => exact ⟨g, rfl, rfl, rfl, Lib.hid (HN.out _ hS)⟩
      ·refine aNew (en_o26 rfl) rfl hS (Nat.le_refl _) hJ fun _ g hS hm hx h9 => ?_
       ( clear h9 hJ J); simp only [List.set]
       refine aH1 0 rfl (fun J hJ => ?_)
       ·go_simp
        go_at_call 9
        (with_reducible refine (ask_p 1 _).mono ?_)
        rintro e _ ⟨rfl, h9⟩
        have hS := vb hS h9; have hx := vblkn h9 hx; clear h9
        refine hJ.out _ _ hS (fun _ => ?_); clear hJ J
        refine aH1 5 rfl (fun J hJ => ?_)
        ·go_simp
         go_at_call 8
         (with_reducible refine (pn_1 _).mono ?_)
         rintro e _ ⟨rfl, h9⟩
         have hS := vb hS h9; have hx := vblkn h9 hx; clear h9
         refine hJ.out _ _ hS (fun _ => ?_); clear hJ J
         refine hT 6 28 (.tuple #[.agg (oqA (valO nlV)), .bool true, .int .i64 0]) rfl rfl (fun w hSw => ?_) ?_
         · go_simp; (try with_reducible rfl)
         simp only [List.set]
         refine hT 7 35 (.agg (oqA (valO nlV))) rfl rfl (fun w hSw => ?_) ?_
         · go_simp; (try with_reducible rfl)
         simp only [List.set]
         refine hT 8 36 (.bool true) rfl rfl (fun w hSw => ?_) ?_
         · go_simp; (try with_reducible rfl)
         simp only [List.set]
         refine hT 9 37 (.int .i64 0) rfl rfl (fun w hSw => ?_) ?_
         · go_simp; (try with_reducible rfl)
         simp only [List.set]
         refine aH1 11 rfl (fun J hJ => ?_)
         ·refine aPut rfl rfl rfl hx (oq_info (valO nlV)) rfl (oqA_one (valO nlV)) rfl hS hm hJ fun _ hS hx _ => ?_
          clear hJ J
          refine hT 12 5 (.bool true) rfl rfl (fun w hSw => ?_) ?_
          · go_simp; (try with_reducible rfl)
          simp only [List.set]
          refine hT 13 6 (.int .i64 0) rfl rfl (fun w hSw => ?_) ?_
          · go_simp; (try with_reducible rfl)
          simp only [List.set]
          refine wpAnyH_done (by kernel_rfl) ?_ _
          go_wp2_with (fail)
          go_meet
          case rel => exact ⟨g, rfl, rfl, rfl, Lib.hid (HN.out _ hS)⟩
    case rest =>
      obtain ⟨g4, rfl, rfl, rfl, HZ⟩ := hcut
      go_upto_region 5 with (fail)
      (try dsimp only [Act.put])
      go_cut [7] from 22 (fun s7 wx => s7 = .bool true ∧ Hid (Nx w g1 g2 g3 wx))
      case first => as_aux_lemma =>
        have HD := Lib.hid (HZ.out.up (Below.refl _ _).drew)
        have hS : Below (World.drew wc).heap.size (World.drew wc) (World.drew wc) := Below.refl _ _
        refine wp_region_held_drew (S := fun V : World => Below (World.drew wc).heap.size (World.drew wc) V) (by kernel_rfl) hS (fun hHeld => ?_)
        clear HZ
        generalize World.drew wc = W0 at *
        have HN : Hid (∀ V : World, Below W0.heap.size W0 V → Nx w g1 g2 g3 V) := Lib.hid fun V h => HD.out.up h
        refine hT 0 38 (.bool true) rfl rfl (fun w hSw => ?_) ?_
        · go_simp; (try with_reducible rfl)
        simp only [List.set]
        refine hT 1 39 (.bool true) rfl rfl (fun w hSw => ?_) ?_
        · go_simp; (try with_reducible rfl)
        simp only [List.set]
        refine hT 2 40 (.int .i64 0) rfl rfl (fun w hSw => ?_) ?_
        · go_simp; (try with_reducible rfl)
        simp only [List.set]
        refine hT 3 41 (.bool true) rfl rfl (fun w hSw => ?_) ?_
        · go_simp; (try with_reducible rfl)
        simp only [List.set]
        refine hT 4 42 (.bool true) rfl rfl (fun w hSw => ?_) ?_
        · go_simp; (try with_reducible rfl)
        simp only [List.set]
        refine hT 5 43 (.bool true) rfl rfl (fun w hSw => ?_) ?_
        · go_simp; (try with_reducible rfl)
        simp only [List.set]
        refine hT 7 45 (.agg nlL.toArray) rfl rfl (fun w hSw => ?_) ?_
        · exact ex_load_at (sub_run (cs := nlL) (all := nlL) (HN.out _ hSw).v rfl Try.underlying24 rfl vsz) rfl rfl
        simp only [List.set]
        refine hT 8 46 (.agg (oqA (valO nlV))) rfl rfl (fun w hSw => ?_) ?_
        · exact val_ea2 (v := nlV) rfl rfl
        simp only [List.set]
        refine hT 9 47 (.agg #[.int .u8 thV.k, .float .f64 thV.x, .string thV.s, .int .i64 thV.r]) rfl rfl (fun w hSw => ?_) ?_
        · exact th_ea rfl
        simp only [List.set]
        refine hT 10 48 (.agg (fqA fc2)) rfl rfl (fun w hSw => ?_) ?_
        · exact f2_ea rfl rfl
        simp only [List.set]
        refine aH1 6 rfl (fun J hJ => ?_)
        ·go_simp
         go_at_call 9
         (with_reducible refine (ask_p 1 _).mono ?_)
         rintro e _ ⟨rfl, h9⟩
         have hS := vb hS h9; clear h9
         refine hJ.out _ _ hS (fun _ => ?_); clear hJ J
         refine aH1 11 rfl (fun J hJ => ?_)
         ·go_simp
          go_at_call 10
          (with_reducible refine (pn_2 _).mono ?_)
          rintro e _ ⟨rfl, h9⟩
          have hS := vb hS h9; clear h9
          refine hJ.out _ _ hS (fun _ => ?_); clear hJ J
          refine hT 12 50 (.bool true) rfl rfl (fun w hSw => ?_) ?_
          · go_simp; (try with_reducible rfl)
          simp only [List.set]
          refine hT 13 7 (.bool true) rfl rfl (fun w hSw => ?_) ?_
          · go_simp; (try with_reducible rfl)
          simp only [List.set]
          refine wpAnyH_done (by kernel_rfl) ?_ _
          go_wp2_with (fail)
          go_meet
          case rel => exact ⟨rfl, Lib.hid (HN.out _ hS)⟩
      case rest =>
        obtain ⟨rfl, HZ⟩ := hcut
        go_upto_region 6 with (fail)
        (try dsimp only [Act.put])
        go_cut [8] from 22 (fun s8 wx => s8 = .bool true ∧ Hid (Nx w g1 g2 g3 wx))
        case first => as_aux_lemma =>
          have HD := Lib.hid (HZ.out.up (Below.refl _ _).drew)
          have hS : Below (World.drew wc).heap.size (World.drew wc) (World.drew wc) := Below.refl _ _
          refine wp_region_held_drew (S := fun V : World => Below (World.drew wc).heap.size (World.drew wc) V) (by kernel_rfl) hS (fun hHeld => ?_)
          clear HZ
          generalize World.drew wc = W0 at *
          have HN : Hid (∀ V : World, Below W0.heap.size W0 V → Nx w g1 g2 g3 V) := Lib.hid fun V h => HD.out.up h
          refine hT 1 52 (.agg (oqA (yesO false))) rfl rfl (fun w hSw => ?_) ?_
          · exact y0_ea rfl
          simp only [List.set]
          refine hT 2 53 (.agg fxD.cells) rfl rfl (fun w hSw => ?_) ?_
          · exact ex_load_at (sub_run (cs := fxD.cells.toList) (all := fxD.cells.toList) (HN.out _ hSw).d rfl Try.underlying27 rfl dsz) rfl rfl
          simp only [List.set]
          refine hT 3 54 (.agg (fqA fc3)) rfl rfl (fun w hSw => ?_) ?_
          · exact f3_ea rfl rfl
          simp only [List.set]
          refine aH1 0 rfl (fun J hJ => ?_)
          ·go_simp
           go_at_call 9
           (with_reducible refine (ask_p 5 _).mono ?_)
           rintro e _ ⟨rfl, h9⟩
           have hS := vb hS h9; clear h9
           refine hJ.out _ _ hS (fun _ => ?_); clear hJ J
           refine aH1 4 rfl (fun J hJ => ?_)
           ·go_simp
            go_at_call 10
            (with_reducible refine (pn_3 _).mono ?_)
            rintro e _ ⟨rfl, h9⟩
            have hS := vb hS h9; clear h9
            refine hJ.out _ _ hS (fun _ => ?_); clear hJ J
            refine hT 5 56 (.bool true) rfl rfl (fun w hSw => ?_) ?_
            · go_simp; (try with_reducible rfl)
            simp only [List.set]
            refine hT 10 61 (.agg (fqA (fz true))) rfl rfl (fun w hSw => ?_) ?_
            · exact fzt_ea rfl
            simp only [List.set]
            refine aH1 6 rfl (fun J hJ => ?_)
            ·go_simp
             go_at_call 9
             (with_reducible refine (ask_p 5 _).mono ?_)
             rintro e _ ⟨rfl, h9⟩
             have hS := vb hS h9; clear h9
             refine hJ.out _ _ hS (fun _ => ?_); clear hJ J
             refine aH1 7 rfl (fun J hJ => ?_)
             ·go_simp
              go_at_call 6
              (with_reducible refine (Num_v _ _).mono ?_)
              rintro e _ ⟨rfl, h9⟩
              have hS := vb hS h9; clear h9
              refine hJ.out _ _ hS (fun _ => ?_); clear hJ J
              refine hT 8 59 (.agg oneD.cells) rfl rfl (fun w hSw => ?_) ?_
              · exact od_ea rfl rfl
              simp only [List.set]
              refine hT 9 60 (.agg (oqA (fndO true oneD))) rfl rfl (fun w hSw => ?_) ?_
              · exact fo_ea rfl rfl
              simp only [List.set]
              refine aH1 11 rfl (fun J hJ => ?_)
              ·go_simp
               go_at_call 10
               (with_reducible refine (pn_4 _).mono ?_)
               rintro e _ ⟨rfl, h9⟩
               have hS := vb hS h9; clear h9
               refine hJ.out _ _ hS (fun _ => ?_); clear hJ J
               refine hT 12 63 (.bool true) rfl rfl (fun w hSw => ?_) ?_
               · go_simp; (try with_reducible rfl)
               simp only [List.set]
               refine hT 13 8 (.bool true) rfl rfl (fun w hSw => ?_) ?_
               · go_simp; (try with_reducible rfl)
               simp only [List.set]
               refine wpAnyH_done (by kernel_rfl) ?_ _
               go_wp2_with (fail)
               go_meet
               case rel => exact ⟨rfl, Lib.hid (HN.out _ hS)⟩
        case rest =>
          obtain ⟨rfl, HZ⟩ := hcut
          go_upto_region 7 with (fail)
          (try dsimp only [Act.put])
          go_cut [9] from 22 (fun s9 wx => s9 = .bool true ∧ Hid (Nx w g1 g2 g3 wx))
          case first => as_aux_lemma =>
            have HD := Lib.hid (HZ.out.up (Below.refl _ _).drew)
            have hS : Below (World.drew wc).heap.size (World.drew wc) (World.drew wc) := Below.refl _ _
            refine wp_region_held_drew (S := fun V : World => Below (World.drew wc).heap.size (World.drew wc) V) (by kernel_rfl) hS (fun hHeld => ?_)
            clear HZ
            generalize World.drew wc = W0 at *
            have HN : Hid (∀ V : World, Below W0.heap.size W0 V → Nx w g1 g2 g3 V) := Lib.hid fun V h => HD.out.up h
            refine hT 5 69 (.agg (fqA (fz true))) rfl rfl (fun w hSw => ?_) ?_
            · exact fzt_ea rfl
            simp only [List.set]
            refine aH1 0 rfl (fun J hJ => ?_)
            ·go_simp
             go_at_call 9
             (with_reducible refine (ask_p 11 _).mono ?_)
             rintro e _ ⟨rfl, h9⟩
             have hS := vb hS h9; clear h9
             refine hJ.out _ _ hS (fun _ => ?_); clear hJ J
             refine aH1 1 rfl (fun J hJ => ?_)
             ·go_simp
              go_at_call 7
              (with_reducible refine (keyOf_k _ _).mono ?_)
              rintro e _ ⟨rfl, h9⟩
              have hS := vb hS h9; clear h9
              refine hJ.out _ _ hS (fun _ => ?_); clear hJ J
              refine aH1 2 rfl (fun J hJ => ?_)
              ·go_simp
               go_at_call 7
               (with_reducible refine (keyOf_k _ _).mono ?_)
               rintro e _ ⟨rfl, h9⟩
               have hS := vb hS h9; clear h9
               refine hJ.out _ _ hS (fun _ => ?_); clear hJ J
               refine aH1 3 rfl (fun J hJ => ?_)
               ·refine aNewS (z := 2) (ks_eb (s := ⟨#[97]⟩) (s2 := ⟨#[97]⟩) rfl rfl rfl) rfl hS (Nat.le_refl _) hJ fun _ q4 hS _ hx4 h9 => ?_
                have hk5 := rk_two (k1 := kA) (k2 := kA) hx4
                ( clear h9 hJ J); simp only [List.set]
                refine hT 4 68 (.agg (oqA (keyO (some ⟨q4, 0, none⟩) 2 2))) rfl rfl (fun w hSw => ?_) ?_
                · exact key_ea2 rfl rfl
                simp only [List.set]
                refine aH1 6 rfl (fun J hJ => ?_)
                ·go_simp
                 go_at_call 10
                 (with_reducible refine (pn_5 _ (some ⟨q4, 0, none⟩) 2 hk5 (by decide) (fun h => nomatch h)).mono ?_)
                 rintro e _ ⟨rfl, h9⟩
                 have hS := vb hS h9; have hk5 := rk_up hk5 h9; clear h9
                 refine hJ.out _ _ hS (fun _ => ?_); clear hJ J
                 refine hT 7 71 (.bool true) rfl rfl (fun w hSw => ?_) ?_
                 · go_simp; (try with_reducible rfl)
                 simp only [List.set]
                 refine hT 9 73 (.slice (some ⟨g3, 0, none⟩) 2 2) rfl rfl (fun w hSw => ?_) ?_
                 · go_simp; (try with_reducible rfl)
                 simp only [List.set]
                 refine hT 10 74 (.slice (some ⟨g3, 0, none⟩) 1 2) rfl rfl (fun w hSw => ?_) ?_
                 · go_simp; (try with_reducible rfl)
                 simp only [List.set]
                 refine hT 11 75 (.agg (oqA (keyO (some ⟨g3, 0, none⟩) 1 2))) rfl rfl (fun w hSw => ?_) ?_
                 · exact key_ea2 rfl rfl
                 simp only [List.set]
                 refine hT 12 76 (.slice (some ⟨g3, 0, none⟩) 2 2) rfl rfl (fun w hSw => ?_) ?_
                 · go_simp; (try with_reducible rfl)
                 simp only [List.set]
                 refine hT 13 77 (.agg nlL.toArray) rfl rfl (fun w hSw => ?_) ?_
                 · exact ex_load_at (sub_run (cs := nlL) (all := nlL) (HN.out _ hSw).v rfl Try.underlying24 rfl vsz) rfl rfl
                 simp only [List.set]
                 refine hT 15 79 (.agg fxD.cells) rfl rfl (fun w hSw => ?_) ?_
                 · exact ex_load_at (sub_run (cs := fxD.cells.toList) (all := fxD.cells.toList) (HN.out _ hSw).d rfl Try.underlying27 rfl dsz) rfl rfl
                 simp only [List.set]
                 refine aH1 8 rfl (fun J hJ => ?_)
                 ·go_simp
                  go_at_call 9
                  (with_reducible refine (ask_p 11 _).mono ?_)
                  rintro e _ ⟨rfl, h9⟩
                  have hS := vb hS h9; have hk5 := rk_up hk5 h9; clear h9
                  refine hJ.out _ _ hS (fun _ => ?_); clear hJ J
                  refine aH1 14 rfl (fun J hJ => ?_)
                  ·go_simp
                   go_at_call 11
                   (with_reducible refine (data_nl _).mono ?_)
                   rintro e _ ⟨rfl, h9⟩
                   have hS := vb hS h9; have hk5 := rk_up hk5 h9; clear h9
                   refine hJ.out _ _ hS (fun _ => ?_); clear hJ J
                   refine aH1 16 rfl (fun J hJ => ?_)
                   ·refine aNewS (z := 2) (d2_eb rfl rfl rfl) rfl hS (Nat.le_refl _) hJ fun _ q6 hS _ hx6 h9 => ?_
                    have hd6 := rd_two (d := dnD) (e := fxD) hx6
                    (have hk5 := rk_up hk5 h9; clear h9 hJ J); simp only [List.set]
                    refine hT 17 81 (.agg (fqA (fcL (some ⟨g3, 0, none⟩) 2 2 (some ⟨q6, 0, none⟩) 2 2))) rfl rfl (fun w hSw => ?_) ?_
                    · exact fL_ea rfl rfl rfl
                    simp only [List.set]
                    refine aH1 18 rfl (fun J hJ => ?_)
                    ·have hkk := (HN.out _ hS).k
                     go_simp
                     go_at_call 10
                     (with_reducible refine (pn_6 _ (some ⟨g3, 0, none⟩) (some ⟨q6, 0, none⟩) 2 hkk (fun h => nomatch h) hd6).mono ?_)
                     rintro e _ ⟨rfl, h9⟩
                     have hS := vb hS h9; have hk5 := rk_up hk5 h9; have hd6 := rd_up hd6 h9; clear h9
                     refine hJ.out _ _ hS (fun _ => ?_); clear hJ J
                     refine hT 19 83 (.bool true) rfl rfl (fun w hSw => ?_) ?_
                     · go_simp; (try with_reducible rfl)
                     simp only [List.set]
                     refine hT 20 9 (.bool true) rfl rfl (fun w hSw => ?_) ?_
                     · go_simp; (try with_reducible rfl)
                     simp only [List.set]
                     refine wpAnyH_done (by kernel_rfl) ?_ _
                     go_wp2_with (fail)
                     go_meet
                     case rel => exact ⟨rfl, Lib.hid (HN.out _ hS)⟩
          case rest =>
            obtain ⟨rfl, HZ⟩ := hcut
            go_upto_region 8 with (fail)
            (try dsimp only [Act.put])
            go_cut [10, 11, 12] from 22 (fun s10 s11 s12 wx => ∃ g ka kc, s10 = .pointer (some ⟨g, 0, none⟩) ∧ s11 = .bool true ∧ s12 = .int .i64 0 ∧ Hid (Nz w g1 g2 g3 g (keyO ka 2 kc) wx))
            case first => as_aux_lemma =>
              have HD := Lib.hid (HZ.out.up (Below.refl _ _).drew)
              have hS : Below (World.drew wc).heap.size (World.drew wc) (World.drew wc) := Below.refl _ _
              refine wp_region_held_drew (S := fun V : World => Below (World.drew wc).heap.size (World.drew wc) V) (by kernel_rfl) hS (fun hHeld => ?_)
              clear HZ
              generalize World.drew wc = W0 at *
              have HN : Hid (∀ V : World, Below W0.heap.size W0 V → Nx w g1 g2 g3 V) := Lib.hid fun V h => HD.out.up h
              refine hT 1 86 (.slice (some ⟨g3, 0, none⟩) 2 2) rfl rfl (fun w hSw => ?_) ?_
              · go_simp; (try with_reducible rfl)
              simp only [List.set]
              refine hT 2 87 (.agg (oqA (keyO (some ⟨g3, 0, none⟩) 2 2))) rfl rfl (fun w hSw => ?_) ?_
              · exact key_ea2 rfl rfl
              simp only [List.set]
              refine hT 3 88 (.slice (some ⟨g3, 0, none⟩) 2 2) rfl rfl (fun w hSw => ?_) ?_
              · go_simp; (try with_reducible rfl)
              simp only [List.set]
              refine hT 4 89 (.slice (some ⟨g3, 0, none⟩) 1 2) rfl rfl (fun w hSw => ?_) ?_
              · go_simp; (try with_reducible rfl)
              simp only [List.set]
              refine hT 5 90 (.agg fxD.cells) rfl rfl (fun w hSw => ?_) ?_
              · exact ex_load_at (sub_run (cs := fxD.cells.toList) (all := fxD.cells.toList) (HN.out _ hSw).d rfl Try.underlying27 rfl dsz) rfl rfl
              simp only [List.set]
              refine aH3 0 6 13 rfl rfl rfl (fun J hJ => ?_) (fun J hJ => ?_) (fun J hJ => ?_)
              ·go_simp
               go_at_call 9
               (with_reducible refine (ask_p 11 _).mono ?_)
               rintro e _ ⟨rfl, h9⟩
               have hS := vb hS h9; clear h9
               refine hJ.out _ _ hS (fun _ => ?_); clear hJ J
               refine aH2 6 13 rfl rfl (fun J hJ => ?_) (fun J hJ => ?_)
               ·refine aNewS (z := 1) (d1_eb rfl rfl) rfl hS (Nat.le_refl _) hJ fun _ q6 hS _ hx6 h9 => ?_
                have hd6 := rd_one (d := fxD) hx6
                ( clear h9 hJ J); simp only [List.set]
                refine hT 7 92 (.agg (fqA (fcL (some ⟨g3, 0, none⟩) 1 2 (some ⟨q6, 0, none⟩) 1 1))) rfl rfl (fun w hSw => ?_) ?_
                · exact fL_ea rfl rfl rfl
                simp only [List.set]
                refine aH2 8 13 rfl rfl (fun J hJ => ?_) (fun J hJ => ?_)
                ·have hkk := (HN.out _ hS).k
                 go_simp
                 go_at_call 8
                 (with_reducible refine (pn_7 _ (some ⟨g3, 0, none⟩) (some ⟨q6, 0, none⟩) 1 hkk (fun h => nomatch h) hd6).mono ?_)
                 rintro e _ ⟨ka, kc, rfl, h9⟩
                 have hS := vb hS h9; have hd6 := rd_up hd6 h9; clear h9
                 refine hJ.out _ _ hS (fun _ => ?_); clear hJ J
                 refine hT 9 84 (.tuple #[.agg (oqA (keyO ka 2 kc)), .bool true, .int .i64 0]) rfl rfl (fun w hSw => ?_) ?_
                 · go_simp; (try with_reducible rfl)
                 simp only [List.set]
                 refine hT 10 94 (.agg (oqA (keyO ka 2 kc))) rfl rfl (fun w hSw => ?_) ?_
                 · go_simp; (try with_reducible rfl)
                 simp only [List.set]
                 refine hT 11 95 (.bool true) rfl rfl (fun w hSw => ?_) ?_
                 · go_simp; (try with_reducible rfl)
                 simp only [List.set]
                 refine hT 12 96 (.int .i64 0) rfl rfl (fun w hSw => ?_) ?_
                 · go_simp; (try with_reducible rfl)
                 simp only [List.set]
                 refine aH1 13 rfl (fun J hJ => ?_)
                 ·refine aNew (en_o26 rfl) rfl hS (Nat.le_refl _) hJ fun _ g hS hm hx h9 => ?_
                  (have hd6 := rd_up hd6 h9; clear h9 hJ J); simp only [List.set]
                  refine aH1 14 rfl (fun J hJ => ?_)
                  ·refine aPut rfl rfl rfl hx (oq_info (keyO ka 2 kc)) rfl (oqA_one (keyO ka 2 kc)) rfl hS hm hJ fun _ hS hx _ => ?_
                   clear hJ J
                   refine hT 15 11 (.bool true) rfl rfl (fun w hSw => ?_) ?_
                   · go_simp; (try with_reducible rfl)
                   simp only [List.set]
                   refine hT 16 12 (.int .i64 0) rfl rfl (fun w hSw => ?_) ?_
                   · go_simp; (try with_reducible rfl)
                   simp only [List.set]
                   refine wpAnyH_done (by kernel_rfl) ?_ _
                   go_wp2_with (fail)
                   go_meet
                   case rel => exact ⟨g, ka, kc, rfl, rfl, rfl, Lib.hid ⟨HN.out _ hS, hx⟩⟩
                ·refine aNew (en_o26 rfl) rfl hS (Nat.le_refl _) hJ fun _ g hS hm hx h9 => ?_
                 (have hd6 := rd_up hd6 h9; clear h9 hJ J); simp only [List.set]
                 refine aH1 8 rfl (fun J hJ => ?_)
                 ·have hkk := (HN.out _ hS).k
                  go_simp
                  go_at_call 8
                  (with_reducible refine (pn_7 _ (some ⟨g3, 0, none⟩) (some ⟨q6, 0, none⟩) 1 hkk (fun h => nomatch h) hd6).mono ?_)
                  rintro e _ ⟨ka, kc, rfl, h9⟩
                  have hS := vb hS h9; have hd6 := rd_up hd6 h9; have hx := vblkn h9 hx; clear h9
                  refine hJ.out _ _ hS (fun _ => ?_); clear hJ J
                  refine hT 9 84 (.tuple #[.agg (oqA (keyO ka 2 kc)), .bool true, .int .i64 0]) rfl rfl (fun w hSw => ?_) ?_
                  · go_simp; (try with_reducible rfl)
                  simp only [List.set]
                  refine hT 10 94 (.agg (oqA (keyO ka 2 kc))) rfl rfl (fun w hSw => ?_) ?_
                  · go_simp; (try with_reducible rfl)
                  simp only [List.set]
                  refine hT 11 95 (.bool true) rfl rfl (fun w hSw => ?_) ?_
                  · go_simp; (try with_reducible rfl)
                  simp only [List.set]
                  refine hT 12 96 (.int .i64 0) rfl rfl (fun w hSw => ?_) ?_
                  · go_simp; (try with_reducible rfl)
                  simp only [List.set]
                  refine aH1 14 rfl (fun J hJ => ?_)
                  ·refine aPut rfl rfl rfl hx (oq_info (keyO ka 2 kc)) rfl (oqA_one (keyO ka 2 kc)) rfl hS hm hJ fun _ hS hx _ => ?_
                   clear hJ J
                   refine hT 15 11 (.bool true) rfl rfl (fun w hSw => ?_) ?_
                   · go_simp; (try with_reducible rfl)
                   simp only [List.set]
                   refine hT 16 12 (.int .i64 0) rfl rfl (fun w hSw => ?_) ?_
                   · go_simp; (try with_reducible rfl)
                   simp only [List.set]
                   refine wpAnyH_done (by kernel_rfl) ?_ _
                   go_wp2_with (fail)
                   go_meet
                   case rel => exact ⟨g, ka, kc, rfl, rfl, rfl, Lib.hid ⟨HN.out _ hS, hx⟩⟩
               ·refine aNew (en_o26 rfl) rfl hS (Nat.le_refl _) hJ fun _ g hS hm hx h9 => ?_
                ( clear h9 hJ J); simp only [List.set]
                refine aH1 6 rfl (fun J hJ => ?_)
                ·refine aNewS (z := 1) (d1_eb rfl rfl) rfl hS (Nat.le_refl _) hJ fun _ q6 hS _ hx6 h9 => ?_
                 have hd6 := rd_one (d := fxD) hx6
                 (have hx := vblkn h9 hx; clear h9 hJ J); simp only [List.set]
                 refine hT 7 92 (.agg (fqA (fcL (some ⟨g3, 0, none⟩) 1 2 (some ⟨q6, 0, none⟩) 1 1))) rfl rfl (fun w hSw => ?_) ?_
                 · exact fL_ea rfl rfl rfl
                 simp only [List.set]
                 refine aH1 8 rfl (fun J hJ => ?_)
                 ·have hkk := (HN.out _ hS).k
                  go_simp
                  go_at_call 8
                  (with_reducible refine (pn_7 _ (some ⟨g3, 0, none⟩) (some ⟨q6, 0, none⟩) 1 hkk (fun h => nomatch h) hd6).mono ?_)
                  rintro e _ ⟨ka, kc, rfl, h9⟩
                  have hS := vb hS h9; have hx := vblkn h9 hx; have hd6 := rd_up hd6 h9; clear h9
                  refine hJ.out _ _ hS (fun _ => ?_); clear hJ J
                  refine hT 9 84 (.tuple #[.agg (oqA (keyO ka 2 kc)), .bool true, .int .i64 0]) rfl rfl (fun w hSw => ?_) ?_
                  · go_simp; (try with_reducible rfl)
                  simp only [List.set]
                  refine hT 10 94 (.agg (oqA (keyO ka 2 kc))) rfl rfl (fun w hSw => ?_) ?_
                  · go_simp; (try with_reducible rfl)
                  simp only [List.set]
                  refine hT 11 95 (.bool true) rfl rfl (fun w hSw => ?_) ?_
                  · go_simp; (try with_reducible rfl)
                  simp only [List.set]
                  refine hT 12 96 (.int .i64 0) rfl rfl (fun w hSw => ?_) ?_
                  · go_simp; (try with_reducible rfl)
                  simp only [List.set]
                  refine aH1 14 rfl (fun J hJ => ?_)
                  ·refine aPut rfl rfl rfl hx (oq_info (keyO ka 2 kc)) rfl (oqA_one (keyO ka 2 kc)) rfl hS hm hJ fun _ hS hx _ => ?_
                   clear hJ J
                   refine hT 15 11 (.bool true) rfl rfl (fun w hSw => ?_) ?_
                   · go_simp; (try with_reducible rfl)
                   simp only [List.set]
                   refine hT 16 12 (.int .i64 0) rfl rfl (fun w hSw => ?_) ?_
                   · go_simp; (try with_reducible rfl)
                   simp only [List.set]
                   refine wpAnyH_done (by kernel_rfl) ?_ _
                   go_wp2_with (fail)
                   go_meet
                   case rel => exact ⟨g, ka, kc, rfl, rfl, rfl, Lib.hid ⟨HN.out _ hS, hx⟩⟩
              ·refine aNewS (z := 1) (d1_eb rfl rfl) rfl hS (Nat.le_refl _) hJ fun _ q6 hS _ hx6 h9 => ?_
               have hd6 := rd_one (d := fxD) hx6
               ( clear h9 hJ J); simp only [List.set]
               refine hT 7 92 (.agg (fqA (fcL (some ⟨g3, 0, none⟩) 1 2 (some ⟨q6, 0, none⟩) 1 1))) rfl rfl (fun w hSw => ?_) ?_
               · exact fL_ea rfl rfl rfl
               simp only [List.set]
               refine aH2 0 13 rfl rfl (fun J hJ => ?_) (fun J hJ => ?_)
               ·go_simp
                go_at_call 9
                (with_reducible refine (ask_p 11 _).mono ?_)
                rintro e _ ⟨rfl, h9⟩
                have hS := vb hS h9; have hd6 := rd_up hd6 h9; clear h9
                refine hJ.out _ _ hS (fun _ => ?_); clear hJ J
                refine aH2 8 13 rfl rfl (fun J hJ => ?_) (fun J hJ => ?_)
                ·have hkk := (HN.out _ hS).k
                 go_simp
                 go_at_call 8
                 (with_reducible refine (pn_7 _ (some ⟨g3, 0, none⟩) (some ⟨q6, 0, none⟩) 1 hkk (fun h => nomatch h) hd6).mono ?_)
                 rintro e _ ⟨ka, kc, rfl, h9⟩
                 have hS := vb hS h9; have hd6 := rd_up hd6 h9; clear h9
                 refine hJ.out _ _ hS (fun _ => ?_); clear hJ J
                 refine hT 9 84 (.tuple #[.agg (oqA (keyO ka 2 kc)), .bool true, .int .i64 0]) rfl rfl (fun w hSw => ?_) ?_
                 · go_simp; (try with_reducible rfl)
                 simp only [List.set]
                 refine hT 10 94 (.agg (oqA (keyO ka 2 kc))) rfl rfl (fun w hSw => ?_) ?_
                 · go_simp; (try with_reducible rfl)
                 simp only [List.set]
                 refine hT 11 95 (.bool true) rfl rfl (fun w hSw => ?_) ?_
                 · go_simp; (try with_reducible rfl)
                 simp only [List.set]
                 refine hT 12 96 (.int .i64 0) rfl rfl (fun w hSw => ?_) ?_
                 · go_simp; (try with_reducible rfl)
                 simp only [List.set]
                 refine aH1 13 rfl (fun J hJ => ?_)
                 ·refine aNew (en_o26 rfl) rfl hS (Nat.le_refl _) hJ fun _ g hS hm hx h9 => ?_
                  (have hd6 := rd_up hd6 h9; clear h9 hJ J); simp only [List.set]
                  refine aH1 14 rfl (fun J hJ => ?_)
                  ·refine aPut rfl rfl rfl hx (oq_info (keyO ka 2 kc)) rfl (oqA_one (keyO ka 2 kc)) rfl hS hm hJ fun _ hS hx _ => ?_
                   clear hJ J
                   refine hT 15 11 (.bool true) rfl rfl (fun w hSw => ?_) ?_
                   · go_simp; (try with_reducible rfl)
                   simp only [List.set]
                   refine hT 16 12 (.int .i64 0) rfl rfl (fun w hSw => ?_) ?_
                   · go_simp; (try with_reducible rfl)
                   simp only [List.set]
                   refine wpAnyH_done (by kernel_rfl) ?_ _
                   go_wp2_with (fail)
                   go_meet
                   case rel => exact ⟨g, ka, kc, rfl, rfl, rfl, Lib.hid ⟨HN.out _ hS, hx⟩⟩
                ·refine aNew (en_o26 rfl) rfl hS (Nat.le_refl _) hJ fun _ g hS hm hx h9 => ?_
                 (have hd6 := rd_up hd6 h9; clear h9 hJ J); simp only [List.set]
                 refine aH1 8 rfl (fun J hJ => ?_)
                 ·have hkk := (HN.out _ hS).k
                  go_simp
                  go_at_call 8
                  (with_reducible refine (pn_7 _ (some ⟨g3, 0, none⟩) (some ⟨q6, 0, none⟩) 1 hkk (fun h => nomatch h) hd6).mono ?_)
                  rintro e _ ⟨ka, kc, rfl, h9⟩
                  have hS := vb hS h9; have hd6 := rd_up hd6 h9; have hx := vblkn h9 hx; clear h9
                  refine hJ.out _ _ hS (fun _ => ?_); clear hJ J
                  refine hT 9 84 (.tuple #[.agg (oqA (keyO ka 2 kc)), .bool true, .int .i64 0]) rfl rfl (fun w hSw => ?_) ?_
                  · go_simp; (try with_reducible rfl)
                  simp only [List.set]
                  refine hT 10 94 (.agg (oqA (keyO ka 2 kc))) rfl rfl (fun w hSw => ?_) ?_
                  · go_simp; (try with_reducible rfl)
                  simp only [List.set]
                  refine hT 11 95 (.bool true) rfl rfl (fun w hSw => ?_) ?_
                  · go_simp; (try with_reducible rfl)
                  simp only [List.set]
                  refine hT 12 96 (.int .i64 0) rfl rfl (fun w hSw => ?_) ?_
                  · go_simp; (try with_reducible rfl)
                  simp only [List.set]
                  refine aH1 14 rfl (fun J hJ => ?_)
                  ·refine aPut rfl rfl rfl hx (oq_info (keyO ka 2 kc)) rfl (oqA_one (keyO ka 2 kc)) rfl hS hm hJ fun _ hS hx _ => ?_
                   clear hJ J
                   refine hT 15 11 (.bool true) rfl rfl (fun w hSw => ?_) ?_
                   · go_simp; (try with_reducible rfl)
                   simp only [List.set]
                   refine hT 16 12 (.int .i64 0) rfl rfl (fun w hSw => ?_) ?_
                   · go_simp; (try with_reducible rfl)
                   simp only [List.set]
                   refine wpAnyH_done (by kernel_rfl) ?_ _
                   go_wp2_with (fail)
                   go_meet
                   case rel => exact ⟨g, ka, kc, rfl, rfl, rfl, Lib.hid ⟨HN.out _ hS, hx⟩⟩
               ·refine aNew (en_o26 rfl) rfl hS (Nat.le_refl _) hJ fun _ g hS hm hx h9 => ?_
                (have hd6 := rd_up hd6 h9; clear h9 hJ J); simp only [List.set]
                refine aH1 0 rfl (fun J hJ => ?_)
                ·go_simp
                 go_at_call 9
                 (with_reducible refine (ask_p 11 _).mono ?_)
                 rintro e _ ⟨rfl, h9⟩
                 have hS := vb hS h9; have hd6 := rd_up hd6 h9; have hx := vblkn h9 hx; clear h9
                 refine hJ.out _ _ hS (fun _ => ?_); clear hJ J
                 refine aH1 8 rfl (fun J hJ => ?_)
                 ·have hkk := (HN.out _ hS).k
                  go_simp
                  go_at_call 8
                  (with_reducible refine (pn_7 _ (some ⟨g3, 0, none⟩) (some ⟨q6, 0, none⟩) 1 hkk (fun h => nomatch h) hd6).mono ?_)
                  rintro e _ ⟨ka, kc, rfl, h9⟩
                  have hS := vb hS h9; have hd6 := rd_up hd6 h9; have hx := vblkn h9 hx; clear h9
                  refine hJ.out _ _ hS (fun _ => ?_); clear hJ J
                  refine hT 9 84 (.tuple #[.agg (oqA (keyO ka 2 kc)), .bool true, .int .i64 0]) rfl rfl (fun w hSw => ?_) ?_
                  · go_simp; (try with_reducible rfl)
                  simp only [List.set]
                  refine hT 10 94 (.agg (oqA (keyO ka 2 kc))) rfl rfl (fun w hSw => ?_) ?_
                  · go_simp; (try with_reducible rfl)
                  simp only [List.set]
                  refine hT 11 95 (.bool true) rfl rfl (fun w hSw => ?_) ?_
                  · go_simp; (try with_reducible rfl)
                  simp only [List.set]
                  refine hT 12 96 (.int .i64 0) rfl rfl (fun w hSw => ?_) ?_
                  · go_simp; (try with_reducible rfl)
                  simp only [List.set]
                  refine aH1 14 rfl (fun J hJ => ?_)
                  ·refine aPut rfl rfl rfl hx (oq_info (keyO ka 2 kc)) rfl (oqA_one (keyO ka 2 kc)) rfl hS hm hJ fun _ hS hx _ => ?_
                   clear hJ J
                   refine hT 15 11 (.bool true) rfl rfl (fun w hSw => ?_) ?_
                   · go_simp; (try with_reducible rfl)
                   simp only [List.set]
                   refine hT 16 12 (.int .i64 0) rfl rfl (fun w hSw => ?_) ?_
                   · go_simp; (try with_reducible rfl)
                   simp only [List.set]
                   refine wpAnyH_done (by kernel_rfl) ?_ _
                   go_wp2_with (fail)
                   go_meet
                   case rel => exact ⟨g, ka, kc, rfl, rfl, rfl, Lib.hid ⟨HN.out _ hS, hx⟩⟩
              ·refine aNew (en_o26 rfl) rfl hS (Nat.le_refl _) hJ fun _ g hS hm hx h9 => ?_
               ( clear h9 hJ J); simp only [List.set]
               refine aH2 0 6 rfl rfl (fun J hJ => ?_) (fun J hJ => ?_)
               ·go_simp
                go_at_call 9
                (with_reducible refine (ask_p 11 _).mono ?_)
                rintro e _ ⟨rfl, h9⟩
                have hS := vb hS h9; have hx := vblkn h9 hx; clear h9
                refine hJ.out _ _ hS (fun _ => ?_); clear hJ J
                refine aH1 6 rfl (fun J hJ => ?_)
                ·refine aNewS (z := 1) (d1_eb rfl rfl) rfl hS (Nat.le_refl _) hJ fun _ q6 hS _ hx6 h9 => ?_
                 have hd6 := rd_one (d := fxD) hx6
                 (have hx := vblkn h9 hx; clear h9 hJ J); simp only [List.set]
                 refine hT 7 92 (.agg (fqA (fcL (some ⟨g3, 0, none⟩) 1 2 (some ⟨q6, 0, none⟩) 1 1))) rfl rfl (fun w hSw => ?_) ?_
                 · exact fL_ea rfl rfl rfl
                 simp only [List.set]
                 refine aH1 8 rfl (fun J hJ => ?_)
                 ·have hkk := (HN.out _ hS).k
                  go_simp
                  go_at_call 8
                  (with_reducible refine (pn_7 _ (some ⟨g3, 0, none⟩) (some ⟨q6, 0, none⟩) 1 hkk (fun h => nomatch h) hd6).mono ?_)
                  rintro e _ ⟨ka, kc, rfl, h9⟩
                  have hS := vb hS h9; have hx := vblkn h9 hx; have hd6 := rd_up hd6 h9; clear h9
                  refine hJ.out _ _ hS (fun _ => ?_); clear hJ J
                  refine hT 9 84 (.tuple #[.agg (oqA (keyO ka 2 kc)), .bool true, .int .i64 0]) rfl rfl (fun w hSw => ?_) ?_
                  · go_simp; (try with_reducible rfl)
                  simp only [List.set]
                  refine hT 10 94 (.agg (oqA (keyO ka 2 kc))) rfl rfl (fun w hSw => ?_) ?_
                  · go_simp; (try with_reducible rfl)
                  simp only [List.set]
                  refine hT 11 95 (.bool true) rfl rfl (fun w hSw => ?_) ?_
                  · go_simp; (try with_reducible rfl)
                  simp only [List.set]
                  refine hT 12 96 (.int .i64 0) rfl rfl (fun w hSw => ?_) ?_
                  · go_simp; (try with_reducible rfl)
                  simp only [List.set]
                  refine aH1 14 rfl (fun J hJ => ?_)
                  ·refine aPut rfl rfl rfl hx (oq_info (keyO ka 2 kc)) rfl (oqA_one (keyO ka 2 kc)) rfl hS hm hJ fun _ hS hx _ => ?_
                   clear hJ J
                   refine hT 15 11 (.bool true) rfl rfl (fun w hSw => ?_) ?_
                   · go_simp; (try with_reducible rfl)
                   simp only [List.set]
                   refine hT 16 12 (.int .i64 0) rfl rfl (fun w hSw => ?_) ?_
                   · go_simp; (try with_reducible rfl)
                   simp only [List.set]
                   refine wpAnyH_done (by kernel_rfl) ?_ _
                   go_wp2_with (fail)
                   go_meet
                   case rel => exact ⟨g, ka, kc, rfl, rfl, rfl, Lib.hid ⟨HN.out _ hS, hx⟩⟩
               ·refine aNewS (z := 1) (d1_eb rfl rfl) rfl hS (Nat.le_refl _) hJ fun _ q6 hS _ hx6 h9 => ?_
                have hd6 := rd_one (d := fxD) hx6
                (have hx := vblkn h9 hx; clear h9 hJ J); simp only [List.set]
                refine hT 7 92 (.agg (fqA (fcL (some ⟨g3, 0, none⟩) 1 2 (some ⟨q6, 0, none⟩) 1 1))) rfl rfl (fun w hSw => ?_) ?_
                · exact fL_ea rfl rfl rfl
                simp only [List.set]
                refine aH1 0 rfl (fun J hJ => ?_)
                ·go_simp
                 go_at_call 9
                 (with_reducible refine (ask_p 11 _).mono ?_)
                 rintro e _ ⟨rfl, h9⟩
                 have hS := vb hS h9; have hx := vblkn h9 hx; have hd6 := rd_up hd6 h9; clear h9
                 refine hJ.out _ _ hS (fun _ => ?_); clear hJ J
                 refine aH1 8 rfl (fun J hJ => ?_)
                 ·have hkk := (HN.out _ hS).k
                  go_simp
                  go_at_call 8
                  (with_reducible refine (pn_7 _ (some ⟨g3, 0, none⟩) (some ⟨q6, 0, none⟩) 1 hkk (fun h => nomatch h) hd6).mono ?_)
                  rintro e _ ⟨ka, kc, rfl, h9⟩
                  have hS := vb hS h9; have hx := vblkn h9 hx; have hd6 := rd_up hd6 h9; clear h9
                  refine hJ.out _ _ hS (fun _ => ?_); clear hJ J
                  refine hT 9 84 (.tuple #[.agg (oqA (keyO ka 2 kc)), .bool true, .int .i64 0]) rfl rfl (fun w hSw => ?_) ?_
                  · go_simp; (try with_reducible rfl)
                  simp only [List.set]
                  refine hT 10 94 (.agg (oqA (keyO ka 2 kc))) rfl rfl (fun w hSw => ?_) ?_
                  · go_simp; (try with_reducible rfl)
                  simp only [List.set]
                  refine hT 11 95 (.bool true) rfl rfl (fun w hSw => ?_) ?_
                  · go_simp; (try with_reducible rfl)
                  simp only [List.set]
                  refine hT 12 96 (.int .i64 0) rfl rfl (fun w hSw => ?_) ?_
                  · go_simp; (try with_reducible rfl)
                  simp only [List.set]
                  refine aH1 14 rfl (fun J hJ => ?_)
                  ·refine aPut rfl rfl rfl hx (oq_info (keyO ka 2 kc)) rfl (oqA_one (keyO ka 2 kc)) rfl hS hm hJ fun _ hS hx _ => ?_
                   clear hJ J
                   refine hT 15 11 (.bool true) rfl rfl (fun w hSw => ?_) ?_
                   · go_simp; (try with_reducible rfl)
                   simp only [List.set]
                   refine hT 16 12 (.int .i64 0) rfl rfl (fun w hSw => ?_) ?_
                   · go_simp; (try with_reducible rfl)
                   simp only [List.set]
                   refine wpAnyH_done (by kernel_rfl) ?_ _
                   go_wp2_with (fail)
                   go_meet
                   case rel => exact ⟨g, ka, kc, rfl, rfl, rfl, Lib.hid ⟨HN.out _ hS, hx⟩⟩
            case rest =>
              obtain ⟨g10, ka, kc, rfl, rfl, rfl, HZ⟩ := hcut
              go_wp2_with (first
                | (go_at_call 9; (with_reducible refine (ask_p _ _).mono ?_); rintro e w6 ⟨rfl, h9⟩; have HZ := Lib.hid (HZ.out.up h9); clear h9)
                | (go_at_call 12; (with_reducible refine (yes_p _ _).mono ?_); rintro e w6 ⟨rfl, h9⟩; have HZ := Lib.hid (HZ.out.up h9); clear h9)
                | (go_at_call 6; (with_reducible refine (Num_v _ _).mono ?_); rintro e w6 ⟨rfl, h9⟩; have HZ := Lib.hid (HZ.out.up h9); clear h9)
                | ((refine w_val ?_ (fzf_ea rfl) ?_); (rfl))
                | ((refine w_val ?_ (ozz_ea rfl) ?_); (rfl))
                | (go_at_call 8; (with_reducible refine (pn_8 _).mono ?_); rintro e w6 ⟨rfl, h9⟩; have HZ := Lib.hid (HZ.out.up h9); clear h9)
                | (go_at_call 8; (with_reducible refine (pn_9 _).mono ?_); rintro e w6 ⟨rfl, h9⟩; have HZ := Lib.hid (HZ.out.up h9); clear h9)
                | ((refine w_val ?_ (val_ea2 (v := onV) rfl rfl) ?_); (rfl))
                | (go_at_call 10; (with_reducible refine (pn_10 _).mono ?_); rintro e w6 ⟨rfl, h9⟩; have HZ := Lib.hid (HZ.out.up h9); clear h9)
                | ((with_reducible refine lk_ld (all := oql (keyO ka 2 kc)) (A := ka) (l := 2) (c := kc) ?_ rfl rfl HZ.out.o ?_ ?_); (rfl); (rfl))
                | ((with_reducible refine t_store (cs := oqA oz0) rfl rfl rfl rfl (heap_alloc_new _ _) (oq_info _) ?_ (oqA_one _) (vzero _ _) (Nat.le_refl _) ?_); (rfl); intro W7 hb7 _ _ _; have HZ := Lib.hid (HZ.out.up hb7); clear hb7)
                | (go_at_call 13; (with_reducible refine (meth_10 _).mono ?_); rintro e w6 ⟨rfl, h9⟩; have HZ := Lib.hid (HZ.out.up h9); clear h9)
                | (go_at_call 14; (with_reducible refine (alive_p _).mono ?_); rintro e w6 ⟨rfl, h9⟩; have HZ := Lib.hid (HZ.out.up h9); clear h9)
                | (go_at_call 15; (with_reducible refine (name_12 _).mono ?_); rintro e w6 ⟨rfl, h9⟩; have HZ := Lib.hid (HZ.out.up h9); clear h9)
                | (go_at_call 15; (with_reducible refine (name_0 _).mono ?_); rintro e w6 ⟨rfl, h9⟩; have HZ := Lib.hid (HZ.out.up h9); clear h9)
                | (fail))
              go_ret
              exact ⟨rfl, HZ.out.n.below⟩
end Go.Proofs.Ytkmgdaagannhkaa.S
/-
  PostNames: whatever the input, the Go function returns true and leaves its input as it was: the walk, carried into the row.
-/
namespace Go.Proofs.Ytkmgdaagannhkaa
open Go.ChangeShapes Go.WideShapes Go.ChangeAt Go.RowKit
open Go.ChangeMaps (open_string shut_string)

theorem PostNames_own : ownKnob Try.prog.godebug = none := by kernel_rfl

set_option maxRecDepth 100000 in
theorem PostNames_lifted (os : Os) (started : os.Started) (H : Type) (enc : TypeId × Value → H) :
    ReturnsInHanded {} Try.checked os 3 .any (Rows.postNamesSpec.pre6 enc Try.prog Try.f3 Rows.postNamesRow.domain false) (Rows.postNamesSpec.post enc Try.prog Try.f3 false true false false) := by
  refine returnsInHanded_of_change (C := Try.checked) PostNames_own started (by kernel_rfl) Try.func3
    (ChangeSpec.witness6 (enc := enc) (C := Try.checked) false ⟨#[], #[], []⟩ 8 (by kernel_rfl) (by kernel_rfl) (by kernel_rfl) (by kernel_rfl)) ?_
  intro W base args ds gs before hval0 hW hcnd _
  have hval : ∀ (j : Nat) t v, Try.f3.params[j]? = some t → args[j]? = some v → Value.okWide Try.prog W .any base t v := hval0
  have hW' := hW
  obtain ⟨p, q, hA0, hV, rfl, hfz, hnd⟩ := hW
  have hA : DataW.TrodAll enc Try.prog W 0 (fun _ => true) true Try.f3.params.toList args.toList ds p := hA0
  rw [Try.params3] at hA hval
  obtain ⟨hargs, rfl, rfl⟩ := trodAll_nil hA
  obtain rfl : args = #[] := by cases args; simp_all
  obtain ⟨rfl, rfl⟩ := trodVars_none hV
  clear hA0 hval0
  refine (S.PostNames_walk  W ).mono fun e W' ⟨he, bel⟩ => ?_
  subst he
  exact ⟨_, rfl, _, _, _, [], _, [], hW', trodAll_mk1 (shut_bool Try.underlying4 _), trodAll_mk0, rfl, bel.frame _, fun h => by cases h⟩

theorem PostNames_holds : Rows.PostNamesSaid :=
  OpenClaim.holds_of_wide 3 Try.f3 rfl rfl rfl rfl rfl rfl rfl ⟨rfl, rfl, rfl, rfl, rfl⟩ rfl rfl rfl rfl rfl (by kernel_rfl) Try.func3 (by kernel_rfl)
    (of_decide_eq_true (by kernel_rfl)) (by unfold Func.isWrapper; first | (rw [if_pos (by decide +kernel)]; kernel_rfl) | (rw [if_neg (by decide +kernel)]; exact ⟨rfl, rfl⟩))
    (fun os started H enc _ => PostNames_lifted os started H enc)
#print axioms PostNames_holds
end Go.Proofs.Ytkmgdaagannhkaa
