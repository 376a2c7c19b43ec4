/-
  OrdinaryNames: the walk.
-/
import Derived.Test.YtkcikdggfbjedaaGreatDoorON02
namespace Go.Proofs.YtkcikdggfbjedaaGreatDoor.S
open Go.RowKit Go.Lib Fl
open Classical

set_option maxHeartbeats 16000000 in
set_option maxRecDepth 1000000 in
theorem OrdinaryNames_walk (w : World) (htab : TabHere w) : Calls Tryz.prog 8 #[] w fun e w' => e = .returned (.bool true) ∧ Below w.heap.size w w' := by
  have cT := fun W => two12 W
  have cTh1 := fun W => thing12 1 W
  have cTh0 := fun W => thing12 0 W
  have cKA := fun W => key12 (⟨#[97]⟩ : ByteArray) W
  have cKB := fun W => key12 (⟨#[98]⟩ : ByteArray) W
  have c7 := fun W => seven12 W
  have hi1 : ∀ v : Value, (Tryz.prog.info? 24).map (·.size) = some (#[v] : Array Value).size := fun v => hsz
  have hc1 : ∀ v : Value, v.oneCell' = true → (#[v] : Array Value).all (·.oneCell') = true := fun v h => cells_one (l := [v]) (by simpa using h)
  have c1 : ∀ (W : World) (B g : Nat), Below w.heap.size w W → TwoAt B g W → Calls Tryz.prog 33 #[.agg #[.slice (some ⟨B, 0, none⟩) 2 2], .agg (akA (akq 2 0 kz (dz 0) (vT 1)))] W fun e w' => ∃ B2 : Nat, e = .returned (.tuple #[.agg #[.slice (some ⟨B2, 0, none⟩) 2 2], .agg (oqA (yesO false))]) ∧ Below W.heap.size W w' := fun W B g hb h => by
    have := names_set (n := 0) (v := vT 1) h (tab_up htab hb) (by decide) (ok_in (vT_ok (by decide) (by decide))) (leads_t _ 1 (by decide)) (by kernel_rfl)
    refine this.mono fun e w' ⟨B2, he, _, hb⟩ => ⟨B2, ?_, hb⟩
    rw [he, decide_eq_true (bhd_01 _)]
    rfl
  have c2 : ∀ (W : World) (B g : Nat), Below w.heap.size w W → TwoAt B g W → Calls Tryz.prog 33 #[.agg #[.slice (some ⟨B, 0, none⟩) 2 2], .agg (akA (akq 2 1 kz (dz 0) vN))] W fun e w' => ∃ B2 : Nat, e = .returned (.tuple #[.agg #[.slice (some ⟨B2, 0, none⟩) 2 2], .agg (oqA (yesO true))]) ∧ w'.cell? ⟨B2, 19, none⟩ = some (.int .u8 1) ∧ Below W.heap.size W w' := fun W B g hb h => by
    have := names_set (n := 1) (v := vN) h (tab_up htab hb) (by decide) (ok_in vN_ok) (leads_n _) (by kernel_rfl)
    have hn : ¬ Bhd (H2 (some ⟨g, 0, none⟩)) ((1 : Nat) : Int) vN := bhd_no rfl
    refine this.mono fun e w' ⟨B2, he, h2, hb⟩ => ⟨B2, ?_, ?_, hb⟩
    · rw [he, decide_eq_false hn]
      rfl
    · exact h2.resolve_left hn
  have c4 : ∀ (W : World) (B g : Nat), Below w.heap.size w W → TwoAt B g W → Calls Tryz.prog 33 #[.agg #[.slice (some ⟨B, 0, none⟩) 2 2], .agg (akA (akq 4 1 kz (dz 0) v0))] W fun e w' => ∃ B2 M2, e = .returned (.tuple #[.agg #[.slice (some ⟨B2, 0, none⟩) 2 2], .agg (oqA (yesO true))]) ∧ (LeftH (H2 none) B2 M2 w' ∧ ShutIs (H2 none) M2 1) ∧ Below W.heap.size W w' := fun W B g hb h => names_shut h (tab_up htab hb)
  have cP : ∀ (W : World) (B : Nat) (M : List Ob), Below w.heap.size w W → LeftH (H2 none) B M W → ShutIs (H2 none) M 1 → Calls Tryz.prog 33 #[.agg #[.slice (some ⟨B, 0, none⟩) 2 2], .agg (akA (akq 6 1 kyB d7 v0))] W fun e w' => ∃ B2 : Nat, e = .returned (.tuple #[.agg #[.slice (some ⟨B2, 0, none⟩) 2 2], .agg (oqA (yesO false))]) ∧ Below W.heap.size W w' := fun W B M hb hl hf => names_put hl hf (tab_up htab hb)
  have HB := Lib.hid (Below.refl w.heap.size w)
  have HTAB := Lib.hid htab
  clear htab
  go_enter Tryz.func8, Tryz.ntmps8
  go_upto_region 2 with (first
    | (go_at_call 34; (with_reducible refine (cT _).mono ?_); rintro e w1 ⟨B, g, rfl, t1, t2, h9⟩; have HT : Hid (TwoAt B g w1) := Lib.hid ⟨t1, t2⟩; have HB := Lib.hid (vb HB.out h9); clear h9 t1 t2)
    | (go_at_call 35; (with_reducible refine (cTh1 _).mono ?_); rintro e w2 ⟨rfl, h9⟩; have HB := Lib.hid (vb HB.out h9); have HT := Lib.hid (HT.out.up h9); clear h9)
    | (refine w_run ?_ (ea_n1 (v := vT 1) rfl rfl) ?_; (rfl))
    | (go_at_call 33; (with_reducible refine (c1 _ _ _ HB.out HT.out).mono ?_); rintro e w3 ⟨B3, rfl, h9⟩; have HB := Lib.hid (vb HB.out h9); obtain ⟨g1, g2⟩ := vblk2 (w := w3) (Below.refl _ ((w3.alloc (.cells #[.slice none 0 0] 24)).alloc (.cells oz26 55))); have gB : Below w3.heap.size w3 ((w3.alloc (.cells #[.slice none 0 0] 24)).alloc (.cells oz26 55)) := vafter (vzero _ _); clear h9 HT)
    | ((with_reducible refine t_store (cs := #[.slice (some ⟨B3, 0, none⟩) 2 2]) rfl rfl rfl rfl g1 (hi1 _) ?_ (hc1 _ rfl) gB (Nat.le_refl _) ?_); (rfl); intro W4 hb4 hW4 hO4 hz4; have g3 := (hO4 (w3.heap.size + 1) (by omega)).trans g2; clear hO4 hz4)
    | ((with_reducible refine oq_store (q := yesO false) rfl rfl rfl rfl g3 rfl hb4 (Nat.le_succ _) ?_); intro W5 hb5 hW5 hO5 hz5; have HB := Lib.hid (vb HB.out hb5); have G1 := Lib.hid hW5; clear hW5 hO5 hz5 g3 hb4 g1 g2 gB hb5 hW4))
  generalize w3.heap.size + 1 = ga at *
  go_upto_region 3 with (first
    | (go_at_call 34; (with_reducible refine (cT _).mono ?_); rintro e w6 ⟨B, g, rfl, t1, t2, h9⟩; have HT : Hid (TwoAt B g w6) := Lib.hid ⟨t1, t2⟩; have HB := Lib.hid (vb HB.out h9); have G1 := Lib.hid (vblkn h9 G1.out); clear h9 t1 t2)
    | ((with_reducible refine w_run ?_ (eb_n rfl) ?_); (rfl))
    | (refine w_run ?_ (ea_n2 (v := vN) rfl rfl) ?_; (rfl))
    | (go_at_call 33; (with_reducible refine (c2 _ _ _ HB.out HT.out).mono ?_); rintro e w8 ⟨B8, rfl, hp, h9⟩; have HP := Lib.hid hp; have HBS := HB.out.size; have HBS2 := h9.size; have HB := Lib.hid (vb HB.out h9); have G1 := Lib.hid (vblkn h9 G1.out); obtain ⟨g1, g2⟩ := vblk2 (w := w8) (Below.refl _ ((w8.alloc (.cells #[.slice none 0 0] 24)).alloc (.cells oz26 55))); have gB : Below w8.heap.size w8 ((w8.alloc (.cells #[.slice none 0 0] 24)).alloc (.cells oz26 55)) := vafter (vzero _ _); clear h9 HT hp)
    | ((with_reducible refine t_store (cs := #[.slice (some ⟨B8, 0, none⟩) 2 2]) rfl rfl rfl rfl g1 (hi1 _) ?_ (hc1 _ rfl) gB (Nat.le_refl _) ?_); (rfl); intro W9 hb4 hW4 hO4 hz4; have g3 := (hO4 (w8.heap.size + 1) (by omega)).trans g2; have hX4 := hW4; clear hO4 hz4)
    | ((with_reducible refine oq_store (q := yesO true) rfl rfl rfl rfl g3 rfl hb4 (Nat.le_succ _) ?_); intro W10 hb5 hW5 hO5 hz5; have HN : Hid (N3 w ga w8.heap.size (w8.heap.size + 1) B8 W10) := Lib.hid ⟨vb HB.out hb5, vblkn hb5 G1.out, (hO5 w8.heap.size (by omega)).trans hX4, hW5, cell_later hb5 HP.out, by omega⟩; clear hX4; clear hW5 hO5 hz5 g3 hb4 g1 g2 gB hb5 hW4))
  generalize w8.heap.size + 1 = gb at *
  generalize w8.heap.size = g3 at *
  have q2 : _ = some (Value.int .u8 1) := (vcells HN.out.a 0).trans rfl
  have q2b : _ = some (Value.bool false) := (vcells HN.out.a 5).trans rfl
  have q4 : _ = some (Value.bool true) := (vcells HN.out.b 5).trans rfl
  have q3 : _ = some (Value.slice (some ⟨B8, 0, none⟩) 2 2) := (vcells HN.out.h 0).trans rfl
  have qp := HN.out.p
  (try dsimp only at q2 q2b q4 q3 qp)
  refine wp_region_lit (WN.out ?_)
  refine WN.take (v := .pointer (some ⟨ga, 0, none⟩)) (d := 40) (by kernel_rfl) (by kernel_rfl) rfl ?_
  simp only [List.set]
  refine WN.take (v := .int .u8 1) (d := 41) (by kernel_rfl) (by exact ex_load_at (n_u8 q2) rfl rfl) rfl ?_
  simp only [List.set]
  refine WN.take (v := .bool true) (d := 42) (by kernel_rfl) (by kernel_rfl) rfl ?_
  simp only [List.set]
  refine WN.take (v := .bool true) (d := 43) (by kernel_rfl) (by kernel_rfl) rfl ?_
  simp only [List.set]
  refine WN.take (v := .pointer (some ⟨ga, 5, none⟩)) (d := 44) (by kernel_rfl) (by kernel_rfl) rfl ?_
  simp only [List.set]
  refine WN.take (v := .bool false) (d := 45) (by kernel_rfl) (by exact ex_load_at (n_bl q2b) rfl rfl) rfl ?_
  simp only [List.set]
  refine WN.take (v := .bool true) (d := 46) (by kernel_rfl) (by kernel_rfl) rfl ?_
  simp only [List.set]
  refine WN.take (v := .bool true) (d := 47) (by kernel_rfl) (by kernel_rfl) rfl ?_
  simp only [List.set]
  refine WN.take (v := .bool true) (d := 48) (by kernel_rfl) (by kernel_rfl) rfl ?_
  simp only [List.set]
  refine WN.take (v := .pointer (some ⟨gb, 5, none⟩)) (d := 49) (by kernel_rfl) (by kernel_rfl) rfl ?_
  simp only [List.set]
  refine WN.take (v := .bool true) (d := 50) (by kernel_rfl) (by exact ex_load_at (n_bl q4) rfl rfl) rfl ?_
  simp only [List.set]
  refine WN.take (v := .bool true) (d := 51) (by kernel_rfl) (by kernel_rfl) rfl ?_
  simp only [List.set]
  refine WN.take (v := .bool true) (d := 52) (by kernel_rfl) (by kernel_rfl) rfl ?_
  simp only [List.set]
  refine WN.take (v := .pointer (some ⟨g3, 0, none⟩)) (d := 53) (by kernel_rfl) (by kernel_rfl) rfl ?_
  simp only [List.set]
  refine WN.take (v := .slice (some ⟨B8, 0, none⟩) 2 2) (d := 54) (by kernel_rfl) (by go_simp; (try with_reducible rfl)) rfl ?_
  simp only [List.set]
  refine WN.take (v := .int .i64 2) (d := 55) (by kernel_rfl) (by kernel_rfl) rfl ?_
  simp only [List.set]
  refine WN.take (v := .bool true) (d := 56) (by kernel_rfl) (by kernel_rfl) rfl ?_
  simp only [List.set]
  refine WN.take (v := .bool true) (d := 57) (by kernel_rfl) (by kernel_rfl) rfl ?_
  simp only [List.set]
  refine WN.take (v := .bool true) (d := 58) (by kernel_rfl) (by kernel_rfl) rfl ?_
  simp only [List.set]
  refine WN.take (v := .pointer (some ⟨g3, 0, none⟩)) (d := 59) (by kernel_rfl) (by kernel_rfl) rfl ?_
  simp only [List.set]
  refine WN.take (v := .slice (some ⟨B8, 0, none⟩) 2 2) (d := 60) (by kernel_rfl) (by go_simp; (try with_reducible rfl)) rfl ?_
  simp only [List.set]
  refine WN.take (v := .pointer (some ⟨B8, 18, none⟩)) (d := 61) (by kernel_rfl) (by go_simp; (try with_reducible rfl)) rfl ?_
  simp only [List.set]
  refine WN.take (v := .pointer (some ⟨B8, 19, none⟩)) (d := 62) (by kernel_rfl) (by kernel_rfl) rfl ?_
  simp only [List.set]
  refine WN.take (v := .pointer (some ⟨B8, 19, none⟩)) (d := 63) (by kernel_rfl) (by kernel_rfl) rfl ?_
  simp only [List.set]
  refine WN.take (v := .int .u8 1) (d := 64) (by kernel_rfl) (by exact ex_load_at (n_u8 qp) rfl rfl) rfl ?_
  simp only [List.set]
  refine WN.take (v := .bool true) (d := 65) (by kernel_rfl) (by kernel_rfl) rfl ?_
  simp only [List.set]
  refine WN.take (v := .bool true) (d := 66) (by kernel_rfl) (by kernel_rfl) rfl ?_
  simp only [List.set]
  refine WN.take (v := .bool true) (d := 5) (by kernel_rfl) (by kernel_rfl) rfl ?_
  simp only [List.set]
  refine WN.none ?_
  clear q2 q2b q4 q3 qp
  have H3 := Lib.hid HN.out.h
  have HB := Lib.hid HN.out.below
  have HG := Lib.hid HN.out.g
  clear HN G1 HP HBS HBS2
  go_upto_region 5 with (first
    | (go_at_call 34; (with_reducible refine (cT _).mono ?_); rintro e w11 ⟨B, g, rfl, t1, t2, h9⟩; have HT : Hid (TwoAt B g w11) := Lib.hid ⟨t1, t2⟩; have HB := Lib.hid (vb HB.out h9); have H3 := Lib.hid (vblkn h9 H3.out); clear h9 t1 t2)
    | (refine w_run ?_ (ea_n3 rfl) ?_; (rfl))
    | (go_at_call 33; (with_reducible refine (c4 _ _ _ HB.out HT.out).mono ?_); rintro e w12 ⟨B4, M4, rfl, ⟨hl, hf⟩, h9⟩; have HB := Lib.hid (vb HB.out h9); have H3 := Lib.hid (vblkn h9 H3.out); have HS := Lib.hid hf; have HBZ := Lib.hid (vb HB.out (vzero w12 (.cells oz26 55))); have HLZ := Lib.hid (hl.up (vzero w12 (.cells oz26 55))); have H3Z := Lib.hid (vblkn (vzero w12 (.cells oz26 55)) H3.out); clear h9 HT hl hf)
    | ((with_reducible refine t_store (cs := #[.slice (some ⟨B4, 0, none⟩) 2 2]) rfl rfl rfl rfl H3Z.out (hi1 _) ?_ (hc1 _ rfl) HBZ.out HG.out ?_); (rfl); intro W13 hb4 hW4 hO4 hz4; have HK := Lib.hid (n5_store H3Z.out HLZ.out (heap_alloc_new w12 (.cells oz26 55)) HB.out.size hb4 hW4 hO4); clear hb4 hW4 hO4 hz4 H3Z HBZ HLZ H3 HB)
    | ((with_reducible refine oq_store (q := yesO true) rfl rfl rfl rfl HK.out.2.1 rfl HK.out.1 HK.out.2.2.1 ?_); intro W14 hb5 hW5 hO5 hz5; have HX := Lib.hid (n5_out HG.out HK.out hb5 hW5 hO5); clear HK hb5 hW5 hO5 hz5 HG))
  generalize w12.heap.size = g6 at *
  (try dsimp only [Act.put])
  go_cut [7, 8] from 26 (fun s7 s8 wx => ∃ g8 : Nat, s8 = .pointer (some ⟨g8, 0, none⟩) ∧ Hid (N6 w g3 g6 g8 B4 wx))
  case first =>
    have HX := Lib.hid (HX.out.up (Below.refl _ _).drew)
    have HM : Hid (W14.heap.size ≤ W14.drew.heap.size) := Lib.hid (Below.refl W14.heap.size W14.drew).size
    have HV : Hid (∀ V V' : World, Below W14.heap.size W14.drew V → Below V.heap.size V V' → Below W14.heap.size W14.drew V') := Lib.hid fun V V' h hb => n_vbm h (Nat.le_refl W14.heap.size) hb
    have HUP := Lib.hid (fun (V : World) (hb : Below W14.heap.size W14.drew V) => HX.out.up hb)
    have hS : Below W14.heap.size W14.drew W14.drew := Below.refl _ _
    clear HX
    refine wp_region_held_drew (S := fun V : World => Below W14.heap.size W14.drew V) (by kernel_rfl) hS (fun hHeld => ?_)
    generalize World.drew W14 = W0 at *
    refine hT 0 74 (.agg #[.slice (some ⟨B4, 0, none⟩) 2 2]) rfl rfl (fun w hSw => ?_) ?_
    · exact ex_load_at (h1_load (HUP.out _ hSw).h) rfl rfl
    simp only [List.set]
    refine aH3 1 8 9 rfl rfl rfl (fun K hK => ?_) (fun K hK => ?_) (fun K hK => ?_)
    ·go_simp
     go_at_call 36
     (with_reducible refine (cKB _).mono ?_)
     rintro e _ ⟨rfl, h9⟩
     have hS := HV.out _ _ hS h9; clear h9; refine hK.out _ _ hS (fun _ => ?_); clear hK K
     refine aH3 2 8 9 rfl rfl rfl (fun K hK => ?_) (fun K hK => ?_) (fun K hK => ?_)
     ·go_simp
      go_at_call 37
      (with_reducible refine (c7 _).mono ?_)
      rintro e _ ⟨rfl, h9⟩
      have hS := HV.out _ _ hS h9; clear h9; refine hK.out _ _ hS (fun _ => ?_); clear hK K
      refine hT 3 77 (.agg (akA (akq 6 1 kyB d7 v0))) rfl rfl (fun w hSw => ?_) ?_
      · exact ea_n4 (k := kyB) (d := d7) rfl rfl rfl
      simp only [List.set]
      refine aH3 4 8 9 rfl rfl rfl (fun K hK => ?_) (fun K hK => ?_) (fun K hK => ?_)
      ·go_simp
       go_at_call 33
       (with_reducible refine (cP _ _ _ (HUP.out _ hS).below (HUP.out _ hS).l HS.out).mono ?_)
       rintro e _ ⟨Bz, rfl, h9⟩
       have hS := HV.out _ _ hS h9; clear h9; refine hK.out _ _ hS (fun _ => ?_); clear hK K
       refine hT 5 73 (.tuple #[.agg #[.slice (some ⟨Bz, 0, none⟩) 2 2], .agg (oqA (yesO false))]) rfl rfl (fun w hSw => ?_) ?_
       · go_simp; (try with_reducible rfl)
       simp only [List.set]
       refine hT 6 79 (.agg #[.slice (some ⟨Bz, 0, none⟩) 2 2]) rfl rfl (fun w hSw => ?_) ?_
       · go_simp; (try with_reducible rfl)
       simp only [List.set]
       refine hT 7 80 (.agg (oqA (yesO false))) rfl rfl (fun w hSw => ?_) ?_
       · go_simp; (try with_reducible rfl)
       simp only [List.set]
       refine aH2 8 9 rfl rfl (fun K hK => ?_) (fun K hK => ?_)
       ·refine aNew (en_hp rfl) rfl hS HM.out hK fun _ gX hS hmgX hx h9 => ?_
        clear h9 hK K; simp only [List.set]
        refine aH1 9 rfl (fun K hK => ?_)
        ·refine aNew (en_oz rfl) rfl hS HM.out hK fun _ gY hS hmgY hy h9 => ?_
         have hx := vblkn h9 hx; clear h9 hK K; simp only [List.set]
         refine aH1 10 rfl fun K hK => ?_
         refine aPut rfl rfl rfl hx (hi1 (.slice (some ⟨Bz, 0, none⟩) 2 2)) rfl (hc1 _ rfl) rfl hS hmgX hK fun _ hS _ hO => ?_
         have hy := (hO gY (blk_ne hx hy)).trans hy; clear hO hK K
         refine aH1 11 rfl fun K hK => ?_
         refine aPut rfl rfl rfl hy (oq_info (yesO false)) rfl (oqA_one (yesO false)) rfl hS hmgY hK fun _ hS hz _ => ?_
         clear hK K; refine wpAnyH_done (by kernel_rfl) ?_ _
         go_wp2_with (fail)
         go_meet
         case rel => exact ⟨_, rfl, Lib.hid ⟨(HUP.out _ hS).below, (HUP.out _ hS).h, (HUP.out _ hS).o, hz, (HUP.out _ hS).g⟩⟩
       ·refine aNew (en_oz rfl) rfl hS HM.out hK fun _ gY hS hmgY hy h9 => ?_
        clear h9 hK K; simp only [List.set]
        refine aH1 8 rfl (fun K hK => ?_)
        ·refine aNew (en_hp rfl) rfl hS HM.out hK fun _ gX hS hmgX hx h9 => ?_
         have hy := vblkn h9 hy; clear h9 hK K; simp only [List.set]
         refine aH1 10 rfl fun K hK => ?_
         refine aPut rfl rfl rfl hx (hi1 (.slice (some ⟨Bz, 0, none⟩) 2 2)) rfl (hc1 _ rfl) rfl hS hmgX hK fun _ hS _ hO => ?_
         have hy := (hO gY (blk_ne hx hy)).trans hy; clear hO hK K
         refine aH1 11 rfl fun K hK => ?_
         refine aPut rfl rfl rfl hy (oq_info (yesO false)) rfl (oqA_one (yesO false)) rfl hS hmgY hK fun _ hS hz _ => ?_
         clear hK K; refine wpAnyH_done (by kernel_rfl) ?_ _
         go_wp2_with (fail)
         go_meet
         case rel => exact ⟨_, rfl, Lib.hid ⟨(HUP.out _ hS).below, (HUP.out _ hS).h, (HUP.out _ hS).o, hz, (HUP.out _ hS).g⟩⟩
      ·refine aNew (en_hp rfl) rfl hS HM.out hK fun _ gX hS hmgX hx h9 => ?_
       clear h9 hK K; simp only [List.set]
       refine aH2 4 9 rfl rfl (fun K hK => ?_) (fun K hK => ?_)
       ·go_simp
        go_at_call 33
        (with_reducible refine (cP _ _ _ (HUP.out _ hS).below (HUP.out _ hS).l HS.out).mono ?_)
        rintro e _ ⟨Bz, rfl, h9⟩
        have hS := HV.out _ _ hS h9; have hx := vblkn h9 hx; clear h9; refine hK.out _ _ hS (fun _ => ?_); clear hK K
        refine hT 5 73 (.tuple #[.agg #[.slice (some ⟨Bz, 0, none⟩) 2 2], .agg (oqA (yesO false))]) rfl rfl (fun w hSw => ?_) ?_
        · go_simp; (try with_reducible rfl)
        simp only [List.set]
        refine hT 6 79 (.agg #[.slice (some ⟨Bz, 0, none⟩) 2 2]) rfl rfl (fun w hSw => ?_) ?_
        · go_simp; (try with_reducible rfl)
        simp only [List.set]
        refine hT 7 80 (.agg (oqA (yesO false))) rfl rfl (fun w hSw => ?_) ?_
        · go_simp; (try with_reducible rfl)
        simp only [List.set]
        refine aH1 9 rfl (fun K hK => ?_)
        ·refine aNew (en_oz rfl) rfl hS HM.out hK fun _ gY hS hmgY hy h9 => ?_
         have hx := vblkn h9 hx; clear h9 hK K; simp only [List.set]
         refine aH1 10 rfl fun K hK => ?_
         refine aPut rfl rfl rfl hx (hi1 (.slice (some ⟨Bz, 0, none⟩) 2 2)) rfl (hc1 _ rfl) rfl hS hmgX hK fun _ hS _ hO => ?_
         have hy := (hO gY (blk_ne hx hy)).trans hy; clear hO hK K
         refine aH1 11 rfl fun K hK => ?_
         refine aPut rfl rfl rfl hy (oq_info (yesO false)) rfl (oqA_one (yesO false)) rfl hS hmgY hK fun _ hS hz _ => ?_
         clear hK K; refine wpAnyH_done (by kernel_rfl) ?_ _
         go_wp2_with (fail)
         go_meet
         case rel => exact ⟨_, rfl, Lib.hid ⟨(HUP.out _ hS).below, (HUP.out _ hS).h, (HUP.out _ hS).o, hz, (HUP.out _ hS).g⟩⟩
       ·refine aNew (en_oz rfl) rfl hS HM.out hK fun _ gY hS hmgY hy h9 => ?_
        have hx := vblkn h9 hx; clear h9 hK K; simp only [List.set]
        refine aH1 4 rfl (fun K hK => ?_)
        ·go_simp
         go_at_call 33
         (with_reducible refine (cP _ _ _ (HUP.out _ hS).below (HUP.out _ hS).l HS.out).mono ?_)
         rintro e _ ⟨Bz, rfl, h9⟩
         have hS := HV.out _ _ hS h9; have hx := vblkn h9 hx; have hy := vblkn h9 hy; clear h9; refine hK.out _ _ hS (fun _ => ?_); clear hK K
         refine hT 5 73 (.tuple #[.agg #[.slice (some ⟨Bz, 0, none⟩) 2 2], .agg (oqA (yesO false))]) rfl rfl (fun w hSw => ?_) ?_
         · go_simp; (try with_reducible rfl)
         simp only [List.set]
         refine hT 6 79 (.agg #[.slice (some ⟨Bz, 0, none⟩) 2 2]) rfl rfl (fun w hSw => ?_) ?_
         · go_simp; (try with_reducible rfl)
         simp only [List.set]
         refine hT 7 80 (.agg (oqA (yesO false))) rfl rfl (fun w hSw => ?_) ?_
         · go_simp; (try with_reducible rfl)
         simp only [List.set]
         refine aH1 10 rfl fun K hK => ?_
         refine aPut rfl rfl rfl hx (hi1 (.slice (some ⟨Bz, 0, none⟩) 2 2)) rfl (hc1 _ rfl) rfl hS hmgX hK fun _ hS _ hO => ?_
         have hy := (hO gY (blk_ne hx hy)).trans hy; clear hO hK K
         refine aH1 11 rfl fun K hK => ?_
         refine aPut rfl rfl rfl hy (oq_info (yesO false)) rfl (oqA_one (yesO false)) rfl hS hmgY hK fun _ hS hz _ => ?_
         clear hK K; refine wpAnyH_done (by kernel_rfl) ?_ _
         go_wp2_with (fail)
         go_meet
         case rel => exact ⟨_, rfl, Lib.hid ⟨(HUP.out _ hS).below, (HUP.out _ hS).h, (HUP.out _ hS).o, hz, (HUP.out _ hS).g⟩⟩
      ·refine aNew (en_oz rfl) rfl hS HM.out hK fun _ gY hS hmgY hy h9 => ?_
       clear h9 hK K; simp only [List.set]
       refine aH2 4 8 rfl rfl (fun K hK => ?_) (fun K hK => ?_)
       ·go_simp
        go_at_call 33
        (with_reducible refine (cP _ _ _ (HUP.out _ hS).below (HUP.out _ hS).l HS.out).mono ?_)
        rintro e _ ⟨Bz, rfl, h9⟩
        have hS := HV.out _ _ hS h9; have hy := vblkn h9 hy; clear h9; refine hK.out _ _ hS (fun _ => ?_); clear hK K
        refine hT 5 73 (.tuple #[.agg #[.slice (some ⟨Bz, 0, none⟩) 2 2], .agg (oqA (yesO false))]) rfl rfl (fun w hSw => ?_) ?_
        · go_simp; (try with_reducible rfl)
        simp only [List.set]
        refine hT 6 79 (.agg #[.slice (some ⟨Bz, 0, none⟩) 2 2]) rfl rfl (fun w hSw => ?_) ?_
        · go_simp; (try with_reducible rfl)
        simp only [List.set]
        refine hT 7 80 (.agg (oqA (yesO false))) rfl rfl (fun w hSw => ?_) ?_
        · go_simp; (try with_reducible rfl)
        simp only [List.set]
        refine aH1 8 rfl (fun K hK => ?_)
        ·refine aNew (en_hp rfl) rfl hS HM.out hK fun _ gX hS hmgX hx h9 => ?_
         have hy := vblkn h9 hy; clear h9 hK K; simp only [List.set]
         refine aH1 10 rfl fun K hK => ?_
         refine aPut rfl rfl rfl hx (hi1 (.slice (some ⟨Bz, 0, none⟩) 2 2)) rfl (hc1 _ rfl) rfl hS hmgX hK fun _ hS _ hO => ?_
         have hy := (hO gY (blk_ne hx hy)).trans hy; clear hO hK K
         refine aH1 11 rfl fun K hK => ?_
         refine aPut rfl rfl rfl hy (oq_info (yesO false)) rfl (oqA_one (yesO false)) rfl hS hmgY hK fun _ hS hz _ => ?_
         clear hK K; refine wpAnyH_done (by kernel_rfl) ?_ _
         go_wp2_with (fail)
         go_meet
         case rel => exact ⟨_, rfl, Lib.hid ⟨(HUP.out _ hS).below, (HUP.out _ hS).h, (HUP.out _ hS).o, hz, (HUP.out _ hS).g⟩⟩
       ·refine aNew (en_hp rfl) rfl hS HM.out hK fun _ gX hS hmgX hx h9 => ?_
        have hy := vblkn h9 hy; clear h9 hK K; simp only [List.set]
        refine aH1 4 rfl (fun K hK => ?_)
        ·go_simp
         go_at_call 33
         (with_reducible refine (cP _ _ _ (HUP.out _ hS).below (HUP.out _ hS).l HS.out).mono ?_)
         rintro e _ ⟨Bz, rfl, h9⟩
         have hS := HV.out _ _ hS h9; have hx := vblkn h9 hx; have hy := vblkn h9 hy; clear h9; refine hK.out _ _ hS (fun _ => ?_); clear hK K
         refine hT 5 73 (.tuple #[.agg #[.slice (some ⟨Bz, 0, none⟩) 2 2], .agg (oqA (yesO false))]) rfl rfl (fun w hSw => ?_) ?_
         · go_simp; (try with_reducible rfl)
         simp only [List.set]
         refine hT 6 79 (.agg #[.slice (some ⟨Bz, 0, none⟩) 2 2]) rfl rfl (fun w hSw => ?_) ?_
         · go_simp; (try with_reducible rfl)
         simp only [List.set]
         refine hT 7 80 (.agg (oqA (yesO false))) rfl rfl (fun w hSw => ?_) ?_
         · go_simp; (try with_reducible rfl)
         simp only [List.set]
         refine aH1 10 rfl fun K hK => ?_
         refine aPut rfl rfl rfl hx (hi1 (.slice (some ⟨Bz, 0, none⟩) 2 2)) rfl (hc1 _ rfl) rfl hS hmgX hK fun _ hS _ hO => ?_
         have hy := (hO gY (blk_ne hx hy)).trans hy; clear hO hK K
         refine aH1 11 rfl fun K hK => ?_
         refine aPut rfl rfl rfl hy (oq_info (yesO false)) rfl (oqA_one (yesO false)) rfl hS hmgY hK fun _ hS hz _ => ?_
         clear hK K; refine wpAnyH_done (by kernel_rfl) ?_ _
         go_wp2_with (fail)
         go_meet
         case rel => exact ⟨_, rfl, Lib.hid ⟨(HUP.out _ hS).below, (HUP.out _ hS).h, (HUP.out _ hS).o, hz, (HUP.out _ hS).g⟩⟩
     ·refine aNew (en_hp rfl) rfl hS HM.out hK fun _ gX hS hmgX hx h9 => ?_
      clear h9 hK K; simp only [List.set]
      refine aH2 2 9 rfl rfl (fun K hK => ?_) (fun K hK => ?_)
      ·go_simp
       go_at_call 37
       (with_reducible refine (c7 _).mono ?_)
       rintro e _ ⟨rfl, h9⟩
       have hS := HV.out _ _ hS h9; have hx := vblkn h9 hx; clear h9; refine hK.out _ _ hS (fun _ => ?_); clear hK K
       refine hT 3 77 (.agg (akA (akq 6 1 kyB d7 v0))) rfl rfl (fun w hSw => ?_) ?_
       · exact ea_n4 (k := kyB) (d := d7) rfl rfl rfl
       simp only [List.set]
       refine aH2 4 9 rfl rfl (fun K hK => ?_) (fun K hK => ?_)
       ·go_simp
        go_at_call 33
        (with_reducible refine (cP _ _ _ (HUP.out _ hS).below (HUP.out _ hS).l HS.out).mono ?_)
        rintro e _ ⟨Bz, rfl, h9⟩
        have hS := HV.out _ _ hS h9; have hx := vblkn h9 hx; clear h9; refine hK.out _ _ hS (fun _ => ?_); clear hK K
        refine hT 5 73 (.tuple #[.agg #[.slice (some ⟨Bz, 0, none⟩) 2 2], .agg (oqA (yesO false))]) rfl rfl (fun w hSw => ?_) ?_
        · go_simp; (try with_reducible rfl)
        simp only [List.set]
        refine hT 6 79 (.agg #[.slice (some ⟨Bz, 0, none⟩) 2 2]) rfl rfl (fun w hSw => ?_) ?_
        · go_simp; (try with_reducible rfl)
        simp only [List.set]
        refine hT 7 80 (.agg (oqA (yesO false))) rfl rfl (fun w hSw => ?_) ?_
        · go_simp; (try with_reducible rfl)
        simp only [List.set]
        refine aH1 9 rfl (fun K hK => ?_)
        ·refine aNew (en_oz rfl) rfl hS HM.out hK fun _ gY hS hmgY hy h9 => ?_
         have hx := vblkn h9 hx; clear h9 hK K; simp only [List.set]
         refine aH1 10 rfl fun K hK => ?_
         refine aPut rfl rfl rfl hx (hi1 (.slice (some ⟨Bz, 0, none⟩) 2 2)) rfl (hc1 _ rfl) rfl hS hmgX hK fun _ hS _ hO => ?_
         have hy := (hO gY (blk_ne hx hy)).trans hy; clear hO hK K
         refine aH1 11 rfl fun K hK => ?_
         refine aPut rfl rfl rfl hy (oq_info (yesO false)) rfl (oqA_one (yesO false)) rfl hS hmgY hK fun _ hS hz _ => ?_
         clear hK K; refine wpAnyH_done (by kernel_rfl) ?_ _
         go_wp2_with (fail)
         go_meet
         case rel => exact ⟨_, rfl, Lib.hid ⟨(HUP.out _ hS).below, (HUP.out _ hS).h, (HUP.out _ hS).o, hz, (HUP.out _ hS).g⟩⟩
       ·refine aNew (en_oz rfl) rfl hS HM.out hK fun _ gY hS hmgY hy h9 => ?_
        have hx := vblkn h9 hx; clear h9 hK K; simp only [List.set]
        refine aH1 4 rfl (fun K hK => ?_)
        ·go_simp
         go_at_call 33
         (with_reducible refine (cP _ _ _ (HUP.out _ hS).below (HUP.out _ hS).l HS.out).mono ?_)
         rintro e _ ⟨Bz, rfl, h9⟩
         have hS := HV.out _ _ hS h9; have hx := vblkn h9 hx; have hy := vblkn h9 hy; clear h9; refine hK.out _ _ hS (fun _ => ?_); clear hK K
         refine hT 5 73 (.tuple #[.agg #[.slice (some ⟨Bz, 0, none⟩) 2 2], .agg (oqA (yesO false))]) rfl rfl (fun w hSw => ?_) ?_
         · go_simp; (try with_reducible rfl)
         simp only [List.set]
         refine hT 6 79 (.agg #[.slice (some ⟨Bz, 0, none⟩) 2 2]) rfl rfl (fun w hSw => ?_) ?_
         · go_simp; (try with_reducible rfl)
         simp only [List.set]
         refine hT 7 80 (.agg (oqA (yesO false))) rfl rfl (fun w hSw => ?_) ?_
         · go_simp; (try with_reducible rfl)
         simp only [List.set]
         refine aH1 10 rfl fun K hK => ?_
         refine aPut rfl rfl rfl hx (hi1 (.slice (some ⟨Bz, 0, none⟩) 2 2)) rfl (hc1 _ rfl) rfl hS hmgX hK fun _ hS _ hO => ?_
         have hy := (hO gY (blk_ne hx hy)).trans hy; clear hO hK K
         refine aH1 11 rfl fun K hK => ?_
         refine aPut rfl rfl rfl hy (oq_info (yesO false)) rfl (oqA_one (yesO false)) rfl hS hmgY hK fun _ hS hz _ => ?_
         clear hK K; refine wpAnyH_done (by kernel_rfl) ?_ _
         go_wp2_with (fail)
         go_meet
         case rel => exact ⟨_, rfl, Lib.hid ⟨(HUP.out _ hS).below, (HUP.out _ hS).h, (HUP.out _ hS).o, hz, (HUP.out _ hS).g⟩⟩
      ·refine aNew (en_oz rfl) rfl hS HM.out hK fun _ gY hS hmgY hy h9 => ?_
       have hx := vblkn h9 hx; clear h9 hK K; simp only [List.set]
       refine aH1 2 rfl (fun K hK => ?_)
       ·go_simp
        go_at_call 37
        (with_reducible refine (c7 _).mono ?_)
        rintro e _ ⟨rfl, h9⟩
        have hS := HV.out _ _ hS h9; have hx := vblkn h9 hx; have hy := vblkn h9 hy; clear h9; refine hK.out _ _ hS (fun _ => ?_); clear hK K
        refine hT 3 77 (.agg (akA (akq 6 1 kyB d7 v0))) rfl rfl (fun w hSw => ?_) ?_
        · exact ea_n4 (k := kyB) (d := d7) rfl rfl rfl
        simp only [List.set]
        refine aH1 4 rfl (fun K hK => ?_)
        ·go_simp
         go_at_call 33
         (with_reducible refine (cP _ _ _ (HUP.out _ hS).below (HUP.out _ hS).l HS.out).mono ?_)
         rintro e _ ⟨Bz, rfl, h9⟩
         have hS := HV.out _ _ hS h9; have hx := vblkn h9 hx; have hy := vblkn h9 hy; clear h9; refine hK.out _ _ hS (fun _ => ?_); clear hK K
         refine hT 5 73 (.tuple #[.agg #[.slice (some ⟨Bz, 0, none⟩) 2 2], .agg (oqA (yesO false))]) rfl rfl (fun w hSw => ?_) ?_
         · go_simp; (try with_reducible rfl)
         simp only [List.set]
         refine hT 6 79 (.agg #[.slice (some ⟨Bz, 0, none⟩) 2 2]) rfl rfl (fun w hSw => ?_) ?_
         · go_simp; (try with_reducible rfl)
         simp only [List.set]
         refine hT 7 80 (.agg (oqA (yesO false))) rfl rfl (fun w hSw => ?_) ?_
         · go_simp; (try with_reducible rfl)
         simp only [List.set]
         refine aH1 10 rfl fun K hK => ?_
         refine aPut rfl rfl rfl hx (hi1 (.slice (some ⟨Bz, 0, none⟩) 2 2)) rfl (hc1 _ rfl) rfl hS hmgX hK fun _ hS _ hO => ?_
         have hy := (hO gY (blk_ne hx hy)).trans hy; clear hO hK K
         refine aH1 11 rfl fun K hK => ?_
         refine aPut rfl rfl rfl hy (oq_info (yesO false)) rfl (oqA_one (yesO false)) rfl hS hmgY hK fun _ hS hz _ => ?_
         clear hK K; refine wpAnyH_done (by kernel_rfl) ?_ _
         go_wp2_with (fail)
         go_meet
         case rel => exact ⟨_, rfl, Lib.hid ⟨(HUP.out _ hS).below, (HUP.out _ hS).h, (HUP.out _ hS).o, hz, (HUP.out _ hS).g⟩⟩
     ·refine aNew (en_oz rfl) rfl hS HM.out hK fun _ gY hS hmgY hy h9 => ?_
      clear h9 hK K; simp only [List.set]
      refine aH2 2 8 rfl rfl (fun K hK => ?_) (fun K hK => ?_)
      ·go_simp
       go_at_call 37
       (with_reducible refine (c7 _).mono ?_)
       rintro e _ ⟨rfl, h9⟩
       have hS := HV.out _ _ hS h9; have hy := vblkn h9 hy; clear h9; refine hK.out _ _ hS (fun _ => ?_); clear hK K
       refine hT 3 77 (.agg (akA (akq 6 1 kyB d7 v0))) rfl rfl (fun w hSw => ?_) ?_
       · exact ea_n4 (k := kyB) (d := d7) rfl rfl rfl
       simp only [List.set]
       refine aH2 4 8 rfl rfl (fun K hK => ?_) (fun K hK => ?_)
       ·go_simp
        go_at_call 33
        (with_reducible refine (cP _ _ _ (HUP.out _ hS).below (HUP.out _ hS).l HS.out).mono ?_)
        rintro e _ ⟨Bz, rfl, h9⟩
        have hS := HV.out _ _ hS h9; have hy := vblkn h9 hy; clear h9; refine hK.out _ _ hS (fun _ => ?_); clear hK K
        refine hT 5 73 (.tuple #[.agg #[.slice (some ⟨Bz, 0, none⟩) 2 2], .agg (oqA (yesO false))]) rfl rfl (fun w hSw => ?_) ?_
        · go_simp; (try with_reducible rfl)
        simp only [List.set]
        refine hT 6 79 (.agg #[.slice (some ⟨Bz, 0, none⟩) 2 2]) rfl rfl (fun w hSw => ?_) ?_
        · go_simp; (try with_reducible rfl)
        simp only [List.set]
        refine hT 7 80 (.agg (oqA (yesO false))) rfl rfl (fun w hSw => ?_) ?_
        · go_simp; (try with_reducible rfl)
        simp only [List.set]
        refine aH1 8 rfl (fun K hK => ?_)
        ·refine aNew (en_hp rfl) rfl hS HM.out hK fun _ gX hS hmgX hx h9 => ?_
         have hy := vblkn h9 hy; clear h9 hK K; simp only [List.set]
         refine aH1 10 rfl fun K hK => ?_
         refine aPut rfl rfl rfl hx (hi1 (.slice (some ⟨Bz, 0, none⟩) 2 2)) rfl (hc1 _ rfl) rfl hS hmgX hK fun _ hS _ hO => ?_
         have hy := (hO gY (blk_ne hx hy)).trans hy; clear hO hK K
         refine aH1 11 rfl fun K hK => ?_
         refine aPut rfl rfl rfl hy (oq_info (yesO false)) rfl (oqA_one (yesO false)) rfl hS hmgY hK fun _ hS hz _ => ?_
         clear hK K; refine wpAnyH_done (by kernel_rfl) ?_ _
         go_wp2_with (fail)
         go_meet
         case rel => exact ⟨_, rfl, Lib.hid ⟨(HUP.out _ hS).below, (HUP.out _ hS).h, (HUP.out _ hS).o, hz, (HUP.out _ hS).g⟩⟩
       ·refine aNew (en_hp rfl) rfl hS HM.out hK fun _ gX hS hmgX hx h9 => ?_
        have hy := vblkn h9 hy; clear h9 hK K; simp only [List.set]
        refine aH1 4 rfl (fun K hK => ?_)
        ·go_simp
         go_at_call 33
         (with_reducible refine (cP _ _ _ (HUP.out _ hS).below (HUP.out _ hS).l HS.out).mono ?_)
         rintro e _ ⟨Bz, rfl, h9⟩
         have hS := HV.out _ _ hS h9; have hx := vblkn h9 hx; have hy := vblkn h9 hy; clear h9; refine hK.out _ _ hS (fun _ => ?_); clear hK K
         refine hT 5 73 (.tuple #[.agg #[.slice (some ⟨Bz, 0, none⟩) 2 2], .agg (oqA (yesO false))]) rfl rfl (fun w hSw => ?_) ?_
         · go_simp; (try with_reducible rfl)
         simp only [List.set]
         refine hT 6 79 (.agg #[.slice (some ⟨Bz, 0, none⟩) 2 2]) rfl rfl (fun w hSw => ?_) ?_
         · go_simp; (try with_reducible rfl)
         simp only [List.set]
         refine hT 7 80 (.agg (oqA (yesO false))) rfl rfl (fun w hSw => ?_) ?_
         · go_simp; (try with_reducible rfl)
         simp only [List.set]
         refine aH1 10 rfl fun K hK => ?_
         refine aPut rfl rfl rfl hx (hi1 (.slice (some ⟨Bz, 0, none⟩) 2 2)) rfl (hc1 _ rfl) rfl hS hmgX hK fun _ hS _ hO => ?_
         have hy := (hO gY (blk_ne hx hy)).trans hy; clear hO hK K
         refine aH1 11 rfl fun K hK => ?_
         refine aPut rfl rfl rfl hy (oq_info (yesO false)) rfl (oqA_one (yesO false)) rfl hS hmgY hK fun _ hS hz _ => ?_
         clear hK K; refine wpAnyH_done (by kernel_rfl) ?_ _
         go_wp2_with (fail)
         go_meet
         case rel => exact ⟨_, rfl, Lib.hid ⟨(HUP.out _ hS).below, (HUP.out _ hS).h, (HUP.out _ hS).o, hz, (HUP.out _ hS).g⟩⟩
      ·refine aNew (en_hp rfl) rfl hS HM.out hK fun _ gX hS hmgX hx h9 => ?_
       have hy := vblkn h9 hy; clear h9 hK K; simp only [List.set]
       refine aH1 2 rfl (fun K hK => ?_)
       ·go_simp
        go_at_call 37
        (with_reducible refine (c7 _).mono ?_)
        rintro e _ ⟨rfl, h9⟩
        have hS := HV.out _ _ hS h9; have hx := vblkn h9 hx; have hy := vblkn h9 hy; clear h9; refine hK.out _ _ hS (fun _ => ?_); clear hK K
        refine hT 3 77 (.agg (akA (akq 6 1 kyB d7 v0))) rfl rfl (fun w hSw => ?_) ?_
        · exact ea_n4 (k := kyB) (d := d7) rfl rfl rfl
        simp only [List.set]
        refine aH1 4 rfl (fun K hK => ?_)
        ·go_simp
         go_at_call 33
         (with_reducible refine (cP _ _ _ (HUP.out _ hS).below (HUP.out _ hS).l HS.out).mono ?_)
         rintro e _ ⟨Bz, rfl, h9⟩
         have hS := HV.out _ _ hS h9; have hx := vblkn h9 hx; have hy := vblkn h9 hy; clear h9; refine hK.out _ _ hS (fun _ => ?_); clear hK K
         refine hT 5 73 (.tuple #[.agg #[.slice (some ⟨Bz, 0, none⟩) 2 2], .agg (oqA (yesO false))]) rfl rfl (fun w hSw => ?_) ?_
         · go_simp; (try with_reducible rfl)
         simp only [List.set]
         refine hT 6 79 (.agg #[.slice (some ⟨Bz, 0, none⟩) 2 2]) rfl rfl (fun w hSw => ?_) ?_
         · go_simp; (try with_reducible rfl)
         simp only [List.set]
         refine hT 7 80 (.agg (oqA (yesO false))) rfl rfl (fun w hSw => ?_) ?_
         · go_simp; (try with_reducible rfl)
         simp only [List.set]
         refine aH1 10 rfl fun K hK => ?_
         refine aPut rfl rfl rfl hx (hi1 (.slice (some ⟨Bz, 0, none⟩) 2 2)) rfl (hc1 _ rfl) rfl hS hmgX hK fun _ hS _ hO => ?_
         have hy := (hO gY (blk_ne hx hy)).trans hy; clear hO hK K
         refine aH1 11 rfl fun K hK => ?_
         refine aPut rfl rfl rfl hy (oq_info (yesO false)) rfl (oqA_one (yesO false)) rfl hS hmgY hK fun _ hS hz _ => ?_
         clear hK K; refine wpAnyH_done (by kernel_rfl) ?_ _
         go_wp2_with (fail)
         go_meet
         case rel => exact ⟨_, rfl, Lib.hid ⟨(HUP.out _ hS).below, (HUP.out _ hS).h, (HUP.out _ hS).o, hz, (HUP.out _ hS).g⟩⟩
    ·refine aNew (en_hp rfl) rfl hS HM.out hK fun _ gX hS hmgX hx h9 => ?_
     clear h9 hK K; simp only [List.set]
     refine aH2 1 9 rfl rfl (fun K hK => ?_) (fun K hK => ?_)
     ·go_simp
      go_at_call 36
      (with_reducible refine (cKB _).mono ?_)
      rintro e _ ⟨rfl, h9⟩
      have hS := HV.out _ _ hS h9; have hx := vblkn h9 hx; clear h9; refine hK.out _ _ hS (fun _ => ?_); clear hK K
      refine aH2 2 9 rfl rfl (fun K hK => ?_) (fun K hK => ?_)
      ·go_simp
       go_at_call 37
       (with_reducible refine (c7 _).mono ?_)
       rintro e _ ⟨rfl, h9⟩
       have hS := HV.out _ _ hS h9; have hx := vblkn h9 hx; clear h9; refine hK.out _ _ hS (fun _ => ?_); clear hK K
       refine hT 3 77 (.agg (akA (akq 6 1 kyB d7 v0))) rfl rfl (fun w hSw => ?_) ?_
       · exact ea_n4 (k := kyB) (d := d7) rfl rfl rfl
       simp only [List.set]
       refine aH2 4 9 rfl rfl (fun K hK => ?_) (fun K hK => ?_)
       ·go_simp
        go_at_call 33
        (with_reducible refine (cP _ _ _ (HUP.out _ hS).below (HUP.out _ hS).l HS.out).mono ?_)
        rintro e _ ⟨Bz, rfl, h9⟩
        have hS := HV.out _ _ hS h9; have hx := vblkn h9 hx; clear h9; refine hK.out _ _ hS (fun _ => ?_); clear hK K
        refine hT 5 73 (.tuple #[.agg #[.slice (some ⟨Bz, 0, none⟩) 2 2], .agg (oqA (yesO false))]) rfl rfl (fun w hSw => ?_) ?_
        · go_simp; (try with_reducible rfl)
        simp only [List.set]
        refine hT 6 79 (.agg #[.slice (some ⟨Bz, 0, none⟩) 2 2]) rfl rfl (fun w hSw => ?_) ?_
        · go_simp; (try with_reducible rfl)
        simp only [List.set]
        refine hT 7 80 (.agg (oqA (yesO false))) rfl rfl (fun w hSw => ?_) ?_
        · go_simp; (try with_reducible rfl)
        simp only [List.set]
        refine aH1 9 rfl (fun K hK => ?_)
        ·refine aNew (en_oz rfl) rfl hS HM.out hK fun _ gY hS hmgY hy h9 => ?_
         have hx := vblkn h9 hx; clear h9 hK K; simp only [List.set]
         refine aH1 10 rfl fun K hK => ?_
         refine aPut rfl rfl rfl hx (hi1 (.slice (some ⟨Bz, 0, none⟩) 2 2)) rfl (hc1 _ rfl) rfl hS hmgX hK fun _ hS _ hO => ?_
         have hy := (hO gY (blk_ne hx hy)).trans hy; clear hO hK K
         refine aH1 11 rfl fun K hK => ?_
         refine aPut rfl rfl rfl hy (oq_info (yesO false)) rfl (oqA_one (yesO false)) rfl hS hmgY hK fun _ hS hz _ => ?_
         clear hK K; refine wpAnyH_done (by kernel_rfl) ?_ _
         go_wp2_with (fail)
         go_meet
         case rel => exact ⟨_, rfl, Lib.hid ⟨(HUP.out _ hS).below, (HUP.out _ hS).h, (HUP.out _ hS).o, hz, (HUP.out _ hS).g⟩⟩
       ·refine aNew (en_oz rfl) rfl hS HM.out hK fun _ gY hS hmgY hy h9 => ?_
        have hx := vblkn h9 hx; clear h9 hK K; simp only [List.set]
        refine aH1 4 rfl (fun K hK => ?_)
        ·go_simp
         go_at_call 33
         (with_reducible refine (cP _ _ _ (HUP.out _ hS).below (HUP.out _ hS).l HS.out).mono ?_)
         rintro e _ ⟨Bz, rfl, h9⟩
         have hS := HV.out _ _ hS h9; have hx := vblkn h9 hx; have hy := vblkn h9 hy; clear h9; refine hK.out _ _ hS (fun _ => ?_); clear hK K
         refine hT 5 73 (.tuple #[.agg #[.slice (some ⟨Bz, 0, none⟩) 2 2], .agg (oqA (yesO false))]) rfl rfl (fun w hSw => ?_) ?_
         · go_simp; (try with_reducible rfl)
         simp only [List.set]
         refine hT 6 79 (.agg #[.slice (some ⟨Bz, 0, none⟩) 2 2]) rfl rfl (fun w hSw => ?_) ?_
         · go_simp; (try with_reducible rfl)
         simp only [List.set]
         refine hT 7 80 (.agg (oqA (yesO false))) rfl rfl (fun w hSw => ?_) ?_
         · go_simp; (try with_reducible rfl)
         simp only [List.set]
         refine aH1 10 rfl fun K hK => ?_
         refine aPut rfl rfl rfl hx (hi1 (.slice (some ⟨Bz, 0, none⟩) 2 2)) rfl (hc1 _ rfl) rfl hS hmgX hK fun _ hS _ hO => ?_
         have hy := (hO gY (blk_ne hx hy)).trans hy; clear hO hK K
         refine aH1 11 rfl fun K hK => ?_
         refine aPut rfl rfl rfl hy (oq_info (yesO false)) rfl (oqA_one (yesO false)) rfl hS hmgY hK fun _ hS hz _ => ?_
         clear hK K; refine wpAnyH_done (by kernel_rfl) ?_ _
         go_wp2_with (fail)
         go_meet
         case rel => exact ⟨_, rfl, Lib.hid ⟨(HUP.out _ hS).below, (HUP.out _ hS).h, (HUP.out _ hS).o, hz, (HUP.out _ hS).g⟩⟩
      ·refine aNew (en_oz rfl) rfl hS HM.out hK fun _ gY hS hmgY hy h9 => ?_
       have hx := vblkn h9 hx; clear h9 hK K; simp only [List.set]
       refine aH1 2 rfl (fun K hK => ?_)
       ·go_simp
        go_at_call 37
        (with_reducible refine (c7 _).mono ?_)
        rintro e _ ⟨rfl, h9⟩
        have hS := HV.out _ _ hS h9; have hx := vblkn h9 hx; have hy := vblkn h9 hy; clear h9; refine hK.out _ _ hS (fun _ => ?_); clear hK K
        refine hT 3 77 (.agg (akA (akq 6 1 kyB d7 v0))) rfl rfl (fun w hSw => ?_) ?_
        · exact ea_n4 (k := kyB) (d := d7) rfl rfl rfl
        simp only [List.set]
        refine aH1 4 rfl (fun K hK => ?_)
        ·go_simp
         go_at_call 33
         (with_reducible refine (cP _ _ _ (HUP.out _ hS).below (HUP.out _ hS).l HS.out).mono ?_)
         rintro e _ ⟨Bz, rfl, h9⟩
         have hS := HV.out _ _ hS h9; have hx := vblkn h9 hx; have hy := vblkn h9 hy; clear h9; refine hK.out _ _ hS (fun _ => ?_); clear hK K
         refine hT 5 73 (.tuple #[.agg #[.slice (some ⟨Bz, 0, none⟩) 2 2], .agg (oqA (yesO false))]) rfl rfl (fun w hSw => ?_) ?_
         · go_simp; (try with_reducible rfl)
         simp only [List.set]
         refine hT 6 79 (.agg #[.slice (some ⟨Bz, 0, none⟩) 2 2]) rfl rfl (fun w hSw => ?_) ?_
         · go_simp; (try with_reducible rfl)
         simp only [List.set]
         refine hT 7 80 (.agg (oqA (yesO false))) rfl rfl (fun w hSw => ?_) ?_
         · go_simp; (try with_reducible rfl)
         simp only [List.set]
         refine aH1 10 rfl fun K hK => ?_
         refine aPut rfl rfl rfl hx (hi1 (.slice (some ⟨Bz, 0, none⟩) 2 2)) rfl (hc1 _ rfl) rfl hS hmgX hK fun _ hS _ hO => ?_
         have hy := (hO gY (blk_ne hx hy)).trans hy; clear hO hK K
         refine aH1 11 rfl fun K hK => ?_
         refine aPut rfl rfl rfl hy (oq_info (yesO false)) rfl (oqA_one (yesO false)) rfl hS hmgY hK fun _ hS hz _ => ?_
         clear hK K; refine wpAnyH_done (by kernel_rfl) ?_ _
         go_wp2_with (fail)
         go_meet
         case rel => exact ⟨_, rfl, Lib.hid ⟨(HUP.out _ hS).below, (HUP.out _ hS).h, (HUP.out _ hS).o, hz, (HUP.out _ hS).g⟩⟩
     ·refine aNew (en_oz rfl) rfl hS HM.out hK fun _ gY hS hmgY hy h9 => ?_
      have hx := vblkn h9 hx; clear h9 hK K; simp only [List.set]
      refine aH1 1 rfl (fun K hK => ?_)
      ·go_simp
       go_at_call 36
       (with_reducible refine (cKB _).mono ?_)
       rintro e _ ⟨rfl, h9⟩
       have hS := HV.out _ _ hS h9; have hx := vblkn h9 hx; have hy := vblkn h9 hy; clear h9; refine hK.out _ _ hS (fun _ => ?_); clear hK K
       refine aH1 2 rfl (fun K hK => ?_)
       ·go_simp
        go_at_call 37
        (with_reducible refine (c7 _).mono ?_)
        rintro e _ ⟨rfl, h9⟩
        have hS := HV.out _ _ hS h9; have hx := vblkn h9 hx; have hy := vblkn h9 hy; clear h9; refine hK.out _ _ hS (fun _ => ?_); clear hK K
        refine hT 3 77 (.agg (akA (akq 6 1 kyB d7 v0))) rfl rfl (fun w hSw => ?_) ?_
        · exact ea_n4 (k := kyB) (d := d7) rfl rfl rfl
        simp only [List.set]
        refine aH1 4 rfl (fun K hK => ?_)
        ·go_simp
         go_at_call 33
         (with_reducible refine (cP _ _ _ (HUP.out _ hS).below (HUP.out _ hS).l HS.out).mono ?_)
         rintro e _ ⟨Bz, rfl, h9⟩
         have hS := HV.out _ _ hS h9; have hx := vblkn h9 hx; have hy := vblkn h9 hy; clear h9; refine hK.out _ _ hS (fun _ => ?_); clear hK K
         refine hT 5 73 (.tuple #[.agg #[.slice (some ⟨Bz, 0, none⟩) 2 2], .agg (oqA (yesO false))]) rfl rfl (fun w hSw => ?_) ?_
         · go_simp; (try with_reducible rfl)
         simp only [List.set]
         refine hT 6 79 (.agg #[.slice (some ⟨Bz, 0, none⟩) 2 2]) rfl rfl (fun w hSw => ?_) ?_
         · go_simp; (try with_reducible rfl)
         simp only [List.set]
         refine hT 7 80 (.agg (oqA (yesO false))) rfl rfl (fun w hSw => ?_) ?_
         · go_simp; (try with_reducible rfl)
         simp only [List.set]
         refine aH1 10 rfl fun K hK => ?_
         refine aPut rfl rfl rfl hx (hi1 (.slice (some ⟨Bz, 0, none⟩) 2 2)) rfl (hc1 _ rfl) rfl hS hmgX hK fun _ hS _ hO => ?_
         have hy := (hO gY (blk_ne hx hy)).trans hy; clear hO hK K
         refine aH1 11 rfl fun K hK => ?_
         refine aPut rfl rfl rfl hy (oq_info (yesO false)) rfl (oqA_one (yesO false)) rfl hS hmgY hK fun _ hS hz _ => ?_
         clear hK K; refine wpAnyH_done (by kernel_rfl) ?_ _
         go_wp2_with (fail)
         go_meet
         case rel => exact ⟨_, rfl, Lib.hid ⟨(HUP.out _ hS).below, (HUP.out _ hS).h, (HUP.out _ hS).o, hz, (HUP.out _ hS).g⟩⟩
    ·refine aNew (en_oz rfl) rfl hS HM.out hK fun _ gY hS hmgY hy h9 => ?_
     clear h9 hK K; simp only [List.set]
     refine aH2 1 8 rfl rfl (fun K hK => ?_) (fun K hK => ?_)
     ·go_simp
      go_at_call 36
      (with_reducible refine (cKB _).mono ?_)
      rintro e _ ⟨rfl, h9⟩
      have hS := HV.out _ _ hS h9; have hy := vblkn h9 hy; clear h9; refine hK.out _ _ hS (fun _ => ?_); clear hK K
      refine aH2 2 8 rfl rfl (fun K hK => ?_) (fun K hK => ?_)
      ·go_simp
       go_at_call 37
       (with_reducible refine (c7 _).mono ?_)
       rintro e _ ⟨rfl, h9⟩
       have hS := HV.out _ _ hS h9; have hy := vblkn h9 hy; clear h9; refine hK.out _ _ hS (fun _ => ?_); clear hK K
       refine hT 3 77 (.agg (akA (akq 6 1 kyB d7 v0))) rfl rfl (fun w hSw => ?_) ?_
       · exact ea_n4 (k := kyB) (d := d7) rfl rfl rfl
       simp only [List.set]
       refine aH2 4 8 rfl rfl (fun K hK => ?_) (fun K hK => ?_)
       ·go_simp
        go_at_call 33
        (with_reducible refine (cP _ _ _ (HUP.out _ hS).below (HUP.out _ hS).l HS.out).mono ?_)
        rintro e _ ⟨Bz, rfl, h9⟩
        have hS := HV.out _ _ hS h9; have hy := vblkn h9 hy; clear h9; refine hK.out _ _ hS (fun _ => ?_); clear hK K
        refine hT 5 73 (.tuple #[.agg #[.slice (some ⟨Bz, 0, none⟩) 2 2], .agg (oqA (yesO false))]) rfl rfl (fun w hSw => ?_) ?_
        · go_simp; (try with_reducible rfl)
        simp only [List.set]
        refine hT 6 79 (.agg #[.slice (some ⟨Bz, 0, none⟩) 2 2]) rfl rfl (fun w hSw => ?_) ?_
        · go_simp; (try with_reducible rfl)
        simp only [List.set]
        refine hT 7 80 (.agg (oqA (yesO false))) rfl rfl (fun w hSw => ?_) ?_
        · go_simp; (try with_reducible rfl)
        simp only [List.set]
        refine aH1 8 rfl (fun K hK => ?_)
        ·refine aNew (en_hp rfl) rfl hS HM.out hK fun _ gX hS hmgX hx h9 => ?_
         have hy := vblkn h9 hy; clear h9 hK K; simp only [List.set]
         refine aH1 10 rfl fun K hK => ?_
         refine aPut rfl rfl rfl hx (hi1 (.slice (some ⟨Bz, 0, none⟩) 2 2)) rfl (hc1 _ rfl) rfl hS hmgX hK fun _ hS _ hO => ?_
         have hy := (hO gY (blk_ne hx hy)).trans hy; clear hO hK K
         refine aH1 11 rfl fun K hK => ?_
         refine aPut rfl rfl rfl hy (oq_info (yesO false)) rfl (oqA_one (yesO false)) rfl hS hmgY hK fun _ hS hz _ => ?_
         clear hK K; refine wpAnyH_done (by kernel_rfl) ?_ _
         go_wp2_with (fail)
         go_meet
         case rel => exact ⟨_, rfl, Lib.hid ⟨(HUP.out _ hS).below, (HUP.out _ hS).h, (HUP.out _ hS).o, hz, (HUP.out _ hS).g⟩⟩
       ·refine aNew (en_hp rfl) rfl hS HM.out hK fun _ gX hS hmgX hx h9 => ?_
        have hy := vblkn h9 hy; clear h9 hK K; simp only [List.set]
        refine aH1 4 rfl (fun K hK => ?_)
        ·go_simp
         go_at_call 33
         (with_reducible refine (cP _ _ _ (HUP.out _ hS).below (HUP.out _ hS).l HS.out).mono ?_)
         rintro e _ ⟨Bz, rfl, h9⟩
         have hS := HV.out _ _ hS h9; have hx := vblkn h9 hx; have hy := vblkn h9 hy; clear h9; refine hK.out _ _ hS (fun _ => ?_); clear hK K
         refine hT 5 73 (.tuple #[.agg #[.slice (some ⟨Bz, 0, none⟩) 2 2], .agg (oqA (yesO false))]) rfl rfl (fun w hSw => ?_) ?_
         · go_simp; (try with_reducible rfl)
         simp only [List.set]
         refine hT 6 79 (.agg #[.slice (some ⟨Bz, 0, none⟩) 2 2]) rfl rfl (fun w hSw => ?_) ?_
         · go_simp; (try with_reducible rfl)
         simp only [List.set]
         refine hT 7 80 (.agg (oqA (yesO false))) rfl rfl (fun w hSw => ?_) ?_
         · go_simp; (try with_reducible rfl)
         simp only [List.set]
         refine aH1 10 rfl fun K hK => ?_
         refine aPut rfl rfl rfl hx (hi1 (.slice (some ⟨Bz, 0, none⟩) 2 2)) rfl (hc1 _ rfl) rfl hS hmgX hK fun _ hS _ hO => ?_
         have hy := (hO gY (blk_ne hx hy)).trans hy; clear hO hK K
         refine aH1 11 rfl fun K hK => ?_
         refine aPut rfl rfl rfl hy (oq_info (yesO false)) rfl (oqA_one (yesO false)) rfl hS hmgY hK fun _ hS hz _ => ?_
         clear hK K; refine wpAnyH_done (by kernel_rfl) ?_ _
         go_wp2_with (fail)
         go_meet
         case rel => exact ⟨_, rfl, Lib.hid ⟨(HUP.out _ hS).below, (HUP.out _ hS).h, (HUP.out _ hS).o, hz, (HUP.out _ hS).g⟩⟩
      ·refine aNew (en_hp rfl) rfl hS HM.out hK fun _ gX hS hmgX hx h9 => ?_
       have hy := vblkn h9 hy; clear h9 hK K; simp only [List.set]
       refine aH1 2 rfl (fun K hK => ?_)
       ·go_simp
        go_at_call 37
        (with_reducible refine (c7 _).mono ?_)
        rintro e _ ⟨rfl, h9⟩
        have hS := HV.out _ _ hS h9; have hx := vblkn h9 hx; have hy := vblkn h9 hy; clear h9; refine hK.out _ _ hS (fun _ => ?_); clear hK K
        refine hT 3 77 (.agg (akA (akq 6 1 kyB d7 v0))) rfl rfl (fun w hSw => ?_) ?_
        · exact ea_n4 (k := kyB) (d := d7) rfl rfl rfl
        simp only [List.set]
        refine aH1 4 rfl (fun K hK => ?_)
        ·go_simp
         go_at_call 33
         (with_reducible refine (cP _ _ _ (HUP.out _ hS).below (HUP.out _ hS).l HS.out).mono ?_)
         rintro e _ ⟨Bz, rfl, h9⟩
         have hS := HV.out _ _ hS h9; have hx := vblkn h9 hx; have hy := vblkn h9 hy; clear h9; refine hK.out _ _ hS (fun _ => ?_); clear hK K
         refine hT 5 73 (.tuple #[.agg #[.slice (some ⟨Bz, 0, none⟩) 2 2], .agg (oqA (yesO false))]) rfl rfl (fun w hSw => ?_) ?_
         · go_simp; (try with_reducible rfl)
         simp only [List.set]
         refine hT 6 79 (.agg #[.slice (some ⟨Bz, 0, none⟩) 2 2]) rfl rfl (fun w hSw => ?_) ?_
         · go_simp; (try with_reducible rfl)
         simp only [List.set]
         refine hT 7 80 (.agg (oqA (yesO false))) rfl rfl (fun w hSw => ?_) ?_
         · go_simp; (try with_reducible rfl)
         simp only [List.set]
         refine aH1 10 rfl fun K hK => ?_
         refine aPut rfl rfl rfl hx (hi1 (.slice (some ⟨Bz, 0, none⟩) 2 2)) rfl (hc1 _ rfl) rfl hS hmgX hK fun _ hS _ hO => ?_
         have hy := (hO gY (blk_ne hx hy)).trans hy; clear hO hK K
         refine aH1 11 rfl fun K hK => ?_
         refine aPut rfl rfl rfl hy (oq_info (yesO false)) rfl (oqA_one (yesO false)) rfl hS hmgY hK fun _ hS hz _ => ?_
         clear hK K; refine wpAnyH_done (by kernel_rfl) ?_ _
         go_wp2_with (fail)
         go_meet
         case rel => exact ⟨_, rfl, Lib.hid ⟨(HUP.out _ hS).below, (HUP.out _ hS).h, (HUP.out _ hS).o, hz, (HUP.out _ hS).g⟩⟩
     ·refine aNew (en_hp rfl) rfl hS HM.out hK fun _ gX hS hmgX hx h9 => ?_
      have hy := vblkn h9 hy; clear h9 hK K; simp only [List.set]
      refine aH1 1 rfl (fun K hK => ?_)
      ·go_simp
       go_at_call 36
       (with_reducible refine (cKB _).mono ?_)
       rintro e _ ⟨rfl, h9⟩
       have hS := HV.out _ _ hS h9; have hx := vblkn h9 hx; have hy := vblkn h9 hy; clear h9; refine hK.out _ _ hS (fun _ => ?_); clear hK K
       refine aH1 2 rfl (fun K hK => ?_)
       ·go_simp
        go_at_call 37
        (with_reducible refine (c7 _).mono ?_)
        rintro e _ ⟨rfl, h9⟩
        have hS := HV.out _ _ hS h9; have hx := vblkn h9 hx; have hy := vblkn h9 hy; clear h9; refine hK.out _ _ hS (fun _ => ?_); clear hK K
        refine hT 3 77 (.agg (akA (akq 6 1 kyB d7 v0))) rfl rfl (fun w hSw => ?_) ?_
        · exact ea_n4 (k := kyB) (d := d7) rfl rfl rfl
        simp only [List.set]
        refine aH1 4 rfl (fun K hK => ?_)
        ·go_simp
         go_at_call 33
         (with_reducible refine (cP _ _ _ (HUP.out _ hS).below (HUP.out _ hS).l HS.out).mono ?_)
         rintro e _ ⟨Bz, rfl, h9⟩
         have hS := HV.out _ _ hS h9; have hx := vblkn h9 hx; have hy := vblkn h9 hy; clear h9; refine hK.out _ _ hS (fun _ => ?_); clear hK K
         refine hT 5 73 (.tuple #[.agg #[.slice (some ⟨Bz, 0, none⟩) 2 2], .agg (oqA (yesO false))]) rfl rfl (fun w hSw => ?_) ?_
         · go_simp; (try with_reducible rfl)
         simp only [List.set]
         refine hT 6 79 (.agg #[.slice (some ⟨Bz, 0, none⟩) 2 2]) rfl rfl (fun w hSw => ?_) ?_
         · go_simp; (try with_reducible rfl)
         simp only [List.set]
         refine hT 7 80 (.agg (oqA (yesO false))) rfl rfl (fun w hSw => ?_) ?_
         · go_simp; (try with_reducible rfl)
         simp only [List.set]
         refine aH1 10 rfl fun K hK => ?_
         refine aPut rfl rfl rfl hx (hi1 (.slice (some ⟨Bz, 0, none⟩) 2 2)) rfl (hc1 _ rfl) rfl hS hmgX hK fun _ hS _ hO => ?_
         have hy := (hO gY (blk_ne hx hy)).trans hy; clear hO hK K
         refine aH1 11 rfl fun K hK => ?_
         refine aPut rfl rfl rfl hy (oq_info (yesO false)) rfl (oqA_one (yesO false)) rfl hS hmgY hK fun _ hS hz _ => ?_
         clear hK K; refine wpAnyH_done (by kernel_rfl) ?_ _
         go_wp2_with (fail)
         go_meet
         case rel => exact ⟨_, rfl, Lib.hid ⟨(HUP.out _ hS).below, (HUP.out _ hS).h, (HUP.out _ hS).o, hz, (HUP.out _ hS).g⟩⟩
  case rest =>
    obtain ⟨g8, rfl, HK⟩ := hcut
    rename ∀ (a : Act) (w : World), Code.wp Tryz.prog _ _ a w → _ => hK
    exact hK _ _ (NA HK.out HTAB.out)
end Go.Proofs.YtkcikdggfbjedaaGreatDoor.S
