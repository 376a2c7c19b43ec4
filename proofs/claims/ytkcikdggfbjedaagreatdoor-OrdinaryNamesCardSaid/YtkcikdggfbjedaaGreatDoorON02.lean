/-
  OrdinaryNames: the walk, from its second half on.
-/
import Derived.Test.YtkcikdggfbjedaaGreatDoorON01
namespace Go.Proofs.YtkcikdggfbjedaaGreatDoor.S
open Go.RowKit Go.Lib Fl
open Classical

set_option maxHeartbeats 16000000 in
set_option maxRecDepth 1000000 in
theorem NA {w W : World} {g3 g6 g8 Bo : Nat} {x0 x1 x2 x4 x7 x9 x10 x11 x12 x13 x14 x15 x16 x17 x18 x19 x20 x21 x22 x23 x24 x25 x26 x27 x28 x29 x30 x31 x32 x33 x34 x35 x36 x37 x38 x39 x40 x41 x42 x43 x44 x45 x46 x47 x48 x49 x50 x51 x52 x53 x54 x55 x56 x57 x58 x59 x60 x61 x62 x63 x64 x65 x66 x67 x68 x69 x70 x71 x72 x73 x74 x75 x76 x77 x78 x79 x80 x81 x82 x83 x84 x85 x86 x87 x88 x89 x90 x91 x92 x93 x94 x95 x96 x97 x98 x99 x100 x101 x102 x103 x104 x105 x106 x107 x108 x109 x110 x111 x112 x113 x114 x115 x116 x117 x118 x119 x120 x121 x122 x123 x124 x125 x126 x127 x128 x129 x130 x131 x132 x133 x134 x135 x136 x137 x138 x139 x140 x141 x142 x143 x144 x145 x146 x147 x148 x149 x150 x151 x152 x153 x154 x155 x156 x157 x158 x159 x160 x161 x162 x163 x164 x165 x166 x167 x168 x169 x170 x171 x172 x173 x174 x175 x176 x177 x178 x179 x180 x181 x182 x183 x184 x185 : Value} (hX : N6 w g3 g6 g8 Bo W) (htab : TabHere w) : Code.wp Tryz.prog (tailN 6) (bodyPost Tryz.prog Tryz.f8 (fun e w' => e = .returned (.bool true) ∧ Below w.heap.size w w')) ⟨#[x0, x1, x2, .pointer (some ⟨g3, 0, none⟩), x4, .bool true, .pointer (some ⟨g6, 0, none⟩), x7, .pointer (some ⟨g8, 0, none⟩), x9, x10, x11, x12, x13, x14, x15, x16, x17, x18, x19, x20, x21, x22, x23, x24, x25, x26, x27, x28, x29, x30, x31, x32, x33, x34, x35, x36, x37, x38, x39, x40, x41, x42, x43, x44, x45, x46, x47, x48, x49, x50, x51, x52, x53, x54, x55, x56, x57, x58, x59, x60, x61, x62, x63, x64, x65, x66, x67, x68, x69, x70, x71, x72, x73, x74, x75, x76, x77, x78, x79, x80, x81, x82, x83, x84, x85, x86, x87, x88, x89, x90, x91, x92, x93, x94, x95, x96, x97, x98, x99, x100, x101, x102, x103, x104, x105, x106, x107, x108, x109, x110, x111, x112, x113, x114, x115, x116, x117, x118, x119, x120, x121, x122, x123, x124, x125, x126, x127, x128, x129, x130, x131, x132, x133, x134, x135, x136, x137, x138, x139, x140, x141, x142, x143, x144, x145, x146, x147, x148, x149, x150, x151, x152, x153, x154, x155, x156, x157, x158, x159, x160, x161, x162, x163, x164, x165, x166, x167, x168, x169, x170, x171, x172, x173, x174, x175, x176, x177, x178, x179, x180, x181, x182, x183, x184, x185], []⟩ W := by
  have cT := fun W => two12 W
  have cTh1 := fun W => thing12 1 W
  have cTh0 := fun W => thing12 0 W
  have cKA := fun W => key12 (⟨#[97]⟩ : ByteArray) W
  have cKB := fun W => key12 (⟨#[98]⟩ : ByteArray) W
  have c7 := fun W => seven12 W
  have hi1 : ∀ v : Value, (Tryz.prog.info? 24).map (·.size) = some (#[v] : Array Value).size := fun v => hsz
  have hc1 : ∀ v : Value, v.oneCell' = true → (#[v] : Array Value).all (·.oneCell') = true := fun v h => cells_one (l := [v]) (by simpa using h)
  have c6 : ∀ (W : World) (B g : Nat), Below w.heap.size w W → TwoAt B g W → Calls Tryz.prog 33 #[.agg #[.slice (some ⟨B, 0, none⟩) 2 2], .agg (akA (akq 6 0 kyA (dz 32) v0))] W fun e w' => ∃ B2 M2, e = .returned (.tuple #[.agg #[.slice (some ⟨B2, 0, none⟩) 2 2], .agg (oqA (yesO true))]) ∧ (LeftH (H2 none) B2 M2 w' ∧ FixIs M2) ∧ Below W.heap.size W w' := fun W B g hb h => names_def h (tab_up htab hb)
  have cD : ∀ (W : World) (B : Nat) (M : List Ob), Below w.heap.size w W → LeftH (H2 none) B M W → FixIs M → Calls Tryz.prog 33 #[.agg #[.slice (some ⟨B, 0, none⟩) 2 2], .agg (akA (akq 10 0 kyA (dz 0) v0))] W fun e w' => ∃ B2 : Nat, e = .returned (.tuple #[.agg #[.slice (some ⟨B2, 0, none⟩) 2 2], .agg (oqA (yesO false))]) ∧ Below W.heap.size W w' := fun W B M hb hl hf => names_del hl hf (tab_up htab hb)
  have HY := Lib.hid hX
  have HTAB := Lib.hid htab
  clear hX htab
  unfold tailN
  dsimp only [Tryz.f8, rgtN]
  go_upto_region 7 with (first
    | (go_at_call 34; (with_reducible refine (cT _).mono ?_); rintro e w1 ⟨B, g, rfl, t1, t2, h9⟩; have HT : Hid (TwoAt B g w1) := Lib.hid ⟨t1, t2⟩; have HY := Lib.hid (HY.out.up h9); clear h9 t1 t2)
    | (go_at_call 36; (with_reducible refine (cKA _).mono ?_); rintro e w2 ⟨rfl, h9⟩; have HY := Lib.hid (HY.out.up h9); have HT := Lib.hid (HT.out.up h9); clear h9)
    | (refine w_run ?_ (ea_nd32 rfl) ?_; (rfl))
    | (refine w_run ?_ (ea_n5 (k := kyA) (d := dz 32) rfl rfl rfl) ?_; (rfl))
    | (go_at_call 33; (with_reducible refine (c6 _ _ _ HY.out.below HT.out).mono ?_); rintro e w3 ⟨B6, M6, rfl, ⟨hl, hf⟩, h9⟩; have HY := Lib.hid (HY.out.up h9); have HL := Lib.hid (hl.up (vzero w3 (.cells oz26 55))); have HF := Lib.hid hf; have HZ := Lib.hid (HY.out.up (vzero w3 (.cells oz26 55))); have HN := Lib.hid (heap_alloc_new w3 (.cells oz26 55)); have HW := Lib.hid HY.out.below.size; have HE : Hid (g6 ≠ w3.heap.size ∧ g8 ≠ w3.heap.size) := Lib.hid ⟨Nat.ne_of_lt (lt_blk HY.out.o), Nat.ne_of_lt (lt_blk HY.out.q)⟩; clear h9 hl hf HT HY)
    | ((with_reducible refine t_store (cs := #[.slice (some ⟨B6, 0, none⟩) 2 2]) rfl rfl rfl rfl HZ.out.h (hi1 _) ?_ (hc1 _ rfl) HZ.out.below HZ.out.g ?_); (rfl); intro W4 hb4 hW4 hO4 hz4; have HK := Lib.hid (n6_store HZ.out HL.out HN.out HW.out HE.out.1 HE.out.2 hb4 hW4 hO4); clear HL HN HZ hb4 hW4 hO4 hz4)
    | ((with_reducible refine oq_store (q := yesO true) rfl rfl rfl rfl HK.out.2.1 rfl HK.out.1.below HK.out.2.2.1 ?_); intro W5 hb5 hW5 hO5 hz5; have HX := Lib.hid (n7_out HK.out hb5 hW5 hO5); clear HK hb5 hW5 hO5 hz5))
  generalize w3.heap.size = g9 at *
  (try dsimp only [Act.put])
  go_cut [10, 11] from 26 (fun s10 s11 wx => ∃ g11 : Nat, s11 = .pointer (some ⟨g11, 0, none⟩) ∧ Hid (N8 w g6 g8 g9 g11 wx))
  case first =>
    have HX := Lib.hid (HX.out.up (Below.refl _ _).drew)
    have HM : Hid (W5.heap.size ≤ W5.drew.heap.size) := Lib.hid (Below.refl W5.heap.size W5.drew).size
    have HV : Hid (∀ V V' : World, Below W5.heap.size W5.drew V → Below V.heap.size V V' → Below W5.heap.size W5.drew V') := Lib.hid fun V V' h hb => n_vbm h (Nat.le_refl W5.heap.size) hb
    have HUP := Lib.hid (fun (V : World) (hb : Below W5.heap.size W5.drew V) => HX.out.up hb)
    have hS : Below W5.heap.size W5.drew W5.drew := Below.refl _ _
    clear HX
    refine wp_region_held_drew (S := fun V : World => Below W5.heap.size W5.drew V) (by kernel_rfl) hS (fun hHeld => ?_)
    generalize World.drew W5 = W0 at *
    refine hT 0 90 (.agg #[.slice (some ⟨B6, 0, none⟩) 2 2]) rfl rfl (fun w hSw => ?_) ?_
    · exact ex_load_at (h1_load (HUP.out _ hSw).s.h) rfl rfl
    simp only [List.set]
    refine aH3 1 7 8 rfl rfl rfl (fun K hK => ?_) (fun K hK => ?_) (fun K hK => ?_)
    ·go_simp
     go_at_call 36
     (with_reducible refine (cKA _).mono ?_)
     rintro e _ ⟨rfl, h9⟩
     have hS := HV.out _ _ hS h9; clear h9; refine hK.out _ _ hS (fun _ => ?_); clear hK K
     refine hT 2 92 (.agg (akA (akq 10 0 kyA (dz 0) v0))) rfl rfl (fun w hSw => ?_) ?_
     · exact ea_n6 (k := kyA) rfl rfl
     simp only [List.set]
     refine aH3 3 7 8 rfl rfl rfl (fun K hK => ?_) (fun K hK => ?_) (fun K hK => ?_)
     ·go_simp
      go_at_call 33
      (with_reducible refine (cD _ _ _ (HUP.out _ hS).s.below (HUP.out _ hS).l HF.out).mono ?_)
      rintro e _ ⟨Bz, rfl, h9⟩
      have hS := HV.out _ _ hS h9; clear h9; refine hK.out _ _ hS (fun _ => ?_); clear hK K
      refine hT 4 89 (.tuple #[.agg #[.slice (some ⟨Bz, 0, none⟩) 2 2], .agg (oqA (yesO false))]) rfl rfl (fun w hSw => ?_) ?_
      · go_simp; (try with_reducible rfl)
      simp only [List.set]
      refine hT 5 94 (.agg #[.slice (some ⟨Bz, 0, none⟩) 2 2]) rfl rfl (fun w hSw => ?_) ?_
      · go_simp; (try with_reducible rfl)
      simp only [List.set]
      refine hT 6 95 (.agg (oqA (yesO false))) rfl rfl (fun w hSw => ?_) ?_
      · go_simp; (try with_reducible rfl)
      simp only [List.set]
      refine aH2 7 8 rfl rfl (fun K hK => ?_) (fun K hK => ?_)
      ·refine aNew (en_hp rfl) rfl hS HM.out hK fun _ gX hS hmgX hx h9 => ?_
       clear h9 hK K; simp only [List.set]
       refine aH1 8 rfl (fun K hK => ?_)
       ·refine aNew (en_oz rfl) rfl hS HM.out hK fun _ gY hS hmgY hy h9 => ?_
        have hx := vblkn h9 hx; clear h9 hK K; simp only [List.set]
        refine aH1 9 rfl fun K hK => ?_
        refine aPut rfl rfl rfl hx (hi1 (.slice (some ⟨Bz, 0, none⟩) 2 2)) rfl (hc1 _ rfl) rfl hS hmgX hK fun _ hS _ hO => ?_
        have hy := (hO gY (blk_ne hx hy)).trans hy; clear hO hK K
        refine aH1 10 rfl fun K hK => ?_
        refine aPut rfl rfl rfl hy (oq_info (yesO false)) rfl (oqA_one (yesO false)) rfl hS hmgY hK fun _ hS hz _ => ?_
        clear hK K; refine wpAnyH_done (by kernel_rfl) ?_ _
        go_wp2_with (fail)
        go_meet
        case rel => exact ⟨_, rfl, Lib.hid ⟨(HUP.out _ hS).s.below, (HUP.out _ hS).s.o, (HUP.out _ hS).s.q, (HUP.out _ hS).r, hz⟩⟩
      ·refine aNew (en_oz rfl) rfl hS HM.out hK fun _ gY hS hmgY hy h9 => ?_
       clear h9 hK K; simp only [List.set]
       refine aH1 7 rfl (fun K hK => ?_)
       ·refine aNew (en_hp rfl) rfl hS HM.out hK fun _ gX hS hmgX hx h9 => ?_
        have hy := vblkn h9 hy; clear h9 hK K; simp only [List.set]
        refine aH1 9 rfl fun K hK => ?_
        refine aPut rfl rfl rfl hx (hi1 (.slice (some ⟨Bz, 0, none⟩) 2 2)) rfl (hc1 _ rfl) rfl hS hmgX hK fun _ hS _ hO => ?_
        have hy := (hO gY (blk_ne hx hy)).trans hy; clear hO hK K
        refine aH1 10 rfl fun K hK => ?_
        refine aPut rfl rfl rfl hy (oq_info (yesO false)) rfl (oqA_one (yesO false)) rfl hS hmgY hK fun _ hS hz _ => ?_
        clear hK K; refine wpAnyH_done (by kernel_rfl) ?_ _
        go_wp2_with (fail)
        go_meet
        case rel => exact ⟨_, rfl, Lib.hid ⟨(HUP.out _ hS).s.below, (HUP.out _ hS).s.o, (HUP.out _ hS).s.q, (HUP.out _ hS).r, hz⟩⟩
     ·refine aNew (en_hp rfl) rfl hS HM.out hK fun _ gX hS hmgX hx h9 => ?_
      clear h9 hK K; simp only [List.set]
      refine aH2 3 8 rfl rfl (fun K hK => ?_) (fun K hK => ?_)
      ·go_simp
       go_at_call 33
       (with_reducible refine (cD _ _ _ (HUP.out _ hS).s.below (HUP.out _ hS).l HF.out).mono ?_)
       rintro e _ ⟨Bz, rfl, h9⟩
       have hS := HV.out _ _ hS h9; have hx := vblkn h9 hx; clear h9; refine hK.out _ _ hS (fun _ => ?_); clear hK K
       refine hT 4 89 (.tuple #[.agg #[.slice (some ⟨Bz, 0, none⟩) 2 2], .agg (oqA (yesO false))]) rfl rfl (fun w hSw => ?_) ?_
       · go_simp; (try with_reducible rfl)
       simp only [List.set]
       refine hT 5 94 (.agg #[.slice (some ⟨Bz, 0, none⟩) 2 2]) rfl rfl (fun w hSw => ?_) ?_
       · go_simp; (try with_reducible rfl)
       simp only [List.set]
       refine hT 6 95 (.agg (oqA (yesO false))) rfl rfl (fun w hSw => ?_) ?_
       · go_simp; (try with_reducible rfl)
       simp only [List.set]
       refine aH1 8 rfl (fun K hK => ?_)
       ·refine aNew (en_oz rfl) rfl hS HM.out hK fun _ gY hS hmgY hy h9 => ?_
        have hx := vblkn h9 hx; clear h9 hK K; simp only [List.set]
        refine aH1 9 rfl fun K hK => ?_
        refine aPut rfl rfl rfl hx (hi1 (.slice (some ⟨Bz, 0, none⟩) 2 2)) rfl (hc1 _ rfl) rfl hS hmgX hK fun _ hS _ hO => ?_
        have hy := (hO gY (blk_ne hx hy)).trans hy; clear hO hK K
        refine aH1 10 rfl fun K hK => ?_
        refine aPut rfl rfl rfl hy (oq_info (yesO false)) rfl (oqA_one (yesO false)) rfl hS hmgY hK fun _ hS hz _ => ?_
        clear hK K; refine wpAnyH_done (by kernel_rfl) ?_ _
        go_wp2_with (fail)
        go_meet
        case rel => exact ⟨_, rfl, Lib.hid ⟨(HUP.out _ hS).s.below, (HUP.out _ hS).s.o, (HUP.out _ hS).s.q, (HUP.out _ hS).r, hz⟩⟩
      ·refine aNew (en_oz rfl) rfl hS HM.out hK fun _ gY hS hmgY hy h9 => ?_
       have hx := vblkn h9 hx; clear h9 hK K; simp only [List.set]
       refine aH1 3 rfl (fun K hK => ?_)
       ·go_simp
        go_at_call 33
        (with_reducible refine (cD _ _ _ (HUP.out _ hS).s.below (HUP.out _ hS).l HF.out).mono ?_)
        rintro e _ ⟨Bz, rfl, h9⟩
        have hS := HV.out _ _ hS h9; have hx := vblkn h9 hx; have hy := vblkn h9 hy; clear h9; refine hK.out _ _ hS (fun _ => ?_); clear hK K
        refine hT 4 89 (.tuple #[.agg #[.slice (some ⟨Bz, 0, none⟩) 2 2], .agg (oqA (yesO false))]) rfl rfl (fun w hSw => ?_) ?_
        · go_simp; (try with_reducible rfl)
        simp only [List.set]
        refine hT 5 94 (.agg #[.slice (some ⟨Bz, 0, none⟩) 2 2]) rfl rfl (fun w hSw => ?_) ?_
        · go_simp; (try with_reducible rfl)
        simp only [List.set]
        refine hT 6 95 (.agg (oqA (yesO false))) rfl rfl (fun w hSw => ?_) ?_
        · go_simp; (try with_reducible rfl)
        simp only [List.set]
        refine aH1 9 rfl fun K hK => ?_
        refine aPut rfl rfl rfl hx (hi1 (.slice (some ⟨Bz, 0, none⟩) 2 2)) rfl (hc1 _ rfl) rfl hS hmgX hK fun _ hS _ hO => ?_
        have hy := (hO gY (blk_ne hx hy)).trans hy; clear hO hK K
        refine aH1 10 rfl fun K hK => ?_
        refine aPut rfl rfl rfl hy (oq_info (yesO false)) rfl (oqA_one (yesO false)) rfl hS hmgY hK fun _ hS hz _ => ?_
        clear hK K; refine wpAnyH_done (by kernel_rfl) ?_ _
        go_wp2_with (fail)
        go_meet
        case rel => exact ⟨_, rfl, Lib.hid ⟨(HUP.out _ hS).s.below, (HUP.out _ hS).s.o, (HUP.out _ hS).s.q, (HUP.out _ hS).r, hz⟩⟩
     ·refine aNew (en_oz rfl) rfl hS HM.out hK fun _ gY hS hmgY hy h9 => ?_
      clear h9 hK K; simp only [List.set]
      refine aH2 3 7 rfl rfl (fun K hK => ?_) (fun K hK => ?_)
      ·go_simp
       go_at_call 33
       (with_reducible refine (cD _ _ _ (HUP.out _ hS).s.below (HUP.out _ hS).l HF.out).mono ?_)
       rintro e _ ⟨Bz, rfl, h9⟩
       have hS := HV.out _ _ hS h9; have hy := vblkn h9 hy; clear h9; refine hK.out _ _ hS (fun _ => ?_); clear hK K
       refine hT 4 89 (.tuple #[.agg #[.slice (some ⟨Bz, 0, none⟩) 2 2], .agg (oqA (yesO false))]) rfl rfl (fun w hSw => ?_) ?_
       · go_simp; (try with_reducible rfl)
       simp only [List.set]
       refine hT 5 94 (.agg #[.slice (some ⟨Bz, 0, none⟩) 2 2]) rfl rfl (fun w hSw => ?_) ?_
       · go_simp; (try with_reducible rfl)
       simp only [List.set]
       refine hT 6 95 (.agg (oqA (yesO false))) rfl rfl (fun w hSw => ?_) ?_
       · go_simp; (try with_reducible rfl)
       simp only [List.set]
       refine aH1 7 rfl (fun K hK => ?_)
       ·refine aNew (en_hp rfl) rfl hS HM.out hK fun _ gX hS hmgX hx h9 => ?_
        have hy := vblkn h9 hy; clear h9 hK K; simp only [List.set]
        refine aH1 9 rfl fun K hK => ?_
        refine aPut rfl rfl rfl hx (hi1 (.slice (some ⟨Bz, 0, none⟩) 2 2)) rfl (hc1 _ rfl) rfl hS hmgX hK fun _ hS _ hO => ?_
        have hy := (hO gY (blk_ne hx hy)).trans hy; clear hO hK K
        refine aH1 10 rfl fun K hK => ?_
        refine aPut rfl rfl rfl hy (oq_info (yesO false)) rfl (oqA_one (yesO false)) rfl hS hmgY hK fun _ hS hz _ => ?_
        clear hK K; refine wpAnyH_done (by kernel_rfl) ?_ _
        go_wp2_with (fail)
        go_meet
        case rel => exact ⟨_, rfl, Lib.hid ⟨(HUP.out _ hS).s.below, (HUP.out _ hS).s.o, (HUP.out _ hS).s.q, (HUP.out _ hS).r, hz⟩⟩
      ·refine aNew (en_hp rfl) rfl hS HM.out hK fun _ gX hS hmgX hx h9 => ?_
       have hy := vblkn h9 hy; clear h9 hK K; simp only [List.set]
       refine aH1 3 rfl (fun K hK => ?_)
       ·go_simp
        go_at_call 33
        (with_reducible refine (cD _ _ _ (HUP.out _ hS).s.below (HUP.out _ hS).l HF.out).mono ?_)
        rintro e _ ⟨Bz, rfl, h9⟩
        have hS := HV.out _ _ hS h9; have hx := vblkn h9 hx; have hy := vblkn h9 hy; clear h9; refine hK.out _ _ hS (fun _ => ?_); clear hK K
        refine hT 4 89 (.tuple #[.agg #[.slice (some ⟨Bz, 0, none⟩) 2 2], .agg (oqA (yesO false))]) rfl rfl (fun w hSw => ?_) ?_
        · go_simp; (try with_reducible rfl)
        simp only [List.set]
        refine hT 5 94 (.agg #[.slice (some ⟨Bz, 0, none⟩) 2 2]) rfl rfl (fun w hSw => ?_) ?_
        · go_simp; (try with_reducible rfl)
        simp only [List.set]
        refine hT 6 95 (.agg (oqA (yesO false))) rfl rfl (fun w hSw => ?_) ?_
        · go_simp; (try with_reducible rfl)
        simp only [List.set]
        refine aH1 9 rfl fun K hK => ?_
        refine aPut rfl rfl rfl hx (hi1 (.slice (some ⟨Bz, 0, none⟩) 2 2)) rfl (hc1 _ rfl) rfl hS hmgX hK fun _ hS _ hO => ?_
        have hy := (hO gY (blk_ne hx hy)).trans hy; clear hO hK K
        refine aH1 10 rfl fun K hK => ?_
        refine aPut rfl rfl rfl hy (oq_info (yesO false)) rfl (oqA_one (yesO false)) rfl hS hmgY hK fun _ hS hz _ => ?_
        clear hK K; refine wpAnyH_done (by kernel_rfl) ?_ _
        go_wp2_with (fail)
        go_meet
        case rel => exact ⟨_, rfl, Lib.hid ⟨(HUP.out _ hS).s.below, (HUP.out _ hS).s.o, (HUP.out _ hS).s.q, (HUP.out _ hS).r, hz⟩⟩
    ·refine aNew (en_hp rfl) rfl hS HM.out hK fun _ gX hS hmgX hx h9 => ?_
     clear h9 hK K; simp only [List.set]
     refine aH2 1 8 rfl rfl (fun K hK => ?_) (fun K hK => ?_)
     ·go_simp
      go_at_call 36
      (with_reducible refine (cKA _).mono ?_)
      rintro e _ ⟨rfl, h9⟩
      have hS := HV.out _ _ hS h9; have hx := vblkn h9 hx; clear h9; refine hK.out _ _ hS (fun _ => ?_); clear hK K
      refine hT 2 92 (.agg (akA (akq 10 0 kyA (dz 0) v0))) rfl rfl (fun w hSw => ?_) ?_
      · exact ea_n6 (k := kyA) rfl rfl
      simp only [List.set]
      refine aH2 3 8 rfl rfl (fun K hK => ?_) (fun K hK => ?_)
      ·go_simp
       go_at_call 33
       (with_reducible refine (cD _ _ _ (HUP.out _ hS).s.below (HUP.out _ hS).l HF.out).mono ?_)
       rintro e _ ⟨Bz, rfl, h9⟩
       have hS := HV.out _ _ hS h9; have hx := vblkn h9 hx; clear h9; refine hK.out _ _ hS (fun _ => ?_); clear hK K
       refine hT 4 89 (.tuple #[.agg #[.slice (some ⟨Bz, 0, none⟩) 2 2], .agg (oqA (yesO false))]) rfl rfl (fun w hSw => ?_) ?_
       · go_simp; (try with_reducible rfl)
       simp only [List.set]
       refine hT 5 94 (.agg #[.slice (some ⟨Bz, 0, none⟩) 2 2]) rfl rfl (fun w hSw => ?_) ?_
       · go_simp; (try with_reducible rfl)
       simp only [List.set]
       refine hT 6 95 (.agg (oqA (yesO false))) rfl rfl (fun w hSw => ?_) ?_
       · go_simp; (try with_reducible rfl)
       simp only [List.set]
       refine aH1 8 rfl (fun K hK => ?_)
       ·refine aNew (en_oz rfl) rfl hS HM.out hK fun _ gY hS hmgY hy h9 => ?_
        have hx := vblkn h9 hx; clear h9 hK K; simp only [List.set]
        refine aH1 9 rfl fun K hK => ?_
        refine aPut rfl rfl rfl hx (hi1 (.slice (some ⟨Bz, 0, none⟩) 2 2)) rfl (hc1 _ rfl) rfl hS hmgX hK fun _ hS _ hO => ?_
        have hy := (hO gY (blk_ne hx hy)).trans hy; clear hO hK K
        refine aH1 10 rfl fun K hK => ?_
        refine aPut rfl rfl rfl hy (oq_info (yesO false)) rfl (oqA_one (yesO false)) rfl hS hmgY hK fun _ hS hz _ => ?_
        clear hK K; refine wpAnyH_done (by kernel_rfl) ?_ _
        go_wp2_with (fail)
        go_meet
        case rel => exact ⟨_, rfl, Lib.hid ⟨(HUP.out _ hS).s.below, (HUP.out _ hS).s.o, (HUP.out _ hS).s.q, (HUP.out _ hS).r, hz⟩⟩
      ·refine aNew (en_oz rfl) rfl hS HM.out hK fun _ gY hS hmgY hy h9 => ?_
       have hx := vblkn h9 hx; clear h9 hK K; simp only [List.set]
       refine aH1 3 rfl (fun K hK => ?_)
       ·go_simp
        go_at_call 33
        (with_reducible refine (cD _ _ _ (HUP.out _ hS).s.below (HUP.out _ hS).l HF.out).mono ?_)
        rintro e _ ⟨Bz, rfl, h9⟩
        have hS := HV.out _ _ hS h9; have hx := vblkn h9 hx; have hy := vblkn h9 hy; clear h9; refine hK.out _ _ hS (fun _ => ?_); clear hK K
        refine hT 4 89 (.tuple #[.agg #[.slice (some ⟨Bz, 0, none⟩) 2 2], .agg (oqA (yesO false))]) rfl rfl (fun w hSw => ?_) ?_
        · go_simp; (try with_reducible rfl)
        simp only [List.set]
        refine hT 5 94 (.agg #[.slice (some ⟨Bz, 0, none⟩) 2 2]) rfl rfl (fun w hSw => ?_) ?_
        · go_simp; (try with_reducible rfl)
        simp only [List.set]
        refine hT 6 95 (.agg (oqA (yesO false))) rfl rfl (fun w hSw => ?_) ?_
        · go_simp; (try with_reducible rfl)
        simp only [List.set]
        refine aH1 9 rfl fun K hK => ?_
        refine aPut rfl rfl rfl hx (hi1 (.slice (some ⟨Bz, 0, none⟩) 2 2)) rfl (hc1 _ rfl) rfl hS hmgX hK fun _ hS _ hO => ?_
        have hy := (hO gY (blk_ne hx hy)).trans hy; clear hO hK K
        refine aH1 10 rfl fun K hK => ?_
        refine aPut rfl rfl rfl hy (oq_info (yesO false)) rfl (oqA_one (yesO false)) rfl hS hmgY hK fun _ hS hz _ => ?_
        clear hK K; refine wpAnyH_done (by kernel_rfl) ?_ _
        go_wp2_with (fail)
        go_meet
        case rel => exact ⟨_, rfl, Lib.hid ⟨(HUP.out _ hS).s.below, (HUP.out _ hS).s.o, (HUP.out _ hS).s.q, (HUP.out _ hS).r, hz⟩⟩
     ·refine aNew (en_oz rfl) rfl hS HM.out hK fun _ gY hS hmgY hy h9 => ?_
      have hx := vblkn h9 hx; clear h9 hK K; simp only [List.set]
      refine aH1 1 rfl (fun K hK => ?_)
      ·go_simp
       go_at_call 36
       (with_reducible refine (cKA _).mono ?_)
       rintro e _ ⟨rfl, h9⟩
       have hS := HV.out _ _ hS h9; have hx := vblkn h9 hx; have hy := vblkn h9 hy; clear h9; refine hK.out _ _ hS (fun _ => ?_); clear hK K
       refine hT 2 92 (.agg (akA (akq 10 0 kyA (dz 0) v0))) rfl rfl (fun w hSw => ?_) ?_
       · exact ea_n6 (k := kyA) rfl rfl
       simp only [List.set]
       refine aH1 3 rfl (fun K hK => ?_)
       ·go_simp
        go_at_call 33
        (with_reducible refine (cD _ _ _ (HUP.out _ hS).s.below (HUP.out _ hS).l HF.out).mono ?_)
        rintro e _ ⟨Bz, rfl, h9⟩
        have hS := HV.out _ _ hS h9; have hx := vblkn h9 hx; have hy := vblkn h9 hy; clear h9; refine hK.out _ _ hS (fun _ => ?_); clear hK K
        refine hT 4 89 (.tuple #[.agg #[.slice (some ⟨Bz, 0, none⟩) 2 2], .agg (oqA (yesO false))]) rfl rfl (fun w hSw => ?_) ?_
        · go_simp; (try with_reducible rfl)
        simp only [List.set]
        refine hT 5 94 (.agg #[.slice (some ⟨Bz, 0, none⟩) 2 2]) rfl rfl (fun w hSw => ?_) ?_
        · go_simp; (try with_reducible rfl)
        simp only [List.set]
        refine hT 6 95 (.agg (oqA (yesO false))) rfl rfl (fun w hSw => ?_) ?_
        · go_simp; (try with_reducible rfl)
        simp only [List.set]
        refine aH1 9 rfl fun K hK => ?_
        refine aPut rfl rfl rfl hx (hi1 (.slice (some ⟨Bz, 0, none⟩) 2 2)) rfl (hc1 _ rfl) rfl hS hmgX hK fun _ hS _ hO => ?_
        have hy := (hO gY (blk_ne hx hy)).trans hy; clear hO hK K
        refine aH1 10 rfl fun K hK => ?_
        refine aPut rfl rfl rfl hy (oq_info (yesO false)) rfl (oqA_one (yesO false)) rfl hS hmgY hK fun _ hS hz _ => ?_
        clear hK K; refine wpAnyH_done (by kernel_rfl) ?_ _
        go_wp2_with (fail)
        go_meet
        case rel => exact ⟨_, rfl, Lib.hid ⟨(HUP.out _ hS).s.below, (HUP.out _ hS).s.o, (HUP.out _ hS).s.q, (HUP.out _ hS).r, hz⟩⟩
    ·refine aNew (en_oz rfl) rfl hS HM.out hK fun _ gY hS hmgY hy h9 => ?_
     clear h9 hK K; simp only [List.set]
     refine aH2 1 7 rfl rfl (fun K hK => ?_) (fun K hK => ?_)
     ·go_simp
      go_at_call 36
      (with_reducible refine (cKA _).mono ?_)
      rintro e _ ⟨rfl, h9⟩
      have hS := HV.out _ _ hS h9; have hy := vblkn h9 hy; clear h9; refine hK.out _ _ hS (fun _ => ?_); clear hK K
      refine hT 2 92 (.agg (akA (akq 10 0 kyA (dz 0) v0))) rfl rfl (fun w hSw => ?_) ?_
      · exact ea_n6 (k := kyA) rfl rfl
      simp only [List.set]
      refine aH2 3 7 rfl rfl (fun K hK => ?_) (fun K hK => ?_)
      ·go_simp
       go_at_call 33
       (with_reducible refine (cD _ _ _ (HUP.out _ hS).s.below (HUP.out _ hS).l HF.out).mono ?_)
       rintro e _ ⟨Bz, rfl, h9⟩
       have hS := HV.out _ _ hS h9; have hy := vblkn h9 hy; clear h9; refine hK.out _ _ hS (fun _ => ?_); clear hK K
       refine hT 4 89 (.tuple #[.agg #[.slice (some ⟨Bz, 0, none⟩) 2 2], .agg (oqA (yesO false))]) rfl rfl (fun w hSw => ?_) ?_
       · go_simp; (try with_reducible rfl)
       simp only [List.set]
       refine hT 5 94 (.agg #[.slice (some ⟨Bz, 0, none⟩) 2 2]) rfl rfl (fun w hSw => ?_) ?_
       · go_simp; (try with_reducible rfl)
       simp only [List.set]
       refine hT 6 95 (.agg (oqA (yesO false))) rfl rfl (fun w hSw => ?_) ?_
       · go_simp; (try with_reducible rfl)
       simp only [List.set]
       refine aH1 7 rfl (fun K hK => ?_)
       ·refine aNew (en_hp rfl) rfl hS HM.out hK fun _ gX hS hmgX hx h9 => ?_
        have hy := vblkn h9 hy; clear h9 hK K; simp only [List.set]
        refine aH1 9 rfl fun K hK => ?_
        refine aPut rfl rfl rfl hx (hi1 (.slice (some ⟨Bz, 0, none⟩) 2 2)) rfl (hc1 _ rfl) rfl hS hmgX hK fun _ hS _ hO => ?_
        have hy := (hO gY (blk_ne hx hy)).trans hy; clear hO hK K
        refine aH1 10 rfl fun K hK => ?_
        refine aPut rfl rfl rfl hy (oq_info (yesO false)) rfl (oqA_one (yesO false)) rfl hS hmgY hK fun _ hS hz _ => ?_
        clear hK K; refine wpAnyH_done (by kernel_rfl) ?_ _
        go_wp2_with (fail)
        go_meet
        case rel => exact ⟨_, rfl, Lib.hid ⟨(HUP.out _ hS).s.below, (HUP.out _ hS).s.o, (HUP.out _ hS).s.q, (HUP.out _ hS).r, hz⟩⟩
      ·refine aNew (en_hp rfl) rfl hS HM.out hK fun _ gX hS hmgX hx h9 => ?_
       have hy := vblkn h9 hy; clear h9 hK K; simp only [List.set]
       refine aH1 3 rfl (fun K hK => ?_)
       ·go_simp
        go_at_call 33
        (with_reducible refine (cD _ _ _ (HUP.out _ hS).s.below (HUP.out _ hS).l HF.out).mono ?_)
        rintro e _ ⟨Bz, rfl, h9⟩
        have hS := HV.out _ _ hS h9; have hx := vblkn h9 hx; have hy := vblkn h9 hy; clear h9; refine hK.out _ _ hS (fun _ => ?_); clear hK K
        refine hT 4 89 (.tuple #[.agg #[.slice (some ⟨Bz, 0, none⟩) 2 2], .agg (oqA (yesO false))]) rfl rfl (fun w hSw => ?_) ?_
        · go_simp; (try with_reducible rfl)
        simp only [List.set]
        refine hT 5 94 (.agg #[.slice (some ⟨Bz, 0, none⟩) 2 2]) rfl rfl (fun w hSw => ?_) ?_
        · go_simp; (try with_reducible rfl)
        simp only [List.set]
        refine hT 6 95 (.agg (oqA (yesO false))) rfl rfl (fun w hSw => ?_) ?_
        · go_simp; (try with_reducible rfl)
        simp only [List.set]
        refine aH1 9 rfl fun K hK => ?_
        refine aPut rfl rfl rfl hx (hi1 (.slice (some ⟨Bz, 0, none⟩) 2 2)) rfl (hc1 _ rfl) rfl hS hmgX hK fun _ hS _ hO => ?_
        have hy := (hO gY (blk_ne hx hy)).trans hy; clear hO hK K
        refine aH1 10 rfl fun K hK => ?_
        refine aPut rfl rfl rfl hy (oq_info (yesO false)) rfl (oqA_one (yesO false)) rfl hS hmgY hK fun _ hS hz _ => ?_
        clear hK K; refine wpAnyH_done (by kernel_rfl) ?_ _
        go_wp2_with (fail)
        go_meet
        case rel => exact ⟨_, rfl, Lib.hid ⟨(HUP.out _ hS).s.below, (HUP.out _ hS).s.o, (HUP.out _ hS).s.q, (HUP.out _ hS).r, hz⟩⟩
     ·refine aNew (en_hp rfl) rfl hS HM.out hK fun _ gX hS hmgX hx h9 => ?_
      have hy := vblkn h9 hy; clear h9 hK K; simp only [List.set]
      refine aH1 1 rfl (fun K hK => ?_)
      ·go_simp
       go_at_call 36
       (with_reducible refine (cKA _).mono ?_)
       rintro e _ ⟨rfl, h9⟩
       have hS := HV.out _ _ hS h9; have hx := vblkn h9 hx; have hy := vblkn h9 hy; clear h9; refine hK.out _ _ hS (fun _ => ?_); clear hK K
       refine hT 2 92 (.agg (akA (akq 10 0 kyA (dz 0) v0))) rfl rfl (fun w hSw => ?_) ?_
       · exact ea_n6 (k := kyA) rfl rfl
       simp only [List.set]
       refine aH1 3 rfl (fun K hK => ?_)
       ·go_simp
        go_at_call 33
        (with_reducible refine (cD _ _ _ (HUP.out _ hS).s.below (HUP.out _ hS).l HF.out).mono ?_)
        rintro e _ ⟨Bz, rfl, h9⟩
        have hS := HV.out _ _ hS h9; have hx := vblkn h9 hx; have hy := vblkn h9 hy; clear h9; refine hK.out _ _ hS (fun _ => ?_); clear hK K
        refine hT 4 89 (.tuple #[.agg #[.slice (some ⟨Bz, 0, none⟩) 2 2], .agg (oqA (yesO false))]) rfl rfl (fun w hSw => ?_) ?_
        · go_simp; (try with_reducible rfl)
        simp only [List.set]
        refine hT 5 94 (.agg #[.slice (some ⟨Bz, 0, none⟩) 2 2]) rfl rfl (fun w hSw => ?_) ?_
        · go_simp; (try with_reducible rfl)
        simp only [List.set]
        refine hT 6 95 (.agg (oqA (yesO false))) rfl rfl (fun w hSw => ?_) ?_
        · go_simp; (try with_reducible rfl)
        simp only [List.set]
        refine aH1 9 rfl fun K hK => ?_
        refine aPut rfl rfl rfl hx (hi1 (.slice (some ⟨Bz, 0, none⟩) 2 2)) rfl (hc1 _ rfl) rfl hS hmgX hK fun _ hS _ hO => ?_
        have hy := (hO gY (blk_ne hx hy)).trans hy; clear hO hK K
        refine aH1 10 rfl fun K hK => ?_
        refine aPut rfl rfl rfl hy (oq_info (yesO false)) rfl (oqA_one (yesO false)) rfl hS hmgY hK fun _ hS hz _ => ?_
        clear hK K; refine wpAnyH_done (by kernel_rfl) ?_ _
        go_wp2_with (fail)
        go_meet
        case rel => exact ⟨_, rfl, Lib.hid ⟨(HUP.out _ hS).s.below, (HUP.out _ hS).s.o, (HUP.out _ hS).s.q, (HUP.out _ hS).r, hz⟩⟩
  case rest =>
    obtain ⟨g11, rfl, HK⟩ := hcut
    rename ∀ (a : Act) (w : World), Code.wp Tryz.prog _ _ a w → _ => hK
    exact hK _ _ (NB HK.out HTAB.out)
end Go.Proofs.YtkcikdggfbjedaaGreatDoor.S
