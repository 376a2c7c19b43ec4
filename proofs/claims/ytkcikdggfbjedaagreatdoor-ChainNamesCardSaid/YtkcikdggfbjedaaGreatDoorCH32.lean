/-
  ChainNames: the walk.
-/
import Derived.Test.YtkcikdggfbjedaaGreatDoorCH28
namespace Go.Proofs.YtkcikdggfbjedaaGreatDoor.S
open Go.RowKit Go.Lib Fl
open Classical

def C5 : List Ob := C4.set 2 (chRv (C4[2]'(by decide)))
theorem mayC5 : mayH C5 = true := chRv_may mayC4 (by decide) rfl
theorem dn5 : chDn C5 3 = [2] := by kernel_rfl
theorem cut5 : chCut C5 3 = true := by kernel_rfl
theorem live53 : liveN C5 3 = true := by kernel_rfl
theorem live52 : liveN C5 2 = false := by kernel_rfl
theorem mkE5 : mkE C5 2 0 = 140 := by
  unfold mkE
  rw [show ckE C5 2 = 0 from ck_ok (n := 2) mayC5 (by decide), show thE C5 0 = 0 from th_ok (n := 0) (by decide), if_pos (by unfold orE; rfl), if_pos (.inl (by kernel_rfl))]
theorem mkE2 : mkE C2 0 5 = 2 := by
  unfold mkE
  rw [show ckE C2 0 = 0 from ck_ok (n := 0) mayC2 (by decide), show thE C2 5 = 2 from by unfold thE; rw [if_pos (.inr (by decide))], show orE 0 2 = 2 from by unfold orE; rw [if_pos rfl], if_neg (by decide)]
theorem cut2 : chCut C2 0 = false := by kernel_rfl
theorem deep2 : chDeep C2 0 = 0 := by kernel_rfl
theorem end2 : chEnd C2 0 = 0 := by kernel_rfl
/-- what the walk holds on to -/
structure Nm (w : World) (g B : Nat) (W : World) : Prop where
  below : Below w.heap.size w W
  h : W.heap[g]? = some (.cells #[.slice (some ⟨B, 0, none⟩) 4 4] 24 (0, 0))
  p : Hp W (some ⟨B, 0, none⟩) C5 4
theorem Nm.up {w : World} {g B : Nat} {W W' : World} (h : Nm w g B W) (hb : Below W.heap.size W W') : Nm w g B W' := ⟨vb h.below hb, vblkn hb h.h, h.p.up hb⟩
set_option maxHeartbeats 4000000 in
set_option maxRecDepth 1000000 in
theorem ChainNames_walk (w : World) (htab : TabHere w) : Calls Tryz.prog 3 #[] w fun e w' => e = .returned (.bool true) ∧ Below w.heap.size w w' := by
  have hsz1 : ∀ v : Value, (Tryz.prog.info? 24).map (·.size) = some (#[v] : Array Value).size := fun v => hsz
  have hc1 : ∀ v : Value, v.oneCell' = true → (#[v] : Array Value).all (·.oneCell') = true := fun v h => cells_one (l := [v]) (by simpa using h)
  have c4 := fun W (hb : Below w.heap.size w W) => four_c W (tab_up htab hb)
  have c2 := fun W => two_c W
  have cA := fun W (hb : Below w.heap.size w W) => chalive_any W (tab_up htab hb)
  have cR : ∀ W B, Below w.heap.size w W → Hp W (some ⟨B, 0, none⟩) C4 4 → Calls Tryz.prog 9 #[.agg #[.slice (some ⟨B, 0, none⟩) 4 4], .int .i64 2] W fun e w' => ∃ B2, e = .returned (.tuple #[.agg #[.slice (some ⟨B2, 0, none⟩) 4 4], .int .i64 0]) ∧ Hp w' (some ⟨B2, 0, none⟩) C5 4 ∧ Below W.heap.size W w' := fun W B hb hH =>
    (Revoke_p 2 hH (tab_up htab hb) mayC4 (by decide)).mono fun e w' ⟨h1, h2⟩ => by
      rcases h2 with ⟨h, _⟩ | ⟨_, B2, h3, _, h5⟩
      · exact absurd (by kernel_rfl) h
      · exact ⟨B2, h3, h5.hp, h1⟩
  have cD : ∀ W B, Below w.heap.size w W → Hp W (some ⟨B, 0, none⟩) C5 4 → Calls Tryz.prog 11 #[.agg #[.slice (some ⟨B, 0, none⟩) 4 4], .int .i64 3] W fun e w' => ∃ (P : Option Addr) (pc : Nat), e = .returned (.tuple #[.slice P 1 pc, .bool true, .int .i64 0]) ∧ IRow w' P [2] ∧ Below W.heap.size W w' := fun W B hb hH => by
    have := Down_p 3 hH (tab_up htab hb) mayC5 (by decide)
    rw [dn5, cut5] at this
    exact this
  have cI : ∀ W B, Below w.heap.size w W → Hp W (some ⟨B, 0, none⟩) C5 4 → Calls Tryz.prog 12 #[.agg #[.slice (some ⟨B, 0, none⟩) 4 4], .int .i64 3] W fun e w' => e = .returned (.tuple #[.bool false, .int .i64 140]) ∧ Below W.heap.size W w' := fun W B hb hH => by
    have := IsArray_p 3 hH (tab_up htab hb) mayC5 (by decide)
    rw [if_pos (.inl cut5), if_pos (.inl cut5)] at this
    exact this
  have cL3 : ∀ W B, Below w.heap.size w W → Hp W (some ⟨B, 0, none⟩) C5 4 → Calls Tryz.prog 13 #[.agg #[.slice (some ⟨B, 0, none⟩) 4 4], .int .i64 3] W fun e w' => e = .returned (.tuple #[.bool true, .int .i64 0]) ∧ Below W.heap.size W w' := fun W B hb hH => by
    have := Live_p 3 hH (tab_up htab hb) mayC5 (by decide)
    rw [live53] at this
    exact this
  have cL2 : ∀ W B, Below w.heap.size w W → Hp W (some ⟨B, 0, none⟩) C5 4 → Calls Tryz.prog 13 #[.agg #[.slice (some ⟨B, 0, none⟩) 4 4], .int .i64 2] W fun e w' => e = .returned (.tuple #[.bool false, .int .i64 0]) ∧ Below W.heap.size W w' := fun W B hb hH => by
    have := Live_p 2 hH (tab_up htab hb) mayC5 (by decide)
    rw [live52] at this
    exact this
  have cM5 : ∀ W B, Below w.heap.size w W → Hp W (some ⟨B, 0, none⟩) C5 4 → Calls Tryz.prog 14 #[.agg #[.slice (some ⟨B, 0, none⟩) 4 4], .int .i64 2, .int .i64 0] W fun e w' => e = .returned (.tuple #[.agg #[.slice none 0 0], .int .i64 0, .int .i64 140]) ∧ Below W.heap.size W w' := fun W B hb hH =>
    (Make_p 2 0 hH (by decide) (tab_up htab hb)).mono fun e w' ⟨h1, h2⟩ => by
      rw [mkE5] at h2
      rcases h2 with ⟨_, h⟩ | ⟨h, _⟩
      · exact ⟨h, h1⟩
      · exact absurd h (by decide)
  have cM2 : ∀ W B, Below w.heap.size w W → Hp W (some ⟨B, 0, none⟩) C2 2 → Calls Tryz.prog 14 #[.agg #[.slice (some ⟨B, 0, none⟩) 2 2], .int .i64 0, .int .i64 5] W fun e w' => e = .returned (.tuple #[.agg #[.slice none 0 0], .int .i64 0, .int .i64 2]) ∧ Below W.heap.size W w' := fun W B hb hH =>
    (Make_p 0 5 hH (by decide) (tab_up htab hb)).mono fun e w' ⟨h1, h2⟩ => by
      rw [mkE2] at h2
      rcases h2 with ⟨_, h⟩ | ⟨h, _⟩
      · exact ⟨h, h1⟩
      · exact absurd h (by decide)
  have cR2 : ∀ W B, Below w.heap.size w W → Hp W (some ⟨B, 0, none⟩) C2 2 → Calls Tryz.prog 9 #[.agg #[.slice (some ⟨B, 0, none⟩) 2 2], .int .i64 0] W fun e w' => e = .returned (.tuple #[.agg #[.slice none 0 0], .int .i64 2]) ∧ Below W.heap.size W w' := fun W B hb hH =>
    (Revoke_p 0 hH (tab_up htab hb) mayC2 (by decide)).mono fun e w' ⟨h1, h2⟩ => by
      rcases h2 with ⟨_, h⟩ | ⟨h, _⟩
      · exact ⟨h, h1⟩
      · exact absurd h (show ¬ ((1 : Int) = 6) by decide)
  have cE2 : ∀ W B, Below w.heap.size w W → Hp W (some ⟨B, 0, none⟩) C2 2 → Calls Tryz.prog 16 #[.agg #[.slice (some ⟨B, 0, none⟩) 2 2], .int .i64 0] W fun e w' => e = .returned (.tuple #[.int .i64 0, .int .i64 0]) ∧ Below W.heap.size W w' := fun W B hb hH => by
    have := Deep_p 0 hH (tab_up htab hb) mayC2 (by decide)
    rw [deep2] at this
    exact this
  have cI2 : ∀ W B, Below w.heap.size w W → Hp W (some ⟨B, 0, none⟩) C2 2 → Calls Tryz.prog 12 #[.agg #[.slice (some ⟨B, 0, none⟩) 2 2], .int .i64 0] W fun e w' => e = .returned (.tuple #[.bool false, .int .i64 0]) ∧ Below W.heap.size W w' := fun W B hb hH => by
    have := IsArray_p 0 hH (tab_up htab hb) mayC2 (by decide)
    rw [cut2, deep2, end2] at this
    exact this
  have hB := Below.refl w.heap.size w
  clear htab
  go_enter Tryz.func3, Tryz.ntmps3
  go_upto_region 3 with (first
    | (go_at_call 10; (with_reducible refine (c4 _ hB).mono ?_); rintro e w1 ⟨B, rfl, hH, h9⟩; have hB := vb hB h9; have HH := Lib.hid hH; clear h9 hH)
    | (go_at_call 9; (with_reducible refine (cR _ _ hB HH.out).mono ?_); rintro e w2 ⟨B5, rfl, hH, h9⟩; have hB := vb hB h9; have HH := Lib.hid hH; clear h9 hH)
    | ((with_reducible refine t_store (cs := #[.slice (some ⟨B5, 0, none⟩) 4 4]) rfl rfl rfl rfl (heap_alloc_new w2 _) (hsz1 _) ?_ (hc1 _ rfl) (vzero w2 _) (Nat.le_refl _) ?_); (rfl); intro W3 hb3 hW3 hO3 hz3; have HN : Hid (Nm w w2.heap.size B5 W3) := Lib.hid ⟨vb hB hb3, hW3, HH.out.up hb3⟩; clear hb3 hO3 hz3 HH hW3)
    | ((with_reducible refine h1_ld ?_ rfl rfl HN.out.h ?_); (rfl))
    | (go_at_call 11; (with_reducible refine (cD _ _ HN.out.below HN.out.p).mono ?_); rintro e w4 ⟨P, pc, rfl, hI, h9⟩; have HN := Lib.hid (HN.out.up h9); have HI := Lib.hid hI; clear h9 hI))
  generalize w2.heap.size = g at *
  clear hB cR cD c4
  go_upto_region 6 with (first
    | ((with_reducible refine h1_ld ?_ rfl rfl HN.out.h ?_); (rfl))
    | (go_at_call 12; (with_reducible refine (cI _ _ HN.out.below HN.out.p).mono ?_); rintro e w5 ⟨rfl, h9⟩; have HN := Lib.hid (HN.out.up h9); have HI := Lib.hid (irow_up HI.out h9); clear h9)
    | (go_at_call 13; (with_reducible refine (cL3 _ _ HN.out.below HN.out.p).mono ?_); rintro e w6 ⟨rfl, h9⟩; have HN := Lib.hid (HN.out.up h9); have HI := Lib.hid (irow_up HI.out h9); clear h9)
    | (go_at_call 13; (with_reducible refine (cL2 _ _ HN.out.below HN.out.p).mono ?_); rintro e w7 ⟨rfl, h9⟩; have HN := Lib.hid (HN.out.up h9); have HI := Lib.hid (irow_up HI.out h9); clear h9))
  clear cI cL3 cL2
  go_upto_region 8 with (first
    | ((with_reducible refine h1_ld ?_ rfl rfl HN.out.h ?_); (rfl))
    | (go_at_call 14; (with_reducible refine (cM5 _ _ HN.out.below HN.out.p).mono ?_); rintro e w8 ⟨rfl, h9⟩; have HN := Lib.hid (HN.out.up h9); have HI := Lib.hid (irow_up HI.out h9); clear h9)
    | ((with_reducible refine t_store (cs := #[.slice none 0 0]) rfl rfl rfl rfl (heap_alloc_new _ _) (hsz1 _) ?_ (hc1 _ rfl) (vzero _ _) (Nat.le_refl _) ?_); (rfl); intro W9 hb9 hW9 hO9 hz9; have HN := Lib.hid (HN.out.up hb9); have HI := Lib.hid (irow_up HI.out hb9); clear hb9 hO9 hz9 hW9)
    | (go_at_call 15; (with_reducible refine (c2 _).mono ?_); rintro e w10 ⟨B, rfl, hH, h9⟩; have HN := Lib.hid (HN.out.up h9); have HI := Lib.hid (irow_up HI.out h9); have HH := Lib.hid hH; clear h9 hH)
    | (go_at_call 14; (with_reducible refine (cM2 _ _ HN.out.below HH.out).mono ?_); rintro e w11 ⟨rfl, h9⟩; have HN := Lib.hid (HN.out.up h9); have HI := Lib.hid (irow_up HI.out h9); clear h9 HH))
  clear cM5 cM2
  go_upto_region 11 with (first
    | (go_at_call 15; (with_reducible refine (c2 _).mono ?_); rintro e w12 ⟨B, rfl, hH, h9⟩; have HN := Lib.hid (HN.out.up h9); have HI := Lib.hid (irow_up HI.out h9); have HH := Lib.hid hH; clear h9 hH)
    | (go_at_call 9; (with_reducible refine (cR2 _ _ HN.out.below HH.out).mono ?_); rintro e w13 ⟨rfl, h9⟩; have HN := Lib.hid (HN.out.up h9); have HI := Lib.hid (irow_up HI.out h9); clear h9 HH)
    | ((with_reducible refine t_store (cs := #[.slice none 0 0]) rfl rfl rfl rfl (heap_alloc_new _ _) (hsz1 _) ?_ (hc1 _ rfl) (vzero _ _) (Nat.le_refl _) ?_); (rfl); intro W14 hb9 hW9 hO9 hz9; have HN := Lib.hid (HN.out.up hb9); have HI := Lib.hid (irow_up HI.out hb9); clear hb9 hO9 hz9 hW9)
    | (go_at_call 16; (with_reducible refine (cE2 _ _ HN.out.below HH.out).mono ?_); rintro e w15 ⟨rfl, h9⟩; have HN := Lib.hid (HN.out.up h9); have HI := Lib.hid (irow_up HI.out h9); clear h9 HH)
    | (go_at_call 12; (with_reducible refine (cI2 _ _ HN.out.below HH.out).mono ?_); rintro e w16 ⟨rfl, h9⟩; have HN := Lib.hid (HN.out.up h9); have HI := Lib.hid (irow_up HI.out h9); clear h9 HH))
  clear cR2 cE2 cI2
  go_wp2_with (go_at_call 17; (with_reducible refine (cA _ HN.out.below).mono ?_); rintro e w17 ⟨rfl, h9⟩; have HN := Lib.hid (HN.out.up h9); obtain ⟨a, rfl, hab, hcl⟩ := irow_up HI.out h9 (by decide); have q0 : w17.cell? (a.add 0) = some (.int .i64 2) := hcl 0 (by decide); rw [addr_zero] at q0; clear h9 hcl)
  go_ret
  exact ⟨rfl, HN.out.below⟩
end Go.Proofs.YtkcikdggfbjedaaGreatDoor.S
