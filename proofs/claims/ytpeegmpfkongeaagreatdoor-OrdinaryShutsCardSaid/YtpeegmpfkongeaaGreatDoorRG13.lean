/-
  Descriptors: Check: the walk. Generated: gen_desccheck.py.
-/
import Derived.Test.YtpeegmpfkongeaaGreatDoorRG12
import Derived.Test.YtpeegmpfkongeaaGreatDoorRG11
import Derived.Deep.RegionHeld3
namespace Go.Proofs.YtpeegmpfkongeaaGreatDoor.S
open Go.RowKit Fl

def hiB (h : Int) : Bool := bits .andNot .u8 h 63 != 0
/-- whether a descriptor may be, from what is told of its parts: more bits than there are; data and access; the rest not zero; its Value; has Get, which can't stand; has Set, which can't stand -/
def chk6 (f0 f1 f2 f3 f4 f5 : Bool) : Bool := !f0 && !f1 && !f2 && !f3 && !f4 && !f5
def errI (b : Bool) : Int := bif b then 0 else 90
theorem errI_ret {a b : Bool} (h : a = b) : Ending.returned (.int .i64 (errI a)) = .returned (.int .i64 (errI b)) := by rw [h]
set_option maxRecDepth 1000000 in
set_option maxHeartbeats 4000000 in
theorem Check_x (h n : Int) (ka : Int) (xa : Nat) (sa : ByteArray) (ra : Int) (kb : Int) (xb : Nat) (sb : ByteArray) (rb : Int) (kc : Int) (xc : Nat) (sc : ByteArray) (rc : Int) (kd : Int) (xd : Nat) (sd : ByteArray) (rd : Int) (ke : Int) (xe : Nat) (se : ByteArray) (re : Int) (kf : Int) (xf : Nat) (sf : ByteArray) (rf : Int) (p q z p' q' z' : Bool) {mA cB cC : Bool}
    (hl : ∀ w, Calls Tryz.prog 103 #[.agg #[.int .u8 h, .int .u8 ka, .float .f64 xa, .string sa, .int .i64 ra, .int .u8 kb, .float .f64 xb, .string sb, .int .i64 rb, .int .u8 kc, .float .f64 xc, .string sc, .int .i64 rc, .bool p, .bool q, .bool z], .agg #[.int .u8 h, .int .u8 0, .float .f64 0, .string ⟨#[]⟩, .int .i64 0, .int .u8 0, .float .f64 0, .string ⟨#[]⟩, .int .i64 0, .int .u8 0, .float .f64 0, .string ⟨#[]⟩, .int .i64 0, .bool false, .bool false, .bool false]] w fun e w' => e = .returned (.agg #[.int .u8 n, .int .u8 kd, .float .f64 xd, .string sd, .int .i64 rd, .int .u8 ke, .float .f64 xe, .string se, .int .i64 re, .int .u8 kf, .float .f64 xf, .string sf, .int .i64 rf, .bool p', .bool q', .bool z']) ∧ Below w.heap.size w w')
    (hA : ∀ w, Calls Tryz.prog 111 #[.agg #[.int .u8 ka, .float .f64 xa, .string sa, .int .i64 ra]] w fun e w' => e = .returned (.bool mA) ∧ Below w.heap.size w w')
    (hB : ∀ w, Calls Tryz.prog 141 #[.agg #[.int .u8 kb, .float .f64 xb, .string sb, .int .i64 rb]] w fun e w' => e = .returned (.bool cB) ∧ Below w.heap.size w w')
    (hC : ∀ w, Calls Tryz.prog 141 #[.agg #[.int .u8 kc, .float .f64 xc, .string sc, .int .i64 rc]] w fun e w' => e = .returned (.bool cC) ∧ Below w.heap.size w w') (w : World) :
    Calls Tryz.prog 85 #[.agg #[.int .u8 h, .int .u8 ka, .float .f64 xa, .string sa, .int .i64 ra, .int .u8 kb, .float .f64 xb, .string sb, .int .i64 rb, .int .u8 kc, .float .f64 xc, .string sc, .int .i64 rc, .bool p, .bool q, .bool z]] w fun e w' => e = .returned (.int .i64 (errI (chk6 (hiB h) (hasB h 3 && hasB h 12) (!zD n h (zV kd xd sd rd) (zV ke xe se re) (zV kf xf sf rf) p' q' z') (!mA) (hasB h 4 && !cB) (hasB h 8 && !cC)))) ∧ Below w.heap.size w w' := by
  have hB0 : Below w.heap.size w (((w.alloc (.cells #[.int .u8 h, .int .u8 ka, .float .f64 xa, .string sa, .int .i64 ra, .int .u8 kb, .float .f64 xb, .string sb, .int .i64 rb, .int .u8 kc, .float .f64 xc, .string sc, .int .i64 rc, .bool p, .bool q, .bool z] 49)).alloc (.cells #[.int .u8 0, .int .u8 0, .float .f64 0, .string ⟨#[]⟩, .int .i64 0, .int .u8 0, .float .f64 0, .string ⟨#[]⟩, .int .i64 0, .int .u8 0, .float .f64 0, .string ⟨#[]⟩, .int .i64 0, .bool false, .bool false, .bool false] 49)).setRow (w.heap.size + 1) #[.int .u8 h, .int .u8 0, .float .f64 0, .string ⟨#[]⟩, .int .i64 0, .int .u8 0, .float .f64 0, .string ⟨#[]⟩, .int .i64 0, .int .u8 0, .float .f64 0, .string ⟨#[]⟩, .int .i64 0, .bool false, .bool false, .bool false]) := below_row (vafter (vzero _ _)) (by omega) _
  obtain ⟨a1, a2⟩ := vblk2 (w := w) (Below.refl _ ((w.alloc (.cells #[.int .u8 h, .int .u8 ka, .float .f64 xa, .string sa, .int .i64 ra, .int .u8 kb, .float .f64 xb, .string sb, .int .i64 rb, .int .u8 kc, .float .f64 xc, .string sc, .int .i64 rc, .bool p, .bool q, .bool z] 49)).alloc (.cells #[.int .u8 0, .int .u8 0, .float .f64 0, .string ⟨#[]⟩, .int .i64 0, .int .u8 0, .float .f64 0, .string ⟨#[]⟩, .int .i64 0, .int .u8 0, .float .f64 0, .string ⟨#[]⟩, .int .i64 0, .bool false, .bool false, .bool false] 49)))
  have b1 := vset_o a1 (j := w.heap.size + 1) (by omega) #[.int .u8 h, .int .u8 0, .float .f64 0, .string ⟨#[]⟩, .int .i64 0, .int .u8 0, .float .f64 0, .string ⟨#[]⟩, .int .i64 0, .int .u8 0, .float .f64 0, .string ⟨#[]⟩, .int .i64 0, .bool false, .bool false, .bool false]
  have b2 := setRow_heap _ (w.heap.size + 1) _ #[.int .u8 h, .int .u8 0, .float .f64 0, .string ⟨#[]⟩, .int .i64 0, .int .u8 0, .float .f64 0, .string ⟨#[]⟩, .int .i64 0, .int .u8 0, .float .f64 0, .string ⟨#[]⟩, .int .i64 0, .bool false, .bool false, .bool false] _ _ a2
  have e0 := vcells b1 0
  have hone : ([.int .u8 h, .int .u8 0, .float .f64 0, .string ⟨#[]⟩, .int .i64 0, .int .u8 0, .float .f64 0, .string ⟨#[]⟩, .int .i64 0, .int .u8 0, .float .f64 0, .string ⟨#[]⟩, .int .i64 0, .bool false, .bool false, .bool false] : List Value).all (·.oneCell') = true := rfl
  generalize hzd : zD n h (zV kd xd sd rd) (zV ke xe se re) (zV kf xf sf rf) p' q' z' = zd
  have HZ := Lib.hid hzd
  clear hzd
  rcases Bool.eq_false_or_eq_true (hiB h) with t0 | t0
  · have n0 : (bits .andNot .u8 h 63 != 0) = true := t0
    go_enter Tryz.func85, Tryz.ntmps85
    go_wp2_with ((with_reducible refine d_store rfl rfl rfl rfl a2 ?_ hone ?_); (rfl))
    go_ret
    exact ⟨errI_ret (a := false) (by unfold chk6; rw [t0]; rfl), hB0⟩
  have n0 : (bits .andNot .u8 h 63 != 0) = false := t0
  have T0 := Lib.hid t0
  clear t0
  go_enter Tryz.func85, Tryz.ntmps85
  go_upto_region 3 with ((with_reducible refine d_store rfl rfl rfl rfl a2 ?_ hone ?_); (rfl))
  go_cut [7] from 4 to 44 (fun u wx => u = .bool (hasB h 3 && hasB h 12) ∧ wx.heap[w.heap.size]? = some (.cells #[.int .u8 h, .int .u8 ka, .float .f64 xa, .string sa, .int .i64 ra, .int .u8 kb, .float .f64 xb, .string sb, .int .i64 rb, .int .u8 kc, .float .f64 xc, .string sc, .int .i64 rc, .bool p, .bool q, .bool z] 49 (0, 0)) ∧ wx.heap[w.heap.size + 1]? = some (.cells #[.int .u8 h, .int .u8 0, .float .f64 0, .string ⟨#[]⟩, .int .i64 0, .int .u8 0, .float .f64 0, .string ⟨#[]⟩, .int .i64 0, .int .u8 0, .float .f64 0, .string ⟨#[]⟩, .int .i64 0, .bool false, .bool false, .bool false] 49 (0, 0)) ∧ Below w.heap.size w wx)
  case first =>
    have id := fun w => IsData_c h ka xa sa ra kb xb sb rb kc xc sc rc p q z w
    have ia := fun w => IsAccess_c h ka xa sa ra kb xb sb rb kc xc sc rc p q z w
    rcases Bool.eq_false_or_eq_true (hasB h 3) with hs | hs
    all_goals
      rw [hs] at id
      go_wp2_with (first | ((with_reducible refine d_load ?_ rfl rfl b1 ?_); (rfl)) | ((with_reducible refine v_load ?_ rfl rfl b1 rfl rfl rfl rfl ?_); (rfl)) | (go_at_call 31; (with_reducible refine (id _).mono ?_); rintro e w1 ⟨rfl, h1⟩; have b1 := vblkn h1 b1; have b2 := vblkn h1 b2; have hB0 := vb hB0 h1) | (go_at_call 102; (with_reducible refine (ia _).mono ?_); rintro e w1 ⟨rfl, h1⟩; have b1 := vblkn h1 b1; have b2 := vblkn h1 b2; have hB0 := vb hB0 h1))
      go_meet
      case rel => rw [hs]; exact ⟨rfl, b1, b2, hB0⟩
  case rest =>
  obtain ⟨rfl, b1, b2, hB0⟩ := hcut
  rcases Bool.eq_false_or_eq_true (hasB h 3 && hasB h 12) with t1 | t1
  · rw [t1]
    go_wp2
    go_ret
    exact ⟨errI_ret (a := false) (by unfold chk6; rw [T0, t1]; rfl), hB0⟩
  rw [t1]
  have T1 := Lib.hid t1
  clear t1
  go_upto_region 5 with (fail)
  go_cut [18] from 4 to 44 (fun u wx => u = .bool (!zd) ∧ wx.heap[w.heap.size]? = some (.cells #[.int .u8 h, .int .u8 ka, .float .f64 xa, .string sa, .int .i64 ra, .int .u8 kb, .float .f64 xb, .string sb, .int .i64 rb, .int .u8 kc, .float .f64 xc, .string sc, .int .i64 rc, .bool p, .bool q, .bool z] 49 (0, 0)) ∧ wx.heap[w.heap.size + 1]? = some (.cells #[.int .u8 h, .int .u8 0, .float .f64 0, .string ⟨#[]⟩, .int .i64 0, .int .u8 0, .float .f64 0, .string ⟨#[]⟩, .int .i64 0, .int .u8 0, .float .f64 0, .string ⟨#[]⟩, .int .i64 0, .bool false, .bool false, .bool false] 49 (0, 0)) ∧ Below w.heap.size w wx)
  case first =>
    have hS : (fun wx => wx.heap[w.heap.size]? = some (.cells #[.int .u8 h, .int .u8 ka, .float .f64 xa, .string sa, .int .i64 ra, .int .u8 kb, .float .f64 xb, .string sb, .int .i64 rb, .int .u8 kc, .float .f64 xc, .string sc, .int .i64 rc, .bool p, .bool q, .bool z] 49 (0, 0)) ∧ wx.heap[w.heap.size + 1]? = some (.cells #[.int .u8 h, .int .u8 0, .float .f64 0, .string ⟨#[]⟩, .int .i64 0, .int .u8 0, .float .f64 0, .string ⟨#[]⟩, .int .i64 0, .int .u8 0, .float .f64 0, .string ⟨#[]⟩, .int .i64 0, .bool false, .bool false, .bool false] 49 (0, 0)) ∧ Below w.heap.size w wx) wc.drew := ⟨b1, b2, hB0.drew⟩
    refine wp_region_held_drew (S := fun wx => wx.heap[w.heap.size]? = some (.cells #[.int .u8 h, .int .u8 ka, .float .f64 xa, .string sa, .int .i64 ra, .int .u8 kb, .float .f64 xb, .string sb, .int .i64 rb, .int .u8 kc, .float .f64 xc, .string sc, .int .i64 rc, .bool p, .bool q, .bool z] 49 (0, 0)) ∧ wx.heap[w.heap.size + 1]? = some (.cells #[.int .u8 h, .int .u8 0, .float .f64 0, .string ⟨#[]⟩, .int .i64 0, .int .u8 0, .float .f64 0, .string ⟨#[]⟩, .int .i64 0, .int .u8 0, .float .f64 0, .string ⟨#[]⟩, .int .i64 0, .bool false, .bool false, .bool false] 49 (0, 0)) ∧ Below w.heap.size w wx) (by kernel_rfl) hS (fun hHeld => ?_)
    refine hH_take (i := 0) (v := .agg #[.int .u8 h, .int .u8 ka, .float .f64 xa, .string sa, .int .i64 ra, .int .u8 kb, .float .f64 xb, .string sb, .int .i64 rb, .int .u8 kc, .float .f64 xc, .string sc, .int .i64 rc, .bool p, .bool q, .bool z]) (d := 19) (l2 := #[true, false, false, false, false, false]) rfl (by kernel_rfl) (by kernel_rfl) (by kernel_rfl) (fun _ _ _ h => h) (by kernel_rfl) (fun w hSw => ?_) (by assumption) rfl (by kernel_rfl) ?_
    · exact ex_load rfl rfl hSw.1
    simp only [List.set]
    refine hH_take (i := 1) (v := .agg #[.int .u8 h, .int .u8 0, .float .f64 0, .string ⟨#[]⟩, .int .i64 0, .int .u8 0, .float .f64 0, .string ⟨#[]⟩, .int .i64 0, .int .u8 0, .float .f64 0, .string ⟨#[]⟩, .int .i64 0, .bool false, .bool false, .bool false]) (d := 20) (l2 := #[true, true, false, false, false, false]) rfl (by kernel_rfl) (by kernel_rfl) (by kernel_rfl) (fun _ _ _ h => h) (by kernel_rfl) (fun w hSw => ?_) (by assumption) rfl (by kernel_rfl) ?_
    · exact ex_load rfl rfl hSw.2.1
    simp only [List.set]
    refine hH_take (i := 3) (v := .agg #[.int .u8 h, .int .u8 0, .float .f64 0, .string ⟨#[]⟩, .int .i64 0, .int .u8 0, .float .f64 0, .string ⟨#[]⟩, .int .i64 0, .int .u8 0, .float .f64 0, .string ⟨#[]⟩, .int .i64 0, .bool false, .bool false, .bool false]) (d := 22) (l2 := #[true, true, false, true, false, false]) rfl (by kernel_rfl) (by kernel_rfl) (by kernel_rfl) (fun _ _ _ h => h) (by kernel_rfl) (fun w hSw => ?_) (by assumption) rfl (by kernel_rfl) ?_
    · exact ex_load rfl rfl hSw.2.1
    simp only [List.set]
    refine wpAnyH_ready (rs := [2]) (by kernel_rfl) (by simp) ?_
    refine AllReadyH.cons rfl (fun K hK => ?_) AllReadyH.nil
    go_simp
    (go_at_call 103; (with_reducible refine (hl _).mono ?_); rintro e w1 ⟨rfl, h1⟩; obtain ⟨b1, b2, hB0⟩ := hS; have hS : (fun wx => wx.heap[w.heap.size]? = some (.cells #[.int .u8 h, .int .u8 ka, .float .f64 xa, .string sa, .int .i64 ra, .int .u8 kb, .float .f64 xb, .string sb, .int .i64 rb, .int .u8 kc, .float .f64 xc, .string sc, .int .i64 rc, .bool p, .bool q, .bool z] 49 (0, 0)) ∧ wx.heap[w.heap.size + 1]? = some (.cells #[.int .u8 h, .int .u8 0, .float .f64 0, .string ⟨#[]⟩, .int .i64 0, .int .u8 0, .float .f64 0, .string ⟨#[]⟩, .int .i64 0, .int .u8 0, .float .f64 0, .string ⟨#[]⟩, .int .i64 0, .bool false, .bool false, .bool false] 49 (0, 0)) ∧ Below w.heap.size w wx) w1 := ⟨vblkn h1 b1, vblkn h1 b2, vb hB0 h1⟩)
    refine hK.out _ _ hS (fun hHeld => ?_)
    clear hK K
    refine hH_take (i := 4) (v := .bool (!zd)) (d := 23) (l2 := #[true, true, true, true, true, false]) rfl (by kernel_rfl) (by kernel_rfl) (by kernel_rfl) (fun _ _ _ h => h) (by kernel_rfl) (fun w hSw => ?_) (by assumption) rfl (by kernel_rfl) ?_
    · refine (ex_neq rfl rfl rfl).trans ?_; rw [HZ.out]
    simp only [List.set]
    refine hH_take (i := 5) (v := .bool (!zd)) (d := 18) (l2 := #[true, true, true, true, true, true]) rfl (by kernel_rfl) (by kernel_rfl) (by kernel_rfl) (fun _ _ _ h => h) (by kernel_rfl) (fun w hSw => ?_) (by assumption) rfl (by kernel_rfl) ?_
    · go_simp
    simp only [List.set]
    refine wpAnyH_done (by kernel_rfl) ?_ _
    go_wp2_with (fail)
    go_meet
    case rel => exact ⟨rfl, hS⟩
  case rest =>
  obtain ⟨rfl, b1, b2, hB0⟩ := hcut
  rcases Bool.eq_false_or_eq_true (!zd) with t2 | t2
  · rw [t2]
    go_wp2
    go_ret
    exact ⟨errI_ret (a := false) (by unfold chk6; rw [T0, T1, t2]; rfl), hB0⟩
  rw [t2]
  have T2 := Lib.hid t2
  clear t2
  go_upto_region 7 with (fail)
  go_cut [24] from 4 to 44 (fun u wx => u = .bool (!mA) ∧ wx.heap[w.heap.size]? = some (.cells #[.int .u8 h, .int .u8 ka, .float .f64 xa, .string sa, .int .i64 ra, .int .u8 kb, .float .f64 xb, .string sb, .int .i64 rb, .int .u8 kc, .float .f64 xc, .string sc, .int .i64 rc, .bool p, .bool q, .bool z] 49 (0, 0)) ∧ wx.heap[w.heap.size + 1]? = some (.cells #[.int .u8 h, .int .u8 0, .float .f64 0, .string ⟨#[]⟩, .int .i64 0, .int .u8 0, .float .f64 0, .string ⟨#[]⟩, .int .i64 0, .int .u8 0, .float .f64 0, .string ⟨#[]⟩, .int .i64 0, .bool false, .bool false, .bool false] 49 (0, 0)) ∧ Below w.heap.size w wx)
  case first =>
    go_wp2_with (first | ((with_reducible refine d_load ?_ rfl rfl b1 ?_); (rfl)) | ((with_reducible refine v_load ?_ rfl rfl b1 rfl rfl rfl rfl ?_); (rfl)) | (go_at_call 111; (with_reducible refine (hA _).mono ?_); rintro e w1 ⟨rfl, h1⟩; have b1 := vblkn h1 b1; have b2 := vblkn h1 b2; have hB0 := vb hB0 h1))
    go_meet
    case rel => exact ⟨rfl, b1, b2, hB0⟩
  case rest =>
  obtain ⟨rfl, b1, b2, hB0⟩ := hcut
  rcases Bool.eq_false_or_eq_true (!mA) with t3 | t3
  · rw [t3]
    go_wp2
    go_ret
    exact ⟨errI_ret (a := false) (by unfold chk6; rw [T0, T1, T2, t3]; rfl), hB0⟩
  rw [t3]
  have T3 := Lib.hid t3
  clear t3
  go_upto_region 8 with (fail)
  go_cut [24] from 4 to 44 (fun u wx => u = .bool (hasB h 4 && !cB) ∧ wx.heap[w.heap.size]? = some (.cells #[.int .u8 h, .int .u8 ka, .float .f64 xa, .string sa, .int .i64 ra, .int .u8 kb, .float .f64 xb, .string sb, .int .i64 rb, .int .u8 kc, .float .f64 xc, .string sc, .int .i64 rc, .bool p, .bool q, .bool z] 49 (0, 0)) ∧ wx.heap[w.heap.size + 1]? = some (.cells #[.int .u8 h, .int .u8 0, .float .f64 0, .string ⟨#[]⟩, .int .i64 0, .int .u8 0, .float .f64 0, .string ⟨#[]⟩, .int .i64 0, .int .u8 0, .float .f64 0, .string ⟨#[]⟩, .int .i64 0, .bool false, .bool false, .bool false] 49 (0, 0)) ∧ Below w.heap.size w wx)
  case first =>
    rcases Bool.eq_false_or_eq_true (hasB h 4) with hs | hs
    all_goals
      go_wp2_with (first | ((with_reducible refine d_load ?_ rfl rfl b1 ?_); (rfl)) | ((with_reducible refine v_load ?_ rfl rfl b1 rfl rfl rfl rfl ?_); (rfl)) | (go_at_call 60; (with_reducible refine (has_b hs _ _ _ _ _ _ _ _ _ _ _ _ _ _ _ _).mono ?_); rintro e w1 ⟨rfl, h1⟩; have b1 := vblkn h1 b1; have b2 := vblkn h1 b2; have hB0 := vb hB0 h1) | (go_at_call 141; (with_reducible refine (hB _).mono ?_); rintro e w1 ⟨rfl, h1⟩; have b1 := vblkn h1 b1; have b2 := vblkn h1 b2; have hB0 := vb hB0 h1))
      go_meet
      case rel => rw [hs]; exact ⟨rfl, b1, b2, hB0⟩
  case rest =>
  obtain ⟨rfl, b1, b2, hB0⟩ := hcut
  rcases Bool.eq_false_or_eq_true (hasB h 4 && !cB) with t4 | t4
  · rw [t4]
    go_wp2
    go_ret
    exact ⟨errI_ret (a := false) (by unfold chk6; rw [T0, T1, T2, T3, t4]; rfl), hB0⟩
  rw [t4]
  have T4 := Lib.hid t4
  clear t4
  go_upto_region 9 with (fail)
  go_cut [24] from 4 to 44 (fun u wx => u = .bool (hasB h 8 && !cC) ∧ wx.heap[w.heap.size]? = some (.cells #[.int .u8 h, .int .u8 ka, .float .f64 xa, .string sa, .int .i64 ra, .int .u8 kb, .float .f64 xb, .string sb, .int .i64 rb, .int .u8 kc, .float .f64 xc, .string sc, .int .i64 rc, .bool p, .bool q, .bool z] 49 (0, 0)) ∧ wx.heap[w.heap.size + 1]? = some (.cells #[.int .u8 h, .int .u8 0, .float .f64 0, .string ⟨#[]⟩, .int .i64 0, .int .u8 0, .float .f64 0, .string ⟨#[]⟩, .int .i64 0, .int .u8 0, .float .f64 0, .string ⟨#[]⟩, .int .i64 0, .bool false, .bool false, .bool false] 49 (0, 0)) ∧ Below w.heap.size w wx)
  case first =>
    rcases Bool.eq_false_or_eq_true (hasB h 8) with hs | hs
    all_goals
      go_wp2_with (first | ((with_reducible refine d_load ?_ rfl rfl b1 ?_); (rfl)) | ((with_reducible refine v_load ?_ rfl rfl b1 rfl rfl rfl rfl ?_); (rfl)) | (go_at_call 60; (with_reducible refine (has_b hs _ _ _ _ _ _ _ _ _ _ _ _ _ _ _ _).mono ?_); rintro e w1 ⟨rfl, h1⟩; have b1 := vblkn h1 b1; have b2 := vblkn h1 b2; have hB0 := vb hB0 h1) | (go_at_call 141; (with_reducible refine (hC _).mono ?_); rintro e w1 ⟨rfl, h1⟩; have b1 := vblkn h1 b1; have b2 := vblkn h1 b2; have hB0 := vb hB0 h1))
      go_meet
      case rel => rw [hs]; exact ⟨rfl, b1, b2, hB0⟩
  case rest =>
  obtain ⟨rfl, b1, b2, hB0⟩ := hcut
  rcases Bool.eq_false_or_eq_true (hasB h 8 && !cC) with t5 | t5
  · rw [t5]
    go_wp2
    go_ret
    exact ⟨errI_ret (a := false) (by unfold chk6; rw [T0, T1, T2, T3, T4, t5]; rfl), hB0⟩
  rw [t5]
  have T5 := Lib.hid t5
  clear t5
  go_wp2
  go_ret
  exact ⟨errI_ret (a := true) (by unfold chk6; rw [T0, T1, T2, T3, T4, T5]; rfl), hB0⟩
end Go.Proofs.YtpeegmpfkongeaaGreatDoor.S
/-
  Descriptors as a structure, and what the package's functions make of them: plain functions.
-/
namespace Go.Proofs.YtpeegmpfkongeaaGreatDoor.S
open Go.RowKit Fl

structure Vq where
  k : Int
  x : Nat
  s : ByteArray
  r : Int
structure Dq where
  h : Int
  a : Vq
  b : Vq
  c : Vq
  p : Bool
  q : Bool
  z : Bool
def v0 : Vq := ⟨0, 0, ⟨#[]⟩, 0⟩
def Vq.val (v : Vq) : Value := .agg #[.int .u8 v.k, .float .f64 v.x, .string v.s, .int .i64 v.r]
def Dq.cells (d : Dq) : Array Value := #[.int .u8 d.h, .int .u8 d.a.k, .float .f64 d.a.x, .string d.a.s, .int .i64 d.a.r, .int .u8 d.b.k, .float .f64 d.b.x, .string d.b.s, .int .i64 d.b.r, .int .u8 d.c.k, .float .f64 d.c.x, .string d.c.s, .int .i64 d.c.r, .bool d.p, .bool d.q, .bool d.z]
def Dq.val (d : Dq) : Value := .agg d.cells
def dz (h : Int) : Dq := ⟨h, v0, v0, v0, false, false, false⟩
def layQ (u d : Dq) : Dq := ⟨bits .or .u8 u.h d.h, bif hasB d.h 1 then d.a else u.a, bif hasB d.h 4 then d.b else u.b, bif hasB d.h 8 then d.c else u.c, bif hasB d.h 2 then d.p else u.p, bif hasB d.h 16 then d.q else u.q, bif hasB d.h 32 then d.z else u.z⟩
theorem lay_q (u d : Dq) (w : World) : Calls Tryz.prog 103 #[u.val, d.val] w fun e w' => e = .returned (layQ u d).val ∧ Below w.heap.size w w' := by
  refine (lay_c u.h d.h u.a.k u.a.x u.a.s u.a.r u.b.k u.b.x u.b.s u.b.r u.c.k u.c.x u.c.s u.c.r d.a.k d.a.x d.a.s d.a.r d.b.k d.b.x d.b.s d.b.r d.c.k d.c.x d.c.s d.c.r u.p u.q u.z d.p d.q d.z w).mono fun e w' ⟨he, hb⟩ => ⟨he.trans ?_, hb⟩
  unfold Dq.val Dq.cells layQ
  dsimp only [layC]
  cases hasB d.h 1 <;> cases hasB d.h 2 <;> cases hasB d.h 4 <;> cases hasB d.h 8 <;> cases hasB d.h 16 <;> cases hasB d.h 32 <;> rfl
def Vq.In (v : Vq) : Prop := VIn v.k v.x v.r
def Vq.Ok (v : Vq) : Prop := VOk v.k v.x v.s v.r
noncomputable def Vq.may (v : Vq) : Bool := mayI v.k v.x v.s v.r
noncomputable def Vq.calls (v : Vq) : Bool := callsI v.k v.x v.s v.r
def Vq.z (v : Vq) : Bool := zV v.k v.x v.s v.r
def sameQ (a b : Vq) : Bool := sameI a.k a.x a.s a.r b.k b.x b.s b.r
noncomputable def chkQ (d : Dq) : Bool :=
  chk6 (hiB d.h) (hasB d.h 3 && hasB d.h 12) (!zD (layQ d (dz d.h)).h d.h (layQ d (dz d.h)).a.z (layQ d (dz d.h)).b.z (layQ d (dz d.h)).c.z (layQ d (dz d.h)).p (layQ d (dz d.h)).q (layQ d (dz d.h)).z) (!d.a.may) (hasB d.h 4 && !d.b.calls) (hasB d.h 8 && !d.c.calls)
structure Dq.In (d : Dq) : Prop where
  h0 : 0 ≤ d.h
  h1 : d.h < 256
  a : d.a.In
  b : d.b.In
  c : d.c.In
theorem Check_q {d : Dq} (hd : d.In) (w : World) : Calls Tryz.prog 85 #[d.val] w fun e w' => e = .returned (.int .i64 (errI (chkQ d))) ∧ Below w.heap.size w w' :=
  Check_x d.h (layQ d (dz d.h)).h d.a.k d.a.x d.a.s d.a.r d.b.k d.b.x d.b.s d.b.r d.c.k d.c.x d.c.s d.c.r (layQ d (dz d.h)).a.k (layQ d (dz d.h)).a.x (layQ d (dz d.h)).a.s (layQ d (dz d.h)).a.r (layQ d (dz d.h)).b.k (layQ d (dz d.h)).b.x (layQ d (dz d.h)).b.s (layQ d (dz d.h)).b.r (layQ d (dz d.h)).c.k (layQ d (dz d.h)).c.x (layQ d (dz d.h)).c.s (layQ d (dz d.h)).c.r d.p d.q d.z (layQ d (dz d.h)).p (layQ d (dz d.h)).q (layQ d (dz d.h)).z
    (fun w => lay_q d (dz d.h) w) (fun w => may_i hd.a w) (fun w => calls_i hd.b w) (fun w => calls_i hd.c w) w
theorem Same_q {a b : Dq} (ha : (0 ≤ a.a.k ∧ a.a.k ≤ 8) ∧ (0 ≤ a.b.k ∧ a.b.k ≤ 8) ∧ (0 ≤ a.c.k ∧ a.c.k ≤ 8)) (hb : 0 ≤ b.a.k ∧ 0 ≤ b.b.k ∧ 0 ≤ b.c.k) (w : World) :
    Calls Tryz.prog 32 #[a.val, b.val] w fun e w' => e = .returned (.bool (sameD a.h b.h (sameQ a.a b.a) (sameQ a.b b.b) (sameQ a.c b.c) a.p b.p a.q b.q a.z b.z)) ∧ Below w.heap.size w w' :=
  Same_d a.h b.h a.a.k a.a.x a.a.s a.a.r a.b.k a.b.x a.b.s a.b.r a.c.k a.c.x a.c.s a.c.r b.a.k b.a.x b.a.s b.a.r b.b.k b.b.x b.b.s b.b.r b.c.k b.c.x b.c.s b.c.r a.p a.q a.z b.p b.q b.z
    (fun w => same_i ha.1 hb.1 w) (fun w => same_i ha.2.1 hb.2.1 w) (fun w => same_i ha.2.2 hb.2.2 w) w
theorem IsData_q (d : Dq) (w : World) : Calls Tryz.prog 31 #[d.val] w fun e w' => e = .returned (.bool (hasB d.h 3)) ∧ Below w.heap.size w w' := IsData_c d.h d.a.k d.a.x d.a.s d.a.r d.b.k d.b.x d.b.s d.b.r d.c.k d.c.x d.c.s d.c.r d.p d.q d.z w
theorem IsAccess_q (d : Dq) (w : World) : Calls Tryz.prog 102 #[d.val] w fun e w' => e = .returned (.bool (hasB d.h 12)) ∧ Below w.heap.size w w' := IsAccess_c d.h d.a.k d.a.x d.a.s d.a.r d.b.k d.b.x d.b.s d.b.r d.c.k d.c.x d.c.s d.c.r d.p d.q d.z w

def completeQ (d : Dq) : Dq := bif hasB d.h 12 then layQ (dz 60) d else layQ (dz 51) d
def becomeQ (d now : Dq) : Dq := completeQ (layQ { now with h := bif hasB d.h 3 then bits .andNot .u8 now.h 12 else bif hasB d.h 12 then bits .andNot .u8 now.h 3 else now.h } d)
noncomputable def wholeQ (d : Dq) : Bool := chkQ d && (d.h == 51 || d.h == 60)
/-- d's Has, as it is held against now's -/
def heldH (d now : Dq) : Int := bif now.p then bits .andNot .u8 d.h 3 else d.h
def changesQ (d now : Dq) : Bool :=
  now.z || (!(hasB d.h 3 && hasB now.h 12) && (!(hasB d.h 12 && hasB now.h 3) &&
    sameD (heldH d now) (bits .and .u8 now.h (heldH d now)) (sameQ d.a now.a) (sameQ d.b now.b) (sameQ d.c now.c) d.p now.p d.q now.q d.z now.z))
noncomputable def compatQ (ext : Bool) (d : Dq) (found : Bool) (now : Dq) : Bool × Int :=
  bif !chkQ d || (found && !wholeQ now) then (false, 90) else bif !found then (ext, 0) else (changesQ d now, 0)
noncomputable def applyQ (ext : Bool) (d : Dq) (found : Bool) (now : Dq) : Dq :=
  bif !(compatQ ext d found now).1 then dz 0 else bif !found then completeQ d else becomeQ d now
end Go.Proofs.YtpeegmpfkongeaaGreatDoor.S
/-
  Descriptors that may be; what a property becomes: the mathematics.
-/
namespace Go.Proofs.YtpeegmpfkongeaaGreatDoor.S
open Go.RowKit Fl

def allH : List Int := [0, 1, 2, 3, 4, 8, 12, 16, 17, 18, 19, 20, 24, 28, 32, 33, 34, 35, 36, 40, 44, 48, 49, 50, 51, 52, 56, 60]
theorem allH_nat : ∀ n : Fin 256, hiB ((n : Nat) : Int) = false → (hasB ((n : Nat) : Int) 3 && hasB ((n : Nat) : Int) 12) = false → ((n : Nat) : Int) ∈ allH := by decide +kernel
theorem allH_of {h : Int} (h0 : 0 ≤ h) (h1 : h < 256) (a : hiB h = false) (b : (hasB h 3 && hasB h 12) = false) : h ∈ allH := by
  obtain ⟨n, rfl⟩ := Int.eq_ofNat_of_zero_le h0
  exact allH_nat ⟨n, by omega⟩ a b
theorem allH_bits : ∀ h ∈ allH, hiB h = false ∧ (hasB h 3 && hasB h 12) = false ∧ bits .or .u8 h h = h ∧ hasB h 3 = (hasB h 1 || hasB h 2) ∧ hasB h 12 = (hasB h 4 || hasB h 8) ∧ bits .and .u8 h h = h := by decide +kernel
structure Good (d : Dq) : Prop where
  mem : d.h ∈ allH
  a : d.a.Ok
  na : hasB d.h 1 = false → d.a.z = true
  b : hasB d.h 4 = true → d.b.Ok ∧ calI d.b.k = true
  nb : hasB d.h 4 = false → d.b.z = true
  c : hasB d.h 8 = true → d.c.Ok ∧ calI d.c.k = true
  nc : hasB d.h 8 = false → d.c.z = true
  np : hasB d.h 2 = false → d.p = false
  nq : hasB d.h 16 = false → d.q = false
  nz : hasB d.h 32 = false → d.z = false
theorem v0_z : v0.z = true := by
  have z3 : (⟨#[]⟩ : ByteArray).toList = [] := by rw [toList_data]
  unfold v0 Vq.z zV
  dsimp only
  rw [z3, show feq 0 0 = true from by decide]
  rfl
theorem v0_ok : v0.Ok := vok_und
theorem calls_iff {v : Vq} : v.calls = true ↔ v.Ok ∧ calI v.k = true := by
  unfold Vq.calls callsI Vq.Ok
  rw [Bool.and_eq_true, mayI_iff]
theorem good_of {d : Dq} (hd : d.In) (h : chkQ d = true) : Good d := by
  unfold chkQ chk6 zD layQ dz at h
  dsimp only at h
  simp only [Bool.and_eq_true, Bool.not_eq_true', Bool.not_eq_false'] at h
  obtain ⟨⟨⟨⟨⟨h0, h1⟩, _, h3, h4, h5, h6, h7, h8⟩, hm⟩, hb⟩, hc⟩ := h
  refine ⟨allH_of hd.h0 hd.h1 h0 h1, mayI_iff.1 hm, ?_, ?_, ?_, ?_, ?_, ?_, ?_, ?_⟩
  · intro e; rw [e] at h3; exact h3
  · intro e; rw [e] at hb; simpa [calls_iff] using hb
  · intro e; rw [e] at h4; exact h4
  · intro e; rw [e] at hc; simpa [calls_iff] using hc
  · intro e; rw [e] at h5; exact h5
  · intro e; rw [e] at h6; exact h6
  · intro e; rw [e] at h7; exact h7
  · intro e; rw [e] at h8; exact h8
theorem chk_of {d : Dq} (g : Good d) : chkQ d = true := by
  obtain ⟨b0, b1, b2, _⟩ := allH_bits _ g.mem
  have ea : (bif hasB d.h 1 then v0 else d.a).z = true := by cases e : hasB d.h 1 with | false => exact g.na e | true => exact v0_z
  have eb : (bif hasB d.h 4 then v0 else d.b).z = true := by cases e : hasB d.h 4 with | false => exact g.nb e | true => exact v0_z
  have ec : (bif hasB d.h 8 then v0 else d.c).z = true := by cases e : hasB d.h 8 with | false => exact g.nc e | true => exact v0_z
  have ep : (bif hasB d.h 2 then false else d.p) = false := by cases e : hasB d.h 2 with | false => exact g.np e | true => rfl
  have eq : (bif hasB d.h 16 then false else d.q) = false := by cases e : hasB d.h 16 with | false => exact g.nq e | true => rfl
  have ez : (bif hasB d.h 32 then false else d.z) = false := by cases e : hasB d.h 32 with | false => exact g.nz e | true => rfl
  have em : d.a.may = true := mayI_iff.2 g.a
  have e4 : (hasB d.h 4 && !d.b.calls) = false := by cases e : hasB d.h 4 with | false => rfl | true => rw [calls_iff.2 (g.b e)]; rfl
  have e8 : (hasB d.h 8 && !d.c.calls) = false := by cases e : hasB d.h 8 with | false => rfl | true => rw [calls_iff.2 (g.c e)]; rfl
  unfold chkQ chk6 zD layQ dz
  dsimp only
  rw [b0, b1, b2, ea, eb, ec, ep, eq, ez, em, e4, e8, beq_self_eq_true]
  rfl
theorem z_kind {v : Vq} (h : v.z = true) : v.k = 0 := by
  unfold Vq.z zV at h
  rw [Bool.and_eq_true] at h
  exact eq_of_beq h.1
theorem good_kinds {d : Dq} (g : Good d) : (0 ≤ d.a.k ∧ d.a.k ≤ 8) ∧ (0 ≤ d.b.k ∧ d.b.k ≤ 8) ∧ (0 ≤ d.c.k ∧ d.c.k ≤ 8) := by
  refine ⟨vok_kind g.a, ?_, ?_⟩
  · cases e : hasB d.h 4 with
    | true => exact vok_kind (g.b e).1
    | false => rw [z_kind (g.nb e)]; omega
  · cases e : hasB d.h 8 with
    | true => exact vok_kind (g.c e).1
    | false => rw [z_kind (g.nc e)]; omega
theorem whole_iff {d : Dq} (hd : d.In) : wholeQ d = true ↔ Good d ∧ (d.h = 51 ∨ d.h = 60) := by
  unfold wholeQ
  rw [Bool.and_eq_true, Bool.or_eq_true, beq_iff_eq, beq_iff_eq]
  exact ⟨fun ⟨a, b⟩ => ⟨good_of hd a, b⟩, fun ⟨a, b⟩ => ⟨chk_of a, b⟩⟩

/-- what it becomes, where there is none -/
theorem complete_eq {d : Dq} (g : d.h ∈ allH) : completeQ d = ⟨bif hasB d.h 12 then 60 else 51, bif hasB d.h 1 then d.a else v0, bif hasB d.h 4 then d.b else v0, bif hasB d.h 8 then d.c else v0, bif hasB d.h 2 then d.p else false, bif hasB d.h 16 then d.q else false, bif hasB d.h 32 then d.z else false⟩ := by
  obtain ⟨h, a, b, c, p, q, z⟩ := d
  dsimp only at g ⊢
  simp only [allH, List.mem_cons, List.not_mem_nil, or_false] at g
  rcases g with rfl | rfl | rfl | rfl | rfl | rfl | rfl | rfl | rfl | rfl | rfl | rfl | rfl | rfl | rfl | rfl | rfl | rfl | rfl | rfl | rfl | rfl | rfl | rfl | rfl | rfl | rfl | rfl <;> kernel_rfl
/-- what it becomes, where there is one -/
theorem become_eq {d now : Dq} (g : d.h ∈ allH) (hn : now.h = 51 ∨ now.h = 60) : becomeQ d now = ⟨bif hasB d.h 3 then 51 else bif hasB d.h 12 then 60 else now.h,
    bif hasB d.h 1 then d.a else bif !hasB d.h 12 && now.h == 51 then now.a else v0, bif hasB d.h 4 then d.b else bif !hasB d.h 3 && now.h == 60 then now.b else v0, bif hasB d.h 8 then d.c else bif !hasB d.h 3 && now.h == 60 then now.c else v0,
    bif hasB d.h 2 then d.p else bif !hasB d.h 12 && now.h == 51 then now.p else false, bif hasB d.h 16 then d.q else now.q, bif hasB d.h 32 then d.z else now.z⟩ := by
  obtain ⟨h, a, b, c, p, q, z⟩ := d
  obtain ⟨m, a', b', c', p', q', z'⟩ := now
  dsimp only at g hn ⊢
  simp only [allH, List.mem_cons, List.not_mem_nil, or_false] at g
  rcases hn with rfl | rfl <;>
  rcases g with rfl | rfl | rfl | rfl | rfl | rfl | rfl | rfl | rfl | rfl | rfl | rfl | rfl | rfl | rfl | rfl | rfl | rfl | rfl | rfl | rfl | rfl | rfl | rfl | rfl | rfl | rfl | rfl <;> kernel_rfl
end Go.Proofs.YtpeegmpfkongeaaGreatDoor.S
/-
  What a property becomes may be, is complete and has what was asked; applied to itself it stays; what is not configurable stays: the mathematics.
-/
namespace Go.Proofs.YtpeegmpfkongeaaGreatDoor.S
open Go.RowKit Fl

def leftQ (d : Dq) (m : Int) : Dq := ⟨bits .and .u8 d.h m, bif hasB (bits .and .u8 d.h m) 1 then d.a else v0, bif hasB (bits .and .u8 d.h m) 4 then d.b else v0, bif hasB (bits .and .u8 d.h m) 8 then d.c else v0, bif hasB (bits .and .u8 d.h m) 2 then d.p else false, bif hasB (bits .and .u8 d.h m) 16 then d.q else false, bif hasB (bits .and .u8 d.h m) 32 then d.z else false⟩
theorem bits_ways {h : Int} (g : h ∈ allH) : ∃ b1 b2 b4 b8, hasB h 1 = b1 ∧ hasB h 2 = b2 ∧ hasB h 4 = b4 ∧ hasB h 8 = b8 ∧ hasB h 3 = (b1 || b2) ∧ hasB h 12 = (b4 || b8) ∧ ((b1 || b2) && (b4 || b8)) = false := by
  obtain ⟨_, h2, _, h4, h5, _⟩ := allH_bits h g
  exact ⟨_, _, _, _, rfl, rfl, rfl, rfl, h4, h5, by rw [← h4, ← h5]; exact h2⟩
theorem good51 {a : Vq} {p q z : Bool} (ha : a.Ok) : Good ⟨51, a, v0, v0, p, q, z⟩ :=
  ⟨by dsimp only; decide, ha, fun h => absurd h (by dsimp only; decide), fun h => absurd h (by dsimp only; decide), fun _ => v0_z, fun h => absurd h (by dsimp only; decide), fun _ => v0_z, fun h => absurd h (by dsimp only; decide), fun h => absurd h (by dsimp only; decide), fun h => absurd h (by dsimp only; decide)⟩
theorem good60 {b c : Vq} {q z : Bool} (hb : b.Ok ∧ calI b.k = true) (hc : c.Ok ∧ calI c.k = true) : Good ⟨60, v0, b, c, false, q, z⟩ :=
  ⟨by dsimp only; decide, v0_ok, fun _ => v0_z, fun _ => hb, fun h => absurd h (by dsimp only; decide), fun _ => hc, fun h => absurd h (by dsimp only; decide), fun _ => rfl, fun h => absurd h (by dsimp only; decide), fun h => absurd h (by dsimp only; decide)⟩
theorem v0_cal : v0.Ok ∧ calI v0.k = true := ⟨v0_ok, rfl⟩
theorem become_good {d now : Dq} (g : Good d) (n : Good now) (hn : now.h = 51 ∨ now.h = 60) : Good (becomeQ d now) ∧ ((becomeQ d now).h = 51 ∨ (becomeQ d now).h = 60) := by
  rw [become_eq g.mem hn]
  obtain ⟨b1, b2, b4, b8, e1, e2, e4, e8, e3, e12, ex⟩ := bits_ways g.mem
  have ga := g.a
  have gb := g.b
  have gc := g.c
  have na := n.a
  have nb := n.b
  have nc := n.c
  rw [e4] at gb
  rw [e8] at gc
  rw [e1, e2, e4, e8, e3, e12]
  clear e1 e2 e4 e8 e3 e12 g n
  obtain ⟨m, a', b', c', p', q', z'⟩ := now
  rcases hn with hn | hn <;> dsimp only at hn <;> subst hn <;> dsimp only at na nb nc ⊢
  · clear nb nc
    cases b1 <;> cases b2 <;> cases b4 <;> cases b8 <;> first
      | exact absurd ex (by decide)
      | exact ⟨good51 ga, Or.inl rfl⟩
      | exact ⟨good51 na, Or.inl rfl⟩
      | exact ⟨good60 (gb rfl) (gc rfl), Or.inr rfl⟩
      | exact ⟨good60 (gb rfl) v0_cal, Or.inr rfl⟩
      | exact ⟨good60 v0_cal (gc rfl), Or.inr rfl⟩
  · have nb := nb (by decide)
    have nc := nc (by decide)
    cases b1 <;> cases b2 <;> cases b4 <;> cases b8 <;> first
      | exact absurd ex (by decide)
      | exact ⟨good51 ga, Or.inl rfl⟩
      | exact ⟨good51 v0_ok, Or.inl rfl⟩
      | exact ⟨good60 (gb rfl) (gc rfl), Or.inr rfl⟩
      | exact ⟨good60 (gb rfl) nc, Or.inr rfl⟩
      | exact ⟨good60 nb (gc rfl), Or.inr rfl⟩
      | exact ⟨good60 nb nc, Or.inr rfl⟩
theorem complete_good {d : Dq} (g : Good d) : Good (completeQ d) ∧ ((completeQ d).h = 51 ∨ (completeQ d).h = 60) := by
  rw [complete_eq g.mem]
  obtain ⟨b1, b2, b4, b8, e1, e2, e4, e8, e3, e12, ex⟩ := bits_ways g.mem
  have ga := g.a
  have gb := g.b
  have gc := g.c
  rw [e4] at gb
  rw [e8] at gc
  rw [e1, e2, e4, e8, e12]
  clear e1 e2 e4 e8 e3 e12 g
  cases b1 <;> cases b2 <;> cases b4 <;> cases b8 <;> first
    | exact absurd ex (by decide)
    | exact ⟨good51 ga, Or.inl rfl⟩
    | exact ⟨good51 v0_ok, Or.inl rfl⟩
    | exact ⟨good60 (gb rfl) (gc rfl), Or.inr rfl⟩
    | exact ⟨good60 (gb rfl) v0_cal, Or.inr rfl⟩
    | exact ⟨good60 v0_cal (gc rfl), Or.inr rfl⟩
/-- the fields that d has are there as d has them -/
structure Has (d x : Dq) : Prop where
  h : bits .and .u8 x.h d.h = d.h
  a : hasB d.h 1 = true → x.a = d.a
  b : hasB d.h 4 = true → x.b = d.b
  c : hasB d.h 8 = true → x.c = d.c
  p : hasB d.h 2 = true → x.p = d.p
  q : hasB d.h 16 = true → x.q = d.q
  z : hasB d.h 32 = true → x.z = d.z
theorem has_bits : ∀ h ∈ allH, bits .and .u8 (bif hasB h 12 then 60 else 51) h = h ∧ bits .and .u8 (bif hasB h 3 then 51 else bif hasB h 12 then 60 else 51) h = h ∧ bits .and .u8 (bif hasB h 3 then 51 else bif hasB h 12 then 60 else 60) h = h := by decide +kernel
theorem complete_has {d : Dq} (g : d.h ∈ allH) : Has d (completeQ d) := by
  rw [complete_eq g]
  refine ⟨(has_bits _ g).1, ?_, ?_, ?_, ?_, ?_, ?_⟩ <;> (intro e; dsimp only; rw [e]; rfl)
theorem become_has {d now : Dq} (g : d.h ∈ allH) (hn : now.h = 51 ∨ now.h = 60) : Has d (becomeQ d now) := by
  rw [become_eq g hn]
  refine ⟨?_, ?_, ?_, ?_, ?_, ?_, ?_⟩
  · rcases hn with e | e <;> (dsimp only; rw [e])
    · exact (has_bits _ g).2.1
    · exact (has_bits _ g).2.2
  all_goals (intro e; dsimp only; rw [e]; rfl)
theorem same_refl {v : Vq} (h : v.Ok) : sameQ v v = true := same_i_refl h
theorem sameD_true {h : Int} {sA sB sC p p' q q' z z' : Bool} (a : hasB h 1 = true → sA = true) (b : hasB h 4 = true → sB = true) (c : hasB h 8 = true → sC = true) (hp : hasB h 2 = true → p = p') (hq : hasB h 16 = true → q = q') (hz : hasB h 32 = true → z = z') : sameD h h sA sB sC p p' q q' z z' = true := by
  unfold sameD same7
  rw [beq_self_eq_true]
  have f1 : (hasB h 1 && !sA) = false := by cases e : hasB h 1 with | false => rfl | true => rw [a e]; rfl
  have f2 : (hasB h 2 && (p != p')) = false := by cases e : hasB h 2 with | false => rfl | true => rw [hp e]; cases p' <;> rfl
  have f3 : (hasB h 4 && !sB) = false := by cases e : hasB h 4 with | false => rfl | true => rw [b e]; rfl
  have f4 : (hasB h 8 && !sC) = false := by cases e : hasB h 8 with | false => rfl | true => rw [c e]; rfl
  have f5 : (hasB h 16 && (q != q')) = false := by cases e : hasB h 16 with | false => rfl | true => rw [hq e]; cases q' <;> rfl
  have f6 : (hasB h 32 && (z != z')) = false := by cases e : hasB h 32 with | false => rfl | true => rw [hz e]; cases z' <;> rfl
  rw [f1, f2, f3, f4, f5, f6]
  rfl
/-- what desc.Same answers of two descriptors -/
def sameDq (a b : Dq) : Bool := sameD a.h b.h (sameQ a.a b.a) (sameQ a.b b.b) (sameQ a.c b.c) a.p b.p a.q b.q a.z b.z
end Go.Proofs.YtpeegmpfkongeaaGreatDoor.S
/-
  Properties and their lists: which may be, where a key stands, what Put and Drop make of a list: plain functions.
-/
namespace Go.Proofs.YtpeegmpfkongeaaGreatDoor.S
open Go.RowKit Fl
open Classical

structure Pq where
  k : Ky
  d : Dq
instance : Inhabited Pq := ⟨⟨⟨⟨#[]⟩, 0⟩, dz 0⟩⟩
def pcl (p : Pq) : List Value := .string p.k.str :: .int .i64 p.k.sym :: p.d.cells.toList
def Pq.In (p : Pq) : Prop := KyIn p.k ∧ p.d.In
def Pq.Ok (p : Pq) : Prop := mayKy p.k ∧ wholeQ p.d = true
noncomputable def mayT (p : Pq) : Int := if mayKy p.k then (if wholeQ p.d = true then 0 else 90) else 9
theorem mayT_ok {p : Pq} : mayT p = 0 ↔ p.Ok := by
  unfold mayT Pq.Ok
  by_cases h : mayKy p.k
  · rw [if_pos h]
    by_cases g : wholeQ p.d = true
    · rw [if_pos g]; exact ⟨fun _ => ⟨h, g⟩, fun _ => rfl⟩
    · rw [if_neg g]; exact ⟨fun e => absurd e (by decide), fun e => absurd e.2 g⟩
  · rw [if_neg h]; exact ⟨fun e => absurd e (by decide), fun e => absurd e.1 h⟩
/-- is the key on the list? -/
def hasK (S : List Pq) (k : Ky) : Bool := S.any fun x => eqK x.k k
theorem hasK_iff {S : List Pq} {k : Ky} : hasK S k = true ↔ ∃ x ∈ S, x.k = k := by
  unfold hasK
  rw [List.any_eq_true]
  exact ⟨fun ⟨x, h, e⟩ => ⟨x, h, eqK_iff.1 e⟩, fun ⟨x, h, e⟩ => ⟨x, h, eqK_iff.2 e⟩⟩
noncomputable def chkL : List Pq → List Pq → Int
  | _, [] => 0
  | S, p :: r => if mayT p = 0 then (bif hasK S p.k then 100 else chkL (S ++ [p]) r) else mayT p
noncomputable def chkT (L : List Pq) : Int := if 1024 < L.length then 4 else chkL [] L
structure TabOk (L : List Pq) : Prop where
  len : L.length ≤ 1024
  all : ∀ p ∈ L, p.Ok
  one : L.Pairwise fun a b => a.k ≠ b.k
theorem chkL_ok : ∀ (r S : List Pq), chkL S r = 0 ↔ (∀ p ∈ r, p.Ok) ∧ r.Pairwise (fun a b => a.k ≠ b.k) ∧ ∀ p ∈ r, ∀ x ∈ S, x.k ≠ p.k
  | [], S => by unfold chkL; simp
  | p :: r, S => by
    unfold chkL
    by_cases h : mayT p = 0
    · rw [if_pos h]
      cases e : hasK S p.k with
      | true =>
        obtain ⟨x, hx, he⟩ := hasK_iff.1 e
        exact ⟨fun a => absurd (show (100 : Int) = 0 from a) (by decide), fun a => absurd he (a.2.2 p (List.mem_cons_self) x hx)⟩
      | false =>
        have hn : ∀ x ∈ S, x.k ≠ p.k := fun x hx he => by rw [hasK_iff.2 ⟨x, hx, he⟩] at e; cases e
        refine (chkL_ok r (S ++ [p])).trans ?_
        constructor
        · rintro ⟨h1, h2, h3⟩
          refine ⟨fun q hq => ?_, List.pairwise_cons.2 ⟨fun b hb => h3 b hb p (by simp), h2⟩, fun q hq x hx => ?_⟩
          · rcases List.mem_cons.1 hq with rfl | hq
            · exact mayT_ok.1 h
            · exact h1 q hq
          · rcases List.mem_cons.1 hq with rfl | hq
            · exact hn x hx
            · exact h3 q hq x (by simp [hx])
        · rintro ⟨h1, h2, h3⟩
          obtain ⟨g1, g2⟩ := List.pairwise_cons.1 h2
          refine ⟨fun q hq => h1 q (List.mem_cons_of_mem _ hq), g2, fun q hq x hx => ?_⟩
          rcases List.mem_append.1 hx with hx | hx
          · exact h3 q (List.mem_cons_of_mem _ hq) x hx
          · obtain rfl := List.mem_singleton.1 hx
            exact g1 q hq
    · rw [if_neg h]
      exact ⟨fun a => absurd a h, fun a => absurd (mayT_ok.2 (a.1 p (List.mem_cons_self))) h⟩
theorem chkT_ok {L : List Pq} : chkT L = 0 ↔ TabOk L := by
  unfold chkT
  by_cases h : 1024 < L.length
  · rw [if_pos h]; exact ⟨fun a => absurd a (by decide), fun a => absurd a.len (by omega)⟩
  · rw [if_neg h]
    refine (chkL_ok L []).trans ⟨fun a => ⟨by omega, a.1, a.2.1⟩, fun a => ⟨a.all, a.one, fun _ _ x hx => by cases hx⟩⟩
theorem chkT_yes {L : List Pq} (h : TabOk L) : chkT L = 0 := chkT_ok.2 h
/-- where a key stands: the list's length where it doesn't -/
def cutN : List Pq → Ky → Nat
  | [], _ => 0
  | p :: r, k => bif eqK p.k k then 0 else cutN r k + 1
theorem cutN_le : ∀ (L : List Pq) (k : Ky), cutN L k ≤ L.length
  | [], _ => Nat.le_refl _
  | p :: r, k => by
    unfold cutN
    cases eqK p.k k with
    | true => exact Nat.zero_le _
    | false => have := cutN_le r k; simp; omega
theorem cutN_mid : ∀ {A : List Pq} {x : Pq} {B : List Pq} {k : Ky}, (∀ y ∈ A, y.k ≠ k) → x.k = k → cutN (A ++ x :: B) k = A.length
  | [], x, B, k, _, h => by show (bif eqK x.k k then 0 else _) = 0; rw [eqK_iff.2 h]; rfl
  | y :: A, x, B, k, h0, h => by
    show (bif eqK y.k k then 0 else cutN (A ++ x :: B) k + 1) = _
    rw [eqK_no (h0 y (List.mem_cons_self)), cutN_mid (fun z hz => h0 z (List.mem_cons_of_mem _ hz)) h]; rfl
theorem cutN_none : ∀ {L : List Pq} {k : Ky}, (∀ y ∈ L, y.k ≠ k) → cutN L k = L.length
  | [], _, _ => rfl
  | y :: L, k, h0 => by
    show (bif eqK y.k k then 0 else cutN L k + 1) = _
    rw [eqK_no (h0 y (List.mem_cons_self)), cutN_none (fun z hz => h0 z (List.mem_cons_of_mem _ hz))]; rfl
theorem cut_ways : ∀ (L : List Pq) (k : Ky), (∀ y ∈ L, y.k ≠ k) ∨ ∃ A x B, L = A ++ x :: B ∧ x.k = k ∧ ∀ y ∈ A, y.k ≠ k
  | [], k => .inl fun y hy => by cases hy
  | p :: r, k => by
    by_cases h : p.k = k
    · exact .inr ⟨[], p, r, rfl, h, fun y hy => by cases hy⟩
    · rcases cut_ways r k with h1 | ⟨A, x, B, rfl, h2, h3⟩
      · exact .inl fun y hy => by
          rcases List.mem_cons.1 hy with rfl | hy
          · exact h
          · exact h1 y hy
      · exact .inr ⟨p :: A, x, B, rfl, h2, fun y hy => by
          rcases List.mem_cons.1 hy with rfl | hy
          · exact h
          · exact h3 y hy⟩
/-- the property of a key -/
def findT (L : List Pq) (k : Ky) : Option Pq := L[cutN L k]?
def putT (L : List Pq) (p : Pq) : List Pq := L.take (cutN L p.k) ++ p :: L.drop (cutN L p.k + 1)
def dropT (L : List Pq) (k : Ky) : List Pq := L.take (cutN L k) ++ L.drop (cutN L k + 1)
theorem find_none {L : List Pq} {k : Ky} (h : ∀ y ∈ L, y.k ≠ k) : findT L k = none := by unfold findT; rw [cutN_none h]; simp
theorem find_mid {A : List Pq} {x : Pq} {B : List Pq} {k : Ky} (h0 : ∀ y ∈ A, y.k ≠ k) (h : x.k = k) : findT (A ++ x :: B) k = some x := by unfold findT; rw [cutN_mid h0 h]; simp
theorem put_none {L : List Pq} {p : Pq} (h : ∀ y ∈ L, y.k ≠ p.k) : putT L p = L ++ [p] := by unfold putT; rw [cutN_none h, List.take_length, List.drop_eq_nil_of_le (Nat.le_succ _)]
theorem put_mid {A : List Pq} {x p : Pq} {B : List Pq} (h0 : ∀ y ∈ A, y.k ≠ p.k) (h : x.k = p.k) : putT (A ++ x :: B) p = A ++ p :: B := by unfold putT; rw [cutN_mid h0 h]; simp
theorem drop_none {L : List Pq} {k : Ky} (h : ∀ y ∈ L, y.k ≠ k) : dropT L k = L := by unfold dropT; rw [cutN_none h, List.take_length, List.drop_eq_nil_of_le (Nat.le_succ _), List.append_nil]
theorem drop_mid {A : List Pq} {x : Pq} {B : List Pq} {k : Ky} (h0 : ∀ y ∈ A, y.k ≠ k) (h : x.k = k) : dropT (A ++ x :: B) k = A ++ B := by unfold dropT; rw [cutN_mid h0 h]; simp
/-- a property that stands under another key is neither here nor there -/
theorem find_skip : ∀ {A : List Pq} {x : Pq} {B : List Pq} {k : Ky}, x.k ≠ k → findT (A ++ x :: B) k = findT (A ++ B) k
  | [], x, B, k, h => by
    unfold findT
    show (x :: B)[bif eqK x.k k then 0 else cutN B k + 1]? = _
    rw [eqK_no h]; rfl
  | y :: A, x, B, k, h => by
    have := find_skip (A := A) (B := B) h
    unfold findT at this ⊢
    show (y :: (A ++ x :: B))[bif eqK y.k k then 0 else cutN (A ++ x :: B) k + 1]? = (y :: (A ++ B))[bif eqK y.k k then 0 else cutN (A ++ B) k + 1]?
    cases eqK y.k k with
    | true => rfl
    | false => simpa using this
theorem pair_mid {A : List Pq} {x : Pq} {B : List Pq} (h : (A ++ x :: B).Pairwise fun a b => a.k ≠ b.k) : (∀ y ∈ A, y.k ≠ x.k) ∧ (∀ y ∈ B, y.k ≠ x.k) ∧ (A ++ B).Pairwise fun a b => a.k ≠ b.k := by
  obtain ⟨h1, h2, h3⟩ := List.pairwise_append.1 h
  obtain ⟨h4, h5⟩ := List.pairwise_cons.1 h2
  exact ⟨fun y hy => h3 y hy x (List.mem_cons_self), fun y hy e => h4 y hy e.symm, List.pairwise_append.2 ⟨h1, h5, fun a ha b hb => h3 a ha b (List.mem_cons_of_mem _ hb)⟩⟩
/-- what Put comes to -/
structure PutTo (L : List Pq) (p : Pq) (M : List Pq) : Prop where
  ok : TabOk M
  found : findT M p.k = some p
  other : ∀ k, k ≠ p.k → findT M k = findT L k
  len : M.length = if (findT L p.k).isSome then L.length else L.length + 1
  keys : ∀ i (h : i < L.length) (h' : i < M.length), M[i].k = L[i].k
theorem put_to {L : List Pq} {p : Pq} (hL : TabOk L) (hp : p.Ok) (hn : cutN L p.k ≠ 1024) : PutTo L p (putT L p) := by
  rcases cut_ways L p.k with h | ⟨A, x, B, rfl, h1, h2⟩
  · rw [put_none h]
    rw [cutN_none h] at hn
    refine ⟨⟨?_, ?_, ?_⟩, find_mid h rfl, fun k hk => ?_, ?_, fun i hi hi' => ?_⟩
    · have := hL.len; simp; omega
    · intro q hq
      rcases List.mem_append.1 hq with hq | hq
      · exact hL.all q hq
      · obtain rfl := List.mem_singleton.1 hq; exact hp
    · refine List.pairwise_append.2 ⟨hL.one, List.pairwise_singleton _ _, fun a ha b hb => ?_⟩
      obtain rfl := List.mem_singleton.1 hb
      exact h a ha
    · rw [find_skip (Ne.symm hk), List.append_nil]
    · rw [find_none h]; simp
    · rw [List.getElem_append_left hi]
  · rw [put_mid h2 h1]
    obtain ⟨g1, g2, g3⟩ := pair_mid hL.one
    refine ⟨⟨?_, ?_, ?_⟩, find_mid h2 rfl, fun k hk => ?_, ?_, fun i hi hi' => ?_⟩
    · have := hL.len; simp at this ⊢; omega
    · intro q hq
      rcases List.mem_append.1 hq with hq | hq
      · exact hL.all q (by simp [hq])
      · rcases List.mem_cons.1 hq with rfl | hq
        · exact hp
        · exact hL.all q (by simp [hq])
    · obtain ⟨p1, p2, p3⟩ := List.pairwise_append.1 g3
      refine List.pairwise_append.2 ⟨p1, List.pairwise_cons.2 ⟨fun b hb e => g2 b hb (by rw [h1]; exact e.symm), p2⟩, fun a ha b hb => ?_⟩
      rcases List.mem_cons.1 hb with rfl | hb
      · exact h2 a ha
      · exact p3 a ha b hb
    · rw [find_skip (Ne.symm hk), find_skip (by rw [h1]; exact Ne.symm hk)]
    · rw [find_mid h2 h1]; simp
    · by_cases c : i < A.length
      · rw [List.getElem_append_left c, List.getElem_append_left c]
      · by_cases e : i = A.length
        · subst e; simp [h1]
        · obtain ⟨j, hj⟩ : ∃ j, i - A.length = j + 1 := ⟨i - A.length - 1, by omega⟩
          rw [List.getElem_append_right (by omega), List.getElem_append_right (by omega)]
          simp only [hj, List.getElem_cons_succ]
/-- what Drop comes to -/
structure DropTo (L : List Pq) (k : Ky) (M : List Pq) : Prop where
  ok : TabOk M
  gone : findT M k = none
  other : ∀ c, c ≠ k → findT M c = findT L c
  rest : L.filter (fun p => !eqK p.k k) = M
theorem fil_all {L : List Pq} {k : Ky} (h : ∀ y ∈ L, y.k ≠ k) : L.filter (fun p => !eqK p.k k) = L := List.filter_eq_self.2 fun y hy => by rw [eqK_no (h y hy)]; rfl
theorem drop_to {L : List Pq} {k : Ky} (hL : TabOk L) : DropTo L k (dropT L k) := by
  rcases cut_ways L k with h | ⟨A, x, B, rfl, h1, h2⟩
  · rw [drop_none h]
    exact ⟨hL, find_none h, fun _ _ => rfl, fil_all h⟩
  · rw [drop_mid h2 h1]
    obtain ⟨g1, g2, g3⟩ := pair_mid hL.one
    have hB : ∀ y ∈ B, y.k ≠ k := fun y hy => by rw [← h1]; exact g2 y hy
    refine ⟨⟨?_, ?_, g3⟩, find_none fun y hy => ?_, fun c hc => ?_, ?_⟩
    · have := hL.len; simp at this ⊢; omega
    · intro q hq
      rcases List.mem_append.1 hq with hq | hq
      · exact hL.all q (by simp [hq])
      · exact hL.all q (by simp [hq])
    · rcases List.mem_append.1 hy with hy | hy
      · exact h2 y hy
      · exact hB y hy
    · rw [find_skip (by rw [h1]; exact Ne.symm hc)]
    · rw [List.filter_append, List.filter_cons_of_neg (by rw [eqK_iff.2 h1]; simp), fil_all h2, fil_all hB]
end Go.Proofs.YtpeegmpfkongeaaGreatDoor.S
/-
  Properties in memory: loads and stores of a whole property, of its key, of its descriptor, as laws of one operation; a row of properties wherever it lies.
-/
namespace Go.Proofs.YtpeegmpfkongeaaGreatDoor.S
open Go.RowKit Fl

theorem psz : (Tryz.prog.info? 90).map (·.size) = some 18 := by kernel_rfl
theorem ksz : (Tryz.prog.info? 57).map (·.size) = some 2 := by kernel_rfl
def prA (p : Pq) : Array Value := (pcl p).toArray
theorem pcl_len (p : Pq) : (pcl p).length = 18 := rfl
theorem prA_size (p : Pq) : (prA p).size = 18 := rfl
theorem prA_one (p : Pq) : (prA p).all (·.oneCell') = true := cells_one (l := pcl p) rfl
theorem add_blk (a : Addr) (k : Nat) : (a.add k).block = a.block := by unfold Addr.add; split <;> rfl
theorem add_add (a : Addr) (m j : Nat) : (a.add m).add j = a.add (m + j) := by
  unfold Addr.add
  by_cases h : m = 0
  · subst h; simp
  · by_cases g : j = 0
    · subst g; simp [h]
    · simp [h, g, Nat.add_assoc]
/-- properties in a row, wherever it lies -/
def PR (w : World) (A : Option Addr) (L : List Pq) : Prop := 0 < L.length → ∃ a, A = some a ∧ a.block < w.heap.size ∧ ∀ i (h : i < L.length) j u, (pcl L[i])[j]? = some u → w.cell? (a.add (i * 18 + j)) = some u
theorem pr_up {w wr : World} {A : Option Addr} {L : List Pq} (h : PR w A L) (hb : Below w.heap.size w wr) : PR wr A L := fun hp => by
  obtain ⟨a, h1, h2, h3⟩ := h hp
  refine ⟨a, h1, Nat.lt_of_lt_of_le h2 hb.size, fun i hi j u hu => ?_⟩
  rw [hb.cell (by rw [add_blk]; exact h2)]
  exact h3 i hi j u hu
section
variable {ops : Array Oper} {rest : List Oper} {o : Oper} {a : Act} {w : World} {Q : Exit → Act → World → Prop} {x y : Operand} {g i : Nat} {t : TypeId}
theorem run_loadVar_at {A : Addr} {ty : TypeId} {cs : List Value} {d : TypeDesc} (hc : ∀ j v, cs[j]? = some v → w.cell? (A.add j) = some v) (hu : Tryz.prog.underlying ty = some d) (hd : d.isRow = true) (hi : (Tryz.prog.info? ty).map (·.size) = some cs.length) :
    (loadVar ty A).run Tryz.prog w = .ok (.agg cs.toArray) w := by
  have hl : (loadCells A cs.length).run Tryz.prog w = .ok cs.toArray w := run_loadCells_list (P := Tryz.prog) w A cs hc
  cases hq : Tryz.prog.info? ty with
  | none => simp [hq] at hi
  | some i =>
    have hs : i.size = cs.length := by simpa [hq] using hi
    have hagg : (isAgg ty).run Tryz.prog w = .ok true w := by
      unfold isAgg
      rw [Sem.run_bind, run_underlying hu w]
      cases d <;> simp_all
    simp [loadVar, Sem.run_bind, hagg, sizeOf, typeInfo, hq, hs, hl]
theorem run_loadAt_at {A : Addr} {ty : TypeId} {cs : List Value} {d : TypeDesc} (hc : ∀ j v, cs[j]? = some v → w.cell? (A.add j) = some v) (hu : Tryz.prog.underlying ty = some d) (hd : d.isRow = true) (hi : (Tryz.prog.info? ty).map (·.size) = some cs.length) :
    (Instr.loadAt ty (.pointer (some A))).run Tryz.prog w = .ok (.agg cs.toArray) w := by
  simp only [Instr.loadAt, Instr.sureAddr, Sem.run_bind, Sem.run_pure, Result.andThen_ok, run_loadVar_at hc hu hd hi]
theorem wp_load_at {K : Act → World → Prop} {A : Addr} {ty : TypeId} {cs : List Value} {d : TypeDesc} (ho : o.op = .load ty x) (hx : a.eval x = .pointer (some A)) (hc : ∀ j v, cs[j]? = some v → w.cell? (A.add j) = some v)
    (hu : Tryz.prog.underlying ty = some d) (hd : d.isRow = true) (hi : (Tryz.prog.info? ty).map (·.size) = some cs.length) (h : K (a.put o.dst (.agg cs.toArray)) w) : o.wp Tryz.prog a w K Q := by
  unfold Oper.wp execOp
  simp only [ho, hx, run_loadAt_at hc hu hd hi, Sem.run_bind, Sem.run_pure, Result.andThen_ok]
  exact h
/-- a property out of a row -/
theorem p_load {A : Addr} {p : Pq} (hw : Region.wanted o (yielded ops a.tmps) = true) (ho : o.op = .load 90 x) (hx : a.eval x = .pointer (some A)) (hc : ∀ j u, (pcl p)[j]? = some u → w.cell? (A.add j) = some u)
    (h : wpList Tryz.prog ops Q rest (a.put o.dst (.agg (prA p))) w) : wpList Tryz.prog ops Q (o :: rest) a w :=
  wpList_wanted hw fun _ hK => wp_load_at ho hx hc Tryz.underlying90 rfl psz (hK _ _ h)
theorem pb_cells {p : Pq} (hg : w.heap[g]? = some (.cells (prA p) t (0, 0))) (j : Nat) (u : Value) (hu : (pcl p)[j]? = some u) : w.cell? ⟨g, j, none⟩ = some u := by
  rw [vcells hg j]
  simpa [prA] using hu
/-- the key of a property in a block of its own -/
theorem pk_load {p : Pq} (hw : Region.wanted o (yielded ops a.tmps) = true) (ho : o.op = .load 57 x) (hx : a.eval x = .pointer (some ⟨g, 0, none⟩)) (hg : w.heap[g]? = some (.cells (prA p) t (0, 0)))
    (h : wpList Tryz.prog ops Q rest (a.put o.dst (.agg #[.string p.k.str, .int .i64 p.k.sym])) w) : wpList Tryz.prog ops Q (o :: rest) a w :=
  wpList_wanted hw fun _ hK => wp_load_at (cs := [.string p.k.str, .int .i64 p.k.sym]) ho hx (fun j v hv => by
    rw [show ((⟨g, 0, none⟩ : Addr).add j) = ⟨g, 0 + j, none⟩ from Addr.add_mid g 0 j, Nat.zero_add]
    refine pb_cells hg j v ?_
    match j, hv with
    | 0, hv => exact hv
    | 1, hv => exact hv
    | n + 2, hv => cases hv) Tryz.underlying57 rfl ksz (hK _ _ h)
/-- its descriptor -/
theorem pd_load {p : Pq} (hw : Region.wanted o (yielded ops a.tmps) = true) (ho : o.op = .load 49 x) (hx : a.eval x = .pointer (some ⟨g, 2, none⟩)) (hg : w.heap[g]? = some (.cells (prA p) t (0, 0)))
    (h : wpList Tryz.prog ops Q rest (a.put o.dst (.agg p.d.cells)) w) : wpList Tryz.prog ops Q (o :: rest) a w :=
  wpList_wanted hw fun _ hK => wp_load_at (cs := p.d.cells.toList) ho hx (fun j v hv => by
    rw [show ((⟨g, 2, none⟩ : Addr).add j) = ⟨g, 2 + j, none⟩ from Addr.add_mid g 2 j]
    refine pb_cells hg (2 + j) v ?_
    rw [show 2 + j = j + 1 + 1 by omega]
    exact hv) Tryz.underlying49 rfl dsz (hK _ _ h)
/-- a descriptor in a block of its own -/
theorem dq_load {d : Dq} (hw : Region.wanted o (yielded ops a.tmps) = true) (ho : o.op = .load 49 x) (hx : a.eval x = .pointer (some ⟨g, 0, none⟩)) (hg : w.heap[g]? = some (.cells d.cells t (0, 0)))
    (h : wpList Tryz.prog ops Q rest (a.put o.dst (.agg d.cells)) w) : wpList Tryz.prog ops Q (o :: rest) a w :=
  wpList_wanted hw fun _ hK => wp_load_row 49 x ho g hx t _ (0, 0) _ hg Tryz.underlying49 rfl dsz (hK _ _ h)
/-- a whole thing stored into a block of the call's own -/
theorem t_store {ty : TypeId} {cs old : Array Value} {B : Nat} {w0 : World} (hgd : o.guard = none) (ho : o.op = .store ty x y) (hx : a.eval x = .pointer (some ⟨g, 0, none⟩)) (hy : a.eval y = .agg cs) (hg : w.heap[g]? = some (.cells old t (0, 0))) (hi : (Tryz.prog.info? ty).map (·.size) = some cs.size) (hold : old.size = cs.size)
    (h1 : cs.all (·.oneCell') = true) (hB : Below B w0 w) (hBg : B ≤ g)
    (h : ∀ W : World, Below B w0 W → W.heap[g]? = some (.cells cs t (0, 0)) → (∀ j, j ≠ g → W.heap[j]? = w.heap[j]?) → W.heap.size = w.heap.size → wpList Tryz.prog ops Q rest (a.put o.dst undef) W) : wpList Tryz.prog ops Q (o :: rest) a w :=
  wpList_store_row hgd ty x y ho g cs hx hy t old hg hi hold h1 (h _ (below_row hB hBg cs) (setRow_heap _ _ _ _ _ _ hg) (fun j hj => setRow_other w g j cs hj) (by simp [World.setRow]))
end
end Go.Proofs.YtpeegmpfkongeaaGreatDoor.S
