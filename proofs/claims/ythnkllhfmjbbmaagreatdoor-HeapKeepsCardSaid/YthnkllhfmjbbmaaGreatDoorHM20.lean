/-
  Descriptors: Same: the walk. Generated: gen_descsame.py.
-/
import Derived.Test.YthnkllhfmjbbmaaGreatDoorHM19
import Derived.Test.YthnkllhfmjbbmaaGreatDoorHM17
namespace Go.Proofs.YthnkllhfmjbbmaaGreatDoor.S
open Go.RowKit Fl

theorem has_b {h m : Int} {t : Bool} (ht : hasB h m = t) (ka : Int) (xa : Nat) (sa : ByteArray) (ra : Int) (kb : Int) (xb : Nat) (sb : ByteArray) (rb : Int) (kc : Int) (xc : Nat) (sc : ByteArray) (rc : Int) (p q z : Bool) (w : World) : Calls Tryz.prog 68 #[.agg #[.int .u8 h, .int .u8 ka, .float .f64 xa, .string sa, .int .i64 ra, .int .u8 kb, .float .f64 xb, .string sb, .int .i64 rb, .int .u8 kc, .float .f64 xc, .string sc, .int .i64 rc, .bool p, .bool q, .bool z], .int .u8 m] w fun e w' => e = .returned (.bool t) ∧ Below w.heap.size w w' := ht ▸ has_c h m ka xa sa ra kb xb sb rb kc xc sc rc p q z w
theorem dret {a b : Bool} (h : a = b) : Ending.returned (.bool a) = .returned (.bool b) := by rw [h]
def same7 (t0 f1 f2 f3 f4 f5 f6 : Bool) : Bool := t0 && !f1 && !f2 && !f3 && !f4 && !f5 && !f6
/-- what Same answers, from what is told of the three values -/
def sameD (h h' : Int) (sA sB sC p p' q q' z z' : Bool) : Bool :=
  same7 (h == h') (hasB h 1 && !sA) (hasB h 2 && (p != p')) (hasB h 4 && !sB) (hasB h 8 && !sC) (hasB h 16 && (q != q')) (hasB h 32 && (z != z'))

set_option maxRecDepth 1000000 in
set_option maxHeartbeats 4000000 in
theorem Same_d (h h' : Int) (ka : Int) (xa : Nat) (sa : ByteArray) (ra : Int) (kb : Int) (xb : Nat) (sb : ByteArray) (rb : Int) (kc : Int) (xc : Nat) (sc : ByteArray) (rc : Int) (kd : Int) (xd : Nat) (sd : ByteArray) (rd : Int) (kf : Int) (xf : Nat) (sf : ByteArray) (rf : Int) (kg : Int) (xg : Nat) (sg : ByteArray) (rg : Int) (p q z p' q' z' : Bool) {sA sB sC : Bool} (cA : ∀ w, Calls Tryz.prog 36 #[.agg #[.int .u8 ka, .float .f64 xa, .string sa, .int .i64 ra], .agg #[.int .u8 kd, .float .f64 xd, .string sd, .int .i64 rd]] w fun e w' => e = .returned (.bool sA) ∧ Below w.heap.size w w') (cB : ∀ w, Calls Tryz.prog 36 #[.agg #[.int .u8 kb, .float .f64 xb, .string sb, .int .i64 rb], .agg #[.int .u8 kf, .float .f64 xf, .string sf, .int .i64 rf]] w fun e w' => e = .returned (.bool sB) ∧ Below w.heap.size w w') (cC : ∀ w, Calls Tryz.prog 36 #[.agg #[.int .u8 kc, .float .f64 xc, .string sc, .int .i64 rc], .agg #[.int .u8 kg, .float .f64 xg, .string sg, .int .i64 rg]] w fun e w' => e = .returned (.bool sC) ∧ Below w.heap.size w w') (w : World) : Calls Tryz.prog 38 #[.agg #[.int .u8 h, .int .u8 ka, .float .f64 xa, .string sa, .int .i64 ra, .int .u8 kb, .float .f64 xb, .string sb, .int .i64 rb, .int .u8 kc, .float .f64 xc, .string sc, .int .i64 rc, .bool p, .bool q, .bool z], .agg #[.int .u8 h', .int .u8 kd, .float .f64 xd, .string sd, .int .i64 rd, .int .u8 kf, .float .f64 xf, .string sf, .int .i64 rf, .int .u8 kg, .float .f64 xg, .string sg, .int .i64 rg, .bool p', .bool q', .bool z']] w fun e w' => e = .returned (.bool (sameD h h' sA sB sC p p' q q' z z')) ∧ Below w.heap.size w w' := by
  have hB0 : Below w.heap.size w ((w.alloc (.cells #[.int .u8 h, .int .u8 ka, .float .f64 xa, .string sa, .int .i64 ra, .int .u8 kb, .float .f64 xb, .string sb, .int .i64 rb, .int .u8 kc, .float .f64 xc, .string sc, .int .i64 rc, .bool p, .bool q, .bool z] 55)).alloc (.cells #[.int .u8 h', .int .u8 kd, .float .f64 xd, .string sd, .int .i64 rd, .int .u8 kf, .float .f64 xf, .string sf, .int .i64 rf, .int .u8 kg, .float .f64 xg, .string sg, .int .i64 rg, .bool p', .bool q', .bool z'] 55)) := vafter (vzero _ _)
  obtain ⟨b1, b2⟩ := vblk2 (w := w) (Below.refl _ ((w.alloc (.cells #[.int .u8 h, .int .u8 ka, .float .f64 xa, .string sa, .int .i64 ra, .int .u8 kb, .float .f64 xb, .string sb, .int .i64 rb, .int .u8 kc, .float .f64 xc, .string sc, .int .i64 rc, .bool p, .bool q, .bool z] 55)).alloc (.cells #[.int .u8 h', .int .u8 kd, .float .f64 xd, .string sd, .int .i64 rd, .int .u8 kf, .float .f64 xf, .string sf, .int .i64 rf, .int .u8 kg, .float .f64 xg, .string sg, .int .i64 rg, .bool p', .bool q', .bool z'] 55)))
  have d1 := vcells b1 0
  have d2 := vcells b2 0
  rcases Bool.eq_false_or_eq_true (h == h') with t0 | t0
  rotate_left
  · have n0 : (h != h') = true := by rw [bne, t0]; rfl
    go_enter Tryz.func38, Tryz.ntmps38
    go_upto_region 3 with (fail)
    go_ret
    exact ⟨dret (by unfold sameD same7; rw [t0]; rfl), hB0⟩
  have n0 : (h != h') = false := by rw [bne, t0]; rfl
  have T0 := Lib.hid t0
  clear t0
  go_enter Tryz.func38, Tryz.ntmps38
  go_upto_region 3 with (fail)
  go_cut [11] from 5 to 73 (fun u wx => u = .bool ((hasB h 1 && !sA)) ∧ wx.heap[w.heap.size]? = some (.cells #[.int .u8 h, .int .u8 ka, .float .f64 xa, .string sa, .int .i64 ra, .int .u8 kb, .float .f64 xb, .string sb, .int .i64 rb, .int .u8 kc, .float .f64 xc, .string sc, .int .i64 rc, .bool p, .bool q, .bool z] 55 (0, 0)) ∧ wx.heap[w.heap.size + 1]? = some (.cells #[.int .u8 h', .int .u8 kd, .float .f64 xd, .string sd, .int .i64 rd, .int .u8 kf, .float .f64 xf, .string sf, .int .i64 rf, .int .u8 kg, .float .f64 xg, .string sg, .int .i64 rg, .bool p', .bool q', .bool z'] 55 (0, 0)) ∧ Below w.heap.size w wx)
  case first =>
    rcases Bool.eq_false_or_eq_true (hasB h 1) with hs | hs
    · go_wp2_with (first | ((with_reducible refine d_load ?_ rfl rfl b1 ?_); (rfl)) | ((with_reducible refine v_load ?_ rfl rfl b1 rfl rfl rfl rfl ?_); (rfl)) | ((with_reducible refine v_load ?_ rfl rfl b2 rfl rfl rfl rfl ?_); (rfl)) | (go_at_call 68; (with_reducible refine (has_b hs _ _ _ _ _ _ _ _ _ _ _ _ _ _ _ _).mono ?_); rintro e w1 ⟨rfl, h1⟩; have b1 := vblkn h1 b1; have b2 := vblkn h1 b2; have hB0 := vb hB0 h1) | (go_at_call 36; (with_reducible refine (cA _).mono ?_); rintro e w2 ⟨rfl, h1⟩; have b1 := vblkn h1 b1; have b2 := vblkn h1 b2; have hB0 := vb hB0 h1))
      go_meet
      case rel => rw [hs]; exact ⟨rfl, b1, b2, hB0⟩
    · go_wp2_with (first | ((with_reducible refine d_load ?_ rfl rfl b1 ?_); (rfl)) | ((with_reducible refine v_load ?_ rfl rfl b1 rfl rfl rfl rfl ?_); (rfl)) | ((with_reducible refine v_load ?_ rfl rfl b2 rfl rfl rfl rfl ?_); (rfl)) | (go_at_call 68; (with_reducible refine (has_b hs _ _ _ _ _ _ _ _ _ _ _ _ _ _ _ _).mono ?_); rintro e w1 ⟨rfl, h1⟩; have b1 := vblkn h1 b1; have b2 := vblkn h1 b2; have hB0 := vb hB0 h1))
      go_meet
      case rel => rw [hs]; exact ⟨rfl, b1, b2, hB0⟩
  case rest =>
  obtain ⟨rfl, b1, b2, hB0⟩ := hcut
  rcases Bool.eq_false_or_eq_true (hasB h 1 && !sA) with t1 | t1
  · rw [t1]
    go_wp2
    go_ret
    exact ⟨dret (by unfold sameD same7; rw [T0, t1]; rfl), hB0⟩
  rw [t1]
  have T1 := Lib.hid t1
  clear t1
  go_upto_region 5 with (fail)
  go_cut [22] from 5 to 73 (fun u wx => u = .bool ((hasB h 2 && (p != p'))) ∧ wx.heap[w.heap.size]? = some (.cells #[.int .u8 h, .int .u8 ka, .float .f64 xa, .string sa, .int .i64 ra, .int .u8 kb, .float .f64 xb, .string sb, .int .i64 rb, .int .u8 kc, .float .f64 xc, .string sc, .int .i64 rc, .bool p, .bool q, .bool z] 55 (0, 0)) ∧ wx.heap[w.heap.size + 1]? = some (.cells #[.int .u8 h', .int .u8 kd, .float .f64 xd, .string sd, .int .i64 rd, .int .u8 kf, .float .f64 xf, .string sf, .int .i64 rf, .int .u8 kg, .float .f64 xg, .string sg, .int .i64 rg, .bool p', .bool q', .bool z'] 55 (0, 0)) ∧ Below w.heap.size w wx)
  case first =>
    rcases Bool.eq_false_or_eq_true (hasB h 2) with hs | hs
    · go_wp2_with (first | ((with_reducible refine d_load ?_ rfl rfl b1 ?_); (rfl)) | ((with_reducible refine v_load ?_ rfl rfl b1 rfl rfl rfl rfl ?_); (rfl)) | ((with_reducible refine v_load ?_ rfl rfl b2 rfl rfl rfl rfl ?_); (rfl)) | (go_at_call 68; (with_reducible refine (has_b hs _ _ _ _ _ _ _ _ _ _ _ _ _ _ _ _).mono ?_); rintro e w1 ⟨rfl, h1⟩; have b1 := vblkn h1 b1; have b2 := vblkn h1 b2; have hB0 := vb hB0 h1; have e1 := vcells b1 13; have e2 := vcells b2 13))
      go_meet
      case rel => rw [hs]; exact ⟨rfl, b1, b2, hB0⟩
    · go_wp2_with (first | ((with_reducible refine d_load ?_ rfl rfl b1 ?_); (rfl)) | ((with_reducible refine v_load ?_ rfl rfl b1 rfl rfl rfl rfl ?_); (rfl)) | ((with_reducible refine v_load ?_ rfl rfl b2 rfl rfl rfl rfl ?_); (rfl)) | (go_at_call 68; (with_reducible refine (has_b hs _ _ _ _ _ _ _ _ _ _ _ _ _ _ _ _).mono ?_); rintro e w1 ⟨rfl, h1⟩; have b1 := vblkn h1 b1; have b2 := vblkn h1 b2; have hB0 := vb hB0 h1))
      go_meet
      case rel => rw [hs]; exact ⟨rfl, b1, b2, hB0⟩
  case rest =>
  obtain ⟨rfl, b1, b2, hB0⟩ := hcut
  rcases Bool.eq_false_or_eq_true (hasB h 2 && (p != p')) with t2 | t2
  · rw [t2]
    go_wp2
    go_ret
    exact ⟨dret (by unfold sameD same7; rw [T0, T1, t2]; rfl), hB0⟩
  rw [t2]
  have T2 := Lib.hid t2
  clear t2
  go_upto_region 7 with (fail)
  go_cut [32] from 5 to 73 (fun u wx => u = .bool ((hasB h 4 && !sB)) ∧ wx.heap[w.heap.size]? = some (.cells #[.int .u8 h, .int .u8 ka, .float .f64 xa, .string sa, .int .i64 ra, .int .u8 kb, .float .f64 xb, .string sb, .int .i64 rb, .int .u8 kc, .float .f64 xc, .string sc, .int .i64 rc, .bool p, .bool q, .bool z] 55 (0, 0)) ∧ wx.heap[w.heap.size + 1]? = some (.cells #[.int .u8 h', .int .u8 kd, .float .f64 xd, .string sd, .int .i64 rd, .int .u8 kf, .float .f64 xf, .string sf, .int .i64 rf, .int .u8 kg, .float .f64 xg, .string sg, .int .i64 rg, .bool p', .bool q', .bool z'] 55 (0, 0)) ∧ Below w.heap.size w wx)
  case first =>
    rcases Bool.eq_false_or_eq_true (hasB h 4) with hs | hs
    · go_wp2_with (first | ((with_reducible refine d_load ?_ rfl rfl b1 ?_); (rfl)) | ((with_reducible refine v_load ?_ rfl rfl b1 rfl rfl rfl rfl ?_); (rfl)) | ((with_reducible refine v_load ?_ rfl rfl b2 rfl rfl rfl rfl ?_); (rfl)) | (go_at_call 68; (with_reducible refine (has_b hs _ _ _ _ _ _ _ _ _ _ _ _ _ _ _ _).mono ?_); rintro e w1 ⟨rfl, h1⟩; have b1 := vblkn h1 b1; have b2 := vblkn h1 b2; have hB0 := vb hB0 h1) | (go_at_call 36; (with_reducible refine (cB _).mono ?_); rintro e w2 ⟨rfl, h1⟩; have b1 := vblkn h1 b1; have b2 := vblkn h1 b2; have hB0 := vb hB0 h1))
      go_meet
      case rel => rw [hs]; exact ⟨rfl, b1, b2, hB0⟩
    · go_wp2_with (first | ((with_reducible refine d_load ?_ rfl rfl b1 ?_); (rfl)) | ((with_reducible refine v_load ?_ rfl rfl b1 rfl rfl rfl rfl ?_); (rfl)) | ((with_reducible refine v_load ?_ rfl rfl b2 rfl rfl rfl rfl ?_); (rfl)) | (go_at_call 68; (with_reducible refine (has_b hs _ _ _ _ _ _ _ _ _ _ _ _ _ _ _ _).mono ?_); rintro e w1 ⟨rfl, h1⟩; have b1 := vblkn h1 b1; have b2 := vblkn h1 b2; have hB0 := vb hB0 h1))
      go_meet
      case rel => rw [hs]; exact ⟨rfl, b1, b2, hB0⟩
  case rest =>
  obtain ⟨rfl, b1, b2, hB0⟩ := hcut
  rcases Bool.eq_false_or_eq_true (hasB h 4 && !sB) with t3 | t3
  · rw [t3]
    go_wp2
    go_ret
    exact ⟨dret (by unfold sameD same7; rw [T0, T1, T2, t3]; rfl), hB0⟩
  rw [t3]
  have T3 := Lib.hid t3
  clear t3
  go_upto_region 9 with (fail)
  go_cut [43] from 5 to 73 (fun u wx => u = .bool ((hasB h 8 && !sC)) ∧ wx.heap[w.heap.size]? = some (.cells #[.int .u8 h, .int .u8 ka, .float .f64 xa, .string sa, .int .i64 ra, .int .u8 kb, .float .f64 xb, .string sb, .int .i64 rb, .int .u8 kc, .float .f64 xc, .string sc, .int .i64 rc, .bool p, .bool q, .bool z] 55 (0, 0)) ∧ wx.heap[w.heap.size + 1]? = some (.cells #[.int .u8 h', .int .u8 kd, .float .f64 xd, .string sd, .int .i64 rd, .int .u8 kf, .float .f64 xf, .string sf, .int .i64 rf, .int .u8 kg, .float .f64 xg, .string sg, .int .i64 rg, .bool p', .bool q', .bool z'] 55 (0, 0)) ∧ Below w.heap.size w wx)
  case first =>
    rcases Bool.eq_false_or_eq_true (hasB h 8) with hs | hs
    · go_wp2_with (first | ((with_reducible refine d_load ?_ rfl rfl b1 ?_); (rfl)) | ((with_reducible refine v_load ?_ rfl rfl b1 rfl rfl rfl rfl ?_); (rfl)) | ((with_reducible refine v_load ?_ rfl rfl b2 rfl rfl rfl rfl ?_); (rfl)) | (go_at_call 68; (with_reducible refine (has_b hs _ _ _ _ _ _ _ _ _ _ _ _ _ _ _ _).mono ?_); rintro e w1 ⟨rfl, h1⟩; have b1 := vblkn h1 b1; have b2 := vblkn h1 b2; have hB0 := vb hB0 h1) | (go_at_call 36; (with_reducible refine (cC _).mono ?_); rintro e w2 ⟨rfl, h1⟩; have b1 := vblkn h1 b1; have b2 := vblkn h1 b2; have hB0 := vb hB0 h1))
      go_meet
      case rel => rw [hs]; exact ⟨rfl, b1, b2, hB0⟩
    · go_wp2_with (first | ((with_reducible refine d_load ?_ rfl rfl b1 ?_); (rfl)) | ((with_reducible refine v_load ?_ rfl rfl b1 rfl rfl rfl rfl ?_); (rfl)) | ((with_reducible refine v_load ?_ rfl rfl b2 rfl rfl rfl rfl ?_); (rfl)) | (go_at_call 68; (with_reducible refine (has_b hs _ _ _ _ _ _ _ _ _ _ _ _ _ _ _ _).mono ?_); rintro e w1 ⟨rfl, h1⟩; have b1 := vblkn h1 b1; have b2 := vblkn h1 b2; have hB0 := vb hB0 h1))
      go_meet
      case rel => rw [hs]; exact ⟨rfl, b1, b2, hB0⟩
  case rest =>
  obtain ⟨rfl, b1, b2, hB0⟩ := hcut
  rcases Bool.eq_false_or_eq_true (hasB h 8 && !sC) with t4 | t4
  · rw [t4]
    go_wp2
    go_ret
    exact ⟨dret (by unfold sameD same7; rw [T0, T1, T2, T3, t4]; rfl), hB0⟩
  rw [t4]
  have T4 := Lib.hid t4
  clear t4
  go_upto_region 11 with (fail)
  go_cut [54] from 5 to 73 (fun u wx => u = .bool ((hasB h 16 && (q != q'))) ∧ wx.heap[w.heap.size]? = some (.cells #[.int .u8 h, .int .u8 ka, .float .f64 xa, .string sa, .int .i64 ra, .int .u8 kb, .float .f64 xb, .string sb, .int .i64 rb, .int .u8 kc, .float .f64 xc, .string sc, .int .i64 rc, .bool p, .bool q, .bool z] 55 (0, 0)) ∧ wx.heap[w.heap.size + 1]? = some (.cells #[.int .u8 h', .int .u8 kd, .float .f64 xd, .string sd, .int .i64 rd, .int .u8 kf, .float .f64 xf, .string sf, .int .i64 rf, .int .u8 kg, .float .f64 xg, .string sg, .int .i64 rg, .bool p', .bool q', .bool z'] 55 (0, 0)) ∧ Below w.heap.size w wx)
  case first =>
    rcases Bool.eq_false_or_eq_true (hasB h 16) with hs | hs
    · go_wp2_with (first | ((with_reducible refine d_load ?_ rfl rfl b1 ?_); (rfl)) | ((with_reducible refine v_load ?_ rfl rfl b1 rfl rfl rfl rfl ?_); (rfl)) | ((with_reducible refine v_load ?_ rfl rfl b2 rfl rfl rfl rfl ?_); (rfl)) | (go_at_call 68; (with_reducible refine (has_b hs _ _ _ _ _ _ _ _ _ _ _ _ _ _ _ _).mono ?_); rintro e w1 ⟨rfl, h1⟩; have b1 := vblkn h1 b1; have b2 := vblkn h1 b2; have hB0 := vb hB0 h1; have e1 := vcells b1 14; have e2 := vcells b2 14))
      go_meet
      case rel => rw [hs]; exact ⟨rfl, b1, b2, hB0⟩
    · go_wp2_with (first | ((with_reducible refine d_load ?_ rfl rfl b1 ?_); (rfl)) | ((with_reducible refine v_load ?_ rfl rfl b1 rfl rfl rfl rfl ?_); (rfl)) | ((with_reducible refine v_load ?_ rfl rfl b2 rfl rfl rfl rfl ?_); (rfl)) | (go_at_call 68; (with_reducible refine (has_b hs _ _ _ _ _ _ _ _ _ _ _ _ _ _ _ _).mono ?_); rintro e w1 ⟨rfl, h1⟩; have b1 := vblkn h1 b1; have b2 := vblkn h1 b2; have hB0 := vb hB0 h1))
      go_meet
      case rel => rw [hs]; exact ⟨rfl, b1, b2, hB0⟩
  case rest =>
  obtain ⟨rfl, b1, b2, hB0⟩ := hcut
  rcases Bool.eq_false_or_eq_true (hasB h 16 && (q != q')) with t5 | t5
  · rw [t5]
    go_wp2
    go_ret
    exact ⟨dret (by unfold sameD same7; rw [T0, T1, T2, T3, T4, t5]; rfl), hB0⟩
  rw [t5]
  have T5 := Lib.hid t5
  clear t5
  go_upto_region 13 with (fail)
  go_cut [4] from 5 to 73 (fun u wx => u = .bool (!(hasB h 32 && (z != z'))) ∧ wx.heap[w.heap.size]? = some (.cells #[.int .u8 h, .int .u8 ka, .float .f64 xa, .string sa, .int .i64 ra, .int .u8 kb, .float .f64 xb, .string sb, .int .i64 rb, .int .u8 kc, .float .f64 xc, .string sc, .int .i64 rc, .bool p, .bool q, .bool z] 55 (0, 0)) ∧ wx.heap[w.heap.size + 1]? = some (.cells #[.int .u8 h', .int .u8 kd, .float .f64 xd, .string sd, .int .i64 rd, .int .u8 kf, .float .f64 xf, .string sf, .int .i64 rf, .int .u8 kg, .float .f64 xg, .string sg, .int .i64 rg, .bool p', .bool q', .bool z'] 55 (0, 0)) ∧ Below w.heap.size w wx)
  case first =>
    rcases Bool.eq_false_or_eq_true (hasB h 32) with hs | hs
    · go_wp2_with (first | ((with_reducible refine d_load ?_ rfl rfl b1 ?_); (rfl)) | ((with_reducible refine v_load ?_ rfl rfl b1 rfl rfl rfl rfl ?_); (rfl)) | ((with_reducible refine v_load ?_ rfl rfl b2 rfl rfl rfl rfl ?_); (rfl)) | (go_at_call 68; (with_reducible refine (has_b hs _ _ _ _ _ _ _ _ _ _ _ _ _ _ _ _).mono ?_); rintro e w1 ⟨rfl, h1⟩; have b1 := vblkn h1 b1; have b2 := vblkn h1 b2; have hB0 := vb hB0 h1; have e1 := vcells b1 15; have e2 := vcells b2 15))
      go_meet
      case rel => rw [hs]; exact ⟨by rw [Bool.true_and, bne, Bool.not_not], b1, b2, hB0⟩
    · go_wp2_with (first | ((with_reducible refine d_load ?_ rfl rfl b1 ?_); (rfl)) | ((with_reducible refine v_load ?_ rfl rfl b1 rfl rfl rfl rfl ?_); (rfl)) | ((with_reducible refine v_load ?_ rfl rfl b2 rfl rfl rfl rfl ?_); (rfl)) | (go_at_call 68; (with_reducible refine (has_b hs _ _ _ _ _ _ _ _ _ _ _ _ _ _ _ _).mono ?_); rintro e w1 ⟨rfl, h1⟩; have b1 := vblkn h1 b1; have b2 := vblkn h1 b2; have hB0 := vb hB0 h1))
      go_meet
      case rel => rw [hs]; exact ⟨rfl, b1, b2, hB0⟩
  case rest =>
  obtain ⟨rfl, b1, b2, hB0⟩ := hcut
  go_wp2
  go_ret
  exact ⟨dret (by unfold sameD same7; rw [T0, T1, T2, T3, T4, T5]; rfl), hB0⟩
end Go.Proofs.YthnkllhfmjbbmaaGreatDoor.S
/-
  Values in letters, their kinds whole numbers: what may be, what can stand as a Get or Set, when two are the same: contracts that hang on the letters alone.
-/
namespace Go.Proofs.YthnkllhfmjbbmaaGreatDoor.S
open Go.RowKit Fl

/-- a value that may come in -/
def VIn (k : Int) (x : Nat) (r : Int) : Prop := 0 ≤ k ∧ k < 256 ∧ x < 2 ^ 64 ∧ r < 2 ^ 63
/-- a value that may be -/
def VOk (k : Int) (x : Nat) (s : ByteArray) (r : Int) : Prop := ∃ v : Vl, v.ok ∧ (v.kd : Int) = k ∧ v.fl = x ∧ v.st = s ∧ v.rf = r
noncomputable def mayI (k : Int) (x : Nat) (s : ByteArray) (r : Int) : Bool := @decide (VOk k x s r) (Classical.propDecidable _)
theorem mayI_iff {k : Int} {x : Nat} {s : ByteArray} {r : Int} : mayI k x s r = true ↔ VOk k x s r := by unfold mayI; exact @decide_eq_true_iff _ (Classical.propDecidable _)
theorem may_i {ka : Int} {xa : Nat} {sa : ByteArray} {ra : Int} (h : VIn ka xa ra) (w : World) : Calls Tryz.prog 115 #[.agg #[.int .u8 ka, .float .f64 xa, .string sa, .int .i64 ra]] w fun e w' => e = .returned (.bool (mayI ka xa sa ra)) ∧ Below w.heap.size w w' := by
  obtain ⟨h0, h1, hx, hr⟩ := h
  obtain ⟨n, rfl⟩ := Int.eq_ofNat_of_zero_le h0
  by_cases hv : VOk (n : Int) xa sa ra
  · rw [mayI_iff.2 hv]
    obtain ⟨v, ok, hk, rfl, rfl, rfl⟩ := hv
    obtain rfl : v.kd = n := by omega
    exact May_ok ok w
  · refine (May_any n xa sa ra w hx hr).mono fun e w' ⟨b, he, hb, g⟩ => ⟨?_, hb⟩
    have hm : mayI (n : Int) xa sa ra = false := by cases hh : mayI (n : Int) xa sa ra with | false => rfl | true => exact absurd (mayI_iff.1 hh) hv
    rw [hm]
    cases b with
    | false => exact he
    | true =>
      obtain ⟨v, ok, hk, h3, h4, h5⟩ := g rfl
      exact absurd ⟨v, ok, by rw [hk], h3, h4, h5⟩ hv
/-- of a value that may stand as a Get or Set -/
def calI (k : Int) : Bool := k == 0 || (k == 7 || k == 8)
noncomputable def callsI (k : Int) (x : Nat) (s : ByteArray) (r : Int) : Bool := mayI k x s r && calI k
theorem Calls_i {ka : Int} {xa : Nat} {sa : ByteArray} {ra : Int} (h : 0 ≤ ka) (w : World) : Calls Tryz.prog 104 #[.agg #[.int .u8 ka, .float .f64 xa, .string sa, .int .i64 ra]] w fun e w' => e = .returned (.bool (ka == 7 || ka == 8)) ∧ Below w.heap.size w w' := by
  obtain ⟨n, rfl⟩ := Int.eq_ofNat_of_zero_le h
  have := Calls_v n xa sa ra w
  unfold calB at this
  rw [← kd_eq n 7, ← kd_eq n 8] at this
  exact this
theorem calls_i {ka : Int} {xa : Nat} {sa : ByteArray} {ra : Int} (h : VIn ka xa ra) (w : World) : Calls Tryz.prog 145 #[.agg #[.int .u8 ka, .float .f64 xa, .string sa, .int .i64 ra]] w fun e w' => e = .returned (.bool (callsI ka xa sa ra)) ∧ Below w.heap.size w w' := by
  have c1 := fun w => may_i (sa := sa) h w
  have c2 := fun w => Calls_i (xa := xa) (sa := sa) (ra := ra) h.1 w
  have hb := heap_alloc_new w (.cells #[.int .u8 ka, .float .f64 xa, .string sa, .int .i64 ra] 31)
  obtain ⟨q0, q1, q2, q3, _⟩ := vc4 hb
  unfold callsI calI
  rcases Bool.eq_false_or_eq_true (mayI ka xa sa ra) with hm | hm
  · rw [hm] at c1
    rcases Bool.eq_false_or_eq_true (ka == 0) with h0 | h0
    all_goals
      go_enter Tryz.func145, Tryz.ntmps145
      go_wp2_with (first
        | (go_at_call 115; (with_reducible refine (c1 _).mono ?_); rintro e w1 ⟨rfl, h1⟩; obtain ⟨q0, q1, q2, q3, _⟩ := vc4 (vblkn h1 hb); have hB := vafter h1)
        | (go_at_call 104; (with_reducible refine (c2 _).mono ?_); rintro e w2 ⟨rfl, h2⟩; have hB := vb hB h2))
      go_ret
      exact ⟨dret (by rw [hm, h0]; simp), hB⟩
  · rw [hm] at c1
    go_enter Tryz.func145, Tryz.ntmps145
    go_wp2_with (go_at_call 115; (with_reducible refine (c1 _).mono ?_); rintro e w1 ⟨rfl, h1⟩; have hB := vafter h1)
    go_ret
    exact ⟨dret (by rw [hm]; rfl), hB⟩
/-- whether two values are the same -/
def sameI (k : Int) (x : Nat) (s : ByteArray) (r : Int) (k' : Int) (x' : Nat) (s' : ByteArray) (r' : Int) : Bool := sameG k.toNat x s r k'.toNat x' s' r'
theorem same_i {ka : Int} {xa : Nat} {sa : ByteArray} {ra : Int} {kb : Int} {xb : Nat} {sb : ByteArray} {rb : Int} (h : 0 ≤ ka ∧ ka ≤ 8) (h' : 0 ≤ kb) (w : World) : Calls Tryz.prog 36 #[.agg #[.int .u8 ka, .float .f64 xa, .string sa, .int .i64 ra], .agg #[.int .u8 kb, .float .f64 xb, .string sb, .int .i64 rb]] w fun e w' => e = .returned (.bool (sameI ka xa sa ra kb xb sb rb)) ∧ Below w.heap.size w w' := by
  obtain ⟨n, rfl⟩ := Int.eq_ofNat_of_zero_le h.1
  obtain ⟨m, rfl⟩ := Int.eq_ofNat_of_zero_le h'
  exact Same_any n xa sa ra m xb sb rb (by omega) w
theorem same_i_refl {ka : Int} {xa : Nat} {sa : ByteArray} {ra : Int} (h : VOk ka xa sa ra) : sameI ka xa sa ra ka xa sa ra = true := by
  obtain ⟨v, ok, rfl, rfl, rfl, rfl⟩ := h
  exact sameV_refl ok
theorem vok_kind {ka : Int} {xa : Nat} {sa : ByteArray} {ra : Int} (h : VOk ka xa sa ra) : 0 ≤ ka ∧ ka ≤ 8 := by
  obtain ⟨v, ok, rfl, rfl, rfl, rfl⟩ := h
  cases v with
  | obj k r => have := ok.1; simp only [Vl.kd]; omega
  | _ => simp only [Vl.kd]; omega
theorem vok_und : VOk 0 0 ⟨#[]⟩ 0 := ⟨.und, trivial, rfl, rfl, rfl, rfl⟩
end Go.Proofs.YthnkllhfmjbbmaaGreatDoor.S
/-
  Two descriptors compared by ==, the second with no field but its Has.
-/
namespace Go.Proofs.YthnkllhfmjbbmaaGreatDoor.S
open Go.RowKit Fl

def zV (k : Int) (x : Nat) (s : ByteArray) (r : Int) : Bool := k == 0 && (feq x 0 && (s.toList.isEmpty && r == 0))
theorem eq_val (d : Nat) (ka : Int) (xa : Nat) (sa : ByteArray) (ra : Int) (w : World) : (Op.equalIn (d + 2) 31 (.agg #[.int .u8 ka, .float .f64 xa, .string sa, .int .i64 ra]) (.agg #[.int .u8 0, .float .f64 0, .string ⟨#[]⟩, .int .i64 0])).run Tryz.prog w = .ok (zV ka xa sa ra) w := by
  have hv := veq_float d xa 0 w
  have z3 : (⟨#[]⟩ : ByteArray).toList = [] := by rw [toList_data]
  simp only [zV]
  by_cases h1 : ka = 0 <;> cases h2 : feq xa 0 <;> by_cases h3 : sa.toList = [] <;> by_cases h4 : ra = 0 <;> (rw [h2] at hv; simp [go_sem, run_equalIn_struct, Tryz.underlying31, hv, z3, h1, h3, h4])
def zD (o h : Int) (va vb vc p q z : Bool) : Bool := o == h && (va && (vb && (vc && (!p && (!q && !z)))))
theorem fields_step {d : Nat} {xs ys : Array Value} {f : Field} {fs : List Field} {a b : Value} {r : Bool} {w : World} (hn : f.name ≠ "_") (ha : (part f.type xs f.offset).run Tryz.prog w = .ok a w) (hb : (part f.type ys f.offset).run Tryz.prog w = .ok b w)
    (hr : (Op.equalIn d f.type a b).run Tryz.prog w = .ok r w) {t : Bool} (h : (Op.eqFields d xs ys fs).run Tryz.prog w = .ok t w) : (Op.eqFields d xs ys (f :: fs)).run Tryz.prog w = .ok (r && t) w := by
  simp only [Op.eqFields, if_pos hn, Sem.run_bind, ha, hb, hr, Result.andThen_ok]
  cases r <;> simp [h]
set_option maxRecDepth 100000 in
theorem eq_desc (d : Nat) (o h : Int) (ka : Int) (xa : Nat) (sa : ByteArray) (ra : Int) (kb : Int) (xb : Nat) (sb : ByteArray) (rb : Int) (kc : Int) (xc : Nat) (sc : ByteArray) (rc : Int) (p q z : Bool) (w : World) : (Op.equalIn (d + 3) 55 (.agg #[.int .u8 o, .int .u8 ka, .float .f64 xa, .string sa, .int .i64 ra, .int .u8 kb, .float .f64 xb, .string sb, .int .i64 rb, .int .u8 kc, .float .f64 xc, .string sc, .int .i64 rc, .bool p, .bool q, .bool z]) (.agg #[.int .u8 h, .int .u8 0, .float .f64 0, .string ⟨#[]⟩, .int .i64 0, .int .u8 0, .float .f64 0, .string ⟨#[]⟩, .int .i64 0, .int .u8 0, .float .f64 0, .string ⟨#[]⟩, .int .i64 0, .bool false, .bool false, .bool false])).run Tryz.prog w = .ok (zD o h (zV ka xa sa ra) (zV kb xb sb rb) (zV kc xc sc rc) p q z) w := by
  rw [run_equalIn_struct _ _ _ _ _ (by kernel_rfl) (by kernel_rfl)]
  simp only [Program.fieldsOf, Tryz.underlying55]
  unfold zD
  refine fields_step (by decide) (a := .int .u8 o) (b := .int .u8 h) (by simp [go_sem]) (by simp [go_sem]) (by simp [go_sem]) ?_
  refine fields_step (by decide) (a := .agg #[.int .u8 ka, .float .f64 xa, .string sa, .int .i64 ra]) (b := .agg #[.int .u8 0, .float .f64 0, .string ⟨#[]⟩, .int .i64 0]) (by simp [go_sem]) (by simp [go_sem]) (eq_val d ka xa sa ra w) ?_
  refine fields_step (by decide) (a := .agg #[.int .u8 kb, .float .f64 xb, .string sb, .int .i64 rb]) (b := .agg #[.int .u8 0, .float .f64 0, .string ⟨#[]⟩, .int .i64 0]) (by simp [go_sem]) (by simp [go_sem]) (eq_val d kb xb sb rb w) ?_
  refine fields_step (by decide) (a := .agg #[.int .u8 kc, .float .f64 xc, .string sc, .int .i64 rc]) (b := .agg #[.int .u8 0, .float .f64 0, .string ⟨#[]⟩, .int .i64 0]) (by simp [go_sem]) (by simp [go_sem]) (eq_val d kc xc sc rc w) ?_
  refine fields_step (by decide) (a := .bool p) (b := .bool false) (by simp [go_sem]) (by simp [go_sem]) (by cases p <;> simp [go_sem]) ?_
  refine fields_step (by decide) (a := .bool q) (b := .bool false) (by simp [go_sem]) (by simp [go_sem]) (by cases q <;> simp [go_sem]) ?_
  have h0 : (Op.eqFields (d + 2) (#[.int .u8 o, .int .u8 ka, .float .f64 xa, .string sa, .int .i64 ra, .int .u8 kb, .float .f64 xb, .string sb, .int .i64 rb, .int .u8 kc, .float .f64 xc, .string sc, .int .i64 rc, .bool p, .bool q, .bool z]) (#[.int .u8 h, .int .u8 0, .float .f64 0, .string ⟨#[]⟩, .int .i64 0, .int .u8 0, .float .f64 0, .string ⟨#[]⟩, .int .i64 0, .int .u8 0, .float .f64 0, .string ⟨#[]⟩, .int .i64 0, .bool false, .bool false, .bool false]) []).run Tryz.prog w = .ok true w := by simp [Op.eqFields]
  have := fields_step (f := { name := "Configurable", type := 4, offset := 15, embedded := false, tag := "", pkgPath := "", byteOffset := 130 }) (by decide) (a := .bool z) (b := .bool false) (by simp [go_sem]) (by simp [go_sem]) (r := !z) (by cases z <;> simp [go_sem]) h0
  rw [Bool.and_true] at this
  exact this
end Go.Proofs.YthnkllhfmjbbmaaGreatDoor.S
