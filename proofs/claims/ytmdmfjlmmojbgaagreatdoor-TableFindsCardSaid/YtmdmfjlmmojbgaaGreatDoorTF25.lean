/-
  Descriptors: Same: the walk. Generated: gen_descsame.py.
-/
import Derived.Test.YtmdmfjlmmojbgaaGreatDoorTF24
namespace Go.Proofs.YtmdmfjlmmojbgaaGreatDoor.S
open Go.RowKit Fl

theorem has_b {h m : Int} {t : Bool} (ht : hasB h m = t) (ka : Int) (xa : Nat) (sa : ByteArray) (ra : Int) (kb : Int) (xb : Nat) (sb : ByteArray) (rb : Int) (kc : Int) (xc : Nat) (sc : ByteArray) (rc : Int) (p q z : Bool) (w : World) : Calls Tryz.prog 31 #[.agg #[.int .u8 h, .int .u8 ka, .float .f64 xa, .string sa, .int .i64 ra, .int .u8 kb, .float .f64 xb, .string sb, .int .i64 rb, .int .u8 kc, .float .f64 xc, .string sc, .int .i64 rc, .bool p, .bool q, .bool z], .int .u8 m] w fun e w' => e = .returned (.bool t) ∧ Below w.heap.size w w' := ht ▸ has_c h m ka xa sa ra kb xb sb rb kc xc sc rc p q z w
theorem dret {a b : Bool} (h : a = b) : Ending.returned (.bool a) = .returned (.bool b) := by rw [h]
def same7 (t0 f1 f2 f3 f4 f5 f6 : Bool) : Bool := t0 && !f1 && !f2 && !f3 && !f4 && !f5 && !f6
/-- what Same answers, from what is told of the three values -/
def sameD (h h' : Int) (sA sB sC p p' q q' z z' : Bool) : Bool :=
  same7 (h == h') (hasB h 1 && !sA) (hasB h 2 && (p != p')) (hasB h 4 && !sB) (hasB h 8 && !sC) (hasB h 16 && (q != q')) (hasB h 32 && (z != z'))

set_option maxRecDepth 1000000 in
set_option maxHeartbeats 4000000 in
theorem Same_d (h h' : Int) (ka : Int) (xa : Nat) (sa : ByteArray) (ra : Int) (kb : Int) (xb : Nat) (sb : ByteArray) (rb : Int) (kc : Int) (xc : Nat) (sc : ByteArray) (rc : Int) (kd : Int) (xd : Nat) (sd : ByteArray) (rd : Int) (kf : Int) (xf : Nat) (sf : ByteArray) (rf : Int) (kg : Int) (xg : Nat) (sg : ByteArray) (rg : Int) (p q z p' q' z' : Bool) {sA sB sC : Bool} (cA : ∀ w, Calls Tryz.prog 32 #[.agg #[.int .u8 ka, .float .f64 xa, .string sa, .int .i64 ra], .agg #[.int .u8 kd, .float .f64 xd, .string sd, .int .i64 rd]] w fun e w' => e = .returned (.bool sA) ∧ Below w.heap.size w w') (cB : ∀ w, Calls Tryz.prog 32 #[.agg #[.int .u8 kb, .float .f64 xb, .string sb, .int .i64 rb], .agg #[.int .u8 kf, .float .f64 xf, .string sf, .int .i64 rf]] w fun e w' => e = .returned (.bool sB) ∧ Below w.heap.size w w') (cC : ∀ w, Calls Tryz.prog 32 #[.agg #[.int .u8 kc, .float .f64 xc, .string sc, .int .i64 rc], .agg #[.int .u8 kg, .float .f64 xg, .string sg, .int .i64 rg]] w fun e w' => e = .returned (.bool sC) ∧ Below w.heap.size w w') (w : World) : Calls Tryz.prog 20 #[.agg #[.int .u8 h, .int .u8 ka, .float .f64 xa, .string sa, .int .i64 ra, .int .u8 kb, .float .f64 xb, .string sb, .int .i64 rb, .int .u8 kc, .float .f64 xc, .string sc, .int .i64 rc, .bool p, .bool q, .bool z], .agg #[.int .u8 h', .int .u8 kd, .float .f64 xd, .string sd, .int .i64 rd, .int .u8 kf, .float .f64 xf, .string sf, .int .i64 rf, .int .u8 kg, .float .f64 xg, .string sg, .int .i64 rg, .bool p', .bool q', .bool z']] w fun e w' => e = .returned (.bool (sameD h h' sA sB sC p p' q q' z z')) ∧ Below w.heap.size w w' := by
  have hB0 : Below w.heap.size w ((w.alloc (.cells #[.int .u8 h, .int .u8 ka, .float .f64 xa, .string sa, .int .i64 ra, .int .u8 kb, .float .f64 xb, .string sb, .int .i64 rb, .int .u8 kc, .float .f64 xc, .string sc, .int .i64 rc, .bool p, .bool q, .bool z] 28)).alloc (.cells #[.int .u8 h', .int .u8 kd, .float .f64 xd, .string sd, .int .i64 rd, .int .u8 kf, .float .f64 xf, .string sf, .int .i64 rf, .int .u8 kg, .float .f64 xg, .string sg, .int .i64 rg, .bool p', .bool q', .bool z'] 28)) := vafter (vzero _ _)
  obtain ⟨b1, b2⟩ := vblk2 (w := w) (Below.refl _ ((w.alloc (.cells #[.int .u8 h, .int .u8 ka, .float .f64 xa, .string sa, .int .i64 ra, .int .u8 kb, .float .f64 xb, .string sb, .int .i64 rb, .int .u8 kc, .float .f64 xc, .string sc, .int .i64 rc, .bool p, .bool q, .bool z] 28)).alloc (.cells #[.int .u8 h', .int .u8 kd, .float .f64 xd, .string sd, .int .i64 rd, .int .u8 kf, .float .f64 xf, .string sf, .int .i64 rf, .int .u8 kg, .float .f64 xg, .string sg, .int .i64 rg, .bool p', .bool q', .bool z'] 28)))
  have d1 := vcells b1 0
  have d2 := vcells b2 0
  rcases Bool.eq_false_or_eq_true (h == h') with t0 | t0
  rotate_left
  · have n0 : (h != h') = true := by rw [bne, t0]; rfl
    go_enter Tryz.func20, Tryz.ntmps20
    go_upto_region 3 with (fail)
    go_ret
    exact ⟨dret (by unfold sameD same7; rw [t0]; rfl), hB0⟩
  have n0 : (h != h') = false := by rw [bne, t0]; rfl
  have T0 := Lib.hid t0
  clear t0
  go_enter Tryz.func20, Tryz.ntmps20
  go_upto_region 3 with (fail)
  go_cut [11] from 5 to 73 (fun u wx => u = .bool ((hasB h 1 && !sA)) ∧ wx.heap[w.heap.size]? = some (.cells #[.int .u8 h, .int .u8 ka, .float .f64 xa, .string sa, .int .i64 ra, .int .u8 kb, .float .f64 xb, .string sb, .int .i64 rb, .int .u8 kc, .float .f64 xc, .string sc, .int .i64 rc, .bool p, .bool q, .bool z] 28 (0, 0)) ∧ wx.heap[w.heap.size + 1]? = some (.cells #[.int .u8 h', .int .u8 kd, .float .f64 xd, .string sd, .int .i64 rd, .int .u8 kf, .float .f64 xf, .string sf, .int .i64 rf, .int .u8 kg, .float .f64 xg, .string sg, .int .i64 rg, .bool p', .bool q', .bool z'] 28 (0, 0)) ∧ Below w.heap.size w wx)
  case first =>
    rcases Bool.eq_false_or_eq_true (hasB h 1) with hs | hs
    · go_wp2_with (first | ((with_reducible refine d_load ?_ rfl rfl b1 ?_); (rfl)) | ((with_reducible refine v_load ?_ rfl rfl b1 rfl rfl rfl rfl ?_); (rfl)) | ((with_reducible refine v_load ?_ rfl rfl b2 rfl rfl rfl rfl ?_); (rfl)) | (go_at_call 31; (with_reducible refine (has_b hs _ _ _ _ _ _ _ _ _ _ _ _ _ _ _ _).mono ?_); rintro e w1 ⟨rfl, h1⟩; have b1 := vblkn h1 b1; have b2 := vblkn h1 b2; have hB0 := vb hB0 h1) | (go_at_call 32; (with_reducible refine (cA _).mono ?_); rintro e w2 ⟨rfl, h1⟩; have b1 := vblkn h1 b1; have b2 := vblkn h1 b2; have hB0 := vb hB0 h1))
      go_meet
      case rel => rw [hs]; exact ⟨rfl, b1, b2, hB0⟩
    · go_wp2_with (first | ((with_reducible refine d_load ?_ rfl rfl b1 ?_); (rfl)) | ((with_reducible refine v_load ?_ rfl rfl b1 rfl rfl rfl rfl ?_); (rfl)) | ((with_reducible refine v_load ?_ rfl rfl b2 rfl rfl rfl rfl ?_); (rfl)) | (go_at_call 31; (with_reducible refine (has_b hs _ _ _ _ _ _ _ _ _ _ _ _ _ _ _ _).mono ?_); rintro e w1 ⟨rfl, h1⟩; have b1 := vblkn h1 b1; have b2 := vblkn h1 b2; have hB0 := vb hB0 h1))
      go_meet
      case rel => rw [hs]; exact ⟨rfl, b1, b2, hB0⟩
  case rest =>
  obtain ⟨rfl, b1, b2, hB0⟩ := hcut
  rcases Bool.eq_false_or_eq_true (hasB h 1 && !sA) with t1 | t1
  · rw [t1]
    go_wp2
    go_ret
    exact ⟨dret (by unfold sameD same7; rw [T0, t1]; rfl), hB0⟩
  rw [t1]
  have T1 := Lib.hid t1
  clear t1
  go_upto_region 5 with (fail)
  go_cut [22] from 5 to 73 (fun u wx => u = .bool ((hasB h 2 && (p != p'))) ∧ wx.heap[w.heap.size]? = some (.cells #[.int .u8 h, .int .u8 ka, .float .f64 xa, .string sa, .int .i64 ra, .int .u8 kb, .float .f64 xb, .string sb, .int .i64 rb, .int .u8 kc, .float .f64 xc, .string sc, .int .i64 rc, .bool p, .bool q, .bool z] 28 (0, 0)) ∧ wx.heap[w.heap.size + 1]? = some (.cells #[.int .u8 h', .int .u8 kd, .float .f64 xd, .string sd, .int .i64 rd, .int .u8 kf, .float .f64 xf, .string sf, .int .i64 rf, .int .u8 kg, .float .f64 xg, .string sg, .int .i64 rg, .bool p', .bool q', .bool z'] 28 (0, 0)) ∧ Below w.heap.size w wx)
  case first =>
    rcases Bool.eq_false_or_eq_true (hasB h 2) with hs | hs
    · go_wp2_with (first | ((with_reducible refine d_load ?_ rfl rfl b1 ?_); (rfl)) | ((with_reducible refine v_load ?_ rfl rfl b1 rfl rfl rfl rfl ?_); (rfl)) | ((with_reducible refine v_load ?_ rfl rfl b2 rfl rfl rfl rfl ?_); (rfl)) | (go_at_call 31; (with_reducible refine (has_b hs _ _ _ _ _ _ _ _ _ _ _ _ _ _ _ _).mono ?_); rintro e w1 ⟨rfl, h1⟩; have b1 := vblkn h1 b1; have b2 := vblkn h1 b2; have hB0 := vb hB0 h1; have e1 := vcells b1 13; have e2 := vcells b2 13))
      go_meet
      case rel => rw [hs]; exact ⟨rfl, b1, b2, hB0⟩
    · go_wp2_with (first | ((with_reducible refine d_load ?_ rfl rfl b1 ?_); (rfl)) | ((with_reducible refine v_load ?_ rfl rfl b1 rfl rfl rfl rfl ?_); (rfl)) | ((with_reducible refine v_load ?_ rfl rfl b2 rfl rfl rfl rfl ?_); (rfl)) | (go_at_call 31; (with_reducible refine (has_b hs _ _ _ _ _ _ _ _ _ _ _ _ _ _ _ _).mono ?_); rintro e w1 ⟨rfl, h1⟩; have b1 := vblkn h1 b1; have b2 := vblkn h1 b2; have hB0 := vb hB0 h1))
      go_meet
      case rel => rw [hs]; exact ⟨rfl, b1, b2, hB0⟩
  case rest =>
  obtain ⟨rfl, b1, b2, hB0⟩ := hcut
  rcases Bool.eq_false_or_eq_true (hasB h 2 && (p != p')) with t2 | t2
  · rw [t2]
    go_wp2
    go_ret
    exact ⟨dret (by unfold sameD same7; rw [T0, T1, t2]; rfl), hB0⟩
  rw [t2]
  have T2 := Lib.hid t2
  clear t2
  go_upto_region 7 with (fail)
  go_cut [32] from 5 to 73 (fun u wx => u = .bool ((hasB h 4 && !sB)) ∧ wx.heap[w.heap.size]? = some (.cells #[.int .u8 h, .int .u8 ka, .float .f64 xa, .string sa, .int .i64 ra, .int .u8 kb, .float .f64 xb, .string sb, .int .i64 rb, .int .u8 kc, .float .f64 xc, .string sc, .int .i64 rc, .bool p, .bool q, .bool z] 28 (0, 0)) ∧ wx.heap[w.heap.size + 1]? = some (.cells #[.int .u8 h', .int .u8 kd, .float .f64 xd, .string sd, .int .i64 rd, .int .u8 kf, .float .f64 xf, .string sf, .int .i64 rf, .int .u8 kg, .float .f64 xg, .string sg, .int .i64 rg, .bool p', .bool q', .bool z'] 28 (0, 0)) ∧ Below w.heap.size w wx)
  case first =>
    rcases Bool.eq_false_or_eq_true (hasB h 4) with hs | hs
    · go_wp2_with (first | ((with_reducible refine d_load ?_ rfl rfl b1 ?_); (rfl)) | ((with_reducible refine v_load ?_ rfl rfl b1 rfl rfl rfl rfl ?_); (rfl)) | ((with_reducible refine v_load ?_ rfl rfl b2 rfl rfl rfl rfl ?_); (rfl)) | (go_at_call 31; (with_reducible refine (has_b hs _ _ _ _ _ _ _ _ _ _ _ _ _ _ _ _).mono ?_); rintro e w1 ⟨rfl, h1⟩; have b1 := vblkn h1 b1; have b2 := vblkn h1 b2; have hB0 := vb hB0 h1) | (go_at_call 32; (with_reducible refine (cB _).mono ?_); rintro e w2 ⟨rfl, h1⟩; have b1 := vblkn h1 b1; have b2 := vblkn h1 b2; have hB0 := vb hB0 h1))
      go_meet
      case rel => rw [hs]; exact ⟨rfl, b1, b2, hB0⟩
    · go_wp2_with (first | ((with_reducible refine d_load ?_ rfl rfl b1 ?_); (rfl)) | ((with_reducible refine v_load ?_ rfl rfl b1 rfl rfl rfl rfl ?_); (rfl)) | ((with_reducible refine v_load ?_ rfl rfl b2 rfl rfl rfl rfl ?_); (rfl)) | (go_at_call 31; (with_reducible refine (has_b hs _ _ _ _ _ _ _ _ _ _ _ _ _ _ _ _).mono ?_); rintro e w1 ⟨rfl, h1⟩; have b1 := vblkn h1 b1; have b2 := vblkn h1 b2; have hB0 := vb hB0 h1))
      go_meet
      case rel => rw [hs]; exact ⟨rfl, b1, b2, hB0⟩
  case rest =>
  obtain ⟨rfl, b1, b2, hB0⟩ := hcut
  rcases Bool.eq_false_or_eq_true (hasB h 4 && !sB) with t3 | t3
  · rw [t3]
    go_wp2
    go_ret
    exact ⟨dret (by unfold sameD same7; rw [T0, T1, T2, t3]; rfl), hB0⟩
  rw [t3]
  have T3 := Lib.hid t3
  clear t3
  go_upto_region 9 with (fail)
  go_cut [43] from 5 to 73 (fun u wx => u = .bool ((hasB h 8 && !sC)) ∧ wx.heap[w.heap.size]? = some (.cells #[.int .u8 h, .int .u8 ka, .float .f64 xa, .string sa, .int .i64 ra, .int .u8 kb, .float .f64 xb, .string sb, .int .i64 rb, .int .u8 kc, .float .f64 xc, .string sc, .int .i64 rc, .bool p, .bool q, .bool z] 28 (0, 0)) ∧ wx.heap[w.heap.size + 1]? = some (.cells #[.int .u8 h', .int .u8 kd, .float .f64 xd, .string sd, .int .i64 rd, .int .u8 kf, .float .f64 xf, .string sf, .int .i64 rf, .int .u8 kg, .float .f64 xg, .string sg, .int .i64 rg, .bool p', .bool q', .bool z'] 28 (0, 0)) ∧ Below w.heap.size w wx)
  case first =>
    rcases Bool.eq_false_or_eq_true (hasB h 8) with hs | hs
    · go_wp2_with (first | ((with_reducible refine d_load ?_ rfl rfl b1 ?_); (rfl)) | ((with_reducible refine v_load ?_ rfl rfl b1 rfl rfl rfl rfl ?_); (rfl)) | ((with_reducible refine v_load ?_ rfl rfl b2 rfl rfl rfl rfl ?_); (rfl)) | (go_at_call 31; (with_reducible refine (has_b hs _ _ _ _ _ _ _ _ _ _ _ _ _ _ _ _).mono ?_); rintro e w1 ⟨rfl, h1⟩; have b1 := vblkn h1 b1; have b2 := vblkn h1 b2; have hB0 := vb hB0 h1) | (go_at_call 32; (with_reducible refine (cC _).mono ?_); rintro e w2 ⟨rfl, h1⟩; have b1 := vblkn h1 b1; have b2 := vblkn h1 b2; have hB0 := vb hB0 h1))
      go_meet
      case rel => rw [hs]; exact ⟨rfl, b1, b2, hB0⟩
    · go_wp2_with (first | ((with_reducible refine d_load ?_ rfl rfl b1 ?_); (rfl)) | ((with_reducible refine v_load ?_ rfl rfl b1 rfl rfl rfl rfl ?_); (rfl)) | ((with_reducible refine v_load ?_ rfl rfl b2 rfl rfl rfl rfl ?_); (rfl)) | (go_at_call 31; (with_reducible refine (has_b hs _ _ _ _ _ _ _ _ _ _ _ _ _ _ _ _).mono ?_); rintro e w1 ⟨rfl, h1⟩; have b1 := vblkn h1 b1; have b2 := vblkn h1 b2; have hB0 := vb hB0 h1))
      go_meet
      case rel => rw [hs]; exact ⟨rfl, b1, b2, hB0⟩
  case rest =>
  obtain ⟨rfl, b1, b2, hB0⟩ := hcut
  rcases Bool.eq_false_or_eq_true (hasB h 8 && !sC) with t4 | t4
  · rw [t4]
    go_wp2
    go_ret
    exact ⟨dret (by unfold sameD same7; rw [T0, T1, T2, T3, t4]; rfl), hB0⟩
  rw [t4]
  have T4 := Lib.hid t4
  clear t4
  go_upto_region 11 with (fail)
  go_cut [54] from 5 to 73 (fun u wx => u = .bool ((hasB h 16 && (q != q'))) ∧ wx.heap[w.heap.size]? = some (.cells #[.int .u8 h, .int .u8 ka, .float .f64 xa, .string sa, .int .i64 ra, .int .u8 kb, .float .f64 xb, .string sb, .int .i64 rb, .int .u8 kc, .float .f64 xc, .string sc, .int .i64 rc, .bool p, .bool q, .bool z] 28 (0, 0)) ∧ wx.heap[w.heap.size + 1]? = some (.cells #[.int .u8 h', .int .u8 kd, .float .f64 xd, .string sd, .int .i64 rd, .int .u8 kf, .float .f64 xf, .string sf, .int .i64 rf, .int .u8 kg, .float .f64 xg, .string sg, .int .i64 rg, .bool p', .bool q', .bool z'] 28 (0, 0)) ∧ Below w.heap.size w wx)
  case first =>
    rcases Bool.eq_false_or_eq_true (hasB h 16) with hs | hs
    · go_wp2_with (first | ((with_reducible refine d_load ?_ rfl rfl b1 ?_); (rfl)) | ((with_reducible refine v_load ?_ rfl rfl b1 rfl rfl rfl rfl ?_); (rfl)) | ((with_reducible refine v_load ?_ rfl rfl b2 rfl rfl rfl rfl ?_); (rfl)) | (go_at_call 31; (with_reducible refine (has_b hs _ _ _ _ _ _ _ _ _ _ _ _ _ _ _ _).mono ?_); rintro e w1 ⟨rfl, h1⟩; have b1 := vblkn h1 b1; have b2 := vblkn h1 b2; have hB0 := vb hB0 h1; have e1 := vcells b1 14; have e2 := vcells b2 14))
      go_meet
      case rel => rw [hs]; exact ⟨rfl, b1, b2, hB0⟩
    · go_wp2_with (first | ((with_reducible refine d_load ?_ rfl rfl b1 ?_); (rfl)) | ((with_reducible refine v_load ?_ rfl rfl b1 rfl rfl rfl rfl ?_); (rfl)) | ((with_reducible refine v_load ?_ rfl rfl b2 rfl rfl rfl rfl ?_); (rfl)) | (go_at_call 31; (with_reducible refine (has_b hs _ _ _ _ _ _ _ _ _ _ _ _ _ _ _ _).mono ?_); rintro e w1 ⟨rfl, h1⟩; have b1 := vblkn h1 b1; have b2 := vblkn h1 b2; have hB0 := vb hB0 h1))
      go_meet
      case rel => rw [hs]; exact ⟨rfl, b1, b2, hB0⟩
  case rest =>
  obtain ⟨rfl, b1, b2, hB0⟩ := hcut
  rcases Bool.eq_false_or_eq_true (hasB h 16 && (q != q')) with t5 | t5
  · rw [t5]
    go_wp2
    go_ret
    exact ⟨dret (by unfold sameD same7; rw [T0, T1, T2, T3, T4, t5]; rfl), hB0⟩
  rw [t5]
  have T5 := Lib.hid t5
  clear t5
  go_upto_region 13 with (fail)
  go_cut [4] from 5 to 73 (fun u wx => u = .bool (!(hasB h 32 && (z != z'))) ∧ wx.heap[w.heap.size]? = some (.cells #[.int .u8 h, .int .u8 ka, .float .f64 xa, .string sa, .int .i64 ra, .int .u8 kb, .float .f64 xb, .string sb, .int .i64 rb, .int .u8 kc, .float .f64 xc, .string sc, .int .i64 rc, .bool p, .bool q, .bool z] 28 (0, 0)) ∧ wx.heap[w.heap.size + 1]? = some (.cells #[.int .u8 h', .int .u8 kd, .float .f64 xd, .string sd, .int .i64 rd, .int .u8 kf, .float .f64 xf, .string sf, .int .i64 rf, .int .u8 kg, .float .f64 xg, .string sg, .int .i64 rg, .bool p', .bool q', .bool z'] 28 (0, 0)) ∧ Below w.heap.size w wx)
  case first =>
    rcases Bool.eq_false_or_eq_true (hasB h 32) with hs | hs
    · go_wp2_with (first | ((with_reducible refine d_load ?_ rfl rfl b1 ?_); (rfl)) | ((with_reducible refine v_load ?_ rfl rfl b1 rfl rfl rfl rfl ?_); (rfl)) | ((with_reducible refine v_load ?_ rfl rfl b2 rfl rfl rfl rfl ?_); (rfl)) | (go_at_call 31; (with_reducible refine (has_b hs _ _ _ _ _ _ _ _ _ _ _ _ _ _ _ _).mono ?_); rintro e w1 ⟨rfl, h1⟩; have b1 := vblkn h1 b1; have b2 := vblkn h1 b2; have hB0 := vb hB0 h1; have e1 := vcells b1 15; have e2 := vcells b2 15))
      go_meet
      case rel => rw [hs]; exact ⟨by rw [Bool.true_and, bne, Bool.not_not], b1, b2, hB0⟩
    · go_wp2_with (first | ((with_reducible refine d_load ?_ rfl rfl b1 ?_); (rfl)) | ((with_reducible refine v_load ?_ rfl rfl b1 rfl rfl rfl rfl ?_); (rfl)) | ((with_reducible refine v_load ?_ rfl rfl b2 rfl rfl rfl rfl ?_); (rfl)) | (go_at_call 31; (with_reducible refine (has_b hs _ _ _ _ _ _ _ _ _ _ _ _ _ _ _ _).mono ?_); rintro e w1 ⟨rfl, h1⟩; have b1 := vblkn h1 b1; have b2 := vblkn h1 b2; have hB0 := vb hB0 h1))
      go_meet
      case rel => rw [hs]; exact ⟨rfl, b1, b2, hB0⟩
  case rest =>
  obtain ⟨rfl, b1, b2, hB0⟩ := hcut
  go_wp2
  go_ret
  exact ⟨dret (by unfold sameD same7; rw [T0, T1, T2, T3, T4, T5]; rfl), hB0⟩
end Go.Proofs.YtmdmfjlmmojbgaaGreatDoor.S
