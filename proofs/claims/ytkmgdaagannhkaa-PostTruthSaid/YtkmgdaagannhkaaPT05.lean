/-
  Descriptors: Same: the walk. Generated: gen_descsame.py.
-/
import Derived.Test.YtkmgdaagannhkaaPT04
import Derived.Deep.RegionHeld3
import Derived.Deep.CutRange
namespace Go.Proofs.Ytkmgdaagannhkaa.S
open Go.RowKit Fl

theorem has_b {h m : Int} {t : Bool} (ht : hasB h m = t) (ka : Int) (xa : Nat) (sa : ByteArray) (ra : Int) (kb : Int) (xb : Nat) (sb : ByteArray) (rb : Int) (kc : Int) (xc : Nat) (sc : ByteArray) (rc : Int) (p q z : Bool) (w : World) : Calls Try.prog 26 #[.agg #[.int .u8 h, .int .u8 ka, .float .f64 xa, .string sa, .int .i64 ra, .int .u8 kb, .float .f64 xb, .string sb, .int .i64 rb, .int .u8 kc, .float .f64 xc, .string sc, .int .i64 rc, .bool p, .bool q, .bool z], .int .u8 m] w fun e w' => e = .returned (.bool t) ∧ Below w.heap.size w w' := ht ▸ has_c h m ka xa sa ra kb xb sb rb kc xc sc rc p q z w
theorem dret {a b : Bool} (h : a = b) : Ending.returned (.bool a) = .returned (.bool b) := by rw [h]
def same7 (t0 f1 f2 f3 f4 f5 f6 : Bool) : Bool := t0 && !f1 && !f2 && !f3 && !f4 && !f5 && !f6
/-- what Same answers, from what is told of the three values -/
def sameD (h h' : Int) (sA sB sC p p' q q' z z' : Bool) : Bool :=
  same7 (h == h') (hasB h 1 && !sA) (hasB h 2 && (p != p')) (hasB h 4 && !sB) (hasB h 8 && !sC) (hasB h 16 && (q != q')) (hasB h 32 && (z != z'))

set_option maxRecDepth 1000000 in
set_option maxHeartbeats 4000000 in
theorem Same_d (h h' : Int) (ka : Int) (xa : Nat) (sa : ByteArray) (ra : Int) (kb : Int) (xb : Nat) (sb : ByteArray) (rb : Int) (kc : Int) (xc : Nat) (sc : ByteArray) (rc : Int) (kd : Int) (xd : Nat) (sd : ByteArray) (rd : Int) (kf : Int) (xf : Nat) (sf : ByteArray) (rf : Int) (kg : Int) (xg : Nat) (sg : ByteArray) (rg : Int) (p q z p' q' z' : Bool) {sA sB sC : Bool} (cA : ∀ w, Calls Try.prog 18 #[.agg #[.int .u8 ka, .float .f64 xa, .string sa, .int .i64 ra], .agg #[.int .u8 kd, .float .f64 xd, .string sd, .int .i64 rd]] w fun e w' => e = .returned (.bool sA) ∧ Below w.heap.size w w') (cB : ∀ w, Calls Try.prog 18 #[.agg #[.int .u8 kb, .float .f64 xb, .string sb, .int .i64 rb], .agg #[.int .u8 kf, .float .f64 xf, .string sf, .int .i64 rf]] w fun e w' => e = .returned (.bool sB) ∧ Below w.heap.size w w') (cC : ∀ w, Calls Try.prog 18 #[.agg #[.int .u8 kc, .float .f64 xc, .string sc, .int .i64 rc], .agg #[.int .u8 kg, .float .f64 xg, .string sg, .int .i64 rg]] w fun e w' => e = .returned (.bool sC) ∧ Below w.heap.size w w') (w : World) : Calls Try.prog 19 #[.agg #[.int .u8 h, .int .u8 ka, .float .f64 xa, .string sa, .int .i64 ra, .int .u8 kb, .float .f64 xb, .string sb, .int .i64 rb, .int .u8 kc, .float .f64 xc, .string sc, .int .i64 rc, .bool p, .bool q, .bool z], .agg #[.int .u8 h', .int .u8 kd, .float .f64 xd, .string sd, .int .i64 rd, .int .u8 kf, .float .f64 xf, .string sf, .int .i64 rf, .int .u8 kg, .float .f64 xg, .string sg, .int .i64 rg, .bool p', .bool q', .bool z']] w fun e w' => e = .returned (.bool (sameD h h' sA sB sC p p' q q' z z')) ∧ Below w.heap.size w w' := by
  have hB0 : Below w.heap.size w ((w.alloc (.cells #[.int .u8 h, .int .u8 ka, .float .f64 xa, .string sa, .int .i64 ra, .int .u8 kb, .float .f64 xb, .string sb, .int .i64 rb, .int .u8 kc, .float .f64 xc, .string sc, .int .i64 rc, .bool p, .bool q, .bool z] 27)).alloc (.cells #[.int .u8 h', .int .u8 kd, .float .f64 xd, .string sd, .int .i64 rd, .int .u8 kf, .float .f64 xf, .string sf, .int .i64 rf, .int .u8 kg, .float .f64 xg, .string sg, .int .i64 rg, .bool p', .bool q', .bool z'] 27)) := vafter (vzero _ _)
  obtain ⟨b1, b2⟩ := vblk2 (w := w) (Below.refl _ ((w.alloc (.cells #[.int .u8 h, .int .u8 ka, .float .f64 xa, .string sa, .int .i64 ra, .int .u8 kb, .float .f64 xb, .string sb, .int .i64 rb, .int .u8 kc, .float .f64 xc, .string sc, .int .i64 rc, .bool p, .bool q, .bool z] 27)).alloc (.cells #[.int .u8 h', .int .u8 kd, .float .f64 xd, .string sd, .int .i64 rd, .int .u8 kf, .float .f64 xf, .string sf, .int .i64 rf, .int .u8 kg, .float .f64 xg, .string sg, .int .i64 rg, .bool p', .bool q', .bool z'] 27)))
  have d1 := vcells b1 0
  have d2 := vcells b2 0
  rcases Bool.eq_false_or_eq_true (h == h') with t0 | t0
  rotate_left
  · have n0 : (h != h') = true := by rw [bne, t0]; rfl
    go_enter Try.func19, Try.ntmps19
    go_upto_region 3 with (fail)
    go_ret
    exact ⟨dret (by unfold sameD same7; rw [t0]; rfl), hB0⟩
  have n0 : (h != h') = false := by rw [bne, t0]; rfl
  have T0 := Lib.hid t0
  clear t0
  go_enter Try.func19, Try.ntmps19
  go_upto_region 3 with (fail)
  go_cut [11] from 5 to 73 (fun u wx => u = .bool ((hasB h 1 && !sA)) ∧ wx.heap[w.heap.size]? = some (.cells #[.int .u8 h, .int .u8 ka, .float .f64 xa, .string sa, .int .i64 ra, .int .u8 kb, .float .f64 xb, .string sb, .int .i64 rb, .int .u8 kc, .float .f64 xc, .string sc, .int .i64 rc, .bool p, .bool q, .bool z] 27 (0, 0)) ∧ wx.heap[w.heap.size + 1]? = some (.cells #[.int .u8 h', .int .u8 kd, .float .f64 xd, .string sd, .int .i64 rd, .int .u8 kf, .float .f64 xf, .string sf, .int .i64 rf, .int .u8 kg, .float .f64 xg, .string sg, .int .i64 rg, .bool p', .bool q', .bool z'] 27 (0, 0)) ∧ Below w.heap.size w wx)
  case first =>
    rcases Bool.eq_false_or_eq_true (hasB h 1) with hs | hs
    · go_wp2_with (first | ((with_reducible refine d_load ?_ rfl rfl b1 ?_); (rfl)) | ((with_reducible refine v_load ?_ rfl rfl b1 rfl rfl rfl rfl ?_); (rfl)) | ((with_reducible refine v_load ?_ rfl rfl b2 rfl rfl rfl rfl ?_); (rfl)) | (go_at_call 26; (with_reducible refine (has_b hs _ _ _ _ _ _ _ _ _ _ _ _ _ _ _ _).mono ?_); rintro e w1 ⟨rfl, h1⟩; have b1 := vblkn h1 b1; have b2 := vblkn h1 b2; have hB0 := vb hB0 h1) | (go_at_call 18; (with_reducible refine (cA _).mono ?_); rintro e w2 ⟨rfl, h1⟩; have b1 := vblkn h1 b1; have b2 := vblkn h1 b2; have hB0 := vb hB0 h1))
      go_meet
      case rel => rw [hs]; exact ⟨rfl, b1, b2, hB0⟩
    · go_wp2_with (first | ((with_reducible refine d_load ?_ rfl rfl b1 ?_); (rfl)) | ((with_reducible refine v_load ?_ rfl rfl b1 rfl rfl rfl rfl ?_); (rfl)) | ((with_reducible refine v_load ?_ rfl rfl b2 rfl rfl rfl rfl ?_); (rfl)) | (go_at_call 26; (with_reducible refine (has_b hs _ _ _ _ _ _ _ _ _ _ _ _ _ _ _ _).mono ?_); rintro e w1 ⟨rfl, h1⟩; have b1 := vblkn h1 b1; have b2 := vblkn h1 b2; have hB0 := vb hB0 h1))
      go_meet
      case rel => rw [hs]; exact ⟨rfl, b1, b2, hB0⟩
  case rest =>
  obtain ⟨rfl, b1, b2, hB0⟩ := hcut
  rcases Bool.eq_false_or_eq_true (hasB h 1 && !sA) with t1 | t1
  · rw [t1]
    go_wp2
    go_ret
    exact ⟨dret (by unfold sameD same7; rw [T0, t1]; rfl), hB0⟩
  rw [t1]
  have T1 := Lib.hid t1
  clear t1
  go_upto_region 5 with (fail)
  go_cut [22] from 5 to 73 (fun u wx => u = .bool ((hasB h 2 && (p != p'))) ∧ wx.heap[w.heap.size]? = some (.cells #[.int .u8 h, .int .u8 ka, .float .f64 xa, .string sa, .int .i64 ra, .int .u8 kb, .float .f64 xb, .string sb, .int .i64 rb, .int .u8 kc, .float .f64 xc, .string sc, .int .i64 rc, .bool p, .bool q, .bool z] 27 (0, 0)) ∧ wx.heap[w.heap.size + 1]? = some (.cells #[.int .u8 h', .int .u8 kd, .float .f64 xd, .string sd, .int .i64 rd, .int .u8 kf, .float .f64 xf, .string sf, .int .i64 rf, .int .u8 kg, .float .f64 xg, .string sg, .int .i64 rg, .bool p', .bool q', .bool z'] 27 (0, 0)) ∧ Below w.heap.size w wx)
  case first =>
    rcases Bool.eq_false_or_eq_true (hasB h 2) with hs | hs
    · go_wp2_with (first | ((with_reducible refine d_load ?_ rfl rfl b1 ?_); (rfl)) | ((with_reducible refine v_load ?_ rfl rfl b1 rfl rfl rfl rfl ?_); (rfl)) | ((with_reducible refine v_load ?_ rfl rfl b2 rfl rfl rfl rfl ?_); (rfl)) | (go_at_call 26; (with_reducible refine (has_b hs _ _ _ _ _ _ _ _ _ _ _ _ _ _ _ _).mono ?_); rintro e w1 ⟨rfl, h1⟩; have b1 := vblkn h1 b1; have b2 := vblkn h1 b2; have hB0 := vb hB0 h1; have e1 := vcells b1 13; have e2 := vcells b2 13))
      go_meet
      case rel => rw [hs]; exact ⟨rfl, b1, b2, hB0⟩
    · go_wp2_with (first | ((with_reducible refine d_load ?_ rfl rfl b1 ?_); (rfl)) | ((with_reducible refine v_load ?_ rfl rfl b1 rfl rfl rfl rfl ?_); (rfl)) | ((with_reducible refine v_load ?_ rfl rfl b2 rfl rfl rfl rfl ?_); (rfl)) | (go_at_call 26; (with_reducible refine (has_b hs _ _ _ _ _ _ _ _ _ _ _ _ _ _ _ _).mono ?_); rintro e w1 ⟨rfl, h1⟩; have b1 := vblkn h1 b1; have b2 := vblkn h1 b2; have hB0 := vb hB0 h1))
      go_meet
      case rel => rw [hs]; exact ⟨rfl, b1, b2, hB0⟩
  case rest =>
  obtain ⟨rfl, b1, b2, hB0⟩ := hcut
  rcases Bool.eq_false_or_eq_true (hasB h 2 && (p != p')) with t2 | t2
  · rw [t2]
    go_wp2
    go_ret
    exact ⟨dret (by unfold sameD same7; rw [T0, T1, t2]; rfl), hB0⟩
  rw [t2]
  have T2 := Lib.hid t2
  clear t2
  go_upto_region 7 with (fail)
  go_cut [32] from 5 to 73 (fun u wx => u = .bool ((hasB h 4 && !sB)) ∧ wx.heap[w.heap.size]? = some (.cells #[.int .u8 h, .int .u8 ka, .float .f64 xa, .string sa, .int .i64 ra, .int .u8 kb, .float .f64 xb, .string sb, .int .i64 rb, .int .u8 kc, .float .f64 xc, .string sc, .int .i64 rc, .bool p, .bool q, .bool z] 27 (0, 0)) ∧ wx.heap[w.heap.size + 1]? = some (.cells #[.int .u8 h', .int .u8 kd, .float .f64 xd, .string sd, .int .i64 rd, .int .u8 kf, .float .f64 xf, .string sf, .int .i64 rf, .int .u8 kg, .float .f64 xg, .string sg, .int .i64 rg, .bool p', .bool q', .bool z'] 27 (0, 0)) ∧ Below w.heap.size w wx)
  case first =>
    rcases Bool.eq_false_or_eq_true (hasB h 4) with hs | hs
    · go_wp2_with (first | ((with_reducible refine d_load ?_ rfl rfl b1 ?_); (rfl)) | ((with_reducible refine v_load ?_ rfl rfl b1 rfl rfl rfl rfl ?_); (rfl)) | ((with_reducible refine v_load ?_ rfl rfl b2 rfl rfl rfl rfl ?_); (rfl)) | (go_at_call 26; (with_reducible refine (has_b hs _ _ _ _ _ _ _ _ _ _ _ _ _ _ _ _).mono ?_); rintro e w1 ⟨rfl, h1⟩; have b1 := vblkn h1 b1; have b2 := vblkn h1 b2; have hB0 := vb hB0 h1) | (go_at_call 18; (with_reducible refine (cB _).mono ?_); rintro e w2 ⟨rfl, h1⟩; have b1 := vblkn h1 b1; have b2 := vblkn h1 b2; have hB0 := vb hB0 h1))
      go_meet
      case rel => rw [hs]; exact ⟨rfl, b1, b2, hB0⟩
    · go_wp2_with (first | ((with_reducible refine d_load ?_ rfl rfl b1 ?_); (rfl)) | ((with_reducible refine v_load ?_ rfl rfl b1 rfl rfl rfl rfl ?_); (rfl)) | ((with_reducible refine v_load ?_ rfl rfl b2 rfl rfl rfl rfl ?_); (rfl)) | (go_at_call 26; (with_reducible refine (has_b hs _ _ _ _ _ _ _ _ _ _ _ _ _ _ _ _).mono ?_); rintro e w1 ⟨rfl, h1⟩; have b1 := vblkn h1 b1; have b2 := vblkn h1 b2; have hB0 := vb hB0 h1))
      go_meet
      case rel => rw [hs]; exact ⟨rfl, b1, b2, hB0⟩
  case rest =>
  obtain ⟨rfl, b1, b2, hB0⟩ := hcut
  rcases Bool.eq_false_or_eq_true (hasB h 4 && !sB) with t3 | t3
  · rw [t3]
    go_wp2
    go_ret
    exact ⟨dret (by unfold sameD same7; rw [T0, T1, T2, t3]; rfl), hB0⟩
  rw [t3]
  have T3 := Lib.hid t3
  clear t3
  go_upto_region 9 with (fail)
  go_cut [43] from 5 to 73 (fun u wx => u = .bool ((hasB h 8 && !sC)) ∧ wx.heap[w.heap.size]? = some (.cells #[.int .u8 h, .int .u8 ka, .float .f64 xa, .string sa, .int .i64 ra, .int .u8 kb, .float .f64 xb, .string sb, .int .i64 rb, .int .u8 kc, .float .f64 xc, .string sc, .int .i64 rc, .bool p, .bool q, .bool z] 27 (0, 0)) ∧ wx.heap[w.heap.size + 1]? = some (.cells #[.int .u8 h', .int .u8 kd, .float .f64 xd, .string sd, .int .i64 rd, .int .u8 kf, .float .f64 xf, .string sf, .int .i64 rf, .int .u8 kg, .float .f64 xg, .string sg, .int .i64 rg, .bool p', .bool q', .bool z'] 27 (0, 0)) ∧ Below w.heap.size w wx)
  case first =>
    rcases Bool.eq_false_or_eq_true (hasB h 8) with hs | hs
    · go_wp2_with (first | ((with_reducible refine d_load ?_ rfl rfl b1 ?_); (rfl)) | ((with_reducible refine v_load ?_ rfl rfl b1 rfl rfl rfl rfl ?_); (rfl)) | ((with_reducible refine v_load ?_ rfl rfl b2 rfl rfl rfl rfl ?_); (rfl)) | (go_at_call 26; (with_reducible refine (has_b hs _ _ _ _ _ _ _ _ _ _ _ _ _ _ _ _).mono ?_); rintro e w1 ⟨rfl, h1⟩; have b1 := vblkn h1 b1; have b2 := vblkn h1 b2; have hB0 := vb hB0 h1) | (go_at_call 18; (with_reducible refine (cC _).mono ?_); rintro e w2 ⟨rfl, h1⟩; have b1 := vblkn h1 b1; have b2 := vblkn h1 b2; have hB0 := vb hB0 h1))
      go_meet
      case rel => rw [hs]; exact ⟨rfl, b1, b2, hB0⟩
    · go_wp2_with (first | ((with_reducible refine d_load ?_ rfl rfl b1 ?_); (rfl)) | ((with_reducible refine v_load ?_ rfl rfl b1 rfl rfl rfl rfl ?_); (rfl)) | ((with_reducible refine v_load ?_ rfl rfl b2 rfl rfl rfl rfl ?_); (rfl)) | (go_at_call 26; (with_reducible refine (has_b hs _ _ _ _ _ _ _ _ _ _ _ _ _ _ _ _).mono ?_); rintro e w1 ⟨rfl, h1⟩; have b1 := vblkn h1 b1; have b2 := vblkn h1 b2; have hB0 := vb hB0 h1))
      go_meet
      case rel => rw [hs]; exact ⟨rfl, b1, b2, hB0⟩
  case rest =>
  obtain ⟨rfl, b1, b2, hB0⟩ := hcut
  rcases Bool.eq_false_or_eq_true (hasB h 8 && !sC) with t4 | t4
  · rw [t4]
    go_wp2
    go_ret
    exact ⟨dret (by unfold sameD same7; rw [T0, T1, T2, T3, t4]; rfl), hB0⟩
  rw [t4]
  have T4 := Lib.hid t4
  clear t4
  go_upto_region 11 with (fail)
  go_cut [54] from 5 to 73 (fun u wx => u = .bool ((hasB h 16 && (q != q'))) ∧ wx.heap[w.heap.size]? = some (.cells #[.int .u8 h, .int .u8 ka, .float .f64 xa, .string sa, .int .i64 ra, .int .u8 kb, .float .f64 xb, .string sb, .int .i64 rb, .int .u8 kc, .float .f64 xc, .string sc, .int .i64 rc, .bool p, .bool q, .bool z] 27 (0, 0)) ∧ wx.heap[w.heap.size + 1]? = some (.cells #[.int .u8 h', .int .u8 kd, .float .f64 xd, .string sd, .int .i64 rd, .int .u8 kf, .float .f64 xf, .string sf, .int .i64 rf, .int .u8 kg, .float .f64 xg, .string sg, .int .i64 rg, .bool p', .bool q', .bool z'] 27 (0, 0)) ∧ Below w.heap.size w wx)
  case first =>
    rcases Bool.eq_false_or_eq_true (hasB h 16) with hs | hs
    · go_wp2_with (first | ((with_reducible refine d_load ?_ rfl rfl b1 ?_); (rfl)) | ((with_reducible refine v_load ?_ rfl rfl b1 rfl rfl rfl rfl ?_); (rfl)) | ((with_reducible refine v_load ?_ rfl rfl b2 rfl rfl rfl rfl ?_); (rfl)) | (go_at_call 26; (with_reducible refine (has_b hs _ _ _ _ _ _ _ _ _ _ _ _ _ _ _ _).mono ?_); rintro e w1 ⟨rfl, h1⟩; have b1 := vblkn h1 b1; have b2 := vblkn h1 b2; have hB0 := vb hB0 h1; have e1 := vcells b1 14; have e2 := vcells b2 14))
      go_meet
      case rel => rw [hs]; exact ⟨rfl, b1, b2, hB0⟩
    · go_wp2_with (first | ((with_reducible refine d_load ?_ rfl rfl b1 ?_); (rfl)) | ((with_reducible refine v_load ?_ rfl rfl b1 rfl rfl rfl rfl ?_); (rfl)) | ((with_reducible refine v_load ?_ rfl rfl b2 rfl rfl rfl rfl ?_); (rfl)) | (go_at_call 26; (with_reducible refine (has_b hs _ _ _ _ _ _ _ _ _ _ _ _ _ _ _ _).mono ?_); rintro e w1 ⟨rfl, h1⟩; have b1 := vblkn h1 b1; have b2 := vblkn h1 b2; have hB0 := vb hB0 h1))
      go_meet
      case rel => rw [hs]; exact ⟨rfl, b1, b2, hB0⟩
  case rest =>
  obtain ⟨rfl, b1, b2, hB0⟩ := hcut
  rcases Bool.eq_false_or_eq_true (hasB h 16 && (q != q')) with t5 | t5
  · rw [t5]
    go_wp2
    go_ret
    exact ⟨dret (by unfold sameD same7; rw [T0, T1, T2, T3, T4, t5]; rfl), hB0⟩
  rw [t5]
  have T5 := Lib.hid t5
  clear t5
  go_upto_region 13 with (fail)
  go_cut [4] from 5 to 73 (fun u wx => u = .bool (!(hasB h 32 && (z != z'))) ∧ wx.heap[w.heap.size]? = some (.cells #[.int .u8 h, .int .u8 ka, .float .f64 xa, .string sa, .int .i64 ra, .int .u8 kb, .float .f64 xb, .string sb, .int .i64 rb, .int .u8 kc, .float .f64 xc, .string sc, .int .i64 rc, .bool p, .bool q, .bool z] 27 (0, 0)) ∧ wx.heap[w.heap.size + 1]? = some (.cells #[.int .u8 h', .int .u8 kd, .float .f64 xd, .string sd, .int .i64 rd, .int .u8 kf, .float .f64 xf, .string sf, .int .i64 rf, .int .u8 kg, .float .f64 xg, .string sg, .int .i64 rg, .bool p', .bool q', .bool z'] 27 (0, 0)) ∧ Below w.heap.size w wx)
  case first =>
    rcases Bool.eq_false_or_eq_true (hasB h 32) with hs | hs
    · go_wp2_with (first | ((with_reducible refine d_load ?_ rfl rfl b1 ?_); (rfl)) | ((with_reducible refine v_load ?_ rfl rfl b1 rfl rfl rfl rfl ?_); (rfl)) | ((with_reducible refine v_load ?_ rfl rfl b2 rfl rfl rfl rfl ?_); (rfl)) | (go_at_call 26; (with_reducible refine (has_b hs _ _ _ _ _ _ _ _ _ _ _ _ _ _ _ _).mono ?_); rintro e w1 ⟨rfl, h1⟩; have b1 := vblkn h1 b1; have b2 := vblkn h1 b2; have hB0 := vb hB0 h1; have e1 := vcells b1 15; have e2 := vcells b2 15))
      go_meet
      case rel => rw [hs]; exact ⟨by rw [Bool.true_and, bne, Bool.not_not], b1, b2, hB0⟩
    · go_wp2_with (first | ((with_reducible refine d_load ?_ rfl rfl b1 ?_); (rfl)) | ((with_reducible refine v_load ?_ rfl rfl b1 rfl rfl rfl rfl ?_); (rfl)) | ((with_reducible refine v_load ?_ rfl rfl b2 rfl rfl rfl rfl ?_); (rfl)) | (go_at_call 26; (with_reducible refine (has_b hs _ _ _ _ _ _ _ _ _ _ _ _ _ _ _ _).mono ?_); rintro e w1 ⟨rfl, h1⟩; have b1 := vblkn h1 b1; have b2 := vblkn h1 b2; have hB0 := vb hB0 h1))
      go_meet
      case rel => rw [hs]; exact ⟨rfl, b1, b2, hB0⟩
  case rest =>
  obtain ⟨rfl, b1, b2, hB0⟩ := hcut
  go_wp2
  go_ret
  exact ⟨dret (by unfold sameD same7; rw [T0, T1, T2, T3, T4, T5]; rfl), hB0⟩
end Go.Proofs.Ytkmgdaagannhkaa.S
/-
  Values in letters, their kinds whole numbers: what may be, what can stand as a Get or Set, when two are the same: contracts that hang on the letters alone.
-/
namespace Go.Proofs.Ytkmgdaagannhkaa.S
open Go.RowKit Fl

/-- a value that may come in -/
def VIn (k : Int) (x : Nat) (r : Int) : Prop := 0 ≤ k ∧ k < 256 ∧ x < 2 ^ 64 ∧ r < 2 ^ 63
/-- a value that may be -/
def VOk (k : Int) (x : Nat) (s : ByteArray) (r : Int) : Prop := ∃ v : Vl, v.ok ∧ (v.kd : Int) = k ∧ v.fl = x ∧ v.st = s ∧ v.rf = r
noncomputable def mayI (k : Int) (x : Nat) (s : ByteArray) (r : Int) : Bool := @decide (VOk k x s r) (Classical.propDecidable _)
theorem mayI_iff {k : Int} {x : Nat} {s : ByteArray} {r : Int} : mayI k x s r = true ↔ VOk k x s r := by unfold mayI; exact @decide_eq_true_iff _ (Classical.propDecidable _)
theorem may_i {ka : Int} {xa : Nat} {sa : ByteArray} {ra : Int} (h : VIn ka xa ra) (w : World) : Calls Try.prog 47 #[.agg #[.int .u8 ka, .float .f64 xa, .string sa, .int .i64 ra]] w fun e w' => e = .returned (.bool (mayI ka xa sa ra)) ∧ Below w.heap.size w w' := by
  obtain ⟨h0, h1, hx, hr⟩ := h
  obtain ⟨n, rfl⟩ := Int.eq_ofNat_of_zero_le h0
  by_cases hv : VOk (n : Int) xa sa ra
  · rw [mayI_iff.2 hv]
    obtain ⟨v, ok, hk, rfl, rfl, rfl⟩ := hv
    obtain rfl : v.kd = n := by omega
    exact May_ok ok w
  · refine (May_any n xa sa ra w hx hr).mono fun e w' ⟨b, he, hb, g⟩ => ⟨?_, hb⟩
    have hm : mayI (n : Int) xa sa ra = false := by cases hh : mayI (n : Int) xa sa ra with | false => rfl | true => exact absurd (mayI_iff.1 hh) hv
    rw [hm]
    cases b with
    | false => exact he
    | true =>
      obtain ⟨v, ok, hk, h3, h4, h5⟩ := g rfl
      exact absurd ⟨v, ok, by rw [hk], h3, h4, h5⟩ hv
/-- of a value that may stand as a Get or Set -/
def calI (k : Int) : Bool := k == 0 || (k == 7 || k == 8)
noncomputable def callsI (k : Int) (x : Nat) (s : ByteArray) (r : Int) : Bool := mayI k x s r && calI k
theorem Calls_i {ka : Int} {xa : Nat} {sa : ByteArray} {ra : Int} (h : 0 ≤ ka) (w : World) : Calls Try.prog 45 #[.agg #[.int .u8 ka, .float .f64 xa, .string sa, .int .i64 ra]] w fun e w' => e = .returned (.bool (ka == 7 || ka == 8)) ∧ Below w.heap.size w w' := by
  obtain ⟨n, rfl⟩ := Int.eq_ofNat_of_zero_le h
  have := Calls_v n xa sa ra w
  unfold calB at this
  rw [← kd_eq n 7, ← kd_eq n 8] at this
  exact this
theorem calls_i {ka : Int} {xa : Nat} {sa : ByteArray} {ra : Int} (h : VIn ka xa ra) (w : World) : Calls Try.prog 51 #[.agg #[.int .u8 ka, .float .f64 xa, .string sa, .int .i64 ra]] w fun e w' => e = .returned (.bool (callsI ka xa sa ra)) ∧ Below w.heap.size w w' := by
  have c1 := fun w => may_i (sa := sa) h w
  have c2 := fun w => Calls_i (xa := xa) (sa := sa) (ra := ra) h.1 w
  have hb := heap_alloc_new w (.cells #[.int .u8 ka, .float .f64 xa, .string sa, .int .i64 ra] 24)
  obtain ⟨q0, q1, q2, q3, _⟩ := vc4 hb
  unfold callsI calI
  rcases Bool.eq_false_or_eq_true (mayI ka xa sa ra) with hm | hm
  · rw [hm] at c1
    rcases Bool.eq_false_or_eq_true (ka == 0) with h0 | h0
    all_goals
      go_enter Try.func51, Try.ntmps51
      go_wp2_with (first
        | (go_at_call 47; (with_reducible refine (c1 _).mono ?_); rintro e w1 ⟨rfl, h1⟩; obtain ⟨q0, q1, q2, q3, _⟩ := vc4 (vblkn h1 hb); have hB := vafter h1)
        | (go_at_call 45; (with_reducible refine (c2 _).mono ?_); rintro e w2 ⟨rfl, h2⟩; have hB := vb hB h2))
      go_ret
      exact ⟨dret (by rw [hm, h0]; simp), hB⟩
  · rw [hm] at c1
    go_enter Try.func51, Try.ntmps51
    go_wp2_with (go_at_call 47; (with_reducible refine (c1 _).mono ?_); rintro e w1 ⟨rfl, h1⟩; have hB := vafter h1)
    go_ret
    exact ⟨dret (by rw [hm]; rfl), hB⟩
/-- whether two values are the same -/
def sameI (k : Int) (x : Nat) (s : ByteArray) (r : Int) (k' : Int) (x' : Nat) (s' : ByteArray) (r' : Int) : Bool := sameG k.toNat x s r k'.toNat x' s' r'
theorem same_i {ka : Int} {xa : Nat} {sa : ByteArray} {ra : Int} {kb : Int} {xb : Nat} {sb : ByteArray} {rb : Int} (h : 0 ≤ ka ∧ ka ≤ 8) (h' : 0 ≤ kb) (w : World) : Calls Try.prog 18 #[.agg #[.int .u8 ka, .float .f64 xa, .string sa, .int .i64 ra], .agg #[.int .u8 kb, .float .f64 xb, .string sb, .int .i64 rb]] w fun e w' => e = .returned (.bool (sameI ka xa sa ra kb xb sb rb)) ∧ Below w.heap.size w w' := by
  obtain ⟨n, rfl⟩ := Int.eq_ofNat_of_zero_le h.1
  obtain ⟨m, rfl⟩ := Int.eq_ofNat_of_zero_le h'
  exact Same_any n xa sa ra m xb sb rb (by omega) w
theorem same_i_refl {ka : Int} {xa : Nat} {sa : ByteArray} {ra : Int} (h : VOk ka xa sa ra) : sameI ka xa sa ra ka xa sa ra = true := by
  obtain ⟨v, ok, rfl, rfl, rfl, rfl⟩ := h
  exact sameV_refl ok
theorem vok_kind {ka : Int} {xa : Nat} {sa : ByteArray} {ra : Int} (h : VOk ka xa sa ra) : 0 ≤ ka ∧ ka ≤ 8 := by
  obtain ⟨v, ok, rfl, rfl, rfl, rfl⟩ := h
  cases v with
  | obj k r => have := ok.1; simp only [Vl.kd]; omega
  | _ => simp only [Vl.kd]; omega
theorem vok_und : VOk 0 0 ⟨#[]⟩ 0 := ⟨.und, trivial, rfl, rfl, rfl, rfl⟩
end Go.Proofs.Ytkmgdaagannhkaa.S
/-
  Two descriptors compared by ==, the second with no field but its Has.
-/
namespace Go.Proofs.Ytkmgdaagannhkaa.S
open Go.RowKit Fl

def zV (k : Int) (x : Nat) (s : ByteArray) (r : Int) : Bool := k == 0 && (feq x 0 && (s.toList.isEmpty && r == 0))
theorem eq_val (d : Nat) (ka : Int) (xa : Nat) (sa : ByteArray) (ra : Int) (w : World) : (Op.equalIn (d + 2) 24 (.agg #[.int .u8 ka, .float .f64 xa, .string sa, .int .i64 ra]) (.agg #[.int .u8 0, .float .f64 0, .string ⟨#[]⟩, .int .i64 0])).run Try.prog w = .ok (zV ka xa sa ra) w := by
  have hv := veq_float d xa 0 w
  have z3 : (⟨#[]⟩ : ByteArray).toList = [] := by rw [toList_data]
  simp only [zV]
  by_cases h1 : ka = 0 <;> cases h2 : feq xa 0 <;> by_cases h3 : sa.toList = [] <;> by_cases h4 : ra = 0 <;> (rw [h2] at hv; simp [go_sem, run_equalIn_struct, Try.underlying24, hv, z3, h1, h3, h4])
def zD (o h : Int) (va vb vc p q z : Bool) : Bool := o == h && (va && (vb && (vc && (!p && (!q && !z)))))
theorem fields_step {d : Nat} {xs ys : Array Value} {f : Field} {fs : List Field} {a b : Value} {r : Bool} {w : World} (hn : f.name ≠ "_") (ha : (part f.type xs f.offset).run Try.prog w = .ok a w) (hb : (part f.type ys f.offset).run Try.prog w = .ok b w)
    (hr : (Op.equalIn d f.type a b).run Try.prog w = .ok r w) {t : Bool} (h : (Op.eqFields d xs ys fs).run Try.prog w = .ok t w) : (Op.eqFields d xs ys (f :: fs)).run Try.prog w = .ok (r && t) w := by
  simp only [Op.eqFields, if_pos hn, Sem.run_bind, ha, hb, hr, Result.andThen_ok]
  cases r <;> simp [h]
set_option maxRecDepth 100000 in
theorem eq_desc (d : Nat) (o h : Int) (ka : Int) (xa : Nat) (sa : ByteArray) (ra : Int) (kb : Int) (xb : Nat) (sb : ByteArray) (rb : Int) (kc : Int) (xc : Nat) (sc : ByteArray) (rc : Int) (p q z : Bool) (w : World) : (Op.equalIn (d + 3) 27 (.agg #[.int .u8 o, .int .u8 ka, .float .f64 xa, .string sa, .int .i64 ra, .int .u8 kb, .float .f64 xb, .string sb, .int .i64 rb, .int .u8 kc, .float .f64 xc, .string sc, .int .i64 rc, .bool p, .bool q, .bool z]) (.agg #[.int .u8 h, .int .u8 0, .float .f64 0, .string ⟨#[]⟩, .int .i64 0, .int .u8 0, .float .f64 0, .string ⟨#[]⟩, .int .i64 0, .int .u8 0, .float .f64 0, .string ⟨#[]⟩, .int .i64 0, .bool false, .bool false, .bool false])).run Try.prog w = .ok (zD o h (zV ka xa sa ra) (zV kb xb sb rb) (zV kc xc sc rc) p q z) w := by
  rw [run_equalIn_struct _ _ _ _ _ (by kernel_rfl) (by kernel_rfl)]
  simp only [Program.fieldsOf, Try.underlying27]
  unfold zD
  refine fields_step (by decide) (a := .int .u8 o) (b := .int .u8 h) (by simp [go_sem]) (by simp [go_sem]) (by simp [go_sem]) ?_
  refine fields_step (by decide) (a := .agg #[.int .u8 ka, .float .f64 xa, .string sa, .int .i64 ra]) (b := .agg #[.int .u8 0, .float .f64 0, .string ⟨#[]⟩, .int .i64 0]) (by simp [go_sem]) (by simp [go_sem]) (eq_val d ka xa sa ra w) ?_
  refine fields_step (by decide) (a := .agg #[.int .u8 kb, .float .f64 xb, .string sb, .int .i64 rb]) (b := .agg #[.int .u8 0, .float .f64 0, .string ⟨#[]⟩, .int .i64 0]) (by simp [go_sem]) (by simp [go_sem]) (eq_val d kb xb sb rb w) ?_
  refine fields_step (by decide) (a := .agg #[.int .u8 kc, .float .f64 xc, .string sc, .int .i64 rc]) (b := .agg #[.int .u8 0, .float .f64 0, .string ⟨#[]⟩, .int .i64 0]) (by simp [go_sem]) (by simp [go_sem]) (eq_val d kc xc sc rc w) ?_
  refine fields_step (by decide) (a := .bool p) (b := .bool false) (by simp [go_sem]) (by simp [go_sem]) (by cases p <;> simp [go_sem]) ?_
  refine fields_step (by decide) (a := .bool q) (b := .bool false) (by simp [go_sem]) (by simp [go_sem]) (by cases q <;> simp [go_sem]) ?_
  have h0 : (Op.eqFields (d + 2) (#[.int .u8 o, .int .u8 ka, .float .f64 xa, .string sa, .int .i64 ra, .int .u8 kb, .float .f64 xb, .string sb, .int .i64 rb, .int .u8 kc, .float .f64 xc, .string sc, .int .i64 rc, .bool p, .bool q, .bool z]) (#[.int .u8 h, .int .u8 0, .float .f64 0, .string ⟨#[]⟩, .int .i64 0, .int .u8 0, .float .f64 0, .string ⟨#[]⟩, .int .i64 0, .int .u8 0, .float .f64 0, .string ⟨#[]⟩, .int .i64 0, .bool false, .bool false, .bool false]) []).run Try.prog w = .ok true w := by simp [Op.eqFields]
  have := fields_step (f := { name := "Configurable", type := 4, offset := 15, embedded := false, tag := "", pkgPath := "", byteOffset := 130 }) (by decide) (a := .bool z) (b := .bool false) (by simp [go_sem]) (by simp [go_sem]) (r := !z) (by cases z <;> simp [go_sem]) h0
  rw [Bool.and_true] at this
  exact this
end Go.Proofs.Ytkmgdaagannhkaa.S
/-
  Regions that draw, with loads of whole descriptors and a comparison of two: laws of one operation under what the world holds.
-/
namespace Go.Proofs.Ytkmgdaagannhkaa.S
open Go.RowKit Fl

theorem hput_some (xs : List Value) (d : List Deferred) (i : Nat) (v : Value) : Act.put ⟨xs.toArray, d⟩ (some i) v = ⟨(xs.set i v).toArray, d⟩ := by simp [Act.put]
theorem hH_take {P : Program} {ops : Array Oper} {Q : Exit → Act → World → Prop} {md : Region.Mode} {S : World → Prop} {i d : Nat} {oi : Oper} {v : Value} {fuel : Nat} {listed l2 : Array Bool} {xs : List Value} {ds : List Deferred} {w : World} (hi : ops[i]? = some oi)
    (hs : Region.noSelect ops = true) (hf : Region.free md ops listed i = true) (hr : (Region.ready md ops listed).contains i = true)
    (hQ : ∀ c a w, Q (.panic c) (a.put oi.dst v) w → Q (.panic c) a w) (hw : Region.wanted oi (yielded ops (Act.mk xs.toArray ds).tmps) = true) (hv : ∀ w, S w → (execOp (Act.mk xs.toArray ds).eval oi).run P w = .ok (.value v) w) (hS : S w) (hd : oi.dst = some d) (hl : listed.setIfInBounds i true = l2)
    (h : wpAnyH P md ops Q S fuel l2 ⟨(xs.set d v).toArray, ds⟩ w) : wpAnyH P md ops Q S (fuel + 1) listed ⟨xs.toArray, ds⟩ w :=
  wpAnyH_take hi hs hf hr hQ (Or.inl ⟨hw, hv⟩) hS (by rw [hd, hput_some, hl]; exact h)
section
variable {a : Act} {o : Oper} {w : World} {x y : Operand} {g : Nat} {t : TypeId} {c0 c1 c2 c3 c4 c5 c6 c7 c8 c9 c10 c11 c12 c13 c14 c15 : Value}
theorem ex_load (ho : o.op = .load 27 x) (hx : a.eval x = .pointer (some ⟨g, 0, none⟩)) (hg : w.heap[g]? = some (.cells #[c0, c1, c2, c3, c4, c5, c6, c7, c8, c9, c10, c11, c12, c13, c14, c15] t (0, 0))) :
    (execOp a.eval o).run Try.prog w = .ok (.value (.agg #[c0, c1, c2, c3, c4, c5, c6, c7, c8, c9, c10, c11, c12, c13, c14, c15])) w := by
  unfold execOp
  simp only [ho, hx, Instr.loadAt, Instr.sureAddr, Sem.run_bind, Sem.run_pure, Result.andThen_ok, run_loadVar_row (P := Try.prog) w g t 27 _ (0, 0) _ hg Try.underlying27 rfl dsz]
theorem ex_neq {n h : Int} {p q z : Bool} {kd : Int} {xd : Nat} {sd : ByteArray} {rd : Int} {ke : Int} {xe : Nat} {se : ByteArray} {re : Int} {kf : Int} {xf : Nat} {sf : ByteArray} {rf : Int} (ho : o.op = .binOp .neq 27 x y 27) (hx : a.eval x = .agg #[.int .u8 n, .int .u8 kd, .float .f64 xd, .string sd, .int .i64 rd, .int .u8 ke, .float .f64 xe, .string se, .int .i64 re, .int .u8 kf, .float .f64 xf, .string sf, .int .i64 rf, .bool p, .bool q, .bool z]) (hy : a.eval y = .agg #[.int .u8 h, .int .u8 0, .float .f64 0, .string ⟨#[]⟩, .int .i64 0, .int .u8 0, .float .f64 0, .string ⟨#[]⟩, .int .i64 0, .int .u8 0, .float .f64 0, .string ⟨#[]⟩, .int .i64 0, .bool false, .bool false, .bool false]) :
    (execOp a.eval o).run Try.prog w = .ok (.value (.bool (!zD n h (zV kd xd sd rd) (zV ke xe se re) (zV kf xf sf rf) p q z))) w := by
  have he := eq_desc 9997 n h kd xd sd rd ke xe se re kf xf sf rf p q z w
  unfold execOp
  simp only [ho, hx, hy, Sem.run_bind, Sem.run_pure, run_eqGuard_agg w _ _ _ _ _ _ (show Try.prog.eqGuardType Try.prog.depth 27 = false by kernel_rfl), run_neq_struct, he, Result.andThen_ok]
end
end Go.Proofs.Ytkmgdaagannhkaa.S
/-
  Descriptors: Check: the walk. Generated: gen_desccheck.py.
-/
namespace Go.Proofs.Ytkmgdaagannhkaa.S
open Go.RowKit Fl

def hiB (h : Int) : Bool := bits .andNot .u8 h 63 != 0
/-- whether a descriptor may be, from what is told of its parts: more bits than there are; data and access; the rest not zero; its Value; has Get, which can't stand; has Set, which can't stand -/
def chk6 (f0 f1 f2 f3 f4 f5 : Bool) : Bool := !f0 && !f1 && !f2 && !f3 && !f4 && !f5
def errI (b : Bool) : Int := bif b then 0 else 90
theorem errI_ret {a b : Bool} (h : a = b) : Ending.returned (.int .i64 (errI a)) = .returned (.int .i64 (errI b)) := by rw [h]
set_option maxRecDepth 1000000 in
set_option maxHeartbeats 4000000 in
theorem Check_x (h n : Int) (ka : Int) (xa : Nat) (sa : ByteArray) (ra : Int) (kb : Int) (xb : Nat) (sb : ByteArray) (rb : Int) (kc : Int) (xc : Nat) (sc : ByteArray) (rc : Int) (kd : Int) (xd : Nat) (sd : ByteArray) (rd : Int) (ke : Int) (xe : Nat) (se : ByteArray) (re : Int) (kf : Int) (xf : Nat) (sf : ByteArray) (rf : Int) (p q z p' q' z' : Bool) {mA cB cC : Bool}
    (hl : ∀ w, Calls Try.prog 50 #[.agg #[.int .u8 h, .int .u8 ka, .float .f64 xa, .string sa, .int .i64 ra, .int .u8 kb, .float .f64 xb, .string sb, .int .i64 rb, .int .u8 kc, .float .f64 xc, .string sc, .int .i64 rc, .bool p, .bool q, .bool z], .agg #[.int .u8 h, .int .u8 0, .float .f64 0, .string ⟨#[]⟩, .int .i64 0, .int .u8 0, .float .f64 0, .string ⟨#[]⟩, .int .i64 0, .int .u8 0, .float .f64 0, .string ⟨#[]⟩, .int .i64 0, .bool false, .bool false, .bool false]] w fun e w' => e = .returned (.agg #[.int .u8 n, .int .u8 kd, .float .f64 xd, .string sd, .int .i64 rd, .int .u8 ke, .float .f64 xe, .string se, .int .i64 re, .int .u8 kf, .float .f64 xf, .string sf, .int .i64 rf, .bool p', .bool q', .bool z']) ∧ Below w.heap.size w w')
    (hA : ∀ w, Calls Try.prog 47 #[.agg #[.int .u8 ka, .float .f64 xa, .string sa, .int .i64 ra]] w fun e w' => e = .returned (.bool mA) ∧ Below w.heap.size w w')
    (hB : ∀ w, Calls Try.prog 51 #[.agg #[.int .u8 kb, .float .f64 xb, .string sb, .int .i64 rb]] w fun e w' => e = .returned (.bool cB) ∧ Below w.heap.size w w')
    (hC : ∀ w, Calls Try.prog 51 #[.agg #[.int .u8 kc, .float .f64 xc, .string sc, .int .i64 rc]] w fun e w' => e = .returned (.bool cC) ∧ Below w.heap.size w w') (w : World) :
    Calls Try.prog 32 #[.agg #[.int .u8 h, .int .u8 ka, .float .f64 xa, .string sa, .int .i64 ra, .int .u8 kb, .float .f64 xb, .string sb, .int .i64 rb, .int .u8 kc, .float .f64 xc, .string sc, .int .i64 rc, .bool p, .bool q, .bool z]] w fun e w' => e = .returned (.int .i64 (errI (chk6 (hiB h) (hasB h 3 && hasB h 12) (!zD n h (zV kd xd sd rd) (zV ke xe se re) (zV kf xf sf rf) p' q' z') (!mA) (hasB h 4 && !cB) (hasB h 8 && !cC)))) ∧ Below w.heap.size w w' := by
  have hB0 : Below w.heap.size w (((w.alloc (.cells #[.int .u8 h, .int .u8 ka, .float .f64 xa, .string sa, .int .i64 ra, .int .u8 kb, .float .f64 xb, .string sb, .int .i64 rb, .int .u8 kc, .float .f64 xc, .string sc, .int .i64 rc, .bool p, .bool q, .bool z] 27)).alloc (.cells #[.int .u8 0, .int .u8 0, .float .f64 0, .string ⟨#[]⟩, .int .i64 0, .int .u8 0, .float .f64 0, .string ⟨#[]⟩, .int .i64 0, .int .u8 0, .float .f64 0, .string ⟨#[]⟩, .int .i64 0, .bool false, .bool false, .bool false] 27)).setRow (w.heap.size + 1) #[.int .u8 h, .int .u8 0, .float .f64 0, .string ⟨#[]⟩, .int .i64 0, .int .u8 0, .float .f64 0, .string ⟨#[]⟩, .int .i64 0, .int .u8 0, .float .f64 0, .string ⟨#[]⟩, .int .i64 0, .bool false, .bool false, .bool false]) := below_row (vafter (vzero _ _)) (by omega) _
  obtain ⟨a1, a2⟩ := vblk2 (w := w) (Below.refl _ ((w.alloc (.cells #[.int .u8 h, .int .u8 ka, .float .f64 xa, .string sa, .int .i64 ra, .int .u8 kb, .float .f64 xb, .string sb, .int .i64 rb, .int .u8 kc, .float .f64 xc, .string sc, .int .i64 rc, .bool p, .bool q, .bool z] 27)).alloc (.cells #[.int .u8 0, .int .u8 0, .float .f64 0, .string ⟨#[]⟩, .int .i64 0, .int .u8 0, .float .f64 0, .string ⟨#[]⟩, .int .i64 0, .int .u8 0, .float .f64 0, .string ⟨#[]⟩, .int .i64 0, .bool false, .bool false, .bool false] 27)))
  have b1 := vset_o a1 (j := w.heap.size + 1) (by omega) #[.int .u8 h, .int .u8 0, .float .f64 0, .string ⟨#[]⟩, .int .i64 0, .int .u8 0, .float .f64 0, .string ⟨#[]⟩, .int .i64 0, .int .u8 0, .float .f64 0, .string ⟨#[]⟩, .int .i64 0, .bool false, .bool false, .bool false]
  have b2 := setRow_heap _ (w.heap.size + 1) _ #[.int .u8 h, .int .u8 0, .float .f64 0, .string ⟨#[]⟩, .int .i64 0, .int .u8 0, .float .f64 0, .string ⟨#[]⟩, .int .i64 0, .int .u8 0, .float .f64 0, .string ⟨#[]⟩, .int .i64 0, .bool false, .bool false, .bool false] _ _ a2
  have e0 := vcells b1 0
  have hone : ([.int .u8 h, .int .u8 0, .float .f64 0, .string ⟨#[]⟩, .int .i64 0, .int .u8 0, .float .f64 0, .string ⟨#[]⟩, .int .i64 0, .int .u8 0, .float .f64 0, .string ⟨#[]⟩, .int .i64 0, .bool false, .bool false, .bool false] : List Value).all (·.oneCell') = true := rfl
  generalize hzd : zD n h (zV kd xd sd rd) (zV ke xe se re) (zV kf xf sf rf) p' q' z' = zd
  have HZ := Lib.hid hzd
  clear hzd
  rcases Bool.eq_false_or_eq_true (hiB h) with t0 | t0
  · have n0 : (bits .andNot .u8 h 63 != 0) = true := t0
    go_enter Try.func32, Try.ntmps32
    go_wp2_with ((with_reducible refine d_store rfl rfl rfl rfl a2 ?_ hone ?_); (rfl))
    go_ret
    exact ⟨errI_ret (a := false) (by unfold chk6; rw [t0]; rfl), hB0⟩
  have n0 : (bits .andNot .u8 h 63 != 0) = false := t0
  have T0 := Lib.hid t0
  clear t0
  go_enter Try.func32, Try.ntmps32
  go_upto_region 3 with ((with_reducible refine d_store rfl rfl rfl rfl a2 ?_ hone ?_); (rfl))
  go_cut [7] from 4 to 44 (fun u wx => u = .bool (hasB h 3 && hasB h 12) ∧ wx.heap[w.heap.size]? = some (.cells #[.int .u8 h, .int .u8 ka, .float .f64 xa, .string sa, .int .i64 ra, .int .u8 kb, .float .f64 xb, .string sb, .int .i64 rb, .int .u8 kc, .float .f64 xc, .string sc, .int .i64 rc, .bool p, .bool q, .bool z] 27 (0, 0)) ∧ wx.heap[w.heap.size + 1]? = some (.cells #[.int .u8 h, .int .u8 0, .float .f64 0, .string ⟨#[]⟩, .int .i64 0, .int .u8 0, .float .f64 0, .string ⟨#[]⟩, .int .i64 0, .int .u8 0, .float .f64 0, .string ⟨#[]⟩, .int .i64 0, .bool false, .bool false, .bool false] 27 (0, 0)) ∧ Below w.heap.size w wx)
  case first =>
    have id := fun w => IsData_c h ka xa sa ra kb xb sb rb kc xc sc rc p q z w
    have ia := fun w => IsAccess_c h ka xa sa ra kb xb sb rb kc xc sc rc p q z w
    rcases Bool.eq_false_or_eq_true (hasB h 3) with hs | hs
    all_goals
      rw [hs] at id
      go_wp2_with (first | ((with_reducible refine d_load ?_ rfl rfl b1 ?_); (rfl)) | ((with_reducible refine v_load ?_ rfl rfl b1 rfl rfl rfl rfl ?_); (rfl)) | (go_at_call 20; (with_reducible refine (id _).mono ?_); rintro e w1 ⟨rfl, h1⟩; have b1 := vblkn h1 b1; have b2 := vblkn h1 b2; have hB0 := vb hB0 h1) | (go_at_call 49; (with_reducible refine (ia _).mono ?_); rintro e w1 ⟨rfl, h1⟩; have b1 := vblkn h1 b1; have b2 := vblkn h1 b2; have hB0 := vb hB0 h1))
      go_meet
      case rel => rw [hs]; exact ⟨rfl, b1, b2, hB0⟩
  case rest =>
  obtain ⟨rfl, b1, b2, hB0⟩ := hcut
  rcases Bool.eq_false_or_eq_true (hasB h 3 && hasB h 12) with t1 | t1
  · rw [t1]
    go_wp2
    go_ret
    exact ⟨errI_ret (a := false) (by unfold chk6; rw [T0, t1]; rfl), hB0⟩
  rw [t1]
  have T1 := Lib.hid t1
  clear t1
  go_upto_region 5 with (fail)
  go_cut [18] from 4 to 44 (fun u wx => u = .bool (!zd) ∧ wx.heap[w.heap.size]? = some (.cells #[.int .u8 h, .int .u8 ka, .float .f64 xa, .string sa, .int .i64 ra, .int .u8 kb, .float .f64 xb, .string sb, .int .i64 rb, .int .u8 kc, .float .f64 xc, .string sc, .int .i64 rc, .bool p, .bool q, .bool z] 27 (0, 0)) ∧ wx.heap[w.heap.size + 1]? = some (.cells #[.int .u8 h, .int .u8 0, .float .f64 0, .string ⟨#[]⟩, .int .i64 0, .int .u8 0, .float .f64 0, .string ⟨#[]⟩, .int .i64 0, .int .u8 0, .float .f64 0, .string ⟨#[]⟩, .int .i64 0, .bool false, .bool false, .bool false] 27 (0, 0)) ∧ Below w.heap.size w wx)
  case first =>
    have hS : (fun wx => wx.heap[w.heap.size]? = some (.cells #[.int .u8 h, .int .u8 ka, .float .f64 xa, .string sa, .int .i64 ra, .int .u8 kb, .float .f64 xb, .string sb, .int .i64 rb, .int .u8 kc, .float .f64 xc, .string sc, .int .i64 rc, .bool p, .bool q, .bool z] 27 (0, 0)) ∧ wx.heap[w.heap.size + 1]? = some (.cells #[.int .u8 h, .int .u8 0, .float .f64 0, .string ⟨#[]⟩, .int .i64 0, .int .u8 0, .float .f64 0, .string ⟨#[]⟩, .int .i64 0, .int .u8 0, .float .f64 0, .string ⟨#[]⟩, .int .i64 0, .bool false, .bool false, .bool false] 27 (0, 0)) ∧ Below w.heap.size w wx) wc.drew := ⟨b1, b2, hB0.drew⟩
    refine wp_region_held_drew (S := fun wx => wx.heap[w.heap.size]? = some (.cells #[.int .u8 h, .int .u8 ka, .float .f64 xa, .string sa, .int .i64 ra, .int .u8 kb, .float .f64 xb, .string sb, .int .i64 rb, .int .u8 kc, .float .f64 xc, .string sc, .int .i64 rc, .bool p, .bool q, .bool z] 27 (0, 0)) ∧ wx.heap[w.heap.size + 1]? = some (.cells #[.int .u8 h, .int .u8 0, .float .f64 0, .string ⟨#[]⟩, .int .i64 0, .int .u8 0, .float .f64 0, .string ⟨#[]⟩, .int .i64 0, .int .u8 0, .float .f64 0, .string ⟨#[]⟩, .int .i64 0, .bool false, .bool false, .bool false] 27 (0, 0)) ∧ Below w.heap.size w wx) (by kernel_rfl) hS (fun hHeld => ?_)
    refine hH_take (i := 0) (v := .agg #[.int .u8 h, .int .u8 ka, .float .f64 xa, .string sa, .int .i64 ra, .int .u8 kb, .float .f64 xb, .string sb, .int .i64 rb, .int .u8 kc, .float .f64 xc, .string sc, .int .i64 rc, .bool p, .bool q, .bool z]) (d := 19) (l2 := #[true, false, false, false, false, false]) rfl (by kernel_rfl) (by kernel_rfl) (by kernel_rfl) (fun _ _ _ h => h) (by kernel_rfl) (fun w hSw => ?_) (by assumption) rfl (by kernel_rfl) ?_
    · exact ex_load rfl rfl hSw.1
    simp only [List.set]
    refine hH_take (i := 1) (v := .agg #[.int .u8 h, .int .u8 0, .float .f64 0, .string ⟨#[]⟩, .int .i64 0, .int .u8 0, .float .f64 0, .string ⟨#[]⟩, .int .i64 0, .int .u8 0, .float .f64 0, .string ⟨#[]⟩, .int .i64 0, .bool false, .bool false, .bool false]) (d := 20) (l2 := #[true, true, false, false, false, false]) rfl (by kernel_rfl) (by kernel_rfl) (by kernel_rfl) (fun _ _ _ h => h) (by kernel_rfl) (fun w hSw => ?_) (by assumption) rfl (by kernel_rfl) ?_
    · exact ex_load rfl rfl hSw.2.1
    simp only [List.set]
    refine hH_take (i := 3) (v := .agg #[.int .u8 h, .int .u8 0, .float .f64 0, .string ⟨#[]⟩, .int .i64 0, .int .u8 0, .float .f64 0, .string ⟨#[]⟩, .int .i64 0, .int .u8 0, .float .f64 0, .string ⟨#[]⟩, .int .i64 0, .bool false, .bool false, .bool false]) (d := 22) (l2 := #[true, true, false, true, false, false]) rfl (by kernel_rfl) (by kernel_rfl) (by kernel_rfl) (fun _ _ _ h => h) (by kernel_rfl) (fun w hSw => ?_) (by assumption) rfl (by kernel_rfl) ?_
    · exact ex_load rfl rfl hSw.2.1
    simp only [List.set]
    refine wpAnyH_ready (rs := [2]) (by kernel_rfl) (by simp) ?_
    refine AllReadyH.cons rfl (fun K hK => ?_) AllReadyH.nil
    go_simp
    (go_at_call 50; (with_reducible refine (hl _).mono ?_); rintro e w1 ⟨rfl, h1⟩; obtain ⟨b1, b2, hB0⟩ := hS; have hS : (fun wx => wx.heap[w.heap.size]? = some (.cells #[.int .u8 h, .int .u8 ka, .float .f64 xa, .string sa, .int .i64 ra, .int .u8 kb, .float .f64 xb, .string sb, .int .i64 rb, .int .u8 kc, .float .f64 xc, .string sc, .int .i64 rc, .bool p, .bool q, .bool z] 27 (0, 0)) ∧ wx.heap[w.heap.size + 1]? = some (.cells #[.int .u8 h, .int .u8 0, .float .f64 0, .string ⟨#[]⟩, .int .i64 0, .int .u8 0, .float .f64 0, .string ⟨#[]⟩, .int .i64 0, .int .u8 0, .float .f64 0, .string ⟨#[]⟩, .int .i64 0, .bool false, .bool false, .bool false] 27 (0, 0)) ∧ Below w.heap.size w wx) w1 := ⟨vblkn h1 b1, vblkn h1 b2, vb hB0 h1⟩)
    refine hK.out _ _ hS (fun hHeld => ?_)
    clear hK K
    refine hH_take (i := 4) (v := .bool (!zd)) (d := 23) (l2 := #[true, true, true, true, true, false]) rfl (by kernel_rfl) (by kernel_rfl) (by kernel_rfl) (fun _ _ _ h => h) (by kernel_rfl) (fun w hSw => ?_) (by assumption) rfl (by kernel_rfl) ?_
    · refine (ex_neq rfl rfl rfl).trans ?_; rw [HZ.out]
    simp only [List.set]
    refine hH_take (i := 5) (v := .bool (!zd)) (d := 18) (l2 := #[true, true, true, true, true, true]) rfl (by kernel_rfl) (by kernel_rfl) (by kernel_rfl) (fun _ _ _ h => h) (by kernel_rfl) (fun w hSw => ?_) (by assumption) rfl (by kernel_rfl) ?_
    · go_simp
    simp only [List.set]
    refine wpAnyH_done (by kernel_rfl) ?_ _
    go_wp2_with (fail)
    go_meet
    case rel => exact ⟨rfl, hS⟩
  case rest =>
  obtain ⟨rfl, b1, b2, hB0⟩ := hcut
  rcases Bool.eq_false_or_eq_true (!zd) with t2 | t2
  · rw [t2]
    go_wp2
    go_ret
    exact ⟨errI_ret (a := false) (by unfold chk6; rw [T0, T1, t2]; rfl), hB0⟩
  rw [t2]
  have T2 := Lib.hid t2
  clear t2
  go_upto_region 7 with (fail)
  go_cut [24] from 4 to 44 (fun u wx => u = .bool (!mA) ∧ wx.heap[w.heap.size]? = some (.cells #[.int .u8 h, .int .u8 ka, .float .f64 xa, .string sa, .int .i64 ra, .int .u8 kb, .float .f64 xb, .string sb, .int .i64 rb, .int .u8 kc, .float .f64 xc, .string sc, .int .i64 rc, .bool p, .bool q, .bool z] 27 (0, 0)) ∧ wx.heap[w.heap.size + 1]? = some (.cells #[.int .u8 h, .int .u8 0, .float .f64 0, .string ⟨#[]⟩, .int .i64 0, .int .u8 0, .float .f64 0, .string ⟨#[]⟩, .int .i64 0, .int .u8 0, .float .f64 0, .string ⟨#[]⟩, .int .i64 0, .bool false, .bool false, .bool false] 27 (0, 0)) ∧ Below w.heap.size w wx)
  case first =>
    go_wp2_with (first | ((with_reducible refine d_load ?_ rfl rfl b1 ?_); (rfl)) | ((with_reducible refine v_load ?_ rfl rfl b1 rfl rfl rfl rfl ?_); (rfl)) | (go_at_call 47; (with_reducible refine (hA _).mono ?_); rintro e w1 ⟨rfl, h1⟩; have b1 := vblkn h1 b1; have b2 := vblkn h1 b2; have hB0 := vb hB0 h1))
    go_meet
    case rel => exact ⟨rfl, b1, b2, hB0⟩
  case rest =>
  obtain ⟨rfl, b1, b2, hB0⟩ := hcut
  rcases Bool.eq_false_or_eq_true (!mA) with t3 | t3
  · rw [t3]
    go_wp2
    go_ret
    exact ⟨errI_ret (a := false) (by unfold chk6; rw [T0, T1, T2, t3]; rfl), hB0⟩
  rw [t3]
  have T3 := Lib.hid t3
  clear t3
  go_upto_region 8 with (fail)
  go_cut [24] from 4 to 44 (fun u wx => u = .bool (hasB h 4 && !cB) ∧ wx.heap[w.heap.size]? = some (.cells #[.int .u8 h, .int .u8 ka, .float .f64 xa, .string sa, .int .i64 ra, .int .u8 kb, .float .f64 xb, .string sb, .int .i64 rb, .int .u8 kc, .float .f64 xc, .string sc, .int .i64 rc, .bool p, .bool q, .bool z] 27 (0, 0)) ∧ wx.heap[w.heap.size + 1]? = some (.cells #[.int .u8 h, .int .u8 0, .float .f64 0, .string ⟨#[]⟩, .int .i64 0, .int .u8 0, .float .f64 0, .string ⟨#[]⟩, .int .i64 0, .int .u8 0, .float .f64 0, .string ⟨#[]⟩, .int .i64 0, .bool false, .bool false, .bool false] 27 (0, 0)) ∧ Below w.heap.size w wx)
  case first =>
    rcases Bool.eq_false_or_eq_true (hasB h 4) with hs | hs
    all_goals
      go_wp2_with (first | ((with_reducible refine d_load ?_ rfl rfl b1 ?_); (rfl)) | ((with_reducible refine v_load ?_ rfl rfl b1 rfl rfl rfl rfl ?_); (rfl)) | (go_at_call 26; (with_reducible refine (has_b hs _ _ _ _ _ _ _ _ _ _ _ _ _ _ _ _).mono ?_); rintro e w1 ⟨rfl, h1⟩; have b1 := vblkn h1 b1; have b2 := vblkn h1 b2; have hB0 := vb hB0 h1) | (go_at_call 51; (with_reducible refine (hB _).mono ?_); rintro e w1 ⟨rfl, h1⟩; have b1 := vblkn h1 b1; have b2 := vblkn h1 b2; have hB0 := vb hB0 h1))
      go_meet
      case rel => rw [hs]; exact ⟨rfl, b1, b2, hB0⟩
  case rest =>
  obtain ⟨rfl, b1, b2, hB0⟩ := hcut
  rcases Bool.eq_false_or_eq_true (hasB h 4 && !cB) with t4 | t4
  · rw [t4]
    go_wp2
    go_ret
    exact ⟨errI_ret (a := false) (by unfold chk6; rw [T0, T1, T2, T3, t4]; rfl), hB0⟩
  rw [t4]
  have T4 := Lib.hid t4
  clear t4
  go_upto_region 9 with (fail)
  go_cut [24] from 4 to 44 (fun u wx => u = .bool (hasB h 8 && !cC) ∧ wx.heap[w.heap.size]? = some (.cells #[.int .u8 h, .int .u8 ka, .float .f64 xa, .string sa, .int .i64 ra, .int .u8 kb, .float .f64 xb, .string sb, .int .i64 rb, .int .u8 kc, .float .f64 xc, .string sc, .int .i64 rc, .bool p, .bool q, .bool z] 27 (0, 0)) ∧ wx.heap[w.heap.size + 1]? = some (.cells #[.int .u8 h, .int .u8 0, .float .f64 0, .string ⟨#[]⟩, .int .i64 0, .int .u8 0, .float .f64 0, .string ⟨#[]⟩, .int .i64 0, .int .u8 0, .float .f64 0, .string ⟨#[]⟩, .int .i64 0, .bool false, .bool false, .bool false] 27 (0, 0)) ∧ Below w.heap.size w wx)
  case first =>
    rcases Bool.eq_false_or_eq_true (hasB h 8) with hs | hs
    all_goals
      go_wp2_with (first | ((with_reducible refine d_load ?_ rfl rfl b1 ?_); (rfl)) | ((with_reducible refine v_load ?_ rfl rfl b1 rfl rfl rfl rfl ?_); (rfl)) | (go_at_call 26; (with_reducible refine (has_b hs _ _ _ _ _ _ _ _ _ _ _ _ _ _ _ _).mono ?_); rintro e w1 ⟨rfl, h1⟩; have b1 := vblkn h1 b1; have b2 := vblkn h1 b2; have hB0 := vb hB0 h1) | (go_at_call 51; (with_reducible refine (hC _).mono ?_); rintro e w1 ⟨rfl, h1⟩; have b1 := vblkn h1 b1; have b2 := vblkn h1 b2; have hB0 := vb hB0 h1))
      go_meet
      case rel => rw [hs]; exact ⟨rfl, b1, b2, hB0⟩
  case rest =>
  obtain ⟨rfl, b1, b2, hB0⟩ := hcut
  rcases Bool.eq_false_or_eq_true (hasB h 8 && !cC) with t5 | t5
  · rw [t5]
    go_wp2
    go_ret
    exact ⟨errI_ret (a := false) (by unfold chk6; rw [T0, T1, T2, T3, T4, t5]; rfl), hB0⟩
  rw [t5]
  have T5 := Lib.hid t5
  clear t5
  go_wp2
  go_ret
  exact ⟨errI_ret (a := true) (by unfold chk6; rw [T0, T1, T2, T3, T4, T5]; rfl), hB0⟩
end Go.Proofs.Ytkmgdaagannhkaa.S
/-
  Descriptors as a structure, and what the package's functions make of them: plain functions.
-/
namespace Go.Proofs.Ytkmgdaagannhkaa.S
open Go.RowKit Fl

structure Vq where
  k : Int
  x : Nat
  s : ByteArray
  r : Int
structure Dq where
  h : Int
  a : Vq
  b : Vq
  c : Vq
  p : Bool
  q : Bool
  z : Bool
def v0 : Vq := ⟨0, 0, ⟨#[]⟩, 0⟩
def Vq.val (v : Vq) : Value := .agg #[.int .u8 v.k, .float .f64 v.x, .string v.s, .int .i64 v.r]
def Dq.cells (d : Dq) : Array Value := #[.int .u8 d.h, .int .u8 d.a.k, .float .f64 d.a.x, .string d.a.s, .int .i64 d.a.r, .int .u8 d.b.k, .float .f64 d.b.x, .string d.b.s, .int .i64 d.b.r, .int .u8 d.c.k, .float .f64 d.c.x, .string d.c.s, .int .i64 d.c.r, .bool d.p, .bool d.q, .bool d.z]
def Dq.val (d : Dq) : Value := .agg d.cells
def dz (h : Int) : Dq := ⟨h, v0, v0, v0, false, false, false⟩
def layQ (u d : Dq) : Dq := ⟨bits .or .u8 u.h d.h, bif hasB d.h 1 then d.a else u.a, bif hasB d.h 4 then d.b else u.b, bif hasB d.h 8 then d.c else u.c, bif hasB d.h 2 then d.p else u.p, bif hasB d.h 16 then d.q else u.q, bif hasB d.h 32 then d.z else u.z⟩
theorem lay_q (u d : Dq) (w : World) : Calls Try.prog 50 #[u.val, d.val] w fun e w' => e = .returned (layQ u d).val ∧ Below w.heap.size w w' := by
  refine (lay_c u.h d.h u.a.k u.a.x u.a.s u.a.r u.b.k u.b.x u.b.s u.b.r u.c.k u.c.x u.c.s u.c.r d.a.k d.a.x d.a.s d.a.r d.b.k d.b.x d.b.s d.b.r d.c.k d.c.x d.c.s d.c.r u.p u.q u.z d.p d.q d.z w).mono fun e w' ⟨he, hb⟩ => ⟨he.trans ?_, hb⟩
  unfold Dq.val Dq.cells layQ
  dsimp only [layC]
  cases hasB d.h 1 <;> cases hasB d.h 2 <;> cases hasB d.h 4 <;> cases hasB d.h 8 <;> cases hasB d.h 16 <;> cases hasB d.h 32 <;> rfl
def Vq.In (v : Vq) : Prop := VIn v.k v.x v.r
def Vq.Ok (v : Vq) : Prop := VOk v.k v.x v.s v.r
noncomputable def Vq.may (v : Vq) : Bool := mayI v.k v.x v.s v.r
noncomputable def Vq.calls (v : Vq) : Bool := callsI v.k v.x v.s v.r
def Vq.z (v : Vq) : Bool := zV v.k v.x v.s v.r
def sameQ (a b : Vq) : Bool := sameI a.k a.x a.s a.r b.k b.x b.s b.r
noncomputable def chkQ (d : Dq) : Bool :=
  chk6 (hiB d.h) (hasB d.h 3 && hasB d.h 12) (!zD (layQ d (dz d.h)).h d.h (layQ d (dz d.h)).a.z (layQ d (dz d.h)).b.z (layQ d (dz d.h)).c.z (layQ d (dz d.h)).p (layQ d (dz d.h)).q (layQ d (dz d.h)).z) (!d.a.may) (hasB d.h 4 && !d.b.calls) (hasB d.h 8 && !d.c.calls)
structure Dq.In (d : Dq) : Prop where
  h0 : 0 ≤ d.h
  h1 : d.h < 256
  a : d.a.In
  b : d.b.In
  c : d.c.In
theorem Check_q {d : Dq} (hd : d.In) (w : World) : Calls Try.prog 32 #[d.val] w fun e w' => e = .returned (.int .i64 (errI (chkQ d))) ∧ Below w.heap.size w w' :=
  Check_x d.h (layQ d (dz d.h)).h d.a.k d.a.x d.a.s d.a.r d.b.k d.b.x d.b.s d.b.r d.c.k d.c.x d.c.s d.c.r (layQ d (dz d.h)).a.k (layQ d (dz d.h)).a.x (layQ d (dz d.h)).a.s (layQ d (dz d.h)).a.r (layQ d (dz d.h)).b.k (layQ d (dz d.h)).b.x (layQ d (dz d.h)).b.s (layQ d (dz d.h)).b.r (layQ d (dz d.h)).c.k (layQ d (dz d.h)).c.x (layQ d (dz d.h)).c.s (layQ d (dz d.h)).c.r d.p d.q d.z (layQ d (dz d.h)).p (layQ d (dz d.h)).q (layQ d (dz d.h)).z
    (fun w => lay_q d (dz d.h) w) (fun w => may_i hd.a w) (fun w => calls_i hd.b w) (fun w => calls_i hd.c w) w
theorem Same_q {a b : Dq} (ha : (0 ≤ a.a.k ∧ a.a.k ≤ 8) ∧ (0 ≤ a.b.k ∧ a.b.k ≤ 8) ∧ (0 ≤ a.c.k ∧ a.c.k ≤ 8)) (hb : 0 ≤ b.a.k ∧ 0 ≤ b.b.k ∧ 0 ≤ b.c.k) (w : World) :
    Calls Try.prog 19 #[a.val, b.val] w fun e w' => e = .returned (.bool (sameD a.h b.h (sameQ a.a b.a) (sameQ a.b b.b) (sameQ a.c b.c) a.p b.p a.q b.q a.z b.z)) ∧ Below w.heap.size w w' :=
  Same_d a.h b.h a.a.k a.a.x a.a.s a.a.r a.b.k a.b.x a.b.s a.b.r a.c.k a.c.x a.c.s a.c.r b.a.k b.a.x b.a.s b.a.r b.b.k b.b.x b.b.s b.b.r b.c.k b.c.x b.c.s b.c.r a.p a.q a.z b.p b.q b.z
    (fun w => same_i ha.1 hb.1 w) (fun w => same_i ha.2.1 hb.2.1 w) (fun w => same_i ha.2.2 hb.2.2 w) w
theorem IsData_q (d : Dq) (w : World) : Calls Try.prog 20 #[d.val] w fun e w' => e = .returned (.bool (hasB d.h 3)) ∧ Below w.heap.size w w' := IsData_c d.h d.a.k d.a.x d.a.s d.a.r d.b.k d.b.x d.b.s d.b.r d.c.k d.c.x d.c.s d.c.r d.p d.q d.z w
theorem IsAccess_q (d : Dq) (w : World) : Calls Try.prog 49 #[d.val] w fun e w' => e = .returned (.bool (hasB d.h 12)) ∧ Below w.heap.size w w' := IsAccess_c d.h d.a.k d.a.x d.a.s d.a.r d.b.k d.b.x d.b.s d.b.r d.c.k d.c.x d.c.s d.c.r d.p d.q d.z w

def completeQ (d : Dq) : Dq := bif hasB d.h 12 then layQ (dz 60) d else layQ (dz 51) d
def becomeQ (d now : Dq) : Dq := completeQ (layQ { now with h := bif hasB d.h 3 then bits .andNot .u8 now.h 12 else bif hasB d.h 12 then bits .andNot .u8 now.h 3 else now.h } d)
noncomputable def wholeQ (d : Dq) : Bool := chkQ d && (d.h == 51 || d.h == 60)
/-- d's Has, as it is held against now's -/
def heldH (d now : Dq) : Int := bif now.p then bits .andNot .u8 d.h 3 else d.h
def changesQ (d now : Dq) : Bool :=
  now.z || (!(hasB d.h 3 && hasB now.h 12) && (!(hasB d.h 12 && hasB now.h 3) &&
    sameD (heldH d now) (bits .and .u8 now.h (heldH d now)) (sameQ d.a now.a) (sameQ d.b now.b) (sameQ d.c now.c) d.p now.p d.q now.q d.z now.z))
noncomputable def compatQ (ext : Bool) (d : Dq) (found : Bool) (now : Dq) : Bool × Int :=
  bif !chkQ d || (found && !wholeQ now) then (false, 90) else bif !found then (ext, 0) else (changesQ d now, 0)
noncomputable def applyQ (ext : Bool) (d : Dq) (found : Bool) (now : Dq) : Dq :=
  bif !(compatQ ext d found now).1 then dz 0 else bif !found then completeQ d else becomeQ d now
end Go.Proofs.Ytkmgdaagannhkaa.S
/-
  Descriptors that may be; what a property becomes: the mathematics.
-/
namespace Go.Proofs.Ytkmgdaagannhkaa.S
open Go.RowKit Fl

def allH : List Int := [0, 1, 2, 3, 4, 8, 12, 16, 17, 18, 19, 20, 24, 28, 32, 33, 34, 35, 36, 40, 44, 48, 49, 50, 51, 52, 56, 60]
theorem allH_nat : ∀ n : Fin 256, hiB ((n : Nat) : Int) = false → (hasB ((n : Nat) : Int) 3 && hasB ((n : Nat) : Int) 12) = false → ((n : Nat) : Int) ∈ allH := by decide +kernel
theorem allH_of {h : Int} (h0 : 0 ≤ h) (h1 : h < 256) (a : hiB h = false) (b : (hasB h 3 && hasB h 12) = false) : h ∈ allH := by
  obtain ⟨n, rfl⟩ := Int.eq_ofNat_of_zero_le h0
  exact allH_nat ⟨n, by omega⟩ a b
theorem allH_bits : ∀ h ∈ allH, hiB h = false ∧ (hasB h 3 && hasB h 12) = false ∧ bits .or .u8 h h = h ∧ hasB h 3 = (hasB h 1 || hasB h 2) ∧ hasB h 12 = (hasB h 4 || hasB h 8) ∧ bits .and .u8 h h = h := by decide +kernel
structure Good (d : Dq) : Prop where
  mem : d.h ∈ allH
  a : d.a.Ok
  na : hasB d.h 1 = false → d.a.z = true
  b : hasB d.h 4 = true → d.b.Ok ∧ calI d.b.k = true
  nb : hasB d.h 4 = false → d.b.z = true
  c : hasB d.h 8 = true → d.c.Ok ∧ calI d.c.k = true
  nc : hasB d.h 8 = false → d.c.z = true
  np : hasB d.h 2 = false → d.p = false
  nq : hasB d.h 16 = false → d.q = false
  nz : hasB d.h 32 = false → d.z = false
theorem v0_z : v0.z = true := by
  have z3 : (⟨#[]⟩ : ByteArray).toList = [] := by rw [toList_data]
  unfold v0 Vq.z zV
  dsimp only
  rw [z3, show feq 0 0 = true from by decide]
  rfl
theorem v0_ok : v0.Ok := vok_und
theorem calls_iff {v : Vq} : v.calls = true ↔ v.Ok ∧ calI v.k = true := by
  unfold Vq.calls callsI Vq.Ok
  rw [Bool.and_eq_true, mayI_iff]
theorem good_of {d : Dq} (hd : d.In) (h : chkQ d = true) : Good d := by
  unfold chkQ chk6 zD layQ dz at h
  dsimp only at h
  simp only [Bool.and_eq_true, Bool.not_eq_true', Bool.not_eq_false'] at h
  obtain ⟨⟨⟨⟨⟨h0, h1⟩, _, h3, h4, h5, h6, h7, h8⟩, hm⟩, hb⟩, hc⟩ := h
  refine ⟨allH_of hd.h0 hd.h1 h0 h1, mayI_iff.1 hm, ?_, ?_, ?_, ?_, ?_, ?_, ?_, ?_⟩
  · intro e; rw [e] at h3; exact h3
  · intro e; rw [e] at hb; simpa [calls_iff] using hb
  · intro e; rw [e] at h4; exact h4
  · intro e; rw [e] at hc; simpa [calls_iff] using hc
  · intro e; rw [e] at h5; exact h5
  · intro e; rw [e] at h6; exact h6
  · intro e; rw [e] at h7; exact h7
  · intro e; rw [e] at h8; exact h8
theorem chk_of {d : Dq} (g : Good d) : chkQ d = true := by
  obtain ⟨b0, b1, b2, _⟩ := allH_bits _ g.mem
  have ea : (bif hasB d.h 1 then v0 else d.a).z = true := by cases e : hasB d.h 1 with | false => exact g.na e | true => exact v0_z
  have eb : (bif hasB d.h 4 then v0 else d.b).z = true := by cases e : hasB d.h 4 with | false => exact g.nb e | true => exact v0_z
  have ec : (bif hasB d.h 8 then v0 else d.c).z = true := by cases e : hasB d.h 8 with | false => exact g.nc e | true => exact v0_z
  have ep : (bif hasB d.h 2 then false else d.p) = false := by cases e : hasB d.h 2 with | false => exact g.np e | true => rfl
  have eq : (bif hasB d.h 16 then false else d.q) = false := by cases e : hasB d.h 16 with | false => exact g.nq e | true => rfl
  have ez : (bif hasB d.h 32 then false else d.z) = false := by cases e : hasB d.h 32 with | false => exact g.nz e | true => rfl
  have em : d.a.may = true := mayI_iff.2 g.a
  have e4 : (hasB d.h 4 && !d.b.calls) = false := by cases e : hasB d.h 4 with | false => rfl | true => rw [calls_iff.2 (g.b e)]; rfl
  have e8 : (hasB d.h 8 && !d.c.calls) = false := by cases e : hasB d.h 8 with | false => rfl | true => rw [calls_iff.2 (g.c e)]; rfl
  unfold chkQ chk6 zD layQ dz
  dsimp only
  rw [b0, b1, b2, ea, eb, ec, ep, eq, ez, em, e4, e8, beq_self_eq_true]
  rfl
theorem z_kind {v : Vq} (h : v.z = true) : v.k = 0 := by
  unfold Vq.z zV at h
  rw [Bool.and_eq_true] at h
  exact eq_of_beq h.1
theorem good_kinds {d : Dq} (g : Good d) : (0 ≤ d.a.k ∧ d.a.k ≤ 8) ∧ (0 ≤ d.b.k ∧ d.b.k ≤ 8) ∧ (0 ≤ d.c.k ∧ d.c.k ≤ 8) := by
  refine ⟨vok_kind g.a, ?_, ?_⟩
  · cases e : hasB d.h 4 with
    | true => exact vok_kind (g.b e).1
    | false => rw [z_kind (g.nb e)]; omega
  · cases e : hasB d.h 8 with
    | true => exact vok_kind (g.c e).1
    | false => rw [z_kind (g.nc e)]; omega
theorem whole_iff {d : Dq} (hd : d.In) : wholeQ d = true ↔ Good d ∧ (d.h = 51 ∨ d.h = 60) := by
  unfold wholeQ
  rw [Bool.and_eq_true, Bool.or_eq_true, beq_iff_eq, beq_iff_eq]
  exact ⟨fun ⟨a, b⟩ => ⟨good_of hd a, b⟩, fun ⟨a, b⟩ => ⟨chk_of a, b⟩⟩

/-- what it becomes, where there is none -/
theorem complete_eq {d : Dq} (g : d.h ∈ allH) : completeQ d = ⟨bif hasB d.h 12 then 60 else 51, bif hasB d.h 1 then d.a else v0, bif hasB d.h 4 then d.b else v0, bif hasB d.h 8 then d.c else v0, bif hasB d.h 2 then d.p else false, bif hasB d.h 16 then d.q else false, bif hasB d.h 32 then d.z else false⟩ := by
  obtain ⟨h, a, b, c, p, q, z⟩ := d
  dsimp only at g ⊢
  simp only [allH, List.mem_cons, List.not_mem_nil, or_false] at g
  rcases g with rfl | rfl | rfl | rfl | rfl | rfl | rfl | rfl | rfl | rfl | rfl | rfl | rfl | rfl | rfl | rfl | rfl | rfl | rfl | rfl | rfl | rfl | rfl | rfl | rfl | rfl | rfl | rfl <;> kernel_rfl
/-- what it becomes, where there is one -/
theorem become_eq {d now : Dq} (g : d.h ∈ allH) (hn : now.h = 51 ∨ now.h = 60) : becomeQ d now = ⟨bif hasB d.h 3 then 51 else bif hasB d.h 12 then 60 else now.h,
    bif hasB d.h 1 then d.a else bif !hasB d.h 12 && now.h == 51 then now.a else v0, bif hasB d.h 4 then d.b else bif !hasB d.h 3 && now.h == 60 then now.b else v0, bif hasB d.h 8 then d.c else bif !hasB d.h 3 && now.h == 60 then now.c else v0,
    bif hasB d.h 2 then d.p else bif !hasB d.h 12 && now.h == 51 then now.p else false, bif hasB d.h 16 then d.q else now.q, bif hasB d.h 32 then d.z else now.z⟩ := by
  obtain ⟨h, a, b, c, p, q, z⟩ := d
  obtain ⟨m, a', b', c', p', q', z'⟩ := now
  dsimp only at g hn ⊢
  simp only [allH, List.mem_cons, List.not_mem_nil, or_false] at g
  rcases hn with rfl | rfl <;>
  rcases g with rfl | rfl | rfl | rfl | rfl | rfl | rfl | rfl | rfl | rfl | rfl | rfl | rfl | rfl | rfl | rfl | rfl | rfl | rfl | rfl | rfl | rfl | rfl | rfl | rfl | rfl | rfl | rfl <;> kernel_rfl
end Go.Proofs.Ytkmgdaagannhkaa.S
