/-
  Descriptors: changes: the walk; and Compatible, Apply, Complete said of structures. Generated: gen_descchanges.py.
-/
import Derived.Test.YtlgbnfcnimjheaaDescWalk2
namespace Go.Proofs.Ytlgbnfcnimjheaa.S
open Go.RowKit Fl

set_option maxRecDepth 1000000 in
set_option maxHeartbeats 4000000 in
theorem changes_x (h h1 m m1 : Int) (ka : Int) (xa : Nat) (sa : ByteArray) (ra : Int) (kb : Int) (xb : Nat) (sb : ByteArray) (rb : Int) (kc : Int) (xc : Nat) (sc : ByteArray) (rc : Int) (kd : Int) (xd : Nat) (sd : ByteArray) (rd : Int) (ke : Int) (xe : Nat) (se : ByteArray) (re : Int) (kf : Int) (xf : Nat) (sf : ByteArray) (rf : Int) (p q z p' q' z' : Bool) {bd ba nd na t : Bool} (hh : h1 = bif p' then bits .andNot .u8 h 3 else h) (hm : m1 = bits .and .u8 m h1) (cd : ∀ w, Calls Try.prog 23 #[.agg #[.int .u8 h, .int .u8 ka, .float .f64 xa, .string sa, .int .i64 ra, .int .u8 kb, .float .f64 xb, .string sb, .int .i64 rb, .int .u8 kc, .float .f64 xc, .string sc, .int .i64 rc, .bool p, .bool q, .bool z]] w fun e w' => e = .returned (.bool bd) ∧ Below w.heap.size w w') (ca : ∀ w, Calls Try.prog 11 #[.agg #[.int .u8 h, .int .u8 ka, .float .f64 xa, .string sa, .int .i64 ra, .int .u8 kb, .float .f64 xb, .string sb, .int .i64 rb, .int .u8 kc, .float .f64 xc, .string sc, .int .i64 rc, .bool p, .bool q, .bool z]] w fun e w' => e = .returned (.bool ba) ∧ Below w.heap.size w w') (ed : ∀ w, Calls Try.prog 23 #[.agg #[.int .u8 m, .int .u8 kd, .float .f64 xd, .string sd, .int .i64 rd, .int .u8 ke, .float .f64 xe, .string se, .int .i64 re, .int .u8 kf, .float .f64 xf, .string sf, .int .i64 rf, .bool p', .bool q', .bool z']] w fun e w' => e = .returned (.bool nd) ∧ Below w.heap.size w w') (ea : ∀ w, Calls Try.prog 11 #[.agg #[.int .u8 m, .int .u8 kd, .float .f64 xd, .string sd, .int .i64 rd, .int .u8 ke, .float .f64 xe, .string se, .int .i64 re, .int .u8 kf, .float .f64 xf, .string sf, .int .i64 rf, .bool p', .bool q', .bool z']] w fun e w' => e = .returned (.bool na) ∧ Below w.heap.size w w') (cs : ∀ w, Calls Try.prog 9 #[.agg #[.int .u8 h1, .int .u8 ka, .float .f64 xa, .string sa, .int .i64 ra, .int .u8 kb, .float .f64 xb, .string sb, .int .i64 rb, .int .u8 kc, .float .f64 xc, .string sc, .int .i64 rc, .bool p, .bool q, .bool z], .agg #[.int .u8 m1, .int .u8 kd, .float .f64 xd, .string sd, .int .i64 rd, .int .u8 ke, .float .f64 xe, .string se, .int .i64 re, .int .u8 kf, .float .f64 xf, .string sf, .int .i64 rf, .bool p', .bool q', .bool z']] w fun e w' => e = .returned (.bool t) ∧ Below w.heap.size w w') (w : World) : Calls Try.prog 18 #[.agg #[.int .u8 h, .int .u8 ka, .float .f64 xa, .string sa, .int .i64 ra, .int .u8 kb, .float .f64 xb, .string sb, .int .i64 rb, .int .u8 kc, .float .f64 xc, .string sc, .int .i64 rc, .bool p, .bool q, .bool z], .agg #[.int .u8 m, .int .u8 kd, .float .f64 xd, .string sd, .int .i64 rd, .int .u8 ke, .float .f64 xe, .string se, .int .i64 re, .int .u8 kf, .float .f64 xf, .string sf, .int .i64 rf, .bool p', .bool q', .bool z']] w fun e w' => e = .returned (.bool (z' || (!(bd && na) && (!(ba && nd) && t)))) ∧ Below w.heap.size w w' := by
  have hB0 : Below w.heap.size w ((w.alloc (.cells #[.int .u8 h, .int .u8 ka, .float .f64 xa, .string sa, .int .i64 ra, .int .u8 kb, .float .f64 xb, .string sb, .int .i64 rb, .int .u8 kc, .float .f64 xc, .string sc, .int .i64 rc, .bool p, .bool q, .bool z] 26)).alloc (.cells #[.int .u8 m, .int .u8 kd, .float .f64 xd, .string sd, .int .i64 rd, .int .u8 ke, .float .f64 xe, .string se, .int .i64 re, .int .u8 kf, .float .f64 xf, .string sf, .int .i64 rf, .bool p', .bool q', .bool z'] 26)) := vafter (vzero _ _)
  obtain ⟨b1, b2⟩ := vblk2 (w := w) (Below.refl _ ((w.alloc (.cells #[.int .u8 h, .int .u8 ka, .float .f64 xa, .string sa, .int .i64 ra, .int .u8 kb, .float .f64 xb, .string sb, .int .i64 rb, .int .u8 kc, .float .f64 xc, .string sc, .int .i64 rc, .bool p, .bool q, .bool z] 26)).alloc (.cells #[.int .u8 m, .int .u8 kd, .float .f64 xd, .string sd, .int .i64 rd, .int .u8 ke, .float .f64 xe, .string se, .int .i64 re, .int .u8 kf, .float .f64 xf, .string sf, .int .i64 rf, .bool p', .bool q', .bool z'] 26)))
  have HH := Lib.hid hh
  have HM := Lib.hid hm
  clear hh hm
  have e1 := vcells b2 15
  cases z'
  rotate_left
  · go_enter Try.func18, Try.ntmps18
    go_wp2
    go_ret
    exact ⟨rfl, hB0⟩
  go_enter Try.func18, Try.ntmps18
  go_upto_region 3 with (fail)
  go_cut [8] from 5 to 36 (fun u wx => u = .bool (bd && na) ∧ wx.heap[w.heap.size]? = some (.cells #[.int .u8 h, .int .u8 ka, .float .f64 xa, .string sa, .int .i64 ra, .int .u8 kb, .float .f64 xb, .string sb, .int .i64 rb, .int .u8 kc, .float .f64 xc, .string sc, .int .i64 rc, .bool p, .bool q, .bool z] 26 (0, 0)) ∧ wx.heap[w.heap.size + 1]? = some (.cells #[.int .u8 m, .int .u8 kd, .float .f64 xd, .string sd, .int .i64 rd, .int .u8 ke, .float .f64 xe, .string se, .int .i64 re, .int .u8 kf, .float .f64 xf, .string sf, .int .i64 rf, .bool p', .bool q', .bool false] 26 (0, 0)) ∧ Below w.heap.size w wx)
  case first =>
    cases bd
    all_goals
      go_wp2_with (first | ((with_reducible refine d_load ?_ rfl rfl b1 ?_); (rfl)) | ((with_reducible refine d_load ?_ rfl rfl b2 ?_); (rfl)) | (go_at_call 23; (with_reducible refine (cd _).mono ?_); rintro e w1 ⟨rfl, h1⟩; have b1 := vblkn h1 b1; have b2 := vblkn h1 b2; have hB0 := vb hB0 h1) | (go_at_call 11; (with_reducible refine (ea _).mono ?_); rintro e w1 ⟨rfl, h1⟩; have b1 := vblkn h1 b1; have b2 := vblkn h1 b2; have hB0 := vb hB0 h1))
      go_meet
      case rel => exact ⟨rfl, b1, b2, hB0⟩
  case rest =>
  clear b1 b2 hB0 e1
  obtain ⟨rfl, b1, b2, hB0⟩ := hcut
  generalize hg3 : (bd && na) = g3
  have G3 := Lib.hid hg3
  clear hg3
  cases g3
  rotate_left
  · go_wp2
    go_ret
    exact ⟨dret (by rw [G3.out]; rfl), hB0⟩
  go_upto_region 4 with (fail)
  go_cut [8] from 5 to 36 (fun u wx => u = .bool (ba && nd) ∧ wx.heap[w.heap.size]? = some (.cells #[.int .u8 h, .int .u8 ka, .float .f64 xa, .string sa, .int .i64 ra, .int .u8 kb, .float .f64 xb, .string sb, .int .i64 rb, .int .u8 kc, .float .f64 xc, .string sc, .int .i64 rc, .bool p, .bool q, .bool z] 26 (0, 0)) ∧ wx.heap[w.heap.size + 1]? = some (.cells #[.int .u8 m, .int .u8 kd, .float .f64 xd, .string sd, .int .i64 rd, .int .u8 ke, .float .f64 xe, .string se, .int .i64 re, .int .u8 kf, .float .f64 xf, .string sf, .int .i64 rf, .bool p', .bool q', .bool false] 26 (0, 0)) ∧ Below w.heap.size w wx)
  case first =>
    cases ba
    all_goals
      go_wp2_with (first | ((with_reducible refine d_load ?_ rfl rfl b1 ?_); (rfl)) | ((with_reducible refine d_load ?_ rfl rfl b2 ?_); (rfl)) | (go_at_call 11; (with_reducible refine (ca _).mono ?_); rintro e w1 ⟨rfl, h1⟩; have b1 := vblkn h1 b1; have b2 := vblkn h1 b2; have hB0 := vb hB0 h1) | (go_at_call 23; (with_reducible refine (ed _).mono ?_); rintro e w1 ⟨rfl, h1⟩; have b1 := vblkn h1 b1; have b2 := vblkn h1 b2; have hB0 := vb hB0 h1))
      go_meet
      case rel => exact ⟨rfl, b1, b2, hB0⟩
  case rest =>
  clear b1 b2 hB0
  obtain ⟨rfl, b1, b2, hB0⟩ := hcut
  generalize hg4 : (ba && nd) = g4
  have G4 := Lib.hid hg4
  clear hg4
  cases g4
  rotate_left
  · go_wp2
    go_ret
    exact ⟨dret (by rw [G3.out, G4.out]; rfl), hB0⟩
  have e4 := vcells b2 13
  have e5 := vcells b1 0
  have f5 := vfz b1 0
  have e6 := vcells b2 0
  have f6 := vfz b2 0
  cases p'
  · have hh : h1 = h := HH.out
    have hm := HM.out
    clear HH HM
    rw [hh] at hm cs
    rw [hm] at cs
    clear hh hm
    go_upto_region 9 with (fail)
    have b2 : (World.setCell _ ⟨w.heap.size + 1, 0, none⟩ (.int .u8 (bits .and .u8 m h))).heap[w.heap.size + 1]? = some (.cells #[.int .u8 (bits .and .u8 m h), .int .u8 kd, .float .f64 xd, .string sd, .int .i64 rd, .int .u8 ke, .float .f64 xe, .string se, .int .i64 re, .int .u8 kf, .float .f64 xf, .string sf, .int .i64 rf, .bool false, .bool q', .bool false] 26 (0, 0)) := vset1 b2 0 _
    have b1 := vset1o (j := w.heap.size + 1) b1 (by omega) 0 (.int .u8 (bits .and .u8 m h))
    have hB0 := hB0.setCell (p := ⟨w.heap.size + 1, 0, none⟩) (Nat.le_succ _) (.int .u8 (bits .and .u8 m h))
    go_wp2_with (first | ((with_reducible refine d_load ?_ rfl rfl b1 ?_); (rfl)) | ((with_reducible refine d_load ?_ rfl rfl b2 ?_); (rfl)) | (go_at_call 9; (with_reducible refine (cs _).mono ?_); rintro e w1 ⟨rfl, h1⟩; have b1 := vblkn h1 b1; have b2 := vblkn h1 b2; have hB0 := vb hB0 h1))
    go_ret
    exact ⟨dret (by rw [G3.out, G4.out]; rfl), hB0⟩
  · have hh : h1 = bits .andNot .u8 h 3 := HH.out
    have hm := HM.out
    clear HH HM
    rw [hh] at hm cs
    rw [hm] at cs
    clear hh hm
    go_upto_region 9 with (fail)
    have b1 : (World.setCell _ ⟨w.heap.size, 0, none⟩ (.int .u8 (bits .andNot .u8 h 3))).heap[w.heap.size]? = some (.cells #[.int .u8 (bits .andNot .u8 h 3), .int .u8 ka, .float .f64 xa, .string sa, .int .i64 ra, .int .u8 kb, .float .f64 xb, .string sb, .int .i64 rb, .int .u8 kc, .float .f64 xc, .string sc, .int .i64 rc, .bool p, .bool q, .bool z] 26 (0, 0)) := vset1 b1 0 _
    have b2 := vset1o (j := w.heap.size) b2 (by omega) 0 (.int .u8 (bits .andNot .u8 h 3))
    have hB0 := hB0.setCell (p := ⟨w.heap.size, 0, none⟩) (Nat.le_refl _) (.int .u8 (bits .andNot .u8 h 3))
    have b2 : (World.setCell _ ⟨w.heap.size + 1, 0, none⟩ (.int .u8 (bits .and .u8 m (bits .andNot .u8 h 3)))).heap[w.heap.size + 1]? = some (.cells #[.int .u8 (bits .and .u8 m (bits .andNot .u8 h 3)), .int .u8 kd, .float .f64 xd, .string sd, .int .i64 rd, .int .u8 ke, .float .f64 xe, .string se, .int .i64 re, .int .u8 kf, .float .f64 xf, .string sf, .int .i64 rf, .bool true, .bool q', .bool false] 26 (0, 0)) := vset1 b2 0 _
    have b1 := vset1o (j := w.heap.size + 1) b1 (by omega) 0 (.int .u8 (bits .and .u8 m (bits .andNot .u8 h 3)))
    have hB0 := hB0.setCell (p := ⟨w.heap.size + 1, 0, none⟩) (Nat.le_succ _) (.int .u8 (bits .and .u8 m (bits .andNot .u8 h 3)))
    go_wp2_with (first | ((with_reducible refine d_load ?_ rfl rfl b1 ?_); (rfl)) | ((with_reducible refine d_load ?_ rfl rfl b2 ?_); (rfl)) | (go_at_call 9; (with_reducible refine (cs _).mono ?_); rintro e w1 ⟨rfl, h1⟩; have b1 := vblkn h1 b1; have b2 := vblkn h1 b2; have hB0 := vb hB0 h1))
    go_ret
    exact ⟨dret (by rw [G3.out, G4.out]; rfl), hB0⟩
end Go.Proofs.Ytlgbnfcnimjheaa.S
