/-
  The law DescStays where the property may not become so: its walk; alive. Generated: gen_desclaw2.py.
-/
import Derived.Test.YtlgbnfcnimjheaaDescLaw
namespace Go.Proofs.Ytlgbnfcnimjheaa.S
open Go.RowKit Fl

set_option maxRecDepth 1000000 in
set_option maxHeartbeats 16000000 in
theorem DS_no (ext found : Bool) (h m er : Int) (ka : Int) (xa : Nat) (sa : ByteArray) (ra : Int) (kb : Int) (xb : Nat) (sb : ByteArray) (rb : Int) (kc : Int) (xc : Nat) (sc : ByteArray) (rc : Int) (kd : Int) (xd : Nat) (sd : ByteArray) (rd : Int) (ke : Int) (xe : Nat) (se : ByteArray) (re : Int) (kf : Int) (xf : Nat) (sf : ByteArray) (rf : Int) (p q z p' q' z' : Bool) {ld ln : Bool} (hal : ∀ w, Calls Try.prog 4 #[] w fun e w' => e = .returned (.bool true) ∧ Below w.heap.size w w') (hld : ∀ w, Calls Try.prog 5 #[.agg #[.int .u8 h, .int .u8 ka, .float .f64 xa, .string sa, .int .i64 ra, .int .u8 kb, .float .f64 xb, .string sb, .int .i64 rb, .int .u8 kc, .float .f64 xc, .string sc, .int .i64 rc, .bool p, .bool q, .bool z]] w fun e w' => e = .returned (.bool ld) ∧ Below w.heap.size w w') (hln : ∀ w, Calls Try.prog 5 #[.agg #[.int .u8 m, .int .u8 kd, .float .f64 xd, .string sd, .int .i64 rd, .int .u8 ke, .float .f64 xe, .string se, .int .i64 re, .int .u8 kf, .float .f64 xf, .string sf, .int .i64 rf, .bool p', .bool q', .bool z']] w fun e w' => e = .returned (.bool ln) ∧ Below w.heap.size w w') (hA : ∀ w, Calls Try.prog 6 #[.bool ext, .agg #[.int .u8 h, .int .u8 ka, .float .f64 xa, .string sa, .int .i64 ra, .int .u8 kb, .float .f64 xb, .string sb, .int .i64 rb, .int .u8 kc, .float .f64 xc, .string sc, .int .i64 rc, .bool p, .bool q, .bool z], .bool found, .agg #[.int .u8 m, .int .u8 kd, .float .f64 xd, .string sd, .int .i64 rd, .int .u8 ke, .float .f64 xe, .string se, .int .i64 re, .int .u8 kf, .float .f64 xf, .string sf, .int .i64 rf, .bool p', .bool q', .bool z']] w fun e w' => e = .returned (.tuple #[.agg #[.int .u8 0, .int .u8 0, .float .f64 0, .string ⟨#[]⟩, .int .i64 0, .int .u8 0, .float .f64 0, .string ⟨#[]⟩, .int .i64 0, .int .u8 0, .float .f64 0, .string ⟨#[]⟩, .int .i64 0, .bool false, .bool false, .bool false], .bool false, .int .i64 er]) ∧ Below w.heap.size w w') (hC : ∀ w, Calls Try.prog 7 #[.bool ext, .agg #[.int .u8 h, .int .u8 ka, .float .f64 xa, .string sa, .int .i64 ra, .int .u8 kb, .float .f64 xb, .string sb, .int .i64 rb, .int .u8 kc, .float .f64 xc, .string sc, .int .i64 rc, .bool p, .bool q, .bool z], .bool found, .agg #[.int .u8 m, .int .u8 kd, .float .f64 xd, .string sd, .int .i64 rd, .int .u8 ke, .float .f64 xe, .string se, .int .i64 re, .int .u8 kf, .float .f64 xf, .string sf, .int .i64 rf, .bool p', .bool q', .bool z']] w fun e w' => e = .returned (.tuple #[.bool false, .int .i64 er]) ∧ Below w.heap.size w w') (her : er = 0 ∨ er = 90) (w : World) : Calls Try.prog 3 #[.bool ext, .agg #[.int .u8 h, .int .u8 ka, .float .f64 xa, .string sa, .int .i64 ra, .int .u8 kb, .float .f64 xb, .string sb, .int .i64 rb, .int .u8 kc, .float .f64 xc, .string sc, .int .i64 rc, .bool p, .bool q, .bool z], .bool found, .agg #[.int .u8 m, .int .u8 kd, .float .f64 xd, .string sd, .int .i64 rd, .int .u8 ke, .float .f64 xe, .string se, .int .i64 re, .int .u8 kf, .float .f64 xf, .string sf, .int .i64 rf, .bool p', .bool q', .bool z']] w fun e w' => e = .returned (.bool true) ∧ Below w.heap.size w w' := by
  have hB0 : Below w.heap.size w ((w.alloc (.cells #[.int .u8 h, .int .u8 ka, .float .f64 xa, .string sa, .int .i64 ra, .int .u8 kb, .float .f64 xb, .string sb, .int .i64 rb, .int .u8 kc, .float .f64 xc, .string sc, .int .i64 rc, .bool p, .bool q, .bool z] 26)).alloc (.cells #[.int .u8 m, .int .u8 kd, .float .f64 xd, .string sd, .int .i64 rd, .int .u8 ke, .float .f64 xe, .string se, .int .i64 re, .int .u8 kf, .float .f64 xf, .string sf, .int .i64 rf, .bool p', .bool q', .bool z'] 26)) := vafter (vzero _ _)
  obtain ⟨b1, b2⟩ := vblk2 (w := w) (Below.refl _ ((w.alloc (.cells #[.int .u8 h, .int .u8 ka, .float .f64 xa, .string sa, .int .i64 ra, .int .u8 kb, .float .f64 xb, .string sb, .int .i64 rb, .int .u8 kc, .float .f64 xc, .string sc, .int .i64 rc, .bool p, .bool q, .bool z] 26)).alloc (.cells #[.int .u8 m, .int .u8 kd, .float .f64 xd, .string sd, .int .i64 rd, .int .u8 ke, .float .f64 xe, .string se, .int .i64 re, .int .u8 kf, .float .f64 xf, .string sf, .int .i64 rf, .bool p', .bool q', .bool z'] 26)))
  have z0 : zD 0 0 (zV 0 0 ⟨#[]⟩ 0) (zV 0 0 ⟨#[]⟩ 0) (zV 0 0 ⟨#[]⟩ 0) false false false = true := by have := v0_z; unfold Vq.z v0 at this; dsimp only at this; rw [this]; rfl
  have HER := Lib.hid her
  clear her
  go_enter Try.func3, Try.ntmps3
  go_upto_region 2 with (go_at_call 4; (with_reducible refine (hal _).mono ?_); rintro e w1 ⟨rfl, h9⟩; replace b1 := vblkn h9 b1; replace b2 := vblkn h9 b2; replace hB0 := vb hB0 h9)
  go_cut [27] from 17 to 169 (fun u wx => u = .bool (ld || ln) ∧ wx.heap[w.heap.size]? = some (.cells #[.int .u8 h, .int .u8 ka, .float .f64 xa, .string sa, .int .i64 ra, .int .u8 kb, .float .f64 xb, .string sb, .int .i64 rb, .int .u8 kc, .float .f64 xc, .string sc, .int .i64 rc, .bool p, .bool q, .bool z] 26 (0, 0)) ∧ wx.heap[w.heap.size + 1]? = some (.cells #[.int .u8 m, .int .u8 kd, .float .f64 xd, .string sd, .int .i64 rd, .int .u8 ke, .float .f64 xe, .string se, .int .i64 re, .int .u8 kf, .float .f64 xf, .string sf, .int .i64 rf, .bool p', .bool q', .bool z'] 26 (0, 0)) ∧ Below w.heap.size w wx)
  case first =>
    cases ld <;> cases ln
    all_goals
      go_wp2_with (first | ((with_reducible refine d_load ?_ rfl rfl b1 ?_); (rfl)) | ((with_reducible refine d_load ?_ rfl rfl b2 ?_); (rfl)) | (go_at_call 5; (with_reducible first | refine (hld _).mono ?_ | refine (hln _).mono ?_); rintro e w1 ⟨rfl, h9⟩; replace b1 := vblkn h9 b1; replace b2 := vblkn h9 b2; replace hB0 := vb hB0 h9))
      go_meet
      case rel => exact ⟨rfl, b1, b2, hB0⟩
  case rest =>
  clear b1 b2 hB0
  obtain ⟨rfl, b1, b2, hB0⟩ := hcut
  generalize (ld || ln) = lg
  cases lg
  rotate_left
  · go_wp2
    go_ret
    exact ⟨rfl, hB0⟩
  go_upto_region 4 with (fail)
  go_cut [10, 11, 12] from 17 to 169 (fun u10 u11 u12 wx => ∃ gn, u10 = .pointer (some ⟨gn, 0, none⟩) ∧ u11 = .bool false ∧ u12 = .int .i64 er ∧ wx.heap[w.heap.size]? = some (.cells #[.int .u8 h, .int .u8 ka, .float .f64 xa, .string sa, .int .i64 ra, .int .u8 kb, .float .f64 xb, .string sb, .int .i64 rb, .int .u8 kc, .float .f64 xc, .string sc, .int .i64 rc, .bool p, .bool q, .bool z] 26 (0, 0)) ∧ wx.heap[w.heap.size + 1]? = some (.cells #[.int .u8 m, .int .u8 kd, .float .f64 xd, .string sd, .int .i64 rd, .int .u8 ke, .float .f64 xe, .string se, .int .i64 re, .int .u8 kf, .float .f64 xf, .string sf, .int .i64 rf, .bool p', .bool q', .bool z'] 26 (0, 0)) ∧ wx.heap[gn]? = some (.cells #[.int .u8 0, .int .u8 0, .float .f64 0, .string ⟨#[]⟩, .int .i64 0, .int .u8 0, .float .f64 0, .string ⟨#[]⟩, .int .i64 0, .int .u8 0, .float .f64 0, .string ⟨#[]⟩, .int .i64 0, .bool false, .bool false, .bool false] 26 (0, 0)) ∧ Below w.heap.size w wx)
  case first =>
    go_wp2_with (first | ((with_reducible refine d_load ?_ rfl rfl b1 ?_); (rfl)) | ((with_reducible refine d_load ?_ rfl rfl b2 ?_); (rfl)) | (go_at_call 6; (with_reducible refine (hA _).mono ?_); rintro e w1 ⟨rfl, h9⟩; replace b1 := vblkn h9 b1; replace b2 := vblkn h9 b2; replace hB0 := vb hB0 h9) | ((with_reducible refine d_store rfl rfl rfl rfl (heap_alloc_new _ _) ?_ ?_ ?_); (rfl); (rfl)))
    go_meet
    case rel => exact ⟨_, rfl, rfl, rfl, made_old b1, made_old b2, made_row rfl, made_below hB0 hB0.size⟩
  case rest =>
  clear b1 b2 hB0
  obtain ⟨g2, rfl, rfl, rfl, b1, b2, b3, hB0⟩ := hcut
  have her := HER.out
  clear HER hA hal hld hln
  rcases her with rfl | rfl
  all_goals
    go_wp2_with (first | ((with_reducible refine d_load ?_ rfl rfl b1 ?_); (rfl)) | ((with_reducible refine d_load ?_ rfl rfl b2 ?_); (rfl)) | ((with_reducible refine d_load ?_ rfl rfl b3 ?_); (rfl)) | (go_at_call 7; (with_reducible refine (hC _).mono ?_); rintro e w1 ⟨rfl, h9⟩; replace b1 := vblkn h9 b1; replace b2 := vblkn h9 b2; replace b3 := vblkn h9 b3; replace hB0 := vb hB0 h9) | ((with_reducible refine d_neq ?_ rfl rfl rfl ?_); (rfl); (rw [z0])))
    go_ret
    exact ⟨rfl, hB0⟩
/-- the law's own: a value made complete -/
theorem descalive_any (w : World) : Calls Try.prog 4 #[] w fun e w' => e = .returned (.bool true) ∧ Below w.heap.size w w' := by
  have hv := fun w => Num_v 4607182418800017408 w
  let d1 : Dq := ⟨1, ⟨3, 4607182418800017408, ⟨#[]⟩, 0⟩, v0, v0, false, false, false⟩
  have hi : d1.In := ⟨by decide, by decide, ⟨by decide, by decide, by decide, by decide⟩, ok_in v0_ok, ok_in v0_ok⟩
  have h1 : Is (.ours 1) 4607182418800017408 := ⟨by decide, by unfold SafeN; omega⟩
  have hg : Good d1 := ⟨by decide, ⟨.num 4607182418800017408, ⟨_, h1, rfl⟩, rfl, rfl, rfl, rfl⟩, fun h => absurd h (by decide), fun h => absurd h (by decide), fun _ => v0_z, fun h => absurd h (by decide), fun _ => v0_z, fun _ => rfl, fun _ => rfl, fun _ => rfl⟩
  have hc : ∀ w, Calls Try.prog 8 #[.agg #[.int .u8 1, .int .u8 3, .float .f64 4607182418800017408, .string ⟨#[]⟩, .int .i64 0, .int .u8 0, .float .f64 0, .string ⟨#[]⟩, .int .i64 0, .int .u8 0, .float .f64 0, .string ⟨#[]⟩, .int .i64 0, .bool false, .bool false, .bool false]] w fun e w' => e = .returned (.tuple #[.agg #[.int .u8 51, .int .u8 3, .float .f64 4607182418800017408, .string ⟨#[]⟩, .int .i64 0, .int .u8 0, .float .f64 0, .string ⟨#[]⟩, .int .i64 0, .int .u8 0, .float .f64 0, .string ⟨#[]⟩, .int .i64 0, .bool false, .bool false, .bool false], .int .i64 0]) ∧ Below w.heap.size w w' := fun w => by
    have := Complete_q hi hg w
    rw [show completeQ d1 = ⟨51, ⟨3, 4607182418800017408, ⟨#[]⟩, 0⟩, v0, v0, false, false, false⟩ by kernel_rfl] at this
    exact this
  go_enter Try.func4, Try.ntmps4
  go_upto_region 2 with (first | (go_at_call 13; (with_reducible refine (hv _).mono ?_); rintro e w1 ⟨rfl, h1⟩) | (go_at_call 8; (with_reducible refine (hc _).mono ?_); rintro e w2 ⟨rfl, h2⟩) | ((with_reducible refine d_store rfl rfl rfl rfl (heap_alloc_new _ _) ?_ ?_ ?_); (rfl); (rfl)))
  have hB := vb h1 h2
  have b3 := made_row (w := w2) (o := .cells #[.int .u8 0, .int .u8 0, .float .f64 0, .string ⟨#[]⟩, .int .i64 0, .int .u8 0, .float .f64 0, .string ⟨#[]⟩, .int .i64 0, .int .u8 0, .float .f64 0, .string ⟨#[]⟩, .int .i64 0, .bool false, .bool false, .bool false] 26) (cs2 := #[.int .u8 51, .int .u8 3, .float .f64 4607182418800017408, .string ⟨#[]⟩, .int .i64 0, .int .u8 0, .float .f64 0, .string ⟨#[]⟩, .int .i64 0, .int .u8 0, .float .f64 0, .string ⟨#[]⟩, .int .i64 0, .bool false, .bool false, .bool false]) rfl
  have hB3 := made_below (o := .cells #[.int .u8 0, .int .u8 0, .float .f64 0, .string ⟨#[]⟩, .int .i64 0, .int .u8 0, .float .f64 0, .string ⟨#[]⟩, .int .i64 0, .int .u8 0, .float .f64 0, .string ⟨#[]⟩, .int .i64 0, .bool false, .bool false, .bool false] 26) (cs2 := #[.int .u8 51, .int .u8 3, .float .f64 4607182418800017408, .string ⟨#[]⟩, .int .i64 0, .int .u8 0, .float .f64 0, .string ⟨#[]⟩, .int .i64 0, .int .u8 0, .float .f64 0, .string ⟨#[]⟩, .int .i64 0, .bool false, .bool false, .bool false]) hB hB.size
  have e0 := vcells b3 0
  have e2 := vcells b3 2
  have e13 := vcells b3 13
  have hf : (FloatKind.f64.format.order 4607182418800017408 4607182418800017408 == some .eq) = true := by decide
  clear hc hv hi hg
  go_wp2
  go_ret
  exact ⟨rfl, hB3⟩
end Go.Proofs.Ytlgbnfcnimjheaa.S
