/-
  Descriptors: lay: what d has in the place of what stood there. Generated: gen_desclay.py.
-/
import Derived.Test.YthnkllhfmjbbmaaGreatDoorHM18
import Derived.Deep.CutRange
namespace Go.Proofs.YthnkllhfmjbbmaaGreatDoor.S
open Go.RowKit Fl

def sel (b : Bool) (x y : Value) : Value := bif b then x else y
theorem sel_one {b : Bool} {x y : Value} (h : x.oneCell' = true) (g : y.oneCell' = true) : (sel b x y).oneCell' = true := by cases b <;> assumption
/-- the cells of what lay answers -/
abbrev layC (h h' : Int) (ka : Int) (xa : Nat) (sa : ByteArray) (ra : Int) (kb : Int) (xb : Nat) (sb : ByteArray) (rb : Int) (kc : Int) (xc : Nat) (sc : ByteArray) (rc : Int) (kd : Int) (xd : Nat) (sd : ByteArray) (rd : Int) (kf : Int) (xf : Nat) (sf : ByteArray) (rf : Int) (kg : Int) (xg : Nat) (sg : ByteArray) (rg : Int) (p q z p' q' z' : Bool) : Array Value := #[.int .u8 (bits .or .u8 h h'), sel (hasB h' 1) (.int .u8 kd) (.int .u8 ka), sel (hasB h' 1) (.float .f64 xd) (.float .f64 xa), sel (hasB h' 1) (.string sd) (.string sa), sel (hasB h' 1) (.int .i64 rd) (.int .i64 ra), sel (hasB h' 4) (.int .u8 kf) (.int .u8 kb), sel (hasB h' 4) (.float .f64 xf) (.float .f64 xb), sel (hasB h' 4) (.string sf) (.string sb), sel (hasB h' 4) (.int .i64 rf) (.int .i64 rb), sel (hasB h' 8) (.int .u8 kg) (.int .u8 kc), sel (hasB h' 8) (.float .f64 xg) (.float .f64 xc), sel (hasB h' 8) (.string sg) (.string sc), sel (hasB h' 8) (.int .i64 rg) (.int .i64 rc), sel (hasB h' 2) (.bool p') (.bool p), sel (hasB h' 16) (.bool q') (.bool q), sel (hasB h' 32) (.bool z') (.bool z)]
theorem vbel4' {B g i j k l : Nat} {w0 w : World} (h : Below B w0 w) (hg : B ≤ g) (a b c d : Value) :
    Below B w0 ((((w.setCell ⟨g, i, none⟩ a).setCell ⟨g, j, none⟩ b).setCell ⟨g, k, none⟩ c).setCell ⟨g, l, none⟩ d) :=
  (((h.setCell (p := ⟨g, i, none⟩) hg a).setCell (p := ⟨g, j, none⟩) hg b).setCell (p := ⟨g, k, none⟩) hg c).setCell (p := ⟨g, l, none⟩) hg d
/-- a function whose one result is a descriptor in a block of its own -/
theorem d_end {f : Func} {i : Nat} {t : TypeId} {Q : Ending → World → Prop} {tmps : Array Value} {W : World} {g : Nat} {c0 c1 c2 c3 c4 c5 c6 c7 c8 c9 c10 c11 c12 c13 c14 c15 : Value} (hf : f.results = #[.cell i 55])
    (h2 : tmps.getD i undef = .pointer (some ⟨g, 0, none⟩)) (hb : W.heap[g]? = some (.cells #[c0, c1, c2, c3, c4, c5, c6, c7, c8, c9, c10, c11, c12, c13, c14, c15] t (0, 0))) (hQ : Q (.returned (.agg #[c0, c1, c2, c3, c4, c5, c6, c7, c8, c9, c10, c11, c12, c13, c14, c15])) W) :
    bodyPost Tryz.prog f Q .ret { tmps := tmps, defers := [] } W :=
  bodyPost_ret (results_cell_row hf tmps W g t _ (0, 0) _ h2 hb Tryz.underlying55 rfl dsz) rfl hQ

set_option maxRecDepth 1000000 in
set_option maxHeartbeats 4000000 in
theorem lay_c (h h' : Int) (ka : Int) (xa : Nat) (sa : ByteArray) (ra : Int) (kb : Int) (xb : Nat) (sb : ByteArray) (rb : Int) (kc : Int) (xc : Nat) (sc : ByteArray) (rc : Int) (kd : Int) (xd : Nat) (sd : ByteArray) (rd : Int) (kf : Int) (xf : Nat) (sf : ByteArray) (rf : Int) (kg : Int) (xg : Nat) (sg : ByteArray) (rg : Int) (p q z p' q' z' : Bool) (w : World) : Calls Tryz.prog 110 #[.agg #[.int .u8 h, .int .u8 ka, .float .f64 xa, .string sa, .int .i64 ra, .int .u8 kb, .float .f64 xb, .string sb, .int .i64 rb, .int .u8 kc, .float .f64 xc, .string sc, .int .i64 rc, .bool p, .bool q, .bool z], .agg #[.int .u8 h', .int .u8 kd, .float .f64 xd, .string sd, .int .i64 rd, .int .u8 kf, .float .f64 xf, .string sf, .int .i64 rf, .int .u8 kg, .float .f64 xg, .string sg, .int .i64 rg, .bool p', .bool q', .bool z']] w fun e w' => e = .returned (.agg (layC h h' ka xa sa ra kb xb sb rb kc xc sc rc kd xd sd rd kf xf sf rf kg xg sg rg p q z p' q' z')) ∧ Below w.heap.size w w' := by
  have hst := vstore
  have hB0 : Below w.heap.size w (((w.alloc (.cells #[.int .u8 (bits .or .u8 h h'), .int .u8 ka, .float .f64 xa, .string sa, .int .i64 ra, .int .u8 kb, .float .f64 xb, .string sb, .int .i64 rb, .int .u8 kc, .float .f64 xc, .string sc, .int .i64 rc, .bool p, .bool q, .bool z] 55)).alloc (.cells #[.int .u8 h', .int .u8 kd, .float .f64 xd, .string sd, .int .i64 rd, .int .u8 kf, .float .f64 xf, .string sf, .int .i64 rf, .int .u8 kg, .float .f64 xg, .string sg, .int .i64 rg, .bool p', .bool q', .bool z'] 55)).alloc (.cells #[.int .u8 0, .int .u8 0, .float .f64 0, .string ⟨#[]⟩, .int .i64 0, .int .u8 0, .float .f64 0, .string ⟨#[]⟩, .int .i64 0, .int .u8 0, .float .f64 0, .string ⟨#[]⟩, .int .i64 0, .bool false, .bool false, .bool false] 55)) := vafter2 (vzero _ _)
  obtain ⟨b1, b2, b3⟩ := vblk3 (w := w) (Below.refl _ (((w.alloc (.cells #[.int .u8 (bits .or .u8 h h'), .int .u8 ka, .float .f64 xa, .string sa, .int .i64 ra, .int .u8 kb, .float .f64 xb, .string sb, .int .i64 rb, .int .u8 kc, .float .f64 xc, .string sc, .int .i64 rc, .bool p, .bool q, .bool z] 55)).alloc (.cells #[.int .u8 h', .int .u8 kd, .float .f64 xd, .string sd, .int .i64 rd, .int .u8 kf, .float .f64 xf, .string sf, .int .i64 rf, .int .u8 kg, .float .f64 xg, .string sg, .int .i64 rg, .bool p', .bool q', .bool z'] 55)).alloc (.cells #[.int .u8 0, .int .u8 0, .float .f64 0, .string ⟨#[]⟩, .int .i64 0, .int .u8 0, .float .f64 0, .string ⟨#[]⟩, .int .i64 0, .int .u8 0, .float .f64 0, .string ⟨#[]⟩, .int .i64 0, .bool false, .bool false, .bool false] 55)))
  go_enter Tryz.func110, Tryz.ntmps110
  go_upto_if 12 with (first | ((with_reducible refine d_load ?_ rfl rfl b2 ?_); (rfl)) | (go_at_call 68; (with_reducible refine (has_c _ _ _ _ _ _ _ _ _ _ _ _ _ _ _ _ _ _).mono ?_); rintro e w1 ⟨rfl, h1⟩; have b1 := vblkn h1 b1; have b2 := vblkn h1 b2; have b3 := vblkn h1 b3; have hB0 := vb hB0 h1))
  go_cut [] from 5 to 41 (fun wx => wx.heap[w.heap.size]? = some (.cells #[.int .u8 (bits .or .u8 h h'), sel (hasB h' 1) (.int .u8 kd) (.int .u8 ka), sel (hasB h' 1) (.float .f64 xd) (.float .f64 xa), sel (hasB h' 1) (.string sd) (.string sa), sel (hasB h' 1) (.int .i64 rd) (.int .i64 ra), .int .u8 kb, .float .f64 xb, .string sb, .int .i64 rb, .int .u8 kc, .float .f64 xc, .string sc, .int .i64 rc, .bool p, .bool q, .bool z] 55 (0, 0)) ∧ wx.heap[w.heap.size + 1]? = some (.cells #[.int .u8 h', .int .u8 kd, .float .f64 xd, .string sd, .int .i64 rd, .int .u8 kf, .float .f64 xf, .string sf, .int .i64 rf, .int .u8 kg, .float .f64 xg, .string sg, .int .i64 rg, .bool p', .bool q', .bool z'] 55 (0, 0)) ∧ wx.heap[w.heap.size + 1 + 1]? = some (.cells #[.int .u8 0, .int .u8 0, .float .f64 0, .string ⟨#[]⟩, .int .i64 0, .int .u8 0, .float .f64 0, .string ⟨#[]⟩, .int .i64 0, .int .u8 0, .float .f64 0, .string ⟨#[]⟩, .int .i64 0, .bool false, .bool false, .bool false] 55 (0, 0)) ∧ Below w.heap.size w wx)
  case first =>
    cases hs : hasB h' 1
    · go_wp2
      go_meet
      case rel => rw [hs]; exact ⟨b1, b2, b3, hB0⟩
    · go_wp2_with (first | ((with_reducible refine v_load ?_ rfl rfl b2 rfl rfl rfl rfl ?_); (rfl)) | ((with_reducible refine v_store rfl rfl rfl rfl b1 ?_ ?_ ?_); (exact of_decide_eq_true rfl); (rfl)))
      go_meet
      case rel => rw [hs]; exact ⟨vset1 (vset1 (vset1 (vset1 b1 _ _) _ _) _ _) _ _, vset1o (vset1o (vset1o (vset1o b2 (by simp) _ _) (by simp) _ _) (by simp) _ _) (by simp) _ _, vset1o (vset1o (vset1o (vset1o b3 (by simp; omega) _ _) (by simp; omega) _ _) (by simp; omega) _ _) (by simp; omega) _ _, vbel4' hB0 (Nat.le_refl _) _ _ _ _⟩
  case rest =>
  obtain ⟨b1, b2, b3, hB0⟩ := hcut
  go_upto_if 17 with (first | ((with_reducible refine d_load ?_ rfl rfl b2 ?_); (rfl)) | (go_at_call 68; (with_reducible refine (has_c _ _ _ _ _ _ _ _ _ _ _ _ _ _ _ _ _ _).mono ?_); rintro e w1 ⟨rfl, h1⟩; have b1 := vblkn h1 b1; have b2 := vblkn h1 b2; have b3 := vblkn h1 b3; have hB0 := vb hB0 h1))
  go_cut [] from 5 to 41 (fun wx => wx.heap[w.heap.size]? = some (.cells #[.int .u8 (bits .or .u8 h h'), sel (hasB h' 1) (.int .u8 kd) (.int .u8 ka), sel (hasB h' 1) (.float .f64 xd) (.float .f64 xa), sel (hasB h' 1) (.string sd) (.string sa), sel (hasB h' 1) (.int .i64 rd) (.int .i64 ra), .int .u8 kb, .float .f64 xb, .string sb, .int .i64 rb, .int .u8 kc, .float .f64 xc, .string sc, .int .i64 rc, sel (hasB h' 2) (.bool p') (.bool p), .bool q, .bool z] 55 (0, 0)) ∧ wx.heap[w.heap.size + 1]? = some (.cells #[.int .u8 h', .int .u8 kd, .float .f64 xd, .string sd, .int .i64 rd, .int .u8 kf, .float .f64 xf, .string sf, .int .i64 rf, .int .u8 kg, .float .f64 xg, .string sg, .int .i64 rg, .bool p', .bool q', .bool z'] 55 (0, 0)) ∧ wx.heap[w.heap.size + 1 + 1]? = some (.cells #[.int .u8 0, .int .u8 0, .float .f64 0, .string ⟨#[]⟩, .int .i64 0, .int .u8 0, .float .f64 0, .string ⟨#[]⟩, .int .i64 0, .int .u8 0, .float .f64 0, .string ⟨#[]⟩, .int .i64 0, .bool false, .bool false, .bool false] 55 (0, 0)) ∧ Below w.heap.size w wx)
  case first =>
    cases hs : hasB h' 2
    · go_wp2
      go_meet
      case rel => rw [hs]; exact ⟨b1, b2, b3, hB0⟩
    · have q2 := vcells b2 13
      have f1 := vfz b1 13
      have q1 := vcells b1 13
      go_wp2
      go_meet
      case rel => rw [hs]; exact ⟨vset1 b1 _ _, vset1o b2 (by simp) _ _, vset1o b3 (by simp; omega) _ _, hB0.setCell (p := ⟨w.heap.size, 13, none⟩) (Nat.le_refl _) _⟩
  case rest =>
  obtain ⟨b1, b2, b3, hB0⟩ := hcut
  go_upto_if 22 with (first | ((with_reducible refine d_load ?_ rfl rfl b2 ?_); (rfl)) | (go_at_call 68; (with_reducible refine (has_c _ _ _ _ _ _ _ _ _ _ _ _ _ _ _ _ _ _).mono ?_); rintro e w1 ⟨rfl, h1⟩; have b1 := vblkn h1 b1; have b2 := vblkn h1 b2; have b3 := vblkn h1 b3; have hB0 := vb hB0 h1))
  go_cut [] from 5 to 41 (fun wx => wx.heap[w.heap.size]? = some (.cells #[.int .u8 (bits .or .u8 h h'), sel (hasB h' 1) (.int .u8 kd) (.int .u8 ka), sel (hasB h' 1) (.float .f64 xd) (.float .f64 xa), sel (hasB h' 1) (.string sd) (.string sa), sel (hasB h' 1) (.int .i64 rd) (.int .i64 ra), sel (hasB h' 4) (.int .u8 kf) (.int .u8 kb), sel (hasB h' 4) (.float .f64 xf) (.float .f64 xb), sel (hasB h' 4) (.string sf) (.string sb), sel (hasB h' 4) (.int .i64 rf) (.int .i64 rb), .int .u8 kc, .float .f64 xc, .string sc, .int .i64 rc, sel (hasB h' 2) (.bool p') (.bool p), .bool q, .bool z] 55 (0, 0)) ∧ wx.heap[w.heap.size + 1]? = some (.cells #[.int .u8 h', .int .u8 kd, .float .f64 xd, .string sd, .int .i64 rd, .int .u8 kf, .float .f64 xf, .string sf, .int .i64 rf, .int .u8 kg, .float .f64 xg, .string sg, .int .i64 rg, .bool p', .bool q', .bool z'] 55 (0, 0)) ∧ wx.heap[w.heap.size + 1 + 1]? = some (.cells #[.int .u8 0, .int .u8 0, .float .f64 0, .string ⟨#[]⟩, .int .i64 0, .int .u8 0, .float .f64 0, .string ⟨#[]⟩, .int .i64 0, .int .u8 0, .float .f64 0, .string ⟨#[]⟩, .int .i64 0, .bool false, .bool false, .bool false] 55 (0, 0)) ∧ Below w.heap.size w wx)
  case first =>
    cases hs : hasB h' 4
    · go_wp2
      go_meet
      case rel => rw [hs]; exact ⟨b1, b2, b3, hB0⟩
    · go_wp2_with (first | ((with_reducible refine v_load ?_ rfl rfl b2 rfl rfl rfl rfl ?_); (rfl)) | ((with_reducible refine v_store rfl rfl rfl rfl b1 ?_ ?_ ?_); (exact of_decide_eq_true rfl); (rfl)))
      go_meet
      case rel => rw [hs]; exact ⟨vset1 (vset1 (vset1 (vset1 b1 _ _) _ _) _ _) _ _, vset1o (vset1o (vset1o (vset1o b2 (by simp) _ _) (by simp) _ _) (by simp) _ _) (by simp) _ _, vset1o (vset1o (vset1o (vset1o b3 (by simp; omega) _ _) (by simp; omega) _ _) (by simp; omega) _ _) (by simp; omega) _ _, vbel4' hB0 (Nat.le_refl _) _ _ _ _⟩
  case rest =>
  obtain ⟨b1, b2, b3, hB0⟩ := hcut
  go_upto_if 27 with (first | ((with_reducible refine d_load ?_ rfl rfl b2 ?_); (rfl)) | (go_at_call 68; (with_reducible refine (has_c _ _ _ _ _ _ _ _ _ _ _ _ _ _ _ _ _ _).mono ?_); rintro e w1 ⟨rfl, h1⟩; have b1 := vblkn h1 b1; have b2 := vblkn h1 b2; have b3 := vblkn h1 b3; have hB0 := vb hB0 h1))
  go_cut [] from 5 to 41 (fun wx => wx.heap[w.heap.size]? = some (.cells #[.int .u8 (bits .or .u8 h h'), sel (hasB h' 1) (.int .u8 kd) (.int .u8 ka), sel (hasB h' 1) (.float .f64 xd) (.float .f64 xa), sel (hasB h' 1) (.string sd) (.string sa), sel (hasB h' 1) (.int .i64 rd) (.int .i64 ra), sel (hasB h' 4) (.int .u8 kf) (.int .u8 kb), sel (hasB h' 4) (.float .f64 xf) (.float .f64 xb), sel (hasB h' 4) (.string sf) (.string sb), sel (hasB h' 4) (.int .i64 rf) (.int .i64 rb), sel (hasB h' 8) (.int .u8 kg) (.int .u8 kc), sel (hasB h' 8) (.float .f64 xg) (.float .f64 xc), sel (hasB h' 8) (.string sg) (.string sc), sel (hasB h' 8) (.int .i64 rg) (.int .i64 rc), sel (hasB h' 2) (.bool p') (.bool p), .bool q, .bool z] 55 (0, 0)) ∧ wx.heap[w.heap.size + 1]? = some (.cells #[.int .u8 h', .int .u8 kd, .float .f64 xd, .string sd, .int .i64 rd, .int .u8 kf, .float .f64 xf, .string sf, .int .i64 rf, .int .u8 kg, .float .f64 xg, .string sg, .int .i64 rg, .bool p', .bool q', .bool z'] 55 (0, 0)) ∧ wx.heap[w.heap.size + 1 + 1]? = some (.cells #[.int .u8 0, .int .u8 0, .float .f64 0, .string ⟨#[]⟩, .int .i64 0, .int .u8 0, .float .f64 0, .string ⟨#[]⟩, .int .i64 0, .int .u8 0, .float .f64 0, .string ⟨#[]⟩, .int .i64 0, .bool false, .bool false, .bool false] 55 (0, 0)) ∧ Below w.heap.size w wx)
  case first =>
    cases hs : hasB h' 8
    · go_wp2
      go_meet
      case rel => rw [hs]; exact ⟨b1, b2, b3, hB0⟩
    · go_wp2_with (first | ((with_reducible refine v_load ?_ rfl rfl b2 rfl rfl rfl rfl ?_); (rfl)) | ((with_reducible refine v_store rfl rfl rfl rfl b1 ?_ ?_ ?_); (exact of_decide_eq_true rfl); (rfl)))
      go_meet
      case rel => rw [hs]; exact ⟨vset1 (vset1 (vset1 (vset1 b1 _ _) _ _) _ _) _ _, vset1o (vset1o (vset1o (vset1o b2 (by simp) _ _) (by simp) _ _) (by simp) _ _) (by simp) _ _, vset1o (vset1o (vset1o (vset1o b3 (by simp; omega) _ _) (by simp; omega) _ _) (by simp; omega) _ _) (by simp; omega) _ _, vbel4' hB0 (Nat.le_refl _) _ _ _ _⟩
  case rest =>
  obtain ⟨b1, b2, b3, hB0⟩ := hcut
  go_upto_if 32 with (first | ((with_reducible refine d_load ?_ rfl rfl b2 ?_); (rfl)) | (go_at_call 68; (with_reducible refine (has_c _ _ _ _ _ _ _ _ _ _ _ _ _ _ _ _ _ _).mono ?_); rintro e w1 ⟨rfl, h1⟩; have b1 := vblkn h1 b1; have b2 := vblkn h1 b2; have b3 := vblkn h1 b3; have hB0 := vb hB0 h1))
  go_cut [] from 5 to 41 (fun wx => wx.heap[w.heap.size]? = some (.cells #[.int .u8 (bits .or .u8 h h'), sel (hasB h' 1) (.int .u8 kd) (.int .u8 ka), sel (hasB h' 1) (.float .f64 xd) (.float .f64 xa), sel (hasB h' 1) (.string sd) (.string sa), sel (hasB h' 1) (.int .i64 rd) (.int .i64 ra), sel (hasB h' 4) (.int .u8 kf) (.int .u8 kb), sel (hasB h' 4) (.float .f64 xf) (.float .f64 xb), sel (hasB h' 4) (.string sf) (.string sb), sel (hasB h' 4) (.int .i64 rf) (.int .i64 rb), sel (hasB h' 8) (.int .u8 kg) (.int .u8 kc), sel (hasB h' 8) (.float .f64 xg) (.float .f64 xc), sel (hasB h' 8) (.string sg) (.string sc), sel (hasB h' 8) (.int .i64 rg) (.int .i64 rc), sel (hasB h' 2) (.bool p') (.bool p), sel (hasB h' 16) (.bool q') (.bool q), .bool z] 55 (0, 0)) ∧ wx.heap[w.heap.size + 1]? = some (.cells #[.int .u8 h', .int .u8 kd, .float .f64 xd, .string sd, .int .i64 rd, .int .u8 kf, .float .f64 xf, .string sf, .int .i64 rf, .int .u8 kg, .float .f64 xg, .string sg, .int .i64 rg, .bool p', .bool q', .bool z'] 55 (0, 0)) ∧ wx.heap[w.heap.size + 1 + 1]? = some (.cells #[.int .u8 0, .int .u8 0, .float .f64 0, .string ⟨#[]⟩, .int .i64 0, .int .u8 0, .float .f64 0, .string ⟨#[]⟩, .int .i64 0, .int .u8 0, .float .f64 0, .string ⟨#[]⟩, .int .i64 0, .bool false, .bool false, .bool false] 55 (0, 0)) ∧ Below w.heap.size w wx)
  case first =>
    cases hs : hasB h' 16
    · go_wp2
      go_meet
      case rel => rw [hs]; exact ⟨b1, b2, b3, hB0⟩
    · have q2 := vcells b2 14
      have f1 := vfz b1 14
      have q1 := vcells b1 14
      go_wp2
      go_meet
      case rel => rw [hs]; exact ⟨vset1 b1 _ _, vset1o b2 (by simp) _ _, vset1o b3 (by simp; omega) _ _, hB0.setCell (p := ⟨w.heap.size, 14, none⟩) (Nat.le_refl _) _⟩
  case rest =>
  obtain ⟨b1, b2, b3, hB0⟩ := hcut
  go_upto_if 37 with (first | ((with_reducible refine d_load ?_ rfl rfl b2 ?_); (rfl)) | (go_at_call 68; (with_reducible refine (has_c _ _ _ _ _ _ _ _ _ _ _ _ _ _ _ _ _ _).mono ?_); rintro e w1 ⟨rfl, h1⟩; have b1 := vblkn h1 b1; have b2 := vblkn h1 b2; have b3 := vblkn h1 b3; have hB0 := vb hB0 h1))
  go_cut [] from 5 to 41 (fun wx => wx.heap[w.heap.size]? = some (.cells #[.int .u8 (bits .or .u8 h h'), sel (hasB h' 1) (.int .u8 kd) (.int .u8 ka), sel (hasB h' 1) (.float .f64 xd) (.float .f64 xa), sel (hasB h' 1) (.string sd) (.string sa), sel (hasB h' 1) (.int .i64 rd) (.int .i64 ra), sel (hasB h' 4) (.int .u8 kf) (.int .u8 kb), sel (hasB h' 4) (.float .f64 xf) (.float .f64 xb), sel (hasB h' 4) (.string sf) (.string sb), sel (hasB h' 4) (.int .i64 rf) (.int .i64 rb), sel (hasB h' 8) (.int .u8 kg) (.int .u8 kc), sel (hasB h' 8) (.float .f64 xg) (.float .f64 xc), sel (hasB h' 8) (.string sg) (.string sc), sel (hasB h' 8) (.int .i64 rg) (.int .i64 rc), sel (hasB h' 2) (.bool p') (.bool p), sel (hasB h' 16) (.bool q') (.bool q), sel (hasB h' 32) (.bool z') (.bool z)] 55 (0, 0)) ∧ wx.heap[w.heap.size + 1]? = some (.cells #[.int .u8 h', .int .u8 kd, .float .f64 xd, .string sd, .int .i64 rd, .int .u8 kf, .float .f64 xf, .string sf, .int .i64 rf, .int .u8 kg, .float .f64 xg, .string sg, .int .i64 rg, .bool p', .bool q', .bool z'] 55 (0, 0)) ∧ wx.heap[w.heap.size + 1 + 1]? = some (.cells #[.int .u8 0, .int .u8 0, .float .f64 0, .string ⟨#[]⟩, .int .i64 0, .int .u8 0, .float .f64 0, .string ⟨#[]⟩, .int .i64 0, .int .u8 0, .float .f64 0, .string ⟨#[]⟩, .int .i64 0, .bool false, .bool false, .bool false] 55 (0, 0)) ∧ Below w.heap.size w wx)
  case first =>
    cases hs : hasB h' 32
    · go_wp2
      go_meet
      case rel => rw [hs]; exact ⟨b1, b2, b3, hB0⟩
    · have q2 := vcells b2 15
      have f1 := vfz b1 15
      have q1 := vcells b1 15
      go_wp2
      go_meet
      case rel => rw [hs]; exact ⟨vset1 b1 _ _, vset1o b2 (by simp) _ _, vset1o b3 (by simp; omega) _ _, hB0.setCell (p := ⟨w.heap.size, 15, none⟩) (Nat.le_refl _) _⟩
  case rest =>
  obtain ⟨b1, b2, b3, hB0⟩ := hcut
  have hone : ([.int .u8 (bits .or .u8 h h'), sel (hasB h' 1) (.int .u8 kd) (.int .u8 ka), sel (hasB h' 1) (.float .f64 xd) (.float .f64 xa), sel (hasB h' 1) (.string sd) (.string sa), sel (hasB h' 1) (.int .i64 rd) (.int .i64 ra), sel (hasB h' 4) (.int .u8 kf) (.int .u8 kb), sel (hasB h' 4) (.float .f64 xf) (.float .f64 xb), sel (hasB h' 4) (.string sf) (.string sb), sel (hasB h' 4) (.int .i64 rf) (.int .i64 rb), sel (hasB h' 8) (.int .u8 kg) (.int .u8 kc), sel (hasB h' 8) (.float .f64 xg) (.float .f64 xc), sel (hasB h' 8) (.string sg) (.string sc), sel (hasB h' 8) (.int .i64 rg) (.int .i64 rc), sel (hasB h' 2) (.bool p') (.bool p), sel (hasB h' 16) (.bool q') (.bool q), sel (hasB h' 32) (.bool z') (.bool z)] : List Value).all (·.oneCell') = true := by
    simp only [List.all_cons, List.all_nil, Bool.and_eq_true]
    exact ⟨rfl, sel_one rfl rfl, sel_one rfl rfl, sel_one rfl rfl, sel_one rfl rfl, sel_one rfl rfl, sel_one rfl rfl, sel_one rfl rfl, sel_one rfl rfl, sel_one rfl rfl, sel_one rfl rfl, sel_one rfl rfl, sel_one rfl rfl, sel_one rfl rfl, sel_one rfl rfl, sel_one rfl rfl, trivial⟩
  go_wp2_with (first | ((with_reducible refine d_load ?_ rfl rfl b1 ?_); (rfl)) | (with_reducible refine d_store rfl rfl rfl rfl b3 rfl hone ?_))
  exact d_end Tryz.results110 rfl (setRow_heap _ _ _ _ _ _ b3) ⟨rfl, below_row hB0 (by omega) _⟩
end Go.Proofs.YthnkllhfmjbbmaaGreatDoor.S
