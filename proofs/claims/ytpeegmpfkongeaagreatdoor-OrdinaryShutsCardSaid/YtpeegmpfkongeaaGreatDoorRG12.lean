/-
  Descriptors: lay: what d has in the place of what stood there. Generated: gen_desclay.py.
-/
import Derived.Test.YtpeegmpfkongeaaGreatDoorRG11
import Derived.Deep.CutRange
import Derived.Deep.RegionHeld3
namespace Go.Proofs.YtpeegmpfkongeaaGreatDoor.S
open Go.RowKit Fl

def sel (b : Bool) (x y : Value) : Value := bif b then x else y
theorem sel_one {b : Bool} {x y : Value} (h : x.oneCell' = true) (g : y.oneCell' = true) : (sel b x y).oneCell' = true := by cases b <;> assumption
/-- the cells of what lay answers -/
abbrev layC (h h' : Int) (ka : Int) (xa : Nat) (sa : ByteArray) (ra : Int) (kb : Int) (xb : Nat) (sb : ByteArray) (rb : Int) (kc : Int) (xc : Nat) (sc : ByteArray) (rc : Int) (kd : Int) (xd : Nat) (sd : ByteArray) (rd : Int) (kf : Int) (xf : Nat) (sf : ByteArray) (rf : Int) (kg : Int) (xg : Nat) (sg : ByteArray) (rg : Int) (p q z p' q' z' : Bool) : Array Value := #[.int .u8 (bits .or .u8 h h'), sel (hasB h' 1) (.int .u8 kd) (.int .u8 ka), sel (hasB h' 1) (.float .f64 xd) (.float .f64 xa), sel (hasB h' 1) (.string sd) (.string sa), sel (hasB h' 1) (.int .i64 rd) (.int .i64 ra), sel (hasB h' 4) (.int .u8 kf) (.int .u8 kb), sel (hasB h' 4) (.float .f64 xf) (.float .f64 xb), sel (hasB h' 4) (.string sf) (.string sb), sel (hasB h' 4) (.int .i64 rf) (.int .i64 rb), sel (hasB h' 8) (.int .u8 kg) (.int .u8 kc), sel (hasB h' 8) (.float .f64 xg) (.float .f64 xc), sel (hasB h' 8) (.string sg) (.string sc), sel (hasB h' 8) (.int .i64 rg) (.int .i64 rc), sel (hasB h' 2) (.bool p') (.bool p), sel (hasB h' 16) (.bool q') (.bool q), sel (hasB h' 32) (.bool z') (.bool z)]
theorem vbel4' {B g i j k l : Nat} {w0 w : World} (h : Below B w0 w) (hg : B ≤ g) (a b c d : Value) :
    Below B w0 ((((w.setCell ⟨g, i, none⟩ a).setCell ⟨g, j, none⟩ b).setCell ⟨g, k, none⟩ c).setCell ⟨g, l, none⟩ d) :=
  (((h.setCell (p := ⟨g, i, none⟩) hg a).setCell (p := ⟨g, j, none⟩) hg b).setCell (p := ⟨g, k, none⟩) hg c).setCell (p := ⟨g, l, none⟩) hg d
/-- a function whose one result is a descriptor in a block of its own -/
theorem d_end {f : Func} {i : Nat} {t : TypeId} {Q : Ending → World → Prop} {tmps : Array Value} {W : World} {g : Nat} {c0 c1 c2 c3 c4 c5 c6 c7 c8 c9 c10 c11 c12 c13 c14 c15 : Value} (hf : f.results = #[.cell i 49])
    (h2 : tmps.getD i undef = .pointer (some ⟨g, 0, none⟩)) (hb : W.heap[g]? = some (.cells #[c0, c1, c2, c3, c4, c5, c6, c7, c8, c9, c10, c11, c12, c13, c14, c15] t (0, 0))) (hQ : Q (.returned (.agg #[c0, c1, c2, c3, c4, c5, c6, c7, c8, c9, c10, c11, c12, c13, c14, c15])) W) :
    bodyPost Tryz.prog f Q .ret { tmps := tmps, defers := [] } W :=
  bodyPost_ret (results_cell_row hf tmps W g t _ (0, 0) _ h2 hb Tryz.underlying49 rfl dsz) rfl hQ

set_option maxRecDepth 1000000 in
set_option maxHeartbeats 4000000 in
theorem lay_c (h h' : Int) (ka : Int) (xa : Nat) (sa : ByteArray) (ra : Int) (kb : Int) (xb : Nat) (sb : ByteArray) (rb : Int) (kc : Int) (xc : Nat) (sc : ByteArray) (rc : Int) (kd : Int) (xd : Nat) (sd : ByteArray) (rd : Int) (kf : Int) (xf : Nat) (sf : ByteArray) (rf : Int) (kg : Int) (xg : Nat) (sg : ByteArray) (rg : Int) (p q z p' q' z' : Bool) (w : World) : Calls Tryz.prog 103 #[.agg #[.int .u8 h, .int .u8 ka, .float .f64 xa, .string sa, .int .i64 ra, .int .u8 kb, .float .f64 xb, .string sb, .int .i64 rb, .int .u8 kc, .float .f64 xc, .string sc, .int .i64 rc, .bool p, .bool q, .bool z], .agg #[.int .u8 h', .int .u8 kd, .float .f64 xd, .string sd, .int .i64 rd, .int .u8 kf, .float .f64 xf, .string sf, .int .i64 rf, .int .u8 kg, .float .f64 xg, .string sg, .int .i64 rg, .bool p', .bool q', .bool z']] w fun e w' => e = .returned (.agg (layC h h' ka xa sa ra kb xb sb rb kc xc sc rc kd xd sd rd kf xf sf rf kg xg sg rg p q z p' q' z')) ∧ Below w.heap.size w w' := by
  have hst := vstore
  have hB0 : Below w.heap.size w (((w.alloc (.cells #[.int .u8 (bits .or .u8 h h'), .int .u8 ka, .float .f64 xa, .string sa, .int .i64 ra, .int .u8 kb, .float .f64 xb, .string sb, .int .i64 rb, .int .u8 kc, .float .f64 xc, .string sc, .int .i64 rc, .bool p, .bool q, .bool z] 49)).alloc (.cells #[.int .u8 h', .int .u8 kd, .float .f64 xd, .string sd, .int .i64 rd, .int .u8 kf, .float .f64 xf, .string sf, .int .i64 rf, .int .u8 kg, .float .f64 xg, .string sg, .int .i64 rg, .bool p', .bool q', .bool z'] 49)).alloc (.cells #[.int .u8 0, .int .u8 0, .float .f64 0, .string ⟨#[]⟩, .int .i64 0, .int .u8 0, .float .f64 0, .string ⟨#[]⟩, .int .i64 0, .int .u8 0, .float .f64 0, .string ⟨#[]⟩, .int .i64 0, .bool false, .bool false, .bool false] 49)) := vafter2 (vzero _ _)
  obtain ⟨b1, b2, b3⟩ := vblk3 (w := w) (Below.refl _ (((w.alloc (.cells #[.int .u8 (bits .or .u8 h h'), .int .u8 ka, .float .f64 xa, .string sa, .int .i64 ra, .int .u8 kb, .float .f64 xb, .string sb, .int .i64 rb, .int .u8 kc, .float .f64 xc, .string sc, .int .i64 rc, .bool p, .bool q, .bool z] 49)).alloc (.cells #[.int .u8 h', .int .u8 kd, .float .f64 xd, .string sd, .int .i64 rd, .int .u8 kf, .float .f64 xf, .string sf, .int .i64 rf, .int .u8 kg, .float .f64 xg, .string sg, .int .i64 rg, .bool p', .bool q', .bool z'] 49)).alloc (.cells #[.int .u8 0, .int .u8 0, .float .f64 0, .string ⟨#[]⟩, .int .i64 0, .int .u8 0, .float .f64 0, .string ⟨#[]⟩, .int .i64 0, .int .u8 0, .float .f64 0, .string ⟨#[]⟩, .int .i64 0, .bool false, .bool false, .bool false] 49)))
  go_enter Tryz.func103, Tryz.ntmps103
  go_upto_if 12 with (first | ((with_reducible refine d_load ?_ rfl rfl b2 ?_); (rfl)) | (go_at_call 60; (with_reducible refine (has_c _ _ _ _ _ _ _ _ _ _ _ _ _ _ _ _ _ _).mono ?_); rintro e w1 ⟨rfl, h1⟩; have b1 := vblkn h1 b1; have b2 := vblkn h1 b2; have b3 := vblkn h1 b3; have hB0 := vb hB0 h1))
  go_cut [] from 5 to 41 (fun wx => wx.heap[w.heap.size]? = some (.cells #[.int .u8 (bits .or .u8 h h'), sel (hasB h' 1) (.int .u8 kd) (.int .u8 ka), sel (hasB h' 1) (.float .f64 xd) (.float .f64 xa), sel (hasB h' 1) (.string sd) (.string sa), sel (hasB h' 1) (.int .i64 rd) (.int .i64 ra), .int .u8 kb, .float .f64 xb, .string sb, .int .i64 rb, .int .u8 kc, .float .f64 xc, .string sc, .int .i64 rc, .bool p, .bool q, .bool z] 49 (0, 0)) ∧ wx.heap[w.heap.size + 1]? = some (.cells #[.int .u8 h', .int .u8 kd, .float .f64 xd, .string sd, .int .i64 rd, .int .u8 kf, .float .f64 xf, .string sf, .int .i64 rf, .int .u8 kg, .float .f64 xg, .string sg, .int .i64 rg, .bool p', .bool q', .bool z'] 49 (0, 0)) ∧ wx.heap[w.heap.size + 1 + 1]? = some (.cells #[.int .u8 0, .int .u8 0, .float .f64 0, .string ⟨#[]⟩, .int .i64 0, .int .u8 0, .float .f64 0, .string ⟨#[]⟩, .int .i64 0, .int .u8 0, .float .f64 0, .string ⟨#[]⟩, .int .i64 0, .bool false, .bool false, .bool false] 49 (0, 0)) ∧ Below w.heap.size w wx)
  case first =>
    cases hs : hasB h' 1
    · go_wp2
      go_meet
      case rel => rw [hs]; exact ⟨b1, b2, b3, hB0⟩
    · go_wp2_with (first | ((with_reducible refine v_load ?_ rfl rfl b2 rfl rfl rfl rfl ?_); (rfl)) | ((with_reducible refine v_store rfl rfl rfl rfl b1 ?_ ?_ ?_); (exact of_decide_eq_true rfl); (rfl)))
      go_meet
      case rel => rw [hs]; exact ⟨vset1 (vset1 (vset1 (vset1 b1 _ _) _ _) _ _) _ _, vset1o (vset1o (vset1o (vset1o b2 (by simp) _ _) (by simp) _ _) (by simp) _ _) (by simp) _ _, vset1o (vset1o (vset1o (vset1o b3 (by simp; omega) _ _) (by simp; omega) _ _) (by simp; omega) _ _) (by simp; omega) _ _, vbel4' hB0 (Nat.le_refl _) _ _ _ _⟩
  case rest =>
  obtain ⟨b1, b2, b3, hB0⟩ := hcut
  go_upto_if 17 with (first | ((with_reducible refine d_load ?_ rfl rfl b2 ?_); (rfl)) | (go_at_call 60; (with_reducible refine (has_c _ _ _ _ _ _ _ _ _ _ _ _ _ _ _ _ _ _).mono ?_); rintro e w1 ⟨rfl, h1⟩; have b1 := vblkn h1 b1; have b2 := vblkn h1 b2; have b3 := vblkn h1 b3; have hB0 := vb hB0 h1))
  go_cut [] from 5 to 41 (fun wx => wx.heap[w.heap.size]? = some (.cells #[.int .u8 (bits .or .u8 h h'), sel (hasB h' 1) (.int .u8 kd) (.int .u8 ka), sel (hasB h' 1) (.float .f64 xd) (.float .f64 xa), sel (hasB h' 1) (.string sd) (.string sa), sel (hasB h' 1) (.int .i64 rd) (.int .i64 ra), .int .u8 kb, .float .f64 xb, .string sb, .int .i64 rb, .int .u8 kc, .float .f64 xc, .string sc, .int .i64 rc, sel (hasB h' 2) (.bool p') (.bool p), .bool q, .bool z] 49 (0, 0)) ∧ wx.heap[w.heap.size + 1]? = some (.cells #[.int .u8 h', .int .u8 kd, .float .f64 xd, .string sd, .int .i64 rd, .int .u8 kf, .float .f64 xf, .string sf, .int .i64 rf, .int .u8 kg, .float .f64 xg, .string sg, .int .i64 rg, .bool p', .bool q', .bool z'] 49 (0, 0)) ∧ wx.heap[w.heap.size + 1 + 1]? = some (.cells #[.int .u8 0, .int .u8 0, .float .f64 0, .string ⟨#[]⟩, .int .i64 0, .int .u8 0, .float .f64 0, .string ⟨#[]⟩, .int .i64 0, .int .u8 0, .float .f64 0, .string ⟨#[]⟩, .int .i64 0, .bool false, .bool false, .bool false] 49 (0, 0)) ∧ Below w.heap.size w wx)
  case first =>
    cases hs : hasB h' 2
    · go_wp2
      go_meet
      case rel => rw [hs]; exact ⟨b1, b2, b3, hB0⟩
    · have q2 := vcells b2 13
      have f1 := vfz b1 13
      have q1 := vcells b1 13
      go_wp2
      go_meet
      case rel => rw [hs]; exact ⟨vset1 b1 _ _, vset1o b2 (by simp) _ _, vset1o b3 (by simp; omega) _ _, hB0.setCell (p := ⟨w.heap.size, 13, none⟩) (Nat.le_refl _) _⟩
  case rest =>
  obtain ⟨b1, b2, b3, hB0⟩ := hcut
  go_upto_if 22 with (first | ((with_reducible refine d_load ?_ rfl rfl b2 ?_); (rfl)) | (go_at_call 60; (with_reducible refine (has_c _ _ _ _ _ _ _ _ _ _ _ _ _ _ _ _ _ _).mono ?_); rintro e w1 ⟨rfl, h1⟩; have b1 := vblkn h1 b1; have b2 := vblkn h1 b2; have b3 := vblkn h1 b3; have hB0 := vb hB0 h1))
  go_cut [] from 5 to 41 (fun wx => wx.heap[w.heap.size]? = some (.cells #[.int .u8 (bits .or .u8 h h'), sel (hasB h' 1) (.int .u8 kd) (.int .u8 ka), sel (hasB h' 1) (.float .f64 xd) (.float .f64 xa), sel (hasB h' 1) (.string sd) (.string sa), sel (hasB h' 1) (.int .i64 rd) (.int .i64 ra), sel (hasB h' 4) (.int .u8 kf) (.int .u8 kb), sel (hasB h' 4) (.float .f64 xf) (.float .f64 xb), sel (hasB h' 4) (.string sf) (.string sb), sel (hasB h' 4) (.int .i64 rf) (.int .i64 rb), .int .u8 kc, .float .f64 xc, .string sc, .int .i64 rc, sel (hasB h' 2) (.bool p') (.bool p), .bool q, .bool z] 49 (0, 0)) ∧ wx.heap[w.heap.size + 1]? = some (.cells #[.int .u8 h', .int .u8 kd, .float .f64 xd, .string sd, .int .i64 rd, .int .u8 kf, .float .f64 xf, .string sf, .int .i64 rf, .int .u8 kg, .float .f64 xg, .string sg, .int .i64 rg, .bool p', .bool q', .bool z'] 49 (0, 0)) ∧ wx.heap[w.heap.size + 1 + 1]? = some (.cells #[.int .u8 0, .int .u8 0, .float .f64 0, .string ⟨#[]⟩, .int .i64 0, .int .u8 0, .float .f64 0, .string ⟨#[]⟩, .int .i64 0, .int .u8 0, .float .f64 0, .string ⟨#[]⟩, .int .i64 0, .bool false, .bool false, .bool false] 49 (0, 0)) ∧ Below w.heap.size w wx)
  case first =>
    cases hs : hasB h' 4
    · go_wp2
      go_meet
      case rel => rw [hs]; exact ⟨b1, b2, b3, hB0⟩
    · go_wp2_with (first | ((with_reducible refine v_load ?_ rfl rfl b2 rfl rfl rfl rfl ?_); (rfl)) | ((with_reducible refine v_store rfl rfl rfl rfl b1 ?_ ?_ ?_); (exact of_decide_eq_true rfl); (rfl)))
      go_meet
      case rel => rw [hs]; exact ⟨vset1 (vset1 (vset1 (vset1 b1 _ _) _ _) _ _) _ _, vset1o (vset1o (vset1o (vset1o b2 (by simp) _ _) (by simp) _ _) (by simp) _ _) (by simp) _ _, vset1o (vset1o (vset1o (vset1o b3 (by simp; omega) _ _) (by simp; omega) _ _) (by simp; omega) _ _) (by simp; omega) _ _, vbel4' hB0 (Nat.le_refl _) _ _ _ _⟩
  case rest =>
  obtain ⟨b1, b2, b3, hB0⟩ := hcut
  go_upto_if 27 with (first | ((with_reducible refine d_load ?_ rfl rfl b2 ?_); (rfl)) | (go_at_call 60; (with_reducible refine (has_c _ _ _ _ _ _ _ _ _ _ _ _ _ _ _ _ _ _).mono ?_); rintro e w1 ⟨rfl, h1⟩; have b1 := vblkn h1 b1; have b2 := vblkn h1 b2; have b3 := vblkn h1 b3; have hB0 := vb hB0 h1))
  go_cut [] from 5 to 41 (fun wx => wx.heap[w.heap.size]? = some (.cells #[.int .u8 (bits .or .u8 h h'), sel (hasB h' 1) (.int .u8 kd) (.int .u8 ka), sel (hasB h' 1) (.float .f64 xd) (.float .f64 xa), sel (hasB h' 1) (.string sd) (.string sa), sel (hasB h' 1) (.int .i64 rd) (.int .i64 ra), sel (hasB h' 4) (.int .u8 kf) (.int .u8 kb), sel (hasB h' 4) (.float .f64 xf) (.float .f64 xb), sel (hasB h' 4) (.string sf) (.string sb), sel (hasB h' 4) (.int .i64 rf) (.int .i64 rb), sel (hasB h' 8) (.int .u8 kg) (.int .u8 kc), sel (hasB h' 8) (.float .f64 xg) (.float .f64 xc), sel (hasB h' 8) (.string sg) (.string sc), sel (hasB h' 8) (.int .i64 rg) (.int .i64 rc), sel (hasB h' 2) (.bool p') (.bool p), .bool q, .bool z] 49 (0, 0)) ∧ wx.heap[w.heap.size + 1]? = some (.cells #[.int .u8 h', .int .u8 kd, .float .f64 xd, .string sd, .int .i64 rd, .int .u8 kf, .float .f64 xf, .string sf, .int .i64 rf, .int .u8 kg, .float .f64 xg, .string sg, .int .i64 rg, .bool p', .bool q', .bool z'] 49 (0, 0)) ∧ wx.heap[w.heap.size + 1 + 1]? = some (.cells #[.int .u8 0, .int .u8 0, .float .f64 0, .string ⟨#[]⟩, .int .i64 0, .int .u8 0, .float .f64 0, .string ⟨#[]⟩, .int .i64 0, .int .u8 0, .float .f64 0, .string ⟨#[]⟩, .int .i64 0, .bool false, .bool false, .bool false] 49 (0, 0)) ∧ Below w.heap.size w wx)
  case first =>
    cases hs : hasB h' 8
    · go_wp2
      go_meet
      case rel => rw [hs]; exact ⟨b1, b2, b3, hB0⟩
    · go_wp2_with (first | ((with_reducible refine v_load ?_ rfl rfl b2 rfl rfl rfl rfl ?_); (rfl)) | ((with_reducible refine v_store rfl rfl rfl rfl b1 ?_ ?_ ?_); (exact of_decide_eq_true rfl); (rfl)))
      go_meet
      case rel => rw [hs]; exact ⟨vset1 (vset1 (vset1 (vset1 b1 _ _) _ _) _ _) _ _, vset1o (vset1o (vset1o (vset1o b2 (by simp) _ _) (by simp) _ _) (by simp) _ _) (by simp) _ _, vset1o (vset1o (vset1o (vset1o b3 (by simp; omega) _ _) (by simp; omega) _ _) (by simp; omega) _ _) (by simp; omega) _ _, vbel4' hB0 (Nat.le_refl _) _ _ _ _⟩
  case rest =>
  obtain ⟨b1, b2, b3, hB0⟩ := hcut
  go_upto_if 32 with (first | ((with_reducible refine d_load ?_ rfl rfl b2 ?_); (rfl)) | (go_at_call 60; (with_reducible refine (has_c _ _ _ _ _ _ _ _ _ _ _ _ _ _ _ _ _ _).mono ?_); rintro e w1 ⟨rfl, h1⟩; have b1 := vblkn h1 b1; have b2 := vblkn h1 b2; have b3 := vblkn h1 b3; have hB0 := vb hB0 h1))
  go_cut [] from 5 to 41 (fun wx => wx.heap[w.heap.size]? = some (.cells #[.int .u8 (bits .or .u8 h h'), sel (hasB h' 1) (.int .u8 kd) (.int .u8 ka), sel (hasB h' 1) (.float .f64 xd) (.float .f64 xa), sel (hasB h' 1) (.string sd) (.string sa), sel (hasB h' 1) (.int .i64 rd) (.int .i64 ra), sel (hasB h' 4) (.int .u8 kf) (.int .u8 kb), sel (hasB h' 4) (.float .f64 xf) (.float .f64 xb), sel (hasB h' 4) (.string sf) (.string sb), sel (hasB h' 4) (.int .i64 rf) (.int .i64 rb), sel (hasB h' 8) (.int .u8 kg) (.int .u8 kc), sel (hasB h' 8) (.float .f64 xg) (.float .f64 xc), sel (hasB h' 8) (.string sg) (.string sc), sel (hasB h' 8) (.int .i64 rg) (.int .i64 rc), sel (hasB h' 2) (.bool p') (.bool p), sel (hasB h' 16) (.bool q') (.bool q), .bool z] 49 (0, 0)) ∧ wx.heap[w.heap.size + 1]? = some (.cells #[.int .u8 h', .int .u8 kd, .float .f64 xd, .string sd, .int .i64 rd, .int .u8 kf, .float .f64 xf, .string sf, .int .i64 rf, .int .u8 kg, .float .f64 xg, .string sg, .int .i64 rg, .bool p', .bool q', .bool z'] 49 (0, 0)) ∧ wx.heap[w.heap.size + 1 + 1]? = some (.cells #[.int .u8 0, .int .u8 0, .float .f64 0, .string ⟨#[]⟩, .int .i64 0, .int .u8 0, .float .f64 0, .string ⟨#[]⟩, .int .i64 0, .int .u8 0, .float .f64 0, .string ⟨#[]⟩, .int .i64 0, .bool false, .bool false, .bool false] 49 (0, 0)) ∧ Below w.heap.size w wx)
  case first =>
    cases hs : hasB h' 16
    · go_wp2
      go_meet
      case rel => rw [hs]; exact ⟨b1, b2, b3, hB0⟩
    · have q2 := vcells b2 14
      have f1 := vfz b1 14
      have q1 := vcells b1 14
      go_wp2
      go_meet
      case rel => rw [hs]; exact ⟨vset1 b1 _ _, vset1o b2 (by simp) _ _, vset1o b3 (by simp; omega) _ _, hB0.setCell (p := ⟨w.heap.size, 14, none⟩) (Nat.le_refl _) _⟩
  case rest =>
  obtain ⟨b1, b2, b3, hB0⟩ := hcut
  go_upto_if 37 with (first | ((with_reducible refine d_load ?_ rfl rfl b2 ?_); (rfl)) | (go_at_call 60; (with_reducible refine (has_c _ _ _ _ _ _ _ _ _ _ _ _ _ _ _ _ _ _).mono ?_); rintro e w1 ⟨rfl, h1⟩; have b1 := vblkn h1 b1; have b2 := vblkn h1 b2; have b3 := vblkn h1 b3; have hB0 := vb hB0 h1))
  go_cut [] from 5 to 41 (fun wx => wx.heap[w.heap.size]? = some (.cells #[.int .u8 (bits .or .u8 h h'), sel (hasB h' 1) (.int .u8 kd) (.int .u8 ka), sel (hasB h' 1) (.float .f64 xd) (.float .f64 xa), sel (hasB h' 1) (.string sd) (.string sa), sel (hasB h' 1) (.int .i64 rd) (.int .i64 ra), sel (hasB h' 4) (.int .u8 kf) (.int .u8 kb), sel (hasB h' 4) (.float .f64 xf) (.float .f64 xb), sel (hasB h' 4) (.string sf) (.string sb), sel (hasB h' 4) (.int .i64 rf) (.int .i64 rb), sel (hasB h' 8) (.int .u8 kg) (.int .u8 kc), sel (hasB h' 8) (.float .f64 xg) (.float .f64 xc), sel (hasB h' 8) (.string sg) (.string sc), sel (hasB h' 8) (.int .i64 rg) (.int .i64 rc), sel (hasB h' 2) (.bool p') (.bool p), sel (hasB h' 16) (.bool q') (.bool q), sel (hasB h' 32) (.bool z') (.bool z)] 49 (0, 0)) ∧ wx.heap[w.heap.size + 1]? = some (.cells #[.int .u8 h', .int .u8 kd, .float .f64 xd, .string sd, .int .i64 rd, .int .u8 kf, .float .f64 xf, .string sf, .int .i64 rf, .int .u8 kg, .float .f64 xg, .string sg, .int .i64 rg, .bool p', .bool q', .bool z'] 49 (0, 0)) ∧ wx.heap[w.heap.size + 1 + 1]? = some (.cells #[.int .u8 0, .int .u8 0, .float .f64 0, .string ⟨#[]⟩, .int .i64 0, .int .u8 0, .float .f64 0, .string ⟨#[]⟩, .int .i64 0, .int .u8 0, .float .f64 0, .string ⟨#[]⟩, .int .i64 0, .bool false, .bool false, .bool false] 49 (0, 0)) ∧ Below w.heap.size w wx)
  case first =>
    cases hs : hasB h' 32
    · go_wp2
      go_meet
      case rel => rw [hs]; exact ⟨b1, b2, b3, hB0⟩
    · have q2 := vcells b2 15
      have f1 := vfz b1 15
      have q1 := vcells b1 15
      go_wp2
      go_meet
      case rel => rw [hs]; exact ⟨vset1 b1 _ _, vset1o b2 (by simp) _ _, vset1o b3 (by simp; omega) _ _, hB0.setCell (p := ⟨w.heap.size, 15, none⟩) (Nat.le_refl _) _⟩
  case rest =>
  obtain ⟨b1, b2, b3, hB0⟩ := hcut
  have hone : ([.int .u8 (bits .or .u8 h h'), sel (hasB h' 1) (.int .u8 kd) (.int .u8 ka), sel (hasB h' 1) (.float .f64 xd) (.float .f64 xa), sel (hasB h' 1) (.string sd) (.string sa), sel (hasB h' 1) (.int .i64 rd) (.int .i64 ra), sel (hasB h' 4) (.int .u8 kf) (.int .u8 kb), sel (hasB h' 4) (.float .f64 xf) (.float .f64 xb), sel (hasB h' 4) (.string sf) (.string sb), sel (hasB h' 4) (.int .i64 rf) (.int .i64 rb), sel (hasB h' 8) (.int .u8 kg) (.int .u8 kc), sel (hasB h' 8) (.float .f64 xg) (.float .f64 xc), sel (hasB h' 8) (.string sg) (.string sc), sel (hasB h' 8) (.int .i64 rg) (.int .i64 rc), sel (hasB h' 2) (.bool p') (.bool p), sel (hasB h' 16) (.bool q') (.bool q), sel (hasB h' 32) (.bool z') (.bool z)] : List Value).all (·.oneCell') = true := by
    simp only [List.all_cons, List.all_nil, Bool.and_eq_true]
    exact ⟨rfl, sel_one rfl rfl, sel_one rfl rfl, sel_one rfl rfl, sel_one rfl rfl, sel_one rfl rfl, sel_one rfl rfl, sel_one rfl rfl, sel_one rfl rfl, sel_one rfl rfl, sel_one rfl rfl, sel_one rfl rfl, sel_one rfl rfl, sel_one rfl rfl, sel_one rfl rfl, sel_one rfl rfl, trivial⟩
  go_wp2_with (first | ((with_reducible refine d_load ?_ rfl rfl b1 ?_); (rfl)) | (with_reducible refine d_store rfl rfl rfl rfl b3 rfl hone ?_))
  exact d_end Tryz.results103 rfl (setRow_heap _ _ _ _ _ _ b3) ⟨rfl, below_row hB0 (by omega) _⟩
end Go.Proofs.YtpeegmpfkongeaaGreatDoor.S
/-
  Descriptors: Same: the walk. Generated: gen_descsame.py.
-/
namespace Go.Proofs.YtpeegmpfkongeaaGreatDoor.S
open Go.RowKit Fl

theorem has_b {h m : Int} {t : Bool} (ht : hasB h m = t) (ka : Int) (xa : Nat) (sa : ByteArray) (ra : Int) (kb : Int) (xb : Nat) (sb : ByteArray) (rb : Int) (kc : Int) (xc : Nat) (sc : ByteArray) (rc : Int) (p q z : Bool) (w : World) : Calls Tryz.prog 60 #[.agg #[.int .u8 h, .int .u8 ka, .float .f64 xa, .string sa, .int .i64 ra, .int .u8 kb, .float .f64 xb, .string sb, .int .i64 rb, .int .u8 kc, .float .f64 xc, .string sc, .int .i64 rc, .bool p, .bool q, .bool z], .int .u8 m] w fun e w' => e = .returned (.bool t) ∧ Below w.heap.size w w' := ht ▸ has_c h m ka xa sa ra kb xb sb rb kc xc sc rc p q z w
theorem dret {a b : Bool} (h : a = b) : Ending.returned (.bool a) = .returned (.bool b) := by rw [h]
def same7 (t0 f1 f2 f3 f4 f5 f6 : Bool) : Bool := t0 && !f1 && !f2 && !f3 && !f4 && !f5 && !f6
/-- what Same answers, from what is told of the three values -/
def sameD (h h' : Int) (sA sB sC p p' q q' z z' : Bool) : Bool :=
  same7 (h == h') (hasB h 1 && !sA) (hasB h 2 && (p != p')) (hasB h 4 && !sB) (hasB h 8 && !sC) (hasB h 16 && (q != q')) (hasB h 32 && (z != z'))

set_option maxRecDepth 1000000 in
set_option maxHeartbeats 4000000 in
theorem Same_d (h h' : Int) (ka : Int) (xa : Nat) (sa : ByteArray) (ra : Int) (kb : Int) (xb : Nat) (sb : ByteArray) (rb : Int) (kc : Int) (xc : Nat) (sc : ByteArray) (rc : Int) (kd : Int) (xd : Nat) (sd : ByteArray) (rd : Int) (kf : Int) (xf : Nat) (sf : ByteArray) (rf : Int) (kg : Int) (xg : Nat) (sg : ByteArray) (rg : Int) (p q z p' q' z' : Bool) {sA sB sC : Bool} (cA : ∀ w, Calls Tryz.prog 30 #[.agg #[.int .u8 ka, .float .f64 xa, .string sa, .int .i64 ra], .agg #[.int .u8 kd, .float .f64 xd, .string sd, .int .i64 rd]] w fun e w' => e = .returned (.bool sA) ∧ Below w.heap.size w w') (cB : ∀ w, Calls Tryz.prog 30 #[.agg #[.int .u8 kb, .float .f64 xb, .string sb, .int .i64 rb], .agg #[.int .u8 kf, .float .f64 xf, .string sf, .int .i64 rf]] w fun e w' => e = .returned (.bool sB) ∧ Below w.heap.size w w') (cC : ∀ w, Calls Tryz.prog 30 #[.agg #[.int .u8 kc, .float .f64 xc, .string sc, .int .i64 rc], .agg #[.int .u8 kg, .float .f64 xg, .string sg, .int .i64 rg]] w fun e w' => e = .returned (.bool sC) ∧ Below w.heap.size w w') (w : World) : Calls Tryz.prog 32 #[.agg #[.int .u8 h, .int .u8 ka, .float .f64 xa, .string sa, .int .i64 ra, .int .u8 kb, .float .f64 xb, .string sb, .int .i64 rb, .int .u8 kc, .float .f64 xc, .string sc, .int .i64 rc, .bool p, .bool q, .bool z], .agg #[.int .u8 h', .int .u8 kd, .float .f64 xd, .string sd, .int .i64 rd, .int .u8 kf, .float .f64 xf, .string sf, .int .i64 rf, .int .u8 kg, .float .f64 xg, .string sg, .int .i64 rg, .bool p', .bool q', .bool z']] w fun e w' => e = .returned (.bool (sameD h h' sA sB sC p p' q q' z z')) ∧ Below w.heap.size w w' := by
  have hB0 : Below w.heap.size w ((w.alloc (.cells #[.int .u8 h, .int .u8 ka, .float .f64 xa, .string sa, .int .i64 ra, .int .u8 kb, .float .f64 xb, .string sb, .int .i64 rb, .int .u8 kc, .float .f64 xc, .string sc, .int .i64 rc, .bool p, .bool q, .bool z] 49)).alloc (.cells #[.int .u8 h', .int .u8 kd, .float .f64 xd, .string sd, .int .i64 rd, .int .u8 kf, .float .f64 xf, .string sf, .int .i64 rf, .int .u8 kg, .float .f64 xg, .string sg, .int .i64 rg, .bool p', .bool q', .bool z'] 49)) := vafter (vzero _ _)
  obtain ⟨b1, b2⟩ := vblk2 (w := w) (Below.refl _ ((w.alloc (.cells #[.int .u8 h, .int .u8 ka, .float .f64 xa, .string sa, .int .i64 ra, .int .u8 kb, .float .f64 xb, .string sb, .int .i64 rb, .int .u8 kc, .float .f64 xc, .string sc, .int .i64 rc, .bool p, .bool q, .bool z] 49)).alloc (.cells #[.int .u8 h', .int .u8 kd, .float .f64 xd, .string sd, .int .i64 rd, .int .u8 kf, .float .f64 xf, .string sf, .int .i64 rf, .int .u8 kg, .float .f64 xg, .string sg, .int .i64 rg, .bool p', .bool q', .bool z'] 49)))
  have d1 := vcells b1 0
  have d2 := vcells b2 0
  rcases Bool.eq_false_or_eq_true (h == h') with t0 | t0
  rotate_left
  · have n0 : (h != h') = true := by rw [bne, t0]; rfl
    go_enter Tryz.func32, Tryz.ntmps32
    go_upto_region 3 with (fail)
    go_ret
    exact ⟨dret (by unfold sameD same7; rw [t0]; rfl), hB0⟩
  have n0 : (h != h') = false := by rw [bne, t0]; rfl
  have T0 := Lib.hid t0
  clear t0
  go_enter Tryz.func32, Tryz.ntmps32
  go_upto_region 3 with (fail)
  go_cut [11] from 5 to 73 (fun u wx => u = .bool ((hasB h 1 && !sA)) ∧ wx.heap[w.heap.size]? = some (.cells #[.int .u8 h, .int .u8 ka, .float .f64 xa, .string sa, .int .i64 ra, .int .u8 kb, .float .f64 xb, .string sb, .int .i64 rb, .int .u8 kc, .float .f64 xc, .string sc, .int .i64 rc, .bool p, .bool q, .bool z] 49 (0, 0)) ∧ wx.heap[w.heap.size + 1]? = some (.cells #[.int .u8 h', .int .u8 kd, .float .f64 xd, .string sd, .int .i64 rd, .int .u8 kf, .float .f64 xf, .string sf, .int .i64 rf, .int .u8 kg, .float .f64 xg, .string sg, .int .i64 rg, .bool p', .bool q', .bool z'] 49 (0, 0)) ∧ Below w.heap.size w wx)
  case first =>
    rcases Bool.eq_false_or_eq_true (hasB h 1) with hs | hs
    · go_wp2_with (first | ((with_reducible refine d_load ?_ rfl rfl b1 ?_); (rfl)) | ((with_reducible refine v_load ?_ rfl rfl b1 rfl rfl rfl rfl ?_); (rfl)) | ((with_reducible refine v_load ?_ rfl rfl b2 rfl rfl rfl rfl ?_); (rfl)) | (go_at_call 60; (with_reducible refine (has_b hs _ _ _ _ _ _ _ _ _ _ _ _ _ _ _ _).mono ?_); rintro e w1 ⟨rfl, h1⟩; have b1 := vblkn h1 b1; have b2 := vblkn h1 b2; have hB0 := vb hB0 h1) | (go_at_call 30; (with_reducible refine (cA _).mono ?_); rintro e w2 ⟨rfl, h1⟩; have b1 := vblkn h1 b1; have b2 := vblkn h1 b2; have hB0 := vb hB0 h1))
      go_meet
      case rel => rw [hs]; exact ⟨rfl, b1, b2, hB0⟩
    · go_wp2_with (first | ((with_reducible refine d_load ?_ rfl rfl b1 ?_); (rfl)) | ((with_reducible refine v_load ?_ rfl rfl b1 rfl rfl rfl rfl ?_); (rfl)) | ((with_reducible refine v_load ?_ rfl rfl b2 rfl rfl rfl rfl ?_); (rfl)) | (go_at_call 60; (with_reducible refine (has_b hs _ _ _ _ _ _ _ _ _ _ _ _ _ _ _ _).mono ?_); rintro e w1 ⟨rfl, h1⟩; have b1 := vblkn h1 b1; have b2 := vblkn h1 b2; have hB0 := vb hB0 h1))
      go_meet
      case rel => rw [hs]; exact ⟨rfl, b1, b2, hB0⟩
  case rest =>
  obtain ⟨rfl, b1, b2, hB0⟩ := hcut
  rcases Bool.eq_false_or_eq_true (hasB h 1 && !sA) with t1 | t1
  · rw [t1]
    go_wp2
    go_ret
    exact ⟨dret (by unfold sameD same7; rw [T0, t1]; rfl), hB0⟩
  rw [t1]
  have T1 := Lib.hid t1
  clear t1
  go_upto_region 5 with (fail)
  go_cut [22] from 5 to 73 (fun u wx => u = .bool ((hasB h 2 && (p != p'))) ∧ wx.heap[w.heap.size]? = some (.cells #[.int .u8 h, .int .u8 ka, .float .f64 xa, .string sa, .int .i64 ra, .int .u8 kb, .float .f64 xb, .string sb, .int .i64 rb, .int .u8 kc, .float .f64 xc, .string sc, .int .i64 rc, .bool p, .bool q, .bool z] 49 (0, 0)) ∧ wx.heap[w.heap.size + 1]? = some (.cells #[.int .u8 h', .int .u8 kd, .float .f64 xd, .string sd, .int .i64 rd, .int .u8 kf, .float .f64 xf, .string sf, .int .i64 rf, .int .u8 kg, .float .f64 xg, .string sg, .int .i64 rg, .bool p', .bool q', .bool z'] 49 (0, 0)) ∧ Below w.heap.size w wx)
  case first =>
    rcases Bool.eq_false_or_eq_true (hasB h 2) with hs | hs
    · go_wp2_with (first | ((with_reducible refine d_load ?_ rfl rfl b1 ?_); (rfl)) | ((with_reducible refine v_load ?_ rfl rfl b1 rfl rfl rfl rfl ?_); (rfl)) | ((with_reducible refine v_load ?_ rfl rfl b2 rfl rfl rfl rfl ?_); (rfl)) | (go_at_call 60; (with_reducible refine (has_b hs _ _ _ _ _ _ _ _ _ _ _ _ _ _ _ _).mono ?_); rintro e w1 ⟨rfl, h1⟩; have b1 := vblkn h1 b1; have b2 := vblkn h1 b2; have hB0 := vb hB0 h1; have e1 := vcells b1 13; have e2 := vcells b2 13))
      go_meet
      case rel => rw [hs]; exact ⟨rfl, b1, b2, hB0⟩
    · go_wp2_with (first | ((with_reducible refine d_load ?_ rfl rfl b1 ?_); (rfl)) | ((with_reducible refine v_load ?_ rfl rfl b1 rfl rfl rfl rfl ?_); (rfl)) | ((with_reducible refine v_load ?_ rfl rfl b2 rfl rfl rfl rfl ?_); (rfl)) | (go_at_call 60; (with_reducible refine (has_b hs _ _ _ _ _ _ _ _ _ _ _ _ _ _ _ _).mono ?_); rintro e w1 ⟨rfl, h1⟩; have b1 := vblkn h1 b1; have b2 := vblkn h1 b2; have hB0 := vb hB0 h1))
      go_meet
      case rel => rw [hs]; exact ⟨rfl, b1, b2, hB0⟩
  case rest =>
  obtain ⟨rfl, b1, b2, hB0⟩ := hcut
  rcases Bool.eq_false_or_eq_true (hasB h 2 && (p != p')) with t2 | t2
  · rw [t2]
    go_wp2
    go_ret
    exact ⟨dret (by unfold sameD same7; rw [T0, T1, t2]; rfl), hB0⟩
  rw [t2]
  have T2 := Lib.hid t2
  clear t2
  go_upto_region 7 with (fail)
  go_cut [32] from 5 to 73 (fun u wx => u = .bool ((hasB h 4 && !sB)) ∧ wx.heap[w.heap.size]? = some (.cells #[.int .u8 h, .int .u8 ka, .float .f64 xa, .string sa, .int .i64 ra, .int .u8 kb, .float .f64 xb, .string sb, .int .i64 rb, .int .u8 kc, .float .f64 xc, .string sc, .int .i64 rc, .bool p, .bool q, .bool z] 49 (0, 0)) ∧ wx.heap[w.heap.size + 1]? = some (.cells #[.int .u8 h', .int .u8 kd, .float .f64 xd, .string sd, .int .i64 rd, .int .u8 kf, .float .f64 xf, .string sf, .int .i64 rf, .int .u8 kg, .float .f64 xg, .string sg, .int .i64 rg, .bool p', .bool q', .bool z'] 49 (0, 0)) ∧ Below w.heap.size w wx)
  case first =>
    rcases Bool.eq_false_or_eq_true (hasB h 4) with hs | hs
    · go_wp2_with (first | ((with_reducible refine d_load ?_ rfl rfl b1 ?_); (rfl)) | ((with_reducible refine v_load ?_ rfl rfl b1 rfl rfl rfl rfl ?_); (rfl)) | ((with_reducible refine v_load ?_ rfl rfl b2 rfl rfl rfl rfl ?_); (rfl)) | (go_at_call 60; (with_reducible refine (has_b hs _ _ _ _ _ _ _ _ _ _ _ _ _ _ _ _).mono ?_); rintro e w1 ⟨rfl, h1⟩; have b1 := vblkn h1 b1; have b2 := vblkn h1 b2; have hB0 := vb hB0 h1) | (go_at_call 30; (with_reducible refine (cB _).mono ?_); rintro e w2 ⟨rfl, h1⟩; have b1 := vblkn h1 b1; have b2 := vblkn h1 b2; have hB0 := vb hB0 h1))
      go_meet
      case rel => rw [hs]; exact ⟨rfl, b1, b2, hB0⟩
    · go_wp2_with (first | ((with_reducible refine d_load ?_ rfl rfl b1 ?_); (rfl)) | ((with_reducible refine v_load ?_ rfl rfl b1 rfl rfl rfl rfl ?_); (rfl)) | ((with_reducible refine v_load ?_ rfl rfl b2 rfl rfl rfl rfl ?_); (rfl)) | (go_at_call 60; (with_reducible refine (has_b hs _ _ _ _ _ _ _ _ _ _ _ _ _ _ _ _).mono ?_); rintro e w1 ⟨rfl, h1⟩; have b1 := vblkn h1 b1; have b2 := vblkn h1 b2; have hB0 := vb hB0 h1))
      go_meet
      case rel => rw [hs]; exact ⟨rfl, b1, b2, hB0⟩
  case rest =>
  obtain ⟨rfl, b1, b2, hB0⟩ := hcut
  rcases Bool.eq_false_or_eq_true (hasB h 4 && !sB) with t3 | t3
  · rw [t3]
    go_wp2
    go_ret
    exact ⟨dret (by unfold sameD same7; rw [T0, T1, T2, t3]; rfl), hB0⟩
  rw [t3]
  have T3 := Lib.hid t3
  clear t3
  go_upto_region 9 with (fail)
  go_cut [43] from 5 to 73 (fun u wx => u = .bool ((hasB h 8 && !sC)) ∧ wx.heap[w.heap.size]? = some (.cells #[.int .u8 h, .int .u8 ka, .float .f64 xa, .string sa, .int .i64 ra, .int .u8 kb, .float .f64 xb, .string sb, .int .i64 rb, .int .u8 kc, .float .f64 xc, .string sc, .int .i64 rc, .bool p, .bool q, .bool z] 49 (0, 0)) ∧ wx.heap[w.heap.size + 1]? = some (.cells #[.int .u8 h', .int .u8 kd, .float .f64 xd, .string sd, .int .i64 rd, .int .u8 kf, .float .f64 xf, .string sf, .int .i64 rf, .int .u8 kg, .float .f64 xg, .string sg, .int .i64 rg, .bool p', .bool q', .bool z'] 49 (0, 0)) ∧ Below w.heap.size w wx)
  case first =>
    rcases Bool.eq_false_or_eq_true (hasB h 8) with hs | hs
    · go_wp2_with (first | ((with_reducible refine d_load ?_ rfl rfl b1 ?_); (rfl)) | ((with_reducible refine v_load ?_ rfl rfl b1 rfl rfl rfl rfl ?_); (rfl)) | ((with_reducible refine v_load ?_ rfl rfl b2 rfl rfl rfl rfl ?_); (rfl)) | (go_at_call 60; (with_reducible refine (has_b hs _ _ _ _ _ _ _ _ _ _ _ _ _ _ _ _).mono ?_); rintro e w1 ⟨rfl, h1⟩; have b1 := vblkn h1 b1; have b2 := vblkn h1 b2; have hB0 := vb hB0 h1) | (go_at_call 30; (with_reducible refine (cC _).mono ?_); rintro e w2 ⟨rfl, h1⟩; have b1 := vblkn h1 b1; have b2 := vblkn h1 b2; have hB0 := vb hB0 h1))
      go_meet
      case rel => rw [hs]; exact ⟨rfl, b1, b2, hB0⟩
    · go_wp2_with (first | ((with_reducible refine d_load ?_ rfl rfl b1 ?_); (rfl)) | ((with_reducible refine v_load ?_ rfl rfl b1 rfl rfl rfl rfl ?_); (rfl)) | ((with_reducible refine v_load ?_ rfl rfl b2 rfl rfl rfl rfl ?_); (rfl)) | (go_at_call 60; (with_reducible refine (has_b hs _ _ _ _ _ _ _ _ _ _ _ _ _ _ _ _).mono ?_); rintro e w1 ⟨rfl, h1⟩; have b1 := vblkn h1 b1; have b2 := vblkn h1 b2; have hB0 := vb hB0 h1))
      go_meet
      case rel => rw [hs]; exact ⟨rfl, b1, b2, hB0⟩
  case rest =>
  obtain ⟨rfl, b1, b2, hB0⟩ := hcut
  rcases Bool.eq_false_or_eq_true (hasB h 8 && !sC) with t4 | t4
  · rw [t4]
    go_wp2
    go_ret
    exact ⟨dret (by unfold sameD same7; rw [T0, T1, T2, T3, t4]; rfl), hB0⟩
  rw [t4]
  have T4 := Lib.hid t4
  clear t4
  go_upto_region 11 with (fail)
  go_cut [54] from 5 to 73 (fun u wx => u = .bool ((hasB h 16 && (q != q'))) ∧ wx.heap[w.heap.size]? = some (.cells #[.int .u8 h, .int .u8 ka, .float .f64 xa, .string sa, .int .i64 ra, .int .u8 kb, .float .f64 xb, .string sb, .int .i64 rb, .int .u8 kc, .float .f64 xc, .string sc, .int .i64 rc, .bool p, .bool q, .bool z] 49 (0, 0)) ∧ wx.heap[w.heap.size + 1]? = some (.cells #[.int .u8 h', .int .u8 kd, .float .f64 xd, .string sd, .int .i64 rd, .int .u8 kf, .float .f64 xf, .string sf, .int .i64 rf, .int .u8 kg, .float .f64 xg, .string sg, .int .i64 rg, .bool p', .bool q', .bool z'] 49 (0, 0)) ∧ Below w.heap.size w wx)
  case first =>
    rcases Bool.eq_false_or_eq_true (hasB h 16) with hs | hs
    · go_wp2_with (first | ((with_reducible refine d_load ?_ rfl rfl b1 ?_); (rfl)) | ((with_reducible refine v_load ?_ rfl rfl b1 rfl rfl rfl rfl ?_); (rfl)) | ((with_reducible refine v_load ?_ rfl rfl b2 rfl rfl rfl rfl ?_); (rfl)) | (go_at_call 60; (with_reducible refine (has_b hs _ _ _ _ _ _ _ _ _ _ _ _ _ _ _ _).mono ?_); rintro e w1 ⟨rfl, h1⟩; have b1 := vblkn h1 b1; have b2 := vblkn h1 b2; have hB0 := vb hB0 h1; have e1 := vcells b1 14; have e2 := vcells b2 14))
      go_meet
      case rel => rw [hs]; exact ⟨rfl, b1, b2, hB0⟩
    · go_wp2_with (first | ((with_reducible refine d_load ?_ rfl rfl b1 ?_); (rfl)) | ((with_reducible refine v_load ?_ rfl rfl b1 rfl rfl rfl rfl ?_); (rfl)) | ((with_reducible refine v_load ?_ rfl rfl b2 rfl rfl rfl rfl ?_); (rfl)) | (go_at_call 60; (with_reducible refine (has_b hs _ _ _ _ _ _ _ _ _ _ _ _ _ _ _ _).mono ?_); rintro e w1 ⟨rfl, h1⟩; have b1 := vblkn h1 b1; have b2 := vblkn h1 b2; have hB0 := vb hB0 h1))
      go_meet
      case rel => rw [hs]; exact ⟨rfl, b1, b2, hB0⟩
  case rest =>
  obtain ⟨rfl, b1, b2, hB0⟩ := hcut
  rcases Bool.eq_false_or_eq_true (hasB h 16 && (q != q')) with t5 | t5
  · rw [t5]
    go_wp2
    go_ret
    exact ⟨dret (by unfold sameD same7; rw [T0, T1, T2, T3, T4, t5]; rfl), hB0⟩
  rw [t5]
  have T5 := Lib.hid t5
  clear t5
  go_upto_region 13 with (fail)
  go_cut [4] from 5 to 73 (fun u wx => u = .bool (!(hasB h 32 && (z != z'))) ∧ wx.heap[w.heap.size]? = some (.cells #[.int .u8 h, .int .u8 ka, .float .f64 xa, .string sa, .int .i64 ra, .int .u8 kb, .float .f64 xb, .string sb, .int .i64 rb, .int .u8 kc, .float .f64 xc, .string sc, .int .i64 rc, .bool p, .bool q, .bool z] 49 (0, 0)) ∧ wx.heap[w.heap.size + 1]? = some (.cells #[.int .u8 h', .int .u8 kd, .float .f64 xd, .string sd, .int .i64 rd, .int .u8 kf, .float .f64 xf, .string sf, .int .i64 rf, .int .u8 kg, .float .f64 xg, .string sg, .int .i64 rg, .bool p', .bool q', .bool z'] 49 (0, 0)) ∧ Below w.heap.size w wx)
  case first =>
    rcases Bool.eq_false_or_eq_true (hasB h 32) with hs | hs
    · go_wp2_with (first | ((with_reducible refine d_load ?_ rfl rfl b1 ?_); (rfl)) | ((with_reducible refine v_load ?_ rfl rfl b1 rfl rfl rfl rfl ?_); (rfl)) | ((with_reducible refine v_load ?_ rfl rfl b2 rfl rfl rfl rfl ?_); (rfl)) | (go_at_call 60; (with_reducible refine (has_b hs _ _ _ _ _ _ _ _ _ _ _ _ _ _ _ _).mono ?_); rintro e w1 ⟨rfl, h1⟩; have b1 := vblkn h1 b1; have b2 := vblkn h1 b2; have hB0 := vb hB0 h1; have e1 := vcells b1 15; have e2 := vcells b2 15))
      go_meet
      case rel => rw [hs]; exact ⟨by rw [Bool.true_and, bne, Bool.not_not], b1, b2, hB0⟩
    · go_wp2_with (first | ((with_reducible refine d_load ?_ rfl rfl b1 ?_); (rfl)) | ((with_reducible refine v_load ?_ rfl rfl b1 rfl rfl rfl rfl ?_); (rfl)) | ((with_reducible refine v_load ?_ rfl rfl b2 rfl rfl rfl rfl ?_); (rfl)) | (go_at_call 60; (with_reducible refine (has_b hs _ _ _ _ _ _ _ _ _ _ _ _ _ _ _ _).mono ?_); rintro e w1 ⟨rfl, h1⟩; have b1 := vblkn h1 b1; have b2 := vblkn h1 b2; have hB0 := vb hB0 h1))
      go_meet
      case rel => rw [hs]; exact ⟨rfl, b1, b2, hB0⟩
  case rest =>
  obtain ⟨rfl, b1, b2, hB0⟩ := hcut
  go_wp2
  go_ret
  exact ⟨dret (by unfold sameD same7; rw [T0, T1, T2, T3, T4, T5]; rfl), hB0⟩
end Go.Proofs.YtpeegmpfkongeaaGreatDoor.S
/-
  Values in letters, their kinds whole numbers: what may be, what can stand as a Get or Set, when two are the same: contracts that hang on the letters alone.
-/
namespace Go.Proofs.YtpeegmpfkongeaaGreatDoor.S
open Go.RowKit Fl

/-- a value that may come in -/
def VIn (k : Int) (x : Nat) (r : Int) : Prop := 0 ≤ k ∧ k < 256 ∧ x < 2 ^ 64 ∧ r < 2 ^ 63
/-- a value that may be -/
def VOk (k : Int) (x : Nat) (s : ByteArray) (r : Int) : Prop := ∃ v : Vl, v.ok ∧ (v.kd : Int) = k ∧ v.fl = x ∧ v.st = s ∧ v.rf = r
noncomputable def mayI (k : Int) (x : Nat) (s : ByteArray) (r : Int) : Bool := @decide (VOk k x s r) (Classical.propDecidable _)
theorem mayI_iff {k : Int} {x : Nat} {s : ByteArray} {r : Int} : mayI k x s r = true ↔ VOk k x s r := by unfold mayI; exact @decide_eq_true_iff _ (Classical.propDecidable _)
theorem may_i {ka : Int} {xa : Nat} {sa : ByteArray} {ra : Int} (h : VIn ka xa ra) (w : World) : Calls Tryz.prog 111 #[.agg #[.int .u8 ka, .float .f64 xa, .string sa, .int .i64 ra]] w fun e w' => e = .returned (.bool (mayI ka xa sa ra)) ∧ Below w.heap.size w w' := by
  obtain ⟨h0, h1, hx, hr⟩ := h
  obtain ⟨n, rfl⟩ := Int.eq_ofNat_of_zero_le h0
  by_cases hv : VOk (n : Int) xa sa ra
  · rw [mayI_iff.2 hv]
    obtain ⟨v, ok, hk, rfl, rfl, rfl⟩ := hv
    obtain rfl : v.kd = n := by omega
    exact May_ok ok w
  · refine (May_any n xa sa ra w hx hr).mono fun e w' ⟨b, he, hb, g⟩ => ⟨?_, hb⟩
    have hm : mayI (n : Int) xa sa ra = false := by cases hh : mayI (n : Int) xa sa ra with | false => rfl | true => exact absurd (mayI_iff.1 hh) hv
    rw [hm]
    cases b with
    | false => exact he
    | true =>
      obtain ⟨v, ok, hk, h3, h4, h5⟩ := g rfl
      exact absurd ⟨v, ok, by rw [hk], h3, h4, h5⟩ hv
/-- of a value that may stand as a Get or Set -/
def calI (k : Int) : Bool := k == 0 || (k == 7 || k == 8)
noncomputable def callsI (k : Int) (x : Nat) (s : ByteArray) (r : Int) : Bool := mayI k x s r && calI k
theorem Calls_i {ka : Int} {xa : Nat} {sa : ByteArray} {ra : Int} (h : 0 ≤ ka) (w : World) : Calls Tryz.prog 97 #[.agg #[.int .u8 ka, .float .f64 xa, .string sa, .int .i64 ra]] w fun e w' => e = .returned (.bool (ka == 7 || ka == 8)) ∧ Below w.heap.size w w' := by
  obtain ⟨n, rfl⟩ := Int.eq_ofNat_of_zero_le h
  have := Calls_v n xa sa ra w
  unfold calB at this
  rw [← kd_eq n 7, ← kd_eq n 8] at this
  exact this
theorem calls_i {ka : Int} {xa : Nat} {sa : ByteArray} {ra : Int} (h : VIn ka xa ra) (w : World) : Calls Tryz.prog 141 #[.agg #[.int .u8 ka, .float .f64 xa, .string sa, .int .i64 ra]] w fun e w' => e = .returned (.bool (callsI ka xa sa ra)) ∧ Below w.heap.size w w' := by
  have c1 := fun w => may_i (sa := sa) h w
  have c2 := fun w => Calls_i (xa := xa) (sa := sa) (ra := ra) h.1 w
  have hb := heap_alloc_new w (.cells #[.int .u8 ka, .float .f64 xa, .string sa, .int .i64 ra] 31)
  obtain ⟨q0, q1, q2, q3, _⟩ := vc4 hb
  unfold callsI calI
  rcases Bool.eq_false_or_eq_true (mayI ka xa sa ra) with hm | hm
  · rw [hm] at c1
    rcases Bool.eq_false_or_eq_true (ka == 0) with h0 | h0
    all_goals
      go_enter Tryz.func141, Tryz.ntmps141
      go_wp2_with (first
        | (go_at_call 111; (with_reducible refine (c1 _).mono ?_); rintro e w1 ⟨rfl, h1⟩; obtain ⟨q0, q1, q2, q3, _⟩ := vc4 (vblkn h1 hb); have hB := vafter h1)
        | (go_at_call 97; (with_reducible refine (c2 _).mono ?_); rintro e w2 ⟨rfl, h2⟩; have hB := vb hB h2))
      go_ret
      exact ⟨dret (by rw [hm, h0]; simp), hB⟩
  · rw [hm] at c1
    go_enter Tryz.func141, Tryz.ntmps141
    go_wp2_with (go_at_call 111; (with_reducible refine (c1 _).mono ?_); rintro e w1 ⟨rfl, h1⟩; have hB := vafter h1)
    go_ret
    exact ⟨dret (by rw [hm]; rfl), hB⟩
/-- whether two values are the same -/
def sameI (k : Int) (x : Nat) (s : ByteArray) (r : Int) (k' : Int) (x' : Nat) (s' : ByteArray) (r' : Int) : Bool := sameG k.toNat x s r k'.toNat x' s' r'
theorem same_i {ka : Int} {xa : Nat} {sa : ByteArray} {ra : Int} {kb : Int} {xb : Nat} {sb : ByteArray} {rb : Int} (h : 0 ≤ ka ∧ ka ≤ 8) (h' : 0 ≤ kb) (w : World) : Calls Tryz.prog 30 #[.agg #[.int .u8 ka, .float .f64 xa, .string sa, .int .i64 ra], .agg #[.int .u8 kb, .float .f64 xb, .string sb, .int .i64 rb]] w fun e w' => e = .returned (.bool (sameI ka xa sa ra kb xb sb rb)) ∧ Below w.heap.size w w' := by
  obtain ⟨n, rfl⟩ := Int.eq_ofNat_of_zero_le h.1
  obtain ⟨m, rfl⟩ := Int.eq_ofNat_of_zero_le h'
  exact Same_any n xa sa ra m xb sb rb (by omega) w
theorem same_i_refl {ka : Int} {xa : Nat} {sa : ByteArray} {ra : Int} (h : VOk ka xa sa ra) : sameI ka xa sa ra ka xa sa ra = true := by
  obtain ⟨v, ok, rfl, rfl, rfl, rfl⟩ := h
  exact sameV_refl ok
theorem vok_kind {ka : Int} {xa : Nat} {sa : ByteArray} {ra : Int} (h : VOk ka xa sa ra) : 0 ≤ ka ∧ ka ≤ 8 := by
  obtain ⟨v, ok, rfl, rfl, rfl, rfl⟩ := h
  cases v with
  | obj k r => have := ok.1; simp only [Vl.kd]; omega
  | _ => simp only [Vl.kd]; omega
theorem vok_und : VOk 0 0 ⟨#[]⟩ 0 := ⟨.und, trivial, rfl, rfl, rfl, rfl⟩
end Go.Proofs.YtpeegmpfkongeaaGreatDoor.S
/-
  Two descriptors compared by ==, the second with no field but its Has.
-/
namespace Go.Proofs.YtpeegmpfkongeaaGreatDoor.S
open Go.RowKit Fl

def zV (k : Int) (x : Nat) (s : ByteArray) (r : Int) : Bool := k == 0 && (feq x 0 && (s.toList.isEmpty && r == 0))
theorem eq_val (d : Nat) (ka : Int) (xa : Nat) (sa : ByteArray) (ra : Int) (w : World) : (Op.equalIn (d + 2) 31 (.agg #[.int .u8 ka, .float .f64 xa, .string sa, .int .i64 ra]) (.agg #[.int .u8 0, .float .f64 0, .string ⟨#[]⟩, .int .i64 0])).run Tryz.prog w = .ok (zV ka xa sa ra) w := by
  have hv := veq_float d xa 0 w
  have z3 : (⟨#[]⟩ : ByteArray).toList = [] := by rw [toList_data]
  simp only [zV]
  by_cases h1 : ka = 0 <;> cases h2 : feq xa 0 <;> by_cases h3 : sa.toList = [] <;> by_cases h4 : ra = 0 <;> (rw [h2] at hv; simp [go_sem, run_equalIn_struct, Tryz.underlying31, hv, z3, h1, h3, h4])
def zD (o h : Int) (va vb vc p q z : Bool) : Bool := o == h && (va && (vb && (vc && (!p && (!q && !z)))))
theorem fields_step {d : Nat} {xs ys : Array Value} {f : Field} {fs : List Field} {a b : Value} {r : Bool} {w : World} (hn : f.name ≠ "_") (ha : (part f.type xs f.offset).run Tryz.prog w = .ok a w) (hb : (part f.type ys f.offset).run Tryz.prog w = .ok b w)
    (hr : (Op.equalIn d f.type a b).run Tryz.prog w = .ok r w) {t : Bool} (h : (Op.eqFields d xs ys fs).run Tryz.prog w = .ok t w) : (Op.eqFields d xs ys (f :: fs)).run Tryz.prog w = .ok (r && t) w := by
  simp only [Op.eqFields, if_pos hn, Sem.run_bind, ha, hb, hr, Result.andThen_ok]
  cases r <;> simp [h]
set_option maxRecDepth 100000 in
theorem eq_desc (d : Nat) (o h : Int) (ka : Int) (xa : Nat) (sa : ByteArray) (ra : Int) (kb : Int) (xb : Nat) (sb : ByteArray) (rb : Int) (kc : Int) (xc : Nat) (sc : ByteArray) (rc : Int) (p q z : Bool) (w : World) : (Op.equalIn (d + 3) 49 (.agg #[.int .u8 o, .int .u8 ka, .float .f64 xa, .string sa, .int .i64 ra, .int .u8 kb, .float .f64 xb, .string sb, .int .i64 rb, .int .u8 kc, .float .f64 xc, .string sc, .int .i64 rc, .bool p, .bool q, .bool z]) (.agg #[.int .u8 h, .int .u8 0, .float .f64 0, .string ⟨#[]⟩, .int .i64 0, .int .u8 0, .float .f64 0, .string ⟨#[]⟩, .int .i64 0, .int .u8 0, .float .f64 0, .string ⟨#[]⟩, .int .i64 0, .bool false, .bool false, .bool false])).run Tryz.prog w = .ok (zD o h (zV ka xa sa ra) (zV kb xb sb rb) (zV kc xc sc rc) p q z) w := by
  rw [run_equalIn_struct _ _ _ _ _ (by kernel_rfl) (by kernel_rfl)]
  simp only [Program.fieldsOf, Tryz.underlying49]
  unfold zD
  refine fields_step (by decide) (a := .int .u8 o) (b := .int .u8 h) (by simp [go_sem]) (by simp [go_sem]) (by simp [go_sem]) ?_
  refine fields_step (by decide) (a := .agg #[.int .u8 ka, .float .f64 xa, .string sa, .int .i64 ra]) (b := .agg #[.int .u8 0, .float .f64 0, .string ⟨#[]⟩, .int .i64 0]) (by simp [go_sem]) (by simp [go_sem]) (eq_val d ka xa sa ra w) ?_
  refine fields_step (by decide) (a := .agg #[.int .u8 kb, .float .f64 xb, .string sb, .int .i64 rb]) (b := .agg #[.int .u8 0, .float .f64 0, .string ⟨#[]⟩, .int .i64 0]) (by simp [go_sem]) (by simp [go_sem]) (eq_val d kb xb sb rb w) ?_
  refine fields_step (by decide) (a := .agg #[.int .u8 kc, .float .f64 xc, .string sc, .int .i64 rc]) (b := .agg #[.int .u8 0, .float .f64 0, .string ⟨#[]⟩, .int .i64 0]) (by simp [go_sem]) (by simp [go_sem]) (eq_val d kc xc sc rc w) ?_
  refine fields_step (by decide) (a := .bool p) (b := .bool false) (by simp [go_sem]) (by simp [go_sem]) (by cases p <;> simp [go_sem]) ?_
  refine fields_step (by decide) (a := .bool q) (b := .bool false) (by simp [go_sem]) (by simp [go_sem]) (by cases q <;> simp [go_sem]) ?_
  have h0 : (Op.eqFields (d + 2) (#[.int .u8 o, .int .u8 ka, .float .f64 xa, .string sa, .int .i64 ra, .int .u8 kb, .float .f64 xb, .string sb, .int .i64 rb, .int .u8 kc, .float .f64 xc, .string sc, .int .i64 rc, .bool p, .bool q, .bool z]) (#[.int .u8 h, .int .u8 0, .float .f64 0, .string ⟨#[]⟩, .int .i64 0, .int .u8 0, .float .f64 0, .string ⟨#[]⟩, .int .i64 0, .int .u8 0, .float .f64 0, .string ⟨#[]⟩, .int .i64 0, .bool false, .bool false, .bool false]) []).run Tryz.prog w = .ok true w := by simp [Op.eqFields]
  have := fields_step (f := { name := "Configurable", type := 4, offset := 15, embedded := false, tag := "", pkgPath := "", byteOffset := 130 }) (by decide) (a := .bool z) (b := .bool false) (by simp [go_sem]) (by simp [go_sem]) (r := !z) (by cases z <;> simp [go_sem]) h0
  rw [Bool.and_true] at this
  exact this
end Go.Proofs.YtpeegmpfkongeaaGreatDoor.S
/-
  Regions that draw, with loads of whole descriptors and a comparison of two: laws of one operation under what the world holds.
-/
namespace Go.Proofs.YtpeegmpfkongeaaGreatDoor.S
open Go.RowKit Fl

theorem hput_some (xs : List Value) (d : List Deferred) (i : Nat) (v : Value) : Act.put ⟨xs.toArray, d⟩ (some i) v = ⟨(xs.set i v).toArray, d⟩ := by simp [Act.put]
theorem hH_take {P : Program} {ops : Array Oper} {Q : Exit → Act → World → Prop} {md : Region.Mode} {S : World → Prop} {i d : Nat} {oi : Oper} {v : Value} {fuel : Nat} {listed l2 : Array Bool} {xs : List Value} {ds : List Deferred} {w : World} (hi : ops[i]? = some oi)
    (hs : Region.noSelect ops = true) (hf : Region.free md ops listed i = true) (hr : (Region.ready md ops listed).contains i = true)
    (hQ : ∀ c a w, Q (.panic c) (a.put oi.dst v) w → Q (.panic c) a w) (hw : Region.wanted oi (yielded ops (Act.mk xs.toArray ds).tmps) = true) (hv : ∀ w, S w → (execOp (Act.mk xs.toArray ds).eval oi).run P w = .ok (.value v) w) (hS : S w) (hd : oi.dst = some d) (hl : listed.setIfInBounds i true = l2)
    (h : wpAnyH P md ops Q S fuel l2 ⟨(xs.set d v).toArray, ds⟩ w) : wpAnyH P md ops Q S (fuel + 1) listed ⟨xs.toArray, ds⟩ w :=
  wpAnyH_take hi hs hf hr hQ (Or.inl ⟨hw, hv⟩) hS (by rw [hd, hput_some, hl]; exact h)
theorem hH_drop {P : Program} {ops : Array Oper} {Q : Exit → Act → World → Prop} {md : Region.Mode} {S : World → Prop} {i d : Nat} {oi : Oper} {fuel : Nat} {listed l2 : Array Bool} {xs : List Value} {ds : List Deferred} {w : World} (hi : ops[i]? = some oi)
    (hs : Region.noSelect ops = true) (hf : Region.free md ops listed i = true) (hr : (Region.ready md ops listed).contains i = true)
    (hQ : ∀ c a w, Q (.panic c) (a.put oi.dst undef) w → Q (.panic c) a w) (hw : Region.wanted oi (yielded ops (Act.mk xs.toArray ds).tmps) = false) (hS : S w) (hd : oi.dst = some d) (hl : listed.setIfInBounds i true = l2)
    (h : wpAnyH P md ops Q S fuel l2 ⟨(xs.set d undef).toArray, ds⟩ w) : wpAnyH P md ops Q S (fuel + 1) listed ⟨xs.toArray, ds⟩ w :=
  wpAnyH_take hi hs hf hr hQ (Or.inr ⟨hw, rfl⟩) hS (by rw [hd, hput_some, hl]; exact h)
section
variable {a : Act} {o : Oper} {w : World} {x y : Operand} {g : Nat} {t : TypeId} {c0 c1 c2 c3 c4 c5 c6 c7 c8 c9 c10 c11 c12 c13 c14 c15 : Value}
theorem ex_load (ho : o.op = .load 49 x) (hx : a.eval x = .pointer (some ⟨g, 0, none⟩)) (hg : w.heap[g]? = some (.cells #[c0, c1, c2, c3, c4, c5, c6, c7, c8, c9, c10, c11, c12, c13, c14, c15] t (0, 0))) :
    (execOp a.eval o).run Tryz.prog w = .ok (.value (.agg #[c0, c1, c2, c3, c4, c5, c6, c7, c8, c9, c10, c11, c12, c13, c14, c15])) w := by
  unfold execOp
  simp only [ho, hx, Instr.loadAt, Instr.sureAddr, Sem.run_bind, Sem.run_pure, Result.andThen_ok, run_loadVar_row (P := Tryz.prog) w g t 49 _ (0, 0) _ hg Tryz.underlying49 rfl dsz]
theorem ex_neq {n h : Int} {p q z : Bool} {kd : Int} {xd : Nat} {sd : ByteArray} {rd : Int} {ke : Int} {xe : Nat} {se : ByteArray} {re : Int} {kf : Int} {xf : Nat} {sf : ByteArray} {rf : Int} (ho : o.op = .binOp .neq 49 x y 49) (hx : a.eval x = .agg #[.int .u8 n, .int .u8 kd, .float .f64 xd, .string sd, .int .i64 rd, .int .u8 ke, .float .f64 xe, .string se, .int .i64 re, .int .u8 kf, .float .f64 xf, .string sf, .int .i64 rf, .bool p, .bool q, .bool z]) (hy : a.eval y = .agg #[.int .u8 h, .int .u8 0, .float .f64 0, .string ⟨#[]⟩, .int .i64 0, .int .u8 0, .float .f64 0, .string ⟨#[]⟩, .int .i64 0, .int .u8 0, .float .f64 0, .string ⟨#[]⟩, .int .i64 0, .bool false, .bool false, .bool false]) :
    (execOp a.eval o).run Tryz.prog w = .ok (.value (.bool (!zD n h (zV kd xd sd rd) (zV ke xe se re) (zV kf xf sf rf) p q z))) w := by
  have he := eq_desc 9997 n h kd xd sd rd ke xe se re kf xf sf rf p q z w
  unfold execOp
  simp only [ho, hx, hy, Sem.run_bind, Sem.run_pure, run_eqGuard_agg w _ _ _ _ _ _ (show Tryz.prog.eqGuardType Tryz.prog.depth 49 = false by kernel_rfl), run_neq_struct, he, Result.andThen_ok]
end
end Go.Proofs.YtpeegmpfkongeaaGreatDoor.S
