/-
  The law's left: a descriptor's fields that another one has; the law's long. Generated: gen_descleft.py.
-/
import Derived.Test.YtlgbnfcnimjheaaDescStay
namespace Go.Proofs.Ytlgbnfcnimjheaa.S
open Go.RowKit Fl

theorem vset_same {w : World} {g : Nat} {t : TypeId} {cs : Array Value} (h : w.heap[g]? = some (.cells cs t (0, 0))) (cs2 : Array Value) : (w.setRow g cs2).heap[g]? = some (.cells cs2 t (0, 0)) := setRow_heap w g cs cs2 t (0, 0) h
set_option maxRecDepth 1000000 in
set_option maxHeartbeats 4000000 in
theorem left_c (h m n : Int) (hn0 : bits .and .u8 h m = n) (ka : Int) (xa : Nat) (sa : ByteArray) (ra : Int) (kb : Int) (xb : Nat) (sb : ByteArray) (rb : Int) (kc : Int) (xc : Nat) (sc : ByteArray) (rc : Int) (p q z : Bool) (w : World) : Calls Try.prog 10 #[.agg #[.int .u8 h, .int .u8 ka, .float .f64 xa, .string sa, .int .i64 ra, .int .u8 kb, .float .f64 xb, .string sb, .int .i64 rb, .int .u8 kc, .float .f64 xc, .string sc, .int .i64 rc, .bool p, .bool q, .bool z], .int .u8 m] w fun e w' => e = .returned (.agg #[.int .u8 n, sel (hasB n 1) (.int .u8 ka) (.int .u8 0), sel (hasB n 1) (.float .f64 xa) (.float .f64 0), sel (hasB n 1) (.string sa) (.string ⟨#[]⟩), sel (hasB n 1) (.int .i64 ra) (.int .i64 0), sel (hasB n 4) (.int .u8 kb) (.int .u8 0), sel (hasB n 4) (.float .f64 xb) (.float .f64 0), sel (hasB n 4) (.string sb) (.string ⟨#[]⟩), sel (hasB n 4) (.int .i64 rb) (.int .i64 0), sel (hasB n 8) (.int .u8 kc) (.int .u8 0), sel (hasB n 8) (.float .f64 xc) (.float .f64 0), sel (hasB n 8) (.string sc) (.string ⟨#[]⟩), sel (hasB n 8) (.int .i64 rc) (.int .i64 0), sel (hasB n 2) (.bool p) (.bool false), sel (hasB n 16) (.bool q) (.bool false), sel (hasB n 32) (.bool z) (.bool false)]) ∧ Below w.heap.size w w' := by
  have hst := vstore
  obtain ⟨b1, b2, b3⟩ := vblk3 (w := w) (Below.refl _ (((w.alloc (.cells #[.int .u8 h, .int .u8 ka, .float .f64 xa, .string sa, .int .i64 ra, .int .u8 kb, .float .f64 xb, .string sb, .int .i64 rb, .int .u8 kc, .float .f64 xc, .string sc, .int .i64 rc, .bool p, .bool q, .bool z] 26)).alloc (.cells #[.int .u8 0, .int .u8 0, .float .f64 0, .string ⟨#[]⟩, .int .i64 0, .int .u8 0, .float .f64 0, .string ⟨#[]⟩, .int .i64 0, .int .u8 0, .float .f64 0, .string ⟨#[]⟩, .int .i64 0, .bool false, .bool false, .bool false] 26)).alloc (.cells #[.int .u8 0, .int .u8 0, .float .f64 0, .string ⟨#[]⟩, .int .i64 0, .int .u8 0, .float .f64 0, .string ⟨#[]⟩, .int .i64 0, .int .u8 0, .float .f64 0, .string ⟨#[]⟩, .int .i64 0, .bool false, .bool false, .bool false] 26)))
  have hB0 : Below w.heap.size w ((((w.alloc (.cells #[.int .u8 h, .int .u8 ka, .float .f64 xa, .string sa, .int .i64 ra, .int .u8 kb, .float .f64 xb, .string sb, .int .i64 rb, .int .u8 kc, .float .f64 xc, .string sc, .int .i64 rc, .bool p, .bool q, .bool z] 26)).alloc (.cells #[.int .u8 0, .int .u8 0, .float .f64 0, .string ⟨#[]⟩, .int .i64 0, .int .u8 0, .float .f64 0, .string ⟨#[]⟩, .int .i64 0, .int .u8 0, .float .f64 0, .string ⟨#[]⟩, .int .i64 0, .bool false, .bool false, .bool false] 26)).alloc (.cells #[.int .u8 0, .int .u8 0, .float .f64 0, .string ⟨#[]⟩, .int .i64 0, .int .u8 0, .float .f64 0, .string ⟨#[]⟩, .int .i64 0, .int .u8 0, .float .f64 0, .string ⟨#[]⟩, .int .i64 0, .bool false, .bool false, .bool false] 26)).setRow (w.heap.size + 1 + 1) #[.int .u8 n, .int .u8 0, .float .f64 0, .string ⟨#[]⟩, .int .i64 0, .int .u8 0, .float .f64 0, .string ⟨#[]⟩, .int .i64 0, .int .u8 0, .float .f64 0, .string ⟨#[]⟩, .int .i64 0, .bool false, .bool false, .bool false]) := below_row (vafter2 (vzero _ _)) (by omega) _
  have hone0 : ([.int .u8 (bits .and .u8 h m), .int .u8 0, .float .f64 0, .string ⟨#[]⟩, .int .i64 0, .int .u8 0, .float .f64 0, .string ⟨#[]⟩, .int .i64 0, .int .u8 0, .float .f64 0, .string ⟨#[]⟩, .int .i64 0, .bool false, .bool false, .bool false] : List Value).all (·.oneCell') = true := rfl
  have a3 := b3
  have b3 := vset_same b3 #[.int .u8 n, .int .u8 0, .float .f64 0, .string ⟨#[]⟩, .int .i64 0, .int .u8 0, .float .f64 0, .string ⟨#[]⟩, .int .i64 0, .int .u8 0, .float .f64 0, .string ⟨#[]⟩, .int .i64 0, .bool false, .bool false, .bool false]
  have b1 := vset_o b1 (j := w.heap.size + 1 + 1) (by omega) #[.int .u8 n, .int .u8 0, .float .f64 0, .string ⟨#[]⟩, .int .i64 0, .int .u8 0, .float .f64 0, .string ⟨#[]⟩, .int .i64 0, .int .u8 0, .float .f64 0, .string ⟨#[]⟩, .int .i64 0, .bool false, .bool false, .bool false]
  have b2 := vset_o b2 (j := w.heap.size + 1 + 1) (by omega) #[.int .u8 n, .int .u8 0, .float .f64 0, .string ⟨#[]⟩, .int .i64 0, .int .u8 0, .float .f64 0, .string ⟨#[]⟩, .int .i64 0, .int .u8 0, .float .f64 0, .string ⟨#[]⟩, .int .i64 0, .bool false, .bool false, .bool false]
  have e0 := vcells b3 0
  subst hn0
  go_enter Try.func10, Try.ntmps10
  go_upto_if 14 with ((with_reducible refine d_store rfl rfl rfl rfl a3 ?_ hone0 ?_); (rfl))
  go_cut [] from 6 to 53 (fun wx => wx.heap[w.heap.size]? = some (.cells #[.int .u8 h, .int .u8 ka, .float .f64 xa, .string sa, .int .i64 ra, .int .u8 kb, .float .f64 xb, .string sb, .int .i64 rb, .int .u8 kc, .float .f64 xc, .string sc, .int .i64 rc, .bool p, .bool q, .bool z] 26 (0, 0)) ∧ wx.heap[w.heap.size + 1]? = some (.cells #[.int .u8 0, .int .u8 0, .float .f64 0, .string ⟨#[]⟩, .int .i64 0, .int .u8 0, .float .f64 0, .string ⟨#[]⟩, .int .i64 0, .int .u8 0, .float .f64 0, .string ⟨#[]⟩, .int .i64 0, .bool false, .bool false, .bool false] 26 (0, 0)) ∧ wx.heap[w.heap.size + 1 + 1]? = some (.cells #[.int .u8 (bits .and .u8 h m), sel (hasB (bits .and .u8 h m) 1) (.int .u8 ka) (.int .u8 0), sel (hasB (bits .and .u8 h m) 1) (.float .f64 xa) (.float .f64 0), sel (hasB (bits .and .u8 h m) 1) (.string sa) (.string ⟨#[]⟩), sel (hasB (bits .and .u8 h m) 1) (.int .i64 ra) (.int .i64 0), .int .u8 0, .float .f64 0, .string ⟨#[]⟩, .int .i64 0, .int .u8 0, .float .f64 0, .string ⟨#[]⟩, .int .i64 0, .bool false, .bool false, .bool false] 26 (0, 0)) ∧ Below w.heap.size w wx)
  case first =>
    cases hs : hasB (bits .and .u8 h m) 1
    all_goals have hs2 : (bits .and .u8 (bits .and .u8 h m) 1 != 0) = _ := hs
    · go_wp2
      go_meet
      case rel => rw [hs]; exact ⟨b1, b2, b3, hB0⟩
    · go_wp2_with (first | ((with_reducible refine v_load ?_ rfl rfl b1 rfl rfl rfl rfl ?_); (rfl)) | ((with_reducible refine v_store rfl rfl rfl rfl b3 ?_ ?_ ?_); (exact of_decide_eq_true rfl); (rfl)))
      go_meet
      case rel => rw [hs]; exact ⟨vset1o (vset1o (vset1o (vset1o b1 (by simp; omega) _ _) (by simp; omega) _ _) (by simp; omega) _ _) (by simp; omega) _ _, vset1o (vset1o (vset1o (vset1o b2 (by simp) _ _) (by simp) _ _) (by simp) _ _) (by simp) _ _, vset1 (vset1 (vset1 (vset1 b3 _ _) _ _) _ _) _ _, vbel4' hB0 (by omega) _ _ _ _⟩
  case rest =>
  clear b1 b2 b3 hB0 e0
  obtain ⟨b1, b2, b3, hB0⟩ := hcut
  have e0 := vcells b3 0
  go_upto_if 21 with (fail)
  go_cut [] from 6 to 53 (fun wx => wx.heap[w.heap.size]? = some (.cells #[.int .u8 h, .int .u8 ka, .float .f64 xa, .string sa, .int .i64 ra, .int .u8 kb, .float .f64 xb, .string sb, .int .i64 rb, .int .u8 kc, .float .f64 xc, .string sc, .int .i64 rc, .bool p, .bool q, .bool z] 26 (0, 0)) ∧ wx.heap[w.heap.size + 1]? = some (.cells #[.int .u8 0, .int .u8 0, .float .f64 0, .string ⟨#[]⟩, .int .i64 0, .int .u8 0, .float .f64 0, .string ⟨#[]⟩, .int .i64 0, .int .u8 0, .float .f64 0, .string ⟨#[]⟩, .int .i64 0, .bool false, .bool false, .bool false] 26 (0, 0)) ∧ wx.heap[w.heap.size + 1 + 1]? = some (.cells #[.int .u8 (bits .and .u8 h m), sel (hasB (bits .and .u8 h m) 1) (.int .u8 ka) (.int .u8 0), sel (hasB (bits .and .u8 h m) 1) (.float .f64 xa) (.float .f64 0), sel (hasB (bits .and .u8 h m) 1) (.string sa) (.string ⟨#[]⟩), sel (hasB (bits .and .u8 h m) 1) (.int .i64 ra) (.int .i64 0), .int .u8 0, .float .f64 0, .string ⟨#[]⟩, .int .i64 0, .int .u8 0, .float .f64 0, .string ⟨#[]⟩, .int .i64 0, sel (hasB (bits .and .u8 h m) 2) (.bool p) (.bool false), .bool false, .bool false] 26 (0, 0)) ∧ Below w.heap.size w wx)
  case first =>
    cases hs : hasB (bits .and .u8 h m) 2
    all_goals have hs2 : (bits .and .u8 (bits .and .u8 h m) 2 != 0) = _ := hs
    · go_wp2
      go_meet
      case rel => rw [hs]; exact ⟨b1, b2, b3, hB0⟩
    · have q2 := vcells b1 13
      have f1 := vfz b3 13
      have q1 := vcells b3 13
      go_wp2
      go_meet
      case rel => rw [hs]; exact ⟨vset1o b1 (by simp; omega) _ _, vset1o b2 (by simp) _ _, vset1 b3 _ _, hB0.setCell (p := ⟨w.heap.size + 1 + 1, 13, none⟩) (by dsimp only; omega) _⟩
  case rest =>
  clear b1 b2 b3 hB0 e0
  obtain ⟨b1, b2, b3, hB0⟩ := hcut
  have e0 := vcells b3 0
  go_upto_if 28 with (fail)
  go_cut [] from 6 to 53 (fun wx => wx.heap[w.heap.size]? = some (.cells #[.int .u8 h, .int .u8 ka, .float .f64 xa, .string sa, .int .i64 ra, .int .u8 kb, .float .f64 xb, .string sb, .int .i64 rb, .int .u8 kc, .float .f64 xc, .string sc, .int .i64 rc, .bool p, .bool q, .bool z] 26 (0, 0)) ∧ wx.heap[w.heap.size + 1]? = some (.cells #[.int .u8 0, .int .u8 0, .float .f64 0, .string ⟨#[]⟩, .int .i64 0, .int .u8 0, .float .f64 0, .string ⟨#[]⟩, .int .i64 0, .int .u8 0, .float .f64 0, .string ⟨#[]⟩, .int .i64 0, .bool false, .bool false, .bool false] 26 (0, 0)) ∧ wx.heap[w.heap.size + 1 + 1]? = some (.cells #[.int .u8 (bits .and .u8 h m), sel (hasB (bits .and .u8 h m) 1) (.int .u8 ka) (.int .u8 0), sel (hasB (bits .and .u8 h m) 1) (.float .f64 xa) (.float .f64 0), sel (hasB (bits .and .u8 h m) 1) (.string sa) (.string ⟨#[]⟩), sel (hasB (bits .and .u8 h m) 1) (.int .i64 ra) (.int .i64 0), sel (hasB (bits .and .u8 h m) 4) (.int .u8 kb) (.int .u8 0), sel (hasB (bits .and .u8 h m) 4) (.float .f64 xb) (.float .f64 0), sel (hasB (bits .and .u8 h m) 4) (.string sb) (.string ⟨#[]⟩), sel (hasB (bits .and .u8 h m) 4) (.int .i64 rb) (.int .i64 0), .int .u8 0, .float .f64 0, .string ⟨#[]⟩, .int .i64 0, sel (hasB (bits .and .u8 h m) 2) (.bool p) (.bool false), .bool false, .bool false] 26 (0, 0)) ∧ Below w.heap.size w wx)
  case first =>
    cases hs : hasB (bits .and .u8 h m) 4
    all_goals have hs2 : (bits .and .u8 (bits .and .u8 h m) 4 != 0) = _ := hs
    · go_wp2
      go_meet
      case rel => rw [hs]; exact ⟨b1, b2, b3, hB0⟩
    · go_wp2_with (first | ((with_reducible refine v_load ?_ rfl rfl b1 rfl rfl rfl rfl ?_); (rfl)) | ((with_reducible refine v_store rfl rfl rfl rfl b3 ?_ ?_ ?_); (exact of_decide_eq_true rfl); (rfl)))
      go_meet
      case rel => rw [hs]; exact ⟨vset1o (vset1o (vset1o (vset1o b1 (by simp; omega) _ _) (by simp; omega) _ _) (by simp; omega) _ _) (by simp; omega) _ _, vset1o (vset1o (vset1o (vset1o b2 (by simp) _ _) (by simp) _ _) (by simp) _ _) (by simp) _ _, vset1 (vset1 (vset1 (vset1 b3 _ _) _ _) _ _) _ _, vbel4' hB0 (by omega) _ _ _ _⟩
  case rest =>
  clear b1 b2 b3 hB0 e0
  obtain ⟨b1, b2, b3, hB0⟩ := hcut
  have e0 := vcells b3 0
  go_upto_if 35 with (fail)
  go_cut [] from 6 to 53 (fun wx => wx.heap[w.heap.size]? = some (.cells #[.int .u8 h, .int .u8 ka, .float .f64 xa, .string sa, .int .i64 ra, .int .u8 kb, .float .f64 xb, .string sb, .int .i64 rb, .int .u8 kc, .float .f64 xc, .string sc, .int .i64 rc, .bool p, .bool q, .bool z] 26 (0, 0)) ∧ wx.heap[w.heap.size + 1]? = some (.cells #[.int .u8 0, .int .u8 0, .float .f64 0, .string ⟨#[]⟩, .int .i64 0, .int .u8 0, .float .f64 0, .string ⟨#[]⟩, .int .i64 0, .int .u8 0, .float .f64 0, .string ⟨#[]⟩, .int .i64 0, .bool false, .bool false, .bool false] 26 (0, 0)) ∧ wx.heap[w.heap.size + 1 + 1]? = some (.cells #[.int .u8 (bits .and .u8 h m), sel (hasB (bits .and .u8 h m) 1) (.int .u8 ka) (.int .u8 0), sel (hasB (bits .and .u8 h m) 1) (.float .f64 xa) (.float .f64 0), sel (hasB (bits .and .u8 h m) 1) (.string sa) (.string ⟨#[]⟩), sel (hasB (bits .and .u8 h m) 1) (.int .i64 ra) (.int .i64 0), sel (hasB (bits .and .u8 h m) 4) (.int .u8 kb) (.int .u8 0), sel (hasB (bits .and .u8 h m) 4) (.float .f64 xb) (.float .f64 0), sel (hasB (bits .and .u8 h m) 4) (.string sb) (.string ⟨#[]⟩), sel (hasB (bits .and .u8 h m) 4) (.int .i64 rb) (.int .i64 0), sel (hasB (bits .and .u8 h m) 8) (.int .u8 kc) (.int .u8 0), sel (hasB (bits .and .u8 h m) 8) (.float .f64 xc) (.float .f64 0), sel (hasB (bits .and .u8 h m) 8) (.string sc) (.string ⟨#[]⟩), sel (hasB (bits .and .u8 h m) 8) (.int .i64 rc) (.int .i64 0), sel (hasB (bits .and .u8 h m) 2) (.bool p) (.bool false), .bool false, .bool false] 26 (0, 0)) ∧ Below w.heap.size w wx)
  case first =>
    cases hs : hasB (bits .and .u8 h m) 8
    all_goals have hs2 : (bits .and .u8 (bits .and .u8 h m) 8 != 0) = _ := hs
    · go_wp2
      go_meet
      case rel => rw [hs]; exact ⟨b1, b2, b3, hB0⟩
    · go_wp2_with (first | ((with_reducible refine v_load ?_ rfl rfl b1 rfl rfl rfl rfl ?_); (rfl)) | ((with_reducible refine v_store rfl rfl rfl rfl b3 ?_ ?_ ?_); (exact of_decide_eq_true rfl); (rfl)))
      go_meet
      case rel => rw [hs]; exact ⟨vset1o (vset1o (vset1o (vset1o b1 (by simp; omega) _ _) (by simp; omega) _ _) (by simp; omega) _ _) (by simp; omega) _ _, vset1o (vset1o (vset1o (vset1o b2 (by simp) _ _) (by simp) _ _) (by simp) _ _) (by simp) _ _, vset1 (vset1 (vset1 (vset1 b3 _ _) _ _) _ _) _ _, vbel4' hB0 (by omega) _ _ _ _⟩
  case rest =>
  clear b1 b2 b3 hB0 e0
  obtain ⟨b1, b2, b3, hB0⟩ := hcut
  have e0 := vcells b3 0
  go_upto_if 42 with (fail)
  go_cut [] from 6 to 53 (fun wx => wx.heap[w.heap.size]? = some (.cells #[.int .u8 h, .int .u8 ka, .float .f64 xa, .string sa, .int .i64 ra, .int .u8 kb, .float .f64 xb, .string sb, .int .i64 rb, .int .u8 kc, .float .f64 xc, .string sc, .int .i64 rc, .bool p, .bool q, .bool z] 26 (0, 0)) ∧ wx.heap[w.heap.size + 1]? = some (.cells #[.int .u8 0, .int .u8 0, .float .f64 0, .string ⟨#[]⟩, .int .i64 0, .int .u8 0, .float .f64 0, .string ⟨#[]⟩, .int .i64 0, .int .u8 0, .float .f64 0, .string ⟨#[]⟩, .int .i64 0, .bool false, .bool false, .bool false] 26 (0, 0)) ∧ wx.heap[w.heap.size + 1 + 1]? = some (.cells #[.int .u8 (bits .and .u8 h m), sel (hasB (bits .and .u8 h m) 1) (.int .u8 ka) (.int .u8 0), sel (hasB (bits .and .u8 h m) 1) (.float .f64 xa) (.float .f64 0), sel (hasB (bits .and .u8 h m) 1) (.string sa) (.string ⟨#[]⟩), sel (hasB (bits .and .u8 h m) 1) (.int .i64 ra) (.int .i64 0), sel (hasB (bits .and .u8 h m) 4) (.int .u8 kb) (.int .u8 0), sel (hasB (bits .and .u8 h m) 4) (.float .f64 xb) (.float .f64 0), sel (hasB (bits .and .u8 h m) 4) (.string sb) (.string ⟨#[]⟩), sel (hasB (bits .and .u8 h m) 4) (.int .i64 rb) (.int .i64 0), sel (hasB (bits .and .u8 h m) 8) (.int .u8 kc) (.int .u8 0), sel (hasB (bits .and .u8 h m) 8) (.float .f64 xc) (.float .f64 0), sel (hasB (bits .and .u8 h m) 8) (.string sc) (.string ⟨#[]⟩), sel (hasB (bits .and .u8 h m) 8) (.int .i64 rc) (.int .i64 0), sel (hasB (bits .and .u8 h m) 2) (.bool p) (.bool false), sel (hasB (bits .and .u8 h m) 16) (.bool q) (.bool false), .bool false] 26 (0, 0)) ∧ Below w.heap.size w wx)
  case first =>
    cases hs : hasB (bits .and .u8 h m) 16
    all_goals have hs2 : (bits .and .u8 (bits .and .u8 h m) 16 != 0) = _ := hs
    · go_wp2
      go_meet
      case rel => rw [hs]; exact ⟨b1, b2, b3, hB0⟩
    · have q2 := vcells b1 14
      have f1 := vfz b3 14
      have q1 := vcells b3 14
      go_wp2
      go_meet
      case rel => rw [hs]; exact ⟨vset1o b1 (by simp; omega) _ _, vset1o b2 (by simp) _ _, vset1 b3 _ _, hB0.setCell (p := ⟨w.heap.size + 1 + 1, 14, none⟩) (by dsimp only; omega) _⟩
  case rest =>
  clear b1 b2 b3 hB0 e0
  obtain ⟨b1, b2, b3, hB0⟩ := hcut
  have e0 := vcells b3 0
  go_upto_if 49 with (fail)
  go_cut [] from 6 to 53 (fun wx => wx.heap[w.heap.size]? = some (.cells #[.int .u8 h, .int .u8 ka, .float .f64 xa, .string sa, .int .i64 ra, .int .u8 kb, .float .f64 xb, .string sb, .int .i64 rb, .int .u8 kc, .float .f64 xc, .string sc, .int .i64 rc, .bool p, .bool q, .bool z] 26 (0, 0)) ∧ wx.heap[w.heap.size + 1]? = some (.cells #[.int .u8 0, .int .u8 0, .float .f64 0, .string ⟨#[]⟩, .int .i64 0, .int .u8 0, .float .f64 0, .string ⟨#[]⟩, .int .i64 0, .int .u8 0, .float .f64 0, .string ⟨#[]⟩, .int .i64 0, .bool false, .bool false, .bool false] 26 (0, 0)) ∧ wx.heap[w.heap.size + 1 + 1]? = some (.cells #[.int .u8 (bits .and .u8 h m), sel (hasB (bits .and .u8 h m) 1) (.int .u8 ka) (.int .u8 0), sel (hasB (bits .and .u8 h m) 1) (.float .f64 xa) (.float .f64 0), sel (hasB (bits .and .u8 h m) 1) (.string sa) (.string ⟨#[]⟩), sel (hasB (bits .and .u8 h m) 1) (.int .i64 ra) (.int .i64 0), sel (hasB (bits .and .u8 h m) 4) (.int .u8 kb) (.int .u8 0), sel (hasB (bits .and .u8 h m) 4) (.float .f64 xb) (.float .f64 0), sel (hasB (bits .and .u8 h m) 4) (.string sb) (.string ⟨#[]⟩), sel (hasB (bits .and .u8 h m) 4) (.int .i64 rb) (.int .i64 0), sel (hasB (bits .and .u8 h m) 8) (.int .u8 kc) (.int .u8 0), sel (hasB (bits .and .u8 h m) 8) (.float .f64 xc) (.float .f64 0), sel (hasB (bits .and .u8 h m) 8) (.string sc) (.string ⟨#[]⟩), sel (hasB (bits .and .u8 h m) 8) (.int .i64 rc) (.int .i64 0), sel (hasB (bits .and .u8 h m) 2) (.bool p) (.bool false), sel (hasB (bits .and .u8 h m) 16) (.bool q) (.bool false), sel (hasB (bits .and .u8 h m) 32) (.bool z) (.bool false)] 26 (0, 0)) ∧ Below w.heap.size w wx)
  case first =>
    cases hs : hasB (bits .and .u8 h m) 32
    all_goals have hs2 : (bits .and .u8 (bits .and .u8 h m) 32 != 0) = _ := hs
    · go_wp2
      go_meet
      case rel => rw [hs]; exact ⟨b1, b2, b3, hB0⟩
    · have q2 := vcells b1 15
      have f1 := vfz b3 15
      have q1 := vcells b3 15
      go_wp2
      go_meet
      case rel => rw [hs]; exact ⟨vset1o b1 (by simp; omega) _ _, vset1o b2 (by simp) _ _, vset1 b3 _ _, hB0.setCell (p := ⟨w.heap.size + 1 + 1, 15, none⟩) (by dsimp only; omega) _⟩
  case rest =>
  clear b1 b2 b3 hB0 e0
  obtain ⟨b1, b2, b3, hB0⟩ := hcut
  have e0 := vcells b3 0
  have hone : ([.int .u8 (bits .and .u8 h m), sel (hasB (bits .and .u8 h m) 1) (.int .u8 ka) (.int .u8 0), sel (hasB (bits .and .u8 h m) 1) (.float .f64 xa) (.float .f64 0), sel (hasB (bits .and .u8 h m) 1) (.string sa) (.string ⟨#[]⟩), sel (hasB (bits .and .u8 h m) 1) (.int .i64 ra) (.int .i64 0), sel (hasB (bits .and .u8 h m) 4) (.int .u8 kb) (.int .u8 0), sel (hasB (bits .and .u8 h m) 4) (.float .f64 xb) (.float .f64 0), sel (hasB (bits .and .u8 h m) 4) (.string sb) (.string ⟨#[]⟩), sel (hasB (bits .and .u8 h m) 4) (.int .i64 rb) (.int .i64 0), sel (hasB (bits .and .u8 h m) 8) (.int .u8 kc) (.int .u8 0), sel (hasB (bits .and .u8 h m) 8) (.float .f64 xc) (.float .f64 0), sel (hasB (bits .and .u8 h m) 8) (.string sc) (.string ⟨#[]⟩), sel (hasB (bits .and .u8 h m) 8) (.int .i64 rc) (.int .i64 0), sel (hasB (bits .and .u8 h m) 2) (.bool p) (.bool false), sel (hasB (bits .and .u8 h m) 16) (.bool q) (.bool false), sel (hasB (bits .and .u8 h m) 32) (.bool z) (.bool false)] : List Value).all (·.oneCell') = true := by
    simp only [List.all_cons, List.all_nil, Bool.and_eq_true]
    exact ⟨rfl, sel_one rfl rfl, sel_one rfl rfl, sel_one rfl rfl, sel_one rfl rfl, sel_one rfl rfl, sel_one rfl rfl, sel_one rfl rfl, sel_one rfl rfl, sel_one rfl rfl, sel_one rfl rfl, sel_one rfl rfl, sel_one rfl rfl, sel_one rfl rfl, sel_one rfl rfl, sel_one rfl rfl, trivial⟩
  go_wp2_with (first | ((with_reducible refine d_load ?_ rfl rfl b3 ?_); (rfl)) | (with_reducible refine d_store rfl rfl rfl rfl b2 rfl hone ?_))
  exact d_end Try.results10 rfl (setRow_heap _ _ _ _ _ _ b2) ⟨rfl, below_row hB0 (by omega) _⟩
theorem left_q (d : Dq) (m : Int) (w : World) : Calls Try.prog 10 #[d.val, .int .u8 m] w fun e w' => e = .returned (leftQ d m).val ∧ Below w.heap.size w w' := by
  refine (left_c d.h m _ rfl d.a.k d.a.x d.a.s d.a.r d.b.k d.b.x d.b.s d.b.r d.c.k d.c.x d.c.s d.c.r d.p d.q d.z w).mono fun e w' ⟨he, hb⟩ => ⟨he.trans ?_, hb⟩
  unfold Dq.val Dq.cells leftQ
  dsimp only
  generalize bits .and .u8 d.h m = n
  cases hasB n 1 <;> cases hasB n 2 <;> cases hasB n 4 <;> cases hasB n 8 <;> cases hasB n 16 <;> cases hasB n 32 <;> rfl
end Go.Proofs.Ytlgbnfcnimjheaa.S
