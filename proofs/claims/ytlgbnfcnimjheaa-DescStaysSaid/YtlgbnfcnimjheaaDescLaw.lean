/-
  The law DescStays: its walk, what is called said in letters. Generated: gen_desclaw.py.
-/
import Derived.Test.YtlgbnfcnimjheaaDescApi
namespace Go.Proofs.Ytlgbnfcnimjheaa.S
open Go.RowKit Fl

/-- a block of the call's own, made and stored into -/
theorem made_row {w : World} {o : Obj} {cs cs2 : Array Value} {t : TypeId} (ho : o = .cells cs t (0, 0)) : ((w.alloc o).setRow w.heap.size cs2).heap[w.heap.size]? = some (.cells cs2 t (0, 0)) := setRow_heap _ _ cs cs2 t (0, 0) (by rw [heap_alloc_new, ho])
theorem made_old {w : World} {o p : Obj} {g : Nat} {cs2 : Array Value} (h : w.heap[g]? = some p) : ((w.alloc o).setRow w.heap.size cs2).heap[g]? = some p := by
  have hg : g < w.heap.size := by
    rcases Nat.lt_or_ge g w.heap.size with c | c
    · exact c
    · rw [Array.getElem?_eq_none c] at h; cases h
  exact vset_o ((heap_alloc_old w o hg).trans h) (by omega) _
theorem made_below {B : Nat} {w0 w : World} {o : Obj} {cs2 : Array Value} (h : Below B w0 w) (hB : B ≤ w.heap.size) : Below B w0 ((w.alloc o).setRow w.heap.size cs2) := below_row (h.alloc hB o) hB _
set_option maxRecDepth 1000000 in
set_option maxHeartbeats 4000000 in
theorem long_c (h : Int) (ka : Int) (xa : Nat) (sa : ByteArray) (ra : Int) (kb : Int) (xb : Nat) (sb : ByteArray) (rb : Int) (kc : Int) (xc : Nat) (sc : ByteArray) (rc : Int) (p q z : Bool) : ∃ l : Bool, ∀ w, Calls Try.prog 5 #[.agg #[.int .u8 h, .int .u8 ka, .float .f64 xa, .string sa, .int .i64 ra, .int .u8 kb, .float .f64 xb, .string sb, .int .i64 rb, .int .u8 kc, .float .f64 xc, .string sc, .int .i64 rc, .bool p, .bool q, .bool z]] w fun e w' => e = .returned (.bool l) ∧ Below w.heap.size w w' := by
  by_cases h1 : (9000 : Int) < (sa.size : Int)
  · refine ⟨true, fun w => ?_⟩
    go_enter Try.func5, Try.ntmps5
    go_wp2
    go_ret
    exact ⟨rfl, vzero _ _⟩
  · by_cases h2 : (9000 : Int) < (sb.size : Int)
    · refine ⟨true, fun w => ?_⟩
      go_enter Try.func5, Try.ntmps5
      go_wp2
      go_ret
      exact ⟨rfl, vzero _ _⟩
    · by_cases h3 : (9000 : Int) < (sc.size : Int)
      · refine ⟨true, fun w => ?_⟩
        go_enter Try.func5, Try.ntmps5
        go_wp2
        go_ret
        exact ⟨rfl, vzero _ _⟩
      · refine ⟨false, fun w => ?_⟩
        go_enter Try.func5, Try.ntmps5
        go_wp2
        go_ret
        exact ⟨rfl, vzero _ _⟩
set_option maxRecDepth 1000000 in
set_option maxHeartbeats 16000000 in
theorem DS_yes (ext found : Bool) (h m n n4 n5 : Int) (ka : Int) (xa : Nat) (sa : ByteArray) (ra : Int) (kb : Int) (xb : Nat) (sb : ByteArray) (rb : Int) (kc : Int) (xc : Nat) (sc : ByteArray) (rc : Int) (kd : Int) (xd : Nat) (sd : ByteArray) (rd : Int) (ke : Int) (xe : Nat) (se : ByteArray) (re : Int) (kf : Int) (xf : Nat) (sf : ByteArray) (rf : Int) (kg : Int) (xg : Nat) (sg : ByteArray) (rg : Int) (ki : Int) (xi : Nat) (si : ByteArray) (ri : Int) (kj : Int) (xj : Nat) (sj : ByteArray) (rj : Int) (kl : Int) (xl : Nat) (sl : ByteArray) (rl : Int) (ko : Int) (xo : Nat) (so : ByteArray) (ro : Int) (kt : Int) (xt : Nat) (st : ByteArray) (rt : Int) (ka4 : Int) (xa4 : Nat) (sa4 : ByteArray) (ra4 : Int) (kb4 : Int) (xb4 : Nat) (sb4 : ByteArray) (rb4 : Int) (kc4 : Int) (xc4 : Nat) (sc4 : ByteArray) (rc4 : Int) (ka5 : Int) (xa5 : Nat) (sa5 : ByteArray) (ra5 : Int) (kb5 : Int) (xb5 : Nat) (sb5 : ByteArray) (rb5 : Int) (kc5 : Int) (xc5 : Nat) (sc5 : ByteArray) (rc5 : Int) (p q z p' q' z' p1 q1 z1 p3 q3 z3 p4 q4 z4 p5 q5 z5 : Bool) {ld ln acc : Bool} (hal : ∀ w, Calls Try.prog 4 #[] w fun e w' => e = .returned (.bool true) ∧ Below w.heap.size w w') (hld : ∀ w, Calls Try.prog 5 #[.agg #[.int .u8 h, .int .u8 ka, .float .f64 xa, .string sa, .int .i64 ra, .int .u8 kb, .float .f64 xb, .string sb, .int .i64 rb, .int .u8 kc, .float .f64 xc, .string sc, .int .i64 rc, .bool p, .bool q, .bool z]] w fun e w' => e = .returned (.bool ld) ∧ Below w.heap.size w w') (hln : ∀ w, Calls Try.prog 5 #[.agg #[.int .u8 m, .int .u8 kd, .float .f64 xd, .string sd, .int .i64 rd, .int .u8 ke, .float .f64 xe, .string se, .int .i64 re, .int .u8 kf, .float .f64 xf, .string sf, .int .i64 rf, .bool p', .bool q', .bool z']] w fun e w' => e = .returned (.bool ln) ∧ Below w.heap.size w w') (hA : ∀ w, Calls Try.prog 6 #[.bool ext, .agg #[.int .u8 h, .int .u8 ka, .float .f64 xa, .string sa, .int .i64 ra, .int .u8 kb, .float .f64 xb, .string sb, .int .i64 rb, .int .u8 kc, .float .f64 xc, .string sc, .int .i64 rc, .bool p, .bool q, .bool z], .bool found, .agg #[.int .u8 m, .int .u8 kd, .float .f64 xd, .string sd, .int .i64 rd, .int .u8 ke, .float .f64 xe, .string se, .int .i64 re, .int .u8 kf, .float .f64 xf, .string sf, .int .i64 rf, .bool p', .bool q', .bool z']] w fun e w' => e = .returned (.tuple #[.agg #[.int .u8 n, .int .u8 kg, .float .f64 xg, .string sg, .int .i64 rg, .int .u8 ki, .float .f64 xi, .string si, .int .i64 ri, .int .u8 kj, .float .f64 xj, .string sj, .int .i64 rj, .bool p1, .bool q1, .bool z1], .bool true, .int .i64 0]) ∧ Below w.heap.size w w') (hC : ∀ w, Calls Try.prog 7 #[.bool ext, .agg #[.int .u8 h, .int .u8 ka, .float .f64 xa, .string sa, .int .i64 ra, .int .u8 kb, .float .f64 xb, .string sb, .int .i64 rb, .int .u8 kc, .float .f64 xc, .string sc, .int .i64 rc, .bool p, .bool q, .bool z], .bool found, .agg #[.int .u8 m, .int .u8 kd, .float .f64 xd, .string sd, .int .i64 rd, .int .u8 ke, .float .f64 xe, .string se, .int .i64 re, .int .u8 kf, .float .f64 xf, .string sf, .int .i64 rf, .bool p', .bool q', .bool z']] w fun e w' => e = .returned (.tuple #[.bool true, .int .i64 0]) ∧ Below w.heap.size w w') (hK : ∀ w, Calls Try.prog 8 #[.agg #[.int .u8 n, .int .u8 kg, .float .f64 xg, .string sg, .int .i64 rg, .int .u8 ki, .float .f64 xi, .string si, .int .i64 ri, .int .u8 kj, .float .f64 xj, .string sj, .int .i64 rj, .bool p1, .bool q1, .bool z1]] w fun e w' => e = .returned (.tuple #[.agg #[.int .u8 n, .int .u8 kl, .float .f64 xl, .string sl, .int .i64 rl, .int .u8 ko, .float .f64 xo, .string so, .int .i64 ro, .int .u8 kt, .float .f64 xt, .string st, .int .i64 rt, .bool p3, .bool q3, .bool z3], .int .i64 0]) ∧ Below w.heap.size w w') (hL : ∀ w, Calls Try.prog 10 #[.agg #[.int .u8 n, .int .u8 kg, .float .f64 xg, .string sg, .int .i64 rg, .int .u8 ki, .float .f64 xi, .string si, .int .i64 ri, .int .u8 kj, .float .f64 xj, .string sj, .int .i64 rj, .bool p1, .bool q1, .bool z1], .int .u8 h] w fun e w' => e = .returned (.agg #[.int .u8 n4, .int .u8 ka4, .float .f64 xa4, .string sa4, .int .i64 ra4, .int .u8 kb4, .float .f64 xb4, .string sb4, .int .i64 rb4, .int .u8 kc4, .float .f64 xc4, .string sc4, .int .i64 rc4, .bool p4, .bool q4, .bool z4]) ∧ Below w.heap.size w w') (hS1 : ∀ w, Calls Try.prog 9 #[.agg #[.int .u8 h, .int .u8 ka, .float .f64 xa, .string sa, .int .i64 ra, .int .u8 kb, .float .f64 xb, .string sb, .int .i64 rb, .int .u8 kc, .float .f64 xc, .string sc, .int .i64 rc, .bool p, .bool q, .bool z], .agg #[.int .u8 n4, .int .u8 ka4, .float .f64 xa4, .string sa4, .int .i64 ra4, .int .u8 kb4, .float .f64 xb4, .string sb4, .int .i64 rb4, .int .u8 kc4, .float .f64 xc4, .string sc4, .int .i64 rc4, .bool p4, .bool q4, .bool z4]] w fun e w' => e = .returned (.bool true) ∧ Below w.heap.size w w') (hA2 : ∀ w, Calls Try.prog 6 #[.bool false, .agg #[.int .u8 n, .int .u8 kg, .float .f64 xg, .string sg, .int .i64 rg, .int .u8 ki, .float .f64 xi, .string si, .int .i64 ri, .int .u8 kj, .float .f64 xj, .string sj, .int .i64 rj, .bool p1, .bool q1, .bool z1], .bool true, .agg #[.int .u8 n, .int .u8 kg, .float .f64 xg, .string sg, .int .i64 rg, .int .u8 ki, .float .f64 xi, .string si, .int .i64 ri, .int .u8 kj, .float .f64 xj, .string sj, .int .i64 rj, .bool p1, .bool q1, .bool z1]] w fun e w' => e = .returned (.tuple #[.agg #[.int .u8 n5, .int .u8 ka5, .float .f64 xa5, .string sa5, .int .i64 ra5, .int .u8 kb5, .float .f64 xb5, .string sb5, .int .i64 rb5, .int .u8 kc5, .float .f64 xc5, .string sc5, .int .i64 rc5, .bool p5, .bool q5, .bool z5], .bool true, .int .i64 0]) ∧ Below w.heap.size w w') (hS2 : ∀ w, Calls Try.prog 9 #[.agg #[.int .u8 n, .int .u8 kg, .float .f64 xg, .string sg, .int .i64 rg, .int .u8 ki, .float .f64 xi, .string si, .int .i64 ri, .int .u8 kj, .float .f64 xj, .string sj, .int .i64 rj, .bool p1, .bool q1, .bool z1], .agg #[.int .u8 n5, .int .u8 ka5, .float .f64 xa5, .string sa5, .int .i64 ra5, .int .u8 kb5, .float .f64 xb5, .string sb5, .int .i64 rb5, .int .u8 kc5, .float .f64 xc5, .string sc5, .int .i64 rc5, .bool p5, .bool q5, .bool z5]] w fun e w' => e = .returned (.bool true) ∧ Below w.heap.size w w') (hI : ∀ w, Calls Try.prog 11 #[.agg #[.int .u8 m, .int .u8 kd, .float .f64 xd, .string sd, .int .i64 rd, .int .u8 ke, .float .f64 xe, .string se, .int .i64 re, .int .u8 kf, .float .f64 xf, .string sf, .int .i64 rf, .bool p', .bool q', .bool z']] w fun e w' => e = .returned (.bool acc) ∧ Below w.heap.size w w') (hn : n = 51 ∨ n = 60) (hE : found = false → ext = true) (hst : found = true → z' = false → z1 = false ∧ q1 = q' ∧ n = m) (hVb : found = true → z' = false → acc = true → ∀ w, Calls Try.prog 12 #[.agg #[.int .u8 ki, .float .f64 xi, .string si, .int .i64 ri], .agg #[.int .u8 ke, .float .f64 xe, .string se, .int .i64 re]] w fun e w' => e = .returned (.bool true) ∧ Below w.heap.size w w') (hVc : found = true → z' = false → acc = true → ∀ w, Calls Try.prog 12 #[.agg #[.int .u8 kj, .float .f64 xj, .string sj, .int .i64 rj], .agg #[.int .u8 kf, .float .f64 xf, .string sf, .int .i64 rf]] w fun e w' => e = .returned (.bool true) ∧ Below w.heap.size w w') (hp : found = true → z' = false → acc = false → p' = false → p1 = false) (hVa : found = true → z' = false → acc = false → p' = false → ∀ w, Calls Try.prog 12 #[.agg #[.int .u8 kg, .float .f64 xg, .string sg, .int .i64 rg], .agg #[.int .u8 kd, .float .f64 xd, .string sd, .int .i64 rd]] w fun e w' => e = .returned (.bool true) ∧ Below w.heap.size w w') (w : World) : Calls Try.prog 3 #[.bool ext, .agg #[.int .u8 h, .int .u8 ka, .float .f64 xa, .string sa, .int .i64 ra, .int .u8 kb, .float .f64 xb, .string sb, .int .i64 rb, .int .u8 kc, .float .f64 xc, .string sc, .int .i64 rc, .bool p, .bool q, .bool z], .bool found, .agg #[.int .u8 m, .int .u8 kd, .float .f64 xd, .string sd, .int .i64 rd, .int .u8 ke, .float .f64 xe, .string se, .int .i64 re, .int .u8 kf, .float .f64 xf, .string sf, .int .i64 rf, .bool p', .bool q', .bool z']] w fun e w' => e = .returned (.bool true) ∧ Below w.heap.size w w' := by
  have hB0 : Below w.heap.size w ((w.alloc (.cells #[.int .u8 h, .int .u8 ka, .float .f64 xa, .string sa, .int .i64 ra, .int .u8 kb, .float .f64 xb, .string sb, .int .i64 rb, .int .u8 kc, .float .f64 xc, .string sc, .int .i64 rc, .bool p, .bool q, .bool z] 26)).alloc (.cells #[.int .u8 m, .int .u8 kd, .float .f64 xd, .string sd, .int .i64 rd, .int .u8 ke, .float .f64 xe, .string se, .int .i64 re, .int .u8 kf, .float .f64 xf, .string sf, .int .i64 rf, .bool p', .bool q', .bool z'] 26)) := vafter (vzero _ _)
  obtain ⟨b1, b2⟩ := vblk2 (w := w) (Below.refl _ ((w.alloc (.cells #[.int .u8 h, .int .u8 ka, .float .f64 xa, .string sa, .int .i64 ra, .int .u8 kb, .float .f64 xb, .string sb, .int .i64 rb, .int .u8 kc, .float .f64 xc, .string sc, .int .i64 rc, .bool p, .bool q, .bool z] 26)).alloc (.cells #[.int .u8 m, .int .u8 kd, .float .f64 xd, .string sd, .int .i64 rd, .int .u8 ke, .float .f64 xe, .string se, .int .i64 re, .int .u8 kf, .float .f64 xf, .string sf, .int .i64 rf, .bool p', .bool q', .bool z'] 26)))
  have HN := Lib.hid hn
  have HE := Lib.hid hE
  have HST := Lib.hid hst
  have HVB := Lib.hid hVb
  have HVC := Lib.hid hVc
  have HP := Lib.hid hp
  have HVA := Lib.hid hVa
  clear hn hE hst hVb hVc hp hVa
  go_enter Try.func3, Try.ntmps3
  go_upto_region 2 with (go_at_call 4; (with_reducible refine (hal _).mono ?_); rintro e w1 ⟨rfl, h9⟩; replace b1 := vblkn h9 b1; replace b2 := vblkn h9 b2; replace hB0 := vb hB0 h9)
  go_cut [27] from 17 to 169 (fun u wx => u = .bool (ld || ln) ∧ wx.heap[w.heap.size]? = some (.cells #[.int .u8 h, .int .u8 ka, .float .f64 xa, .string sa, .int .i64 ra, .int .u8 kb, .float .f64 xb, .string sb, .int .i64 rb, .int .u8 kc, .float .f64 xc, .string sc, .int .i64 rc, .bool p, .bool q, .bool z] 26 (0, 0)) ∧ wx.heap[w.heap.size + 1]? = some (.cells #[.int .u8 m, .int .u8 kd, .float .f64 xd, .string sd, .int .i64 rd, .int .u8 ke, .float .f64 xe, .string se, .int .i64 re, .int .u8 kf, .float .f64 xf, .string sf, .int .i64 rf, .bool p', .bool q', .bool z'] 26 (0, 0)) ∧ Below w.heap.size w wx)
  case first =>
    cases ld <;> cases ln
    all_goals
      go_wp2_with (first | ((with_reducible refine d_load ?_ rfl rfl b1 ?_); (rfl)) | ((with_reducible refine d_load ?_ rfl rfl b2 ?_); (rfl)) | (go_at_call 5; (with_reducible first | refine (hld _).mono ?_ | refine (hln _).mono ?_); rintro e w1 ⟨rfl, h9⟩; replace b1 := vblkn h9 b1; replace b2 := vblkn h9 b2; replace hB0 := vb hB0 h9))
      go_meet
      case rel => exact ⟨rfl, b1, b2, hB0⟩
  case rest =>
  clear b1 b2 hB0
  obtain ⟨rfl, b1, b2, hB0⟩ := hcut
  generalize (ld || ln) = lg
  cases lg
  rotate_left
  · go_wp2
    go_ret
    exact ⟨rfl, hB0⟩
  go_upto_region 4 with (fail)
  go_cut [10, 11, 12] from 17 to 169 (fun u10 u11 u12 wx => ∃ gn, u10 = .pointer (some ⟨gn, 0, none⟩) ∧ u11 = .bool true ∧ u12 = .int .i64 0 ∧ wx.heap[w.heap.size]? = some (.cells #[.int .u8 h, .int .u8 ka, .float .f64 xa, .string sa, .int .i64 ra, .int .u8 kb, .float .f64 xb, .string sb, .int .i64 rb, .int .u8 kc, .float .f64 xc, .string sc, .int .i64 rc, .bool p, .bool q, .bool z] 26 (0, 0)) ∧ wx.heap[w.heap.size + 1]? = some (.cells #[.int .u8 m, .int .u8 kd, .float .f64 xd, .string sd, .int .i64 rd, .int .u8 ke, .float .f64 xe, .string se, .int .i64 re, .int .u8 kf, .float .f64 xf, .string sf, .int .i64 rf, .bool p', .bool q', .bool z'] 26 (0, 0)) ∧ wx.heap[gn]? = some (.cells #[.int .u8 n, .int .u8 kg, .float .f64 xg, .string sg, .int .i64 rg, .int .u8 ki, .float .f64 xi, .string si, .int .i64 ri, .int .u8 kj, .float .f64 xj, .string sj, .int .i64 rj, .bool p1, .bool q1, .bool z1] 26 (0, 0)) ∧ Below w.heap.size w wx)
  case first =>
    go_wp2_with (first | ((with_reducible refine d_load ?_ rfl rfl b1 ?_); (rfl)) | ((with_reducible refine d_load ?_ rfl rfl b2 ?_); (rfl)) | (go_at_call 6; (with_reducible refine (hA _).mono ?_); rintro e w1 ⟨rfl, h9⟩; replace b1 := vblkn h9 b1; replace b2 := vblkn h9 b2; replace hB0 := vb hB0 h9) | ((with_reducible refine d_store rfl rfl rfl rfl (heap_alloc_new _ _) ?_ ?_ ?_); (rfl); (rfl)))
    go_meet
    case rel => exact ⟨_, rfl, rfl, rfl, made_old b1, made_old b2, made_row rfl, made_below hB0 hB0.size⟩
  case rest =>
  clear b1 b2 hB0
  obtain ⟨g2, rfl, rfl, rfl, b1, b2, b3, hB0⟩ := hcut
  go_upto_region 10 with (first | ((with_reducible refine d_load ?_ rfl rfl b1 ?_); (rfl)) | ((with_reducible refine d_load ?_ rfl rfl b2 ?_); (rfl)) | (go_at_call 7; (with_reducible refine (hC _).mono ?_); rintro e w1 ⟨rfl, h9⟩; replace b1 := vblkn h9 b1; replace b2 := vblkn h9 b2; replace b3 := vblkn h9 b3; replace hB0 := vb hB0 h9))
  go_cut [15, 12] from 17 to 169 (fun u15 u12 wx => ∃ gn, u15 = .pointer (some ⟨gn, 0, none⟩) ∧ u12 = .int .i64 0 ∧ wx.heap[w.heap.size]? = some (.cells #[.int .u8 h, .int .u8 ka, .float .f64 xa, .string sa, .int .i64 ra, .int .u8 kb, .float .f64 xb, .string sb, .int .i64 rb, .int .u8 kc, .float .f64 xc, .string sc, .int .i64 rc, .bool p, .bool q, .bool z] 26 (0, 0)) ∧ wx.heap[w.heap.size + 1]? = some (.cells #[.int .u8 m, .int .u8 kd, .float .f64 xd, .string sd, .int .i64 rd, .int .u8 ke, .float .f64 xe, .string se, .int .i64 re, .int .u8 kf, .float .f64 xf, .string sf, .int .i64 rf, .bool p', .bool q', .bool z'] 26 (0, 0)) ∧ wx.heap[g2]? = some (.cells #[.int .u8 n, .int .u8 kg, .float .f64 xg, .string sg, .int .i64 rg, .int .u8 ki, .float .f64 xi, .string si, .int .i64 ri, .int .u8 kj, .float .f64 xj, .string sj, .int .i64 rj, .bool p1, .bool q1, .bool z1] 26 (0, 0)) ∧ wx.heap[gn]? = some (.cells #[.int .u8 n, .int .u8 kl, .float .f64 xl, .string sl, .int .i64 rl, .int .u8 ko, .float .f64 xo, .string so, .int .i64 ro, .int .u8 kt, .float .f64 xt, .string st, .int .i64 rt, .bool p3, .bool q3, .bool z3] 26 (0, 0)) ∧ Below w.heap.size w wx)
  case first =>
    go_wp2_with (first | ((with_reducible refine d_load ?_ rfl rfl b1 ?_); (rfl)) | ((with_reducible refine d_load ?_ rfl rfl b2 ?_); (rfl)) | ((with_reducible refine d_load ?_ rfl rfl b3 ?_); (rfl)) | (go_at_call 8; (with_reducible refine (hK _).mono ?_); rintro e w1 ⟨rfl, h9⟩; replace b1 := vblkn h9 b1; replace b2 := vblkn h9 b2; replace b3 := vblkn h9 b3; replace hB0 := vb hB0 h9) | ((with_reducible refine d_store rfl rfl rfl rfl (heap_alloc_new _ _) ?_ ?_ ?_); (rfl); (rfl)))
    go_meet
    case rel => exact ⟨_, rfl, rfl, made_old b1, made_old b2, made_old b3, made_row rfl, made_below hB0 hB0.size⟩
  case rest =>
  clear b1 b2 b3 hB0
  obtain ⟨g3, rfl, rfl, b1, b2, b3, b4, hB0⟩ := hcut
  go_upto_region 11 with (fail)
  go_cut [101] from 74 to 101 (fun u wx => u = .bool false ∧ wx.heap[w.heap.size]? = some (.cells #[.int .u8 h, .int .u8 ka, .float .f64 xa, .string sa, .int .i64 ra, .int .u8 kb, .float .f64 xb, .string sb, .int .i64 rb, .int .u8 kc, .float .f64 xc, .string sc, .int .i64 rc, .bool p, .bool q, .bool z] 26 (0, 0)) ∧ wx.heap[w.heap.size + 1]? = some (.cells #[.int .u8 m, .int .u8 kd, .float .f64 xd, .string sd, .int .i64 rd, .int .u8 ke, .float .f64 xe, .string se, .int .i64 re, .int .u8 kf, .float .f64 xf, .string sf, .int .i64 rf, .bool p', .bool q', .bool z'] 26 (0, 0)) ∧ wx.heap[g2]? = some (.cells #[.int .u8 n, .int .u8 kg, .float .f64 xg, .string sg, .int .i64 rg, .int .u8 ki, .float .f64 xi, .string si, .int .i64 ri, .int .u8 kj, .float .f64 xj, .string sj, .int .i64 rj, .bool p1, .bool q1, .bool z1] 26 (0, 0)) ∧ wx.heap[g3]? = some (.cells #[.int .u8 n, .int .u8 kl, .float .f64 xl, .string sl, .int .i64 rl, .int .u8 ko, .float .f64 xo, .string so, .int .i64 ro, .int .u8 kt, .float .f64 xt, .string st, .int .i64 rt, .bool p3, .bool q3, .bool z3] 26 (0, 0)) ∧ Below w.heap.size w wx)
  case first =>
    have hn := HN.out
    clear HN HE HST HVB HVC HP HVA hA hC hK hA2 hS2 hI hal hld hln
    rcases hn with hn | hn
    · subst hn
      have hS : (fun wx => wx.heap[w.heap.size]? = some (.cells #[.int .u8 h, .int .u8 ka, .float .f64 xa, .string sa, .int .i64 ra, .int .u8 kb, .float .f64 xb, .string sb, .int .i64 rb, .int .u8 kc, .float .f64 xc, .string sc, .int .i64 rc, .bool p, .bool q, .bool z] 26 (0, 0)) ∧ wx.heap[w.heap.size + 1]? = some (.cells #[.int .u8 m, .int .u8 kd, .float .f64 xd, .string sd, .int .i64 rd, .int .u8 ke, .float .f64 xe, .string se, .int .i64 re, .int .u8 kf, .float .f64 xf, .string sf, .int .i64 rf, .bool p', .bool q', .bool z'] 26 (0, 0)) ∧ wx.heap[g2]? = some (.cells #[.int .u8 51, .int .u8 kg, .float .f64 xg, .string sg, .int .i64 rg, .int .u8 ki, .float .f64 xi, .string si, .int .i64 ri, .int .u8 kj, .float .f64 xj, .string sj, .int .i64 rj, .bool p1, .bool q1, .bool z1] 26 (0, 0)) ∧ wx.heap[g3]? = some (.cells #[.int .u8 51, .int .u8 kl, .float .f64 xl, .string sl, .int .i64 rl, .int .u8 ko, .float .f64 xo, .string so, .int .i64 ro, .int .u8 kt, .float .f64 xt, .string st, .int .i64 rt, .bool p3, .bool q3, .bool z3] 26 (0, 0)) ∧ Below w.heap.size w wx) wc.drew := ⟨b1, b2, b3, b4, hB0.drew⟩
      refine wp_region_held_drew (S := fun wx => wx.heap[w.heap.size]? = some (.cells #[.int .u8 h, .int .u8 ka, .float .f64 xa, .string sa, .int .i64 ra, .int .u8 kb, .float .f64 xb, .string sb, .int .i64 rb, .int .u8 kc, .float .f64 xc, .string sc, .int .i64 rc, .bool p, .bool q, .bool z] 26 (0, 0)) ∧ wx.heap[w.heap.size + 1]? = some (.cells #[.int .u8 m, .int .u8 kd, .float .f64 xd, .string sd, .int .i64 rd, .int .u8 ke, .float .f64 xe, .string se, .int .i64 re, .int .u8 kf, .float .f64 xf, .string sf, .int .i64 rf, .bool p', .bool q', .bool z'] 26 (0, 0)) ∧ wx.heap[g2]? = some (.cells #[.int .u8 51, .int .u8 kg, .float .f64 xg, .string sg, .int .i64 rg, .int .u8 ki, .float .f64 xi, .string si, .int .i64 ri, .int .u8 kj, .float .f64 xj, .string sj, .int .i64 rj, .bool p1, .bool q1, .bool z1] 26 (0, 0)) ∧ wx.heap[g3]? = some (.cells #[.int .u8 51, .int .u8 kl, .float .f64 xl, .string sl, .int .i64 rl, .int .u8 ko, .float .f64 xo, .string so, .int .i64 ro, .int .u8 kt, .float .f64 xt, .string st, .int .i64 rt, .bool p3, .bool q3, .bool z3] 26 (0, 0)) ∧ Below w.heap.size w wx) (by kernel_rfl) hS (fun hHeld => ?_)
      refine hH_take (i := 0) (v := .int .i64 0) (d := 74) (l2 := #[true, false, false, false, false, false, false, false, false, false, false, false, false, false, false, false, false, false, false, false, false, false, false, false, false, false, false, false]) rfl (by kernel_rfl) (by kernel_rfl) (by kernel_rfl) (fun _ _ _ h => h) (by kernel_rfl) (fun w hSw => ?_) (by assumption) rfl (by kernel_rfl) ?_
      · clear hSw; go_simp
      simp only [List.set]
      refine hH_take (i := 1) (v := .bool false) (d := 75) (l2 := #[true, true, false, false, false, false, false, false, false, false, false, false, false, false, false, false, false, false, false, false, false, false, false, false, false, false, false, false]) rfl (by kernel_rfl) (by kernel_rfl) (by kernel_rfl) (fun _ _ _ h => h) (by kernel_rfl) (fun w hSw => ?_) (by assumption) rfl (by kernel_rfl) ?_
      · clear hSw; go_simp
      simp only [List.set]
      refine hH_take (i := 2) (v := .bool false) (d := 76) (l2 := #[true, true, true, false, false, false, false, false, false, false, false, false, false, false, false, false, false, false, false, false, false, false, false, false, false, false, false, false]) rfl (by kernel_rfl) (by kernel_rfl) (by kernel_rfl) (fun _ _ _ h => h) (by kernel_rfl) (fun w hSw => ?_) (by assumption) rfl (by kernel_rfl) ?_
      · clear hSw; go_simp
      simp only [List.set]
      refine hH_take (i := 3) (v := .pointer (some ⟨g3, 0, none⟩)) (d := 77) (l2 := #[true, true, true, true, false, false, false, false, false, false, false, false, false, false, false, false, false, false, false, false, false, false, false, false, false, false, false, false]) rfl (by kernel_rfl) (by kernel_rfl) (by kernel_rfl) (fun _ _ _ h => h) (by kernel_rfl) (fun w hSw => ?_) (by assumption) rfl (by kernel_rfl) ?_
      · clear hSw; go_simp
      simp only [List.set]
      refine hH_take (i := 4) (v := .int .u8 51) (d := 78) (l2 := #[true, true, true, true, true, false, false, false, false, false, false, false, false, false, false, false, false, false, false, false, false, false, false, false, false, false, false, false]) rfl (by kernel_rfl) (by kernel_rfl) (by kernel_rfl) (fun _ _ _ h => h) (by kernel_rfl) (fun w hSw => ?_) (by assumption) rfl (by kernel_rfl) ?_
      · have e0 := vcells hSw.2.2.2.1 0; clear hSw; go_simp
      simp only [List.set]
      refine hH_take (i := 5) (v := .pointer (some ⟨g2, 0, none⟩)) (d := 79) (l2 := #[true, true, true, true, true, true, false, false, false, false, false, false, false, false, false, false, false, false, false, false, false, false, false, false, false, false, false, false]) rfl (by kernel_rfl) (by kernel_rfl) (by kernel_rfl) (fun _ _ _ h => h) (by kernel_rfl) (fun w hSw => ?_) (by assumption) rfl (by kernel_rfl) ?_
      · clear hSw; go_simp
      simp only [List.set]
      refine hH_take (i := 6) (v := .int .u8 51) (d := 80) (l2 := #[true, true, true, true, true, true, true, false, false, false, false, false, false, false, false, false, false, false, false, false, false, false, false, false, false, false, false, false]) rfl (by kernel_rfl) (by kernel_rfl) (by kernel_rfl) (fun _ _ _ h => h) (by kernel_rfl) (fun w hSw => ?_) (by assumption) rfl (by kernel_rfl) ?_
      · have e0 := vcells hSw.2.2.1 0; clear hSw; go_simp
      simp only [List.set]
      refine hH_take (i := 7) (v := .bool false) (d := 81) (l2 := #[true, true, true, true, true, true, true, true, false, false, false, false, false, false, false, false, false, false, false, false, false, false, false, false, false, false, false, false]) rfl (by kernel_rfl) (by kernel_rfl) (by kernel_rfl) (fun _ _ _ h => h) (by kernel_rfl) (fun w hSw => ?_) (by assumption) rfl (by kernel_rfl) ?_
      · clear hSw; go_simp
      simp only [List.set]
      refine hH_take (i := 8) (v := .bool false) (d := 82) (l2 := #[true, true, true, true, true, true, true, true, true, false, false, false, false, false, false, false, false, false, false, false, false, false, false, false, false, false, false, false]) rfl (by kernel_rfl) (by kernel_rfl) (by kernel_rfl) (fun _ _ _ h => h) (by kernel_rfl) (fun w hSw => ?_) (by assumption) rfl (by kernel_rfl) ?_
      · clear hSw; go_simp
      simp only [List.set]
      refine hH_take (i := 9) (v := .bool false) (d := 83) (l2 := #[true, true, true, true, true, true, true, true, true, true, false, false, false, false, false, false, false, false, false, false, false, false, false, false, false, false, false, false]) rfl (by kernel_rfl) (by kernel_rfl) (by kernel_rfl) (fun _ _ _ h => h) (by kernel_rfl) (fun w hSw => ?_) (by assumption) rfl (by kernel_rfl) ?_
      · clear hSw; go_simp
      simp only [List.set]
      refine hH_take (i := 10) (v := .pointer (some ⟨g2, 0, none⟩)) (d := 84) (l2 := #[true, true, true, true, true, true, true, true, true, true, true, false, false, false, false, false, false, false, false, false, false, false, false, false, false, false, false, false]) rfl (by kernel_rfl) (by kernel_rfl) (by kernel_rfl) (fun _ _ _ h => h) (by kernel_rfl) (fun w hSw => ?_) (by assumption) rfl (by kernel_rfl) ?_
      · clear hSw; go_simp
      simp only [List.set]
      refine hH_take (i := 11) (v := .int .u8 51) (d := 85) (l2 := #[true, true, true, true, true, true, true, true, true, true, true, true, false, false, false, false, false, false, false, false, false, false, false, false, false, false, false, false]) rfl (by kernel_rfl) (by kernel_rfl) (by kernel_rfl) (fun _ _ _ h => h) (by kernel_rfl) (fun w hSw => ?_) (by assumption) rfl (by kernel_rfl) ?_
      · have e0 := vcells hSw.2.2.1 0; clear hSw; go_simp
      simp only [List.set]
      refine hH_take (i := 12) (v := .bool false) (d := 86) (l2 := #[true, true, true, true, true, true, true, true, true, true, true, true, true, false, false, false, false, false, false, false, false, false, false, false, false, false, false, false]) rfl (by kernel_rfl) (by kernel_rfl) (by kernel_rfl) (fun _ _ _ h => h) (by kernel_rfl) (fun w hSw => ?_) (by assumption) rfl (by kernel_rfl) ?_
      · clear hSw; go_simp
      simp only [List.set]
      refine hH_take (i := 13) (v := .bool false) (d := 87) (l2 := #[true, true, true, true, true, true, true, true, true, true, true, true, true, true, false, false, false, false, false, false, false, false, false, false, false, false, false, false]) rfl (by kernel_rfl) (by kernel_rfl) (by kernel_rfl) (fun _ _ _ h => h) (by kernel_rfl) (fun w hSw => ?_) (by assumption) rfl (by kernel_rfl) ?_
      · clear hSw; go_simp
      simp only [List.set]
      refine hH_drop (i := 14) (d := 88) (l2 := #[true, true, true, true, true, true, true, true, true, true, true, true, true, true, true, false, false, false, false, false, false, false, false, false, false, false, false, false]) rfl (by kernel_rfl) (by kernel_rfl) (by kernel_rfl) (fun _ _ _ h => h) (by kernel_rfl) (by assumption) rfl (by kernel_rfl) ?_
      simp only [List.set]
      refine hH_drop (i := 15) (d := 89) (l2 := #[true, true, true, true, true, true, true, true, true, true, true, true, true, true, true, true, false, false, false, false, false, false, false, false, false, false, false, false]) rfl (by kernel_rfl) (by kernel_rfl) (by kernel_rfl) (fun _ _ _ h => h) (by kernel_rfl) (by assumption) rfl (by kernel_rfl) ?_
      simp only [List.set]
      refine hH_drop (i := 16) (d := 90) (l2 := #[true, true, true, true, true, true, true, true, true, true, true, true, true, true, true, true, true, false, false, false, false, false, false, false, false, false, false, false]) rfl (by kernel_rfl) (by kernel_rfl) (by kernel_rfl) (fun _ _ _ h => h) (by kernel_rfl) (by assumption) rfl (by kernel_rfl) ?_
      simp only [List.set]
      refine hH_take (i := 17) (v := .bool false) (d := 91) (l2 := #[true, true, true, true, true, true, true, true, true, true, true, true, true, true, true, true, true, true, false, false, false, false, false, false, false, false, false, false]) rfl (by kernel_rfl) (by kernel_rfl) (by kernel_rfl) (fun _ _ _ h => h) (by kernel_rfl) (fun w hSw => ?_) (by assumption) rfl (by kernel_rfl) ?_
      · clear hSw; go_simp
      simp only [List.set]
      refine hH_take (i := 18) (v := .bool false) (d := 92) (l2 := #[true, true, true, true, true, true, true, true, true, true, true, true, true, true, true, true, true, true, true, false, false, false, false, false, false, false, false, false]) rfl (by kernel_rfl) (by kernel_rfl) (by kernel_rfl) (fun _ _ _ h => h) (by kernel_rfl) (fun w hSw => ?_) (by assumption) rfl (by kernel_rfl) ?_
      · clear hSw; go_simp
      simp only [List.set]
      refine hH_take (i := 19) (v := .bool false) (d := 93) (l2 := #[true, true, true, true, true, true, true, true, true, true, true, true, true, true, true, true, true, true, true, true, false, false, false, false, false, false, false, false]) rfl (by kernel_rfl) (by kernel_rfl) (by kernel_rfl) (fun _ _ _ h => h) (by kernel_rfl) (fun w hSw => ?_) (by assumption) rfl (by kernel_rfl) ?_
      · clear hSw; go_simp
      simp only [List.set]
      refine hH_take (i := 20) (v := .agg #[.int .u8 h, .int .u8 ka, .float .f64 xa, .string sa, .int .i64 ra, .int .u8 kb, .float .f64 xb, .string sb, .int .i64 rb, .int .u8 kc, .float .f64 xc, .string sc, .int .i64 rc, .bool p, .bool q, .bool z]) (d := 94) (l2 := #[true, true, true, true, true, true, true, true, true, true, true, true, true, true, true, true, true, true, true, true, true, false, false, false, false, false, false, false]) rfl (by kernel_rfl) (by kernel_rfl) (by kernel_rfl) (fun _ _ _ h => h) (by kernel_rfl) (fun w hSw => ?_) (by assumption) rfl (by kernel_rfl) ?_
      · exact ex_load rfl rfl hSw.1
      simp only [List.set]
      refine hH_take (i := 21) (v := .agg #[.int .u8 51, .int .u8 kg, .float .f64 xg, .string sg, .int .i64 rg, .int .u8 ki, .float .f64 xi, .string si, .int .i64 ri, .int .u8 kj, .float .f64 xj, .string sj, .int .i64 rj, .bool p1, .bool q1, .bool z1]) (d := 95) (l2 := #[true, true, true, true, true, true, true, true, true, true, true, true, true, true, true, true, true, true, true, true, true, true, false, false, false, false, false, false]) rfl (by kernel_rfl) (by kernel_rfl) (by kernel_rfl) (fun _ _ _ h => h) (by kernel_rfl) (fun w hSw => ?_) (by assumption) rfl (by kernel_rfl) ?_
      · exact ex_load rfl rfl hSw.2.2.1
      simp only [List.set]
      refine hH_take (i := 22) (v := .pointer (some ⟨w.heap.size, 0, none⟩)) (d := 96) (l2 := #[true, true, true, true, true, true, true, true, true, true, true, true, true, true, true, true, true, true, true, true, true, true, true, false, false, false, false, false]) rfl (by kernel_rfl) (by kernel_rfl) (by kernel_rfl) (fun _ _ _ h => h) (by kernel_rfl) (fun w hSw => ?_) (by assumption) rfl (by kernel_rfl) ?_
      · clear hSw; go_simp
      simp only [List.set]
      refine hH_take (i := 23) (v := .int .u8 h) (d := 97) (l2 := #[true, true, true, true, true, true, true, true, true, true, true, true, true, true, true, true, true, true, true, true, true, true, true, true, false, false, false, false]) rfl (by kernel_rfl) (by kernel_rfl) (by kernel_rfl) (fun _ _ _ h => h) (by kernel_rfl) (fun w hSw => ?_) (by assumption) rfl (by kernel_rfl) ?_
      · have e0 := vcells hSw.1 0; clear hSw; go_simp
      simp only [List.set]
      refine wpAnyH_ready (rs := [24]) (by kernel_rfl) (by simp) ?_
      refine AllReadyH.cons rfl (fun K hK => ?_) AllReadyH.nil
      go_simp
      (go_at_call 10; (with_reducible refine (hL _).mono ?_); rintro e w1 ⟨rfl, h9⟩; replace hS : (fun wx => wx.heap[w.heap.size]? = some (.cells #[.int .u8 h, .int .u8 ka, .float .f64 xa, .string sa, .int .i64 ra, .int .u8 kb, .float .f64 xb, .string sb, .int .i64 rb, .int .u8 kc, .float .f64 xc, .string sc, .int .i64 rc, .bool p, .bool q, .bool z] 26 (0, 0)) ∧ wx.heap[w.heap.size + 1]? = some (.cells #[.int .u8 m, .int .u8 kd, .float .f64 xd, .string sd, .int .i64 rd, .int .u8 ke, .float .f64 xe, .string se, .int .i64 re, .int .u8 kf, .float .f64 xf, .string sf, .int .i64 rf, .bool p', .bool q', .bool z'] 26 (0, 0)) ∧ wx.heap[g2]? = some (.cells #[.int .u8 51, .int .u8 kg, .float .f64 xg, .string sg, .int .i64 rg, .int .u8 ki, .float .f64 xi, .string si, .int .i64 ri, .int .u8 kj, .float .f64 xj, .string sj, .int .i64 rj, .bool p1, .bool q1, .bool z1] 26 (0, 0)) ∧ wx.heap[g3]? = some (.cells #[.int .u8 51, .int .u8 kl, .float .f64 xl, .string sl, .int .i64 rl, .int .u8 ko, .float .f64 xo, .string so, .int .i64 ro, .int .u8 kt, .float .f64 xt, .string st, .int .i64 rt, .bool p3, .bool q3, .bool z3] 26 (0, 0)) ∧ Below w.heap.size w wx) w1 := ⟨vblkn h9 hS.1, vblkn h9 hS.2.1, vblkn h9 hS.2.2.1, vblkn h9 hS.2.2.2.1, vb hS.2.2.2.2 h9⟩)
      refine hK.out _ _ hS (fun hHeld => ?_)
      clear hK K
      refine wpAnyH_ready (rs := [25]) (by kernel_rfl) (by simp) ?_
      refine AllReadyH.cons rfl (fun K hK => ?_) AllReadyH.nil
      go_simp
      (go_at_call 9; (with_reducible refine (hS1 _).mono ?_); rintro e w1 ⟨rfl, h9⟩; replace hS : (fun wx => wx.heap[w.heap.size]? = some (.cells #[.int .u8 h, .int .u8 ka, .float .f64 xa, .string sa, .int .i64 ra, .int .u8 kb, .float .f64 xb, .string sb, .int .i64 rb, .int .u8 kc, .float .f64 xc, .string sc, .int .i64 rc, .bool p, .bool q, .bool z] 26 (0, 0)) ∧ wx.heap[w.heap.size + 1]? = some (.cells #[.int .u8 m, .int .u8 kd, .float .f64 xd, .string sd, .int .i64 rd, .int .u8 ke, .float .f64 xe, .string se, .int .i64 re, .int .u8 kf, .float .f64 xf, .string sf, .int .i64 rf, .bool p', .bool q', .bool z'] 26 (0, 0)) ∧ wx.heap[g2]? = some (.cells #[.int .u8 51, .int .u8 kg, .float .f64 xg, .string sg, .int .i64 rg, .int .u8 ki, .float .f64 xi, .string si, .int .i64 ri, .int .u8 kj, .float .f64 xj, .string sj, .int .i64 rj, .bool p1, .bool q1, .bool z1] 26 (0, 0)) ∧ wx.heap[g3]? = some (.cells #[.int .u8 51, .int .u8 kl, .float .f64 xl, .string sl, .int .i64 rl, .int .u8 ko, .float .f64 xo, .string so, .int .i64 ro, .int .u8 kt, .float .f64 xt, .string st, .int .i64 rt, .bool p3, .bool q3, .bool z3] 26 (0, 0)) ∧ Below w.heap.size w wx) w1 := ⟨vblkn h9 hS.1, vblkn h9 hS.2.1, vblkn h9 hS.2.2.1, vblkn h9 hS.2.2.2.1, vb hS.2.2.2.2 h9⟩)
      refine hK.out _ _ hS (fun hHeld => ?_)
      clear hK K
      refine hH_take (i := 26) (v := .bool false) (d := 100) (l2 := #[true, true, true, true, true, true, true, true, true, true, true, true, true, true, true, true, true, true, true, true, true, true, true, true, true, true, true, false]) rfl (by kernel_rfl) (by kernel_rfl) (by kernel_rfl) (fun _ _ _ h => h) (by kernel_rfl) (fun w hSw => ?_) (by assumption) rfl (by kernel_rfl) ?_
      · clear hSw; go_simp
      simp only [List.set]
      refine hH_take (i := 27) (v := .bool false) (d := 101) (l2 := #[true, true, true, true, true, true, true, true, true, true, true, true, true, true, true, true, true, true, true, true, true, true, true, true, true, true, true, true]) rfl (by kernel_rfl) (by kernel_rfl) (by kernel_rfl) (fun _ _ _ h => h) (by kernel_rfl) (fun w hSw => ?_) (by assumption) rfl (by kernel_rfl) ?_
      · clear hSw; go_simp
      simp only [List.set]
      refine wpAnyH_done (by kernel_rfl) ?_ _
      go_wp2_with (fail)
      go_meet
      case rel => exact ⟨rfl, hS⟩
    · subst hn
      have hS : (fun wx => wx.heap[w.heap.size]? = some (.cells #[.int .u8 h, .int .u8 ka, .float .f64 xa, .string sa, .int .i64 ra, .int .u8 kb, .float .f64 xb, .string sb, .int .i64 rb, .int .u8 kc, .float .f64 xc, .string sc, .int .i64 rc, .bool p, .bool q, .bool z] 26 (0, 0)) ∧ wx.heap[w.heap.size + 1]? = some (.cells #[.int .u8 m, .int .u8 kd, .float .f64 xd, .string sd, .int .i64 rd, .int .u8 ke, .float .f64 xe, .string se, .int .i64 re, .int .u8 kf, .float .f64 xf, .string sf, .int .i64 rf, .bool p', .bool q', .bool z'] 26 (0, 0)) ∧ wx.heap[g2]? = some (.cells #[.int .u8 60, .int .u8 kg, .float .f64 xg, .string sg, .int .i64 rg, .int .u8 ki, .float .f64 xi, .string si, .int .i64 ri, .int .u8 kj, .float .f64 xj, .string sj, .int .i64 rj, .bool p1, .bool q1, .bool z1] 26 (0, 0)) ∧ wx.heap[g3]? = some (.cells #[.int .u8 60, .int .u8 kl, .float .f64 xl, .string sl, .int .i64 rl, .int .u8 ko, .float .f64 xo, .string so, .int .i64 ro, .int .u8 kt, .float .f64 xt, .string st, .int .i64 rt, .bool p3, .bool q3, .bool z3] 26 (0, 0)) ∧ Below w.heap.size w wx) wc.drew := ⟨b1, b2, b3, b4, hB0.drew⟩
      refine wp_region_held_drew (S := fun wx => wx.heap[w.heap.size]? = some (.cells #[.int .u8 h, .int .u8 ka, .float .f64 xa, .string sa, .int .i64 ra, .int .u8 kb, .float .f64 xb, .string sb, .int .i64 rb, .int .u8 kc, .float .f64 xc, .string sc, .int .i64 rc, .bool p, .bool q, .bool z] 26 (0, 0)) ∧ wx.heap[w.heap.size + 1]? = some (.cells #[.int .u8 m, .int .u8 kd, .float .f64 xd, .string sd, .int .i64 rd, .int .u8 ke, .float .f64 xe, .string se, .int .i64 re, .int .u8 kf, .float .f64 xf, .string sf, .int .i64 rf, .bool p', .bool q', .bool z'] 26 (0, 0)) ∧ wx.heap[g2]? = some (.cells #[.int .u8 60, .int .u8 kg, .float .f64 xg, .string sg, .int .i64 rg, .int .u8 ki, .float .f64 xi, .string si, .int .i64 ri, .int .u8 kj, .float .f64 xj, .string sj, .int .i64 rj, .bool p1, .bool q1, .bool z1] 26 (0, 0)) ∧ wx.heap[g3]? = some (.cells #[.int .u8 60, .int .u8 kl, .float .f64 xl, .string sl, .int .i64 rl, .int .u8 ko, .float .f64 xo, .string so, .int .i64 ro, .int .u8 kt, .float .f64 xt, .string st, .int .i64 rt, .bool p3, .bool q3, .bool z3] 26 (0, 0)) ∧ Below w.heap.size w wx) (by kernel_rfl) hS (fun hHeld => ?_)
      refine hH_take (i := 0) (v := .int .i64 0) (d := 74) (l2 := #[true, false, false, false, false, false, false, false, false, false, false, false, false, false, false, false, false, false, false, false, false, false, false, false, false, false, false, false]) rfl (by kernel_rfl) (by kernel_rfl) (by kernel_rfl) (fun _ _ _ h => h) (by kernel_rfl) (fun w hSw => ?_) (by assumption) rfl (by kernel_rfl) ?_
      · clear hSw; go_simp
      simp only [List.set]
      refine hH_take (i := 1) (v := .bool false) (d := 75) (l2 := #[true, true, false, false, false, false, false, false, false, false, false, false, false, false, false, false, false, false, false, false, false, false, false, false, false, false, false, false]) rfl (by kernel_rfl) (by kernel_rfl) (by kernel_rfl) (fun _ _ _ h => h) (by kernel_rfl) (fun w hSw => ?_) (by assumption) rfl (by kernel_rfl) ?_
      · clear hSw; go_simp
      simp only [List.set]
      refine hH_take (i := 2) (v := .bool false) (d := 76) (l2 := #[true, true, true, false, false, false, false, false, false, false, false, false, false, false, false, false, false, false, false, false, false, false, false, false, false, false, false, false]) rfl (by kernel_rfl) (by kernel_rfl) (by kernel_rfl) (fun _ _ _ h => h) (by kernel_rfl) (fun w hSw => ?_) (by assumption) rfl (by kernel_rfl) ?_
      · clear hSw; go_simp
      simp only [List.set]
      refine hH_take (i := 3) (v := .pointer (some ⟨g3, 0, none⟩)) (d := 77) (l2 := #[true, true, true, true, false, false, false, false, false, false, false, false, false, false, false, false, false, false, false, false, false, false, false, false, false, false, false, false]) rfl (by kernel_rfl) (by kernel_rfl) (by kernel_rfl) (fun _ _ _ h => h) (by kernel_rfl) (fun w hSw => ?_) (by assumption) rfl (by kernel_rfl) ?_
      · clear hSw; go_simp
      simp only [List.set]
      refine hH_take (i := 4) (v := .int .u8 60) (d := 78) (l2 := #[true, true, true, true, true, false, false, false, false, false, false, false, false, false, false, false, false, false, false, false, false, false, false, false, false, false, false, false]) rfl (by kernel_rfl) (by kernel_rfl) (by kernel_rfl) (fun _ _ _ h => h) (by kernel_rfl) (fun w hSw => ?_) (by assumption) rfl (by kernel_rfl) ?_
      · have e0 := vcells hSw.2.2.2.1 0; clear hSw; go_simp
      simp only [List.set]
      refine hH_take (i := 5) (v := .pointer (some ⟨g2, 0, none⟩)) (d := 79) (l2 := #[true, true, true, true, true, true, false, false, false, false, false, false, false, false, false, false, false, false, false, false, false, false, false, false, false, false, false, false]) rfl (by kernel_rfl) (by kernel_rfl) (by kernel_rfl) (fun _ _ _ h => h) (by kernel_rfl) (fun w hSw => ?_) (by assumption) rfl (by kernel_rfl) ?_
      · clear hSw; go_simp
      simp only [List.set]
      refine hH_take (i := 6) (v := .int .u8 60) (d := 80) (l2 := #[true, true, true, true, true, true, true, false, false, false, false, false, false, false, false, false, false, false, false, false, false, false, false, false, false, false, false, false]) rfl (by kernel_rfl) (by kernel_rfl) (by kernel_rfl) (fun _ _ _ h => h) (by kernel_rfl) (fun w hSw => ?_) (by assumption) rfl (by kernel_rfl) ?_
      · have e0 := vcells hSw.2.2.1 0; clear hSw; go_simp
      simp only [List.set]
      refine hH_take (i := 7) (v := .bool false) (d := 81) (l2 := #[true, true, true, true, true, true, true, true, false, false, false, false, false, false, false, false, false, false, false, false, false, false, false, false, false, false, false, false]) rfl (by kernel_rfl) (by kernel_rfl) (by kernel_rfl) (fun _ _ _ h => h) (by kernel_rfl) (fun w hSw => ?_) (by assumption) rfl (by kernel_rfl) ?_
      · clear hSw; go_simp
      simp only [List.set]
      refine hH_take (i := 8) (v := .bool false) (d := 82) (l2 := #[true, true, true, true, true, true, true, true, true, false, false, false, false, false, false, false, false, false, false, false, false, false, false, false, false, false, false, false]) rfl (by kernel_rfl) (by kernel_rfl) (by kernel_rfl) (fun _ _ _ h => h) (by kernel_rfl) (fun w hSw => ?_) (by assumption) rfl (by kernel_rfl) ?_
      · clear hSw; go_simp
      simp only [List.set]
      refine hH_take (i := 9) (v := .bool false) (d := 83) (l2 := #[true, true, true, true, true, true, true, true, true, true, false, false, false, false, false, false, false, false, false, false, false, false, false, false, false, false, false, false]) rfl (by kernel_rfl) (by kernel_rfl) (by kernel_rfl) (fun _ _ _ h => h) (by kernel_rfl) (fun w hSw => ?_) (by assumption) rfl (by kernel_rfl) ?_
      · clear hSw; go_simp
      simp only [List.set]
      refine hH_take (i := 10) (v := .pointer (some ⟨g2, 0, none⟩)) (d := 84) (l2 := #[true, true, true, true, true, true, true, true, true, true, true, false, false, false, false, false, false, false, false, false, false, false, false, false, false, false, false, false]) rfl (by kernel_rfl) (by kernel_rfl) (by kernel_rfl) (fun _ _ _ h => h) (by kernel_rfl) (fun w hSw => ?_) (by assumption) rfl (by kernel_rfl) ?_
      · clear hSw; go_simp
      simp only [List.set]
      refine hH_take (i := 11) (v := .int .u8 60) (d := 85) (l2 := #[true, true, true, true, true, true, true, true, true, true, true, true, false, false, false, false, false, false, false, false, false, false, false, false, false, false, false, false]) rfl (by kernel_rfl) (by kernel_rfl) (by kernel_rfl) (fun _ _ _ h => h) (by kernel_rfl) (fun w hSw => ?_) (by assumption) rfl (by kernel_rfl) ?_
      · have e0 := vcells hSw.2.2.1 0; clear hSw; go_simp
      simp only [List.set]
      refine hH_take (i := 12) (v := .bool true) (d := 86) (l2 := #[true, true, true, true, true, true, true, true, true, true, true, true, true, false, false, false, false, false, false, false, false, false, false, false, false, false, false, false]) rfl (by kernel_rfl) (by kernel_rfl) (by kernel_rfl) (fun _ _ _ h => h) (by kernel_rfl) (fun w hSw => ?_) (by assumption) rfl (by kernel_rfl) ?_
      · clear hSw; go_simp
      simp only [List.set]
      refine hH_take (i := 13) (v := .bool true) (d := 87) (l2 := #[true, true, true, true, true, true, true, true, true, true, true, true, true, true, false, false, false, false, false, false, false, false, false, false, false, false, false, false]) rfl (by kernel_rfl) (by kernel_rfl) (by kernel_rfl) (fun _ _ _ h => h) (by kernel_rfl) (fun w hSw => ?_) (by assumption) rfl (by kernel_rfl) ?_
      · clear hSw; go_simp
      simp only [List.set]
      refine hH_take (i := 14) (v := .pointer (some ⟨g2, 0, none⟩)) (d := 88) (l2 := #[true, true, true, true, true, true, true, true, true, true, true, true, true, true, true, false, false, false, false, false, false, false, false, false, false, false, false, false]) rfl (by kernel_rfl) (by kernel_rfl) (by kernel_rfl) (fun _ _ _ h => h) (by kernel_rfl) (fun w hSw => ?_) (by assumption) rfl (by kernel_rfl) ?_
      · clear hSw; go_simp
      simp only [List.set]
      refine hH_take (i := 15) (v := .int .u8 60) (d := 89) (l2 := #[true, true, true, true, true, true, true, true, true, true, true, true, true, true, true, true, false, false, false, false, false, false, false, false, false, false, false, false]) rfl (by kernel_rfl) (by kernel_rfl) (by kernel_rfl) (fun _ _ _ h => h) (by kernel_rfl) (fun w hSw => ?_) (by assumption) rfl (by kernel_rfl) ?_
      · have e0 := vcells hSw.2.2.1 0; clear hSw; go_simp
      simp only [List.set]
      refine hH_take (i := 16) (v := .bool false) (d := 90) (l2 := #[true, true, true, true, true, true, true, true, true, true, true, true, true, true, true, true, true, false, false, false, false, false, false, false, false, false, false, false]) rfl (by kernel_rfl) (by kernel_rfl) (by kernel_rfl) (fun _ _ _ h => h) (by kernel_rfl) (fun w hSw => ?_) (by assumption) rfl (by kernel_rfl) ?_
      · clear hSw; go_simp
      simp only [List.set]
      refine hH_take (i := 17) (v := .bool false) (d := 91) (l2 := #[true, true, true, true, true, true, true, true, true, true, true, true, true, true, true, true, true, true, false, false, false, false, false, false, false, false, false, false]) rfl (by kernel_rfl) (by kernel_rfl) (by kernel_rfl) (fun _ _ _ h => h) (by kernel_rfl) (fun w hSw => ?_) (by assumption) rfl (by kernel_rfl) ?_
      · clear hSw; go_simp
      simp only [List.set]
      refine hH_take (i := 18) (v := .bool false) (d := 92) (l2 := #[true, true, true, true, true, true, true, true, true, true, true, true, true, true, true, true, true, true, true, false, false, false, false, false, false, false, false, false]) rfl (by kernel_rfl) (by kernel_rfl) (by kernel_rfl) (fun _ _ _ h => h) (by kernel_rfl) (fun w hSw => ?_) (by assumption) rfl (by kernel_rfl) ?_
      · clear hSw; go_simp
      simp only [List.set]
      refine hH_take (i := 19) (v := .bool false) (d := 93) (l2 := #[true, true, true, true, true, true, true, true, true, true, true, true, true, true, true, true, true, true, true, true, false, false, false, false, false, false, false, false]) rfl (by kernel_rfl) (by kernel_rfl) (by kernel_rfl) (fun _ _ _ h => h) (by kernel_rfl) (fun w hSw => ?_) (by assumption) rfl (by kernel_rfl) ?_
      · clear hSw; go_simp
      simp only [List.set]
      refine hH_take (i := 20) (v := .agg #[.int .u8 h, .int .u8 ka, .float .f64 xa, .string sa, .int .i64 ra, .int .u8 kb, .float .f64 xb, .string sb, .int .i64 rb, .int .u8 kc, .float .f64 xc, .string sc, .int .i64 rc, .bool p, .bool q, .bool z]) (d := 94) (l2 := #[true, true, true, true, true, true, true, true, true, true, true, true, true, true, true, true, true, true, true, true, true, false, false, false, false, false, false, false]) rfl (by kernel_rfl) (by kernel_rfl) (by kernel_rfl) (fun _ _ _ h => h) (by kernel_rfl) (fun w hSw => ?_) (by assumption) rfl (by kernel_rfl) ?_
      · exact ex_load rfl rfl hSw.1
      simp only [List.set]
      refine hH_take (i := 21) (v := .agg #[.int .u8 60, .int .u8 kg, .float .f64 xg, .string sg, .int .i64 rg, .int .u8 ki, .float .f64 xi, .string si, .int .i64 ri, .int .u8 kj, .float .f64 xj, .string sj, .int .i64 rj, .bool p1, .bool q1, .bool z1]) (d := 95) (l2 := #[true, true, true, true, true, true, true, true, true, true, true, true, true, true, true, true, true, true, true, true, true, true, false, false, false, false, false, false]) rfl (by kernel_rfl) (by kernel_rfl) (by kernel_rfl) (fun _ _ _ h => h) (by kernel_rfl) (fun w hSw => ?_) (by assumption) rfl (by kernel_rfl) ?_
      · exact ex_load rfl rfl hSw.2.2.1
      simp only [List.set]
      refine hH_take (i := 22) (v := .pointer (some ⟨w.heap.size, 0, none⟩)) (d := 96) (l2 := #[true, true, true, true, true, true, true, true, true, true, true, true, true, true, true, true, true, true, true, true, true, true, true, false, false, false, false, false]) rfl (by kernel_rfl) (by kernel_rfl) (by kernel_rfl) (fun _ _ _ h => h) (by kernel_rfl) (fun w hSw => ?_) (by assumption) rfl (by kernel_rfl) ?_
      · clear hSw; go_simp
      simp only [List.set]
      refine hH_take (i := 23) (v := .int .u8 h) (d := 97) (l2 := #[true, true, true, true, true, true, true, true, true, true, true, true, true, true, true, true, true, true, true, true, true, true, true, true, false, false, false, false]) rfl (by kernel_rfl) (by kernel_rfl) (by kernel_rfl) (fun _ _ _ h => h) (by kernel_rfl) (fun w hSw => ?_) (by assumption) rfl (by kernel_rfl) ?_
      · have e0 := vcells hSw.1 0; clear hSw; go_simp
      simp only [List.set]
      refine wpAnyH_ready (rs := [24]) (by kernel_rfl) (by simp) ?_
      refine AllReadyH.cons rfl (fun K hK => ?_) AllReadyH.nil
      go_simp
      (go_at_call 10; (with_reducible refine (hL _).mono ?_); rintro e w1 ⟨rfl, h9⟩; replace hS : (fun wx => wx.heap[w.heap.size]? = some (.cells #[.int .u8 h, .int .u8 ka, .float .f64 xa, .string sa, .int .i64 ra, .int .u8 kb, .float .f64 xb, .string sb, .int .i64 rb, .int .u8 kc, .float .f64 xc, .string sc, .int .i64 rc, .bool p, .bool q, .bool z] 26 (0, 0)) ∧ wx.heap[w.heap.size + 1]? = some (.cells #[.int .u8 m, .int .u8 kd, .float .f64 xd, .string sd, .int .i64 rd, .int .u8 ke, .float .f64 xe, .string se, .int .i64 re, .int .u8 kf, .float .f64 xf, .string sf, .int .i64 rf, .bool p', .bool q', .bool z'] 26 (0, 0)) ∧ wx.heap[g2]? = some (.cells #[.int .u8 60, .int .u8 kg, .float .f64 xg, .string sg, .int .i64 rg, .int .u8 ki, .float .f64 xi, .string si, .int .i64 ri, .int .u8 kj, .float .f64 xj, .string sj, .int .i64 rj, .bool p1, .bool q1, .bool z1] 26 (0, 0)) ∧ wx.heap[g3]? = some (.cells #[.int .u8 60, .int .u8 kl, .float .f64 xl, .string sl, .int .i64 rl, .int .u8 ko, .float .f64 xo, .string so, .int .i64 ro, .int .u8 kt, .float .f64 xt, .string st, .int .i64 rt, .bool p3, .bool q3, .bool z3] 26 (0, 0)) ∧ Below w.heap.size w wx) w1 := ⟨vblkn h9 hS.1, vblkn h9 hS.2.1, vblkn h9 hS.2.2.1, vblkn h9 hS.2.2.2.1, vb hS.2.2.2.2 h9⟩)
      refine hK.out _ _ hS (fun hHeld => ?_)
      clear hK K
      refine wpAnyH_ready (rs := [25]) (by kernel_rfl) (by simp) ?_
      refine AllReadyH.cons rfl (fun K hK => ?_) AllReadyH.nil
      go_simp
      (go_at_call 9; (with_reducible refine (hS1 _).mono ?_); rintro e w1 ⟨rfl, h9⟩; replace hS : (fun wx => wx.heap[w.heap.size]? = some (.cells #[.int .u8 h, .int .u8 ka, .float .f64 xa, .string sa, .int .i64 ra, .int .u8 kb, .float .f64 xb, .string sb, .int .i64 rb, .int .u8 kc, .float .f64 xc, .string sc, .int .i64 rc, .bool p, .bool q, .bool z] 26 (0, 0)) ∧ wx.heap[w.heap.size + 1]? = some (.cells #[.int .u8 m, .int .u8 kd, .float .f64 xd, .string sd, .int .i64 rd, .int .u8 ke, .float .f64 xe, .string se, .int .i64 re, .int .u8 kf, .float .f64 xf, .string sf, .int .i64 rf, .bool p', .bool q', .bool z'] 26 (0, 0)) ∧ wx.heap[g2]? = some (.cells #[.int .u8 60, .int .u8 kg, .float .f64 xg, .string sg, .int .i64 rg, .int .u8 ki, .float .f64 xi, .string si, .int .i64 ri, .int .u8 kj, .float .f64 xj, .string sj, .int .i64 rj, .bool p1, .bool q1, .bool z1] 26 (0, 0)) ∧ wx.heap[g3]? = some (.cells #[.int .u8 60, .int .u8 kl, .float .f64 xl, .string sl, .int .i64 rl, .int .u8 ko, .float .f64 xo, .string so, .int .i64 ro, .int .u8 kt, .float .f64 xt, .string st, .int .i64 rt, .bool p3, .bool q3, .bool z3] 26 (0, 0)) ∧ Below w.heap.size w wx) w1 := ⟨vblkn h9 hS.1, vblkn h9 hS.2.1, vblkn h9 hS.2.2.1, vblkn h9 hS.2.2.2.1, vb hS.2.2.2.2 h9⟩)
      refine hK.out _ _ hS (fun hHeld => ?_)
      clear hK K
      refine hH_take (i := 26) (v := .bool false) (d := 100) (l2 := #[true, true, true, true, true, true, true, true, true, true, true, true, true, true, true, true, true, true, true, true, true, true, true, true, true, true, true, false]) rfl (by kernel_rfl) (by kernel_rfl) (by kernel_rfl) (fun _ _ _ h => h) (by kernel_rfl) (fun w hSw => ?_) (by assumption) rfl (by kernel_rfl) ?_
      · clear hSw; go_simp
      simp only [List.set]
      refine hH_take (i := 27) (v := .bool false) (d := 101) (l2 := #[true, true, true, true, true, true, true, true, true, true, true, true, true, true, true, true, true, true, true, true, true, true, true, true, true, true, true, true]) rfl (by kernel_rfl) (by kernel_rfl) (by kernel_rfl) (fun _ _ _ h => h) (by kernel_rfl) (fun w hSw => ?_) (by assumption) rfl (by kernel_rfl) ?_
      · clear hSw; go_simp
      simp only [List.set]
      refine wpAnyH_done (by kernel_rfl) ?_ _
      go_wp2_with (fail)
      go_meet
      case rel => exact ⟨rfl, hS⟩
  case rest =>
  clear b1 b2 b3 b4 hB0
  obtain ⟨rfl, b1, b2, b3, b4, hB0⟩ := hcut
  go_upto_region 13 with (fail)
  go_cut [16, 11, 12] from 17 to 169 (fun u16 u11 u12 wx => ∃ gn, u16 = .pointer (some ⟨gn, 0, none⟩) ∧ u11 = .bool true ∧ u12 = .int .i64 0 ∧ wx.heap[w.heap.size]? = some (.cells #[.int .u8 h, .int .u8 ka, .float .f64 xa, .string sa, .int .i64 ra, .int .u8 kb, .float .f64 xb, .string sb, .int .i64 rb, .int .u8 kc, .float .f64 xc, .string sc, .int .i64 rc, .bool p, .bool q, .bool z] 26 (0, 0)) ∧ wx.heap[w.heap.size + 1]? = some (.cells #[.int .u8 m, .int .u8 kd, .float .f64 xd, .string sd, .int .i64 rd, .int .u8 ke, .float .f64 xe, .string se, .int .i64 re, .int .u8 kf, .float .f64 xf, .string sf, .int .i64 rf, .bool p', .bool q', .bool z'] 26 (0, 0)) ∧ wx.heap[g2]? = some (.cells #[.int .u8 n, .int .u8 kg, .float .f64 xg, .string sg, .int .i64 rg, .int .u8 ki, .float .f64 xi, .string si, .int .i64 ri, .int .u8 kj, .float .f64 xj, .string sj, .int .i64 rj, .bool p1, .bool q1, .bool z1] 26 (0, 0)) ∧ wx.heap[g3]? = some (.cells #[.int .u8 n, .int .u8 kl, .float .f64 xl, .string sl, .int .i64 rl, .int .u8 ko, .float .f64 xo, .string so, .int .i64 ro, .int .u8 kt, .float .f64 xt, .string st, .int .i64 rt, .bool p3, .bool q3, .bool z3] 26 (0, 0)) ∧ wx.heap[gn]? = some (.cells #[.int .u8 n5, .int .u8 ka5, .float .f64 xa5, .string sa5, .int .i64 ra5, .int .u8 kb5, .float .f64 xb5, .string sb5, .int .i64 rb5, .int .u8 kc5, .float .f64 xc5, .string sc5, .int .i64 rc5, .bool p5, .bool q5, .bool z5] 26 (0, 0)) ∧ Below w.heap.size w wx)
  case first =>
    go_wp2_with (first | ((with_reducible refine d_load ?_ rfl rfl b1 ?_); (rfl)) | ((with_reducible refine d_load ?_ rfl rfl b2 ?_); (rfl)) | ((with_reducible refine d_load ?_ rfl rfl b3 ?_); (rfl)) | ((with_reducible refine d_load ?_ rfl rfl b4 ?_); (rfl)) | (go_at_call 6; (with_reducible refine (hA2 _).mono ?_); rintro e w1 ⟨rfl, h9⟩; replace b1 := vblkn h9 b1; replace b2 := vblkn h9 b2; replace b3 := vblkn h9 b3; replace b4 := vblkn h9 b4; replace hB0 := vb hB0 h9) | ((with_reducible refine d_store rfl rfl rfl rfl (heap_alloc_new _ _) ?_ ?_ ?_); (rfl); (rfl)))
    go_meet
    case rel => exact ⟨_, rfl, rfl, rfl, made_old b1, made_old b2, made_old b3, made_old b4, made_row rfl, made_below hB0 hB0.size⟩
  case rest =>
  clear b1 b2 b3 b4 hB0
  obtain ⟨g4, rfl, rfl, rfl, b1, b2, b3, b4, b5, hB0⟩ := hcut
  clear b4
  go_upto_region 16 with (first | ((with_reducible refine d_load ?_ rfl rfl b3 ?_); (rfl)) | ((with_reducible refine d_load ?_ rfl rfl b5 ?_); (rfl)) | (go_at_call 9; (with_reducible refine (hS2 _).mono ?_); rintro e w1 ⟨rfl, h9⟩; replace b1 := vblkn h9 b1; replace b2 := vblkn h9 b2; replace b3 := vblkn h9 b3; replace b5 := vblkn h9 b5; replace hB0 := vb hB0 h9))
  have hE := HE.out
  have hst := HST.out
  have hVb := HVB.out
  have hVc := HVC.out
  have hVa := HVA.out
  have hp := HP.out
  clear HE HST HVB HVC HVA HP hA hC hK hL hS1 hA2 hS2 hal hld hln b1 b5
  cases found
  · obtain rfl := hE rfl
    clear hst hVb hVc hVa hp
    go_wp2
    go_ret
    exact ⟨rfl, hB0⟩
  cases z'
  rotate_left
  · clear hst hVb hVc hVa hp
    have e1 := vcells b2 15
    go_wp2
    go_ret
    exact ⟨rfl, hB0⟩
  obtain ⟨hz1, hq1, hnm⟩ := hst rfl rfl
  clear hst hE
  replace hVb := hVb rfl rfl
  replace hVc := hVc rfl rfl
  replace hVa := hVa rfl rfl
  replace hp := hp rfl rfl
  subst hz1 hq1 hnm
  have e1 := vcells b2 15
  have e2 := vcells b3 15
  have e3 := vcells b3 14
  have e4 := vcells b2 14
  have e5 := vcells b3 0
  have e6 := vcells b2 0
  cases acc
  · clear hVb hVc
    cases p'
    rotate_left
    · clear hVa hp
      go_wp2_with (first | ((with_reducible refine d_load ?_ rfl rfl b2 ?_); (rfl)) | ((with_reducible refine v_load ?_ rfl rfl b3 rfl rfl rfl rfl ?_); (rfl)) | ((with_reducible refine v_load ?_ rfl rfl b2 rfl rfl rfl rfl ?_); (rfl)) | (go_at_call 11; (with_reducible refine (hI _).mono ?_); rintro e w1 ⟨rfl, h9⟩; replace b2 := vblkn h9 b2; replace b3 := vblkn h9 b3; replace hB0 := vb hB0 h9; have e7 := vcells b2 13; have e8 := vcells b3 13))
      go_ret
      exact ⟨rfl, hB0⟩
    · obtain rfl := hp rfl rfl
      have V := hVa rfl rfl
      clear hVa hp
      go_wp2_with (first | ((with_reducible refine d_load ?_ rfl rfl b2 ?_); (rfl)) | ((with_reducible refine v_load ?_ rfl rfl b3 rfl rfl rfl rfl ?_); (rfl)) | ((with_reducible refine v_load ?_ rfl rfl b2 rfl rfl rfl rfl ?_); (rfl)) | (go_at_call 11; (with_reducible refine (hI _).mono ?_); rintro e w1 ⟨rfl, h9⟩; replace b2 := vblkn h9 b2; replace b3 := vblkn h9 b3; replace hB0 := vb hB0 h9; have e7 := vcells b2 13; have e8 := vcells b3 13) | (go_at_call 12; (with_reducible refine (V _).mono ?_); rintro e w1 ⟨rfl, h9⟩; replace b2 := vblkn h9 b2; replace b3 := vblkn h9 b3; replace hB0 := vb hB0 h9))
      go_ret
      exact ⟨rfl, hB0⟩
  · have V := hVb rfl
    have V2 := hVc rfl
    clear hVb hVc hVa hp
    go_wp2_with (first | ((with_reducible refine d_load ?_ rfl rfl b2 ?_); (rfl)) | ((with_reducible refine v_load ?_ rfl rfl b3 rfl rfl rfl rfl ?_); (rfl)) | ((with_reducible refine v_load ?_ rfl rfl b2 rfl rfl rfl rfl ?_); (rfl)) | (go_at_call 11; (with_reducible refine (hI _).mono ?_); rintro e w1 ⟨rfl, h9⟩; replace b2 := vblkn h9 b2; replace b3 := vblkn h9 b3; replace hB0 := vb hB0 h9) | (go_at_call 12; (with_reducible first | refine (V _).mono ?_ | refine (V2 _).mono ?_); rintro e w1 ⟨rfl, h9⟩; replace b2 := vblkn h9 b2; replace b3 := vblkn h9 b3; replace hB0 := vb hB0 h9))
    go_ret
    exact ⟨rfl, hB0⟩
end Go.Proofs.Ytlgbnfcnimjheaa.S
