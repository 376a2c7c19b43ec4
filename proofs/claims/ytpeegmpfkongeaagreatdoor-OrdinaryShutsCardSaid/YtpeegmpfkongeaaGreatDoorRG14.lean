/-
  Descriptors: complete, become, whole, changes, Compatible, Apply, Complete: walks. Generated: gen_descwalk.py.
-/
import Derived.Test.YtpeegmpfkongeaaGreatDoorRG13
import Derived.Deep.LoopGhost
import Derived.Test.YtpeegmpfkongeaaGreatDoorRG12
namespace Go.Proofs.YtpeegmpfkongeaaGreatDoor.S
open Go.RowKit Fl

set_option maxRecDepth 1000000 in
set_option maxHeartbeats 4000000 in
theorem complete_x (h n : Int) (ka : Int) (xa : Nat) (sa : ByteArray) (ra : Int) (kb : Int) (xb : Nat) (sb : ByteArray) (rb : Int) (kc : Int) (xc : Nat) (sc : ByteArray) (rc : Int) (kg : Int) (xg : Nat) (sg : ByteArray) (rg : Int) (ki : Int) (xi : Nat) (si : ByteArray) (ri : Int) (kj : Int) (xj : Nat) (sj : ByteArray) (rj : Int) (p q z p1 q1 z1 : Bool) {acc : Bool} (ha : ∀ w, Calls Tryz.prog 102 #[.agg #[.int .u8 h, .int .u8 ka, .float .f64 xa, .string sa, .int .i64 ra, .int .u8 kb, .float .f64 xb, .string sb, .int .i64 rb, .int .u8 kc, .float .f64 xc, .string sc, .int .i64 rc, .bool p, .bool q, .bool z]] w fun e w' => e = .returned (.bool acc) ∧ Below w.heap.size w w') (l1 : acc = true → ∀ w, Calls Tryz.prog 103 #[.agg #[.int .u8 60, .int .u8 0, .float .f64 0, .string ⟨#[]⟩, .int .i64 0, .int .u8 0, .float .f64 0, .string ⟨#[]⟩, .int .i64 0, .int .u8 0, .float .f64 0, .string ⟨#[]⟩, .int .i64 0, .bool false, .bool false, .bool false], .agg #[.int .u8 h, .int .u8 ka, .float .f64 xa, .string sa, .int .i64 ra, .int .u8 kb, .float .f64 xb, .string sb, .int .i64 rb, .int .u8 kc, .float .f64 xc, .string sc, .int .i64 rc, .bool p, .bool q, .bool z]] w fun e w' => e = .returned (.agg #[.int .u8 n, .int .u8 kg, .float .f64 xg, .string sg, .int .i64 rg, .int .u8 ki, .float .f64 xi, .string si, .int .i64 ri, .int .u8 kj, .float .f64 xj, .string sj, .int .i64 rj, .bool p1, .bool q1, .bool z1]) ∧ Below w.heap.size w w') (l2 : acc = false → ∀ w, Calls Tryz.prog 103 #[.agg #[.int .u8 51, .int .u8 0, .float .f64 0, .string ⟨#[]⟩, .int .i64 0, .int .u8 0, .float .f64 0, .string ⟨#[]⟩, .int .i64 0, .int .u8 0, .float .f64 0, .string ⟨#[]⟩, .int .i64 0, .bool false, .bool false, .bool false], .agg #[.int .u8 h, .int .u8 ka, .float .f64 xa, .string sa, .int .i64 ra, .int .u8 kb, .float .f64 xb, .string sb, .int .i64 rb, .int .u8 kc, .float .f64 xc, .string sc, .int .i64 rc, .bool p, .bool q, .bool z]] w fun e w' => e = .returned (.agg #[.int .u8 n, .int .u8 kg, .float .f64 xg, .string sg, .int .i64 rg, .int .u8 ki, .float .f64 xi, .string si, .int .i64 ri, .int .u8 kj, .float .f64 xj, .string sj, .int .i64 rj, .bool p1, .bool q1, .bool z1]) ∧ Below w.heap.size w w') (w : World) : Calls Tryz.prog 63 #[.agg #[.int .u8 h, .int .u8 ka, .float .f64 xa, .string sa, .int .i64 ra, .int .u8 kb, .float .f64 xb, .string sb, .int .i64 rb, .int .u8 kc, .float .f64 xc, .string sc, .int .i64 rc, .bool p, .bool q, .bool z]] w fun e w' => e = .returned (.agg #[.int .u8 n, .int .u8 kg, .float .f64 xg, .string sg, .int .i64 rg, .int .u8 ki, .float .f64 xi, .string si, .int .i64 ri, .int .u8 kj, .float .f64 xj, .string sj, .int .i64 rj, .bool p1, .bool q1, .bool z1]) ∧ Below w.heap.size w w' := by
  have hB0 : Below w.heap.size w ((w.alloc (.cells #[.int .u8 h, .int .u8 ka, .float .f64 xa, .string sa, .int .i64 ra, .int .u8 kb, .float .f64 xb, .string sb, .int .i64 rb, .int .u8 kc, .float .f64 xc, .string sc, .int .i64 rc, .bool p, .bool q, .bool z] 49)).alloc (.cells #[.int .u8 0, .int .u8 0, .float .f64 0, .string ⟨#[]⟩, .int .i64 0, .int .u8 0, .float .f64 0, .string ⟨#[]⟩, .int .i64 0, .int .u8 0, .float .f64 0, .string ⟨#[]⟩, .int .i64 0, .bool false, .bool false, .bool false] 49)) := vafter (vzero _ _)
  obtain ⟨b1, b2⟩ := vblk2 (w := w) (Below.refl _ ((w.alloc (.cells #[.int .u8 h, .int .u8 ka, .float .f64 xa, .string sa, .int .i64 ra, .int .u8 kb, .float .f64 xb, .string sb, .int .i64 rb, .int .u8 kc, .float .f64 xc, .string sc, .int .i64 rc, .bool p, .bool q, .bool z] 49)).alloc (.cells #[.int .u8 0, .int .u8 0, .float .f64 0, .string ⟨#[]⟩, .int .i64 0, .int .u8 0, .float .f64 0, .string ⟨#[]⟩, .int .i64 0, .int .u8 0, .float .f64 0, .string ⟨#[]⟩, .int .i64 0, .bool false, .bool false, .bool false] 49)))
  cases acc
  · have L := l2 rfl
    clear l1 l2
    go_enter Tryz.func63, Tryz.ntmps63
    go_wp2_with (first | ((with_reducible refine d_load ?_ rfl rfl b1 ?_); (rfl)) | (go_at_call 102; (with_reducible refine (ha _).mono ?_); rintro e w1 ⟨rfl, h1⟩; have b1 := vblkn h1 b1; have b2 := vblkn h1 b2; have hB0 := vb hB0 h1) | (go_at_call 103; (with_reducible refine (L _).mono ?_); rintro e w1 ⟨rfl, h1⟩; have b1 := vblkn h1 b1; have b2 := vblkn h1 b2; have hB0 := vb hB0 h1) | ((with_reducible refine d_store rfl rfl rfl rfl b2 ?_ ?_ ?_); (rfl); (rfl)))
    exact d_end Tryz.results63 rfl (setRow_heap _ _ _ _ _ _ b2) ⟨rfl, below_row hB0 (by omega) _⟩
  · have L := l1 rfl
    clear l1 l2
    go_enter Tryz.func63, Tryz.ntmps63
    go_wp2_with (first | ((with_reducible refine d_load ?_ rfl rfl b1 ?_); (rfl)) | (go_at_call 102; (with_reducible refine (ha _).mono ?_); rintro e w1 ⟨rfl, h1⟩; have b1 := vblkn h1 b1; have b2 := vblkn h1 b2; have hB0 := vb hB0 h1) | (go_at_call 103; (with_reducible refine (L _).mono ?_); rintro e w1 ⟨rfl, h1⟩; have b1 := vblkn h1 b1; have b2 := vblkn h1 b2; have hB0 := vb hB0 h1) | ((with_reducible refine d_store rfl rfl rfl rfl b2 ?_ ?_ ?_); (rfl); (rfl)))
    exact d_end Tryz.results63 rfl (setRow_heap _ _ _ _ _ _ b2) ⟨rfl, below_row hB0 (by omega) _⟩
theorem complete_q (d : Dq) (w : World) : Calls Tryz.prog 63 #[d.val] w fun e w' => e = .returned (completeQ d).val ∧ Below w.heap.size w w' := by
  refine complete_x d.h (completeQ d).h d.a.k d.a.x d.a.s d.a.r d.b.k d.b.x d.b.s d.b.r d.c.k d.c.x d.c.s d.c.r (completeQ d).a.k (completeQ d).a.x (completeQ d).a.s (completeQ d).a.r (completeQ d).b.k (completeQ d).b.x (completeQ d).b.s (completeQ d).b.r (completeQ d).c.k (completeQ d).c.x (completeQ d).c.s (completeQ d).c.r d.p d.q d.z (completeQ d).p (completeQ d).q (completeQ d).z (fun w => IsAccess_q d w) (fun hac w => ?_) (fun hac w => ?_) w
  · have e1 : completeQ d = layQ (dz 60) d := by unfold completeQ; rw [hac]; rfl
    have := lay_q (dz 60) d w
    rw [← e1] at this
    exact this
  · have e1 : completeQ d = layQ (dz 51) d := by unfold completeQ; rw [hac]; rfl
    have := lay_q (dz 51) d w
    rw [← e1] at this
    exact this
section
variable {f : Func} {i j k : Nat} {t : TypeId} {Q : Ending → World → Prop} {tmps : Array Value} {W : World} {g : Nat} {c0 c1 c2 c3 c4 c5 c6 c7 c8 c9 c10 c11 c12 c13 c14 c15 v u : Value}
theorem dldv (h : W.heap[g]? = some (.cells #[c0, c1, c2, c3, c4, c5, c6, c7, c8, c9, c10, c11, c12, c13, c14, c15] t (0, 0))) :
    (loadVar 49 ⟨g, 0, none⟩).run Tryz.prog W = .ok (.agg #[c0, c1, c2, c3, c4, c5, c6, c7, c8, c9, c10, c11, c12, c13, c14, c15]) W := run_loadVar_row W g t 49 _ (0, 0) _ h Tryz.underlying49 rfl dsz
theorem d_end2 (hf : f.results = #[.cell i 49, .tmp j]) (h2 : tmps[i]?.getD undef = .pointer (some ⟨g, 0, none⟩)) (h3 : tmps[j]?.getD undef = v) (hb : W.heap[g]? = some (.cells #[c0, c1, c2, c3, c4, c5, c6, c7, c8, c9, c10, c11, c12, c13, c14, c15] t (0, 0)))
    (hQ : Q (.returned (.tuple #[.agg #[c0, c1, c2, c3, c4, c5, c6, c7, c8, c9, c10, c11, c12, c13, c14, c15], v])) W) : bodyPost Tryz.prog f Q .ret { tmps := tmps, defers := [] } W := by
  have e := dldv hb
  refine bodyPost_ret (v := .tuple #[.agg #[c0, c1, c2, c3, c4, c5, c6, c7, c8, c9, c10, c11, c12, c13, c14, c15], v]) ?_ rfl hQ
  simp [results, hf, h2, h3, asAddr, e]
theorem d_end3 (hf : f.results = #[.cell i 49, .tmp j, .tmp k]) (h2 : tmps[i]?.getD undef = .pointer (some ⟨g, 0, none⟩)) (h3 : tmps[j]?.getD undef = v) (h4 : tmps[k]?.getD undef = u) (hb : W.heap[g]? = some (.cells #[c0, c1, c2, c3, c4, c5, c6, c7, c8, c9, c10, c11, c12, c13, c14, c15] t (0, 0)))
    (hQ : Q (.returned (.tuple #[.agg #[c0, c1, c2, c3, c4, c5, c6, c7, c8, c9, c10, c11, c12, c13, c14, c15], v, u])) W) : bodyPost Tryz.prog f Q .ret { tmps := tmps, defers := [] } W := by
  have e := dldv hb
  refine bodyPost_ret (v := .tuple #[.agg #[c0, c1, c2, c3, c4, c5, c6, c7, c8, c9, c10, c11, c12, c13, c14, c15], v, u]) ?_ rfl hQ
  simp [results, hf, h2, h3, h4, asAddr, e]
end
set_option maxRecDepth 1000000 in
set_option maxHeartbeats 4000000 in
theorem become_x (h m m' n n2 : Int) (ka : Int) (xa : Nat) (sa : ByteArray) (ra : Int) (kb : Int) (xb : Nat) (sb : ByteArray) (rb : Int) (kc : Int) (xc : Nat) (sc : ByteArray) (rc : Int) (kd : Int) (xd : Nat) (sd : ByteArray) (rd : Int) (ke : Int) (xe : Nat) (se : ByteArray) (re : Int) (kf : Int) (xf : Nat) (sf : ByteArray) (rf : Int) (kg : Int) (xg : Nat) (sg : ByteArray) (rg : Int) (ki : Int) (xi : Nat) (si : ByteArray) (ri : Int) (kj : Int) (xj : Nat) (sj : ByteArray) (rj : Int) (kl : Int) (xl : Nat) (sl : ByteArray) (rl : Int) (ko : Int) (xo : Nat) (so : ByteArray) (ro : Int) (kt : Int) (xt : Nat) (st : ByteArray) (rt : Int) (p q z p' q' z' p1 q1 z1 p2 q2 z2 : Bool) {bd ba : Bool} (hd : ∀ w, Calls Tryz.prog 31 #[.agg #[.int .u8 h, .int .u8 ka, .float .f64 xa, .string sa, .int .i64 ra, .int .u8 kb, .float .f64 xb, .string sb, .int .i64 rb, .int .u8 kc, .float .f64 xc, .string sc, .int .i64 rc, .bool p, .bool q, .bool z]] w fun e w' => e = .returned (.bool bd) ∧ Below w.heap.size w w') (ha : ∀ w, Calls Tryz.prog 102 #[.agg #[.int .u8 h, .int .u8 ka, .float .f64 xa, .string sa, .int .i64 ra, .int .u8 kb, .float .f64 xb, .string sb, .int .i64 rb, .int .u8 kc, .float .f64 xc, .string sc, .int .i64 rc, .bool p, .bool q, .bool z]] w fun e w' => e = .returned (.bool ba) ∧ Below w.heap.size w w') (hm : m' = bif bd then bits .andNot .u8 m 12 else bif ba then bits .andNot .u8 m 3 else m) (hl : ∀ w, Calls Tryz.prog 103 #[.agg #[.int .u8 m', .int .u8 kd, .float .f64 xd, .string sd, .int .i64 rd, .int .u8 ke, .float .f64 xe, .string se, .int .i64 re, .int .u8 kf, .float .f64 xf, .string sf, .int .i64 rf, .bool p', .bool q', .bool z'], .agg #[.int .u8 h, .int .u8 ka, .float .f64 xa, .string sa, .int .i64 ra, .int .u8 kb, .float .f64 xb, .string sb, .int .i64 rb, .int .u8 kc, .float .f64 xc, .string sc, .int .i64 rc, .bool p, .bool q, .bool z]] w fun e w' => e = .returned (.agg #[.int .u8 n, .int .u8 kg, .float .f64 xg, .string sg, .int .i64 rg, .int .u8 ki, .float .f64 xi, .string si, .int .i64 ri, .int .u8 kj, .float .f64 xj, .string sj, .int .i64 rj, .bool p1, .bool q1, .bool z1]) ∧ Below w.heap.size w w') (hc : ∀ w, Calls Tryz.prog 63 #[.agg #[.int .u8 n, .int .u8 kg, .float .f64 xg, .string sg, .int .i64 rg, .int .u8 ki, .float .f64 xi, .string si, .int .i64 ri, .int .u8 kj, .float .f64 xj, .string sj, .int .i64 rj, .bool p1, .bool q1, .bool z1]] w fun e w' => e = .returned (.agg #[.int .u8 n2, .int .u8 kl, .float .f64 xl, .string sl, .int .i64 rl, .int .u8 ko, .float .f64 xo, .string so, .int .i64 ro, .int .u8 kt, .float .f64 xt, .string st, .int .i64 rt, .bool p2, .bool q2, .bool z2]) ∧ Below w.heap.size w w') (w : World) : Calls Tryz.prog 64 #[.agg #[.int .u8 h, .int .u8 ka, .float .f64 xa, .string sa, .int .i64 ra, .int .u8 kb, .float .f64 xb, .string sb, .int .i64 rb, .int .u8 kc, .float .f64 xc, .string sc, .int .i64 rc, .bool p, .bool q, .bool z], .agg #[.int .u8 m, .int .u8 kd, .float .f64 xd, .string sd, .int .i64 rd, .int .u8 ke, .float .f64 xe, .string se, .int .i64 re, .int .u8 kf, .float .f64 xf, .string sf, .int .i64 rf, .bool p', .bool q', .bool z']] w fun e w' => e = .returned (.agg #[.int .u8 n2, .int .u8 kl, .float .f64 xl, .string sl, .int .i64 rl, .int .u8 ko, .float .f64 xo, .string so, .int .i64 ro, .int .u8 kt, .float .f64 xt, .string st, .int .i64 rt, .bool p2, .bool q2, .bool z2]) ∧ Below w.heap.size w w' := by
  have hB0 : Below w.heap.size w (((w.alloc (.cells #[.int .u8 h, .int .u8 ka, .float .f64 xa, .string sa, .int .i64 ra, .int .u8 kb, .float .f64 xb, .string sb, .int .i64 rb, .int .u8 kc, .float .f64 xc, .string sc, .int .i64 rc, .bool p, .bool q, .bool z] 49)).alloc (.cells #[.int .u8 m, .int .u8 kd, .float .f64 xd, .string sd, .int .i64 rd, .int .u8 ke, .float .f64 xe, .string se, .int .i64 re, .int .u8 kf, .float .f64 xf, .string sf, .int .i64 rf, .bool p', .bool q', .bool z'] 49)).alloc (.cells #[.int .u8 0, .int .u8 0, .float .f64 0, .string ⟨#[]⟩, .int .i64 0, .int .u8 0, .float .f64 0, .string ⟨#[]⟩, .int .i64 0, .int .u8 0, .float .f64 0, .string ⟨#[]⟩, .int .i64 0, .bool false, .bool false, .bool false] 49)) := vafter2 (vzero _ _)
  obtain ⟨b1, b2, b3⟩ := vblk3 (w := w) (Below.refl _ (((w.alloc (.cells #[.int .u8 h, .int .u8 ka, .float .f64 xa, .string sa, .int .i64 ra, .int .u8 kb, .float .f64 xb, .string sb, .int .i64 rb, .int .u8 kc, .float .f64 xc, .string sc, .int .i64 rc, .bool p, .bool q, .bool z] 49)).alloc (.cells #[.int .u8 m, .int .u8 kd, .float .f64 xd, .string sd, .int .i64 rd, .int .u8 ke, .float .f64 xe, .string se, .int .i64 re, .int .u8 kf, .float .f64 xf, .string sf, .int .i64 rf, .bool p', .bool q', .bool z'] 49)).alloc (.cells #[.int .u8 0, .int .u8 0, .float .f64 0, .string ⟨#[]⟩, .int .i64 0, .int .u8 0, .float .f64 0, .string ⟨#[]⟩, .int .i64 0, .int .u8 0, .float .f64 0, .string ⟨#[]⟩, .int .i64 0, .bool false, .bool false, .bool false] 49)))
  cases bd
  · cases ba
    · replace hm : m' = m := hm
      subst hm
      go_enter Tryz.func64, Tryz.ntmps64
      go_upto_region 5 with (first | ((with_reducible refine d_load ?_ rfl rfl b1 ?_); (rfl)) | (go_at_call 31; (with_reducible refine (hd _).mono ?_); rintro e w1 ⟨rfl, h1⟩; have b1 := vblkn h1 b1; have b2 := vblkn h1 b2; have b3 := vblkn h1 b3; have hB0 := vb hB0 h1) | (go_at_call 102; (with_reducible refine (ha _).mono ?_); rintro e w1 ⟨rfl, h1⟩; have b1 := vblkn h1 b1; have b2 := vblkn h1 b2; have b3 := vblkn h1 b3; have hB0 := vb hB0 h1))
      go_wp2_with (first | ((with_reducible refine d_load ?_ rfl rfl b1 ?_); (rfl)) | ((with_reducible refine d_load ?_ rfl rfl b2 ?_); (rfl)) | (go_at_call 103; (with_reducible refine (hl _).mono ?_); rintro e w1 ⟨rfl, h1⟩; have b1 := vblkn h1 b1; have b2 := vblkn h1 b2; have b3 := vblkn h1 b3; have hB0 := vb hB0 h1) | (go_at_call 63; (with_reducible refine (hc _).mono ?_); rintro e w1 ⟨rfl, h1⟩; have b1 := vblkn h1 b1; have b2 := vblkn h1 b2; have b3 := vblkn h1 b3; have hB0 := vb hB0 h1) | ((with_reducible refine d_store rfl rfl rfl rfl b3 ?_ ?_ ?_); (rfl); (rfl)))
      exact d_end Tryz.results64 rfl (setRow_heap _ _ _ _ _ _ b3) ⟨rfl, below_row hB0 (by omega) _⟩
    · replace hm : m' = bits .andNot .u8 m 3 := hm
      subst hm
      have f2 := fun (W : World) (b2 : W.heap[w.heap.size + 1]? = some (.cells #[.int .u8 m, .int .u8 kd, .float .f64 xd, .string sd, .int .i64 rd, .int .u8 ke, .float .f64 xe, .string se, .int .i64 re, .int .u8 kf, .float .f64 xf, .string sf, .int .i64 rf, .bool p', .bool q', .bool z'] 49 (0, 0))) => (⟨vcells b2 0, vfz b2 0⟩ : W.cell? ⟨w.heap.size + 1, 0, none⟩ = _ ∧ W.frozen? ⟨w.heap.size + 1, 0, none⟩ = _)
      go_enter Tryz.func64, Tryz.ntmps64
      go_upto_region 5 with (first | ((with_reducible refine d_load ?_ rfl rfl b1 ?_); (rfl)) | (go_at_call 31; (with_reducible refine (hd _).mono ?_); rintro e w1 ⟨rfl, h1⟩; have b1 := vblkn h1 b1; have b2 := vblkn h1 b2; have b3 := vblkn h1 b3; obtain ⟨e0, e1⟩ := f2 _ b2; have hB0 := vb hB0 h1) | (go_at_call 102; (with_reducible refine (ha _).mono ?_); rintro e w1 ⟨rfl, h1⟩; have b1 := vblkn h1 b1; have b2 := vblkn h1 b2; have b3 := vblkn h1 b3; obtain ⟨e0, e1⟩ := f2 _ b2; have hB0 := vb hB0 h1))
      have b1 := vset1o (j := w.heap.size + 1) b1 (by omega) 0 (.int .u8 (bits .andNot .u8 m 3))
      have b3 := vset1o (j := w.heap.size + 1) b3 (by omega) 0 (.int .u8 (bits .andNot .u8 m 3))
      have hB0 := hB0.setCell (p := ⟨w.heap.size + 1, 0, none⟩) (Nat.le_succ _) (.int .u8 (bits .andNot .u8 m 3))
      have b2 : (World.setCell _ ⟨w.heap.size + 1, 0, none⟩ (.int .u8 (bits .andNot .u8 m 3))).heap[w.heap.size + 1]? = some (.cells #[.int .u8 (bits .andNot .u8 m 3), .int .u8 kd, .float .f64 xd, .string sd, .int .i64 rd, .int .u8 ke, .float .f64 xe, .string se, .int .i64 re, .int .u8 kf, .float .f64 xf, .string sf, .int .i64 rf, .bool p', .bool q', .bool z'] 49 (0, 0)) := vset1 b2 0 _
      go_wp2_with (first | ((with_reducible refine d_load ?_ rfl rfl b1 ?_); (rfl)) | ((with_reducible refine d_load ?_ rfl rfl b2 ?_); (rfl)) | (go_at_call 103; (with_reducible refine (hl _).mono ?_); rintro e w1 ⟨rfl, h1⟩; have b1 := vblkn h1 b1; have b2 := vblkn h1 b2; have b3 := vblkn h1 b3; have hB0 := vb hB0 h1) | (go_at_call 63; (with_reducible refine (hc _).mono ?_); rintro e w1 ⟨rfl, h1⟩; have b1 := vblkn h1 b1; have b2 := vblkn h1 b2; have b3 := vblkn h1 b3; have hB0 := vb hB0 h1) | ((with_reducible refine d_store rfl rfl rfl rfl b3 ?_ ?_ ?_); (rfl); (rfl)))
      exact d_end Tryz.results64 rfl (setRow_heap _ _ _ _ _ _ b3) ⟨rfl, below_row hB0 (by omega) _⟩
  · replace hm : m' = bits .andNot .u8 m 12 := hm
    subst hm
    have f2 := fun (W : World) (b2 : W.heap[w.heap.size + 1]? = some (.cells #[.int .u8 m, .int .u8 kd, .float .f64 xd, .string sd, .int .i64 rd, .int .u8 ke, .float .f64 xe, .string se, .int .i64 re, .int .u8 kf, .float .f64 xf, .string sf, .int .i64 rf, .bool p', .bool q', .bool z'] 49 (0, 0))) => (⟨vcells b2 0, vfz b2 0⟩ : W.cell? ⟨w.heap.size + 1, 0, none⟩ = _ ∧ W.frozen? ⟨w.heap.size + 1, 0, none⟩ = _)
    go_enter Tryz.func64, Tryz.ntmps64
    go_upto_region 5 with (first | ((with_reducible refine d_load ?_ rfl rfl b1 ?_); (rfl)) | (go_at_call 31; (with_reducible refine (hd _).mono ?_); rintro e w1 ⟨rfl, h1⟩; have b1 := vblkn h1 b1; have b2 := vblkn h1 b2; have b3 := vblkn h1 b3; obtain ⟨e0, e1⟩ := f2 _ b2; have hB0 := vb hB0 h1) | (go_at_call 102; (with_reducible refine (ha _).mono ?_); rintro e w1 ⟨rfl, h1⟩; have b1 := vblkn h1 b1; have b2 := vblkn h1 b2; have b3 := vblkn h1 b3; obtain ⟨e0, e1⟩ := f2 _ b2; have hB0 := vb hB0 h1))
    have b1 := vset1o (j := w.heap.size + 1) b1 (by omega) 0 (.int .u8 (bits .andNot .u8 m 12))
    have b3 := vset1o (j := w.heap.size + 1) b3 (by omega) 0 (.int .u8 (bits .andNot .u8 m 12))
    have hB0 := hB0.setCell (p := ⟨w.heap.size + 1, 0, none⟩) (Nat.le_succ _) (.int .u8 (bits .andNot .u8 m 12))
    have b2 : (World.setCell _ ⟨w.heap.size + 1, 0, none⟩ (.int .u8 (bits .andNot .u8 m 12))).heap[w.heap.size + 1]? = some (.cells #[.int .u8 (bits .andNot .u8 m 12), .int .u8 kd, .float .f64 xd, .string sd, .int .i64 rd, .int .u8 ke, .float .f64 xe, .string se, .int .i64 re, .int .u8 kf, .float .f64 xf, .string sf, .int .i64 rf, .bool p', .bool q', .bool z'] 49 (0, 0)) := vset1 b2 0 _
    go_wp2_with (first | ((with_reducible refine d_load ?_ rfl rfl b1 ?_); (rfl)) | ((with_reducible refine d_load ?_ rfl rfl b2 ?_); (rfl)) | (go_at_call 103; (with_reducible refine (hl _).mono ?_); rintro e w1 ⟨rfl, h1⟩; have b1 := vblkn h1 b1; have b2 := vblkn h1 b2; have b3 := vblkn h1 b3; have hB0 := vb hB0 h1) | (go_at_call 63; (with_reducible refine (hc _).mono ?_); rintro e w1 ⟨rfl, h1⟩; have b1 := vblkn h1 b1; have b2 := vblkn h1 b2; have b3 := vblkn h1 b3; have hB0 := vb hB0 h1) | ((with_reducible refine d_store rfl rfl rfl rfl b3 ?_ ?_ ?_); (rfl); (rfl)))
    exact d_end Tryz.results64 rfl (setRow_heap _ _ _ _ _ _ b3) ⟨rfl, below_row hB0 (by omega) _⟩
end Go.Proofs.YtpeegmpfkongeaaGreatDoor.S
/-
  Descriptors: whole, changes, Compatible, Apply, Complete: walks. Generated: gen_descwalk2.py.
-/
namespace Go.Proofs.YtpeegmpfkongeaaGreatDoor.S
open Go.RowKit Fl

theorem become_q (d now : Dq) (w : World) : Calls Tryz.prog 64 #[d.val, now.val] w fun e w' => e = .returned (becomeQ d now).val ∧ Below w.heap.size w w' := by
  generalize hX : layQ { now with h := bif hasB d.h 3 then bits .andNot .u8 now.h 12 else bif hasB d.h 12 then bits .andNot .u8 now.h 3 else now.h } d = X
  have e1 : becomeQ d now = completeQ X := by unfold becomeQ; rw [hX]
  rw [e1]
  generalize hY : completeQ X = Y
  exact become_x d.h now.h _ X.h Y.h d.a.k d.a.x d.a.s d.a.r d.b.k d.b.x d.b.s d.b.r d.c.k d.c.x d.c.s d.c.r now.a.k now.a.x now.a.s now.a.r now.b.k now.b.x now.b.s now.b.r now.c.k now.c.x now.c.s now.c.r X.a.k X.a.x X.a.s X.a.r X.b.k X.b.x X.b.s X.b.r X.c.k X.c.x X.c.s X.c.r Y.a.k Y.a.x Y.a.s Y.a.r Y.b.k Y.b.x Y.b.s Y.b.r Y.c.k Y.c.x Y.c.s Y.c.r d.p d.q d.z now.p now.q now.z X.p X.q X.z Y.p Y.q Y.z (fun w => IsData_q d w) (fun w => IsAccess_q d w) rfl (fun w => hX ▸ lay_q _ d w) (fun w => hY ▸ complete_q X w) w
set_option maxRecDepth 1000000 in
set_option maxHeartbeats 4000000 in
theorem whole_x (h : Int) (ka : Int) (xa : Nat) (sa : ByteArray) (ra : Int) (kb : Int) (xb : Nat) (sb : ByteArray) (rb : Int) (kc : Int) (xc : Nat) (sc : ByteArray) (rc : Int) (p q z : Bool) {ck : Bool} (hc : ∀ w, Calls Tryz.prog 85 #[.agg #[.int .u8 h, .int .u8 ka, .float .f64 xa, .string sa, .int .i64 ra, .int .u8 kb, .float .f64 xb, .string sb, .int .i64 rb, .int .u8 kc, .float .f64 xc, .string sc, .int .i64 rc, .bool p, .bool q, .bool z]] w fun e w' => e = .returned (.int .i64 (errI ck)) ∧ Below w.heap.size w w') (w : World) : Calls Tryz.prog 100 #[.agg #[.int .u8 h, .int .u8 ka, .float .f64 xa, .string sa, .int .i64 ra, .int .u8 kb, .float .f64 xb, .string sb, .int .i64 rb, .int .u8 kc, .float .f64 xc, .string sc, .int .i64 rc, .bool p, .bool q, .bool z]] w fun e w' => e = .returned (.bool (ck && (h == 51 || h == 60))) ∧ Below w.heap.size w w' := by
  have hB0 : Below w.heap.size w (w.alloc (.cells #[.int .u8 h, .int .u8 ka, .float .f64 xa, .string sa, .int .i64 ra, .int .u8 kb, .float .f64 xb, .string sb, .int .i64 rb, .int .u8 kc, .float .f64 xc, .string sc, .int .i64 rc, .bool p, .bool q, .bool z] 49)) := vzero _ _
  have b1 := heap_alloc_new w (.cells #[.int .u8 h, .int .u8 ka, .float .f64 xa, .string sa, .int .i64 ra, .int .u8 kb, .float .f64 xb, .string sb, .int .i64 rb, .int .u8 kc, .float .f64 xc, .string sc, .int .i64 rc, .bool p, .bool q, .bool z] 49)
  cases ck
  · have hc : ∀ w, Calls Tryz.prog 85 #[.agg #[.int .u8 h, .int .u8 ka, .float .f64 xa, .string sa, .int .i64 ra, .int .u8 kb, .float .f64 xb, .string sb, .int .i64 rb, .int .u8 kc, .float .f64 xc, .string sc, .int .i64 rc, .bool p, .bool q, .bool z]] w fun e w' => e = .returned (.int .i64 90) ∧ Below w.heap.size w w' := hc
    go_enter Tryz.func100, Tryz.ntmps100
    go_wp2_with (first | ((with_reducible refine d_load ?_ rfl rfl b1 ?_); (rfl)) | (go_at_call 85; (with_reducible refine (hc _).mono ?_); rintro e w1 ⟨rfl, h9⟩; have b1 := vblkn h9 b1; have hB0 := vb hB0 h9))
    go_ret
    exact ⟨rfl, hB0⟩
  · have hc : ∀ w, Calls Tryz.prog 85 #[.agg #[.int .u8 h, .int .u8 ka, .float .f64 xa, .string sa, .int .i64 ra, .int .u8 kb, .float .f64 xb, .string sb, .int .i64 rb, .int .u8 kc, .float .f64 xc, .string sc, .int .i64 rc, .bool p, .bool q, .bool z]] w fun e w' => e = .returned (.int .i64 0) ∧ Below w.heap.size w w' := hc
    rcases Bool.eq_false_or_eq_true (h == 51) with n0 | n0
    all_goals
      go_enter Tryz.func100, Tryz.ntmps100
      go_wp2_with (first | ((with_reducible refine d_load ?_ rfl rfl b1 ?_); (rfl)) | (go_at_call 85; (with_reducible refine (hc _).mono ?_); rintro e w1 ⟨rfl, h9⟩; have b1 := vblkn h9 b1; have e0 := vcells b1 0; have hB0 := vb hB0 h9))
      go_ret
      exact ⟨dret (by rw [n0]; rfl), hB0⟩
theorem whole_q {d : Dq} (hd : d.In) (w : World) : Calls Tryz.prog 100 #[d.val] w fun e w' => e = .returned (.bool (wholeQ d)) ∧ Below w.heap.size w w' :=
  whole_x d.h d.a.k d.a.x d.a.s d.a.r d.b.k d.b.x d.b.s d.b.r d.c.k d.c.x d.c.s d.c.r d.p d.q d.z (fun w => Check_q hd w) w
set_option maxRecDepth 1000000 in
set_option maxHeartbeats 4000000 in
theorem Compatible_x (ext found : Bool) (h m : Int) (ka : Int) (xa : Nat) (sa : ByteArray) (ra : Int) (kb : Int) (xb : Nat) (sb : ByteArray) (rb : Int) (kc : Int) (xc : Nat) (sc : ByteArray) (rc : Int) (kd : Int) (xd : Nat) (sd : ByteArray) (rd : Int) (ke : Int) (xe : Nat) (se : ByteArray) (re : Int) (kf : Int) (xf : Nat) (sf : ByteArray) (rf : Int) (p q z p' q' z' : Bool) {ck wh ch : Bool} (hc : ∀ w, Calls Tryz.prog 85 #[.agg #[.int .u8 h, .int .u8 ka, .float .f64 xa, .string sa, .int .i64 ra, .int .u8 kb, .float .f64 xb, .string sb, .int .i64 rb, .int .u8 kc, .float .f64 xc, .string sc, .int .i64 rc, .bool p, .bool q, .bool z]] w fun e w' => e = .returned (.int .i64 (errI ck)) ∧ Below w.heap.size w w') (hw : found = true → ∀ w, Calls Tryz.prog 100 #[.agg #[.int .u8 m, .int .u8 kd, .float .f64 xd, .string sd, .int .i64 rd, .int .u8 ke, .float .f64 xe, .string se, .int .i64 re, .int .u8 kf, .float .f64 xf, .string sf, .int .i64 rf, .bool p', .bool q', .bool z']] w fun e w' => e = .returned (.bool wh) ∧ Below w.heap.size w w') (hg : ck = true → found = true → wh = true → ∀ w, Calls Tryz.prog 101 #[.agg #[.int .u8 h, .int .u8 ka, .float .f64 xa, .string sa, .int .i64 ra, .int .u8 kb, .float .f64 xb, .string sb, .int .i64 rb, .int .u8 kc, .float .f64 xc, .string sc, .int .i64 rc, .bool p, .bool q, .bool z], .agg #[.int .u8 m, .int .u8 kd, .float .f64 xd, .string sd, .int .i64 rd, .int .u8 ke, .float .f64 xe, .string se, .int .i64 re, .int .u8 kf, .float .f64 xf, .string sf, .int .i64 rf, .bool p', .bool q', .bool z']] w fun e w' => e = .returned (.bool ch) ∧ Below w.heap.size w w') (w : World) : Calls Tryz.prog 62 #[.bool ext, .agg #[.int .u8 h, .int .u8 ka, .float .f64 xa, .string sa, .int .i64 ra, .int .u8 kb, .float .f64 xb, .string sb, .int .i64 rb, .int .u8 kc, .float .f64 xc, .string sc, .int .i64 rc, .bool p, .bool q, .bool z], .bool found, .agg #[.int .u8 m, .int .u8 kd, .float .f64 xd, .string sd, .int .i64 rd, .int .u8 ke, .float .f64 xe, .string se, .int .i64 re, .int .u8 kf, .float .f64 xf, .string sf, .int .i64 rf, .bool p', .bool q', .bool z']] w fun e w' => e = .returned (.tuple #[.bool (bif !ck || (found && !wh) then false else bif !found then ext else ch), .int .i64 (bif !ck || (found && !wh) then 90 else 0)]) ∧ Below w.heap.size w w' := by
  have hB0 : Below w.heap.size w ((w.alloc (.cells #[.int .u8 h, .int .u8 ka, .float .f64 xa, .string sa, .int .i64 ra, .int .u8 kb, .float .f64 xb, .string sb, .int .i64 rb, .int .u8 kc, .float .f64 xc, .string sc, .int .i64 rc, .bool p, .bool q, .bool z] 49)).alloc (.cells #[.int .u8 m, .int .u8 kd, .float .f64 xd, .string sd, .int .i64 rd, .int .u8 ke, .float .f64 xe, .string se, .int .i64 re, .int .u8 kf, .float .f64 xf, .string sf, .int .i64 rf, .bool p', .bool q', .bool z'] 49)) := vafter (vzero _ _)
  obtain ⟨b1, b2⟩ := vblk2 (w := w) (Below.refl _ ((w.alloc (.cells #[.int .u8 h, .int .u8 ka, .float .f64 xa, .string sa, .int .i64 ra, .int .u8 kb, .float .f64 xb, .string sb, .int .i64 rb, .int .u8 kc, .float .f64 xc, .string sc, .int .i64 rc, .bool p, .bool q, .bool z] 49)).alloc (.cells #[.int .u8 m, .int .u8 kd, .float .f64 xd, .string sd, .int .i64 rd, .int .u8 ke, .float .f64 xe, .string se, .int .i64 re, .int .u8 kf, .float .f64 xf, .string sf, .int .i64 rf, .bool p', .bool q', .bool z'] 49)))
  cases ck
  · clear hg hw
    have hc : ∀ w, Calls Tryz.prog 85 #[.agg #[.int .u8 h, .int .u8 ka, .float .f64 xa, .string sa, .int .i64 ra, .int .u8 kb, .float .f64 xb, .string sb, .int .i64 rb, .int .u8 kc, .float .f64 xc, .string sc, .int .i64 rc, .bool p, .bool q, .bool z]] w fun e w' => e = .returned (.int .i64 90) ∧ Below w.heap.size w w' := hc
    go_enter Tryz.func62, Tryz.ntmps62
    go_wp2_with (first | ((with_reducible refine d_load ?_ rfl rfl b1 ?_); (rfl)) | ((with_reducible refine d_load ?_ rfl rfl b2 ?_); (rfl)) | (go_at_call 85; (with_reducible refine (hc _).mono ?_); rintro e w1 ⟨rfl, h9⟩; have b1 := vblkn h9 b1; have b2 := vblkn h9 b2; have hB0 := vb hB0 h9))
    go_ret2
    exact ⟨rfl, hB0⟩
  · have hc : ∀ w, Calls Tryz.prog 85 #[.agg #[.int .u8 h, .int .u8 ka, .float .f64 xa, .string sa, .int .i64 ra, .int .u8 kb, .float .f64 xb, .string sb, .int .i64 rb, .int .u8 kc, .float .f64 xc, .string sc, .int .i64 rc, .bool p, .bool q, .bool z]] w fun e w' => e = .returned (.int .i64 0) ∧ Below w.heap.size w w' := hc
    cases found
    · clear hg hw
      go_enter Tryz.func62, Tryz.ntmps62
      go_wp2_with (first | ((with_reducible refine d_load ?_ rfl rfl b1 ?_); (rfl)) | ((with_reducible refine d_load ?_ rfl rfl b2 ?_); (rfl)) | (go_at_call 85; (with_reducible refine (hc _).mono ?_); rintro e w1 ⟨rfl, h9⟩; have b1 := vblkn h9 b1; have b2 := vblkn h9 b2; have hB0 := vb hB0 h9))
      go_ret2
      exact ⟨rfl, hB0⟩
    · have HW := hw rfl
      clear hw
      cases wh
      · clear hg
        go_enter Tryz.func62, Tryz.ntmps62
        go_wp2_with (first | ((with_reducible refine d_load ?_ rfl rfl b1 ?_); (rfl)) | ((with_reducible refine d_load ?_ rfl rfl b2 ?_); (rfl)) | (go_at_call 85; (with_reducible refine (hc _).mono ?_); rintro e w1 ⟨rfl, h9⟩; have b1 := vblkn h9 b1; have b2 := vblkn h9 b2; have hB0 := vb hB0 h9) | (go_at_call 100; (with_reducible refine (HW _).mono ?_); rintro e w1 ⟨rfl, h9⟩; have b1 := vblkn h9 b1; have b2 := vblkn h9 b2; have hB0 := vb hB0 h9))
        go_ret2
        exact ⟨rfl, hB0⟩
      · have HG := hg rfl rfl rfl
        clear hg
        go_enter Tryz.func62, Tryz.ntmps62
        go_wp2_with (first | ((with_reducible refine d_load ?_ rfl rfl b1 ?_); (rfl)) | ((with_reducible refine d_load ?_ rfl rfl b2 ?_); (rfl)) | (go_at_call 85; (with_reducible refine (hc _).mono ?_); rintro e w1 ⟨rfl, h9⟩; have b1 := vblkn h9 b1; have b2 := vblkn h9 b2; have hB0 := vb hB0 h9) | (go_at_call 100; (with_reducible refine (HW _).mono ?_); rintro e w1 ⟨rfl, h9⟩; have b1 := vblkn h9 b1; have b2 := vblkn h9 b2; have hB0 := vb hB0 h9) | (go_at_call 101; (with_reducible refine (HG _).mono ?_); rintro e w1 ⟨rfl, h9⟩; have b1 := vblkn h9 b1; have b2 := vblkn h9 b2; have hB0 := vb hB0 h9))
        go_ret2
        exact ⟨rfl, hB0⟩
set_option maxRecDepth 1000000 in
set_option maxHeartbeats 4000000 in
theorem Apply_x (ext found : Bool) (h m n : Int) (ka : Int) (xa : Nat) (sa : ByteArray) (ra : Int) (kb : Int) (xb : Nat) (sb : ByteArray) (rb : Int) (kc : Int) (xc : Nat) (sc : ByteArray) (rc : Int) (kd : Int) (xd : Nat) (sd : ByteArray) (rd : Int) (ke : Int) (xe : Nat) (se : ByteArray) (re : Int) (kf : Int) (xf : Nat) (sf : ByteArray) (rf : Int) (kg : Int) (xg : Nat) (sg : ByteArray) (rg : Int) (ki : Int) (xi : Nat) (si : ByteArray) (ri : Int) (kj : Int) (xj : Nat) (sj : ByteArray) (rj : Int) (p q z p' q' z' p1 q1 z1 : Bool) {may : Bool} {er : Int} (hc : ∀ w, Calls Tryz.prog 62 #[.bool ext, .agg #[.int .u8 h, .int .u8 ka, .float .f64 xa, .string sa, .int .i64 ra, .int .u8 kb, .float .f64 xb, .string sb, .int .i64 rb, .int .u8 kc, .float .f64 xc, .string sc, .int .i64 rc, .bool p, .bool q, .bool z], .bool found, .agg #[.int .u8 m, .int .u8 kd, .float .f64 xd, .string sd, .int .i64 rd, .int .u8 ke, .float .f64 xe, .string se, .int .i64 re, .int .u8 kf, .float .f64 xf, .string sf, .int .i64 rf, .bool p', .bool q', .bool z']] w fun e w' => e = .returned (.tuple #[.bool may, .int .i64 er]) ∧ Below w.heap.size w w') (h1 : found = false → ∀ w, Calls Tryz.prog 63 #[.agg #[.int .u8 h, .int .u8 ka, .float .f64 xa, .string sa, .int .i64 ra, .int .u8 kb, .float .f64 xb, .string sb, .int .i64 rb, .int .u8 kc, .float .f64 xc, .string sc, .int .i64 rc, .bool p, .bool q, .bool z]] w fun e w' => e = .returned (.agg #[.int .u8 n, .int .u8 kg, .float .f64 xg, .string sg, .int .i64 rg, .int .u8 ki, .float .f64 xi, .string si, .int .i64 ri, .int .u8 kj, .float .f64 xj, .string sj, .int .i64 rj, .bool p1, .bool q1, .bool z1]) ∧ Below w.heap.size w w') (h2 : found = true → ∀ w, Calls Tryz.prog 64 #[.agg #[.int .u8 h, .int .u8 ka, .float .f64 xa, .string sa, .int .i64 ra, .int .u8 kb, .float .f64 xb, .string sb, .int .i64 rb, .int .u8 kc, .float .f64 xc, .string sc, .int .i64 rc, .bool p, .bool q, .bool z], .agg #[.int .u8 m, .int .u8 kd, .float .f64 xd, .string sd, .int .i64 rd, .int .u8 ke, .float .f64 xe, .string se, .int .i64 re, .int .u8 kf, .float .f64 xf, .string sf, .int .i64 rf, .bool p', .bool q', .bool z']] w fun e w' => e = .returned (.agg #[.int .u8 n, .int .u8 kg, .float .f64 xg, .string sg, .int .i64 rg, .int .u8 ki, .float .f64 xi, .string si, .int .i64 ri, .int .u8 kj, .float .f64 xj, .string sj, .int .i64 rj, .bool p1, .bool q1, .bool z1]) ∧ Below w.heap.size w w') (he : may = true → er = 0) (w : World) : Calls Tryz.prog 34 #[.bool ext, .agg #[.int .u8 h, .int .u8 ka, .float .f64 xa, .string sa, .int .i64 ra, .int .u8 kb, .float .f64 xb, .string sb, .int .i64 rb, .int .u8 kc, .float .f64 xc, .string sc, .int .i64 rc, .bool p, .bool q, .bool z], .bool found, .agg #[.int .u8 m, .int .u8 kd, .float .f64 xd, .string sd, .int .i64 rd, .int .u8 ke, .float .f64 xe, .string se, .int .i64 re, .int .u8 kf, .float .f64 xf, .string sf, .int .i64 rf, .bool p', .bool q', .bool z']] w fun e w' => (may = false → e = .returned (.tuple #[.agg #[.int .u8 0, .int .u8 0, .float .f64 0, .string ⟨#[]⟩, .int .i64 0, .int .u8 0, .float .f64 0, .string ⟨#[]⟩, .int .i64 0, .int .u8 0, .float .f64 0, .string ⟨#[]⟩, .int .i64 0, .bool false, .bool false, .bool false], .bool false, .int .i64 er])) ∧ (may = true → e = .returned (.tuple #[.agg #[.int .u8 n, .int .u8 kg, .float .f64 xg, .string sg, .int .i64 rg, .int .u8 ki, .float .f64 xi, .string si, .int .i64 ri, .int .u8 kj, .float .f64 xj, .string sj, .int .i64 rj, .bool p1, .bool q1, .bool z1], .bool true, .int .i64 0])) ∧ Below w.heap.size w w' := by
  have hB0 : Below w.heap.size w (((w.alloc (.cells #[.int .u8 h, .int .u8 ka, .float .f64 xa, .string sa, .int .i64 ra, .int .u8 kb, .float .f64 xb, .string sb, .int .i64 rb, .int .u8 kc, .float .f64 xc, .string sc, .int .i64 rc, .bool p, .bool q, .bool z] 49)).alloc (.cells #[.int .u8 m, .int .u8 kd, .float .f64 xd, .string sd, .int .i64 rd, .int .u8 ke, .float .f64 xe, .string se, .int .i64 re, .int .u8 kf, .float .f64 xf, .string sf, .int .i64 rf, .bool p', .bool q', .bool z'] 49)).alloc (.cells #[.int .u8 0, .int .u8 0, .float .f64 0, .string ⟨#[]⟩, .int .i64 0, .int .u8 0, .float .f64 0, .string ⟨#[]⟩, .int .i64 0, .int .u8 0, .float .f64 0, .string ⟨#[]⟩, .int .i64 0, .bool false, .bool false, .bool false] 49)) := vafter2 (vzero _ _)
  obtain ⟨b1, b2, b3⟩ := vblk3 (w := w) (Below.refl _ (((w.alloc (.cells #[.int .u8 h, .int .u8 ka, .float .f64 xa, .string sa, .int .i64 ra, .int .u8 kb, .float .f64 xb, .string sb, .int .i64 rb, .int .u8 kc, .float .f64 xc, .string sc, .int .i64 rc, .bool p, .bool q, .bool z] 49)).alloc (.cells #[.int .u8 m, .int .u8 kd, .float .f64 xd, .string sd, .int .i64 rd, .int .u8 ke, .float .f64 xe, .string se, .int .i64 re, .int .u8 kf, .float .f64 xf, .string sf, .int .i64 rf, .bool p', .bool q', .bool z'] 49)).alloc (.cells #[.int .u8 0, .int .u8 0, .float .f64 0, .string ⟨#[]⟩, .int .i64 0, .int .u8 0, .float .f64 0, .string ⟨#[]⟩, .int .i64 0, .int .u8 0, .float .f64 0, .string ⟨#[]⟩, .int .i64 0, .bool false, .bool false, .bool false] 49)))
  cases may
  · clear h1 h2 he
    go_enter Tryz.func34, Tryz.ntmps34
    go_wp2_with (first | ((with_reducible refine d_load ?_ rfl rfl b1 ?_); (rfl)) | ((with_reducible refine d_load ?_ rfl rfl b2 ?_); (rfl)) | (go_at_call 62; (with_reducible refine (hc _).mono ?_); rintro e w1 ⟨rfl, h9⟩; have b1 := vblkn h9 b1; have b2 := vblkn h9 b2; have b3 := vblkn h9 b3; have hB0 := vb hB0 h9) | ((with_reducible refine d_store rfl rfl rfl rfl b3 ?_ ?_ ?_); (rfl); (rfl)))
    exact d_end3 Tryz.results34 rfl rfl rfl (setRow_heap _ _ _ _ _ _ b3) ⟨fun _ => rfl, (fun h => by cases h), below_row hB0 (by omega) _⟩
  · obtain rfl := he rfl
    cases found
    · have L1 := h1 rfl
      clear h1
      clear h2
      go_enter Tryz.func34, Tryz.ntmps34
      go_wp2_with (first | ((with_reducible refine d_load ?_ rfl rfl b1 ?_); (rfl)) | ((with_reducible refine d_load ?_ rfl rfl b2 ?_); (rfl)) | (go_at_call 62; (with_reducible refine (hc _).mono ?_); rintro e w1 ⟨rfl, h9⟩; have b1 := vblkn h9 b1; have b2 := vblkn h9 b2; have b3 := vblkn h9 b3; have hB0 := vb hB0 h9) | ((with_reducible refine d_store rfl rfl rfl rfl b3 ?_ ?_ ?_); (rfl); (rfl)) | (go_at_call 63; (with_reducible refine (L1 _).mono ?_); rintro e w1 ⟨rfl, h9⟩; have b1 := vblkn h9 b1; have b2 := vblkn h9 b2; have b3 := vblkn h9 b3; have hB0 := vb hB0 h9))
      exact d_end3 Tryz.results34 rfl rfl rfl (setRow_heap _ _ _ _ _ _ b3) ⟨(fun h => by cases h), fun _ => rfl, below_row hB0 (by omega) _⟩
    · have L1 := h2 rfl
      clear h2
      clear h1
      go_enter Tryz.func34, Tryz.ntmps34
      go_wp2_with (first | ((with_reducible refine d_load ?_ rfl rfl b1 ?_); (rfl)) | ((with_reducible refine d_load ?_ rfl rfl b2 ?_); (rfl)) | (go_at_call 62; (with_reducible refine (hc _).mono ?_); rintro e w1 ⟨rfl, h9⟩; have b1 := vblkn h9 b1; have b2 := vblkn h9 b2; have b3 := vblkn h9 b3; have hB0 := vb hB0 h9) | ((with_reducible refine d_store rfl rfl rfl rfl b3 ?_ ?_ ?_); (rfl); (rfl)) | (go_at_call 64; (with_reducible refine (L1 _).mono ?_); rintro e w1 ⟨rfl, h9⟩; have b1 := vblkn h9 b1; have b2 := vblkn h9 b2; have b3 := vblkn h9 b3; have hB0 := vb hB0 h9))
      exact d_end3 Tryz.results34 rfl rfl rfl (setRow_heap _ _ _ _ _ _ b3) ⟨(fun h => by cases h), fun _ => rfl, below_row hB0 (by omega) _⟩
set_option maxRecDepth 1000000 in
set_option maxHeartbeats 4000000 in
theorem Complete_x (h n : Int) (ka : Int) (xa : Nat) (sa : ByteArray) (ra : Int) (kb : Int) (xb : Nat) (sb : ByteArray) (rb : Int) (kc : Int) (xc : Nat) (sc : ByteArray) (rc : Int) (kg : Int) (xg : Nat) (sg : ByteArray) (rg : Int) (ki : Int) (xi : Nat) (si : ByteArray) (ri : Int) (kj : Int) (xj : Nat) (sj : ByteArray) (rj : Int) (p q z p1 q1 z1 : Bool) {ck : Bool} (hc : ∀ w, Calls Tryz.prog 85 #[.agg #[.int .u8 h, .int .u8 ka, .float .f64 xa, .string sa, .int .i64 ra, .int .u8 kb, .float .f64 xb, .string sb, .int .i64 rb, .int .u8 kc, .float .f64 xc, .string sc, .int .i64 rc, .bool p, .bool q, .bool z]] w fun e w' => e = .returned (.int .i64 (errI ck)) ∧ Below w.heap.size w w') (h1 : ∀ w, Calls Tryz.prog 63 #[.agg #[.int .u8 h, .int .u8 ka, .float .f64 xa, .string sa, .int .i64 ra, .int .u8 kb, .float .f64 xb, .string sb, .int .i64 rb, .int .u8 kc, .float .f64 xc, .string sc, .int .i64 rc, .bool p, .bool q, .bool z]] w fun e w' => e = .returned (.agg #[.int .u8 n, .int .u8 kg, .float .f64 xg, .string sg, .int .i64 rg, .int .u8 ki, .float .f64 xi, .string si, .int .i64 ri, .int .u8 kj, .float .f64 xj, .string sj, .int .i64 rj, .bool p1, .bool q1, .bool z1]) ∧ Below w.heap.size w w') (w : World) : Calls Tryz.prog 175 #[.agg #[.int .u8 h, .int .u8 ka, .float .f64 xa, .string sa, .int .i64 ra, .int .u8 kb, .float .f64 xb, .string sb, .int .i64 rb, .int .u8 kc, .float .f64 xc, .string sc, .int .i64 rc, .bool p, .bool q, .bool z]] w fun e w' => (ck = false → e = .returned (.tuple #[.agg #[.int .u8 0, .int .u8 0, .float .f64 0, .string ⟨#[]⟩, .int .i64 0, .int .u8 0, .float .f64 0, .string ⟨#[]⟩, .int .i64 0, .int .u8 0, .float .f64 0, .string ⟨#[]⟩, .int .i64 0, .bool false, .bool false, .bool false], .int .i64 90])) ∧ (ck = true → e = .returned (.tuple #[.agg #[.int .u8 n, .int .u8 kg, .float .f64 xg, .string sg, .int .i64 rg, .int .u8 ki, .float .f64 xi, .string si, .int .i64 ri, .int .u8 kj, .float .f64 xj, .string sj, .int .i64 rj, .bool p1, .bool q1, .bool z1], .int .i64 0])) ∧ Below w.heap.size w w' := by
  have hB0 : Below w.heap.size w ((w.alloc (.cells #[.int .u8 h, .int .u8 ka, .float .f64 xa, .string sa, .int .i64 ra, .int .u8 kb, .float .f64 xb, .string sb, .int .i64 rb, .int .u8 kc, .float .f64 xc, .string sc, .int .i64 rc, .bool p, .bool q, .bool z] 49)).alloc (.cells #[.int .u8 0, .int .u8 0, .float .f64 0, .string ⟨#[]⟩, .int .i64 0, .int .u8 0, .float .f64 0, .string ⟨#[]⟩, .int .i64 0, .int .u8 0, .float .f64 0, .string ⟨#[]⟩, .int .i64 0, .bool false, .bool false, .bool false] 49)) := vafter (vzero _ _)
  obtain ⟨b1, b2⟩ := vblk2 (w := w) (Below.refl _ ((w.alloc (.cells #[.int .u8 h, .int .u8 ka, .float .f64 xa, .string sa, .int .i64 ra, .int .u8 kb, .float .f64 xb, .string sb, .int .i64 rb, .int .u8 kc, .float .f64 xc, .string sc, .int .i64 rc, .bool p, .bool q, .bool z] 49)).alloc (.cells #[.int .u8 0, .int .u8 0, .float .f64 0, .string ⟨#[]⟩, .int .i64 0, .int .u8 0, .float .f64 0, .string ⟨#[]⟩, .int .i64 0, .int .u8 0, .float .f64 0, .string ⟨#[]⟩, .int .i64 0, .bool false, .bool false, .bool false] 49)))
  cases ck
  · have hc : ∀ w, Calls Tryz.prog 85 #[.agg #[.int .u8 h, .int .u8 ka, .float .f64 xa, .string sa, .int .i64 ra, .int .u8 kb, .float .f64 xb, .string sb, .int .i64 rb, .int .u8 kc, .float .f64 xc, .string sc, .int .i64 rc, .bool p, .bool q, .bool z]] w fun e w' => e = .returned (.int .i64 90) ∧ Below w.heap.size w w' := hc
    go_enter Tryz.func175, Tryz.ntmps175
    go_wp2_with (first | ((with_reducible refine d_load ?_ rfl rfl b1 ?_); (rfl)) | (go_at_call 85; (with_reducible refine (hc _).mono ?_); rintro e w1 ⟨rfl, h9⟩; have b1 := vblkn h9 b1; have b2 := vblkn h9 b2; have hB0 := vb hB0 h9) | (go_at_call 63; (with_reducible refine (h1 _).mono ?_); rintro e w1 ⟨rfl, h9⟩; have b1 := vblkn h9 b1; have b2 := vblkn h9 b2; have hB0 := vb hB0 h9) | ((with_reducible refine d_store rfl rfl rfl rfl b2 ?_ ?_ ?_); (rfl); (rfl)))
    exact d_end2 Tryz.results175 rfl rfl (setRow_heap _ _ _ _ _ _ b2) ⟨fun _ => rfl, (fun h => by cases h), below_row hB0 (by omega) _⟩
  · have hc : ∀ w, Calls Tryz.prog 85 #[.agg #[.int .u8 h, .int .u8 ka, .float .f64 xa, .string sa, .int .i64 ra, .int .u8 kb, .float .f64 xb, .string sb, .int .i64 rb, .int .u8 kc, .float .f64 xc, .string sc, .int .i64 rc, .bool p, .bool q, .bool z]] w fun e w' => e = .returned (.int .i64 0) ∧ Below w.heap.size w w' := hc
    go_enter Tryz.func175, Tryz.ntmps175
    go_wp2_with (first | ((with_reducible refine d_load ?_ rfl rfl b1 ?_); (rfl)) | (go_at_call 85; (with_reducible refine (hc _).mono ?_); rintro e w1 ⟨rfl, h9⟩; have b1 := vblkn h9 b1; have b2 := vblkn h9 b2; have hB0 := vb hB0 h9) | (go_at_call 63; (with_reducible refine (h1 _).mono ?_); rintro e w1 ⟨rfl, h9⟩; have b1 := vblkn h9 b1; have b2 := vblkn h9 b2; have hB0 := vb hB0 h9) | ((with_reducible refine d_store rfl rfl rfl rfl b2 ?_ ?_ ?_); (rfl); (rfl)))
    exact d_end2 Tryz.results175 rfl rfl (setRow_heap _ _ _ _ _ _ b2) ⟨(fun h => by cases h), fun _ => rfl, below_row hB0 (by omega) _⟩
end Go.Proofs.YtpeegmpfkongeaaGreatDoor.S
/-
  cmp.Or of two errors; whether a descriptor is complete, whether a property may be.
-/
namespace Go.Proofs.YtpeegmpfkongeaaGreatDoor.S
open Go.RowKit Fl
open Classical

noncomputable def orE (x y : Int) : Int := if x = 0 then y else x
set_option maxRecDepth 100000 in
theorem Or_2 (g : Nat) (x y : Int) (w : World) (h0 : w.cell? ⟨g, 0, none⟩ = some (.int .i64 x)) (h1 : w.cell? ⟨g, 1, none⟩ = some (.int .i64 y)) : Calls Tryz.prog 41 #[.slice (some ⟨g, 0, none⟩) 2 2] w fun e w' => e = .returned (.int .i64 (orE x y)) ∧ w' = w := by
  go_enter Tryz.func41, Tryz.ntmps41
  go_wp2
  go_loopg [8] 2 (fun kx s8 wr => ∃ i : Nat, s8 = .int .i64 i ∧ i + kx = 2 ∧ Hid ((0 < i → x = 0) ∧ (1 < i → y = 0)) ∧ wr = w)
  case atStart => exact ⟨0, rfl, rfl, Lib.hid ⟨fun h => absurd h (by decide), fun h => absurd h (by decide)⟩, rfl⟩
  case round =>
    obtain ⟨i, rfl, hik, H, rfl⟩ := hrel
    cases gk with
    | zero =>
      obtain rfl : i = 2 := by omega
      have hx := H.out.1 (by decide)
      have hy := H.out.2 (by decide)
      clear H
      subst hx hy
      go_wp2
      go_ret
      exact ⟨by unfold orE; rfl, rfl⟩
    | succ kx =>
      have hi : i = 0 ∨ i = 1 := by omega
      rcases hi with rfl | rfl
      · by_cases hx : x = 0
        · go_wp2
          go_roundg kx
          case measure => omega
          case rel => exact ⟨1, rfl, by omega, Lib.hid ⟨fun _ => hx, fun h => absurd h (by decide)⟩, rfl⟩
        · go_wp2
          go_ret
          exact ⟨by unfold orE; rw [if_neg hx]; rfl, rfl⟩
      · have hx := H.out.1 (by decide)
        by_cases hy : y = 0
        · go_wp2
          go_roundg kx
          case measure => omega
          case rel => exact ⟨2, rfl, by omega, Lib.hid ⟨fun _ => hx, fun _ => hy⟩, rfl⟩
        · clear H
          subst hx
          go_wp2
          go_ret
          exact ⟨by unfold orE; rfl, rfl⟩
noncomputable def whoE (d : Dq) : Int := if wholeQ d = true then 0 else 90
theorem comp_h {d : Dq} (hd : d.In) (g : chkQ d = true) : (completeQ d).h = d.h ↔ wholeQ d = true := by
  have gd := good_of hd g
  have e : wholeQ d = (d.h == 51 || d.h == 60) := by unfold wholeQ; rw [g]; rfl
  rw [e, complete_eq gd.mem]
  dsimp only
  constructor
  · intro h
    cases hh : hasB d.h 12 <;> rw [hh] at h
    · have : d.h = 51 := h.symm
      simp [this]
    · have : d.h = 60 := h.symm
      simp [this]
  · intro h
    simp at h
    rcases h with h | h <;> rw [h] <;> decide
theorem who_no {d : Dq} (g : chkQ d = false) : whoE d = 90 := by unfold whoE wholeQ; rw [g]; rfl
set_option maxRecDepth 100000 in
theorem whole_t {d : Dq} (hd : d.In) (w : World) : Calls Tryz.prog 148 #[.agg d.cells] w fun e w' => e = .returned (.int .i64 (whoE d)) ∧ Below w.heap.size w w' := by
  have hC := fun w => Complete_x d.h (completeQ d).h d.a.k d.a.x d.a.s d.a.r d.b.k d.b.x d.b.s d.b.r d.c.k d.c.x d.c.s d.c.r (completeQ d).a.k (completeQ d).a.x (completeQ d).a.s (completeQ d).a.r (completeQ d).b.k (completeQ d).b.x (completeQ d).b.s (completeQ d).b.r (completeQ d).c.k (completeQ d).c.x (completeQ d).c.s (completeQ d).c.r d.p d.q d.z (completeQ d).p (completeQ d).q (completeQ d).z (ck := chkQ d) (fun w => Check_q hd w) (fun w => complete_q d w) w
  have hB0 : Below w.heap.size w (w.alloc (.cells d.cells 49)) := vzero _ _
  have b1 : (w.alloc (.cells d.cells 49)).heap[w.heap.size]? = some (.cells d.cells 49 (0, 0)) := heap_alloc_new w _
  cases hck : chkQ d with
  | false =>
    have hC : ∀ w, Calls Tryz.prog 175 #[.agg d.cells] w fun e w' => e = .returned (.tuple #[.agg (dz 0).cells, .int .i64 90]) ∧ Below w.heap.size w w' := fun w => (hC w).mono fun e w' h => ⟨h.1 hck, h.2.2⟩
    rw [who_no hck]
    generalize hX : dz 0 = X at hC
    clear hX hck
    have hc1 : X.cells.all (·.oneCell') = true := cells_one (l := X.cells.toList) rfl
    have hi1 : (Tryz.prog.info? 49).map (·.size) = some X.cells.size := dsz
    go_enter Tryz.func148, Tryz.ntmps148
    go_wp2_with (first | ((with_reducible refine dq_load ?_ rfl rfl b1 ?_); (rfl)) | (go_at_call 175; (with_reducible refine (hC _).mono ?_); rintro e w1 ⟨rfl, h9⟩; have b1 := vblkn h9 b1; have hB0 := vb hB0 h9) | ((with_reducible refine t_store (cs := X.cells) rfl rfl rfl rfl (heap_alloc_new _ _) hi1 ?_ hc1 (hB0.alloc hB0.size _) hB0.size ?_); (rfl); intro W hBW hW _ _))
    go_ret
    exact ⟨rfl, hBW⟩
  | true =>
    have hC : ∀ w, Calls Tryz.prog 175 #[.agg d.cells] w fun e w' => e = .returned (.tuple #[.agg (completeQ d).cells, .int .i64 0]) ∧ Below w.heap.size w w' := fun w => (hC w).mono fun e w' h => ⟨h.2.1 hck, h.2.2⟩
    have hw : whoE d = if (completeQ d).h = d.h then 0 else 90 := by
      unfold whoE
      by_cases c : wholeQ d = true
      · rw [if_pos c, if_pos ((comp_h hd hck).2 c)]
      · rw [if_neg c, if_neg (fun h => c ((comp_h hd hck).1 h))]
    rw [hw]
    generalize hX : completeQ d = X at hC
    clear hX hck hw
    have hc1 : X.cells.all (·.oneCell') = true := cells_one (l := X.cells.toList) rfl
    have hi1 : (Tryz.prog.info? 49).map (·.size) = some X.cells.size := dsz
    have d0 : d.cells[0]? = some (.int .u8 d.h) := rfl
    have x0 : X.cells[0]? = some (.int .u8 X.h) := rfl
    by_cases he : X.h = d.h
    · have hb : (X.h != d.h) = false := by simp [he]
      go_enter Tryz.func148, Tryz.ntmps148
      go_wp2_with (first | ((with_reducible refine dq_load ?_ rfl rfl b1 ?_); (rfl)) | (go_at_call 175; (with_reducible refine (hC _).mono ?_); rintro e w1 ⟨rfl, h9⟩; have b1 := vblkn h9 b1; have hB0 := vb hB0 h9; have q1 := lt_blk b1) | ((with_reducible refine t_store (cs := X.cells) rfl rfl rfl rfl (heap_alloc_new _ _) hi1 ?_ hc1 (hB0.alloc hB0.size _) hB0.size ?_); (rfl); intro W hBW hW hO hz; have c0 := (vcells hW 0).trans x0; have c1 := (vcells ((hO w.heap.size (by omega)).trans ((heap_alloc_old _ _ q1).trans b1)) 0).trans d0))
      go_ret
      exact ⟨by first | rfl | (rw [if_pos he]; rfl), hBW⟩
    · have hb : (X.h != d.h) = true := by simp [he]
      go_enter Tryz.func148, Tryz.ntmps148
      go_wp2_with (first | ((with_reducible refine dq_load ?_ rfl rfl b1 ?_); (rfl)) | (go_at_call 175; (with_reducible refine (hC _).mono ?_); rintro e w1 ⟨rfl, h9⟩; have b1 := vblkn h9 b1; have hB0 := vb hB0 h9; have q1 := lt_blk b1) | ((with_reducible refine t_store (cs := X.cells) rfl rfl rfl rfl (heap_alloc_new _ _) hi1 ?_ hc1 (hB0.alloc hB0.size _) hB0.size ?_); (rfl); intro W hBW hW hO hz; have c0 := (vcells hW 0).trans x0; have c1 := (vcells ((hO w.heap.size (by omega)).trans ((heap_alloc_old _ _ q1).trans b1)) 0).trans d0))
      go_ret
      exact ⟨by first | rfl | (rw [if_neg he]; rfl), hBW⟩
noncomputable def keyE (k : Ky) : Int := if mayKy k then 0 else 9
theorem keyCheck_t (k : Ky) (w : World) : Calls Tryz.prog 84 #[.agg #[.string k.str, .int .i64 k.sym]] w fun e w' => e = .returned (.int .i64 (keyE k)) ∧ Below w.heap.size w w' := by
  unfold keyE
  by_cases h : mayKy k
  · rw [if_pos h]; exact keyCheck_ok k.str k.sym w h
  · rw [if_neg h]; exact keyCheck_bad k.str k.sym w h
theorem mayT_or (p : Pq) : mayT p = orE (keyE p.k) (whoE p.d) := by
  unfold mayT orE keyE whoE
  by_cases h : mayKy p.k
  · rw [if_pos h, if_pos h, if_pos rfl]
  · rw [if_neg h, if_neg h, if_neg (by decide)]
theorem keyE_ok {k : Ky} : keyE k = 0 ↔ mayKy k := by
  unfold keyE
  by_cases h : mayKy k
  · rw [if_pos h]; exact ⟨fun _ => h, fun _ => rfl⟩
  · rw [if_neg h]; exact ⟨fun e => absurd e (by decide), fun e => absurd e h⟩
end Go.Proofs.YtpeegmpfkongeaaGreatDoor.S
/-
  table.may.
-/
namespace Go.Proofs.YtpeegmpfkongeaaGreatDoor.S
open Go.RowKit Fl
open Classical

theorem k2_load {W : World} {k : Ky} {g : Nat} (h : W.heap[g]? = some (.cells #[.string k.str, .int .i64 k.sym] 57 (0, 0))) : (Instr.loadAt 57 (.pointer (some ⟨g, 0, none⟩))).run Tryz.prog W = .ok (.agg #[.string k.str, .int .i64 k.sym]) W :=
  run_loadAt_at (A := ⟨g, 0, none⟩) (cs := [.string k.str, .int .i64 k.sym]) (fun j v hv => by
    rw [Addr.add_mid, Nat.zero_add, vcells h j]
    simpa using hv) Tryz.underlying57 rfl ksz
theorem d2_load {W : World} {d : Dq} {g : Nat} (h : W.heap[g]? = some (.cells d.cells 49 (0, 0))) : (Instr.loadAt 49 (.pointer (some ⟨g, 0, none⟩))).run Tryz.prog W = .ok (.agg d.cells) W :=
  run_loadAt_at (A := ⟨g, 0, none⟩) (cs := d.cells.toList) (fun j v hv => by
    rw [Addr.add_mid, Nat.zero_add, vcells h j]
    simpa using hv) Tryz.underlying49 rfl dsz
/-- what may, and Put, hold on to while they ask -/
structure Hm (w : World) (k : Ky) (d : Dq) (W : World) : Prop where
  below : Below w.heap.size w W
  k : W.heap[w.heap.size]? = some (.cells #[.string k.str, .int .i64 k.sym] 57 (0, 0))
  d : W.heap[w.heap.size + 1]? = some (.cells d.cells 49 (0, 0))
theorem Hm.up {w W W' : World} {k : Ky} {d : Dq} (h : Hm w k d W) (hb : Below W.heap.size W W') : Hm w k d W' := ⟨vb h.below hb, vblkn hb h.k, vblkn hb h.d⟩
theorem Hm.drew {w W : World} {k : Ky} {d : Dq} (h : Hm w k d W) : Hm w k d W.drew := ⟨h.below.drew, h.k, h.d⟩
theorem hm_start (w : World) (k : Ky) (d : Dq) : Hm w k d ((w.alloc (.cells #[.string k.str, .int .i64 k.sym] 57)).alloc (.cells d.cells 49)) :=
  ⟨vafter (vzero _ _), (vblk2 (Below.refl _ _)).1, (vblk2 (Below.refl _ _)).2⟩
theorem ex_load_at {a : Act} {o : Oper} {w : World} {x : Operand} {ty : TypeId} {A : Addr} {v : Value} (h : (Instr.loadAt ty (.pointer (some A))).run Tryz.prog w = .ok v w) (ho : o.op = .load ty x) (hx : a.eval x = .pointer (some A)) : (execOp a.eval o).run Tryz.prog w = .ok (.value v) w := by
  unfold execOp
  simp only [ho, hx, h, Sem.run_bind, Sem.run_pure, Result.andThen_ok]
theorem orS_new (w : World) (x y : Int) : (w.alloc (.cells #[.int .i64 x, .int .i64 y] 25)).cell? ⟨w.heap.size, 0, none⟩ = some (.int .i64 x) ∧ (w.alloc (.cells #[.int .i64 x, .int .i64 y] 25)).cell? ⟨w.heap.size, 1, none⟩ = some (.int .i64 y) :=
  ⟨vcells (heap_alloc_new w _) 0, vcells (heap_alloc_new w _) 1⟩
set_option maxRecDepth 100000 in
theorem may_t {p : Pq} (hp : p.In) (w : World) : Calls Tryz.prog 109 #[.agg #[.string p.k.str, .int .i64 p.k.sym], .agg p.d.cells] w fun e w' => e = .returned (.int .i64 (mayT p)) ∧ Below w.heap.size w w' := by
  rw [mayT_or]
  have H0 := (hm_start w p.k p.d).drew
  have kC := fun W => keyCheck_t p.k W
  have wC := fun W => whole_t hp.2 W
  generalize keyE p.k = x at *
  generalize whoE p.d = y at *
  have hS := H0
  clear H0
  go_enter Tryz.func109, Tryz.ntmps109
  go_upto_region 1 with (fail)
  refine wp_region_held_drew (S := Hm w p.k p.d) (by kernel_rfl) hS (fun hHeld => ?_)
  refine hH_take (i := 0) (v := .agg #[.string p.k.str, .int .i64 p.k.sym]) (d := 5) (l2 := #[true, false, false, false, false, false, false]) rfl (by kernel_rfl) (by kernel_rfl) (by kernel_rfl) (fun _ _ _ h => h) (by kernel_rfl) (fun w hSw => ?_) (by assumption) rfl (by kernel_rfl) ?_
  · exact ex_load_at (k2_load hSw.k) rfl rfl
  simp only [List.set]
  refine hH_take (i := 2) (v := .agg p.d.cells) (d := 7) (l2 := #[true, false, true, false, false, false, false]) rfl (by kernel_rfl) (by kernel_rfl) (by kernel_rfl) (fun _ _ _ h => h) (by kernel_rfl) (fun w hSw => ?_) (by assumption) rfl (by kernel_rfl) ?_
  · exact ex_load_at (d2_load hSw.d) rfl rfl
  simp only [List.set]
  refine wpAnyH_ready (rs := [1]) (by kernel_rfl) (by simp) ?_
  refine AllReadyH.cons rfl (fun K hK => ?_) AllReadyH.nil
  go_simp
  go_at_call 84
  (with_reducible refine (kC _).mono ?_)
  rintro e w1 ⟨rfl, h1⟩
  have hS := hS.up h1
  clear h1
  refine hK.out _ _ hS (fun hHeld => ?_)
  clear hK K
  refine wpAnyH_ready (rs := [3]) (by kernel_rfl) (by simp) ?_
  refine AllReadyH.cons rfl (fun K hK => ?_) AllReadyH.nil
  go_simp
  go_at_call 148
  (with_reducible refine (wC _).mono ?_)
  rintro e w1 ⟨rfl, h1⟩
  have hS := hS.up h1
  clear h1
  refine hK.out _ _ hS (fun hHeld => ?_)
  clear hK K
  refine wpAnyH_ready (rs := [4]) (by kernel_rfl) (by simp) ?_
  refine AllReadyH.cons rfl (fun K hK => ?_) AllReadyH.nil
  go_simp
  have hS := hS.up (vzero _ (.cells #[.int .i64 x, .int .i64 y] 25))
  have hO := orS_new w1 x y
  refine hK.out _ _ hS (fun hHeld => ?_)
  clear hK K
  refine wpAnyH_ready (rs := [5]) (by kernel_rfl) (by simp) ?_
  refine AllReadyH.cons rfl (fun K hK => ?_) AllReadyH.nil
  go_simp
  go_at_call 41
  (with_reducible refine (Or_2 _ x y _ hO.1 hO.2).mono ?_)
  rintro e w2 ⟨rfl, rfl⟩
  refine hK.out _ _ hS (fun hHeld => ?_)
  clear hK K
  refine hH_take (i := 6) (v := .int .i64 (orE x y)) (d := 4) (l2 := #[true, true, true, true, true, true, true]) rfl (by kernel_rfl) (by kernel_rfl) (by kernel_rfl) (fun _ _ _ h => h) (by kernel_rfl) (fun w hSw => ?_) (by assumption) rfl (by kernel_rfl) ?_
  · go_simp
  simp only [List.set]
  refine wpAnyH_done (by kernel_rfl) ?_ _
  go_wp2
  go_ret
  exact ⟨rfl, hS.below⟩
end Go.Proofs.YtpeegmpfkongeaaGreatDoor.S
