/-
  Descriptors: complete, become, whole, changes, Compatible, Apply, Complete: walks. Generated: gen_descwalk.py.
-/
import Derived.Test.YtlgbnfcnimjheaaDoorDN07
namespace Go.Proofs.YtlgbnfcnimjheaaDoor.S
open Go.RowKit Fl

set_option maxRecDepth 1000000 in
set_option maxHeartbeats 4000000 in
theorem complete_x (h n : Int) (ka : Int) (xa : Nat) (sa : ByteArray) (ra : Int) (kb : Int) (xb : Nat) (sb : ByteArray) (rb : Int) (kc : Int) (xc : Nat) (sc : ByteArray) (rc : Int) (kg : Int) (xg : Nat) (sg : ByteArray) (rg : Int) (ki : Int) (xi : Nat) (si : ByteArray) (ri : Int) (kj : Int) (xj : Nat) (sj : ByteArray) (rj : Int) (p q z p1 q1 z1 : Bool) {acc : Bool} (ha : ∀ w, Calls Tryd.prog 21 #[.agg #[.int .u8 h, .int .u8 ka, .float .f64 xa, .string sa, .int .i64 ra, .int .u8 kb, .float .f64 xb, .string sb, .int .i64 rb, .int .u8 kc, .float .f64 xc, .string sc, .int .i64 rc, .bool p, .bool q, .bool z]] w fun e w' => e = .returned (.bool acc) ∧ Below w.heap.size w w') (l1 : acc = true → ∀ w, Calls Tryd.prog 22 #[.agg #[.int .u8 60, .int .u8 0, .float .f64 0, .string ⟨#[]⟩, .int .i64 0, .int .u8 0, .float .f64 0, .string ⟨#[]⟩, .int .i64 0, .int .u8 0, .float .f64 0, .string ⟨#[]⟩, .int .i64 0, .bool false, .bool false, .bool false], .agg #[.int .u8 h, .int .u8 ka, .float .f64 xa, .string sa, .int .i64 ra, .int .u8 kb, .float .f64 xb, .string sb, .int .i64 rb, .int .u8 kc, .float .f64 xc, .string sc, .int .i64 rc, .bool p, .bool q, .bool z]] w fun e w' => e = .returned (.agg #[.int .u8 n, .int .u8 kg, .float .f64 xg, .string sg, .int .i64 rg, .int .u8 ki, .float .f64 xi, .string si, .int .i64 ri, .int .u8 kj, .float .f64 xj, .string sj, .int .i64 rj, .bool p1, .bool q1, .bool z1]) ∧ Below w.heap.size w w') (l2 : acc = false → ∀ w, Calls Tryd.prog 22 #[.agg #[.int .u8 51, .int .u8 0, .float .f64 0, .string ⟨#[]⟩, .int .i64 0, .int .u8 0, .float .f64 0, .string ⟨#[]⟩, .int .i64 0, .int .u8 0, .float .f64 0, .string ⟨#[]⟩, .int .i64 0, .bool false, .bool false, .bool false], .agg #[.int .u8 h, .int .u8 ka, .float .f64 xa, .string sa, .int .i64 ra, .int .u8 kb, .float .f64 xb, .string sb, .int .i64 rb, .int .u8 kc, .float .f64 xc, .string sc, .int .i64 rc, .bool p, .bool q, .bool z]] w fun e w' => e = .returned (.agg #[.int .u8 n, .int .u8 kg, .float .f64 xg, .string sg, .int .i64 rg, .int .u8 ki, .float .f64 xi, .string si, .int .i64 ri, .int .u8 kj, .float .f64 xj, .string sj, .int .i64 rj, .bool p1, .bool q1, .bool z1]) ∧ Below w.heap.size w w') (w : World) : Calls Tryd.prog 28 #[.agg #[.int .u8 h, .int .u8 ka, .float .f64 xa, .string sa, .int .i64 ra, .int .u8 kb, .float .f64 xb, .string sb, .int .i64 rb, .int .u8 kc, .float .f64 xc, .string sc, .int .i64 rc, .bool p, .bool q, .bool z]] w fun e w' => e = .returned (.agg #[.int .u8 n, .int .u8 kg, .float .f64 xg, .string sg, .int .i64 rg, .int .u8 ki, .float .f64 xi, .string si, .int .i64 ri, .int .u8 kj, .float .f64 xj, .string sj, .int .i64 rj, .bool p1, .bool q1, .bool z1]) ∧ Below w.heap.size w w' := by
  have hB0 : Below w.heap.size w ((w.alloc (.cells #[.int .u8 h, .int .u8 ka, .float .f64 xa, .string sa, .int .i64 ra, .int .u8 kb, .float .f64 xb, .string sb, .int .i64 rb, .int .u8 kc, .float .f64 xc, .string sc, .int .i64 rc, .bool p, .bool q, .bool z] 33)).alloc (.cells #[.int .u8 0, .int .u8 0, .float .f64 0, .string ⟨#[]⟩, .int .i64 0, .int .u8 0, .float .f64 0, .string ⟨#[]⟩, .int .i64 0, .int .u8 0, .float .f64 0, .string ⟨#[]⟩, .int .i64 0, .bool false, .bool false, .bool false] 33)) := vafter (vzero _ _)
  obtain ⟨b1, b2⟩ := vblk2 (w := w) (Below.refl _ ((w.alloc (.cells #[.int .u8 h, .int .u8 ka, .float .f64 xa, .string sa, .int .i64 ra, .int .u8 kb, .float .f64 xb, .string sb, .int .i64 rb, .int .u8 kc, .float .f64 xc, .string sc, .int .i64 rc, .bool p, .bool q, .bool z] 33)).alloc (.cells #[.int .u8 0, .int .u8 0, .float .f64 0, .string ⟨#[]⟩, .int .i64 0, .int .u8 0, .float .f64 0, .string ⟨#[]⟩, .int .i64 0, .int .u8 0, .float .f64 0, .string ⟨#[]⟩, .int .i64 0, .bool false, .bool false, .bool false] 33)))
  cases acc
  · have L := l2 rfl
    clear l1 l2
    go_enter Tryd.func28, Tryd.ntmps28
    go_wp2_with (first | ((with_reducible refine d_load ?_ rfl rfl b1 ?_); (rfl)) | (go_at_call 21; (with_reducible refine (ha _).mono ?_); rintro e w1 ⟨rfl, h1⟩; have b1 := vblkn h1 b1; have b2 := vblkn h1 b2; have hB0 := vb hB0 h1) | (go_at_call 22; (with_reducible refine (L _).mono ?_); rintro e w1 ⟨rfl, h1⟩; have b1 := vblkn h1 b1; have b2 := vblkn h1 b2; have hB0 := vb hB0 h1) | ((with_reducible refine d_store rfl rfl rfl rfl b2 ?_ ?_ ?_); (rfl); (rfl)))
    exact d_end Tryd.results28 rfl (setRow_heap _ _ _ _ _ _ b2) ⟨rfl, below_row hB0 (by omega) _⟩
  · have L := l1 rfl
    clear l1 l2
    go_enter Tryd.func28, Tryd.ntmps28
    go_wp2_with (first | ((with_reducible refine d_load ?_ rfl rfl b1 ?_); (rfl)) | (go_at_call 21; (with_reducible refine (ha _).mono ?_); rintro e w1 ⟨rfl, h1⟩; have b1 := vblkn h1 b1; have b2 := vblkn h1 b2; have hB0 := vb hB0 h1) | (go_at_call 22; (with_reducible refine (L _).mono ?_); rintro e w1 ⟨rfl, h1⟩; have b1 := vblkn h1 b1; have b2 := vblkn h1 b2; have hB0 := vb hB0 h1) | ((with_reducible refine d_store rfl rfl rfl rfl b2 ?_ ?_ ?_); (rfl); (rfl)))
    exact d_end Tryd.results28 rfl (setRow_heap _ _ _ _ _ _ b2) ⟨rfl, below_row hB0 (by omega) _⟩
theorem complete_q (d : Dq) (w : World) : Calls Tryd.prog 28 #[d.val] w fun e w' => e = .returned (completeQ d).val ∧ Below w.heap.size w w' := by
  refine complete_x d.h (completeQ d).h d.a.k d.a.x d.a.s d.a.r d.b.k d.b.x d.b.s d.b.r d.c.k d.c.x d.c.s d.c.r (completeQ d).a.k (completeQ d).a.x (completeQ d).a.s (completeQ d).a.r (completeQ d).b.k (completeQ d).b.x (completeQ d).b.s (completeQ d).b.r (completeQ d).c.k (completeQ d).c.x (completeQ d).c.s (completeQ d).c.r d.p d.q d.z (completeQ d).p (completeQ d).q (completeQ d).z (fun w => IsAccess_q d w) (fun hac w => ?_) (fun hac w => ?_) w
  · have e1 : completeQ d = layQ (dz 60) d := by unfold completeQ; rw [hac]; rfl
    have := lay_q (dz 60) d w
    rw [← e1] at this
    exact this
  · have e1 : completeQ d = layQ (dz 51) d := by unfold completeQ; rw [hac]; rfl
    have := lay_q (dz 51) d w
    rw [← e1] at this
    exact this
section
variable {f : Func} {i j k : Nat} {t : TypeId} {Q : Ending → World → Prop} {tmps : Array Value} {W : World} {g : Nat} {c0 c1 c2 c3 c4 c5 c6 c7 c8 c9 c10 c11 c12 c13 c14 c15 v u : Value}
theorem dldv (h : W.heap[g]? = some (.cells #[c0, c1, c2, c3, c4, c5, c6, c7, c8, c9, c10, c11, c12, c13, c14, c15] t (0, 0))) :
    (loadVar 33 ⟨g, 0, none⟩).run Tryd.prog W = .ok (.agg #[c0, c1, c2, c3, c4, c5, c6, c7, c8, c9, c10, c11, c12, c13, c14, c15]) W := run_loadVar_row W g t 33 _ (0, 0) _ h Tryd.underlying33 rfl dsz
theorem d_end2 (hf : f.results = #[.cell i 33, .tmp j]) (h2 : tmps[i]?.getD undef = .pointer (some ⟨g, 0, none⟩)) (h3 : tmps[j]?.getD undef = v) (hb : W.heap[g]? = some (.cells #[c0, c1, c2, c3, c4, c5, c6, c7, c8, c9, c10, c11, c12, c13, c14, c15] t (0, 0)))
    (hQ : Q (.returned (.tuple #[.agg #[c0, c1, c2, c3, c4, c5, c6, c7, c8, c9, c10, c11, c12, c13, c14, c15], v])) W) : bodyPost Tryd.prog f Q .ret { tmps := tmps, defers := [] } W := by
  have e := dldv hb
  refine bodyPost_ret (v := .tuple #[.agg #[c0, c1, c2, c3, c4, c5, c6, c7, c8, c9, c10, c11, c12, c13, c14, c15], v]) ?_ rfl hQ
  simp [results, hf, h2, h3, asAddr, e]
theorem d_end3 (hf : f.results = #[.cell i 33, .tmp j, .tmp k]) (h2 : tmps[i]?.getD undef = .pointer (some ⟨g, 0, none⟩)) (h3 : tmps[j]?.getD undef = v) (h4 : tmps[k]?.getD undef = u) (hb : W.heap[g]? = some (.cells #[c0, c1, c2, c3, c4, c5, c6, c7, c8, c9, c10, c11, c12, c13, c14, c15] t (0, 0)))
    (hQ : Q (.returned (.tuple #[.agg #[c0, c1, c2, c3, c4, c5, c6, c7, c8, c9, c10, c11, c12, c13, c14, c15], v, u])) W) : bodyPost Tryd.prog f Q .ret { tmps := tmps, defers := [] } W := by
  have e := dldv hb
  refine bodyPost_ret (v := .tuple #[.agg #[c0, c1, c2, c3, c4, c5, c6, c7, c8, c9, c10, c11, c12, c13, c14, c15], v, u]) ?_ rfl hQ
  simp [results, hf, h2, h3, h4, asAddr, e]
end
set_option maxRecDepth 1000000 in
set_option maxHeartbeats 4000000 in
theorem become_x (h m m' n n2 : Int) (ka : Int) (xa : Nat) (sa : ByteArray) (ra : Int) (kb : Int) (xb : Nat) (sb : ByteArray) (rb : Int) (kc : Int) (xc : Nat) (sc : ByteArray) (rc : Int) (kd : Int) (xd : Nat) (sd : ByteArray) (rd : Int) (ke : Int) (xe : Nat) (se : ByteArray) (re : Int) (kf : Int) (xf : Nat) (sf : ByteArray) (rf : Int) (kg : Int) (xg : Nat) (sg : ByteArray) (rg : Int) (ki : Int) (xi : Nat) (si : ByteArray) (ri : Int) (kj : Int) (xj : Nat) (sj : ByteArray) (rj : Int) (kl : Int) (xl : Nat) (sl : ByteArray) (rl : Int) (ko : Int) (xo : Nat) (so : ByteArray) (ro : Int) (kt : Int) (xt : Nat) (st : ByteArray) (rt : Int) (p q z p' q' z' p1 q1 z1 p2 q2 z2 : Bool) {bd ba : Bool} (hd : ∀ w, Calls Tryd.prog 20 #[.agg #[.int .u8 h, .int .u8 ka, .float .f64 xa, .string sa, .int .i64 ra, .int .u8 kb, .float .f64 xb, .string sb, .int .i64 rb, .int .u8 kc, .float .f64 xc, .string sc, .int .i64 rc, .bool p, .bool q, .bool z]] w fun e w' => e = .returned (.bool bd) ∧ Below w.heap.size w w') (ha : ∀ w, Calls Tryd.prog 21 #[.agg #[.int .u8 h, .int .u8 ka, .float .f64 xa, .string sa, .int .i64 ra, .int .u8 kb, .float .f64 xb, .string sb, .int .i64 rb, .int .u8 kc, .float .f64 xc, .string sc, .int .i64 rc, .bool p, .bool q, .bool z]] w fun e w' => e = .returned (.bool ba) ∧ Below w.heap.size w w') (hm : m' = bif bd then bits .andNot .u8 m 12 else bif ba then bits .andNot .u8 m 3 else m) (hl : ∀ w, Calls Tryd.prog 22 #[.agg #[.int .u8 m', .int .u8 kd, .float .f64 xd, .string sd, .int .i64 rd, .int .u8 ke, .float .f64 xe, .string se, .int .i64 re, .int .u8 kf, .float .f64 xf, .string sf, .int .i64 rf, .bool p', .bool q', .bool z'], .agg #[.int .u8 h, .int .u8 ka, .float .f64 xa, .string sa, .int .i64 ra, .int .u8 kb, .float .f64 xb, .string sb, .int .i64 rb, .int .u8 kc, .float .f64 xc, .string sc, .int .i64 rc, .bool p, .bool q, .bool z]] w fun e w' => e = .returned (.agg #[.int .u8 n, .int .u8 kg, .float .f64 xg, .string sg, .int .i64 rg, .int .u8 ki, .float .f64 xi, .string si, .int .i64 ri, .int .u8 kj, .float .f64 xj, .string sj, .int .i64 rj, .bool p1, .bool q1, .bool z1]) ∧ Below w.heap.size w w') (hc : ∀ w, Calls Tryd.prog 28 #[.agg #[.int .u8 n, .int .u8 kg, .float .f64 xg, .string sg, .int .i64 rg, .int .u8 ki, .float .f64 xi, .string si, .int .i64 ri, .int .u8 kj, .float .f64 xj, .string sj, .int .i64 rj, .bool p1, .bool q1, .bool z1]] w fun e w' => e = .returned (.agg #[.int .u8 n2, .int .u8 kl, .float .f64 xl, .string sl, .int .i64 rl, .int .u8 ko, .float .f64 xo, .string so, .int .i64 ro, .int .u8 kt, .float .f64 xt, .string st, .int .i64 rt, .bool p2, .bool q2, .bool z2]) ∧ Below w.heap.size w w') (w : World) : Calls Tryd.prog 29 #[.agg #[.int .u8 h, .int .u8 ka, .float .f64 xa, .string sa, .int .i64 ra, .int .u8 kb, .float .f64 xb, .string sb, .int .i64 rb, .int .u8 kc, .float .f64 xc, .string sc, .int .i64 rc, .bool p, .bool q, .bool z], .agg #[.int .u8 m, .int .u8 kd, .float .f64 xd, .string sd, .int .i64 rd, .int .u8 ke, .float .f64 xe, .string se, .int .i64 re, .int .u8 kf, .float .f64 xf, .string sf, .int .i64 rf, .bool p', .bool q', .bool z']] w fun e w' => e = .returned (.agg #[.int .u8 n2, .int .u8 kl, .float .f64 xl, .string sl, .int .i64 rl, .int .u8 ko, .float .f64 xo, .string so, .int .i64 ro, .int .u8 kt, .float .f64 xt, .string st, .int .i64 rt, .bool p2, .bool q2, .bool z2]) ∧ Below w.heap.size w w' := by
  have hB0 : Below w.heap.size w (((w.alloc (.cells #[.int .u8 h, .int .u8 ka, .float .f64 xa, .string sa, .int .i64 ra, .int .u8 kb, .float .f64 xb, .string sb, .int .i64 rb, .int .u8 kc, .float .f64 xc, .string sc, .int .i64 rc, .bool p, .bool q, .bool z] 33)).alloc (.cells #[.int .u8 m, .int .u8 kd, .float .f64 xd, .string sd, .int .i64 rd, .int .u8 ke, .float .f64 xe, .string se, .int .i64 re, .int .u8 kf, .float .f64 xf, .string sf, .int .i64 rf, .bool p', .bool q', .bool z'] 33)).alloc (.cells #[.int .u8 0, .int .u8 0, .float .f64 0, .string ⟨#[]⟩, .int .i64 0, .int .u8 0, .float .f64 0, .string ⟨#[]⟩, .int .i64 0, .int .u8 0, .float .f64 0, .string ⟨#[]⟩, .int .i64 0, .bool false, .bool false, .bool false] 33)) := vafter2 (vzero _ _)
  obtain ⟨b1, b2, b3⟩ := vblk3 (w := w) (Below.refl _ (((w.alloc (.cells #[.int .u8 h, .int .u8 ka, .float .f64 xa, .string sa, .int .i64 ra, .int .u8 kb, .float .f64 xb, .string sb, .int .i64 rb, .int .u8 kc, .float .f64 xc, .string sc, .int .i64 rc, .bool p, .bool q, .bool z] 33)).alloc (.cells #[.int .u8 m, .int .u8 kd, .float .f64 xd, .string sd, .int .i64 rd, .int .u8 ke, .float .f64 xe, .string se, .int .i64 re, .int .u8 kf, .float .f64 xf, .string sf, .int .i64 rf, .bool p', .bool q', .bool z'] 33)).alloc (.cells #[.int .u8 0, .int .u8 0, .float .f64 0, .string ⟨#[]⟩, .int .i64 0, .int .u8 0, .float .f64 0, .string ⟨#[]⟩, .int .i64 0, .int .u8 0, .float .f64 0, .string ⟨#[]⟩, .int .i64 0, .bool false, .bool false, .bool false] 33)))
  cases bd
  · cases ba
    · replace hm : m' = m := hm
      subst hm
      go_enter Tryd.func29, Tryd.ntmps29
      go_upto_region 5 with (first | ((with_reducible refine d_load ?_ rfl rfl b1 ?_); (rfl)) | (go_at_call 20; (with_reducible refine (hd _).mono ?_); rintro e w1 ⟨rfl, h1⟩; have b1 := vblkn h1 b1; have b2 := vblkn h1 b2; have b3 := vblkn h1 b3; have hB0 := vb hB0 h1) | (go_at_call 21; (with_reducible refine (ha _).mono ?_); rintro e w1 ⟨rfl, h1⟩; have b1 := vblkn h1 b1; have b2 := vblkn h1 b2; have b3 := vblkn h1 b3; have hB0 := vb hB0 h1))
      go_wp2_with (first | ((with_reducible refine d_load ?_ rfl rfl b1 ?_); (rfl)) | ((with_reducible refine d_load ?_ rfl rfl b2 ?_); (rfl)) | (go_at_call 22; (with_reducible refine (hl _).mono ?_); rintro e w1 ⟨rfl, h1⟩; have b1 := vblkn h1 b1; have b2 := vblkn h1 b2; have b3 := vblkn h1 b3; have hB0 := vb hB0 h1) | (go_at_call 28; (with_reducible refine (hc _).mono ?_); rintro e w1 ⟨rfl, h1⟩; have b1 := vblkn h1 b1; have b2 := vblkn h1 b2; have b3 := vblkn h1 b3; have hB0 := vb hB0 h1) | ((with_reducible refine d_store rfl rfl rfl rfl b3 ?_ ?_ ?_); (rfl); (rfl)))
      exact d_end Tryd.results29 rfl (setRow_heap _ _ _ _ _ _ b3) ⟨rfl, below_row hB0 (by omega) _⟩
    · replace hm : m' = bits .andNot .u8 m 3 := hm
      subst hm
      have f2 := fun (W : World) (b2 : W.heap[w.heap.size + 1]? = some (.cells #[.int .u8 m, .int .u8 kd, .float .f64 xd, .string sd, .int .i64 rd, .int .u8 ke, .float .f64 xe, .string se, .int .i64 re, .int .u8 kf, .float .f64 xf, .string sf, .int .i64 rf, .bool p', .bool q', .bool z'] 33 (0, 0))) => (⟨vcells b2 0, vfz b2 0⟩ : W.cell? ⟨w.heap.size + 1, 0, none⟩ = _ ∧ W.frozen? ⟨w.heap.size + 1, 0, none⟩ = _)
      go_enter Tryd.func29, Tryd.ntmps29
      go_upto_region 5 with (first | ((with_reducible refine d_load ?_ rfl rfl b1 ?_); (rfl)) | (go_at_call 20; (with_reducible refine (hd _).mono ?_); rintro e w1 ⟨rfl, h1⟩; have b1 := vblkn h1 b1; have b2 := vblkn h1 b2; have b3 := vblkn h1 b3; obtain ⟨e0, e1⟩ := f2 _ b2; have hB0 := vb hB0 h1) | (go_at_call 21; (with_reducible refine (ha _).mono ?_); rintro e w1 ⟨rfl, h1⟩; have b1 := vblkn h1 b1; have b2 := vblkn h1 b2; have b3 := vblkn h1 b3; obtain ⟨e0, e1⟩ := f2 _ b2; have hB0 := vb hB0 h1))
      have b1 := vset1o (j := w.heap.size + 1) b1 (by omega) 0 (.int .u8 (bits .andNot .u8 m 3))
      have b3 := vset1o (j := w.heap.size + 1) b3 (by omega) 0 (.int .u8 (bits .andNot .u8 m 3))
      have hB0 := hB0.setCell (p := ⟨w.heap.size + 1, 0, none⟩) (Nat.le_succ _) (.int .u8 (bits .andNot .u8 m 3))
      have b2 : (World.setCell _ ⟨w.heap.size + 1, 0, none⟩ (.int .u8 (bits .andNot .u8 m 3))).heap[w.heap.size + 1]? = some (.cells #[.int .u8 (bits .andNot .u8 m 3), .int .u8 kd, .float .f64 xd, .string sd, .int .i64 rd, .int .u8 ke, .float .f64 xe, .string se, .int .i64 re, .int .u8 kf, .float .f64 xf, .string sf, .int .i64 rf, .bool p', .bool q', .bool z'] 33 (0, 0)) := vset1 b2 0 _
      go_wp2_with (first | ((with_reducible refine d_load ?_ rfl rfl b1 ?_); (rfl)) | ((with_reducible refine d_load ?_ rfl rfl b2 ?_); (rfl)) | (go_at_call 22; (with_reducible refine (hl _).mono ?_); rintro e w1 ⟨rfl, h1⟩; have b1 := vblkn h1 b1; have b2 := vblkn h1 b2; have b3 := vblkn h1 b3; have hB0 := vb hB0 h1) | (go_at_call 28; (with_reducible refine (hc _).mono ?_); rintro e w1 ⟨rfl, h1⟩; have b1 := vblkn h1 b1; have b2 := vblkn h1 b2; have b3 := vblkn h1 b3; have hB0 := vb hB0 h1) | ((with_reducible refine d_store rfl rfl rfl rfl b3 ?_ ?_ ?_); (rfl); (rfl)))
      exact d_end Tryd.results29 rfl (setRow_heap _ _ _ _ _ _ b3) ⟨rfl, below_row hB0 (by omega) _⟩
  · replace hm : m' = bits .andNot .u8 m 12 := hm
    subst hm
    have f2 := fun (W : World) (b2 : W.heap[w.heap.size + 1]? = some (.cells #[.int .u8 m, .int .u8 kd, .float .f64 xd, .string sd, .int .i64 rd, .int .u8 ke, .float .f64 xe, .string se, .int .i64 re, .int .u8 kf, .float .f64 xf, .string sf, .int .i64 rf, .bool p', .bool q', .bool z'] 33 (0, 0))) => (⟨vcells b2 0, vfz b2 0⟩ : W.cell? ⟨w.heap.size + 1, 0, none⟩ = _ ∧ W.frozen? ⟨w.heap.size + 1, 0, none⟩ = _)
    go_enter Tryd.func29, Tryd.ntmps29
    go_upto_region 5 with (first | ((with_reducible refine d_load ?_ rfl rfl b1 ?_); (rfl)) | (go_at_call 20; (with_reducible refine (hd _).mono ?_); rintro e w1 ⟨rfl, h1⟩; have b1 := vblkn h1 b1; have b2 := vblkn h1 b2; have b3 := vblkn h1 b3; obtain ⟨e0, e1⟩ := f2 _ b2; have hB0 := vb hB0 h1) | (go_at_call 21; (with_reducible refine (ha _).mono ?_); rintro e w1 ⟨rfl, h1⟩; have b1 := vblkn h1 b1; have b2 := vblkn h1 b2; have b3 := vblkn h1 b3; obtain ⟨e0, e1⟩ := f2 _ b2; have hB0 := vb hB0 h1))
    have b1 := vset1o (j := w.heap.size + 1) b1 (by omega) 0 (.int .u8 (bits .andNot .u8 m 12))
    have b3 := vset1o (j := w.heap.size + 1) b3 (by omega) 0 (.int .u8 (bits .andNot .u8 m 12))
    have hB0 := hB0.setCell (p := ⟨w.heap.size + 1, 0, none⟩) (Nat.le_succ _) (.int .u8 (bits .andNot .u8 m 12))
    have b2 : (World.setCell _ ⟨w.heap.size + 1, 0, none⟩ (.int .u8 (bits .andNot .u8 m 12))).heap[w.heap.size + 1]? = some (.cells #[.int .u8 (bits .andNot .u8 m 12), .int .u8 kd, .float .f64 xd, .string sd, .int .i64 rd, .int .u8 ke, .float .f64 xe, .string se, .int .i64 re, .int .u8 kf, .float .f64 xf, .string sf, .int .i64 rf, .bool p', .bool q', .bool z'] 33 (0, 0)) := vset1 b2 0 _
    go_wp2_with (first | ((with_reducible refine d_load ?_ rfl rfl b1 ?_); (rfl)) | ((with_reducible refine d_load ?_ rfl rfl b2 ?_); (rfl)) | (go_at_call 22; (with_reducible refine (hl _).mono ?_); rintro e w1 ⟨rfl, h1⟩; have b1 := vblkn h1 b1; have b2 := vblkn h1 b2; have b3 := vblkn h1 b3; have hB0 := vb hB0 h1) | (go_at_call 28; (with_reducible refine (hc _).mono ?_); rintro e w1 ⟨rfl, h1⟩; have b1 := vblkn h1 b1; have b2 := vblkn h1 b2; have b3 := vblkn h1 b3; have hB0 := vb hB0 h1) | ((with_reducible refine d_store rfl rfl rfl rfl b3 ?_ ?_ ?_); (rfl); (rfl)))
    exact d_end Tryd.results29 rfl (setRow_heap _ _ _ _ _ _ b3) ⟨rfl, below_row hB0 (by omega) _⟩
end Go.Proofs.YtlgbnfcnimjheaaDoor.S
/-
  Descriptors: whole, changes, Compatible, Apply, Complete: walks. Generated: gen_descwalk2.py.
-/
namespace Go.Proofs.YtlgbnfcnimjheaaDoor.S
open Go.RowKit Fl

theorem become_q (d now : Dq) (w : World) : Calls Tryd.prog 29 #[d.val, now.val] w fun e w' => e = .returned (becomeQ d now).val ∧ Below w.heap.size w w' := by
  generalize hX : layQ { now with h := bif hasB d.h 3 then bits .andNot .u8 now.h 12 else bif hasB d.h 12 then bits .andNot .u8 now.h 3 else now.h } d = X
  have e1 : becomeQ d now = completeQ X := by unfold becomeQ; rw [hX]
  rw [e1]
  generalize hY : completeQ X = Y
  exact become_x d.h now.h _ X.h Y.h d.a.k d.a.x d.a.s d.a.r d.b.k d.b.x d.b.s d.b.r d.c.k d.c.x d.c.s d.c.r now.a.k now.a.x now.a.s now.a.r now.b.k now.b.x now.b.s now.b.r now.c.k now.c.x now.c.s now.c.r X.a.k X.a.x X.a.s X.a.r X.b.k X.b.x X.b.s X.b.r X.c.k X.c.x X.c.s X.c.r Y.a.k Y.a.x Y.a.s Y.a.r Y.b.k Y.b.x Y.b.s Y.b.r Y.c.k Y.c.x Y.c.s Y.c.r d.p d.q d.z now.p now.q now.z X.p X.q X.z Y.p Y.q Y.z (fun w => IsData_q d w) (fun w => IsAccess_q d w) rfl (fun w => hX ▸ lay_q _ d w) (fun w => hY ▸ complete_q X w) w
set_option maxRecDepth 1000000 in
set_option maxHeartbeats 4000000 in
theorem whole_x (h : Int) (ka : Int) (xa : Nat) (sa : ByteArray) (ra : Int) (kb : Int) (xb : Nat) (sb : ByteArray) (rb : Int) (kc : Int) (xc : Nat) (sc : ByteArray) (rc : Int) (p q z : Bool) {ck : Bool} (hc : ∀ w, Calls Tryd.prog 9 #[.agg #[.int .u8 h, .int .u8 ka, .float .f64 xa, .string sa, .int .i64 ra, .int .u8 kb, .float .f64 xb, .string sb, .int .i64 rb, .int .u8 kc, .float .f64 xc, .string sc, .int .i64 rc, .bool p, .bool q, .bool z]] w fun e w' => e = .returned (.int .i64 (errI ck)) ∧ Below w.heap.size w w') (w : World) : Calls Tryd.prog 26 #[.agg #[.int .u8 h, .int .u8 ka, .float .f64 xa, .string sa, .int .i64 ra, .int .u8 kb, .float .f64 xb, .string sb, .int .i64 rb, .int .u8 kc, .float .f64 xc, .string sc, .int .i64 rc, .bool p, .bool q, .bool z]] w fun e w' => e = .returned (.bool (ck && (h == 51 || h == 60))) ∧ Below w.heap.size w w' := by
  have hB0 : Below w.heap.size w (w.alloc (.cells #[.int .u8 h, .int .u8 ka, .float .f64 xa, .string sa, .int .i64 ra, .int .u8 kb, .float .f64 xb, .string sb, .int .i64 rb, .int .u8 kc, .float .f64 xc, .string sc, .int .i64 rc, .bool p, .bool q, .bool z] 33)) := vzero _ _
  have b1 := heap_alloc_new w (.cells #[.int .u8 h, .int .u8 ka, .float .f64 xa, .string sa, .int .i64 ra, .int .u8 kb, .float .f64 xb, .string sb, .int .i64 rb, .int .u8 kc, .float .f64 xc, .string sc, .int .i64 rc, .bool p, .bool q, .bool z] 33)
  cases ck
  · have hc : ∀ w, Calls Tryd.prog 9 #[.agg #[.int .u8 h, .int .u8 ka, .float .f64 xa, .string sa, .int .i64 ra, .int .u8 kb, .float .f64 xb, .string sb, .int .i64 rb, .int .u8 kc, .float .f64 xc, .string sc, .int .i64 rc, .bool p, .bool q, .bool z]] w fun e w' => e = .returned (.int .i64 90) ∧ Below w.heap.size w w' := hc
    go_enter Tryd.func26, Tryd.ntmps26
    go_wp2_with (first | ((with_reducible refine d_load ?_ rfl rfl b1 ?_); (rfl)) | (go_at_call 9; (with_reducible refine (hc _).mono ?_); rintro e w1 ⟨rfl, h9⟩; have b1 := vblkn h9 b1; have hB0 := vb hB0 h9))
    go_ret
    exact ⟨rfl, hB0⟩
  · have hc : ∀ w, Calls Tryd.prog 9 #[.agg #[.int .u8 h, .int .u8 ka, .float .f64 xa, .string sa, .int .i64 ra, .int .u8 kb, .float .f64 xb, .string sb, .int .i64 rb, .int .u8 kc, .float .f64 xc, .string sc, .int .i64 rc, .bool p, .bool q, .bool z]] w fun e w' => e = .returned (.int .i64 0) ∧ Below w.heap.size w w' := hc
    rcases Bool.eq_false_or_eq_true (h == 51) with n0 | n0
    all_goals
      go_enter Tryd.func26, Tryd.ntmps26
      go_wp2_with (first | ((with_reducible refine d_load ?_ rfl rfl b1 ?_); (rfl)) | (go_at_call 9; (with_reducible refine (hc _).mono ?_); rintro e w1 ⟨rfl, h9⟩; have b1 := vblkn h9 b1; have e0 := vcells b1 0; have hB0 := vb hB0 h9))
      go_ret
      exact ⟨dret (by rw [n0]; rfl), hB0⟩
theorem whole_q {d : Dq} (hd : d.In) (w : World) : Calls Tryd.prog 26 #[d.val] w fun e w' => e = .returned (.bool (wholeQ d)) ∧ Below w.heap.size w w' :=
  whole_x d.h d.a.k d.a.x d.a.s d.a.r d.b.k d.b.x d.b.s d.b.r d.c.k d.c.x d.c.s d.c.r d.p d.q d.z (fun w => Check_q hd w) w
set_option maxRecDepth 1000000 in
set_option maxHeartbeats 4000000 in
theorem Compatible_x (ext found : Bool) (h m : Int) (ka : Int) (xa : Nat) (sa : ByteArray) (ra : Int) (kb : Int) (xb : Nat) (sb : ByteArray) (rb : Int) (kc : Int) (xc : Nat) (sc : ByteArray) (rc : Int) (kd : Int) (xd : Nat) (sd : ByteArray) (rd : Int) (ke : Int) (xe : Nat) (se : ByteArray) (re : Int) (kf : Int) (xf : Nat) (sf : ByteArray) (rf : Int) (p q z p' q' z' : Bool) {ck wh ch : Bool} (hc : ∀ w, Calls Tryd.prog 9 #[.agg #[.int .u8 h, .int .u8 ka, .float .f64 xa, .string sa, .int .i64 ra, .int .u8 kb, .float .f64 xb, .string sb, .int .i64 rb, .int .u8 kc, .float .f64 xc, .string sc, .int .i64 rc, .bool p, .bool q, .bool z]] w fun e w' => e = .returned (.int .i64 (errI ck)) ∧ Below w.heap.size w w') (hw : found = true → ∀ w, Calls Tryd.prog 26 #[.agg #[.int .u8 m, .int .u8 kd, .float .f64 xd, .string sd, .int .i64 rd, .int .u8 ke, .float .f64 xe, .string se, .int .i64 re, .int .u8 kf, .float .f64 xf, .string sf, .int .i64 rf, .bool p', .bool q', .bool z']] w fun e w' => e = .returned (.bool wh) ∧ Below w.heap.size w w') (hg : ck = true → found = true → wh = true → ∀ w, Calls Tryd.prog 27 #[.agg #[.int .u8 h, .int .u8 ka, .float .f64 xa, .string sa, .int .i64 ra, .int .u8 kb, .float .f64 xb, .string sb, .int .i64 rb, .int .u8 kc, .float .f64 xc, .string sc, .int .i64 rc, .bool p, .bool q, .bool z], .agg #[.int .u8 m, .int .u8 kd, .float .f64 xd, .string sd, .int .i64 rd, .int .u8 ke, .float .f64 xe, .string se, .int .i64 re, .int .u8 kf, .float .f64 xf, .string sf, .int .i64 rf, .bool p', .bool q', .bool z']] w fun e w' => e = .returned (.bool ch) ∧ Below w.heap.size w w') (w : World) : Calls Tryd.prog 10 #[.bool ext, .agg #[.int .u8 h, .int .u8 ka, .float .f64 xa, .string sa, .int .i64 ra, .int .u8 kb, .float .f64 xb, .string sb, .int .i64 rb, .int .u8 kc, .float .f64 xc, .string sc, .int .i64 rc, .bool p, .bool q, .bool z], .bool found, .agg #[.int .u8 m, .int .u8 kd, .float .f64 xd, .string sd, .int .i64 rd, .int .u8 ke, .float .f64 xe, .string se, .int .i64 re, .int .u8 kf, .float .f64 xf, .string sf, .int .i64 rf, .bool p', .bool q', .bool z']] w fun e w' => e = .returned (.tuple #[.bool (bif !ck || (found && !wh) then false else bif !found then ext else ch), .int .i64 (bif !ck || (found && !wh) then 90 else 0)]) ∧ Below w.heap.size w w' := by
  have hB0 : Below w.heap.size w ((w.alloc (.cells #[.int .u8 h, .int .u8 ka, .float .f64 xa, .string sa, .int .i64 ra, .int .u8 kb, .float .f64 xb, .string sb, .int .i64 rb, .int .u8 kc, .float .f64 xc, .string sc, .int .i64 rc, .bool p, .bool q, .bool z] 33)).alloc (.cells #[.int .u8 m, .int .u8 kd, .float .f64 xd, .string sd, .int .i64 rd, .int .u8 ke, .float .f64 xe, .string se, .int .i64 re, .int .u8 kf, .float .f64 xf, .string sf, .int .i64 rf, .bool p', .bool q', .bool z'] 33)) := vafter (vzero _ _)
  obtain ⟨b1, b2⟩ := vblk2 (w := w) (Below.refl _ ((w.alloc (.cells #[.int .u8 h, .int .u8 ka, .float .f64 xa, .string sa, .int .i64 ra, .int .u8 kb, .float .f64 xb, .string sb, .int .i64 rb, .int .u8 kc, .float .f64 xc, .string sc, .int .i64 rc, .bool p, .bool q, .bool z] 33)).alloc (.cells #[.int .u8 m, .int .u8 kd, .float .f64 xd, .string sd, .int .i64 rd, .int .u8 ke, .float .f64 xe, .string se, .int .i64 re, .int .u8 kf, .float .f64 xf, .string sf, .int .i64 rf, .bool p', .bool q', .bool z'] 33)))
  cases ck
  · clear hg hw
    have hc : ∀ w, Calls Tryd.prog 9 #[.agg #[.int .u8 h, .int .u8 ka, .float .f64 xa, .string sa, .int .i64 ra, .int .u8 kb, .float .f64 xb, .string sb, .int .i64 rb, .int .u8 kc, .float .f64 xc, .string sc, .int .i64 rc, .bool p, .bool q, .bool z]] w fun e w' => e = .returned (.int .i64 90) ∧ Below w.heap.size w w' := hc
    go_enter Tryd.func10, Tryd.ntmps10
    go_wp2_with (first | ((with_reducible refine d_load ?_ rfl rfl b1 ?_); (rfl)) | ((with_reducible refine d_load ?_ rfl rfl b2 ?_); (rfl)) | (go_at_call 9; (with_reducible refine (hc _).mono ?_); rintro e w1 ⟨rfl, h9⟩; have b1 := vblkn h9 b1; have b2 := vblkn h9 b2; have hB0 := vb hB0 h9))
    go_ret2
    exact ⟨rfl, hB0⟩
  · have hc : ∀ w, Calls Tryd.prog 9 #[.agg #[.int .u8 h, .int .u8 ka, .float .f64 xa, .string sa, .int .i64 ra, .int .u8 kb, .float .f64 xb, .string sb, .int .i64 rb, .int .u8 kc, .float .f64 xc, .string sc, .int .i64 rc, .bool p, .bool q, .bool z]] w fun e w' => e = .returned (.int .i64 0) ∧ Below w.heap.size w w' := hc
    cases found
    · clear hg hw
      go_enter Tryd.func10, Tryd.ntmps10
      go_wp2_with (first | ((with_reducible refine d_load ?_ rfl rfl b1 ?_); (rfl)) | ((with_reducible refine d_load ?_ rfl rfl b2 ?_); (rfl)) | (go_at_call 9; (with_reducible refine (hc _).mono ?_); rintro e w1 ⟨rfl, h9⟩; have b1 := vblkn h9 b1; have b2 := vblkn h9 b2; have hB0 := vb hB0 h9))
      go_ret2
      exact ⟨rfl, hB0⟩
    · have HW := hw rfl
      clear hw
      cases wh
      · clear hg
        go_enter Tryd.func10, Tryd.ntmps10
        go_wp2_with (first | ((with_reducible refine d_load ?_ rfl rfl b1 ?_); (rfl)) | ((with_reducible refine d_load ?_ rfl rfl b2 ?_); (rfl)) | (go_at_call 9; (with_reducible refine (hc _).mono ?_); rintro e w1 ⟨rfl, h9⟩; have b1 := vblkn h9 b1; have b2 := vblkn h9 b2; have hB0 := vb hB0 h9) | (go_at_call 26; (with_reducible refine (HW _).mono ?_); rintro e w1 ⟨rfl, h9⟩; have b1 := vblkn h9 b1; have b2 := vblkn h9 b2; have hB0 := vb hB0 h9))
        go_ret2
        exact ⟨rfl, hB0⟩
      · have HG := hg rfl rfl rfl
        clear hg
        go_enter Tryd.func10, Tryd.ntmps10
        go_wp2_with (first | ((with_reducible refine d_load ?_ rfl rfl b1 ?_); (rfl)) | ((with_reducible refine d_load ?_ rfl rfl b2 ?_); (rfl)) | (go_at_call 9; (with_reducible refine (hc _).mono ?_); rintro e w1 ⟨rfl, h9⟩; have b1 := vblkn h9 b1; have b2 := vblkn h9 b2; have hB0 := vb hB0 h9) | (go_at_call 26; (with_reducible refine (HW _).mono ?_); rintro e w1 ⟨rfl, h9⟩; have b1 := vblkn h9 b1; have b2 := vblkn h9 b2; have hB0 := vb hB0 h9) | (go_at_call 27; (with_reducible refine (HG _).mono ?_); rintro e w1 ⟨rfl, h9⟩; have b1 := vblkn h9 b1; have b2 := vblkn h9 b2; have hB0 := vb hB0 h9))
        go_ret2
        exact ⟨rfl, hB0⟩
set_option maxRecDepth 1000000 in
set_option maxHeartbeats 4000000 in
theorem Apply_x (ext found : Bool) (h m n : Int) (ka : Int) (xa : Nat) (sa : ByteArray) (ra : Int) (kb : Int) (xb : Nat) (sb : ByteArray) (rb : Int) (kc : Int) (xc : Nat) (sc : ByteArray) (rc : Int) (kd : Int) (xd : Nat) (sd : ByteArray) (rd : Int) (ke : Int) (xe : Nat) (se : ByteArray) (re : Int) (kf : Int) (xf : Nat) (sf : ByteArray) (rf : Int) (kg : Int) (xg : Nat) (sg : ByteArray) (rg : Int) (ki : Int) (xi : Nat) (si : ByteArray) (ri : Int) (kj : Int) (xj : Nat) (sj : ByteArray) (rj : Int) (p q z p' q' z' p1 q1 z1 : Bool) {may : Bool} {er : Int} (hc : ∀ w, Calls Tryd.prog 10 #[.bool ext, .agg #[.int .u8 h, .int .u8 ka, .float .f64 xa, .string sa, .int .i64 ra, .int .u8 kb, .float .f64 xb, .string sb, .int .i64 rb, .int .u8 kc, .float .f64 xc, .string sc, .int .i64 rc, .bool p, .bool q, .bool z], .bool found, .agg #[.int .u8 m, .int .u8 kd, .float .f64 xd, .string sd, .int .i64 rd, .int .u8 ke, .float .f64 xe, .string se, .int .i64 re, .int .u8 kf, .float .f64 xf, .string sf, .int .i64 rf, .bool p', .bool q', .bool z']] w fun e w' => e = .returned (.tuple #[.bool may, .int .i64 er]) ∧ Below w.heap.size w w') (h1 : found = false → ∀ w, Calls Tryd.prog 28 #[.agg #[.int .u8 h, .int .u8 ka, .float .f64 xa, .string sa, .int .i64 ra, .int .u8 kb, .float .f64 xb, .string sb, .int .i64 rb, .int .u8 kc, .float .f64 xc, .string sc, .int .i64 rc, .bool p, .bool q, .bool z]] w fun e w' => e = .returned (.agg #[.int .u8 n, .int .u8 kg, .float .f64 xg, .string sg, .int .i64 rg, .int .u8 ki, .float .f64 xi, .string si, .int .i64 ri, .int .u8 kj, .float .f64 xj, .string sj, .int .i64 rj, .bool p1, .bool q1, .bool z1]) ∧ Below w.heap.size w w') (h2 : found = true → ∀ w, Calls Tryd.prog 29 #[.agg #[.int .u8 h, .int .u8 ka, .float .f64 xa, .string sa, .int .i64 ra, .int .u8 kb, .float .f64 xb, .string sb, .int .i64 rb, .int .u8 kc, .float .f64 xc, .string sc, .int .i64 rc, .bool p, .bool q, .bool z], .agg #[.int .u8 m, .int .u8 kd, .float .f64 xd, .string sd, .int .i64 rd, .int .u8 ke, .float .f64 xe, .string se, .int .i64 re, .int .u8 kf, .float .f64 xf, .string sf, .int .i64 rf, .bool p', .bool q', .bool z']] w fun e w' => e = .returned (.agg #[.int .u8 n, .int .u8 kg, .float .f64 xg, .string sg, .int .i64 rg, .int .u8 ki, .float .f64 xi, .string si, .int .i64 ri, .int .u8 kj, .float .f64 xj, .string sj, .int .i64 rj, .bool p1, .bool q1, .bool z1]) ∧ Below w.heap.size w w') (he : may = true → er = 0) (w : World) : Calls Tryd.prog 11 #[.bool ext, .agg #[.int .u8 h, .int .u8 ka, .float .f64 xa, .string sa, .int .i64 ra, .int .u8 kb, .float .f64 xb, .string sb, .int .i64 rb, .int .u8 kc, .float .f64 xc, .string sc, .int .i64 rc, .bool p, .bool q, .bool z], .bool found, .agg #[.int .u8 m, .int .u8 kd, .float .f64 xd, .string sd, .int .i64 rd, .int .u8 ke, .float .f64 xe, .string se, .int .i64 re, .int .u8 kf, .float .f64 xf, .string sf, .int .i64 rf, .bool p', .bool q', .bool z']] w fun e w' => (may = false → e = .returned (.tuple #[.agg #[.int .u8 0, .int .u8 0, .float .f64 0, .string ⟨#[]⟩, .int .i64 0, .int .u8 0, .float .f64 0, .string ⟨#[]⟩, .int .i64 0, .int .u8 0, .float .f64 0, .string ⟨#[]⟩, .int .i64 0, .bool false, .bool false, .bool false], .bool false, .int .i64 er])) ∧ (may = true → e = .returned (.tuple #[.agg #[.int .u8 n, .int .u8 kg, .float .f64 xg, .string sg, .int .i64 rg, .int .u8 ki, .float .f64 xi, .string si, .int .i64 ri, .int .u8 kj, .float .f64 xj, .string sj, .int .i64 rj, .bool p1, .bool q1, .bool z1], .bool true, .int .i64 0])) ∧ Below w.heap.size w w' := by
  have hB0 : Below w.heap.size w (((w.alloc (.cells #[.int .u8 h, .int .u8 ka, .float .f64 xa, .string sa, .int .i64 ra, .int .u8 kb, .float .f64 xb, .string sb, .int .i64 rb, .int .u8 kc, .float .f64 xc, .string sc, .int .i64 rc, .bool p, .bool q, .bool z] 33)).alloc (.cells #[.int .u8 m, .int .u8 kd, .float .f64 xd, .string sd, .int .i64 rd, .int .u8 ke, .float .f64 xe, .string se, .int .i64 re, .int .u8 kf, .float .f64 xf, .string sf, .int .i64 rf, .bool p', .bool q', .bool z'] 33)).alloc (.cells #[.int .u8 0, .int .u8 0, .float .f64 0, .string ⟨#[]⟩, .int .i64 0, .int .u8 0, .float .f64 0, .string ⟨#[]⟩, .int .i64 0, .int .u8 0, .float .f64 0, .string ⟨#[]⟩, .int .i64 0, .bool false, .bool false, .bool false] 33)) := vafter2 (vzero _ _)
  obtain ⟨b1, b2, b3⟩ := vblk3 (w := w) (Below.refl _ (((w.alloc (.cells #[.int .u8 h, .int .u8 ka, .float .f64 xa, .string sa, .int .i64 ra, .int .u8 kb, .float .f64 xb, .string sb, .int .i64 rb, .int .u8 kc, .float .f64 xc, .string sc, .int .i64 rc, .bool p, .bool q, .bool z] 33)).alloc (.cells #[.int .u8 m, .int .u8 kd, .float .f64 xd, .string sd, .int .i64 rd, .int .u8 ke, .float .f64 xe, .string se, .int .i64 re, .int .u8 kf, .float .f64 xf, .string sf, .int .i64 rf, .bool p', .bool q', .bool z'] 33)).alloc (.cells #[.int .u8 0, .int .u8 0, .float .f64 0, .string ⟨#[]⟩, .int .i64 0, .int .u8 0, .float .f64 0, .string ⟨#[]⟩, .int .i64 0, .int .u8 0, .float .f64 0, .string ⟨#[]⟩, .int .i64 0, .bool false, .bool false, .bool false] 33)))
  cases may
  · clear h1 h2 he
    go_enter Tryd.func11, Tryd.ntmps11
    go_wp2_with (first | ((with_reducible refine d_load ?_ rfl rfl b1 ?_); (rfl)) | ((with_reducible refine d_load ?_ rfl rfl b2 ?_); (rfl)) | (go_at_call 10; (with_reducible refine (hc _).mono ?_); rintro e w1 ⟨rfl, h9⟩; have b1 := vblkn h9 b1; have b2 := vblkn h9 b2; have b3 := vblkn h9 b3; have hB0 := vb hB0 h9) | ((with_reducible refine d_store rfl rfl rfl rfl b3 ?_ ?_ ?_); (rfl); (rfl)))
    exact d_end3 Tryd.results11 rfl rfl rfl (setRow_heap _ _ _ _ _ _ b3) ⟨fun _ => rfl, (fun h => by cases h), below_row hB0 (by omega) _⟩
  · obtain rfl := he rfl
    cases found
    · have L1 := h1 rfl
      clear h1
      clear h2
      go_enter Tryd.func11, Tryd.ntmps11
      go_wp2_with (first | ((with_reducible refine d_load ?_ rfl rfl b1 ?_); (rfl)) | ((with_reducible refine d_load ?_ rfl rfl b2 ?_); (rfl)) | (go_at_call 10; (with_reducible refine (hc _).mono ?_); rintro e w1 ⟨rfl, h9⟩; have b1 := vblkn h9 b1; have b2 := vblkn h9 b2; have b3 := vblkn h9 b3; have hB0 := vb hB0 h9) | ((with_reducible refine d_store rfl rfl rfl rfl b3 ?_ ?_ ?_); (rfl); (rfl)) | (go_at_call 28; (with_reducible refine (L1 _).mono ?_); rintro e w1 ⟨rfl, h9⟩; have b1 := vblkn h9 b1; have b2 := vblkn h9 b2; have b3 := vblkn h9 b3; have hB0 := vb hB0 h9))
      exact d_end3 Tryd.results11 rfl rfl rfl (setRow_heap _ _ _ _ _ _ b3) ⟨(fun h => by cases h), fun _ => rfl, below_row hB0 (by omega) _⟩
    · have L1 := h2 rfl
      clear h2
      clear h1
      go_enter Tryd.func11, Tryd.ntmps11
      go_wp2_with (first | ((with_reducible refine d_load ?_ rfl rfl b1 ?_); (rfl)) | ((with_reducible refine d_load ?_ rfl rfl b2 ?_); (rfl)) | (go_at_call 10; (with_reducible refine (hc _).mono ?_); rintro e w1 ⟨rfl, h9⟩; have b1 := vblkn h9 b1; have b2 := vblkn h9 b2; have b3 := vblkn h9 b3; have hB0 := vb hB0 h9) | ((with_reducible refine d_store rfl rfl rfl rfl b3 ?_ ?_ ?_); (rfl); (rfl)) | (go_at_call 29; (with_reducible refine (L1 _).mono ?_); rintro e w1 ⟨rfl, h9⟩; have b1 := vblkn h9 b1; have b2 := vblkn h9 b2; have b3 := vblkn h9 b3; have hB0 := vb hB0 h9))
      exact d_end3 Tryd.results11 rfl rfl rfl (setRow_heap _ _ _ _ _ _ b3) ⟨(fun h => by cases h), fun _ => rfl, below_row hB0 (by omega) _⟩
set_option maxRecDepth 1000000 in
set_option maxHeartbeats 4000000 in
theorem Complete_x (h n : Int) (ka : Int) (xa : Nat) (sa : ByteArray) (ra : Int) (kb : Int) (xb : Nat) (sb : ByteArray) (rb : Int) (kc : Int) (xc : Nat) (sc : ByteArray) (rc : Int) (kg : Int) (xg : Nat) (sg : ByteArray) (rg : Int) (ki : Int) (xi : Nat) (si : ByteArray) (ri : Int) (kj : Int) (xj : Nat) (sj : ByteArray) (rj : Int) (p q z p1 q1 z1 : Bool) {ck : Bool} (hc : ∀ w, Calls Tryd.prog 9 #[.agg #[.int .u8 h, .int .u8 ka, .float .f64 xa, .string sa, .int .i64 ra, .int .u8 kb, .float .f64 xb, .string sb, .int .i64 rb, .int .u8 kc, .float .f64 xc, .string sc, .int .i64 rc, .bool p, .bool q, .bool z]] w fun e w' => e = .returned (.int .i64 (errI ck)) ∧ Below w.heap.size w w') (h1 : ∀ w, Calls Tryd.prog 28 #[.agg #[.int .u8 h, .int .u8 ka, .float .f64 xa, .string sa, .int .i64 ra, .int .u8 kb, .float .f64 xb, .string sb, .int .i64 rb, .int .u8 kc, .float .f64 xc, .string sc, .int .i64 rc, .bool p, .bool q, .bool z]] w fun e w' => e = .returned (.agg #[.int .u8 n, .int .u8 kg, .float .f64 xg, .string sg, .int .i64 rg, .int .u8 ki, .float .f64 xi, .string si, .int .i64 ri, .int .u8 kj, .float .f64 xj, .string sj, .int .i64 rj, .bool p1, .bool q1, .bool z1]) ∧ Below w.heap.size w w') (w : World) : Calls Tryd.prog 35 #[.agg #[.int .u8 h, .int .u8 ka, .float .f64 xa, .string sa, .int .i64 ra, .int .u8 kb, .float .f64 xb, .string sb, .int .i64 rb, .int .u8 kc, .float .f64 xc, .string sc, .int .i64 rc, .bool p, .bool q, .bool z]] w fun e w' => (ck = false → e = .returned (.tuple #[.agg #[.int .u8 0, .int .u8 0, .float .f64 0, .string ⟨#[]⟩, .int .i64 0, .int .u8 0, .float .f64 0, .string ⟨#[]⟩, .int .i64 0, .int .u8 0, .float .f64 0, .string ⟨#[]⟩, .int .i64 0, .bool false, .bool false, .bool false], .int .i64 90])) ∧ (ck = true → e = .returned (.tuple #[.agg #[.int .u8 n, .int .u8 kg, .float .f64 xg, .string sg, .int .i64 rg, .int .u8 ki, .float .f64 xi, .string si, .int .i64 ri, .int .u8 kj, .float .f64 xj, .string sj, .int .i64 rj, .bool p1, .bool q1, .bool z1], .int .i64 0])) ∧ Below w.heap.size w w' := by
  have hB0 : Below w.heap.size w ((w.alloc (.cells #[.int .u8 h, .int .u8 ka, .float .f64 xa, .string sa, .int .i64 ra, .int .u8 kb, .float .f64 xb, .string sb, .int .i64 rb, .int .u8 kc, .float .f64 xc, .string sc, .int .i64 rc, .bool p, .bool q, .bool z] 33)).alloc (.cells #[.int .u8 0, .int .u8 0, .float .f64 0, .string ⟨#[]⟩, .int .i64 0, .int .u8 0, .float .f64 0, .string ⟨#[]⟩, .int .i64 0, .int .u8 0, .float .f64 0, .string ⟨#[]⟩, .int .i64 0, .bool false, .bool false, .bool false] 33)) := vafter (vzero _ _)
  obtain ⟨b1, b2⟩ := vblk2 (w := w) (Below.refl _ ((w.alloc (.cells #[.int .u8 h, .int .u8 ka, .float .f64 xa, .string sa, .int .i64 ra, .int .u8 kb, .float .f64 xb, .string sb, .int .i64 rb, .int .u8 kc, .float .f64 xc, .string sc, .int .i64 rc, .bool p, .bool q, .bool z] 33)).alloc (.cells #[.int .u8 0, .int .u8 0, .float .f64 0, .string ⟨#[]⟩, .int .i64 0, .int .u8 0, .float .f64 0, .string ⟨#[]⟩, .int .i64 0, .int .u8 0, .float .f64 0, .string ⟨#[]⟩, .int .i64 0, .bool false, .bool false, .bool false] 33)))
  cases ck
  · have hc : ∀ w, Calls Tryd.prog 9 #[.agg #[.int .u8 h, .int .u8 ka, .float .f64 xa, .string sa, .int .i64 ra, .int .u8 kb, .float .f64 xb, .string sb, .int .i64 rb, .int .u8 kc, .float .f64 xc, .string sc, .int .i64 rc, .bool p, .bool q, .bool z]] w fun e w' => e = .returned (.int .i64 90) ∧ Below w.heap.size w w' := hc
    go_enter Tryd.func35, Tryd.ntmps35
    go_wp2_with (first | ((with_reducible refine d_load ?_ rfl rfl b1 ?_); (rfl)) | (go_at_call 9; (with_reducible refine (hc _).mono ?_); rintro e w1 ⟨rfl, h9⟩; have b1 := vblkn h9 b1; have b2 := vblkn h9 b2; have hB0 := vb hB0 h9) | (go_at_call 28; (with_reducible refine (h1 _).mono ?_); rintro e w1 ⟨rfl, h9⟩; have b1 := vblkn h9 b1; have b2 := vblkn h9 b2; have hB0 := vb hB0 h9) | ((with_reducible refine d_store rfl rfl rfl rfl b2 ?_ ?_ ?_); (rfl); (rfl)))
    exact d_end2 Tryd.results35 rfl rfl (setRow_heap _ _ _ _ _ _ b2) ⟨fun _ => rfl, (fun h => by cases h), below_row hB0 (by omega) _⟩
  · have hc : ∀ w, Calls Tryd.prog 9 #[.agg #[.int .u8 h, .int .u8 ka, .float .f64 xa, .string sa, .int .i64 ra, .int .u8 kb, .float .f64 xb, .string sb, .int .i64 rb, .int .u8 kc, .float .f64 xc, .string sc, .int .i64 rc, .bool p, .bool q, .bool z]] w fun e w' => e = .returned (.int .i64 0) ∧ Below w.heap.size w w' := hc
    go_enter Tryd.func35, Tryd.ntmps35
    go_wp2_with (first | ((with_reducible refine d_load ?_ rfl rfl b1 ?_); (rfl)) | (go_at_call 9; (with_reducible refine (hc _).mono ?_); rintro e w1 ⟨rfl, h9⟩; have b1 := vblkn h9 b1; have b2 := vblkn h9 b2; have hB0 := vb hB0 h9) | (go_at_call 28; (with_reducible refine (h1 _).mono ?_); rintro e w1 ⟨rfl, h9⟩; have b1 := vblkn h9 b1; have b2 := vblkn h9 b2; have hB0 := vb hB0 h9) | ((with_reducible refine d_store rfl rfl rfl rfl b2 ?_ ?_ ?_); (rfl); (rfl)))
    exact d_end2 Tryd.results35 rfl rfl (setRow_heap _ _ _ _ _ _ b2) ⟨(fun h => by cases h), fun _ => rfl, below_row hB0 (by omega) _⟩
end Go.Proofs.YtlgbnfcnimjheaaDoor.S
/-
  Descriptors: changes: the walk; and Compatible, Apply, Complete said of structures. Generated: gen_descchanges.py.
-/
namespace Go.Proofs.YtlgbnfcnimjheaaDoor.S
open Go.RowKit Fl

set_option maxRecDepth 1000000 in
set_option maxHeartbeats 4000000 in
theorem changes_x (h h1 m m1 : Int) (ka : Int) (xa : Nat) (sa : ByteArray) (ra : Int) (kb : Int) (xb : Nat) (sb : ByteArray) (rb : Int) (kc : Int) (xc : Nat) (sc : ByteArray) (rc : Int) (kd : Int) (xd : Nat) (sd : ByteArray) (rd : Int) (ke : Int) (xe : Nat) (se : ByteArray) (re : Int) (kf : Int) (xf : Nat) (sf : ByteArray) (rf : Int) (p q z p' q' z' : Bool) {bd ba nd na t : Bool} (hh : h1 = bif p' then bits .andNot .u8 h 3 else h) (hm : m1 = bits .and .u8 m h1) (cd : ∀ w, Calls Tryd.prog 20 #[.agg #[.int .u8 h, .int .u8 ka, .float .f64 xa, .string sa, .int .i64 ra, .int .u8 kb, .float .f64 xb, .string sb, .int .i64 rb, .int .u8 kc, .float .f64 xc, .string sc, .int .i64 rc, .bool p, .bool q, .bool z]] w fun e w' => e = .returned (.bool bd) ∧ Below w.heap.size w w') (ca : ∀ w, Calls Tryd.prog 21 #[.agg #[.int .u8 h, .int .u8 ka, .float .f64 xa, .string sa, .int .i64 ra, .int .u8 kb, .float .f64 xb, .string sb, .int .i64 rb, .int .u8 kc, .float .f64 xc, .string sc, .int .i64 rc, .bool p, .bool q, .bool z]] w fun e w' => e = .returned (.bool ba) ∧ Below w.heap.size w w') (ed : ∀ w, Calls Tryd.prog 20 #[.agg #[.int .u8 m, .int .u8 kd, .float .f64 xd, .string sd, .int .i64 rd, .int .u8 ke, .float .f64 xe, .string se, .int .i64 re, .int .u8 kf, .float .f64 xf, .string sf, .int .i64 rf, .bool p', .bool q', .bool z']] w fun e w' => e = .returned (.bool nd) ∧ Below w.heap.size w w') (ea : ∀ w, Calls Tryd.prog 21 #[.agg #[.int .u8 m, .int .u8 kd, .float .f64 xd, .string sd, .int .i64 rd, .int .u8 ke, .float .f64 xe, .string se, .int .i64 re, .int .u8 kf, .float .f64 xf, .string sf, .int .i64 rf, .bool p', .bool q', .bool z']] w fun e w' => e = .returned (.bool na) ∧ Below w.heap.size w w') (cs : ∀ w, Calls Tryd.prog 13 #[.agg #[.int .u8 h1, .int .u8 ka, .float .f64 xa, .string sa, .int .i64 ra, .int .u8 kb, .float .f64 xb, .string sb, .int .i64 rb, .int .u8 kc, .float .f64 xc, .string sc, .int .i64 rc, .bool p, .bool q, .bool z], .agg #[.int .u8 m1, .int .u8 kd, .float .f64 xd, .string sd, .int .i64 rd, .int .u8 ke, .float .f64 xe, .string se, .int .i64 re, .int .u8 kf, .float .f64 xf, .string sf, .int .i64 rf, .bool p', .bool q', .bool z']] w fun e w' => e = .returned (.bool t) ∧ Below w.heap.size w w') (w : World) : Calls Tryd.prog 27 #[.agg #[.int .u8 h, .int .u8 ka, .float .f64 xa, .string sa, .int .i64 ra, .int .u8 kb, .float .f64 xb, .string sb, .int .i64 rb, .int .u8 kc, .float .f64 xc, .string sc, .int .i64 rc, .bool p, .bool q, .bool z], .agg #[.int .u8 m, .int .u8 kd, .float .f64 xd, .string sd, .int .i64 rd, .int .u8 ke, .float .f64 xe, .string se, .int .i64 re, .int .u8 kf, .float .f64 xf, .string sf, .int .i64 rf, .bool p', .bool q', .bool z']] w fun e w' => e = .returned (.bool (z' || (!(bd && na) && (!(ba && nd) && t)))) ∧ Below w.heap.size w w' := by
  have hB0 : Below w.heap.size w ((w.alloc (.cells #[.int .u8 h, .int .u8 ka, .float .f64 xa, .string sa, .int .i64 ra, .int .u8 kb, .float .f64 xb, .string sb, .int .i64 rb, .int .u8 kc, .float .f64 xc, .string sc, .int .i64 rc, .bool p, .bool q, .bool z] 33)).alloc (.cells #[.int .u8 m, .int .u8 kd, .float .f64 xd, .string sd, .int .i64 rd, .int .u8 ke, .float .f64 xe, .string se, .int .i64 re, .int .u8 kf, .float .f64 xf, .string sf, .int .i64 rf, .bool p', .bool q', .bool z'] 33)) := vafter (vzero _ _)
  obtain ⟨b1, b2⟩ := vblk2 (w := w) (Below.refl _ ((w.alloc (.cells #[.int .u8 h, .int .u8 ka, .float .f64 xa, .string sa, .int .i64 ra, .int .u8 kb, .float .f64 xb, .string sb, .int .i64 rb, .int .u8 kc, .float .f64 xc, .string sc, .int .i64 rc, .bool p, .bool q, .bool z] 33)).alloc (.cells #[.int .u8 m, .int .u8 kd, .float .f64 xd, .string sd, .int .i64 rd, .int .u8 ke, .float .f64 xe, .string se, .int .i64 re, .int .u8 kf, .float .f64 xf, .string sf, .int .i64 rf, .bool p', .bool q', .bool z'] 33)))
  have HH := Lib.hid hh
  have HM := Lib.hid hm
  clear hh hm
  have e1 := vcells b2 15
  cases z'
  rotate_left
  · go_enter Tryd.func27, Tryd.ntmps27
    go_wp2
    go_ret
    exact ⟨rfl, hB0⟩
  go_enter Tryd.func27, Tryd.ntmps27
  go_upto_region 3 with (fail)
  go_cut [8] from 5 to 36 (fun u wx => u = .bool (bd && na) ∧ wx.heap[w.heap.size]? = some (.cells #[.int .u8 h, .int .u8 ka, .float .f64 xa, .string sa, .int .i64 ra, .int .u8 kb, .float .f64 xb, .string sb, .int .i64 rb, .int .u8 kc, .float .f64 xc, .string sc, .int .i64 rc, .bool p, .bool q, .bool z] 33 (0, 0)) ∧ wx.heap[w.heap.size + 1]? = some (.cells #[.int .u8 m, .int .u8 kd, .float .f64 xd, .string sd, .int .i64 rd, .int .u8 ke, .float .f64 xe, .string se, .int .i64 re, .int .u8 kf, .float .f64 xf, .string sf, .int .i64 rf, .bool p', .bool q', .bool false] 33 (0, 0)) ∧ Below w.heap.size w wx)
  case first =>
    cases bd
    all_goals
      go_wp2_with (first | ((with_reducible refine d_load ?_ rfl rfl b1 ?_); (rfl)) | ((with_reducible refine d_load ?_ rfl rfl b2 ?_); (rfl)) | (go_at_call 20; (with_reducible refine (cd _).mono ?_); rintro e w1 ⟨rfl, h1⟩; have b1 := vblkn h1 b1; have b2 := vblkn h1 b2; have hB0 := vb hB0 h1) | (go_at_call 21; (with_reducible refine (ea _).mono ?_); rintro e w1 ⟨rfl, h1⟩; have b1 := vblkn h1 b1; have b2 := vblkn h1 b2; have hB0 := vb hB0 h1))
      go_meet
      case rel => exact ⟨rfl, b1, b2, hB0⟩
  case rest =>
  clear b1 b2 hB0 e1
  obtain ⟨rfl, b1, b2, hB0⟩ := hcut
  generalize hg3 : (bd && na) = g3
  have G3 := Lib.hid hg3
  clear hg3
  cases g3
  rotate_left
  · go_wp2
    go_ret
    exact ⟨dret (by rw [G3.out]; rfl), hB0⟩
  go_upto_region 4 with (fail)
  go_cut [8] from 5 to 36 (fun u wx => u = .bool (ba && nd) ∧ wx.heap[w.heap.size]? = some (.cells #[.int .u8 h, .int .u8 ka, .float .f64 xa, .string sa, .int .i64 ra, .int .u8 kb, .float .f64 xb, .string sb, .int .i64 rb, .int .u8 kc, .float .f64 xc, .string sc, .int .i64 rc, .bool p, .bool q, .bool z] 33 (0, 0)) ∧ wx.heap[w.heap.size + 1]? = some (.cells #[.int .u8 m, .int .u8 kd, .float .f64 xd, .string sd, .int .i64 rd, .int .u8 ke, .float .f64 xe, .string se, .int .i64 re, .int .u8 kf, .float .f64 xf, .string sf, .int .i64 rf, .bool p', .bool q', .bool false] 33 (0, 0)) ∧ Below w.heap.size w wx)
  case first =>
    cases ba
    all_goals
      go_wp2_with (first | ((with_reducible refine d_load ?_ rfl rfl b1 ?_); (rfl)) | ((with_reducible refine d_load ?_ rfl rfl b2 ?_); (rfl)) | (go_at_call 21; (with_reducible refine (ca _).mono ?_); rintro e w1 ⟨rfl, h1⟩; have b1 := vblkn h1 b1; have b2 := vblkn h1 b2; have hB0 := vb hB0 h1) | (go_at_call 20; (with_reducible refine (ed _).mono ?_); rintro e w1 ⟨rfl, h1⟩; have b1 := vblkn h1 b1; have b2 := vblkn h1 b2; have hB0 := vb hB0 h1))
      go_meet
      case rel => exact ⟨rfl, b1, b2, hB0⟩
  case rest =>
  clear b1 b2 hB0
  obtain ⟨rfl, b1, b2, hB0⟩ := hcut
  generalize hg4 : (ba && nd) = g4
  have G4 := Lib.hid hg4
  clear hg4
  cases g4
  rotate_left
  · go_wp2
    go_ret
    exact ⟨dret (by rw [G3.out, G4.out]; rfl), hB0⟩
  have e4 := vcells b2 13
  have e5 := vcells b1 0
  have f5 := vfz b1 0
  have e6 := vcells b2 0
  have f6 := vfz b2 0
  cases p'
  · have hh : h1 = h := HH.out
    have hm := HM.out
    clear HH HM
    rw [hh] at hm cs
    rw [hm] at cs
    clear hh hm
    go_upto_region 9 with (fail)
    have b2 : (World.setCell _ ⟨w.heap.size + 1, 0, none⟩ (.int .u8 (bits .and .u8 m h))).heap[w.heap.size + 1]? = some (.cells #[.int .u8 (bits .and .u8 m h), .int .u8 kd, .float .f64 xd, .string sd, .int .i64 rd, .int .u8 ke, .float .f64 xe, .string se, .int .i64 re, .int .u8 kf, .float .f64 xf, .string sf, .int .i64 rf, .bool false, .bool q', .bool false] 33 (0, 0)) := vset1 b2 0 _
    have b1 := vset1o (j := w.heap.size + 1) b1 (by omega) 0 (.int .u8 (bits .and .u8 m h))
    have hB0 := hB0.setCell (p := ⟨w.heap.size + 1, 0, none⟩) (Nat.le_succ _) (.int .u8 (bits .and .u8 m h))
    go_wp2_with (first | ((with_reducible refine d_load ?_ rfl rfl b1 ?_); (rfl)) | ((with_reducible refine d_load ?_ rfl rfl b2 ?_); (rfl)) | (go_at_call 13; (with_reducible refine (cs _).mono ?_); rintro e w1 ⟨rfl, h1⟩; have b1 := vblkn h1 b1; have b2 := vblkn h1 b2; have hB0 := vb hB0 h1))
    go_ret
    exact ⟨dret (by rw [G3.out, G4.out]; rfl), hB0⟩
  · have hh : h1 = bits .andNot .u8 h 3 := HH.out
    have hm := HM.out
    clear HH HM
    rw [hh] at hm cs
    rw [hm] at cs
    clear hh hm
    go_upto_region 9 with (fail)
    have b1 : (World.setCell _ ⟨w.heap.size, 0, none⟩ (.int .u8 (bits .andNot .u8 h 3))).heap[w.heap.size]? = some (.cells #[.int .u8 (bits .andNot .u8 h 3), .int .u8 ka, .float .f64 xa, .string sa, .int .i64 ra, .int .u8 kb, .float .f64 xb, .string sb, .int .i64 rb, .int .u8 kc, .float .f64 xc, .string sc, .int .i64 rc, .bool p, .bool q, .bool z] 33 (0, 0)) := vset1 b1 0 _
    have b2 := vset1o (j := w.heap.size) b2 (by omega) 0 (.int .u8 (bits .andNot .u8 h 3))
    have hB0 := hB0.setCell (p := ⟨w.heap.size, 0, none⟩) (Nat.le_refl _) (.int .u8 (bits .andNot .u8 h 3))
    have b2 : (World.setCell _ ⟨w.heap.size + 1, 0, none⟩ (.int .u8 (bits .and .u8 m (bits .andNot .u8 h 3)))).heap[w.heap.size + 1]? = some (.cells #[.int .u8 (bits .and .u8 m (bits .andNot .u8 h 3)), .int .u8 kd, .float .f64 xd, .string sd, .int .i64 rd, .int .u8 ke, .float .f64 xe, .string se, .int .i64 re, .int .u8 kf, .float .f64 xf, .string sf, .int .i64 rf, .bool true, .bool q', .bool false] 33 (0, 0)) := vset1 b2 0 _
    have b1 := vset1o (j := w.heap.size + 1) b1 (by omega) 0 (.int .u8 (bits .and .u8 m (bits .andNot .u8 h 3)))
    have hB0 := hB0.setCell (p := ⟨w.heap.size + 1, 0, none⟩) (Nat.le_succ _) (.int .u8 (bits .and .u8 m (bits .andNot .u8 h 3)))
    go_wp2_with (first | ((with_reducible refine d_load ?_ rfl rfl b1 ?_); (rfl)) | ((with_reducible refine d_load ?_ rfl rfl b2 ?_); (rfl)) | (go_at_call 13; (with_reducible refine (cs _).mono ?_); rintro e w1 ⟨rfl, h1⟩; have b1 := vblkn h1 b1; have b2 := vblkn h1 b2; have hB0 := vb hB0 h1))
    go_ret
    exact ⟨dret (by rw [G3.out, G4.out]; rfl), hB0⟩
end Go.Proofs.YtlgbnfcnimjheaaDoor.S
/-
  Descriptors: changes, Compatible, Apply, Complete said of structures; a comparison with the zero one.
-/
namespace Go.Proofs.YtlgbnfcnimjheaaDoor.S
open Go.RowKit Fl

theorem changes_q {d now : Dq} (g : Good d) (n : Good now) (w : World) : Calls Tryd.prog 27 #[d.val, now.val] w fun e w' => e = .returned (.bool (changesQ d now)) ∧ Below w.heap.size w w' := by
  obtain ⟨ka, kb, kc⟩ := good_kinds g
  obtain ⟨na, nb, nc⟩ := good_kinds n
  exact changes_x d.h (heldH d now) now.h (bits .and .u8 now.h (heldH d now)) d.a.k d.a.x d.a.s d.a.r d.b.k d.b.x d.b.s d.b.r d.c.k d.c.x d.c.s d.c.r now.a.k now.a.x now.a.s now.a.r now.b.k now.b.x now.b.s now.b.r now.c.k now.c.x now.c.s now.c.r d.p d.q d.z now.p now.q now.z rfl rfl
    (fun w => IsData_q d w) (fun w => IsAccess_q d w) (fun w => IsData_q now w) (fun w => IsAccess_q now w) (fun w => Same_q (a := { d with h := heldH d now }) (b := { now with h := bits .and .u8 now.h (heldH d now) }) ⟨ka, kb, kc⟩ ⟨na.1, nb.1, nc.1⟩ w) w
theorem compat_q {ext found : Bool} {d now : Dq} (hd : d.In) (hn : now.In) (w : World) : Calls Tryd.prog 10 #[.bool ext, d.val, .bool found, now.val] w fun e w' => e = .returned (.tuple #[.bool (compatQ ext d found now).1, .int .i64 (compatQ ext d found now).2]) ∧ Below w.heap.size w w' := by
  have h := Compatible_x ext found d.h now.h d.a.k d.a.x d.a.s d.a.r d.b.k d.b.x d.b.s d.b.r d.c.k d.c.x d.c.s d.c.r now.a.k now.a.x now.a.s now.a.r now.b.k now.b.x now.b.s now.b.r now.c.k now.c.x now.c.s now.c.r d.p d.q d.z now.p now.q now.z
    (ck := chkQ d) (wh := wholeQ now) (ch := changesQ d now) (fun w => Check_q hd w) (fun _ w => whole_q hn w) (fun h1 _ h3 w => changes_q (good_of hd h1) ((whole_iff hn).1 h3).1 w) w
  refine h.mono fun e w' ⟨he, hb⟩ => ⟨he.trans ?_, hb⟩
  unfold compatQ
  cases chkQ d <;> cases found <;> cases wholeQ now <;> rfl
theorem apply_q {ext found : Bool} {d now : Dq} (hd : d.In) (hn : now.In) (w : World) : Calls Tryd.prog 11 #[.bool ext, d.val, .bool found, now.val] w fun e w' => e = .returned (.tuple #[(applyQ ext d found now).val, .bool (compatQ ext d found now).1, .int .i64 (compatQ ext d found now).2]) ∧ Below w.heap.size w w' := by
  generalize hX : (bif !found then completeQ d else becomeQ d now) = X
  have h := Apply_x ext found d.h now.h X.h d.a.k d.a.x d.a.s d.a.r d.b.k d.b.x d.b.s d.b.r d.c.k d.c.x d.c.s d.c.r now.a.k now.a.x now.a.s now.a.r now.b.k now.b.x now.b.s now.b.r now.c.k now.c.x now.c.s now.c.r X.a.k X.a.x X.a.s X.a.r X.b.k X.b.x X.b.s X.b.r X.c.k X.c.x X.c.s X.c.r d.p d.q d.z now.p now.q now.z X.p X.q X.z
    (may := (compatQ ext d found now).1) (er := (compatQ ext d found now).2) (fun w => compat_q hd hn w)
    (fun hf w => by
      have := complete_q d w
      rw [show completeQ d = X by rw [← hX, hf]; rfl] at this
      exact this)
    (fun hf w => by
      have := become_q d now w
      rw [show becomeQ d now = X by rw [← hX, hf]; rfl] at this
      exact this)
    (fun hm => (came hd hn hm).2) w
  refine h.mono fun e w' ⟨h1, h2, hb⟩ => ⟨?_, hb⟩
  cases hm : (compatQ ext d found now).1 with
  | false =>
    have : applyQ ext d found now = dz 0 := by unfold applyQ; rw [hm]; rfl
    rw [h1 hm, this]
    rfl
  | true =>
    have : applyQ ext d found now = X := by rw [← hX]; unfold applyQ; rw [hm]; rfl
    rw [h2 hm, this, (came hd hn hm).2]
    rfl
theorem Complete_q {d : Dq} (hd : d.In) (g : Good d) (w : World) : Calls Tryd.prog 35 #[d.val] w fun e w' => e = .returned (.tuple #[(completeQ d).val, .int .i64 0]) ∧ Below w.heap.size w w' := by
  generalize hX : completeQ d = X
  refine (Complete_x d.h X.h d.a.k d.a.x d.a.s d.a.r d.b.k d.b.x d.b.s d.b.r d.c.k d.c.x d.c.s d.c.r X.a.k X.a.x X.a.s X.a.r X.b.k X.b.x X.b.s X.b.r X.c.k X.c.x X.c.s X.c.r d.p d.q d.z X.p X.q X.z (ck := chkQ d) (fun w => Check_q hd w) (fun w => hX ▸ complete_q d w) w).mono fun e w' ⟨_, h2, hb⟩ => ⟨h2 (chk_of g), hb⟩
/-- what comes out may come in -/
theorem ok_in {v : Vq} (h : v.Ok) : v.In := by
  obtain ⟨u, ok, e1, e2, _, e4⟩ := h
  obtain ⟨k0, k8⟩ := vok_kind ⟨u, ok, e1, e2, rfl, e4⟩
  refine ⟨k0, by omega, ?_, ?_⟩
  · rw [← e2]
    cases u with
    | boo x => rcases ok with rfl | rfl | rfl <;> simp only [Vl.fl] <;> omega
    | num x => obtain ⟨c, hc, _⟩ := ok; simp only [Vl.fl]; exact hc.lt
    | _ => simp only [Vl.fl]; omega
  · rw [← e4]
    cases u with
    | sym r => exact ok.2
    | obj k r => exact ok.2.2
    | _ => simp only [Vl.rf]; omega
theorem came_in {ext : Bool} {d : Dq} {found : Bool} {now x : Dq} (c : Came ext d found now x) (hb : x.h = 51 → x.b = v0 ∧ x.c = v0) : x.In := by
  refine ⟨?_, ?_, ok_in c.g.a, ?_, ?_⟩
  · rcases c.h with e | e <;> omega
  · rcases c.h with e | e <;> omega
  · rcases c.h with e | e
    · rw [(hb e).1]; exact ok_in v0_ok
    · exact ok_in (c.g.b (by rw [e]; decide)).1
  · rcases c.h with e | e
    · rw [(hb e).2]; exact ok_in v0_ok
    · exact ok_in (c.g.c (by rw [e]; decide)).1
section
variable {ops : Array Oper} {rest : List Oper} {o : Oper} {a : Act} {w : World} {Q : Exit → Act → World → Prop} {x y : Operand}
theorem d_neq {n h : Int} {p q z : Bool} {kd : Int} {xd : Nat} {sd : ByteArray} {rd : Int} {ke : Int} {xe : Nat} {se : ByteArray} {re : Int} {kf : Int} {xf : Nat} {sf : ByteArray} {rf : Int} (hw : Region.wanted o (yielded ops a.tmps) = true) (ho : o.op = .binOp .neq 33 x y 33) (hx : a.eval x = .agg #[.int .u8 n, .int .u8 kd, .float .f64 xd, .string sd, .int .i64 rd, .int .u8 ke, .float .f64 xe, .string se, .int .i64 re, .int .u8 kf, .float .f64 xf, .string sf, .int .i64 rf, .bool p, .bool q, .bool z]) (hy : a.eval y = .agg #[.int .u8 h, .int .u8 0, .float .f64 0, .string ⟨#[]⟩, .int .i64 0, .int .u8 0, .float .f64 0, .string ⟨#[]⟩, .int .i64 0, .int .u8 0, .float .f64 0, .string ⟨#[]⟩, .int .i64 0, .bool false, .bool false, .bool false])
    (h : wpList Tryd.prog ops Q rest (a.put o.dst (.bool (!zD n h (zV kd xd sd rd) (zV ke xe se re) (zV kf xf sf rf) p q z))) w) : wpList Tryd.prog ops Q (o :: rest) a w :=
  wpList_wanted hw fun K hK => by
    unfold Oper.wp
    rw [ex_neq ho hx hy]
    exact hK _ _ h
end
end Go.Proofs.YtlgbnfcnimjheaaDoor.S
/-
  The law DescStays: its walk, what is called said in letters. Generated: gen_desclaw.py.
-/
namespace Go.Proofs.YtlgbnfcnimjheaaDoor.S
open Go.RowKit Fl

/-- a block of the call's own, made and stored into -/
theorem made_row {w : World} {o : Obj} {cs cs2 : Array Value} {t : TypeId} (ho : o = .cells cs t (0, 0)) : ((w.alloc o).setRow w.heap.size cs2).heap[w.heap.size]? = some (.cells cs2 t (0, 0)) := setRow_heap _ _ cs cs2 t (0, 0) (by rw [heap_alloc_new, ho])
theorem made_old {w : World} {o p : Obj} {g : Nat} {cs2 : Array Value} (h : w.heap[g]? = some p) : ((w.alloc o).setRow w.heap.size cs2).heap[g]? = some p := by
  have hg : g < w.heap.size := by
    rcases Nat.lt_or_ge g w.heap.size with c | c
    · exact c
    · rw [Array.getElem?_eq_none c] at h; cases h
  exact vset_o ((heap_alloc_old w o hg).trans h) (by omega) _
theorem made_below {B : Nat} {w0 w : World} {o : Obj} {cs2 : Array Value} (h : Below B w0 w) (hB : B ≤ w.heap.size) : Below B w0 ((w.alloc o).setRow w.heap.size cs2) := below_row (h.alloc hB o) hB _
end Go.Proofs.YtlgbnfcnimjheaaDoor.S
