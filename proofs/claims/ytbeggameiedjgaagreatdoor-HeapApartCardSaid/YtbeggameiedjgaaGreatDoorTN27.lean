/-
  Descriptors: complete, become, whole, changes, Compatible, Apply, Complete: walks. Generated: gen_descwalk.py.
-/
import Derived.Test.YtbeggameiedjgaaGreatDoorTN24
import Derived.Test.YtbeggameiedjgaaGreatDoorTN26
import Derived.Deep.LoopGhost
namespace Go.Proofs.YtbeggameiedjgaaGreatDoor.S
open Go.RowKit Fl

set_option maxRecDepth 1000000 in
set_option maxHeartbeats 4000000 in
theorem complete_x (h n : Int) (ka : Int) (xa : Nat) (sa : ByteArray) (ra : Int) (kb : Int) (xb : Nat) (sb : ByteArray) (rb : Int) (kc : Int) (xc : Nat) (sc : ByteArray) (rc : Int) (kg : Int) (xg : Nat) (sg : ByteArray) (rg : Int) (ki : Int) (xi : Nat) (si : ByteArray) (ri : Int) (kj : Int) (xj : Nat) (sj : ByteArray) (rj : Int) (p q z p1 q1 z1 : Bool) {acc : Bool} (ha : ∀ w, Calls Tryz.prog 162 #[.agg #[.int .u8 h, .int .u8 ka, .float .f64 xa, .string sa, .int .i64 ra, .int .u8 kb, .float .f64 xb, .string sb, .int .i64 rb, .int .u8 kc, .float .f64 xc, .string sc, .int .i64 rc, .bool p, .bool q, .bool z]] w fun e w' => e = .returned (.bool acc) ∧ Below w.heap.size w w') (l1 : acc = true → ∀ w, Calls Tryz.prog 163 #[.agg #[.int .u8 60, .int .u8 0, .float .f64 0, .string ⟨#[]⟩, .int .i64 0, .int .u8 0, .float .f64 0, .string ⟨#[]⟩, .int .i64 0, .int .u8 0, .float .f64 0, .string ⟨#[]⟩, .int .i64 0, .bool false, .bool false, .bool false], .agg #[.int .u8 h, .int .u8 ka, .float .f64 xa, .string sa, .int .i64 ra, .int .u8 kb, .float .f64 xb, .string sb, .int .i64 rb, .int .u8 kc, .float .f64 xc, .string sc, .int .i64 rc, .bool p, .bool q, .bool z]] w fun e w' => e = .returned (.agg #[.int .u8 n, .int .u8 kg, .float .f64 xg, .string sg, .int .i64 rg, .int .u8 ki, .float .f64 xi, .string si, .int .i64 ri, .int .u8 kj, .float .f64 xj, .string sj, .int .i64 rj, .bool p1, .bool q1, .bool z1]) ∧ Below w.heap.size w w') (l2 : acc = false → ∀ w, Calls Tryz.prog 163 #[.agg #[.int .u8 51, .int .u8 0, .float .f64 0, .string ⟨#[]⟩, .int .i64 0, .int .u8 0, .float .f64 0, .string ⟨#[]⟩, .int .i64 0, .int .u8 0, .float .f64 0, .string ⟨#[]⟩, .int .i64 0, .bool false, .bool false, .bool false], .agg #[.int .u8 h, .int .u8 ka, .float .f64 xa, .string sa, .int .i64 ra, .int .u8 kb, .float .f64 xb, .string sb, .int .i64 rb, .int .u8 kc, .float .f64 xc, .string sc, .int .i64 rc, .bool p, .bool q, .bool z]] w fun e w' => e = .returned (.agg #[.int .u8 n, .int .u8 kg, .float .f64 xg, .string sg, .int .i64 rg, .int .u8 ki, .float .f64 xi, .string si, .int .i64 ri, .int .u8 kj, .float .f64 xj, .string sj, .int .i64 rj, .bool p1, .bool q1, .bool z1]) ∧ Below w.heap.size w w') (w : World) : Calls Tryz.prog 126 #[.agg #[.int .u8 h, .int .u8 ka, .float .f64 xa, .string sa, .int .i64 ra, .int .u8 kb, .float .f64 xb, .string sb, .int .i64 rb, .int .u8 kc, .float .f64 xc, .string sc, .int .i64 rc, .bool p, .bool q, .bool z]] w fun e w' => e = .returned (.agg #[.int .u8 n, .int .u8 kg, .float .f64 xg, .string sg, .int .i64 rg, .int .u8 ki, .float .f64 xi, .string si, .int .i64 ri, .int .u8 kj, .float .f64 xj, .string sj, .int .i64 rj, .bool p1, .bool q1, .bool z1]) ∧ Below w.heap.size w w' := by
  have hB0 : Below w.heap.size w ((w.alloc (.cells #[.int .u8 h, .int .u8 ka, .float .f64 xa, .string sa, .int .i64 ra, .int .u8 kb, .float .f64 xb, .string sb, .int .i64 rb, .int .u8 kc, .float .f64 xc, .string sc, .int .i64 rc, .bool p, .bool q, .bool z] 28)).alloc (.cells #[.int .u8 0, .int .u8 0, .float .f64 0, .string ⟨#[]⟩, .int .i64 0, .int .u8 0, .float .f64 0, .string ⟨#[]⟩, .int .i64 0, .int .u8 0, .float .f64 0, .string ⟨#[]⟩, .int .i64 0, .bool false, .bool false, .bool false] 28)) := vafter (vzero _ _)
  obtain ⟨b1, b2⟩ := vblk2 (w := w) (Below.refl _ ((w.alloc (.cells #[.int .u8 h, .int .u8 ka, .float .f64 xa, .string sa, .int .i64 ra, .int .u8 kb, .float .f64 xb, .string sb, .int .i64 rb, .int .u8 kc, .float .f64 xc, .string sc, .int .i64 rc, .bool p, .bool q, .bool z] 28)).alloc (.cells #[.int .u8 0, .int .u8 0, .float .f64 0, .string ⟨#[]⟩, .int .i64 0, .int .u8 0, .float .f64 0, .string ⟨#[]⟩, .int .i64 0, .int .u8 0, .float .f64 0, .string ⟨#[]⟩, .int .i64 0, .bool false, .bool false, .bool false] 28)))
  cases acc
  · have L := l2 rfl
    clear l1 l2
    go_enter Tryz.func126, Tryz.ntmps126
    go_wp2_with (first | ((with_reducible refine d_load ?_ rfl rfl b1 ?_); (rfl)) | (go_at_call 162; (with_reducible refine (ha _).mono ?_); rintro e w1 ⟨rfl, h1⟩; have b1 := vblkn h1 b1; have b2 := vblkn h1 b2; have hB0 := vb hB0 h1) | (go_at_call 163; (with_reducible refine (L _).mono ?_); rintro e w1 ⟨rfl, h1⟩; have b1 := vblkn h1 b1; have b2 := vblkn h1 b2; have hB0 := vb hB0 h1) | ((with_reducible refine d_store rfl rfl rfl rfl b2 ?_ ?_ ?_); (rfl); (rfl)))
    exact d_end Tryz.results126 rfl (setRow_heap _ _ _ _ _ _ b2) ⟨rfl, below_row hB0 (by omega) _⟩
  · have L := l1 rfl
    clear l1 l2
    go_enter Tryz.func126, Tryz.ntmps126
    go_wp2_with (first | ((with_reducible refine d_load ?_ rfl rfl b1 ?_); (rfl)) | (go_at_call 162; (with_reducible refine (ha _).mono ?_); rintro e w1 ⟨rfl, h1⟩; have b1 := vblkn h1 b1; have b2 := vblkn h1 b2; have hB0 := vb hB0 h1) | (go_at_call 163; (with_reducible refine (L _).mono ?_); rintro e w1 ⟨rfl, h1⟩; have b1 := vblkn h1 b1; have b2 := vblkn h1 b2; have hB0 := vb hB0 h1) | ((with_reducible refine d_store rfl rfl rfl rfl b2 ?_ ?_ ?_); (rfl); (rfl)))
    exact d_end Tryz.results126 rfl (setRow_heap _ _ _ _ _ _ b2) ⟨rfl, below_row hB0 (by omega) _⟩
theorem complete_q (d : Dq) (w : World) : Calls Tryz.prog 126 #[d.val] w fun e w' => e = .returned (completeQ d).val ∧ Below w.heap.size w w' := by
  refine complete_x d.h (completeQ d).h d.a.k d.a.x d.a.s d.a.r d.b.k d.b.x d.b.s d.b.r d.c.k d.c.x d.c.s d.c.r (completeQ d).a.k (completeQ d).a.x (completeQ d).a.s (completeQ d).a.r (completeQ d).b.k (completeQ d).b.x (completeQ d).b.s (completeQ d).b.r (completeQ d).c.k (completeQ d).c.x (completeQ d).c.s (completeQ d).c.r d.p d.q d.z (completeQ d).p (completeQ d).q (completeQ d).z (fun w => IsAccess_q d w) (fun hac w => ?_) (fun hac w => ?_) w
  · have e1 : completeQ d = layQ (dz 60) d := by unfold completeQ; rw [hac]; rfl
    have := lay_q (dz 60) d w
    rw [← e1] at this
    exact this
  · have e1 : completeQ d = layQ (dz 51) d := by unfold completeQ; rw [hac]; rfl
    have := lay_q (dz 51) d w
    rw [← e1] at this
    exact this
section
variable {f : Func} {i j k : Nat} {t : TypeId} {Q : Ending → World → Prop} {tmps : Array Value} {W : World} {g : Nat} {c0 c1 c2 c3 c4 c5 c6 c7 c8 c9 c10 c11 c12 c13 c14 c15 v u : Value}
theorem dldv (h : W.heap[g]? = some (.cells #[c0, c1, c2, c3, c4, c5, c6, c7, c8, c9, c10, c11, c12, c13, c14, c15] t (0, 0))) :
    (loadVar 28 ⟨g, 0, none⟩).run Tryz.prog W = .ok (.agg #[c0, c1, c2, c3, c4, c5, c6, c7, c8, c9, c10, c11, c12, c13, c14, c15]) W := run_loadVar_row W g t 28 _ (0, 0) _ h Tryz.underlying28 rfl dsz
theorem d_end2 (hf : f.results = #[.cell i 28, .tmp j]) (h2 : tmps[i]?.getD undef = .pointer (some ⟨g, 0, none⟩)) (h3 : tmps[j]?.getD undef = v) (hb : W.heap[g]? = some (.cells #[c0, c1, c2, c3, c4, c5, c6, c7, c8, c9, c10, c11, c12, c13, c14, c15] t (0, 0)))
    (hQ : Q (.returned (.tuple #[.agg #[c0, c1, c2, c3, c4, c5, c6, c7, c8, c9, c10, c11, c12, c13, c14, c15], v])) W) : bodyPost Tryz.prog f Q .ret { tmps := tmps, defers := [] } W := by
  have e := dldv hb
  refine bodyPost_ret (v := .tuple #[.agg #[c0, c1, c2, c3, c4, c5, c6, c7, c8, c9, c10, c11, c12, c13, c14, c15], v]) ?_ rfl hQ
  simp [results, hf, h2, h3, asAddr, e]
theorem d_end3 (hf : f.results = #[.cell i 28, .tmp j, .tmp k]) (h2 : tmps[i]?.getD undef = .pointer (some ⟨g, 0, none⟩)) (h3 : tmps[j]?.getD undef = v) (h4 : tmps[k]?.getD undef = u) (hb : W.heap[g]? = some (.cells #[c0, c1, c2, c3, c4, c5, c6, c7, c8, c9, c10, c11, c12, c13, c14, c15] t (0, 0)))
    (hQ : Q (.returned (.tuple #[.agg #[c0, c1, c2, c3, c4, c5, c6, c7, c8, c9, c10, c11, c12, c13, c14, c15], v, u])) W) : bodyPost Tryz.prog f Q .ret { tmps := tmps, defers := [] } W := by
  have e := dldv hb
  refine bodyPost_ret (v := .tuple #[.agg #[c0, c1, c2, c3, c4, c5, c6, c7, c8, c9, c10, c11, c12, c13, c14, c15], v, u]) ?_ rfl hQ
  simp [results, hf, h2, h3, h4, asAddr, e]
end
end Go.Proofs.YtbeggameiedjgaaGreatDoor.S
/-
  Descriptors: whole, changes, Compatible, Apply, Complete: walks. Generated: gen_descwalk2.py.
-/
namespace Go.Proofs.YtbeggameiedjgaaGreatDoor.S
open Go.RowKit Fl

set_option maxRecDepth 1000000 in
set_option maxHeartbeats 4000000 in
theorem Complete_x (h n : Int) (ka : Int) (xa : Nat) (sa : ByteArray) (ra : Int) (kb : Int) (xb : Nat) (sb : ByteArray) (rb : Int) (kc : Int) (xc : Nat) (sc : ByteArray) (rc : Int) (kg : Int) (xg : Nat) (sg : ByteArray) (rg : Int) (ki : Int) (xi : Nat) (si : ByteArray) (ri : Int) (kj : Int) (xj : Nat) (sj : ByteArray) (rj : Int) (p q z p1 q1 z1 : Bool) {ck : Bool} (hc : ∀ w, Calls Tryz.prog 125 #[.agg #[.int .u8 h, .int .u8 ka, .float .f64 xa, .string sa, .int .i64 ra, .int .u8 kb, .float .f64 xb, .string sb, .int .i64 rb, .int .u8 kc, .float .f64 xc, .string sc, .int .i64 rc, .bool p, .bool q, .bool z]] w fun e w' => e = .returned (.int .i64 (errI ck)) ∧ Below w.heap.size w w') (h1 : ∀ w, Calls Tryz.prog 126 #[.agg #[.int .u8 h, .int .u8 ka, .float .f64 xa, .string sa, .int .i64 ra, .int .u8 kb, .float .f64 xb, .string sb, .int .i64 rb, .int .u8 kc, .float .f64 xc, .string sc, .int .i64 rc, .bool p, .bool q, .bool z]] w fun e w' => e = .returned (.agg #[.int .u8 n, .int .u8 kg, .float .f64 xg, .string sg, .int .i64 rg, .int .u8 ki, .float .f64 xi, .string si, .int .i64 ri, .int .u8 kj, .float .f64 xj, .string sj, .int .i64 rj, .bool p1, .bool q1, .bool z1]) ∧ Below w.heap.size w w') (w : World) : Calls Tryz.prog 85 #[.agg #[.int .u8 h, .int .u8 ka, .float .f64 xa, .string sa, .int .i64 ra, .int .u8 kb, .float .f64 xb, .string sb, .int .i64 rb, .int .u8 kc, .float .f64 xc, .string sc, .int .i64 rc, .bool p, .bool q, .bool z]] w fun e w' => (ck = false → e = .returned (.tuple #[.agg #[.int .u8 0, .int .u8 0, .float .f64 0, .string ⟨#[]⟩, .int .i64 0, .int .u8 0, .float .f64 0, .string ⟨#[]⟩, .int .i64 0, .int .u8 0, .float .f64 0, .string ⟨#[]⟩, .int .i64 0, .bool false, .bool false, .bool false], .int .i64 90])) ∧ (ck = true → e = .returned (.tuple #[.agg #[.int .u8 n, .int .u8 kg, .float .f64 xg, .string sg, .int .i64 rg, .int .u8 ki, .float .f64 xi, .string si, .int .i64 ri, .int .u8 kj, .float .f64 xj, .string sj, .int .i64 rj, .bool p1, .bool q1, .bool z1], .int .i64 0])) ∧ Below w.heap.size w w' := by
  have hB0 : Below w.heap.size w ((w.alloc (.cells #[.int .u8 h, .int .u8 ka, .float .f64 xa, .string sa, .int .i64 ra, .int .u8 kb, .float .f64 xb, .string sb, .int .i64 rb, .int .u8 kc, .float .f64 xc, .string sc, .int .i64 rc, .bool p, .bool q, .bool z] 28)).alloc (.cells #[.int .u8 0, .int .u8 0, .float .f64 0, .string ⟨#[]⟩, .int .i64 0, .int .u8 0, .float .f64 0, .string ⟨#[]⟩, .int .i64 0, .int .u8 0, .float .f64 0, .string ⟨#[]⟩, .int .i64 0, .bool false, .bool false, .bool false] 28)) := vafter (vzero _ _)
  obtain ⟨b1, b2⟩ := vblk2 (w := w) (Below.refl _ ((w.alloc (.cells #[.int .u8 h, .int .u8 ka, .float .f64 xa, .string sa, .int .i64 ra, .int .u8 kb, .float .f64 xb, .string sb, .int .i64 rb, .int .u8 kc, .float .f64 xc, .string sc, .int .i64 rc, .bool p, .bool q, .bool z] 28)).alloc (.cells #[.int .u8 0, .int .u8 0, .float .f64 0, .string ⟨#[]⟩, .int .i64 0, .int .u8 0, .float .f64 0, .string ⟨#[]⟩, .int .i64 0, .int .u8 0, .float .f64 0, .string ⟨#[]⟩, .int .i64 0, .bool false, .bool false, .bool false] 28)))
  cases ck
  · have hc : ∀ w, Calls Tryz.prog 125 #[.agg #[.int .u8 h, .int .u8 ka, .float .f64 xa, .string sa, .int .i64 ra, .int .u8 kb, .float .f64 xb, .string sb, .int .i64 rb, .int .u8 kc, .float .f64 xc, .string sc, .int .i64 rc, .bool p, .bool q, .bool z]] w fun e w' => e = .returned (.int .i64 90) ∧ Below w.heap.size w w' := hc
    go_enter Tryz.func85, Tryz.ntmps85
    go_wp2_with (first | ((with_reducible refine d_load ?_ rfl rfl b1 ?_); (rfl)) | (go_at_call 125; (with_reducible refine (hc _).mono ?_); rintro e w1 ⟨rfl, h9⟩; have b1 := vblkn h9 b1; have b2 := vblkn h9 b2; have hB0 := vb hB0 h9) | (go_at_call 126; (with_reducible refine (h1 _).mono ?_); rintro e w1 ⟨rfl, h9⟩; have b1 := vblkn h9 b1; have b2 := vblkn h9 b2; have hB0 := vb hB0 h9) | ((with_reducible refine d_store rfl rfl rfl rfl b2 ?_ ?_ ?_); (rfl); (rfl)))
    exact d_end2 Tryz.results85 rfl rfl (setRow_heap _ _ _ _ _ _ b2) ⟨fun _ => rfl, (fun h => by cases h), below_row hB0 (by omega) _⟩
  · have hc : ∀ w, Calls Tryz.prog 125 #[.agg #[.int .u8 h, .int .u8 ka, .float .f64 xa, .string sa, .int .i64 ra, .int .u8 kb, .float .f64 xb, .string sb, .int .i64 rb, .int .u8 kc, .float .f64 xc, .string sc, .int .i64 rc, .bool p, .bool q, .bool z]] w fun e w' => e = .returned (.int .i64 0) ∧ Below w.heap.size w w' := hc
    go_enter Tryz.func85, Tryz.ntmps85
    go_wp2_with (first | ((with_reducible refine d_load ?_ rfl rfl b1 ?_); (rfl)) | (go_at_call 125; (with_reducible refine (hc _).mono ?_); rintro e w1 ⟨rfl, h9⟩; have b1 := vblkn h9 b1; have b2 := vblkn h9 b2; have hB0 := vb hB0 h9) | (go_at_call 126; (with_reducible refine (h1 _).mono ?_); rintro e w1 ⟨rfl, h9⟩; have b1 := vblkn h9 b1; have b2 := vblkn h9 b2; have hB0 := vb hB0 h9) | ((with_reducible refine d_store rfl rfl rfl rfl b2 ?_ ?_ ?_); (rfl); (rfl)))
    exact d_end2 Tryz.results85 rfl rfl (setRow_heap _ _ _ _ _ _ b2) ⟨(fun h => by cases h), fun _ => rfl, below_row hB0 (by omega) _⟩
end Go.Proofs.YtbeggameiedjgaaGreatDoor.S
/-
  cmp.Or of two errors; whether a descriptor is complete, whether a property may be.
-/
namespace Go.Proofs.YtbeggameiedjgaaGreatDoor.S
open Go.RowKit Fl
open Classical

noncomputable def orE (x y : Int) : Int := if x = 0 then y else x
set_option maxRecDepth 100000 in
theorem Or_2 (g : Nat) (x y : Int) (w : World) (h0 : w.cell? ⟨g, 0, none⟩ = some (.int .i64 x)) (h1 : w.cell? ⟨g, 1, none⟩ = some (.int .i64 y)) : Calls Tryz.prog 36 #[.slice (some ⟨g, 0, none⟩) 2 2] w fun e w' => e = .returned (.int .i64 (orE x y)) ∧ w' = w := by
  go_enter Tryz.func36, Tryz.ntmps36
  go_wp2
  go_loopg [8] 2 (fun kx s8 wr => ∃ i : Nat, s8 = .int .i64 i ∧ i + kx = 2 ∧ Hid ((0 < i → x = 0) ∧ (1 < i → y = 0)) ∧ wr = w)
  case atStart => exact ⟨0, rfl, rfl, Lib.hid ⟨fun h => absurd h (by decide), fun h => absurd h (by decide)⟩, rfl⟩
  case round =>
    obtain ⟨i, rfl, hik, H, rfl⟩ := hrel
    cases gk with
    | zero =>
      obtain rfl : i = 2 := by omega
      have hx := H.out.1 (by decide)
      have hy := H.out.2 (by decide)
      clear H
      subst hx hy
      go_wp2
      go_ret
      exact ⟨by unfold orE; rfl, rfl⟩
    | succ kx =>
      have hi : i = 0 ∨ i = 1 := by omega
      rcases hi with rfl | rfl
      · by_cases hx : x = 0
        · go_wp2
          go_roundg kx
          case measure => omega
          case rel => exact ⟨1, rfl, by omega, Lib.hid ⟨fun _ => hx, fun h => absurd h (by decide)⟩, rfl⟩
        · go_wp2
          go_ret
          exact ⟨by unfold orE; rw [if_neg hx]; rfl, rfl⟩
      · have hx := H.out.1 (by decide)
        by_cases hy : y = 0
        · go_wp2
          go_roundg kx
          case measure => omega
          case rel => exact ⟨2, rfl, by omega, Lib.hid ⟨fun _ => hx, fun _ => hy⟩, rfl⟩
        · clear H
          subst hx
          go_wp2
          go_ret
          exact ⟨by unfold orE; rfl, rfl⟩
noncomputable def whoE (d : Dq) : Int := if wholeQ d = true then 0 else 90
theorem comp_h {d : Dq} (hd : d.In) (g : chkQ d = true) : (completeQ d).h = d.h ↔ wholeQ d = true := by
  have gd := good_of hd g
  have e : wholeQ d = (d.h == 51 || d.h == 60) := by unfold wholeQ; rw [g]; rfl
  rw [e, complete_eq gd.mem]
  dsimp only
  constructor
  · intro h
    cases hh : hasB d.h 12 <;> rw [hh] at h
    · have : d.h = 51 := h.symm
      simp [this]
    · have : d.h = 60 := h.symm
      simp [this]
  · intro h
    simp at h
    rcases h with h | h <;> rw [h] <;> decide
theorem who_no {d : Dq} (g : chkQ d = false) : whoE d = 90 := by unfold whoE wholeQ; rw [g]; rfl
set_option maxRecDepth 100000 in
theorem whole_t {d : Dq} (hd : d.In) (w : World) : Calls Tryz.prog 64 #[.agg d.cells] w fun e w' => e = .returned (.int .i64 (whoE d)) ∧ Below w.heap.size w w' := by
  have hC := fun w => Complete_x d.h (completeQ d).h d.a.k d.a.x d.a.s d.a.r d.b.k d.b.x d.b.s d.b.r d.c.k d.c.x d.c.s d.c.r (completeQ d).a.k (completeQ d).a.x (completeQ d).a.s (completeQ d).a.r (completeQ d).b.k (completeQ d).b.x (completeQ d).b.s (completeQ d).b.r (completeQ d).c.k (completeQ d).c.x (completeQ d).c.s (completeQ d).c.r d.p d.q d.z (completeQ d).p (completeQ d).q (completeQ d).z (ck := chkQ d) (fun w => Check_q hd w) (fun w => complete_q d w) w
  have hB0 : Below w.heap.size w (w.alloc (.cells d.cells 28)) := vzero _ _
  have b1 : (w.alloc (.cells d.cells 28)).heap[w.heap.size]? = some (.cells d.cells 28 (0, 0)) := heap_alloc_new w _
  cases hck : chkQ d with
  | false =>
    have hC : ∀ w, Calls Tryz.prog 85 #[.agg d.cells] w fun e w' => e = .returned (.tuple #[.agg (dz 0).cells, .int .i64 90]) ∧ Below w.heap.size w w' := fun w => (hC w).mono fun e w' h => ⟨h.1 hck, h.2.2⟩
    rw [who_no hck]
    generalize hX : dz 0 = X at hC
    clear hX hck
    have hc1 : X.cells.all (·.oneCell') = true := cells_one (l := X.cells.toList) rfl
    have hi1 : (Tryz.prog.info? 28).map (·.size) = some X.cells.size := dsz
    go_enter Tryz.func64, Tryz.ntmps64
    go_wp2_with (first | ((with_reducible refine dq_load ?_ rfl rfl b1 ?_); (rfl)) | (go_at_call 85; (with_reducible refine (hC _).mono ?_); rintro e w1 ⟨rfl, h9⟩; have b1 := vblkn h9 b1; have hB0 := vb hB0 h9) | ((with_reducible refine t_store (cs := X.cells) rfl rfl rfl rfl (heap_alloc_new _ _) hi1 ?_ hc1 (hB0.alloc hB0.size _) hB0.size ?_); (rfl); intro W hBW hW _ _))
    go_ret
    exact ⟨rfl, hBW⟩
  | true =>
    have hC : ∀ w, Calls Tryz.prog 85 #[.agg d.cells] w fun e w' => e = .returned (.tuple #[.agg (completeQ d).cells, .int .i64 0]) ∧ Below w.heap.size w w' := fun w => (hC w).mono fun e w' h => ⟨h.2.1 hck, h.2.2⟩
    have hw : whoE d = if (completeQ d).h = d.h then 0 else 90 := by
      unfold whoE
      by_cases c : wholeQ d = true
      · rw [if_pos c, if_pos ((comp_h hd hck).2 c)]
      · rw [if_neg c, if_neg (fun h => c ((comp_h hd hck).1 h))]
    rw [hw]
    generalize hX : completeQ d = X at hC
    clear hX hck hw
    have hc1 : X.cells.all (·.oneCell') = true := cells_one (l := X.cells.toList) rfl
    have hi1 : (Tryz.prog.info? 28).map (·.size) = some X.cells.size := dsz
    have d0 : d.cells[0]? = some (.int .u8 d.h) := rfl
    have x0 : X.cells[0]? = some (.int .u8 X.h) := rfl
    by_cases he : X.h = d.h
    · have hb : (X.h != d.h) = false := by simp [he]
      go_enter Tryz.func64, Tryz.ntmps64
      go_wp2_with (first | ((with_reducible refine dq_load ?_ rfl rfl b1 ?_); (rfl)) | (go_at_call 85; (with_reducible refine (hC _).mono ?_); rintro e w1 ⟨rfl, h9⟩; have b1 := vblkn h9 b1; have hB0 := vb hB0 h9; have q1 := lt_blk b1) | ((with_reducible refine t_store (cs := X.cells) rfl rfl rfl rfl (heap_alloc_new _ _) hi1 ?_ hc1 (hB0.alloc hB0.size _) hB0.size ?_); (rfl); intro W hBW hW hO hz; have c0 := (vcells hW 0).trans x0; have c1 := (vcells ((hO w.heap.size (by omega)).trans ((heap_alloc_old _ _ q1).trans b1)) 0).trans d0))
      go_ret
      exact ⟨by first | rfl | (rw [if_pos he]; rfl), hBW⟩
    · have hb : (X.h != d.h) = true := by simp [he]
      go_enter Tryz.func64, Tryz.ntmps64
      go_wp2_with (first | ((with_reducible refine dq_load ?_ rfl rfl b1 ?_); (rfl)) | (go_at_call 85; (with_reducible refine (hC _).mono ?_); rintro e w1 ⟨rfl, h9⟩; have b1 := vblkn h9 b1; have hB0 := vb hB0 h9; have q1 := lt_blk b1) | ((with_reducible refine t_store (cs := X.cells) rfl rfl rfl rfl (heap_alloc_new _ _) hi1 ?_ hc1 (hB0.alloc hB0.size _) hB0.size ?_); (rfl); intro W hBW hW hO hz; have c0 := (vcells hW 0).trans x0; have c1 := (vcells ((hO w.heap.size (by omega)).trans ((heap_alloc_old _ _ q1).trans b1)) 0).trans d0))
      go_ret
      exact ⟨by first | rfl | (rw [if_neg he]; rfl), hBW⟩
noncomputable def keyE (k : Ky) : Int := if mayKy k then 0 else 9
theorem keyCheck_t (k : Ky) (w : World) : Calls Tryz.prog 37 #[.agg #[.string k.str, .int .i64 k.sym]] w fun e w' => e = .returned (.int .i64 (keyE k)) ∧ Below w.heap.size w w' := by
  unfold keyE
  by_cases h : mayKy k
  · rw [if_pos h]; exact keyCheck_ok k.str k.sym w h
  · rw [if_neg h]; exact keyCheck_bad k.str k.sym w h
theorem mayT_or (p : Pq) : mayT p = orE (keyE p.k) (whoE p.d) := by
  unfold mayT orE keyE whoE
  by_cases h : mayKy p.k
  · rw [if_pos h, if_pos h, if_pos rfl]
  · rw [if_neg h, if_neg h, if_neg (by decide)]
theorem keyE_ok {k : Ky} : keyE k = 0 ↔ mayKy k := by
  unfold keyE
  by_cases h : mayKy k
  · rw [if_pos h]; exact ⟨fun _ => h, fun _ => rfl⟩
  · rw [if_neg h]; exact ⟨fun e => absurd e (by decide), fun e => absurd e h⟩
end Go.Proofs.YtbeggameiedjgaaGreatDoor.S
