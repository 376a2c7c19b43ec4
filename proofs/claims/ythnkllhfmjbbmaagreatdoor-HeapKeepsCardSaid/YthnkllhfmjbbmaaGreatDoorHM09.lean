/-
  sort.SliceStable: symMerge_func whole.
-/
import Derived.Test.YthnkllhfmjbbmaaGreatDoorHM08
namespace Go.Proofs.YthnkllhfmjbbmaaGreatDoor.S
open Go.Shelf Go.RowKit Go.Lib Go.Sort
variable {P : Program} {ρ : Ren} {α : Type} [Inhabited α]

section
variable (rk : α → Nat) (enc : α → List Value) (k g : Nat) (lb : Array Value) (sf : Nat) (sb : Array Value) (blk off : Nat) (w0 w : World)
/-- the world behind a part of a merge: the row, the caller's boxes, the merge's own -/
structure Mid (d : Array α) (w' : World) : Prop where
  sw : SWK enc k w0 blk off d w'
  bx : ∀ x, x < w.heap.size → x ≠ blk → Box w x g lb sf sb → Box w' x g lb sf sb
  own : Box w' w.heap.size g lb sf sb
/-- behind the rotation -/
def T1of (s m e : Nat) (d : Array α) (w' : World) : Prop := Aside ((∃ d1, Rot s m e d d1 ∧ Mid enc k g lb sf sb blk off w0 w d1 w') ∧ Box w' w.heap.size g lb sf sb)
/-- behind the left merge -/
def T2of (a M s m e : Nat) (d : Array α) (w' : World) : Prop := Aside ((∃ d1 d2, Rot s m e d d1 ∧ Stb rk a M d1 d2 ∧ Srt rk a M d2 ∧ Mid enc k g lb sf sb blk off w0 w d2 w') ∧ Box w' w.heap.size g lb sf sb)
/-- behind the right merge -/
def T3of (a b : Nat) (d : Array α) (w' : World) : Prop := Aside (∃ d', Stb rk a b d d' ∧ Srt rk a b d' ∧ SWK enc k w0 blk off d' w' ∧ ∀ x, x < w.heap.size → x ≠ blk → Box w x g lb sf sb → Box w' x g lb sf sb)
end

theorem tails (L : LaysGt.n30 P ρ) {enc : α → List Value} {k g sf blk off size : Nat} {lb sb : Array Value} {rk : α → Nat} {w0 : World} (F : Fam P enc k g lb sf sb blk off size rk w0)
    (N : Nat) (IH : ∀ (a m b : Nat) (d : Array α) (w : World), b - a < N → d.size = size → SWK enc k w0 blk off d w → a < m → m < b → b ≤ size → Srt rk a m d → Srt rk m b d → Calls P (ρ.f 30) #[dat g lb sf sb, .int .i64 a, .int .i64 m, .int .i64 b] w (Merged rk enc k g lb sf sb blk off w0 w a b d))
    (a m b : Nat) (d : Array α) (hd : d.size = size) (w : World) (hne : w.heap.size ≠ blk) (hN : b - a = N) (h3 : b ≤ size) (M i : Nat) (C : Cut rk a i m (M + m - i) b d) (haM : a < M) (hMb : M < b) (hiM : i ≤ M) (wr : World)
    (A : SWK enc k w0 blk off d wr ∧ (∀ x, x < w.heap.size → x ≠ blk → Box w x g lb sf sb → Box wr x g lb sf sb) ∧ Box wr w.heap.size g lb sf sb) :
    ((i < m ∧ i < M) → Calls P (ρ.f 42) #[dat g lb sf sb, .int .i64 i, .int .i64 m, .int .i64 ((M : Int) + (m : Int) - (i : Int))] wr fun e w' => e = .returned (.tuple #[]) ∧ T1of enc k g lb sf sb blk off w0 w i m (M + m - i) d w') ∧
    (¬(i < m ∧ i < M) → T1of enc k g lb sf sb blk off w0 w i m (M + m - i) d wr) ∧
    (∀ w1, T1of enc k g lb sf sb blk off w0 w i m (M + m - i) d w1 → (a < i ∧ i < M) → Calls P (ρ.f 30) #[dat g lb sf sb, .int .i64 a, .int .i64 i, .int .i64 M] w1 fun e w' => e = .returned (.tuple #[]) ∧ T2of rk enc k g lb sf sb blk off w0 w a M i m (M + m - i) d w') ∧
    (∀ w1, T1of enc k g lb sf sb blk off w0 w i m (M + m - i) d w1 → ¬(a < i ∧ i < M) → T2of rk enc k g lb sf sb blk off w0 w a M i m (M + m - i) d w1) ∧
    (∀ w2, T2of rk enc k g lb sf sb blk off w0 w a M i m (M + m - i) d w2 → (M < M + m - i ∧ M + m - i < b) → Calls P (ρ.f 30) #[dat g lb sf sb, .int .i64 M, .int .i64 ((M : Int) + (m : Int) - (i : Int)), .int .i64 b] w2 fun e w' => e = .returned (.tuple #[]) ∧ T3of rk enc k g lb sf sb blk off w0 w a b d w') ∧
    (∀ w2, T2of rk enc k g lb sf sb blk off w0 w a M i m (M + m - i) d w2 → ¬(M < M + m - i ∧ M + m - i < b) → T3of rk enc k g lb sf sb blk off w0 w a b d w2) := by
  have hsm := C.sm
  have has := C.as
  have hme := C.me
  have heb := C.eb
  have eM : i + (M + m - i - m) = M := by omega
  have ec : ((M + m - i : Nat) : Int) = (M : Int) + (m : Int) - (i : Int) := by omega
  refine ⟨fun h => ?_, fun h => ?_, fun w1 T h => ?_, fun w1 T h => ?_, fun w2 T h => ?_, fun w2 T h => ?_⟩
  · rw [← ec]
    refine (Any.rotate_cells (P := P) (ρ := ρ) { L with } F i m (M + m - i) d hd wr A.1 h.1 (by omega) (by omega)).mono ?_
    rintro e w' ⟨rfl, d1, R, S, B⟩
    exact ⟨rfl, ⟨d1, R, S, fun x hx hx2 hb => B x (A.2.1 x hx hx2 hb).2.2 hx2 (A.2.1 x hx hx2 hb), B _ A.2.2.2.2 hne A.2.2⟩, B _ A.2.2.2.2 hne A.2.2⟩
  · exact ⟨⟨d, rot_idle _ _ _ d (by omega) hsm hme, A.1, A.2.1, A.2.2⟩, A.2.2⟩
  · obtain ⟨⟨d1, R, Q⟩, B⟩ := T
    obtain ⟨p1, p2, p3, p4, p5⟩ := C.parts R
    rw [eM] at p2
    refine (IH a i M d1 w1 (by omega) (by rw [R.size, hd]) Q.sw h.1 h.2 (by omega) p1 p2).mono ?_
    rintro e w' ⟨rfl, d2, s1, s2, s3, s4⟩
    exact ⟨rfl, ⟨d1, d2, R, s1, s2, s3, fun x hx hx2 hb => s4 x (Q.bx x hx hx2 hb).2.2 hx2 (Q.bx x hx hx2 hb), s4 _ B.2.2 hne B⟩, s4 _ B.2.2 hne B⟩
  · obtain ⟨⟨d1, R, Q⟩, B⟩ := T
    obtain ⟨p1, p2, p3, p4, p5⟩ := C.parts R
    rw [eM] at p2
    refine ⟨⟨d1, d1, R, Stb.refl _ _ _, ?_, Q⟩, B⟩
    by_cases c : a < i
    · rw [show M = i by omega]; exact p1
    · rw [show a = i by omega]; exact p2
  · obtain ⟨⟨d1, d2, R, s1, s2, Q⟩, B⟩ := T
    obtain ⟨p1, p2, p3, p4, p5⟩ := C.parts R
    rw [eM] at p3 p5
    have o3 : Srt rk M (M + m - i) d2 := p3.same fun t ht _ => s1.out t (by omega)
    have o4 : Srt rk (M + m - i) b d2 := p4.same fun t ht _ => s1.out t (by omega)
    rw [← ec]
    refine (IH M (M + m - i) b d2 w2 (by omega) (by rw [s1.size, R.size, hd]) Q.sw h.1 h.2 h3 o3 o4).mono ?_
    rintro e w' ⟨rfl, d3, r1, r2, r3, r4⟩
    have H := halves (by omega) (by omega) p5 s1 s2 r1 r2
    exact ⟨rfl, d3, (C.stb R).trans H.1, H.2, r3, fun x hx hx2 hb => r4 x (Q.bx x hx hx2 hb).2.2 hx2 (Q.bx x hx hx2 hb)⟩
  · obtain ⟨⟨d1, d2, R, s1, s2, Q⟩, B⟩ := T
    obtain ⟨p1, p2, p3, p4, p5⟩ := C.parts R
    rw [eM] at p3 p5
    have o3 : Srt rk M (M + m - i) d2 := p3.same fun t ht _ => s1.out t (by omega)
    have o4 : Srt rk (M + m - i) b d2 := p4.same fun t ht _ => s1.out t (by omega)
    have H := halves (by omega) (by omega) p5 s1 s2 (Stb.refl M b d2) (by
      by_cases c : M < M + m - i
      · rw [show b = M + m - i by omega]; exact o3
      · rw [show M + m - i = M by omega] at o4; exact o4)
    exact ⟨d2, (C.stb R).trans H.1, H.2, Q.sw, Q.bx⟩

set_option maxHeartbeats 4000000 in
set_option maxRecDepth 1000000 in
theorem Any.merge_low (L : LaysGt.n30 P ρ) {enc : α → List Value} {k g sf blk off size : Nat} {lb sb : Array Value} {rk : α → Nat} {w0 : World} (F : Fam P enc k g lb sf sb blk off size rk w0)
    (N : Nat) (IH : ∀ (a m b : Nat) (d : Array α) (w : World), b - a < N → d.size = size → SWK enc k w0 blk off d w → a < m → m < b → b ≤ size → Srt rk a m d → Srt rk m b d → Calls P (ρ.f 30) #[dat g lb sf sb, .int .i64 a, .int .i64 m, .int .i64 b] w (Merged rk enc k g lb sf sb blk off w0 w a b d))
    (a m b : Nat) (d : Array α) (hd : d.size = size) (w : World) (hW : SWK enc k w0 blk off d w) (hN : b - a = N) (h1 : a + 1 < m) (h2 : m + 1 < b) (h3 : b ≤ size) (hl : Srt rk a m d) (hr : Srt rk m b d) (M : Nat) (hM : ((a : Int) + (b : Int)) / 2 = (M : Int)) (hMm : M < m) :
    Calls P (ρ.f 30) #[dat g lb sf sb, .int .i64 a, .int .i64 m, .int .i64 b] w (Merged rk enc k g lb sf sb blk off w0 w a b d) := by
  have mixed := L.mixed; have t0 := L.t0; have a0 := L.a0; have z0 := L.z0; have v0 := L.v0; have t3 := L.t3; have a3 := L.a3; have z3 := L.z3; have v3 := L.v3; have t4 := L.t4; have a4 := L.a4; have z4 := L.z4; have v4 := L.v4; have t26 := L.t26; have a26 := L.a26; have z26 := L.z26; have v26 := L.v26; have t38 := L.t38; have a38 := L.a38; have z38 := L.z38; have v38 := L.v38; have t42 := L.t42; have a42 := L.a42; have z42 := L.z42; have v42 := L.v42; have t47 := L.t47; have a47 := L.a47; have z47 := L.z47; have v47 := L.v47
  have u42 := run_underlying L.t42
  have e42 : ∀ args w, (callFunc (ρ.f 42) args).run P w = .ok (.enter (ρ.f 42) args) w := enters_of L.f42 (by kernel_rfl) rfl
  have e30 : ∀ args w, (callFunc (ρ.f 30) args).run P w = .ok (.enter (ρ.f 30) args) w := enters_of L.f30 (by kernel_rfl) rfl
  have hsz := F.sz
  have hne : w.heap.size ≠ blk := by have := hW.lt F.blk; omega
  have hm0 : (((m : Int) - (a : Int)) == 1) = false := by rw [beq_eq_false_iff_ne]; omega
  have hm1 : (((b : Int) - (m : Int)) == 1) = false := by rw [beq_eq_false_iff_ne]; omega
  have eg := F.eg
  have hdm : decide (M < m) = true := by simp; omega
  have HN : Aside (b - a = N) := hN
  clear hN
  obtain ⟨s0, hs0⟩ : ∃ s0, s0 = M + m - b := ⟨_, rfl⟩
  obtain ⟨r0, hr0⟩ : ∃ r0, r0 = M := ⟨_, rfl⟩
  have f1 : a ≤ s0 := by omega
  have f2 : s0 ≤ r0 := by omega
  have f3 : r0 ≤ m := by omega
  have f4 : r0 ≤ M := by omega
  have f5 : M + m ≤ b + s0 := by omega
  have HS : Aside ((s0 = a ∨ M + m = b + s0) ∧ (r0 = m ∨ r0 = M)) := ⟨by omega, by omega⟩
  have hb : b < 4611686018427387904 := by omega
  have hMb : M < b := by omega
  have haM : a < M := by omega
  go_enter L.f30, BodyGt.n30_ntmps ρ
  go_wp2
  go_loopg [18, 19] (r0 - s0) (fun kx s8 s9 wr => ∃ (i j : Nat), s8 = .int .i64 i ∧ s9 = .int .i64 j ∧ s0 ≤ i ∧ i ≤ j ∧ j ≤ r0 ∧ j - i ≤ kx ∧ Aside ((s0 < i → rk d[i - 1]! ≤ rk d[M + m - i]!) ∧ (j < r0 → rk d[M + m - 1 - j]! < rk d[j]!) ∧ SWK enc k w0 blk off d wr ∧ (∀ x, x < w.heap.size → x ≠ blk → Box w x g lb sf sb → Box wr x g lb sf sb) ∧ Box wr w.heap.size g lb sf sb) ∧
      wr.cell? ⟨w.heap.size, 0, none⟩ = some (.func (.func g) #[] lb) ∧ wr.cell? ⟨w.heap.size, 1, none⟩ = some (.func (.func sf) #[] sb) ∧ w.heap.size < wr.heap.size)
  case atStart => exact ⟨s0, r0, by congr 1; omega, by congr 1; omega, Nat.le_refl _, by omega, Nat.le_refl _, Nat.le_refl _,
      ⟨fun h => by omega, fun h => by omega, hW.alloc _, fun x hx _ hB => hB.alloc hx _, box_new _ _ _ _ _ _⟩, by simp, by simp, by simp⟩
  case round =>
    clear hs0 hr0
    obtain ⟨i, j, rfl, rfl, hi1, hij, hj1, hk, A, c0, c1, hs1⟩ := hrel
    by_cases hlt : i < j
    · obtain ⟨h, hh⟩ : ∃ h, h = (i + j) / 2 := ⟨_, rfl⟩
      have hh1 : i ≤ h := by omega
      have hh2 : h < j := by omega
      have hhm : h < M + m := by omega
      have hl := A.out.2.2.1.less F.less hd (M + m - 1 - h) h (by omega) (by omega)
      rw [show ((M + m - 1 - h : Nat) : Int) = (M : Int) + (m : Int) - 1 - ((i : Int) + (j : Int)) / 2 by omega, show ((h : Nat) : Int) = ((i : Int) + (j : Int)) / 2 by omega] at hl
      have HI : Aside (((i : Int) + (j : Int)) / 2 = (h : Int)) := (by omega : ((i : Int) + (j : Int)) / 2 = (h : Int))
      have D : ∀ q, SWK enc k w0 blk off d (wr.drewN q) ∧ (∀ x, x < w.heap.size → x ≠ blk → Box w x g lb sf sb → Box (wr.drewN q) x g lb sf sb) ∧ Box (wr.drewN q) w.heap.size g lb sf sb := fun q => ⟨A.out.2.2.1.drewN q, A.out.2.2.2.1, A.out.2.2.2.2⟩
      clear hh
      cases hb : ltR rk d[M + m - 1 - h]! d[h]!
      · rw [hb] at hl
        have hb' : rk d[h]! ≤ rk d[M + m - 1 - h]! := by simpa [ltR] using hb
        have hi := A.out.2.1
        clear hb F A hW hr IH
        go_wp2_with (go_at_fn g; refine hl.mono ?_; rintro e w' ⟨rfl, q, rfl⟩)
        go_roundg (j - (h + 1))
        case measure => omega
        case rel => exact ⟨h + 1, j, by congr 1; have := HI.out; omega, rfl, by omega, by omega, hj1, by omega, ⟨fun _ => by rw [show M + m - (h + 1) = M + m - 1 - h by omega]; exact hb', hi, D q⟩, (D q).2.2.1, (D q).2.2.2.1, hs1⟩
      · rw [hb] at hl
        have hb' : rk d[M + m - 1 - h]! < rk d[h]! := by simpa [ltR] using hb
        have lo := A.out.1
        clear hb F A hW hr IH
        go_wp2_with (go_at_fn g; refine hl.mono ?_; rintro e w' ⟨rfl, q, rfl⟩)
        go_roundg (h - i)
        case measure => omega
        case rel => exact ⟨i, h, rfl, by congr 1, hi1, hh1, by omega, by omega, ⟨lo, fun _ => hb', D q⟩, (D q).2.2.1, (D q).2.2.2.1, hs1⟩
    · obtain rfl : i = j := by omega
      have HC : Aside (Cut rk a i m (M + m - i) b d) := by
        have HS := HS.out
        exact ⟨by omega, by omega, by omega, by omega, hl, hr, fun g1 g2 => by have := A.out.2.1 (by omega); rwa [show M + m - i - 1 = M + m - 1 - i by omega], fun g1 g2 => A.out.1 (by omega)⟩
      have hiM : i ≤ M := by omega
      have him : i ≤ m := by omega
      have hie : M + m ≤ b + i := by omega
      have hai : a ≤ i := by omega
      have AW := A.out.2.2
      have Q := tails L F N IH a m b d hd w hne HN.out h3 M i HC.out haM hMb hiM wr AW
      obtain ⟨CR, NR, CL, NL, CT, NT⟩ := Q
      clear A AW HC HN HS hlt hk F hW hl hr IH
      by_cases k1 : i < m ∧ i < M
      · skip
        by_cases k2 : a < i ∧ i < M
        · by_cases k3 : M < M + m - i ∧ M + m - i < b
          · first
            | (exfalso; omega)
            | (have z1 : (i : Int) < (m : Int) ∧ (m : Int) < (M : Int) + (m : Int) - (i : Int) := by omega
               have z2 : (a : Int) < (i : Int) ∧ (i : Int) < (M : Int) := by omega
               have z3 : (M : Int) < (M : Int) + (m : Int) - (i : Int) ∧ (M : Int) + (m : Int) - (i : Int) < (b : Int) := by omega
               have X1 : Aside (i < m ∧ i < M) := k1
               have X2 : Aside (a < i ∧ i < M) := k2
               have X3 : Aside (M < M + m - i ∧ M + m - i < b) := k3
               clear k1 k2 k3
               go_wp2
               go_at_fn (ρ.f 42)
               refine (CR X1.out).mono ?_
               rintro e w1 ⟨rfl, T1⟩
               have c0 := T1.out.2.1
               have c1 := T1.out.2.2.1
               have hs1 := T1.out.2.2.2
               go_wp2
               go_at_fn (ρ.f 30)
               refine (CL _ T1 X2.out).mono ?_
               rintro e w2 ⟨rfl, T2⟩
               have c0 := T2.out.2.1
               have c1 := T2.out.2.2.1
               have hs1 := T2.out.2.2.2
               go_wp2
               go_at_fn (ρ.f 30)
               refine (CT _ T2 X3.out).mono ?_
               rintro e w3 ⟨rfl, T3⟩
               go_wp2
               go_end0
               exact ⟨rfl, T3.out⟩)
          · first
            | (exfalso; omega)
            | (have z1 : (i : Int) < (m : Int) ∧ (m : Int) < (M : Int) + (m : Int) - (i : Int) := by omega
               have z2 : (a : Int) < (i : Int) ∧ (i : Int) < (M : Int) := by omega
               have z3 : ¬ ((M : Int) < (M : Int) + (m : Int) - (i : Int) ∧ (M : Int) + (m : Int) - (i : Int) < (b : Int)) := by omega
               have X1 : Aside (i < m ∧ i < M) := k1
               have X2 : Aside (a < i ∧ i < M) := k2
               have X3 : Aside (¬(M < M + m - i ∧ M + m - i < b)) := k3
               clear k1 k2 k3
               go_wp2
               go_at_fn (ρ.f 42)
               refine (CR X1.out).mono ?_
               rintro e w1 ⟨rfl, T1⟩
               have c0 := T1.out.2.1
               have c1 := T1.out.2.2.1
               have hs1 := T1.out.2.2.2
               go_wp2
               go_at_fn (ρ.f 30)
               refine (CL _ T1 X2.out).mono ?_
               rintro e w2 ⟨rfl, T2⟩
               have c0 := T2.out.2.1
               have c1 := T2.out.2.2.1
               have hs1 := T2.out.2.2.2
               go_wp2
               have T3 := NT _ T2 X3.out
               go_end0
               exact ⟨rfl, T3.out⟩)
        · by_cases k3 : M < M + m - i ∧ M + m - i < b
          · first
            | (exfalso; omega)
            | (have z1 : (i : Int) < (m : Int) ∧ (m : Int) < (M : Int) + (m : Int) - (i : Int) := by omega
               have z2 : ¬ ((a : Int) < (i : Int) ∧ (i : Int) < (M : Int)) := by omega
               have z3 : (M : Int) < (M : Int) + (m : Int) - (i : Int) ∧ (M : Int) + (m : Int) - (i : Int) < (b : Int) := by omega
               have X1 : Aside (i < m ∧ i < M) := k1
               have X2 : Aside (¬(a < i ∧ i < M)) := k2
               have X3 : Aside (M < M + m - i ∧ M + m - i < b) := k3
               clear k1 k2 k3
               go_wp2
               go_at_fn (ρ.f 42)
               refine (CR X1.out).mono ?_
               rintro e w1 ⟨rfl, T1⟩
               have c0 := T1.out.2.1
               have c1 := T1.out.2.2.1
               have hs1 := T1.out.2.2.2
               go_wp2
               have T2 := NL _ T1 X2.out
               go_at_fn (ρ.f 30)
               refine (CT _ T2 X3.out).mono ?_
               rintro e w3 ⟨rfl, T3⟩
               go_wp2
               go_end0
               exact ⟨rfl, T3.out⟩)
          · first
            | (exfalso; omega)
            | (have z1 : (i : Int) < (m : Int) ∧ (m : Int) < (M : Int) + (m : Int) - (i : Int) := by omega
               have z2 : ¬ ((a : Int) < (i : Int) ∧ (i : Int) < (M : Int)) := by omega
               have z3 : ¬ ((M : Int) < (M : Int) + (m : Int) - (i : Int) ∧ (M : Int) + (m : Int) - (i : Int) < (b : Int)) := by omega
               have X1 : Aside (i < m ∧ i < M) := k1
               have X2 : Aside (¬(a < i ∧ i < M)) := k2
               have X3 : Aside (¬(M < M + m - i ∧ M + m - i < b)) := k3
               clear k1 k2 k3
               go_wp2
               go_at_fn (ρ.f 42)
               refine (CR X1.out).mono ?_
               rintro e w1 ⟨rfl, T1⟩
               have c0 := T1.out.2.1
               have c1 := T1.out.2.2.1
               have hs1 := T1.out.2.2.2
               go_wp2
               have T2 := NL _ T1 X2.out
               have T3 := NT _ T2 X3.out
               go_end0
               exact ⟨rfl, T3.out⟩)
      · skip
        by_cases k2 : a < i ∧ i < M
        · by_cases k3 : M < M + m - i ∧ M + m - i < b
          · first
            | (exfalso; omega)
            | (have z1 : ¬ ((i : Int) < (m : Int) ∧ (m : Int) < (M : Int) + (m : Int) - (i : Int)) := by omega
               have z2 : (a : Int) < (i : Int) ∧ (i : Int) < (M : Int) := by omega
               have z3 : (M : Int) < (M : Int) + (m : Int) - (i : Int) ∧ (M : Int) + (m : Int) - (i : Int) < (b : Int) := by omega
               have X1 : Aside (¬(i < m ∧ i < M)) := k1
               have X2 : Aside (a < i ∧ i < M) := k2
               have X3 : Aside (M < M + m - i ∧ M + m - i < b) := k3
               clear k1 k2 k3
               go_wp2
               have T1 := NR X1.out
               go_at_fn (ρ.f 30)
               refine (CL _ T1 X2.out).mono ?_
               rintro e w2 ⟨rfl, T2⟩
               have c0 := T2.out.2.1
               have c1 := T2.out.2.2.1
               have hs1 := T2.out.2.2.2
               go_wp2
               go_at_fn (ρ.f 30)
               refine (CT _ T2 X3.out).mono ?_
               rintro e w3 ⟨rfl, T3⟩
               go_wp2
               go_end0
               exact ⟨rfl, T3.out⟩)
          · first
            | (exfalso; omega)
            | (have z1 : ¬ ((i : Int) < (m : Int) ∧ (m : Int) < (M : Int) + (m : Int) - (i : Int)) := by omega
               have z2 : (a : Int) < (i : Int) ∧ (i : Int) < (M : Int) := by omega
               have z3 : ¬ ((M : Int) < (M : Int) + (m : Int) - (i : Int) ∧ (M : Int) + (m : Int) - (i : Int) < (b : Int)) := by omega
               have X1 : Aside (¬(i < m ∧ i < M)) := k1
               have X2 : Aside (a < i ∧ i < M) := k2
               have X3 : Aside (¬(M < M + m - i ∧ M + m - i < b)) := k3
               clear k1 k2 k3
               go_wp2
               have T1 := NR X1.out
               go_at_fn (ρ.f 30)
               refine (CL _ T1 X2.out).mono ?_
               rintro e w2 ⟨rfl, T2⟩
               have c0 := T2.out.2.1
               have c1 := T2.out.2.2.1
               have hs1 := T2.out.2.2.2
               go_wp2
               have T3 := NT _ T2 X3.out
               go_end0
               exact ⟨rfl, T3.out⟩)
        · by_cases k3 : M < M + m - i ∧ M + m - i < b
          · first
            | (exfalso; omega)
            | (have z1 : ¬ ((i : Int) < (m : Int) ∧ (m : Int) < (M : Int) + (m : Int) - (i : Int)) := by omega
               have z2 : ¬ ((a : Int) < (i : Int) ∧ (i : Int) < (M : Int)) := by omega
               have z3 : (M : Int) < (M : Int) + (m : Int) - (i : Int) ∧ (M : Int) + (m : Int) - (i : Int) < (b : Int) := by omega
               have X1 : Aside (¬(i < m ∧ i < M)) := k1
               have X2 : Aside (¬(a < i ∧ i < M)) := k2
               have X3 : Aside (M < M + m - i ∧ M + m - i < b) := k3
               clear k1 k2 k3
               go_wp2
               have T1 := NR X1.out
               have T2 := NL _ T1 X2.out
               go_at_fn (ρ.f 30)
               refine (CT _ T2 X3.out).mono ?_
               rintro e w3 ⟨rfl, T3⟩
               go_wp2
               go_end0
               exact ⟨rfl, T3.out⟩)
          · first
            | (exfalso; omega)
            | (have z1 : ¬ ((i : Int) < (m : Int) ∧ (m : Int) < (M : Int) + (m : Int) - (i : Int)) := by omega
               have z2 : ¬ ((a : Int) < (i : Int) ∧ (i : Int) < (M : Int)) := by omega
               have z3 : ¬ ((M : Int) < (M : Int) + (m : Int) - (i : Int) ∧ (M : Int) + (m : Int) - (i : Int) < (b : Int)) := by omega
               have X1 : Aside (¬(i < m ∧ i < M)) := k1
               have X2 : Aside (¬(a < i ∧ i < M)) := k2
               have X3 : Aside (¬(M < M + m - i ∧ M + m - i < b)) := k3
               clear k1 k2 k3
               go_wp2
               have T1 := NR X1.out
               have T2 := NL _ T1 X2.out
               have T3 := NT _ T2 X3.out
               go_end0
               exact ⟨rfl, T3.out⟩)

set_option maxHeartbeats 4000000 in
set_option maxRecDepth 1000000 in
theorem Any.merge_high (L : LaysGt.n30 P ρ) {enc : α → List Value} {k g sf blk off size : Nat} {lb sb : Array Value} {rk : α → Nat} {w0 : World} (F : Fam P enc k g lb sf sb blk off size rk w0)
    (N : Nat) (IH : ∀ (a m b : Nat) (d : Array α) (w : World), b - a < N → d.size = size → SWK enc k w0 blk off d w → a < m → m < b → b ≤ size → Srt rk a m d → Srt rk m b d → Calls P (ρ.f 30) #[dat g lb sf sb, .int .i64 a, .int .i64 m, .int .i64 b] w (Merged rk enc k g lb sf sb blk off w0 w a b d))
    (a m b : Nat) (d : Array α) (hd : d.size = size) (w : World) (hW : SWK enc k w0 blk off d w) (hN : b - a = N) (h1 : a + 1 < m) (h2 : m + 1 < b) (h3 : b ≤ size) (hl : Srt rk a m d) (hr : Srt rk m b d) (M : Nat) (hM : ((a : Int) + (b : Int)) / 2 = (M : Int)) (hMm : m ≤ M) :
    Calls P (ρ.f 30) #[dat g lb sf sb, .int .i64 a, .int .i64 m, .int .i64 b] w (Merged rk enc k g lb sf sb blk off w0 w a b d) := by
  have mixed := L.mixed; have t0 := L.t0; have a0 := L.a0; have z0 := L.z0; have v0 := L.v0; have t3 := L.t3; have a3 := L.a3; have z3 := L.z3; have v3 := L.v3; have t4 := L.t4; have a4 := L.a4; have z4 := L.z4; have v4 := L.v4; have t26 := L.t26; have a26 := L.a26; have z26 := L.z26; have v26 := L.v26; have t38 := L.t38; have a38 := L.a38; have z38 := L.z38; have v38 := L.v38; have t42 := L.t42; have a42 := L.a42; have z42 := L.z42; have v42 := L.v42; have t47 := L.t47; have a47 := L.a47; have z47 := L.z47; have v47 := L.v47
  have u42 := run_underlying L.t42
  have e42 : ∀ args w, (callFunc (ρ.f 42) args).run P w = .ok (.enter (ρ.f 42) args) w := enters_of L.f42 (by kernel_rfl) rfl
  have e30 : ∀ args w, (callFunc (ρ.f 30) args).run P w = .ok (.enter (ρ.f 30) args) w := enters_of L.f30 (by kernel_rfl) rfl
  have hsz := F.sz
  have hne : w.heap.size ≠ blk := by have := hW.lt F.blk; omega
  have hm0 : (((m : Int) - (a : Int)) == 1) = false := by rw [beq_eq_false_iff_ne]; omega
  have hm1 : (((b : Int) - (m : Int)) == 1) = false := by rw [beq_eq_false_iff_ne]; omega
  have eg := F.eg
  have hdm : decide (M < m) = false := by simp; omega
  have HN : Aside (b - a = N) := hN
  clear hN
  obtain ⟨s0, hs0⟩ : ∃ s0, s0 = a := ⟨_, rfl⟩
  obtain ⟨r0, hr0⟩ : ∃ r0, r0 = m := ⟨_, rfl⟩
  have f1 : a ≤ s0 := by omega
  have f2 : s0 ≤ r0 := by omega
  have f3 : r0 ≤ m := by omega
  have f4 : r0 ≤ M := by omega
  have f5 : M + m ≤ b + s0 := by omega
  have HS : Aside ((s0 = a ∨ M + m = b + s0) ∧ (r0 = m ∨ r0 = M)) := ⟨by omega, by omega⟩
  have hb : b < 4611686018427387904 := by omega
  have hMb : M < b := by omega
  have haM : a < M := by omega
  go_enter L.f30, BodyGt.n30_ntmps ρ
  go_wp2
  go_loopg [18, 19] (r0 - s0) (fun kx s8 s9 wr => ∃ (i j : Nat), s8 = .int .i64 i ∧ s9 = .int .i64 j ∧ s0 ≤ i ∧ i ≤ j ∧ j ≤ r0 ∧ j - i ≤ kx ∧ Aside ((s0 < i → rk d[i - 1]! ≤ rk d[M + m - i]!) ∧ (j < r0 → rk d[M + m - 1 - j]! < rk d[j]!) ∧ SWK enc k w0 blk off d wr ∧ (∀ x, x < w.heap.size → x ≠ blk → Box w x g lb sf sb → Box wr x g lb sf sb) ∧ Box wr w.heap.size g lb sf sb) ∧
      wr.cell? ⟨w.heap.size, 0, none⟩ = some (.func (.func g) #[] lb) ∧ wr.cell? ⟨w.heap.size, 1, none⟩ = some (.func (.func sf) #[] sb) ∧ w.heap.size < wr.heap.size)
  case atStart => exact ⟨s0, r0, by congr 1; omega, by congr 1; omega, Nat.le_refl _, by omega, Nat.le_refl _, Nat.le_refl _,
      ⟨fun h => by omega, fun h => by omega, hW.alloc _, fun x hx _ hB => hB.alloc hx _, box_new _ _ _ _ _ _⟩, by simp, by simp, by simp⟩
  case round =>
    clear hs0 hr0
    obtain ⟨i, j, rfl, rfl, hi1, hij, hj1, hk, A, c0, c1, hs1⟩ := hrel
    by_cases hlt : i < j
    · obtain ⟨h, hh⟩ : ∃ h, h = (i + j) / 2 := ⟨_, rfl⟩
      have hh1 : i ≤ h := by omega
      have hh2 : h < j := by omega
      have hhm : h < M + m := by omega
      have hl := A.out.2.2.1.less F.less hd (M + m - 1 - h) h (by omega) (by omega)
      rw [show ((M + m - 1 - h : Nat) : Int) = (M : Int) + (m : Int) - 1 - ((i : Int) + (j : Int)) / 2 by omega, show ((h : Nat) : Int) = ((i : Int) + (j : Int)) / 2 by omega] at hl
      have HI : Aside (((i : Int) + (j : Int)) / 2 = (h : Int)) := (by omega : ((i : Int) + (j : Int)) / 2 = (h : Int))
      have D : ∀ q, SWK enc k w0 blk off d (wr.drewN q) ∧ (∀ x, x < w.heap.size → x ≠ blk → Box w x g lb sf sb → Box (wr.drewN q) x g lb sf sb) ∧ Box (wr.drewN q) w.heap.size g lb sf sb := fun q => ⟨A.out.2.2.1.drewN q, A.out.2.2.2.1, A.out.2.2.2.2⟩
      clear hh
      cases hb : ltR rk d[M + m - 1 - h]! d[h]!
      · rw [hb] at hl
        have hb' : rk d[h]! ≤ rk d[M + m - 1 - h]! := by simpa [ltR] using hb
        have hi := A.out.2.1
        clear hb F A hW hr IH
        go_wp2_with (go_at_fn g; refine hl.mono ?_; rintro e w' ⟨rfl, q, rfl⟩)
        go_roundg (j - (h + 1))
        case measure => omega
        case rel => exact ⟨h + 1, j, by congr 1; have := HI.out; omega, rfl, by omega, by omega, hj1, by omega, ⟨fun _ => by rw [show M + m - (h + 1) = M + m - 1 - h by omega]; exact hb', hi, D q⟩, (D q).2.2.1, (D q).2.2.2.1, hs1⟩
      · rw [hb] at hl
        have hb' : rk d[M + m - 1 - h]! < rk d[h]! := by simpa [ltR] using hb
        have lo := A.out.1
        clear hb F A hW hr IH
        go_wp2_with (go_at_fn g; refine hl.mono ?_; rintro e w' ⟨rfl, q, rfl⟩)
        go_roundg (h - i)
        case measure => omega
        case rel => exact ⟨i, h, rfl, by congr 1, hi1, hh1, by omega, by omega, ⟨lo, fun _ => hb', D q⟩, (D q).2.2.1, (D q).2.2.2.1, hs1⟩
    · obtain rfl : i = j := by omega
      have HC : Aside (Cut rk a i m (M + m - i) b d) := by
        have HS := HS.out
        exact ⟨by omega, by omega, by omega, by omega, hl, hr, fun g1 g2 => by have := A.out.2.1 (by omega); rwa [show M + m - i - 1 = M + m - 1 - i by omega], fun g1 g2 => A.out.1 (by omega)⟩
      have hiM : i ≤ M := by omega
      have him : i ≤ m := by omega
      have hie : M + m ≤ b + i := by omega
      have hai : a ≤ i := by omega
      have AW := A.out.2.2
      have Q := tails L F N IH a m b d hd w hne HN.out h3 M i HC.out haM hMb hiM wr AW
      obtain ⟨CR, NR, CL, NL, CT, NT⟩ := Q
      clear A AW HC HN HS hlt hk F hW hl hr IH
      by_cases k1 : i < m ∧ i < M
      · skip
        by_cases k2 : a < i ∧ i < M
        · by_cases k3 : M < M + m - i ∧ M + m - i < b
          · first
            | (exfalso; omega)
            | (have z1 : (i : Int) < (m : Int) ∧ (m : Int) < (M : Int) + (m : Int) - (i : Int) := by omega
               have z2 : (a : Int) < (i : Int) ∧ (i : Int) < (M : Int) := by omega
               have z3 : (M : Int) < (M : Int) + (m : Int) - (i : Int) ∧ (M : Int) + (m : Int) - (i : Int) < (b : Int) := by omega
               have X1 : Aside (i < m ∧ i < M) := k1
               have X2 : Aside (a < i ∧ i < M) := k2
               have X3 : Aside (M < M + m - i ∧ M + m - i < b) := k3
               clear k1 k2 k3
               go_wp2
               go_at_fn (ρ.f 42)
               refine (CR X1.out).mono ?_
               rintro e w1 ⟨rfl, T1⟩
               have c0 := T1.out.2.1
               have c1 := T1.out.2.2.1
               have hs1 := T1.out.2.2.2
               go_wp2
               go_at_fn (ρ.f 30)
               refine (CL _ T1 X2.out).mono ?_
               rintro e w2 ⟨rfl, T2⟩
               have c0 := T2.out.2.1
               have c1 := T2.out.2.2.1
               have hs1 := T2.out.2.2.2
               go_wp2
               go_at_fn (ρ.f 30)
               refine (CT _ T2 X3.out).mono ?_
               rintro e w3 ⟨rfl, T3⟩
               go_wp2
               go_end0
               exact ⟨rfl, T3.out⟩)
          · first
            | (exfalso; omega)
            | (have z1 : (i : Int) < (m : Int) ∧ (m : Int) < (M : Int) + (m : Int) - (i : Int) := by omega
               have z2 : (a : Int) < (i : Int) ∧ (i : Int) < (M : Int) := by omega
               have z3 : ¬ ((M : Int) < (M : Int) + (m : Int) - (i : Int) ∧ (M : Int) + (m : Int) - (i : Int) < (b : Int)) := by omega
               have X1 : Aside (i < m ∧ i < M) := k1
               have X2 : Aside (a < i ∧ i < M) := k2
               have X3 : Aside (¬(M < M + m - i ∧ M + m - i < b)) := k3
               clear k1 k2 k3
               go_wp2
               go_at_fn (ρ.f 42)
               refine (CR X1.out).mono ?_
               rintro e w1 ⟨rfl, T1⟩
               have c0 := T1.out.2.1
               have c1 := T1.out.2.2.1
               have hs1 := T1.out.2.2.2
               go_wp2
               go_at_fn (ρ.f 30)
               refine (CL _ T1 X2.out).mono ?_
               rintro e w2 ⟨rfl, T2⟩
               have c0 := T2.out.2.1
               have c1 := T2.out.2.2.1
               have hs1 := T2.out.2.2.2
               go_wp2
               have T3 := NT _ T2 X3.out
               go_end0
               exact ⟨rfl, T3.out⟩)
        · by_cases k3 : M < M + m - i ∧ M + m - i < b
          · first
            | (exfalso; omega)
            | (have z1 : (i : Int) < (m : Int) ∧ (m : Int) < (M : Int) + (m : Int) - (i : Int) := by omega
               have z2 : ¬ ((a : Int) < (i : Int) ∧ (i : Int) < (M : Int)) := by omega
               have z3 : (M : Int) < (M : Int) + (m : Int) - (i : Int) ∧ (M : Int) + (m : Int) - (i : Int) < (b : Int) := by omega
               have X1 : Aside (i < m ∧ i < M) := k1
               have X2 : Aside (¬(a < i ∧ i < M)) := k2
               have X3 : Aside (M < M + m - i ∧ M + m - i < b) := k3
               clear k1 k2 k3
               go_wp2
               go_at_fn (ρ.f 42)
               refine (CR X1.out).mono ?_
               rintro e w1 ⟨rfl, T1⟩
               have c0 := T1.out.2.1
               have c1 := T1.out.2.2.1
               have hs1 := T1.out.2.2.2
               go_wp2
               have T2 := NL _ T1 X2.out
               go_at_fn (ρ.f 30)
               refine (CT _ T2 X3.out).mono ?_
               rintro e w3 ⟨rfl, T3⟩
               go_wp2
               go_end0
               exact ⟨rfl, T3.out⟩)
          · first
            | (exfalso; omega)
            | (have z1 : (i : Int) < (m : Int) ∧ (m : Int) < (M : Int) + (m : Int) - (i : Int) := by omega
               have z2 : ¬ ((a : Int) < (i : Int) ∧ (i : Int) < (M : Int)) := by omega
               have z3 : ¬ ((M : Int) < (M : Int) + (m : Int) - (i : Int) ∧ (M : Int) + (m : Int) - (i : Int) < (b : Int)) := by omega
               have X1 : Aside (i < m ∧ i < M) := k1
               have X2 : Aside (¬(a < i ∧ i < M)) := k2
               have X3 : Aside (¬(M < M + m - i ∧ M + m - i < b)) := k3
               clear k1 k2 k3
               go_wp2
               go_at_fn (ρ.f 42)
               refine (CR X1.out).mono ?_
               rintro e w1 ⟨rfl, T1⟩
               have c0 := T1.out.2.1
               have c1 := T1.out.2.2.1
               have hs1 := T1.out.2.2.2
               go_wp2
               have T2 := NL _ T1 X2.out
               have T3 := NT _ T2 X3.out
               go_end0
               exact ⟨rfl, T3.out⟩)
      · skip
        by_cases k2 : a < i ∧ i < M
        · by_cases k3 : M < M + m - i ∧ M + m - i < b
          · first
            | (exfalso; omega)
            | (have z1 : ¬ ((i : Int) < (m : Int) ∧ (m : Int) < (M : Int) + (m : Int) - (i : Int)) := by omega
               have z2 : (a : Int) < (i : Int) ∧ (i : Int) < (M : Int) := by omega
               have z3 : (M : Int) < (M : Int) + (m : Int) - (i : Int) ∧ (M : Int) + (m : Int) - (i : Int) < (b : Int) := by omega
               have X1 : Aside (¬(i < m ∧ i < M)) := k1
               have X2 : Aside (a < i ∧ i < M) := k2
               have X3 : Aside (M < M + m - i ∧ M + m - i < b) := k3
               clear k1 k2 k3
               go_wp2
               have T1 := NR X1.out
               go_at_fn (ρ.f 30)
               refine (CL _ T1 X2.out).mono ?_
               rintro e w2 ⟨rfl, T2⟩
               have c0 := T2.out.2.1
               have c1 := T2.out.2.2.1
               have hs1 := T2.out.2.2.2
               go_wp2
               go_at_fn (ρ.f 30)
               refine (CT _ T2 X3.out).mono ?_
               rintro e w3 ⟨rfl, T3⟩
               go_wp2
               go_end0
               exact ⟨rfl, T3.out⟩)
          · first
            | (exfalso; omega)
            | (have z1 : ¬ ((i : Int) < (m : Int) ∧ (m : Int) < (M : Int) + (m : Int) - (i : Int)) := by omega
               have z2 : (a : Int) < (i : Int) ∧ (i : Int) < (M : Int) := by omega
               have z3 : ¬ ((M : Int) < (M : Int) + (m : Int) - (i : Int) ∧ (M : Int) + (m : Int) - (i : Int) < (b : Int)) := by omega
               have X1 : Aside (¬(i < m ∧ i < M)) := k1
               have X2 : Aside (a < i ∧ i < M) := k2
               have X3 : Aside (¬(M < M + m - i ∧ M + m - i < b)) := k3
               clear k1 k2 k3
               go_wp2
               have T1 := NR X1.out
               go_at_fn (ρ.f 30)
               refine (CL _ T1 X2.out).mono ?_
               rintro e w2 ⟨rfl, T2⟩
               have c0 := T2.out.2.1
               have c1 := T2.out.2.2.1
               have hs1 := T2.out.2.2.2
               go_wp2
               have T3 := NT _ T2 X3.out
               go_end0
               exact ⟨rfl, T3.out⟩)
        · by_cases k3 : M < M + m - i ∧ M + m - i < b
          · first
            | (exfalso; omega)
            | (have z1 : ¬ ((i : Int) < (m : Int) ∧ (m : Int) < (M : Int) + (m : Int) - (i : Int)) := by omega
               have z2 : ¬ ((a : Int) < (i : Int) ∧ (i : Int) < (M : Int)) := by omega
               have z3 : (M : Int) < (M : Int) + (m : Int) - (i : Int) ∧ (M : Int) + (m : Int) - (i : Int) < (b : Int) := by omega
               have X1 : Aside (¬(i < m ∧ i < M)) := k1
               have X2 : Aside (¬(a < i ∧ i < M)) := k2
               have X3 : Aside (M < M + m - i ∧ M + m - i < b) := k3
               clear k1 k2 k3
               go_wp2
               have T1 := NR X1.out
               have T2 := NL _ T1 X2.out
               go_at_fn (ρ.f 30)
               refine (CT _ T2 X3.out).mono ?_
               rintro e w3 ⟨rfl, T3⟩
               go_wp2
               go_end0
               exact ⟨rfl, T3.out⟩)
          · first
            | (exfalso; omega)
            | (have z1 : ¬ ((i : Int) < (m : Int) ∧ (m : Int) < (M : Int) + (m : Int) - (i : Int)) := by omega
               have z2 : ¬ ((a : Int) < (i : Int) ∧ (i : Int) < (M : Int)) := by omega
               have z3 : ¬ ((M : Int) < (M : Int) + (m : Int) - (i : Int) ∧ (M : Int) + (m : Int) - (i : Int) < (b : Int)) := by omega
               have X1 : Aside (¬(i < m ∧ i < M)) := k1
               have X2 : Aside (¬(a < i ∧ i < M)) := k2
               have X3 : Aside (¬(M < M + m - i ∧ M + m - i < b)) := k3
               clear k1 k2 k3
               go_wp2
               have T1 := NR X1.out
               have T2 := NL _ T1 X2.out
               have T3 := NT _ T2 X3.out
               go_end0
               exact ⟨rfl, T3.out⟩)
end Go.Proofs.YthnkllhfmjbbmaaGreatDoor.S
