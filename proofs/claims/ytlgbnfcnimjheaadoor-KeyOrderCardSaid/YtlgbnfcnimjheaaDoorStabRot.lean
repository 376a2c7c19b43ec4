/-
  sort.SliceStable: rotate_func.
-/
import Derived.Test.YtlgbnfcnimjheaaDoorStabSwap
namespace Go.Proofs.YtlgbnfcnimjheaaDoor.S
open Go.Shelf Go.RowKit Go.Lib Go.Sort
variable {P : Program} {ρ : Ren} {α : Type} [Inhabited α]

set_option maxHeartbeats 4000000 in
set_option maxRecDepth 1000000 in
theorem Any.rotate_cells (L : LaysGt.n42 P ρ) {enc : α → List Value} {k g sf blk off size : Nat} {lb sb : Array Value} {rk : α → Nat} {w0 : World} (F : Fam P enc k g lb sf sb blk off size rk w0)
    (a m b : Nat) (d : Array α) (hd : d.size = size) (w : World) (hW : SWK enc k w0 blk off d w) (h1 : a < m) (h2 : m < b) (h3 : b ≤ size) :
    Calls P (ρ.f 42) #[dat g lb sf sb, .int .i64 a, .int .i64 m, .int .i64 b] w fun e w' => e = .returned (.tuple #[]) ∧ ∃ d', Rot a m b d d' ∧ SWK enc k w0 blk off d' w' ∧ ∀ x, x < w.heap.size → x ≠ blk → Box w x g lb sf sb → Box w' x g lb sf sb := by
  have mixed := L.mixed; have t0 := L.t0; have a0 := L.a0; have z0 := L.z0; have v0 := L.v0; have t3 := L.t3; have a3 := L.a3; have z3 := L.z3; have v3 := L.v3; have t4 := L.t4; have a4 := L.a4; have z4 := L.z4; have v4 := L.v4; have t26 := L.t26; have a26 := L.a26; have z26 := L.z26; have v26 := L.v26; have t38 := L.t38; have a38 := L.a38; have z38 := L.z38; have v38 := L.v38; have t42 := L.t42; have a42 := L.a42; have z42 := L.z42; have v42 := L.v42
  have u42 := run_underlying L.t42
  have e49 : ∀ args w, (callFunc (ρ.f 49) args).run P w = .ok (.enter (ρ.f 49) args) w := enters_of L.f49 (by kernel_rfl) rfl
  have hsz := F.sz
  have hne : w.heap.size ≠ blk := by have := hW.lt F.blk; omega
  go_enter L.f42, BodyGt.n42_ntmps ρ
  go_wp2
  go_loopg [8, 9] (b - a) (fun kx s8 s9 wr => ∃ (i j : Nat) (dk : Array α), s8 = .int .i64 i ∧ s9 = .int .i64 j ∧ 1 ≤ i ∧ 1 ≤ j ∧ i ≤ m - a ∧ j ≤ b - m ∧ i + j ≤ kx ∧ Aside ((∀ d', Rot (m - i) m (m + j) dk d' → Rot a m b d d') ∧ dk.size = d.size ∧ SWK enc k w0 blk off dk wr ∧ (∀ x, x < w.heap.size → x ≠ blk → Box w x g lb sf sb → Box wr x g lb sf sb) ∧ Box wr w.heap.size g lb sf sb) ∧
      wr.cell? ⟨w.heap.size, 0, none⟩ = some (.func (.func g) #[] lb) ∧ wr.cell? ⟨w.heap.size, 1, none⟩ = some (.func (.func sf) #[] sb) ∧ w.heap.size < wr.heap.size)
  case atStart => exact ⟨m - a, b - m, d, by congr 1; omega, by congr 1; omega, by omega, by omega, Nat.le_refl _, Nat.le_refl _, by omega,
      ⟨fun d' h => by rwa [show m - (m - a) = a by omega, show m + (b - m) = b by omega] at h, rfl, hW.alloc _, fun x hx _ hB => hB.alloc hx _, box_new _ _ _ _ _ _⟩, by simp, by simp, by simp⟩
  case round =>
    obtain ⟨i, j, dk, rfl, rfl, hi1, hj1, hi2, hj2, hk, A, c0, c1, hs1⟩ := hrel
    have E : ∀ (x y z : Nat) (X Y : Int), X = (x : Int) → Y = (y : Int) → x + z ≤ y → y + z ≤ size → Calls P (ρ.f 49) #[dat g lb sf sb, .int .i64 X, .int .i64 Y, .int .i64 z] wr fun e w' => e = .returned (.tuple #[]) ∧ ∃ d', Swd x y z dk d' ∧ SWK enc k w0 blk off d' w' ∧ ∀ x, x < wr.heap.size → x ≠ blk → Box wr x g lb sf sb → Box w' x g lb sf sb :=
      fun x y z X Y hX hY g1 g2 => by rw [hX, hY]; exact Any.swapRange_cells (P := P) (ρ := ρ) { L with } F x y z dk (by rw [A.out.2.1, hd]) wr A.out.2.2.1 g1 g2
    have N : ∀ (w2 : World) (d2 : Array α) (i2 j2 : Nat), (∀ d', Rot (m - i2) m (m + j2) d2 d' → Rot (m - i) m (m + j) dk d') → d2.size = dk.size → SWK enc k w0 blk off d2 w2 → (∀ x, x < wr.heap.size → x ≠ blk → Box wr x g lb sf sb → Box w2 x g lb sf sb) →
        Aside ((∀ d', Rot (m - i2) m (m + j2) d2 d' → Rot a m b d d') ∧ d2.size = d.size ∧ SWK enc k w0 blk off d2 w2 ∧ (∀ x, x < w.heap.size → x ≠ blk → Box w x g lb sf sb → Box w2 x g lb sf sb) ∧ Box w2 w.heap.size g lb sf sb) :=
      fun w2 d2 i2 j2 q1 q2 q3 q4 => ⟨fun d' hr => A.out.1 d' (q1 d' hr), q2.trans A.out.2.1, q3, fun x hx1 hx2 hb => q4 x (by omega) hx2 (A.out.2.2.2.1 x hx1 hx2 hb), q4 _ hs1 hne A.out.2.2.2.2⟩
    have him : i ≤ m := by omega
    clear hW F
    by_cases hij : i = j
    · subst hij
      have e := E (m - i) m i ((m : Int) - (i : Int)) m (by omega) rfl (by omega) (by omega)
      have N' := fun (w2 : World) (d2 : Array α) (q : Swd (m - i) m i dk d2) => A.out.1 d2 (rot_end him q)
      have K := A.out.2.2.2.1
      clear A E N
      go_wp2_with (go_at_fn (ρ.f 49); refine e.mono ?_; rintro e w2 ⟨rfl, d2, q1, q2, q3⟩)
      go_end0
      exact ⟨rfl, d2, N' w2 d2 q1, q2, fun x h1 h2 h3 => q3 x (by omega) h2 (K x h1 h2 h3)⟩
    · by_cases hlt : j < i
      · have e := E (m - i) m j ((m : Int) - (i : Int)) m (by omega) rfl (by omega) (by omega)
        have N' := fun (w2 : World) (d2 : Array α) (q : Swd (m - i) m j dk d2) => N w2 d2 (i - j) j (fun d' => rot_left him hlt q) q.size
        clear A E N
        go_wp2_with (go_at_fn (ρ.f 49); refine e.mono ?_; rintro e w2 ⟨rfl, d2, q1, q2, q3⟩)
        have A2 := N' w2 d2 q1 q2 q3
        go_roundg (i - j + j)
        case measure => omega
        case rel => exact ⟨i - j, j, d2, by congr 1; omega, rfl, by omega, by omega, by omega, by omega, by omega, A2, A2.out.2.2.2.2.1, A2.out.2.2.2.2.2.1, A2.out.2.2.2.2.2.2⟩
      · have hgt : i < j := by omega
        have e := E (m - i) (m + j - i) i ((m : Int) - (i : Int)) ((m : Int) + (j : Int) - (i : Int)) (by omega) (by omega) (by omega) (by omega)
        have N' := fun (w2 : World) (d2 : Array α) (q : Swd (m - i) (m + j - i) i dk d2) => N w2 d2 i (j - i) (fun d' => rot_right him hgt q) q.size
        clear A E N
        go_wp2_with (go_at_fn (ρ.f 49); refine e.mono ?_; rintro e w2 ⟨rfl, d2, q1, q2, q3⟩)
        have A2 := N' w2 d2 q1 q2 q3
        go_roundg (i + (j - i))
        case measure => omega
        case rel => exact ⟨i, j - i, d2, rfl, by congr 1; omega, by omega, by omega, by omega, by omega, by omega, A2, A2.out.2.2.2.2.1, A2.out.2.2.2.2.2.1, A2.out.2.2.2.2.2.2⟩
end Go.Proofs.YtlgbnfcnimjheaaDoor.S
