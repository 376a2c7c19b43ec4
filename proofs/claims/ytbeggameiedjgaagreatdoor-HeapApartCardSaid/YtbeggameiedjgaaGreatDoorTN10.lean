/-
  sort.SliceStable: symMerge_func where the second part is one element.
-/
import Derived.Test.YtbeggameiedjgaaGreatDoorTN09
namespace Go.Proofs.YtbeggameiedjgaaGreatDoor.S
open Go.Shelf Go.RowKit Go.Lib Go.Sort
variable {P : Program} {ρ : Ren} {α : Type} [Inhabited α]

set_option maxHeartbeats 4000000 in
set_option maxRecDepth 1000000 in
theorem Any.merge_right (L : LaysGt.n30 P ρ) {enc : α → List Value} {k g sf blk off size : Nat} {lb sb : Array Value} {rk : α → Nat} {w0 : World} (F : Fam P enc k g lb sf sb blk off size rk w0)
    (a m b : Nat) (d : Array α) (hd : d.size = size) (w : World) (hW : SWK enc k w0 blk off d w) (h1 : a + 1 < m) (h2 : b = m + 1) (h3 : b ≤ size) (hl : Srt rk a m d) :
    Calls P (ρ.f 30) #[dat g lb sf sb, .int .i64 a, .int .i64 m, .int .i64 b] w (Merged rk enc k g lb sf sb blk off w0 w a b d) := by
  have mixed := L.mixed; have t0 := L.t0; have a0 := L.a0; have z0 := L.z0; have v0 := L.v0; have t3 := L.t3; have a3 := L.a3; have z3 := L.z3; have v3 := L.v3; have t4 := L.t4; have a4 := L.a4; have z4 := L.z4; have v4 := L.v4; have t26 := L.t26; have a26 := L.a26; have z26 := L.z26; have v26 := L.v26; have t38 := L.t38; have a38 := L.a38; have z38 := L.z38; have v38 := L.v38; have t42 := L.t42; have a42 := L.a42; have z42 := L.z42; have v42 := L.v42; have t47 := L.t47; have a47 := L.a47; have z47 := L.z47; have v47 := L.v47
  have u42 := run_underlying L.t42
  have hsz := F.sz
  have hne : w.heap.size ≠ blk := by have := hW.lt F.blk; omega
  have hm0 : (((m : Int) - (a : Int)) == 1) = false := by rw [beq_eq_false_iff_ne]; omega
  have hm1 : ((b : Int) - (m : Int)) = 1 := by omega
  have hb1 : b = m + 1 := h2
  have HB1 : Aside (b = m + 1) := h2
  have eg := F.eg
  clear h2 hb1
  go_enter L.f30, BodyGt.n30_ntmps ρ
  go_wp2
  go_loopg [12, 13] (m - a) (fun kx s8 s9 wr => ∃ (i j : Nat), s8 = .int .i64 i ∧ s9 = .int .i64 j ∧ a ≤ i ∧ i ≤ j ∧ j ≤ m ∧ j - i ≤ kx ∧ Aside ((a < i → rk d[i - 1]! ≤ rk d[m]!) ∧ (j < m → rk d[m]! < rk d[j]!) ∧ SWK enc k w0 blk off d wr ∧ (∀ x, x < w.heap.size → x ≠ blk → Box w x g lb sf sb → Box wr x g lb sf sb) ∧ Box wr w.heap.size g lb sf sb) ∧
      wr.cell? ⟨w.heap.size, 0, none⟩ = some (.func (.func g) #[] lb) ∧ wr.cell? ⟨w.heap.size, 1, none⟩ = some (.func (.func sf) #[] sb) ∧ w.heap.size < wr.heap.size)
  case atStart => exact ⟨a, m, rfl, rfl, Nat.le_refl _, by omega, Nat.le_refl _, Nat.le_refl _,
      ⟨fun h => by omega, fun h => by omega, hW.alloc _, fun x hx _ hB => hB.alloc hx _, box_new _ _ _ _ _ _⟩, by simp, by simp, by simp⟩
  case round =>
    obtain ⟨i, j, rfl, rfl, hi1, hij, hj1, hk, A, c0, c1, hs1⟩ := hrel
    by_cases hlt : i < j
    · obtain ⟨h, hh⟩ : ∃ h, h = (i + j) / 2 := ⟨_, rfl⟩
      have hh1 : i ≤ h := by omega
      have hh2 : h < j := by omega
      have hl := A.out.2.2.1.less F.less hd m h (by omega) (by omega)
      rw [show ((h : Nat) : Int) = ((i : Int) + (j : Int)) / 2 by omega] at hl
      have HI : Aside (((i : Int) + (j : Int)) / 2 = (h : Int)) := (by omega : ((i : Int) + (j : Int)) / 2 = (h : Int))
      have D : ∀ q, SWK enc k w0 blk off d (wr.drewN q) ∧ (∀ x, x < w.heap.size → x ≠ blk → Box w x g lb sf sb → Box (wr.drewN q) x g lb sf sb) ∧ Box (wr.drewN q) w.heap.size g lb sf sb := fun q => ⟨A.out.2.2.1.drewN q, A.out.2.2.2.1, A.out.2.2.2.2⟩
      clear hh
      cases hb : ltR rk d[m]! d[h]!
      · rw [hb] at hl
        have hb' : rk d[h]! ≤ rk d[m]! := by simpa [ltR] using hb
        have hi := A.out.2.1
        clear hb F A
        go_wp2_with (go_at_fn g; refine hl.mono ?_; rintro e w' ⟨rfl, q, rfl⟩)
        go_roundg (j - (h + 1))
        case measure => omega
        case rel => exact ⟨h + 1, j, by congr 1; have := HI.out; omega, rfl, by omega, by omega, hj1, by omega, ⟨fun _ => hb', hi, D q⟩, (D q).2.2.1, (D q).2.2.2.1, hs1⟩
      · rw [hb] at hl
        have hb' : rk d[m]! < rk d[h]! := by simpa [ltR] using hb
        have lo := A.out.1
        clear hb F A
        go_wp2_with (go_at_fn g; refine hl.mono ?_; rintro e w' ⟨rfl, q, rfl⟩)
        go_roundg (h - i)
        case measure => omega
        case rel => exact ⟨i, h, rfl, by congr 1, hi1, hh1, by omega, by omega, ⟨lo, fun _ => hb', D q⟩, (D q).2.2.1, (D q).2.2.2.1, hs1⟩
    · obtain rfl : i = j := by omega
      go_wp2
      go_loopg [15] (m - i) (fun kx s11 wr2 => ∃ (t : Nat) (dk : Array α), s11 = .int .i64 t ∧ i + kx = t ∧ t ≤ m ∧ Aside (Rot t m (m + 1) d dk ∧ SWK enc k w0 blk off dk wr2 ∧ (∀ x, x < w.heap.size → x ≠ blk → Box w x g lb sf sb → Box wr2 x g lb sf sb) ∧ Box wr2 w.heap.size g lb sf sb) ∧
        wr2.cell? ⟨w.heap.size, 1, none⟩ = some (.func (.func sf) #[] sb) ∧ w.heap.size < wr2.heap.size)
      case atStart => exact ⟨m, d, rfl, by omega, Nat.le_refl _, ⟨rot_none m d, A.out.2.2.1, A.out.2.2.2.1, A.out.2.2.2.2⟩, c1, hs1⟩
      case round =>
        clear c0 c1 hs1 hk
        obtain ⟨t, dk, rfl, ht1, ht2, B, c1, hs1⟩ := hrel
        cases gk with
        | zero =>
          obtain rfl : i = t := by omega
          clear ht1
          go_wp2
          go_end0
          have hb1 := HB1.out
          subst hb1
          have e := one_right (a := a) (m := m) (i := i) hi1 hj1 hl A.out.1 A.out.2.1 B.out.1
          exact ⟨rfl, dk, e.1, e.2, B.out.2.1, B.out.2.2.1⟩
        | succ kx =>
          obtain ⟨u, rfl⟩ : ∃ u, t = u + 1 := ⟨i + kx, by omega⟩
          have hbs := HB1.out
          obtain ⟨w1, hs, S, hB⟩ := F.swp B.out.2.1 (by rw [B.out.1.size, hd]) (u + 1) u (by omega) (by omega)
          rw [show ((u : Nat) : Int) = ((u + 1 : Nat) : Int) - 1 by omega] at hs
          have A2 : Aside (Rot u m (m + 1) d (swp dk (u + 1) u) ∧ SWK enc k w0 blk off (swp dk (u + 1) u) w1 ∧ (∀ x, x < w.heap.size → x ≠ blk → Box w x g lb sf sb → Box w1 x g lb sf sb) ∧ Box w1 w.heap.size g lb sf sb) :=
            ⟨rot_down B.out.1 (by omega) (by omega), S, fun x hx hx2 hb => hB x hx2 (B.out.2.2.1 x hx hx2 hb), hB _ hne B.out.2.2.2⟩
          have ht3 : i < u + 1 := by omega
          have hu : i + kx = u := by omega
          have HU : Aside (i + kx = u) := hu
          have hum : u < 4611686018427387904 := by omega
          have hum2 : u ≤ m := by omega
          clear B S hB F A hW hl hbs ht1 hu
          generalize ht : u + 1 = t at *
          have HT : Aside (u + 1 = t) := ht
          clear ht
          have ht4 : t < 4611686018427387904 := by have := HT.out; omega
          have ht5 : 1 ≤ t := by have := HT.out; omega
          go_wp2
          go_roundg kx
          case measure => omega
          case rel => exact ⟨u, _, by congr 1; have := HT.out; omega, HU.out, hum2, A2, A2.out.2.2.2.2.1, A2.out.2.2.2.2.2⟩
end Go.Proofs.YtbeggameiedjgaaGreatDoor.S
