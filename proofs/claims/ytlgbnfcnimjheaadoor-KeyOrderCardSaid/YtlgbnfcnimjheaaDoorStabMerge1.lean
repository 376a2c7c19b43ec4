/-
  sort.SliceStable: symMerge_func where one of the two parts is one element.
-/
import Derived.Test.YtlgbnfcnimjheaaDoorStabRot
namespace Go.Proofs.YtlgbnfcnimjheaaDoor.S
open Go.Shelf Go.RowKit Go.Lib Go.Sort
variable {P : Program} {ρ : Ren} {α : Type} [Inhabited α]

/-- what a merge comes to -/
def Merged (rk : α → Nat) (enc : α → List Value) (k g : Nat) (lb : Array Value) (sf : Nat) (sb : Array Value) (blk off : Nat) (w0 w : World) (a b : Nat) (d : Array α) (e : Ending) (w' : World) : Prop :=
  e = .returned (.tuple #[]) ∧ ∃ d', Stb rk a b d d' ∧ Srt rk a b d' ∧ SWK enc k w0 blk off d' w' ∧ ∀ x, x < w.heap.size → x ≠ blk → Box w x g lb sf sb → Box w' x g lb sf sb

set_option maxHeartbeats 4000000 in
set_option maxRecDepth 1000000 in
theorem Any.merge_left (L : LaysGt.n30 P ρ) {enc : α → List Value} {k g sf blk off size : Nat} {lb sb : Array Value} {rk : α → Nat} {w0 : World} (F : Fam P enc k g lb sf sb blk off size rk w0)
    (a m b : Nat) (d : Array α) (hd : d.size = size) (w : World) (hW : SWK enc k w0 blk off d w) (h1 : m = a + 1) (h2 : m < b) (h3 : b ≤ size) (hr : Srt rk m b d) :
    Calls P (ρ.f 30) #[dat g lb sf sb, .int .i64 a, .int .i64 m, .int .i64 b] w (Merged rk enc k g lb sf sb blk off w0 w a b d) := by
  have mixed := L.mixed; have t0 := L.t0; have a0 := L.a0; have z0 := L.z0; have v0 := L.v0; have t3 := L.t3; have a3 := L.a3; have z3 := L.z3; have v3 := L.v3; have t4 := L.t4; have a4 := L.a4; have z4 := L.z4; have v4 := L.v4; have t26 := L.t26; have a26 := L.a26; have z26 := L.z26; have v26 := L.v26; have t38 := L.t38; have a38 := L.a38; have z38 := L.z38; have v38 := L.v38; have t42 := L.t42; have a42 := L.a42; have z42 := L.z42; have v42 := L.v42; have t47 := L.t47; have a47 := L.a47; have z47 := L.z47; have v47 := L.v47
  have u42 := run_underlying L.t42
  have hsz := F.sz
  have hne : w.heap.size ≠ blk := by have := hW.lt F.blk; omega
  have hm1 : ((m : Int) - (a : Int)) = 1 := by omega
  have eg := F.eg
  clear h1
  go_enter L.f30, BodyGt.n30_ntmps ρ
  go_wp2
  go_loopg [8, 9] (b - m) (fun kx s8 s9 wr => ∃ (i j : Nat), s8 = .int .i64 i ∧ s9 = .int .i64 j ∧ m ≤ i ∧ i ≤ j ∧ j ≤ b ∧ j - i ≤ kx ∧ Aside ((m < i → rk d[i - 1]! < rk d[a]!) ∧ (j < b → rk d[a]! ≤ rk d[j]!) ∧ SWK enc k w0 blk off d wr ∧ (∀ x, x < w.heap.size → x ≠ blk → Box w x g lb sf sb → Box wr x g lb sf sb) ∧ Box wr w.heap.size g lb sf sb) ∧
      wr.cell? ⟨w.heap.size, 0, none⟩ = some (.func (.func g) #[] lb) ∧ wr.cell? ⟨w.heap.size, 1, none⟩ = some (.func (.func sf) #[] sb) ∧ w.heap.size < wr.heap.size)
  case atStart => exact ⟨m, b, rfl, rfl, Nat.le_refl _, by omega, Nat.le_refl _, Nat.le_refl _,
      ⟨fun h => by omega, fun h => by omega, hW.alloc _, fun x hx _ hB => hB.alloc hx _, box_new _ _ _ _ _ _⟩, by simp, by simp, by simp⟩
  case round =>
    obtain ⟨i, j, rfl, rfl, hi1, hij, hj1, hk, A, c0, c1, hs1⟩ := hrel
    by_cases hlt : i < j
    · obtain ⟨h, hh⟩ : ∃ h, h = (i + j) / 2 := ⟨_, rfl⟩
      have hh1 : i ≤ h := by omega
      have hh2 : h < j := by omega
      have hl := A.out.2.2.1.less F.less hd h a (by omega) (by omega)
      rw [show ((h : Nat) : Int) = ((i : Int) + (j : Int)) / 2 by omega] at hl
      have HI : Aside (((i : Int) + (j : Int)) / 2 = (h : Int)) := (by omega : ((i : Int) + (j : Int)) / 2 = (h : Int))
      have D : ∀ q, SWK enc k w0 blk off d (wr.drewN q) ∧ (∀ x, x < w.heap.size → x ≠ blk → Box w x g lb sf sb → Box (wr.drewN q) x g lb sf sb) ∧ Box (wr.drewN q) w.heap.size g lb sf sb := fun q => ⟨A.out.2.2.1.drewN q, A.out.2.2.2.1, A.out.2.2.2.2⟩
      clear hh
      cases hb : ltR rk d[h]! d[a]!
      · rw [hb] at hl
        have hb' : rk d[a]! ≤ rk d[h]! := by simpa [ltR] using hb
        have lo := A.out.1
        clear hb F A
        go_wp2_with (go_at_fn g; refine hl.mono ?_; rintro e w' ⟨rfl, q, rfl⟩)
        go_roundg (h - i)
        case measure => omega
        case rel => exact ⟨i, h, rfl, by congr 1, hi1, hh1, by omega, by omega, ⟨lo, fun _ => hb', D q⟩, (D q).2.2.1, (D q).2.2.2.1, hs1⟩
      · rw [hb] at hl
        have hb' : rk d[h]! < rk d[a]! := by simpa [ltR] using hb
        have hi := A.out.2.1
        clear hb F A
        go_wp2_with (go_at_fn g; refine hl.mono ?_; rintro e w' ⟨rfl, q, rfl⟩)
        go_roundg (j - (h + 1))
        case measure => omega
        case rel => exact ⟨h + 1, j, by congr 1; have := HI.out; omega, rfl, by omega, by omega, hj1, by omega, ⟨fun _ => hb', hi, D q⟩, (D q).2.2.1, (D q).2.2.2.1, hs1⟩
    · obtain rfl : i = j := by omega
      go_wp2
      go_loopg [11] (i - 1 - a) (fun kx s11 wr2 => ∃ (t : Nat) (dk : Array α), s11 = .int .i64 t ∧ a ≤ t ∧ t + kx + 1 = i ∧ Aside (Rot a (a + 1) (t + 1) d dk ∧ SWK enc k w0 blk off dk wr2 ∧ (∀ x, x < w.heap.size → x ≠ blk → Box w x g lb sf sb → Box wr2 x g lb sf sb) ∧ Box wr2 w.heap.size g lb sf sb) ∧
        wr2.cell? ⟨w.heap.size, 1, none⟩ = some (.func (.func sf) #[] sb) ∧ w.heap.size < wr2.heap.size)
      case atStart => exact ⟨a, d, rfl, Nat.le_refl _, by omega, ⟨rot_one a d, A.out.2.2.1, A.out.2.2.2.1, A.out.2.2.2.2⟩, c1, hs1⟩
      case round =>
        clear c0 c1 hs1 hk
        obtain ⟨t, dk, rfl, ht1, ht2, B, c1, hs1⟩ := hrel
        cases gk with
        | zero =>
          obtain rfl : i = t + 1 := by omega
          go_wp2
          go_end0
          have e := one_left (a := a) (b := b) (i := t + 1) (by omega) hj1 (by rw [show a + 1 = m by omega]; exact hr) (fun h => A.out.1 (by omega)) A.out.2.1 B.out.1
          exact ⟨rfl, dk, e.1, e.2, B.out.2.1, B.out.2.2.1⟩
        | succ kx =>
          have hin : t < i - 1 := by omega
          obtain ⟨w1, hs, S, hB⟩ := F.swp B.out.2.1 (by rw [B.out.1.size, hd]) t (t + 1) (by omega) (by omega)
          rw [show ((t + 1 : Nat) : Int) = (t : Int) + 1 by omega] at hs
          have A2 : Aside (Rot a (a + 1) (t + 1 + 1) d (swp dk t (t + 1)) ∧ SWK enc k w0 blk off (swp dk t (t + 1)) w1 ∧ (∀ x, x < w.heap.size → x ≠ blk → Box w x g lb sf sb → Box w1 x g lb sf sb) ∧ Box w1 w.heap.size g lb sf sb) :=
            ⟨rot_up B.out.1 ht1 (by omega), S, fun x hx hx2 hb => hB x hx2 (B.out.2.2.1 x hx hx2 hb), hB _ hne B.out.2.2.2⟩
          have hlt2 : (t : Int) < (i : Int) - 1 := by omega
          clear B S hB F A hW hr
          go_wp2
          go_roundg kx
          case measure => omega
          case rel => exact ⟨t + 1, _, by simp, by omega, by omega, A2, A2.out.2.2.2.2.1, A2.out.2.2.2.2.2⟩
end Go.Proofs.YtlgbnfcnimjheaaDoor.S
