/-
  sort.SliceStable at elements of several cells, any length: what is asked, and swapRange_func.
-/
import Derived.Test.YtlfbflclefndjaaGreatDoorKE05
import Derived.Shelf.SlSortFuncK.HeapSortK
import Derived.Shelf.GgSortMore.Bridge
import Derived.Deep.LoopGhost
namespace Go.Proofs.YtlfbflclefndjaaGreatDoor.S
open Go.Shelf Go.RowKit Go.Lib Go.Sort
variable {P : Program} {ρ : Ren} {α : Type} [Inhabited α]

/-- what is asked of the row, of 'less' and of 'swap' -/
structure Fam (P : Program) (enc : α → List Value) (k : Nat) (g : Nat) (lb : Array Value) (sf : Nat) (sb : Array Value) (blk off size : Nat) (rk : α → Nat) (w0 : World) : Prop where
  hk : ∀ x, (enc x).length = k
  eg : ∀ args w, (callFunc g args).run P w = .ok (.enter g args) w
  less : LessReadsK P g lb enc k (ltR rk) blk off size w0
  swap : SwapSwapsK P sf sb enc k blk off size
  holds : ∃ d0 : Array α, d0.size = size ∧ HoldsK enc k w0 blk off d0
  blk : blk < w0.heap.size
  sz : size < 4611686018427387904
/-- the parameter 'data' -/
abbrev dat (g : Nat) (lb : Array Value) (sf : Nat) (sb : Array Value) : Value := .agg #[.func (.func g) #[] lb, .func (.func sf) #[] sb]
/-- the block in which 'data' is boxed -/
def Box (w : World) (b g : Nat) (lb : Array Value) (sf : Nat) (sb : Array Value) : Prop := w.cell? ⟨b, 0, none⟩ = some (.func (.func g) #[] lb) ∧ w.cell? ⟨b, 1, none⟩ = some (.func (.func sf) #[] sb) ∧ b < w.heap.size

section
variable {enc : α → List Value} {k g sf blk off size : Nat} {lb sb : Array Value} {rk : α → Nat} {w0 W : World} {d : Array α}
theorem Fam.holdsAt (F : Fam P enc k g lb sf sb blk off size rk w0) (h : SWK enc k w0 blk off d W) (hd : d.size = size) : HoldsK enc k W blk off d := by
  obtain ⟨d0, h1, h2⟩ := F.holds
  exact h.holds F.blk h2 (by omega)
/-- one swap: the call, the row behind it, and that other blocks stay -/
theorem Fam.swp (F : Fam P enc k g lb sf sb blk off size rk w0) (h : SWK enc k w0 blk off d W) (hd : d.size = size) (i j : Nat) (hi : i < size) (hj : j < size) :
    ∃ w1, (callFunc sf (#[.int .i64 i, .int .i64 j] ++ sb)).run P W = .ok (.value (.tuple #[])) w1 ∧ SWK enc k w0 blk off (swp d i j) w1 ∧ ∀ b, b ≠ blk → Box W b g lb sf sb → Box w1 b g lb sf sb := by
  refine ⟨_, F.swap W d (F.holdsAt h hd) hd i j hi hj, h.swap F.hk F.blk i j (by omega) (by omega), fun b hb hB => ⟨?_, ?_, ?_⟩⟩
  · rw [World.cell?_setCells_out blk _ _ _ _ (fun e _ => absurd e hb), World.cell?_setCells_out blk _ _ _ _ (fun e _ => absurd e hb)]; exact hB.1
  · rw [World.cell?_setCells_out blk _ _ _ _ (fun e _ => absurd e hb), World.cell?_setCells_out blk _ _ _ _ (fun e _ => absurd e hb)]; exact hB.2.1
  · simpa using hB.2.2
theorem Box.alloc {x : Nat} (h : Box W x g lb sf sb) (hx : x < W.heap.size) (o : Obj) : Box (W.alloc o) x g lb sf sb :=
  ⟨by rw [World.cell?_alloc_old _ _ _ (by show x ≠ _; omega)]; exact h.1, by rw [World.cell?_alloc_old _ _ _ (by show x ≠ _; omega)]; exact h.2.1, by simp; omega⟩
theorem box_new (W : World) (g sf : Nat) (lb sb : Array Value) (t : TypeId) : Box (W.alloc (.cells #[.func (.func g) #[] lb, .func (.func sf) #[] sb] t)) W.heap.size g lb sf sb := ⟨by simp, by simp, by simp⟩
end

set_option maxHeartbeats 4000000 in
set_option maxRecDepth 1000000 in
theorem Any.swapRange_cells (L : LaysGt.n49 P ρ) {enc : α → List Value} {k g sf blk off size : Nat} {lb sb : Array Value} {rk : α → Nat} {w0 : World} (F : Fam P enc k g lb sf sb blk off size rk w0)
    (a b n : Nat) (d : Array α) (hd : d.size = size) (w : World) (hW : SWK enc k w0 blk off d w) (h1 : a + n ≤ b) (h2 : b + n ≤ size) :
    Calls P (ρ.f 49) #[dat g lb sf sb, .int .i64 a, .int .i64 b, .int .i64 n] w fun e w' => e = .returned (.tuple #[]) ∧ ∃ d', Swd a b n d d' ∧ SWK enc k w0 blk off d' w' ∧ ∀ x, x < w.heap.size → x ≠ blk → Box w x g lb sf sb → Box w' x g lb sf sb := by
  have mixed := L.mixed; have t0 := L.t0; have a0 := L.a0; have z0 := L.z0; have v0 := L.v0; have t3 := L.t3; have a3 := L.a3; have z3 := L.z3; have v3 := L.v3; have t4 := L.t4; have a4 := L.a4; have z4 := L.z4; have v4 := L.v4; have t26 := L.t26; have a26 := L.a26; have z26 := L.z26; have v26 := L.v26; have t38 := L.t38; have a38 := L.a38; have z38 := L.z38; have v38 := L.v38; have t42 := L.t42; have a42 := L.a42; have z42 := L.z42; have v42 := L.v42
  have u42 := run_underlying L.t42
  have hsz := F.sz
  have hne : w.heap.size ≠ blk := by have := hW.lt F.blk; omega
  go_enter L.f49, BodyGt.n49_ntmps ρ
  go_wp2
  go_loopg [8] n (fun kx s8 wr => ∃ (i : Nat) (dk : Array α), s8 = .int .i64 i ∧ i + kx = n ∧ Aside (Swd a b i d dk ∧ SWK enc k w0 blk off dk wr ∧ (∀ x, x < w.heap.size → x ≠ blk → Box w x g lb sf sb → Box wr x g lb sf sb) ∧ Box wr w.heap.size g lb sf sb) ∧
      wr.cell? ⟨w.heap.size, 1, none⟩ = some (.func (.func sf) #[] sb) ∧ w.heap.size < wr.heap.size)
  case atStart => exact ⟨0, d, rfl, by omega, ⟨swd_zero a b d, hW.alloc _, fun x hx _ hB => hB.alloc hx _, box_new _ _ _ _ _ _⟩, by simp, by simp⟩
  case round =>
    obtain ⟨i, dk, rfl, hi, A, c1, hs1⟩ := hrel
    cases gk with
    | zero =>
      obtain rfl : i = n := by omega
      go_wp2
      go_end0
      exact ⟨rfl, dk, A.out.1, A.out.2.1, A.out.2.2.1⟩
    | succ kx =>
      have hin : i < n := by omega
      obtain ⟨w1, hs, S, hB⟩ := F.swp A.out.2.1 (by rw [A.out.1.size, hd]) (a + i) (b + i) (by omega) (by omega)
      rw [show ((a + i : Nat) : Int) = (a : Int) + (i : Int) by omega, show ((b + i : Nat) : Int) = (b : Int) + (i : Int) by omega] at hs
      have hB1 := hB _ hne A.out.2.2.2
      have A2 : Aside (Swd a b (i + 1) d (swp dk (a + i) (b + i)) ∧ SWK enc k w0 blk off (swp dk (a + i) (b + i)) w1 ∧ (∀ x, x < w.heap.size → x ≠ blk → Box w x g lb sf sb → Box w1 x g lb sf sb) ∧ Box w1 w.heap.size g lb sf sb) :=
        ⟨swd_succ A.out.1 (by omega) (by omega), S, fun x hx hx2 hb => hB x hx2 (A.out.2.2.1 x hx hx2 hb), hB1⟩
      have hc1 := hB1.2.1
      have hs2 := hB1.2.2
      clear A S hB hB1 hW F
      go_wp2
      go_roundg kx
      case measure => omega
      case rel => exact ⟨i + 1, _, by simp, by omega, A2, hc1, hs2⟩
end Go.Proofs.YtlfbflclefndjaaGreatDoor.S
/-
  sort.SliceStable: rotate_func.
-/
namespace Go.Proofs.YtlfbflclefndjaaGreatDoor.S
open Go.Shelf Go.RowKit Go.Lib Go.Sort
variable {P : Program} {ρ : Ren} {α : Type} [Inhabited α]

set_option maxHeartbeats 4000000 in
set_option maxRecDepth 1000000 in
theorem Any.rotate_cells (L : LaysGt.n42 P ρ) {enc : α → List Value} {k g sf blk off size : Nat} {lb sb : Array Value} {rk : α → Nat} {w0 : World} (F : Fam P enc k g lb sf sb blk off size rk w0)
    (a m b : Nat) (d : Array α) (hd : d.size = size) (w : World) (hW : SWK enc k w0 blk off d w) (h1 : a < m) (h2 : m < b) (h3 : b ≤ size) :
    Calls P (ρ.f 42) #[dat g lb sf sb, .int .i64 a, .int .i64 m, .int .i64 b] w fun e w' => e = .returned (.tuple #[]) ∧ ∃ d', Rot a m b d d' ∧ SWK enc k w0 blk off d' w' ∧ ∀ x, x < w.heap.size → x ≠ blk → Box w x g lb sf sb → Box w' x g lb sf sb := by
  have mixed := L.mixed; have t0 := L.t0; have a0 := L.a0; have z0 := L.z0; have v0 := L.v0; have t3 := L.t3; have a3 := L.a3; have z3 := L.z3; have v3 := L.v3; have t4 := L.t4; have a4 := L.a4; have z4 := L.z4; have v4 := L.v4; have t26 := L.t26; have a26 := L.a26; have z26 := L.z26; have v26 := L.v26; have t38 := L.t38; have a38 := L.a38; have z38 := L.z38; have v38 := L.v38; have t42 := L.t42; have a42 := L.a42; have z42 := L.z42; have v42 := L.v42
  have u42 := run_underlying L.t42
  have e49 : ∀ args w, (callFunc (ρ.f 49) args).run P w = .ok (.enter (ρ.f 49) args) w := enters_of L.f49 (by kernel_rfl) rfl
  have hsz := F.sz
  have hne : w.heap.size ≠ blk := by have := hW.lt F.blk; omega
  go_enter L.f42, BodyGt.n42_ntmps ρ
  go_wp2
  go_loopg [8, 9] (b - a) (fun kx s8 s9 wr => ∃ (i j : Nat) (dk : Array α), s8 = .int .i64 i ∧ s9 = .int .i64 j ∧ 1 ≤ i ∧ 1 ≤ j ∧ i ≤ m - a ∧ j ≤ b - m ∧ i + j ≤ kx ∧ Aside ((∀ d', Rot (m - i) m (m + j) dk d' → Rot a m b d d') ∧ dk.size = d.size ∧ SWK enc k w0 blk off dk wr ∧ (∀ x, x < w.heap.size → x ≠ blk → Box w x g lb sf sb → Box wr x g lb sf sb) ∧ Box wr w.heap.size g lb sf sb) ∧
      wr.cell? ⟨w.heap.size, 0, none⟩ = some (.func (.func g) #[] lb) ∧ wr.cell? ⟨w.heap.size, 1, none⟩ = some (.func (.func sf) #[] sb) ∧ w.heap.size < wr.heap.size)
  case atStart => exact ⟨m - a, b - m, d, by congr 1; omega, by congr 1; omega, by omega, by omega, Nat.le_refl _, Nat.le_refl _, by omega,
      ⟨fun d' h => by rwa [show m - (m - a) = a by omega, show m + (b - m) = b by omega] at h, rfl, hW.alloc _, fun x hx _ hB => hB.alloc hx _, box_new _ _ _ _ _ _⟩, by simp, by simp, by simp⟩
  case round =>
    obtain ⟨i, j, dk, rfl, rfl, hi1, hj1, hi2, hj2, hk, A, c0, c1, hs1⟩ := hrel
    have E : ∀ (x y z : Nat) (X Y : Int), X = (x : Int) → Y = (y : Int) → x + z ≤ y → y + z ≤ size → Calls P (ρ.f 49) #[dat g lb sf sb, .int .i64 X, .int .i64 Y, .int .i64 z] wr fun e w' => e = .returned (.tuple #[]) ∧ ∃ d', Swd x y z dk d' ∧ SWK enc k w0 blk off d' w' ∧ ∀ x, x < wr.heap.size → x ≠ blk → Box wr x g lb sf sb → Box w' x g lb sf sb :=
      fun x y z X Y hX hY g1 g2 => by rw [hX, hY]; exact Any.swapRange_cells (P := P) (ρ := ρ) { L with } F x y z dk (by rw [A.out.2.1, hd]) wr A.out.2.2.1 g1 g2
    have N : ∀ (w2 : World) (d2 : Array α) (i2 j2 : Nat), (∀ d', Rot (m - i2) m (m + j2) d2 d' → Rot (m - i) m (m + j) dk d') → d2.size = dk.size → SWK enc k w0 blk off d2 w2 → (∀ x, x < wr.heap.size → x ≠ blk → Box wr x g lb sf sb → Box w2 x g lb sf sb) →
        Aside ((∀ d', Rot (m - i2) m (m + j2) d2 d' → Rot a m b d d') ∧ d2.size = d.size ∧ SWK enc k w0 blk off d2 w2 ∧ (∀ x, x < w.heap.size → x ≠ blk → Box w x g lb sf sb → Box w2 x g lb sf sb) ∧ Box w2 w.heap.size g lb sf sb) :=
      fun w2 d2 i2 j2 q1 q2 q3 q4 => ⟨fun d' hr => A.out.1 d' (q1 d' hr), q2.trans A.out.2.1, q3, fun x hx1 hx2 hb => q4 x (by omega) hx2 (A.out.2.2.2.1 x hx1 hx2 hb), q4 _ hs1 hne A.out.2.2.2.2⟩
    have him : i ≤ m := by omega
    clear hW F
    by_cases hij : i = j
    · subst hij
      have e := E (m - i) m i ((m : Int) - (i : Int)) m (by omega) rfl (by omega) (by omega)
      have N' := fun (w2 : World) (d2 : Array α) (q : Swd (m - i) m i dk d2) => A.out.1 d2 (rot_end him q)
      have K := A.out.2.2.2.1
      clear A E N
      go_wp2_with (go_at_fn (ρ.f 49); refine e.mono ?_; rintro e w2 ⟨rfl, d2, q1, q2, q3⟩)
      go_end0
      exact ⟨rfl, d2, N' w2 d2 q1, q2, fun x h1 h2 h3 => q3 x (by omega) h2 (K x h1 h2 h3)⟩
    · by_cases hlt : j < i
      · have e := E (m - i) m j ((m : Int) - (i : Int)) m (by omega) rfl (by omega) (by omega)
        have N' := fun (w2 : World) (d2 : Array α) (q : Swd (m - i) m j dk d2) => N w2 d2 (i - j) j (fun d' => rot_left him hlt q) q.size
        clear A E N
        go_wp2_with (go_at_fn (ρ.f 49); refine e.mono ?_; rintro e w2 ⟨rfl, d2, q1, q2, q3⟩)
        have A2 := N' w2 d2 q1 q2 q3
        go_roundg (i - j + j)
        case measure => omega
        case rel => exact ⟨i - j, j, d2, by congr 1; omega, rfl, by omega, by omega, by omega, by omega, by omega, A2, A2.out.2.2.2.2.1, A2.out.2.2.2.2.2.1, A2.out.2.2.2.2.2.2⟩
      · have hgt : i < j := by omega
        have e := E (m - i) (m + j - i) i ((m : Int) - (i : Int)) ((m : Int) + (j : Int) - (i : Int)) (by omega) (by omega) (by omega) (by omega)
        have N' := fun (w2 : World) (d2 : Array α) (q : Swd (m - i) (m + j - i) i dk d2) => N w2 d2 i (j - i) (fun d' => rot_right him hgt q) q.size
        clear A E N
        go_wp2_with (go_at_fn (ρ.f 49); refine e.mono ?_; rintro e w2 ⟨rfl, d2, q1, q2, q3⟩)
        have A2 := N' w2 d2 q1 q2 q3
        go_roundg (i + (j - i))
        case measure => omega
        case rel => exact ⟨i, j - i, d2, rfl, by congr 1; omega, by omega, by omega, by omega, by omega, by omega, A2, A2.out.2.2.2.2.1, A2.out.2.2.2.2.2.1, A2.out.2.2.2.2.2.2⟩
end Go.Proofs.YtlfbflclefndjaaGreatDoor.S
/-
  sort.SliceStable: symMerge_func where one of the two parts is one element.
-/
namespace Go.Proofs.YtlfbflclefndjaaGreatDoor.S
open Go.Shelf Go.RowKit Go.Lib Go.Sort
variable {P : Program} {ρ : Ren} {α : Type} [Inhabited α]

/-- what a merge comes to -/
def Merged (rk : α → Nat) (enc : α → List Value) (k g : Nat) (lb : Array Value) (sf : Nat) (sb : Array Value) (blk off : Nat) (w0 w : World) (a b : Nat) (d : Array α) (e : Ending) (w' : World) : Prop :=
  e = .returned (.tuple #[]) ∧ ∃ d', Stb rk a b d d' ∧ Srt rk a b d' ∧ SWK enc k w0 blk off d' w' ∧ ∀ x, x < w.heap.size → x ≠ blk → Box w x g lb sf sb → Box w' x g lb sf sb

set_option maxHeartbeats 4000000 in
set_option maxRecDepth 1000000 in
theorem Any.merge_left (L : LaysGt.n30 P ρ) {enc : α → List Value} {k g sf blk off size : Nat} {lb sb : Array Value} {rk : α → Nat} {w0 : World} (F : Fam P enc k g lb sf sb blk off size rk w0)
    (a m b : Nat) (d : Array α) (hd : d.size = size) (w : World) (hW : SWK enc k w0 blk off d w) (h1 : m = a + 1) (h2 : m < b) (h3 : b ≤ size) (hr : Srt rk m b d) :
    Calls P (ρ.f 30) #[dat g lb sf sb, .int .i64 a, .int .i64 m, .int .i64 b] w (Merged rk enc k g lb sf sb blk off w0 w a b d) := by
  have mixed := L.mixed; have t0 := L.t0; have a0 := L.a0; have z0 := L.z0; have v0 := L.v0; have t3 := L.t3; have a3 := L.a3; have z3 := L.z3; have v3 := L.v3; have t4 := L.t4; have a4 := L.a4; have z4 := L.z4; have v4 := L.v4; have t26 := L.t26; have a26 := L.a26; have z26 := L.z26; have v26 := L.v26; have t38 := L.t38; have a38 := L.a38; have z38 := L.z38; have v38 := L.v38; have t42 := L.t42; have a42 := L.a42; have z42 := L.z42; have v42 := L.v42; have t47 := L.t47; have a47 := L.a47; have z47 := L.z47; have v47 := L.v47
  have u42 := run_underlying L.t42
  have hsz := F.sz
  have hne : w.heap.size ≠ blk := by have := hW.lt F.blk; omega
  have hm1 : ((m : Int) - (a : Int)) = 1 := by omega
  have eg := F.eg
  clear h1
  go_enter L.f30, BodyGt.n30_ntmps ρ
  go_wp2
  go_loopg [8, 9] (b - m) (fun kx s8 s9 wr => ∃ (i j : Nat), s8 = .int .i64 i ∧ s9 = .int .i64 j ∧ m ≤ i ∧ i ≤ j ∧ j ≤ b ∧ j - i ≤ kx ∧ Aside ((m < i → rk d[i - 1]! < rk d[a]!) ∧ (j < b → rk d[a]! ≤ rk d[j]!) ∧ SWK enc k w0 blk off d wr ∧ (∀ x, x < w.heap.size → x ≠ blk → Box w x g lb sf sb → Box wr x g lb sf sb) ∧ Box wr w.heap.size g lb sf sb) ∧
      wr.cell? ⟨w.heap.size, 0, none⟩ = some (.func (.func g) #[] lb) ∧ wr.cell? ⟨w.heap.size, 1, none⟩ = some (.func (.func sf) #[] sb) ∧ w.heap.size < wr.heap.size)
  case atStart => exact ⟨m, b, rfl, rfl, Nat.le_refl _, by omega, Nat.le_refl _, Nat.le_refl _,
      ⟨fun h => by omega, fun h => by omega, hW.alloc _, fun x hx _ hB => hB.alloc hx _, box_new _ _ _ _ _ _⟩, by simp, by simp, by simp⟩
  case round =>
    obtain ⟨i, j, rfl, rfl, hi1, hij, hj1, hk, A, c0, c1, hs1⟩ := hrel
    by_cases hlt : i < j
    · obtain ⟨h, hh⟩ : ∃ h, h = (i + j) / 2 := ⟨_, rfl⟩
      have hh1 : i ≤ h := by omega
      have hh2 : h < j := by omega
      have hl := A.out.2.2.1.less F.less hd h a (by omega) (by omega)
      rw [show ((h : Nat) : Int) = ((i : Int) + (j : Int)) / 2 by omega] at hl
      have HI : Aside (((i : Int) + (j : Int)) / 2 = (h : Int)) := (by omega : ((i : Int) + (j : Int)) / 2 = (h : Int))
      have D : ∀ q, SWK enc k w0 blk off d (wr.drewN q) ∧ (∀ x, x < w.heap.size → x ≠ blk → Box w x g lb sf sb → Box (wr.drewN q) x g lb sf sb) ∧ Box (wr.drewN q) w.heap.size g lb sf sb := fun q => ⟨A.out.2.2.1.drewN q, A.out.2.2.2.1, A.out.2.2.2.2⟩
      clear hh
      cases hb : ltR rk d[h]! d[a]!
      · rw [hb] at hl
        have hb' : rk d[a]! ≤ rk d[h]! := by simpa [ltR] using hb
        have lo := A.out.1
        clear hb F A
        go_wp2_with (go_at_fn g; refine hl.mono ?_; rintro e w' ⟨rfl, q, rfl⟩)
        go_roundg (h - i)
        case measure => omega
        case rel => exact ⟨i, h, rfl, by congr 1, hi1, hh1, by omega, by omega, ⟨lo, fun _ => hb', D q⟩, (D q).2.2.1, (D q).2.2.2.1, hs1⟩
      · rw [hb] at hl
        have hb' : rk d[h]! < rk d[a]! := by simpa [ltR] using hb
        have hi := A.out.2.1
        clear hb F A
        go_wp2_with (go_at_fn g; refine hl.mono ?_; rintro e w' ⟨rfl, q, rfl⟩)
        go_roundg (j - (h + 1))
        case measure => omega
        case rel => exact ⟨h + 1, j, by congr 1; have := HI.out; omega, rfl, by omega, by omega, hj1, by omega, ⟨fun _ => hb', hi, D q⟩, (D q).2.2.1, (D q).2.2.2.1, hs1⟩
    · obtain rfl : i = j := by omega
      go_wp2
      go_loopg [11] (i - 1 - a) (fun kx s11 wr2 => ∃ (t : Nat) (dk : Array α), s11 = .int .i64 t ∧ a ≤ t ∧ t + kx + 1 = i ∧ Aside (Rot a (a + 1) (t + 1) d dk ∧ SWK enc k w0 blk off dk wr2 ∧ (∀ x, x < w.heap.size → x ≠ blk → Box w x g lb sf sb → Box wr2 x g lb sf sb) ∧ Box wr2 w.heap.size g lb sf sb) ∧
        wr2.cell? ⟨w.heap.size, 1, none⟩ = some (.func (.func sf) #[] sb) ∧ w.heap.size < wr2.heap.size)
      case atStart => exact ⟨a, d, rfl, Nat.le_refl _, by omega, ⟨rot_one a d, A.out.2.2.1, A.out.2.2.2.1, A.out.2.2.2.2⟩, c1, hs1⟩
      case round =>
        clear c0 c1 hs1 hk
        obtain ⟨t, dk, rfl, ht1, ht2, B, c1, hs1⟩ := hrel
        cases gk with
        | zero =>
          obtain rfl : i = t + 1 := by omega
          go_wp2
          go_end0
          have e := one_left (a := a) (b := b) (i := t + 1) (by omega) hj1 (by rw [show a + 1 = m by omega]; exact hr) (fun h => A.out.1 (by omega)) A.out.2.1 B.out.1
          exact ⟨rfl, dk, e.1, e.2, B.out.2.1, B.out.2.2.1⟩
        | succ kx =>
          have hin : t < i - 1 := by omega
          obtain ⟨w1, hs, S, hB⟩ := F.swp B.out.2.1 (by rw [B.out.1.size, hd]) t (t + 1) (by omega) (by omega)
          rw [show ((t + 1 : Nat) : Int) = (t : Int) + 1 by omega] at hs
          have A2 : Aside (Rot a (a + 1) (t + 1 + 1) d (swp dk t (t + 1)) ∧ SWK enc k w0 blk off (swp dk t (t + 1)) w1 ∧ (∀ x, x < w.heap.size → x ≠ blk → Box w x g lb sf sb → Box w1 x g lb sf sb) ∧ Box w1 w.heap.size g lb sf sb) :=
            ⟨rot_up B.out.1 ht1 (by omega), S, fun x hx hx2 hb => hB x hx2 (B.out.2.2.1 x hx hx2 hb), hB _ hne B.out.2.2.2⟩
          have hlt2 : (t : Int) < (i : Int) - 1 := by omega
          clear B S hB F A hW hr
          go_wp2
          go_roundg kx
          case measure => omega
          case rel => exact ⟨t + 1, _, by simp, by omega, by omega, A2, A2.out.2.2.2.2.1, A2.out.2.2.2.2.2⟩
end Go.Proofs.YtlfbflclefndjaaGreatDoor.S
/-
  sort.SliceStable: symMerge_func where the second part is one element.
-/
namespace Go.Proofs.YtlfbflclefndjaaGreatDoor.S
open Go.Shelf Go.RowKit Go.Lib Go.Sort
variable {P : Program} {ρ : Ren} {α : Type} [Inhabited α]

set_option maxHeartbeats 4000000 in
set_option maxRecDepth 1000000 in
theorem Any.merge_right (L : LaysGt.n30 P ρ) {enc : α → List Value} {k g sf blk off size : Nat} {lb sb : Array Value} {rk : α → Nat} {w0 : World} (F : Fam P enc k g lb sf sb blk off size rk w0)
    (a m b : Nat) (d : Array α) (hd : d.size = size) (w : World) (hW : SWK enc k w0 blk off d w) (h1 : a + 1 < m) (h2 : b = m + 1) (h3 : b ≤ size) (hl : Srt rk a m d) :
    Calls P (ρ.f 30) #[dat g lb sf sb, .int .i64 a, .int .i64 m, .int .i64 b] w (Merged rk enc k g lb sf sb blk off w0 w a b d) := by
  have mixed := L.mixed; have t0 := L.t0; have a0 := L.a0; have z0 := L.z0; have v0 := L.v0; have t3 := L.t3; have a3 := L.a3; have z3 := L.z3; have v3 := L.v3; have t4 := L.t4; have a4 := L.a4; have z4 := L.z4; have v4 := L.v4; have t26 := L.t26; have a26 := L.a26; have z26 := L.z26; have v26 := L.v26; have t38 := L.t38; have a38 := L.a38; have z38 := L.z38; have v38 := L.v38; have t42 := L.t42; have a42 := L.a42; have z42 := L.z42; have v42 := L.v42; have t47 := L.t47; have a47 := L.a47; have z47 := L.z47; have v47 := L.v47
  have u42 := run_underlying L.t42
  have hsz := F.sz
  have hne : w.heap.size ≠ blk := by have := hW.lt F.blk; omega
  have hm0 : (((m : Int) - (a : Int)) == 1) = false := by rw [beq_eq_false_iff_ne]; omega
  have hm1 : ((b : Int) - (m : Int)) = 1 := by omega
  have hb1 : b = m + 1 := h2
  have HB1 : Aside (b = m + 1) := h2
  have eg := F.eg
  clear h2 hb1
  go_enter L.f30, BodyGt.n30_ntmps ρ
  go_wp2
  go_loopg [12, 13] (m - a) (fun kx s8 s9 wr => ∃ (i j : Nat), s8 = .int .i64 i ∧ s9 = .int .i64 j ∧ a ≤ i ∧ i ≤ j ∧ j ≤ m ∧ j - i ≤ kx ∧ Aside ((a < i → rk d[i - 1]! ≤ rk d[m]!) ∧ (j < m → rk d[m]! < rk d[j]!) ∧ SWK enc k w0 blk off d wr ∧ (∀ x, x < w.heap.size → x ≠ blk → Box w x g lb sf sb → Box wr x g lb sf sb) ∧ Box wr w.heap.size g lb sf sb) ∧
      wr.cell? ⟨w.heap.size, 0, none⟩ = some (.func (.func g) #[] lb) ∧ wr.cell? ⟨w.heap.size, 1, none⟩ = some (.func (.func sf) #[] sb) ∧ w.heap.size < wr.heap.size)
  case atStart => exact ⟨a, m, rfl, rfl, Nat.le_refl _, by omega, Nat.le_refl _, Nat.le_refl _,
      ⟨fun h => by omega, fun h => by omega, hW.alloc _, fun x hx _ hB => hB.alloc hx _, box_new _ _ _ _ _ _⟩, by simp, by simp, by simp⟩
  case round =>
    obtain ⟨i, j, rfl, rfl, hi1, hij, hj1, hk, A, c0, c1, hs1⟩ := hrel
    by_cases hlt : i < j
    · obtain ⟨h, hh⟩ : ∃ h, h = (i + j) / 2 := ⟨_, rfl⟩
      have hh1 : i ≤ h := by omega
      have hh2 : h < j := by omega
      have hl := A.out.2.2.1.less F.less hd m h (by omega) (by omega)
      rw [show ((h : Nat) : Int) = ((i : Int) + (j : Int)) / 2 by omega] at hl
      have HI : Aside (((i : Int) + (j : Int)) / 2 = (h : Int)) := (by omega : ((i : Int) + (j : Int)) / 2 = (h : Int))
      have D : ∀ q, SWK enc k w0 blk off d (wr.drewN q) ∧ (∀ x, x < w.heap.size → x ≠ blk → Box w x g lb sf sb → Box (wr.drewN q) x g lb sf sb) ∧ Box (wr.drewN q) w.heap.size g lb sf sb := fun q => ⟨A.out.2.2.1.drewN q, A.out.2.2.2.1, A.out.2.2.2.2⟩
      clear hh
      cases hb : ltR rk d[m]! d[h]!
      · rw [hb] at hl
        have hb' : rk d[h]! ≤ rk d[m]! := by simpa [ltR] using hb
        have hi := A.out.2.1
        clear hb F A
        go_wp2_with (go_at_fn g; refine hl.mono ?_; rintro e w' ⟨rfl, q, rfl⟩)
        go_roundg (j - (h + 1))
        case measure => omega
        case rel => exact ⟨h + 1, j, by congr 1; have := HI.out; omega, rfl, by omega, by omega, hj1, by omega, ⟨fun _ => hb', hi, D q⟩, (D q).2.2.1, (D q).2.2.2.1, hs1⟩
      · rw [hb] at hl
        have hb' : rk d[m]! < rk d[h]! := by simpa [ltR] using hb
        have lo := A.out.1
        clear hb F A
        go_wp2_with (go_at_fn g; refine hl.mono ?_; rintro e w' ⟨rfl, q, rfl⟩)
        go_roundg (h - i)
        case measure => omega
        case rel => exact ⟨i, h, rfl, by congr 1, hi1, hh1, by omega, by omega, ⟨lo, fun _ => hb', D q⟩, (D q).2.2.1, (D q).2.2.2.1, hs1⟩
    · obtain rfl : i = j := by omega
      go_wp2
      go_loopg [15] (m - i) (fun kx s11 wr2 => ∃ (t : Nat) (dk : Array α), s11 = .int .i64 t ∧ i + kx = t ∧ t ≤ m ∧ Aside (Rot t m (m + 1) d dk ∧ SWK enc k w0 blk off dk wr2 ∧ (∀ x, x < w.heap.size → x ≠ blk → Box w x g lb sf sb → Box wr2 x g lb sf sb) ∧ Box wr2 w.heap.size g lb sf sb) ∧
        wr2.cell? ⟨w.heap.size, 1, none⟩ = some (.func (.func sf) #[] sb) ∧ w.heap.size < wr2.heap.size)
      case atStart => exact ⟨m, d, rfl, by omega, Nat.le_refl _, ⟨rot_none m d, A.out.2.2.1, A.out.2.2.2.1, A.out.2.2.2.2⟩, c1, hs1⟩
      case round =>
        clear c0 c1 hs1 hk
        obtain ⟨t, dk, rfl, ht1, ht2, B, c1, hs1⟩ := hrel
        cases gk with
        | zero =>
          obtain rfl : i = t := by omega
          clear ht1
          go_wp2
          go_end0
          have hb1 := HB1.out
          subst hb1
          have e := one_right (a := a) (m := m) (i := i) hi1 hj1 hl A.out.1 A.out.2.1 B.out.1
          exact ⟨rfl, dk, e.1, e.2, B.out.2.1, B.out.2.2.1⟩
        | succ kx =>
          obtain ⟨u, rfl⟩ : ∃ u, t = u + 1 := ⟨i + kx, by omega⟩
          have hbs := HB1.out
          obtain ⟨w1, hs, S, hB⟩ := F.swp B.out.2.1 (by rw [B.out.1.size, hd]) (u + 1) u (by omega) (by omega)
          rw [show ((u : Nat) : Int) = ((u + 1 : Nat) : Int) - 1 by omega] at hs
          have A2 : Aside (Rot u m (m + 1) d (swp dk (u + 1) u) ∧ SWK enc k w0 blk off (swp dk (u + 1) u) w1 ∧ (∀ x, x < w.heap.size → x ≠ blk → Box w x g lb sf sb → Box w1 x g lb sf sb) ∧ Box w1 w.heap.size g lb sf sb) :=
            ⟨rot_down B.out.1 (by omega) (by omega), S, fun x hx hx2 hb => hB x hx2 (B.out.2.2.1 x hx hx2 hb), hB _ hne B.out.2.2.2⟩
          have ht3 : i < u + 1 := by omega
          have hu : i + kx = u := by omega
          have HU : Aside (i + kx = u) := hu
          have hum : u < 4611686018427387904 := by omega
          have hum2 : u ≤ m := by omega
          clear B S hB F A hW hl hbs ht1 hu
          generalize ht : u + 1 = t at *
          have HT : Aside (u + 1 = t) := ht
          clear ht
          have ht4 : t < 4611686018427387904 := by have := HT.out; omega
          have ht5 : 1 ≤ t := by have := HT.out; omega
          go_wp2
          go_roundg kx
          case measure => omega
          case rel => exact ⟨u, _, by congr 1; have := HT.out; omega, HU.out, hum2, A2, A2.out.2.2.2.2.1, A2.out.2.2.2.2.2⟩
end Go.Proofs.YtlfbflclefndjaaGreatDoor.S
/-
  sort.SliceStable: symMerge_func whole.
-/
namespace Go.Proofs.YtlfbflclefndjaaGreatDoor.S
open Go.Shelf Go.RowKit Go.Lib Go.Sort
variable {P : Program} {ρ : Ren} {α : Type} [Inhabited α]

section
variable (rk : α → Nat) (enc : α → List Value) (k g : Nat) (lb : Array Value) (sf : Nat) (sb : Array Value) (blk off : Nat) (w0 w : World)
/-- the world behind a part of a merge: the row, the caller's boxes, the merge's own -/
structure Mid (d : Array α) (w' : World) : Prop where
  sw : SWK enc k w0 blk off d w'
  bx : ∀ x, x < w.heap.size → x ≠ blk → Box w x g lb sf sb → Box w' x g lb sf sb
  own : Box w' w.heap.size g lb sf sb
/-- behind the rotation -/
def T1of (s m e : Nat) (d : Array α) (w' : World) : Prop := Aside ((∃ d1, Rot s m e d d1 ∧ Mid enc k g lb sf sb blk off w0 w d1 w') ∧ Box w' w.heap.size g lb sf sb)
/-- behind the left merge -/
def T2of (a M s m e : Nat) (d : Array α) (w' : World) : Prop := Aside ((∃ d1 d2, Rot s m e d d1 ∧ Stb rk a M d1 d2 ∧ Srt rk a M d2 ∧ Mid enc k g lb sf sb blk off w0 w d2 w') ∧ Box w' w.heap.size g lb sf sb)
/-- behind the right merge -/
def T3of (a b : Nat) (d : Array α) (w' : World) : Prop := Aside (∃ d', Stb rk a b d d' ∧ Srt rk a b d' ∧ SWK enc k w0 blk off d' w' ∧ ∀ x, x < w.heap.size → x ≠ blk → Box w x g lb sf sb → Box w' x g lb sf sb)
end

theorem tails (L : LaysGt.n30 P ρ) {enc : α → List Value} {k g sf blk off size : Nat} {lb sb : Array Value} {rk : α → Nat} {w0 : World} (F : Fam P enc k g lb sf sb blk off size rk w0)
    (N : Nat) (IH : ∀ (a m b : Nat) (d : Array α) (w : World), b - a < N → d.size = size → SWK enc k w0 blk off d w → a < m → m < b → b ≤ size → Srt rk a m d → Srt rk m b d → Calls P (ρ.f 30) #[dat g lb sf sb, .int .i64 a, .int .i64 m, .int .i64 b] w (Merged rk enc k g lb sf sb blk off w0 w a b d))
    (a m b : Nat) (d : Array α) (hd : d.size = size) (w : World) (hne : w.heap.size ≠ blk) (hN : b - a = N) (h3 : b ≤ size) (M i : Nat) (C : Cut rk a i m (M + m - i) b d) (haM : a < M) (hMb : M < b) (hiM : i ≤ M) (wr : World)
    (A : SWK enc k w0 blk off d wr ∧ (∀ x, x < w.heap.size → x ≠ blk → Box w x g lb sf sb → Box wr x g lb sf sb) ∧ Box wr w.heap.size g lb sf sb) :
    ((i < m ∧ i < M) → Calls P (ρ.f 42) #[dat g lb sf sb, .int .i64 i, .int .i64 m, .int .i64 ((M : Int) + (m : Int) - (i : Int))] wr fun e w' => e = .returned (.tuple #[]) ∧ T1of enc k g lb sf sb blk off w0 w i m (M + m - i) d w') ∧
    (¬(i < m ∧ i < M) → T1of enc k g lb sf sb blk off w0 w i m (M + m - i) d wr) ∧
    (∀ w1, T1of enc k g lb sf sb blk off w0 w i m (M + m - i) d w1 → (a < i ∧ i < M) → Calls P (ρ.f 30) #[dat g lb sf sb, .int .i64 a, .int .i64 i, .int .i64 M] w1 fun e w' => e = .returned (.tuple #[]) ∧ T2of rk enc k g lb sf sb blk off w0 w a M i m (M + m - i) d w') ∧
    (∀ w1, T1of enc k g lb sf sb blk off w0 w i m (M + m - i) d w1 → ¬(a < i ∧ i < M) → T2of rk enc k g lb sf sb blk off w0 w a M i m (M + m - i) d w1) ∧
    (∀ w2, T2of rk enc k g lb sf sb blk off w0 w a M i m (M + m - i) d w2 → (M < M + m - i ∧ M + m - i < b) → Calls P (ρ.f 30) #[dat g lb sf sb, .int .i64 M, .int .i64 ((M : Int) + (m : Int) - (i : Int)), .int .i64 b] w2 fun e w' => e = .returned (.tuple #[]) ∧ T3of rk enc k g lb sf sb blk off w0 w a b d w') ∧
    (∀ w2, T2of rk enc k g lb sf sb blk off w0 w a M i m (M + m - i) d w2 → ¬(M < M + m - i ∧ M + m - i < b) → T3of rk enc k g lb sf sb blk off w0 w a b d w2) := by
  have hsm := C.sm
  have has := C.as
  have hme := C.me
  have heb := C.eb
  have eM : i + (M + m - i - m) = M := by omega
  have ec : ((M + m - i : Nat) : Int) = (M : Int) + (m : Int) - (i : Int) := by omega
  refine ⟨fun h => ?_, fun h => ?_, fun w1 T h => ?_, fun w1 T h => ?_, fun w2 T h => ?_, fun w2 T h => ?_⟩
  · rw [← ec]
    refine (Any.rotate_cells (P := P) (ρ := ρ) { L with } F i m (M + m - i) d hd wr A.1 h.1 (by omega) (by omega)).mono ?_
    rintro e w' ⟨rfl, d1, R, S, B⟩
    exact ⟨rfl, ⟨d1, R, S, fun x hx hx2 hb => B x (A.2.1 x hx hx2 hb).2.2 hx2 (A.2.1 x hx hx2 hb), B _ A.2.2.2.2 hne A.2.2⟩, B _ A.2.2.2.2 hne A.2.2⟩
  · exact ⟨⟨d, rot_idle _ _ _ d (by omega) hsm hme, A.1, A.2.1, A.2.2⟩, A.2.2⟩
  · obtain ⟨⟨d1, R, Q⟩, B⟩ := T
    obtain ⟨p1, p2, p3, p4, p5⟩ := C.parts R
    rw [eM] at p2
    refine (IH a i M d1 w1 (by omega) (by rw [R.size, hd]) Q.sw h.1 h.2 (by omega) p1 p2).mono ?_
    rintro e w' ⟨rfl, d2, s1, s2, s3, s4⟩
    exact ⟨rfl, ⟨d1, d2, R, s1, s2, s3, fun x hx hx2 hb => s4 x (Q.bx x hx hx2 hb).2.2 hx2 (Q.bx x hx hx2 hb), s4 _ B.2.2 hne B⟩, s4 _ B.2.2 hne B⟩
  · obtain ⟨⟨d1, R, Q⟩, B⟩ := T
    obtain ⟨p1, p2, p3, p4, p5⟩ := C.parts R
    rw [eM] at p2
    refine ⟨⟨d1, d1, R, Stb.refl _ _ _, ?_, Q⟩, B⟩
    by_cases c : a < i
    · rw [show M = i by omega]; exact p1
    · rw [show a = i by omega]; exact p2
  · obtain ⟨⟨d1, d2, R, s1, s2, Q⟩, B⟩ := T
    obtain ⟨p1, p2, p3, p4, p5⟩ := C.parts R
    rw [eM] at p3 p5
    have o3 : Srt rk M (M + m - i) d2 := p3.same fun t ht _ => s1.out t (by omega)
    have o4 : Srt rk (M + m - i) b d2 := p4.same fun t ht _ => s1.out t (by omega)
    rw [← ec]
    refine (IH M (M + m - i) b d2 w2 (by omega) (by rw [s1.size, R.size, hd]) Q.sw h.1 h.2 h3 o3 o4).mono ?_
    rintro e w' ⟨rfl, d3, r1, r2, r3, r4⟩
    have H := halves (by omega) (by omega) p5 s1 s2 r1 r2
    exact ⟨rfl, d3, (C.stb R).trans H.1, H.2, r3, fun x hx hx2 hb => r4 x (Q.bx x hx hx2 hb).2.2 hx2 (Q.bx x hx hx2 hb)⟩
  · obtain ⟨⟨d1, d2, R, s1, s2, Q⟩, B⟩ := T
    obtain ⟨p1, p2, p3, p4, p5⟩ := C.parts R
    rw [eM] at p3 p5
    have o3 : Srt rk M (M + m - i) d2 := p3.same fun t ht _ => s1.out t (by omega)
    have o4 : Srt rk (M + m - i) b d2 := p4.same fun t ht _ => s1.out t (by omega)
    have H := halves (by omega) (by omega) p5 s1 s2 (Stb.refl M b d2) (by
      by_cases c : M < M + m - i
      · rw [show b = M + m - i by omega]; exact o3
      · rw [show M + m - i = M by omega] at o4; exact o4)
    exact ⟨d2, (C.stb R).trans H.1, H.2, Q.sw, Q.bx⟩

set_option maxHeartbeats 4000000 in
set_option maxRecDepth 1000000 in
theorem Any.merge_low (L : LaysGt.n30 P ρ) {enc : α → List Value} {k g sf blk off size : Nat} {lb sb : Array Value} {rk : α → Nat} {w0 : World} (F : Fam P enc k g lb sf sb blk off size rk w0)
    (N : Nat) (IH : ∀ (a m b : Nat) (d : Array α) (w : World), b - a < N → d.size = size → SWK enc k w0 blk off d w → a < m → m < b → b ≤ size → Srt rk a m d → Srt rk m b d → Calls P (ρ.f 30) #[dat g lb sf sb, .int .i64 a, .int .i64 m, .int .i64 b] w (Merged rk enc k g lb sf sb blk off w0 w a b d))
    (a m b : Nat) (d : Array α) (hd : d.size = size) (w : World) (hW : SWK enc k w0 blk off d w) (hN : b - a = N) (h1 : a + 1 < m) (h2 : m + 1 < b) (h3 : b ≤ size) (hl : Srt rk a m d) (hr : Srt rk m b d) (M : Nat) (hM : ((a : Int) + (b : Int)) / 2 = (M : Int)) (hMm : M < m) :
    Calls P (ρ.f 30) #[dat g lb sf sb, .int .i64 a, .int .i64 m, .int .i64 b] w (Merged rk enc k g lb sf sb blk off w0 w a b d) := by
  have mixed := L.mixed; have t0 := L.t0; have a0 := L.a0; have z0 := L.z0; have v0 := L.v0; have t3 := L.t3; have a3 := L.a3; have z3 := L.z3; have v3 := L.v3; have t4 := L.t4; have a4 := L.a4; have z4 := L.z4; have v4 := L.v4; have t26 := L.t26; have a26 := L.a26; have z26 := L.z26; have v26 := L.v26; have t38 := L.t38; have a38 := L.a38; have z38 := L.z38; have v38 := L.v38; have t42 := L.t42; have a42 := L.a42; have z42 := L.z42; have v42 := L.v42; have t47 := L.t47; have a47 := L.a47; have z47 := L.z47; have v47 := L.v47
  have u42 := run_underlying L.t42
  have e42 : ∀ args w, (callFunc (ρ.f 42) args).run P w = .ok (.enter (ρ.f 42) args) w := enters_of L.f42 (by kernel_rfl) rfl
  have e30 : ∀ args w, (callFunc (ρ.f 30) args).run P w = .ok (.enter (ρ.f 30) args) w := enters_of L.f30 (by kernel_rfl) rfl
  have hsz := F.sz
  have hne : w.heap.size ≠ blk := by have := hW.lt F.blk; omega
  have hm0 : (((m : Int) - (a : Int)) == 1) = false := by rw [beq_eq_false_iff_ne]; omega
  have hm1 : (((b : Int) - (m : Int)) == 1) = false := by rw [beq_eq_false_iff_ne]; omega
  have eg := F.eg
  have hdm : decide (M < m) = true := by simp; omega
  have HN : Aside (b - a = N) := hN
  clear hN
  obtain ⟨s0, hs0⟩ : ∃ s0, s0 = M + m - b := ⟨_, rfl⟩
  obtain ⟨r0, hr0⟩ : ∃ r0, r0 = M := ⟨_, rfl⟩
  have f1 : a ≤ s0 := by omega
  have f2 : s0 ≤ r0 := by omega
  have f3 : r0 ≤ m := by omega
  have f4 : r0 ≤ M := by omega
  have f5 : M + m ≤ b + s0 := by omega
  have HS : Aside ((s0 = a ∨ M + m = b + s0) ∧ (r0 = m ∨ r0 = M)) := ⟨by omega, by omega⟩
  have hb : b < 4611686018427387904 := by omega
  have hMb : M < b := by omega
  have haM : a < M := by omega
  go_enter L.f30, BodyGt.n30_ntmps ρ
  go_wp2
  go_loopg [18, 19] (r0 - s0) (fun kx s8 s9 wr => ∃ (i j : Nat), s8 = .int .i64 i ∧ s9 = .int .i64 j ∧ s0 ≤ i ∧ i ≤ j ∧ j ≤ r0 ∧ j - i ≤ kx ∧ Aside ((s0 < i → rk d[i - 1]! ≤ rk d[M + m - i]!) ∧ (j < r0 → rk d[M + m - 1 - j]! < rk d[j]!) ∧ SWK enc k w0 blk off d wr ∧ (∀ x, x < w.heap.size → x ≠ blk → Box w x g lb sf sb → Box wr x g lb sf sb) ∧ Box wr w.heap.size g lb sf sb) ∧
      wr.cell? ⟨w.heap.size, 0, none⟩ = some (.func (.func g) #[] lb) ∧ wr.cell? ⟨w.heap.size, 1, none⟩ = some (.func (.func sf) #[] sb) ∧ w.heap.size < wr.heap.size)
  case atStart => exact ⟨s0, r0, by congr 1; omega, by congr 1; omega, Nat.le_refl _, by omega, Nat.le_refl _, Nat.le_refl _,
      ⟨fun h => by omega, fun h => by omega, hW.alloc _, fun x hx _ hB => hB.alloc hx _, box_new _ _ _ _ _ _⟩, by simp, by simp, by simp⟩
  case round =>
    clear hs0 hr0
    obtain ⟨i, j, rfl, rfl, hi1, hij, hj1, hk, A, c0, c1, hs1⟩ := hrel
    by_cases hlt : i < j
    · obtain ⟨h, hh⟩ : ∃ h, h = (i + j) / 2 := ⟨_, rfl⟩
      have hh1 : i ≤ h := by omega
      have hh2 : h < j := by omega
      have hhm : h < M + m := by omega
      have hl := A.out.2.2.1.less F.less hd (M + m - 1 - h) h (by omega) (by omega)
      rw [show ((M + m - 1 - h : Nat) : Int) = (M : Int) + (m : Int) - 1 - ((i : Int) + (j : Int)) / 2 by omega, show ((h : Nat) : Int) = ((i : Int) + (j : Int)) / 2 by omega] at hl
      have HI : Aside (((i : Int) + (j : Int)) / 2 = (h : Int)) := (by omega : ((i : Int) + (j : Int)) / 2 = (h : Int))
      have D : ∀ q, SWK enc k w0 blk off d (wr.drewN q) ∧ (∀ x, x < w.heap.size → x ≠ blk → Box w x g lb sf sb → Box (wr.drewN q) x g lb sf sb) ∧ Box (wr.drewN q) w.heap.size g lb sf sb := fun q => ⟨A.out.2.2.1.drewN q, A.out.2.2.2.1, A.out.2.2.2.2⟩
      clear hh
      cases hb : ltR rk d[M + m - 1 - h]! d[h]!
      · rw [hb] at hl
        have hb' : rk d[h]! ≤ rk d[M + m - 1 - h]! := by simpa [ltR] using hb
        have hi := A.out.2.1
        clear hb F A hW hr IH
        go_wp2_with (go_at_fn g; refine hl.mono ?_; rintro e w' ⟨rfl, q, rfl⟩)
        go_roundg (j - (h + 1))
        case measure => omega
        case rel => exact ⟨h + 1, j, by congr 1; have := HI.out; omega, rfl, by omega, by omega, hj1, by omega, ⟨fun _ => by rw [show M + m - (h + 1) = M + m - 1 - h by omega]; exact hb', hi, D q⟩, (D q).2.2.1, (D q).2.2.2.1, hs1⟩
      · rw [hb] at hl
        have hb' : rk d[M + m - 1 - h]! < rk d[h]! := by simpa [ltR] using hb
        have lo := A.out.1
        clear hb F A hW hr IH
        go_wp2_with (go_at_fn g; refine hl.mono ?_; rintro e w' ⟨rfl, q, rfl⟩)
        go_roundg (h - i)
        case measure => omega
        case rel => exact ⟨i, h, rfl, by congr 1, hi1, hh1, by omega, by omega, ⟨lo, fun _ => hb', D q⟩, (D q).2.2.1, (D q).2.2.2.1, hs1⟩
    · obtain rfl : i = j := by omega
      have HC : Aside (Cut rk a i m (M + m - i) b d) := by
        have HS := HS.out
        exact ⟨by omega, by omega, by omega, by omega, hl, hr, fun g1 g2 => by have := A.out.2.1 (by omega); rwa [show M + m - i - 1 = M + m - 1 - i by omega], fun g1 g2 => A.out.1 (by omega)⟩
      have hiM : i ≤ M := by omega
      have him : i ≤ m := by omega
      have hie : M + m ≤ b + i := by omega
      have hai : a ≤ i := by omega
      have AW := A.out.2.2
      have Q := tails L F N IH a m b d hd w hne HN.out h3 M i HC.out haM hMb hiM wr AW
      obtain ⟨CR, NR, CL, NL, CT, NT⟩ := Q
      clear A AW HC HN HS hlt hk F hW hl hr IH
      by_cases k1 : i < m ∧ i < M
      · skip
        by_cases k2 : a < i ∧ i < M
        · by_cases k3 : M < M + m - i ∧ M + m - i < b
          · first
            | (exfalso; omega)
            | (have z1 : (i : Int) < (m : Int) ∧ (m : Int) < (M : Int) + (m : Int) - (i : Int) := by omega
               have z2 : (a : Int) < (i : Int) ∧ (i : Int) < (M : Int) := by omega
               have z3 : (M : Int) < (M : Int) + (m : Int) - (i : Int) ∧ (M : Int) + (m : Int) - (i : Int) < (b : Int) := by omega
               have X1 : Aside (i < m ∧ i < M) := k1
               have X2 : Aside (a < i ∧ i < M) := k2
               have X3 : Aside (M < M + m - i ∧ M + m - i < b) := k3
               clear k1 k2 k3
               go_wp2
               go_at_fn (ρ.f 42)
               refine (CR X1.out).mono ?_
               rintro e w1 ⟨rfl, T1⟩
               have c0 := T1.out.2.1
               have c1 := T1.out.2.2.1
               have hs1 := T1.out.2.2.2
               go_wp2
               go_at_fn (ρ.f 30)
               refine (CL _ T1 X2.out).mono ?_
               rintro e w2 ⟨rfl, T2⟩
               have c0 := T2.out.2.1
               have c1 := T2.out.2.2.1
               have hs1 := T2.out.2.2.2
               go_wp2
               go_at_fn (ρ.f 30)
               refine (CT _ T2 X3.out).mono ?_
               rintro e w3 ⟨rfl, T3⟩
               go_wp2
               go_end0
               exact ⟨rfl, T3.out⟩)
          · first
            | (exfalso; omega)
            | (have z1 : (i : Int) < (m : Int) ∧ (m : Int) < (M : Int) + (m : Int) - (i : Int) := by omega
               have z2 : (a : Int) < (i : Int) ∧ (i : Int) < (M : Int) := by omega
               have z3 : ¬ ((M : Int) < (M : Int) + (m : Int) - (i : Int) ∧ (M : Int) + (m : Int) - (i : Int) < (b : Int)) := by omega
               have X1 : Aside (i < m ∧ i < M) := k1
               have X2 : Aside (a < i ∧ i < M) := k2
               have X3 : Aside (¬(M < M + m - i ∧ M + m - i < b)) := k3
               clear k1 k2 k3
               go_wp2
               go_at_fn (ρ.f 42)
               refine (CR X1.out).mono ?_
               rintro e w1 ⟨rfl, T1⟩
               have c0 := T1.out.2.1
               have c1 := T1.out.2.2.1
               have hs1 := T1.out.2.2.2
               go_wp2
               go_at_fn (ρ.f 30)
               refine (CL _ T1 X2.out).mono ?_
               rintro e w2 ⟨rfl, T2⟩
               have c0 := T2.out.2.1
               have c1 := T2.out.2.2.1
               have hs1 := T2.out.2.2.2
               go_wp2
               have T3 := NT _ T2 X3.out
               go_end0
               exact ⟨rfl, T3.out⟩)
        · by_cases k3 : M < M + m - i ∧ M + m - i < b
          · first
            | (exfalso; omega)
            | (have z1 : (i : Int) < (m : Int) ∧ (m : Int) < (M : Int) + (m : Int) - (i : Int) := by omega
               have z2 : ¬ ((a : Int) < (i : Int) ∧ (i : Int) < (M : Int)) := by omega
               have z3 : (M : Int) < (M : Int) + (m : Int) - (i : Int) ∧ (M : Int) + (m : Int) - (i : Int) < (b : Int) := by omega
               have X1 : Aside (i < m ∧ i < M) := k1
               have X2 : Aside (¬(a < i ∧ i < M)) := k2
               have X3 : Aside (M < M + m - i ∧ M + m - i < b) := k3
               clear k1 k2 k3
               go_wp2
               go_at_fn (ρ.f 42)
               refine (CR X1.out).mono ?_
               rintro e w1 ⟨rfl, T1⟩
               have c0 := T1.out.2.1
               have c1 := T1.out.2.2.1
               have hs1 := T1.out.2.2.2
               go_wp2
               have T2 := NL _ T1 X2.out
               go_at_fn (ρ.f 30)
               refine (CT _ T2 X3.out).mono ?_
               rintro e w3 ⟨rfl, T3⟩
               go_wp2
               go_end0
               exact ⟨rfl, T3.out⟩)
          · first
            | (exfalso; omega)
            | (have z1 : (i : Int) < (m : Int) ∧ (m : Int) < (M : Int) + (m : Int) - (i : Int) := by omega
               have z2 : ¬ ((a : Int) < (i : Int) ∧ (i : Int) < (M : Int)) := by omega
               have z3 : ¬ ((M : Int) < (M : Int) + (m : Int) - (i : Int) ∧ (M : Int) + (m : Int) - (i : Int) < (b : Int)) := by omega
               have X1 : Aside (i < m ∧ i < M) := k1
               have X2 : Aside (¬(a < i ∧ i < M)) := k2
               have X3 : Aside (¬(M < M + m - i ∧ M + m - i < b)) := k3
               clear k1 k2 k3
               go_wp2
               go_at_fn (ρ.f 42)
               refine (CR X1.out).mono ?_
               rintro e w1 ⟨rfl, T1⟩
               have c0 := T1.out.2.1
               have c1 := T1.out.2.2.1
               have hs1 := T1.out.2.2.2
               go_wp2
               have T2 := NL _ T1 X2.out
               have T3 := NT _ T2 X3.out
               go_end0
               exact ⟨rfl, T3.out⟩)
      · skip
        by_cases k2 : a < i ∧ i < M
        · by_cases k3 : M < M + m - i ∧ M + m - i < b
          · first
            | (exfalso; omega)
            | (have z1 : ¬ ((i : Int) < (m : Int) ∧ (m : Int) < (M : Int) + (m : Int) - (i : Int)) := by omega
               have z2 : (a : Int) < (i : Int) ∧ (i : Int) < (M : Int) := by omega
               have z3 : (M : Int) < (M : Int) + (m : Int) - (i : Int) ∧ (M : Int) + (m : Int) - (i : Int) < (b : Int) := by omega
               have X1 : Aside (¬(i < m ∧ i < M)) := k1
               have X2 : Aside (a < i ∧ i < M) := k2
               have X3 : Aside (M < M + m - i ∧ M + m - i < b) := k3
               clear k1 k2 k3
               go_wp2
               have T1 := NR X1.out
               go_at_fn (ρ.f 30)
               refine (CL _ T1 X2.out).mono ?_
               rintro e w2 ⟨rfl, T2⟩
               have c0 := T2.out.2.1
               have c1 := T2.out.2.2.1
               have hs1 := T2.out.2.2.2
               go_wp2
               go_at_fn (ρ.f 30)
               refine (CT _ T2 X3.out).mono ?_
               rintro e w3 ⟨rfl, T3⟩
               go_wp2
               go_end0
               exact ⟨rfl, T3.out⟩)
          · first
            | (exfalso; omega)
            | (have z1 : ¬ ((i : Int) < (m : Int) ∧ (m : Int) < (M : Int) + (m : Int) - (i : Int)) := by omega
               have z2 : (a : Int) < (i : Int) ∧ (i : Int) < (M : Int) := by omega
               have z3 : ¬ ((M : Int) < (M : Int) + (m : Int) - (i : Int) ∧ (M : Int) + (m : Int) - (i : Int) < (b : Int)) := by omega
               have X1 : Aside (¬(i < m ∧ i < M)) := k1
               have X2 : Aside (a < i ∧ i < M) := k2
               have X3 : Aside (¬(M < M + m - i ∧ M + m - i < b)) := k3
               clear k1 k2 k3
               go_wp2
               have T1 := NR X1.out
               go_at_fn (ρ.f 30)
               refine (CL _ T1 X2.out).mono ?_
               rintro e w2 ⟨rfl, T2⟩
               have c0 := T2.out.2.1
               have c1 := T2.out.2.2.1
               have hs1 := T2.out.2.2.2
               go_wp2
               have T3 := NT _ T2 X3.out
               go_end0
               exact ⟨rfl, T3.out⟩)
        · by_cases k3 : M < M + m - i ∧ M + m - i < b
          · first
            | (exfalso; omega)
            | (have z1 : ¬ ((i : Int) < (m : Int) ∧ (m : Int) < (M : Int) + (m : Int) - (i : Int)) := by omega
               have z2 : ¬ ((a : Int) < (i : Int) ∧ (i : Int) < (M : Int)) := by omega
               have z3 : (M : Int) < (M : Int) + (m : Int) - (i : Int) ∧ (M : Int) + (m : Int) - (i : Int) < (b : Int) := by omega
               have X1 : Aside (¬(i < m ∧ i < M)) := k1
               have X2 : Aside (¬(a < i ∧ i < M)) := k2
               have X3 : Aside (M < M + m - i ∧ M + m - i < b) := k3
               clear k1 k2 k3
               go_wp2
               have T1 := NR X1.out
               have T2 := NL _ T1 X2.out
               go_at_fn (ρ.f 30)
               refine (CT _ T2 X3.out).mono ?_
               rintro e w3 ⟨rfl, T3⟩
               go_wp2
               go_end0
               exact ⟨rfl, T3.out⟩)
          · first
            | (exfalso; omega)
            | (have z1 : ¬ ((i : Int) < (m : Int) ∧ (m : Int) < (M : Int) + (m : Int) - (i : Int)) := by omega
               have z2 : ¬ ((a : Int) < (i : Int) ∧ (i : Int) < (M : Int)) := by omega
               have z3 : ¬ ((M : Int) < (M : Int) + (m : Int) - (i : Int) ∧ (M : Int) + (m : Int) - (i : Int) < (b : Int)) := by omega
               have X1 : Aside (¬(i < m ∧ i < M)) := k1
               have X2 : Aside (¬(a < i ∧ i < M)) := k2
               have X3 : Aside (¬(M < M + m - i ∧ M + m - i < b)) := k3
               clear k1 k2 k3
               go_wp2
               have T1 := NR X1.out
               have T2 := NL _ T1 X2.out
               have T3 := NT _ T2 X3.out
               go_end0
               exact ⟨rfl, T3.out⟩)

set_option maxHeartbeats 4000000 in
set_option maxRecDepth 1000000 in
theorem Any.merge_high (L : LaysGt.n30 P ρ) {enc : α → List Value} {k g sf blk off size : Nat} {lb sb : Array Value} {rk : α → Nat} {w0 : World} (F : Fam P enc k g lb sf sb blk off size rk w0)
    (N : Nat) (IH : ∀ (a m b : Nat) (d : Array α) (w : World), b - a < N → d.size = size → SWK enc k w0 blk off d w → a < m → m < b → b ≤ size → Srt rk a m d → Srt rk m b d → Calls P (ρ.f 30) #[dat g lb sf sb, .int .i64 a, .int .i64 m, .int .i64 b] w (Merged rk enc k g lb sf sb blk off w0 w a b d))
    (a m b : Nat) (d : Array α) (hd : d.size = size) (w : World) (hW : SWK enc k w0 blk off d w) (hN : b - a = N) (h1 : a + 1 < m) (h2 : m + 1 < b) (h3 : b ≤ size) (hl : Srt rk a m d) (hr : Srt rk m b d) (M : Nat) (hM : ((a : Int) + (b : Int)) / 2 = (M : Int)) (hMm : m ≤ M) :
    Calls P (ρ.f 30) #[dat g lb sf sb, .int .i64 a, .int .i64 m, .int .i64 b] w (Merged rk enc k g lb sf sb blk off w0 w a b d) := by
  have mixed := L.mixed; have t0 := L.t0; have a0 := L.a0; have z0 := L.z0; have v0 := L.v0; have t3 := L.t3; have a3 := L.a3; have z3 := L.z3; have v3 := L.v3; have t4 := L.t4; have a4 := L.a4; have z4 := L.z4; have v4 := L.v4; have t26 := L.t26; have a26 := L.a26; have z26 := L.z26; have v26 := L.v26; have t38 := L.t38; have a38 := L.a38; have z38 := L.z38; have v38 := L.v38; have t42 := L.t42; have a42 := L.a42; have z42 := L.z42; have v42 := L.v42; have t47 := L.t47; have a47 := L.a47; have z47 := L.z47; have v47 := L.v47
  have u42 := run_underlying L.t42
  have e42 : ∀ args w, (callFunc (ρ.f 42) args).run P w = .ok (.enter (ρ.f 42) args) w := enters_of L.f42 (by kernel_rfl) rfl
  have e30 : ∀ args w, (callFunc (ρ.f 30) args).run P w = .ok (.enter (ρ.f 30) args) w := enters_of L.f30 (by kernel_rfl) rfl
  have hsz := F.sz
  have hne : w.heap.size ≠ blk := by have := hW.lt F.blk; omega
  have hm0 : (((m : Int) - (a : Int)) == 1) = false := by rw [beq_eq_false_iff_ne]; omega
  have hm1 : (((b : Int) - (m : Int)) == 1) = false := by rw [beq_eq_false_iff_ne]; omega
  have eg := F.eg
  have hdm : decide (M < m) = false := by simp; omega
  have HN : Aside (b - a = N) := hN
  clear hN
  obtain ⟨s0, hs0⟩ : ∃ s0, s0 = a := ⟨_, rfl⟩
  obtain ⟨r0, hr0⟩ : ∃ r0, r0 = m := ⟨_, rfl⟩
  have f1 : a ≤ s0 := by omega
  have f2 : s0 ≤ r0 := by omega
  have f3 : r0 ≤ m := by omega
  have f4 : r0 ≤ M := by omega
  have f5 : M + m ≤ b + s0 := by omega
  have HS : Aside ((s0 = a ∨ M + m = b + s0) ∧ (r0 = m ∨ r0 = M)) := ⟨by omega, by omega⟩
  have hb : b < 4611686018427387904 := by omega
  have hMb : M < b := by omega
  have haM : a < M := by omega
  go_enter L.f30, BodyGt.n30_ntmps ρ
  go_wp2
  go_loopg [18, 19] (r0 - s0) (fun kx s8 s9 wr => ∃ (i j : Nat), s8 = .int .i64 i ∧ s9 = .int .i64 j ∧ s0 ≤ i ∧ i ≤ j ∧ j ≤ r0 ∧ j - i ≤ kx ∧ Aside ((s0 < i → rk d[i - 1]! ≤ rk d[M + m - i]!) ∧ (j < r0 → rk d[M + m - 1 - j]! < rk d[j]!) ∧ SWK enc k w0 blk off d wr ∧ (∀ x, x < w.heap.size → x ≠ blk → Box w x g lb sf sb → Box wr x g lb sf sb) ∧ Box wr w.heap.size g lb sf sb) ∧
      wr.cell? ⟨w.heap.size, 0, none⟩ = some (.func (.func g) #[] lb) ∧ wr.cell? ⟨w.heap.size, 1, none⟩ = some (.func (.func sf) #[] sb) ∧ w.heap.size < wr.heap.size)
  case atStart => exact ⟨s0, r0, by congr 1; omega, by congr 1; omega, Nat.le_refl _, by omega, Nat.le_refl _, Nat.le_refl _,
      ⟨fun h => by omega, fun h => by omega, hW.alloc _, fun x hx _ hB => hB.alloc hx _, box_new _ _ _ _ _ _⟩, by simp, by simp, by simp⟩
  case round =>
    clear hs0 hr0
    obtain ⟨i, j, rfl, rfl, hi1, hij, hj1, hk, A, c0, c1, hs1⟩ := hrel
    by_cases hlt : i < j
    · obtain ⟨h, hh⟩ : ∃ h, h = (i + j) / 2 := ⟨_, rfl⟩
      have hh1 : i ≤ h := by omega
      have hh2 : h < j := by omega
      have hhm : h < M + m := by omega
      have hl := A.out.2.2.1.less F.less hd (M + m - 1 - h) h (by omega) (by omega)
      rw [show ((M + m - 1 - h : Nat) : Int) = (M : Int) + (m : Int) - 1 - ((i : Int) + (j : Int)) / 2 by omega, show ((h : Nat) : Int) = ((i : Int) + (j : Int)) / 2 by omega] at hl
      have HI : Aside (((i : Int) + (j : Int)) / 2 = (h : Int)) := (by omega : ((i : Int) + (j : Int)) / 2 = (h : Int))
      have D : ∀ q, SWK enc k w0 blk off d (wr.drewN q) ∧ (∀ x, x < w.heap.size → x ≠ blk → Box w x g lb sf sb → Box (wr.drewN q) x g lb sf sb) ∧ Box (wr.drewN q) w.heap.size g lb sf sb := fun q => ⟨A.out.2.2.1.drewN q, A.out.2.2.2.1, A.out.2.2.2.2⟩
      clear hh
      cases hb : ltR rk d[M + m - 1 - h]! d[h]!
      · rw [hb] at hl
        have hb' : rk d[h]! ≤ rk d[M + m - 1 - h]! := by simpa [ltR] using hb
        have hi := A.out.2.1
        clear hb F A hW hr IH
        go_wp2_with (go_at_fn g; refine hl.mono ?_; rintro e w' ⟨rfl, q, rfl⟩)
        go_roundg (j - (h + 1))
        case measure => omega
        case rel => exact ⟨h + 1, j, by congr 1; have := HI.out; omega, rfl, by omega, by omega, hj1, by omega, ⟨fun _ => by rw [show M + m - (h + 1) = M + m - 1 - h by omega]; exact hb', hi, D q⟩, (D q).2.2.1, (D q).2.2.2.1, hs1⟩
      · rw [hb] at hl
        have hb' : rk d[M + m - 1 - h]! < rk d[h]! := by simpa [ltR] using hb
        have lo := A.out.1
        clear hb F A hW hr IH
        go_wp2_with (go_at_fn g; refine hl.mono ?_; rintro e w' ⟨rfl, q, rfl⟩)
        go_roundg (h - i)
        case measure => omega
        case rel => exact ⟨i, h, rfl, by congr 1, hi1, hh1, by omega, by omega, ⟨lo, fun _ => hb', D q⟩, (D q).2.2.1, (D q).2.2.2.1, hs1⟩
    · obtain rfl : i = j := by omega
      have HC : Aside (Cut rk a i m (M + m - i) b d) := by
        have HS := HS.out
        exact ⟨by omega, by omega, by omega, by omega, hl, hr, fun g1 g2 => by have := A.out.2.1 (by omega); rwa [show M + m - i - 1 = M + m - 1 - i by omega], fun g1 g2 => A.out.1 (by omega)⟩
      have hiM : i ≤ M := by omega
      have him : i ≤ m := by omega
      have hie : M + m ≤ b + i := by omega
      have hai : a ≤ i := by omega
      have AW := A.out.2.2
      have Q := tails L F N IH a m b d hd w hne HN.out h3 M i HC.out haM hMb hiM wr AW
      obtain ⟨CR, NR, CL, NL, CT, NT⟩ := Q
      clear A AW HC HN HS hlt hk F hW hl hr IH
      by_cases k1 : i < m ∧ i < M
      · skip
        by_cases k2 : a < i ∧ i < M
        · by_cases k3 : M < M + m - i ∧ M + m - i < b
          · first
            | (exfalso; omega)
            | (have z1 : (i : Int) < (m : Int) ∧ (m : Int) < (M : Int) + (m : Int) - (i : Int) := by omega
               have z2 : (a : Int) < (i : Int) ∧ (i : Int) < (M : Int) := by omega
               have z3 : (M : Int) < (M : Int) + (m : Int) - (i : Int) ∧ (M : Int) + (m : Int) - (i : Int) < (b : Int) := by omega
               have X1 : Aside (i < m ∧ i < M) := k1
               have X2 : Aside (a < i ∧ i < M) := k2
               have X3 : Aside (M < M + m - i ∧ M + m - i < b) := k3
               clear k1 k2 k3
               go_wp2
               go_at_fn (ρ.f 42)
               refine (CR X1.out).mono ?_
               rintro e w1 ⟨rfl, T1⟩
               have c0 := T1.out.2.1
               have c1 := T1.out.2.2.1
               have hs1 := T1.out.2.2.2
               go_wp2
               go_at_fn (ρ.f 30)
               refine (CL _ T1 X2.out).mono ?_
               rintro e w2 ⟨rfl, T2⟩
               have c0 := T2.out.2.1
               have c1 := T2.out.2.2.1
               have hs1 := T2.out.2.2.2
               go_wp2
               go_at_fn (ρ.f 30)
               refine (CT _ T2 X3.out).mono ?_
               rintro e w3 ⟨rfl, T3⟩
               go_wp2
               go_end0
               exact ⟨rfl, T3.out⟩)
          · first
            | (exfalso; omega)
            | (have z1 : (i : Int) < (m : Int) ∧ (m : Int) < (M : Int) + (m : Int) - (i : Int) := by omega
               have z2 : (a : Int) < (i : Int) ∧ (i : Int) < (M : Int) := by omega
               have z3 : ¬ ((M : Int) < (M : Int) + (m : Int) - (i : Int) ∧ (M : Int) + (m : Int) - (i : Int) < (b : Int)) := by omega
               have X1 : Aside (i < m ∧ i < M) := k1
               have X2 : Aside (a < i ∧ i < M) := k2
               have X3 : Aside (¬(M < M + m - i ∧ M + m - i < b)) := k3
               clear k1 k2 k3
               go_wp2
               go_at_fn (ρ.f 42)
               refine (CR X1.out).mono ?_
               rintro e w1 ⟨rfl, T1⟩
               have c0 := T1.out.2.1
               have c1 := T1.out.2.2.1
               have hs1 := T1.out.2.2.2
               go_wp2
               go_at_fn (ρ.f 30)
               refine (CL _ T1 X2.out).mono ?_
               rintro e w2 ⟨rfl, T2⟩
               have c0 := T2.out.2.1
               have c1 := T2.out.2.2.1
               have hs1 := T2.out.2.2.2
               go_wp2
               have T3 := NT _ T2 X3.out
               go_end0
               exact ⟨rfl, T3.out⟩)
        · by_cases k3 : M < M + m - i ∧ M + m - i < b
          · first
            | (exfalso; omega)
            | (have z1 : (i : Int) < (m : Int) ∧ (m : Int) < (M : Int) + (m : Int) - (i : Int) := by omega
               have z2 : ¬ ((a : Int) < (i : Int) ∧ (i : Int) < (M : Int)) := by omega
               have z3 : (M : Int) < (M : Int) + (m : Int) - (i : Int) ∧ (M : Int) + (m : Int) - (i : Int) < (b : Int) := by omega
               have X1 : Aside (i < m ∧ i < M) := k1
               have X2 : Aside (¬(a < i ∧ i < M)) := k2
               have X3 : Aside (M < M + m - i ∧ M + m - i < b) := k3
               clear k1 k2 k3
               go_wp2
               go_at_fn (ρ.f 42)
               refine (CR X1.out).mono ?_
               rintro e w1 ⟨rfl, T1⟩
               have c0 := T1.out.2.1
               have c1 := T1.out.2.2.1
               have hs1 := T1.out.2.2.2
               go_wp2
               have T2 := NL _ T1 X2.out
               go_at_fn (ρ.f 30)
               refine (CT _ T2 X3.out).mono ?_
               rintro e w3 ⟨rfl, T3⟩
               go_wp2
               go_end0
               exact ⟨rfl, T3.out⟩)
          · first
            | (exfalso; omega)
            | (have z1 : (i : Int) < (m : Int) ∧ (m : Int) < (M : Int) + (m : Int) - (i : Int) := by omega
               have z2 : ¬ ((a : Int) < (i : Int) ∧ (i : Int) < (M : Int)) := by omega
               have z3 : ¬ ((M : Int) < (M : Int) + (m : Int) - (i : Int) ∧ (M : Int) + (m : Int) - (i : Int) < (b : Int)) := by omega
               have X1 : Aside (i < m ∧ i < M) := k1
               have X2 : Aside (¬(a < i ∧ i < M)) := k2
               have X3 : Aside (¬(M < M + m - i ∧ M + m - i < b)) := k3
               clear k1 k2 k3
               go_wp2
               go_at_fn (ρ.f 42)
               refine (CR X1.out).mono ?_
               rintro e w1 ⟨rfl, T1⟩
               have c0 := T1.out.2.1
               have c1 := T1.out.2.2.1
               have hs1 := T1.out.2.2.2
               go_wp2
               have T2 := NL _ T1 X2.out
               have T3 := NT _ T2 X3.out
               go_end0
               exact ⟨rfl, T3.out⟩)
      · skip
        by_cases k2 : a < i ∧ i < M
        · by_cases k3 : M < M + m - i ∧ M + m - i < b
          · first
            | (exfalso; omega)
            | (have z1 : ¬ ((i : Int) < (m : Int) ∧ (m : Int) < (M : Int) + (m : Int) - (i : Int)) := by omega
               have z2 : (a : Int) < (i : Int) ∧ (i : Int) < (M : Int) := by omega
               have z3 : (M : Int) < (M : Int) + (m : Int) - (i : Int) ∧ (M : Int) + (m : Int) - (i : Int) < (b : Int) := by omega
               have X1 : Aside (¬(i < m ∧ i < M)) := k1
               have X2 : Aside (a < i ∧ i < M) := k2
               have X3 : Aside (M < M + m - i ∧ M + m - i < b) := k3
               clear k1 k2 k3
               go_wp2
               have T1 := NR X1.out
               go_at_fn (ρ.f 30)
               refine (CL _ T1 X2.out).mono ?_
               rintro e w2 ⟨rfl, T2⟩
               have c0 := T2.out.2.1
               have c1 := T2.out.2.2.1
               have hs1 := T2.out.2.2.2
               go_wp2
               go_at_fn (ρ.f 30)
               refine (CT _ T2 X3.out).mono ?_
               rintro e w3 ⟨rfl, T3⟩
               go_wp2
               go_end0
               exact ⟨rfl, T3.out⟩)
          · first
            | (exfalso; omega)
            | (have z1 : ¬ ((i : Int) < (m : Int) ∧ (m : Int) < (M : Int) + (m : Int) - (i : Int)) := by omega
               have z2 : (a : Int) < (i : Int) ∧ (i : Int) < (M : Int) := by omega
               have z3 : ¬ ((M : Int) < (M : Int) + (m : Int) - (i : Int) ∧ (M : Int) + (m : Int) - (i : Int) < (b : Int)) := by omega
               have X1 : Aside (¬(i < m ∧ i < M)) := k1
               have X2 : Aside (a < i ∧ i < M) := k2
               have X3 : Aside (¬(M < M + m - i ∧ M + m - i < b)) := k3
               clear k1 k2 k3
               go_wp2
               have T1 := NR X1.out
               go_at_fn (ρ.f 30)
               refine (CL _ T1 X2.out).mono ?_
               rintro e w2 ⟨rfl, T2⟩
               have c0 := T2.out.2.1
               have c1 := T2.out.2.2.1
               have hs1 := T2.out.2.2.2
               go_wp2
               have T3 := NT _ T2 X3.out
               go_end0
               exact ⟨rfl, T3.out⟩)
        · by_cases k3 : M < M + m - i ∧ M + m - i < b
          · first
            | (exfalso; omega)
            | (have z1 : ¬ ((i : Int) < (m : Int) ∧ (m : Int) < (M : Int) + (m : Int) - (i : Int)) := by omega
               have z2 : ¬ ((a : Int) < (i : Int) ∧ (i : Int) < (M : Int)) := by omega
               have z3 : (M : Int) < (M : Int) + (m : Int) - (i : Int) ∧ (M : Int) + (m : Int) - (i : Int) < (b : Int) := by omega
               have X1 : Aside (¬(i < m ∧ i < M)) := k1
               have X2 : Aside (¬(a < i ∧ i < M)) := k2
               have X3 : Aside (M < M + m - i ∧ M + m - i < b) := k3
               clear k1 k2 k3
               go_wp2
               have T1 := NR X1.out
               have T2 := NL _ T1 X2.out
               go_at_fn (ρ.f 30)
               refine (CT _ T2 X3.out).mono ?_
               rintro e w3 ⟨rfl, T3⟩
               go_wp2
               go_end0
               exact ⟨rfl, T3.out⟩)
          · first
            | (exfalso; omega)
            | (have z1 : ¬ ((i : Int) < (m : Int) ∧ (m : Int) < (M : Int) + (m : Int) - (i : Int)) := by omega
               have z2 : ¬ ((a : Int) < (i : Int) ∧ (i : Int) < (M : Int)) := by omega
               have z3 : ¬ ((M : Int) < (M : Int) + (m : Int) - (i : Int) ∧ (M : Int) + (m : Int) - (i : Int) < (b : Int)) := by omega
               have X1 : Aside (¬(i < m ∧ i < M)) := k1
               have X2 : Aside (¬(a < i ∧ i < M)) := k2
               have X3 : Aside (¬(M < M + m - i ∧ M + m - i < b)) := k3
               clear k1 k2 k3
               go_wp2
               have T1 := NR X1.out
               have T2 := NL _ T1 X2.out
               have T3 := NT _ T2 X3.out
               go_end0
               exact ⟨rfl, T3.out⟩)
end Go.Proofs.YtlfbflclefndjaaGreatDoor.S
