/-
  sort.SliceStable at elements of several cells, any length: what is asked, and swapRange_func.
-/
import Derived.Test.YtlgbnfcnimjheaaDoorStabMath
import Derived.Shelf.SlSortFuncK.HeapSortK
import Derived.Shelf.GgSortMore.Bridge
import Derived.Deep.LoopGhost
namespace Go.Proofs.YtlgbnfcnimjheaaDoor.S
open Go.Shelf Go.RowKit Go.Lib Go.Sort
variable {P : Program} {ρ : Ren} {α : Type} [Inhabited α]

/-- what is asked of the row, of 'less' and of 'swap' -/
structure Fam (P : Program) (enc : α → List Value) (k : Nat) (g : Nat) (lb : Array Value) (sf : Nat) (sb : Array Value) (blk off size : Nat) (rk : α → Nat) (w0 : World) : Prop where
  hk : ∀ x, (enc x).length = k
  eg : ∀ args w, (callFunc g args).run P w = .ok (.enter g args) w
  less : LessReadsK P g lb enc k (ltR rk) blk off size w0
  swap : SwapSwapsK P sf sb enc k blk off size
  holds : ∃ d0 : Array α, d0.size = size ∧ HoldsK enc k w0 blk off d0
  blk : blk < w0.heap.size
  sz : size < 4611686018427387904
/-- the parameter 'data' -/
abbrev dat (g : Nat) (lb : Array Value) (sf : Nat) (sb : Array Value) : Value := .agg #[.func (.func g) #[] lb, .func (.func sf) #[] sb]
/-- the block in which 'data' is boxed -/
def Box (w : World) (b g : Nat) (lb : Array Value) (sf : Nat) (sb : Array Value) : Prop := w.cell? ⟨b, 0, none⟩ = some (.func (.func g) #[] lb) ∧ w.cell? ⟨b, 1, none⟩ = some (.func (.func sf) #[] sb) ∧ b < w.heap.size

section
variable {enc : α → List Value} {k g sf blk off size : Nat} {lb sb : Array Value} {rk : α → Nat} {w0 W : World} {d : Array α}
theorem Fam.holdsAt (F : Fam P enc k g lb sf sb blk off size rk w0) (h : SWK enc k w0 blk off d W) (hd : d.size = size) : HoldsK enc k W blk off d := by
  obtain ⟨d0, h1, h2⟩ := F.holds
  exact h.holds F.blk h2 (by omega)
/-- one swap: the call, the row behind it, and that other blocks stay -/
theorem Fam.swp (F : Fam P enc k g lb sf sb blk off size rk w0) (h : SWK enc k w0 blk off d W) (hd : d.size = size) (i j : Nat) (hi : i < size) (hj : j < size) :
    ∃ w1, (callFunc sf (#[.int .i64 i, .int .i64 j] ++ sb)).run P W = .ok (.value (.tuple #[])) w1 ∧ SWK enc k w0 blk off (swp d i j) w1 ∧ ∀ b, b ≠ blk → Box W b g lb sf sb → Box w1 b g lb sf sb := by
  refine ⟨_, F.swap W d (F.holdsAt h hd) hd i j hi hj, h.swap F.hk F.blk i j (by omega) (by omega), fun b hb hB => ⟨?_, ?_, ?_⟩⟩
  · rw [World.cell?_setCells_out blk _ _ _ _ (fun e _ => absurd e hb), World.cell?_setCells_out blk _ _ _ _ (fun e _ => absurd e hb)]; exact hB.1
  · rw [World.cell?_setCells_out blk _ _ _ _ (fun e _ => absurd e hb), World.cell?_setCells_out blk _ _ _ _ (fun e _ => absurd e hb)]; exact hB.2.1
  · simpa using hB.2.2
theorem Box.alloc {x : Nat} (h : Box W x g lb sf sb) (hx : x < W.heap.size) (o : Obj) : Box (W.alloc o) x g lb sf sb :=
  ⟨by rw [World.cell?_alloc_old _ _ _ (by show x ≠ _; omega)]; exact h.1, by rw [World.cell?_alloc_old _ _ _ (by show x ≠ _; omega)]; exact h.2.1, by simp; omega⟩
theorem box_new (W : World) (g sf : Nat) (lb sb : Array Value) (t : TypeId) : Box (W.alloc (.cells #[.func (.func g) #[] lb, .func (.func sf) #[] sb] t)) W.heap.size g lb sf sb := ⟨by simp, by simp, by simp⟩
end

set_option maxHeartbeats 4000000 in
set_option maxRecDepth 1000000 in
theorem Any.swapRange_cells (L : LaysGt.n49 P ρ) {enc : α → List Value} {k g sf blk off size : Nat} {lb sb : Array Value} {rk : α → Nat} {w0 : World} (F : Fam P enc k g lb sf sb blk off size rk w0)
    (a b n : Nat) (d : Array α) (hd : d.size = size) (w : World) (hW : SWK enc k w0 blk off d w) (h1 : a + n ≤ b) (h2 : b + n ≤ size) :
    Calls P (ρ.f 49) #[dat g lb sf sb, .int .i64 a, .int .i64 b, .int .i64 n] w fun e w' => e = .returned (.tuple #[]) ∧ ∃ d', Swd a b n d d' ∧ SWK enc k w0 blk off d' w' ∧ ∀ x, x < w.heap.size → x ≠ blk → Box w x g lb sf sb → Box w' x g lb sf sb := by
  have mixed := L.mixed; have t0 := L.t0; have a0 := L.a0; have z0 := L.z0; have v0 := L.v0; have t3 := L.t3; have a3 := L.a3; have z3 := L.z3; have v3 := L.v3; have t4 := L.t4; have a4 := L.a4; have z4 := L.z4; have v4 := L.v4; have t26 := L.t26; have a26 := L.a26; have z26 := L.z26; have v26 := L.v26; have t38 := L.t38; have a38 := L.a38; have z38 := L.z38; have v38 := L.v38; have t42 := L.t42; have a42 := L.a42; have z42 := L.z42; have v42 := L.v42
  have u42 := run_underlying L.t42
  have hsz := F.sz
  have hne : w.heap.size ≠ blk := by have := hW.lt F.blk; omega
  go_enter L.f49, BodyGt.n49_ntmps ρ
  go_wp2
  go_loopg [8] n (fun kx s8 wr => ∃ (i : Nat) (dk : Array α), s8 = .int .i64 i ∧ i + kx = n ∧ Aside (Swd a b i d dk ∧ SWK enc k w0 blk off dk wr ∧ (∀ x, x < w.heap.size → x ≠ blk → Box w x g lb sf sb → Box wr x g lb sf sb) ∧ Box wr w.heap.size g lb sf sb) ∧
      wr.cell? ⟨w.heap.size, 1, none⟩ = some (.func (.func sf) #[] sb) ∧ w.heap.size < wr.heap.size)
  case atStart => exact ⟨0, d, rfl, by omega, ⟨swd_zero a b d, hW.alloc _, fun x hx _ hB => hB.alloc hx _, box_new _ _ _ _ _ _⟩, by simp, by simp⟩
  case round =>
    obtain ⟨i, dk, rfl, hi, A, c1, hs1⟩ := hrel
    cases gk with
    | zero =>
      obtain rfl : i = n := by omega
      go_wp2
      go_end0
      exact ⟨rfl, dk, A.out.1, A.out.2.1, A.out.2.2.1⟩
    | succ kx =>
      have hin : i < n := by omega
      obtain ⟨w1, hs, S, hB⟩ := F.swp A.out.2.1 (by rw [A.out.1.size, hd]) (a + i) (b + i) (by omega) (by omega)
      rw [show ((a + i : Nat) : Int) = (a : Int) + (i : Int) by omega, show ((b + i : Nat) : Int) = (b : Int) + (i : Int) by omega] at hs
      have hB1 := hB _ hne A.out.2.2.2
      have A2 : Aside (Swd a b (i + 1) d (swp dk (a + i) (b + i)) ∧ SWK enc k w0 blk off (swp dk (a + i) (b + i)) w1 ∧ (∀ x, x < w.heap.size → x ≠ blk → Box w x g lb sf sb → Box w1 x g lb sf sb) ∧ Box w1 w.heap.size g lb sf sb) :=
        ⟨swd_succ A.out.1 (by omega) (by omega), S, fun x hx hx2 hb => hB x hx2 (A.out.2.2.1 x hx hx2 hb), hB1⟩
      have hc1 := hB1.2.1
      have hs2 := hB1.2.2
      clear A S hB hB1 hW F
      go_wp2
      go_roundg kx
      case measure => omega
      case rel => exact ⟨i + 1, _, by simp, by omega, A2, hc1, hs2⟩
end Go.Proofs.YtlgbnfcnimjheaaDoor.S
