/-
  sort.SliceStable at elements of several cells, 'less' by a rank: any length.
-/
import Derived.Test.YtlfbflclefndjaaGreatDoorKE07
import Derived.Shelf.GgSortFunc.SmallK
namespace Go.Proofs.YtlfbflclefndjaaGreatDoor.S
open Go.Shelf Go.RowKit Go.Lib Go.Sort
variable {P : Program} {ρ : Ren} {α : Type} [Inhabited α]

/-- what sort.SliceStable comes to -/
def Sorted (rk : α → Nat) (enc : α → List Value) (k blk off : Nat) (d : Array α) (w : World) (e : Ending) (w' : World) : Prop :=
  e = .returned (.tuple #[]) ∧ ∃ d' n os, Stb rk 0 d.size d d' ∧ Srt rk 0 d.size d' ∧ w' = grow (putRowK enc k (Sort.ahead w n) blk off d') os

theorem Any.sort_SliceStable_cells (L : LaysGt.n8 P ρ) (t e : TypeId) (i ie : TypeInfo) (hi : P.info? t = some i) (hd : i.desc = .slice e) (hpk : P.packed t = false) (hie : P.info? e = some ie) (ke : Nat) (hke : ∀ w, (Extern.Rtype.kind e).run P w = .ok ke w)
    (enc : α → List Value) (k : Nat) (hk : ∀ x, (enc x).length = k) (hs1 : ie.size = k) (hagg : ∀ w, (isAgg e).run P w = .ok true w) (h1 : ∀ x, ∀ v ∈ enc x, v.oneCell' = true) (rk : α → Nat) (g : Nat) (lb : Array Value)
    (eg : ∀ args w, (callFunc g args).run P w = .ok (.enter g args) w) (blk off c : Nat) (d : Array α) (h2 : 2 ≤ d.size) (hsz : d.size < 1000000000000000000)
    (f : Nat) (hf : P.funcs.findIdx? (·.name == "internal/reflectlite" ++ ".Swapper$" ++ toString (swapperK d.size ie ke)) = some f)
    (gS : Bool) (hx : ∀ args W, (callFunc f args).run P W = ((Extern.ReflectliteSwapper.swap gS args).run P W).andThen fun v w' => .ok (.value v) w')
    (w : World) (hless : LessReadsK P g lb enc k (ltR rk) blk off d.size w) (hH : HoldsK enc k w blk off d) (hblk : blk < w.heap.size) :
    Calls P (ρ.f 8) #[.iface t (.slice (some ⟨blk, off, none⟩) d.size c), .func (.func g) #[] lb] w (Sorted rk enc k blk off d w) := by
  refine Any.sort_SliceStable_of_stable L t e i ie hi hd hpk hie ke hke _ d.size c (by omega) f hf (.func g) #[] lb w _ ?_
  have hB : sliceBound P e ie ke (some ⟨blk, off, none⟩) d.size c = #[.slice (some ⟨blk, off, none⟩) d.size c, typeHandle P e] := by
    unfold sliceBound; rw [if_neg (swapperK_gt _ _ _ h2)]
  have hW : stableWorld P ρ t (some ⟨blk, off, none⟩) d.size c w = grow w #[.cells #[.slice (some ⟨blk, off, none⟩) d.size c] t, .cells #[.pointer (some ⟨P.globals.size, t, none⟩), .pointer (some ⟨w.heap.size, 0, none⟩), .int .u64 151] (ρ.t 36)] := by
    unfold stableWorld; rw [alloc_eq_grow, alloc_eq_grow, grow_grow]; rfl
  generalize (#[.cells #[.slice (some ⟨blk, off, none⟩) d.size c] t, .cells #[.pointer (some ⟨P.globals.size, t, none⟩), .pointer (some ⟨w.heap.size, 0, none⟩), .int .u64 151] (ρ.t 36)] : Array Obj) = os0 at hW
  rw [hB, hW]
  have hH0 := holdsK_grow enc k w os0 blk off d hblk hH
  have F : Fam P enc k g lb f #[.slice (some ⟨blk, off, none⟩) d.size c, typeHandle P e] blk off d.size rk (grow w os0) :=
    ⟨hk, eg, hless.grow hblk os0, swapSwapsK_of_literal gS f hx e ie hie enc k hk hs1 hagg h1 blk off d.size c, ⟨d, rfl, hH0⟩, by rw [size_grow]; omega, by omega⟩
  refine (Any.stable_cells (P := P) (ρ := ρ) { L with } F d rfl (grow w os0) (SWK.start hH0) hsz).mono ?_
  rintro e w' ⟨rfl, d', s1, s2, ⟨n, os, rfl⟩, _⟩
  exact ⟨rfl, d', n, os0 ++ os, s1, s2, by unfold sortWorldK; rw [ahead_grow, putRowK_grow enc k (Sort.ahead w n) _ blk off _ hblk, grow_grow]⟩

/-- .. and no element or one -/
theorem Any.sort_SliceStable_few (L : LaysGt.n8 P ρ) (t e : TypeId) (i ie : TypeInfo) (hi : P.info? t = some i) (hd : i.desc = .slice e) (hpk : P.packed t = false) (hie : P.info? e = some ie) (ke : Nat) (hke : ∀ w, (Extern.Rtype.kind e).run P w = .ok ke w)
    (enc : α → List Value) (k : Nat) (rk : α → Nat) (g : Nat) (lb : Array Value) (p : Option Addr) (blk off c : Nat) (d : Array α) (h2 : d.size ≤ 1)
    (f : Nat) (hf : P.funcs.findIdx? (·.name == "internal/reflectlite" ++ ".Swapper$" ++ toString (swapperK d.size ie ke)) = some f)
    (w : World) (hH : HoldsK enc k w blk off d) :
    Calls P (ρ.f 8) #[.iface t (.slice p d.size c), .func (.func g) #[] lb] w (Sorted rk enc k blk off d w) := by
  refine (Any.sort_SliceStable_tiny L t e i ie hi hd hpk hie ke hke p d.size c h2 f hf (.func g) #[] lb w).mono ?_
  rintro e w' ⟨rfl, os, rfl⟩
  refine ⟨rfl, d, 0, os, Stb.refl _ _ _, fun i j h1 h2 h3 => ?_, ?_⟩
  · rw [show i = j by omega]; exact Nat.le_refl _
  · rw [show Sort.ahead w 0 = w from rfl, putRowK_self _ _ _ _ _ _ hH]
end Go.Proofs.YtlfbflclefndjaaGreatDoor.S
