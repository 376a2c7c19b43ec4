/-
  sort.SliceStable at elements of several cells, any length: what is asked, and swapRange_func.
-/
import Derived.Test.YtkcikdggfbjedaaGreatDoorCH05
import Derived.Shelf.SlSortFuncK.HeapSortK
import Derived.Shelf.GgSortMore.Bridge
import Derived.Deep.LoopGhost
namespace Go.Proofs.YtkcikdggfbjedaaGreatDoor.S
open Go.Shelf Go.RowKit Go.Lib Go.Sort
variable {P : Program} {ρ : Ren} {α : Type} [Inhabited α]

/-- what is asked of the row, of 'less' and of 'swap' -/
structure Fam (P : Program) (enc : α → List Value) (k : Nat) (g : Nat) (lb : Array Value) (sf : Nat) (sb : Array Value) (blk off size : Nat) (rk : α → Nat) (w0 : World) : Prop where
  hk : ∀ x, (enc x).length = k
  eg : ∀ args w, (callFunc g args).run P w = .ok (.enter g args) w
  less : LessReadsK P g lb enc k (ltR rk) blk off size w0
  swap : SwapSwapsK P sf sb enc k blk off size
  holds : ∃ d0 : Array α, d0.size = size ∧ HoldsK enc k w0 blk off d0
  blk : blk < w0.heap.size
  sz : size < 4611686018427387904
/-- the parameter 'data' -/
abbrev dat (g : Nat) (lb : Array Value) (sf : Nat) (sb : Array Value) : Value := .agg #[.func (.func g) #[] lb, .func (.func sf) #[] sb]
/-- the block in which 'data' is boxed -/
def Box (w : World) (b g : Nat) (lb : Array Value) (sf : Nat) (sb : Array Value) : Prop := w.cell? ⟨b, 0, none⟩ = some (.func (.func g) #[] lb) ∧ w.cell? ⟨b, 1, none⟩ = some (.func (.func sf) #[] sb) ∧ b < w.heap.size

section
variable {enc : α → List Value} {k g sf blk off size : Nat} {lb sb : Array Value} {rk : α → Nat} {w0 W : World} {d : Array α}
theorem Box.alloc {x : Nat} (h : Box W x g lb sf sb) (hx : x < W.heap.size) (o : Obj) : Box (W.alloc o) x g lb sf sb :=
  ⟨by rw [World.cell?_alloc_old _ _ _ (by show x ≠ _; omega)]; exact h.1, by rw [World.cell?_alloc_old _ _ _ (by show x ≠ _; omega)]; exact h.2.1, by simp; omega⟩
end

end Go.Proofs.YtkcikdggfbjedaaGreatDoor.S
/-
  sort.SliceStable: rotate_func.
-/
namespace Go.Proofs.YtkcikdggfbjedaaGreatDoor.S
open Go.Shelf Go.RowKit Go.Lib Go.Sort
variable {P : Program} {ρ : Ren} {α : Type} [Inhabited α]

end Go.Proofs.YtkcikdggfbjedaaGreatDoor.S
/-
  sort.SliceStable: symMerge_func where one of the two parts is one element.
-/
namespace Go.Proofs.YtkcikdggfbjedaaGreatDoor.S
open Go.Shelf Go.RowKit Go.Lib Go.Sort
variable {P : Program} {ρ : Ren} {α : Type} [Inhabited α]

/-- what a merge comes to -/
def Merged (rk : α → Nat) (enc : α → List Value) (k g : Nat) (lb : Array Value) (sf : Nat) (sb : Array Value) (blk off : Nat) (w0 w : World) (a b : Nat) (d : Array α) (e : Ending) (w' : World) : Prop :=
  e = .returned (.tuple #[]) ∧ ∃ d', Stb rk a b d d' ∧ Srt rk a b d' ∧ SWK enc k w0 blk off d' w' ∧ ∀ x, x < w.heap.size → x ≠ blk → Box w x g lb sf sb → Box w' x g lb sf sb

end Go.Proofs.YtkcikdggfbjedaaGreatDoor.S
/-
  sort.SliceStable: symMerge_func where the second part is one element.
-/
namespace Go.Proofs.YtkcikdggfbjedaaGreatDoor.S
open Go.Shelf Go.RowKit Go.Lib Go.Sort
variable {P : Program} {ρ : Ren} {α : Type} [Inhabited α]

end Go.Proofs.YtkcikdggfbjedaaGreatDoor.S
/-
  sort.SliceStable: symMerge_func whole.
-/
namespace Go.Proofs.YtkcikdggfbjedaaGreatDoor.S
open Go.Shelf Go.RowKit Go.Lib Go.Sort
variable {P : Program} {ρ : Ren} {α : Type} [Inhabited α]

section
variable (rk : α → Nat) (enc : α → List Value) (k g : Nat) (lb : Array Value) (sf : Nat) (sb : Array Value) (blk off : Nat) (w0 w : World)
/-- the world behind a part of a merge: the row, the caller's boxes, the merge's own -/
structure Mid (d : Array α) (w' : World) : Prop where
  sw : SWK enc k w0 blk off d w'
  bx : ∀ x, x < w.heap.size → x ≠ blk → Box w x g lb sf sb → Box w' x g lb sf sb
  own : Box w' w.heap.size g lb sf sb
/-- behind the rotation -/
def T1of (s m e : Nat) (d : Array α) (w' : World) : Prop := Aside ((∃ d1, Rot s m e d d1 ∧ Mid enc k g lb sf sb blk off w0 w d1 w') ∧ Box w' w.heap.size g lb sf sb)
/-- behind the left merge -/
def T2of (a M s m e : Nat) (d : Array α) (w' : World) : Prop := Aside ((∃ d1 d2, Rot s m e d d1 ∧ Stb rk a M d1 d2 ∧ Srt rk a M d2 ∧ Mid enc k g lb sf sb blk off w0 w d2 w') ∧ Box w' w.heap.size g lb sf sb)
/-- behind the right merge -/
def T3of (a b : Nat) (d : Array α) (w' : World) : Prop := Aside (∃ d', Stb rk a b d d' ∧ Srt rk a b d' ∧ SWK enc k w0 blk off d' w' ∧ ∀ x, x < w.heap.size → x ≠ blk → Box w x g lb sf sb → Box w' x g lb sf sb)
end

end Go.Proofs.YtkcikdggfbjedaaGreatDoor.S
