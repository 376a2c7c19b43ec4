/-
  sort.SliceStable at elements of several cells, 'less' by a rank: any length.
-/
import Derived.Test.YtkcikdggfbjedaaGreatDoorCH07
import Derived.Shelf.GgSortFunc.SmallK
namespace Go.Proofs.YtkcikdggfbjedaaGreatDoor.S
open Go.Shelf Go.RowKit Go.Lib Go.Sort
variable {P : Program} {ρ : Ren} {α : Type} [Inhabited α]

/-- what sort.SliceStable comes to -/
def Sorted (rk : α → Nat) (enc : α → List Value) (k blk off : Nat) (d : Array α) (w : World) (e : Ending) (w' : World) : Prop :=
  e = .returned (.tuple #[]) ∧ ∃ d' n os, Stb rk 0 d.size d d' ∧ Srt rk 0 d.size d' ∧ w' = grow (putRowK enc k (Sort.ahead w n) blk off d') os

end Go.Proofs.YtkcikdggfbjedaaGreatDoor.S
