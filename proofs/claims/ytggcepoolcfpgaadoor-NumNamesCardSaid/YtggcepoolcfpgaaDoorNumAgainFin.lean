/-
  NumAgain: true for every two floats.
-/
import Derived.Test.YtggcepoolcfpgaaDoorNumAgainAll
namespace Go.Proofs.YtggcepoolcfpgaaDoor
open Go.RowKit Fl
theorem NumAgain_walk (x y : Nat) (w : World) (hx : x < 2 ^ 64) (hy : y < 2 ^ 64) (htab : TabHere w) :
    Calls Tryd.prog 5 #[.float .f64 x, .float .f64 y] w fun e w' => e = .returned (.bool true) ∧ Below w.heap.size w w' := by
  obtain ⟨c, h⟩ := cls x hx
  obtain ⟨d, g⟩ := cls y hy
  by_cases hm : mayC c = false ∨ mayC d = false
  · exact NumAgain_out h g hm w
  · have hc : mayC c = true := by cases e : mayC c; exact absurd (Or.inl e) hm; rfl
    have hd : mayC d = true := by cases e : mayC d; exact absurd (Or.inr e) hm; rfl
    exact NumAgain_in h g hc hd w htab
end Go.Proofs.YtggcepoolcfpgaaDoor
