/-
  An object that comes in, opened.
-/
import Derived.Test.YthnkllhfmjbbmaaGreatDoorHM46
namespace Go.Proofs.YthnkllhfmjbbmaaGreatDoor.S
open Go.ChangeShapes Go.WideShapes Go.Deep Go.RowKit Fl

section
variable {H : Type} {enc : TypeId × Value → H} {w : World} {base : Nat}
set_option maxRecDepth 100000 in
/-- an object that comes in -/
theorem open_obj {v : Value} {d : DataW H} {p : List MemPlace} (hv : Value.okWide Tryz.prog w .any base 34 v) (h : DataW.Trod enc Tryz.prog w 0 (fun _ => true) true 34 v d p) :
    ∃ o : Ob, v = .agg (obA o) ∧ PR w o.pa o.props ∧ o.In := by
  obtain ⟨cs, rfl, hsz⟩ := okWide_struct Tryz.underlying34 hv
  obtain ⟨fuel, hf⟩ := h
  have hcell : Tryz.prog.cellsOf 34 = 18 := by kernel_rfl
  rw [hcell] at hsz
  have hf : DataW.trod enc Tryz.prog w 0 (fun _ => true) true fuel 34 cs.toList = some (d, p) := hf
  obtain ⟨o, e, ho, hp⟩ := oopen_cells (by simpa using hsz) hf
  exact ⟨o, by unfold obA; congr 1; exact Array.toList_inj.1 e, hp, ho⟩
end
end Go.Proofs.YthnkllhfmjbbmaaGreatDoor.S
