/-
  The table of signs that stand between two sides: a walk.
-/
import Derived.Test.YtjapainhlfedgaaGreatDoorB09
namespace Go.Proofs.YtjapainhlfedgaaGreatDoor.S
open Go.RowKit Fl

set_option maxHeartbeats 4000000 in
set_option maxRecDepth 100000 in
theorem level_p (c : ByteArray) (w : World) : Calls Tryz.prog 157 #[.string c] w fun e w' => e = .returned (.int .i64 (levelOf c : Int)) ∧ w = w' := by
  generalize hR : levelOf c = R
  unfold levelOf at hR
  simp only [strL] at hR
  have HR := Lib.hid hR
  clear hR
  go_enter Tryz.func157, Tryz.ntmps157
  go_wp2_with (fail)
  all_goals (go_ret; refine ⟨?_, rfl⟩; have h := HR.out; clear HR; subst h; simp_all)
end Go.Proofs.YtjapainhlfedgaaGreatDoor.S
