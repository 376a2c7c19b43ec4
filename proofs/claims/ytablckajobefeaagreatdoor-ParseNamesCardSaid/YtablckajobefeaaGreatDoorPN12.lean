/-
  The table of signs that stand between two sides: a walk.
-/
import Derived.Test.YtablckajobefeaaGreatDoorPN09
namespace Go.Proofs.YtablckajobefeaaGreatDoor.S
open Go.RowKit Fl

set_option maxHeartbeats 4000000 in
set_option maxRecDepth 100000 in
theorem level_p (c : ByteArray) (w : World) : Calls Tryz.prog 154 #[.string c] w fun e w' => e = .returned (.int .i64 (levelOf c : Int)) ∧ w = w' := by
  generalize hR : levelOf c = R
  unfold levelOf at hR
  simp only [strL] at hR
  have HR := Lib.hid hR
  clear hR
  go_enter Tryz.func154, Tryz.ntmps154
  go_wp2_with (fail)
  all_goals (go_ret; refine ⟨?_, rfl⟩; have h := HR.out; clear HR; subst h; simp_all)
end Go.Proofs.YtablckajobefeaaGreatDoor.S
