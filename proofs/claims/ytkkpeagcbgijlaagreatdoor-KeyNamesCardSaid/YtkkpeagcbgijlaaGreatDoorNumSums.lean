/-
  Rem of package num, and NumSums: every operation of two floats beside the document's own: walks.
-/
import Derived.Test.YtkkpeagcbgijlaaGreatDoorNumMod
namespace Go.Proofs.YtkkpeagcbgijlaaGreatDoor
open Go.RowKit Fl

theorem NaN_any (w : World) : Calls Tryz.prog 64 #[] w fun e w' => e = .returned (.float .f64 9221120237041090561) ∧ w = w' := by
  have hf : ∀ w, (callFunc 81 #[.int .u64 9221120237041090561]).run Tryz.prog w = .ok (.value (.float .f64 9221120237041090561)) w := fun w => run_Float64frombits 9221120237041090561 w
  go_enter Tryz.func64, Tryz.ntmps64
  go_wp2
  go_ret
  exact ⟨rfl, rfl⟩
theorem is_uvnan : Is .nan 9221120237041090561 := ⟨by decide, by unfold IsNaN rung; decide⟩

def nanC (c : Cl) : Bool := match c with | .nan => true | _ => false
theorem tmod_pos (a b : Int) (h : 0 ≤ a) : a.tmod b = ((a.natAbs % b.natAbs : Nat) : Int) := by
  have h1 : (a.tmod b).natAbs = a.natAbs % b.natAbs := Int.natAbs_tmod a b
  have h2 : 0 ≤ a.tmod b := Int.tmod_nonneg b h
  omega
theorem tmod_neg (a b : Int) (h : a < 0) : a.tmod b = -((a.natAbs % b.natAbs : Nat) : Int) := by
  have h1 := tmod_pos (-a) b (by omega)
  rw [Int.neg_tmod, Int.natAbs_neg] at h1
  omega

theorem EncR_same {r : Res} {v u : Nat} {k j : Int} (h : EncR r v k) (g : EncR r u j) : k = j := by
  cases r with
  | nan => rw [h.2, g.2]
  | err q => rw [h.2, g.2]
  | ok n => rw [h.2, g.2]

def DrawnTrue (w : World) (e : Ending) (w' : World) : Prop := ∃ n, e = .returned (.bool true) ∧ w' = w.drewN n

end Go.Proofs.YtkkpeagcbgijlaaGreatDoor
