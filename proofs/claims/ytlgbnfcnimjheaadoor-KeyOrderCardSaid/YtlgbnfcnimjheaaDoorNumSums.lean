/-
  Rem of package num, and NumSums: every operation of two floats beside the document's own: walks.
-/
import Derived.Test.YtlgbnfcnimjheaaDoorNumMod
namespace Go.Proofs.YtlgbnfcnimjheaaDoor
open Go.RowKit Fl

theorem NaN_any (w : World) : Calls Tryd.prog 99 #[] w fun e w' => e = .returned (.float .f64 9221120237041090561) ∧ w = w' := by
  have hf : ∀ w, (callFunc 110 #[.int .u64 9221120237041090561]).run Tryd.prog w = .ok (.value (.float .f64 9221120237041090561)) w := fun w => run_Float64frombits 9221120237041090561 w
  go_enter Tryd.func99, Tryd.ntmps99
  go_wp2
  go_ret
  exact ⟨rfl, rfl⟩
theorem is_uvnan : Is .nan 9221120237041090561 := ⟨by decide, by unfold IsNaN rung; decide⟩

theorem nan_nan {x : Nat} (h : Is .nan x) (w : World) :
    Calls Tryd.prog 73 #[.float .f64 x] w fun e w' => e = .returned (.bool true) ∧ w = w' := by
  have := IsNaN_any x w
  rw [show FloatKind.f64.format.order x x = none from order_nan_l _ h.2] at this
  exact this

def nanC (c : Cl) : Bool := match c with | .nan => true | _ => false
theorem nan_cls {c : Cl} {x : Nat} (h : Is c x) (hm : mayC c = true) (w : World) :
    Calls Tryd.prog 73 #[.float .f64 x] w fun e w' => e = .returned (.bool (nanC c)) ∧ w = w' := by
  cases c with
  | nan => exact nan_nan h w
  | other => cases hm
  | ours n => obtain ⟨rfl, hs⟩ := h; exact not_nan n hs.abs w

theorem tmod_pos (a b : Int) (h : 0 ≤ a) : a.tmod b = ((a.natAbs % b.natAbs : Nat) : Int) := by
  have h1 : (a.tmod b).natAbs = a.natAbs % b.natAbs := Int.natAbs_tmod a b
  have h2 : 0 ≤ a.tmod b := Int.tmod_nonneg b h
  omega
theorem tmod_neg (a b : Int) (h : a < 0) : a.tmod b = -((a.natAbs % b.natAbs : Nat) : Int) := by
  have h1 := tmod_pos (-a) b (by omega)
  rw [Int.neg_tmod, Int.natAbs_neg] at h1
  omega

theorem EncR_same {r : Res} {v u : Nat} {k j : Int} (h : EncR r v k) (g : EncR r u j) : k = j := by
  cases r with
  | nan => rw [h.2, g.2]
  | err q => rw [h.2, g.2]
  | ok n => rw [h.2, g.2]

def DrawnTrue (w : World) (e : Ending) (w' : World) : Prop := ∃ n, e = .returned (.bool true) ∧ w' = w.drewN n

end Go.Proofs.YtlgbnfcnimjheaaDoor
