/-
  LexSpaces: the walk, whatever comes in.
-/
import Derived.Test.YtgjpcoplnpkmoaaDoorLexSpaces
namespace Go.Proofs.YtgjpcoplnpkmoaaDoor.S
open Go.RowKit Fl

set_option maxHeartbeats 2000000 in
set_option maxRecDepth 1000000 in
theorem LexSpaces_walk (l : List Tk) (w : World) (A : Option Addr) (cap : Nat) (hr : RdA w A l) (hin : ∀ t ∈ l, TkIn t) (hlm : l.length ≤ maxLen) (hcap : l.length ≤ cap) (htab : TabHere w) :
    Calls Tryd.prog 5 #[.slice A l.length cap] w fun e w' => e = .returned (.bool true) ∧ Below w.heap.size w w' := by
  have kal := lexalive_any
  unfold maxLen at hlm
  by_cases h2 : 1000 < l.length
  · have h2' : 1000 < (l.length : Int) := by omega
    clear hr hin htab
    go_enter Tryd.func5, Tryd.ntmps5
    go_wp2_with (go_at_call 10; refine (kal _).mono ?_; rintro e w1 ⟨rfl, hb1⟩; have HB1 := Lib.hid hb1; clear hb1)
    go_ret
    exact ⟨rfl, HB1.out⟩
  · obtain ⟨u, j, hu⟩ := textR_any l
    by_cases hj : j = 0
    · subst hj; exact spaces_yes l A cap w hr hin (by omega) hcap htab u hu
    · have h2' : ¬ 1000 < (l.length : Int) := by omega
      have kx := fun w h1 h2 => Text_any l A cap w h1 hin (by omega) hcap h2 u j hu
      have hj' : (j != 0) = true := by rw [bne_iff_ne]; exact hj
      have HR := Lib.hid hr
      have HT := Lib.hid htab
      clear hr hin htab hu hj h2
      go_enter Tryd.func5, Tryd.ntmps5
      go_wp2_with (first
        | (go_at_call 10; refine (kal _).mono ?_; rintro e w1 ⟨rfl, hb1⟩; have HB1 := Lib.hid hb1; clear hb1)
        | (go_at_call 9; refine (kx _ (rda_up HR.out HB1.out) (tab_below HT.out HB1.out)).mono ?_; rintro e w2 ⟨rfl, hb2⟩; have HB2 := Lib.hid (below_up HB1.out hb2); clear hb2))
      go_ret
      exact ⟨rfl, HB2.out⟩
end Go.Proofs.YtgjpcoplnpkmoaaDoor.S
