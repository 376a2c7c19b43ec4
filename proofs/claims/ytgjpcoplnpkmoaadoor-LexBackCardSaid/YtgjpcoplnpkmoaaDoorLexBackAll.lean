/-
  LexBack: the walk, whatever comes in.
-/
import Derived.Test.YtgjpcoplnpkmoaaDoorLexBackWalk2
import Derived.Test.YtgjpcoplnpkmoaaDoorLexOpen
namespace Go.Proofs.YtgjpcoplnpkmoaaDoor.S
open Go.RowKit Fl

set_option maxHeartbeats 2000000 in
set_option maxRecDepth 1000000 in
theorem LexBack_walk (s : ByteArray) (l : List Tk) (w : World) (hm : s.size ≤ maxLen) (A : Option Addr) (cap : Nat) (hr : RdA w A l) (hin : ∀ t ∈ l, TkIn t) (hlm : l.length ≤ maxLen) (hcap : l.length ≤ cap) (htab : TabHere w) :
    Calls Tryd.prog 4 #[.string s, .slice A l.length cap] w fun e w' => e = .returned (.bool true) ∧ Below w.heap.size w w' := by
  have kal := lexalive_any
  unfold maxLen at hm hlm
  by_cases h1 : 3000 < s.size
  · have h1' : 3000 < (s.size : Int) := by omega
    clear hr hin htab
    go_enter Tryd.func4, Tryd.ntmps4
    go_wp2_with (go_at_call 10; refine (kal _).mono ?_; rintro e w1 ⟨rfl, hb1⟩; have HB1 := Lib.hid hb1; clear hb1)
    go_ret
    exact ⟨rfl, HB1.out⟩
  · by_cases h2 : 1000 < l.length
    · have h1' : ¬ 3000 < (s.size : Int) := by omega
      have h2' : 1000 < (l.length : Int) := by omega
      clear hr hin htab
      go_enter Tryd.func4, Tryd.ntmps4
      go_wp2_with (go_at_call 10; refine (kal _).mono ?_; rintro e w1 ⟨rfl, hb1⟩; have HB1 := Lib.hid hb1; clear hb1)
      go_ret
      exact ⟨rfl, HB1.out⟩
    · cases h : toks s.data.toList with
      | ok R => exact back_ok s l A cap w (by omega) hr hin (by omega) hcap htab R h
      | err a k =>
        obtain ⟨u, j, hu⟩ := textR_any l
        by_cases hj : j = 0
        · subst hj; exact back_err0 s l A cap w (by omega) hr hin (by omega) hcap htab a k h u hu
        · exact back_err s l A cap w (by omega) hr hin (by omega) hcap htab a k h u j hu hj
end Go.Proofs.YtgjpcoplnpkmoaaDoor.S
