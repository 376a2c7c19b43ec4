/-
  The document's own Same of two rows of keys that are one.
-/
import Derived.Test.YtlgbnfcnimjheaaDoorKeyRefIx
import Derived.Test.YtlgbnfcnimjheaaDoorKeyRows
import Derived.Deep.LoopGhost
namespace Go.Proofs.YtlgbnfcnimjheaaDoor.S
open Go.RowKit Fl

set_option maxHeartbeats 1000000 in
set_option maxRecDepth 100000 in
theorem refSame_yes (A B : Option Addr) (L : List Ky) (capA capB : Nat) (w : World) (hl : L.length < 1000000000000) (hA : RK w A L) (hB : RK w B L) : Calls Tryd.prog 7 #[.slice A L.length capA, .slice B L.length capB] w fun e w' => e = .returned (.bool true) ∧ Below w.heap.size w w' := by
  go_enter Tryd.func7, Tryd.ntmps7
  go_wp2_with (fail)
  go_loopg [5] L.length (fun kx s5 wr => ∃ i : Nat, s5 = .int .i64 i ∧ i + kx = L.length ∧ Hid (Below w.heap.size w wr))
  case atStart => exact ⟨0, rfl, by omega, Lib.hid (Below.refl _ _)⟩
  case round =>
    obtain ⟨i, rfl, hik, H⟩ := hrel
    cases gk with
    | zero =>
      obtain rfl : i = L.length := by omega
      go_wp2_with (fail)
      go_ret
      exact ⟨rfl, H.out⟩
    | succ kx =>
      have hlt : i < L.length := by omega
      have hlz : (i : Int) < (L.length : Int) := by omega
      obtain ⟨a, rfl, ha, hcs⟩ := rk_up hA H.out (by omega)
      obtain ⟨b, rfl, hb, hds⟩ := rk_up hB H.out (by omega)
      obtain ⟨c0, c1⟩ := hcs i hlt
      obtain ⟨d0, d1⟩ := hds i hlt
      have hab : ∀ j, (a.add j).block < wr.heap.size := fun j => by
        have : (a.add j).block = a.block := by unfold Addr.add; split <;> rfl
        rw [this]; exact ha
      have hbb : ∀ j, (b.add j).block < wr.heap.size := fun j => by
        have : (b.add j).block = b.block := by unfold Addr.add; split <;> rfl
        rw [this]; exact hb
      have qe := key_eq 9998 L[i].str L[i].str L[i].sym L[i].sym
      rw [show (L[i].str == L[i].str && L[i].sym == L[i].sym) = true by rw [str_same, beq_self_eq_true]; rfl] at qe
      clear hcs hds
      generalize L[i].str = s at *
      generalize L[i].sym = y at *
      go_wp2
      go_quiet (fail)
      go_wp2
      go_roundg kx
      case measure => omega
      case rel => exact ⟨i + 1, by simp, by omega, Lib.hid (H.out.trans ⟨rfl, rfl, rfl, Nat.le_refl _, fun _ _ => rfl⟩)⟩
end Go.Proofs.YtlgbnfcnimjheaaDoor.S
