/-
  StrPlaces: At, Part, Find, Less and Trim beside the document's own: a walk.
-/
import Derived.Test.YtgjnpgeagalcoaaStrFind2
namespace Go.Proofs.Ytgjnpgeagalcoaa
open Go.RowKit Fl

theorem StrPlaces_walk (s t : ByteArray) (i : Int) (x y : Nat) (w : World) (hsh : w.ShapedOpen Try.prog) (_ : s.size ≤ maxLen) (_ : t.size ≤ maxLen) (_ : (Lit.int .i64 i).wf = true) (_ : x < 2 ^ 64) (_ : y < 2 ^ 64) :
    Calls Try.prog 5 #[.string s, .string t, .int .i64 i, .float .f64 x, .float .f64 y] w fun e w' => e = .returned (.bool true) ∧ Below w.heap.size w w' := by
  by_cases hc : s.size > 9000 ∨ t.size > 9000
  · go_enter Try.func5, Try.ntmps5
    go_wp2
    all_goals (go_ret; exact ⟨rfl, Below.refl _ _⟩)
  · have hs : s.size ≤ 9000 := by omega
    have ht : t.size ≤ 9000 := by omega
    have m0 := ml_shaped hsh
    have k1 := fun w => At_any s i w hs
    have k2 := fun w => refAt_any s i w hs
    have k3 := fun w => Part_any s x y w hs
    have k4 := fun w => refPart_any s x y w hs
    have k5 := fun w hw => Find_any s t i w hw hs
    have k6 := fun w => refFind_any s t i w hs ht
    have k7 := fun w => Less_any s t w
    have k8 := fun w => refLess_any s t w hs
    have k9 := fun w => Trim_any s w hs
    have k10 := fun w => refTrim_any s w hs
    generalize atT s i = r1 at *
    generalize atB s i = r2 at *
    generalize partT s x y = r3 at *
    generalize findI s t i = r4 at *
    generalize Op.bytesLess s.data.toList t.data.toList = r5 at *
    generalize trimT s = r6 at *
    clear hc
    go_enter Try.func5, Try.ntmps5
    go_wp2_with (first
      | (go_at_call 14; refine (k1 _).mono ?_; rintro e w1 ⟨rfl, h1⟩)
      | (go_at_call 21; refine (k2 _).mono ?_; rintro e w2 ⟨rfl, h2⟩)
      | (go_at_call 9; refine (k3 _).mono ?_; rintro e w3 ⟨rfl, h3⟩)
      | (go_at_call 22; refine (k4 _).mono ?_; rintro e w4 ⟨rfl, h4⟩; have b4 := below_up (below_up (below_up h1 h2) h3) h4; have m4 := m0.below b4)
      | (go_at_call 10; refine (k5 _ m4).mono ?_; rintro e w5 ⟨rfl, rfl⟩)
      | (go_at_call 23; refine (k6 _).mono ?_; rintro e w6 ⟨rfl, rfl⟩)
      | (go_at_call 16; refine (k7 _).mono ?_; rintro e w7 ⟨rfl, rfl⟩)
      | (go_at_call 24; refine (k8 _).mono ?_; rintro e w8 ⟨rfl, n8, rfl⟩)
      | (go_at_call 15; refine (k9 _).mono ?_; rintro e w9 ⟨rfl, h9⟩)
      | (go_at_call 25; refine (k10 _).mono ?_; rintro e w10 ⟨rfl, h10⟩))
    go_ret
    exact ⟨rfl, below_up (below_up (World.drewN_below b4 _) h9) h10⟩
end Go.Proofs.Ytgjnpgeagalcoaa
