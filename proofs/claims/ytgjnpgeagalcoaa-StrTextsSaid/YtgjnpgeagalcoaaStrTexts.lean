/-
  StrTexts: Plain and Quote beside the document's own: walks.
-/
import Derived.Test.YtgjnpgeagalcoaaStrPlainRef
namespace Go.Proofs.Ytgjnpgeagalcoaa
open Go.RowKit

theorem StrTexts_walk (s : ByteArray) (w : World) (_ : s.size ≤ maxLen) :
    Calls Try.prog 6 #[.string s] w fun e w' => e = .returned (.bool true) ∧ Below w.heap.size w w' := by
  by_cases hc : (9000 < s.size ∧ s.size ≤ 65536) ∨ 70000 < s.size
  · rcases hc with ⟨c1, c2⟩ | c1
    · go_enter Try.func6, Try.ntmps6
      go_wp2
      all_goals (go_ret; exact ⟨rfl, Below.refl _ _⟩)
    · go_enter Try.func6, Try.ntmps6
      go_wp2
      all_goals (go_ret; exact ⟨rfl, Below.refl _ _⟩)
  · have hs : s.size ≤ 70000 := by omega
    have k1 := fun w => Plain_any s w hs
    have k2 := fun w => refPlain_any s w hs
    generalize plainO s = r at *
    obtain ⟨t, a, k⟩ := r
    by_cases c : 9000 < s.size
    · have c2 : 65536 < s.size := by omega
      clear hc
      go_enter Try.func6, Try.ntmps6
      go_wp2_with (first
        | (go_at_call 11; refine (k1 _).mono ?_; rintro e w1 ⟨rfl, h1⟩)
        | (go_at_call 26; refine (k2 _).mono ?_; rintro e w2 ⟨rfl, h2⟩))
      go_ret
      exact ⟨rfl, below_up h1 h2⟩
    · have k3 := fun w => Quote_any s w (by omega)
      have k4 := fun w => refQuote_any s w (by omega)
      generalize (⟨(quoteL s.data.toList).toArray⟩ : ByteArray) = q at *
      clear hc
      go_enter Try.func6, Try.ntmps6
      go_wp2_with (first
        | (go_at_call 11; refine (k1 _).mono ?_; rintro e w1 ⟨rfl, h1⟩)
        | (go_at_call 26; refine (k2 _).mono ?_; rintro e w2 ⟨rfl, h2⟩)
        | (go_at_call 12; refine (k3 _).mono ?_; rintro e w3 ⟨rfl, h3⟩)
        | (go_at_call 27; refine (k4 _).mono ?_; rintro e w4 ⟨rfl, h4⟩))
      go_ret
      exact ⟨rfl, below_up (below_up (below_up h1 h2) h3) h4⟩
end Go.Proofs.Ytgjnpgeagalcoaa
