/-
  NumBack, walked: what package num reckoned is reckoned back, for every two floats.
-/
import Derived.Test.YtggcepoolcfpgaaNumBack
namespace Go.Proofs.Ytggcepoolcfpgaa
open Go.RowKit Fl

theorem add_cases {a b : Int} (ha : SafeN a) : (∃ s, sumR a b = .ok s ∧ SafeN s ∧ subR s b = .ok a) ∨ sumR a b = .err 10 := by
  rcases tellN_cases (a + b) with ⟨h1, h2⟩ | h
  · refine Or.inl ⟨_, h1, h2, ?_⟩
    unfold subR
    rw [show a + b - b = a by omega]
    exact tellN_ok ha
  · exact Or.inr h

theorem opR_ours (f : Int → Int → Res) (a b : Int) : opR f (.ours a) (.ours b) = f a b := rfl

set_option maxHeartbeats 4000000 in
set_option maxRecDepth 100000 in
theorem NumBack_zero {a b : Int} (ha : SafeN a) (hb : SafeN b) (b0 : b = 0) (w : World) :
    Calls Try.prog 6 #[.float .f64 (F a), .float .f64 (F b)] w fun e w' => e = .returned (.bool true) ∧ Below w.heap.size w w' := by
  have m1 := fun w => May_cls (is_ours ha) w
  have m2 := fun w => May_cls (is_ours hb) w
  have hx := self_cls (is_ours ha)
  have hy := self_cls (is_ours hb)
  have hA := fun w => Add_cls (is_ours ha) (is_ours hb) w
  have hM := fun w => Mul_cls (is_ours ha) (is_ours hb) w
  have hD := fun w => Div_cls (is_ours ha) (is_ours hb) w
  have hR := fun w => Rem_cls (is_ours ha) (is_ours hb) w
  have hS : ∀ s, SafeN s → subR s b = .ok a → ∀ w, Calls Try.prog 8 #[.float .f64 (F s), .float .f64 (F b)] w (OkAt (F a) w) := fun s hs e w => (Sub_cls (is_ours hs) (is_ours hb) w).mono fun _ _ h => okAt rfl (by rw [opR_ours, e] at h; exact h)
  have oy : FloatKind.f64.format.order (F b) 0 = some .eq := by rw [order_zero hb, b0]; rfl
  rw [opR_ours] at hA hM hD hR
  have eR : remR a b = .nan := by unfold remR; rw [if_pos b0]
  rw [eR] at hR
  have eM : (∃ p, mulR a b = .ok p) ∨ mulR a b = .err 10 := by
    unfold mulR
    rw [if_pos (Or.inr b0)]
    by_cases c : a < 0 ∨ b < 0
    · rw [if_pos c]; exact Or.inr rfl
    · rw [if_neg c]; exact Or.inl ⟨_, rfl⟩
  have eD : divR a b = .nan ∨ divR a b = .err 10 := by
    unfold divR
    rw [if_pos b0]
    by_cases c : a = 0
    · rw [if_pos c]; exact Or.inl rfl
    · rw [if_neg c]; exact Or.inr rfl
  have eA := add_cases (b := b) ha
  generalize F a = x at *
  generalize F b = y at *
  dsimp only [mayC] at m1 m2
  dsimp only [selfO] at hx hy
  clear ha hb b0 eR
  rcases eA with ⟨s, es, hs, eback⟩ | es <;> rcases eM with ⟨p, ep⟩ | ep <;> rcases eD with ed | ed
  all_goals
    rw [es] at hA
    rw [ep] at hM
    rw [ed] at hD
    first | (have hS := hS s hs eback; clear eback hs) | clear hS
    clear es ep ed
    go_enter Try.func6, Try.ntmps6
    go_wp2_with (first
      | (go_at_call 30; refine (alive_any _).mono ?_; rintro e w' ⟨n1, rfl, rfl⟩)
      | (go_at_call 20; ((with_reducible refine (m1 _).mono ?_); rintro e w' ⟨rfl, rfl⟩))
      | (go_at_call 20; ((with_reducible refine (m2 _).mono ?_); rintro e w' ⟨rfl, rfl⟩))
      | (go_at_call 31; refine (lawnone_any _ _).mono ?_; rintro e w' ⟨rfl, rfl⟩)
      | (go_at_call 7; refine (hA _).mono ?_; (first | (rintro e w' ⟨v1, k1, p1, ⟨⟨rfl, _⟩, rfl⟩, rfl, rfl⟩) | (rintro e w' ⟨v1, k1, p1, ⟨rfl, rfl⟩, rfl, rfl⟩)))
      | (go_at_call 8; refine (hS _).mono ?_; rintro e w' ⟨p2, rfl, rfl⟩)
      | (go_at_call 9; refine (hM _).mono ?_; (first | (rintro e w' ⟨v3, k3, p3, ⟨⟨rfl, _⟩, rfl⟩, rfl, rfl⟩) | (rintro e w' ⟨v3, k3, p3, ⟨rfl, rfl⟩, rfl, rfl⟩)))
      | (go_at_call 10; refine (hD _).mono ?_; (first | (rintro e w' ⟨v4, k4, p4, ⟨hn4, rfl⟩, rfl, rfl⟩; clear hn4) | (rintro e w' ⟨v4, k4, p4, ⟨rfl, rfl⟩, rfl, rfl⟩)))
      | (go_at_call 11; refine (hR _).mono ?_; (rintro e w' ⟨v5, k5, p5, ⟨hn5, rfl⟩, rfl, rfl⟩; clear hn5)))
    go_ret
    exact ⟨rfl, below_drawn _ _⟩
end Go.Proofs.Ytggcepoolcfpgaa
