/-
  The document's own reckoning, and package num's Neg, told by what the floats are: walks.
-/
import Derived.Test.YtggcepoolcfpgaaDoorNumOps
namespace Go.Proofs.YtggcepoolcfpgaaDoor
open Go.RowKit Fl

@[go_sem] theorem unary_negf (k : FloatKind) (b : Nat) : Op.unary .neg (.float k b) = pure (.float k (Op.negFloat k b)) := rfl

theorem neg_nan {x : Nat} (hx : x < 2 ^ 64) (h : IsNaN x) : x ^^^ 2 ^ 63 < 2 ^ 64 ∧ IsNaN (x ^^^ 2 ^ 63) := by
  rw [neg_word x hx]
  unfold IsNaN rung at *
  split <;> omega

def negC (c : Cl) : Res := match c with
  | .nan => .nan
  | .other => .err 2
  | .ours a => negR a

theorem Neg_cls {c : Cl} {x : Nat} (h : Is c x) (w : World) :
    Calls Tryd.prog 8 #[.float .f64 x] w (RetR (negC c) w) := by
  have hb := fun w => May_cls h w
  cases c with
  | other =>
    dsimp only [mayC] at hb
    go_enter Tryd.func8, Tryd.ntmps8
    go_wp2_with (go_at_call 19; refine (hb _).mono ?_; rintro e w' ⟨rfl, rfl⟩)
    go_ret2
    exact retR_err 2 w
  | nan =>
    dsimp only [mayC] at hb
    have he : Is .nan (Op.negFloat .f64 x) := neg_nan h.1 h.2
    go_enter Tryd.func8, Tryd.ntmps8
    go_wp2_with (first | (go_at_call 19; refine (hb _).mono ?_; rintro e w' ⟨rfl, rfl⟩) | (go_at_call 22; refine (tell_cls he _).mono ?_; rintro e w' ⟨v, k, hk, rfl, rfl⟩))
    go_ret2
    exact retR_of hk w 0
  | ours n =>
    dsimp only [mayC] at hb
    obtain ⟨e, he, ht⟩ : ∃ e, Is e (Op.negFloat .f64 x) ∧ tellC e = negC (.ours n) := by
      obtain ⟨rfl, hs⟩ := h
      dsimp only [negC, negR]
      by_cases h0 : n = 0
      · subst h0
        refine ⟨.other, ?_, by rw [if_pos rfl]; rfl⟩
        have : Op.negFloat .f64 (F 0) = 2 ^ 63 := by decide
        rw [this]; exact is_m0
      · refine ⟨.ours (-n), ⟨neg_F n hs.abs h0, ?_⟩, by rw [if_neg h0]; rfl⟩
        unfold SafeN at *; omega
    rw [← ht]
    clear ht h
    go_enter Tryd.func8, Tryd.ntmps8
    go_wp2_with (first | (go_at_call 19; refine (hb _).mono ?_; rintro e w' ⟨rfl, rfl⟩) | (go_at_call 22; refine (tell_cls he _).mono ?_; rintro e w' ⟨v, k, hk, rfl, rfl⟩))
    go_ret2
    exact retR_of hk w 0

theorem retR_err' (k : Int) (w : World) (n : Nat) : RetR (.err k) w (.returned (.tuple #[.float .f64 0, .int .i64 k])) (w.drewN n) := ⟨0, k, n, ⟨rfl, rfl⟩, rfl, rfl⟩
theorem retR_nan {v : Nat} (h : v < 2 ^ 64 ∧ IsNaN v) (w : World) (n : Nat) : RetR .nan w (.returned (.tuple #[.float .f64 v, .int .i64 0])) (w.drewN n) := ⟨v, 0, n, ⟨h, rfl⟩, rfl, rfl⟩

theorem twoV_no {c d : Cl} (hm : (mayC c && mayC d) = false) : twoV c d = .tuple #[.int .i64 0, .int .i64 0, .bool false, .int .i64 2] := by
  unfold twoV; rw [hm]; rfl
/-- what 'two' tells where both may be and one is no number -/
theorem twoV_nan {c d : Cl} (hm : (mayC c && mayC d) = true) (hn : (!wholeC c || !wholeC d) = true) (f : Int → Int → Res) :
    twoV c d = .tuple #[.int .i64 (wholeI c), .int .i64 (wholeI d), .bool true, .int .i64 0] ∧ opR f c d = .nan := by
  unfold twoV; rw [hm, hn]
  refine ⟨rfl, ?_⟩
  cases c <;> cases d <;> first | rfl | (simp [wholeC] at hn; done) | (simp [mayC] at hm; done)
theorem twoV_ours {c d : Cl} (hn : (!wholeC c || !wholeC d) = false) : ∃ a b, c = .ours a ∧ d = .ours b := by
  cases c <;> cases d <;> first | exact ⟨_, _, rfl, rfl⟩ | (simp [wholeC] at hn; done)

end Go.Proofs.YtggcepoolcfpgaaDoor
