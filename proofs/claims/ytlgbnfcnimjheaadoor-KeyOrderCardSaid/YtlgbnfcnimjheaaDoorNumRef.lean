/-
  The document's own reckoning, and package num's Neg, told by what the floats are: walks.
-/
import Derived.Test.YtlgbnfcnimjheaaDoorNumOps
namespace Go.Proofs.YtlgbnfcnimjheaaDoor
open Go.RowKit Fl

@[go_sem] theorem unary_negf (k : FloatKind) (b : Nat) : Op.unary .neg (.float k b) = pure (.float k (Op.negFloat k b)) := rfl

theorem neg_nan {x : Nat} (hx : x < 2 ^ 64) (h : IsNaN x) : x ^^^ 2 ^ 63 < 2 ^ 64 ∧ IsNaN (x ^^^ 2 ^ 63) := by
  rw [neg_word x hx]
  unfold IsNaN rung at *
  split <;> omega

def negC (c : Cl) : Res := match c with
  | .nan => .nan
  | .other => .err 2
  | .ours a => negR a

theorem retR_err' (k : Int) (w : World) (n : Nat) : RetR (.err k) w (.returned (.tuple #[.float .f64 0, .int .i64 k])) (w.drewN n) := ⟨0, k, n, ⟨rfl, rfl⟩, rfl, rfl⟩
theorem retR_nan {v : Nat} (h : v < 2 ^ 64 ∧ IsNaN v) (w : World) (n : Nat) : RetR .nan w (.returned (.tuple #[.float .f64 v, .int .i64 0])) (w.drewN n) := ⟨v, 0, n, ⟨h, rfl⟩, rfl, rfl⟩

theorem twoV_no {c d : Cl} (hm : (mayC c && mayC d) = false) : twoV c d = .tuple #[.int .i64 0, .int .i64 0, .bool false, .int .i64 2] := by
  unfold twoV; rw [hm]; rfl
/-- what 'two' tells where both may be and one is no number -/
theorem twoV_nan {c d : Cl} (hm : (mayC c && mayC d) = true) (hn : (!wholeC c || !wholeC d) = true) (f : Int → Int → Res) :
    twoV c d = .tuple #[.int .i64 (wholeI c), .int .i64 (wholeI d), .bool true, .int .i64 0] ∧ opR f c d = .nan := by
  unfold twoV; rw [hm, hn]
  refine ⟨rfl, ?_⟩
  cases c <;> cases d <;> first | rfl | (simp [wholeC] at hn; done) | (simp [mayC] at hm; done)
theorem twoV_ours {c d : Cl} (hn : (!wholeC c || !wholeC d) = false) : ∃ a b, c = .ours a ∧ d = .ours b := by
  cases c <;> cases d <;> first | exact ⟨_, _, rfl, rfl⟩ | (simp [wholeC] at hn; done)

end Go.Proofs.YtlgbnfcnimjheaaDoor
