/-
  NumBack: what package num reckoned is reckoned back, for every two floats: walks.
-/
import Derived.Test.YtlgbnfcnimjheaaDoorNumSums

namespace Go.Proofs.YtlgbnfcnimjheaaDoor
open Go.RowKit Fl

def RetOk (n : Int) (w : World) (e : Ending) (w' : World) : Prop := ∃ m, e = .returned (.tuple #[.float .f64 (F n), .int .i64 0]) ∧ w' = w.drewN m
def RetBad (w : World) (e : Ending) (w' : World) : Prop := ∃ v k m, k ≠ 0 ∧ e = .returned (.tuple #[.float .f64 v, .int .i64 k]) ∧ w' = w.drewN m
theorem retR_ok {n : Int} {w : World} {e : Ending} {w' : World} (h : RetR (.ok n) w e w') : RetOk n w e w' := by
  obtain ⟨v, k, m, ⟨⟨rfl, _⟩, rfl⟩, h2, h3⟩ := h
  exact ⟨m, h2, h3⟩

theorem aliveE : EncR (sumR 2 3) (F 5) 0 := ⟨⟨rfl, by unfold SafeN; omega⟩, rfl⟩
def sizeV (b : Int) : Int := (b.natAbs : Int)
theorem is_ours {n : Int} (h : SafeN n) : Is (.ours n) (F n) := ⟨rfl, h⟩
def Drawn (w w' : World) : Prop := ∃ n, w' = w.drewN n

def selfO (c : Cl) : Option Ordering := match c with
  | .nan => none
  | _ => some .eq
theorem self_cls {c : Cl} {x : Nat} (h : Is c x) : FloatKind.f64.format.order x x = selfO c := by
  cases c with
  | nan => exact order_nan_l x h.2
  | other => exact order_self (other_not_nan h)
  | ours n => obtain ⟨rfl, hs⟩ := h; exact order_self (not_nan_F n hs.abs)

/-- what comes of a reckoning that tells n -/
def OkAt (x : Nat) (w : World) (e : Ending) (w' : World) : Prop := ∃ m, e = .returned (.tuple #[.float .f64 x, .int .i64 0]) ∧ w' = w.drewN m
theorem okAt {n : Int} {x : Nat} (hx : F n = x) {w : World} {e : Ending} {w' : World} (h : RetR (.ok n) w e w') : OkAt x w e w' := by
  obtain ⟨v, k, m, ⟨⟨rfl, _⟩, rfl⟩, h2, h3⟩ := h
  exact ⟨m, by rw [← hx]; exact h2, h3⟩

theorem tellN_cases (n : Int) : (tellN n = .ok n ∧ SafeN n) ∨ tellN n = .err 10 := by
  unfold tellN
  by_cases c : -9007199254740991 ≤ n ∧ n ≤ 9007199254740991
  · exact Or.inl ⟨if_pos c, c⟩
  · exact Or.inr (if_neg c)

theorem tellN_ok {n : Int} (h : SafeN n) : tellN n = .ok n := if_pos h

theorem mul_back {a b : Int} (ha : SafeN a) (b0 : b ≠ 0) (hab : a ≠ 0 ∨ 0 < b) : (∃ p, mulR a b = .ok p ∧ SafeN p ∧ divR p b = .ok a) ∨ mulR a b = .err 10 := by
  unfold mulR
  by_cases c : a = 0 ∨ b = 0
  · rw [if_pos c]
    have a0 : a = 0 := c.resolve_right b0
    subst a0
    have hb : ¬ ((0 : Int) < 0 ∨ b < 0) := by omega
    rw [if_neg hb]
    refine Or.inl ⟨0, rfl, by unfold SafeN; omega, ?_⟩
    unfold divR
    rw [if_neg b0, if_pos rfl, if_neg (by omega)]
  · rw [if_neg c]
    rcases tellN_cases (a * b) with ⟨h1, h2⟩ | h
    · refine Or.inl ⟨_, h1, h2, ?_⟩
      have a0 : a ≠ 0 := fun e => c (Or.inl e)
      have p0 : a * b ≠ 0 := Int.mul_ne_zero a0 b0
      unfold divR
      rw [if_neg b0, if_neg p0, if_neg (by rw [Int.mul_tmod_left]; simp), Int.mul_tdiv_cancel _ b0]
    · exact Or.inr h

theorem div_back {a b : Int} (ha : SafeN a) (b0 : b ≠ 0) : (∃ q, divR a b = .ok q ∧ SafeN q ∧ mulR q b = .ok a) ∨ divR a b = .err 10 := by
  unfold divR
  rw [if_neg b0]
  by_cases a0 : a = 0
  · subst a0
    rw [if_pos rfl]
    by_cases c : b < 0
    · rw [if_pos c]; exact Or.inr rfl
    · rw [if_neg c]
      refine Or.inl ⟨0, rfl, by unfold SafeN; omega, ?_⟩
      unfold mulR
      rw [if_pos (Or.inl rfl), if_neg (by omega)]
  · rw [if_neg a0]
    by_cases m : a.tmod b = 0
    · rw [if_neg (by simp [m])]
      have hq : a.tdiv b * b = a := by
        have := Int.tmod_add_mul_tdiv a b
        rw [m, Int.zero_add, Int.mul_comm] at this; exact this
      have q0 : a.tdiv b ≠ 0 := by intro e; rw [e, Int.zero_mul] at hq; exact a0 hq.symm
      have h1 : (a.tdiv b).natAbs ≤ a.natAbs := by rw [Int.natAbs_tdiv]; exact Nat.div_le_self _ _
      refine Or.inl ⟨_, rfl, by unfold SafeN at *; omega, ?_⟩
      unfold mulR
      rw [if_neg (by intro e; rcases e with e | e; exact q0 e; exact b0 e), hq]
      exact tellN_ok ha
    · rw [if_pos m]; exact Or.inr rfl

theorem rem_back {a b : Int} (ha : SafeN a) (hb : SafeN b) (b0 : b ≠ 0) :
    (∃ r t, remR a b = .ok r ∧ SafeN r ∧ t = a - r ∧ subR a r = .ok t ∧ SafeN t ∧ (t = 0 → r = a) ∧ (t ≠ 0 → ∃ q, SafeN q ∧ divR t b = .ok q) ∧ (r = 0 ∨ (0 < r ∧ 0 < a) ∨ (r < 0 ∧ a < 0)) ∧ -(b.natAbs : Int) < r ∧ r < (b.natAbs : Int)) ∨ remR a b = .err 10 := by
  unfold remR
  rw [if_neg b0]
  by_cases c : a < 0 ∧ a.tmod b = 0
  · rw [if_pos c]; exact Or.inr rfl
  · rw [if_neg c]
    left
    have h1 : (a.tmod b).natAbs = a.natAbs % b.natAbs := Int.natAbs_tmod a b
    have h2 : a.natAbs % b.natAbs < b.natAbs := Nat.mod_lt _ (by omega)
    have h3 : a.natAbs % b.natAbs ≤ a.natAbs := Nat.mod_le _ _
    have h4 := Int.tmod_add_mul_tdiv a b
    have hsgn : (0 ≤ a ∧ 0 ≤ a.tmod b) ∨ (a < 0 ∧ a.tmod b ≤ 0) := by
      by_cases s : a < 0
      · right; refine ⟨s, ?_⟩
        rw [tmod_neg a b s]; omega
      · left; exact ⟨by omega, Int.tmod_nonneg b (by omega)⟩
    have hst : SafeN (a - a.tmod b) := by unfold SafeN at *; omega
    refine ⟨_, _, rfl, by unfold SafeN at *; omega, rfl, tellN_ok hst, hst, fun e => by omega, fun e => ?_, by omega, by omega, by omega⟩
    have e2 : a - a.tmod b = a.tdiv b * b := by rw [Int.mul_comm]; omega
    unfold divR
    rw [if_neg b0, if_neg e, e2, if_neg (by rw [Int.mul_tmod_left]; simp), Int.mul_tdiv_cancel _ b0]
    have h5 : (a.tdiv b).natAbs ≤ a.natAbs := by rw [Int.natAbs_tdiv]; exact Nat.div_le_self _ _
    exact ⟨_, by unfold SafeN at *; omega, rfl⟩

theorem order_zero {n : Int} (h : SafeN n) : FloatKind.f64.format.order (F n) 0 = some (compare n 0) := by
  have := order_F n 0 h.abs (by decide)
  rw [F_zero] at this
  exact this
end Go.Proofs.YtlgbnfcnimjheaaDoor
