/-
  What reckoning with two floats comes to, told by what the floats are: package num's operations and the document's own: walks.
-/
import Derived.Test.YtlgbnfcnimjheaaDoorNumRow
namespace Go.Proofs.YtlgbnfcnimjheaaDoor
open Go.RowKit Fl

theorem results_tmp4 {fn : Func} {t u v x : Tmp} (h : fn.results = #[.tmp t, .tmp u, .tmp v, .tmp x]) (tmps : Array Value) (P : Program) (w : World) :
    (results fn tmps).run P w = .ok (.tuple #[tmps.getD t undef, tmps.getD u undef, tmps.getD v undef, tmps.getD x undef]) w := by simp [results, h]

/-- the class of a whole number's word -/
def clF (n : Int) : Cl := if -9007199254740991 ≤ n ∧ n ≤ 9007199254740991 then .ours n else .other
theorem is_clF (n : Int) : Is (clF n) (F n) := by
  unfold clF
  by_cases h : -9007199254740991 ≤ n ∧ n ≤ 9007199254740991
  · rw [if_pos h]; exact ⟨rfl, h⟩
  · rw [if_neg h]; exact ⟨F_lt n, Or.inl (F_big n (by omega))⟩
def tellN (n : Int) : Res := if -9007199254740991 ≤ n ∧ n ≤ 9007199254740991 then .ok n else .err 10
theorem tell_clF (n : Int) : tellC (clF n) = tellN n := by unfold tellN clF; split <;> rfl
theorem is_m0 : Is .other (2 ^ 63) := ⟨by decide, Or.inr (Or.inr rfl)⟩
theorem other_of_frac {z : Nat} (hz : z < 2 ^ 64) (hf : IsFin z) (hm : ru (rung z) % U ≠ 0) : Is .other z := by
  by_cases b : 2 ^ 53 * U ≤ ru (rung z)
  · exact ⟨hz, Or.inl ⟨Nat.le_of_lt hf, b⟩⟩
  · exact ⟨hz, Or.inr (Or.inl ⟨hf, hm, Nat.lt_of_not_le b⟩)⟩
theorem is_inf (s : Bool) : Is .other (Ieee.double.word s Ieee.double.infRung) := by
  have e4 : Ieee.double.infRung = 2047 * 2 ^ 52 := by decide
  rw [e4]
  have w := word_sgn s (2047 * 2 ^ 52) (by decide)
  refine ⟨w.2.2, Or.inl ⟨by rw [w.2.1]; exact Nat.le_refl _, ?_⟩⟩
  rw [w.2.1]; exact ru_inf

/-- an operation that has no answer gives some NaN -/
theorem run_float_none {P : Program} {op : BinOp} {x y : Nat} (hop : op = .add ∨ op = .sub ∨ op = .mul ∨ op = .quo) (h : floatBits op .f64 x y = none) (w : World) :
    ∃ v, v < 2 ^ 64 ∧ IsNaN v ∧ ∀ t, (binOp op t (.float .f64 x) (.float .f64 y)).run P w = .ok (.float .f64 v) (w.drewN 1) := by
  refine ⟨(Question.nanBits .f64 x y).cut (w.tape w.drawn (.nanBits .f64 x y)), ?_, ?_, ?_⟩
  · unfold Question.cut; dsimp only; omega
  · unfold IsNaN rung Question.cut; dsimp only
    generalize w.tape w.drawn (Question.nanBits FloatKind.f64 x y) = t
    obtain ⟨a, ha, ha2⟩ : ∃ a, a = t % 2 ∧ a < 2 := ⟨_, rfl, Nat.mod_lt _ (by decide)⟩
    obtain ⟨b, hb, hb2⟩ : ∃ b, b = t / 2 % (2 ^ 52 - 1) ∧ b < 2 ^ 52 - 1 := ⟨_, rfl, Nat.mod_lt _ (by decide)⟩
    rw [← ha, ← hb]
    clear ha hb
    have : a = 0 ∨ a = 1 := by omega
    rcases this with c | c <;> subst c <;> omega
  · intro t
    unfold floatBits at h
    rcases hop with rfl | rfl | rfl | rfl
    all_goals
      simp only at h
      simp [binOp, Op.floatArith, h, Question.forced, World.drewN]

theorem nan_l {op : BinOp} {x : Nat} (y : Nat) (h : IsNaN x) : floatBits op .f64 x y = none := by
  obtain ⟨t, hr⟩ := read_nan h
  have h2 : FloatKind.f64.format.read x = .nan (sgn x) t := hr
  unfold floatBits
  cases op <;> first | rfl | (simp only [Ieee.Format.add, Ieee.Format.sub, Ieee.Format.mul, Ieee.Format.div, h2]; rfl)

theorem nan_r {op : BinOp} (x : Nat) {y : Nat} (h : IsNaN y) : floatBits op .f64 x y = none := by
  obtain ⟨t, hr⟩ := read_nan h
  have h2 : FloatKind.f64.format.read y = .nan (sgn y) t := hr
  unfold floatBits
  cases op <;> first | rfl | (simp only [Ieee.Format.add, Ieee.Format.sub, Ieee.Format.mul, Ieee.Format.div, h2]; cases FloatKind.f64.format.read x <;> rfl)

/-- the class of a sum, a difference, a product, a quotient of our numbers, and its word -/
def SomeNaN (w : World) (e : Ending) (w' : World) : Prop := ∃ v n, (v < 2 ^ 64 ∧ IsNaN v) ∧ e = .returned (.float .f64 v) ∧ w' = w.drewN n

def twoV (c d : Cl) : Value := if mayC c && mayC d then .tuple #[.int .i64 (wholeI c), .int .i64 (wholeI d), .bool (!wholeC c || !wholeC d), .int .i64 0] else .tuple #[.int .i64 0, .int .i64 0, .bool false, .int .i64 2]

def EncV (r : Res) (w : World) (e : Ending) (w' : World) : Prop := ∃ v k, EncR r v k ∧ e = .returned (.tuple #[.float .f64 v, .int .i64 k]) ∧ w = w'

/-- a reckoning of two of our numbers by f; an error where one is none of ours, no number where one is no number -/
def opR (f : Int → Int → Res) (c d : Cl) : Res := match c, d with
  | .other, _ => .err 2
  | _, .other => .err 2
  | .ours a, .ours b => f a b
  | _, _ => .nan

theorem retR_err (k : Int) (w : World) : RetR (.err k) w (.returned (.tuple #[.float .f64 0, .int .i64 k])) w := ⟨0, k, 0, ⟨rfl, rfl⟩, rfl, rfl⟩
theorem retR_of {r : Res} {v : Nat} {k : Int} (h : EncR r v k) (w : World) (n : Nat) : RetR r w (.returned (.tuple #[.float .f64 v, .int .i64 k])) (w.drewN n) := ⟨v, k, n, h, rfl, rfl⟩

/-- one operation of two of our numbers, of any class: what it comes to -/
def Worth (op : BinOp) (f : Int → Int → Res) : Prop := ∀ a b : Int, SafeN a → SafeN b →
  (∃ c z, floatBits op .f64 (F a) (F b) = some z ∧ Is c z ∧ tellC c = f a b) ∨ (floatBits op .f64 (F a) (F b) = none ∧ f a b = .nan)

def sumR (a b : Int) : Res := tellN (a + b)
def subR (a b : Int) : Res := tellN (a - b)
def mulR (a b : Int) : Res := if a = 0 ∨ b = 0 then (if a < 0 ∨ b < 0 then .err 10 else .ok 0) else tellN (a * b)
def divR (a b : Int) : Res := if b = 0 then (if a = 0 then .nan else .err 10) else if a = 0 then (if b < 0 then .err 10 else .ok 0) else if a.tmod b ≠ 0 then .err 10 else .ok (a.tdiv b)
def remR (a b : Int) : Res := if b = 0 then .nan else if a < 0 ∧ a.tmod b = 0 then .err 10 else .ok (a.tmod b)
def negR (a : Int) : Res := if a = 0 then .err 10 else .ok (-a)

theorem word_f0 : Ieee.double.word false 0 = F 0 := by decide
theorem word_t0 : Ieee.double.word true 0 = 2 ^ 63 := by decide

theorem worth_add : Worth .add sumR := fun a b ha hb => Or.inl ⟨_, _, add_F a b ha.abs hb.abs, is_clF _, tell_clF _⟩
theorem worth_sub : Worth .sub subR := fun a b ha hb => Or.inl ⟨_, _, sub_F a b ha.abs hb.abs, is_clF _, tell_clF _⟩
theorem worth_mul : Worth .mul mulR := by
  intro a b ha hb
  left
  have h : floatBits .mul .f64 (F a) (F b) = _ := mul_F a b ha.abs hb.abs
  unfold mulR
  by_cases c : a = 0 ∨ b = 0
  · rw [if_pos c] at h ⊢
    by_cases d : a < 0 ∨ b < 0
    · rw [if_pos d]
      refine ⟨.other, _, h, ?_, rfl⟩
      have : (decide (a < 0) ^^ decide (b < 0)) = true := by
        rcases c with c | c <;> rcases d with d | d <;> simp [c, d] <;> omega
      rw [this, word_t0]; exact is_m0
    · rw [if_neg d]
      refine ⟨.ours 0, _, h, ?_, rfl⟩
      have : (decide (a < 0) ^^ decide (b < 0)) = false := by
        have d1 : ¬ a < 0 := fun e => d (Or.inl e)
        have d2 : ¬ b < 0 := fun e => d (Or.inr e)
        simp [d1, d2]
      rw [this, word_f0]; exact ⟨rfl, by unfold SafeN; omega⟩
  · rw [if_neg c] at h ⊢
    exact ⟨_, _, h, is_clF _, tell_clF _⟩
theorem worth_div : Worth .quo divR := by
  intro a b ha hb
  unfold divR
  by_cases b0 : b = 0
  · subst b0
    rw [if_pos rfl]
    by_cases a0 : a = 0
    · subst a0; right; exact ⟨div_zero_zero, rfl⟩
    · rw [if_neg a0]; left
      exact ⟨.other, _, div_zero_r a ha.abs a0, is_inf _, rfl⟩
  · rw [if_neg b0]
    left
    by_cases a0 : a = 0
    · subst a0
      rw [if_pos rfl]
      have h : floatBits .quo .f64 (F 0) (F b) = _ := div_zero_l b hb.abs b0
      by_cases d : b < 0
      · rw [if_pos d]
        refine ⟨.other, _, h, ?_, rfl⟩
        rw [decide_eq_true d, word_t0]; exact is_m0
      · rw [if_neg d]
        refine ⟨.ours 0, _, h, ?_, rfl⟩
        rw [decide_eq_false d, word_f0]; exact ⟨rfl, by unfold SafeN; omega⟩
    · rw [if_neg a0]
      by_cases m : a.tmod b = 0
      · rw [if_neg (by simp [m])]
        have hq : a = a.tdiv b * b := by
          have := Int.tmod_add_mul_tdiv a b
          rw [m, Int.zero_add, Int.mul_comm] at this; exact this.symm
        refine ⟨.ours (a.tdiv b), _, div_F a b ha.abs hb.abs a0 b0 _ hq, ⟨rfl, ?_⟩, rfl⟩
        have h1 : (a.tdiv b).natAbs ≤ a.natAbs := by
          rw [Int.natAbs_tdiv]; exact Nat.div_le_self _ _
        have := ha; unfold SafeN at this ⊢; omega
      · rw [if_pos m]
        obtain ⟨z, h, hz, hf, hm⟩ := div_F_frac a b ha.abs hb.abs b0 (by
          intro q hq
          apply m
          have : a.natAbs % b.natAbs = 0 := by rw [hq]; exact Nat.mul_mod_left _ _
          have h2 : (a.tmod b).natAbs = a.natAbs % b.natAbs := Int.natAbs_tmod a b
          omega)
        exact ⟨.other, z, h, other_of_frac hz hf hm, rfl⟩

/-- an operation of package num that asks 'both', reckons, and tells: all of them at once -/
theorem reckon {op : BinOp} {f : Int → Int → Res} {c d : Cl} {x y : Nat} (hop : op = .add ∨ op = .sub ∨ op = .mul ∨ op = .quo) (hf : Worth op f) (h : Is c x) (g : Is d y) (hm : (mayC c && mayC d) = true) (w : World) :
    ∃ e z n, Is e z ∧ tellC e = opR f c d ∧ ∀ t, (binOp op t (.float .f64 x) (.float .f64 y)).run Tryd.prog w = .ok (.float .f64 z) (w.drewN n) := by
  have key : (∃ e z, floatBits op .f64 x y = some z ∧ Is e z ∧ tellC e = opR f c d) ∨ (floatBits op .f64 x y = none ∧ opR f c d = .nan) := by
    cases c with
    | other => cases hm
    | nan =>
      cases d with
      | other => cases hm
      | nan => exact Or.inr ⟨nan_l y h.2, rfl⟩
      | ours b => exact Or.inr ⟨nan_l y h.2, rfl⟩
    | ours a =>
      cases d with
      | other => cases hm
      | nan => exact Or.inr ⟨nan_r x g.2, rfl⟩
      | ours b =>
        obtain ⟨rfl, ha⟩ := h
        obtain ⟨rfl, hb⟩ := g
        rcases hf a b ha hb with ⟨e, z, h1, h2, h3⟩ | ⟨h1, h2⟩
        · exact Or.inl ⟨e, z, h1, h2, h3⟩
        · exact Or.inr ⟨h1, h2⟩
  rcases key with ⟨e, z, h1, h2, h3⟩ | ⟨h1, h2⟩
  · exact ⟨e, z, 0, h2, h3, fun t => run_float_arith w op t .f64 x y z h1⟩
  · obtain ⟨v, v1, v2, v3⟩ := run_float_none (P := Tryd.prog) hop h1 w
    exact ⟨.nan, v, 1, ⟨v1, v2⟩, h2.symm, v3⟩

theorem opR_no {f : Int → Int → Res} {c d : Cl} (hm : (mayC c && mayC d) = false) : opR f c d = .err 2 := by
  cases c <;> cases d <;> first | rfl | cases hm

end Go.Proofs.YtlgbnfcnimjheaaDoor
