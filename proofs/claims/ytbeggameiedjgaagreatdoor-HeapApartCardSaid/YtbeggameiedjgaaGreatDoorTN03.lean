/-
  What reckoning with two floats comes to, told by what the floats are: package num's operations and the document's own: walks.
-/
import Derived.Test.YtbeggameiedjgaaGreatDoorTN02
import Derived.Lib.SlTrimSet
import Derived.Lib.ItoaNum
namespace Go.Proofs.YtbeggameiedjgaaGreatDoor
open Go.RowKit Fl

theorem results_tmp4 {fn : Func} {t u v x : Tmp} (h : fn.results = #[.tmp t, .tmp u, .tmp v, .tmp x]) (tmps : Array Value) (P : Program) (w : World) :
    (results fn tmps).run P w = .ok (.tuple #[tmps.getD t undef, tmps.getD u undef, tmps.getD v undef, tmps.getD x undef]) w := by simp [results, h]

/-- the class of a whole number's word -/
def clF (n : Int) : Cl := if -9007199254740991 ≤ n ∧ n ≤ 9007199254740991 then .ours n else .other
theorem is_clF (n : Int) : Is (clF n) (F n) := by
  unfold clF
  by_cases h : -9007199254740991 ≤ n ∧ n ≤ 9007199254740991
  · rw [if_pos h]; exact ⟨rfl, h⟩
  · rw [if_neg h]; exact ⟨F_lt n, Or.inl (F_big n (by omega))⟩
def tellN (n : Int) : Res := if -9007199254740991 ≤ n ∧ n ≤ 9007199254740991 then .ok n else .err 10
theorem tell_clF (n : Int) : tellC (clF n) = tellN n := by unfold tellN clF; split <;> rfl
theorem is_m0 : Is .other (2 ^ 63) := ⟨by decide, Or.inr (Or.inr rfl)⟩
theorem other_of_frac {z : Nat} (hz : z < 2 ^ 64) (hf : IsFin z) (hm : ru (rung z) % U ≠ 0) : Is .other z := by
  by_cases b : 2 ^ 53 * U ≤ ru (rung z)
  · exact ⟨hz, Or.inl ⟨Nat.le_of_lt hf, b⟩⟩
  · exact ⟨hz, Or.inr (Or.inl ⟨hf, hm, Nat.lt_of_not_le b⟩)⟩
theorem is_inf (s : Bool) : Is .other (Ieee.double.word s Ieee.double.infRung) := by
  have e4 : Ieee.double.infRung = 2047 * 2 ^ 52 := by decide
  rw [e4]
  have w := word_sgn s (2047 * 2 ^ 52) (by decide)
  refine ⟨w.2.2, Or.inl ⟨by rw [w.2.1]; exact Nat.le_refl _, ?_⟩⟩
  rw [w.2.1]; exact ru_inf

/-- an operation that has no answer gives some NaN -/
theorem run_float_none {P : Program} {op : BinOp} {x y : Nat} (hop : op = .add ∨ op = .sub ∨ op = .mul ∨ op = .quo) (h : floatBits op .f64 x y = none) (w : World) :
    ∃ v, v < 2 ^ 64 ∧ IsNaN v ∧ ∀ t, (binOp op t (.float .f64 x) (.float .f64 y)).run P w = .ok (.float .f64 v) (w.drewN 1) := by
  refine ⟨(Question.nanBits .f64 x y).cut (w.tape w.drawn (.nanBits .f64 x y)), ?_, ?_, ?_⟩
  · unfold Question.cut; dsimp only; omega
  · unfold IsNaN rung Question.cut; dsimp only
    generalize w.tape w.drawn (Question.nanBits FloatKind.f64 x y) = t
    obtain ⟨a, ha, ha2⟩ : ∃ a, a = t % 2 ∧ a < 2 := ⟨_, rfl, Nat.mod_lt _ (by decide)⟩
    obtain ⟨b, hb, hb2⟩ : ∃ b, b = t / 2 % (2 ^ 52 - 1) ∧ b < 2 ^ 52 - 1 := ⟨_, rfl, Nat.mod_lt _ (by decide)⟩
    rw [← ha, ← hb]
    clear ha hb
    have : a = 0 ∨ a = 1 := by omega
    rcases this with c | c <;> subst c <;> omega
  · intro t
    unfold floatBits at h
    rcases hop with rfl | rfl | rfl | rfl
    all_goals
      simp only at h
      simp [binOp, Op.floatArith, h, Question.forced, World.drewN]

theorem nan_l {op : BinOp} {x : Nat} (y : Nat) (h : IsNaN x) : floatBits op .f64 x y = none := by
  obtain ⟨t, hr⟩ := read_nan h
  have h2 : FloatKind.f64.format.read x = .nan (sgn x) t := hr
  unfold floatBits
  cases op <;> first | rfl | (simp only [Ieee.Format.add, Ieee.Format.sub, Ieee.Format.mul, Ieee.Format.div, h2]; rfl)

theorem nan_r {op : BinOp} (x : Nat) {y : Nat} (h : IsNaN y) : floatBits op .f64 x y = none := by
  obtain ⟨t, hr⟩ := read_nan h
  have h2 : FloatKind.f64.format.read y = .nan (sgn y) t := hr
  unfold floatBits
  cases op <;> first | rfl | (simp only [Ieee.Format.add, Ieee.Format.sub, Ieee.Format.mul, Ieee.Format.div, h2]; cases FloatKind.f64.format.read x <;> rfl)

/-- the class of a sum, a difference, a product, a quotient of our numbers, and its word -/
def SomeNaN (w : World) (e : Ending) (w' : World) : Prop := ∃ v n, (v < 2 ^ 64 ∧ IsNaN v) ∧ e = .returned (.float .f64 v) ∧ w' = w.drewN n

def twoV (c d : Cl) : Value := if mayC c && mayC d then .tuple #[.int .i64 (wholeI c), .int .i64 (wholeI d), .bool (!wholeC c || !wholeC d), .int .i64 0] else .tuple #[.int .i64 0, .int .i64 0, .bool false, .int .i64 2]

def EncV (r : Res) (w : World) (e : Ending) (w' : World) : Prop := ∃ v k, EncR r v k ∧ e = .returned (.tuple #[.float .f64 v, .int .i64 k]) ∧ w = w'

/-- a reckoning of two of our numbers by f; an error where one is none of ours, no number where one is no number -/
def opR (f : Int → Int → Res) (c d : Cl) : Res := match c, d with
  | .other, _ => .err 2
  | _, .other => .err 2
  | .ours a, .ours b => f a b
  | _, _ => .nan

theorem retR_err (k : Int) (w : World) : RetR (.err k) w (.returned (.tuple #[.float .f64 0, .int .i64 k])) w := ⟨0, k, 0, ⟨rfl, rfl⟩, rfl, rfl⟩
theorem retR_of {r : Res} {v : Nat} {k : Int} (h : EncR r v k) (w : World) (n : Nat) : RetR r w (.returned (.tuple #[.float .f64 v, .int .i64 k])) (w.drewN n) := ⟨v, k, n, h, rfl, rfl⟩

/-- one operation of two of our numbers, of any class: what it comes to -/
def Worth (op : BinOp) (f : Int → Int → Res) : Prop := ∀ a b : Int, SafeN a → SafeN b →
  (∃ c z, floatBits op .f64 (F a) (F b) = some z ∧ Is c z ∧ tellC c = f a b) ∨ (floatBits op .f64 (F a) (F b) = none ∧ f a b = .nan)

def sumR (a b : Int) : Res := tellN (a + b)
def subR (a b : Int) : Res := tellN (a - b)
def mulR (a b : Int) : Res := if a = 0 ∨ b = 0 then (if a < 0 ∨ b < 0 then .err 10 else .ok 0) else tellN (a * b)
def divR (a b : Int) : Res := if b = 0 then (if a = 0 then .nan else .err 10) else if a = 0 then (if b < 0 then .err 10 else .ok 0) else if a.tmod b ≠ 0 then .err 10 else .ok (a.tdiv b)
def remR (a b : Int) : Res := if b = 0 then .nan else if a < 0 ∧ a.tmod b = 0 then .err 10 else .ok (a.tmod b)
def negR (a : Int) : Res := if a = 0 then .err 10 else .ok (-a)

theorem word_f0 : Ieee.double.word false 0 = F 0 := by decide
theorem word_t0 : Ieee.double.word true 0 = 2 ^ 63 := by decide

theorem worth_add : Worth .add sumR := fun a b ha hb => Or.inl ⟨_, _, add_F a b ha.abs hb.abs, is_clF _, tell_clF _⟩
theorem worth_sub : Worth .sub subR := fun a b ha hb => Or.inl ⟨_, _, sub_F a b ha.abs hb.abs, is_clF _, tell_clF _⟩
theorem worth_mul : Worth .mul mulR := by
  intro a b ha hb
  left
  have h : floatBits .mul .f64 (F a) (F b) = _ := mul_F a b ha.abs hb.abs
  unfold mulR
  by_cases c : a = 0 ∨ b = 0
  · rw [if_pos c] at h ⊢
    by_cases d : a < 0 ∨ b < 0
    · rw [if_pos d]
      refine ⟨.other, _, h, ?_, rfl⟩
      have : (decide (a < 0) ^^ decide (b < 0)) = true := by
        rcases c with c | c <;> rcases d with d | d <;> simp [c, d] <;> omega
      rw [this, word_t0]; exact is_m0
    · rw [if_neg d]
      refine ⟨.ours 0, _, h, ?_, rfl⟩
      have : (decide (a < 0) ^^ decide (b < 0)) = false := by
        have d1 : ¬ a < 0 := fun e => d (Or.inl e)
        have d2 : ¬ b < 0 := fun e => d (Or.inr e)
        simp [d1, d2]
      rw [this, word_f0]; exact ⟨rfl, by unfold SafeN; omega⟩
  · rw [if_neg c] at h ⊢
    exact ⟨_, _, h, is_clF _, tell_clF _⟩
theorem worth_div : Worth .quo divR := by
  intro a b ha hb
  unfold divR
  by_cases b0 : b = 0
  · subst b0
    rw [if_pos rfl]
    by_cases a0 : a = 0
    · subst a0; right; exact ⟨div_zero_zero, rfl⟩
    · rw [if_neg a0]; left
      exact ⟨.other, _, div_zero_r a ha.abs a0, is_inf _, rfl⟩
  · rw [if_neg b0]
    left
    by_cases a0 : a = 0
    · subst a0
      rw [if_pos rfl]
      have h : floatBits .quo .f64 (F 0) (F b) = _ := div_zero_l b hb.abs b0
      by_cases d : b < 0
      · rw [if_pos d]
        refine ⟨.other, _, h, ?_, rfl⟩
        rw [decide_eq_true d, word_t0]; exact is_m0
      · rw [if_neg d]
        refine ⟨.ours 0, _, h, ?_, rfl⟩
        rw [decide_eq_false d, word_f0]; exact ⟨rfl, by unfold SafeN; omega⟩
    · rw [if_neg a0]
      by_cases m : a.tmod b = 0
      · rw [if_neg (by simp [m])]
        have hq : a = a.tdiv b * b := by
          have := Int.tmod_add_mul_tdiv a b
          rw [m, Int.zero_add, Int.mul_comm] at this; exact this.symm
        refine ⟨.ours (a.tdiv b), _, div_F a b ha.abs hb.abs a0 b0 _ hq, ⟨rfl, ?_⟩, rfl⟩
        have h1 : (a.tdiv b).natAbs ≤ a.natAbs := by
          rw [Int.natAbs_tdiv]; exact Nat.div_le_self _ _
        have := ha; unfold SafeN at this ⊢; omega
      · rw [if_pos m]
        obtain ⟨z, h, hz, hf, hm⟩ := div_F_frac a b ha.abs hb.abs b0 (by
          intro q hq
          apply m
          have : a.natAbs % b.natAbs = 0 := by rw [hq]; exact Nat.mul_mod_left _ _
          have h2 : (a.tmod b).natAbs = a.natAbs % b.natAbs := Int.natAbs_tmod a b
          omega)
        exact ⟨.other, z, h, other_of_frac hz hf hm, rfl⟩

/-- an operation of package num that asks 'both', reckons, and tells: all of them at once -/
theorem reckon {op : BinOp} {f : Int → Int → Res} {c d : Cl} {x y : Nat} (hop : op = .add ∨ op = .sub ∨ op = .mul ∨ op = .quo) (hf : Worth op f) (h : Is c x) (g : Is d y) (hm : (mayC c && mayC d) = true) (w : World) :
    ∃ e z n, Is e z ∧ tellC e = opR f c d ∧ ∀ t, (binOp op t (.float .f64 x) (.float .f64 y)).run Tryz.prog w = .ok (.float .f64 z) (w.drewN n) := by
  have key : (∃ e z, floatBits op .f64 x y = some z ∧ Is e z ∧ tellC e = opR f c d) ∨ (floatBits op .f64 x y = none ∧ opR f c d = .nan) := by
    cases c with
    | other => cases hm
    | nan =>
      cases d with
      | other => cases hm
      | nan => exact Or.inr ⟨nan_l y h.2, rfl⟩
      | ours b => exact Or.inr ⟨nan_l y h.2, rfl⟩
    | ours a =>
      cases d with
      | other => cases hm
      | nan => exact Or.inr ⟨nan_r x g.2, rfl⟩
      | ours b =>
        obtain ⟨rfl, ha⟩ := h
        obtain ⟨rfl, hb⟩ := g
        rcases hf a b ha hb with ⟨e, z, h1, h2, h3⟩ | ⟨h1, h2⟩
        · exact Or.inl ⟨e, z, h1, h2, h3⟩
        · exact Or.inr ⟨h1, h2⟩
  rcases key with ⟨e, z, h1, h2, h3⟩ | ⟨h1, h2⟩
  · exact ⟨e, z, 0, h2, h3, fun t => run_float_arith w op t .f64 x y z h1⟩
  · obtain ⟨v, v1, v2, v3⟩ := run_float_none (P := Tryz.prog) hop h1 w
    exact ⟨.nan, v, 1, ⟨v1, v2⟩, h2.symm, v3⟩

theorem opR_no {f : Int → Int → Res} {c d : Cl} (hm : (mayC c && mayC d) = false) : opR f c d = .err 2 := by
  cases c <;> cases d <;> first | rfl | cases hm

end Go.Proofs.YtbeggameiedjgaaGreatDoor
/-
  Texts of digits and what they are worth; floats that have grown beyond 53 bits stay there: plain lemmas.
-/
namespace Go.Proofs.YtbeggameiedjgaaGreatDoor
open Go.RowKit Fl Ieee

def isDig (c : UInt8) : Bool := decide (48 ≤ c.toNat) && decide (c.toNat ≤ 57)
def valD (l : List UInt8) : Nat := l.foldl (fun n c => n * 10 + (c.toNat - 48)) 0
theorem valD_snoc (l : List UInt8) (c : UInt8) : valD (l ++ [c]) = valD l * 10 + (c.toNat - 48) := by unfold valD; rw [List.foldl_append]; rfl

/-- digits behind a sign -/
def digR (neg : Bool) (l : List UInt8) : Res :=
  if l = [] ∨ l.all isDig = false then .nan
  else if 9007199254740991 < valD l then .err 10
  else if neg = true ∧ valD l = 0 then .err 10
  else .ok (if neg then -(valD l : Int) else (valD l : Int))
/-- a text without blanks at its ends -/
def bareR : List UInt8 → Res
  | [] => .ok 0
  | c :: r => if c = 45 then digR true r else if c = 43 then digR false r else digR false (c :: r)
def blanksL : List UInt8 := [9, 10, 13, 32]
def readR (l : List UInt8) : Res := bareR (Lib.trimS l blanksL)

def Acc (n v : Nat) : Prop := (n < 2 ^ 53 ∧ v = F (n : Int)) ∨ (2 ^ 53 ≤ n ∧ Big v ∧ sgn v = false ∧ v < 2 ^ 64)

theorem big_log {m : Nat} {e : Int} (he : -1074 ≤ e) (h : 2 ^ 53 * U ≤ m * 2 ^ (e + 1074).toNat) : m ≠ 0 ∧ 53 ≤ (m.log2 : Int) + e := by
  obtain ⟨k, hk⟩ : ∃ k, k = 1074 := ⟨_, rfl⟩
  rw [U_pow k hk, ← Nat.pow_add] at h
  have hp := Nat.two_pow_pos (53 + k)
  have m0 : m ≠ 0 := by intro c; rw [c, Nat.zero_mul] at h; omega
  refine ⟨m0, ?_⟩
  have hne : m * 2 ^ (e + 1074).toNat ≠ 0 := by omega
  have := (Nat.le_log2 hne).2 h
  rw [log2_scale _ _ m0] at this
  omega

theorem log2_ge {m n k : Nat} (m0 : m ≠ 0) (h : m * 2 ^ k ≤ n) : n ≠ 0 ∧ m.log2 + k ≤ n.log2 := by
  have hp := Nat.mul_pos (Nat.pos_of_ne_zero m0) (Nat.two_pow_pos k)
  refine ⟨by omega, (Nat.le_log2 (by omega)).2 (Nat.le_trans ?_ h)⟩
  rw [Nat.pow_add]
  exact Nat.mul_le_mul_right _ (Nat.log2_self_le m0)

theorem big_inf : Big (double.word false double.infRung) ∧ sgn (double.word false double.infRung) = false ∧ double.word false double.infRung < 2 ^ 64 := by
  have e4 : double.infRung = 2047 * 2 ^ 52 := by decide
  rw [e4]
  have w := word_sgn false (2047 * 2 ^ 52) (by decide)
  exact ⟨⟨by rw [w.2.1]; exact Nat.le_refl _, by rw [w.2.1]; exact ru_inf⟩, w.1, w.2.2⟩

theorem nearest_grown (mag : Nat) (place : Int) (h : mag ≠ 0) (hb : 53 ≤ place + mag.log2) : Big (double.nearest false mag place) ∧ sgn (double.nearest false mag place) = false ∧ double.nearest false mag place < 2 ^ 64 :=
  ⟨nearest_big _ _ _ h hb, (nearest_all _ _ _ h).1, double.nearest_lt _ _ _⟩

theorem big_mul {v : Nat} (hb : Big v) (hs : sgn v = false) : ∃ y, floatBits .mul .f64 v (F 10) = some y ∧ Big y ∧ sgn y = false ∧ y < 2 ^ 64 := by
  obtain ⟨j, g, _, _⟩ := read_F 10 (by decide)
  show ∃ y, double.mul v (F 10) = some y ∧ _
  unfold Format.mul
  rw [g]
  have d10 : decide ((10 : Int) < 0) = false := by decide
  rw [d10]
  rcases Nat.lt_or_eq_of_le hb.1 with c | c
  · obtain ⟨m, e, h1, h2, _, h4, _⟩ := read_fin c
    rw [h1, hs]
    obtain ⟨m0, hl⟩ := big_log h2 (by rw [h4]; exact hb.2)
    refine ⟨_, rfl, ?_⟩
    obtain ⟨n0, hn⟩ := log2_ge (n := m * ((10 : Int).natAbs * 2 ^ j)) (k := j) m0 (by
      have : m * 2 ^ j ≤ m * 2 ^ j * 10 := Nat.le_mul_of_pos_right _ (by decide)
      have e2 : m * ((10 : Int).natAbs * 2 ^ j) = m * 2 ^ j * 10 := by rw [show (10 : Int).natAbs = 10 from rfl, Nat.mul_comm 10, Nat.mul_assoc]
      rw [e2]; exact this)
    exact nearest_grown _ _ n0 (by omega)
  · rw [read_inf c, hs]
    unfold Datum.product
    have n0 : (10 : Int).natAbs * 2 ^ j ≠ 0 := by have := Nat.mul_pos (show 0 < (10 : Int).natAbs by decide) (Nat.two_pow_pos j); omega
    simp only [n0, if_false, Option.map_some]
    exact ⟨_, rfl, big_inf⟩

theorem big_add {v d : Nat} (hb : Big v) (hs : sgn v = false) (hd : d ≤ 9) : ∃ y, floatBits .add .f64 v (F (d : Int)) = some y ∧ Big y ∧ sgn y = false ∧ y < 2 ^ 64 := by
  obtain ⟨j, g, _, _⟩ := read_F (d : Int) (by omega)
  show ∃ y, double.add v (F (d : Int)) = some y ∧ _
  unfold Format.add
  rw [g]
  have dd : decide ((d : Int) < 0) = false := decide_eq_false (by omega)
  rw [dd]
  rcases Nat.lt_or_eq_of_le hb.1 with c | c
  · obtain ⟨m, e, h1, h2, _, h4, _⟩ := read_fin c
    rw [h1, hs]
    obtain ⟨m0, hl⟩ := big_log h2 (by rw [h4]; exact hb.2)
    unfold Datum.sum
    simp only [Option.map_some]
    obtain ⟨T, hT⟩ : ∃ T : Nat, (signed false m (e - min e (-(j : Int))).toNat + signed false ((d : Int).natAbs * 2 ^ j) (-(j : Int) - min e (-(j : Int))).toNat) = (T : Int) ∧ m * 2 ^ (e - min e (-(j : Int))).toNat ≤ T := by
      rw [signed_eq, signed_eq]
      simp only [Bool.false_eq_true, if_false]
      exact ⟨m * 2 ^ (e - min e (-(j : Int))).toNat + (d : Int).natAbs * 2 ^ j * 2 ^ (-(j : Int) - min e (-(j : Int))).toNat, by omega, by omega⟩
    rw [hT.1]
    obtain ⟨n0, hn⟩ := log2_ge m0 hT.2
    have t0 : ¬ ((T : Int) = 0) := by omega
    have t1 : decide ((T : Int) < 0) = false := decide_eq_false (by omega)
    simp only [t0, if_false, t1, Int.natAbs_natCast]
    exact ⟨_, rfl, nearest_grown _ _ n0 (by omega)⟩
  · rw [read_inf c, hs]
    exact ⟨_, rfl, big_inf⟩

theorem F_grown (n : Nat) (h : 2 ^ 53 ≤ n) : Big (F (n : Int)) ∧ sgn (F (n : Int)) = false ∧ F (n : Int) < 2 ^ 64 :=
  ⟨F_big _ (by omega), by rw [sgn_F]; exact decide_eq_false (by omega), F_lt _⟩

theorem acc_step {n v d : Nat} (h : Acc n v) (hd : d ≤ 9) : ∃ v1 v2, floatBits .mul .f64 v (F 10) = some v1 ∧ floatBits .add .f64 v1 (F (d : Int)) = some v2 ∧ Acc (n * 10 + d) v2 := by
  rcases h with ⟨h1, rfl⟩ | ⟨h1, h2, h3, h4⟩
  · have hm : floatBits .mul .f64 (F (n : Int)) (F 10) = some (F ((n * 10 : Nat) : Int)) := by
      have := mul_F (n : Int) 10 (by omega) (by decide)
      refine (show floatBits .mul .f64 (F (n : Int)) (F 10) = _ from this).trans ?_
      by_cases z : n = 0
      · subst z; decide
      · rw [if_neg (by omega)]; congr 2
    by_cases c : n * 10 < 2 ^ 53
    · refine ⟨_, _, hm, add_F _ _ (by omega) (by omega), ?_⟩
      have e : ((n * 10 : Nat) : Int) + (d : Int) = ((n * 10 + d : Nat) : Int) := by omega
      rw [e]
      by_cases c2 : n * 10 + d < 2 ^ 53
      · exact Or.inl ⟨c2, rfl⟩
      · obtain ⟨b1, b2, b3⟩ := F_grown (n * 10 + d) (by omega)
        exact Or.inr ⟨by omega, b1, b2, b3⟩
    · obtain ⟨b1, b2, b3⟩ := F_grown (n * 10) (by omega)
      obtain ⟨y, hy, y1, y2, y3⟩ := big_add (d := d) b1 b2 hd
      exact ⟨_, y, hm, hy, Or.inr ⟨by omega, y1, y2, y3⟩⟩
  · obtain ⟨y, hy, y1, y2, y3⟩ := big_mul h2 h3
    obtain ⟨z, hz, z1, z2, z3⟩ := big_add (d := d) y1 y2 hd
    exact ⟨y, z, hy, hz, Or.inr ⟨by omega, z1, z2, z3⟩⟩

theorem take_snoc (s : ByteArray) (k : Nat) (h : k < s.size) : s.data.toList.take (k + 1) = s.data.toList.take k ++ [s[k]] := by
  rw [List.take_succ_eq_append_getElem (by simpa using h)]; rfl

/-- a worth behind a sign, told -/
theorem acc_cls {l : List UInt8} {v : Nat} (neg : Bool) (hl : ¬ (l = [] ∨ l.all isDig = false)) (h : Acc (valD l) v) :
    ∃ c, Is c (if neg then Op.negFloat .f64 v else v) ∧ tellC c = digR neg l := by
  unfold digR
  rw [if_neg hl]
  have negW : ∀ x, x < 2 ^ 64 → sgn x = false → Big x → Is .other (Op.negFloat .f64 x) := by
    intro x hx hs hb
    have e : Op.negFloat .f64 x = if x < 2 ^ 63 then x + 2 ^ 63 else x - 2 ^ 63 := neg_word x hx
    rw [e]
    have hr : rung (if x < 2 ^ 63 then x + 2 ^ 63 else x - 2 ^ 63) = rung x := by unfold rung; split <;> omega
    refine ⟨by split <;> omega, Or.inl ?_⟩
    unfold Big; rw [hr]; exact hb
  rcases h with ⟨h1, rfl⟩ | ⟨h1, h2, h3, h4⟩
  · by_cases big : 9007199254740991 < valD l
    · exfalso; omega
    · rw [if_neg big]
      cases neg
      · simp only [Bool.false_eq_true, if_false, false_and]
        exact ⟨.ours _, ⟨rfl, by unfold SafeN; omega⟩, rfl⟩
      · simp only [if_true, true_and]
        by_cases z : valD l = 0
        · rw [if_pos z, z]
          refine ⟨.other, ?_, rfl⟩
          have : Op.negFloat .f64 (F ((0 : Nat) : Int)) = 2 ^ 63 := by decide
          rw [this]; exact is_m0
        · rw [if_neg z]
          exact ⟨.ours _, ⟨neg_F _ (by omega) (by omega), by unfold SafeN; omega⟩, rfl⟩
  · have hbig : 9007199254740991 < valD l := by omega
    rw [if_pos hbig]
    cases neg
    · simp only [Bool.false_eq_true, if_false]
      exact ⟨.other, ⟨h4, Or.inl h2⟩, rfl⟩
    · simp only [if_true]
      exact ⟨.other, negW v h4 h3 h2, rfl⟩
end Go.Proofs.YtbeggameiedjgaaGreatDoor
/-
  The document's own reckoning, and package num's Neg, told by what the floats are: walks.
-/
namespace Go.Proofs.YtbeggameiedjgaaGreatDoor
open Go.RowKit Fl

@[go_sem] theorem unary_negf (k : FloatKind) (b : Nat) : Op.unary .neg (.float k b) = pure (.float k (Op.negFloat k b)) := rfl

theorem neg_nan {x : Nat} (hx : x < 2 ^ 64) (h : IsNaN x) : x ^^^ 2 ^ 63 < 2 ^ 64 ∧ IsNaN (x ^^^ 2 ^ 63) := by
  rw [neg_word x hx]
  unfold IsNaN rung at *
  split <;> omega

def negC (c : Cl) : Res := match c with
  | .nan => .nan
  | .other => .err 2
  | .ours a => negR a

theorem retR_err' (k : Int) (w : World) (n : Nat) : RetR (.err k) w (.returned (.tuple #[.float .f64 0, .int .i64 k])) (w.drewN n) := ⟨0, k, n, ⟨rfl, rfl⟩, rfl, rfl⟩
theorem retR_nan {v : Nat} (h : v < 2 ^ 64 ∧ IsNaN v) (w : World) (n : Nat) : RetR .nan w (.returned (.tuple #[.float .f64 v, .int .i64 0])) (w.drewN n) := ⟨v, 0, n, ⟨h, rfl⟩, rfl, rfl⟩

theorem twoV_no {c d : Cl} (hm : (mayC c && mayC d) = false) : twoV c d = .tuple #[.int .i64 0, .int .i64 0, .bool false, .int .i64 2] := by
  unfold twoV; rw [hm]; rfl
/-- what 'two' tells where both may be and one is no number -/
theorem twoV_nan {c d : Cl} (hm : (mayC c && mayC d) = true) (hn : (!wholeC c || !wholeC d) = true) (f : Int → Int → Res) :
    twoV c d = .tuple #[.int .i64 (wholeI c), .int .i64 (wholeI d), .bool true, .int .i64 0] ∧ opR f c d = .nan := by
  unfold twoV; rw [hm, hn]
  refine ⟨rfl, ?_⟩
  cases c <;> cases d <;> first | rfl | (simp [wholeC] at hn; done) | (simp [mayC] at hm; done)
theorem twoV_ours {c d : Cl} (hn : (!wholeC c || !wholeC d) = false) : ∃ a b, c = .ours a ∧ d = .ours b := by
  cases c <;> cases d <;> first | exact ⟨_, _, rfl, rfl⟩ | (simp [wholeC] at hn; done)

end Go.Proofs.YtbeggameiedjgaaGreatDoor
