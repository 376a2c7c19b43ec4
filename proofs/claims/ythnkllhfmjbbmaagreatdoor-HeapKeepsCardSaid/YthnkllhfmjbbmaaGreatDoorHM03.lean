/-
  Texts of digits and what they are worth; floats that have grown beyond 53 bits stay there: plain lemmas.
-/
import Derived.Test.YthnkllhfmjbbmaaGreatDoorHM02
import Derived.Lib.SlTrimSet
import Derived.Lib.ItoaNum
namespace Go.Proofs.YthnkllhfmjbbmaaGreatDoor
open Go.RowKit Fl Ieee

def isDig (c : UInt8) : Bool := decide (48 ≤ c.toNat) && decide (c.toNat ≤ 57)
def valD (l : List UInt8) : Nat := l.foldl (fun n c => n * 10 + (c.toNat - 48)) 0
theorem valD_snoc (l : List UInt8) (c : UInt8) : valD (l ++ [c]) = valD l * 10 + (c.toNat - 48) := by unfold valD; rw [List.foldl_append]; rfl

/-- digits behind a sign -/
def digR (neg : Bool) (l : List UInt8) : Res :=
  if l = [] ∨ l.all isDig = false then .nan
  else if 9007199254740991 < valD l then .err 10
  else if neg = true ∧ valD l = 0 then .err 10
  else .ok (if neg then -(valD l : Int) else (valD l : Int))
/-- a text without blanks at its ends -/
def bareR : List UInt8 → Res
  | [] => .ok 0
  | c :: r => if c = 45 then digR true r else if c = 43 then digR false r else digR false (c :: r)
def blanksL : List UInt8 := [9, 10, 13, 32]
def readR (l : List UInt8) : Res := bareR (Lib.trimS l blanksL)

def Acc (n v : Nat) : Prop := (n < 2 ^ 53 ∧ v = F (n : Int)) ∨ (2 ^ 53 ≤ n ∧ Big v ∧ sgn v = false ∧ v < 2 ^ 64)

theorem big_log {m : Nat} {e : Int} (he : -1074 ≤ e) (h : 2 ^ 53 * U ≤ m * 2 ^ (e + 1074).toNat) : m ≠ 0 ∧ 53 ≤ (m.log2 : Int) + e := by
  obtain ⟨k, hk⟩ : ∃ k, k = 1074 := ⟨_, rfl⟩
  rw [U_pow k hk, ← Nat.pow_add] at h
  have hp := Nat.two_pow_pos (53 + k)
  have m0 : m ≠ 0 := by intro c; rw [c, Nat.zero_mul] at h; omega
  refine ⟨m0, ?_⟩
  have hne : m * 2 ^ (e + 1074).toNat ≠ 0 := by omega
  have := (Nat.le_log2 hne).2 h
  rw [log2_scale _ _ m0] at this
  omega

theorem log2_ge {m n k : Nat} (m0 : m ≠ 0) (h : m * 2 ^ k ≤ n) : n ≠ 0 ∧ m.log2 + k ≤ n.log2 := by
  have hp := Nat.mul_pos (Nat.pos_of_ne_zero m0) (Nat.two_pow_pos k)
  refine ⟨by omega, (Nat.le_log2 (by omega)).2 (Nat.le_trans ?_ h)⟩
  rw [Nat.pow_add]
  exact Nat.mul_le_mul_right _ (Nat.log2_self_le m0)

theorem big_inf : Big (double.word false double.infRung) ∧ sgn (double.word false double.infRung) = false ∧ double.word false double.infRung < 2 ^ 64 := by
  have e4 : double.infRung = 2047 * 2 ^ 52 := by decide
  rw [e4]
  have w := word_sgn false (2047 * 2 ^ 52) (by decide)
  exact ⟨⟨by rw [w.2.1]; exact Nat.le_refl _, by rw [w.2.1]; exact ru_inf⟩, w.1, w.2.2⟩

theorem nearest_grown (mag : Nat) (place : Int) (h : mag ≠ 0) (hb : 53 ≤ place + mag.log2) : Big (double.nearest false mag place) ∧ sgn (double.nearest false mag place) = false ∧ double.nearest false mag place < 2 ^ 64 :=
  ⟨nearest_big _ _ _ h hb, (nearest_all _ _ _ h).1, double.nearest_lt _ _ _⟩

theorem big_mul {v : Nat} (hb : Big v) (hs : sgn v = false) : ∃ y, floatBits .mul .f64 v (F 10) = some y ∧ Big y ∧ sgn y = false ∧ y < 2 ^ 64 := by
  obtain ⟨j, g, _, _⟩ := read_F 10 (by decide)
  show ∃ y, double.mul v (F 10) = some y ∧ _
  unfold Format.mul
  rw [g]
  have d10 : decide ((10 : Int) < 0) = false := by decide
  rw [d10]
  rcases Nat.lt_or_eq_of_le hb.1 with c | c
  · obtain ⟨m, e, h1, h2, _, h4, _⟩ := read_fin c
    rw [h1, hs]
    obtain ⟨m0, hl⟩ := big_log h2 (by rw [h4]; exact hb.2)
    refine ⟨_, rfl, ?_⟩
    obtain ⟨n0, hn⟩ := log2_ge (n := m * ((10 : Int).natAbs * 2 ^ j)) (k := j) m0 (by
      have : m * 2 ^ j ≤ m * 2 ^ j * 10 := Nat.le_mul_of_pos_right _ (by decide)
      have e2 : m * ((10 : Int).natAbs * 2 ^ j) = m * 2 ^ j * 10 := by rw [show (10 : Int).natAbs = 10 from rfl, Nat.mul_comm 10, Nat.mul_assoc]
      rw [e2]; exact this)
    exact nearest_grown _ _ n0 (by omega)
  · rw [read_inf c, hs]
    unfold Datum.product
    have n0 : (10 : Int).natAbs * 2 ^ j ≠ 0 := by have := Nat.mul_pos (show 0 < (10 : Int).natAbs by decide) (Nat.two_pow_pos j); omega
    simp only [n0, if_false, Option.map_some]
    exact ⟨_, rfl, big_inf⟩

theorem big_add {v d : Nat} (hb : Big v) (hs : sgn v = false) (hd : d ≤ 9) : ∃ y, floatBits .add .f64 v (F (d : Int)) = some y ∧ Big y ∧ sgn y = false ∧ y < 2 ^ 64 := by
  obtain ⟨j, g, _, _⟩ := read_F (d : Int) (by omega)
  show ∃ y, double.add v (F (d : Int)) = some y ∧ _
  unfold Format.add
  rw [g]
  have dd : decide ((d : Int) < 0) = false := decide_eq_false (by omega)
  rw [dd]
  rcases Nat.lt_or_eq_of_le hb.1 with c | c
  · obtain ⟨m, e, h1, h2, _, h4, _⟩ := read_fin c
    rw [h1, hs]
    obtain ⟨m0, hl⟩ := big_log h2 (by rw [h4]; exact hb.2)
    unfold Datum.sum
    simp only [Option.map_some]
    obtain ⟨T, hT⟩ : ∃ T : Nat, (signed false m (e - min e (-(j : Int))).toNat + signed false ((d : Int).natAbs * 2 ^ j) (-(j : Int) - min e (-(j : Int))).toNat) = (T : Int) ∧ m * 2 ^ (e - min e (-(j : Int))).toNat ≤ T := by
      rw [signed_eq, signed_eq]
      simp only [Bool.false_eq_true, if_false]
      exact ⟨m * 2 ^ (e - min e (-(j : Int))).toNat + (d : Int).natAbs * 2 ^ j * 2 ^ (-(j : Int) - min e (-(j : Int))).toNat, by omega, by omega⟩
    rw [hT.1]
    obtain ⟨n0, hn⟩ := log2_ge m0 hT.2
    have t0 : ¬ ((T : Int) = 0) := by omega
    have t1 : decide ((T : Int) < 0) = false := decide_eq_false (by omega)
    simp only [t0, if_false, t1, Int.natAbs_natCast]
    exact ⟨_, rfl, nearest_grown _ _ n0 (by omega)⟩
  · rw [read_inf c, hs]
    exact ⟨_, rfl, big_inf⟩

theorem F_grown (n : Nat) (h : 2 ^ 53 ≤ n) : Big (F (n : Int)) ∧ sgn (F (n : Int)) = false ∧ F (n : Int) < 2 ^ 64 :=
  ⟨F_big _ (by omega), by rw [sgn_F]; exact decide_eq_false (by omega), F_lt _⟩

theorem acc_step {n v d : Nat} (h : Acc n v) (hd : d ≤ 9) : ∃ v1 v2, floatBits .mul .f64 v (F 10) = some v1 ∧ floatBits .add .f64 v1 (F (d : Int)) = some v2 ∧ Acc (n * 10 + d) v2 := by
  rcases h with ⟨h1, rfl⟩ | ⟨h1, h2, h3, h4⟩
  · have hm : floatBits .mul .f64 (F (n : Int)) (F 10) = some (F ((n * 10 : Nat) : Int)) := by
      have := mul_F (n : Int) 10 (by omega) (by decide)
      refine (show floatBits .mul .f64 (F (n : Int)) (F 10) = _ from this).trans ?_
      by_cases z : n = 0
      · subst z; decide
      · rw [if_neg (by omega)]; congr 2
    by_cases c : n * 10 < 2 ^ 53
    · refine ⟨_, _, hm, add_F _ _ (by omega) (by omega), ?_⟩
      have e : ((n * 10 : Nat) : Int) + (d : Int) = ((n * 10 + d : Nat) : Int) := by omega
      rw [e]
      by_cases c2 : n * 10 + d < 2 ^ 53
      · exact Or.inl ⟨c2, rfl⟩
      · obtain ⟨b1, b2, b3⟩ := F_grown (n * 10 + d) (by omega)
        exact Or.inr ⟨by omega, b1, b2, b3⟩
    · obtain ⟨b1, b2, b3⟩ := F_grown (n * 10) (by omega)
      obtain ⟨y, hy, y1, y2, y3⟩ := big_add (d := d) b1 b2 hd
      exact ⟨_, y, hm, hy, Or.inr ⟨by omega, y1, y2, y3⟩⟩
  · obtain ⟨y, hy, y1, y2, y3⟩ := big_mul h2 h3
    obtain ⟨z, hz, z1, z2, z3⟩ := big_add (d := d) y1 y2 hd
    exact ⟨y, z, hy, hz, Or.inr ⟨by omega, z1, z2, z3⟩⟩

theorem take_snoc (s : ByteArray) (k : Nat) (h : k < s.size) : s.data.toList.take (k + 1) = s.data.toList.take k ++ [s[k]] := by
  rw [List.take_succ_eq_append_getElem (by simpa using h)]; rfl

/-- a worth behind a sign, told -/
theorem acc_cls {l : List UInt8} {v : Nat} (neg : Bool) (hl : ¬ (l = [] ∨ l.all isDig = false)) (h : Acc (valD l) v) :
    ∃ c, Is c (if neg then Op.negFloat .f64 v else v) ∧ tellC c = digR neg l := by
  unfold digR
  rw [if_neg hl]
  have negW : ∀ x, x < 2 ^ 64 → sgn x = false → Big x → Is .other (Op.negFloat .f64 x) := by
    intro x hx hs hb
    have e : Op.negFloat .f64 x = if x < 2 ^ 63 then x + 2 ^ 63 else x - 2 ^ 63 := neg_word x hx
    rw [e]
    have hr : rung (if x < 2 ^ 63 then x + 2 ^ 63 else x - 2 ^ 63) = rung x := by unfold rung; split <;> omega
    refine ⟨by split <;> omega, Or.inl ?_⟩
    unfold Big; rw [hr]; exact hb
  rcases h with ⟨h1, rfl⟩ | ⟨h1, h2, h3, h4⟩
  · by_cases big : 9007199254740991 < valD l
    · exfalso; omega
    · rw [if_neg big]
      cases neg
      · simp only [Bool.false_eq_true, if_false, false_and]
        exact ⟨.ours _, ⟨rfl, by unfold SafeN; omega⟩, rfl⟩
      · simp only [if_true, true_and]
        by_cases z : valD l = 0
        · rw [if_pos z, z]
          refine ⟨.other, ?_, rfl⟩
          have : Op.negFloat .f64 (F ((0 : Nat) : Int)) = 2 ^ 63 := by decide
          rw [this]; exact is_m0
        · rw [if_neg z]
          exact ⟨.ours _, ⟨neg_F _ (by omega) (by omega), by unfold SafeN; omega⟩, rfl⟩
  · have hbig : 9007199254740991 < valD l := by omega
    rw [if_pos hbig]
    cases neg
    · simp only [Bool.false_eq_true, if_false]
      exact ⟨.other, ⟨h4, Or.inl h2⟩, rfl⟩
    · simp only [if_true]
      exact ⟨.other, negW v h4 h3 h2, rfl⟩
end Go.Proofs.YthnkllhfmjbbmaaGreatDoor
/-
  The document's own reckoning, and package num's Neg, told by what the floats are: walks.
-/
namespace Go.Proofs.YthnkllhfmjbbmaaGreatDoor
open Go.RowKit Fl

@[go_sem] theorem unary_negf (k : FloatKind) (b : Nat) : Op.unary .neg (.float k b) = pure (.float k (Op.negFloat k b)) := rfl

theorem neg_nan {x : Nat} (hx : x < 2 ^ 64) (h : IsNaN x) : x ^^^ 2 ^ 63 < 2 ^ 64 ∧ IsNaN (x ^^^ 2 ^ 63) := by
  rw [neg_word x hx]
  unfold IsNaN rung at *
  split <;> omega

def negC (c : Cl) : Res := match c with
  | .nan => .nan
  | .other => .err 2
  | .ours a => negR a

theorem retR_err' (k : Int) (w : World) (n : Nat) : RetR (.err k) w (.returned (.tuple #[.float .f64 0, .int .i64 k])) (w.drewN n) := ⟨0, k, n, ⟨rfl, rfl⟩, rfl, rfl⟩
theorem retR_nan {v : Nat} (h : v < 2 ^ 64 ∧ IsNaN v) (w : World) (n : Nat) : RetR .nan w (.returned (.tuple #[.float .f64 v, .int .i64 0])) (w.drewN n) := ⟨v, 0, n, ⟨h, rfl⟩, rfl, rfl⟩

theorem twoV_no {c d : Cl} (hm : (mayC c && mayC d) = false) : twoV c d = .tuple #[.int .i64 0, .int .i64 0, .bool false, .int .i64 2] := by
  unfold twoV; rw [hm]; rfl
/-- what 'two' tells where both may be and one is no number -/
theorem twoV_nan {c d : Cl} (hm : (mayC c && mayC d) = true) (hn : (!wholeC c || !wholeC d) = true) (f : Int → Int → Res) :
    twoV c d = .tuple #[.int .i64 (wholeI c), .int .i64 (wholeI d), .bool true, .int .i64 0] ∧ opR f c d = .nan := by
  unfold twoV; rw [hm, hn]
  refine ⟨rfl, ?_⟩
  cases c <;> cases d <;> first | rfl | (simp [wholeC] at hn; done) | (simp [mayC] at hm; done)
theorem twoV_ours {c d : Cl} (hn : (!wholeC c || !wholeC d) = false) : ∃ a b, c = .ours a ∧ d = .ours b := by
  cases c <;> cases d <;> first | exact ⟨_, _, rfl, rfl⟩ | (simp [wholeC] at hn; done)

end Go.Proofs.YthnkllhfmjbbmaaGreatDoor
/-
  math.Mod at our numbers: what is left of a behind b times the whole quotient; no number where one is none or b is 0: walks.
-/
namespace Go.Proofs.YthnkllhfmjbbmaaGreatDoor
open Go.RowKit Fl

theorem run_Float64frombits (x : Nat) (w : World) : (callFunc 239 #[.int .u64 (x : Int)]).run Tryz.prog w = .ok (.value (.float .f64 x)) w := by
  rw [run_callFunc_extern Tryz.func239 (by kernel_rfl) (by kernel_rfl) (by kernel_rfl) (e := Extern.MathFloatBits.float64frombits) (by kernel_rfl)]
  rfl

theorem F_word (n : Nat) (h0 : n ≠ 0) (h : n < 2 ^ 53) : F (n : Int) = (n.log2 + 1023) * 2 ^ 52 + (n * 2 ^ (52 - n.log2) - 2 ^ 52) ∧ 2 ^ 52 ≤ n * 2 ^ (52 - n.log2) ∧ n * 2 ^ (52 - n.log2) < 2 ^ 53 ∧ n.log2 ≤ 52 := by
  have hlg : n.log2 ≤ 52 := by
    have := (Nat.log2_lt h0 (k := 53)).2 h; omega
  have h1 := Nat.log2_self_le h0
  have h2 := @Nat.lt_log2_self n
  have m1 : 2 ^ 52 ≤ n * 2 ^ (52 - n.log2) := by
    have : 2 ^ 52 = 2 ^ n.log2 * 2 ^ (52 - n.log2) := by rw [← Nat.pow_add]; congr 1; omega
    rw [this]; exact Nat.mul_le_mul_right _ h1
  have m2 : n * 2 ^ (52 - n.log2) < 2 ^ 53 := by
    have : 2 ^ 53 = 2 ^ (n.log2 + 1) * 2 ^ (52 - n.log2) := by rw [← Nat.pow_add]; congr 1; omega
    rw [this]; exact Nat.mul_lt_mul_of_pos_right h2 (Nat.two_pow_pos _)
  refine ⟨?_, m1, m2, hlg⟩
  symm
  have hu : ∀ L M : Nat, L ≤ 52 → 2 ^ 52 ≤ M → M < 2 ^ 53 → (L + 1023) * 2 ^ 52 + (M - 2 ^ 52) < 2 ^ 63 := by intro L M a b c; omega
  have hlt := hu n.log2 (n * 2 ^ (52 - n.log2)) hlg m1 m2
  refine of_val (n : Int) (by omega) ?_ (by omega) ?_
  · have hr : rung ((n.log2 + 1023) * 2 ^ 52 + (n * 2 ^ (52 - n.log2) - 2 ^ 52)) = (n.log2 + 1022) * 2 ^ 52 + n * 2 ^ (52 - n.log2) := by
      unfold rung; omega
    rw [hr, ru_mk _ _ (by omega) (Or.inr m1), Nat.mul_assoc, ← Nat.pow_add, U_pow (52 - n.log2 + (n.log2 + 1022)) (by omega)]
    rfl
  · unfold sgn
    rw [decide_eq_false (by omega), beq_eq_false_iff_ne]; omega

theorem nat_of_u64 (a : Nat) (ha : a < 18446744073709551616) : (BitVec.ofInt 64 (a : Int)).toNat = a := by
  rw [BitVec.ofInt_natCast, BitVec.toNat_ofNat]; exact Nat.mod_eq_of_lt (by omega)

theorem andNot_u64 (a b : Nat) (ha : a < 18446744073709551616) (hb : b < 18446744073709551616) : bits .andNot .u64 (a : Int) (b : Int) = ((a &&& (18446744073709551615 - b) : Nat) : Int) := by
  have hx : a &&& (18446744073709551615 - b) < 2 ^ 64 := Nat.and_lt_two_pow _ (by omega)
  show IntKind.u64.wrap ((BitVec.ofInt 64 (a : Int) &&& ~~~ BitVec.ofInt 64 (b : Int)).toNat : Int) = _
  rw [BitVec.toNat_and, BitVec.toNat_not, nat_of_u64 a ha, nat_of_u64 b hb, IntKind.wrap_u64]
  have e : 2 ^ 64 - 1 - b = 18446744073709551615 - b := by omega
  rw [e]
  omega

theorem and_sign (x : Nat) : x &&& 9223372036854775807 = x % 2 ^ 63 := Nat.and_two_pow_sub_one_eq_mod x 63

theorem and_frac (x : Nat) (hx : x < 2 ^ 63) : x &&& 9227875636482146303 = x % 2 ^ 52 := by
  have e : 9227875636482146303 = 2 ^ 63 + (2 ^ 52 - 1) := by decide
  rw [e]
  apply Nat.eq_of_testBit_eq
  intro i
  rw [Nat.testBit_and, Nat.testBit_mod_two_pow]
  by_cases h : i < 63
  · rw [Nat.testBit_two_pow_add_gt h, Nat.testBit_two_pow_sub_one, Bool.and_comm]
  · have a1 : x.testBit i = false := Nat.testBit_lt_two_pow (Nat.lt_of_lt_of_le hx (Nat.pow_le_pow_right (by decide) (by omega)))
    rw [a1]; simp

/-- Abs of a word takes the sign off -/
theorem Abs_any (x : Nat) (hx : x < 2 ^ 64) (w : World) :
    Calls Tryz.prog 237 #[.float .f64 x] w fun e w' => e = .returned (.float .f64 (x % 2 ^ 63)) ∧ w = w' := by
  have hb := fun w => run_Float64bits x w
  have h1 : bits .andNot .u64 (x : Int) 9223372036854775808 = ((x % 2 ^ 63 : Nat) : Int) := by
    have := andNot_u64 x 9223372036854775808 (by omega) (by decide)
    rw [← and_sign]; exact this
  generalize hy : x % 2 ^ 63 = y at *
  clear hy hx
  have hc := fun w => run_Float64frombits y w
  go_enter Tryz.func237, Tryz.ntmps237
  go_wp2
  go_ret
  exact ⟨rfl, rfl⟩

theorem IsNaN_any (x : Nat) (w : World) :
    Calls Tryz.prog 105 #[.float .f64 x] w fun e w' => e = .returned (.bool (FloatKind.f64.format.order x x != some .eq)) ∧ w = w' := by
  go_enter Tryz.func105, Tryz.ntmps105
  go_wp2
  go_ret
  exact ⟨rfl, rfl⟩

theorem F_pos_mod (n : Nat) (h : n < 2 ^ 53) : F (n : Int) % 2 ^ 63 = F (n : Int) := by
  have hs := sgn_F (n : Int)
  have hl := F_lt (n : Int)
  rw [decide_eq_false (by omega)] at hs
  unfold sgn at hs
  simp at hs
  omega

theorem F_abs_mod (n : Int) (h : n.natAbs < 2 ^ 53) : F n % 2 ^ 63 = F (n.natAbs : Int) := by
  by_cases c : 0 ≤ n
  · have : n = (n.natAbs : Int) := by omega
    rw [← this]
    have := F_pos_mod n.natAbs h
    rw [show ((n.natAbs : Nat) : Int) = n by omega] at this
    exact this
  · have e := neg_F n h (by omega)
    rw [neg_word _ (F_lt n)] at e
    have hs := sgn_F n
    rw [decide_eq_true (by omega)] at hs
    unfold sgn at hs
    simp at hs
    have hl := F_lt n
    rw [if_neg (by omega)] at e
    rw [show ((n.natAbs : Nat) : Int) = -n by omega, ← e]
    omega

theorem fin_max : IsFin 9218868437227405311 := by unfold IsFin rung; decide

theorem order_max (n : Nat) (h : n < 2 ^ 53) : FloatKind.f64.format.order (F (n : Int)) 9218868437227405311 = some .lt := by
  have f := F_small (n : Int) (by omega)
  have e : FloatKind.f64.format.order (F (n : Int)) 9218868437227405311 = some (compare (fval (F (n : Int))) (fval 9218868437227405311)) := order_fin f.1 fin_max
  rw [e]
  refine congrArg some (Int.compare_eq_lt.2 ?_)
  have s1 : sgn (F (n : Int)) = false := by rw [sgn_F]; simp
  have s2 : sgn 9218868437227405311 = false := by decide
  rw [fval_pos s1, fval_pos s2]
  have hr : rung (F (n : Int)) < rung 9218868437227405311 := by
    have r2 : rung 9218868437227405311 = 9218868437227405311 := by decide
    rw [r2]
    have b1 := order_F (n : Int) 9007199254740991 (by omega) (by decide)
    by_cases h0 : n = 0
    · subst h0; decide
    · obtain ⟨w1, w2, w3, w4⟩ := F_word n h0 h
      unfold rung
      rw [w1]; omega
  have := ru_lt hr
  omega

theorem not_nan (n : Int) (h : n.natAbs < 2 ^ 53) (w : World) :
    Calls Tryz.prog 105 #[.float .f64 (F n)] w fun e w' => e = .returned (.bool false) ∧ w = w' := by
  have := IsNaN_any (F n) w
  have e : FloatKind.f64.format.order (F n) (F n) = some .eq := order_self (not_nan_F n h)
  rw [e] at this
  exact this

theorem fin_min : IsFin 4503599627370496 := by unfold IsFin rung; decide
theorem order_min (n : Nat) (h0 : n ≠ 0) (h : n < 2 ^ 53) : FloatKind.f64.format.order (F (n : Int)) 4503599627370496 = some .gt := by
  have f := F_small (n : Int) (by omega)
  have e : FloatKind.f64.format.order (F (n : Int)) 4503599627370496 = some (compare (fval (F (n : Int))) (fval 4503599627370496)) := order_fin f.1 fin_min
  rw [e]
  refine congrArg some (Int.compare_eq_gt.2 ?_)
  have s1 : sgn (F (n : Int)) = false := by rw [sgn_F]; simp
  have s2 : sgn 4503599627370496 = false := by decide
  rw [fval_pos s1, fval_pos s2]
  have hr : rung 4503599627370496 < rung (F (n : Int)) := by
    obtain ⟨w1, w2, w3, w4⟩ := F_word n h0 h
    unfold rung
    rw [w1]; omega
  have := ru_lt hr
  omega

/-- the fraction that Frexp gives -/
def frW (n : Nat) : Nat := 1022 * 2 ^ 52 + (n * 2 ^ (52 - n.log2) - 2 ^ 52)

theorem or_exp (m E : Nat) (hm : m < 2 ^ 52) (hE : E < 2048) : bits .or .u64 (m : Int) ((E * 2 ^ 52 : Nat) : Int) = ((E * 2 ^ 52 + m : Nat) : Int) := by
  rw [bits_or_u64_nat m (E * 2 ^ 52) (by omega) (by omega)]
  congr 1
  rw [Nat.or_comm, Nat.mul_comm, ← Nat.two_pow_add_eq_or_of_lt hm]

theorem F_lt_F {a b : Nat} (h : a < b) (hb : b < 2 ^ 53) : F (a : Int) < F (b : Int) := by
  have r1 := rung_F (a : Int) (by omega)
  have r2 := rung_F (b : Int) (by omega)
  have s1 := F_pos_mod a (by omega)
  have s2 := F_pos_mod b hb
  unfold rung at r1 r2
  rw [s1] at r1
  rw [s2] at r2
  have hm : a * U < b * U := Nat.mul_lt_mul_of_pos_right h U_pos
  rcases Nat.lt_trichotomy (F (a : Int)) (F (b : Int)) with c | c | c
  · exact c
  · rw [c, r2] at r1
    have : (b : Int).natAbs = b := by omega
    have : (a : Int).natAbs = a := by omega
    simp only [Int.natAbs_natCast] at r1; omega
  · have := ru_lt c
    rw [r1, r2] at this
    simp only [Int.natAbs_natCast] at this; omega

/-- the leading digits of a number, 53 of them -/
def lead (n : Nat) : Nat := n * 2 ^ (52 - n.log2)

/-- the fractions of Frexp stand as the leading digits stand -/
theorem order_frW (a b : Nat) (a0 : a ≠ 0) (ha : a < 2 ^ 53) (b0 : b ≠ 0) (hb : b < 2 ^ 53) :
    FloatKind.f64.format.order (frW a) (frW b) = some .lt ↔ lead a < lead b := by
  obtain ⟨_, w2, w3, _⟩ := F_word a a0 ha
  obtain ⟨_, v2, v3, _⟩ := F_word b b0 hb
  have key : ∀ M, 2 ^ 52 ≤ M → M < 2 ^ 53 → IsFin (1022 * 2 ^ 52 + (M - 2 ^ 52)) ∧ fval (1022 * 2 ^ 52 + (M - 2 ^ 52)) = ((ru (1021 * 2 ^ 52 + M) : Nat) : Int) := by
    intro M m1 m2
    have hr : rung (1022 * 2 ^ 52 + (M - 2 ^ 52)) = 1021 * 2 ^ 52 + M := by unfold rung; omega
    refine ⟨by unfold IsFin; rw [hr]; omega, ?_⟩
    have hs : sgn (1022 * 2 ^ 52 + (M - 2 ^ 52)) = false := by unfold sgn; rw [beq_eq_false_iff_ne]; omega
    rw [fval_pos hs, hr]
  obtain ⟨f1, g1⟩ := key _ w2 w3
  obtain ⟨f2, g2⟩ := key _ v2 v3
  have e : FloatKind.f64.format.order (frW a) (frW b) = some (compare (fval (frW a)) (fval (frW b))) := order_fin f1 f2
  rw [e]
  have h1 : fval (frW a) = ((ru (1021 * 2 ^ 52 + lead a) : Nat) : Int) := g1
  have h2 : fval (frW b) = ((ru (1021 * 2 ^ 52 + lead b) : Nat) : Int) := g2
  rw [h1, h2]
  constructor
  · intro h
    have h3 := Int.compare_eq_lt.1 (Option.some.inj h)
    by_cases c : lead a < lead b
    · exact c
    · exfalso
      rcases Nat.lt_or_eq_of_le (Nat.le_of_not_lt c) with d | d
      · have := ru_lt (show 1021 * 2 ^ 52 + lead b < 1021 * 2 ^ 52 + lead a by omega); omega
      · rw [d] at h3; omega
  · intro h
    refine congrArg some (Int.compare_eq_lt.2 ?_)
    have := ru_lt (show 1021 * 2 ^ 52 + lead a < 1021 * 2 ^ 52 + lead b by omega); omega

theorem mod_step (k B : Nat) (B0 : B ≠ 0) (hBk : B ≤ k) (hk : k < 2 ^ 53) :
    B.log2 ≤ k.log2 ∧ (lead k < lead B → B.log2 + 1 ≤ k.log2 ∧ B * 2 ^ (k.log2 - 1 - B.log2) ≤ k) ∧ (¬ lead k < lead B → B * 2 ^ (k.log2 - B.log2) ≤ k) := by
  have k0 : k ≠ 0 := by omega
  have a1 := Nat.log2_self_le k0
  have a2 := @Nat.lt_log2_self k
  have b1 := Nat.log2_self_le B0
  have b2 := @Nat.lt_log2_self B
  have hlg : B.log2 ≤ k.log2 := (Nat.le_log2 k0).2 (Nat.le_trans b1 hBk)
  have hk52 : k.log2 ≤ 52 := by
    have := (Nat.log2_lt k0 (k := 53)).2 hk; omega
  refine ⟨hlg, fun h => ?_, fun h => ?_⟩
  · have hne : B.log2 ≠ k.log2 := by
      intro e
      unfold lead at h
      rw [e] at h
      have := Nat.lt_of_mul_lt_mul_right h
      omega
    refine ⟨by omega, ?_⟩
    have h3 : B * 2 ^ (k.log2 - 1 - B.log2) ≤ 2 ^ (B.log2 + 1) * 2 ^ (k.log2 - 1 - B.log2) := Nat.mul_le_mul_right _ (Nat.le_of_lt b2)
    rw [← Nat.pow_add, show B.log2 + 1 + (k.log2 - 1 - B.log2) = k.log2 by omega] at h3
    exact Nat.le_trans h3 a1
  · have h4 : lead B ≤ lead k := Nat.le_of_not_lt h
    unfold lead at h4
    have e : 2 ^ (52 - B.log2) = 2 ^ (k.log2 - B.log2) * 2 ^ (52 - k.log2) := by rw [← Nat.pow_add]; congr 1; omega
    rw [e, ← Nat.mul_assoc] at h4
    exact Nat.le_of_mul_le_mul_right h4 (Nat.two_pow_pos _)

theorem mod_less (k B e : Nat) (h : B * 2 ^ e ≤ k) : (k - B * 2 ^ e) % B = k % B := by
  obtain ⟨r, hr⟩ : ∃ r, k = r + B * 2 ^ e := ⟨k - B * 2 ^ e, by omega⟩
  rw [hr, Nat.add_sub_cancel, Nat.add_mul_mod_self_left]

def wordOf (v : Value) : Nat := match v with | .float _ x => x | _ => 0

theorem order_FF (k B : Nat) (hk : k < 2 ^ 53) (hB : B < 2 ^ 53) : FloatKind.f64.format.order (F (k : Int)) (F (B : Int)) = some (compare (k : Int) (B : Int)) := order_F _ _ (by omega) (by omega)

theorem sub_FF (k m : Nat) (hk : k < 2 ^ 53) (hm : m ≤ k) : floatBits .sub .f64 (F (k : Int)) (F (m : Int)) = some (F ((k - m : Nat) : Int)) := by
  have := sub_F (k : Int) (m : Int) (by omega) (by omega)
  rw [show (k : Int) - (m : Int) = ((k - m : Nat) : Int) by omega] at this
  exact this

end Go.Proofs.YthnkllhfmjbbmaaGreatDoor
/-
  Rem of package num, and NumSums: every operation of two floats beside the document's own: walks.
-/
namespace Go.Proofs.YthnkllhfmjbbmaaGreatDoor
open Go.RowKit Fl

theorem NaN_any (w : World) : Calls Tryz.prog 235 #[] w fun e w' => e = .returned (.float .f64 9221120237041090561) ∧ w = w' := by
  have hf : ∀ w, (callFunc 239 #[.int .u64 9221120237041090561]).run Tryz.prog w = .ok (.value (.float .f64 9221120237041090561)) w := fun w => run_Float64frombits 9221120237041090561 w
  go_enter Tryz.func235, Tryz.ntmps235
  go_wp2
  go_ret
  exact ⟨rfl, rfl⟩
theorem is_uvnan : Is .nan 9221120237041090561 := ⟨by decide, by unfold IsNaN rung; decide⟩

theorem nan_nan {x : Nat} (h : Is .nan x) (w : World) :
    Calls Tryz.prog 105 #[.float .f64 x] w fun e w' => e = .returned (.bool true) ∧ w = w' := by
  have := IsNaN_any x w
  rw [show FloatKind.f64.format.order x x = none from order_nan_l _ h.2] at this
  exact this

def nanC (c : Cl) : Bool := match c with | .nan => true | _ => false
theorem nan_cls {c : Cl} {x : Nat} (h : Is c x) (hm : mayC c = true) (w : World) :
    Calls Tryz.prog 105 #[.float .f64 x] w fun e w' => e = .returned (.bool (nanC c)) ∧ w = w' := by
  cases c with
  | nan => exact nan_nan h w
  | other => cases hm
  | ours n => obtain ⟨rfl, hs⟩ := h; exact not_nan n hs.abs w

theorem tmod_pos (a b : Int) (h : 0 ≤ a) : a.tmod b = ((a.natAbs % b.natAbs : Nat) : Int) := by
  have h1 : (a.tmod b).natAbs = a.natAbs % b.natAbs := Int.natAbs_tmod a b
  have h2 : 0 ≤ a.tmod b := Int.tmod_nonneg b h
  omega
theorem tmod_neg (a b : Int) (h : a < 0) : a.tmod b = -((a.natAbs % b.natAbs : Nat) : Int) := by
  have h1 := tmod_pos (-a) b (by omega)
  rw [Int.neg_tmod, Int.natAbs_neg] at h1
  omega

theorem EncR_same {r : Res} {v u : Nat} {k j : Int} (h : EncR r v k) (g : EncR r u j) : k = j := by
  cases r with
  | nan => rw [h.2, g.2]
  | err q => rw [h.2, g.2]
  | ok n => rw [h.2, g.2]

def DrawnTrue (w : World) (e : Ending) (w' : World) : Prop := ∃ n, e = .returned (.bool true) ∧ w' = w.drewN n

end Go.Proofs.YthnkllhfmjbbmaaGreatDoor
