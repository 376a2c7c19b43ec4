/-
  Texts of digits and what they are worth; floats that have grown beyond 53 bits stay there: plain lemmas.
-/
import Derived.Test.YtlgbnfcnimjheaaDoorDN02
import Derived.Lib.SlTrimSet
import Derived.Lib.ItoaNum
import Derived.Shelf.Strings.SlTrimAscii
import Derived.Shelf.LaysM
import Derived.Shelf.Strconv.Itoa4
import Derived.Test.YtlgbnfcnimjheaaDoorProg
import Derived.Lib.AppendIntMem
namespace Go.Proofs.YtlgbnfcnimjheaaDoor
open Go.RowKit Fl Ieee

def isDig (c : UInt8) : Bool := decide (48 ≤ c.toNat) && decide (c.toNat ≤ 57)
def valD (l : List UInt8) : Nat := l.foldl (fun n c => n * 10 + (c.toNat - 48)) 0
theorem valD_snoc (l : List UInt8) (c : UInt8) : valD (l ++ [c]) = valD l * 10 + (c.toNat - 48) := by unfold valD; rw [List.foldl_append]; rfl

/-- digits behind a sign -/
def digR (neg : Bool) (l : List UInt8) : Res :=
  if l = [] ∨ l.all isDig = false then .nan
  else if 9007199254740991 < valD l then .err 10
  else if neg = true ∧ valD l = 0 then .err 10
  else .ok (if neg then -(valD l : Int) else (valD l : Int))
/-- a text without blanks at its ends -/
def bareR : List UInt8 → Res
  | [] => .ok 0
  | c :: r => if c = 45 then digR true r else if c = 43 then digR false r else digR false (c :: r)
def blanksL : List UInt8 := [9, 10, 13, 32]
def readR (l : List UInt8) : Res := bareR (Lib.trimS l blanksL)

def Acc (n v : Nat) : Prop := (n < 2 ^ 53 ∧ v = F (n : Int)) ∨ (2 ^ 53 ≤ n ∧ Big v ∧ sgn v = false ∧ v < 2 ^ 64)

theorem big_log {m : Nat} {e : Int} (he : -1074 ≤ e) (h : 2 ^ 53 * U ≤ m * 2 ^ (e + 1074).toNat) : m ≠ 0 ∧ 53 ≤ (m.log2 : Int) + e := by
  obtain ⟨k, hk⟩ : ∃ k, k = 1074 := ⟨_, rfl⟩
  rw [U_pow k hk, ← Nat.pow_add] at h
  have hp := Nat.two_pow_pos (53 + k)
  have m0 : m ≠ 0 := by intro c; rw [c, Nat.zero_mul] at h; omega
  refine ⟨m0, ?_⟩
  have hne : m * 2 ^ (e + 1074).toNat ≠ 0 := by omega
  have := (Nat.le_log2 hne).2 h
  rw [log2_scale _ _ m0] at this
  omega

theorem log2_ge {m n k : Nat} (m0 : m ≠ 0) (h : m * 2 ^ k ≤ n) : n ≠ 0 ∧ m.log2 + k ≤ n.log2 := by
  have hp := Nat.mul_pos (Nat.pos_of_ne_zero m0) (Nat.two_pow_pos k)
  refine ⟨by omega, (Nat.le_log2 (by omega)).2 (Nat.le_trans ?_ h)⟩
  rw [Nat.pow_add]
  exact Nat.mul_le_mul_right _ (Nat.log2_self_le m0)

theorem big_inf : Big (double.word false double.infRung) ∧ sgn (double.word false double.infRung) = false ∧ double.word false double.infRung < 2 ^ 64 := by
  have e4 : double.infRung = 2047 * 2 ^ 52 := by decide
  rw [e4]
  have w := word_sgn false (2047 * 2 ^ 52) (by decide)
  exact ⟨⟨by rw [w.2.1]; exact Nat.le_refl _, by rw [w.2.1]; exact ru_inf⟩, w.1, w.2.2⟩

theorem nearest_grown (mag : Nat) (place : Int) (h : mag ≠ 0) (hb : 53 ≤ place + mag.log2) : Big (double.nearest false mag place) ∧ sgn (double.nearest false mag place) = false ∧ double.nearest false mag place < 2 ^ 64 :=
  ⟨nearest_big _ _ _ h hb, (nearest_all _ _ _ h).1, double.nearest_lt _ _ _⟩

theorem big_mul {v : Nat} (hb : Big v) (hs : sgn v = false) : ∃ y, floatBits .mul .f64 v (F 10) = some y ∧ Big y ∧ sgn y = false ∧ y < 2 ^ 64 := by
  obtain ⟨j, g, _, _⟩ := read_F 10 (by decide)
  show ∃ y, double.mul v (F 10) = some y ∧ _
  unfold Format.mul
  rw [g]
  have d10 : decide ((10 : Int) < 0) = false := by decide
  rw [d10]
  rcases Nat.lt_or_eq_of_le hb.1 with c | c
  · obtain ⟨m, e, h1, h2, _, h4, _⟩ := read_fin c
    rw [h1, hs]
    obtain ⟨m0, hl⟩ := big_log h2 (by rw [h4]; exact hb.2)
    refine ⟨_, rfl, ?_⟩
    obtain ⟨n0, hn⟩ := log2_ge (n := m * ((10 : Int).natAbs * 2 ^ j)) (k := j) m0 (by
      have : m * 2 ^ j ≤ m * 2 ^ j * 10 := Nat.le_mul_of_pos_right _ (by decide)
      have e2 : m * ((10 : Int).natAbs * 2 ^ j) = m * 2 ^ j * 10 := by rw [show (10 : Int).natAbs = 10 from rfl, Nat.mul_comm 10, Nat.mul_assoc]
      rw [e2]; exact this)
    exact nearest_grown _ _ n0 (by omega)
  · rw [read_inf c, hs]
    unfold Datum.product
    have n0 : (10 : Int).natAbs * 2 ^ j ≠ 0 := by have := Nat.mul_pos (show 0 < (10 : Int).natAbs by decide) (Nat.two_pow_pos j); omega
    simp only [n0, if_false, Option.map_some]
    exact ⟨_, rfl, big_inf⟩

theorem big_add {v d : Nat} (hb : Big v) (hs : sgn v = false) (hd : d ≤ 9) : ∃ y, floatBits .add .f64 v (F (d : Int)) = some y ∧ Big y ∧ sgn y = false ∧ y < 2 ^ 64 := by
  obtain ⟨j, g, _, _⟩ := read_F (d : Int) (by omega)
  show ∃ y, double.add v (F (d : Int)) = some y ∧ _
  unfold Format.add
  rw [g]
  have dd : decide ((d : Int) < 0) = false := decide_eq_false (by omega)
  rw [dd]
  rcases Nat.lt_or_eq_of_le hb.1 with c | c
  · obtain ⟨m, e, h1, h2, _, h4, _⟩ := read_fin c
    rw [h1, hs]
    obtain ⟨m0, hl⟩ := big_log h2 (by rw [h4]; exact hb.2)
    unfold Datum.sum
    simp only [Option.map_some]
    obtain ⟨T, hT⟩ : ∃ T : Nat, (signed false m (e - min e (-(j : Int))).toNat + signed false ((d : Int).natAbs * 2 ^ j) (-(j : Int) - min e (-(j : Int))).toNat) = (T : Int) ∧ m * 2 ^ (e - min e (-(j : Int))).toNat ≤ T := by
      rw [signed_eq, signed_eq]
      simp only [Bool.false_eq_true, if_false]
      exact ⟨m * 2 ^ (e - min e (-(j : Int))).toNat + (d : Int).natAbs * 2 ^ j * 2 ^ (-(j : Int) - min e (-(j : Int))).toNat, by omega, by omega⟩
    rw [hT.1]
    obtain ⟨n0, hn⟩ := log2_ge m0 hT.2
    have t0 : ¬ ((T : Int) = 0) := by omega
    have t1 : decide ((T : Int) < 0) = false := decide_eq_false (by omega)
    simp only [t0, if_false, t1, Int.natAbs_natCast]
    exact ⟨_, rfl, nearest_grown _ _ n0 (by omega)⟩
  · rw [read_inf c, hs]
    exact ⟨_, rfl, big_inf⟩

theorem F_grown (n : Nat) (h : 2 ^ 53 ≤ n) : Big (F (n : Int)) ∧ sgn (F (n : Int)) = false ∧ F (n : Int) < 2 ^ 64 :=
  ⟨F_big _ (by omega), by rw [sgn_F]; exact decide_eq_false (by omega), F_lt _⟩

theorem acc_step {n v d : Nat} (h : Acc n v) (hd : d ≤ 9) : ∃ v1 v2, floatBits .mul .f64 v (F 10) = some v1 ∧ floatBits .add .f64 v1 (F (d : Int)) = some v2 ∧ Acc (n * 10 + d) v2 := by
  rcases h with ⟨h1, rfl⟩ | ⟨h1, h2, h3, h4⟩
  · have hm : floatBits .mul .f64 (F (n : Int)) (F 10) = some (F ((n * 10 : Nat) : Int)) := by
      have := mul_F (n : Int) 10 (by omega) (by decide)
      refine (show floatBits .mul .f64 (F (n : Int)) (F 10) = _ from this).trans ?_
      by_cases z : n = 0
      · subst z; decide
      · rw [if_neg (by omega)]; congr 2
    by_cases c : n * 10 < 2 ^ 53
    · refine ⟨_, _, hm, add_F _ _ (by omega) (by omega), ?_⟩
      have e : ((n * 10 : Nat) : Int) + (d : Int) = ((n * 10 + d : Nat) : Int) := by omega
      rw [e]
      by_cases c2 : n * 10 + d < 2 ^ 53
      · exact Or.inl ⟨c2, rfl⟩
      · obtain ⟨b1, b2, b3⟩ := F_grown (n * 10 + d) (by omega)
        exact Or.inr ⟨by omega, b1, b2, b3⟩
    · obtain ⟨b1, b2, b3⟩ := F_grown (n * 10) (by omega)
      obtain ⟨y, hy, y1, y2, y3⟩ := big_add (d := d) b1 b2 hd
      exact ⟨_, y, hm, hy, Or.inr ⟨by omega, y1, y2, y3⟩⟩
  · obtain ⟨y, hy, y1, y2, y3⟩ := big_mul h2 h3
    obtain ⟨z, hz, z1, z2, z3⟩ := big_add (d := d) y1 y2 hd
    exact ⟨y, z, hy, hz, Or.inr ⟨by omega, z1, z2, z3⟩⟩

theorem take_snoc (s : ByteArray) (k : Nat) (h : k < s.size) : s.data.toList.take (k + 1) = s.data.toList.take k ++ [s[k]] := by
  rw [List.take_succ_eq_append_getElem (by simpa using h)]; rfl

/-- a worth behind a sign, told -/
theorem acc_cls {l : List UInt8} {v : Nat} (neg : Bool) (hl : ¬ (l = [] ∨ l.all isDig = false)) (h : Acc (valD l) v) :
    ∃ c, Is c (if neg then Op.negFloat .f64 v else v) ∧ tellC c = digR neg l := by
  unfold digR
  rw [if_neg hl]
  have negW : ∀ x, x < 2 ^ 64 → sgn x = false → Big x → Is .other (Op.negFloat .f64 x) := by
    intro x hx hs hb
    have e : Op.negFloat .f64 x = if x < 2 ^ 63 then x + 2 ^ 63 else x - 2 ^ 63 := neg_word x hx
    rw [e]
    have hr : rung (if x < 2 ^ 63 then x + 2 ^ 63 else x - 2 ^ 63) = rung x := by unfold rung; split <;> omega
    refine ⟨by split <;> omega, Or.inl ?_⟩
    unfold Big; rw [hr]; exact hb
  rcases h with ⟨h1, rfl⟩ | ⟨h1, h2, h3, h4⟩
  · by_cases big : 9007199254740991 < valD l
    · exfalso; omega
    · rw [if_neg big]
      cases neg
      · simp only [Bool.false_eq_true, if_false, false_and]
        exact ⟨.ours _, ⟨rfl, by unfold SafeN; omega⟩, rfl⟩
      · simp only [if_true, true_and]
        by_cases z : valD l = 0
        · rw [if_pos z, z]
          refine ⟨.other, ?_, rfl⟩
          have : Op.negFloat .f64 (F ((0 : Nat) : Int)) = 2 ^ 63 := by decide
          rw [this]; exact is_m0
        · rw [if_neg z]
          exact ⟨.ours _, ⟨neg_F _ (by omega) (by omega), by unfold SafeN; omega⟩, rfl⟩
  · have hbig : 9007199254740991 < valD l := by omega
    rw [if_pos hbig]
    cases neg
    · simp only [Bool.false_eq_true, if_false]
      exact ⟨.other, ⟨h4, Or.inl h2⟩, rfl⟩
    · simp only [if_true]
      exact ⟨.other, negW v h4 h3 h2, rfl⟩
end Go.Proofs.YtlgbnfcnimjheaaDoor
/-
  The document's own reckoning, and package num's Neg, told by what the floats are: walks.
-/
namespace Go.Proofs.YtlgbnfcnimjheaaDoor
open Go.RowKit Fl

@[go_sem] theorem unary_negf (k : FloatKind) (b : Nat) : Op.unary .neg (.float k b) = pure (.float k (Op.negFloat k b)) := rfl

theorem neg_nan {x : Nat} (hx : x < 2 ^ 64) (h : IsNaN x) : x ^^^ 2 ^ 63 < 2 ^ 64 ∧ IsNaN (x ^^^ 2 ^ 63) := by
  rw [neg_word x hx]
  unfold IsNaN rung at *
  split <;> omega

def negC (c : Cl) : Res := match c with
  | .nan => .nan
  | .other => .err 2
  | .ours a => negR a

theorem retR_err' (k : Int) (w : World) (n : Nat) : RetR (.err k) w (.returned (.tuple #[.float .f64 0, .int .i64 k])) (w.drewN n) := ⟨0, k, n, ⟨rfl, rfl⟩, rfl, rfl⟩
theorem retR_nan {v : Nat} (h : v < 2 ^ 64 ∧ IsNaN v) (w : World) (n : Nat) : RetR .nan w (.returned (.tuple #[.float .f64 v, .int .i64 0])) (w.drewN n) := ⟨v, 0, n, ⟨h, rfl⟩, rfl, rfl⟩

theorem twoV_no {c d : Cl} (hm : (mayC c && mayC d) = false) : twoV c d = .tuple #[.int .i64 0, .int .i64 0, .bool false, .int .i64 2] := by
  unfold twoV; rw [hm]; rfl
/-- what 'two' tells where both may be and one is no number -/
theorem twoV_nan {c d : Cl} (hm : (mayC c && mayC d) = true) (hn : (!wholeC c || !wholeC d) = true) (f : Int → Int → Res) :
    twoV c d = .tuple #[.int .i64 (wholeI c), .int .i64 (wholeI d), .bool true, .int .i64 0] ∧ opR f c d = .nan := by
  unfold twoV; rw [hm, hn]
  refine ⟨rfl, ?_⟩
  cases c <;> cases d <;> first | rfl | (simp [wholeC] at hn; done) | (simp [mayC] at hm; done)
theorem twoV_ours {c d : Cl} (hn : (!wholeC c || !wholeC d) = false) : ∃ a b, c = .ours a ∧ d = .ours b := by
  cases c <;> cases d <;> first | exact ⟨_, _, rfl, rfl⟩ | (simp [wholeC] at hn; done)

end Go.Proofs.YtlgbnfcnimjheaaDoor
/-
  math.Mod at our numbers: what is left of a behind b times the whole quotient; no number where one is none or b is 0: walks.
-/
namespace Go.Proofs.YtlgbnfcnimjheaaDoor
open Go.RowKit Fl

theorem run_Float64frombits (x : Nat) (w : World) : (callFunc 110 #[.int .u64 (x : Int)]).run Tryd.prog w = .ok (.value (.float .f64 x)) w := by
  rw [run_callFunc_extern Tryd.func110 (by kernel_rfl) (by kernel_rfl) (by kernel_rfl) (e := Extern.MathFloatBits.float64frombits) (by kernel_rfl)]
  rfl

theorem F_word (n : Nat) (h0 : n ≠ 0) (h : n < 2 ^ 53) : F (n : Int) = (n.log2 + 1023) * 2 ^ 52 + (n * 2 ^ (52 - n.log2) - 2 ^ 52) ∧ 2 ^ 52 ≤ n * 2 ^ (52 - n.log2) ∧ n * 2 ^ (52 - n.log2) < 2 ^ 53 ∧ n.log2 ≤ 52 := by
  have hlg : n.log2 ≤ 52 := by
    have := (Nat.log2_lt h0 (k := 53)).2 h; omega
  have h1 := Nat.log2_self_le h0
  have h2 := @Nat.lt_log2_self n
  have m1 : 2 ^ 52 ≤ n * 2 ^ (52 - n.log2) := by
    have : 2 ^ 52 = 2 ^ n.log2 * 2 ^ (52 - n.log2) := by rw [← Nat.pow_add]; congr 1; omega
    rw [this]; exact Nat.mul_le_mul_right _ h1
  have m2 : n * 2 ^ (52 - n.log2) < 2 ^ 53 := by
    have : 2 ^ 53 = 2 ^ (n.log2 + 1) * 2 ^ (52 - n.log2) := by rw [← Nat.pow_add]; congr 1; omega
    rw [this]; exact Nat.mul_lt_mul_of_pos_right h2 (Nat.two_pow_pos _)
  refine ⟨?_, m1, m2, hlg⟩
  symm
  have hu : ∀ L M : Nat, L ≤ 52 → 2 ^ 52 ≤ M → M < 2 ^ 53 → (L + 1023) * 2 ^ 52 + (M - 2 ^ 52) < 2 ^ 63 := by intro L M a b c; omega
  have hlt := hu n.log2 (n * 2 ^ (52 - n.log2)) hlg m1 m2
  refine of_val (n : Int) (by omega) ?_ (by omega) ?_
  · have hr : rung ((n.log2 + 1023) * 2 ^ 52 + (n * 2 ^ (52 - n.log2) - 2 ^ 52)) = (n.log2 + 1022) * 2 ^ 52 + n * 2 ^ (52 - n.log2) := by
      unfold rung; omega
    rw [hr, ru_mk _ _ (by omega) (Or.inr m1), Nat.mul_assoc, ← Nat.pow_add, U_pow (52 - n.log2 + (n.log2 + 1022)) (by omega)]
    rfl
  · unfold sgn
    rw [decide_eq_false (by omega), beq_eq_false_iff_ne]; omega

theorem nat_of_u64 (a : Nat) (ha : a < 18446744073709551616) : (BitVec.ofInt 64 (a : Int)).toNat = a := by
  rw [BitVec.ofInt_natCast, BitVec.toNat_ofNat]; exact Nat.mod_eq_of_lt (by omega)

theorem andNot_u64 (a b : Nat) (ha : a < 18446744073709551616) (hb : b < 18446744073709551616) : bits .andNot .u64 (a : Int) (b : Int) = ((a &&& (18446744073709551615 - b) : Nat) : Int) := by
  have hx : a &&& (18446744073709551615 - b) < 2 ^ 64 := Nat.and_lt_two_pow _ (by omega)
  show IntKind.u64.wrap ((BitVec.ofInt 64 (a : Int) &&& ~~~ BitVec.ofInt 64 (b : Int)).toNat : Int) = _
  rw [BitVec.toNat_and, BitVec.toNat_not, nat_of_u64 a ha, nat_of_u64 b hb, IntKind.wrap_u64]
  have e : 2 ^ 64 - 1 - b = 18446744073709551615 - b := by omega
  rw [e]
  omega

theorem and_sign (x : Nat) : x &&& 9223372036854775807 = x % 2 ^ 63 := Nat.and_two_pow_sub_one_eq_mod x 63

theorem and_frac (x : Nat) (hx : x < 2 ^ 63) : x &&& 9227875636482146303 = x % 2 ^ 52 := by
  have e : 9227875636482146303 = 2 ^ 63 + (2 ^ 52 - 1) := by decide
  rw [e]
  apply Nat.eq_of_testBit_eq
  intro i
  rw [Nat.testBit_and, Nat.testBit_mod_two_pow]
  by_cases h : i < 63
  · rw [Nat.testBit_two_pow_add_gt h, Nat.testBit_two_pow_sub_one, Bool.and_comm]
  · have a1 : x.testBit i = false := Nat.testBit_lt_two_pow (Nat.lt_of_lt_of_le hx (Nat.pow_le_pow_right (by decide) (by omega)))
    rw [a1]; simp

/-- Abs of a word takes the sign off -/
theorem Abs_any (x : Nat) (hx : x < 2 ^ 64) (w : World) :
    Calls Tryd.prog 121 #[.float .f64 x] w fun e w' => e = .returned (.float .f64 (x % 2 ^ 63)) ∧ w = w' := by
  have hb := fun w => run_Float64bits x w
  have h1 : bits .andNot .u64 (x : Int) 9223372036854775808 = ((x % 2 ^ 63 : Nat) : Int) := by
    have := andNot_u64 x 9223372036854775808 (by omega) (by decide)
    rw [← and_sign]; exact this
  generalize hy : x % 2 ^ 63 = y at *
  clear hy hx
  have hc := fun w => run_Float64frombits y w
  go_enter Tryd.func121, Tryd.ntmps121
  go_wp2
  go_ret
  exact ⟨rfl, rfl⟩

theorem IsNaN_any (x : Nat) (w : World) :
    Calls Tryd.prog 73 #[.float .f64 x] w fun e w' => e = .returned (.bool (FloatKind.f64.format.order x x != some .eq)) ∧ w = w' := by
  go_enter Tryd.func73, Tryd.ntmps73
  go_wp2
  go_ret
  exact ⟨rfl, rfl⟩

theorem F_pos_mod (n : Nat) (h : n < 2 ^ 53) : F (n : Int) % 2 ^ 63 = F (n : Int) := by
  have hs := sgn_F (n : Int)
  have hl := F_lt (n : Int)
  rw [decide_eq_false (by omega)] at hs
  unfold sgn at hs
  simp at hs
  omega

theorem F_abs_mod (n : Int) (h : n.natAbs < 2 ^ 53) : F n % 2 ^ 63 = F (n.natAbs : Int) := by
  by_cases c : 0 ≤ n
  · have : n = (n.natAbs : Int) := by omega
    rw [← this]
    have := F_pos_mod n.natAbs h
    rw [show ((n.natAbs : Nat) : Int) = n by omega] at this
    exact this
  · have e := neg_F n h (by omega)
    rw [neg_word _ (F_lt n)] at e
    have hs := sgn_F n
    rw [decide_eq_true (by omega)] at hs
    unfold sgn at hs
    simp at hs
    have hl := F_lt n
    rw [if_neg (by omega)] at e
    rw [show ((n.natAbs : Nat) : Int) = -n by omega, ← e]
    omega

theorem fin_max : IsFin 9218868437227405311 := by unfold IsFin rung; decide

theorem order_max (n : Nat) (h : n < 2 ^ 53) : FloatKind.f64.format.order (F (n : Int)) 9218868437227405311 = some .lt := by
  have f := F_small (n : Int) (by omega)
  have e : FloatKind.f64.format.order (F (n : Int)) 9218868437227405311 = some (compare (fval (F (n : Int))) (fval 9218868437227405311)) := order_fin f.1 fin_max
  rw [e]
  refine congrArg some (Int.compare_eq_lt.2 ?_)
  have s1 : sgn (F (n : Int)) = false := by rw [sgn_F]; simp
  have s2 : sgn 9218868437227405311 = false := by decide
  rw [fval_pos s1, fval_pos s2]
  have hr : rung (F (n : Int)) < rung 9218868437227405311 := by
    have r2 : rung 9218868437227405311 = 9218868437227405311 := by decide
    rw [r2]
    have b1 := order_F (n : Int) 9007199254740991 (by omega) (by decide)
    by_cases h0 : n = 0
    · subst h0; decide
    · obtain ⟨w1, w2, w3, w4⟩ := F_word n h0 h
      unfold rung
      rw [w1]; omega
  have := ru_lt hr
  omega

theorem not_nan (n : Int) (h : n.natAbs < 2 ^ 53) (w : World) :
    Calls Tryd.prog 73 #[.float .f64 (F n)] w fun e w' => e = .returned (.bool false) ∧ w = w' := by
  have := IsNaN_any (F n) w
  have e : FloatKind.f64.format.order (F n) (F n) = some .eq := order_self (not_nan_F n h)
  rw [e] at this
  exact this

theorem fin_min : IsFin 4503599627370496 := by unfold IsFin rung; decide
theorem order_min (n : Nat) (h0 : n ≠ 0) (h : n < 2 ^ 53) : FloatKind.f64.format.order (F (n : Int)) 4503599627370496 = some .gt := by
  have f := F_small (n : Int) (by omega)
  have e : FloatKind.f64.format.order (F (n : Int)) 4503599627370496 = some (compare (fval (F (n : Int))) (fval 4503599627370496)) := order_fin f.1 fin_min
  rw [e]
  refine congrArg some (Int.compare_eq_gt.2 ?_)
  have s1 : sgn (F (n : Int)) = false := by rw [sgn_F]; simp
  have s2 : sgn 4503599627370496 = false := by decide
  rw [fval_pos s1, fval_pos s2]
  have hr : rung 4503599627370496 < rung (F (n : Int)) := by
    obtain ⟨w1, w2, w3, w4⟩ := F_word n h0 h
    unfold rung
    rw [w1]; omega
  have := ru_lt hr
  omega

/-- the fraction that Frexp gives -/
def frW (n : Nat) : Nat := 1022 * 2 ^ 52 + (n * 2 ^ (52 - n.log2) - 2 ^ 52)

theorem or_exp (m E : Nat) (hm : m < 2 ^ 52) (hE : E < 2048) : bits .or .u64 (m : Int) ((E * 2 ^ 52 : Nat) : Int) = ((E * 2 ^ 52 + m : Nat) : Int) := by
  rw [bits_or_u64_nat m (E * 2 ^ 52) (by omega) (by omega)]
  congr 1
  rw [Nat.or_comm, Nat.mul_comm, ← Nat.two_pow_add_eq_or_of_lt hm]

theorem F_lt_F {a b : Nat} (h : a < b) (hb : b < 2 ^ 53) : F (a : Int) < F (b : Int) := by
  have r1 := rung_F (a : Int) (by omega)
  have r2 := rung_F (b : Int) (by omega)
  have s1 := F_pos_mod a (by omega)
  have s2 := F_pos_mod b hb
  unfold rung at r1 r2
  rw [s1] at r1
  rw [s2] at r2
  have hm : a * U < b * U := Nat.mul_lt_mul_of_pos_right h U_pos
  rcases Nat.lt_trichotomy (F (a : Int)) (F (b : Int)) with c | c | c
  · exact c
  · rw [c, r2] at r1
    have : (b : Int).natAbs = b := by omega
    have : (a : Int).natAbs = a := by omega
    simp only [Int.natAbs_natCast] at r1; omega
  · have := ru_lt c
    rw [r1, r2] at this
    simp only [Int.natAbs_natCast] at this; omega

/-- the leading digits of a number, 53 of them -/
def lead (n : Nat) : Nat := n * 2 ^ (52 - n.log2)

/-- the fractions of Frexp stand as the leading digits stand -/
theorem order_frW (a b : Nat) (a0 : a ≠ 0) (ha : a < 2 ^ 53) (b0 : b ≠ 0) (hb : b < 2 ^ 53) :
    FloatKind.f64.format.order (frW a) (frW b) = some .lt ↔ lead a < lead b := by
  obtain ⟨_, w2, w3, _⟩ := F_word a a0 ha
  obtain ⟨_, v2, v3, _⟩ := F_word b b0 hb
  have key : ∀ M, 2 ^ 52 ≤ M → M < 2 ^ 53 → IsFin (1022 * 2 ^ 52 + (M - 2 ^ 52)) ∧ fval (1022 * 2 ^ 52 + (M - 2 ^ 52)) = ((ru (1021 * 2 ^ 52 + M) : Nat) : Int) := by
    intro M m1 m2
    have hr : rung (1022 * 2 ^ 52 + (M - 2 ^ 52)) = 1021 * 2 ^ 52 + M := by unfold rung; omega
    refine ⟨by unfold IsFin; rw [hr]; omega, ?_⟩
    have hs : sgn (1022 * 2 ^ 52 + (M - 2 ^ 52)) = false := by unfold sgn; rw [beq_eq_false_iff_ne]; omega
    rw [fval_pos hs, hr]
  obtain ⟨f1, g1⟩ := key _ w2 w3
  obtain ⟨f2, g2⟩ := key _ v2 v3
  have e : FloatKind.f64.format.order (frW a) (frW b) = some (compare (fval (frW a)) (fval (frW b))) := order_fin f1 f2
  rw [e]
  have h1 : fval (frW a) = ((ru (1021 * 2 ^ 52 + lead a) : Nat) : Int) := g1
  have h2 : fval (frW b) = ((ru (1021 * 2 ^ 52 + lead b) : Nat) : Int) := g2
  rw [h1, h2]
  constructor
  · intro h
    have h3 := Int.compare_eq_lt.1 (Option.some.inj h)
    by_cases c : lead a < lead b
    · exact c
    · exfalso
      rcases Nat.lt_or_eq_of_le (Nat.le_of_not_lt c) with d | d
      · have := ru_lt (show 1021 * 2 ^ 52 + lead b < 1021 * 2 ^ 52 + lead a by omega); omega
      · rw [d] at h3; omega
  · intro h
    refine congrArg some (Int.compare_eq_lt.2 ?_)
    have := ru_lt (show 1021 * 2 ^ 52 + lead a < 1021 * 2 ^ 52 + lead b by omega); omega

theorem mod_step (k B : Nat) (B0 : B ≠ 0) (hBk : B ≤ k) (hk : k < 2 ^ 53) :
    B.log2 ≤ k.log2 ∧ (lead k < lead B → B.log2 + 1 ≤ k.log2 ∧ B * 2 ^ (k.log2 - 1 - B.log2) ≤ k) ∧ (¬ lead k < lead B → B * 2 ^ (k.log2 - B.log2) ≤ k) := by
  have k0 : k ≠ 0 := by omega
  have a1 := Nat.log2_self_le k0
  have a2 := @Nat.lt_log2_self k
  have b1 := Nat.log2_self_le B0
  have b2 := @Nat.lt_log2_self B
  have hlg : B.log2 ≤ k.log2 := (Nat.le_log2 k0).2 (Nat.le_trans b1 hBk)
  have hk52 : k.log2 ≤ 52 := by
    have := (Nat.log2_lt k0 (k := 53)).2 hk; omega
  refine ⟨hlg, fun h => ?_, fun h => ?_⟩
  · have hne : B.log2 ≠ k.log2 := by
      intro e
      unfold lead at h
      rw [e] at h
      have := Nat.lt_of_mul_lt_mul_right h
      omega
    refine ⟨by omega, ?_⟩
    have h3 : B * 2 ^ (k.log2 - 1 - B.log2) ≤ 2 ^ (B.log2 + 1) * 2 ^ (k.log2 - 1 - B.log2) := Nat.mul_le_mul_right _ (Nat.le_of_lt b2)
    rw [← Nat.pow_add, show B.log2 + 1 + (k.log2 - 1 - B.log2) = k.log2 by omega] at h3
    exact Nat.le_trans h3 a1
  · have h4 : lead B ≤ lead k := Nat.le_of_not_lt h
    unfold lead at h4
    have e : 2 ^ (52 - B.log2) = 2 ^ (k.log2 - B.log2) * 2 ^ (52 - k.log2) := by rw [← Nat.pow_add]; congr 1; omega
    rw [e, ← Nat.mul_assoc] at h4
    exact Nat.le_of_mul_le_mul_right h4 (Nat.two_pow_pos _)

theorem mod_less (k B e : Nat) (h : B * 2 ^ e ≤ k) : (k - B * 2 ^ e) % B = k % B := by
  obtain ⟨r, hr⟩ : ∃ r, k = r + B * 2 ^ e := ⟨k - B * 2 ^ e, by omega⟩
  rw [hr, Nat.add_sub_cancel, Nat.add_mul_mod_self_left]

def wordOf (v : Value) : Nat := match v with | .float _ x => x | _ => 0

theorem order_FF (k B : Nat) (hk : k < 2 ^ 53) (hB : B < 2 ^ 53) : FloatKind.f64.format.order (F (k : Int)) (F (B : Int)) = some (compare (k : Int) (B : Int)) := order_F _ _ (by omega) (by omega)

theorem sub_FF (k m : Nat) (hk : k < 2 ^ 53) (hm : m ≤ k) : floatBits .sub .f64 (F (k : Int)) (F (m : Int)) = some (F ((k - m : Nat) : Int)) := by
  have := sub_F (k : Int) (m : Int) (by omega) (by omega)
  rw [show (k : Int) - (m : Int) = ((k - m : Nat) : Int) by omega] at this
  exact this

end Go.Proofs.YtlgbnfcnimjheaaDoor
/-
  Rem of package num, and NumSums: every operation of two floats beside the document's own: walks.
-/
namespace Go.Proofs.YtlgbnfcnimjheaaDoor
open Go.RowKit Fl

theorem NaN_any (w : World) : Calls Tryd.prog 99 #[] w fun e w' => e = .returned (.float .f64 9221120237041090561) ∧ w = w' := by
  have hf : ∀ w, (callFunc 110 #[.int .u64 9221120237041090561]).run Tryd.prog w = .ok (.value (.float .f64 9221120237041090561)) w := fun w => run_Float64frombits 9221120237041090561 w
  go_enter Tryd.func99, Tryd.ntmps99
  go_wp2
  go_ret
  exact ⟨rfl, rfl⟩
theorem is_uvnan : Is .nan 9221120237041090561 := ⟨by decide, by unfold IsNaN rung; decide⟩

theorem nan_nan {x : Nat} (h : Is .nan x) (w : World) :
    Calls Tryd.prog 73 #[.float .f64 x] w fun e w' => e = .returned (.bool true) ∧ w = w' := by
  have := IsNaN_any x w
  rw [show FloatKind.f64.format.order x x = none from order_nan_l _ h.2] at this
  exact this

def nanC (c : Cl) : Bool := match c with | .nan => true | _ => false
theorem nan_cls {c : Cl} {x : Nat} (h : Is c x) (hm : mayC c = true) (w : World) :
    Calls Tryd.prog 73 #[.float .f64 x] w fun e w' => e = .returned (.bool (nanC c)) ∧ w = w' := by
  cases c with
  | nan => exact nan_nan h w
  | other => cases hm
  | ours n => obtain ⟨rfl, hs⟩ := h; exact not_nan n hs.abs w

theorem tmod_pos (a b : Int) (h : 0 ≤ a) : a.tmod b = ((a.natAbs % b.natAbs : Nat) : Int) := by
  have h1 : (a.tmod b).natAbs = a.natAbs % b.natAbs := Int.natAbs_tmod a b
  have h2 : 0 ≤ a.tmod b := Int.tmod_nonneg b h
  omega
theorem tmod_neg (a b : Int) (h : a < 0) : a.tmod b = -((a.natAbs % b.natAbs : Nat) : Int) := by
  have h1 := tmod_pos (-a) b (by omega)
  rw [Int.neg_tmod, Int.natAbs_neg] at h1
  omega

theorem EncR_same {r : Res} {v u : Nat} {k j : Int} (h : EncR r v k) (g : EncR r u j) : k = j := by
  cases r with
  | nan => rw [h.2, g.2]
  | err q => rw [h.2, g.2]
  | ok n => rw [h.2, g.2]

def DrawnTrue (w : World) (e : Ending) (w' : World) : Prop := ∃ n, e = .returned (.bool true) ∧ w' = w.drewN n

end Go.Proofs.YtlgbnfcnimjheaaDoor
/-
  DERIVED: THE SHELF's CONTRACTS AT THIS DUMP, IN PLAIN WORDS (tools/lay-plain.mjs out of 'YtlgbnfcnimjheaaDoorShelfTry.lean', which tools/lay-shelf.mjs wrote): THE SAME DECLARATIONS UNDER THE SAME NAMES: 'import', 'namespace', 'open', 'def', 'theorem' AND NOTHING ELSE: no command of the shelf's: FOR A HAND-IN. Each laying: the table of numbers ('.._ren') and one theorem, a field a fact of the dump's own or the kernel's comparison; each contract: ONE APPLICATION.
-/
namespace Go.Proofs
open Go.Shelf
def Tryd.lays160_ren : Go.Shelf.Ren := ⟨fun | 160 => 82 | 232 => 93 | 231 => 92 | 227 => 94 | 234 => 96 | 233 => 95 | 236 => 98 | 235 => 97 | 228 => 106 | 271 => 109 | 151 => 108 | 197 => 107 | 120 => 120 | 152 => 119 | 260 => 118 | 137 => 125 | 119 => 126 | 224 => 127 | 225 => 128 | 217 => 129 | 266 => 130 | n => n, fun | 9 => 9 | 4 => 4 | 3 => 3 | 5 => 5 | 117 => 120 | 116 => 119 | 0 => 0 | 124 => 123 | 21 => 21 | 105 => 132 | 46 => 113 | 119 => 146 | 139 => 149 | 138 => 148 | n => n, fun | 3 => 3 | 4 => 4 | n => n⟩
theorem Tryd.lays160 : Go.Proofs.Lays.n160 Tryd.prog Tryd.lays160_ren := {
  mixed := by kernel_rfl
  f119 := Tryd.func126.trans (congrArg some (by kernel_rfl))
  f120 := Tryd.func120.trans (congrArg some (by kernel_rfl))
  f137 := Tryd.func125.trans (congrArg some (by kernel_rfl))
  f151 := Tryd.func108.trans (congrArg some (by kernel_rfl))
  f152 := Tryd.func119.trans (congrArg some (by kernel_rfl))
  f160 := Tryd.func82.trans (congrArg some (by kernel_rfl))
  f197 := Tryd.func107.trans (congrArg some (by kernel_rfl))
  f217 := Tryd.func129.trans (congrArg some (by kernel_rfl))
  f224 := Tryd.func127.trans (congrArg some (by kernel_rfl))
  f225 := Tryd.func128.trans (congrArg some (by kernel_rfl))
  f227 := Tryd.func94.trans (congrArg some (by kernel_rfl))
  f228 := Tryd.func106.trans (congrArg some (by kernel_rfl))
  f231 := Tryd.func92.trans (congrArg some (by kernel_rfl))
  f232 := Tryd.func93.trans (congrArg some (by kernel_rfl))
  f233 := Tryd.func95.trans (congrArg some (by kernel_rfl))
  f234 := Tryd.func96.trans (congrArg some (by kernel_rfl))
  f235 := Tryd.func97.trans (congrArg some (by kernel_rfl))
  f236 := Tryd.func98.trans (congrArg some (by kernel_rfl))
  f260 := Tryd.func118.trans (congrArg some (by kernel_rfl))
  f266 := Tryd.func130.trans (congrArg some (by kernel_rfl))
  f271 := Tryd.func109.trans (congrArg some (by kernel_rfl))
  t0 := Tryd.underlying0
  a0 := Tryd.isAgg0
  z0 := Tryd.sizeOf0
  v0 := Tryd.zeroValue0
  t3 := Tryd.underlying3
  a3 := Tryd.isAgg3
  z3 := Tryd.sizeOf3
  v3 := Tryd.zeroValue3
  t4 := Tryd.underlying4
  a4 := Tryd.isAgg4
  z4 := Tryd.sizeOf4
  v4 := Tryd.zeroValue4
  t5 := Tryd.underlying5
  a5 := Tryd.isAgg5
  z5 := Tryd.sizeOf5
  v5 := Tryd.zeroValue5
  t9 := Tryd.underlying9
  a9 := Tryd.isAgg9
  z9 := Tryd.sizeOf9
  v9 := Tryd.zeroValue9
  t21 := Tryd.underlying21
  a21 := Tryd.isAgg21
  z21 := Tryd.sizeOf21
  v21 := Tryd.zeroValue21
  t46 := Tryd.underlying113
  a46 := Tryd.isAgg113
  z46 := Tryd.sizeOf113
  v46 := Tryd.zeroValue113
  t105 := Tryd.underlying132
  a105 := Tryd.isAgg132
  z105 := Tryd.sizeOf132
  v105 := Tryd.zeroValue132
  t116 := Tryd.underlying119
  a116 := Tryd.isAgg119
  z116 := Tryd.sizeOf119
  t117 := Tryd.underlying120
  a117 := Tryd.isAgg120
  z117 := Tryd.sizeOf120
  v117 := Tryd.zeroValue120
  t119 := Tryd.underlying146
  a119 := Tryd.isAgg146
  z119 := Tryd.sizeOf146
  t124 := Tryd.underlying123
  a124 := Tryd.isAgg123
  z124 := Tryd.sizeOf123
  v124 := Tryd.zeroValue123
  t138 := Tryd.underlying148
  a138 := Tryd.isAgg148
  z138 := Tryd.sizeOf148
  v138 := Tryd.zeroValue148
  t139 := Tryd.underlying149
  a139 := Tryd.isAgg149
  z139 := Tryd.sizeOf149
  v139 := Tryd.zeroValue149
  g3 := by kernel_rfl
  g4 := by kernel_rfl }
open Go.RowKit in
/-- strings.Trim at an ASCII cutset. -/
theorem Tryd.strings_Trim (s cutset : ByteArray) (w : World) (hs : s.size ≤ 9223372036854775807) (hcs : cutset.size < 4294967281) (hascii : ∀ (j : Nat) (b : UInt8), cutset.data.toList[j]? = some b → b.toNat < 128) :
    Calls Tryd.prog 82 #[.string s, .string cutset] w fun e w' => e = .returned (.string ⟨(Lib.trimS s.data.toList cutset.data.toList).toArray⟩) ∧ Below w.heap.size w w' := Any.strings_Trim_laid Tryd.lays160 (by kernel_rfl) s cutset w hs hcs hascii
def Tryd.laysM173_ren : Go.Shelf.Ren := ⟨fun | 173 => 76 | 246 => 88 | 283 => 102 | 284 => 103 | 285 => 104 | 286 => 105 | 129 => 114 | 317 => 113 | 318 => 115 | 319 => 116 | 320 => 117 | 337 => 123 | 338 => 124 | n => n, fun | 2 => 2 | 3 => 3 | 9 => 9 | 4 => 4 | 171 => 126 | 0 => 0 | 53 => 103 | 37 => 84 | 5 => 5 | 173 => 129 | 212 => 138 | 51 => 139 | 20 => 20 | 213 => 140 | 46 => 113 | 232 => 153 | 233 => 154 | n => n, fun | 17 => 2 | 18 => 5 | 19 => 6 | n => n⟩
theorem Tryd.laysM173 : Go.Proofs.LaysM.n173 Tryd.prog Tryd.laysM173_ren := {
  mixed := by kernel_rfl
  f129 := Tryd.func114.trans (congrArg some (by kernel_rfl))
  f173 := Tryd.func76.trans (congrArg some (by kernel_rfl))
  f246 := Tryd.func88.trans (congrArg some (by kernel_rfl))
  f283 := Tryd.func102.trans (congrArg some (by kernel_rfl))
  f284 := Tryd.func103.trans (congrArg some (by kernel_rfl))
  f285 := Tryd.func104.trans (congrArg some (by kernel_rfl))
  f286 := Tryd.func105.trans (congrArg some (by kernel_rfl))
  f317 := Tryd.func113.trans (congrArg some (by kernel_rfl))
  f318 := Tryd.func115.trans (congrArg some (by kernel_rfl))
  f319 := Tryd.func116.trans (congrArg some (by kernel_rfl))
  f320 := Tryd.func117.trans (congrArg some (by kernel_rfl))
  f337 := Tryd.func123.trans (congrArg some (by kernel_rfl))
  f338 := Tryd.func124.trans (congrArg some (by kernel_rfl))
  t0 := Tryd.underlying0
  a0 := Tryd.isAgg0
  z0 := Tryd.sizeOf0
  v0 := Tryd.zeroValue0
  t2 := Tryd.underlying2
  a2 := Tryd.isAgg2
  z2 := Tryd.sizeOf2
  v2 := Tryd.zeroValue2
  t3 := Tryd.underlying3
  a3 := Tryd.isAgg3
  z3 := Tryd.sizeOf3
  v3 := Tryd.zeroValue3
  t4 := Tryd.underlying4
  a4 := Tryd.isAgg4
  z4 := Tryd.sizeOf4
  v4 := Tryd.zeroValue4
  t5 := Tryd.underlying5
  a5 := Tryd.isAgg5
  z5 := Tryd.sizeOf5
  v5 := Tryd.zeroValue5
  t9 := Tryd.underlying9
  a9 := Tryd.isAgg9
  z9 := Tryd.sizeOf9
  v9 := Tryd.zeroValue9
  t20 := Tryd.underlying20
  a20 := Tryd.isAgg20
  z20 := Tryd.sizeOf20
  v20 := Tryd.zeroValue20
  t37 := Tryd.underlying84
  a37 := Tryd.isAgg84
  z37 := Tryd.sizeOf84
  v37 := Tryd.zeroValue84
  t46 := Tryd.underlying113
  a46 := Tryd.isAgg113
  z46 := Tryd.sizeOf113
  v46 := Tryd.zeroValue113
  t51 := Tryd.underlying139
  a51 := Tryd.isAgg139
  z51 := Tryd.sizeOf139
  v51 := Tryd.zeroValue139
  t53 := Tryd.underlying103
  a53 := Tryd.isAgg103
  z53 := Tryd.sizeOf103
  v53 := Tryd.zeroValue103
  t171 := Tryd.underlying126
  a171 := Tryd.isAgg126
  z171 := Tryd.sizeOf126
  v171 := Tryd.zeroValue126
  t173 := Tryd.underlying129
  a173 := Tryd.isAgg129
  z173 := Tryd.sizeOf129
  v173 := Tryd.zeroValue129
  t212 := Tryd.underlying138
  a212 := Tryd.isAgg138
  z212 := Tryd.sizeOf138
  v212 := Tryd.zeroValue138
  t213 := Tryd.underlying140
  a213 := Tryd.isAgg140
  z213 := Tryd.sizeOf140
  t232 := Tryd.underlying153
  a232 := Tryd.isAgg153
  z232 := Tryd.sizeOf153
  v232 := Tryd.zeroValue153
  t233 := Tryd.underlying154
  a233 := Tryd.isAgg154
  z233 := Tryd.sizeOf154
  v233 := Tryd.zeroValue154
  g17 := by kernel_rfl
  g18 := by kernel_rfl
  g19 := by kernel_rfl
  i0 := by kernel_rfl
  i2 := by kernel_rfl
  i3 := by kernel_rfl
  i4 := by kernel_rfl
  i5 := by kernel_rfl
  i9 := by kernel_rfl
  i20 := by kernel_rfl
  i37 := by kernel_rfl
  i46 := by kernel_rfl
  i51 := by kernel_rfl
  i53 := by kernel_rfl
  i171 := by kernel_rfl
  i173 := by kernel_rfl
  i212 := by kernel_rfl
  i232 := by kernel_rfl
  i233 := by kernel_rfl
  m17 := by kernel_rfl
  m18 := by kernel_rfl
  m19 := by kernel_rfl }
open Go.RowKit Go.Sort Go.Lib in
/-- strconv.FormatInt at base 10, for every int64. -/
theorem Tryd.strconv_FormatInt_10 (n : Int) (h0 : -9223372036854775808 ≤ n) (h1 : n ≤ 9223372036854775807) (w : World) (htab : Lib.TabIs Tryd.prog w "internal/strconv.uint64pow10" .u64 Lib.pow10Tab) :
    Calls Tryd.prog 76 #[.int .i64 n, .int .i64 10] w fun e w' => e = .returned (.string ⟨(Lib.itoa n).toArray⟩) ∧ ∃ k os, w' = grow (w.drewN k) os := Any.strconv_FormatInt_10 Tryd.laysM173 n h0 h1 w htab
end Go.Proofs
/-
  Read of package num: what a text is worth, for every text: walks.
-/
namespace Go.Proofs.YtlgbnfcnimjheaaDoor
open Go.RowKit Fl

theorem F_10 : F 10 = 4621819117588971520 := by decide

/-- what 'digits' gives -/
def DigW (l : List UInt8) (x : Nat) : Prop := if l = [] ∨ l.all isDig = false then Is .nan x else Acc (valD l) x
def RetDig (l : List UInt8) (w : World) (e : Ending) (w' : World) : Prop := ∃ x, DigW l x ∧ e = .returned (.float .f64 x) ∧ w = w'

theorem all_take_snoc (s : ByteArray) (k : Nat) (h : k < s.size) : (s.data.toList.take (k + 1)).all isDig = ((s.data.toList.take k).all isDig && isDig s[k]) := by
  rw [take_snoc s k h, List.all_append]; simp

theorem not_all (s : ByteArray) (k : Nat) (h : k < s.size) (hd : isDig s[k] = false) : s.data.toList.all isDig = false := by
  rw [List.all_eq_false]
  exact ⟨s[k], by simp [ByteArray.getElem_eq_getElem_data], by simp [hd]⟩

theorem acc_zero : Acc (valD []) 0 := Or.inl ⟨by decide, by decide⟩

theorem toList_data (s : ByteArray) : s.toList = s.data.toList := Go.ByteArray.toList_eq s

theorem isDig_iff (c : UInt8) : isDig c = true ↔ 48 ≤ c.toNat ∧ c.toNat ≤ 57 := by unfold isDig; simp
theorem isDig_no (c : UInt8) (h : c.toNat < 48 ∨ 57 < c.toNat) : isDig c = false := by
  unfold isDig; rcases h with h | h
  · rw [decide_eq_false (by omega)]; rfl
  · rw [decide_eq_false (p := c.toNat ≤ 57) (by omega), Bool.and_false]

set_option maxHeartbeats 400000 in
theorem digits_any (s : ByteArray) (w : World) (hs : s.size ≤ maxLen) : Calls Tryd.prog 83 #[.string s] w (RetDig s.data.toList w) := by
  unfold maxLen at hs
  by_cases h0 : s.data.toList = []
  · have hz : s.toList = [] := (toList_data s).trans h0
    have hd : DigW s.data.toList 9221120237041090561 := by unfold DigW; rw [if_pos (Or.inl h0)]; exact is_uvnan
    have HD := Lib.hid hd
    clear hd h0
    go_enter Tryd.func83, Tryd.ntmps83
    go_wp2_with (go_at_call 99; refine (NaN_any _).mono ?_; rintro e w' ⟨rfl, rfl⟩)
    go_ret
    exact ⟨_, HD.out, rfl, rfl⟩
  · have hz : s.toList.isEmpty = false := by rw [toList_data]; simpa using h0
    have H0 := Lib.hid h0
    clear h0
    go_enter Tryd.func83, Tryd.ntmps83
    go_wp2_with (fail)
    clear hz
    go_loop [3, 4] (fun x i => ∃ (k v : Nat), k ≤ s.size ∧ i = .int .i64 k ∧ x = .float .f64 v ∧ Acc (valD (s.data.toList.take k)) v ∧ (s.data.toList.take k).all isDig = true) (fun _ i => s.size - (intOf i).toNat)
    case atStart => exact ⟨0, 0, Nat.zero_le _, rfl, rfl, by rw [List.take_zero]; exact acc_zero, by rw [List.take_zero]; rfl⟩
    case round =>
      obtain ⟨k, v, hk, rfl, rfl, hacc, hall⟩ := hrel
      by_cases hlt : k < s.size
      · obtain ⟨c, hc⟩ : ∃ c, c = s[k] := ⟨_, rfl⟩
        have hsn := Lib.hid (take_snoc s k hlt)
        have hc255 : c.toNat < 256 := c.toNat_lt
        by_cases h1 : c.toNat < 48
        · have hna := Lib.hid (not_all s k hlt (isDig_no _ (Or.inl (by rw [← hc]; exact h1))))
          have h1' : ((s[k].toNat : Nat) : Int) < 48 := by rw [← hc]; omega
          clear hacc hall hsn h1 hc
          go_wp2_with (go_at_call 99; refine (NaN_any _).mono ?_; rintro e w' ⟨rfl, rfl⟩)
          go_ret
          exact ⟨_, by unfold DigW; rw [if_pos (Or.inr hna.out)]; exact is_uvnan, rfl, rfl⟩
        · by_cases h2 : 57 < c.toNat
          · have hna := Lib.hid (not_all s k hlt (isDig_no _ (Or.inr (by rw [← hc]; exact h2))))
            have h1' : ¬ ((s[k].toNat : Nat) : Int) < 48 := by rw [← hc]; omega
            have h2' : 57 < ((s[k].toNat : Nat) : Int) := by rw [← hc]; omega
            clear hacc hall hsn h1 h2 hc
            go_wp2_with (go_at_call 99; refine (NaN_any _).mono ?_; rintro e w' ⟨rfl, rfl⟩)
            go_ret
            exact ⟨_, by unfold DigW; rw [if_pos (Or.inr hna.out)]; exact is_uvnan, rfl, rfl⟩
          · obtain ⟨v1, v2, hm, ha, hacc2⟩ := acc_step hacc (show c.toNat - 48 ≤ 9 by omega)
            have hall2 : (s.data.toList.take (k + 1)).all isDig = true := by
              rw [all_take_snoc s k hlt, hall, Bool.true_and]
              exact (isDig_iff _).2 (by rw [← hc]; omega)
            have hval : valD (s.data.toList.take (k + 1)) = valD (s.data.toList.take k) * 10 + (c.toNat - 48) := by rw [hsn.out, valD_snoc, ← hc]
            have HV := Lib.hid hval
            have HA2 := Lib.hid hall2
            have HAC := Lib.hid hacc2
            rw [F_10] at hm
            have e1 : ((c.toNat - 48 : Nat) : Int) = ((s[k].toNat : Nat) : Int) - 48 := by rw [← hc]; omega
            rw [e1] at ha
            have hm' := fun w => run_float_arith (P := Tryd.prog) w .mul 28 .f64 _ _ _ hm
            have ha' := fun w => run_float_arith (P := Tryd.prog) w .add 28 .f64 _ _ _ ha
            have h1' : ¬ ((s[k].toNat : Nat) : Int) < 48 := by rw [← hc]; omega
            have h2' : ¬ 57 < ((s[k].toNat : Nat) : Int) := by rw [← hc]; omega
            clear hacc hall hsn h1 h2 hm ha e1 hval hall2 hacc2 hc
            go_wp2
            go_round
            case rel => exact ⟨k + 1, v2, by omega, by go_num, rfl, by rw [HV.out]; exact HAC.out, HA2.out⟩
            case measure => simp [intOf]; omega
      · have he : s.data.toList.take k = s.data.toList := List.take_of_length_le (by simp; omega)
        rw [he] at hacc hall
        have HD : Hid (DigW s.data.toList v) := Lib.hid (by unfold DigW; rw [if_neg (by intro h; rcases h with h | h; exact H0.out h; rw [hall] at h; cases h)]; exact hacc)
        clear hacc hall he
        go_wp2
        go_ret
        exact ⟨v, HD.out, rfl, rfl⟩

theorem extract_tail (t : ByteArray) (c : UInt8) (r : List UInt8) (h : t.data.toList = c :: r) : (t.extract 1 t.size).data.toList = r := by
  have hsz : t.size = r.length + 1 := by
    have : t.size = t.data.toList.length := by simp
    rw [this, h]; rfl
  rw [ByteArray.data_extract, Array.toList_extract, h]
  simp [hsz]

theorem digW_cls {l : List UInt8} {x : Nat} (h : DigW l x) (neg : Bool) : ∃ c, Is c (if neg then Op.negFloat .f64 x else x) ∧ tellC c = digR neg l := by
  unfold DigW at h
  by_cases hl : l = [] ∨ l.all isDig = false
  · rw [if_pos hl] at h
    refine ⟨.nan, ?_, by unfold digR; rw [if_pos hl]; rfl⟩
    cases neg
    · exact h
    · exact neg_nan h.1 h.2
  · rw [if_neg hl] at h
    exact acc_cls neg hl h

def RetRead (r : Res) (w : World) (e : Ending) (w' : World) : Prop := ∃ v k, EncR r v k ∧ e = .returned (.tuple #[.float .f64 v, .int .i64 k]) ∧ Below w.heap.size w w'

theorem Trim_blanks (s : ByteArray) (w : World) (hs : s.size ≤ maxLen) :
    Calls Tryd.prog 82 #[.string s, .string ⟨#[9, 10, 13, 32]⟩] w fun e w' => ∃ t : ByteArray, t.data.toList = Lib.trimS s.data.toList blanksL ∧ e = .returned (.string t) ∧ Below w.heap.size w w' := by
  have h := Any.strings_Trim_laid Tryd.lays160 (by kernel_rfl) s ⟨#[9, 10, 13, 32]⟩ w (by unfold maxLen at hs; omega) (by decide) (ascii_of_all (by decide))
  change Calls Tryd.prog 82 _ _ _ at h
  exact h.mono fun e w' ⟨he, hb⟩ => ⟨_, rfl, he, hb⟩

theorem trim_length (l cs : List UInt8) : (Lib.trimS l cs).length ≤ l.length := by
  unfold Lib.trimS Lib.trimLeftS Lib.trimRightS
  refine Nat.le_trans (List.dropWhile_suffix _).length_le ?_
  rw [List.length_reverse]
  refine Nat.le_trans (List.dropWhile_suffix _).length_le ?_
  rw [List.length_reverse]; exact Nat.le_refl _

def TrimTo (s : ByteArray) (w : World) (e : Ending) (w' : World) : Prop := ∃ t : ByteArray, t.data.toList = Lib.trimS s.data.toList blanksL ∧ e = .returned (.string t) ∧ Below w.heap.size w w'

theorem bareR_cons (c : UInt8) (r : List UInt8) : bareR (c :: r) = if c = 45 then digR true r else if c = 43 then digR false r else digR false (c :: r) := rfl

theorem size_len (t : ByteArray) : t.size = t.data.toList.length := by simp

set_option maxHeartbeats 400000 in
theorem Read_any (s : ByteArray) (w : World) (hs : s.size ≤ maxLen) : Calls Tryd.prog 56 #[.string s] w (RetRead (readR s.data.toList) w) := by
  have ht : Calls Tryd.prog 82 #[.string s, .string ⟨#[9, 10, 13, 32]⟩] w (TrimTo s w) := Trim_blanks s w hs
  unfold readR
  have hlen := trim_length s.data.toList blanksL
  rw [← size_len] at hlen
  cases hb : Lib.trimS s.data.toList blanksL with
  | nil =>
    have HB := Lib.hid hb
    clear hb
    go_enter Tryd.func56, Tryd.ntmps56
    go_wp2_with (go_at_call 82; refine ht.mono ?_; rintro e w' ⟨t, h1, rfl, h2⟩; have hz : t.toList = [] := ((toList_data t).trans h1).trans HB.out; clear h1; have H2 := Lib.hid h2; clear h2)
    go_ret2
    exact ⟨_, _, ⟨⟨F_zero.symm, by unfold SafeN; omega⟩, rfl⟩, rfl, H2.out⟩
  | cons c r =>
    have hr0 : (c :: r).length ≤ s.size := by rw [← hb]; exact hlen
    have HB := Lib.hid hb
    clear hb hlen
    have key : ∀ t : ByteArray, t.data.toList = c :: r → 0 < t.size ∧ t.size ≤ maxLen ∧ t.toList.isEmpty = false ∧ (∀ h : 0 < t.size, t[0] = c) ∧ (t.extract 1 t.size).data.toList = r ∧ (t.extract 1 t.size).size ≤ maxLen := by
      intro t ht
      have h1 : t.size = r.length + 1 := by rw [size_len, ht]; rfl
      have h2 : (t.extract 1 t.size).data.toList = r := extract_tail t c r ht
      have h3 : (t.extract 1 t.size).size = r.length := by rw [size_len, h2]
      rw [List.length_cons] at hr0
      refine ⟨by omega, by omega, by rw [toList_data, ht]; rfl, fun h => ?_, h2, by omega⟩
      have : t[0] = t.data.toList[0]'(by rw [← size_len]; exact h) := by simp [ByteArray.getElem_eq_getElem_data]
      rw [this]; simp [ht]
    have KEY := Lib.hid key
    clear key
    rw [bareR_cons]
    by_cases c1 : c = 45
    · rw [if_pos c1]
      go_enter Tryd.func56, Tryd.ntmps56
      go_wp2_with (first
        | (go_at_call 82; refine ht.mono ?_; rintro e w' ⟨t, h1, rfl, h2⟩; obtain ⟨k1, k2, k3, k4, k5, k6⟩ := KEY.out t (h1.trans HB.out)
           have k7 : (t[0].toNat : Int) = 45 := by rw [k4 k1, c1]; rfl
           have k8 := fun w => digits_any (t.extract 1 t.size) w k6; rw [k5] at k8
           clear k4 k5 k6 h1; have H2 := Lib.hid h2; clear h2)
        | (go_at_call 83; refine (k8 _).mono ?_; rintro e w' ⟨x, hx, rfl, rfl⟩; obtain ⟨cx, hcx0, htl⟩ := digW_cls hx true; have hcx : Is cx (Op.negFloat .f64 x) := hcx0; have HT := Lib.hid htl; clear htl hx hcx0)
        | (go_at_call 84; refine (tell_cls hcx _).mono ?_; rintro e w' ⟨v, j, hj, rfl, rfl⟩))
      go_ret2
      exact ⟨v, j, by rw [← HT.out]; exact hj, rfl, H2.out⟩
    · rw [if_neg c1]
      have n1 : c.toNat ≠ 45 := fun h => c1 (UInt8.toNat_inj.1 h)
      by_cases c2 : c = 43
      · rw [if_pos c2]
        go_enter Tryd.func56, Tryd.ntmps56
        go_wp2_with (first
          | (go_at_call 82; refine ht.mono ?_; rintro e w' ⟨t, h1, rfl, h2⟩; obtain ⟨k1, k2, k3, k4, k5, k6⟩ := KEY.out t (h1.trans HB.out)
             have k7 : (t[0].toNat : Int) = 43 := by rw [k4 k1, c2]; rfl
             have k8 := fun w => digits_any (t.extract 1 t.size) w k6; rw [k5] at k8
             clear k4 k5 k6 h1; have H2 := Lib.hid h2; clear h2)
          | (go_at_call 83; refine (k8 _).mono ?_; rintro e w' ⟨x, hx, rfl, rfl⟩; obtain ⟨cx, hcx0, htl⟩ := digW_cls hx false; have hcx : Is cx x := hcx0; have HT := Lib.hid htl; clear htl hx hcx0)
          | (go_at_call 84; refine (tell_cls hcx _).mono ?_; rintro e w' ⟨v, j, hj, rfl, rfl⟩))
        go_ret2
        exact ⟨v, j, by rw [← HT.out]; exact hj, rfl, H2.out⟩
      · rw [if_neg c2]
        have n2 : c.toNat ≠ 43 := fun h => c2 (UInt8.toNat_inj.1 h)
        go_enter Tryd.func56, Tryd.ntmps56
        go_wp2_with (first
          | (go_at_call 82; refine ht.mono ?_; rintro e w' ⟨t, h1, rfl, h2⟩; obtain ⟨k1, k2, k3, k4, k5, k6⟩ := KEY.out t (h1.trans HB.out)
             have k7 : ((t[0].toNat : Int) == 45) = false := by rw [k4 k1]; simp; omega
             have k9 : ((t[0].toNat : Int) == 43) = false := by rw [k4 k1]; simp; omega
             have k8 := fun w => digits_any t w k2; rw [h1.trans HB.out] at k8
             clear k4 k5 k6 h1; have H2 := Lib.hid h2; clear h2)
          | (go_at_call 83; refine (k8 _).mono ?_; rintro e w' ⟨x, hx, rfl, rfl⟩; obtain ⟨cx, hcx0, htl⟩ := digW_cls hx false; have hcx : Is cx x := hcx0; have HT := Lib.hid htl; clear htl hx hcx0)
          | (go_at_call 84; refine (tell_cls hcx _).mono ?_; rintro e w' ⟨v, j, hj, rfl, rfl⟩))
        go_ret2
        exact ⟨v, j, by rw [← HT.out]; exact hj, rfl, H2.out⟩
end Go.Proofs.YtlgbnfcnimjheaaDoor
/-
  NumBack: what package num reckoned is reckoned back, for every two floats: walks.
-/

namespace Go.Proofs.YtlgbnfcnimjheaaDoor
open Go.RowKit Fl

def RetOk (n : Int) (w : World) (e : Ending) (w' : World) : Prop := ∃ m, e = .returned (.tuple #[.float .f64 (F n), .int .i64 0]) ∧ w' = w.drewN m
def RetBad (w : World) (e : Ending) (w' : World) : Prop := ∃ v k m, k ≠ 0 ∧ e = .returned (.tuple #[.float .f64 v, .int .i64 k]) ∧ w' = w.drewN m
theorem retR_ok {n : Int} {w : World} {e : Ending} {w' : World} (h : RetR (.ok n) w e w') : RetOk n w e w' := by
  obtain ⟨v, k, m, ⟨⟨rfl, _⟩, rfl⟩, h2, h3⟩ := h
  exact ⟨m, h2, h3⟩

theorem aliveE : EncR (sumR 2 3) (F 5) 0 := ⟨⟨rfl, by unfold SafeN; omega⟩, rfl⟩
def sizeV (b : Int) : Int := (b.natAbs : Int)
theorem is_ours {n : Int} (h : SafeN n) : Is (.ours n) (F n) := ⟨rfl, h⟩
def Drawn (w w' : World) : Prop := ∃ n, w' = w.drewN n

def selfO (c : Cl) : Option Ordering := match c with
  | .nan => none
  | _ => some .eq
theorem self_cls {c : Cl} {x : Nat} (h : Is c x) : FloatKind.f64.format.order x x = selfO c := by
  cases c with
  | nan => exact order_nan_l x h.2
  | other => exact order_self (other_not_nan h)
  | ours n => obtain ⟨rfl, hs⟩ := h; exact order_self (not_nan_F n hs.abs)

/-- what comes of a reckoning that tells n -/
def OkAt (x : Nat) (w : World) (e : Ending) (w' : World) : Prop := ∃ m, e = .returned (.tuple #[.float .f64 x, .int .i64 0]) ∧ w' = w.drewN m
theorem okAt {n : Int} {x : Nat} (hx : F n = x) {w : World} {e : Ending} {w' : World} (h : RetR (.ok n) w e w') : OkAt x w e w' := by
  obtain ⟨v, k, m, ⟨⟨rfl, _⟩, rfl⟩, h2, h3⟩ := h
  exact ⟨m, by rw [← hx]; exact h2, h3⟩

theorem tellN_cases (n : Int) : (tellN n = .ok n ∧ SafeN n) ∨ tellN n = .err 10 := by
  unfold tellN
  by_cases c : -9007199254740991 ≤ n ∧ n ≤ 9007199254740991
  · exact Or.inl ⟨if_pos c, c⟩
  · exact Or.inr (if_neg c)

theorem tellN_ok {n : Int} (h : SafeN n) : tellN n = .ok n := if_pos h

theorem mul_back {a b : Int} (ha : SafeN a) (b0 : b ≠ 0) (hab : a ≠ 0 ∨ 0 < b) : (∃ p, mulR a b = .ok p ∧ SafeN p ∧ divR p b = .ok a) ∨ mulR a b = .err 10 := by
  unfold mulR
  by_cases c : a = 0 ∨ b = 0
  · rw [if_pos c]
    have a0 : a = 0 := c.resolve_right b0
    subst a0
    have hb : ¬ ((0 : Int) < 0 ∨ b < 0) := by omega
    rw [if_neg hb]
    refine Or.inl ⟨0, rfl, by unfold SafeN; omega, ?_⟩
    unfold divR
    rw [if_neg b0, if_pos rfl, if_neg (by omega)]
  · rw [if_neg c]
    rcases tellN_cases (a * b) with ⟨h1, h2⟩ | h
    · refine Or.inl ⟨_, h1, h2, ?_⟩
      have a0 : a ≠ 0 := fun e => c (Or.inl e)
      have p0 : a * b ≠ 0 := Int.mul_ne_zero a0 b0
      unfold divR
      rw [if_neg b0, if_neg p0, if_neg (by rw [Int.mul_tmod_left]; simp), Int.mul_tdiv_cancel _ b0]
    · exact Or.inr h

theorem div_back {a b : Int} (ha : SafeN a) (b0 : b ≠ 0) : (∃ q, divR a b = .ok q ∧ SafeN q ∧ mulR q b = .ok a) ∨ divR a b = .err 10 := by
  unfold divR
  rw [if_neg b0]
  by_cases a0 : a = 0
  · subst a0
    rw [if_pos rfl]
    by_cases c : b < 0
    · rw [if_pos c]; exact Or.inr rfl
    · rw [if_neg c]
      refine Or.inl ⟨0, rfl, by unfold SafeN; omega, ?_⟩
      unfold mulR
      rw [if_pos (Or.inl rfl), if_neg (by omega)]
  · rw [if_neg a0]
    by_cases m : a.tmod b = 0
    · rw [if_neg (by simp [m])]
      have hq : a.tdiv b * b = a := by
        have := Int.tmod_add_mul_tdiv a b
        rw [m, Int.zero_add, Int.mul_comm] at this; exact this
      have q0 : a.tdiv b ≠ 0 := by intro e; rw [e, Int.zero_mul] at hq; exact a0 hq.symm
      have h1 : (a.tdiv b).natAbs ≤ a.natAbs := by rw [Int.natAbs_tdiv]; exact Nat.div_le_self _ _
      refine Or.inl ⟨_, rfl, by unfold SafeN at *; omega, ?_⟩
      unfold mulR
      rw [if_neg (by intro e; rcases e with e | e; exact q0 e; exact b0 e), hq]
      exact tellN_ok ha
    · rw [if_pos m]; exact Or.inr rfl

theorem rem_back {a b : Int} (ha : SafeN a) (hb : SafeN b) (b0 : b ≠ 0) :
    (∃ r t, remR a b = .ok r ∧ SafeN r ∧ t = a - r ∧ subR a r = .ok t ∧ SafeN t ∧ (t = 0 → r = a) ∧ (t ≠ 0 → ∃ q, SafeN q ∧ divR t b = .ok q) ∧ (r = 0 ∨ (0 < r ∧ 0 < a) ∨ (r < 0 ∧ a < 0)) ∧ -(b.natAbs : Int) < r ∧ r < (b.natAbs : Int)) ∨ remR a b = .err 10 := by
  unfold remR
  rw [if_neg b0]
  by_cases c : a < 0 ∧ a.tmod b = 0
  · rw [if_pos c]; exact Or.inr rfl
  · rw [if_neg c]
    left
    have h1 : (a.tmod b).natAbs = a.natAbs % b.natAbs := Int.natAbs_tmod a b
    have h2 : a.natAbs % b.natAbs < b.natAbs := Nat.mod_lt _ (by omega)
    have h3 : a.natAbs % b.natAbs ≤ a.natAbs := Nat.mod_le _ _
    have h4 := Int.tmod_add_mul_tdiv a b
    have hsgn : (0 ≤ a ∧ 0 ≤ a.tmod b) ∨ (a < 0 ∧ a.tmod b ≤ 0) := by
      by_cases s : a < 0
      · right; refine ⟨s, ?_⟩
        rw [tmod_neg a b s]; omega
      · left; exact ⟨by omega, Int.tmod_nonneg b (by omega)⟩
    have hst : SafeN (a - a.tmod b) := by unfold SafeN at *; omega
    refine ⟨_, _, rfl, by unfold SafeN at *; omega, rfl, tellN_ok hst, hst, fun e => by omega, fun e => ?_, by omega, by omega, by omega⟩
    have e2 : a - a.tmod b = a.tdiv b * b := by rw [Int.mul_comm]; omega
    unfold divR
    rw [if_neg b0, if_neg e, e2, if_neg (by rw [Int.mul_tmod_left]; simp), Int.mul_tdiv_cancel _ b0]
    have h5 : (a.tdiv b).natAbs ≤ a.natAbs := by rw [Int.natAbs_tdiv]; exact Nat.div_le_self _ _
    exact ⟨_, by unfold SafeN at *; omega, rfl⟩

theorem order_zero {n : Int} (h : SafeN n) : FloatKind.f64.format.order (F n) 0 = some (compare n 0) := by
  have := order_F n 0 h.abs (by decide)
  rw [F_zero] at this
  exact this
end Go.Proofs.YtlgbnfcnimjheaaDoor
/-
  Text of package num beside the document's own, for every float: walks.
-/
namespace Go.Proofs.YtlgbnfcnimjheaaDoor
open Go.RowKit Fl

def textL (c : Cl) : List UInt8 := match c with
  | .nan => [78, 97, 78]
  | .other => []
  | .ours n => Lib.itoa n
def TextTo (l : List UInt8) (w : World) (e : Ending) (w' : World) : Prop := ∃ t : ByteArray, t.data.toList = l ∧ e = .returned (.string t) ∧ Below w.heap.size w w'

theorem grow_below (w : World) (k : Nat) (os : Array Obj) : Below w.heap.size w (Sort.grow (w.drewN k) os) := by
  refine ⟨rfl, rfl, rfl, ?_, fun i hi => ?_⟩
  · show w.heap.size ≤ (w.heap ++ os).size
    simp
  · show (w.heap ++ os)[i]? = w.heap[i]?
    rw [Array.getElem?_append_left hi]

theorem encode_one (k : Nat) (hk : k < 10) : Utf8.encode (48 + (k : Int)) = ⟨#[UInt8.ofNat (48 + k)]⟩ := by
  have : k = 0 ∨ k = 1 ∨ k = 2 ∨ k = 3 ∨ k = 4 ∨ k = 5 ∨ k = 6 ∨ k = 7 ∨ k = 8 ∨ k = 9 := by omega
  rcases this with rfl | rfl | rfl | rfl | rfl | rfl | rfl | rfl | rfl | rfl <;> decide

theorem size_one (b : UInt8) : (⟨#[b]⟩ : ByteArray).size = 1 := rfl
theorem decDigits_big (k : Nat) (h : 10 ≤ k) : Lib.decDigits k = Lib.decDigits (k / 10) ++ [UInt8.ofNat (48 + k % 10)] := by
  rw [Lib.decDigits]; rw [dif_neg (by omega)]
theorem decDigits_one (k : Nat) (h : k < 10) : Lib.decDigits k = [UInt8.ofNat (48 + k)] := by
  rw [Lib.decDigits]; rw [dif_pos h]

set_option maxHeartbeats 400000 in
theorem Tens_nat (n : Nat) (w : World) (hn : n ≤ 9007199254740991) :
    Calls Tryd.prog 70 #[.int .i64 (n : Int)] w (TextTo (Lib.decDigits n) w) := by
  go_enter Tryd.func70, Tryd.ntmps70
  go_wp2_with (fail)
  go_loop [0, 3] (fun n' o => ∃ (k : Nat) (t : ByteArray), k ≤ n ∧ t.size + k ≤ n ∧ n' = .int .i64 (k : Int) ∧ o = .string t ∧ Lib.decDigits n = Lib.decDigits k ++ t.data.toList) (fun n' _ => (intOf n').toNat)
  case atStart => exact ⟨n, ByteArray.empty, Nat.le_refl _, Nat.le_of_eq (Nat.zero_add n), rfl, rfl, by simp⟩
  case round =>
    obtain ⟨k, t, hk, hks, rfl, rfl, hd⟩ := hrel
    have HD := Lib.hid hd
    have HK := Lib.hid hks
    clear hd hks
    by_cases c : 10 ≤ k
    · go_wp2
      · exfalso
        have hbig : 9223372036854775807 < (Utf8.encode (48 + (k : Int) % 10)).size + t.size := by assumption
        have he' : Utf8.encode (48 + (k : Int) % 10) = ⟨#[UInt8.ofNat (48 + k % 10)]⟩ := encode_one (k % 10) (by omega)
        have hks := HK.out
        rw [he', size_one] at hbig; omega
      · go_round
        case rel =>
          have he' : Utf8.encode (48 + (k : Int) % 10) = ⟨#[UInt8.ofNat (48 + k % 10)]⟩ := encode_one (k % 10) (by omega)
          have hb := decDigits_big k c
          have hks := HK.out
          exact ⟨k / 10, Utf8.encode (48 + (k : Int) % 10) ++ t, by omega, by rw [ByteArray.size_append, he', size_one]; omega, by go_num, rfl, by rw [HD.out, hb, ByteArray.data_append, Array.toList_append, he', List.append_assoc]⟩
        case measure => simp [intOf]; omega
    · go_wp2
      · exfalso
        have hbig : 9223372036854775807 < (Utf8.encode (48 + (k : Int))).size + t.size := by assumption
        have he' : Utf8.encode (48 + (k : Int)) = ⟨#[UInt8.ofNat (48 + k)]⟩ := encode_one k (by omega)
        have hks := HK.out
        rw [he', size_one] at hbig; omega
      · go_ret
        have he' : Utf8.encode (48 + (k : Int)) = ⟨#[UInt8.ofNat (48 + k)]⟩ := encode_one k (by omega)
        have hb := decDigits_one k (by omega)
        exact ⟨Utf8.encode (48 + (k : Int)) ++ t, by rw [HD.out, hb, ByteArray.data_append, Array.toList_append, he'], rfl, Below.refl _ _⟩

theorem decDigits_len (k : Nat) : (Lib.decDigits k).length ≤ k + 1 := by
  induction k using Nat.strongRecOn with
  | _ k ih =>
    by_cases c : k < 10
    · rw [decDigits_one k c]; simp
    · rw [decDigits_big k (by omega), List.length_append]
      have := ih (k / 10) (by omega)
      simp only [List.length_cons, List.length_nil]; omega

theorem Tens_int (n : Int) (w : World) (h : SafeN n) : Calls Tryd.prog 70 #[.int .i64 n] w (TextTo (Lib.itoa n) w) := by
  obtain ⟨h1, h2⟩ := h
  by_cases c : n < 0
  · have hT := fun w => Tens_nat n.natAbs w (by omega)
    have e : ((n.natAbs : Nat) : Int) = -n := by omega
    rw [e] at hT
    have hlen := decDigits_len n.natAbs
    have hi : Lib.itoa n = 45 :: Lib.decDigits n.natAbs := by unfold Lib.itoa; rw [if_pos c]
    rw [hi]
    have HL : Hid ((Lib.decDigits n.natAbs).length ≤ 9007199254740992) := Lib.hid (by omega)
    clear hlen hi e
    generalize Lib.decDigits n.natAbs = l at *
    go_enter Tryd.func70, Tryd.ntmps70
    go_wp2_with (go_at_call 70; refine (hT _).mono ?_; rintro e w' ⟨t, ht, rfl, hB⟩; have H1 := Lib.hid ht; have H2 := Lib.hid hB; clear ht hB)
    · exfalso
      have hbig : 9223372036854775807 < 1 + t.size := by assumption
      have h1 := H1.out
      have h2 := HL.out
      have h3 := size_len t
      rw [h1] at h3
      omega
    · go_ret
      exact ⟨⟨#[45]⟩ ++ t, by rw [ByteArray.data_append, Array.toList_append, H1.out]; rfl, rfl, H2.out⟩
  · have hT := Tens_nat n.toNat w (by omega)
    have e : ((n.toNat : Nat) : Int) = n := by omega
    rw [e] at hT
    have hi : Lib.itoa n = Lib.decDigits n.toNat := by unfold Lib.itoa; rw [if_neg c]
    rw [hi]; exact hT

theorem Text_cls {c : Cl} {x : Nat} (h : Is c x) (w : World) (htab : Lib.TabIs Tryd.prog w "internal/strconv.uint64pow10" .u64 Lib.pow10Tab) :
    Calls Tryd.prog 50 #[.float .f64 x] w (TextTo (textL c) w) := by
  have m := fun w => May_cls h w
  have ho := self_cls h
  cases c with
  | nan =>
    dsimp only [selfO] at ho
    go_enter Tryd.func50, Tryd.ntmps50
    go_wp2_with (go_at_call 75; refine (none_any _ _).mono ?_; rintro e w' ⟨rfl, rfl⟩)
    go_ret
    exact ⟨_, rfl, rfl, Below.refl _ _⟩
  | other =>
    dsimp only [selfO] at ho
    dsimp only [mayC] at m
    go_enter Tryd.func50, Tryd.ntmps50
    go_wp2_with (first | (go_at_call 75; refine (none_any _ _).mono ?_; rintro e w' ⟨rfl, rfl⟩) | (go_at_call 71; refine (m _).mono ?_; rintro e w' ⟨rfl, rfl⟩))
    go_ret
    exact ⟨_, rfl, rfl, Below.refl _ _⟩
  | ours n =>
    dsimp only [selfO] at ho
    dsimp only [mayC] at m
    obtain ⟨rfl, hs⟩ := h
    have hc := fun w => conv_run (floatToIntVal_F n hs.abs) w
    have hF := Tryd.strconv_FormatInt_10 n (by have := hs.1; omega) (by have := hs.2; omega) w htab
    have hF' : Calls Tryd.prog 76 #[.int .i64 n, .int .i64 10] w (TextTo (Lib.itoa n) w) := hF.mono fun e w' ⟨he, k, os, hw⟩ => ⟨_, rfl, he, by rw [hw]; exact grow_below w k os⟩
    clear hF htab hs
    show Calls _ _ _ _ (TextTo (Lib.itoa n) w)
    generalize F n = x at *
    go_enter Tryd.func50, Tryd.ntmps50
    go_wp2_with (first | (go_at_call 75; refine (none_any _ _).mono ?_; rintro e w' ⟨rfl, rfl⟩) | (go_at_call 71; refine (m _).mono ?_; rintro e w' ⟨rfl, rfl⟩) | (go_at_call 76; refine hF'.mono ?_; rintro e w' ⟨t, ht, rfl, hB⟩))
    go_ret
    exact ⟨t, ht, rfl, hB⟩
end Go.Proofs.YtlgbnfcnimjheaaDoor
