/-
  math.Mod at our numbers: what is left of a behind b times the whole quotient; no number where one is none or b is 0: walks.
-/
import Derived.Test.YtggcepoolcfpgaaDoorNumRef
namespace Go.Proofs.YtggcepoolcfpgaaDoor
open Go.RowKit Fl

theorem run_Float64frombits (x : Nat) (w : World) : (callFunc 57 #[.int .u64 (x : Int)]).run Tryd.prog w = .ok (.value (.float .f64 x)) w := by
  rw [run_callFunc_extern Tryd.func57 (by kernel_rfl) (by kernel_rfl) (by kernel_rfl) (e := Extern.MathFloatBits.float64frombits) (by kernel_rfl)]
  rfl

theorem F_word (n : Nat) (h0 : n ≠ 0) (h : n < 2 ^ 53) : F (n : Int) = (n.log2 + 1023) * 2 ^ 52 + (n * 2 ^ (52 - n.log2) - 2 ^ 52) ∧ 2 ^ 52 ≤ n * 2 ^ (52 - n.log2) ∧ n * 2 ^ (52 - n.log2) < 2 ^ 53 ∧ n.log2 ≤ 52 := by
  have hlg : n.log2 ≤ 52 := by
    have := (Nat.log2_lt h0 (k := 53)).2 h; omega
  have h1 := Nat.log2_self_le h0
  have h2 := @Nat.lt_log2_self n
  have m1 : 2 ^ 52 ≤ n * 2 ^ (52 - n.log2) := by
    have : 2 ^ 52 = 2 ^ n.log2 * 2 ^ (52 - n.log2) := by rw [← Nat.pow_add]; congr 1; omega
    rw [this]; exact Nat.mul_le_mul_right _ h1
  have m2 : n * 2 ^ (52 - n.log2) < 2 ^ 53 := by
    have : 2 ^ 53 = 2 ^ (n.log2 + 1) * 2 ^ (52 - n.log2) := by rw [← Nat.pow_add]; congr 1; omega
    rw [this]; exact Nat.mul_lt_mul_of_pos_right h2 (Nat.two_pow_pos _)
  refine ⟨?_, m1, m2, hlg⟩
  symm
  have hu : ∀ L M : Nat, L ≤ 52 → 2 ^ 52 ≤ M → M < 2 ^ 53 → (L + 1023) * 2 ^ 52 + (M - 2 ^ 52) < 2 ^ 63 := by intro L M a b c; omega
  have hlt := hu n.log2 (n * 2 ^ (52 - n.log2)) hlg m1 m2
  refine of_val (n : Int) (by omega) ?_ (by omega) ?_
  · have hr : rung ((n.log2 + 1023) * 2 ^ 52 + (n * 2 ^ (52 - n.log2) - 2 ^ 52)) = (n.log2 + 1022) * 2 ^ 52 + n * 2 ^ (52 - n.log2) := by
      unfold rung; omega
    rw [hr, ru_mk _ _ (by omega) (Or.inr m1), Nat.mul_assoc, ← Nat.pow_add, U_pow (52 - n.log2 + (n.log2 + 1022)) (by omega)]
    rfl
  · unfold sgn
    rw [decide_eq_false (by omega), beq_eq_false_iff_ne]; omega

theorem nat_of_u64 (a : Nat) (ha : a < 18446744073709551616) : (BitVec.ofInt 64 (a : Int)).toNat = a := by
  rw [BitVec.ofInt_natCast, BitVec.toNat_ofNat]; exact Nat.mod_eq_of_lt (by omega)

theorem andNot_u64 (a b : Nat) (ha : a < 18446744073709551616) (hb : b < 18446744073709551616) : bits .andNot .u64 (a : Int) (b : Int) = ((a &&& (18446744073709551615 - b) : Nat) : Int) := by
  have hx : a &&& (18446744073709551615 - b) < 2 ^ 64 := Nat.and_lt_two_pow _ (by omega)
  show IntKind.u64.wrap ((BitVec.ofInt 64 (a : Int) &&& ~~~ BitVec.ofInt 64 (b : Int)).toNat : Int) = _
  rw [BitVec.toNat_and, BitVec.toNat_not, nat_of_u64 a ha, nat_of_u64 b hb, IntKind.wrap_u64]
  have e : 2 ^ 64 - 1 - b = 18446744073709551615 - b := by omega
  rw [e]
  omega

theorem and_sign (x : Nat) : x &&& 9223372036854775807 = x % 2 ^ 63 := Nat.and_two_pow_sub_one_eq_mod x 63

theorem and_frac (x : Nat) (hx : x < 2 ^ 63) : x &&& 9227875636482146303 = x % 2 ^ 52 := by
  have e : 9227875636482146303 = 2 ^ 63 + (2 ^ 52 - 1) := by decide
  rw [e]
  apply Nat.eq_of_testBit_eq
  intro i
  rw [Nat.testBit_and, Nat.testBit_mod_two_pow]
  by_cases h : i < 63
  · rw [Nat.testBit_two_pow_add_gt h, Nat.testBit_two_pow_sub_one, Bool.and_comm]
  · have a1 : x.testBit i = false := Nat.testBit_lt_two_pow (Nat.lt_of_lt_of_le hx (Nat.pow_le_pow_right (by decide) (by omega)))
    rw [a1]; simp

/-- Abs of a word takes the sign off -/
theorem Abs_any (x : Nat) (hx : x < 2 ^ 64) (w : World) :
    Calls Tryd.prog 50 #[.float .f64 x] w fun e w' => e = .returned (.float .f64 (x % 2 ^ 63)) ∧ w = w' := by
  have hb := fun w => run_Float64bits x w
  have h1 : bits .andNot .u64 (x : Int) 9223372036854775808 = ((x % 2 ^ 63 : Nat) : Int) := by
    have := andNot_u64 x 9223372036854775808 (by omega) (by decide)
    rw [← and_sign]; exact this
  generalize hy : x % 2 ^ 63 = y at *
  clear hy hx
  have hc := fun w => run_Float64frombits y w
  go_enter Tryd.func50, Tryd.ntmps50
  go_wp2
  go_ret
  exact ⟨rfl, rfl⟩

theorem IsNaN_any (x : Nat) (w : World) :
    Calls Tryd.prog 49 #[.float .f64 x] w fun e w' => e = .returned (.bool (FloatKind.f64.format.order x x != some .eq)) ∧ w = w' := by
  go_enter Tryd.func49, Tryd.ntmps49
  go_wp2
  go_ret
  exact ⟨rfl, rfl⟩

/-- IsInf(x, 0) asks whether x without its sign is beyond the greatest number -/
theorem IsInf_any (x : Nat) (hx : x < 2 ^ 64) (w : World) :
    Calls Tryd.prog 48 #[.float .f64 x, .int .i64 0] w fun e w' => e = .returned (.bool (FloatKind.f64.format.order (x % 2 ^ 63) 9218868437227405311 == some .gt)) ∧ w = w' := by
  have ha := fun w => Abs_any x hx w
  generalize x % 2 ^ 63 = y at *
  clear hx
  go_enter Tryd.func48, Tryd.ntmps48
  go_wp2_with (go_at_call 50; refine (ha _).mono ?_; rintro e w' ⟨rfl, rfl⟩)
  go_ret
  exact ⟨rfl, rfl⟩

theorem F_pos_mod (n : Nat) (h : n < 2 ^ 53) : F (n : Int) % 2 ^ 63 = F (n : Int) := by
  have hs := sgn_F (n : Int)
  have hl := F_lt (n : Int)
  rw [decide_eq_false (by omega)] at hs
  unfold sgn at hs
  simp at hs
  omega

theorem F_abs_mod (n : Int) (h : n.natAbs < 2 ^ 53) : F n % 2 ^ 63 = F (n.natAbs : Int) := by
  by_cases c : 0 ≤ n
  · have : n = (n.natAbs : Int) := by omega
    rw [← this]
    have := F_pos_mod n.natAbs h
    rw [show ((n.natAbs : Nat) : Int) = n by omega] at this
    exact this
  · have e := neg_F n h (by omega)
    rw [neg_word _ (F_lt n)] at e
    have hs := sgn_F n
    rw [decide_eq_true (by omega)] at hs
    unfold sgn at hs
    simp at hs
    have hl := F_lt n
    rw [if_neg (by omega)] at e
    rw [show ((n.natAbs : Nat) : Int) = -n by omega, ← e]
    omega

theorem fin_max : IsFin 9218868437227405311 := by unfold IsFin rung; decide

theorem order_max (n : Nat) (h : n < 2 ^ 53) : FloatKind.f64.format.order (F (n : Int)) 9218868437227405311 = some .lt := by
  have f := F_small (n : Int) (by omega)
  have e : FloatKind.f64.format.order (F (n : Int)) 9218868437227405311 = some (compare (fval (F (n : Int))) (fval 9218868437227405311)) := order_fin f.1 fin_max
  rw [e]
  refine congrArg some (Int.compare_eq_lt.2 ?_)
  have s1 : sgn (F (n : Int)) = false := by rw [sgn_F]; simp
  have s2 : sgn 9218868437227405311 = false := by decide
  rw [fval_pos s1, fval_pos s2]
  have hr : rung (F (n : Int)) < rung 9218868437227405311 := by
    have r2 : rung 9218868437227405311 = 9218868437227405311 := by decide
    rw [r2]
    have b1 := order_F (n : Int) 9007199254740991 (by omega) (by decide)
    by_cases h0 : n = 0
    · subst h0; decide
    · obtain ⟨w1, w2, w3, w4⟩ := F_word n h0 h
      unfold rung
      rw [w1]; omega
  have := ru_lt hr
  omega

theorem not_inf (n : Int) (h : n.natAbs < 2 ^ 53) (w : World) :
    Calls Tryd.prog 48 #[.float .f64 (F n), .int .i64 0] w fun e w' => e = .returned (.bool false) ∧ w = w' := by
  have := IsInf_any (F n) (F_lt n) w
  rw [F_abs_mod n h, order_max n.natAbs h] at this
  exact this
theorem not_nan (n : Int) (h : n.natAbs < 2 ^ 53) (w : World) :
    Calls Tryd.prog 49 #[.float .f64 (F n)] w fun e w' => e = .returned (.bool false) ∧ w = w' := by
  have := IsNaN_any (F n) w
  have e : FloatKind.f64.format.order (F n) (F n) = some .eq := order_self (not_nan_F n h)
  rw [e] at this
  exact this

theorem fin_min : IsFin 4503599627370496 := by unfold IsFin rung; decide
theorem order_min (n : Nat) (h0 : n ≠ 0) (h : n < 2 ^ 53) : FloatKind.f64.format.order (F (n : Int)) 4503599627370496 = some .gt := by
  have f := F_small (n : Int) (by omega)
  have e : FloatKind.f64.format.order (F (n : Int)) 4503599627370496 = some (compare (fval (F (n : Int))) (fval 4503599627370496)) := order_fin f.1 fin_min
  rw [e]
  refine congrArg some (Int.compare_eq_gt.2 ?_)
  have s1 : sgn (F (n : Int)) = false := by rw [sgn_F]; simp
  have s2 : sgn 4503599627370496 = false := by decide
  rw [fval_pos s1, fval_pos s2]
  have hr : rung 4503599627370496 < rung (F (n : Int)) := by
    obtain ⟨w1, w2, w3, w4⟩ := F_word n h0 h
    unfold rung
    rw [w1]; omega
  have := ru_lt hr
  omega

theorem normalize_F (n : Nat) (h0 : n ≠ 0) (h : n < 2 ^ 53) (w : World) :
    Calls Tryd.prog 78 #[.float .f64 (F (n : Int))] w fun e w' => e = .returned (.tuple #[.float .f64 (F (n : Int)), .int .i64 0]) ∧ w = w' := by
  have ha := fun w => Abs_any (F (n : Int)) (F_lt _) w
  rw [F_pos_mod n h] at ha
  have ho := order_min n h0 h
  generalize F (n : Int) = x at *
  go_enter Tryd.func78, Tryd.ntmps78
  go_wp2_with (go_at_call 50; refine (ha _).mono ?_; rintro e w' ⟨rfl, rfl⟩)
  go_ret2
  exact ⟨rfl, rfl⟩

/-- the fraction that Frexp gives -/
def frW (n : Nat) : Nat := 1022 * 2 ^ 52 + (n * 2 ^ (52 - n.log2) - 2 ^ 52)

theorem or_exp (m E : Nat) (hm : m < 2 ^ 52) (hE : E < 2048) : bits .or .u64 (m : Int) ((E * 2 ^ 52 : Nat) : Int) = ((E * 2 ^ 52 + m : Nat) : Int) := by
  rw [bits_or_u64_nat m (E * 2 ^ 52) (by omega) (by omega)]
  congr 1
  rw [Nat.or_comm, Nat.mul_comm, ← Nat.two_pow_add_eq_or_of_lt hm]

theorem frexp_F (n : Nat) (h0 : n ≠ 0) (h : n < 2 ^ 53) (w : World) :
    Calls Tryd.prog 66 #[.float .f64 (F (n : Int))] w fun e w' => e = .returned (.tuple #[.float .f64 (frW n), .int .i64 ((n.log2 : Int) + 1)]) ∧ w = w' := by
  have hb := fun w => run_Float64bits (F (n : Int)) w
  have h1 : FloatKind.f64.format.order (F (n : Int)) 0 = some .gt := by
    have := order_F (n : Int) 0 (by omega) (by decide)
    rw [F_zero] at this
    exact this.trans (congrArg some (Int.compare_eq_gt.2 (by omega)))
  have hc1 := fun w => not_inf (n : Int) (by omega) w
  have hc2 := fun w => not_nan (n : Int) (by omega) w
  have hc3 := fun w => normalize_F n h0 h w
  obtain ⟨w1, w2, w3, w4⟩ := F_word n h0 h
  unfold frW
  generalize hL : n.log2 = L at *
  generalize hM : n * 2 ^ (52 - L) = M at *
  generalize hx : F (n : Int) = x at *
  clear hx hM hL
  have e1 : bits .and .u64 ((x : Int) / 4503599627370496) 2047 = ((L + 1023 : Nat) : Int) := by
    have d : ((x : Int) / 4503599627370496) = ((x / 4503599627370496 : Nat) : Int) := rfl
    have d2 : x / 4503599627370496 = L + 1023 := by omega
    rw [d, d2]
    have := bits_and_u64_nat (L + 1023) 2047 (by omega) (by decide)
    refine this.trans ?_
    have a := Nat.and_two_pow_sub_one_eq_mod (L + 1023) 11
    have a2 : (L + 1023) &&& 2047 = L + 1023 := by
      refine a.trans (Nat.mod_eq_of_lt ?_)
      omega
    exact congrArg (fun n : Nat => (n : Int)) a2
  have e2 : bits .andNot .u64 (x : Int) 9218868437227405312 = ((M - 2 ^ 52 : Nat) : Int) := by
    have := andNot_u64 x 9218868437227405312 (by omega) (by decide)
    have a := and_frac x (by omega)
    have a2 : x % 2 ^ 52 = M - 2 ^ 52 := by omega
    exact this.trans (congrArg (fun n : Nat => (n : Int)) (a.trans a2))
  have e3 : bits .or .u64 ((M - 2 ^ 52 : Nat) : Int) 4602678819172646912 = ((1022 * 2 ^ 52 + (M - 2 ^ 52) : Nat) : Int) := or_exp (M - 2 ^ 52) 1022 (by omega) (by decide)
  generalize hE : L + 1023 = E at e1
  have hE1 : (E : Int) - 1023 + 1 = (L : Int) + 1 := by omega
  have hE2 : E ≤ 2000 := by omega
  have hE3 : 1000 ≤ E := by omega
  obtain ⟨R, hR⟩ : ∃ R, 1022 * 2 ^ 52 + (M - 2 ^ 52) = R := ⟨_, rfl⟩
  obtain ⟨m, hm⟩ : ∃ m, M - 2 ^ 52 = m := ⟨_, rfl⟩
  rw [hR] at e3 ⊢
  rw [hm] at e2 e3
  clear hR hm
  have hf := fun w => run_Float64frombits R w
  have HE := Lib.hid hE1
  clear hE1 w1 w2 w3 w4 h0 h hE
  go_enter Tryd.func66, Tryd.ntmps66
  go_wp2_with (first | (go_at_call 48; refine (hc1 _).mono ?_; rintro e w' ⟨rfl, rfl⟩) | (go_at_call 49; refine (hc2 _).mono ?_; rintro e w' ⟨rfl, rfl⟩) | (go_at_call 78; refine (hc3 _).mono ?_; rintro e w' ⟨rfl, rfl⟩))
  go_ret2
  rw [HE.out]
  exact ⟨rfl, rfl⟩

theorem Frexp_F (n : Nat) (h0 : n ≠ 0) (h : n < 2 ^ 53) (w : World) :
    Calls Tryd.prog 51 #[.float .f64 (F (n : Int))] w fun e w' => e = .returned (.tuple #[.float .f64 (frW n), .int .i64 ((n.log2 : Int) + 1)]) ∧ w = w' := by
  have hc := fun w => frexp_F n h0 h w
  generalize F (n : Int) = x at *
  generalize frW n = y at *
  go_enter Tryd.func51, Tryd.ntmps51
  go_wp2_with (go_at_call 66; refine (hc _).mono ?_; rintro e w' ⟨rfl, rfl⟩)
  go_ret2
  exact ⟨rfl, rfl⟩

theorem ldexp_F (b e : Nat) (h0 : b ≠ 0) (h : b * 2 ^ e < 2 ^ 53) (w : World) :
    Calls Tryd.prog 68 #[.float .f64 (F (b : Int)), .int .i64 (e : Int)] w fun r w' => r = .returned (.float .f64 (F ((b * 2 ^ e : Nat) : Int))) ∧ w = w' := by
  have hp := Nat.two_pow_pos e
  have hb53 : b < 2 ^ 53 := Nat.lt_of_le_of_lt (Nat.le_mul_of_pos_right b hp) h
  have n0 : b * 2 ^ e ≠ 0 := by have := Nat.mul_pos (Nat.pos_of_ne_zero h0) hp; omega
  have hb := fun w => run_Float64bits (F (b : Int)) w
  have h1 : FloatKind.f64.format.order (F (b : Int)) 0 = some .gt := by
    have := order_F (b : Int) 0 (by omega) (by decide)
    rw [F_zero] at this
    exact this.trans (congrArg some (Int.compare_eq_gt.2 (by omega)))
  have hc1 := fun w => not_inf (b : Int) (by omega) w
  have hc2 := fun w => not_nan (b : Int) (by omega) w
  have hc3 := fun w => normalize_F b h0 hb53 w
  obtain ⟨w1, w2, w3, w4⟩ := F_word b h0 hb53
  obtain ⟨v1, v2, v3, v4⟩ := F_word (b * 2 ^ e) n0 h
  have hlg : (b * 2 ^ e).log2 = b.log2 + e := log2_scale b e h0
  rw [hlg] at v1 v2 v3 v4
  have hM : b * 2 ^ e * 2 ^ (52 - (b.log2 + e)) = b * 2 ^ (52 - b.log2) := by
    rw [Nat.mul_assoc, ← Nat.pow_add]; congr 2; omega
  rw [hM] at v1
  have hmul : floatBits .mul .f64 4607182418800017408 (F ((b * 2 ^ e : Nat) : Int)) = some (F ((b * 2 ^ e : Nat) : Int)) := by
    have := mul_F 1 ((b * 2 ^ e : Nat) : Int) (by decide) (by omega)
    rw [if_neg (by omega), Int.one_mul] at this
    have f1 : F 1 = 4607182418800017408 := by decide
    rw [f1] at this; exact this
  have hq := fun w => run_float_arith (P := Tryd.prog) w .mul 22 .f64 _ _ _ hmul
  have hf := fun w => run_Float64frombits (F ((b * 2 ^ e : Nat) : Int)) w
  clear hmul hM hlg hp h n0 v2 v3
  generalize b.log2 = L at *
  obtain ⟨M, hM⟩ : ∃ M, M = b * 2 ^ (52 - L) := ⟨_, rfl⟩
  rw [← hM] at w1 w2 w3 v1
  clear hM
  generalize F ((b * 2 ^ e : Nat) : Int) = z at *
  generalize F (b : Int) = x at *
  have e1 : (x : Int) / 4503599627370496 = ((L + 1023 : Nat) : Int) := by omega
  have e1' : bits .and .i64 ((L + 1023 : Nat) : Int) 2047 = ((L + 1023 : Nat) : Int) := by
    have hi : ∀ n : Int, 0 ≤ n → n < 2 ^ 11 → IntKind.i64.wrap n = n := by
      intro n a b; rw [IntKind.wrap_i64]; omega
    have := bits_mask .i64 11 (by decide) hi 11 (by decide) ((L + 1023 : Nat) : Int) (by omega) (by omega)
    refine this.trans ?_
    omega
  have e2 : bits .andNot .u64 (x : Int) 9218868437227405312 = ((M - 2 ^ 52 : Nat) : Int) := by
    have := andNot_u64 x 9218868437227405312 (by omega) (by decide)
    have a := and_frac x (by omega)
    have a2 : x % 2 ^ 52 = M - 2 ^ 52 := by omega
    exact this.trans (congrArg (fun n : Nat => (n : Int)) (a.trans a2))
  have e3 : bits .or .u64 ((M - 2 ^ 52 : Nat) : Int) (((L + e + 1023) * 2 ^ 52 : Nat) : Int) = (z : Int) := by
    rw [v1]; exact or_exp (M - 2 ^ 52) (L + e + 1023) (by omega) (by omega)
  obtain ⟨m, hm⟩ : ∃ m, M - 2 ^ 52 = m := ⟨_, rfl⟩
  rw [hm] at e2 e3
  clear hm w1 w2 w3 v1 hb53
  obtain ⟨E, hE⟩ : ∃ E, L + 1023 = E := ⟨_, rfl⟩
  have hE2 : E + e ≤ 1075 := by omega
  have hE3 : 1023 ≤ E := by omega
  rw [hE] at e1 e1'
  have H3 : bits .or .u64 (m : Int) (((e : Int) + ((E : Int) - 1023) + 1023) * 4503599627370496) = (z : Int) := by
    rw [← e3]; congr 1; omega
  clear hE e3 w4 v4 h0
  go_enter Tryd.func68, Tryd.ntmps68
  go_wp2_with (first | (go_at_call 48; refine (hc1 _).mono ?_; rintro e w' ⟨rfl, rfl⟩) | (go_at_call 49; refine (hc2 _).mono ?_; rintro e w' ⟨rfl, rfl⟩) | (go_at_call 78; refine (hc3 _).mono ?_; rintro e w' ⟨rfl, rfl⟩))
  go_ret
  exact ⟨rfl, rfl⟩

theorem Ldexp_F (b e : Nat) (h0 : b ≠ 0) (h : b * 2 ^ e < 2 ^ 53) (w : World) :
    Calls Tryd.prog 52 #[.float .f64 (F (b : Int)), .int .i64 (e : Int)] w fun r w' => r = .returned (.float .f64 (F ((b * 2 ^ e : Nat) : Int))) ∧ w = w' := by
  have hc := fun w => ldexp_F b e h0 h w
  generalize F ((b * 2 ^ e : Nat) : Int) = z at *
  generalize F (b : Int) = x at *
  go_enter Tryd.func52, Tryd.ntmps52
  go_wp2_with (go_at_call 68; refine (hc _).mono ?_; rintro e w' ⟨rfl, rfl⟩)
  go_ret
  exact ⟨rfl, rfl⟩

theorem F_lt_F {a b : Nat} (h : a < b) (hb : b < 2 ^ 53) : F (a : Int) < F (b : Int) := by
  have r1 := rung_F (a : Int) (by omega)
  have r2 := rung_F (b : Int) (by omega)
  have s1 := F_pos_mod a (by omega)
  have s2 := F_pos_mod b hb
  unfold rung at r1 r2
  rw [s1] at r1
  rw [s2] at r2
  have hm : a * U < b * U := Nat.mul_lt_mul_of_pos_right h U_pos
  rcases Nat.lt_trichotomy (F (a : Int)) (F (b : Int)) with c | c | c
  · exact c
  · rw [c, r2] at r1
    have : (b : Int).natAbs = b := by omega
    have : (a : Int).natAbs = a := by omega
    simp only [Int.natAbs_natCast] at r1; omega
  · have := ru_lt c
    rw [r1, r2] at this
    simp only [Int.natAbs_natCast] at this; omega

/-- the leading digits of a number, 53 of them -/
def lead (n : Nat) : Nat := n * 2 ^ (52 - n.log2)

/-- the fractions of Frexp stand as the leading digits stand -/
theorem order_frW (a b : Nat) (a0 : a ≠ 0) (ha : a < 2 ^ 53) (b0 : b ≠ 0) (hb : b < 2 ^ 53) :
    FloatKind.f64.format.order (frW a) (frW b) = some .lt ↔ lead a < lead b := by
  obtain ⟨_, w2, w3, _⟩ := F_word a a0 ha
  obtain ⟨_, v2, v3, _⟩ := F_word b b0 hb
  have key : ∀ M, 2 ^ 52 ≤ M → M < 2 ^ 53 → IsFin (1022 * 2 ^ 52 + (M - 2 ^ 52)) ∧ fval (1022 * 2 ^ 52 + (M - 2 ^ 52)) = ((ru (1021 * 2 ^ 52 + M) : Nat) : Int) := by
    intro M m1 m2
    have hr : rung (1022 * 2 ^ 52 + (M - 2 ^ 52)) = 1021 * 2 ^ 52 + M := by unfold rung; omega
    refine ⟨by unfold IsFin; rw [hr]; omega, ?_⟩
    have hs : sgn (1022 * 2 ^ 52 + (M - 2 ^ 52)) = false := by unfold sgn; rw [beq_eq_false_iff_ne]; omega
    rw [fval_pos hs, hr]
  obtain ⟨f1, g1⟩ := key _ w2 w3
  obtain ⟨f2, g2⟩ := key _ v2 v3
  have e : FloatKind.f64.format.order (frW a) (frW b) = some (compare (fval (frW a)) (fval (frW b))) := order_fin f1 f2
  rw [e]
  have h1 : fval (frW a) = ((ru (1021 * 2 ^ 52 + lead a) : Nat) : Int) := g1
  have h2 : fval (frW b) = ((ru (1021 * 2 ^ 52 + lead b) : Nat) : Int) := g2
  rw [h1, h2]
  constructor
  · intro h
    have h3 := Int.compare_eq_lt.1 (Option.some.inj h)
    by_cases c : lead a < lead b
    · exact c
    · exfalso
      rcases Nat.lt_or_eq_of_le (Nat.le_of_not_lt c) with d | d
      · have := ru_lt (show 1021 * 2 ^ 52 + lead b < 1021 * 2 ^ 52 + lead a by omega); omega
      · rw [d] at h3; omega
  · intro h
    refine congrArg some (Int.compare_eq_lt.2 ?_)
    have := ru_lt (show 1021 * 2 ^ 52 + lead a < 1021 * 2 ^ 52 + lead b by omega); omega

theorem mod_step (k B : Nat) (B0 : B ≠ 0) (hBk : B ≤ k) (hk : k < 2 ^ 53) :
    B.log2 ≤ k.log2 ∧ (lead k < lead B → B.log2 + 1 ≤ k.log2 ∧ B * 2 ^ (k.log2 - 1 - B.log2) ≤ k) ∧ (¬ lead k < lead B → B * 2 ^ (k.log2 - B.log2) ≤ k) := by
  have k0 : k ≠ 0 := by omega
  have a1 := Nat.log2_self_le k0
  have a2 := @Nat.lt_log2_self k
  have b1 := Nat.log2_self_le B0
  have b2 := @Nat.lt_log2_self B
  have hlg : B.log2 ≤ k.log2 := (Nat.le_log2 k0).2 (Nat.le_trans b1 hBk)
  have hk52 : k.log2 ≤ 52 := by
    have := (Nat.log2_lt k0 (k := 53)).2 hk; omega
  refine ⟨hlg, fun h => ?_, fun h => ?_⟩
  · have hne : B.log2 ≠ k.log2 := by
      intro e
      unfold lead at h
      rw [e] at h
      have := Nat.lt_of_mul_lt_mul_right h
      omega
    refine ⟨by omega, ?_⟩
    have h3 : B * 2 ^ (k.log2 - 1 - B.log2) ≤ 2 ^ (B.log2 + 1) * 2 ^ (k.log2 - 1 - B.log2) := Nat.mul_le_mul_right _ (Nat.le_of_lt b2)
    rw [← Nat.pow_add, show B.log2 + 1 + (k.log2 - 1 - B.log2) = k.log2 by omega] at h3
    exact Nat.le_trans h3 a1
  · have h4 : lead B ≤ lead k := Nat.le_of_not_lt h
    unfold lead at h4
    have e : 2 ^ (52 - B.log2) = 2 ^ (k.log2 - B.log2) * 2 ^ (52 - k.log2) := by rw [← Nat.pow_add]; congr 1; omega
    rw [e, ← Nat.mul_assoc] at h4
    exact Nat.le_of_mul_le_mul_right h4 (Nat.two_pow_pos _)

theorem mod_less (k B e : Nat) (h : B * 2 ^ e ≤ k) : (k - B * 2 ^ e) % B = k % B := by
  obtain ⟨r, hr⟩ : ∃ r, k = r + B * 2 ^ e := ⟨k - B * 2 ^ e, by omega⟩
  rw [hr, Nat.add_sub_cancel, Nat.add_mul_mod_self_left]

theorem Frexp_at (n : Nat) (h0 : n ≠ 0) (h : n < 2 ^ 53) (w : World) :
    Calls Tryd.prog 51 #[.float .f64 (F (n : Int))] w fun e w' => e = .returned (.tuple #[.float .f64 (frW n), .int .i64 ((n.log2 : Int) + 1)]) ∧ w = w' := Frexp_F n h0 h w

def wordOf (v : Value) : Nat := match v with | .float _ x => x | _ => 0

theorem order_FF (k B : Nat) (hk : k < 2 ^ 53) (hB : B < 2 ^ 53) : FloatKind.f64.format.order (F (k : Int)) (F (B : Int)) = some (compare (k : Int) (B : Int)) := order_F _ _ (by omega) (by omega)

theorem Ldexp_int (b e : Nat) (i : Int) (hi : i = (e : Int)) (h0 : b ≠ 0) (h : b * 2 ^ e < 2 ^ 53) (w : World) :
    Calls Tryd.prog 52 #[.float .f64 (F (b : Int)), .int .i64 i] w fun r w' => r = .returned (.float .f64 (F ((b * 2 ^ e : Nat) : Int))) ∧ w = w' := by
  rw [hi]; exact Ldexp_F b e h0 h w

theorem sub_FF (k m : Nat) (hk : k < 2 ^ 53) (hm : m ≤ k) : floatBits .sub .f64 (F (k : Int)) (F (m : Int)) = some (F ((k - m : Nat) : Int)) := by
  have := sub_F (k : Int) (m : Int) (by omega) (by omega)
  rw [show (k : Int) - (m : Int) = ((k - m : Nat) : Int) by omega] at this
  exact this

set_option maxHeartbeats 1000000 in
theorem mod_walk (a B R : Nat) (ha : a < 2 ^ 53) (B0 : B ≠ 0) (hB : B < 2 ^ 53) (hR : a % B = R) (x y : Nat) (s : Bool) (hx : (if s then Op.negFloat .f64 x else x) = F (a : Int)) (hxs : (FloatKind.f64.format.order x 0 == some .lt) = s)
    (hi : ∀ w, Calls Tryd.prog 48 #[.float .f64 x, .int .i64 0] w fun e w' => e = .returned (.bool false) ∧ w = w') (hn : ∀ w, Calls Tryd.prog 49 #[.float .f64 x] w fun e w' => e = .returned (.bool false) ∧ w = w')
    (hy : y < 2 ^ 64) (hyB : y % 2 ^ 63 = F (B : Int)) (hyn : ∀ w, Calls Tryd.prog 49 #[.float .f64 y] w fun e w' => e = .returned (.bool false) ∧ w = w') (hy0 : (FloatKind.f64.format.order y 0 == some .eq) = false) (w : World) :
    Calls Tryd.prog 35 #[.float .f64 x, .float .f64 y] w fun e w' => e = .returned (.float .f64 (if s then Op.negFloat .f64 (F (R : Int)) else F (R : Int))) ∧ w = w' := by
  have hab := fun w => Abs_any y hy w
  rw [hyB] at hab
  have hfb := fun w => Frexp_F B B0 hB w
  clear hyB hy
  generalize hxB : F (B : Int) = yb at *
  have HA := Lib.hid hx
  have HB := Lib.hid hxB
  have HR := Lib.hid hR
  clear hx hxB hR
  cases s
  all_goals
    go_enter Tryd.func35, Tryd.ntmps35
    go_wp2_with (first | (go_at_call 48; refine (hi _).mono ?_; rintro e w' ⟨rfl, rfl⟩) | (go_at_call 49; ((with_reducible refine (hn _).mono ?_); rintro e w' ⟨rfl, rfl⟩)) | (go_at_call 49; ((with_reducible refine (hyn _).mono ?_); rintro e w' ⟨rfl, rfl⟩)) | (go_at_call 50; ((with_reducible refine (hab _).mono ?_); rintro e w' ⟨rfl, rfl⟩)) | (go_at_call 51; ((with_reducible refine (hfb _).mono ?_); rintro e w' ⟨rfl, rfl⟩)))
    go_loop [7] (fun r => ∃ k : Nat, k ≤ a ∧ k % B = R ∧ r = .float .f64 (F (k : Int))) (fun r => wordOf r)
    case atStart => exact ⟨a, Nat.le_refl _, HR.out, congrArg (Value.float .f64) HA.out⟩
    case round =>
      obtain ⟨k, hk, hkm, rfl⟩ := hrel
      have HM := Lib.hid hkm
      clear hkm
      have hk53 : k < 2 ^ 53 := by omega
      have ho := order_FF k B hk53 hB
      rw [HB.out] at ho
      by_cases c : k < B
      · rw [Int.compare_eq_lt.2 (by omega)] at ho
        obtain rfl : k = R := by rw [← HM.out]; exact (Nat.mod_eq_of_lt c).symm
        go_wp2
        go_ret
        exact ⟨rfl, rfl⟩
      · have hBk : B ≤ k := Nat.le_of_not_lt c
        have k0 : k ≠ 0 := by omega
        obtain ⟨o, ho1, ho2⟩ : ∃ o, compare (k : Int) (B : Int) = o ∧ o ≠ .lt := ⟨_, rfl, fun e => by have := Int.compare_eq_lt.1 e; omega⟩
        rw [ho1] at ho
        obtain ⟨st1, st2, st3⟩ := mod_step k B B0 hBk hk53
        have hfk := fun w => Frexp_at k k0 hk53 w
        have k52 : k.log2 ≤ 52 := by
          have := (Nat.log2_lt k0 (k := 53)).2 hk53; omega
        have hlead := order_frW k B k0 hk53 B0 hB
        obtain ⟨e, i, f, he1, he2, he3⟩ : ∃ (e : Nat) (i : Int) (f : Bool), (i = (e : Int) ∧ i = if f then (k.log2 : Int) - ((B.log2 : Int) + 1) else (k.log2 : Int) + 1 - ((B.log2 : Int) + 1)) ∧ B * 2 ^ e ≤ k ∧ (FloatKind.f64.format.order (frW k) (frW B) == some .lt) = f := by
          by_cases d : lead k < lead B
          · obtain ⟨d1, d2⟩ := st2 d
            exact ⟨k.log2 - 1 - B.log2, _, true, ⟨by simp; omega, rfl⟩, d2, by rw [hlead.2 d]; rfl⟩
          · refine ⟨k.log2 - B.log2, _, false, ⟨by simp; omega, rfl⟩, st3 d, ?_⟩
            exact beq_eq_false_iff_ne.2 (fun h => d (hlead.1 h))
        have hld := fun w => Ldexp_int B e i he1.1 B0 (by omega) w
        rw [HB.out, he1.2] at hld
        have hsub := sub_FF k (B * 2 ^ e) hk53 he2
        have hq := fun w => run_float_arith (P := Tryd.prog) w .sub 22 .f64 _ _ _ hsub
        have hbp : 0 < B * 2 ^ e := Nat.mul_pos (Nat.pos_of_ne_zero B0) (Nat.two_pow_pos _)
        have H1 := Lib.hid (mod_less k B e he2)
        obtain ⟨m, hm⟩ : ∃ m, m = k - B * 2 ^ e := ⟨_, rfl⟩
        rw [← hm] at hq H1
        have hmk : m < k := by omega
        obtain ⟨z, hz⟩ : ∃ z, z = F ((B * 2 ^ e : Nat) : Int) := ⟨_, rfl⟩
        rw [← hz] at hld hq
        have hkk := Lib.hid (F_lt_F hmk hk53)
        clear hlead st2 st3 he1 he2 hsub hm hz ho1 hbp hBk
        cases f <;> cases o <;> first | exact absurd rfl ho2 | skip
        all_goals
          clear ho2
          simp only [if_true, Bool.false_eq_true, if_false] at hld
          go_wp2_with (first | (go_at_call 51; ((with_reducible refine (hfk _).mono ?_); rintro e w' ⟨rfl, rfl⟩)) | (go_at_call 52; ((with_reducible refine (hld _).mono ?_); rintro e w' ⟨rfl, rfl⟩)))
          go_round
          case rel => exact ⟨m, by omega, H1.out.trans HM.out, rfl⟩
          case measure => exact hkk.out
end Go.Proofs.YtggcepoolcfpgaaDoor
