/-
  math.Mod at our numbers: what is left of a behind b times the whole quotient; no number where one is none or b is 0: walks.
-/
import Derived.Test.YtbeggameiedjgaaGreatDoorTN03
import Derived.Shelf.Strings.SlTrimAscii
import Derived.Shelf.LaysM
import Derived.Shelf.Strconv.Itoa4
import Derived.Test.YtbeggameiedjgaaGreatDoorProg
namespace Go.Proofs.YtbeggameiedjgaaGreatDoor
open Go.RowKit Fl

theorem run_Float64frombits (x : Nat) (w : World) : (callFunc 203 #[.int .u64 (x : Int)]).run Tryz.prog w = .ok (.value (.float .f64 x)) w := by
  rw [run_callFunc_extern Tryz.func203 (by kernel_rfl) (by kernel_rfl) (by kernel_rfl) (e := Extern.MathFloatBits.float64frombits) (by kernel_rfl)]
  rfl

theorem F_word (n : Nat) (h0 : n ≠ 0) (h : n < 2 ^ 53) : F (n : Int) = (n.log2 + 1023) * 2 ^ 52 + (n * 2 ^ (52 - n.log2) - 2 ^ 52) ∧ 2 ^ 52 ≤ n * 2 ^ (52 - n.log2) ∧ n * 2 ^ (52 - n.log2) < 2 ^ 53 ∧ n.log2 ≤ 52 := by
  have hlg : n.log2 ≤ 52 := by
    have := (Nat.log2_lt h0 (k := 53)).2 h; omega
  have h1 := Nat.log2_self_le h0
  have h2 := @Nat.lt_log2_self n
  have m1 : 2 ^ 52 ≤ n * 2 ^ (52 - n.log2) := by
    have : 2 ^ 52 = 2 ^ n.log2 * 2 ^ (52 - n.log2) := by rw [← Nat.pow_add]; congr 1; omega
    rw [this]; exact Nat.mul_le_mul_right _ h1
  have m2 : n * 2 ^ (52 - n.log2) < 2 ^ 53 := by
    have : 2 ^ 53 = 2 ^ (n.log2 + 1) * 2 ^ (52 - n.log2) := by rw [← Nat.pow_add]; congr 1; omega
    rw [this]; exact Nat.mul_lt_mul_of_pos_right h2 (Nat.two_pow_pos _)
  refine ⟨?_, m1, m2, hlg⟩
  symm
  have hu : ∀ L M : Nat, L ≤ 52 → 2 ^ 52 ≤ M → M < 2 ^ 53 → (L + 1023) * 2 ^ 52 + (M - 2 ^ 52) < 2 ^ 63 := by intro L M a b c; omega
  have hlt := hu n.log2 (n * 2 ^ (52 - n.log2)) hlg m1 m2
  refine of_val (n : Int) (by omega) ?_ (by omega) ?_
  · have hr : rung ((n.log2 + 1023) * 2 ^ 52 + (n * 2 ^ (52 - n.log2) - 2 ^ 52)) = (n.log2 + 1022) * 2 ^ 52 + n * 2 ^ (52 - n.log2) := by
      unfold rung; omega
    rw [hr, ru_mk _ _ (by omega) (Or.inr m1), Nat.mul_assoc, ← Nat.pow_add, U_pow (52 - n.log2 + (n.log2 + 1022)) (by omega)]
    rfl
  · unfold sgn
    rw [decide_eq_false (by omega), beq_eq_false_iff_ne]; omega

theorem nat_of_u64 (a : Nat) (ha : a < 18446744073709551616) : (BitVec.ofInt 64 (a : Int)).toNat = a := by
  rw [BitVec.ofInt_natCast, BitVec.toNat_ofNat]; exact Nat.mod_eq_of_lt (by omega)

theorem andNot_u64 (a b : Nat) (ha : a < 18446744073709551616) (hb : b < 18446744073709551616) : bits .andNot .u64 (a : Int) (b : Int) = ((a &&& (18446744073709551615 - b) : Nat) : Int) := by
  have hx : a &&& (18446744073709551615 - b) < 2 ^ 64 := Nat.and_lt_two_pow _ (by omega)
  show IntKind.u64.wrap ((BitVec.ofInt 64 (a : Int) &&& ~~~ BitVec.ofInt 64 (b : Int)).toNat : Int) = _
  rw [BitVec.toNat_and, BitVec.toNat_not, nat_of_u64 a ha, nat_of_u64 b hb, IntKind.wrap_u64]
  have e : 2 ^ 64 - 1 - b = 18446744073709551615 - b := by omega
  rw [e]
  omega

theorem and_sign (x : Nat) : x &&& 9223372036854775807 = x % 2 ^ 63 := Nat.and_two_pow_sub_one_eq_mod x 63

theorem and_frac (x : Nat) (hx : x < 2 ^ 63) : x &&& 9227875636482146303 = x % 2 ^ 52 := by
  have e : 9227875636482146303 = 2 ^ 63 + (2 ^ 52 - 1) := by decide
  rw [e]
  apply Nat.eq_of_testBit_eq
  intro i
  rw [Nat.testBit_and, Nat.testBit_mod_two_pow]
  by_cases h : i < 63
  · rw [Nat.testBit_two_pow_add_gt h, Nat.testBit_two_pow_sub_one, Bool.and_comm]
  · have a1 : x.testBit i = false := Nat.testBit_lt_two_pow (Nat.lt_of_lt_of_le hx (Nat.pow_le_pow_right (by decide) (by omega)))
    rw [a1]; simp

/-- Abs of a word takes the sign off -/
theorem Abs_any (x : Nat) (hx : x < 2 ^ 64) (w : World) :
    Calls Tryz.prog 209 #[.float .f64 x] w fun e w' => e = .returned (.float .f64 (x % 2 ^ 63)) ∧ w = w' := by
  have hb := fun w => run_Float64bits x w
  have h1 : bits .andNot .u64 (x : Int) 9223372036854775808 = ((x % 2 ^ 63 : Nat) : Int) := by
    have := andNot_u64 x 9223372036854775808 (by omega) (by decide)
    rw [← and_sign]; exact this
  generalize hy : x % 2 ^ 63 = y at *
  clear hy hx
  have hc := fun w => run_Float64frombits y w
  go_enter Tryz.func209, Tryz.ntmps209
  go_wp2
  go_ret
  exact ⟨rfl, rfl⟩

theorem IsNaN_any (x : Nat) (w : World) :
    Calls Tryz.prog 119 #[.float .f64 x] w fun e w' => e = .returned (.bool (FloatKind.f64.format.order x x != some .eq)) ∧ w = w' := by
  go_enter Tryz.func119, Tryz.ntmps119
  go_wp2
  go_ret
  exact ⟨rfl, rfl⟩

theorem F_pos_mod (n : Nat) (h : n < 2 ^ 53) : F (n : Int) % 2 ^ 63 = F (n : Int) := by
  have hs := sgn_F (n : Int)
  have hl := F_lt (n : Int)
  rw [decide_eq_false (by omega)] at hs
  unfold sgn at hs
  simp at hs
  omega

theorem F_abs_mod (n : Int) (h : n.natAbs < 2 ^ 53) : F n % 2 ^ 63 = F (n.natAbs : Int) := by
  by_cases c : 0 ≤ n
  · have : n = (n.natAbs : Int) := by omega
    rw [← this]
    have := F_pos_mod n.natAbs h
    rw [show ((n.natAbs : Nat) : Int) = n by omega] at this
    exact this
  · have e := neg_F n h (by omega)
    rw [neg_word _ (F_lt n)] at e
    have hs := sgn_F n
    rw [decide_eq_true (by omega)] at hs
    unfold sgn at hs
    simp at hs
    have hl := F_lt n
    rw [if_neg (by omega)] at e
    rw [show ((n.natAbs : Nat) : Int) = -n by omega, ← e]
    omega

theorem fin_max : IsFin 9218868437227405311 := by unfold IsFin rung; decide

theorem order_max (n : Nat) (h : n < 2 ^ 53) : FloatKind.f64.format.order (F (n : Int)) 9218868437227405311 = some .lt := by
  have f := F_small (n : Int) (by omega)
  have e : FloatKind.f64.format.order (F (n : Int)) 9218868437227405311 = some (compare (fval (F (n : Int))) (fval 9218868437227405311)) := order_fin f.1 fin_max
  rw [e]
  refine congrArg some (Int.compare_eq_lt.2 ?_)
  have s1 : sgn (F (n : Int)) = false := by rw [sgn_F]; simp
  have s2 : sgn 9218868437227405311 = false := by decide
  rw [fval_pos s1, fval_pos s2]
  have hr : rung (F (n : Int)) < rung 9218868437227405311 := by
    have r2 : rung 9218868437227405311 = 9218868437227405311 := by decide
    rw [r2]
    have b1 := order_F (n : Int) 9007199254740991 (by omega) (by decide)
    by_cases h0 : n = 0
    · subst h0; decide
    · obtain ⟨w1, w2, w3, w4⟩ := F_word n h0 h
      unfold rung
      rw [w1]; omega
  have := ru_lt hr
  omega

theorem not_nan (n : Int) (h : n.natAbs < 2 ^ 53) (w : World) :
    Calls Tryz.prog 119 #[.float .f64 (F n)] w fun e w' => e = .returned (.bool false) ∧ w = w' := by
  have := IsNaN_any (F n) w
  have e : FloatKind.f64.format.order (F n) (F n) = some .eq := order_self (not_nan_F n h)
  rw [e] at this
  exact this

theorem fin_min : IsFin 4503599627370496 := by unfold IsFin rung; decide
theorem order_min (n : Nat) (h0 : n ≠ 0) (h : n < 2 ^ 53) : FloatKind.f64.format.order (F (n : Int)) 4503599627370496 = some .gt := by
  have f := F_small (n : Int) (by omega)
  have e : FloatKind.f64.format.order (F (n : Int)) 4503599627370496 = some (compare (fval (F (n : Int))) (fval 4503599627370496)) := order_fin f.1 fin_min
  rw [e]
  refine congrArg some (Int.compare_eq_gt.2 ?_)
  have s1 : sgn (F (n : Int)) = false := by rw [sgn_F]; simp
  have s2 : sgn 4503599627370496 = false := by decide
  rw [fval_pos s1, fval_pos s2]
  have hr : rung 4503599627370496 < rung (F (n : Int)) := by
    obtain ⟨w1, w2, w3, w4⟩ := F_word n h0 h
    unfold rung
    rw [w1]; omega
  have := ru_lt hr
  omega

/-- the fraction that Frexp gives -/
def frW (n : Nat) : Nat := 1022 * 2 ^ 52 + (n * 2 ^ (52 - n.log2) - 2 ^ 52)

theorem or_exp (m E : Nat) (hm : m < 2 ^ 52) (hE : E < 2048) : bits .or .u64 (m : Int) ((E * 2 ^ 52 : Nat) : Int) = ((E * 2 ^ 52 + m : Nat) : Int) := by
  rw [bits_or_u64_nat m (E * 2 ^ 52) (by omega) (by omega)]
  congr 1
  rw [Nat.or_comm, Nat.mul_comm, ← Nat.two_pow_add_eq_or_of_lt hm]

theorem F_lt_F {a b : Nat} (h : a < b) (hb : b < 2 ^ 53) : F (a : Int) < F (b : Int) := by
  have r1 := rung_F (a : Int) (by omega)
  have r2 := rung_F (b : Int) (by omega)
  have s1 := F_pos_mod a (by omega)
  have s2 := F_pos_mod b hb
  unfold rung at r1 r2
  rw [s1] at r1
  rw [s2] at r2
  have hm : a * U < b * U := Nat.mul_lt_mul_of_pos_right h U_pos
  rcases Nat.lt_trichotomy (F (a : Int)) (F (b : Int)) with c | c | c
  · exact c
  · rw [c, r2] at r1
    have : (b : Int).natAbs = b := by omega
    have : (a : Int).natAbs = a := by omega
    simp only [Int.natAbs_natCast] at r1; omega
  · have := ru_lt c
    rw [r1, r2] at this
    simp only [Int.natAbs_natCast] at this; omega

/-- the leading digits of a number, 53 of them -/
def lead (n : Nat) : Nat := n * 2 ^ (52 - n.log2)

/-- the fractions of Frexp stand as the leading digits stand -/
theorem order_frW (a b : Nat) (a0 : a ≠ 0) (ha : a < 2 ^ 53) (b0 : b ≠ 0) (hb : b < 2 ^ 53) :
    FloatKind.f64.format.order (frW a) (frW b) = some .lt ↔ lead a < lead b := by
  obtain ⟨_, w2, w3, _⟩ := F_word a a0 ha
  obtain ⟨_, v2, v3, _⟩ := F_word b b0 hb
  have key : ∀ M, 2 ^ 52 ≤ M → M < 2 ^ 53 → IsFin (1022 * 2 ^ 52 + (M - 2 ^ 52)) ∧ fval (1022 * 2 ^ 52 + (M - 2 ^ 52)) = ((ru (1021 * 2 ^ 52 + M) : Nat) : Int) := by
    intro M m1 m2
    have hr : rung (1022 * 2 ^ 52 + (M - 2 ^ 52)) = 1021 * 2 ^ 52 + M := by unfold rung; omega
    refine ⟨by unfold IsFin; rw [hr]; omega, ?_⟩
    have hs : sgn (1022 * 2 ^ 52 + (M - 2 ^ 52)) = false := by unfold sgn; rw [beq_eq_false_iff_ne]; omega
    rw [fval_pos hs, hr]
  obtain ⟨f1, g1⟩ := key _ w2 w3
  obtain ⟨f2, g2⟩ := key _ v2 v3
  have e : FloatKind.f64.format.order (frW a) (frW b) = some (compare (fval (frW a)) (fval (frW b))) := order_fin f1 f2
  rw [e]
  have h1 : fval (frW a) = ((ru (1021 * 2 ^ 52 + lead a) : Nat) : Int) := g1
  have h2 : fval (frW b) = ((ru (1021 * 2 ^ 52 + lead b) : Nat) : Int) := g2
  rw [h1, h2]
  constructor
  · intro h
    have h3 := Int.compare_eq_lt.1 (Option.some.inj h)
    by_cases c : lead a < lead b
    · exact c
    · exfalso
      rcases Nat.lt_or_eq_of_le (Nat.le_of_not_lt c) with d | d
      · have := ru_lt (show 1021 * 2 ^ 52 + lead b < 1021 * 2 ^ 52 + lead a by omega); omega
      · rw [d] at h3; omega
  · intro h
    refine congrArg some (Int.compare_eq_lt.2 ?_)
    have := ru_lt (show 1021 * 2 ^ 52 + lead a < 1021 * 2 ^ 52 + lead b by omega); omega

theorem mod_step (k B : Nat) (B0 : B ≠ 0) (hBk : B ≤ k) (hk : k < 2 ^ 53) :
    B.log2 ≤ k.log2 ∧ (lead k < lead B → B.log2 + 1 ≤ k.log2 ∧ B * 2 ^ (k.log2 - 1 - B.log2) ≤ k) ∧ (¬ lead k < lead B → B * 2 ^ (k.log2 - B.log2) ≤ k) := by
  have k0 : k ≠ 0 := by omega
  have a1 := Nat.log2_self_le k0
  have a2 := @Nat.lt_log2_self k
  have b1 := Nat.log2_self_le B0
  have b2 := @Nat.lt_log2_self B
  have hlg : B.log2 ≤ k.log2 := (Nat.le_log2 k0).2 (Nat.le_trans b1 hBk)
  have hk52 : k.log2 ≤ 52 := by
    have := (Nat.log2_lt k0 (k := 53)).2 hk; omega
  refine ⟨hlg, fun h => ?_, fun h => ?_⟩
  · have hne : B.log2 ≠ k.log2 := by
      intro e
      unfold lead at h
      rw [e] at h
      have := Nat.lt_of_mul_lt_mul_right h
      omega
    refine ⟨by omega, ?_⟩
    have h3 : B * 2 ^ (k.log2 - 1 - B.log2) ≤ 2 ^ (B.log2 + 1) * 2 ^ (k.log2 - 1 - B.log2) := Nat.mul_le_mul_right _ (Nat.le_of_lt b2)
    rw [← Nat.pow_add, show B.log2 + 1 + (k.log2 - 1 - B.log2) = k.log2 by omega] at h3
    exact Nat.le_trans h3 a1
  · have h4 : lead B ≤ lead k := Nat.le_of_not_lt h
    unfold lead at h4
    have e : 2 ^ (52 - B.log2) = 2 ^ (k.log2 - B.log2) * 2 ^ (52 - k.log2) := by rw [← Nat.pow_add]; congr 1; omega
    rw [e, ← Nat.mul_assoc] at h4
    exact Nat.le_of_mul_le_mul_right h4 (Nat.two_pow_pos _)

theorem mod_less (k B e : Nat) (h : B * 2 ^ e ≤ k) : (k - B * 2 ^ e) % B = k % B := by
  obtain ⟨r, hr⟩ : ∃ r, k = r + B * 2 ^ e := ⟨k - B * 2 ^ e, by omega⟩
  rw [hr, Nat.add_sub_cancel, Nat.add_mul_mod_self_left]

def wordOf (v : Value) : Nat := match v with | .float _ x => x | _ => 0

theorem order_FF (k B : Nat) (hk : k < 2 ^ 53) (hB : B < 2 ^ 53) : FloatKind.f64.format.order (F (k : Int)) (F (B : Int)) = some (compare (k : Int) (B : Int)) := order_F _ _ (by omega) (by omega)

theorem sub_FF (k m : Nat) (hk : k < 2 ^ 53) (hm : m ≤ k) : floatBits .sub .f64 (F (k : Int)) (F (m : Int)) = some (F ((k - m : Nat) : Int)) := by
  have := sub_F (k : Int) (m : Int) (by omega) (by omega)
  rw [show (k : Int) - (m : Int) = ((k - m : Nat) : Int) by omega] at this
  exact this

end Go.Proofs.YtbeggameiedjgaaGreatDoor
/-
  Rem of package num, and NumSums: every operation of two floats beside the document's own: walks.
-/
namespace Go.Proofs.YtbeggameiedjgaaGreatDoor
open Go.RowKit Fl

theorem NaN_any (w : World) : Calls Tryz.prog 194 #[] w fun e w' => e = .returned (.float .f64 9221120237041090561) ∧ w = w' := by
  have hf : ∀ w, (callFunc 203 #[.int .u64 9221120237041090561]).run Tryz.prog w = .ok (.value (.float .f64 9221120237041090561)) w := fun w => run_Float64frombits 9221120237041090561 w
  go_enter Tryz.func194, Tryz.ntmps194
  go_wp2
  go_ret
  exact ⟨rfl, rfl⟩
theorem is_uvnan : Is .nan 9221120237041090561 := ⟨by decide, by unfold IsNaN rung; decide⟩

theorem nan_nan {x : Nat} (h : Is .nan x) (w : World) :
    Calls Tryz.prog 119 #[.float .f64 x] w fun e w' => e = .returned (.bool true) ∧ w = w' := by
  have := IsNaN_any x w
  rw [show FloatKind.f64.format.order x x = none from order_nan_l _ h.2] at this
  exact this

def nanC (c : Cl) : Bool := match c with | .nan => true | _ => false
theorem nan_cls {c : Cl} {x : Nat} (h : Is c x) (hm : mayC c = true) (w : World) :
    Calls Tryz.prog 119 #[.float .f64 x] w fun e w' => e = .returned (.bool (nanC c)) ∧ w = w' := by
  cases c with
  | nan => exact nan_nan h w
  | other => cases hm
  | ours n => obtain ⟨rfl, hs⟩ := h; exact not_nan n hs.abs w

theorem tmod_pos (a b : Int) (h : 0 ≤ a) : a.tmod b = ((a.natAbs % b.natAbs : Nat) : Int) := by
  have h1 : (a.tmod b).natAbs = a.natAbs % b.natAbs := Int.natAbs_tmod a b
  have h2 : 0 ≤ a.tmod b := Int.tmod_nonneg b h
  omega
theorem tmod_neg (a b : Int) (h : a < 0) : a.tmod b = -((a.natAbs % b.natAbs : Nat) : Int) := by
  have h1 := tmod_pos (-a) b (by omega)
  rw [Int.neg_tmod, Int.natAbs_neg] at h1
  omega

theorem EncR_same {r : Res} {v u : Nat} {k j : Int} (h : EncR r v k) (g : EncR r u j) : k = j := by
  cases r with
  | nan => rw [h.2, g.2]
  | err q => rw [h.2, g.2]
  | ok n => rw [h.2, g.2]

def DrawnTrue (w : World) (e : Ending) (w' : World) : Prop := ∃ n, e = .returned (.bool true) ∧ w' = w.drewN n

end Go.Proofs.YtbeggameiedjgaaGreatDoor
/-
  DERIVED: THE SHELF's CONTRACTS AT THIS DUMP, IN PLAIN WORDS (tools/lay-plain.mjs out of 'YtbeggameiedjgaaGreatDoorShelfTry.lean', which tools/lay-shelf.mjs wrote): THE SAME DECLARATIONS UNDER THE SAME NAMES: 'import', 'namespace', 'open', 'def', 'theorem' AND NOTHING ELSE: no command of the shelf's: FOR A HAND-IN. Each laying: the table of numbers ('.._ren') and one theorem, a field a fact of the dump's own or the kernel's comparison; each contract: ONE APPLICATION.
-/
namespace Go.Proofs
open Go.Shelf
def Tryz.lays160_ren : Go.Shelf.Ren := ⟨fun | 160 => 177 | 232 => 188 | 231 => 187 | 227 => 189 | 234 => 191 | 233 => 190 | 236 => 193 | 235 => 192 | 228 => 199 | 271 => 202 | 151 => 201 | 197 => 200 | 120 => 208 | 152 => 207 | 260 => 206 | 137 => 211 | 119 => 212 | 224 => 213 | 225 => 214 | 217 => 215 | 266 => 216 | n => n, fun | 9 => 9 | 4 => 4 | 3 => 3 | 5 => 5 | 117 => 231 | 116 => 230 | 0 => 0 | 124 => 234 | 21 => 21 | 105 => 238 | 46 => 128 | 119 => 246 | 139 => 249 | 138 => 248 | n => n, fun | 3 => 5 | 4 => 6 | n => n⟩
theorem Tryz.lays160 : Go.Proofs.Lays.n160 Tryz.prog Tryz.lays160_ren := {
  mixed := by kernel_rfl
  f119 := Tryz.func212.trans (congrArg some (by kernel_rfl))
  f120 := Tryz.func208.trans (congrArg some (by kernel_rfl))
  f137 := Tryz.func211.trans (congrArg some (by kernel_rfl))
  f151 := Tryz.func201.trans (congrArg some (by kernel_rfl))
  f152 := Tryz.func207.trans (congrArg some (by kernel_rfl))
  f160 := Tryz.func177.trans (congrArg some (by kernel_rfl))
  f197 := Tryz.func200.trans (congrArg some (by kernel_rfl))
  f217 := Tryz.func215.trans (congrArg some (by kernel_rfl))
  f224 := Tryz.func213.trans (congrArg some (by kernel_rfl))
  f225 := Tryz.func214.trans (congrArg some (by kernel_rfl))
  f227 := Tryz.func189.trans (congrArg some (by kernel_rfl))
  f228 := Tryz.func199.trans (congrArg some (by kernel_rfl))
  f231 := Tryz.func187.trans (congrArg some (by kernel_rfl))
  f232 := Tryz.func188.trans (congrArg some (by kernel_rfl))
  f233 := Tryz.func190.trans (congrArg some (by kernel_rfl))
  f234 := Tryz.func191.trans (congrArg some (by kernel_rfl))
  f235 := Tryz.func192.trans (congrArg some (by kernel_rfl))
  f236 := Tryz.func193.trans (congrArg some (by kernel_rfl))
  f260 := Tryz.func206.trans (congrArg some (by kernel_rfl))
  f266 := Tryz.func216.trans (congrArg some (by kernel_rfl))
  f271 := Tryz.func202.trans (congrArg some (by kernel_rfl))
  t0 := Tryz.underlying0
  a0 := Tryz.isAgg0
  z0 := Tryz.sizeOf0
  v0 := Tryz.zeroValue0
  t3 := Tryz.underlying3
  a3 := Tryz.isAgg3
  z3 := Tryz.sizeOf3
  v3 := Tryz.zeroValue3
  t4 := Tryz.underlying4
  a4 := Tryz.isAgg4
  z4 := Tryz.sizeOf4
  v4 := Tryz.zeroValue4
  t5 := Tryz.underlying5
  a5 := Tryz.isAgg5
  z5 := Tryz.sizeOf5
  v5 := Tryz.zeroValue5
  t9 := Tryz.underlying9
  a9 := Tryz.isAgg9
  z9 := Tryz.sizeOf9
  v9 := Tryz.zeroValue9
  t21 := Tryz.underlying21
  a21 := Tryz.isAgg21
  z21 := Tryz.sizeOf21
  v21 := Tryz.zeroValue21
  t46 := Tryz.underlying128
  a46 := Tryz.isAgg128
  z46 := Tryz.sizeOf128
  v46 := Tryz.zeroValue128
  t105 := Tryz.underlying238
  a105 := Tryz.isAgg238
  z105 := Tryz.sizeOf238
  v105 := Tryz.zeroValue238
  t116 := Tryz.underlying230
  a116 := Tryz.isAgg230
  z116 := Tryz.sizeOf230
  t117 := Tryz.underlying231
  a117 := Tryz.isAgg231
  z117 := Tryz.sizeOf231
  v117 := Tryz.zeroValue231
  t119 := Tryz.underlying246
  a119 := Tryz.isAgg246
  z119 := Tryz.sizeOf246
  t124 := Tryz.underlying234
  a124 := Tryz.isAgg234
  z124 := Tryz.sizeOf234
  v124 := Tryz.zeroValue234
  t138 := Tryz.underlying248
  a138 := Tryz.isAgg248
  z138 := Tryz.sizeOf248
  v138 := Tryz.zeroValue248
  t139 := Tryz.underlying249
  a139 := Tryz.isAgg249
  z139 := Tryz.sizeOf249
  v139 := Tryz.zeroValue249
  g3 := by kernel_rfl
  g4 := by kernel_rfl }
open Go.RowKit in
/-- strings.Trim at an ASCII cutset. -/
theorem Tryz.strings_Trim (s cutset : ByteArray) (w : World) (hs : s.size ≤ 9223372036854775807) (hcs : cutset.size < 4294967281) (hascii : ∀ (j : Nat) (b : UInt8), cutset.data.toList[j]? = some b → b.toNat < 128) :
    Calls Tryz.prog 177 #[.string s, .string cutset] w fun e w' => e = .returned (.string ⟨(Lib.trimS s.data.toList cutset.data.toList).toArray⟩) ∧ Below w.heap.size w w' := Any.strings_Trim_laid Tryz.lays160 (by kernel_rfl) s cutset w hs hcs hascii
def Tryz.laysM173_ren : Go.Shelf.Ren := ⟨fun | 173 => 174 | 246 => 141 | 283 => 168 | 284 => 169 | 285 => 170 | 286 => 171 | 129 => 107 | 317 => 182 | 318 => 183 | 319 => 184 | 320 => 185 | 337 => 197 | 338 => 198 | n => n, fun | 2 => 2 | 3 => 3 | 9 => 9 | 4 => 4 | 171 => 215 | 0 => 0 | 53 => 162 | 37 => 95 | 5 => 5 | 173 => 217 | 212 => 225 | 51 => 160 | 20 => 20 | 213 => 226 | 46 => 128 | 232 => 242 | 233 => 243 | n => n, fun | 17 => 1 | 18 => 3 | 19 => 4 | n => n⟩
theorem Tryz.laysM173 : Go.Proofs.LaysM.n173 Tryz.prog Tryz.laysM173_ren := {
  mixed := by kernel_rfl
  f129 := Tryz.func107.trans (congrArg some (by kernel_rfl))
  f173 := Tryz.func174.trans (congrArg some (by kernel_rfl))
  f246 := Tryz.func141.trans (congrArg some (by kernel_rfl))
  f283 := Tryz.func168.trans (congrArg some (by kernel_rfl))
  f284 := Tryz.func169.trans (congrArg some (by kernel_rfl))
  f285 := Tryz.func170.trans (congrArg some (by kernel_rfl))
  f286 := Tryz.func171.trans (congrArg some (by kernel_rfl))
  f317 := Tryz.func182.trans (congrArg some (by kernel_rfl))
  f318 := Tryz.func183.trans (congrArg some (by kernel_rfl))
  f319 := Tryz.func184.trans (congrArg some (by kernel_rfl))
  f320 := Tryz.func185.trans (congrArg some (by kernel_rfl))
  f337 := Tryz.func197.trans (congrArg some (by kernel_rfl))
  f338 := Tryz.func198.trans (congrArg some (by kernel_rfl))
  t0 := Tryz.underlying0
  a0 := Tryz.isAgg0
  z0 := Tryz.sizeOf0
  v0 := Tryz.zeroValue0
  t2 := Tryz.underlying2
  a2 := Tryz.isAgg2
  z2 := Tryz.sizeOf2
  v2 := Tryz.zeroValue2
  t3 := Tryz.underlying3
  a3 := Tryz.isAgg3
  z3 := Tryz.sizeOf3
  v3 := Tryz.zeroValue3
  t4 := Tryz.underlying4
  a4 := Tryz.isAgg4
  z4 := Tryz.sizeOf4
  v4 := Tryz.zeroValue4
  t5 := Tryz.underlying5
  a5 := Tryz.isAgg5
  z5 := Tryz.sizeOf5
  v5 := Tryz.zeroValue5
  t9 := Tryz.underlying9
  a9 := Tryz.isAgg9
  z9 := Tryz.sizeOf9
  v9 := Tryz.zeroValue9
  t20 := Tryz.underlying20
  a20 := Tryz.isAgg20
  z20 := Tryz.sizeOf20
  v20 := Tryz.zeroValue20
  t37 := Tryz.underlying95
  a37 := Tryz.isAgg95
  z37 := Tryz.sizeOf95
  v37 := Tryz.zeroValue95
  t46 := Tryz.underlying128
  a46 := Tryz.isAgg128
  z46 := Tryz.sizeOf128
  v46 := Tryz.zeroValue128
  t51 := Tryz.underlying160
  a51 := Tryz.isAgg160
  z51 := Tryz.sizeOf160
  v51 := Tryz.zeroValue160
  t53 := Tryz.underlying162
  a53 := Tryz.isAgg162
  z53 := Tryz.sizeOf162
  v53 := Tryz.zeroValue162
  t171 := Tryz.underlying215
  a171 := Tryz.isAgg215
  z171 := Tryz.sizeOf215
  v171 := Tryz.zeroValue215
  t173 := Tryz.underlying217
  a173 := Tryz.isAgg217
  z173 := Tryz.sizeOf217
  v173 := Tryz.zeroValue217
  t212 := Tryz.underlying225
  a212 := Tryz.isAgg225
  z212 := Tryz.sizeOf225
  v212 := Tryz.zeroValue225
  t213 := Tryz.underlying226
  a213 := Tryz.isAgg226
  z213 := Tryz.sizeOf226
  t232 := Tryz.underlying242
  a232 := Tryz.isAgg242
  z232 := Tryz.sizeOf242
  v232 := Tryz.zeroValue242
  t233 := Tryz.underlying243
  a233 := Tryz.isAgg243
  z233 := Tryz.sizeOf243
  v233 := Tryz.zeroValue243
  g17 := by kernel_rfl
  g18 := by kernel_rfl
  g19 := by kernel_rfl
  i0 := by kernel_rfl
  i2 := by kernel_rfl
  i3 := by kernel_rfl
  i4 := by kernel_rfl
  i5 := by kernel_rfl
  i9 := by kernel_rfl
  i20 := by kernel_rfl
  i37 := by kernel_rfl
  i46 := by kernel_rfl
  i51 := by kernel_rfl
  i53 := by kernel_rfl
  i171 := by kernel_rfl
  i173 := by kernel_rfl
  i212 := by kernel_rfl
  i232 := by kernel_rfl
  i233 := by kernel_rfl
  m17 := by kernel_rfl
  m18 := by kernel_rfl
  m19 := by kernel_rfl }
open Go.RowKit Go.Sort Go.Lib in
/-- strconv.FormatInt at base 10, for every int64. -/
theorem Tryz.strconv_FormatInt_10 (n : Int) (h0 : -9223372036854775808 ≤ n) (h1 : n ≤ 9223372036854775807) (w : World) (htab : Lib.TabIs Tryz.prog w "internal/strconv.uint64pow10" .u64 Lib.pow10Tab) :
    Calls Tryz.prog 174 #[.int .i64 n, .int .i64 10] w fun e w' => e = .returned (.string ⟨(Lib.itoa n).toArray⟩) ∧ ∃ k os, w' = grow (w.drewN k) os := Any.strconv_FormatInt_10 Tryz.laysM173 n h0 h1 w htab
end Go.Proofs
