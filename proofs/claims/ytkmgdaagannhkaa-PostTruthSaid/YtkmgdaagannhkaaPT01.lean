/-
  What Go's float64 does at whole numbers of at most 53 bits, at fractions between them, and beyond: plain lemmas about the words of the format; no program is named here.
-/
import Derived.Laws.FloatArith
import Derived.KernelRfl
namespace Go.Proofs.Ytkmgdaagannhkaa.Fl
open Ieee Go


def RHE (n d : Nat) : Nat := n / d + (if d < 2 * (n % d) ∨ (d = 2 * (n % d) ∧ n / d % 2 = 1) then 1 else 0)

theorem rhe_one (n : Nat) : RHE n 1 = n := by
  unfold RHE; simp [Nat.mod_one]

theorem rhe_le (n d : Nat) : RHE n d ≤ n / d + 1 := by unfold RHE; split <;> omega
theorem rhe_ge (n d : Nat) : n / d ≤ RHE n d := by unfold RHE; omega

theorem cut_even (neg : Bool) (n drop : Nat) : Toward.even.cut neg n drop = RHE n (2 ^ drop) := by
  unfold Toward.cut
  dsimp only
  rw [Nat.one_shiftLeft]
  by_cases h : drop ≤ n.log2 + 2
  · rw [Nat.min_eq_left h]
    unfold RHE
    generalize 2 ^ drop = g
    generalize n / g = q
    generalize n % g = r
    congr 1
    by_cases c : g < 2 * r
    · simp [c]
    · by_cases d : g = 2 * r
      · by_cases f : q % 2 = 1
        · rw [if_pos (Or.inr ⟨d, f⟩)]; simp [d, f]
        · rw [if_neg (by omega)]; simp [d, f]
      · rw [if_neg (by omega)]; simp [c, d]
  · rw [Nat.min_eq_right (by omega)]
    have hl : n < 2 ^ (n.log2 + 1) := Nat.lt_log2_self
    have h2 : 2 ^ (n.log2 + 2) = 2 * 2 ^ (n.log2 + 1) := by rw [Nat.pow_succ, Nat.mul_comm]
    have h3 : 2 ^ (n.log2 + 2) ≤ 2 ^ drop := Nat.pow_le_pow_right (by decide) (by omega)
    unfold RHE
    have a1 : n / 2 ^ (n.log2 + 2) = 0 := Nat.div_eq_of_lt (by omega)
    have a2 : n % 2 ^ (n.log2 + 2) = n := Nat.mod_eq_of_lt (by omega)
    have b1 : n / 2 ^ drop = 0 := Nat.div_eq_of_lt (by omega)
    have b2 : n % 2 ^ drop = n := Nat.mod_eq_of_lt (by omega)
    rw [a1, a2, b1, b2]
    have c1 : ¬ 2 ^ (n.log2 + 2) < 2 * n := by omega
    have c2 : ¬ 2 ^ drop < 2 * n := by omega
    simp [c1, c2]

/-- the place of the last digit that is kept -/
def lastP (mag : Nat) (place : Int) : Int := max (place + mag.log2 - 52) (-1074)
def keptK (mag : Nat) (place : Int) : Nat := RHE (mag * 2 ^ (place - lastP mag place).toNat) (2 ^ (lastP mag place - place).toNat)

theorem nearest_eq (neg : Bool) (mag : Nat) (place : Int) (h : mag ≠ 0) :
    double.nearest neg mag place = double.word neg (min ((lastP mag place + 1074).toNat * 2 ^ 52 + keptK mag place) double.infRung) := by
  unfold Format.nearest
  rw [if_neg h]
  dsimp only
  rw [cut_even, Nat.shiftLeft_eq]
  have e1 : double.leastPlace = -1074 := by decide
  have e2 : (double.fractionBits : Int) = 52 := by decide
  have e3 : double.binade = 2 ^ 52 := by decide
  rw [e1, e2, e3]
  unfold keptK lastP
  congr 3

/-- the units (of 2^-1074) of a rung -/
def ru (r : Nat) : Nat := if r < 2 ^ 52 then r else (2 ^ 52 + r % 2 ^ 52) * 2 ^ (r / 2 ^ 52 - 1)

theorem ru_mk (E K : Nat) (h : K ≤ 2 ^ 53) (h2 : E = 0 ∨ 2 ^ 52 ≤ K) : ru (E * 2 ^ 52 + K) = K * 2 ^ E := by
  unfold ru
  by_cases c : K < 2 ^ 52
  · have : E = 0 := by omega
    subst this
    rw [if_pos (by omega)]; simp
  · rw [if_neg (by omega)]
    by_cases d : K = 2 ^ 53
    · subst d
      rw [show (E * 2 ^ 52 + 2 ^ 53) % 2 ^ 52 = 0 by omega, show (E * 2 ^ 52 + 2 ^ 53) / 2 ^ 52 - 1 = E + 1 by omega]
      have e : 2 ^ (E + 1) = 2 * 2 ^ E := by rw [Nat.pow_succ, Nat.mul_comm]
      rw [e]; generalize 2 ^ E = g; omega
    · rw [show (E * 2 ^ 52 + K) % 2 ^ 52 = K - 2 ^ 52 by omega, show (E * 2 ^ 52 + K) / 2 ^ 52 - 1 = E by omega]
      rw [show 2 ^ 52 + (K - 2 ^ 52) = K by omega]

theorem ru_succ (r : Nat) : ru r < ru (r + 1) := by
  by_cases c : r + 1 < 2 ^ 52
  · unfold ru; rw [if_pos (by omega), if_pos c]; omega
  · obtain ⟨E, K, h1, h2, h3⟩ : ∃ E K : Nat, r + 1 = E * 2 ^ 52 + K ∧ 2 ^ 52 < K + 1 ∧ K < 2 ^ 53 := ⟨(r + 1) / 2 ^ 52 - 1, (r + 1) % 2 ^ 52 + 2 ^ 52, by omega, by omega, by omega⟩
    have e1 : ru (r + 1) = K * 2 ^ E := by rw [h1]; exact ru_mk E K (by omega) (by omega)
    rw [e1]
    have hp : 0 < 2 ^ E := Nat.two_pow_pos _
    by_cases d : K = 2 ^ 52
    · subst d
      by_cases e : E = 0
      · subst e
        have hr : r < 2 ^ 52 := by omega
        have : ru r = r := by unfold ru; rw [if_pos hr]
        rw [this, Nat.pow_zero, Nat.mul_one]; exact hr
      · have : ru r = (2 ^ 53 - 1) * 2 ^ (E - 1) := by
          have h5 := ru_mk (E - 1) (2 ^ 53 - 1) (by omega) (by omega)
          have h6 : E * 2 ^ 52 = (E - 1) * 2 ^ 52 + 2 ^ 52 := by omega
          have h7 : r = (E - 1) * 2 ^ 52 + (2 ^ 53 - 1) := by omega
          exact (congrArg ru h7).trans h5
        rw [this, show (2 : Nat) ^ E = 2 * 2 ^ (E - 1) by rw [← Nat.pow_succ']; congr 1; omega, ← Nat.mul_assoc]
        exact Nat.mul_lt_mul_of_pos_right (by decide) (Nat.two_pow_pos _)
    · have : ru r = (K - 1) * 2 ^ E := by
        have := ru_mk E (K - 1) (by omega) (by omega)
        rw [← this]; congr 1; omega
      rw [this]
      exact Nat.mul_lt_mul_of_pos_right (by omega) hp

theorem ru_lt {a b : Nat} (h : a < b) : ru a < ru b := by
  obtain ⟨k, rfl⟩ : ∃ k, b = a + 1 + k := ⟨b - (a + 1), by omega⟩
  clear h
  induction k with
  | zero => exact ru_succ a
  | succ k ih => exact Nat.lt_trans ih (ru_succ _)

theorem ru_inj {a b : Nat} (h : ru a = ru b) : a = b := by
  rcases Nat.lt_trichotomy a b with c | c | c
  · have := ru_lt c; omega
  · exact c
  · have := ru_lt c; omega

theorem ru_zero : ru 0 = 0 := by decide

def sgn (x : Nat) : Bool := x / 2 ^ 63 % 2 == 1
def rung (x : Nat) : Nat := x % 2 ^ 63
def IsFin (x : Nat) : Prop := rung x < 2047 * 2 ^ 52
def IsNaN (x : Nat) : Prop := 2047 * 2 ^ 52 < rung x
def fval (x : Nat) : Int := if sgn x then -(ru (rung x) : Int) else ru (rung x)

theorem read_fin {x : Nat} (h : IsFin x) : ∃ m e, double.read x = .number (sgn x) m e ∧ -1074 ≤ e ∧ e ≤ 2000 ∧ m * 2 ^ (e + 1074).toNat = ru (rung x) ∧ m < 2 ^ 53 ∧ (e = -1074 ∨ 2 ^ 52 ≤ m) := by
  unfold IsFin at h
  have e1 : double.leastPlace = -1074 := by decide
  have e3 : double.binade = 2 ^ 52 := by decide
  have e4 : double.infRung = 2047 * 2 ^ 52 := by decide
  have e5 : double.signWeight = 2 ^ 63 := by decide
  unfold Format.read
  dsimp only
  rw [e1, e3, e4, e5]
  change ∃ m e, (if rung x < 2 ^ 52 then Datum.number (sgn x) (rung x) (-1074) else if rung x < 2047 * 2 ^ 52 then Datum.number (sgn x) (2 ^ 52 + rung x % 2 ^ 52) (-1074 + ((rung x / 2 ^ 52 - 1 : Nat) : Int)) else _) = _ ∧ _
  generalize hr : rung x = r at *
  by_cases c : r < 2 ^ 52
  · rw [if_pos c]
    refine ⟨r, -1074, rfl, by omega, by omega, ?_, by omega, Or.inl rfl⟩
    unfold ru; rw [if_pos c]; simp
  · rw [if_neg c, if_pos h]
    refine ⟨_, _, rfl, by omega, by omega, ?_, by omega, Or.inr (by omega)⟩
    unfold ru; rw [if_neg c]; congr 2; omega

theorem read_nan {x : Nat} (h : IsNaN x) : ∃ t, double.read x = .nan (sgn x) t := by
  unfold IsNaN at h
  have e1 : double.leastPlace = -1074 := by decide
  have e3 : double.binade = 2 ^ 52 := by decide
  have e4 : double.infRung = 2047 * 2 ^ 52 := by decide
  have e5 : double.signWeight = 2 ^ 63 := by decide
  unfold Format.read
  dsimp only
  rw [e1, e3, e4, e5]
  change ∃ t, (if rung x < 2 ^ 52 then Datum.number (sgn x) (rung x) (-1074) else if rung x < 2047 * 2 ^ 52 then _ else if rung x = 2047 * 2 ^ 52 then _ else _) = _
  rw [if_neg (by omega), if_neg (by omega), if_neg (by omega)]
  exact ⟨_, rfl⟩

theorem read_inf {x : Nat} (h : rung x = 2047 * 2 ^ 52) : double.read x = .infinity (sgn x) := by
  have e1 : double.leastPlace = -1074 := by decide
  have e3 : double.binade = 2 ^ 52 := by decide
  have e4 : double.infRung = 2047 * 2 ^ 52 := by decide
  have e5 : double.signWeight = 2 ^ 63 := by decide
  unfold Format.read
  dsimp only
  rw [e1, e3, e4, e5]
  change (if rung x < 2 ^ 52 then Datum.number (sgn x) (rung x) (-1074) else if rung x < 2047 * 2 ^ 52 then _ else if rung x = 2047 * 2 ^ 52 then _ else _) = _
  rw [if_neg (by omega), if_neg (by omega), if_pos h]; rfl

theorem word_sgn (neg : Bool) (r : Nat) (h : r < 2 ^ 63) : sgn (double.word neg r) = neg ∧ rung (double.word neg r) = r ∧ double.word neg r < 2 ^ 64 := by
  have e5 : double.signWeight = 2 ^ 63 := by decide
  unfold sgn rung Format.word
  rw [e5]
  cases neg
  · refine ⟨?_, ?_, ?_⟩
    · simp; omega
    · simp; omega
    · simp; omega
  · refine ⟨?_, ?_, ?_⟩
    · simp; omega
    · simp; omega
    · simp; omega

theorem word_ext {x y : Nat} (hx : x < 2 ^ 64) (hy : y < 2 ^ 64) (h1 : sgn x = sgn y) (h2 : rung x = rung y) : x = y := by
  unfold sgn rung at *
  have : (x / 2 ^ 63 % 2 = 1 ↔ y / 2 ^ 63 % 2 = 1) := by
    constructor <;> intro h <;> simp [h] at h1 <;> omega
  omega

def powTwo (k : Nat) : Nat := 2 ^ k
def U : Nat := powTwo 1074
theorem U_pow (k : Nat) (h : k = 1074) : U = 2 ^ k := by subst h; rfl
theorem U_pos : 0 < U := by obtain ⟨k, hk⟩ : ∃ k, k = 1074 := ⟨_, rfl⟩; rw [U_pow k hk]; exact Nat.two_pow_pos _
attribute [irreducible] U

theorem signed_eq (s : Bool) (m up : Nat) : signed s m up = if s then -((m * 2 ^ up : Nat) : Int) else ((m * 2 ^ up : Nat) : Int) := by
  unfold signed; rw [Nat.shiftLeft_eq]

theorem signed_mul (s : Bool) (m up k : Nat) : signed s m up * ((2 ^ k : Nat) : Int) = signed s m (up + k) := by
  rw [signed_eq, signed_eq, Nat.pow_add]
  cases s
  · simp only [Bool.false_eq_true, if_false]; rw [← Int.natCast_mul, Nat.mul_assoc]
  · simp only [if_true]; rw [Int.neg_mul, ← Int.natCast_mul, Nat.mul_assoc]

theorem cmp_mul (a b : Int) (k : Nat) (hk : 0 < k) : compare (a * (k : Int)) (b * (k : Int)) = compare a b := by
  have hk' : (0 : Int) < (k : Int) := by omega
  rcases Int.lt_trichotomy a b with h | h | h
  · have h2 := Int.mul_lt_mul_of_pos_right h hk'
    rw [Int.compare_eq_lt.2 h, Int.compare_eq_lt.2 h2]
  · subst h; simp
  · have h2 := Int.mul_lt_mul_of_pos_right h hk'
    rw [Int.compare_eq_gt.2 h, Int.compare_eq_gt.2 h2]

/-- the number of a finite word -/
theorem read_fin' {x : Nat} (h : IsFin x) : ∃ m e, double.read x = .number (sgn x) m e ∧ -1074 ≤ e ∧ e ≤ 2000 ∧ signed (sgn x) m (e + 1074).toNat = fval x ∧ m < 2 ^ 53 := by
  obtain ⟨m, e, h1, h2, h3, h4, h5, _⟩ := read_fin h
  refine ⟨m, e, h1, h2, h3, ?_, h5⟩
  rw [signed_eq, h4]; rfl

theorem order_num (s t : Bool) (m n : Nat) (i j : Int) (hi : -1074 ≤ i) (hj : -1074 ≤ j) :
    Datum.order (.number s m i) (.number t n j) = some (compare (signed s m (i + 1074).toNat) (signed t n (j + 1074).toNat)) := by
  show some (compare (signed s m (i - min i j).toNat) (signed t n (j - min i j).toNat)) = _
  rw [← cmp_mul _ _ _ (Nat.two_pow_pos (min i j + 1074).toNat), signed_mul, signed_mul]
  congr 3 <;> omega

theorem order_fin {x y : Nat} (hx : IsFin x) (hy : IsFin y) : double.order x y = some (compare (fval x) (fval y)) := by
  obtain ⟨m, i, h1, h2, _, h4, _⟩ := read_fin' hx
  obtain ⟨n, j, g1, g2, _, g4, _⟩ := read_fin' hy
  unfold Format.order
  rw [h1, g1, order_num _ _ _ _ _ _ h2 g2, h4, g4]

theorem order_nan_l {x : Nat} (y : Nat) (hx : IsNaN x) : double.order x y = none := by
  obtain ⟨t, h⟩ := read_nan hx
  unfold Format.order; rw [h]; rfl
theorem order_nan_r (x : Nat) {y : Nat} (hy : IsNaN y) : double.order x y = none := by
  obtain ⟨t, h⟩ := read_nan hy
  unfold Format.order; rw [h]; cases double.read x <;> rfl

theorem kept_bounds (mag : Nat) (place : Int) (h : mag ≠ 0) : keptK mag place ≤ 2 ^ 53 ∧ (lastP mag place = -1074 ∨ 2 ^ 52 ≤ keptK mag place) := by
  have h1 := Nat.log2_self_le h
  have h2 := @Nat.lt_log2_self mag
  obtain ⟨lg, hlg⟩ : ∃ lg, lg = mag.log2 := ⟨_, rfl⟩
  obtain ⟨L, hL⟩ : ∃ L, L = lastP mag place := ⟨_, rfl⟩
  have hL' : L = max (place + lg - 52) (-1074) := by rw [hL, hlg]; rfl
  unfold keptK
  rw [← hL]; rw [← hlg] at h1 h2
  by_cases c : L ≤ place
  · obtain ⟨d, hd⟩ : ∃ d : Nat, (place - L).toNat = d := ⟨_, rfl⟩
    rw [hd, show (L - place).toNat = 0 by omega, Nat.pow_zero, rhe_one]
    have h3 : mag * 2 ^ d < 2 ^ (lg + 1 + d) := by rw [Nat.pow_add]; exact Nat.mul_lt_mul_of_pos_right h2 (Nat.two_pow_pos _)
    have h4 : 2 ^ (lg + 1 + d) ≤ 2 ^ 53 := Nat.pow_le_pow_right (by decide) (by omega)
    refine ⟨by omega, ?_⟩
    by_cases e : L = -1074
    · exact Or.inl e
    · right
      have : lg + d = 52 := by omega
      have h5 : 2 ^ (lg + d) ≤ mag * 2 ^ d := by rw [Nat.pow_add]; exact Nat.mul_le_mul_right _ h1
      rw [this] at h5; exact h5
  · obtain ⟨d, hd⟩ : ∃ d : Nat, (L - place).toNat = d := ⟨_, rfl⟩
    rw [hd, show (place - L).toNat = 0 by omega, Nat.pow_zero, Nat.mul_one]
    have hp : 0 < 2 ^ d := Nat.two_pow_pos _
    have h3 : mag / 2 ^ d < 2 ^ 53 := by
      rw [Nat.div_lt_iff_lt_mul hp, ← Nat.pow_add]
      exact Nat.lt_of_lt_of_le h2 (Nat.pow_le_pow_right (by decide) (by omega))
    have := rhe_le mag (2 ^ d)
    refine ⟨by omega, ?_⟩
    by_cases e : L = -1074
    · exact Or.inl e
    · right
      refine Nat.le_trans ?_ (rhe_ge _ _)
      rw [Nat.le_div_iff_mul_le hp, ← Nat.pow_add]
      exact Nat.le_trans (Nat.pow_le_pow_right (by decide) (by omega)) h1

theorem nearest_all (neg : Bool) (mag : Nat) (place : Int) (h : mag ≠ 0) :
    sgn (double.nearest neg mag place) = neg ∧ double.nearest neg mag place < 2 ^ 64 ∧ rung (double.nearest neg mag place) = min ((lastP mag place + 1074).toNat * 2 ^ 52 + keptK mag place) (2047 * 2 ^ 52) := by
  rw [nearest_eq _ _ _ h]
  have e4 : double.infRung = 2047 * 2 ^ 52 := by decide
  rw [e4]
  have := word_sgn neg (min ((lastP mag place + 1074).toNat * 2 ^ 52 + keptK mag place) (2047 * 2 ^ 52)) (by omega)
  exact ⟨this.1, this.2.2, this.2.1⟩

theorem nearest_val (neg : Bool) (mag : Nat) (place : Int) (h : mag ≠ 0) (hb : place + mag.log2 ≤ 1000) :
    IsFin (double.nearest neg mag place) ∧ ru (rung (double.nearest neg mag place)) = keptK mag place * 2 ^ (lastP mag place + 1074).toNat := by
  obtain ⟨_, _, h3⟩ := nearest_all neg mag place h
  obtain ⟨k1, k2⟩ := kept_bounds mag place h
  have hE : (lastP mag place + 1074).toNat ≤ 2022 := by unfold lastP; omega
  have hE2 : (lastP mag place + 1074).toNat * 2 ^ 52 + keptK mag place < 2047 * 2 ^ 52 := by omega
  unfold IsFin
  rw [h3, Nat.min_eq_left (by omega)]
  refine ⟨by omega, ru_mk _ _ k1 ?_⟩
  rcases k2 with k | k
  · left; rw [k]; decide
  · exact Or.inr k

/-- the word of a whole number -/
abbrev F (n : Int) : Nat := floatOfInt .f64 n
theorem F_eq (n : Int) : F n = double.nearest (decide (n < 0)) n.natAbs 0 := rfl
theorem F_zero : F 0 = 0 := by decide
theorem F_lt (n : Int) : F n < 2 ^ 64 := double.nearest_lt _ _ _
theorem sgn_F (n : Int) : sgn (F n) = decide (n < 0) := by
  by_cases h : n = 0
  · subst h; decide
  · exact (nearest_all _ _ _ (by omega)).1

theorem F_small (n : Int) (h : n.natAbs < 2 ^ 53) : IsFin (F n) ∧ fval (F n) = n * (U : Int) := by
  by_cases h0 : n = 0
  · subst h0; rw [F_zero]; refine ⟨by unfold IsFin rung; decide, ?_⟩; rw [Int.zero_mul]; decide
  · have hne : n.natAbs ≠ 0 := by omega
    have hlg : n.natAbs.log2 ≤ 52 := by
      have := (Nat.log2_lt hne (k := 53)).2 h; omega
    obtain ⟨v1, v2⟩ := nearest_val (decide (n < 0)) n.natAbs 0 hne (by omega)
    refine ⟨v1, ?_⟩
    have hr : ru (rung (F n)) = n.natAbs * U := by
      rw [F_eq, v2]
      unfold keptK
      have hL : lastP n.natAbs 0 = n.natAbs.log2 - 52 := by unfold lastP; omega
      rw [hL, show ((n.natAbs.log2 : Int) - 52 - 0).toNat = 0 by omega, Nat.pow_zero, rhe_one, Nat.mul_assoc, ← Nat.pow_add]
      rw [U_pow ((0 - ((n.natAbs.log2 : Int) - 52)).toNat + ((n.natAbs.log2 : Int) - 52 + 1074).toNat) (by omega)]
    unfold fval
    rw [hr, sgn_F]
    by_cases hn : n < 0
    · rw [decide_eq_true hn, if_pos rfl, Int.natCast_mul, ← Int.neg_mul]; congr 1; omega
    · rw [decide_eq_false hn]; simp only [Bool.false_eq_true, if_false]; rw [Int.natCast_mul]; congr 1; omega

/-- a positive number that is 2^53 or more, also infinity -/
def Big (x : Nat) : Prop := rung x ≤ 2047 * 2 ^ 52 ∧ 2 ^ 53 * U ≤ ru (rung x)

theorem of_val {x : Nat} (n : Int) (hx : x < 2 ^ 64) (hv : ru (rung x) = n.natAbs * U) (hn : n.natAbs < 2 ^ 53) (hs : sgn x = decide (n < 0)) : x = F n := by
  refine word_ext hx (F_lt n) (hs.trans (sgn_F n).symm) (ru_inj ?_)
  have := (F_small n hn).2
  unfold fval at this
  rw [sgn_F] at this
  rw [hv]
  by_cases c : n < 0
  · rw [decide_eq_true c, if_pos rfl] at this
    have h2 : ((n.natAbs * U : Nat) : Int) = -(n * (U : Int)) := by rw [Int.natCast_mul, ← Int.neg_mul]; congr 1; omega
    omega
  · rw [decide_eq_false c] at this; simp only [Bool.false_eq_true, if_false] at this
    have h2 : ((n.natAbs * U : Nat) : Int) = n * (U : Int) := by rw [Int.natCast_mul]; congr 1; omega
    omega


theorem cancel_pow {a b k : Nat} (h : a * 2 ^ k = b * 2 ^ k) : a = b := Nat.eq_of_mul_eq_mul_right (Nat.two_pow_pos k) h

theorem rung_F (n : Int) (h : n.natAbs < 2 ^ 53) : ru (rung (F n)) = n.natAbs * U := by
  have := (F_small n h).2
  unfold fval at this
  rw [sgn_F] at this
  by_cases c : n < 0
  · rw [decide_eq_true c, if_pos rfl] at this
    have h2 : ((n.natAbs * U : Nat) : Int) = -(n * (U : Int)) := by rw [Int.natCast_mul, ← Int.neg_mul]; congr 1; omega
    omega
  · rw [decide_eq_false c] at this; simp only [Bool.false_eq_true, if_false] at this
    have h2 : ((n.natAbs * U : Nat) : Int) = n * (U : Int) := by rw [Int.natCast_mul]; congr 1; omega
    omega

/-- F n reads as n, scaled by a power of two -/
theorem read_F (n : Int) (h : n.natAbs < 2 ^ 53) : ∃ j : Nat, double.read (F n) = .number (decide (n < 0)) (n.natAbs * 2 ^ j) (-(j : Int)) ∧ j ≤ 1074 ∧ (n ≠ 0 → 2 ^ 52 ≤ n.natAbs * 2 ^ j ∧ n.natAbs * 2 ^ j < 2 ^ 53) := by
  obtain ⟨m, e, h1, h2, h3, h4, h5, h6⟩ := read_fin (F_small n h).1
  rw [rung_F n h] at h4
  rw [sgn_F] at h1
  obtain ⟨k, hk⟩ : ∃ k, k = 1074 := ⟨_, rfl⟩
  rw [U_pow k hk] at h4
  by_cases h0 : n = 0
  · subst h0
    have hm : m = 0 := by
      have h7 : m * 2 ^ (e + 1074).toNat = 0 := by rw [h4]; exact Nat.zero_mul _
      rcases Nat.mul_eq_zero.1 h7 with c | c
      · exact c
      · have := Nat.two_pow_pos (e + 1074).toNat; omega
    have he : e = -1074 := by omega
    subst he
    refine ⟨k, ?_, by omega, fun c => absurd rfl c⟩
    have hz : (0 : Int).natAbs * 2 ^ k = 0 := Nat.zero_mul _
    rw [h1, hm, hz]; congr 1; omega
  · have hne : n.natAbs ≠ 0 := by omega
    have he : e ≤ 0 := by
      by_cases c : e ≤ 0
      · exact c
      · exfalso
        obtain ⟨u, hu⟩ : ∃ u : Nat, (e + 1074).toNat = u + 1 + k := ⟨(e + 1074).toNat - 1 - k, by omega⟩
        rw [hu, Nat.pow_add, ← Nat.mul_assoc] at h4
        have h7 := cancel_pow h4
        rw [Nat.pow_succ] at h7
        have := Nat.two_pow_pos u
        have h8 : m ≤ m * 2 ^ u := Nat.le_mul_of_pos_right _ this
        have h9 : m * (2 ^ u * 2) = 2 * (m * 2 ^ u) := by rw [← Nat.mul_assoc, Nat.mul_comm 2]
        omega
    obtain ⟨j, hj⟩ : ∃ j : Nat, e = -(j : Int) := ⟨(-e).toNat, by omega⟩
    subst hj
    have hm : m = n.natAbs * 2 ^ j := by
      obtain ⟨u, hu, hu2⟩ : ∃ u : Nat, (-(j : Int) + 1074).toNat = u ∧ j + u = k := ⟨(-(j : Int) + 1074).toNat, rfl, by omega⟩
      rw [hu, ← hu2, Nat.pow_add, ← Nat.mul_assoc] at h4
      exact cancel_pow h4
    refine ⟨j, ?_, by omega, fun _ => ?_⟩
    · rw [h1, hm]
    · rw [← hm]
      refine ⟨?_, h5⟩
      rcases h6 with c | c
      · have hjk : j = k := by omega
        rw [hm, hjk]
        have : 2 ^ 52 ≤ 2 ^ k := Nat.pow_le_pow_right (by decide) (by omega)
        have h7 : 1 * 2 ^ k ≤ n.natAbs * 2 ^ k := Nat.mul_le_mul_right _ (by omega)
        omega
      · exact c

theorem order_F (a b : Int) (ha : a.natAbs < 2 ^ 53) (hb : b.natAbs < 2 ^ 53) : double.order (F a) (F b) = some (compare a b) := by
  rw [order_fin (F_small a ha).1 (F_small b hb).1, (F_small a ha).2, (F_small b hb).2, cmp_mul _ _ _ U_pos]



inductive Cl where
  | nan | other | ours (n : Int)

def SafeN (n : Int) : Prop := -9007199254740991 ≤ n ∧ n ≤ 9007199254740991
theorem SafeN.abs {n : Int} (h : SafeN n) : n.natAbs < 2 ^ 53 := by unfold SafeN at h; omega

/-- between two whole numbers -/
def Frac (x : Nat) : Prop := IsFin x ∧ ru (rung x) % U ≠ 0 ∧ ru (rung x) < 2 ^ 53 * U

def Is (c : Cl) (x : Nat) : Prop :=
  match c with
  | .nan => x < 2 ^ 64 ∧ IsNaN x
  | .other => x < 2 ^ 64 ∧ (Big x ∨ Frac x ∨ x = 2 ^ 63)
  | .ours n => x = F n ∧ SafeN n

theorem ru_inf : 2 ^ 53 * U ≤ ru (2047 * 2 ^ 52) := by
  obtain ⟨k, hk⟩ : ∃ k, k = 1074 := ⟨_, rfl⟩
  obtain ⟨e, he⟩ : ∃ e, e = 1075 := ⟨_, rfl⟩
  have a0 : 2 ^ 53 * U = ru (e * 2 ^ 52 + 2 ^ 52) := by
    rw [ru_mk e (2 ^ 52) (by omega) (by omega), U_pow k hk]; rw [← Nat.pow_add, ← Nat.pow_add]; congr 1; omega
  rw [a0]
  exact Nat.le_of_lt (ru_lt (by omega))

theorem cls (x : Nat) (hx : x < 2 ^ 64) : ∃ c, Is c x := by
  rcases Nat.lt_trichotomy (rung x) (2047 * 2 ^ 52) with h | h | h
  · by_cases b : 2 ^ 53 * U ≤ ru (rung x)
    · exact ⟨.other, hx, Or.inl ⟨Nat.le_of_lt h, b⟩⟩
    · by_cases m : ru (rung x) % U = 0
      · obtain ⟨k, hk⟩ : ∃ k, ru (rung x) = k * U := ⟨_, (Nat.div_mul_cancel (Nat.dvd_of_mod_eq_zero m)).symm⟩
        have hk53 : k < 2 ^ 53 := by
          rw [hk] at b
          exact Nat.lt_of_mul_lt_mul_right (Nat.lt_of_not_le b)
        by_cases z : k = 0
        · subst z
          have hr : rung x = 0 := ru_inj (by rw [hk, ru_zero, Nat.zero_mul])
          unfold rung at hr
          by_cases c : x = 0
          · exact ⟨.ours 0, by rw [c]; exact F_zero.symm, by unfold SafeN; omega⟩
          · exact ⟨.other, hx, Or.inr (Or.inr (by omega))⟩
        · by_cases s : sgn x = true
          · refine ⟨.ours (-(k : Int)), of_val _ hx ?_ (by omega) (by rw [s]; simp; omega), by unfold SafeN; omega⟩
            rw [hk]; congr 1; omega
          · refine ⟨.ours (k : Int), of_val _ hx ?_ (by omega) (by simp at s; rw [s]; simp), by unfold SafeN; omega⟩
            rw [hk]; congr 1
      · exact ⟨.other, hx, Or.inr (Or.inl ⟨h, m, Nat.lt_of_not_le b⟩)⟩
  · refine ⟨.other, hx, Or.inl ⟨Nat.le_of_eq h, ?_⟩⟩
    rw [h]; exact ru_inf
  · exact ⟨.nan, hx, h⟩

theorem Is.lt {c : Cl} {x : Nat} (h : Is c x) : x < 2 ^ 64 := by
  cases c with
  | nan => exact h.1
  | other => exact h.1
  | ours n => rw [h.1]; exact F_lt n

theorem fval_pos {x : Nat} (h : sgn x = false) : fval x = ru (rung x) := by unfold fval; rw [h]; simp
theorem fval_neg {x : Nat} (h : sgn x = true) : fval x = -(ru (rung x) : Int) := by unfold fval; rw [h]; simp

theorem F_lt_big (a : Int) (ha : a.natAbs < 2 ^ 53) : -((2 ^ 53 * U : Nat) : Int) < a * (U : Int) ∧ a * (U : Int) < ((2 ^ 53 * U : Nat) : Int) := by
  have hU : (0 : Int) < (U : Int) := by have := U_pos; omega
  have e : ((2 ^ 53 * U : Nat) : Int) = (2 ^ 53 : Int) * (U : Int) := by rw [Int.natCast_mul]; rfl
  rw [e]
  constructor
  · rw [← Int.neg_mul]; exact Int.mul_lt_mul_of_pos_right (by omega) hU
  · exact Int.mul_lt_mul_of_pos_right (by omega) hU

theorem order_big {x : Nat} (h : Big x) (a : Int) (ha : a.natAbs < 2 ^ 53) :
    double.order x (F a) = some (if sgn x then .lt else .gt) ∧ double.order (F a) x = some (if sgn x then .gt else .lt) := by
  obtain ⟨h1, h2⟩ := h
  rcases Nat.lt_or_eq_of_le h1 with c | c
  · have b := F_lt_big a ha
    have f := (F_small a ha).2
    rw [order_fin c (F_small a ha).1, order_fin (F_small a ha).1 c, f]
    by_cases s : sgn x = true
    · rw [fval_neg s, s, if_pos rfl, if_pos rfl]
      refine ⟨congrArg some (Int.compare_eq_lt.2 (by omega)), congrArg some (Int.compare_eq_gt.2 (by omega))⟩
    · have s' : sgn x = false := by simpa using s
      rw [fval_pos s', s']
      simp only [Bool.false_eq_true, if_false]
      refine ⟨congrArg some (Int.compare_eq_gt.2 (by omega)), congrArg some (Int.compare_eq_lt.2 (by omega))⟩
  · have r := read_inf c
    obtain ⟨j, g, _, _⟩ := read_F a ha
    unfold Format.order
    rw [r, g]
    exact ⟨rfl, rfl⟩

theorem order_frac {x : Nat} (h : Frac x) (a : Int) (ha : a.natAbs < 2 ^ 53) : double.order x (F a) ≠ some .eq ∧ double.order (F a) x ≠ some .eq := by
  obtain ⟨h1, h2, h3⟩ := h
  have f := (F_small a ha).2
  rw [order_fin h1 (F_small a ha).1, order_fin (F_small a ha).1 h1, f]
  have ne : fval x ≠ a * (U : Int) := by
    intro e
    apply h2
    have e2 : ru (rung x) = a.natAbs * U := by
      have : (fval x).natAbs = a.natAbs * U := by rw [e, Int.natAbs_mul, Int.natAbs_natCast]
      rw [← this]; unfold fval; split <;> omega
    rw [e2]; exact Nat.mul_mod_left _ _
  refine ⟨fun e => ne ?_, fun e => ne ?_⟩
  · simpa using e
  · have : compare (a * (U : Int)) (fval x) = .eq := by simpa using e
    simp at this; exact this.symm

theorem cut_zero (neg : Bool) (n drop : Nat) : Toward.zero.cut neg n drop = n / 2 ^ drop := by
  unfold Toward.cut
  dsimp only
  rw [Nat.one_shiftLeft]
  by_cases h : drop ≤ n.log2 + 2
  · rw [Nat.min_eq_left h]; rfl
  · rw [Nat.min_eq_right (by omega)]
    have hl : n < 2 ^ (n.log2 + 1) := Nat.lt_log2_self
    have h2 : 2 ^ (n.log2 + 2) = 2 * 2 ^ (n.log2 + 1) := by rw [Nat.pow_succ, Nat.mul_comm]
    have h3 : 2 ^ (n.log2 + 2) ≤ 2 ^ drop := Nat.pow_le_pow_right (by decide) (by omega)
    rw [Nat.div_eq_of_lt (by omega), Nat.div_eq_of_lt (by omega)]; rfl

theorem integral_fin {x : Nat} (h : IsFin x) : (double.read x).integral .zero = .number (sgn x) (ru (rung x) / U) 0 := by
  obtain ⟨m, e, h1, h2, h3, h4, h5, h6⟩ := read_fin h
  rw [h1]
  show Datum.number _ (Toward.zero.cut _ _ _) 0 = _
  rw [cut_zero, Nat.shiftLeft_eq]
  congr 1
  by_cases c : 0 ≤ e
  · obtain ⟨u, hu⟩ : ∃ u : Nat, u = 1074 := ⟨_, rfl⟩
    rw [show (-e).toNat = 0 by omega, Nat.pow_zero, Nat.div_one, ← h4, U_pow u hu, show (e + 1074).toNat = e.toNat + u by omega, Nat.pow_add, ← Nat.mul_assoc, Nat.mul_div_cancel _ (Nat.two_pow_pos _)]
  · obtain ⟨u, hu⟩ : ∃ u : Nat, u + (-e).toNat = 1074 := ⟨(e + 1074).toNat, by omega⟩
    rw [show e.toNat = 0 by omega, Nat.pow_zero, Nat.mul_one, ← h4, U_pow _ hu, show (e + 1074).toNat = u by omega, Nat.pow_add, Nat.mul_comm (2 ^ u), Nat.mul_div_mul_right _ _ (Nat.two_pow_pos _)]

theorem integral_F (n : Int) (h : n.natAbs < 2 ^ 53) : (double.read (F n)).integral .zero = .number (decide (n < 0)) n.natAbs 0 := by
  rw [integral_fin (F_small n h).1, rung_F n h, sgn_F, Nat.mul_div_cancel _ U_pos]

/-- what math.Trunc gives -/
def truncW (x : Nat) : Nat := double.write ((double.read x).integral .zero)

theorem truncW_F (n : Int) (h : n.natAbs < 2 ^ 53) : truncW (F n) = F n := by
  unfold truncW; rw [integral_F n h]; rfl
theorem truncW_frac {x : Nat} (h : Frac x) : (double.order x (truncW x) == some .eq) = false := by
  have h0 := h
  obtain ⟨h1, h2, h3⟩ := h
  have hd : ru (rung x) / U < 2 ^ 53 := (Nat.div_lt_iff_lt_mul U_pos).2 h3
  unfold truncW
  rw [integral_fin h1]
  obtain ⟨c, hc⟩ : ∃ c, c = ru (rung x) / U := ⟨_, rfl⟩
  rw [← hc] at hd ⊢
  show (double.order x (double.nearest (sgn x) c 0) == some .eq) = false
  by_cases z : c = 0
  · subst z
    have e : double.nearest (sgn x) 0 0 = double.word (sgn x) 0 := by unfold Format.nearest; rfl
    rw [e]
    have w := word_sgn (sgn x) 0 (by decide)
    have hf : IsFin (double.word (sgn x) 0) := by unfold IsFin; rw [w.2.1]; decide
    have hv : fval (double.word (sgn x) 0) = 0 := by unfold fval; rw [w.2.1, ru_zero]; simp
    rw [order_fin h1 hf, hv]
    have : fval x ≠ 0 := by
      intro e2
      apply h2
      have : ru (rung x) = 0 := by unfold fval at e2; split at e2 <;> omega
      rw [this]; exact Nat.zero_mod _
    cases hcmp : compare (fval x) 0
    · rfl
    · exact absurd (by simpa using hcmp) this
    · rfl
  · obtain ⟨n, hn, hs⟩ : ∃ n : Int, n.natAbs = c ∧ sgn x = decide (n < 0) := by
      by_cases s : sgn x = true
      · exact ⟨-(c : Int), by omega, by rw [s]; simp; omega⟩
      · exact ⟨(c : Int), by omega, by simp at s; rw [s]; simp⟩
    rw [hs, ← hn]
    have := (order_frac h0 n (by omega)).1
    rw [← F_eq]
    exact (beq_eq_false_iff_ne).2 this

theorem order_m0 (a : Int) (ha : a.natAbs < 2 ^ 53) : double.order (2 ^ 63) (F a) = some (compare 0 a) ∧ double.order (F a) (2 ^ 63) = some (compare a 0) := by
  have hf : IsFin (2 ^ 63) := by unfold IsFin rung; decide
  have hv : fval (2 ^ 63) = 0 := by decide
  have f := F_small a ha
  rw [order_fin hf f.1, order_fin f.1 hf, hv, f.2]
  constructor
  · have := cmp_mul 0 a U U_pos
    rw [Int.zero_mul] at this; rw [this]
  · have := cmp_mul a 0 U U_pos
    rw [Int.zero_mul] at this; rw [this]
theorem order_m0_self : double.order (2 ^ 63) (2 ^ 63) = some .eq := by decide
theorem order_self {x : Nat} (h : ¬ IsNaN x) : double.order x x = some .eq := by
  unfold IsNaN at h
  rcases Nat.lt_or_eq_of_le (Nat.le_of_not_lt h) with c | c
  · rw [order_fin c c]; simp
  · unfold Format.order; rw [read_inf c]; unfold Datum.order; simp

theorem not_nan_F (n : Int) (h : n.natAbs < 2 ^ 53) : ¬ IsNaN (F n) := by
  have := (F_small n h).1; unfold IsFin at this; unfold IsNaN; omega

end Go.Proofs.Ytkmgdaagannhkaa.Fl
