/-
  Floats as places: what a float is, cut towards 0, beside a whole number: of no program.
-/
import Derived.Test.YtgjnpgeagalcoaaFloat
namespace Go.Proofs.Ytgjnpgeagalcoaa.Fl
open Ieee Go

/-- finite, and below 2^53 -/
def Small (x : Nat) : Prop := IsFin x ∧ ru (rung x) < 2 ^ 53 * U
/-- the whole part, without its sign -/
def gint (x : Nat) : Nat := ru (rung x) / U

theorem three (x : Nat) : IsNaN x ∨ Big x ∨ Small x := by
  rcases Nat.lt_trichotomy (rung x) (2047 * 2 ^ 52) with h | h | h
  · by_cases b : 2 ^ 53 * U ≤ ru (rung x)
    · exact Or.inr (Or.inl ⟨Nat.le_of_lt h, b⟩)
    · exact Or.inr (Or.inr ⟨h, Nat.lt_of_not_le b⟩)
  · exact Or.inr (Or.inl ⟨Nat.le_of_eq h, by rw [h]; exact ru_inf⟩)
  · exact Or.inl h

theorem Big.not_nan {x : Nat} (h : Big x) : ¬ IsNaN x := by unfold IsNaN; have := h.1; omega
theorem Small.not_nan {x : Nat} (h : Small x) : ¬ IsNaN x := by unfold IsNaN; have := h.1; unfold IsFin at this; omega
theorem gint_big {x : Nat} (h : Big x) : 2 ^ 53 ≤ gint x := (Nat.le_div_iff_mul_le U_pos).2 h.2
theorem gint_small {x : Nat} (h : Small x) : gint x < 2 ^ 53 := (Nat.div_lt_iff_lt_mul U_pos).2 h.2
theorem big_rung {x : Nat} (h : Big x) : rung x ≠ 0 := by
  intro e
  have := h.2
  rw [e, ru_zero] at this
  have := Nat.mul_pos (show 0 < 2 ^ 53 by decide) U_pos
  omega

theorem order_neg {x : Nat} (hn : ¬ IsNaN x) (hs : sgn x = true) (hr : rung x ≠ 0) : double.order x 0 = some .lt := by
  rw [← F_zero]
  rcases three x with h | h | h
  · exact absurd h hn
  · rw [(order_big h 0 (by decide)).1, hs]; rfl
  · rw [order_fin h.1 (F_small 0 (by decide)).1, (F_small 0 (by decide)).2, fval_neg hs, Int.zero_mul]
    have : 0 < ru (rung x) := by
      have := ru_lt (show 0 < rung x by omega)
      rw [ru_zero] at this; exact this
    exact congrArg some (Int.compare_eq_lt.2 (by omega))
theorem order_nneg {x : Nat} (hn : ¬ IsNaN x) (h : sgn x = false ∨ rung x = 0) : double.order x 0 = some .eq ∨ double.order x 0 = some .gt := by
  rw [← F_zero]
  rcases three x with h1 | h1 | h1
  · exact absurd h1 hn
  · rcases h with h | h
    · rw [(order_big h1 0 (by decide)).1, h]; exact Or.inr rfl
    · exact absurd h (big_rung h1)
  · rw [order_fin h1.1 (F_small 0 (by decide)).1, (F_small 0 (by decide)).2, Int.zero_mul]
    have h0 : 0 ≤ fval x := by
      rcases h with h | h
      · rw [fval_pos h]; omega
      · unfold fval; rw [h, ru_zero]; split <;> simp
    rcases Int.lt_or_eq_of_le h0 with c | c
    · exact Or.inr (congrArg some (Int.compare_eq_gt.2 c))
    · exact Or.inl (congrArg some (by rw [← c]; simp))

theorem small_toInt {x : Nat} (h : Small x) : floatToIntVal .f64 x .i64 = some (if sgn x then -(gint x : Int) else gint x) := by
  have hd := gint_small h
  have e0 : signed (sgn x) (gint x) 0 = (if sgn x then -(gint x : Int) else gint x) := by
    rw [signed_eq, Nat.pow_zero, Nat.mul_one]
  rw [← e0]
  unfold floatToIntVal
  have e : (FloatKind.f64.decode x).toInt .zero = some (signed (sgn x) (gint x) 0) := by
    show (double.read x).toInt .zero = _
    unfold Datum.toInt; rw [integral_fin h.1]; rfl
  rw [e]
  have : IntKind.i64.min ≤ signed (sgn x) (gint x) 0 ∧ signed (sgn x) (gint x) 0 ≤ IntKind.i64.max := by
    rw [show IntKind.i64.min = -9223372036854775808 by decide, show IntKind.i64.max = 9223372036854775807 by decide, e0]
    split <;> omega
  simp only [this, and_self, if_true]

theorem trunc_zero {x : Nat} (h : Small x) (hg : gint x = 0) : truncW x = double.word (sgn x) 0 := by
  unfold truncW
  rw [integral_fin h.1]
  show double.nearest (sgn x) (gint x) 0 = _
  rw [hg]; rfl
theorem trunc_small {x : Nat} (h : Small x) (hg : gint x ≠ 0) : truncW x = F (if sgn x then -(gint x : Int) else gint x) := by
  unfold truncW
  rw [integral_fin h.1, F_eq]
  show double.nearest (sgn x) (gint x) 0 = _
  cases hs : sgn x
  · have e1 : decide ((gint x : Int) < 0) = false := decide_eq_false (by omega)
    simp only [Bool.false_eq_true, if_false, e1, Int.natAbs_natCast]
  · have e1 : decide (-(gint x : Int) < 0) = true := by rw [decide_eq_true_iff]; omega
    have e2 : (-(gint x : Int)).natAbs = gint x := by omega
    simp only [if_true, e1, e2]

theorem trunc_big {x : Nat} (h : Big x) : Big (truncW x) ∧ sgn (truncW x) = sgn x := by
  rcases Nat.lt_or_eq_of_le h.1 with c | c
  · unfold truncW
    rw [integral_fin c]
    show Big (double.nearest (sgn x) (gint x) 0) ∧ sgn (double.nearest (sgn x) (gint x) 0) = sgn x
    have hg := gint_big h
    have hne : gint x ≠ 0 := by omega
    refine ⟨nearest_big _ _ _ hne ?_, (nearest_all _ _ _ hne).1⟩
    have := (Nat.le_log2 hne (k := 53)).2 hg
    omega
  · have e : truncW x = double.word (sgn x) double.infRung := by unfold truncW; rw [read_inf c]; rfl
    have e4 : double.infRung = 2047 * 2 ^ 52 := by decide
    have ws := word_sgn (sgn x) (2047 * 2 ^ 52) (by decide)
    rw [e, e4]
    refine ⟨⟨by rw [ws.2.1]; exact Nat.le_refl _, by rw [ws.2.1]; exact ru_inf⟩, ws.1⟩

theorem add_m0 (n : Int) (h : n.natAbs < 2 ^ 53) : double.add (F n) (double.word true 0) = some (F n) := by
  obtain ⟨j, h1, hj, _⟩ := read_F n h
  have h2 : double.read (double.word true 0) = .number true 0 (-1074) := by decide
  unfold Format.add
  rw [h1, h2]
  unfold Datum.sum
  simp only [Option.map_some]
  congr 1
  obtain ⟨l, hl⟩ : ∃ l : Nat, min (-(j : Int)) (-1074) = 0 - (l : Int) := ⟨1074, by omega⟩
  have z : ∀ k, signed true 0 k = 0 := by intro k; rw [signed_eq]; simp
  rw [z, Int.add_zero, signed_int, show j + (-(j : Int) - min (-(j : Int)) (-1074)).toNat = l by omega]
  refine write_sum n l _ (fun h => ?_) _ hl
  rw [h]; rfl

theorem nearest_nz (mag : Nat) (place : Int) (h : mag ≠ 0) (hp : -1074 ≤ place) : rung (double.nearest true mag place) ≠ 0 := by
  obtain ⟨_, _, h3⟩ := nearest_all true mag place h
  obtain ⟨_, k2⟩ := kept_bounds mag place h
  rw [h3]
  have key : keptK mag place ≠ 0 := by
    rcases k2 with k | k
    · unfold keptK
      rw [k, show ((-1074 : Int) - place).toNat = 0 by omega, Nat.pow_zero, rhe_one]
      exact Nat.mul_ne_zero h (Nat.ne_of_gt (Nat.two_pow_pos _))
    · omega
  omega

theorem near_lt (t : Int) (j : Nat) (ht : t < 0) (hj : j ≤ 1074) : double.order (double.nearest true t.natAbs (-(j : Int))) 0 = some .lt := by
  have hne : t.natAbs ≠ 0 := by omega
  have ha := nearest_all true t.natAbs (-(j : Int)) hne
  refine order_neg ?_ ha.1 (nearest_nz _ _ hne (by omega))
  unfold IsNaN; rw [ha.2.2]; exact Nat.not_lt.2 (Nat.min_le_right _ _)

theorem add_bigneg (n : Nat) (h : n < 2 ^ 53) {y : Nat} (hy : Big y) (hs : sgn y = true) : ∃ c, double.add (F n) y = some c ∧ double.order c 0 = some .lt := by
  obtain ⟨j, h1, hj, _⟩ := read_F (n : Int) (by omega)
  have hnn : decide ((n : Int) < 0) = false := decide_eq_false (by omega)
  rw [hnn, Int.natAbs_natCast] at h1
  rcases Nat.lt_or_eq_of_le hy.1 with c | c
  · obtain ⟨m, e, h2, h3, h4, h5, h6, h7⟩ := read_fin c
    rw [hs] at h2
    have hbig := hy.2
    rw [← h5] at hbig
    obtain ⟨k, hk⟩ : ∃ k, k = 1074 := ⟨_, rfl⟩
    rw [U_pow k hk] at hbig
    have he : 0 ≤ e := by
      rcases Int.lt_or_le e 0 with hlt | hle
      · exfalso
        have a1 : 2 ^ (e + 1074).toNat ≤ 2 ^ k := Nat.pow_le_pow_right (by decide) (by omega)
        have a2 : m * 2 ^ (e + 1074).toNat < 2 ^ 53 * 2 ^ k := Nat.lt_of_le_of_lt (Nat.mul_le_mul_left m a1) (Nat.mul_lt_mul_of_pos_right h6 (Nat.two_pow_pos _))
        omega
      · exact hle
    obtain ⟨f, rfl⟩ := Int.eq_ofNat_of_zero_le he
    have e5 : ((f : Int) + 1074).toNat = f + k := by omega
    rw [e5, Nat.pow_add, ← Nat.mul_assoc] at hbig
    have hm : 2 ^ 53 ≤ m * 2 ^ f := Nat.le_of_mul_le_mul_right hbig (Nat.two_pow_pos k)
    have hmin : min (-(j : Int)) (f : Int) = -(j : Int) := by omega
    have htot : signed false (n * 2 ^ j) (-(j : Int) - -(j : Int)).toNat + signed true m ((f : Int) - -(j : Int)).toNat < 0 := by
      rw [signed_eq, signed_eq, show (-(j : Int) - -(j : Int)).toNat = 0 by omega, show ((f : Int) - -(j : Int)).toNat = f + j by omega, Nat.pow_zero, Nat.mul_one]
      simp only [Bool.false_eq_true, if_false, if_true]
      have a : n * 2 ^ j < m * 2 ^ (f + j) := by
        rw [Nat.pow_add, ← Nat.mul_assoc]
        exact Nat.mul_lt_mul_of_pos_right (Nat.lt_of_lt_of_le h hm) (Nat.two_pow_pos _)
      omega
    unfold Format.add
    rw [h1, h2]
    unfold Datum.sum
    simp only [Option.map_some, hmin]
    generalize signed false (n * 2 ^ j) (-(j : Int) - -(j : Int)).toNat + signed true m ((f : Int) - -(j : Int)).toNat = t at htot
    refine ⟨double.nearest true t.natAbs (-(j : Int)), ?_, near_lt t j htot hj⟩
    rw [if_neg (Int.ne_of_lt htot), decide_eq_true htot]
    rfl
  · have h2 := read_inf c
    rw [hs] at h2
    unfold Format.add
    rw [h1, h2]
    refine ⟨_, rfl, ?_⟩
    show double.order (double.word true double.infRung) 0 = _
    decide

/-! ### the greater and the lesser of two floats -/
section
variable {P : Program}
theorem run_max_lt (ts : Array TypeId) (t : TypeId) (x y : Nat) (h : double.order x y = some .lt) (w : World) : (Builtin.max_ ts t #[.float .f64 x, .float .f64 y]).run P w = .ok (.float .f64 y) w := by
  have h' : FloatKind.f64.format.order x y = some .lt := h
  simp [Builtin.max_, Builtin.max2, h']
theorem run_max_gt (ts : Array TypeId) (t : TypeId) (x y : Nat) (h : double.order x y = some .gt) (w : World) : (Builtin.max_ ts t #[.float .f64 x, .float .f64 y]).run P w = .ok (.float .f64 x) w := by
  have h' : FloatKind.f64.format.order x y = some .gt := h
  simp [Builtin.max_, Builtin.max2, h']
theorem run_max_same (ts : Array TypeId) (t : TypeId) (x : Nat) (h : double.order x x = some .eq) (w : World) : (Builtin.max_ ts t #[.float .f64 x, .float .f64 x]).run P w = .ok (.float .f64 x) w := by
  have h' : FloatKind.f64.format.order x x = some .eq := h
  simp [Builtin.max_, Builtin.max2, h']
theorem run_min_lt (ts : Array TypeId) (t : TypeId) (x y : Nat) (h : double.order x y = some .lt) (w : World) : (Builtin.min_ ts t #[.float .f64 x, .float .f64 y]).run P w = .ok (.float .f64 x) w := by
  have h' : FloatKind.f64.format.order x y = some .lt := h
  simp [Builtin.min_, Builtin.min2, h']
theorem run_min_gt (ts : Array TypeId) (t : TypeId) (x y : Nat) (h : double.order x y = some .gt) (w : World) : (Builtin.min_ ts t #[.float .f64 x, .float .f64 y]).run P w = .ok (.float .f64 y) w := by
  have h' : FloatKind.f64.format.order x y = some .gt := h
  simp [Builtin.min_, Builtin.min2, h']
theorem run_min_same (ts : Array TypeId) (t : TypeId) (x : Nat) (h : double.order x x = some .eq) (w : World) : (Builtin.min_ ts t #[.float .f64 x, .float .f64 x]).run P w = .ok (.float .f64 x) w := by
  have h' : FloatKind.f64.format.order x x = some .eq := h
  simp [Builtin.min_, Builtin.min2, h']
theorem run_min_m0 (ts : Array TypeId) (t : TypeId) (y : Nat) (h : double.order (double.word true 0) y = some .eq) (w : World) : (Builtin.min_ ts t #[.float .f64 (double.word true 0), .float .f64 y]).run P w = .ok (.float .f64 (double.word true 0)) w := by
  have h' : FloatKind.f64.format.order (double.word true 0) y = some .eq := h
  have h2 : (FloatKind.f64.decode (double.word true 0)).neg = true := by decide
  simp [Builtin.min_, Builtin.min2, h', h2]
end

/-- the place of a float in a string of n bytes -/
def placeN (n x : Nat) : Nat := if 2047 * 2 ^ 52 < rung x then 0 else if sgn x = true ∧ rung x ≠ 0 then n - gint x else min (gint x) n

theorem order_FF (a b : Nat) (ha : a < 2 ^ 53) (hb : b < 2 ^ 53) : double.order (F a) (F b) = some (compare (a : Int) (b : Int)) := order_F a b (by omega) (by omega)

/-- below 0: the end and the float cut, or 0 -/
theorem place_neg {x : Nat} (hn : ¬ IsNaN x) (hs : sgn x = true) (n : Nat) (hN : n < 2 ^ 52) :
    ∃ s m, double.add (F n) (truncW x) = some s ∧ (∀ (P : Program) ts t w, (Builtin.max_ ts t #[.float .f64 s, .float .f64 0]).run P w = .ok (.float .f64 m) w) ∧ floatToIntVal .f64 m .i64 = some ((n - gint x : Nat) : Int) := by
  rcases three x with h | h | h
  · exact absurd h hn
  · obtain ⟨hb, ht⟩ := trunc_big h
    obtain ⟨c, h1, h2⟩ := add_bigneg n (by omega) hb (ht.trans hs)
    refine ⟨c, 0, h1, fun P ts t w => run_max_lt ts t c 0 h2 w, ?_⟩
    have := gint_big h
    have e : (n - gint x : Nat) = 0 := by omega
    rw [e, ← F_zero]; exact floatToIntVal_F 0 (by decide)
  · have hg := gint_small h
    by_cases g0 : gint x = 0
    · have e1 : truncW x = double.word true 0 := by rw [trunc_zero h g0, hs]
      rw [e1, g0]
      refine ⟨F n, F n, add_m0 n (by omega), ?_, floatToIntVal_F n (by omega)⟩
      intro P ts t w
      by_cases n0 : n = 0
      · subst n0
        have e0 : F ((0 : Nat) : Int) = 0 := by decide
        rw [e0]
        exact run_max_same ts t 0 (by decide) w
      · refine run_max_gt ts t (F n) 0 ?_ w
        have := order_FF n 0 (by omega) (by decide)
        rw [show F ((0 : Nat) : Int) = 0 by decide] at this
        rw [this]; exact congrArg some (Int.compare_eq_gt.2 (by omega))
    · have e1 : truncW x = F (-(gint x : Int)) := by rw [trunc_small h g0, hs]; rfl
      rw [e1]
      have hadd := add_F (n : Int) (-(gint x : Int)) (by omega) (by omega)
      refine ⟨_, F ((n - gint x : Nat) : Int), hadd, ?_, floatToIntVal_F _ (by omega)⟩
      intro P ts t w
      have ho := order_F ((n : Int) + -(gint x : Int)) 0 (by omega) (by decide)
      rw [F_zero] at ho
      rcases Int.lt_trichotomy ((n : Int) + -(gint x : Int)) 0 with c | c | c
      · rw [Int.compare_eq_lt.2 c] at ho
        have e : ((n - gint x : Nat) : Int) = 0 := by omega
        rw [e, F_zero]
        exact run_max_lt ts t _ 0 ho w
      · have e : ((n - gint x : Nat) : Int) = 0 := by omega
        rw [c, e, F_zero]
        exact run_max_same ts t 0 (by decide) w
      · rw [Int.compare_eq_gt.2 c] at ho
        have e : ((n - gint x : Nat) : Int) = (n : Int) + -(gint x : Int) := by omega
        rw [e]
        exact run_max_gt ts t _ 0 ho w

/-- not below 0: the float cut, or the end -/
theorem place_pos {x : Nat} (hn : ¬ IsNaN x) (hs : sgn x = false ∨ rung x = 0) (n : Nat) (hN : n < 2 ^ 52) :
    ∃ m, (∀ (P : Program) ts t w, (Builtin.min_ ts t #[.float .f64 (truncW x), .float .f64 (F n)]).run P w = .ok (.float .f64 m) w) ∧ floatToIntVal .f64 m .i64 = some ((min (gint x) n : Nat) : Int) := by
  rcases three x with h | h | h
  · exact absurd h hn
  · obtain ⟨hb, ht⟩ := trunc_big h
    have hs' : sgn x = false := by
      rcases hs with c | c
      · exact c
      · exact absurd c (big_rung h)
    have ho := (order_big hb (n : Int) (by omega)).1
    rw [ht, hs'] at ho
    refine ⟨F n, fun P ts t w => run_min_gt ts t _ _ ho w, ?_⟩
    have := gint_big h
    rw [Nat.min_eq_right (by omega)]
    exact floatToIntVal_F n (by omega)
  · have hg := gint_small h
    by_cases g0 : gint x = 0
    · rw [g0, Nat.zero_min]
      cases hx : sgn x
      · have e1 : truncW x = 0 := by rw [trunc_zero h g0, hx]; rfl
        rw [e1]
        refine ⟨0, fun P ts t w => ?_, by rw [← F_zero]; exact floatToIntVal_F 0 (by decide)⟩
        by_cases n0 : n = 0
        · subst n0
          rw [show F ((0 : Nat) : Int) = 0 by decide]
          exact run_min_same ts t 0 (by decide) w
        · refine run_min_lt ts t _ _ ?_ w
          have := order_FF 0 n (by decide) (by omega)
          rw [show F ((0 : Nat) : Int) = 0 by decide] at this
          rw [this]; exact congrArg some (Int.compare_eq_lt.2 (by omega))
      · have e1 : truncW x = double.word true 0 := by rw [trunc_zero h g0, hx]
        rw [e1]
        refine ⟨double.word true 0, fun P ts t w => ?_, by decide⟩
        have ho := (order_m0 (n : Int) (by omega)).1
        rw [show (2 ^ 63 : Nat) = double.word true 0 by decide] at ho
        by_cases n0 : n = 0
        · subst n0
          exact run_min_m0 ts t _ ho w
        · rw [show compare (0 : Int) (n : Int) = .lt from Int.compare_eq_lt.2 (by omega)] at ho
          exact run_min_lt ts t _ _ ho w
    · have hs' : sgn x = false := by
        rcases hs with c | c
        · exact c
        · exfalso; apply g0; unfold gint; rw [c, ru_zero]; exact Nat.zero_div _
      have e1 : truncW x = F (gint x) := by rw [trunc_small h g0, hs']; rfl
      rw [e1]
      have ho := order_FF (gint x) n hg (by omega)
      rcases Nat.lt_trichotomy (gint x) n with c | c | c
      · rw [Int.compare_eq_lt.2 (by omega)] at ho
        rw [Nat.min_eq_left (by omega)]
        exact ⟨_, fun P ts t w => run_min_lt ts t _ _ ho w, floatToIntVal_F _ (by omega)⟩
      · rw [← c, Nat.min_self]
        exact ⟨_, fun P ts t w => run_min_same ts t _ (order_self (not_nan_F _ (by omega))) w, floatToIntVal_F _ (by omega)⟩
      · rw [Int.compare_eq_gt.2 (by omega)] at ho
        rw [Nat.min_eq_right (by omega)]
        exact ⟨_, fun P ts t w => run_min_gt ts t _ _ ho w, floatToIntVal_F _ (by omega)⟩
end Go.Proofs.Ytgjnpgeagalcoaa.Fl
