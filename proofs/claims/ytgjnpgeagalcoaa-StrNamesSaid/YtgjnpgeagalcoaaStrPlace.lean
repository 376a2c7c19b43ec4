/-
  The place of a float, Part and At, the program's and the document's own: walks.
-/
import Derived.Test.YtgjnpgeagalcoaaStrFloat
import Derived.Test.YtgjnpgeagalcoaaStrMade
import Derived.Deep.QuietTactic
import Derived.BigQuiet
namespace Go.Proofs.Ytgjnpgeagalcoaa
open Go.RowKit Fl

theorem sp_archTrunc (x : Nat) (w : World) (h : ¬ IsNaN x) : (callFunc 52 #[.float .f64 x]).run Try.prog w = .ok (.value (.float .f64 (truncW x))) w := by
  rw [run_callFunc_extern Try.func52 (by kernel_rfl) (by kernel_rfl) (by kernel_rfl) (e := Extern.MathFloor.toIntegral "math.archTrunc" .zero) (by kernel_rfl)]
  have e : Extern.MathFloor.toIntegral "math.archTrunc" .zero #[.float .f64 x] = pure (.float .f64 (truncW x)) := by
    show (match Ieee.double.read x with
      | .nan s t => _
      | d => (pure (.float .f64 (Ieee.double.write (d.integral .zero))) : Sem Value)) = _
    unfold truncW
    cases hd : Ieee.double.read x with
    | nan s t => exact absurd hd (by
        intro hd
        rcases Nat.lt_or_eq_of_le (Nat.le_of_not_lt h) with c | c
        · obtain ⟨m, e, h1, _⟩ := read_fin c
          rw [h1] at hd; cases hd
        · rw [read_inf c] at hd; cases hd)
    | number s m i => rfl
    | infinity s => rfl
  rw [e]; rfl

theorem sp_Trunc (x : Nat) (w : World) (hn : ¬ IsNaN x) :
    Calls Try.prog 44 #[.float .f64 x] w fun e w' => e = .returned (.float .f64 (truncW x)) ∧ w = w' := by
  have ht := fun w => sp_archTrunc x w hn
  go_enter Try.func44, Try.ntmps44
  go_wp2
  go_ret
  exact ⟨rfl, rfl⟩

theorem sp_none (x : Nat) (w : World) :
    Calls Try.prog 51 #[.float .f64 x] w fun e w' => e = .returned (.bool (FloatKind.f64.format.order x x != some .eq)) ∧ w = w' := by
  go_enter Try.func51, Try.ntmps51
  go_wp2
  go_ret
  exact ⟨rfl, rfl⟩

def sp_lessV (x y : Nat) : Int := if FloatKind.f64.format.order x x != some .eq || FloatKind.f64.format.order y y != some .eq then -1 else if FloatKind.f64.format.order x y == some .lt then 1 else 0
theorem sp_Less (x y : Nat) (w : World) :
    Calls Try.prog 43 #[.float .f64 x, .float .f64 y] w fun e w' => e = .returned (.int .i64 (sp_lessV x y)) ∧ w = w' := by
  go_enter Try.func43, Try.ntmps43
  go_wp2_with (go_at_call 51; refine (sp_none _ _).mono ?_; rintro e w' ⟨rfl, rfl⟩)
  all_goals (go_ret; exact ⟨ret_int (by simp [sp_lessV, *]), rfl⟩)

theorem lessV_nan {x : Nat} (h : IsNaN x) : sp_lessV x 0 = -1 := by
  have ho : FloatKind.f64.format.order x x = none := order_nan_l x h
  unfold sp_lessV; rw [ho]; rfl
theorem lessV_lt {x : Nat} (hn : ¬ IsNaN x) (h : Ieee.double.order x 0 = some .lt) : sp_lessV x 0 = 1 := by
  have ho : FloatKind.f64.format.order x x = some .eq := order_self hn
  have h0 : FloatKind.f64.format.order 0 0 = some .eq := by decide
  have h1 : FloatKind.f64.format.order x 0 = some .lt := h
  unfold sp_lessV; rw [ho, h0, h1]; rfl
theorem lessV_ge {x : Nat} (hn : ¬ IsNaN x) (h : Ieee.double.order x 0 = some .eq ∨ Ieee.double.order x 0 = some .gt) : sp_lessV x 0 = 0 := by
  have ho : FloatKind.f64.format.order x x = some .eq := order_self hn
  have h0 : FloatKind.f64.format.order 0 0 = some .eq := by decide
  unfold sp_lessV; rw [ho, h0]
  rcases h with h | h
  · have h1 : FloatKind.f64.format.order x 0 = some .eq := h
    rw [h1]; rfl
  · have h1 : FloatKind.f64.format.order x 0 = some .gt := h
    rw [h1]; rfl

theorem sp_conv {x : Nat} {k : Int} (h : floatToIntVal .f64 x .i64 = some k) (w : World) : (convert 22 3 (.float .f64 x)).run Try.prog w = .ok (.int .i64 k) w :=
  run_convert_float_int w _ _ .f64 .i64 x k (by rw [Try.underlying22]; rfl) Try.underlying3 h

theorem placeN_nan {n x : Nat} (h : IsNaN x) : placeN n x = 0 := if_pos h
theorem placeN_neg {n x : Nat} (h : ¬ IsNaN x) (hs : sgn x = true) (hr : rung x ≠ 0) : placeN n x = n - gint x := by
  unfold IsNaN at h; unfold placeN; rw [if_neg h, if_pos ⟨hs, hr⟩]
theorem placeN_pos {n x : Nat} (h : ¬ IsNaN x) (hs : sgn x = false ∨ rung x = 0) : placeN n x = min (gint x) n := by
  unfold IsNaN at h
  unfold placeN
  rw [if_neg h, if_neg]
  rintro ⟨h1, h2⟩
  rcases hs with c | c
  · rw [c] at h1; cases h1
  · exact h2 c

theorem place_any (s : ByteArray) (x : Nat) (w : World) (hs : s.size ≤ 9000) : Calls Try.prog 28 #[.string s, .float .f64 x] w fun e w' => e = .returned (.int .i64 (placeN s.size x : Int)) ∧ w = w' := by
  have kl := fun w => sp_Less x 0 w
  by_cases hn : IsNaN x
  · rw [lessV_nan hn] at kl
    rw [placeN_nan hn]
    clear hn
    go_enter Try.func28, Try.ntmps28
    go_wp2_with (go_at_call 43; refine (kl _).mono ?_; rintro e w' ⟨rfl, rfl⟩)
    go_ret
    exact ⟨rfl, rfl⟩
  · have kt := fun w => sp_Trunc x w hn
    by_cases hneg : sgn x = true ∧ rung x ≠ 0
    · obtain ⟨h1, h2⟩ := hneg
      rw [lessV_lt hn (order_neg hn h1 h2)] at kl
      obtain ⟨t, m, ha, hm, hf⟩ := place_neg hn h1 s.size (by omega)
      rw [placeN_neg hn h1 h2]
      generalize s.size - gint x = r at *
      have hadd := fun w => run_float_arith (P := Try.prog) w .add 22 .f64 _ _ _ ha
      have hmax := fun ts t w => hm Try.prog ts t w
      have hc := fun w => sp_conv hf w
      clear ha hm hf h1 h2 hn
      go_enter Try.func28, Try.ntmps28
      go_wp2_with (first
        | (go_at_call 43; refine (kl _).mono ?_; rintro e w' ⟨rfl, rfl⟩)
        | (go_at_call 44; refine (kt _).mono ?_; rintro e w' ⟨rfl, rfl⟩))
      go_ret
      exact ⟨rfl, rfl⟩
    · have hp : sgn x = false ∨ rung x = 0 := by
        cases hsx : sgn x
        · exact Or.inl rfl
        · exact Or.inr (Decidable.byContradiction fun h => hneg ⟨hsx, h⟩)
      rw [lessV_ge hn (order_nneg hn hp)] at kl
      obtain ⟨m, hm, hf⟩ := place_pos hn hp s.size (by omega)
      rw [placeN_pos hn hp]
      generalize min (gint x) s.size = r at *
      have hmin := fun ts t w => hm Try.prog ts t w
      have hc := fun w => sp_conv hf w
      clear hm hf hp hneg hn
      go_enter Try.func28, Try.ntmps28
      go_wp2_with (first
        | (go_at_call 43; refine (kl _).mono ?_; rintro e w' ⟨rfl, rfl⟩)
        | (go_at_call 44; refine (kt _).mono ?_; rintro e w' ⟨rfl, rfl⟩))
      go_ret
      exact ⟨rfl, rfl⟩

/-! ### the document's own -/
@[go_sem] theorem unary_negf (k : FloatKind) (b : Nat) : Op.unary .neg (.float k b) = pure (.float k (Op.negFloat k b)) := rfl

theorem ref_neg {x : Nat} (hn : ¬ IsNaN x) (hs : sgn x = true) (hr : rung x ≠ 0) (n : Nat) (hN : n < 2 ^ 52) :
    ∃ o, Ieee.double.order x (Op.negFloat .f64 (F n)) = some o ∧ ((o = .lt ∧ n ≤ gint x) ∨ (o = .eq ∧ n ≤ gint x) ∨ (o = .gt ∧ gint x < n ∧ Small x)) := by
  by_cases n0 : n = 0
  · subst n0
    have e : Op.negFloat .f64 (F ((0 : Nat) : Int)) = 2 ^ 63 := by decide
    rw [e]
    refine ⟨.lt, ?_, Or.inl ⟨rfl, Nat.zero_le _⟩⟩
    have hf : IsFin (2 ^ 63) := by unfold IsFin rung; decide
    have hv : fval (2 ^ 63) = 0 := by decide
    rcases Nat.lt_trichotomy (rung x) (2047 * 2 ^ 52) with c | c | c
    · rw [order_fin c hf, hv, fval_neg hs]
      have : 0 < ru (rung x) := by
        have := ru_lt (show 0 < rung x by omega)
        rw [ru_zero] at this; exact this
      exact congrArg some (Int.compare_eq_lt.2 (by omega))
    · unfold Ieee.Format.order
      rw [read_inf c, hs, show Ieee.double.read (2 ^ 63) = .number true 0 (-1074) by decide]; rfl
    · exact absurd c hn
  · have e : Op.negFloat .f64 (F (n : Int)) = F (-(n : Int)) := neg_F (n : Int) (by omega) (by omega)
    rw [e]
    rcases three x with h | h | h
    · exact absurd h hn
    · refine ⟨.lt, ?_, Or.inl ⟨rfl, ?_⟩⟩
      · rw [(order_big h _ (by omega)).1, hs]; rfl
      · have := gint_big h; omega
    · have ho := order_fin h.1 (F_small (-(n : Int)) (by omega)).1
      rw [(F_small (-(n : Int)) (by omega)).2, fval_neg hs] at ho
      have hle : n ≤ gint x ↔ n * U ≤ ru (rung x) := Nat.le_div_iff_mul_le U_pos
      have e2 : -(n : Int) * (U : Int) = -((n * U : Nat) : Int) := by rw [Int.neg_mul, Int.natCast_mul]
      rw [e2] at ho
      rcases Nat.lt_trichotomy (ru (rung x)) (n * U) with c | c | c
      · refine ⟨.gt, ?_, Or.inr (Or.inr ⟨rfl, ?_, h⟩)⟩
        · rw [ho]; exact congrArg some (Int.compare_eq_gt.2 (by omega))
        · exact Nat.lt_of_not_le fun d => by have := hle.1 d; omega
      · refine ⟨.eq, ?_, Or.inr (Or.inl ⟨rfl, hle.2 (by omega)⟩)⟩
        rw [ho, c]; simp
      · refine ⟨.lt, ?_, Or.inl ⟨rfl, hle.2 (by omega)⟩⟩
        rw [ho]; exact congrArg some (Int.compare_eq_lt.2 (by omega))

theorem ref_pos {x : Nat} (hn : ¬ IsNaN x) (hs : sgn x = false ∨ rung x = 0) (n : Nat) (hN : n < 2 ^ 52) :
    ∃ o, Ieee.double.order x (F n) = some o ∧ ((o = .gt ∧ n ≤ gint x) ∨ (o = .eq ∧ n ≤ gint x) ∨ (o = .lt ∧ gint x < n ∧ floatToIntVal .f64 x .i64 = some (gint x : Int))) := by
  rcases three x with h | h | h
  · exact absurd h hn
  · refine ⟨.gt, ?_, Or.inl ⟨rfl, ?_⟩⟩
    · rcases hs with c | c
      · rw [(order_big h _ (by omega)).1, c]; rfl
      · exact absurd c (big_rung h)
    · have := gint_big h; omega
  · have ho := order_fin h.1 (F_small (n : Int) (by omega)).1
    have hv : fval x = (ru (rung x) : Int) := by
      rcases hs with c | c
      · exact fval_pos c
      · unfold fval; rw [c, ru_zero]; simp
    have hi : floatToIntVal .f64 x .i64 = some (gint x : Int) := by
      rw [small_toInt h]
      rcases hs with c | c
      · rw [c]; rfl
      · have e : gint x = 0 := by unfold gint; rw [c, ru_zero]; exact Nat.zero_div _
        rw [e]; simp
    rw [(F_small (n : Int) (by omega)).2, hv, ← Int.natCast_mul] at ho
    have hle : n ≤ gint x ↔ n * U ≤ ru (rung x) := Nat.le_div_iff_mul_le U_pos
    rcases Nat.lt_trichotomy (ru (rung x)) (n * U) with c | c | c
    · refine ⟨.lt, ?_, Or.inr (Or.inr ⟨rfl, ?_, hi⟩)⟩
      · rw [ho]; exact congrArg some (Int.compare_eq_lt.2 (by omega))
      · exact Nat.lt_of_not_le fun d => by have := hle.1 d; omega
    · refine ⟨.eq, ?_, Or.inr (Or.inl ⟨rfl, hle.2 (by omega)⟩)⟩
      rw [ho, c]; simp
    · refine ⟨.gt, ?_, Or.inl ⟨rfl, hle.2 (by omega)⟩⟩
      rw [ho]; exact congrArg some (Int.compare_eq_gt.2 (by omega))

theorem refPlace_any (s : ByteArray) (x : Nat) (w : World) (hs : s.size ≤ 9000) : Calls Try.prog 39 #[.string s, .float .f64 x] w fun e w' => e = .returned (.int .i64 (placeN s.size x : Int)) ∧ w = w' := by
  by_cases hn : IsNaN x
  · have ho : FloatKind.f64.format.order x x = none := order_nan_l x hn
    rw [placeN_nan hn]
    clear hn
    go_enter Try.func39, Try.ntmps39
    go_wp2
    go_ret
    exact ⟨rfl, rfl⟩
  · have ho : FloatKind.f64.format.order x x = some .eq := order_self hn
    by_cases hneg : sgn x = true ∧ rung x ≠ 0
    · obtain ⟨h1, h2⟩ := hneg
      have h0 : FloatKind.f64.format.order x 0 = some .lt := order_neg hn h1 h2
      obtain ⟨o, h3, h4⟩ := ref_neg hn h1 h2 s.size (by omega)
      have h3' : FloatKind.f64.format.order x (Op.negFloat .f64 (F s.size)) = some o := h3
      rw [placeN_neg hn h1 h2]
      clear h3 h2 hn
      rcases h4 with ⟨rfl, h5⟩ | ⟨rfl, h5⟩ | ⟨rfl, h5, h6⟩
      · rw [show s.size - gint x = 0 by omega]
        clear h1
        go_enter Try.func39, Try.ntmps39
        go_wp2
        go_ret
        exact ⟨rfl, rfl⟩
      · rw [show s.size - gint x = 0 by omega]
        clear h1
        go_enter Try.func39, Try.ntmps39
        go_wp2
        go_ret
        exact ⟨rfl, rfl⟩
      · have hf := small_toInt h6
        rw [h1, if_pos rfl] at hf
        generalize gint x = g at *
        have hc := fun w => sp_conv hf w
        clear h6 hf h1
        go_enter Try.func39, Try.ntmps39
        go_wp2
        go_ret
        exact ⟨ret_int (by omega), rfl⟩
    · have hp : sgn x = false ∨ rung x = 0 := by
        cases hsx : sgn x
        · exact Or.inl rfl
        · exact Or.inr (Decidable.byContradiction fun h => hneg ⟨hsx, h⟩)
      have h0 : (FloatKind.f64.format.order x 0 == some .lt) = false := by
        rcases order_nneg hn hp with h | h
        · rw [show FloatKind.f64.format.order x 0 = some .eq from h]; rfl
        · rw [show FloatKind.f64.format.order x 0 = some .gt from h]; rfl
      obtain ⟨o, h3, h4⟩ := ref_pos hn hp s.size (by omega)
      have h3' : FloatKind.f64.format.order x (F s.size) = some o := h3
      rw [placeN_pos hn hp]
      clear h3 hp hneg hn
      rcases h4 with ⟨rfl, h5⟩ | ⟨rfl, h5⟩ | ⟨rfl, h5, h6⟩
      · rw [Nat.min_eq_right h5]
        go_enter Try.func39, Try.ntmps39
        go_wp2
        go_ret
        exact ⟨rfl, rfl⟩
      · rw [Nat.min_eq_right h5]
        go_enter Try.func39, Try.ntmps39
        go_wp2
        go_ret
        exact ⟨rfl, rfl⟩
      · rw [Nat.min_eq_left (Nat.le_of_lt h5)]
        generalize gint x = g at *
        have hc := fun w => sp_conv h6 w
        clear h6
        go_enter Try.func39, Try.ntmps39
        go_wp2
        go_ret
        exact ⟨rfl, rfl⟩
end Go.Proofs.Ytgjnpgeagalcoaa
