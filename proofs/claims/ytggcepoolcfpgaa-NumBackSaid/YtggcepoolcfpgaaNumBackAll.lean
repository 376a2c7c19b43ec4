/-
  NumBack: for every two floats one of its ways is gone, and it answers true.
-/
import Derived.Test.YtggcepoolcfpgaaNumBackWays
import Derived.Test.YtggcepoolcfpgaaNumBackZero
namespace Go.Proofs.Ytggcepoolcfpgaa
open Go.RowKit Fl

theorem add_ok {a b s : Int} (ha : SafeN a) (hb : SafeN b) (e : sumR a b = .ok s) : CallsOk 7 (F a) (F b) (F s) := fun w => (Add_cls (is_ours ha) (is_ours hb) w).mono fun _ _ h => okAt rfl (by rw [opR_ours, e] at h; exact h)
theorem add_bad {a b : Int} (ha : SafeN a) (hb : SafeN b) (e : sumR a b = .err 10) : CallsBad 7 (F a) (F b) := fun w => (Add_cls (is_ours ha) (is_ours hb) w).mono fun _ _ h => badAt (by rw [opR_ours, e] at h; exact h)
theorem sub_ok {a b s : Int} (ha : SafeN a) (hb : SafeN b) (e : subR a b = .ok s) : CallsOk 8 (F a) (F b) (F s) := fun w => (Sub_cls (is_ours ha) (is_ours hb) w).mono fun _ _ h => okAt rfl (by rw [opR_ours, e] at h; exact h)
theorem mul_ok {a b s : Int} (ha : SafeN a) (hb : SafeN b) (e : mulR a b = .ok s) : CallsOk 9 (F a) (F b) (F s) := fun w => (Mul_cls (is_ours ha) (is_ours hb) w).mono fun _ _ h => okAt rfl (by rw [opR_ours, e] at h; exact h)
theorem mul_bad {a b : Int} (ha : SafeN a) (hb : SafeN b) (e : mulR a b = .err 10) : CallsBad 9 (F a) (F b) := fun w => (Mul_cls (is_ours ha) (is_ours hb) w).mono fun _ _ h => badAt (by rw [opR_ours, e] at h; exact h)
theorem div_ok {a b s : Int} (ha : SafeN a) (hb : SafeN b) (e : divR a b = .ok s) : CallsOk 10 (F a) (F b) (F s) := fun w => (Div_cls (is_ours ha) (is_ours hb) w).mono fun _ _ h => okAt rfl (by rw [opR_ours, e] at h; exact h)
theorem div_bad {a b : Int} (ha : SafeN a) (hb : SafeN b) (e : divR a b = .err 10) : CallsBad 10 (F a) (F b) := fun w => (Div_cls (is_ours ha) (is_ours hb) w).mono fun _ _ h => badAt (by rw [opR_ours, e] at h; exact h)
theorem rem_ok {a b s : Int} (ha : SafeN a) (hb : SafeN b) (e : remR a b = .ok s) : CallsOk 11 (F a) (F b) (F s) := fun w => (Rem_cls (is_ours ha) (is_ours hb) w).mono fun _ _ h => okAt rfl (by rw [opR_ours, e] at h; exact h)
theorem rem_bad {a b : Int} (ha : SafeN a) (hb : SafeN b) (e : remR a b = .err 10) : CallsBad 11 (F a) (F b) := fun w => (Rem_cls (is_ours ha) (is_ours hb) w).mono fun _ _ h => badAt (by rw [opR_ours, e] at h; exact h)

theorem lims {b r : Int} (hb : SafeN b) (_b0 : b ≠ 0) (hr : SafeN r) (h1 : -(b.natAbs : Int) < r) (h2 : r < (b.natAbs : Int)) :
    FloatKind.f64.format.order (F r) (F (sizeV b)) = some .lt ∧ FloatKind.f64.format.order (F r) (Op.negFloat .f64 (F (sizeV b))) = some .gt := by
  have hbA := hb.abs
  have e : Op.negFloat .f64 (F (sizeV b)) = F (-(b.natAbs : Int)) := neg_F (sizeV b) (by unfold sizeV; omega) (by unfold sizeV; omega)
  rw [e]
  exact ⟨(order_F r (sizeV b) hr.abs (by unfold sizeV; omega)).trans (congrArg some (Int.compare_eq_lt.2 h2)), (order_F r (-(b.natAbs : Int)) hr.abs (by omega)).trans (congrArg some (Int.compare_eq_gt.2 h1))⟩

theorem order_ne {n : Int} (h : SafeN n) (h0 : n ≠ 0) : (FloatKind.f64.format.order (F n) 0 == some Ordering.eq) = false ∧ (FloatKind.f64.format.order (F n) 0 != some Ordering.eq) = true := by
  rw [order_zero h]
  have : compare n 0 ≠ .eq := fun e => h0 (by simpa using e)
  cases hc : compare n 0 <;> first | exact absurd hc this | exact ⟨rfl, rfl⟩

set_option maxHeartbeats 1000000 in
theorem NumBack_some {a b : Int} (ha : SafeN a) (hb : SafeN b) (b0 : b ≠ 0) (w : World) :
    Calls Try.prog 6 #[.float .f64 (F a), .float .f64 (F b)] w fun e w' => e = .returned (.bool true) ∧ Below w.heap.size w w' := by
  have m1 : ∀ w, Calls Try.prog 20 #[.float .f64 (F a)] w fun e w' => e = .returned (.bool true) ∧ w = w' := fun w => May_cls (is_ours ha) w
  have m2 : ∀ w, Calls Try.prog 20 #[.float .f64 (F b)] w fun e w' => e = .returned (.bool true) ∧ w = w' := fun w => May_cls (is_ours hb) w
  have hx : FloatKind.f64.format.order (F a) (F a) = some .eq := self_cls (is_ours ha)
  have hy : FloatKind.f64.format.order (F b) (F b) = some .eq := self_cls (is_ours hb)
  have hsz := fun w => lawsize_any b hb w
  have s0 : SafeN 0 := by unfold SafeN; omega
  have o0 : FloatKind.f64.format.order (F 0) 0 = some .eq := by decide
  have q0 : FloatKind.f64.format.order (F 0) (F 0) = some .eq := by decide
  obtain ⟨oy1, oy2⟩ := order_ne hb b0
  by_cases a0 : a = 0
  · subst a0
    have eS : sumR 0 b = .ok b := by unfold sumR; rw [Int.zero_add]; exact tellN_ok hb
    have c1 := add_ok ha hb eS
    have c2 := sub_ok hb hb (show subR b b = .ok 0 by unfold subR; rw [Int.sub_self]; exact tellN_ok s0)
    have eR : remR 0 b = .ok 0 := by unfold remR; rw [if_neg b0, if_neg (by omega), Int.zero_tmod]
    have c7 := rem_ok ha hb eR
    have c8 := sub_ok ha s0 (show subR 0 0 = .ok 0 by unfold subR; rw [Int.sub_self]; exact tellN_ok s0)
    by_cases d : 0 < b
    · have oy : FloatKind.f64.format.order (F b) 0 = some .gt := (order_zero hb).trans (congrArg some (Int.compare_eq_gt.2 d))
      have eM : mulR 0 b = .ok 0 := by unfold mulR; rw [if_pos (Or.inl rfl), if_neg (by omega)]
      have eD : divR 0 b = .ok 0 := by unfold divR; rw [if_neg b0, if_pos rfl, if_neg (by omega)]
      have c3 := mul_ok ha hb eM
      have c4 := div_ok s0 hb eD
      (with_reducible apply nb_zp (fs := F b) (fp := F 0) (fq := F 0) (fr := F 0) (ft := F 0)) <;> with_reducible assumption
    · have oy : FloatKind.f64.format.order (F b) 0 = some .lt := (order_zero hb).trans (congrArg some (Int.compare_eq_lt.2 (by omega)))
      have eM : mulR 0 b = .err 10 := by unfold mulR; rw [if_pos (Or.inl rfl), if_pos (by omega)]
      have eD : divR 0 b = .err 10 := by unfold divR; rw [if_neg b0, if_pos rfl, if_pos (by omega)]
      have c3 := mul_bad ha hb eM
      have c5 := div_bad ha hb eD
      (with_reducible apply nb_zn (fs := F b) (fr := F 0) (ft := F 0)) <;> with_reducible assumption
  · obtain ⟨_, ox2⟩ := order_ne ha a0
    have hdm := div_back ha b0
    have hrm := rem_back ha hb b0
    by_cases m : a.tmod b = 0
    · rcases hdm with ⟨q, eD, hq, eDB⟩ | eD
      · have c5 := div_ok ha hb eD
        have c6 := mul_ok hq hb eDB
        have hqq : FloatKind.f64.format.order (F q) (F q) = some .eq := self_cls (is_ours hq)
        rcases hrm with ⟨r, t, er, hr, ht, est, hts, h0, hdt, hsg, hl, hu⟩ | er
        · have r0 : r = 0 := by
            unfold remR at er
            rw [if_neg b0] at er
            by_cases s : a < 0
            · rw [if_pos ⟨s, m⟩] at er; cases er
            · rw [if_neg (fun h => s h.1), m] at er; injection er with er; exact er.symm
          subst r0
          have t0 : t ≠ 0 := by omega
          obtain ⟨ot1, _⟩ := order_ne hts t0
          obtain ⟨z, hz, ez⟩ := hdt t0
          have c7 := rem_ok ha hb er
          have c8 := sub_ok ha s0 est
          have c9 := div_ok hts hb ez
          have hzz : FloatKind.f64.format.order (F z) (F z) = some .eq := self_cls (is_ours hz)
          obtain ⟨hl1, hl2⟩ := lims hb b0 hr hl hu
          rcases add_cases (b := b) ha with ⟨s, es, hs, eback⟩ | es <;> rcases mul_back ha b0 (Or.inl a0) with ⟨p, ep, hp, epb⟩ | ep
          · have c1 := add_ok ha hb es
            have c2 := sub_ok hs hb eback
            have c3 := mul_ok ha hb ep
            have c4 := div_ok hp hb epb
            (with_reducible apply nb_111eq (fs := F s) (fp := F p) (fq := F q) (fr := F 0) (ft := F t) (fz := F z) (fn := F (sizeV b))) <;> with_reducible assumption
          · have c1 := add_ok ha hb es
            have c2 := sub_ok hs hb eback
            have c3 := mul_bad ha hb ep
            (with_reducible apply nb_101eq (fs := F s) (fq := F q) (fr := F 0) (ft := F t) (fz := F z) (fn := F (sizeV b))) <;> with_reducible assumption
          · have c1 := add_bad ha hb es
            have c3 := mul_ok ha hb ep
            have c4 := div_ok hp hb epb
            (with_reducible apply nb_011eq (fp := F p) (fq := F q) (fr := F 0) (ft := F t) (fz := F z) (fn := F (sizeV b))) <;> with_reducible assumption
          · have c1 := add_bad ha hb es
            have c3 := mul_bad ha hb ep
            (with_reducible apply nb_001eq (fq := F q) (fr := F 0) (ft := F t) (fz := F z) (fn := F (sizeV b))) <;> with_reducible assumption
        · have c7 := rem_bad ha hb er
          rcases add_cases (b := b) ha with ⟨s, es, hs, eback⟩ | es <;> rcases mul_back ha b0 (Or.inl a0) with ⟨p, ep, hp, epb⟩ | ep
          · have c1 := add_ok ha hb es
            have c2 := sub_ok hs hb eback
            have c3 := mul_ok ha hb ep
            have c4 := div_ok hp hb epb
            (with_reducible apply nb_111err (fs := F s) (fp := F p) (fq := F q)) <;> with_reducible assumption
          · have c1 := add_ok ha hb es
            have c2 := sub_ok hs hb eback
            have c3 := mul_bad ha hb ep
            (with_reducible apply nb_101err (fs := F s) (fq := F q)) <;> with_reducible assumption
          · have c1 := add_bad ha hb es
            have c3 := mul_ok ha hb ep
            have c4 := div_ok hp hb epb
            (with_reducible apply nb_011err (fp := F p) (fq := F q)) <;> with_reducible assumption
          · have c1 := add_bad ha hb es
            have c3 := mul_bad ha hb ep
            (with_reducible apply nb_001err (fq := F q)) <;> with_reducible assumption
      · exfalso
        unfold divR at eD
        rw [if_neg b0, if_neg a0, if_neg (by simp [m])] at eD
        cases eD
    · have eD : divR a b = .err 10 := by unfold divR; rw [if_neg b0, if_neg a0, if_pos m]
      have c5 := div_bad ha hb eD
      have er' : remR a b = .ok (a.tmod b) := by unfold remR; rw [if_neg b0, if_neg (fun h => m h.2)]
      rcases hrm with ⟨r, t, er, hr, ht, est, hts, h0, hdt, hsg, hl, hu⟩ | er
      · have hrr : r = a.tmod b := by rw [er'] at er; injection er with er; exact er.symm
        have rne : r ≠ 0 := by rw [hrr]; exact m
        have c7 := rem_ok ha hb er
        have c8 := sub_ok ha hr est
        by_cases t0 : t = 0
        · subst t0
          have hra := h0 rfl
          have hfr : FloatKind.f64.format.order (F r) (F a) = some .eq := by rw [hra]; exact hx
          rcases add_cases (b := b) ha with ⟨s, es, hs, eback⟩ | es <;> rcases mul_back ha b0 (Or.inl a0) with ⟨p, ep, hp, epb⟩ | ep
          · have c1 := add_ok ha hb es
            have c2 := sub_ok hs hb eback
            have c3 := mul_ok ha hb ep
            have c4 := div_ok hp hb epb
            (with_reducible apply nb_110t0 (fs := F s) (fp := F p) (fr := F r) (ft := F 0)) <;> with_reducible assumption
          · have c1 := add_ok ha hb es
            have c2 := sub_ok hs hb eback
            have c3 := mul_bad ha hb ep
            (with_reducible apply nb_100t0 (fs := F s) (fr := F r) (ft := F 0)) <;> with_reducible assumption
          · have c1 := add_bad ha hb es
            have c3 := mul_ok ha hb ep
            have c4 := div_ok hp hb epb
            (with_reducible apply nb_010t0 (fp := F p) (fr := F r) (ft := F 0)) <;> with_reducible assumption
          · have c1 := add_bad ha hb es
            have c3 := mul_bad ha hb ep
            (with_reducible apply nb_000t0 (fr := F r) (ft := F 0)) <;> with_reducible assumption
        · obtain ⟨ot1, _⟩ := order_ne hts t0
          obtain ⟨z, hz, ez⟩ := hdt t0
          have c9 := div_ok hts hb ez
          have hzz : FloatKind.f64.format.order (F z) (F z) = some .eq := self_cls (is_ours hz)
          obtain ⟨hl1, hl2⟩ := lims hb b0 hr hl hu
          rcases hsg with e | ⟨g1, g2⟩ | ⟨g1, g2⟩
          · exact absurd e rne
          · have hro : FloatKind.f64.format.order (F r) 0 = some .gt := (order_zero hr).trans (congrArg some (Int.compare_eq_gt.2 g1))
            have ox : FloatKind.f64.format.order (F a) 0 = some .gt := (order_zero ha).trans (congrArg some (Int.compare_eq_gt.2 g2))
            rcases add_cases (b := b) ha with ⟨s, es, hs, eback⟩ | es <;> rcases mul_back ha b0 (Or.inl a0) with ⟨p, ep, hp, epb⟩ | ep
            · have c1 := add_ok ha hb es
              have c2 := sub_ok hs hb eback
              have c3 := mul_ok ha hb ep
              have c4 := div_ok hp hb epb
              (with_reducible apply nb_110gt (fs := F s) (fp := F p) (fr := F r) (ft := F t) (fz := F z) (fn := F (sizeV b))) <;> with_reducible assumption
            · have c1 := add_ok ha hb es
              have c2 := sub_ok hs hb eback
              have c3 := mul_bad ha hb ep
              (with_reducible apply nb_100gt (fs := F s) (fr := F r) (ft := F t) (fz := F z) (fn := F (sizeV b))) <;> with_reducible assumption
            · have c1 := add_bad ha hb es
              have c3 := mul_ok ha hb ep
              have c4 := div_ok hp hb epb
              (with_reducible apply nb_010gt (fp := F p) (fr := F r) (ft := F t) (fz := F z) (fn := F (sizeV b))) <;> with_reducible assumption
            · have c1 := add_bad ha hb es
              have c3 := mul_bad ha hb ep
              (with_reducible apply nb_000gt (fr := F r) (ft := F t) (fz := F z) (fn := F (sizeV b))) <;> with_reducible assumption
          · have hro : FloatKind.f64.format.order (F r) 0 = some .lt := (order_zero hr).trans (congrArg some (Int.compare_eq_lt.2 g1))
            have ox : FloatKind.f64.format.order (F a) 0 = some .lt := (order_zero ha).trans (congrArg some (Int.compare_eq_lt.2 g2))
            rcases add_cases (b := b) ha with ⟨s, es, hs, eback⟩ | es <;> rcases mul_back ha b0 (Or.inl a0) with ⟨p, ep, hp, epb⟩ | ep
            · have c1 := add_ok ha hb es
              have c2 := sub_ok hs hb eback
              have c3 := mul_ok ha hb ep
              have c4 := div_ok hp hb epb
              (with_reducible apply nb_110lt (fs := F s) (fp := F p) (fr := F r) (ft := F t) (fz := F z) (fn := F (sizeV b))) <;> with_reducible assumption
            · have c1 := add_ok ha hb es
              have c2 := sub_ok hs hb eback
              have c3 := mul_bad ha hb ep
              (with_reducible apply nb_100lt (fs := F s) (fr := F r) (ft := F t) (fz := F z) (fn := F (sizeV b))) <;> with_reducible assumption
            · have c1 := add_bad ha hb es
              have c3 := mul_ok ha hb ep
              have c4 := div_ok hp hb epb
              (with_reducible apply nb_010lt (fp := F p) (fr := F r) (ft := F t) (fz := F z) (fn := F (sizeV b))) <;> with_reducible assumption
            · have c1 := add_bad ha hb es
              have c3 := mul_bad ha hb ep
              (with_reducible apply nb_000lt (fr := F r) (ft := F t) (fz := F z) (fn := F (sizeV b))) <;> with_reducible assumption
      · rw [er'] at er; cases er

theorem NumBack_walk (x y : Nat) (w : World) (hx : x < 2 ^ 64) (hy : y < 2 ^ 64) :
    Calls Try.prog 6 #[.float .f64 x, .float .f64 y] w fun e w' => e = .returned (.bool true) ∧ Below w.heap.size w w' := by
  obtain ⟨c, h⟩ := cls x hx
  obtain ⟨d, g⟩ := cls y hy
  by_cases hn : wholeC c = false ∨ wholeC d = false
  · exact NumBack_out h g hn w
  · cases c with
    | nan => exact absurd (Or.inl rfl) hn
    | other => exact absurd (Or.inl rfl) hn
    | ours a =>
      cases d with
      | nan => exact absurd (Or.inr rfl) hn
      | other => exact absurd (Or.inr rfl) hn
      | ours b =>
        obtain ⟨rfl, ha⟩ := h
        obtain ⟨rfl, hb⟩ := g
        by_cases b0 : b = 0
        · exact NumBack_zero ha hb b0 w
        · exact NumBack_some ha hb b0 w
end Go.Proofs.Ytggcepoolcfpgaa
