/-
  Rem of package num, and NumSums: every operation of two floats beside the document's own: walks.
-/
import Derived.Test.YtggcepoolcfpgaaDoorNumMod
namespace Go.Proofs.YtggcepoolcfpgaaDoor
open Go.RowKit Fl

theorem NaN_any (w : World) : Calls Tryd.prog 43 #[] w fun e w' => e = .returned (.float .f64 9221120237041090561) ∧ w = w' := by
  have hf : ∀ w, (callFunc 57 #[.int .u64 9221120237041090561]).run Tryd.prog w = .ok (.value (.float .f64 9221120237041090561)) w := fun w => run_Float64frombits 9221120237041090561 w
  go_enter Tryd.func43, Tryd.ntmps43
  go_wp2
  go_ret
  exact ⟨rfl, rfl⟩
theorem is_uvnan : Is .nan 9221120237041090561 := ⟨by decide, by unfold IsNaN rung; decide⟩

theorem inf_nan {x : Nat} (h : Is .nan x) (w : World) :
    Calls Tryd.prog 48 #[.float .f64 x, .int .i64 0] w fun e w' => e = .returned (.bool false) ∧ w = w' := by
  have := IsInf_any x h.1 w
  have n : IsNaN (x % 2 ^ 63) := by have := h.2; unfold IsNaN rung at *; omega
  rw [show FloatKind.f64.format.order (x % 2 ^ 63) 9218868437227405311 = none from order_nan_l _ n] at this
  exact this
theorem nan_nan {x : Nat} (h : Is .nan x) (w : World) :
    Calls Tryd.prog 49 #[.float .f64 x] w fun e w' => e = .returned (.bool true) ∧ w = w' := by
  have := IsNaN_any x w
  rw [show FloatKind.f64.format.order x x = none from order_nan_l _ h.2] at this
  exact this

def nanC (c : Cl) : Bool := match c with | .nan => true | _ => false
theorem inf_cls {c : Cl} {x : Nat} (h : Is c x) (hm : mayC c = true) (w : World) :
    Calls Tryd.prog 48 #[.float .f64 x, .int .i64 0] w fun e w' => e = .returned (.bool false) ∧ w = w' := by
  cases c with
  | nan => exact inf_nan h w
  | other => cases hm
  | ours n => obtain ⟨rfl, hs⟩ := h; exact not_inf n hs.abs w
theorem nan_cls {c : Cl} {x : Nat} (h : Is c x) (hm : mayC c = true) (w : World) :
    Calls Tryd.prog 49 #[.float .f64 x] w fun e w' => e = .returned (.bool (nanC c)) ∧ w = w' := by
  cases c with
  | nan => exact nan_nan h w
  | other => cases hm
  | ours n => obtain ⟨rfl, hs⟩ := h; exact not_nan n hs.abs w

/-- mod has no answer: no number -/
theorem mod_none (x y : Nat) (z : Bool) (cx cy : Bool) (hz : (FloatKind.f64.format.order y 0 == some .eq) = z) (h : z = true ∨ cx = true ∨ cy = true)
    (hi : ∀ w, Calls Tryd.prog 48 #[.float .f64 x, .int .i64 0] w fun e w' => e = .returned (.bool false) ∧ w = w') (hn : ∀ w, Calls Tryd.prog 49 #[.float .f64 x] w fun e w' => e = .returned (.bool cx) ∧ w = w')
    (hyn : ∀ w, Calls Tryd.prog 49 #[.float .f64 y] w fun e w' => e = .returned (.bool cy) ∧ w = w') (w : World) :
    Calls Tryd.prog 35 #[.float .f64 x, .float .f64 y] w fun e w' => e = .returned (.float .f64 9221120237041090561) ∧ w = w' := by
  cases z <;> cases cx <;> cases cy <;> first | (simp at h; done) | skip
  all_goals
    clear h
    go_enter Tryd.func35, Tryd.ntmps35
    go_wp2_with (first | (go_at_call 48; refine (hi _).mono ?_; rintro e w' ⟨rfl, rfl⟩) | (go_at_call 49; ((with_reducible refine (hn _).mono ?_); rintro e w' ⟨rfl, rfl⟩)) | (go_at_call 49; ((with_reducible refine (hyn _).mono ?_); rintro e w' ⟨rfl, rfl⟩)) | (go_at_call 43; refine (NaN_any _).mono ?_; rintro e w' ⟨rfl, rfl⟩))
    go_ret
    exact ⟨rfl, rfl⟩

theorem tmod_pos (a b : Int) (h : 0 ≤ a) : a.tmod b = ((a.natAbs % b.natAbs : Nat) : Int) := by
  have h1 : (a.tmod b).natAbs = a.natAbs % b.natAbs := Int.natAbs_tmod a b
  have h2 : 0 ≤ a.tmod b := Int.tmod_nonneg b h
  omega
theorem tmod_neg (a b : Int) (h : a < 0) : a.tmod b = -((a.natAbs % b.natAbs : Nat) : Int) := by
  have h1 := tmod_pos (-a) b (by omega)
  rw [Int.neg_tmod, Int.natAbs_neg] at h1
  omega

theorem mod_cls {c d : Cl} {x y : Nat} (h : Is c x) (g : Is d y) (hm : (mayC c && mayC d) = true) :
    ∃ e z, Is e z ∧ tellC e = opR remR c d ∧ ∀ w, Calls Tryd.prog 35 #[.float .f64 x, .float .f64 y] w fun e w' => e = .returned (.float .f64 z) ∧ w = w' := by
  have hc : mayC c = true := by simp at hm; exact hm.1
  have hd : mayC d = true := by simp at hm; exact hm.2
  have hi := fun w => inf_cls h hc w
  have hn := fun w => nan_cls h hc w
  have hyn := fun w => nan_cls g hd w
  by_cases k : nanC c = true ∨ nanC d = true
  · refine ⟨.nan, _, is_uvnan, ?_, fun w => mod_none x y _ _ _ rfl (Or.inr k) hi hn hyn w⟩
    cases c <;> cases d <;> first | rfl | (cases hm; done) | (simp [nanC] at k; done)
  · cases c with
    | nan => exact absurd (Or.inl rfl) k
    | other => cases hm
    | ours a =>
      cases d with
      | nan => exact absurd (Or.inr rfl) k
      | other => cases hm
      | ours b =>
        obtain ⟨rfl, ha⟩ := h
        obtain ⟨rfl, hb⟩ := g
        have hz := order_F b 0 hb.abs (by decide)
        rw [F_zero] at hz
        have hz' : FloatKind.f64.format.order (F b) 0 = some (compare b 0) := hz
        by_cases b0 : b = 0
        · subst b0
          refine ⟨.nan, _, is_uvnan, by simp [opR, remR, tellC], fun w => mod_none _ _ true _ _ (by rw [hz']; rfl) (Or.inl rfl) hi hn hyn w⟩
        · have hne : (FloatKind.f64.format.order (F b) 0 == some .eq) = false := by
            rw [hz', beq_eq_false_iff_ne]
            intro e
            have e2 : compare b 0 = .eq := Option.some.inj e
            simp at e2
            exact b0 e2
          have hx0 := order_F a 0 ha.abs (by decide)
          rw [F_zero] at hx0
          have hx0' : FloatKind.f64.format.order (F a) 0 = some (compare a 0) := hx0
          have haA := ha.abs
          have hbA := hb.abs
          by_cases s : a < 0
          · have hs : (FloatKind.f64.format.order (F a) 0 == some .lt) = true := by rw [hx0', Int.compare_eq_lt.2 s]; rfl
            have hneg : Op.negFloat .f64 (F a) = F (a.natAbs : Int) := by
              have e : Op.negFloat .f64 (F a) = F (-a) := neg_F a ha.abs (by omega)
              rw [e]; congr 1; omega
            have wk := fun w => mod_walk a.natAbs b.natAbs _ haA (by omega) hbA rfl (F a) (F b) true hneg hs hi hn (F_lt b) (F_abs_mod b hbA) hyn hne w
            simp only [if_true] at wk
            have hR : a.natAbs % b.natAbs ≤ a.natAbs := Nat.mod_le _ _
            have ht := tmod_neg a b s
            generalize a.natAbs % b.natAbs = R at *
            by_cases R0 : R = 0
            · subst R0
              refine ⟨.other, _, ?_, ?_, wk⟩
              · have : Op.negFloat .f64 (F ((0 : Nat) : Int)) = 2 ^ 63 := by decide
                rw [this]; exact is_m0
              · show Res.err 10 = remR a b
                unfold remR
                rw [if_neg b0, if_pos ⟨s, by omega⟩]
            · refine ⟨.ours (-(R : Int)), _, ⟨neg_F (R : Int) (by omega) (by omega), by unfold SafeN at *; omega⟩, ?_, wk⟩
              show Res.ok (-(R : Int)) = remR a b
              unfold remR
              rw [if_neg b0, if_neg (by omega), ht]
          · have hs : (FloatKind.f64.format.order (F a) 0 == some .lt) = false := by
              rw [hx0', beq_eq_false_iff_ne]
              intro e
              exact s (Int.compare_eq_lt.1 (Option.some.inj e))
            have wk := fun w => mod_walk a.natAbs b.natAbs _ haA (by omega) hbA rfl (F a) (F b) false (by simp only [Bool.false_eq_true, if_false]; congr 1; omega) hs hi hn (F_lt b) (F_abs_mod b hbA) hyn hne w
            simp only [Bool.false_eq_true, if_false] at wk
            have hR : a.natAbs % b.natAbs ≤ a.natAbs := Nat.mod_le _ _
            have ht := tmod_pos a b (by omega)
            generalize a.natAbs % b.natAbs = R at *
            refine ⟨.ours (R : Int), _, ⟨rfl, by unfold SafeN at *; omega⟩, ?_, wk⟩
            show Res.ok (R : Int) = remR a b
            unfold remR
            rw [if_neg b0, if_neg (by omega), ht]

theorem Rem_cls {c d : Cl} {x y : Nat} (h : Is c x) (g : Is d y) (w : World) :
    Calls Tryd.prog 11 #[.float .f64 x, .float .f64 y] w (RetR (opR remR c d) w) := by
  have hb := fun w => both_cls h g w
  cases hm : (mayC c && mayC d)
  · rw [opR_no hm]
    rw [hm] at hb
    clear hm
    go_enter Tryd.func11, Tryd.ntmps11
    go_wp2_with (go_at_call 21; refine (hb _).mono ?_; rintro e w' ⟨rfl, rfl⟩)
    go_ret2
    exact retR_err 2 w
  · obtain ⟨e, z, he, ht, hop⟩ := mod_cls h g hm
    rw [hm] at hb
    rw [← ht]
    clear hm ht
    have hMod : ∀ w, Calls Tryd.prog 23 #[.float .f64 x, .float .f64 y] w fun e w' => e = .returned (.float .f64 z) ∧ w = w' := by
      intro w
      go_enter Tryd.func23, Tryd.ntmps23
      go_wp2_with (go_at_call 35; refine (hop _).mono ?_; rintro e w' ⟨rfl, rfl⟩)
      go_ret
      exact ⟨rfl, rfl⟩
    go_enter Tryd.func11, Tryd.ntmps11
    go_wp2_with (first | (go_at_call 21; refine (hb _).mono ?_; rintro e w' ⟨rfl, rfl⟩) | (go_at_call 23; refine (hMod _).mono ?_; rintro e w' ⟨rfl, rfl⟩) | (go_at_call 22; refine (tell_cls he _).mono ?_; rintro e w' ⟨v, k, hk, rfl, rfl⟩))
    go_ret2
    exact retR_of hk w 0

/-- the same worth, told twice, is the same -/
theorem Same_enc {r : Res} {v u : Nat} {k j : Int} (h : EncR r v k) (g : EncR r u j) (w : World) :
    Calls Tryd.prog 30 #[.float .f64 v, .float .f64 u] w fun e w' => e = .returned (.bool true) ∧ ∃ n, w' = w.drewN n := by
  cases r with
  | nan =>
    have h1 : FloatKind.f64.format.order v v = none := order_nan_l _ h.1.2
    have h2 : FloatKind.f64.format.order u u = none := order_nan_l _ g.1.2
    go_enter Tryd.func30, Tryd.ntmps30
    go_wp2
    go_ret
    exact ⟨rfl, 0, rfl⟩
  | err q =>
    obtain ⟨rfl, _⟩ := h
    obtain ⟨rfl, _⟩ := g
    have h1 : FloatKind.f64.format.order 0 0 = some .eq := by decide
    have hq := fun w => run_float_arith (P := Tryd.prog) w .quo 22 .f64 4607182418800017408 0 9218868437227405312 (by decide)
    have h2 : FloatKind.f64.format.order 9218868437227405312 9218868437227405312 = some .eq := by decide
    go_enter Tryd.func30, Tryd.ntmps30
    go_wp2
    go_ret
    exact ⟨rfl, 0, rfl⟩
  | ok n =>
    obtain ⟨⟨rfl, hs⟩, _⟩ := h
    obtain ⟨⟨rfl, _⟩, _⟩ := g
    have h1 : FloatKind.f64.format.order (F n) (F n) = some .eq := order_self (not_nan_F n hs.abs)
    by_cases h0 : n = 0
    · subst h0
      rw [F_zero] at *
      have hq := fun w => run_float_arith (P := Tryd.prog) w .quo 22 .f64 4607182418800017408 0 9218868437227405312 (by decide)
      have h2 : FloatKind.f64.format.order 9218868437227405312 9218868437227405312 = some .eq := by decide
      clear hs
      go_enter Tryd.func30, Tryd.ntmps30
      go_wp2
      go_ret
      exact ⟨rfl, 0, rfl⟩
    · obtain ⟨o, h2, hne⟩ : ∃ o, FloatKind.f64.format.order (F n) 0 = some o ∧ o ≠ .eq := by
        have := order_F n 0 hs.abs (by decide)
        rw [F_zero] at this
        refine ⟨_, this, fun e => ?_⟩
        simp at e
        exact h0 e
      generalize F n = x at *
      clear hs h0
      cases o
      · clear hne
        go_enter Tryd.func30, Tryd.ntmps30
        go_wp2
        go_ret
        exact ⟨rfl, 0, rfl⟩
      · exact absurd rfl hne
      · clear hne
        go_enter Tryd.func30, Tryd.ntmps30
        go_wp2
        go_ret
        exact ⟨rfl, 0, rfl⟩

theorem EncR_same {r : Res} {v u : Nat} {k j : Int} (h : EncR r v k) (g : EncR r u j) : k = j := by
  cases r with
  | nan => rw [h.2, g.2]
  | err q => rw [h.2, g.2]
  | ok n => rw [h.2, g.2]

def DrawnTrue (w : World) (e : Ending) (w' : World) : Prop := ∃ n, e = .returned (.bool true) ∧ w' = w.drewN n

theorem told_enc {r : Res} {v u : Nat} {k j : Int} (h : EncR r v k) (g : EncR r u j) (w : World) :
    Calls Tryd.prog 17 #[.float .f64 v, .int .i64 k, .float .f64 u, .int .i64 j] w (DrawnTrue w) := by
  obtain rfl := EncR_same h g
  go_enter Tryd.func17, Tryd.ntmps17
  go_wp2_with (go_at_call 30; refine (Same_enc h g _).mono ?_; rintro e w' ⟨rfl, n, rfl⟩)
  go_ret
  exact ⟨_, rfl, rfl⟩

end Go.Proofs.YtggcepoolcfpgaaDoor
