/-
  The document's own reckoning, and package num's Neg, told by what the floats are: walks.
-/
import Derived.Test.YtggcepoolcfpgaaNumOps
namespace Go.Proofs.Ytggcepoolcfpgaa
open Go.RowKit Fl

@[go_sem] theorem unary_negf (k : FloatKind) (b : Nat) : Op.unary .neg (.float k b) = pure (.float k (Op.negFloat k b)) := rfl

theorem neg_nan {x : Nat} (hx : x < 2 ^ 64) (h : IsNaN x) : x ^^^ 2 ^ 63 < 2 ^ 64 ∧ IsNaN (x ^^^ 2 ^ 63) := by
  rw [neg_word x hx]
  unfold IsNaN rung at *
  split <;> omega

def negC (c : Cl) : Res := match c with
  | .nan => .nan
  | .other => .err 2
  | .ours a => negR a

theorem Neg_cls {c : Cl} {x : Nat} (h : Is c x) (w : World) :
    Calls Try.prog 12 #[.float .f64 x] w (RetR (negC c) w) := by
  have hb := fun w => May_cls h w
  cases c with
  | other =>
    dsimp only [mayC] at hb
    go_enter Try.func12, Try.ntmps12
    go_wp2_with (go_at_call 20; refine (hb _).mono ?_; rintro e w' ⟨rfl, rfl⟩)
    go_ret2
    exact retR_err 2 w
  | nan =>
    dsimp only [mayC] at hb
    have he : Is .nan (Op.negFloat .f64 x) := neg_nan h.1 h.2
    go_enter Try.func12, Try.ntmps12
    go_wp2_with (first | (go_at_call 20; refine (hb _).mono ?_; rintro e w' ⟨rfl, rfl⟩) | (go_at_call 34; refine (tell_cls he _).mono ?_; rintro e w' ⟨v, k, hk, rfl, rfl⟩))
    go_ret2
    exact retR_of hk w 0
  | ours n =>
    dsimp only [mayC] at hb
    obtain ⟨e, he, ht⟩ : ∃ e, Is e (Op.negFloat .f64 x) ∧ tellC e = negC (.ours n) := by
      obtain ⟨rfl, hs⟩ := h
      dsimp only [negC, negR]
      by_cases h0 : n = 0
      · subst h0
        refine ⟨.other, ?_, by rw [if_pos rfl]; rfl⟩
        have : Op.negFloat .f64 (F 0) = 2 ^ 63 := by decide
        rw [this]; exact is_m0
      · refine ⟨.ours (-n), ⟨neg_F n hs.abs h0, ?_⟩, by rw [if_neg h0]; rfl⟩
        unfold SafeN at *; omega
    rw [← ht]
    clear ht h
    go_enter Try.func12, Try.ntmps12
    go_wp2_with (first | (go_at_call 20; refine (hb _).mono ?_; rintro e w' ⟨rfl, rfl⟩) | (go_at_call 34; refine (tell_cls he _).mono ?_; rintro e w' ⟨v, k, hk, rfl, rfl⟩))
    go_ret2
    exact retR_of hk w 0

theorem retR_err' (k : Int) (w : World) (n : Nat) : RetR (.err k) w (.returned (.tuple #[.float .f64 0, .int .i64 k])) (w.drewN n) := ⟨0, k, n, ⟨rfl, rfl⟩, rfl, rfl⟩
theorem retR_nan {v : Nat} (h : v < 2 ^ 64 ∧ IsNaN v) (w : World) (n : Nat) : RetR .nan w (.returned (.tuple #[.float .f64 v, .int .i64 0])) (w.drewN n) := ⟨v, 0, n, ⟨h, rfl⟩, rfl, rfl⟩

theorem refNeg_cls {c : Cl} {x : Nat} (h : Is c x) (w : World) :
    Calls Try.prog 18 #[.float .f64 x] w (RetR (negC c) w) := by
  have m := fun w => refMay_cls h w
  have k := fun w => refwhole_cls h w
  cases c with
  | other =>
    dsimp only [mayC] at m
    go_enter Try.func18, Try.ntmps18
    go_wp2_with (go_at_call 21; refine (m _).mono ?_; rintro e w' ⟨rfl, rfl⟩)
    go_ret2
    exact retR_err 2 w
  | nan =>
    dsimp only [mayC] at m
    dsimp only [wholeI, wholeC] at k
    go_enter Try.func18, Try.ntmps18
    go_wp2_with (first | (go_at_call 21; refine (m _).mono ?_; rintro e w' ⟨rfl, rfl⟩) | (go_at_call 40; refine (k _).mono ?_; rintro e w' ⟨rfl, rfl⟩) | (go_at_call 37; refine (refNaN_any _).mono ?_; rintro e w' ⟨v, n, hv, rfl, rfl⟩))
    go_ret2
    exact retR_nan hv w _
  | ours n =>
    dsimp only [mayC] at m
    dsimp only [wholeI, wholeC] at k
    obtain ⟨s1, s2⟩ := h.2
    clear h
    dsimp only [negC, negR]
    by_cases h0 : n = 0
    · subst h0
      rw [if_pos rfl]
      go_enter Try.func18, Try.ntmps18
      go_wp2_with (first | (go_at_call 21; refine (m _).mono ?_; rintro e w' ⟨rfl, rfl⟩) | (go_at_call 40; refine (k _).mono ?_; rintro e w' ⟨rfl, rfl⟩))
      go_ret2
      exact retR_err 10 w
    · rw [if_neg h0]
      have ht : tellN (-n) = .ok (-n) := if_pos (by omega)
      rw [← ht]
      clear ht
      have h0' : (n == 0) = false := by simpa using h0
      clear h0
      go_enter Try.func18, Try.ntmps18
      go_wp2_with (first | (go_at_call 21; refine (m _).mono ?_; rintro e w' ⟨rfl, rfl⟩) | (go_at_call 40; refine (k _).mono ?_; rintro e w' ⟨rfl, rfl⟩) | (go_at_call 38; refine (reftold_any _ _ (by omega)).mono ?_; rintro e w' ⟨v, j, hj, rfl, rfl⟩))
      go_ret2
      exact retR_of hj w 0

theorem twoV_no {c d : Cl} (hm : (mayC c && mayC d) = false) : twoV c d = .tuple #[.int .i64 0, .int .i64 0, .bool false, .int .i64 2] := by
  unfold twoV; rw [hm]; rfl
/-- what 'two' tells where both may be and one is no number -/
theorem twoV_nan {c d : Cl} (hm : (mayC c && mayC d) = true) (hn : (!wholeC c || !wholeC d) = true) (f : Int → Int → Res) :
    twoV c d = .tuple #[.int .i64 (wholeI c), .int .i64 (wholeI d), .bool true, .int .i64 0] ∧ opR f c d = .nan := by
  unfold twoV; rw [hm, hn]
  refine ⟨rfl, ?_⟩
  cases c <;> cases d <;> first | rfl | (simp [wholeC] at hn; done) | (simp [mayC] at hm; done)
theorem twoV_ours {c d : Cl} (hn : (!wholeC c || !wholeC d) = false) : ∃ a b, c = .ours a ∧ d = .ours b := by
  cases c <;> cases d <;> first | exact ⟨_, _, rfl, rfl⟩ | (simp [wholeC] at hn; done)

theorem refAdd_cls {c d : Cl} {x y : Nat} (h : Is c x) (g : Is d y) (w : World) :
    Calls Try.prog 13 #[.float .f64 x, .float .f64 y] w (RetR (opR sumR c d) w) := by
  have hb := fun w => two_cls h g w
  cases hm : (mayC c && mayC d)
  · rw [opR_no hm]
    rw [twoV_no hm] at hb
    clear hm
    go_enter Try.func13, Try.ntmps13
    go_wp2_with (go_at_call 36; refine (hb _).mono ?_; rintro e w' ⟨rfl, rfl⟩)
    go_ret2
    exact retR_err 2 w
  · cases hn : (!wholeC c || !wholeC d)
    · obtain ⟨a, b, rfl, rfl⟩ := twoV_ours hn
      have hb : ∀ w, Calls Try.prog 36 #[.float .f64 x, .float .f64 y] w fun e w' => e = .returned (.tuple #[.int .i64 a, .int .i64 b, .bool false, .int .i64 0]) ∧ w = w' := hb
      obtain ⟨s1, s2⟩ := h.2
      obtain ⟨t1, t2⟩ := g.2
      clear h g hm hn
      show Calls _ _ _ _ (RetR (tellN (a + b)) w)
      go_enter Try.func13, Try.ntmps13
      go_wp2_with (first | (go_at_call 36; refine (hb _).mono ?_; rintro e w' ⟨rfl, rfl⟩) | (go_at_call 38; refine (reftold_any _ _ (by omega)).mono ?_; rintro e w' ⟨v, j, hj, rfl, rfl⟩))
      go_ret2
      exact retR_of hj w 0
    · obtain ⟨e1, e2⟩ := twoV_nan hm hn sumR
      rw [e2]
      rw [e1] at hb
      clear hm hn e1 e2 h g
      go_enter Try.func13, Try.ntmps13
      go_wp2_with (first | (go_at_call 36; refine (hb _).mono ?_; rintro e w' ⟨rfl, rfl⟩) | (go_at_call 37; refine (refNaN_any _).mono ?_; rintro e w' ⟨v, n, hv, rfl, rfl⟩))
      go_ret2
      exact retR_nan hv w _
theorem refSub_cls {c d : Cl} {x y : Nat} (h : Is c x) (g : Is d y) (w : World) :
    Calls Try.prog 14 #[.float .f64 x, .float .f64 y] w (RetR (opR subR c d) w) := by
  have hb := fun w => two_cls h g w
  cases hm : (mayC c && mayC d)
  · rw [opR_no hm]
    rw [twoV_no hm] at hb
    clear hm
    go_enter Try.func14, Try.ntmps14
    go_wp2_with (go_at_call 36; refine (hb _).mono ?_; rintro e w' ⟨rfl, rfl⟩)
    go_ret2
    exact retR_err 2 w
  · cases hn : (!wholeC c || !wholeC d)
    · obtain ⟨a, b, rfl, rfl⟩ := twoV_ours hn
      have hb : ∀ w, Calls Try.prog 36 #[.float .f64 x, .float .f64 y] w fun e w' => e = .returned (.tuple #[.int .i64 a, .int .i64 b, .bool false, .int .i64 0]) ∧ w = w' := hb
      obtain ⟨s1, s2⟩ := h.2
      obtain ⟨t1, t2⟩ := g.2
      clear h g hm hn
      show Calls _ _ _ _ (RetR (tellN (a - b)) w)
      go_enter Try.func14, Try.ntmps14
      go_wp2_with (first | (go_at_call 36; refine (hb _).mono ?_; rintro e w' ⟨rfl, rfl⟩) | (go_at_call 38; refine (reftold_any _ _ (by omega)).mono ?_; rintro e w' ⟨v, j, hj, rfl, rfl⟩))
      go_ret2
      exact retR_of hj w 0
    · obtain ⟨e1, e2⟩ := twoV_nan hm hn subR
      rw [e2]
      rw [e1] at hb
      clear hm hn e1 e2 h g
      go_enter Try.func14, Try.ntmps14
      go_wp2_with (first | (go_at_call 36; refine (hb _).mono ?_; rintro e w' ⟨rfl, rfl⟩) | (go_at_call 37; refine (refNaN_any _).mono ?_; rintro e w' ⟨v, n, hv, rfl, rfl⟩))
      go_ret2
      exact retR_nan hv w _

theorem size_any (a : Int) (w : World) (h : SafeN a) :
    Calls Try.prog 39 #[.int .i64 a] w fun e w' => e = .returned (.int .i64 (a.natAbs : Int)) ∧ w = w' := by
  obtain ⟨s1, s2⟩ := h
  by_cases c : a < 0
  · go_enter Try.func39, Try.ntmps39
    go_wp2
    go_ret
    exact ⟨ret_int (by omega), rfl⟩
  · go_enter Try.func39, Try.ntmps39
    go_wp2
    go_ret
    exact ⟨ret_int (by omega), rfl⟩

def TwoSays (x y : Nat) (a b : Int) : Prop := ∀ w, Calls Try.prog 36 #[.float .f64 x, .float .f64 y] w fun e w' => e = .returned (.tuple #[.int .i64 a, .int .i64 b, .bool false, .int .i64 0]) ∧ w = w'

theorem refMul_ours {x y : Nat} {a b : Int} (hs : SafeN a) (ht : SafeN b) (hb : TwoSays x y a b) (w : World) :
    Calls Try.prog 15 #[.float .f64 x, .float .f64 y] w (RetR (mulR a b) w) := by
  have z1 := fun w => size_any a w hs
  have z2 := fun w => size_any b w ht
  obtain ⟨s1, s2⟩ := hs
  obtain ⟨t1, t2⟩ := ht
  unfold mulR
  by_cases c : a = 0 ∨ b = 0
  · rw [if_pos c]
    by_cases d : a < 0 ∨ b < 0
    · rw [if_pos d]
      rcases d with d | d
      · have a0 : (a == 0) = false := by simp; omega
        have b0 : (b == 0) = true := by simp; omega
        clear c
        go_enter Try.func15, Try.ntmps15
        go_wp2_with (go_at_call 36; refine (hb _).mono ?_; rintro e w' ⟨rfl, rfl⟩)
        go_ret2
        exact retR_err 10 w
      · have a0 : (a == 0) = true := by simp; omega
        have a1 : ¬ a < 0 := by omega
        clear c
        go_enter Try.func15, Try.ntmps15
        go_wp2_with (go_at_call 36; refine (hb _).mono ?_; rintro e w' ⟨rfl, rfl⟩)
        go_ret2
        exact retR_err 10 w
    · rw [if_neg d]
      have d1 : ¬ a < 0 := by omega
      have d2 : ¬ b < 0 := by omega
      have e0 : EncR (.ok 0) 0 0 := ⟨⟨F_zero.symm, by unfold SafeN; omega⟩, rfl⟩
      cases ha : (a == 0)
      · have b0 : (b == 0) = true := by simp at ha; simp; omega
        clear c d
        go_enter Try.func15, Try.ntmps15
        go_wp2_with (go_at_call 36; refine (hb _).mono ?_; rintro e w' ⟨rfl, rfl⟩)
        go_ret2
        exact retR_of e0 w 0
      · clear c d
        go_enter Try.func15, Try.ntmps15
        go_wp2_with (go_at_call 36; refine (hb _).mono ?_; rintro e w' ⟨rfl, rfl⟩)
        go_ret2
        exact retR_of e0 w 0
  · rw [if_neg c]
    have a0 : (a == 0) = false := by simp; exact fun e => c (Or.inl e)
    have b0 : (b == 0) = false := by simp; exact fun e => c (Or.inr e)
    have hb0 : 1 ≤ (b.natAbs : Int) := by simp at b0; omega
    have hb1 : (b.natAbs : Int) ≤ 9007199254740991 := by omega
    have ha1 : (a.natAbs : Int) ≤ 9007199254740991 := by omega
    have ha0 : 0 ≤ (a.natAbs : Int) := by omega
    have hab : (a * b).natAbs = a.natAbs * b.natAbs := Int.natAbs_mul a b
    have hdm : 9007199254740991 / (b.natAbs : Int) < (a.natAbs : Int) ↔ 9007199254740991 < a.natAbs * b.natAbs := by
      rw [← Nat.div_lt_iff_lt_mul (by omega)]
      have e : (9007199254740991 : Int) / (b.natAbs : Int) = ((9007199254740991 / b.natAbs : Nat) : Int) := rfl
      rw [e]; exact Int.ofNat_lt
    have hcase : (9007199254740991 / (b.natAbs : Int) < (a.natAbs : Int) ∧ tellN (a * b) = .err 10) ∨ (¬ 9007199254740991 / (b.natAbs : Int) < (a.natAbs : Int) ∧ -9007199254740991 ≤ a * b ∧ a * b ≤ 9007199254740991) := by
      by_cases q : 9007199254740991 / (b.natAbs : Int) < (a.natAbs : Int)
      · exact Or.inl ⟨q, if_neg (by have := hdm.1 q; omega)⟩
      · have := mt hdm.2 q
        exact Or.inr ⟨q, by omega, by omega⟩
    clear hab hdm c
    generalize hA : (a.natAbs : Int) = A at *
    generalize hB : (b.natAbs : Int) = B at *
    clear hA hB
    rcases hcase with ⟨q, e⟩ | ⟨q, m1, m2⟩
    · rw [e]
      clear e
      go_enter Try.func15, Try.ntmps15
      go_wp2_with (first | (go_at_call 36; refine (hb _).mono ?_; rintro e w' ⟨rfl, rfl⟩) | (go_at_call 39; ((with_reducible refine (z1 _).mono ?_); rintro e w' ⟨rfl, rfl⟩)) | (go_at_call 39; ((with_reducible refine (z2 _).mono ?_); rintro e w' ⟨rfl, rfl⟩)))
      go_ret2
      exact retR_err 10 w
    · have tl : ∀ w, Calls Try.prog 38 #[.int .i64 (wrap64 (a * b))] w (EncV (tellN (a * b)) w) := by
        intro w
        have e : wrap64 (a * b) = a * b := by unfold wrap64; omega
        rw [e]; exact reftold_any _ w (by omega)
      clear m1 m2
      go_enter Try.func15, Try.ntmps15
      go_wp2_with (first | (go_at_call 36; refine (hb _).mono ?_; rintro e w' ⟨rfl, rfl⟩) | (go_at_call 39; ((with_reducible refine (z1 _).mono ?_); rintro e w' ⟨rfl, rfl⟩)) | (go_at_call 39; ((with_reducible refine (z2 _).mono ?_); rintro e w' ⟨rfl, rfl⟩)) | (go_at_call 38; ((with_reducible refine (tl _).mono ?_); rintro e w' ⟨v, j, hj, rfl, rfl⟩)))
      go_ret2
      exact retR_of hj w 0

theorem refDiv_ours {x y : Nat} {a b : Int} (hs : SafeN a) (ht : SafeN b) (hb : TwoSays x y a b) (w : World) :
    Calls Try.prog 16 #[.float .f64 x, .float .f64 y] w (RetR (divR a b) w) := by
  obtain ⟨s1, s2⟩ := hs
  obtain ⟨t1, t2⟩ := ht
  unfold divR
  by_cases b0 : b = 0
  · subst b0
    rw [if_pos rfl]
    by_cases a0 : a = 0
    · subst a0
      rw [if_pos rfl]
      go_enter Try.func16, Try.ntmps16
      go_wp2_with (first | (go_at_call 36; refine (hb _).mono ?_; rintro e w' ⟨rfl, rfl⟩) | (go_at_call 37; refine (refNaN_any _).mono ?_; rintro e w' ⟨v, n, hv, rfl, rfl⟩))
      go_ret2
      exact retR_nan hv w _
    · rw [if_neg a0]
      have a1 : (a == 0) = false := by simpa using a0
      clear a0
      go_enter Try.func16, Try.ntmps16
      go_wp2_with (go_at_call 36; refine (hb _).mono ?_; rintro e w' ⟨rfl, rfl⟩)
      go_ret2
      exact retR_err 10 w
  · rw [if_neg b0]
    have b1 : (b == 0) = false := by simpa using b0
    by_cases a0 : a = 0
    · subst a0
      rw [if_pos rfl]
      by_cases d : b < 0
      · rw [if_pos d]
        go_enter Try.func16, Try.ntmps16
        go_wp2_with (go_at_call 36; refine (hb _).mono ?_; rintro e w' ⟨rfl, rfl⟩)
        go_ret2
        exact retR_err 10 w
      · rw [if_neg d]
        have tl : ∀ w, Calls Try.prog 38 #[.int .i64 0] w (EncV (.ok 0) w) := fun w => reftold_any 0 w (by omega)
        go_enter Try.func16, Try.ntmps16
        go_wp2_with (first | (go_at_call 36; refine (hb _).mono ?_; rintro e w' ⟨rfl, rfl⟩) | (go_at_call 38; ((with_reducible refine (tl _).mono ?_); rintro e w' ⟨v, j, hj, rfl, rfl⟩)))
        go_ret2
        exact retR_of hj w 0
    · rw [if_neg a0]
      have a1 : (a == 0) = false := by simpa using a0
      by_cases m : a.tmod b = 0
      · rw [if_neg (by simp [m])]
        have hq : (a.tdiv b).natAbs ≤ a.natAbs := by
          rw [Int.natAbs_tdiv]; exact Nat.div_le_self _ _
        have tl : ∀ w, Calls Try.prog 38 #[.int .i64 (wrap64 (a.tdiv b))] w (EncV (.ok (a.tdiv b)) w) := by
          intro w
          have e : wrap64 (a.tdiv b) = a.tdiv b := by unfold wrap64; omega
          have e2 : tellN (a.tdiv b) = .ok (a.tdiv b) := if_pos (by omega)
          rw [e, ← e2]; exact reftold_any _ w (by omega)
        clear hq
        go_enter Try.func16, Try.ntmps16
        go_wp2_with (first | (go_at_call 36; refine (hb _).mono ?_; rintro e w' ⟨rfl, rfl⟩) | (go_at_call 38; ((with_reducible refine (tl _).mono ?_); rintro e w' ⟨v, j, hj, rfl, rfl⟩)))
        go_ret2
        exact retR_of hj w 0
      · rw [if_pos m]
        go_enter Try.func16, Try.ntmps16
        go_wp2_with (first | (go_at_call 36; refine (hb _).mono ?_; rintro e w' ⟨rfl, rfl⟩))
        go_ret2
        exact retR_err 10 w

theorem refRem_ours {x y : Nat} {a b : Int} (hs : SafeN a) (ht : SafeN b) (hb : TwoSays x y a b) (w : World) :
    Calls Try.prog 17 #[.float .f64 x, .float .f64 y] w (RetR (remR a b) w) := by
  obtain ⟨s1, s2⟩ := hs
  obtain ⟨t1, t2⟩ := ht
  unfold remR
  by_cases b0 : b = 0
  · subst b0
    rw [if_pos rfl]
    go_enter Try.func17, Try.ntmps17
    go_wp2_with (first | (go_at_call 36; refine (hb _).mono ?_; rintro e w' ⟨rfl, rfl⟩) | (go_at_call 37; refine (refNaN_any _).mono ?_; rintro e w' ⟨v, n, hv, rfl, rfl⟩))
    go_ret2
    exact retR_nan hv w _
  · rw [if_neg b0]
    have b1 : (b == 0) = false := by simpa using b0
    have hq : (a.tmod b).natAbs ≤ a.natAbs := by
      rw [Int.natAbs_tmod]; exact Nat.mod_le _ _
    have tl : ∀ w, Calls Try.prog 38 #[.int .i64 (a.tmod b)] w (EncV (.ok (a.tmod b)) w) := by
      intro w
      have e2 : tellN (a.tmod b) = .ok (a.tmod b) := if_pos (by omega)
      rw [← e2]; exact reftold_any _ w (by omega)
    clear hq
    by_cases c : a < 0
    · by_cases m : a.tmod b = 0
      · rw [if_pos ⟨c, m⟩]
        clear tl
        go_enter Try.func17, Try.ntmps17
        go_wp2_with (first | (go_at_call 36; refine (hb _).mono ?_; rintro e w' ⟨rfl, rfl⟩))
        go_ret2
        exact retR_err 10 w
      · rw [if_neg (fun h => m h.2)]
        have m1 : (a.tmod b == 0) = false := by simpa using m
        clear m
        go_enter Try.func17, Try.ntmps17
        go_wp2_with (first | (go_at_call 36; refine (hb _).mono ?_; rintro e w' ⟨rfl, rfl⟩) | (go_at_call 38; ((with_reducible refine (tl _).mono ?_); rintro e w' ⟨v, j, hj, rfl, rfl⟩)))
        go_ret2
        exact retR_of hj w 0
    · rw [if_neg (fun h => c h.1)]
      have ed : a.tmod b = a % b := Int.tmod_eq_emod_of_nonneg (by omega)
      rw [ed] at tl ⊢
      clear ed
      go_enter Try.func17, Try.ntmps17
      go_wp2_with (first | (go_at_call 36; refine (hb _).mono ?_; rintro e w' ⟨rfl, rfl⟩) | (go_at_call 38; ((with_reducible refine (tl _).mono ?_); rintro e w' ⟨v, j, hj, rfl, rfl⟩)))
      go_ret2
      exact retR_of hj w 0

theorem refMul_cls {c d : Cl} {x y : Nat} (h : Is c x) (g : Is d y) (w : World) :
    Calls Try.prog 15 #[.float .f64 x, .float .f64 y] w (RetR (opR mulR c d) w) := by
  have hb := fun w => two_cls h g w
  cases hm : (mayC c && mayC d)
  · rw [opR_no hm]
    rw [twoV_no hm] at hb
    clear hm
    go_enter Try.func15, Try.ntmps15
    go_wp2_with (go_at_call 36; refine (hb _).mono ?_; rintro e w' ⟨rfl, rfl⟩)
    go_ret2
    exact retR_err 2 w
  · cases hn : (!wholeC c || !wholeC d)
    · obtain ⟨a, b, rfl, rfl⟩ := twoV_ours hn
      have hb : ∀ w, Calls Try.prog 36 #[.float .f64 x, .float .f64 y] w fun e w' => e = .returned (.tuple #[.int .i64 a, .int .i64 b, .bool false, .int .i64 0]) ∧ w = w' := hb
      have hs := h.2
      have ht := g.2
      clear h g hm hn
      show Calls _ _ _ _ (RetR (mulR a b) w)
      exact refMul_ours hs ht hb w
    · obtain ⟨e1, e2⟩ := twoV_nan hm hn mulR
      rw [e2]
      rw [e1] at hb
      clear hm hn e1 e2 h g
      go_enter Try.func15, Try.ntmps15
      go_wp2_with (first | (go_at_call 36; refine (hb _).mono ?_; rintro e w' ⟨rfl, rfl⟩) | (go_at_call 37; refine (refNaN_any _).mono ?_; rintro e w' ⟨v, n, hv, rfl, rfl⟩))
      go_ret2
      exact retR_nan hv w _
theorem refDiv_cls {c d : Cl} {x y : Nat} (h : Is c x) (g : Is d y) (w : World) :
    Calls Try.prog 16 #[.float .f64 x, .float .f64 y] w (RetR (opR divR c d) w) := by
  have hb := fun w => two_cls h g w
  cases hm : (mayC c && mayC d)
  · rw [opR_no hm]
    rw [twoV_no hm] at hb
    clear hm
    go_enter Try.func16, Try.ntmps16
    go_wp2_with (go_at_call 36; refine (hb _).mono ?_; rintro e w' ⟨rfl, rfl⟩)
    go_ret2
    exact retR_err 2 w
  · cases hn : (!wholeC c || !wholeC d)
    · obtain ⟨a, b, rfl, rfl⟩ := twoV_ours hn
      have hb : ∀ w, Calls Try.prog 36 #[.float .f64 x, .float .f64 y] w fun e w' => e = .returned (.tuple #[.int .i64 a, .int .i64 b, .bool false, .int .i64 0]) ∧ w = w' := hb
      have hs := h.2
      have ht := g.2
      clear h g hm hn
      show Calls _ _ _ _ (RetR (divR a b) w)
      exact refDiv_ours hs ht hb w
    · obtain ⟨e1, e2⟩ := twoV_nan hm hn divR
      rw [e2]
      rw [e1] at hb
      clear hm hn e1 e2 h g
      go_enter Try.func16, Try.ntmps16
      go_wp2_with (first | (go_at_call 36; refine (hb _).mono ?_; rintro e w' ⟨rfl, rfl⟩) | (go_at_call 37; refine (refNaN_any _).mono ?_; rintro e w' ⟨v, n, hv, rfl, rfl⟩))
      go_ret2
      exact retR_nan hv w _
theorem refRem_cls {c d : Cl} {x y : Nat} (h : Is c x) (g : Is d y) (w : World) :
    Calls Try.prog 17 #[.float .f64 x, .float .f64 y] w (RetR (opR remR c d) w) := by
  have hb := fun w => two_cls h g w
  cases hm : (mayC c && mayC d)
  · rw [opR_no hm]
    rw [twoV_no hm] at hb
    clear hm
    go_enter Try.func17, Try.ntmps17
    go_wp2_with (go_at_call 36; refine (hb _).mono ?_; rintro e w' ⟨rfl, rfl⟩)
    go_ret2
    exact retR_err 2 w
  · cases hn : (!wholeC c || !wholeC d)
    · obtain ⟨a, b, rfl, rfl⟩ := twoV_ours hn
      have hb : ∀ w, Calls Try.prog 36 #[.float .f64 x, .float .f64 y] w fun e w' => e = .returned (.tuple #[.int .i64 a, .int .i64 b, .bool false, .int .i64 0]) ∧ w = w' := hb
      have hs := h.2
      have ht := g.2
      clear h g hm hn
      show Calls _ _ _ _ (RetR (remR a b) w)
      exact refRem_ours hs ht hb w
    · obtain ⟨e1, e2⟩ := twoV_nan hm hn remR
      rw [e2]
      rw [e1] at hb
      clear hm hn e1 e2 h g
      go_enter Try.func17, Try.ntmps17
      go_wp2_with (first | (go_at_call 36; refine (hb _).mono ?_; rintro e w' ⟨rfl, rfl⟩) | (go_at_call 37; refine (refNaN_any _).mono ?_; rintro e w' ⟨v, n, hv, rfl, rfl⟩))
      go_ret2
      exact retR_nan hv w _
end Go.Proofs.Ytggcepoolcfpgaa
