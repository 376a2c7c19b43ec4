/-
  value.Plain, for any values that may be: the walk.
-/
import Derived.Test.YthjmpifdhbjdcaaDoorValPlain
namespace Go.Proofs.YthjmpifdhbjdcaaDoor.S
open Go.RowKit Fl

def plainW (a b : Vl) : Bool × Int :=
  if a.kd = b.kd then (sameV a b && !noneV a, 0)
  else if a.kd = 3 ∧ b.kd = 4 then readsV b.st a.fl
  else if a.kd = 4 ∧ b.kd = 3 then readsV a.st b.fl
  else ((a.kd == 0 || a.kd == 1) && (b.kd == 0 || b.kd == 1), 0)
def plainV (a b : Vl) : Bool × Int := if objB a.kd || objB b.kd then (false, 9) else plainW (cnt a) (cnt b)
theorem Plain_obj {a b : Vl} (ha : a.ok) (hb : b.ok) (ho : (objB a.kd || objB b.kd) = true) (w : World) : Calls Tryd.prog 12 #[a.val, b.val] w fun e w' => e = .returned (.tuple #[.bool false, .int .i64 9]) ∧ Below w.heap.size w w' := by
  have k1 := fun w => plain_v ha w
  have k2 := fun w => plain_v hb w
  unfold Vl.val at *
  clear ha hb
  generalize objB a.kd = oa at *
  generalize objB b.kd = ob at *
  generalize a.kd = k at *
  generalize a.fl = x at *
  generalize a.st = s at *
  generalize a.rf = r at *
  generalize b.kd = k' at *
  generalize b.fl = x' at *
  generalize b.st = s' at *
  generalize b.rf = r' at *
  cases oa
  · rw [Bool.false_or] at ho
    subst ho
    go_enter Tryd.func12, Tryd.ntmps12
    go_wp2_with (first
      | (go_at_call 22; (with_reducible refine (k1 _).mono ?_); rintro e w1 ⟨rfl, h1⟩; obtain ⟨hc1, hf1⟩ := vcell h1; obtain ⟨hz1, hz2⟩ := vlt2 h1)
      | (go_at_call 22; (with_reducible refine (k2 _).mono ?_); rintro e w2 ⟨rfl, h2⟩))
    go_ret2
    exact ⟨rfl, vafter2 (vb h1 h2)⟩
  · clear ho
    go_enter Tryd.func12, Tryd.ntmps12
    go_wp2_with (go_at_call 22; (with_reducible refine (k1 _).mono ?_); rintro e w1 ⟨rfl, h1⟩)
    go_ret2
    exact ⟨rfl, vafter2 h1⟩
theorem two_sets {w : World} {g h : Nat} {t u : TypeId} {c0 c1 c2 c3 d0 d1 d2 d3 : Value} (hne : g ≠ h) (b7 : w.heap[g]? = some (.cells #[c0, c1, c2, c3] t (0, 0))) (b8 : w.heap[h]? = some (.cells #[d0, d1, d2, d3] u (0, 0))) (a b c d e f i j : Value) :
    ((((((((w.setCell ⟨g, 0, none⟩ a).setCell ⟨g, 1, none⟩ b).setCell ⟨g, 2, none⟩ c).setCell ⟨g, 3, none⟩ d).setCell ⟨h, 0, none⟩ e).setCell ⟨h, 1, none⟩ f).setCell ⟨h, 2, none⟩ i).setCell ⟨h, 3, none⟩ j).heap[g]? = some (.cells #[a, b, c, d] t (0, 0)) ∧
    ((((((((w.setCell ⟨g, 0, none⟩ a).setCell ⟨g, 1, none⟩ b).setCell ⟨g, 2, none⟩ c).setCell ⟨g, 3, none⟩ d).setCell ⟨h, 0, none⟩ e).setCell ⟨h, 1, none⟩ f).setCell ⟨h, 2, none⟩ i).setCell ⟨h, 3, none⟩ j).heap[h]? = some (.cells #[e, f, i, j] u (0, 0)) := by
  refine ⟨?_, ?_⟩
  · exact vset1o (vset1o (vset1o (vset1o (vset4 b7 a b c d) hne.symm 0 e) hne.symm 1 f) hne.symm 2 i) hne.symm 3 j
  · exact vset4 (vset1o (vset1o (vset1o (vset1o b8 hne 0 a) hne 1 b) hne 2 c) hne 3 d) e f i j
theorem kd_cnt {v : Vl} (h : v.ok) : (cnt v).kd ≤ 8 := by
  cases v with
  | obj k r => have := h.1; simp only [cnt, Vl.kd]; omega
  | _ => simp only [cnt, Vl.kd]; omega
theorem st_cnt {v : Vl} (h : v.ok) : (cnt v).st.size ≤ maxLen := by
  have e : (cnt v).st = v.st := by cases v <;> rfl
  rw [e]
  unfold maxLen
  cases v with
  | str s => have h : s.size ≤ 4096 := h; show s.size ≤ _; omega
  | _ => show (⟨#[]⟩ : ByteArray).size ≤ _; decide
set_option maxHeartbeats 2000000 in
theorem Plain_not {a b : Vl} (ha : a.ok) (hb : b.ok) (ho : (objB a.kd || objB b.kd) = false) (w : World) : Calls Tryd.prog 12 #[a.val, b.val] w fun e w' => e = .returned (.tuple #[.bool (plainW (cnt a) (cnt b)).1, .int .i64 (plainW (cnt a) (cnt b)).2]) ∧ Below w.heap.size w w' := by
  rw [Bool.or_eq_false_iff] at ho
  have k1 := fun w => plain_v ha w
  have k2 := fun w => plain_v hb w
  have c1 := fun w => counted_v ha w
  have c2 := fun w => counted_v hb w
  rw [ho.1] at k1
  rw [ho.2] at k2
  have hst := vstore
  have n1 := kd_cnt ha
  have n2 := st_cnt ha
  have n3 := st_cnt hb
  obtain ⟨P, hP⟩ : ∃ P, plainW (cnt a) (cnt b) = P := ⟨_, rfl⟩
  rw [hP]
  unfold plainW sameV noneV at hP
  unfold Vl.val at *
  clear ha hb ho
  generalize (cnt a).kd = ck at *
  generalize (cnt a).fl = cx at *
  generalize (cnt a).st = cs at *
  generalize (cnt a).rf = cr at *
  generalize (cnt b).kd = ck' at *
  generalize (cnt b).fl = cx' at *
  generalize (cnt b).st = cs' at *
  generalize (cnt b).rf = cr' at *
  generalize a.kd = k at *
  generalize a.fl = x at *
  generalize a.st = s at *
  generalize a.rf = r at *
  generalize b.kd = k' at *
  generalize b.fl = x' at *
  generalize b.st = s' at *
  generalize b.rf = r' at *
  have HP := Lib.hid (And.intro hP (And.intro n1 (And.intro n2 n3)))
  clear hP n1 n2 n3
  go_enter Tryd.func12, Tryd.ntmps12
  go_wp2_with (first
    | (go_at_call 22; (with_reducible refine (k1 _).mono ?_); rintro e w1 ⟨rfl, h1⟩; obtain ⟨hc1, hf1⟩ := vcell h1; obtain ⟨hz1, hz2⟩ := vlt2 h1; have B1 := Lib.hid (vafter2 h1); obtain ⟨b1, b2⟩ := vblk2 h1)
    | (go_at_call 22; (with_reducible refine (k2 _).mono ?_); rintro e w2 ⟨rfl, h2⟩; have hz3 := vltn h2 hz1; have hz4 := vltn h2 hz2; have B2 := Lib.hid (vb B1.out h2); have b3 := vblkn h2 b1; have b4 := vblkn h2 b2; clear hc1 hf1))
  obtain ⟨d0, d1, d2, d3, d8⟩ := vc4 b3
  obtain ⟨d4, d5, d6, d7, d9⟩ := vc4 b4
  have hw : w.heap.size < w2.heap.size := hz3
  clear k1 k2 h1 h2 b1 b2
  go_region_with (first
    | (go_at_call 23; (with_reducible refine (c1 _).mono ?_); rintro e w3 ⟨rfl, h3⟩; have hz5 := vltn h3 hz3; have hz6 := vltn h3 hz4; have B3 := Lib.hid (vb B2.out.drew h3); have b5 := vblkn h3 b3; have b6 := vblkn h3 b4; obtain ⟨e0, e1, e2, e3, e8⟩ := vc4 b5; obtain ⟨e4, e5, e6, e7, e9⟩ := vc4 b6)
    | (go_at_call 23; (with_reducible refine (c2 _).mono ?_); rintro e w4 ⟨rfl, h4⟩; have hz7 := vltn h4 hz5; have hz8 := vltn h4 hz6; have B4 := Lib.hid (vb B3.out h4); have b7 := vblkn h4 b5; have b8 := vblkn h4 b6; obtain ⟨g0, g1, g2, g3, g8⟩ := vc4 b7; obtain ⟨g4, g5, g6, g7, g9⟩ := vc4 b8))
  all_goals
    obtain ⟨p1, p2⟩ := two_sets (by omega) b7 b8 (.int .u8 (ck : Int)) (.float .f64 cx) (.string cs) (.int .i64 cr) (.int .u8 (ck' : Int)) (.float .f64 cx') (.string cs') (.int .i64 cr')
    have BW := Lib.hid (vbel4 (vbel4 B4.out (Nat.le_refl _) (.int .u8 (ck : Int)) (.float .f64 cx) (.string cs) (.int .i64 cr)) (Nat.le_succ _) (.int .u8 (ck' : Int)) (.float .f64 cx') (.string cs') (.int .i64 cr'))
    clear e0 e1 e2 e3 e4 e5 e6 e7 e8 e9 g0 g1 g2 g3 g4 g5 g6 g7 g8 g9 b5 b6 b7 b8 hz5 hz6 hz7 hz8 c1 c2 h3 h4 B3 B4
    generalize ((((((((w4.setCell ⟨w.heap.size, 0, none⟩ (.int .u8 (ck : Int))).setCell ⟨w.heap.size, 1, none⟩ (.float .f64 cx)).setCell ⟨w.heap.size, 2, none⟩ (.string cs)).setCell ⟨w.heap.size, 3, none⟩ (.int .i64 cr)).setCell ⟨w.heap.size + 1, 0, none⟩ (.int .u8 (ck' : Int))).setCell ⟨w.heap.size + 1, 1, none⟩ (.float .f64 cx')).setCell ⟨w.heap.size + 1, 2, none⟩ (.string cs')).setCell ⟨w.heap.size + 1, 3, none⟩ (.int .i64 cr')) = W at *
    clear d0 d1 d2 d3 d4 d5 d6 d7 d8 d9 b3 b4 B1 B2 hz1 hz2 hz3 hz4 hw w4 w3 w2 w1 hst
    obtain ⟨e0, e1, e2, e3, e8⟩ := vc4 p1
    obtain ⟨e4, e5, e6, e7, e9⟩ := vc4 p2
    obtain ⟨hP, n1, n2, n3⟩ := HP.out
    clear HP
    by_cases q : ck = ck'
    · rw [if_pos q] at hP
      have hq : ((ck : Int) == (ck' : Int)) = true := by rw [beq_iff_eq]; omega
      have kS := fun w => Strict_any ck cx cs cr ck' cx' cs' cr' n1 w
      subst hP
      clear q n1 n2 n3
      go_wp2_with (go_at_call 7; (with_reducible refine (kS _).mono ?_); rintro e w5 ⟨rfl, h5⟩)
      go_ret2
      exact ⟨rfl, vb BW.out h5⟩
    · rw [if_neg q] at hP
      have hq : ((ck : Int) == (ck' : Int)) = false := by rw [beq_eq_false_iff_ne]; omega
      by_cases q3 : ck = 3 ∧ ck' = 4
      · rw [if_pos q3] at hP
        obtain ⟨rfl, rfl⟩ := q3
        have kS := fun w => reads_v cs' cx n3 w
        rw [hP] at kS
        clear hq n1 n2 n3 hP q
        go_wp2_with (go_at_call 24; (with_reducible refine (kS _).mono ?_); rintro e w5 ⟨rfl, h5⟩)
        go_ret2
        exact ⟨rfl, vb BW.out h5⟩
      · rw [if_neg q3] at hP
        by_cases q4 : ck = 4 ∧ ck' = 3
        · rw [if_pos q4] at hP
          obtain ⟨rfl, rfl⟩ := q4
          have kS := fun w => reads_v cs cx' n2 w
          rw [hP] at kS
          clear hq n1 n2 n3 hP q q3
          go_wp2_with (go_at_call 24; (with_reducible refine (kS _).mono ?_); rintro e w5 ⟨rfl, h5⟩)
          go_ret2
          exact ⟨rfl, vb BW.out h5⟩
        · rw [if_neg q4] at hP
          have v1 := fun w => void_v ck cx cs cr w
          have v2 := fun w => void_v ck' cx' cs' cr' w
          have hab : ∃ a b, ((ck == 0 || ck == 1) : Bool) = a ∧ ((ck' == 0 || ck' == 1) : Bool) = b := ⟨_, _, rfl, rfl⟩
          obtain ⟨va, vb', ea, eb⟩ := hab
          rw [ea] at v1 hP
          rw [eb] at v2 hP
          subst hP
          clear ea eb n1 n2 n3
          have tri : (((ck : Int) == 3) = true ∧ ((ck' : Int) == 4) = false ∧ ((ck : Int) == 4) = false) ∨ (((ck : Int) == 3) = false ∧ ((ck : Int) == 4) = true ∧ ((ck' : Int) == 3) = false) ∨ (((ck : Int) == 3) = false ∧ ((ck : Int) == 4) = false) := by
            simp only [beq_iff_eq, beq_eq_false_iff_ne]
            omega
          clear q q3 q4
          cases va
          all_goals
            rcases tri with ⟨t1, t2, t3⟩ | ⟨t1, t2, t3⟩ | ⟨t1, t2⟩
            all_goals
              go_wp2_with (first
                | (go_at_call 25; (with_reducible refine (v1 _).mono ?_); rintro e w5 ⟨rfl, h5⟩; have b5 := vblkn h5 p2; obtain ⟨f4, f5, f6, f7, f9⟩ := vc4 b5; have B5 := Lib.hid (vb BW.out h5))
                | (go_at_call 25; (with_reducible refine (v2 _).mono ?_); rintro e w6 ⟨rfl, h6⟩; have B6 := Lib.hid (vb B5.out h6)))
              go_ret2
              exact ⟨rfl, by first | exact B6.out | exact B5.out⟩
theorem Plain_v {a b : Vl} (ha : a.ok) (hb : b.ok) (w : World) : Calls Tryd.prog 12 #[a.val, b.val] w fun e w' => e = .returned (.tuple #[.bool (plainV a b).1, .int .i64 (plainV a b).2]) ∧ Below w.heap.size w w' := by
  unfold plainV
  cases ho : (objB a.kd || objB b.kd)
  · rw [if_neg (by decide)]; exact Plain_not ha hb ho w
  · rw [if_pos rfl]; exact Plain_obj ha hb ho w
end Go.Proofs.YthjmpifdhbjdcaaDoor.S
