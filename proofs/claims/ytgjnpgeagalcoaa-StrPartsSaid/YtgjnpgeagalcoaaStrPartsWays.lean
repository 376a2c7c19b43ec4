/-
  StrParts: the walk, by where the place lies.
-/
import Derived.Test.YtgjnpgeagalcoaaStrParts
namespace Go.Proofs.Ytgjnpgeagalcoaa
open Go.RowKit Fl

theorem row_eq (s t : ByteArray) : (Op.bytesLess s.data.toList t.data.toList == Op.bytesLess t.data.toList s.data.toList) = (s.toList == t.toList) := by
  rcases less_row s t with ⟨a, b, c⟩ | ⟨a, b, c⟩ | ⟨a, b, c⟩ <;> (rw [a, b, c]; rfl)
theorem row_not (s t : ByteArray) : ¬ (Op.bytesLess s.data.toList t.data.toList = true ∧ Op.bytesLess t.data.toList s.data.toList = true) := by
  rcases less_row s t with ⟨a, b, c⟩ | ⟨a, b, c⟩ | ⟨a, b, c⟩ <;> (rw [a, b]; decide)

set_option maxHeartbeats 4000000 in
set_option maxRecDepth 1000000 in
theorem parts_neg (s t b : ByteArray) (n R : Int) (l1 l2 : Bool) (w : World) (hs : s.size ≤ 3000) (ht : t.size ≤ 3000)
    (m0 : ML w)
    (kf : ∀ w, ML w → Calls Try.prog 10 #[.string s, .string t, .int .i64 n] w fun e w' => e = .returned (.int .i64 R) ∧ w = w')
    (kl1 : ∀ w, Calls Try.prog 16 #[.string s, .string t] w fun e w' => e = .returned (.bool l1) ∧ w = w')
    (kl2 : ∀ w, Calls Try.prog 16 #[.string t, .string s] w fun e w' => e = .returned (.bool l2) ∧ w = w')
    (kt1 : ∀ w, Calls Try.prog 15 #[.string s] w (StrTo b w))
    (kt2 : ∀ w, Calls Try.prog 15 #[.string b] w (StrTo b w))
    (r1 : (l1 == l2) = (s.toList == t.toList)) (r2 : ¬ (l1 = true ∧ l2 = true))
    (f1 : R = -1 ∨ ∃ k : Nat, R = k ∧ k + t.size ≤ s.size ∧ ((s.extract k (k + t.size)).toList == t.toList) = true ∧ (n ≤ k ∨ (s.size : Int) ≤ k))
    (F2 : Hid (n ≤ 0 → t.size ≤ s.size → R ≠ 0 → ((s.extract 0 t.size).toList == t.toList) = false))
    (cn : n < 0) :
    Calls Try.prog 8 #[.string s, .string t, .int .i64 n] w fun e w' => e = .returned (.bool true) ∧ Below w.heap.size w w' := by
  skip
  have R2 := Lib.hid r2
  clear r2
  have hE : ((n ≤ 0 ∧ t.size ≤ s.size ∧ R ≠ 0) ∧ ((s.extract 0 t.size).toList == t.toList) = false) ∨ 0 < n ∨ s.size < t.size ∨ R = 0 := by
    by_cases a : n ≤ 0
    · by_cases c : t.size ≤ s.size
      · by_cases d : R = 0
        · exact Or.inr (Or.inr (Or.inr d))
        · exact Or.inl ⟨⟨a, c, d⟩, F2.out a c d⟩
      · exact Or.inr (Or.inr (Or.inl (by omega)))
    · exact Or.inr (Or.inl (by omega))
  clear F2
  rcases hE with ⟨⟨a1, a2, a3⟩, a4⟩ | a1 | a1 | rfl
  all_goals try (exfalso; omega)
  all_goals
    rcases f1 with f1 | ⟨k, f1, g1, g2, g3⟩
  all_goals try (exfalso; omega)
  all_goals try subst f1
  all_goals
    first
    | (have i1 : ¬ ((s.size : Int) < (k : Int) + (t.size : Int)) := by omega
       have i4 : ¬ ((k : Int) < n) := by omega
       clear g3)
    | skip
  all_goals
    go_enter Try.func8, Try.ntmps8
    go_wp2_with (first
      | (go_at_call 17; refine (alive_any _).mono ?_; rintro e w1 ⟨rfl, h1⟩; have m1 := m0.below h1)
      | (go_at_call 10; refine (kf _ m1).mono ?_; rintro e w2 ⟨rfl, rfl⟩)
      | (go_at_call 16; ((with_reducible refine (kl1 _).mono ?_); rintro e w3 ⟨rfl, rfl⟩))
      | (go_at_call 16; ((with_reducible refine (kl2 _).mono ?_); rintro e w4 ⟨rfl, rfl⟩))
      | (go_at_call 15; ((with_reducible refine (kt1 _).mono ?_); rintro e w5 ⟨rfl, h5⟩))
      | (go_at_call 15; ((with_reducible refine (kt2 _).mono ?_); rintro e w6 ⟨rfl, h6⟩)))
  all_goals first | (go_ret; exact ⟨rfl, below_up (below_up h1 h5) h6⟩) | exact absurd ⟨by assumption, by assumption⟩ R2.out
set_option maxHeartbeats 4000000 in
set_option maxRecDepth 1000000 in
theorem parts_over (s t b : ByteArray) (n R : Int) (l1 l2 : Bool) (w : World) (hs : s.size ≤ 3000) (ht : t.size ≤ 3000)
    (m0 : ML w)
    (kf : ∀ w, ML w → Calls Try.prog 10 #[.string s, .string t, .int .i64 n] w fun e w' => e = .returned (.int .i64 R) ∧ w = w')
    (kl1 : ∀ w, Calls Try.prog 16 #[.string s, .string t] w fun e w' => e = .returned (.bool l1) ∧ w = w')
    (kl2 : ∀ w, Calls Try.prog 16 #[.string t, .string s] w fun e w' => e = .returned (.bool l2) ∧ w = w')
    (kt1 : ∀ w, Calls Try.prog 15 #[.string s] w (StrTo b w))
    (kt2 : ∀ w, Calls Try.prog 15 #[.string b] w (StrTo b w))
    (r1 : (l1 == l2) = (s.toList == t.toList)) (r2 : ¬ (l1 = true ∧ l2 = true))
    (f1 : R = -1 ∨ ∃ k : Nat, R = k ∧ k + t.size ≤ s.size ∧ ((s.extract k (k + t.size)).toList == t.toList) = true ∧ (n ≤ k ∨ (s.size : Int) ≤ k))
    (cn : (s.size : Int) < n) :
    Calls Try.prog 8 #[.string s, .string t, .int .i64 n] w fun e w' => e = .returned (.bool true) ∧ Below w.heap.size w w' := by
  skip
  have R2 := Lib.hid r2
  clear r2
  rcases f1 with rfl | ⟨k, rfl, g1, g2, g3⟩
  all_goals skip
  all_goals
    first
    | (have i1 : ¬ ((s.size : Int) < (k : Int) + (t.size : Int)) := by omega
       have i4 : ¬ ((k : Int) < (s.size : Int)) := by omega
       clear g3)
    | skip
  all_goals
    go_enter Try.func8, Try.ntmps8
    go_wp2_with (first
      | (go_at_call 17; refine (alive_any _).mono ?_; rintro e w1 ⟨rfl, h1⟩; have m1 := m0.below h1)
      | (go_at_call 10; refine (kf _ m1).mono ?_; rintro e w2 ⟨rfl, rfl⟩)
      | (go_at_call 16; ((with_reducible refine (kl1 _).mono ?_); rintro e w3 ⟨rfl, rfl⟩))
      | (go_at_call 16; ((with_reducible refine (kl2 _).mono ?_); rintro e w4 ⟨rfl, rfl⟩))
      | (go_at_call 15; ((with_reducible refine (kt1 _).mono ?_); rintro e w5 ⟨rfl, h5⟩))
      | (go_at_call 15; ((with_reducible refine (kt2 _).mono ?_); rintro e w6 ⟨rfl, h6⟩)))
  all_goals first | (go_ret; exact ⟨rfl, below_up (below_up h1 h5) h6⟩) | exact absurd ⟨by assumption, by assumption⟩ R2.out
set_option maxHeartbeats 4000000 in
set_option maxRecDepth 1000000 in
theorem parts_in (s t b : ByteArray) (n R : Int) (l1 l2 : Bool) (w : World) (hs : s.size ≤ 3000) (ht : t.size ≤ 3000)
    (m0 : ML w)
    (kf : ∀ w, ML w → Calls Try.prog 10 #[.string s, .string t, .int .i64 n] w fun e w' => e = .returned (.int .i64 R) ∧ w = w')
    (kl1 : ∀ w, Calls Try.prog 16 #[.string s, .string t] w fun e w' => e = .returned (.bool l1) ∧ w = w')
    (kl2 : ∀ w, Calls Try.prog 16 #[.string t, .string s] w fun e w' => e = .returned (.bool l2) ∧ w = w')
    (kt1 : ∀ w, Calls Try.prog 15 #[.string s] w (StrTo b w))
    (kt2 : ∀ w, Calls Try.prog 15 #[.string b] w (StrTo b w))
    (r1 : (l1 == l2) = (s.toList == t.toList)) (r2 : ¬ (l1 = true ∧ l2 = true))
    (f1 : R = -1 ∨ ∃ k : Nat, R = k ∧ k + t.size ≤ s.size ∧ ((s.extract k (k + t.size)).toList == t.toList) = true ∧ (n ≤ k ∨ (s.size : Int) ≤ k))
    (F2 : Hid (n ≤ 0 → t.size ≤ s.size → R ≠ 0 → ((s.extract 0 t.size).toList == t.toList) = false))
    (k1 : Nat) (hk1 : n = (k1 : Int)) (cn : k1 ≤ s.size) (a c : ByteArray) (za : a.size = k1)
    (kp1 : ∀ w, Calls Try.prog 9 #[.string s, .float .f64 0, .float .f64 (F k1)] w (StrTo a w))
    (kp2 : ∀ w, Calls Try.prog 9 #[.string s, .float .f64 (F k1), .float .f64 (F s.size)] w (StrTo c w))
    (kj : ∀ w, Calls Try.prog 18 #[.string a, .string c] w (StrIntTo s 0 w)) :
    Calls Try.prog 8 #[.string s, .string t, .int .i64 n] w fun e w' => e = .returned (.bool true) ∧ Below w.heap.size w w' := by
  subst hk1
  have R2 := Lib.hid r2
  clear r2
  have hE : (((k1 : Int) ≤ 0 ∧ t.size ≤ s.size ∧ R ≠ 0) ∧ ((s.extract 0 t.size).toList == t.toList) = false) ∨ 0 < (k1 : Int) ∨ s.size < t.size ∨ R = 0 := by
    by_cases a : (k1 : Int) ≤ 0
    · by_cases c : t.size ≤ s.size
      · by_cases d : R = 0
        · exact Or.inr (Or.inr (Or.inr d))
        · exact Or.inl ⟨⟨a, c, d⟩, F2.out a c d⟩
      · exact Or.inr (Or.inr (Or.inl (by omega)))
    · exact Or.inr (Or.inl (by omega))
  clear F2
  rcases hE with ⟨⟨a1, a2, a3⟩, a4⟩ | a1 | a1 | rfl
  all_goals try (exfalso; omega)
  all_goals
    rcases f1 with f1 | ⟨k, f1, g1, g2, g3⟩
  all_goals try (exfalso; omega)
  all_goals try subst f1
  all_goals
    first
    | (have i1 : ¬ ((s.size : Int) < (k : Int) + (t.size : Int)) := by omega
       have i4 : ¬ ((k : Int) < (k1 : Int)) := by omega
       clear g3)
    | skip
  all_goals
    go_enter Try.func8, Try.ntmps8
    go_wp2_with (first
      | (go_at_call 17; refine (alive_any _).mono ?_; rintro e w1 ⟨rfl, h0⟩)
      | (go_at_call 9; ((with_reducible refine (kp1 _).mono ?_); rintro e w1 ⟨rfl, h01⟩))
      | (go_at_call 9; ((with_reducible refine (kp2 _).mono ?_); rintro e w1 ⟨rfl, h02⟩))
      | (go_at_call 18; refine (kj _).mono ?_; rintro e w1 ⟨rfl, h03⟩; have h1 := below_up (below_up (below_up h0 h01) h02) h03; have m1 := m0.below h1)
      | (go_at_call 10; refine (kf _ m1).mono ?_; rintro e w2 ⟨rfl, rfl⟩)
      | (go_at_call 16; ((with_reducible refine (kl1 _).mono ?_); rintro e w3 ⟨rfl, rfl⟩))
      | (go_at_call 16; ((with_reducible refine (kl2 _).mono ?_); rintro e w4 ⟨rfl, rfl⟩))
      | (go_at_call 15; ((with_reducible refine (kt1 _).mono ?_); rintro e w5 ⟨rfl, h5⟩))
      | (go_at_call 15; ((with_reducible refine (kt2 _).mono ?_); rintro e w6 ⟨rfl, h6⟩)))
  all_goals first | (go_ret; exact ⟨rfl, below_up (below_up h1 h5) h6⟩) | exact absurd ⟨by assumption, by assumption⟩ R2.out

theorem StrParts_walk (s t : ByteArray) (n : Int) (w : World) (hsh : w.ShapedOpen Try.prog) (_ : s.size ≤ maxLen) (_ : t.size ≤ maxLen) (_ : (Lit.int .i64 n).wf = true) :
    Calls Try.prog 8 #[.string s, .string t, .int .i64 n] w fun e w' => e = .returned (.bool true) ∧ Below w.heap.size w w' := by
  by_cases hc : s.size > 3000 ∨ t.size > 3000
  · exact parts_long s t n w hc
  · have hs : s.size ≤ 3000 := by omega
    have ht : t.size ≤ 3000 := by omega
    have kt2 := fun w => Trim_any (trimT s) w (Nat.le_trans (trimT_le s) (by omega))
    rw [trim_trim] at kt2
    have ft := find_told s t n
    have m0 := ml_shaped hsh
    have kf := fun w hw => Find_any s t n w hw (by omega)
    have kl1 := fun w => Less_any s t w
    have kl2 := fun w => Less_any t s w
    have kt1 := fun w => Trim_any s w (by omega)
    by_cases c1 : n < 0
    · exact parts_neg s t (trimT s) n (findI s t n) _ _ w hs ht m0 kf kl1 kl2 kt1 kt2 (row_eq s t) (row_not s t) ft.1 (Lib.hid ft.2) c1
    · by_cases c2 : (s.size : Int) < n
      · exact parts_over s t (trimT s) n (findI s t n) _ _ w hs ht m0 kf kl1 kl2 kt1 kt2 (row_eq s t) (row_not s t) ft.1 c2
      · obtain ⟨k, rfl⟩ := Int.eq_ofNat_of_zero_le (show 0 ≤ n by omega)
        have hk : k ≤ s.size := by omega
        have kp1 := fun w => Part_any s 0 (F k) w (by omega)
        rw [part_head s k hk (by omega)] at kp1
        have kp2 := fun w => Part_any s (F k) (F s.size) w (by omega)
        rw [part_tail s k hk (by omega)] at kp2
        have kj := fun w => Join_any (s.extract 0 k) (s.extract k s.size) w (by simp; omega) (by simp; omega)
        obtain ⟨j1, j2⟩ := join_parts s k hk (by omega)
        rw [j1, j2] at kj
        exact parts_in s t (trimT s) _ (findI s t _) _ _ w hs ht m0 kf kl1 kl2 kt1 kt2 (row_eq s t) (row_not s t) ft.1 (Lib.hid ft.2) k rfl hk _ _ (by simp; omega) kp1 kp2 kj
end Go.Proofs.Ytgjnpgeagalcoaa
