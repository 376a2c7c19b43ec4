/-
  ValueSame: the walk, for any three values.
-/
import Derived.Test.YthjmpifdhbjdcaaDoorValLaw
namespace Go.Proofs.YthjmpifdhbjdcaaDoor.S
open Go.RowKit Fl

theorem May_b (k x : Nat) (s : ByteArray) (r : Int) (hx : x < 2 ^ 64) (hr : r < 2 ^ 63) : ∃ b, (b = true → ∃ v : Vl, v.ok ∧ v.kd = k ∧ v.fl = x ∧ v.st = s ∧ v.rf = r) ∧
    ∀ w, Calls Tryd.prog 16 #[.agg #[.int .u8 (k : Int), .float .f64 x, .string s, .int .i64 r]] w fun e w' => e = .returned (.bool b) ∧ Below w.heap.size w w' := by
  by_cases h : ∃ v : Vl, v.ok ∧ v.kd = k ∧ v.fl = x ∧ v.st = s ∧ v.rf = r
  · obtain ⟨v, hv, rfl, rfl, rfl, rfl⟩ := h
    exact ⟨true, fun _ => ⟨v, hv, rfl, rfl, rfl, rfl⟩, fun w => May_ok hv w⟩
  · refine ⟨false, (fun h => by cases h), fun w => (May_any k x s r w hx hr).mono fun e w' ⟨b, he, hb, g⟩ => ⟨?_, hb⟩⟩
    cases b with
    | false => exact he
    | true => exact absurd (g rfl) h
set_option maxHeartbeats 4000000 in
set_option maxRecDepth 1000000 in
theorem VS_out (k x : Nat) (s : ByteArray) (r : Int) (k' x' : Nat) (s' : ByteArray) (r' : Int) (k'' x'' : Nat) (s'' : ByteArray) (r'' : Int) (w : World) {b1 b2 b3 : Bool}
    (m1 : ∀ w, Calls Tryd.prog 16 #[.agg #[.int .u8 (k : Int), .float .f64 x, .string s, .int .i64 r]] w fun e w' => e = .returned (.bool b1) ∧ Below w.heap.size w w')
    (m2 : ∀ w, Calls Tryd.prog 16 #[.agg #[.int .u8 (k' : Int), .float .f64 x', .string s', .int .i64 r']] w fun e w' => e = .returned (.bool b2) ∧ Below w.heap.size w w')
    (m3 : ∀ w, Calls Tryd.prog 16 #[.agg #[.int .u8 (k'' : Int), .float .f64 x'', .string s'', .int .i64 r'']] w fun e w' => e = .returned (.bool b3) ∧ Below w.heap.size w w')
    (h : (b1 && b2 && b3) = false) :
    Calls Tryd.prog 4 #[.agg #[.int .u8 (k : Int), .float .f64 x, .string s, .int .i64 r], .agg #[.int .u8 (k' : Int), .float .f64 x', .string s', .int .i64 r'], .agg #[.int .u8 (k'' : Int), .float .f64 x'', .string s'', .int .i64 r'']] w fun e w' => e = .returned (.bool true) ∧ Below w.heap.size w w' := by
  have ways : b1 = false ∨ (b1 = true ∧ b2 = false) ∨ (b1 = true ∧ b2 = true ∧ b3 = false) := by revert h; cases b1 <;> cases b2 <;> cases b3 <;> simp
  clear h
  rcases ways with rfl | ⟨rfl, rfl⟩ | ⟨rfl, rfl, rfl⟩
  all_goals
    go_enter Tryd.func4, Tryd.ntmps4
    go_wp2_with (first
      | (go_at_call 17; refine (valalive_any _).mono ?_; rintro e w1 ⟨rfl, h1⟩; have hS := t3_start h1; clear h1; have hS0 := hS; obtain ⟨d0, d1, d2, d3, d4, d5, d6, d7, d8, d9, d10, d11, _⟩ := hS0)
      | (go_at_call 16; first
        | ((with_reducible refine (m1 _).mono ?_); rintro e w2 ⟨rfl, h2⟩; have hS := t3_up hS h2; clear h2; have hS0 := hS; obtain ⟨d0, d1, d2, d3, d4, d5, d6, d7, d8, d9, d10, d11, _⟩ := hS0)
        | ((with_reducible refine (m2 _).mono ?_); rintro e w3 ⟨rfl, h3⟩; have hS := t3_up hS h3; clear h3; have hS0 := hS; obtain ⟨d0, d1, d2, d3, d4, d5, d6, d7, d8, d9, d10, d11, _⟩ := hS0)
        | ((with_reducible refine (m3 _).mono ?_); rintro e w4 ⟨rfl, h4⟩; have hS := t3_up hS h4; clear h4; have hS0 := hS; obtain ⟨d0, d1, d2, d3, d4, d5, d6, d7, d8, d9, d10, d11, _⟩ := hS0)))
    go_ret
    exact ⟨rfl, t3_below hS⟩
theorem kd_le {v : Vl} (h : v.ok) : v.kd ≤ 8 := by
  cases v with
  | obj k r => have := h.1; simp only [Vl.kd]; omega
  | _ => simp only [Vl.kd]; omega
theorem ValueSame_walk (k x : Nat) (s : ByteArray) (r : Int) (k' x' : Nat) (s' : ByteArray) (r' : Int) (k'' x'' : Nat) (s'' : ByteArray) (r'' : Int) (w : World)
    (hx : x < 2 ^ 64) (hr : r < 2 ^ 63) (hx' : x' < 2 ^ 64) (hr' : r' < 2 ^ 63) (hx'' : x'' < 2 ^ 64) (hr'' : r'' < 2 ^ 63) (htab : TabHere w) :
    Calls Tryd.prog 4 #[.agg #[.int .u8 (k : Int), .float .f64 x, .string s, .int .i64 r], .agg #[.int .u8 (k' : Int), .float .f64 x', .string s', .int .i64 r'], .agg #[.int .u8 (k'' : Int), .float .f64 x'', .string s'', .int .i64 r'']] w fun e w' => e = .returned (.bool true) ∧ Below w.heap.size w w' := by
  obtain ⟨b1, g1, m1⟩ := May_b k x s r hx hr
  obtain ⟨b2, g2, m2⟩ := May_b k' x' s' r' hx' hr'
  obtain ⟨b3, g3, m3⟩ := May_b k'' x'' s'' r'' hx'' hr''
  cases hb : (b1 && b2 && b3)
  · exact VS_out k x s r k' x' s' r' k'' x'' s'' r'' w m1 m2 m3 hb
  · rw [Bool.and_eq_true, Bool.and_eq_true] at hb
    obtain ⟨⟨rfl, rfl⟩, rfl⟩ := hb
    obtain ⟨a, ha, rfl, rfl, rfl, rfl⟩ := g1 rfl
    obtain ⟨b, hb, rfl, rfl, rfl, rfl⟩ := g2 rfl
    obtain ⟨c, hc, rfl, rfl, rfl, rfl⟩ := g3 rfl
    have ka := kd_le ha
    have kb := kd_le hb
    refine VS_main a.kd a.fl a.st a.rf b.kd b.fl b.st b.rf c.kd c.fl c.st c.rf w (t := sameV a b) (u := sameV b c) (ca := calB a.kd) (cb := calB b.kd) (n := noneV a) (qa := truthV a) (oa := objB a.kd) (ob := objB b.kd) (bx := (plainV a b).1) (ex := (plainV a b).2) (ta := ⟨(typeV a).toArray⟩) (Pa := fun t => TextV a t.data.toList) (Pb := fun t => TextV b t.data.toList)
      m1 m2 m3 ?_ ?_ ?_ ?_ ?_ ?_ ?_ ?_ ?_ ?_ ?_ ?_ ?_ ?_ rfl rfl rfl ?_ ?_ ?_ ?_ ?_ ?_ ?_
    · exact t3_c fun w => by
        have h := Same_any a.kd a.fl a.st a.rf a.kd a.fl a.st a.rf ka w
        rw [show sameG a.kd a.fl a.st a.rf a.kd a.fl a.st a.rf = true from sameV_refl ha] at h
        exact h
    · exact t3_c fun w => Same_any a.kd a.fl a.st a.rf b.kd b.fl b.st b.rf ka w
    · exact t3_c fun w => by
        have h := Same_any b.kd b.fl b.st b.rf a.kd a.fl a.st a.rf kb w
        rw [show sameG b.kd b.fl b.st b.rf a.kd a.fl a.st a.rf = sameV a b from (sameV_symm ha hb).symm] at h
        exact h
    · exact t3_c fun w => Same_any b.kd b.fl b.st b.rf c.kd c.fl c.st c.rf kb w
    · intro h1 h2
      exact t3_c fun w => by
        have h := Same_any a.kd a.fl a.st a.rf c.kd c.fl c.st c.rf ka w
        rw [show sameG a.kd a.fl a.st a.rf c.kd c.fl c.st c.rf = true from sameV_trans ha hb hc h1 h2] at h
        exact h
    · exact t3_c fun w => Calls_v a.kd a.fl a.st a.rf w
    · exact t3_c fun w => Calls_v b.kd b.fl b.st b.rf w
    · exact t3_c fun w => Type_v ha w
    · intro h1 h2
      exact t3_c fun w => by
        have h := Type_v hb w
        rw [← same_type ha hb h1 (by simpa using h2)] at h
        exact h
    · exact t3_c fun w => Truth_v ha w
    · intro h1
      exact t3_c fun w => by
        have h := Truth_v hb w
        rw [← same_truth ha hb h1] at h
        exact h
    · exact fun w1 hS => (Text_v ha w1 (fun w' h' => htab w' (vb (t3_below hS) h'))).mono fun e w2 ⟨t, he, ht, hb⟩ => ⟨t, he, ht, t3_up hS hb⟩
    · exact fun w1 hS => (Text_v hb w1 (fun w' h' => htab w' (vb (t3_below hS) h'))).mono fun e w2 ⟨t, he, ht, hb⟩ => ⟨t, he, ht, t3_up hS hb⟩
    · exact fun h1 tx ty p1 p2 => bytes_ext (same_text ha hb h1 p1 p2)
    · exact t3_c fun w => Strict_any a.kd a.fl a.st a.rf b.kd b.fl b.st b.rf ka w
    · exact t3_c fun w => Plain_v ha hb w
    · exact t3_c fun w => by
        have h := Plain_v hb ha w
        rw [← plainV_symm ha hb] at h
        exact h
    · exact t3_c fun w => IsObject_v a.kd a.fl a.st a.rf w
    · exact t3_c fun w => IsObject_v b.kd b.fl b.st b.rf w
    · intro h
      have e : plainV a b = (false, 9) := by unfold plainV; rw [if_pos h]
      rw [e]; exact ⟨rfl, rfl⟩
    · intro h1 h2 h3
      rw [strict_plain ha hb h1 h2 h3]; exact ⟨rfl, rfl⟩
end Go.Proofs.YthjmpifdhbjdcaaDoor.S
