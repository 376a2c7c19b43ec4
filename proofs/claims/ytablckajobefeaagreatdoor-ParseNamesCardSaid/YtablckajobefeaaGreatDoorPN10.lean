/-
  One level deeper: walks of the parser's deeper, one for each function that it is handed. Generated: gen_parse.py.
-/
import Derived.Test.YtablckajobefeaaGreatDoorPN09
namespace Go.Proofs.YtablckajobefeaaGreatDoor.S
open Go.RowKit Fl

/-- a new variable that holds the parser's address -/
def BoxAt (z : Pz) (w : World) (g : Nat) : Prop := w.cell? ⟨g, 0, none⟩ = some (.pointer (some ⟨z.b, 0, none⟩)) ∧ g ≠ z.b
theorem box_on {z : Pz} {w w' : World} {g : Nat} (h : BoxAt z w g) (hg : w.grownBy w' (some z.b)) : BoxAt z w' g := ⟨hg.cell h.1 (fun e => h.2 (Option.some.inj e)), h.2⟩
set_option maxHeartbeats 1000000 in
theorem deeper_stated {z : Pz} {s0 : Ps} {f : Ps → Rs Tr} (k : ∀ (s1 : Ps) (w1 : World), At z s1 w1 → s1.next = s0.next → tok z.T s1 = tok z.T s0 → f s1 ≠ .out → Calls Tryz.prog 69 #[.pointer (some ⟨z.b, 0, none⟩)] w1 (Res z w1 (f s1))) {w : World} (h : At z s0 w) (ho : deeperR z.T f s0 ≠ .out) :
    Calls Tryz.prog 68 #[.pointer (some ⟨z.b, 0, none⟩), .func (.func 69) #[.pointer (some ⟨z.b, 0, none⟩)] #[]] w (Res z w (deeperR z.T f s0)) := by
  obtain ⟨_, _, c2, _, fz, hlt⟩ := at_cells h
  by_cases hl : s0.level = 200
  · have t1 : (s0.level == 200) = true := by rw [hl]; rfl
    go_enter Tryz.func68, Tryz.ntmps68
    go_wp2_with (go_at_call 95; refine (refuse_p h 6).mono ?_; rintro e w1 ⟨rfl, g1⟩)
    exact ⟨rfl, res_bad (by unfold deeperR; rw [if_pos hl]) g1⟩
  · have t1 : (s0.level == 200) = false := by rw [beq_eq_false_iff_ne]; exact hl
    have he : deeperR z.T f s0 = (f { s0 with level := w64 (s0.level + 1) }).bind fun t s1 => .ok t { s1 with level := w64 (s1.level - 1) } := by unfold deeperR; rw [if_neg hl]
    have hno : f { s0 with level := w64 (s0.level + 1) } ≠ .out := fun e => ho (by rw [he, e]; rfl)
    have HE := Lib.hid he
    clear he
    go_enter Tryz.func68, Tryz.ntmps68
    go_wp2_with (fail)
    go_at_call 69
    refine (k _ _ (at_level h (w64 (s0.level + 1))) rfl rfl hno).mono ?_
    rintro e w1 hr
    cases hf : f { s0 with level := w64 (s0.level + 1) } with
    | ok t s1 =>
      rw [hf] at hr
      obtain ⟨v, rfl, p1, h1, g1⟩ := hr
      obtain ⟨_, _, d2, _, fz1, hlt1⟩ := at_cells h1
      have g01 := (grown_set w z.b 2 _).trans g1
      go_wp2_with (fail)
      go_ret
      exact res_ok (by rw [HE.out, hf]; rfl) (part_on p1 (by simp) (grown_set _ _ _ _) hlt) (at_level h1 _) (g01.trans (grown_set _ _ _ _))
    | bad p q =>
      rw [hf] at hr
      obtain ⟨rfl, g1⟩ := hr
      exact ⟨rfl, res_bad (by rw [HE.out, hf]; rfl) ((grown_set w z.b 2 _).trans g1)⟩
    | out => exact absurd hf hno

set_option maxHeartbeats 1000000 in
theorem deeper_assigned {z : Pz} {s0 : Ps} {f : Ps → Rs Tr} (k : ∀ (s1 : Ps) (w1 : World), At z s1 w1 → s1.next = s0.next → tok z.T s1 = tok z.T s0 → f s1 ≠ .out → Calls Tryz.prog 152 #[.pointer (some ⟨z.b, 0, none⟩)] w1 (Res z w1 (f s1))) {w : World} (h : At z s0 w) (ho : deeperR z.T f s0 ≠ .out) :
    Calls Tryz.prog 68 #[.pointer (some ⟨z.b, 0, none⟩), .func (.func 152) #[.pointer (some ⟨z.b, 0, none⟩)] #[]] w (Res z w (deeperR z.T f s0)) := by
  obtain ⟨_, _, c2, _, fz, hlt⟩ := at_cells h
  by_cases hl : s0.level = 200
  · have t1 : (s0.level == 200) = true := by rw [hl]; rfl
    go_enter Tryz.func68, Tryz.ntmps68
    go_wp2_with (go_at_call 95; refine (refuse_p h 6).mono ?_; rintro e w1 ⟨rfl, g1⟩)
    exact ⟨rfl, res_bad (by unfold deeperR; rw [if_pos hl]) g1⟩
  · have t1 : (s0.level == 200) = false := by rw [beq_eq_false_iff_ne]; exact hl
    have he : deeperR z.T f s0 = (f { s0 with level := w64 (s0.level + 1) }).bind fun t s1 => .ok t { s1 with level := w64 (s1.level - 1) } := by unfold deeperR; rw [if_neg hl]
    have hno : f { s0 with level := w64 (s0.level + 1) } ≠ .out := fun e => ho (by rw [he, e]; rfl)
    have HE := Lib.hid he
    clear he
    go_enter Tryz.func68, Tryz.ntmps68
    go_wp2_with (fail)
    go_at_call 152
    refine (k _ _ (at_level h (w64 (s0.level + 1))) rfl rfl hno).mono ?_
    rintro e w1 hr
    cases hf : f { s0 with level := w64 (s0.level + 1) } with
    | ok t s1 =>
      rw [hf] at hr
      obtain ⟨v, rfl, p1, h1, g1⟩ := hr
      obtain ⟨_, _, d2, _, fz1, hlt1⟩ := at_cells h1
      have g01 := (grown_set w z.b 2 _).trans g1
      go_wp2_with (fail)
      go_ret
      exact res_ok (by rw [HE.out, hf]; rfl) (part_on p1 (by simp) (grown_set _ _ _ _) hlt) (at_level h1 _) (g01.trans (grown_set _ _ _ _))
    | bad p q =>
      rw [hf] at hr
      obtain ⟨rfl, g1⟩ := hr
      exact ⟨rfl, res_bad (by rw [HE.out, hf]; rfl) ((grown_set w z.b 2 _).trans g1)⟩
    | out => exact absurd hf hno

set_option maxHeartbeats 1000000 in
theorem deeper_led {z : Pz} {s0 : Ps} {f : Ps → Rs Tr} (k : ∀ (s1 : Ps) (w1 : World), At z s1 w1 → s1.next = s0.next → tok z.T s1 = tok z.T s0 → f s1 ≠ .out → Calls Tryz.prog 189 #[.pointer (some ⟨z.b, 0, none⟩)] w1 (Res z w1 (f s1))) {w : World} (h : At z s0 w) (ho : deeperR z.T f s0 ≠ .out) :
    Calls Tryz.prog 68 #[.pointer (some ⟨z.b, 0, none⟩), .func (.func 189) #[.pointer (some ⟨z.b, 0, none⟩)] #[]] w (Res z w (deeperR z.T f s0)) := by
  obtain ⟨_, _, c2, _, fz, hlt⟩ := at_cells h
  by_cases hl : s0.level = 200
  · have t1 : (s0.level == 200) = true := by rw [hl]; rfl
    go_enter Tryz.func68, Tryz.ntmps68
    go_wp2_with (go_at_call 95; refine (refuse_p h 6).mono ?_; rintro e w1 ⟨rfl, g1⟩)
    exact ⟨rfl, res_bad (by unfold deeperR; rw [if_pos hl]) g1⟩
  · have t1 : (s0.level == 200) = false := by rw [beq_eq_false_iff_ne]; exact hl
    have he : deeperR z.T f s0 = (f { s0 with level := w64 (s0.level + 1) }).bind fun t s1 => .ok t { s1 with level := w64 (s1.level - 1) } := by unfold deeperR; rw [if_neg hl]
    have hno : f { s0 with level := w64 (s0.level + 1) } ≠ .out := fun e => ho (by rw [he, e]; rfl)
    have HE := Lib.hid he
    clear he
    go_enter Tryz.func68, Tryz.ntmps68
    go_wp2_with (fail)
    go_at_call 189
    refine (k _ _ (at_level h (w64 (s0.level + 1))) rfl rfl hno).mono ?_
    rintro e w1 hr
    cases hf : f { s0 with level := w64 (s0.level + 1) } with
    | ok t s1 =>
      rw [hf] at hr
      obtain ⟨v, rfl, p1, h1, g1⟩ := hr
      obtain ⟨_, _, d2, _, fz1, hlt1⟩ := at_cells h1
      have g01 := (grown_set w z.b 2 _).trans g1
      go_wp2_with (fail)
      go_ret
      exact res_ok (by rw [HE.out, hf]; rfl) (part_on p1 (by simp) (grown_set _ _ _ _) hlt) (at_level h1 _) (g01.trans (grown_set _ _ _ _))
    | bad p q =>
      rw [hf] at hr
      obtain ⟨rfl, g1⟩ := hr
      exact ⟨rfl, res_bad (by rw [HE.out, hf]; rfl) ((grown_set w z.b 2 _).trans g1)⟩
    | out => exact absurd hf hno

set_option maxHeartbeats 1000000 in
theorem deeper_body {z : Pz} {s0 : Ps} {f : Ps → Rs Tr} {g : Nat} (k : ∀ (s1 : Ps) (w1 : World), At z s1 w1 → BoxAt z w1 g → s1.next = s0.next → tok z.T s1 = tok z.T s0 → f s1 ≠ .out → Calls Tryz.prog 134 #[.pointer (some ⟨g, 0, none⟩)] w1 (Res z w1 (f s1))) {w : World} (h : At z s0 w) (hbx : BoxAt z w g) (ho : deeperR z.T f s0 ≠ .out) :
    Calls Tryz.prog 68 #[.pointer (some ⟨z.b, 0, none⟩), .func (.func 134) #[] #[.pointer (some ⟨g, 0, none⟩)]] w (Res z w (deeperR z.T f s0)) := by
  obtain ⟨_, _, c2, _, fz, hlt⟩ := at_cells h
  by_cases hl : s0.level = 200
  · have t1 : (s0.level == 200) = true := by rw [hl]; rfl
    go_enter Tryz.func68, Tryz.ntmps68
    go_wp2_with (go_at_call 95; refine (refuse_p h 6).mono ?_; rintro e w1 ⟨rfl, g1⟩)
    exact ⟨rfl, res_bad (by unfold deeperR; rw [if_pos hl]) g1⟩
  · have t1 : (s0.level == 200) = false := by rw [beq_eq_false_iff_ne]; exact hl
    have he : deeperR z.T f s0 = (f { s0 with level := w64 (s0.level + 1) }).bind fun t s1 => .ok t { s1 with level := w64 (s1.level - 1) } := by unfold deeperR; rw [if_neg hl]
    have hno : f { s0 with level := w64 (s0.level + 1) } ≠ .out := fun e => ho (by rw [he, e]; rfl)
    have HE := Lib.hid he
    clear he
    go_enter Tryz.func68, Tryz.ntmps68
    go_wp2_with (fail)
    go_at_call 134
    refine (k _ _ (at_level h (w64 (s0.level + 1))) (box_on hbx (grown_set _ _ _ _)) rfl rfl hno).mono ?_
    rintro e w1 hr
    cases hf : f { s0 with level := w64 (s0.level + 1) } with
    | ok t s1 =>
      rw [hf] at hr
      obtain ⟨v, rfl, p1, h1, g1⟩ := hr
      obtain ⟨_, _, d2, _, fz1, hlt1⟩ := at_cells h1
      have g01 := (grown_set w z.b 2 _).trans g1
      go_wp2_with (fail)
      go_ret
      exact res_ok (by rw [HE.out, hf]; rfl) (part_on p1 (by simp) (grown_set _ _ _ _) hlt) (at_level h1 _) (g01.trans (grown_set _ _ _ _))
    | bad p q =>
      rw [hf] at hr
      obtain ⟨rfl, g1⟩ := hr
      exact ⟨rfl, res_bad (by rw [HE.out, hf]; rfl) ((grown_set w z.b 2 _).trans g1)⟩
    | out => exact absurd hf hno

set_option maxHeartbeats 1000000 in
theorem deeper_new {z : Pz} {s0 : Ps} {f : Ps → Rs Tr} {g : Nat} (k : ∀ (s1 : Ps) (w1 : World), At z s1 w1 → BoxAt z w1 g → s1.next = s0.next → tok z.T s1 = tok z.T s0 → f s1 ≠ .out → Calls Tryz.prog 195 #[.pointer (some ⟨g, 0, none⟩)] w1 (Res z w1 (f s1))) {w : World} (h : At z s0 w) (hbx : BoxAt z w g) (ho : deeperR z.T f s0 ≠ .out) :
    Calls Tryz.prog 68 #[.pointer (some ⟨z.b, 0, none⟩), .func (.func 195) #[] #[.pointer (some ⟨g, 0, none⟩)]] w (Res z w (deeperR z.T f s0)) := by
  obtain ⟨_, _, c2, _, fz, hlt⟩ := at_cells h
  by_cases hl : s0.level = 200
  · have t1 : (s0.level == 200) = true := by rw [hl]; rfl
    go_enter Tryz.func68, Tryz.ntmps68
    go_wp2_with (go_at_call 95; refine (refuse_p h 6).mono ?_; rintro e w1 ⟨rfl, g1⟩)
    exact ⟨rfl, res_bad (by unfold deeperR; rw [if_pos hl]) g1⟩
  · have t1 : (s0.level == 200) = false := by rw [beq_eq_false_iff_ne]; exact hl
    have he : deeperR z.T f s0 = (f { s0 with level := w64 (s0.level + 1) }).bind fun t s1 => .ok t { s1 with level := w64 (s1.level - 1) } := by unfold deeperR; rw [if_neg hl]
    have hno : f { s0 with level := w64 (s0.level + 1) } ≠ .out := fun e => ho (by rw [he, e]; rfl)
    have HE := Lib.hid he
    clear he
    go_enter Tryz.func68, Tryz.ntmps68
    go_wp2_with (fail)
    go_at_call 195
    refine (k _ _ (at_level h (w64 (s0.level + 1))) (box_on hbx (grown_set _ _ _ _)) rfl rfl hno).mono ?_
    rintro e w1 hr
    cases hf : f { s0 with level := w64 (s0.level + 1) } with
    | ok t s1 =>
      rw [hf] at hr
      obtain ⟨v, rfl, p1, h1, g1⟩ := hr
      obtain ⟨_, _, d2, _, fz1, hlt1⟩ := at_cells h1
      have g01 := (grown_set w z.b 2 _).trans g1
      go_wp2_with (fail)
      go_ret
      exact res_ok (by rw [HE.out, hf]; rfl) (part_on p1 (by simp) (grown_set _ _ _ _) hlt) (at_level h1 _) (g01.trans (grown_set _ _ _ _))
    | bad p q =>
      rw [hf] at hr
      obtain ⟨rfl, g1⟩ := hr
      exact ⟨rfl, res_bad (by rw [HE.out, hf]; rfl) ((grown_set w z.b 2 _).trans g1)⟩
    | out => exact absurd hf hno
end Go.Proofs.YtablckajobefeaaGreatDoor.S
