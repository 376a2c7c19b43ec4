/-
  value.Plain, for any values that may be: walks.
-/
import Derived.Test.YthjmpifdhbjdcaaDoorValText
import Derived.Deep.RegionHeld3
namespace Go.Proofs.YthjmpifdhbjdcaaDoor.S
open Go.RowKit Fl

theorem plain_v {v : Vl} (h : v.ok) (w : World) : Calls Tryd.prog 22 #[v.val] w fun e w' => e = .returned (.bool (!objB v.kd)) ∧ Below w.heap.size w w' := by
  have k1 := fun w => May_ok h w
  have k2 := fun w => IsObject_v v.kd v.fl v.st v.rf w
  unfold Vl.val at *
  clear h
  generalize objB v.kd = b at *
  generalize v.kd = k at *
  generalize v.fl = x at *
  generalize v.st = s at *
  generalize v.rf = r at *
  go_enter Tryd.func22, Tryd.ntmps22
  go_wp2_with (first
    | (go_at_call 16; (with_reducible refine (k1 _).mono ?_); rintro e w1 ⟨rfl, h1⟩; obtain ⟨hc1, hf1⟩ := vcell h1; have hz1 := vlt1 h1)
    | (go_at_call 19; (with_reducible refine (k2 _).mono ?_); rintro e w2 ⟨rfl, h2⟩))
  go_ret
  exact ⟨rfl, vb (vafter h1) h2⟩
/-- a number for a boolean -/
def cnt : Vl → Vl
  | .boo x => .num x
  | v => v
theorem counted_v {v : Vl} (h : v.ok) (w : World) : Calls Tryd.prog 23 #[v.val] w fun e w' => e = .returned (cnt v).val ∧ Below w.heap.size w w' := by
  have hst := vstore
  by_cases hb : ∃ x, v = .boo x
  · obtain ⟨x, rfl⟩ := hb
    show Calls _ _ #[.agg #[.int .u8 2, .float .f64 x, .string ⟨#[]⟩, .int .i64 0]] w fun e w' => e = .returned (.agg #[.int .u8 3, .float .f64 x, .string ⟨#[]⟩, .int .i64 0]) ∧ Below w.heap.size w w'
    have k1 := fun w => Num_v x w
    clear h
    go_enter Tryd.func23, Tryd.ntmps23
    go_wp2_with (go_at_call 5; (with_reducible refine (k1 _).mono ?_); rintro e w1 ⟨rfl, h1⟩; obtain ⟨hc1, hf1⟩ := vcell h1; obtain ⟨hz1, hz2⟩ := vlt2 h1)
    exact val_end Tryd.results23 rfl (vset4 (vblk2 h1).2 _ _ _ _) ⟨rfl, vbel4 (vafter2 h1) (Nat.le_succ _) _ _ _ _⟩
  · have e : cnt v = v := by cases v <;> first | rfl | exact absurd ⟨_, rfl⟩ hb
    have h2 : ((v.kd : Int) == 2) = false := by
      rw [beq_eq_false_iff_ne]
      cases v with
      | boo x => exact absurd ⟨_, rfl⟩ hb
      | obj k r => have := h.1; simp only [Vl.kd]; omega
      | _ => simp only [Vl.kd]; omega
    rw [e]
    unfold Vl.val
    clear h hb e
    generalize v.kd = k at *
    generalize v.fl = x at *
    generalize v.st = s at *
    generalize v.rf = r at *
    go_enter Tryd.func23, Tryd.ntmps23
    go_wp2_with (fail)
    exact val_end Tryd.results23 rfl (vblk2 (Below.refl _ _)).2 ⟨rfl, vafter2 (Below.refl _ _)⟩
/-- whether a string's number is x -/
def readsV (s : ByteArray) (x : Nat) : Bool × Int := match readR s.data.toList with
  | .nan => (false, 0)
  | .err j => if j = 0 then (feq x 0, 0) else (false, j)
  | .ok n => (feq x (F n), 0)
theorem reads_v (s : ByteArray) (x : Nat) (hs : s.size ≤ maxLen) (w : World) : Calls Tryd.prog 24 #[.string s, .float .f64 x] w fun e w' => e = .returned (.tuple #[.bool (readsV s x).1, .int .i64 (readsV s x).2]) ∧ Below w.heap.size w w' := by
  have k1 := fun w => Read_any s w hs
  unfold readsV
  generalize readR s.data.toList = R at *
  clear hs
  cases R with
  | nan =>
    go_enter Tryd.func24, Tryd.ntmps24
    go_wp2_with (go_at_call 33; refine (k1 _).mono ?_; rintro e w1 ⟨u, j, ⟨hu, rfl⟩, rfl, h1⟩; have hn : FloatKind.f64.format.order x u = none := order_nan_r _ hu.2)
    go_ret2
    exact ⟨rfl, h1⟩
  | err j =>
    by_cases hj : j = 0
    · subst hj
      go_enter Tryd.func24, Tryd.ntmps24
      go_wp2_with (go_at_call 33; refine (k1 _).mono ?_; rintro e w1 ⟨u, j, ⟨rfl, rfl⟩, rfl, h1⟩)
      go_ret2
      exact ⟨rfl, h1⟩
    · have hj2 : (j != 0) = true := by rw [bne_iff_ne]; exact hj
      dsimp only
      rw [if_neg hj]
      go_enter Tryd.func24, Tryd.ntmps24
      go_wp2_with (go_at_call 33; refine (k1 _).mono ?_; rintro e w1 ⟨u, j', ⟨rfl, rfl⟩, rfl, h1⟩)
      go_ret2
      exact ⟨rfl, h1⟩
  | ok n =>
    dsimp only
    go_enter Tryd.func24, Tryd.ntmps24
    go_wp2_with (go_at_call 33; refine (k1 _).mono ?_; rintro e w1 ⟨u, j, ⟨⟨rfl, _⟩, rfl⟩, rfl, h1⟩)
    go_ret2
    exact ⟨rfl, h1⟩
end Go.Proofs.YthjmpifdhbjdcaaDoor.S
