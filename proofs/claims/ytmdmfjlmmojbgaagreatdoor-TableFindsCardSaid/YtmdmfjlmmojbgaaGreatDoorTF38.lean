/-
  The law TableFinds where it asks nothing.
-/
import Derived.Test.YtmdmfjlmmojbgaaGreatDoorTF37
namespace Go.Proofs.YtmdmfjlmmojbgaaGreatDoor.S
open Go.RowKit Go.Lib Fl
open Classical

noncomputable def longB (n : Nat) : Bool := decide ((200 < n ∧ n < 1020) ∨ 1100 < n)
set_option maxRecDepth 100000 in
theorem long_t (A : Option Addr) (n cap : Nat) (w : World) : Calls Tryz.prog 16 #[.slice A n cap] w fun e w' => e = .returned (.bool (longB n)) ∧ w' = w := by
  unfold longB
  by_cases h1 : 200 < n
  · have z1 : (200 : Int) < (n : Int) := by omega
    by_cases h2 : n < 1020
    · have z2 : (n : Int) < 1020 := by omega
      go_enter Tryz.func16, Tryz.ntmps16
      go_wp2
      go_ret
      exact ⟨by first | rfl | (rw [decide_eq_true (Or.inl ⟨h1, h2⟩)]; rfl), rfl⟩
    · have z2 : ¬ (n : Int) < 1020 := by omega
      by_cases h3 : 1100 < n
      · have z3 : (1100 : Int) < (n : Int) := by omega
        go_enter Tryz.func16, Tryz.ntmps16
        go_wp2
        go_ret
        exact ⟨by first | rfl | (rw [decide_eq_true (Or.inr h3)]; rfl), rfl⟩
      · have z3 : ¬ (1100 : Int) < (n : Int) := by omega
        go_enter Tryz.func16, Tryz.ntmps16
        go_wp2
        go_ret
        exact ⟨by first | rfl | (rw [decide_eq_false (fun h => by omega)]; rfl), rfl⟩
  · have z1 : ¬ (200 : Int) < (n : Int) := by omega
    have z3 : ¬ (1100 : Int) < (n : Int) := by omega
    go_enter Tryz.func16, Tryz.ntmps16
    go_wp2
    go_ret
    exact ⟨by first | rfl | (rw [decide_eq_false (fun h => by omega)]; rfl), rfl⟩
/-- the law's own blocks -/
structure Lw (w : World) (k o : Ky) (d : Dq) (W : World) : Prop where
  below : Below w.heap.size w W
  k : W.heap[w.heap.size]? = some (.cells #[.string k.str, .int .i64 k.sym] 23 (0, 0))
  d : W.heap[w.heap.size + 1]? = some (.cells d.cells 28 (0, 0))
  o : W.heap[w.heap.size + 1 + 1]? = some (.cells #[.string o.str, .int .i64 o.sym] 23 (0, 0))
theorem Lw.up {w W W' : World} {k o : Ky} {d : Dq} (h : Lw w k o d W) (hb : Below W.heap.size W W') : Lw w k o d W' := ⟨vb h.below hb, vblkn hb h.k, vblkn hb h.d, vblkn hb h.o⟩
theorem lw_start (w : World) (k o : Ky) (d : Dq) : Lw w k o d (((w.alloc (.cells #[.string k.str, .int .i64 k.sym] 23)).alloc (.cells d.cells 28)).alloc (.cells #[.string o.str, .int .i64 o.sym] 23)) := by
  obtain ⟨h1, h2, h3⟩ := vblk3 (w := w) (Below.refl _ (((w.alloc (.cells #[.string k.str, .int .i64 k.sym] 23)).alloc (.cells d.cells 28)).alloc (.cells #[.string o.str, .int .i64 o.sym] 23)))
  exact ⟨vafter2 (vzero _ _), h1, h2, h3⟩
set_option maxHeartbeats 4000000 in
set_option maxRecDepth 1000000 in
theorem TF_no (A : Option Addr) (L : List Pq) (cap : Nat) (k o : Ky) (d : Dq) (w : World) (hin : ∀ p ∈ L, p.In) (hl : L.length < 1000000000000) (hL : PR w A L) (hno : longB L.length = true ∨ chkT L ≠ 0 ∨ keyE k ≠ 0 ∨ keyE o ≠ 0) :
    Calls Tryz.prog 4 #[.slice A L.length cap, .agg #[.string k.str, .int .i64 k.sym], .agg d.cells, .agg #[.string o.str, .int .i64 o.sym]] w fun e w' => e = .returned (.bool true) ∧ Below w.heap.size w w' := by
  have cC := fun W (hb : Below w.heap.size w W) => Check_t A L cap W hin hl (pr_up hL hb)
  have cL := fun W => long_t A L.length cap W
  have cK := fun W => keyCheck_t k W
  have cO := fun W => keyCheck_t o W
  have H := Lib.hid (lw_start w k o d)
  generalize longB L.length = lb at *
  generalize chkT L = e1 at *
  generalize keyE k = e2 at *
  generalize keyE o = e3 at *
  have h0 : lb = true ∨ lb = false := by cases lb <;> simp
  rcases h0 with rfl | rfl
  · go_enter Tryz.func4, Tryz.ntmps4
    go_wp2_with (first
      | (go_at_call 15; (with_reducible refine (tabalive_any _).mono ?_); rintro e w1 ⟨rfl, h9⟩; have H := Lib.hid (H.out.up h9); clear h9)
      | (go_at_call 16; (with_reducible refine (cL _).mono ?_); rintro e w2 ⟨rfl, rfl⟩))
    go_ret
    exact ⟨rfl, H.out.below⟩
  · by_cases h1 : e1 = 0
    · subst h1
      by_cases h2 : e2 = 0
      · subst h2
        have h3 : e3 ≠ 0 := by simpa using hno
        go_enter Tryz.func4, Tryz.ntmps4
        go_wp2_with (first
          | (go_at_call 15; (with_reducible refine (tabalive_any _).mono ?_); rintro e w1 ⟨rfl, h9⟩; have H := Lib.hid (H.out.up h9); have k1 := H.out.k; have k3 := H.out.o; clear h9)
          | (go_at_call 16; (with_reducible refine (cL _).mono ?_); rintro e w2 ⟨rfl, rfl⟩)
          | (go_at_call 12; (with_reducible refine (cC _ H.out.below).mono ?_); rintro e w1 ⟨rfl, h9⟩; have H := Lib.hid (H.out.up h9); have k1 := H.out.k; have k3 := H.out.o; clear h9)
          | ((with_reducible refine kk_load ?_ rfl rfl k1 ?_); (rfl))
          | ((with_reducible refine kk_load ?_ rfl rfl k3 ?_); (rfl))
          | (go_at_call 17; first
            | ((with_reducible refine (cK _).mono ?_); rintro e w1 ⟨rfl, h9⟩; have H := Lib.hid (H.out.up h9); have k1 := H.out.k; have k3 := H.out.o; clear h9)
            | ((with_reducible refine (cO _).mono ?_); rintro e w1 ⟨rfl, h9⟩; have H := Lib.hid (H.out.up h9); have k1 := H.out.k; have k3 := H.out.o; clear h9)))
        go_ret
        exact ⟨rfl, H.out.below⟩
      · go_enter Tryz.func4, Tryz.ntmps4
        go_wp2_with (first
          | (go_at_call 15; (with_reducible refine (tabalive_any _).mono ?_); rintro e w1 ⟨rfl, h9⟩; have H := Lib.hid (H.out.up h9); have k1 := H.out.k; clear h9)
          | (go_at_call 16; (with_reducible refine (cL _).mono ?_); rintro e w2 ⟨rfl, rfl⟩)
          | (go_at_call 12; (with_reducible refine (cC _ H.out.below).mono ?_); rintro e w1 ⟨rfl, h9⟩; have H := Lib.hid (H.out.up h9); have k1 := H.out.k; clear h9)
          | ((with_reducible refine kk_load ?_ rfl rfl k1 ?_); (rfl))
          | (go_at_call 17; ((with_reducible refine (cK _).mono ?_); rintro e w1 ⟨rfl, h9⟩; have H := Lib.hid (H.out.up h9); have k1 := H.out.k; clear h9)))
        go_ret
        exact ⟨rfl, H.out.below⟩
    · go_enter Tryz.func4, Tryz.ntmps4
      go_wp2_with (first
        | (go_at_call 15; (with_reducible refine (tabalive_any _).mono ?_); rintro e w1 ⟨rfl, h9⟩; have H := Lib.hid (H.out.up h9); clear h9)
        | (go_at_call 16; (with_reducible refine (cL _).mono ?_); rintro e w2 ⟨rfl, rfl⟩)
        | (go_at_call 12; (with_reducible refine (cC _ H.out.below).mono ?_); rintro e w1 ⟨rfl, h9⟩; have H := Lib.hid (H.out.up h9); clear h9))
      go_ret
      exact ⟨rfl, H.out.below⟩
end Go.Proofs.YtmdmfjlmmojbgaaGreatDoor.S
