/-
  What a text begins with: any token: walks of package lex.
-/
import Derived.Test.YtgjpcoplnpkmoaaGreatDoorLexPiece3
namespace Go.Proofs.YtgjpcoplnpkmoaaGreatDoor.S
open Go.RowKit Fl

theorem set1_blk {w : World} {g i : Nat} {t : TypeId} {cs : Array Value} (h : w.heap[g]? = some (.cells cs t (0, 0))) (u : Value) :
    (w.setCell ⟨g, i, none⟩ u).heap[g]? = some (.cells (cs.setIfInBounds i u) t (0, 0)) := by
  simp [World.setCell, Array.getElem?_modify, h]
theorem set4_blk {w : World} {g : Nat} {t : TypeId} {c0 c1 c2 c3 : Value} (h : w.heap[g]? = some (.cells #[c0, c1, c2, c3] t (0, 0))) (a b c d : Value) :
    ((((w.setCell ⟨g, 0, none⟩ a).setCell ⟨g, 1, none⟩ b).setCell ⟨g, 2, none⟩ c).setCell ⟨g, 3, none⟩ d).heap[g]? = some (.cells #[a, b, c, d] t (0, 0)) :=
  set1_blk (set1_blk (set1_blk (set1_blk h a) b) c) d
theorem after_blk {w w1 : World} {o : Obj} (h : Below (w.alloc o).heap.size (w.alloc o) w1) : w1.heap[w.heap.size]? = some o := by
  have e : (w.alloc o).heap.size = w.heap.size + 1 := by simp
  rw [h.block w.heap.size (by omega)]; exact heap_alloc_new w o
theorem blk_cell {w : World} {g : Nat} {t : TypeId} {cs : Array Value} (h : w.heap[g]? = some (.cells cs t (0, 0))) (i : Nat) : w.cell? ⟨g, i, none⟩ = cs[i]? := cell_of_row w g i cs t (0, 0) h
theorem piece_end {Q : Ending → World → Prop} {tmps : Array Value} {W : World} {g : Nat} {a x y : Int} {b : ByteArray} {c : Nat}
    (h2 : tmps[2]?.getD undef = .pointer (some ⟨g, 0, none⟩)) (h3 : tmps[3]?.getD undef = .int .i64 x) (h4 : tmps[4]?.getD undef = .int .i64 y)
    (hb : W.heap[g]? = some (.cells #[.int .u8 a, .int .i64 0, .string b, .float .f64 c] 25 (0, 0)))
    (hQ : Q (.returned (.tuple #[.agg #[.int .u8 a, .int .i64 0, .string b, .float .f64 c], .int .i64 x, .int .i64 y])) W) :
    bodyPost Tryz.prog Tryz.f60 Q .ret { tmps := tmps, defers := [] } W := by
  have c0 : W.cell? ⟨g, 0, none⟩ = some (.int .u8 a) := blk_cell hb 0
  have c1 : W.cell? ⟨g, 1, none⟩ = some (.int .i64 0) := blk_cell hb 1
  have c2 : W.cell? ⟨g, 2, none⟩ = some (.string b) := blk_cell hb 2
  have c3 : W.cell? ⟨g, 3, none⟩ = some (.float .f64 c) := blk_cell hb 3
  clear hb
  refine bodyPost_ret (v := .tuple #[.agg #[.int .u8 a, .int .i64 0, .string b, .float .f64 c], .int .i64 x, .int .i64 y]) ?_ rfl hQ
  simp [h2, h3, h4, c0, c1, c2, c3, results, Tryz.results60, go_sem]

theorem pr_shape (r : PR) : ∃ (a : Int) (b : ByteArray) (c : Nat), prT r = .agg #[.int .u8 a, .int .i64 0, .string b, .float .f64 c] := by
  cases r with
  | tok k t n wd => exact ⟨k, t, n, rfl⟩
  | bad f => exact ⟨0, ⟨#[]⟩, 0, rfl⟩
theorem nameL_F (l : List UInt8) : prF (nameL l) = 0 := by unfold nameL; split <;> rfl
theorem signL_F (l : List UInt8) : prF (signL l) = 0 := by unfold signL; split <;> rfl
theorem numberL_F (l : List UInt8) : prF (numberL l) = 0 := by
  unfold numberL; split
  · rfl
  · split <;> rfl

set_option maxHeartbeats 2000000 in
theorem piece_any (s : ByteArray) (h0 : 0 < s.size) (hs : s.size ≤ 9223372036854775807) (w : World) : Calls Tryz.prog 60 #[.string s] w (Piece3To (pieceL s.data.toList) w) := by
  have hL : s.data.toList = s[0] :: s.data.toList.drop 1 := by have := drop_get s 0 h0; rwa [List.drop_zero] at this
  have hp : pieceL s.data.toList = if iniB s[0] then nameL s.data.toList else if isDig s[0] then numberL s.data.toList else if s[0] = 34 ∨ s[0] = 39 then literalL s[0] s.data.toList else signL s.data.toList := by
    conv => lhs; rw [hL]
    rw [pieceL_cons, ← hL]
  rw [hp]
  clear hp hL
  have k1 := fun w => lexinitial_any s[0] w
  have k2 := fun w => lexdigit_any s[0] w
  by_cases c1 : iniB s[0] = true
  · rw [if_pos c1]
    rw [c1] at k1
    have kn := fun w => name_any s hs w
    have hF := nameL_F s.data.toList
    generalize nameL s.data.toList = r at *
    have HX : Hid ((.int .i64 0 : Value) = .int .i64 (prF r)) := Lib.hid (by rw [hF])
    obtain ⟨a, b, c, ha⟩ := pr_shape r
    have kn : ∀ w, Calls Tryz.prog 91 #[.string s] w (fun e w' => e = .returned (.tuple #[.agg #[.int .u8 a, .int .i64 0, .string b, .float .f64 c], .int .i64 (prW r)]) ∧ Below w.heap.size w w') := fun w => (kn w).mono fun e w' h => ⟨by rw [h.1, ha], h.2⟩
    have HA := Lib.hid ha
    clear ha hF
    generalize hx : prW r = x at *
    have HW := Lib.hid hx
    clear hx
    have hst := store_f
    go_enter Tryz.func60, Tryz.ntmps60
    go_wp2_with (first | (go_at_call 90; refine (k1 _).mono ?_; rintro e w1 ⟨rfl, rfl⟩) | (go_at_call 91; refine (kn _).mono ?_; rintro e w1 ⟨rfl, h1⟩; obtain ⟨hc, hf⟩ := bcell h1; have hz := lt_after h1))
    refine piece_end (a := a) (b := b) (c := c) (x := x) rfl rfl rfl ?_ (piece3_ok HA.out.symm (by rw [HW.out]) HX.out ?_)
    · exact set4_blk (set4_blk (after_blk h1) _ _ _ _) _ _ _ _
    · exact set4 (set4 (after_alloc h1) (Nat.le_refl _) _ _ _ _) (Nat.le_refl _) _ _ _ _
  · rw [if_neg c1]
    rw [show iniB s[0] = false by simpa using c1] at k1
    by_cases c2 : isDig s[0] = true
    · rw [if_pos c2]
      have kn := fun w => number_any s h0 c2 hs w
      rw [c2] at k2
      have hF := numberL_F s.data.toList
      generalize numberL s.data.toList = r at *
      have HX : Hid ((.int .i64 0 : Value) = .int .i64 (prF r)) := Lib.hid (by rw [hF])
      obtain ⟨a, b, c, ha⟩ := pr_shape r
      have kn : ∀ w, Calls Tryz.prog 93 #[.string s] w (fun e w' => e = .returned (.tuple #[.agg #[.int .u8 a, .int .i64 0, .string b, .float .f64 c], .int .i64 (prW r)]) ∧ Below w.heap.size w w') := fun w => (kn w).mono fun e w' h => ⟨by rw [h.1, ha], h.2⟩
      have HA := Lib.hid ha
      clear ha hF
      generalize hx : prW r = x at *
      have HW := Lib.hid hx
      clear hx
      have hst := store_f
      go_enter Tryz.func60, Tryz.ntmps60
      go_wp2_with (first | (go_at_call 90; refine (k1 _).mono ?_; rintro e w1 ⟨rfl, rfl⟩) | (go_at_call 92; refine (k2 _).mono ?_; rintro e w1 ⟨rfl, rfl⟩) | (go_at_call 93; refine (kn _).mono ?_; rintro e w1 ⟨rfl, h1⟩; obtain ⟨hc, hf⟩ := bcell h1; have hz := lt_after h1))
      refine piece_end (a := a) (b := b) (c := c) (x := x) rfl rfl rfl ?_ (piece3_ok HA.out.symm (by rw [HW.out]) HX.out ?_)
      · exact set4_blk (set4_blk (after_blk h1) _ _ _ _) _ _ _ _
      · exact set4 (set4 (after_alloc h1) (Nat.le_refl _) _ _ _ _) (Nat.le_refl _) _ _ _ _
    · rw [if_neg c2]
      rw [show isDig s[0] = false by simpa using c2] at k2
      by_cases c3 : s[0] = 34 ∨ s[0] = 39
      · rw [if_pos c3]
        have kn := fun w => literal_any s s[0] h0 rfl hs w
        generalize literalL s[0] s.data.toList = r at *
        obtain ⟨a, b, c, ha⟩ := pr_shape r
        have kn : ∀ w, Calls Tryz.prog 94 #[.string s] w (fun e w' => e = .returned (.tuple #[.agg #[.int .u8 a, .int .i64 0, .string b, .float .f64 c], .int .i64 (prW r), .int .i64 (prF r)]) ∧ Below w.heap.size w w') := fun w => (kn w).mono fun e w' h => ⟨by rw [h.1, ha], h.2⟩
        have HA := Lib.hid ha
        clear ha
        generalize hx : prW r = x at *
        have HW := Lib.hid hx
        clear hx
        generalize hy : prF r = y at *
        have HY := Lib.hid hy
        clear hy
        have hst := store_f
        rcases c3 with c3 | c3
        all_goals
          first
          | have t3 : (((s[0].toNat : Nat) : Int) == 34) = true := by rw [c3]; rfl
          | have t3 : (((s[0].toNat : Nat) : Int) == 34) = false := by rw [c3]; rfl
          first
          | have t4 : (((s[0].toNat : Nat) : Int) == 39) = true := by rw [c3]; rfl
          | have t4 : (((s[0].toNat : Nat) : Int) == 39) = false := by rw [c3]; rfl
          clear c3
          go_enter Tryz.func60, Tryz.ntmps60
          go_wp2_with (first | (go_at_call 90; refine (k1 _).mono ?_; rintro e w1 ⟨rfl, rfl⟩) | (go_at_call 92; refine (k2 _).mono ?_; rintro e w1 ⟨rfl, rfl⟩) | (go_at_call 94; refine (kn _).mono ?_; rintro e w1 ⟨rfl, h1⟩; obtain ⟨hc, hf⟩ := bcell h1; have hz := lt_after h1))
          refine piece_end (a := a) (b := b) (c := c) (x := x) rfl rfl rfl ?_ (piece3_ok HA.out.symm (by rw [HW.out]) (by rw [HY.out]) ?_)
          · exact set4_blk (after_blk h1) _ _ _ _
          · exact set4 (after_alloc h1) (Nat.le_refl _) _ _ _ _
      · rw [if_neg c3]
        have t3 : (((s[0].toNat : Nat) : Int) == 34) = false := byte_nb rfl fun g => c3 (Or.inl g)
        have t4 : (((s[0].toNat : Nat) : Int) == 39) = false := byte_nb rfl fun g => c3 (Or.inr g)
        clear c3
        have kn := fun w => lexsign_any s h0 hs w
        have hF := signL_F s.data.toList
        generalize signL s.data.toList = r at *
        have HX : Hid ((.int .i64 0 : Value) = .int .i64 (prF r)) := Lib.hid (by rw [hF])
        obtain ⟨a, b, c, ha⟩ := pr_shape r
        have kn : ∀ w, Calls Tryz.prog 95 #[.string s] w (fun e w' => e = .returned (.tuple #[.agg #[.int .u8 a, .int .i64 0, .string b, .float .f64 c], .int .i64 (prW r)]) ∧ Below w.heap.size w w') := fun w => (kn w).mono fun e w' h => ⟨by rw [h.1, ha], h.2⟩
        have HA := Lib.hid ha
        clear ha hF
        generalize hx : prW r = x at *
        have HW := Lib.hid hx
        clear hx
        have hst := store_f
        go_enter Tryz.func60, Tryz.ntmps60
        go_wp2_with (first | (go_at_call 90; refine (k1 _).mono ?_; rintro e w1 ⟨rfl, rfl⟩) | (go_at_call 92; refine (k2 _).mono ?_; rintro e w1 ⟨rfl, rfl⟩) | (go_at_call 95; refine (kn _).mono ?_; rintro e w1 ⟨rfl, h1⟩; obtain ⟨hc, hf⟩ := bcell h1; have hz := lt_after h1))
        refine piece_end (a := a) (b := b) (c := c) (x := x) rfl rfl rfl ?_ (piece3_ok HA.out.symm (by rw [HW.out]) HX.out ?_)
        · exact set4_blk (set4_blk (after_blk h1) _ _ _ _) _ _ _ _
        · exact set4 (set4 (after_alloc h1) (Nat.le_refl _) _ _ _ _) (Nat.le_refl _) _ _ _ _
end Go.Proofs.YtgjpcoplnpkmoaaGreatDoor.S
