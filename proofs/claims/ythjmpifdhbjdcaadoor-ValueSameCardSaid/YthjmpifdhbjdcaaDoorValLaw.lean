/-
  ValueSame: the walk, for any values that may be. Generated: mkvalsame.py.
-/
import Derived.Test.YthjmpifdhbjdcaaDoorValAlive
import Derived.Deep.RegionHeld3
import Derived.Deep.CutRange
namespace Go.Proofs.YthjmpifdhbjdcaaDoor.S
open Go.RowKit Fl

/-- the law's three values stand in its boxes -/
def T3 (w : World) (k x : Nat) (s : ByteArray) (r : Int) (k' x' : Nat) (s' : ByteArray) (r' : Int) (k'' x'' : Nat) (s'' : ByteArray) (r'' : Int) (w' : World) : Prop :=
  w'.cell? ⟨w.heap.size, 0, none⟩ = some (.int .u8 (k : Int)) ∧ w'.cell? ⟨w.heap.size, 1, none⟩ = some (.float .f64 x) ∧ w'.cell? ⟨w.heap.size, 2, none⟩ = some (.string s) ∧ w'.cell? ⟨w.heap.size, 3, none⟩ = some (.int .i64 r) ∧
  w'.cell? ⟨w.heap.size + 1, 0, none⟩ = some (.int .u8 (k' : Int)) ∧ w'.cell? ⟨w.heap.size + 1, 1, none⟩ = some (.float .f64 x') ∧ w'.cell? ⟨w.heap.size + 1, 2, none⟩ = some (.string s') ∧ w'.cell? ⟨w.heap.size + 1, 3, none⟩ = some (.int .i64 r') ∧
  w'.cell? ⟨w.heap.size + 1 + 1, 0, none⟩ = some (.int .u8 (k'' : Int)) ∧ w'.cell? ⟨w.heap.size + 1 + 1, 1, none⟩ = some (.float .f64 x'') ∧ w'.cell? ⟨w.heap.size + 1 + 1, 2, none⟩ = some (.string s'') ∧ w'.cell? ⟨w.heap.size + 1 + 1, 3, none⟩ = some (.int .i64 r'') ∧
  w.heap.size + 1 + 1 < w'.heap.size ∧ Below w.heap.size w w'
section
variable {w : World} {k x : Nat} {s : ByteArray} {r : Int} {k' x' : Nat} {s' : ByteArray} {r' : Int} {k'' x'' : Nat} {s'' : ByteArray} {r'' : Int}
theorem t3_up {w1 w2 : World} (h : T3 w k x s r k' x' s' r' k'' x'' s'' r'' w1) (g : Below w1.heap.size w1 w2) : T3 w k x s r k' x' s' r' k'' x'' s'' r'' w2 := by
  obtain ⟨h0, h1, h2, h3, h4, h5, h6, h7, h8, h9, h10, h11, hl, hb⟩ := h
  obtain ⟨c, _⟩ := vcell g
  refine ⟨(c _ _ ?_).trans h0, (c _ _ ?_).trans h1, (c _ _ ?_).trans h2, (c _ _ ?_).trans h3, (c _ _ ?_).trans h4, (c _ _ ?_).trans h5, (c _ _ ?_).trans h6, (c _ _ ?_).trans h7, (c _ _ ?_).trans h8, (c _ _ ?_).trans h9, (c _ _ ?_).trans h10, (c _ _ ?_).trans h11, vltn g hl, vb hb g⟩ <;> omega
theorem t3_drew {w1 : World} (h : T3 w k x s r k' x' s' r' k'' x'' s'' r'' w1) : T3 w k x s r k' x' s' r' k'' x'' s'' r'' w1.drew := by
  obtain ⟨h0, h1, h2, h3, h4, h5, h6, h7, h8, h9, h10, h11, hl, hb⟩ := h
  exact ⟨h0, h1, h2, h3, h4, h5, h6, h7, h8, h9, h10, h11, hl, hb.drew⟩
theorem t3_below {w1 : World} (h : T3 w k x s r k' x' s' r' k'' x'' s'' r'' w1) : Below w.heap.size w w1 := h.2.2.2.2.2.2.2.2.2.2.2.2.2
theorem t3_start {w1 : World} {t : TypeId} (h : Below (((w.alloc (.cells #[.int .u8 (k : Int), .float .f64 x, .string s, .int .i64 r] t)).alloc (.cells #[.int .u8 (k' : Int), .float .f64 x', .string s', .int .i64 r'] t)).alloc (.cells #[.int .u8 (k'' : Int), .float .f64 x'', .string s'', .int .i64 r''] t)).heap.size (((w.alloc (.cells #[.int .u8 (k : Int), .float .f64 x, .string s, .int .i64 r] t)).alloc (.cells #[.int .u8 (k' : Int), .float .f64 x', .string s', .int .i64 r'] t)).alloc (.cells #[.int .u8 (k'' : Int), .float .f64 x'', .string s'', .int .i64 r''] t)) w1) :
    T3 w k x s r k' x' s' r' k'' x'' s'' r'' w1 := by
  have e : (w.alloc (.cells #[.int .u8 (k : Int), .float .f64 x, .string s, .int .i64 r] t)).heap.size = w.heap.size + 1 := by simp
  obtain ⟨b2, b3⟩ := vblk2 h
  rw [e] at b2 b3
  have hl := (vlt2 h).2
  rw [e] at hl
  have hb := vafter2 h
  have b1 : w1.heap[w.heap.size]? = some (.cells #[.int .u8 (k : Int), .float .f64 x, .string s, .int .i64 r] t) := vblk1 hb
  obtain ⟨h0, h1, h2, h3, _⟩ := vc4 b1
  obtain ⟨h4, h5, h6, h7, _⟩ := vc4 b2
  obtain ⟨h8, h9, h10, h11, _⟩ := vc4 b3
  exact ⟨h0, h1, h2, h3, h4, h5, h6, h7, h8, h9, h10, h11, hl, vafter hb⟩
theorem vput_some (xs : List Value) (d : List Deferred) (i : Nat) (v : Value) : Act.put ⟨xs.toArray, d⟩ (some i) v = ⟨(xs.set i v).toArray, d⟩ := by simp [Act.put]
theorem vH_take {P : Program} {ops : Array Oper} {Q : Exit → Act → World → Prop} {md : Region.Mode} {S : World → Prop} {i d : Nat} {oi : Oper} {v : Value} {fuel : Nat} {listed l2 : Array Bool} {xs : List Value} {ds : List Deferred} {w : World} (hi : ops[i]? = some oi)
    (hs : Region.noSelect ops = true) (hf : Region.free md ops listed i = true) (hr : (Region.ready md ops listed).contains i = true)
    (hQ : ∀ c a w, Q (.panic c) (a.put oi.dst v) w → Q (.panic c) a w) (hw : Region.wanted oi (yielded ops (Act.mk xs.toArray ds).tmps) = true) (hv : ∀ w, S w → (execOp (Act.mk xs.toArray ds).eval oi).run P w = .ok (.value v) w) (hS : S w) (hd : oi.dst = some d) (hl : listed.setIfInBounds i true = l2)
    (h : wpAnyH P md ops Q S fuel l2 ⟨(xs.set d v).toArray, ds⟩ w) : wpAnyH P md ops Q S (fuel + 1) listed ⟨xs.toArray, ds⟩ w :=
  wpAnyH_take hi hs hf hr hQ (Or.inl ⟨hw, hv⟩) hS (by rw [hd, vput_some, hl]; exact h)
theorem vH_skip {P : Program} {ops : Array Oper} {Q : Exit → Act → World → Prop} {md : Region.Mode} {S : World → Prop} {i : Nat} {oi : Oper} {fuel : Nat} {listed l2 : Array Bool} {a : Act} {w : World} (hi : ops[i]? = some oi)
    (hs : Region.noSelect ops = true) (hf : Region.free md ops listed i = true) (hr : (Region.ready md ops listed).contains i = true)
    (hQ : ∀ c a w, Q (.panic c) (a.put oi.dst undef) w → Q (.panic c) a w) (hw : Region.wanted oi (yielded ops a.tmps) = false) (he : a.put oi.dst undef = a) (hl : listed.setIfInBounds i true = l2) (hS : S w)
    (h : wpAnyH P md ops Q S fuel l2 a w) : wpAnyH P md ops Q S (fuel + 1) listed a w :=
  wpAnyH_take hi hs hf hr hQ (Or.inr ⟨hw, rfl⟩) hS (by rw [he, hl]; exact h)
/-- a contract, said of worlds in which the boxes stand -/
theorem t3_c {f : FuncId} {args : Array Value} {v : Value} (h : ∀ w, Calls Tryd.prog f args w fun e w' => e = .returned v ∧ Below w.heap.size w w') (w1 : World) (hS : T3 w k x s r k' x' s' r' k'' x'' s'' r'' w1) :
    Calls Tryd.prog f args w1 fun e w2 => e = .returned v ∧ T3 w k x s r k' x' s' r' k'' x'' s'' r'' w2 := (h w1).mono fun _ _ ⟨he, hb⟩ => ⟨he, t3_up hS hb⟩
end

set_option maxHeartbeats 8000000 in
set_option maxRecDepth 1000000 in
theorem VS_main (k x : Nat) (s : ByteArray) (r : Int) (k' x' : Nat) (s' : ByteArray) (r' : Int) (k'' x'' : Nat) (s'' : ByteArray) (r'' : Int) (w : World) {t u ca cb c n b qa oa ob bx : Bool} {ex : Int} {ta : ByteArray} {Pa Pb : ByteArray → Prop}
    (m1 : ∀ w, Calls Tryd.prog 16 #[.agg #[.int .u8 (k : Int), .float .f64 x, .string s, .int .i64 r]] w fun e w' => e = .returned (.bool true) ∧ Below w.heap.size w w')
    (m2 : ∀ w, Calls Tryd.prog 16 #[.agg #[.int .u8 (k' : Int), .float .f64 x', .string s', .int .i64 r']] w fun e w' => e = .returned (.bool true) ∧ Below w.heap.size w w')
    (m3 : ∀ w, Calls Tryd.prog 16 #[.agg #[.int .u8 (k'' : Int), .float .f64 x'', .string s'', .int .i64 r'']] w fun e w' => e = .returned (.bool true) ∧ Below w.heap.size w w')
    (saa : ∀ w1, T3 w k x s r k' x' s' r' k'' x'' s'' r'' w1 → Calls Tryd.prog 6 #[.agg #[.int .u8 (k : Int), .float .f64 x, .string s, .int .i64 r], .agg #[.int .u8 (k : Int), .float .f64 x, .string s, .int .i64 r]] w1 fun e w2 => e = .returned (.bool true) ∧ T3 w k x s r k' x' s' r' k'' x'' s'' r'' w2)
    (sab : ∀ w1, T3 w k x s r k' x' s' r' k'' x'' s'' r'' w1 → Calls Tryd.prog 6 #[.agg #[.int .u8 (k : Int), .float .f64 x, .string s, .int .i64 r], .agg #[.int .u8 (k' : Int), .float .f64 x', .string s', .int .i64 r']] w1 fun e w2 => e = .returned (.bool t) ∧ T3 w k x s r k' x' s' r' k'' x'' s'' r'' w2)
    (sba : ∀ w1, T3 w k x s r k' x' s' r' k'' x'' s'' r'' w1 → Calls Tryd.prog 6 #[.agg #[.int .u8 (k' : Int), .float .f64 x', .string s', .int .i64 r'], .agg #[.int .u8 (k : Int), .float .f64 x, .string s, .int .i64 r]] w1 fun e w2 => e = .returned (.bool t) ∧ T3 w k x s r k' x' s' r' k'' x'' s'' r'' w2)
    (sbc : ∀ w1, T3 w k x s r k' x' s' r' k'' x'' s'' r'' w1 → Calls Tryd.prog 6 #[.agg #[.int .u8 (k' : Int), .float .f64 x', .string s', .int .i64 r'], .agg #[.int .u8 (k'' : Int), .float .f64 x'', .string s'', .int .i64 r'']] w1 fun e w2 => e = .returned (.bool u) ∧ T3 w k x s r k' x' s' r' k'' x'' s'' r'' w2)
    (sac0 : t = true → u = true → ∀ w1, T3 w k x s r k' x' s' r' k'' x'' s'' r'' w1 → Calls Tryd.prog 6 #[.agg #[.int .u8 (k : Int), .float .f64 x, .string s, .int .i64 r], .agg #[.int .u8 (k'' : Int), .float .f64 x'', .string s'', .int .i64 r'']] w1 fun e w2 => e = .returned (.bool true) ∧ T3 w k x s r k' x' s' r' k'' x'' s'' r'' w2)
    (c1 : ∀ w1, T3 w k x s r k' x' s' r' k'' x'' s'' r'' w1 → Calls Tryd.prog 18 #[.agg #[.int .u8 (k : Int), .float .f64 x, .string s, .int .i64 r]] w1 fun e w2 => e = .returned (.bool ca) ∧ T3 w k x s r k' x' s' r' k'' x'' s'' r'' w2)
    (c2 : ∀ w1, T3 w k x s r k' x' s' r' k'' x'' s'' r'' w1 → Calls Tryd.prog 18 #[.agg #[.int .u8 (k' : Int), .float .f64 x', .string s', .int .i64 r']] w1 fun e w2 => e = .returned (.bool cb) ∧ T3 w k x s r k' x' s' r' k'' x'' s'' r'' w2)
    (y1 : ∀ w1, T3 w k x s r k' x' s' r' k'' x'' s'' r'' w1 → Calls Tryd.prog 11 #[.agg #[.int .u8 (k : Int), .float .f64 x, .string s, .int .i64 r]] w1 fun e w2 => e = .returned (.string ta) ∧ T3 w k x s r k' x' s' r' k'' x'' s'' r'' w2)
    (y20 : t = true → c = true → ∀ w1, T3 w k x s r k' x' s' r' k'' x'' s'' r'' w1 → Calls Tryd.prog 11 #[.agg #[.int .u8 (k' : Int), .float .f64 x', .string s', .int .i64 r']] w1 fun e w2 => e = .returned (.string ta) ∧ T3 w k x s r k' x' s' r' k'' x'' s'' r'' w2)
    (q1 : ∀ w1, T3 w k x s r k' x' s' r' k'' x'' s'' r'' w1 → Calls Tryd.prog 10 #[.agg #[.int .u8 (k : Int), .float .f64 x, .string s, .int .i64 r]] w1 fun e w2 => e = .returned (.bool qa) ∧ T3 w k x s r k' x' s' r' k'' x'' s'' r'' w2)
    (q20 : t = true → ∀ w1, T3 w k x s r k' x' s' r' k'' x'' s'' r'' w1 → Calls Tryd.prog 10 #[.agg #[.int .u8 (k' : Int), .float .f64 x', .string s', .int .i64 r']] w1 fun e w2 => e = .returned (.bool qa) ∧ T3 w k x s r k' x' s' r' k'' x'' s'' r'' w2)
    (x1 : ∀ w1, T3 w k x s r k' x' s' r' k'' x'' s'' r'' w1 → Calls Tryd.prog 14 #[.agg #[.int .u8 (k : Int), .float .f64 x, .string s, .int .i64 r]] w1 fun e w2 => ∃ tx, e = .returned (.string tx) ∧ Pa tx ∧ T3 w k x s r k' x' s' r' k'' x'' s'' r'' w2)
    (x2 : ∀ w1, T3 w k x s r k' x' s' r' k'' x'' s'' r'' w1 → Calls Tryd.prog 14 #[.agg #[.int .u8 (k' : Int), .float .f64 x', .string s', .int .i64 r']] w1 fun e w2 => ∃ tx, e = .returned (.string tx) ∧ Pb tx ∧ T3 w k x s r k' x' s' r' k'' x'' s'' r'' w2)
    (hx0 : t = true → ∀ tx ty, Pa tx → Pb ty → tx = ty)
    (hn : (k == 3 && !feq x x) = n) (hb : (t && !n) = b) (hc : (ca == cb) = c)
    (st : ∀ w1, T3 w k x s r k' x' s' r' k'' x'' s'' r'' w1 → Calls Tryd.prog 7 #[.agg #[.int .u8 (k : Int), .float .f64 x, .string s, .int .i64 r], .agg #[.int .u8 (k' : Int), .float .f64 x', .string s', .int .i64 r']] w1 fun e w2 => e = .returned (.bool b) ∧ T3 w k x s r k' x' s' r' k'' x'' s'' r'' w2)
    (p1 : ∀ w1, T3 w k x s r k' x' s' r' k'' x'' s'' r'' w1 → Calls Tryd.prog 12 #[.agg #[.int .u8 (k : Int), .float .f64 x, .string s, .int .i64 r], .agg #[.int .u8 (k' : Int), .float .f64 x', .string s', .int .i64 r']] w1 fun e w2 => e = .returned (.tuple #[.bool bx, .int .i64 ex]) ∧ T3 w k x s r k' x' s' r' k'' x'' s'' r'' w2)
    (p2 : ∀ w1, T3 w k x s r k' x' s' r' k'' x'' s'' r'' w1 → Calls Tryd.prog 12 #[.agg #[.int .u8 (k' : Int), .float .f64 x', .string s', .int .i64 r'], .agg #[.int .u8 (k : Int), .float .f64 x, .string s, .int .i64 r]] w1 fun e w2 => e = .returned (.tuple #[.bool bx, .int .i64 ex]) ∧ T3 w k x s r k' x' s' r' k'' x'' s'' r'' w2)
    (o1 : ∀ w1, T3 w k x s r k' x' s' r' k'' x'' s'' r'' w1 → Calls Tryd.prog 19 #[.agg #[.int .u8 (k : Int), .float .f64 x, .string s, .int .i64 r]] w1 fun e w2 => e = .returned (.bool oa) ∧ T3 w k x s r k' x' s' r' k'' x'' s'' r'' w2)
    (o2 : ∀ w1, T3 w k x s r k' x' s' r' k'' x'' s'' r'' w1 → Calls Tryd.prog 19 #[.agg #[.int .u8 (k' : Int), .float .f64 x', .string s', .int .i64 r']] w1 fun e w2 => e = .returned (.bool ob) ∧ T3 w k x s r k' x' s' r' k'' x'' s'' r'' w2)
    (hob : (oa || ob) = true → bx = false ∧ ex = 9) (hst : oa = false → ob = false → b = true → bx = true ∧ ex = 0) :
    Calls Tryd.prog 4 #[.agg #[.int .u8 (k : Int), .float .f64 x, .string s, .int .i64 r], .agg #[.int .u8 (k' : Int), .float .f64 x', .string s', .int .i64 r'], .agg #[.int .u8 (k'' : Int), .float .f64 x'', .string s'', .int .i64 r'']] w fun e w' => e = .returned (.bool true) ∧ Below w.heap.size w w' := by
  have HOB := Lib.hid hob
  have HST := Lib.hid hst
  have HN := Lib.hid hn
  have HB := Lib.hid hb
  have HC := Lib.hid hc
  have hx := Lib.hid hx0
  have SAC0 := Lib.hid sac0
  have Y20 := Lib.hid y20
  have Q20 := Lib.hid q20
  clear hob hst hn hb hc hx0 sac0 y20 q20
  go_enter Tryd.func4, Tryd.ntmps4
  go_wp2_with (first
    | (go_at_call 17; refine (valalive_any _).mono ?_; rintro e w1 ⟨rfl, h1⟩; have hS := t3_start h1; clear h1; have hS0 := hS; obtain ⟨d0, d1, d2, d3, d4, d5, d6, d7, d8, d9, d10, d11, _⟩ := hS0)
    | (go_at_call 16; first
      | ((with_reducible refine (m1 _).mono ?_); rintro e w2 ⟨rfl, h2⟩; have hS := t3_up hS h2; clear h2; have hS0 := hS; obtain ⟨d0, d1, d2, d3, d4, d5, d6, d7, d8, d9, d10, d11, _⟩ := hS0)
      | ((with_reducible refine (m2 _).mono ?_); rintro e w3 ⟨rfl, h3⟩; have hS := t3_up hS h3; clear h3; have hS0 := hS; obtain ⟨d0, d1, d2, d3, d4, d5, d6, d7, d8, d9, d10, d11, _⟩ := hS0)
      | ((with_reducible refine (m3 _).mono ?_); rintro e w4 ⟨rfl, h4⟩; have hS := t3_up hS h4; clear h4; have hS0 := hS; obtain ⟨d0, d1, d2, d3, d4, d5, d6, d7, d8, d9, d10, d11, _⟩ := hS0)))
  clear m1 m2 m3
  go_cut [61] from 33 to 61 (fun q wx => q = .bool false ∧ T3 w k x s r k' x' s' r' k'' x'' s'' r'' wx)
  case first =>
    cases t with
    | false =>
      have hS := t3_drew hS
      refine wp_region_held_drew (S := T3 w k x s r k' x' s' r' k'' x'' s'' r'') (by kernel_rfl) hS (fun hHeld => ?_)
      refine vH_take (i := 0) (v := .agg #[.int .u8 (k : Int), .float .f64 x, .string s, .int .i64 r]) (d := 33) (l2 := #[true, false, false, false, false, false, false, false, false, false, false, false, false, false, false, false, false, false, false, false, false, false, false, false, false, false, false, false, false]) rfl (by kernel_rfl) (by kernel_rfl) (by kernel_rfl) (fun _ _ _ h => h) (by kernel_rfl) (fun w hSw => ?_) (by assumption) rfl (by kernel_rfl) ?_
      · obtain ⟨h0, h1, h2, h3, h4, h5, h6, h7, h8, h9, h10, h11, _⟩ := hSw; go_simp
      simp only [List.set]
      refine vH_take (i := 1) (v := .agg #[.int .u8 (k : Int), .float .f64 x, .string s, .int .i64 r]) (d := 34) (l2 := #[true, true, false, false, false, false, false, false, false, false, false, false, false, false, false, false, false, false, false, false, false, false, false, false, false, false, false, false, false]) rfl (by kernel_rfl) (by kernel_rfl) (by kernel_rfl) (fun _ _ _ h => h) (by kernel_rfl) (fun w hSw => ?_) (by assumption) rfl (by kernel_rfl) ?_
      · obtain ⟨h0, h1, h2, h3, h4, h5, h6, h7, h8, h9, h10, h11, _⟩ := hSw; go_simp
      simp only [List.set]
      refine wpAnyH_ready (rs := [2]) (by kernel_rfl) (by simp) ?_
      refine AllReadyH.cons rfl (fun K hK => ?_) AllReadyH.nil
      go_simp
      (go_at_call 6; (with_reducible refine (saa _ hS).mono ?_); rintro e wx ⟨rfl, hS⟩)
      refine hK.out _ _ hS (fun hHeld => ?_)
      clear hK K
      refine vH_take (i := 3) (v := .bool false) (d := 36) (l2 := #[true, true, true, true, false, false, false, false, false, false, false, false, false, false, false, false, false, false, false, false, false, false, false, false, false, false, false, false, false]) rfl (by kernel_rfl) (by kernel_rfl) (by kernel_rfl) (fun _ _ _ h => h) (by kernel_rfl) (fun w hSw => ?_) (by assumption) rfl (by kernel_rfl) ?_
      · obtain ⟨h0, h1, h2, h3, h4, h5, h6, h7, h8, h9, h10, h11, _⟩ := hSw; go_simp
      simp only [List.set]
      refine vH_take (i := 4) (v := .bool false) (d := 37) (l2 := #[true, true, true, true, true, false, false, false, false, false, false, false, false, false, false, false, false, false, false, false, false, false, false, false, false, false, false, false, false]) rfl (by kernel_rfl) (by kernel_rfl) (by kernel_rfl) (fun _ _ _ h => h) (by kernel_rfl) (fun w hSw => ?_) (by assumption) rfl (by kernel_rfl) ?_
      · obtain ⟨h0, h1, h2, h3, h4, h5, h6, h7, h8, h9, h10, h11, _⟩ := hSw; go_simp
      simp only [List.set]
      refine vH_take (i := 5) (v := .agg #[.int .u8 (k : Int), .float .f64 x, .string s, .int .i64 r]) (d := 38) (l2 := #[true, true, true, true, true, true, false, false, false, false, false, false, false, false, false, false, false, false, false, false, false, false, false, false, false, false, false, false, false]) rfl (by kernel_rfl) (by kernel_rfl) (by kernel_rfl) (fun _ _ _ h => h) (by kernel_rfl) (fun w hSw => ?_) (by assumption) rfl (by kernel_rfl) ?_
      · obtain ⟨h0, h1, h2, h3, h4, h5, h6, h7, h8, h9, h10, h11, _⟩ := hSw; go_simp
      simp only [List.set]
      refine vH_take (i := 6) (v := .agg #[.int .u8 (k' : Int), .float .f64 x', .string s', .int .i64 r']) (d := 39) (l2 := #[true, true, true, true, true, true, true, false, false, false, false, false, false, false, false, false, false, false, false, false, false, false, false, false, false, false, false, false, false]) rfl (by kernel_rfl) (by kernel_rfl) (by kernel_rfl) (fun _ _ _ h => h) (by kernel_rfl) (fun w hSw => ?_) (by assumption) rfl (by kernel_rfl) ?_
      · obtain ⟨h0, h1, h2, h3, h4, h5, h6, h7, h8, h9, h10, h11, _⟩ := hSw; go_simp
      simp only [List.set]
      refine vH_take (i := 8) (v := .agg #[.int .u8 (k' : Int), .float .f64 x', .string s', .int .i64 r']) (d := 41) (l2 := #[true, true, true, true, true, true, true, false, true, false, false, false, false, false, false, false, false, false, false, false, false, false, false, false, false, false, false, false, false]) rfl (by kernel_rfl) (by kernel_rfl) (by kernel_rfl) (fun _ _ _ h => h) (by kernel_rfl) (fun w hSw => ?_) (by assumption) rfl (by kernel_rfl) ?_
      · obtain ⟨h0, h1, h2, h3, h4, h5, h6, h7, h8, h9, h10, h11, _⟩ := hSw; go_simp
      simp only [List.set]
      refine vH_take (i := 9) (v := .agg #[.int .u8 (k : Int), .float .f64 x, .string s, .int .i64 r]) (d := 42) (l2 := #[true, true, true, true, true, true, true, false, true, true, false, false, false, false, false, false, false, false, false, false, false, false, false, false, false, false, false, false, false]) rfl (by kernel_rfl) (by kernel_rfl) (by kernel_rfl) (fun _ _ _ h => h) (by kernel_rfl) (fun w hSw => ?_) (by assumption) rfl (by kernel_rfl) ?_
      · obtain ⟨h0, h1, h2, h3, h4, h5, h6, h7, h8, h9, h10, h11, _⟩ := hSw; go_simp
      simp only [List.set]
      refine wpAnyH_ready (rs := [7]) (by kernel_rfl) (by simp) ?_
      refine AllReadyH.cons rfl (fun K hK => ?_) AllReadyH.nil
      go_simp
      (go_at_call 6; (with_reducible refine (sab _ hS).mono ?_); rintro e wx ⟨rfl, hS⟩)
      refine hK.out _ _ hS (fun hHeld => ?_)
      clear hK K
      refine wpAnyH_ready (rs := [10]) (by kernel_rfl) (by simp) ?_
      refine AllReadyH.cons rfl (fun K hK => ?_) AllReadyH.nil
      go_simp
      (go_at_call 6; (with_reducible refine (sba _ hS).mono ?_); rintro e wx ⟨rfl, hS⟩)
      refine hK.out _ _ hS (fun hHeld => ?_)
      clear hK K
      refine vH_take (i := 11) (v := .bool false) (d := 44) (l2 := #[true, true, true, true, true, true, true, true, true, true, true, true, false, false, false, false, false, false, false, false, false, false, false, false, false, false, false, false, false]) rfl (by kernel_rfl) (by kernel_rfl) (by kernel_rfl) (fun _ _ _ h => h) (by kernel_rfl) (fun w hSw => ?_) (by assumption) rfl (by kernel_rfl) ?_
      · obtain ⟨h0, h1, h2, h3, h4, h5, h6, h7, h8, h9, h10, h11, _⟩ := hSw; go_simp
      simp only [List.set]
      refine vH_take (i := 12) (v := .bool false) (d := 45) (l2 := #[true, true, true, true, true, true, true, true, true, true, true, true, true, false, false, false, false, false, false, false, false, false, false, false, false, false, false, false, false]) rfl (by kernel_rfl) (by kernel_rfl) (by kernel_rfl) (fun _ _ _ h => h) (by kernel_rfl) (fun w hSw => ?_) (by assumption) rfl (by kernel_rfl) ?_
      · obtain ⟨h0, h1, h2, h3, h4, h5, h6, h7, h8, h9, h10, h11, _⟩ := hSw; go_simp
      simp only [List.set]
      refine vH_take (i := 13) (v := .bool false) (d := 46) (l2 := #[true, true, true, true, true, true, true, true, true, true, true, true, true, true, false, false, false, false, false, false, false, false, false, false, false, false, false, false, false]) rfl (by kernel_rfl) (by kernel_rfl) (by kernel_rfl) (fun _ _ _ h => h) (by kernel_rfl) (fun w hSw => ?_) (by assumption) rfl (by kernel_rfl) ?_
      · obtain ⟨h0, h1, h2, h3, h4, h5, h6, h7, h8, h9, h10, h11, _⟩ := hSw; go_simp
      simp only [List.set]
      refine vH_take (i := 14) (v := .agg #[.int .u8 (k : Int), .float .f64 x, .string s, .int .i64 r]) (d := 47) (l2 := #[true, true, true, true, true, true, true, true, true, true, true, true, true, true, true, false, false, false, false, false, false, false, false, false, false, false, false, false, false]) rfl (by kernel_rfl) (by kernel_rfl) (by kernel_rfl) (fun _ _ _ h => h) (by kernel_rfl) (fun w hSw => ?_) (by assumption) rfl (by kernel_rfl) ?_
      · obtain ⟨h0, h1, h2, h3, h4, h5, h6, h7, h8, h9, h10, h11, _⟩ := hSw; go_simp
      simp only [List.set]
      refine vH_take (i := 15) (v := .agg #[.int .u8 (k' : Int), .float .f64 x', .string s', .int .i64 r']) (d := 48) (l2 := #[true, true, true, true, true, true, true, true, true, true, true, true, true, true, true, true, false, false, false, false, false, false, false, false, false, false, false, false, false]) rfl (by kernel_rfl) (by kernel_rfl) (by kernel_rfl) (fun _ _ _ h => h) (by kernel_rfl) (fun w hSw => ?_) (by assumption) rfl (by kernel_rfl) ?_
      · obtain ⟨h0, h1, h2, h3, h4, h5, h6, h7, h8, h9, h10, h11, _⟩ := hSw; go_simp
      simp only [List.set]
      refine wpAnyH_ready (rs := [16]) (by kernel_rfl) (by simp) ?_
      refine AllReadyH.cons rfl (fun K hK => ?_) AllReadyH.nil
      go_simp
      (go_at_call 6; (with_reducible refine (sab _ hS).mono ?_); rintro e wx ⟨rfl, hS⟩)
      refine hK.out _ _ hS (fun hHeld => ?_)
      clear hK K
      refine vH_take (i := 17) (v := .bool false) (d := 50) (l2 := #[true, true, true, true, true, true, true, true, true, true, true, true, true, true, true, true, true, true, false, false, false, false, false, false, false, false, false, false, false]) rfl (by kernel_rfl) (by kernel_rfl) (by kernel_rfl) (fun _ _ _ h => h) (by kernel_rfl) (fun w hSw => ?_) (by assumption) rfl (by kernel_rfl) ?_
      · obtain ⟨h0, h1, h2, h3, h4, h5, h6, h7, h8, h9, h10, h11, _⟩ := hSw; go_simp
      simp only [List.set]
      refine vH_skip (i := 18) (l2 := #[true, true, true, true, true, true, true, true, true, true, true, true, true, true, true, true, true, true, true, false, false, false, false, false, false, false, false, false, false]) rfl (by kernel_rfl) (by kernel_rfl) (by kernel_rfl) (fun _ _ _ h => h) (by kernel_rfl) (by kernel_rfl) (by kernel_rfl) (by assumption) ?_
      refine vH_skip (i := 19) (l2 := #[true, true, true, true, true, true, true, true, true, true, true, true, true, true, true, true, true, true, true, true, false, false, false, false, false, false, false, false, false]) rfl (by kernel_rfl) (by kernel_rfl) (by kernel_rfl) (fun _ _ _ h => h) (by kernel_rfl) (by kernel_rfl) (by kernel_rfl) (by assumption) ?_
      refine vH_skip (i := 20) (l2 := #[true, true, true, true, true, true, true, true, true, true, true, true, true, true, true, true, true, true, true, true, true, false, false, false, false, false, false, false, false]) rfl (by kernel_rfl) (by kernel_rfl) (by kernel_rfl) (fun _ _ _ h => h) (by kernel_rfl) (by kernel_rfl) (by kernel_rfl) (by assumption) ?_
      refine vH_take (i := 21) (v := .bool false) (d := 54) (l2 := #[true, true, true, true, true, true, true, true, true, true, true, true, true, true, true, true, true, true, true, true, true, true, false, false, false, false, false, false, false]) rfl (by kernel_rfl) (by kernel_rfl) (by kernel_rfl) (fun _ _ _ h => h) (by kernel_rfl) (fun w hSw => ?_) (by assumption) rfl (by kernel_rfl) ?_
      · obtain ⟨h0, h1, h2, h3, h4, h5, h6, h7, h8, h9, h10, h11, _⟩ := hSw; go_simp
      simp only [List.set]
      refine vH_take (i := 22) (v := .bool false) (d := 55) (l2 := #[true, true, true, true, true, true, true, true, true, true, true, true, true, true, true, true, true, true, true, true, true, true, true, false, false, false, false, false, false]) rfl (by kernel_rfl) (by kernel_rfl) (by kernel_rfl) (fun _ _ _ h => h) (by kernel_rfl) (fun w hSw => ?_) (by assumption) rfl (by kernel_rfl) ?_
      · obtain ⟨h0, h1, h2, h3, h4, h5, h6, h7, h8, h9, h10, h11, _⟩ := hSw; go_simp
      simp only [List.set]
      refine vH_skip (i := 23) (l2 := #[true, true, true, true, true, true, true, true, true, true, true, true, true, true, true, true, true, true, true, true, true, true, true, true, false, false, false, false, false]) rfl (by kernel_rfl) (by kernel_rfl) (by kernel_rfl) (fun _ _ _ h => h) (by kernel_rfl) (by kernel_rfl) (by kernel_rfl) (by assumption) ?_
      refine vH_skip (i := 24) (l2 := #[true, true, true, true, true, true, true, true, true, true, true, true, true, true, true, true, true, true, true, true, true, true, true, true, true, false, false, false, false]) rfl (by kernel_rfl) (by kernel_rfl) (by kernel_rfl) (fun _ _ _ h => h) (by kernel_rfl) (by kernel_rfl) (by kernel_rfl) (by assumption) ?_
      refine vH_skip (i := 25) (l2 := #[true, true, true, true, true, true, true, true, true, true, true, true, true, true, true, true, true, true, true, true, true, true, true, true, true, true, false, false, false]) rfl (by kernel_rfl) (by kernel_rfl) (by kernel_rfl) (fun _ _ _ h => h) (by kernel_rfl) (by kernel_rfl) (by kernel_rfl) (by assumption) ?_
      refine vH_skip (i := 26) (l2 := #[true, true, true, true, true, true, true, true, true, true, true, true, true, true, true, true, true, true, true, true, true, true, true, true, true, true, true, false, false]) rfl (by kernel_rfl) (by kernel_rfl) (by kernel_rfl) (fun _ _ _ h => h) (by kernel_rfl) (by kernel_rfl) (by kernel_rfl) (by assumption) ?_
      refine vH_take (i := 27) (v := .bool false) (d := 60) (l2 := #[true, true, true, true, true, true, true, true, true, true, true, true, true, true, true, true, true, true, true, true, true, true, true, true, true, true, true, true, false]) rfl (by kernel_rfl) (by kernel_rfl) (by kernel_rfl) (fun _ _ _ h => h) (by kernel_rfl) (fun w hSw => ?_) (by assumption) rfl (by kernel_rfl) ?_
      · obtain ⟨h0, h1, h2, h3, h4, h5, h6, h7, h8, h9, h10, h11, _⟩ := hSw; go_simp
      simp only [List.set]
      refine vH_take (i := 28) (v := .bool false) (d := 61) (l2 := #[true, true, true, true, true, true, true, true, true, true, true, true, true, true, true, true, true, true, true, true, true, true, true, true, true, true, true, true, true]) rfl (by kernel_rfl) (by kernel_rfl) (by kernel_rfl) (fun _ _ _ h => h) (by kernel_rfl) (fun w hSw => ?_) (by assumption) rfl (by kernel_rfl) ?_
      · obtain ⟨h0, h1, h2, h3, h4, h5, h6, h7, h8, h9, h10, h11, _⟩ := hSw; go_simp
      simp only [List.set]
      refine wpAnyH_done (by kernel_rfl) ?_ _
      go_wp2_with (fail)
      go_meet
      exact ⟨rfl, hS⟩
    | true =>
      cases u with
      | false =>
        have hS := t3_drew hS
        refine wp_region_held_drew (S := T3 w k x s r k' x' s' r' k'' x'' s'' r'') (by kernel_rfl) hS (fun hHeld => ?_)
        refine vH_take (i := 0) (v := .agg #[.int .u8 (k : Int), .float .f64 x, .string s, .int .i64 r]) (d := 33) (l2 := #[true, false, false, false, false, false, false, false, false, false, false, false, false, false, false, false, false, false, false, false, false, false, false, false, false, false, false, false, false]) rfl (by kernel_rfl) (by kernel_rfl) (by kernel_rfl) (fun _ _ _ h => h) (by kernel_rfl) (fun w hSw => ?_) (by assumption) rfl (by kernel_rfl) ?_
        · obtain ⟨h0, h1, h2, h3, h4, h5, h6, h7, h8, h9, h10, h11, _⟩ := hSw; go_simp
        simp only [List.set]
        refine vH_take (i := 1) (v := .agg #[.int .u8 (k : Int), .float .f64 x, .string s, .int .i64 r]) (d := 34) (l2 := #[true, true, false, false, false, false, false, false, false, false, false, false, false, false, false, false, false, false, false, false, false, false, false, false, false, false, false, false, false]) rfl (by kernel_rfl) (by kernel_rfl) (by kernel_rfl) (fun _ _ _ h => h) (by kernel_rfl) (fun w hSw => ?_) (by assumption) rfl (by kernel_rfl) ?_
        · obtain ⟨h0, h1, h2, h3, h4, h5, h6, h7, h8, h9, h10, h11, _⟩ := hSw; go_simp
        simp only [List.set]
        refine wpAnyH_ready (rs := [2]) (by kernel_rfl) (by simp) ?_
        refine AllReadyH.cons rfl (fun K hK => ?_) AllReadyH.nil
        go_simp
        (go_at_call 6; (with_reducible refine (saa _ hS).mono ?_); rintro e wx ⟨rfl, hS⟩)
        refine hK.out _ _ hS (fun hHeld => ?_)
        clear hK K
        refine vH_take (i := 3) (v := .bool false) (d := 36) (l2 := #[true, true, true, true, false, false, false, false, false, false, false, false, false, false, false, false, false, false, false, false, false, false, false, false, false, false, false, false, false]) rfl (by kernel_rfl) (by kernel_rfl) (by kernel_rfl) (fun _ _ _ h => h) (by kernel_rfl) (fun w hSw => ?_) (by assumption) rfl (by kernel_rfl) ?_
        · obtain ⟨h0, h1, h2, h3, h4, h5, h6, h7, h8, h9, h10, h11, _⟩ := hSw; go_simp
        simp only [List.set]
        refine vH_take (i := 4) (v := .bool false) (d := 37) (l2 := #[true, true, true, true, true, false, false, false, false, false, false, false, false, false, false, false, false, false, false, false, false, false, false, false, false, false, false, false, false]) rfl (by kernel_rfl) (by kernel_rfl) (by kernel_rfl) (fun _ _ _ h => h) (by kernel_rfl) (fun w hSw => ?_) (by assumption) rfl (by kernel_rfl) ?_
        · obtain ⟨h0, h1, h2, h3, h4, h5, h6, h7, h8, h9, h10, h11, _⟩ := hSw; go_simp
        simp only [List.set]
        refine vH_take (i := 5) (v := .agg #[.int .u8 (k : Int), .float .f64 x, .string s, .int .i64 r]) (d := 38) (l2 := #[true, true, true, true, true, true, false, false, false, false, false, false, false, false, false, false, false, false, false, false, false, false, false, false, false, false, false, false, false]) rfl (by kernel_rfl) (by kernel_rfl) (by kernel_rfl) (fun _ _ _ h => h) (by kernel_rfl) (fun w hSw => ?_) (by assumption) rfl (by kernel_rfl) ?_
        · obtain ⟨h0, h1, h2, h3, h4, h5, h6, h7, h8, h9, h10, h11, _⟩ := hSw; go_simp
        simp only [List.set]
        refine vH_take (i := 6) (v := .agg #[.int .u8 (k' : Int), .float .f64 x', .string s', .int .i64 r']) (d := 39) (l2 := #[true, true, true, true, true, true, true, false, false, false, false, false, false, false, false, false, false, false, false, false, false, false, false, false, false, false, false, false, false]) rfl (by kernel_rfl) (by kernel_rfl) (by kernel_rfl) (fun _ _ _ h => h) (by kernel_rfl) (fun w hSw => ?_) (by assumption) rfl (by kernel_rfl) ?_
        · obtain ⟨h0, h1, h2, h3, h4, h5, h6, h7, h8, h9, h10, h11, _⟩ := hSw; go_simp
        simp only [List.set]
        refine vH_take (i := 8) (v := .agg #[.int .u8 (k' : Int), .float .f64 x', .string s', .int .i64 r']) (d := 41) (l2 := #[true, true, true, true, true, true, true, false, true, false, false, false, false, false, false, false, false, false, false, false, false, false, false, false, false, false, false, false, false]) rfl (by kernel_rfl) (by kernel_rfl) (by kernel_rfl) (fun _ _ _ h => h) (by kernel_rfl) (fun w hSw => ?_) (by assumption) rfl (by kernel_rfl) ?_
        · obtain ⟨h0, h1, h2, h3, h4, h5, h6, h7, h8, h9, h10, h11, _⟩ := hSw; go_simp
        simp only [List.set]
        refine vH_take (i := 9) (v := .agg #[.int .u8 (k : Int), .float .f64 x, .string s, .int .i64 r]) (d := 42) (l2 := #[true, true, true, true, true, true, true, false, true, true, false, false, false, false, false, false, false, false, false, false, false, false, false, false, false, false, false, false, false]) rfl (by kernel_rfl) (by kernel_rfl) (by kernel_rfl) (fun _ _ _ h => h) (by kernel_rfl) (fun w hSw => ?_) (by assumption) rfl (by kernel_rfl) ?_
        · obtain ⟨h0, h1, h2, h3, h4, h5, h6, h7, h8, h9, h10, h11, _⟩ := hSw; go_simp
        simp only [List.set]
        refine wpAnyH_ready (rs := [7]) (by kernel_rfl) (by simp) ?_
        refine AllReadyH.cons rfl (fun K hK => ?_) AllReadyH.nil
        go_simp
        (go_at_call 6; (with_reducible refine (sab _ hS).mono ?_); rintro e wx ⟨rfl, hS⟩)
        refine hK.out _ _ hS (fun hHeld => ?_)
        clear hK K
        refine wpAnyH_ready (rs := [10]) (by kernel_rfl) (by simp) ?_
        refine AllReadyH.cons rfl (fun K hK => ?_) AllReadyH.nil
        go_simp
        (go_at_call 6; (with_reducible refine (sba _ hS).mono ?_); rintro e wx ⟨rfl, hS⟩)
        refine hK.out _ _ hS (fun hHeld => ?_)
        clear hK K
        refine vH_take (i := 11) (v := .bool false) (d := 44) (l2 := #[true, true, true, true, true, true, true, true, true, true, true, true, false, false, false, false, false, false, false, false, false, false, false, false, false, false, false, false, false]) rfl (by kernel_rfl) (by kernel_rfl) (by kernel_rfl) (fun _ _ _ h => h) (by kernel_rfl) (fun w hSw => ?_) (by assumption) rfl (by kernel_rfl) ?_
        · obtain ⟨h0, h1, h2, h3, h4, h5, h6, h7, h8, h9, h10, h11, _⟩ := hSw; go_simp
        simp only [List.set]
        refine vH_take (i := 12) (v := .bool false) (d := 45) (l2 := #[true, true, true, true, true, true, true, true, true, true, true, true, true, false, false, false, false, false, false, false, false, false, false, false, false, false, false, false, false]) rfl (by kernel_rfl) (by kernel_rfl) (by kernel_rfl) (fun _ _ _ h => h) (by kernel_rfl) (fun w hSw => ?_) (by assumption) rfl (by kernel_rfl) ?_
        · obtain ⟨h0, h1, h2, h3, h4, h5, h6, h7, h8, h9, h10, h11, _⟩ := hSw; go_simp
        simp only [List.set]
        refine vH_take (i := 13) (v := .bool false) (d := 46) (l2 := #[true, true, true, true, true, true, true, true, true, true, true, true, true, true, false, false, false, false, false, false, false, false, false, false, false, false, false, false, false]) rfl (by kernel_rfl) (by kernel_rfl) (by kernel_rfl) (fun _ _ _ h => h) (by kernel_rfl) (fun w hSw => ?_) (by assumption) rfl (by kernel_rfl) ?_
        · obtain ⟨h0, h1, h2, h3, h4, h5, h6, h7, h8, h9, h10, h11, _⟩ := hSw; go_simp
        simp only [List.set]
        refine vH_take (i := 14) (v := .agg #[.int .u8 (k : Int), .float .f64 x, .string s, .int .i64 r]) (d := 47) (l2 := #[true, true, true, true, true, true, true, true, true, true, true, true, true, true, true, false, false, false, false, false, false, false, false, false, false, false, false, false, false]) rfl (by kernel_rfl) (by kernel_rfl) (by kernel_rfl) (fun _ _ _ h => h) (by kernel_rfl) (fun w hSw => ?_) (by assumption) rfl (by kernel_rfl) ?_
        · obtain ⟨h0, h1, h2, h3, h4, h5, h6, h7, h8, h9, h10, h11, _⟩ := hSw; go_simp
        simp only [List.set]
        refine vH_take (i := 15) (v := .agg #[.int .u8 (k' : Int), .float .f64 x', .string s', .int .i64 r']) (d := 48) (l2 := #[true, true, true, true, true, true, true, true, true, true, true, true, true, true, true, true, false, false, false, false, false, false, false, false, false, false, false, false, false]) rfl (by kernel_rfl) (by kernel_rfl) (by kernel_rfl) (fun _ _ _ h => h) (by kernel_rfl) (fun w hSw => ?_) (by assumption) rfl (by kernel_rfl) ?_
        · obtain ⟨h0, h1, h2, h3, h4, h5, h6, h7, h8, h9, h10, h11, _⟩ := hSw; go_simp
        simp only [List.set]
        refine wpAnyH_ready (rs := [16]) (by kernel_rfl) (by simp) ?_
        refine AllReadyH.cons rfl (fun K hK => ?_) AllReadyH.nil
        go_simp
        (go_at_call 6; (with_reducible refine (sab _ hS).mono ?_); rintro e wx ⟨rfl, hS⟩)
        refine hK.out _ _ hS (fun hHeld => ?_)
        clear hK K
        refine vH_take (i := 17) (v := .bool true) (d := 50) (l2 := #[true, true, true, true, true, true, true, true, true, true, true, true, true, true, true, true, true, true, false, false, false, false, false, false, false, false, false, false, false]) rfl (by kernel_rfl) (by kernel_rfl) (by kernel_rfl) (fun _ _ _ h => h) (by kernel_rfl) (fun w hSw => ?_) (by assumption) rfl (by kernel_rfl) ?_
        · obtain ⟨h0, h1, h2, h3, h4, h5, h6, h7, h8, h9, h10, h11, _⟩ := hSw; go_simp
        simp only [List.set]
        refine vH_take (i := 18) (v := .agg #[.int .u8 (k' : Int), .float .f64 x', .string s', .int .i64 r']) (d := 51) (l2 := #[true, true, true, true, true, true, true, true, true, true, true, true, true, true, true, true, true, true, true, false, false, false, false, false, false, false, false, false, false]) rfl (by kernel_rfl) (by kernel_rfl) (by kernel_rfl) (fun _ _ _ h => h) (by kernel_rfl) (fun w hSw => ?_) (by assumption) rfl (by kernel_rfl) ?_
        · obtain ⟨h0, h1, h2, h3, h4, h5, h6, h7, h8, h9, h10, h11, _⟩ := hSw; go_simp
        simp only [List.set]
        refine vH_take (i := 19) (v := .agg #[.int .u8 (k'' : Int), .float .f64 x'', .string s'', .int .i64 r'']) (d := 52) (l2 := #[true, true, true, true, true, true, true, true, true, true, true, true, true, true, true, true, true, true, true, true, false, false, false, false, false, false, false, false, false]) rfl (by kernel_rfl) (by kernel_rfl) (by kernel_rfl) (fun _ _ _ h => h) (by kernel_rfl) (fun w hSw => ?_) (by assumption) rfl (by kernel_rfl) ?_
        · obtain ⟨h0, h1, h2, h3, h4, h5, h6, h7, h8, h9, h10, h11, _⟩ := hSw; go_simp
        simp only [List.set]
        refine wpAnyH_ready (rs := [20]) (by kernel_rfl) (by simp) ?_
        refine AllReadyH.cons rfl (fun K hK => ?_) AllReadyH.nil
        go_simp
        (go_at_call 6; (with_reducible refine (sbc _ hS).mono ?_); rintro e wx ⟨rfl, hS⟩)
        refine hK.out _ _ hS (fun hHeld => ?_)
        clear hK K
        refine vH_take (i := 21) (v := .bool false) (d := 54) (l2 := #[true, true, true, true, true, true, true, true, true, true, true, true, true, true, true, true, true, true, true, true, true, true, false, false, false, false, false, false, false]) rfl (by kernel_rfl) (by kernel_rfl) (by kernel_rfl) (fun _ _ _ h => h) (by kernel_rfl) (fun w hSw => ?_) (by assumption) rfl (by kernel_rfl) ?_
        · obtain ⟨h0, h1, h2, h3, h4, h5, h6, h7, h8, h9, h10, h11, _⟩ := hSw; go_simp
        simp only [List.set]
        refine vH_take (i := 22) (v := .bool false) (d := 55) (l2 := #[true, true, true, true, true, true, true, true, true, true, true, true, true, true, true, true, true, true, true, true, true, true, true, false, false, false, false, false, false]) rfl (by kernel_rfl) (by kernel_rfl) (by kernel_rfl) (fun _ _ _ h => h) (by kernel_rfl) (fun w hSw => ?_) (by assumption) rfl (by kernel_rfl) ?_
        · obtain ⟨h0, h1, h2, h3, h4, h5, h6, h7, h8, h9, h10, h11, _⟩ := hSw; go_simp
        simp only [List.set]
        refine vH_skip (i := 23) (l2 := #[true, true, true, true, true, true, true, true, true, true, true, true, true, true, true, true, true, true, true, true, true, true, true, true, false, false, false, false, false]) rfl (by kernel_rfl) (by kernel_rfl) (by kernel_rfl) (fun _ _ _ h => h) (by kernel_rfl) (by kernel_rfl) (by kernel_rfl) (by assumption) ?_
        refine vH_skip (i := 24) (l2 := #[true, true, true, true, true, true, true, true, true, true, true, true, true, true, true, true, true, true, true, true, true, true, true, true, true, false, false, false, false]) rfl (by kernel_rfl) (by kernel_rfl) (by kernel_rfl) (fun _ _ _ h => h) (by kernel_rfl) (by kernel_rfl) (by kernel_rfl) (by assumption) ?_
        refine vH_skip (i := 25) (l2 := #[true, true, true, true, true, true, true, true, true, true, true, true, true, true, true, true, true, true, true, true, true, true, true, true, true, true, false, false, false]) rfl (by kernel_rfl) (by kernel_rfl) (by kernel_rfl) (fun _ _ _ h => h) (by kernel_rfl) (by kernel_rfl) (by kernel_rfl) (by assumption) ?_
        refine vH_skip (i := 26) (l2 := #[true, true, true, true, true, true, true, true, true, true, true, true, true, true, true, true, true, true, true, true, true, true, true, true, true, true, true, false, false]) rfl (by kernel_rfl) (by kernel_rfl) (by kernel_rfl) (fun _ _ _ h => h) (by kernel_rfl) (by kernel_rfl) (by kernel_rfl) (by assumption) ?_
        refine vH_take (i := 27) (v := .bool false) (d := 60) (l2 := #[true, true, true, true, true, true, true, true, true, true, true, true, true, true, true, true, true, true, true, true, true, true, true, true, true, true, true, true, false]) rfl (by kernel_rfl) (by kernel_rfl) (by kernel_rfl) (fun _ _ _ h => h) (by kernel_rfl) (fun w hSw => ?_) (by assumption) rfl (by kernel_rfl) ?_
        · obtain ⟨h0, h1, h2, h3, h4, h5, h6, h7, h8, h9, h10, h11, _⟩ := hSw; go_simp
        simp only [List.set]
        refine vH_take (i := 28) (v := .bool false) (d := 61) (l2 := #[true, true, true, true, true, true, true, true, true, true, true, true, true, true, true, true, true, true, true, true, true, true, true, true, true, true, true, true, true]) rfl (by kernel_rfl) (by kernel_rfl) (by kernel_rfl) (fun _ _ _ h => h) (by kernel_rfl) (fun w hSw => ?_) (by assumption) rfl (by kernel_rfl) ?_
        · obtain ⟨h0, h1, h2, h3, h4, h5, h6, h7, h8, h9, h10, h11, _⟩ := hSw; go_simp
        simp only [List.set]
        refine wpAnyH_done (by kernel_rfl) ?_ _
        go_wp2_with (fail)
        go_meet
        exact ⟨rfl, hS⟩
      | true =>
        have sac := SAC0.out rfl rfl
        have hS := t3_drew hS
        refine wp_region_held_drew (S := T3 w k x s r k' x' s' r' k'' x'' s'' r'') (by kernel_rfl) hS (fun hHeld => ?_)
        refine vH_take (i := 0) (v := .agg #[.int .u8 (k : Int), .float .f64 x, .string s, .int .i64 r]) (d := 33) (l2 := #[true, false, false, false, false, false, false, false, false, false, false, false, false, false, false, false, false, false, false, false, false, false, false, false, false, false, false, false, false]) rfl (by kernel_rfl) (by kernel_rfl) (by kernel_rfl) (fun _ _ _ h => h) (by kernel_rfl) (fun w hSw => ?_) (by assumption) rfl (by kernel_rfl) ?_
        · obtain ⟨h0, h1, h2, h3, h4, h5, h6, h7, h8, h9, h10, h11, _⟩ := hSw; go_simp
        simp only [List.set]
        refine vH_take (i := 1) (v := .agg #[.int .u8 (k : Int), .float .f64 x, .string s, .int .i64 r]) (d := 34) (l2 := #[true, true, false, false, false, false, false, false, false, false, false, false, false, false, false, false, false, false, false, false, false, false, false, false, false, false, false, false, false]) rfl (by kernel_rfl) (by kernel_rfl) (by kernel_rfl) (fun _ _ _ h => h) (by kernel_rfl) (fun w hSw => ?_) (by assumption) rfl (by kernel_rfl) ?_
        · obtain ⟨h0, h1, h2, h3, h4, h5, h6, h7, h8, h9, h10, h11, _⟩ := hSw; go_simp
        simp only [List.set]
        refine wpAnyH_ready (rs := [2]) (by kernel_rfl) (by simp) ?_
        refine AllReadyH.cons rfl (fun K hK => ?_) AllReadyH.nil
        go_simp
        (go_at_call 6; (with_reducible refine (saa _ hS).mono ?_); rintro e wx ⟨rfl, hS⟩)
        refine hK.out _ _ hS (fun hHeld => ?_)
        clear hK K
        refine vH_take (i := 3) (v := .bool false) (d := 36) (l2 := #[true, true, true, true, false, false, false, false, false, false, false, false, false, false, false, false, false, false, false, false, false, false, false, false, false, false, false, false, false]) rfl (by kernel_rfl) (by kernel_rfl) (by kernel_rfl) (fun _ _ _ h => h) (by kernel_rfl) (fun w hSw => ?_) (by assumption) rfl (by kernel_rfl) ?_
        · obtain ⟨h0, h1, h2, h3, h4, h5, h6, h7, h8, h9, h10, h11, _⟩ := hSw; go_simp
        simp only [List.set]
        refine vH_take (i := 4) (v := .bool false) (d := 37) (l2 := #[true, true, true, true, true, false, false, false, false, false, false, false, false, false, false, false, false, false, false, false, false, false, false, false, false, false, false, false, false]) rfl (by kernel_rfl) (by kernel_rfl) (by kernel_rfl) (fun _ _ _ h => h) (by kernel_rfl) (fun w hSw => ?_) (by assumption) rfl (by kernel_rfl) ?_
        · obtain ⟨h0, h1, h2, h3, h4, h5, h6, h7, h8, h9, h10, h11, _⟩ := hSw; go_simp
        simp only [List.set]
        refine vH_take (i := 5) (v := .agg #[.int .u8 (k : Int), .float .f64 x, .string s, .int .i64 r]) (d := 38) (l2 := #[true, true, true, true, true, true, false, false, false, false, false, false, false, false, false, false, false, false, false, false, false, false, false, false, false, false, false, false, false]) rfl (by kernel_rfl) (by kernel_rfl) (by kernel_rfl) (fun _ _ _ h => h) (by kernel_rfl) (fun w hSw => ?_) (by assumption) rfl (by kernel_rfl) ?_
        · obtain ⟨h0, h1, h2, h3, h4, h5, h6, h7, h8, h9, h10, h11, _⟩ := hSw; go_simp
        simp only [List.set]
        refine vH_take (i := 6) (v := .agg #[.int .u8 (k' : Int), .float .f64 x', .string s', .int .i64 r']) (d := 39) (l2 := #[true, true, true, true, true, true, true, false, false, false, false, false, false, false, false, false, false, false, false, false, false, false, false, false, false, false, false, false, false]) rfl (by kernel_rfl) (by kernel_rfl) (by kernel_rfl) (fun _ _ _ h => h) (by kernel_rfl) (fun w hSw => ?_) (by assumption) rfl (by kernel_rfl) ?_
        · obtain ⟨h0, h1, h2, h3, h4, h5, h6, h7, h8, h9, h10, h11, _⟩ := hSw; go_simp
        simp only [List.set]
        refine vH_take (i := 8) (v := .agg #[.int .u8 (k' : Int), .float .f64 x', .string s', .int .i64 r']) (d := 41) (l2 := #[true, true, true, true, true, true, true, false, true, false, false, false, false, false, false, false, false, false, false, false, false, false, false, false, false, false, false, false, false]) rfl (by kernel_rfl) (by kernel_rfl) (by kernel_rfl) (fun _ _ _ h => h) (by kernel_rfl) (fun w hSw => ?_) (by assumption) rfl (by kernel_rfl) ?_
        · obtain ⟨h0, h1, h2, h3, h4, h5, h6, h7, h8, h9, h10, h11, _⟩ := hSw; go_simp
        simp only [List.set]
        refine vH_take (i := 9) (v := .agg #[.int .u8 (k : Int), .float .f64 x, .string s, .int .i64 r]) (d := 42) (l2 := #[true, true, true, true, true, true, true, false, true, true, false, false, false, false, false, false, false, false, false, false, false, false, false, false, false, false, false, false, false]) rfl (by kernel_rfl) (by kernel_rfl) (by kernel_rfl) (fun _ _ _ h => h) (by kernel_rfl) (fun w hSw => ?_) (by assumption) rfl (by kernel_rfl) ?_
        · obtain ⟨h0, h1, h2, h3, h4, h5, h6, h7, h8, h9, h10, h11, _⟩ := hSw; go_simp
        simp only [List.set]
        refine wpAnyH_ready (rs := [7]) (by kernel_rfl) (by simp) ?_
        refine AllReadyH.cons rfl (fun K hK => ?_) AllReadyH.nil
        go_simp
        (go_at_call 6; (with_reducible refine (sab _ hS).mono ?_); rintro e wx ⟨rfl, hS⟩)
        refine hK.out _ _ hS (fun hHeld => ?_)
        clear hK K
        refine wpAnyH_ready (rs := [10]) (by kernel_rfl) (by simp) ?_
        refine AllReadyH.cons rfl (fun K hK => ?_) AllReadyH.nil
        go_simp
        (go_at_call 6; (with_reducible refine (sba _ hS).mono ?_); rintro e wx ⟨rfl, hS⟩)
        refine hK.out _ _ hS (fun hHeld => ?_)
        clear hK K
        refine vH_take (i := 11) (v := .bool false) (d := 44) (l2 := #[true, true, true, true, true, true, true, true, true, true, true, true, false, false, false, false, false, false, false, false, false, false, false, false, false, false, false, false, false]) rfl (by kernel_rfl) (by kernel_rfl) (by kernel_rfl) (fun _ _ _ h => h) (by kernel_rfl) (fun w hSw => ?_) (by assumption) rfl (by kernel_rfl) ?_
        · obtain ⟨h0, h1, h2, h3, h4, h5, h6, h7, h8, h9, h10, h11, _⟩ := hSw; go_simp
        simp only [List.set]
        refine vH_take (i := 12) (v := .bool false) (d := 45) (l2 := #[true, true, true, true, true, true, true, true, true, true, true, true, true, false, false, false, false, false, false, false, false, false, false, false, false, false, false, false, false]) rfl (by kernel_rfl) (by kernel_rfl) (by kernel_rfl) (fun _ _ _ h => h) (by kernel_rfl) (fun w hSw => ?_) (by assumption) rfl (by kernel_rfl) ?_
        · obtain ⟨h0, h1, h2, h3, h4, h5, h6, h7, h8, h9, h10, h11, _⟩ := hSw; go_simp
        simp only [List.set]
        refine vH_take (i := 13) (v := .bool false) (d := 46) (l2 := #[true, true, true, true, true, true, true, true, true, true, true, true, true, true, false, false, false, false, false, false, false, false, false, false, false, false, false, false, false]) rfl (by kernel_rfl) (by kernel_rfl) (by kernel_rfl) (fun _ _ _ h => h) (by kernel_rfl) (fun w hSw => ?_) (by assumption) rfl (by kernel_rfl) ?_
        · obtain ⟨h0, h1, h2, h3, h4, h5, h6, h7, h8, h9, h10, h11, _⟩ := hSw; go_simp
        simp only [List.set]
        refine vH_take (i := 14) (v := .agg #[.int .u8 (k : Int), .float .f64 x, .string s, .int .i64 r]) (d := 47) (l2 := #[true, true, true, true, true, true, true, true, true, true, true, true, true, true, true, false, false, false, false, false, false, false, false, false, false, false, false, false, false]) rfl (by kernel_rfl) (by kernel_rfl) (by kernel_rfl) (fun _ _ _ h => h) (by kernel_rfl) (fun w hSw => ?_) (by assumption) rfl (by kernel_rfl) ?_
        · obtain ⟨h0, h1, h2, h3, h4, h5, h6, h7, h8, h9, h10, h11, _⟩ := hSw; go_simp
        simp only [List.set]
        refine vH_take (i := 15) (v := .agg #[.int .u8 (k' : Int), .float .f64 x', .string s', .int .i64 r']) (d := 48) (l2 := #[true, true, true, true, true, true, true, true, true, true, true, true, true, true, true, true, false, false, false, false, false, false, false, false, false, false, false, false, false]) rfl (by kernel_rfl) (by kernel_rfl) (by kernel_rfl) (fun _ _ _ h => h) (by kernel_rfl) (fun w hSw => ?_) (by assumption) rfl (by kernel_rfl) ?_
        · obtain ⟨h0, h1, h2, h3, h4, h5, h6, h7, h8, h9, h10, h11, _⟩ := hSw; go_simp
        simp only [List.set]
        refine wpAnyH_ready (rs := [16]) (by kernel_rfl) (by simp) ?_
        refine AllReadyH.cons rfl (fun K hK => ?_) AllReadyH.nil
        go_simp
        (go_at_call 6; (with_reducible refine (sab _ hS).mono ?_); rintro e wx ⟨rfl, hS⟩)
        refine hK.out _ _ hS (fun hHeld => ?_)
        clear hK K
        refine vH_take (i := 17) (v := .bool true) (d := 50) (l2 := #[true, true, true, true, true, true, true, true, true, true, true, true, true, true, true, true, true, true, false, false, false, false, false, false, false, false, false, false, false]) rfl (by kernel_rfl) (by kernel_rfl) (by kernel_rfl) (fun _ _ _ h => h) (by kernel_rfl) (fun w hSw => ?_) (by assumption) rfl (by kernel_rfl) ?_
        · obtain ⟨h0, h1, h2, h3, h4, h5, h6, h7, h8, h9, h10, h11, _⟩ := hSw; go_simp
        simp only [List.set]
        refine vH_take (i := 18) (v := .agg #[.int .u8 (k' : Int), .float .f64 x', .string s', .int .i64 r']) (d := 51) (l2 := #[true, true, true, true, true, true, true, true, true, true, true, true, true, true, true, true, true, true, true, false, false, false, false, false, false, false, false, false, false]) rfl (by kernel_rfl) (by kernel_rfl) (by kernel_rfl) (fun _ _ _ h => h) (by kernel_rfl) (fun w hSw => ?_) (by assumption) rfl (by kernel_rfl) ?_
        · obtain ⟨h0, h1, h2, h3, h4, h5, h6, h7, h8, h9, h10, h11, _⟩ := hSw; go_simp
        simp only [List.set]
        refine vH_take (i := 19) (v := .agg #[.int .u8 (k'' : Int), .float .f64 x'', .string s'', .int .i64 r'']) (d := 52) (l2 := #[true, true, true, true, true, true, true, true, true, true, true, true, true, true, true, true, true, true, true, true, false, false, false, false, false, false, false, false, false]) rfl (by kernel_rfl) (by kernel_rfl) (by kernel_rfl) (fun _ _ _ h => h) (by kernel_rfl) (fun w hSw => ?_) (by assumption) rfl (by kernel_rfl) ?_
        · obtain ⟨h0, h1, h2, h3, h4, h5, h6, h7, h8, h9, h10, h11, _⟩ := hSw; go_simp
        simp only [List.set]
        refine wpAnyH_ready (rs := [20]) (by kernel_rfl) (by simp) ?_
        refine AllReadyH.cons rfl (fun K hK => ?_) AllReadyH.nil
        go_simp
        (go_at_call 6; (with_reducible refine (sbc _ hS).mono ?_); rintro e wx ⟨rfl, hS⟩)
        refine hK.out _ _ hS (fun hHeld => ?_)
        clear hK K
        refine vH_take (i := 21) (v := .bool true) (d := 54) (l2 := #[true, true, true, true, true, true, true, true, true, true, true, true, true, true, true, true, true, true, true, true, true, true, false, false, false, false, false, false, false]) rfl (by kernel_rfl) (by kernel_rfl) (by kernel_rfl) (fun _ _ _ h => h) (by kernel_rfl) (fun w hSw => ?_) (by assumption) rfl (by kernel_rfl) ?_
        · obtain ⟨h0, h1, h2, h3, h4, h5, h6, h7, h8, h9, h10, h11, _⟩ := hSw; go_simp
        simp only [List.set]
        refine vH_take (i := 22) (v := .bool true) (d := 55) (l2 := #[true, true, true, true, true, true, true, true, true, true, true, true, true, true, true, true, true, true, true, true, true, true, true, false, false, false, false, false, false]) rfl (by kernel_rfl) (by kernel_rfl) (by kernel_rfl) (fun _ _ _ h => h) (by kernel_rfl) (fun w hSw => ?_) (by assumption) rfl (by kernel_rfl) ?_
        · obtain ⟨h0, h1, h2, h3, h4, h5, h6, h7, h8, h9, h10, h11, _⟩ := hSw; go_simp
        simp only [List.set]
        refine vH_take (i := 23) (v := .agg #[.int .u8 (k : Int), .float .f64 x, .string s, .int .i64 r]) (d := 56) (l2 := #[true, true, true, true, true, true, true, true, true, true, true, true, true, true, true, true, true, true, true, true, true, true, true, true, false, false, false, false, false]) rfl (by kernel_rfl) (by kernel_rfl) (by kernel_rfl) (fun _ _ _ h => h) (by kernel_rfl) (fun w hSw => ?_) (by assumption) rfl (by kernel_rfl) ?_
        · obtain ⟨h0, h1, h2, h3, h4, h5, h6, h7, h8, h9, h10, h11, _⟩ := hSw; go_simp
        simp only [List.set]
        refine vH_take (i := 24) (v := .agg #[.int .u8 (k'' : Int), .float .f64 x'', .string s'', .int .i64 r'']) (d := 57) (l2 := #[true, true, true, true, true, true, true, true, true, true, true, true, true, true, true, true, true, true, true, true, true, true, true, true, true, false, false, false, false]) rfl (by kernel_rfl) (by kernel_rfl) (by kernel_rfl) (fun _ _ _ h => h) (by kernel_rfl) (fun w hSw => ?_) (by assumption) rfl (by kernel_rfl) ?_
        · obtain ⟨h0, h1, h2, h3, h4, h5, h6, h7, h8, h9, h10, h11, _⟩ := hSw; go_simp
        simp only [List.set]
        refine wpAnyH_ready (rs := [25]) (by kernel_rfl) (by simp) ?_
        refine AllReadyH.cons rfl (fun K hK => ?_) AllReadyH.nil
        go_simp
        (go_at_call 6; (with_reducible refine (sac _ hS).mono ?_); rintro e wx ⟨rfl, hS⟩)
        refine hK.out _ _ hS (fun hHeld => ?_)
        clear hK K
        refine vH_take (i := 26) (v := .bool false) (d := 59) (l2 := #[true, true, true, true, true, true, true, true, true, true, true, true, true, true, true, true, true, true, true, true, true, true, true, true, true, true, true, false, false]) rfl (by kernel_rfl) (by kernel_rfl) (by kernel_rfl) (fun _ _ _ h => h) (by kernel_rfl) (fun w hSw => ?_) (by assumption) rfl (by kernel_rfl) ?_
        · obtain ⟨h0, h1, h2, h3, h4, h5, h6, h7, h8, h9, h10, h11, _⟩ := hSw; go_simp
        simp only [List.set]
        refine vH_take (i := 27) (v := .bool false) (d := 60) (l2 := #[true, true, true, true, true, true, true, true, true, true, true, true, true, true, true, true, true, true, true, true, true, true, true, true, true, true, true, true, false]) rfl (by kernel_rfl) (by kernel_rfl) (by kernel_rfl) (fun _ _ _ h => h) (by kernel_rfl) (fun w hSw => ?_) (by assumption) rfl (by kernel_rfl) ?_
        · obtain ⟨h0, h1, h2, h3, h4, h5, h6, h7, h8, h9, h10, h11, _⟩ := hSw; go_simp
        simp only [List.set]
        refine vH_take (i := 28) (v := .bool false) (d := 61) (l2 := #[true, true, true, true, true, true, true, true, true, true, true, true, true, true, true, true, true, true, true, true, true, true, true, true, true, true, true, true, true]) rfl (by kernel_rfl) (by kernel_rfl) (by kernel_rfl) (fun _ _ _ h => h) (by kernel_rfl) (fun w hSw => ?_) (by assumption) rfl (by kernel_rfl) ?_
        · obtain ⟨h0, h1, h2, h3, h4, h5, h6, h7, h8, h9, h10, h11, _⟩ := hSw; go_simp
        simp only [List.set]
        refine wpAnyH_done (by kernel_rfl) ?_ _
        go_wp2_with (fail)
        go_meet
        exact ⟨rfl, hS⟩
  case rest =>
    obtain ⟨rfl, hS⟩ := hcut
    clear SAC0 saa sba sbc
    have hS0 := hS; obtain ⟨d0, d1, d2, d3, d4, d5, d6, d7, d8, d9, d10, d11, _⟩ := hS0
    go_upto_region 6 with (fail)
    go_cut [8] from 62 to 66 (fun q wx => q = .bool c ∧ T3 w k x s r k' x' s' r' k'' x'' s'' r'' wx)
    case first =>
      have hS := t3_drew hS
      refine wp_region_held_drew (S := T3 w k x s r k' x' s' r' k'' x'' s'' r'') (by kernel_rfl) hS (fun hHeld => ?_)
      refine vH_take (i := 0) (v := .agg #[.int .u8 (k : Int), .float .f64 x, .string s, .int .i64 r]) (d := 62) (l2 := #[true, false, false, false, false, false]) rfl (by kernel_rfl) (by kernel_rfl) (by kernel_rfl) (fun _ _ _ h => h) (by kernel_rfl) (fun w hSw => ?_) (by assumption) rfl (by kernel_rfl) ?_
      · obtain ⟨h0, h1, h2, h3, h4, h5, h6, h7, h8, h9, h10, h11, _⟩ := hSw; go_simp
      simp only [List.set]
      refine vH_take (i := 2) (v := .agg #[.int .u8 (k' : Int), .float .f64 x', .string s', .int .i64 r']) (d := 64) (l2 := #[true, false, true, false, false, false]) rfl (by kernel_rfl) (by kernel_rfl) (by kernel_rfl) (fun _ _ _ h => h) (by kernel_rfl) (fun w hSw => ?_) (by assumption) rfl (by kernel_rfl) ?_
      · obtain ⟨h0, h1, h2, h3, h4, h5, h6, h7, h8, h9, h10, h11, _⟩ := hSw; go_simp
      simp only [List.set]
      refine wpAnyH_ready (rs := [1]) (by kernel_rfl) (by simp) ?_
      refine AllReadyH.cons rfl (fun K hK => ?_) AllReadyH.nil
      go_simp
      (go_at_call 18; (with_reducible refine (c1 _ hS).mono ?_); rintro e wx ⟨rfl, hS⟩)
      refine hK.out _ _ hS (fun hHeld => ?_)
      clear hK K
      refine wpAnyH_ready (rs := [3]) (by kernel_rfl) (by simp) ?_
      refine AllReadyH.cons rfl (fun K hK => ?_) AllReadyH.nil
      go_simp
      (go_at_call 18; (with_reducible refine (c2 _ hS).mono ?_); rintro e wx ⟨rfl, hS⟩)
      refine hK.out _ _ hS (fun hHeld => ?_)
      clear hK K
      refine vH_take (i := 4) (v := .bool (ca == cb)) (d := 66) (l2 := #[true, true, true, true, true, false]) rfl (by kernel_rfl) (by kernel_rfl) (by kernel_rfl) (fun _ _ _ h => h) (by kernel_rfl) (fun w hSw => ?_) (by assumption) rfl (by kernel_rfl) ?_
      · obtain ⟨h0, h1, h2, h3, h4, h5, h6, h7, h8, h9, h10, h11, _⟩ := hSw; go_simp
      simp only [List.set]
      refine vH_take (i := 5) (v := .bool (ca == cb)) (d := 8) (l2 := #[true, true, true, true, true, true]) rfl (by kernel_rfl) (by kernel_rfl) (by kernel_rfl) (fun _ _ _ h => h) (by kernel_rfl) (fun w hSw => ?_) (by assumption) rfl (by kernel_rfl) ?_
      · obtain ⟨h0, h1, h2, h3, h4, h5, h6, h7, h8, h9, h10, h11, _⟩ := hSw; go_simp
      simp only [List.set]
      refine wpAnyH_done (by kernel_rfl) ?_ _
      go_wp2_with (fail)
      go_meet
      exact ⟨by rw [HC.out], hS⟩
    case rest =>
      obtain ⟨rfl, hS⟩ := hcut
      clear c1 c2
      have hS0 := hS; obtain ⟨d0, d1, d2, d3, d4, d5, d6, d7, d8, d9, d10, d11, _⟩ := hS0
      go_upto_region 7 with (fail)
      go_cut [93] from 67 to 93 (fun q wx => q = .bool false ∧ T3 w k x s r k' x' s' r' k'' x'' s'' r'' wx)
      case first =>
        cases t with
        | false =>
          have hS := t3_drew hS
          refine wp_region_held_drew (S := T3 w k x s r k' x' s' r' k'' x'' s'' r'') (by kernel_rfl) hS (fun hHeld => ?_)
          refine vH_take (i := 0) (v := .agg #[.int .u8 (k : Int), .float .f64 x, .string s, .int .i64 r]) (d := 67) (l2 := #[true, false, false, false, false, false, false, false, false, false, false, false, false, false, false, false, false, false, false, false, false, false, false, false, false, false, false]) rfl (by kernel_rfl) (by kernel_rfl) (by kernel_rfl) (fun _ _ _ h => h) (by kernel_rfl) (fun w hSw => ?_) (by assumption) rfl (by kernel_rfl) ?_
          · obtain ⟨h0, h1, h2, h3, h4, h5, h6, h7, h8, h9, h10, h11, _⟩ := hSw; go_simp
          simp only [List.set]
          refine vH_take (i := 1) (v := .agg #[.int .u8 (k' : Int), .float .f64 x', .string s', .int .i64 r']) (d := 68) (l2 := #[true, true, false, false, false, false, false, false, false, false, false, false, false, false, false, false, false, false, false, false, false, false, false, false, false, false, false]) rfl (by kernel_rfl) (by kernel_rfl) (by kernel_rfl) (fun _ _ _ h => h) (by kernel_rfl) (fun w hSw => ?_) (by assumption) rfl (by kernel_rfl) ?_
          · obtain ⟨h0, h1, h2, h3, h4, h5, h6, h7, h8, h9, h10, h11, _⟩ := hSw; go_simp
          simp only [List.set]
          refine wpAnyH_ready (rs := [2]) (by kernel_rfl) (by simp) ?_
          refine AllReadyH.cons rfl (fun K hK => ?_) AllReadyH.nil
          go_simp
          (go_at_call 6; (with_reducible refine (sab _ hS).mono ?_); rintro e wx ⟨rfl, hS⟩)
          refine hK.out _ _ hS (fun hHeld => ?_)
          clear hK K
          refine vH_take (i := 3) (v := .bool false) (d := 70) (l2 := #[true, true, true, true, false, false, false, false, false, false, false, false, false, false, false, false, false, false, false, false, false, false, false, false, false, false, false]) rfl (by kernel_rfl) (by kernel_rfl) (by kernel_rfl) (fun _ _ _ h => h) (by kernel_rfl) (fun w hSw => ?_) (by assumption) rfl (by kernel_rfl) ?_
          · obtain ⟨h0, h1, h2, h3, h4, h5, h6, h7, h8, h9, h10, h11, _⟩ := hSw; go_simp
          simp only [List.set]
          refine vH_skip (i := 4) (l2 := #[true, true, true, true, true, false, false, false, false, false, false, false, false, false, false, false, false, false, false, false, false, false, false, false, false, false, false]) rfl (by kernel_rfl) (by kernel_rfl) (by kernel_rfl) (fun _ _ _ h => h) (by kernel_rfl) (by kernel_rfl) (by kernel_rfl) (by assumption) ?_
          refine vH_take (i := 5) (v := .bool false) (d := 72) (l2 := #[true, true, true, true, true, true, false, false, false, false, false, false, false, false, false, false, false, false, false, false, false, false, false, false, false, false, false]) rfl (by kernel_rfl) (by kernel_rfl) (by kernel_rfl) (fun _ _ _ h => h) (by kernel_rfl) (fun w hSw => ?_) (by assumption) rfl (by kernel_rfl) ?_
          · obtain ⟨h0, h1, h2, h3, h4, h5, h6, h7, h8, h9, h10, h11, _⟩ := hSw; go_simp
          simp only [List.set]
          refine vH_take (i := 6) (v := .bool false) (d := 73) (l2 := #[true, true, true, true, true, true, true, false, false, false, false, false, false, false, false, false, false, false, false, false, false, false, false, false, false, false, false]) rfl (by kernel_rfl) (by kernel_rfl) (by kernel_rfl) (fun _ _ _ h => h) (by kernel_rfl) (fun w hSw => ?_) (by assumption) rfl (by kernel_rfl) ?_
          · obtain ⟨h0, h1, h2, h3, h4, h5, h6, h7, h8, h9, h10, h11, _⟩ := hSw; go_simp
          simp only [List.set]
          refine vH_skip (i := 7) (l2 := #[true, true, true, true, true, true, true, true, false, false, false, false, false, false, false, false, false, false, false, false, false, false, false, false, false, false, false]) rfl (by kernel_rfl) (by kernel_rfl) (by kernel_rfl) (fun _ _ _ h => h) (by kernel_rfl) (by kernel_rfl) (by kernel_rfl) (by assumption) ?_
          refine vH_skip (i := 8) (l2 := #[true, true, true, true, true, true, true, true, true, false, false, false, false, false, false, false, false, false, false, false, false, false, false, false, false, false, false]) rfl (by kernel_rfl) (by kernel_rfl) (by kernel_rfl) (fun _ _ _ h => h) (by kernel_rfl) (by kernel_rfl) (by kernel_rfl) (by assumption) ?_
          refine vH_skip (i := 9) (l2 := #[true, true, true, true, true, true, true, true, true, true, false, false, false, false, false, false, false, false, false, false, false, false, false, false, false, false, false]) rfl (by kernel_rfl) (by kernel_rfl) (by kernel_rfl) (fun _ _ _ h => h) (by kernel_rfl) (by kernel_rfl) (by kernel_rfl) (by assumption) ?_
          refine vH_skip (i := 10) (l2 := #[true, true, true, true, true, true, true, true, true, true, true, false, false, false, false, false, false, false, false, false, false, false, false, false, false, false, false]) rfl (by kernel_rfl) (by kernel_rfl) (by kernel_rfl) (fun _ _ _ h => h) (by kernel_rfl) (by kernel_rfl) (by kernel_rfl) (by assumption) ?_
          refine vH_skip (i := 11) (l2 := #[true, true, true, true, true, true, true, true, true, true, true, true, false, false, false, false, false, false, false, false, false, false, false, false, false, false, false]) rfl (by kernel_rfl) (by kernel_rfl) (by kernel_rfl) (fun _ _ _ h => h) (by kernel_rfl) (by kernel_rfl) (by kernel_rfl) (by assumption) ?_
          refine vH_skip (i := 12) (l2 := #[true, true, true, true, true, true, true, true, true, true, true, true, true, false, false, false, false, false, false, false, false, false, false, false, false, false, false]) rfl (by kernel_rfl) (by kernel_rfl) (by kernel_rfl) (fun _ _ _ h => h) (by kernel_rfl) (by kernel_rfl) (by kernel_rfl) (by assumption) ?_
          refine vH_skip (i := 13) (l2 := #[true, true, true, true, true, true, true, true, true, true, true, true, true, true, false, false, false, false, false, false, false, false, false, false, false, false, false]) rfl (by kernel_rfl) (by kernel_rfl) (by kernel_rfl) (fun _ _ _ h => h) (by kernel_rfl) (by kernel_rfl) (by kernel_rfl) (by assumption) ?_
          refine vH_skip (i := 14) (l2 := #[true, true, true, true, true, true, true, true, true, true, true, true, true, true, true, false, false, false, false, false, false, false, false, false, false, false, false]) rfl (by kernel_rfl) (by kernel_rfl) (by kernel_rfl) (fun _ _ _ h => h) (by kernel_rfl) (by kernel_rfl) (by kernel_rfl) (by assumption) ?_
          refine vH_skip (i := 15) (l2 := #[true, true, true, true, true, true, true, true, true, true, true, true, true, true, true, true, false, false, false, false, false, false, false, false, false, false, false]) rfl (by kernel_rfl) (by kernel_rfl) (by kernel_rfl) (fun _ _ _ h => h) (by kernel_rfl) (by kernel_rfl) (by kernel_rfl) (by assumption) ?_
          refine vH_skip (i := 16) (l2 := #[true, true, true, true, true, true, true, true, true, true, true, true, true, true, true, true, true, false, false, false, false, false, false, false, false, false, false]) rfl (by kernel_rfl) (by kernel_rfl) (by kernel_rfl) (fun _ _ _ h => h) (by kernel_rfl) (by kernel_rfl) (by kernel_rfl) (by assumption) ?_
          refine vH_skip (i := 17) (l2 := #[true, true, true, true, true, true, true, true, true, true, true, true, true, true, true, true, true, true, false, false, false, false, false, false, false, false, false]) rfl (by kernel_rfl) (by kernel_rfl) (by kernel_rfl) (fun _ _ _ h => h) (by kernel_rfl) (by kernel_rfl) (by kernel_rfl) (by assumption) ?_
          refine vH_skip (i := 18) (l2 := #[true, true, true, true, true, true, true, true, true, true, true, true, true, true, true, true, true, true, true, false, false, false, false, false, false, false, false]) rfl (by kernel_rfl) (by kernel_rfl) (by kernel_rfl) (fun _ _ _ h => h) (by kernel_rfl) (by kernel_rfl) (by kernel_rfl) (by assumption) ?_
          refine vH_skip (i := 19) (l2 := #[true, true, true, true, true, true, true, true, true, true, true, true, true, true, true, true, true, true, true, true, false, false, false, false, false, false, false]) rfl (by kernel_rfl) (by kernel_rfl) (by kernel_rfl) (fun _ _ _ h => h) (by kernel_rfl) (by kernel_rfl) (by kernel_rfl) (by assumption) ?_
          refine vH_skip (i := 20) (l2 := #[true, true, true, true, true, true, true, true, true, true, true, true, true, true, true, true, true, true, true, true, true, false, false, false, false, false, false]) rfl (by kernel_rfl) (by kernel_rfl) (by kernel_rfl) (fun _ _ _ h => h) (by kernel_rfl) (by kernel_rfl) (by kernel_rfl) (by assumption) ?_
          refine vH_skip (i := 21) (l2 := #[true, true, true, true, true, true, true, true, true, true, true, true, true, true, true, true, true, true, true, true, true, true, false, false, false, false, false]) rfl (by kernel_rfl) (by kernel_rfl) (by kernel_rfl) (fun _ _ _ h => h) (by kernel_rfl) (by kernel_rfl) (by kernel_rfl) (by assumption) ?_
          refine vH_skip (i := 22) (l2 := #[true, true, true, true, true, true, true, true, true, true, true, true, true, true, true, true, true, true, true, true, true, true, true, false, false, false, false]) rfl (by kernel_rfl) (by kernel_rfl) (by kernel_rfl) (fun _ _ _ h => h) (by kernel_rfl) (by kernel_rfl) (by kernel_rfl) (by assumption) ?_
          refine vH_skip (i := 23) (l2 := #[true, true, true, true, true, true, true, true, true, true, true, true, true, true, true, true, true, true, true, true, true, true, true, true, false, false, false]) rfl (by kernel_rfl) (by kernel_rfl) (by kernel_rfl) (fun _ _ _ h => h) (by kernel_rfl) (by kernel_rfl) (by kernel_rfl) (by assumption) ?_
          refine vH_skip (i := 24) (l2 := #[true, true, true, true, true, true, true, true, true, true, true, true, true, true, true, true, true, true, true, true, true, true, true, true, true, false, false]) rfl (by kernel_rfl) (by kernel_rfl) (by kernel_rfl) (fun _ _ _ h => h) (by kernel_rfl) (by kernel_rfl) (by kernel_rfl) (by assumption) ?_
          refine vH_skip (i := 25) (l2 := #[true, true, true, true, true, true, true, true, true, true, true, true, true, true, true, true, true, true, true, true, true, true, true, true, true, true, false]) rfl (by kernel_rfl) (by kernel_rfl) (by kernel_rfl) (fun _ _ _ h => h) (by kernel_rfl) (by kernel_rfl) (by kernel_rfl) (by assumption) ?_
          refine vH_take (i := 26) (v := .bool false) (d := 93) (l2 := #[true, true, true, true, true, true, true, true, true, true, true, true, true, true, true, true, true, true, true, true, true, true, true, true, true, true, true]) rfl (by kernel_rfl) (by kernel_rfl) (by kernel_rfl) (fun _ _ _ h => h) (by kernel_rfl) (fun w hSw => ?_) (by assumption) rfl (by kernel_rfl) ?_
          · obtain ⟨h0, h1, h2, h3, h4, h5, h6, h7, h8, h9, h10, h11, _⟩ := hSw; go_simp
          simp only [List.set]
          refine wpAnyH_done (by kernel_rfl) ?_ _
          go_wp2_with (fail)
          go_meet
          exact ⟨rfl, hS⟩
        | true =>
          cases c with
          | false =>
            have hS := t3_drew hS
            refine wp_region_held_drew (S := T3 w k x s r k' x' s' r' k'' x'' s'' r'') (by kernel_rfl) hS (fun hHeld => ?_)
            refine vH_take (i := 0) (v := .agg #[.int .u8 (k : Int), .float .f64 x, .string s, .int .i64 r]) (d := 67) (l2 := #[true, false, false, false, false, false, false, false, false, false, false, false, false, false, false, false, false, false, false, false, false, false, false, false, false, false, false]) rfl (by kernel_rfl) (by kernel_rfl) (by kernel_rfl) (fun _ _ _ h => h) (by kernel_rfl) (fun w hSw => ?_) (by assumption) rfl (by kernel_rfl) ?_
            · obtain ⟨h0, h1, h2, h3, h4, h5, h6, h7, h8, h9, h10, h11, _⟩ := hSw; go_simp
            simp only [List.set]
            refine vH_take (i := 1) (v := .agg #[.int .u8 (k' : Int), .float .f64 x', .string s', .int .i64 r']) (d := 68) (l2 := #[true, true, false, false, false, false, false, false, false, false, false, false, false, false, false, false, false, false, false, false, false, false, false, false, false, false, false]) rfl (by kernel_rfl) (by kernel_rfl) (by kernel_rfl) (fun _ _ _ h => h) (by kernel_rfl) (fun w hSw => ?_) (by assumption) rfl (by kernel_rfl) ?_
            · obtain ⟨h0, h1, h2, h3, h4, h5, h6, h7, h8, h9, h10, h11, _⟩ := hSw; go_simp
            simp only [List.set]
            refine wpAnyH_ready (rs := [2]) (by kernel_rfl) (by simp) ?_
            refine AllReadyH.cons rfl (fun K hK => ?_) AllReadyH.nil
            go_simp
            (go_at_call 6; (with_reducible refine (sab _ hS).mono ?_); rintro e wx ⟨rfl, hS⟩)
            refine hK.out _ _ hS (fun hHeld => ?_)
            clear hK K
            refine vH_take (i := 3) (v := .bool true) (d := 70) (l2 := #[true, true, true, true, false, false, false, false, false, false, false, false, false, false, false, false, false, false, false, false, false, false, false, false, false, false, false]) rfl (by kernel_rfl) (by kernel_rfl) (by kernel_rfl) (fun _ _ _ h => h) (by kernel_rfl) (fun w hSw => ?_) (by assumption) rfl (by kernel_rfl) ?_
            · obtain ⟨h0, h1, h2, h3, h4, h5, h6, h7, h8, h9, h10, h11, _⟩ := hSw; go_simp
            simp only [List.set]
            refine vH_take (i := 4) (v := .bool false) (d := 71) (l2 := #[true, true, true, true, true, false, false, false, false, false, false, false, false, false, false, false, false, false, false, false, false, false, false, false, false, false, false]) rfl (by kernel_rfl) (by kernel_rfl) (by kernel_rfl) (fun _ _ _ h => h) (by kernel_rfl) (fun w hSw => ?_) (by assumption) rfl (by kernel_rfl) ?_
            · obtain ⟨h0, h1, h2, h3, h4, h5, h6, h7, h8, h9, h10, h11, _⟩ := hSw; go_simp
            simp only [List.set]
            refine vH_take (i := 5) (v := .bool false) (d := 72) (l2 := #[true, true, true, true, true, true, false, false, false, false, false, false, false, false, false, false, false, false, false, false, false, false, false, false, false, false, false]) rfl (by kernel_rfl) (by kernel_rfl) (by kernel_rfl) (fun _ _ _ h => h) (by kernel_rfl) (fun w hSw => ?_) (by assumption) rfl (by kernel_rfl) ?_
            · obtain ⟨h0, h1, h2, h3, h4, h5, h6, h7, h8, h9, h10, h11, _⟩ := hSw; go_simp
            simp only [List.set]
            refine vH_take (i := 6) (v := .bool false) (d := 73) (l2 := #[true, true, true, true, true, true, true, false, false, false, false, false, false, false, false, false, false, false, false, false, false, false, false, false, false, false, false]) rfl (by kernel_rfl) (by kernel_rfl) (by kernel_rfl) (fun _ _ _ h => h) (by kernel_rfl) (fun w hSw => ?_) (by assumption) rfl (by kernel_rfl) ?_
            · obtain ⟨h0, h1, h2, h3, h4, h5, h6, h7, h8, h9, h10, h11, _⟩ := hSw; go_simp
            simp only [List.set]
            refine vH_skip (i := 7) (l2 := #[true, true, true, true, true, true, true, true, false, false, false, false, false, false, false, false, false, false, false, false, false, false, false, false, false, false, false]) rfl (by kernel_rfl) (by kernel_rfl) (by kernel_rfl) (fun _ _ _ h => h) (by kernel_rfl) (by kernel_rfl) (by kernel_rfl) (by assumption) ?_
            refine vH_skip (i := 8) (l2 := #[true, true, true, true, true, true, true, true, true, false, false, false, false, false, false, false, false, false, false, false, false, false, false, false, false, false, false]) rfl (by kernel_rfl) (by kernel_rfl) (by kernel_rfl) (fun _ _ _ h => h) (by kernel_rfl) (by kernel_rfl) (by kernel_rfl) (by assumption) ?_
            refine vH_skip (i := 9) (l2 := #[true, true, true, true, true, true, true, true, true, true, false, false, false, false, false, false, false, false, false, false, false, false, false, false, false, false, false]) rfl (by kernel_rfl) (by kernel_rfl) (by kernel_rfl) (fun _ _ _ h => h) (by kernel_rfl) (by kernel_rfl) (by kernel_rfl) (by assumption) ?_
            refine vH_skip (i := 10) (l2 := #[true, true, true, true, true, true, true, true, true, true, true, false, false, false, false, false, false, false, false, false, false, false, false, false, false, false, false]) rfl (by kernel_rfl) (by kernel_rfl) (by kernel_rfl) (fun _ _ _ h => h) (by kernel_rfl) (by kernel_rfl) (by kernel_rfl) (by assumption) ?_
            refine vH_skip (i := 11) (l2 := #[true, true, true, true, true, true, true, true, true, true, true, true, false, false, false, false, false, false, false, false, false, false, false, false, false, false, false]) rfl (by kernel_rfl) (by kernel_rfl) (by kernel_rfl) (fun _ _ _ h => h) (by kernel_rfl) (by kernel_rfl) (by kernel_rfl) (by assumption) ?_
            refine vH_skip (i := 12) (l2 := #[true, true, true, true, true, true, true, true, true, true, true, true, true, false, false, false, false, false, false, false, false, false, false, false, false, false, false]) rfl (by kernel_rfl) (by kernel_rfl) (by kernel_rfl) (fun _ _ _ h => h) (by kernel_rfl) (by kernel_rfl) (by kernel_rfl) (by assumption) ?_
            refine vH_skip (i := 13) (l2 := #[true, true, true, true, true, true, true, true, true, true, true, true, true, true, false, false, false, false, false, false, false, false, false, false, false, false, false]) rfl (by kernel_rfl) (by kernel_rfl) (by kernel_rfl) (fun _ _ _ h => h) (by kernel_rfl) (by kernel_rfl) (by kernel_rfl) (by assumption) ?_
            refine vH_skip (i := 14) (l2 := #[true, true, true, true, true, true, true, true, true, true, true, true, true, true, true, false, false, false, false, false, false, false, false, false, false, false, false]) rfl (by kernel_rfl) (by kernel_rfl) (by kernel_rfl) (fun _ _ _ h => h) (by kernel_rfl) (by kernel_rfl) (by kernel_rfl) (by assumption) ?_
            refine vH_skip (i := 15) (l2 := #[true, true, true, true, true, true, true, true, true, true, true, true, true, true, true, true, false, false, false, false, false, false, false, false, false, false, false]) rfl (by kernel_rfl) (by kernel_rfl) (by kernel_rfl) (fun _ _ _ h => h) (by kernel_rfl) (by kernel_rfl) (by kernel_rfl) (by assumption) ?_
            refine vH_skip (i := 16) (l2 := #[true, true, true, true, true, true, true, true, true, true, true, true, true, true, true, true, true, false, false, false, false, false, false, false, false, false, false]) rfl (by kernel_rfl) (by kernel_rfl) (by kernel_rfl) (fun _ _ _ h => h) (by kernel_rfl) (by kernel_rfl) (by kernel_rfl) (by assumption) ?_
            refine vH_skip (i := 17) (l2 := #[true, true, true, true, true, true, true, true, true, true, true, true, true, true, true, true, true, true, false, false, false, false, false, false, false, false, false]) rfl (by kernel_rfl) (by kernel_rfl) (by kernel_rfl) (fun _ _ _ h => h) (by kernel_rfl) (by kernel_rfl) (by kernel_rfl) (by assumption) ?_
            refine vH_skip (i := 18) (l2 := #[true, true, true, true, true, true, true, true, true, true, true, true, true, true, true, true, true, true, true, false, false, false, false, false, false, false, false]) rfl (by kernel_rfl) (by kernel_rfl) (by kernel_rfl) (fun _ _ _ h => h) (by kernel_rfl) (by kernel_rfl) (by kernel_rfl) (by assumption) ?_
            refine vH_skip (i := 19) (l2 := #[true, true, true, true, true, true, true, true, true, true, true, true, true, true, true, true, true, true, true, true, false, false, false, false, false, false, false]) rfl (by kernel_rfl) (by kernel_rfl) (by kernel_rfl) (fun _ _ _ h => h) (by kernel_rfl) (by kernel_rfl) (by kernel_rfl) (by assumption) ?_
            refine vH_skip (i := 20) (l2 := #[true, true, true, true, true, true, true, true, true, true, true, true, true, true, true, true, true, true, true, true, true, false, false, false, false, false, false]) rfl (by kernel_rfl) (by kernel_rfl) (by kernel_rfl) (fun _ _ _ h => h) (by kernel_rfl) (by kernel_rfl) (by kernel_rfl) (by assumption) ?_
            refine vH_skip (i := 21) (l2 := #[true, true, true, true, true, true, true, true, true, true, true, true, true, true, true, true, true, true, true, true, true, true, false, false, false, false, false]) rfl (by kernel_rfl) (by kernel_rfl) (by kernel_rfl) (fun _ _ _ h => h) (by kernel_rfl) (by kernel_rfl) (by kernel_rfl) (by assumption) ?_
            refine vH_skip (i := 22) (l2 := #[true, true, true, true, true, true, true, true, true, true, true, true, true, true, true, true, true, true, true, true, true, true, true, false, false, false, false]) rfl (by kernel_rfl) (by kernel_rfl) (by kernel_rfl) (fun _ _ _ h => h) (by kernel_rfl) (by kernel_rfl) (by kernel_rfl) (by assumption) ?_
            refine vH_skip (i := 23) (l2 := #[true, true, true, true, true, true, true, true, true, true, true, true, true, true, true, true, true, true, true, true, true, true, true, true, false, false, false]) rfl (by kernel_rfl) (by kernel_rfl) (by kernel_rfl) (fun _ _ _ h => h) (by kernel_rfl) (by kernel_rfl) (by kernel_rfl) (by assumption) ?_
            refine vH_skip (i := 24) (l2 := #[true, true, true, true, true, true, true, true, true, true, true, true, true, true, true, true, true, true, true, true, true, true, true, true, true, false, false]) rfl (by kernel_rfl) (by kernel_rfl) (by kernel_rfl) (fun _ _ _ h => h) (by kernel_rfl) (by kernel_rfl) (by kernel_rfl) (by assumption) ?_
            refine vH_skip (i := 25) (l2 := #[true, true, true, true, true, true, true, true, true, true, true, true, true, true, true, true, true, true, true, true, true, true, true, true, true, true, false]) rfl (by kernel_rfl) (by kernel_rfl) (by kernel_rfl) (fun _ _ _ h => h) (by kernel_rfl) (by kernel_rfl) (by kernel_rfl) (by assumption) ?_
            refine vH_take (i := 26) (v := .bool false) (d := 93) (l2 := #[true, true, true, true, true, true, true, true, true, true, true, true, true, true, true, true, true, true, true, true, true, true, true, true, true, true, true]) rfl (by kernel_rfl) (by kernel_rfl) (by kernel_rfl) (fun _ _ _ h => h) (by kernel_rfl) (fun w hSw => ?_) (by assumption) rfl (by kernel_rfl) ?_
            · obtain ⟨h0, h1, h2, h3, h4, h5, h6, h7, h8, h9, h10, h11, _⟩ := hSw; go_simp
            simp only [List.set]
            refine wpAnyH_done (by kernel_rfl) ?_ _
            go_wp2_with (fail)
            go_meet
            exact ⟨rfl, hS⟩
          | true =>
            have y2 := Y20.out rfl rfl
            have q2 := Q20.out rfl
            have hx := Lib.hid (hx.out rfl)
            have hS := t3_drew hS
            refine wp_region_held_drew (S := T3 w k x s r k' x' s' r' k'' x'' s'' r'') (by kernel_rfl) hS (fun hHeld => ?_)
            refine vH_take (i := 0) (v := .agg #[.int .u8 (k : Int), .float .f64 x, .string s, .int .i64 r]) (d := 67) (l2 := #[true, false, false, false, false, false, false, false, false, false, false, false, false, false, false, false, false, false, false, false, false, false, false, false, false, false, false]) rfl (by kernel_rfl) (by kernel_rfl) (by kernel_rfl) (fun _ _ _ h => h) (by kernel_rfl) (fun w hSw => ?_) (by assumption) rfl (by kernel_rfl) ?_
            · obtain ⟨h0, h1, h2, h3, h4, h5, h6, h7, h8, h9, h10, h11, _⟩ := hSw; go_simp
            simp only [List.set]
            refine vH_take (i := 1) (v := .agg #[.int .u8 (k' : Int), .float .f64 x', .string s', .int .i64 r']) (d := 68) (l2 := #[true, true, false, false, false, false, false, false, false, false, false, false, false, false, false, false, false, false, false, false, false, false, false, false, false, false, false]) rfl (by kernel_rfl) (by kernel_rfl) (by kernel_rfl) (fun _ _ _ h => h) (by kernel_rfl) (fun w hSw => ?_) (by assumption) rfl (by kernel_rfl) ?_
            · obtain ⟨h0, h1, h2, h3, h4, h5, h6, h7, h8, h9, h10, h11, _⟩ := hSw; go_simp
            simp only [List.set]
            refine wpAnyH_ready (rs := [2]) (by kernel_rfl) (by simp) ?_
            refine AllReadyH.cons rfl (fun K hK => ?_) AllReadyH.nil
            go_simp
            (go_at_call 6; (with_reducible refine (sab _ hS).mono ?_); rintro e wx ⟨rfl, hS⟩)
            refine hK.out _ _ hS (fun hHeld => ?_)
            clear hK K
            refine vH_take (i := 3) (v := .bool true) (d := 70) (l2 := #[true, true, true, true, false, false, false, false, false, false, false, false, false, false, false, false, false, false, false, false, false, false, false, false, false, false, false]) rfl (by kernel_rfl) (by kernel_rfl) (by kernel_rfl) (fun _ _ _ h => h) (by kernel_rfl) (fun w hSw => ?_) (by assumption) rfl (by kernel_rfl) ?_
            · obtain ⟨h0, h1, h2, h3, h4, h5, h6, h7, h8, h9, h10, h11, _⟩ := hSw; go_simp
            simp only [List.set]
            refine vH_take (i := 4) (v := .bool true) (d := 71) (l2 := #[true, true, true, true, true, false, false, false, false, false, false, false, false, false, false, false, false, false, false, false, false, false, false, false, false, false, false]) rfl (by kernel_rfl) (by kernel_rfl) (by kernel_rfl) (fun _ _ _ h => h) (by kernel_rfl) (fun w hSw => ?_) (by assumption) rfl (by kernel_rfl) ?_
            · obtain ⟨h0, h1, h2, h3, h4, h5, h6, h7, h8, h9, h10, h11, _⟩ := hSw; go_simp
            simp only [List.set]
            refine vH_take (i := 5) (v := .bool true) (d := 72) (l2 := #[true, true, true, true, true, true, false, false, false, false, false, false, false, false, false, false, false, false, false, false, false, false, false, false, false, false, false]) rfl (by kernel_rfl) (by kernel_rfl) (by kernel_rfl) (fun _ _ _ h => h) (by kernel_rfl) (fun w hSw => ?_) (by assumption) rfl (by kernel_rfl) ?_
            · obtain ⟨h0, h1, h2, h3, h4, h5, h6, h7, h8, h9, h10, h11, _⟩ := hSw; go_simp
            simp only [List.set]
            refine vH_take (i := 6) (v := .bool true) (d := 73) (l2 := #[true, true, true, true, true, true, true, false, false, false, false, false, false, false, false, false, false, false, false, false, false, false, false, false, false, false, false]) rfl (by kernel_rfl) (by kernel_rfl) (by kernel_rfl) (fun _ _ _ h => h) (by kernel_rfl) (fun w hSw => ?_) (by assumption) rfl (by kernel_rfl) ?_
            · obtain ⟨h0, h1, h2, h3, h4, h5, h6, h7, h8, h9, h10, h11, _⟩ := hSw; go_simp
            simp only [List.set]
            refine vH_take (i := 7) (v := .agg #[.int .u8 (k : Int), .float .f64 x, .string s, .int .i64 r]) (d := 74) (l2 := #[true, true, true, true, true, true, true, true, false, false, false, false, false, false, false, false, false, false, false, false, false, false, false, false, false, false, false]) rfl (by kernel_rfl) (by kernel_rfl) (by kernel_rfl) (fun _ _ _ h => h) (by kernel_rfl) (fun w hSw => ?_) (by assumption) rfl (by kernel_rfl) ?_
            · obtain ⟨h0, h1, h2, h3, h4, h5, h6, h7, h8, h9, h10, h11, _⟩ := hSw; go_simp
            simp only [List.set]
            refine vH_take (i := 9) (v := .agg #[.int .u8 (k' : Int), .float .f64 x', .string s', .int .i64 r']) (d := 76) (l2 := #[true, true, true, true, true, true, true, true, false, true, false, false, false, false, false, false, false, false, false, false, false, false, false, false, false, false, false]) rfl (by kernel_rfl) (by kernel_rfl) (by kernel_rfl) (fun _ _ _ h => h) (by kernel_rfl) (fun w hSw => ?_) (by assumption) rfl (by kernel_rfl) ?_
            · obtain ⟨h0, h1, h2, h3, h4, h5, h6, h7, h8, h9, h10, h11, _⟩ := hSw; go_simp
            simp only [List.set]
            refine wpAnyH_ready (rs := [8]) (by kernel_rfl) (by simp) ?_
            refine AllReadyH.cons rfl (fun K hK => ?_) AllReadyH.nil
            go_simp
            (go_at_call 11; (with_reducible refine (y1 _ hS).mono ?_); rintro e wx ⟨rfl, hS⟩)
            refine hK.out _ _ hS (fun hHeld => ?_)
            clear hK K
            refine wpAnyH_ready (rs := [10]) (by kernel_rfl) (by simp) ?_
            refine AllReadyH.cons rfl (fun K hK => ?_) AllReadyH.nil
            go_simp
            (go_at_call 11; (with_reducible refine (y2 _ hS).mono ?_); rintro e wx ⟨rfl, hS⟩)
            refine hK.out _ _ hS (fun hHeld => ?_)
            clear hK K
            refine vH_take (i := 11) (v := .bool false) (d := 78) (l2 := #[true, true, true, true, true, true, true, true, true, true, true, true, false, false, false, false, false, false, false, false, false, false, false, false, false, false, false]) rfl (by kernel_rfl) (by kernel_rfl) (by kernel_rfl) (fun _ _ _ h => h) (by kernel_rfl) (fun w hSw => ?_) (by assumption) rfl (by kernel_rfl) ?_
            · obtain ⟨h0, h1, h2, h3, h4, h5, h6, h7, h8, h9, h10, h11, _⟩ := hSw; go_simp
            simp only [List.set]
            refine vH_take (i := 12) (v := .bool false) (d := 79) (l2 := #[true, true, true, true, true, true, true, true, true, true, true, true, true, false, false, false, false, false, false, false, false, false, false, false, false, false, false]) rfl (by kernel_rfl) (by kernel_rfl) (by kernel_rfl) (fun _ _ _ h => h) (by kernel_rfl) (fun w hSw => ?_) (by assumption) rfl (by kernel_rfl) ?_
            · obtain ⟨h0, h1, h2, h3, h4, h5, h6, h7, h8, h9, h10, h11, _⟩ := hSw; go_simp
            simp only [List.set]
            refine vH_take (i := 13) (v := .agg #[.int .u8 (k : Int), .float .f64 x, .string s, .int .i64 r]) (d := 80) (l2 := #[true, true, true, true, true, true, true, true, true, true, true, true, true, true, false, false, false, false, false, false, false, false, false, false, false, false, false]) rfl (by kernel_rfl) (by kernel_rfl) (by kernel_rfl) (fun _ _ _ h => h) (by kernel_rfl) (fun w hSw => ?_) (by assumption) rfl (by kernel_rfl) ?_
            · obtain ⟨h0, h1, h2, h3, h4, h5, h6, h7, h8, h9, h10, h11, _⟩ := hSw; go_simp
            simp only [List.set]
            refine vH_take (i := 15) (v := .agg #[.int .u8 (k' : Int), .float .f64 x', .string s', .int .i64 r']) (d := 82) (l2 := #[true, true, true, true, true, true, true, true, true, true, true, true, true, true, false, true, false, false, false, false, false, false, false, false, false, false, false]) rfl (by kernel_rfl) (by kernel_rfl) (by kernel_rfl) (fun _ _ _ h => h) (by kernel_rfl) (fun w hSw => ?_) (by assumption) rfl (by kernel_rfl) ?_
            · obtain ⟨h0, h1, h2, h3, h4, h5, h6, h7, h8, h9, h10, h11, _⟩ := hSw; go_simp
            simp only [List.set]
            refine wpAnyH_ready (rs := [14]) (by kernel_rfl) (by simp) ?_
            refine AllReadyH.cons rfl (fun K hK => ?_) AllReadyH.nil
            go_simp
            (go_at_call 10; (with_reducible refine (q1 _ hS).mono ?_); rintro e wx ⟨rfl, hS⟩)
            refine hK.out _ _ hS (fun hHeld => ?_)
            clear hK K
            refine wpAnyH_ready (rs := [16]) (by kernel_rfl) (by simp) ?_
            refine AllReadyH.cons rfl (fun K hK => ?_) AllReadyH.nil
            go_simp
            (go_at_call 10; (with_reducible refine (q2 _ hS).mono ?_); rintro e wx ⟨rfl, hS⟩)
            refine hK.out _ _ hS (fun hHeld => ?_)
            clear hK K
            refine vH_take (i := 17) (v := .bool false) (d := 84) (l2 := #[true, true, true, true, true, true, true, true, true, true, true, true, true, true, true, true, true, true, false, false, false, false, false, false, false, false, false]) rfl (by kernel_rfl) (by kernel_rfl) (by kernel_rfl) (fun _ _ _ h => h) (by kernel_rfl) (fun w hSw => ?_) (by assumption) rfl (by kernel_rfl) ?_
            · obtain ⟨h0, h1, h2, h3, h4, h5, h6, h7, h8, h9, h10, h11, _⟩ := hSw; go_simp
            simp only [List.set]
            refine vH_take (i := 18) (v := .bool false) (d := 85) (l2 := #[true, true, true, true, true, true, true, true, true, true, true, true, true, true, true, true, true, true, true, false, false, false, false, false, false, false, false]) rfl (by kernel_rfl) (by kernel_rfl) (by kernel_rfl) (fun _ _ _ h => h) (by kernel_rfl) (fun w hSw => ?_) (by assumption) rfl (by kernel_rfl) ?_
            · obtain ⟨h0, h1, h2, h3, h4, h5, h6, h7, h8, h9, h10, h11, _⟩ := hSw; go_simp
            simp only [List.set]
            refine vH_take (i := 19) (v := .bool false) (d := 86) (l2 := #[true, true, true, true, true, true, true, true, true, true, true, true, true, true, true, true, true, true, true, true, false, false, false, false, false, false, false]) rfl (by kernel_rfl) (by kernel_rfl) (by kernel_rfl) (fun _ _ _ h => h) (by kernel_rfl) (fun w hSw => ?_) (by assumption) rfl (by kernel_rfl) ?_
            · obtain ⟨h0, h1, h2, h3, h4, h5, h6, h7, h8, h9, h10, h11, _⟩ := hSw; go_simp
            simp only [List.set]
            refine vH_take (i := 20) (v := .agg #[.int .u8 (k : Int), .float .f64 x, .string s, .int .i64 r]) (d := 87) (l2 := #[true, true, true, true, true, true, true, true, true, true, true, true, true, true, true, true, true, true, true, true, true, false, false, false, false, false, false]) rfl (by kernel_rfl) (by kernel_rfl) (by kernel_rfl) (fun _ _ _ h => h) (by kernel_rfl) (fun w hSw => ?_) (by assumption) rfl (by kernel_rfl) ?_
            · obtain ⟨h0, h1, h2, h3, h4, h5, h6, h7, h8, h9, h10, h11, _⟩ := hSw; go_simp
            simp only [List.set]
            refine vH_take (i := 22) (v := .agg #[.int .u8 (k' : Int), .float .f64 x', .string s', .int .i64 r']) (d := 89) (l2 := #[true, true, true, true, true, true, true, true, true, true, true, true, true, true, true, true, true, true, true, true, true, false, true, false, false, false, false]) rfl (by kernel_rfl) (by kernel_rfl) (by kernel_rfl) (fun _ _ _ h => h) (by kernel_rfl) (fun w hSw => ?_) (by assumption) rfl (by kernel_rfl) ?_
            · obtain ⟨h0, h1, h2, h3, h4, h5, h6, h7, h8, h9, h10, h11, _⟩ := hSw; go_simp
            simp only [List.set]
            refine wpAnyH_ready (rs := [21]) (by kernel_rfl) (by simp) ?_
            refine AllReadyH.cons rfl (fun K hK => ?_) AllReadyH.nil
            go_simp
            (go_at_call 14; (with_reducible refine (x1 _ hS).mono ?_); rintro e wx ⟨tx, rfl, P1, hS⟩; have P1 := Lib.hid P1)
            refine hK.out _ _ hS (fun hHeld => ?_)
            clear hK K
            refine wpAnyH_ready (rs := [23]) (by kernel_rfl) (by simp) ?_
            refine AllReadyH.cons rfl (fun K hK => ?_) AllReadyH.nil
            go_simp
            (go_at_call 14; (with_reducible refine (x2 _ hS).mono ?_); rintro e wx ⟨ty, rfl, P2, hS⟩; obtain rfl := hx.out tx ty P1.out P2)
            refine hK.out _ _ hS (fun hHeld => ?_)
            clear hK K
            refine vH_take (i := 24) (v := .bool false) (d := 91) (l2 := #[true, true, true, true, true, true, true, true, true, true, true, true, true, true, true, true, true, true, true, true, true, true, true, true, true, false, false]) rfl (by kernel_rfl) (by kernel_rfl) (by kernel_rfl) (fun _ _ _ h => h) (by kernel_rfl) (fun w hSw => ?_) (by assumption) rfl (by kernel_rfl) ?_
            · obtain ⟨h0, h1, h2, h3, h4, h5, h6, h7, h8, h9, h10, h11, _⟩ := hSw; go_simp
            simp only [List.set]
            refine vH_take (i := 25) (v := .bool false) (d := 92) (l2 := #[true, true, true, true, true, true, true, true, true, true, true, true, true, true, true, true, true, true, true, true, true, true, true, true, true, true, false]) rfl (by kernel_rfl) (by kernel_rfl) (by kernel_rfl) (fun _ _ _ h => h) (by kernel_rfl) (fun w hSw => ?_) (by assumption) rfl (by kernel_rfl) ?_
            · obtain ⟨h0, h1, h2, h3, h4, h5, h6, h7, h8, h9, h10, h11, _⟩ := hSw; go_simp
            simp only [List.set]
            refine vH_take (i := 26) (v := .bool false) (d := 93) (l2 := #[true, true, true, true, true, true, true, true, true, true, true, true, true, true, true, true, true, true, true, true, true, true, true, true, true, true, true]) rfl (by kernel_rfl) (by kernel_rfl) (by kernel_rfl) (fun _ _ _ h => h) (by kernel_rfl) (fun w hSw => ?_) (by assumption) rfl (by kernel_rfl) ?_
            · obtain ⟨h0, h1, h2, h3, h4, h5, h6, h7, h8, h9, h10, h11, _⟩ := hSw; go_simp
            simp only [List.set]
            refine wpAnyH_done (by kernel_rfl) ?_ _
            go_wp2_with (fail)
            go_meet
            exact ⟨rfl, hS⟩
      case rest =>
        obtain ⟨rfl, hS⟩ := hcut
        clear y1 Y20 q1 Q20 x1 x2 hx
        have hS0 := hS; obtain ⟨d0, d1, d2, d3, d4, d5, d6, d7, d8, d9, d10, d11, _⟩ := hS0
        go_upto_region 9 with (fail)
        go_cut [9] from 94 to 103 (fun q wx => q = .bool n ∧ T3 w k x s r k' x' s' r' k'' x'' s'' r'' wx)
        case first =>
          have e3 := kd_eq k 3
          have hn := HN.out
          have e4 : (FloatKind.f64.format.order x x != some .eq) = !feq x x := rfl
          cases h3 : (k == 3)
          · rw [h3] at e3 hn
            have hn : n = false := hn.symm
            have e5 : ((k : Int) == 3) = false := e3
            clear h3 e3 HN
            go_wp2_with (fail)
            go_meet
            exact ⟨by rw [hn], hS⟩
          · rw [h3] at e3 hn
            have hn : n = (!feq x x) := hn.symm.trans (Bool.true_and _)
            have e5 : ((k : Int) == 3) = true := e3
            clear h3 e3 HN
            go_wp2_with (fail)
            go_meet
            exact ⟨by rw [hn, ← e4], hS⟩
        case rest =>
          obtain ⟨rfl, hS⟩ := hcut
          clear HN
          have hS0 := hS; obtain ⟨d0, d1, d2, d3, d4, d5, d6, d7, d8, d9, d10, d11, _⟩ := hS0
          go_upto_region 10 with (fail)
          go_cut [114] from 104 to 114 (fun q wx => q = .bool false ∧ T3 w k x s r k' x' s' r' k'' x'' s'' r'' wx)
          case first =>
            have hb := HB.out
            clear HOB HST HB HC
            cases t with
            | false =>
              obtain rfl : b = false := hb.symm.trans rfl
              have hS := t3_drew hS
              refine wp_region_held_drew (S := T3 w k x s r k' x' s' r' k'' x'' s'' r'') (by kernel_rfl) hS (fun hHeld => ?_)
              refine vH_take (i := 0) (v := .agg #[.int .u8 (k : Int), .float .f64 x, .string s, .int .i64 r]) (d := 104) (l2 := #[true, false, false, false, false, false, false, false, false, false, false]) rfl (by kernel_rfl) (by kernel_rfl) (by kernel_rfl) (fun _ _ _ h => h) (by kernel_rfl) (fun w hSw => ?_) (by assumption) rfl (by kernel_rfl) ?_
              · obtain ⟨h0, h1, h2, h3, h4, h5, h6, h7, h8, h9, h10, h11, _⟩ := hSw; go_simp
              simp only [List.set]
              refine vH_take (i := 1) (v := .agg #[.int .u8 (k' : Int), .float .f64 x', .string s', .int .i64 r']) (d := 105) (l2 := #[true, true, false, false, false, false, false, false, false, false, false]) rfl (by kernel_rfl) (by kernel_rfl) (by kernel_rfl) (fun _ _ _ h => h) (by kernel_rfl) (fun w hSw => ?_) (by assumption) rfl (by kernel_rfl) ?_
              · obtain ⟨h0, h1, h2, h3, h4, h5, h6, h7, h8, h9, h10, h11, _⟩ := hSw; go_simp
              simp only [List.set]
              refine vH_take (i := 3) (v := .agg #[.int .u8 (k : Int), .float .f64 x, .string s, .int .i64 r]) (d := 107) (l2 := #[true, true, false, true, false, false, false, false, false, false, false]) rfl (by kernel_rfl) (by kernel_rfl) (by kernel_rfl) (fun _ _ _ h => h) (by kernel_rfl) (fun w hSw => ?_) (by assumption) rfl (by kernel_rfl) ?_
              · obtain ⟨h0, h1, h2, h3, h4, h5, h6, h7, h8, h9, h10, h11, _⟩ := hSw; go_simp
              simp only [List.set]
              refine vH_take (i := 4) (v := .agg #[.int .u8 (k' : Int), .float .f64 x', .string s', .int .i64 r']) (d := 108) (l2 := #[true, true, false, true, true, false, false, false, false, false, false]) rfl (by kernel_rfl) (by kernel_rfl) (by kernel_rfl) (fun _ _ _ h => h) (by kernel_rfl) (fun w hSw => ?_) (by assumption) rfl (by kernel_rfl) ?_
              · obtain ⟨h0, h1, h2, h3, h4, h5, h6, h7, h8, h9, h10, h11, _⟩ := hSw; go_simp
              simp only [List.set]
              refine wpAnyH_ready (rs := [2]) (by kernel_rfl) (by simp) ?_
              refine AllReadyH.cons rfl (fun K hK => ?_) AllReadyH.nil
              go_simp
              (go_at_call 7; (with_reducible refine (st _ hS).mono ?_); rintro e wx ⟨rfl, hS⟩)
              refine hK.out _ _ hS (fun hHeld => ?_)
              clear hK K
              refine wpAnyH_ready (rs := [5]) (by kernel_rfl) (by simp) ?_
              refine AllReadyH.cons rfl (fun K hK => ?_) AllReadyH.nil
              go_simp
              (go_at_call 6; (with_reducible refine (sab _ hS).mono ?_); rintro e wx ⟨rfl, hS⟩)
              refine hK.out _ _ hS (fun hHeld => ?_)
              clear hK K
              refine vH_take (i := 6) (v := .bool false) (d := 110) (l2 := #[true, true, true, true, true, true, true, false, false, false, false]) rfl (by kernel_rfl) (by kernel_rfl) (by kernel_rfl) (fun _ _ _ h => h) (by kernel_rfl) (fun w hSw => ?_) (by assumption) rfl (by kernel_rfl) ?_
              · obtain ⟨h0, h1, h2, h3, h4, h5, h6, h7, h8, h9, h10, h11, _⟩ := hSw; go_simp
              simp only [List.set]
              refine vH_skip (i := 7) (l2 := #[true, true, true, true, true, true, true, true, false, false, false]) rfl (by kernel_rfl) (by kernel_rfl) (by kernel_rfl) (fun _ _ _ h => h) (by kernel_rfl) (by kernel_rfl) (by kernel_rfl) (by assumption) ?_
              refine vH_skip (i := 8) (l2 := #[true, true, true, true, true, true, true, true, true, false, false]) rfl (by kernel_rfl) (by kernel_rfl) (by kernel_rfl) (fun _ _ _ h => h) (by kernel_rfl) (by kernel_rfl) (by kernel_rfl) (by assumption) ?_
              refine vH_take (i := 9) (v := .bool false) (d := 113) (l2 := #[true, true, true, true, true, true, true, true, true, true, false]) rfl (by kernel_rfl) (by kernel_rfl) (by kernel_rfl) (fun _ _ _ h => h) (by kernel_rfl) (fun w hSw => ?_) (by assumption) rfl (by kernel_rfl) ?_
              · obtain ⟨h0, h1, h2, h3, h4, h5, h6, h7, h8, h9, h10, h11, _⟩ := hSw; go_simp
              simp only [List.set]
              refine vH_take (i := 10) (v := .bool false) (d := 114) (l2 := #[true, true, true, true, true, true, true, true, true, true, true]) rfl (by kernel_rfl) (by kernel_rfl) (by kernel_rfl) (fun _ _ _ h => h) (by kernel_rfl) (fun w hSw => ?_) (by assumption) rfl (by kernel_rfl) ?_
              · obtain ⟨h0, h1, h2, h3, h4, h5, h6, h7, h8, h9, h10, h11, _⟩ := hSw; go_simp
              simp only [List.set]
              refine wpAnyH_done (by kernel_rfl) ?_ _
              go_wp2_with (fail)
              go_meet
              exact ⟨rfl, hS⟩
            | true =>
              cases n with
              | false =>
                obtain rfl : b = true := hb.symm.trans rfl
                have hS := t3_drew hS
                refine wp_region_held_drew (S := T3 w k x s r k' x' s' r' k'' x'' s'' r'') (by kernel_rfl) hS (fun hHeld => ?_)
                refine vH_take (i := 0) (v := .agg #[.int .u8 (k : Int), .float .f64 x, .string s, .int .i64 r]) (d := 104) (l2 := #[true, false, false, false, false, false, false, false, false, false, false]) rfl (by kernel_rfl) (by kernel_rfl) (by kernel_rfl) (fun _ _ _ h => h) (by kernel_rfl) (fun w hSw => ?_) (by assumption) rfl (by kernel_rfl) ?_
                · obtain ⟨h0, h1, h2, h3, h4, h5, h6, h7, h8, h9, h10, h11, _⟩ := hSw; go_simp
                simp only [List.set]
                refine vH_take (i := 1) (v := .agg #[.int .u8 (k' : Int), .float .f64 x', .string s', .int .i64 r']) (d := 105) (l2 := #[true, true, false, false, false, false, false, false, false, false, false]) rfl (by kernel_rfl) (by kernel_rfl) (by kernel_rfl) (fun _ _ _ h => h) (by kernel_rfl) (fun w hSw => ?_) (by assumption) rfl (by kernel_rfl) ?_
                · obtain ⟨h0, h1, h2, h3, h4, h5, h6, h7, h8, h9, h10, h11, _⟩ := hSw; go_simp
                simp only [List.set]
                refine vH_take (i := 3) (v := .agg #[.int .u8 (k : Int), .float .f64 x, .string s, .int .i64 r]) (d := 107) (l2 := #[true, true, false, true, false, false, false, false, false, false, false]) rfl (by kernel_rfl) (by kernel_rfl) (by kernel_rfl) (fun _ _ _ h => h) (by kernel_rfl) (fun w hSw => ?_) (by assumption) rfl (by kernel_rfl) ?_
                · obtain ⟨h0, h1, h2, h3, h4, h5, h6, h7, h8, h9, h10, h11, _⟩ := hSw; go_simp
                simp only [List.set]
                refine vH_take (i := 4) (v := .agg #[.int .u8 (k' : Int), .float .f64 x', .string s', .int .i64 r']) (d := 108) (l2 := #[true, true, false, true, true, false, false, false, false, false, false]) rfl (by kernel_rfl) (by kernel_rfl) (by kernel_rfl) (fun _ _ _ h => h) (by kernel_rfl) (fun w hSw => ?_) (by assumption) rfl (by kernel_rfl) ?_
                · obtain ⟨h0, h1, h2, h3, h4, h5, h6, h7, h8, h9, h10, h11, _⟩ := hSw; go_simp
                simp only [List.set]
                refine wpAnyH_ready (rs := [2]) (by kernel_rfl) (by simp) ?_
                refine AllReadyH.cons rfl (fun K hK => ?_) AllReadyH.nil
                go_simp
                (go_at_call 7; (with_reducible refine (st _ hS).mono ?_); rintro e wx ⟨rfl, hS⟩)
                refine hK.out _ _ hS (fun hHeld => ?_)
                clear hK K
                refine wpAnyH_ready (rs := [5]) (by kernel_rfl) (by simp) ?_
                refine AllReadyH.cons rfl (fun K hK => ?_) AllReadyH.nil
                go_simp
                (go_at_call 6; (with_reducible refine (sab _ hS).mono ?_); rintro e wx ⟨rfl, hS⟩)
                refine hK.out _ _ hS (fun hHeld => ?_)
                clear hK K
                refine vH_take (i := 6) (v := .bool true) (d := 110) (l2 := #[true, true, true, true, true, true, true, false, false, false, false]) rfl (by kernel_rfl) (by kernel_rfl) (by kernel_rfl) (fun _ _ _ h => h) (by kernel_rfl) (fun w hSw => ?_) (by assumption) rfl (by kernel_rfl) ?_
                · obtain ⟨h0, h1, h2, h3, h4, h5, h6, h7, h8, h9, h10, h11, _⟩ := hSw; go_simp
                simp only [List.set]
                refine vH_take (i := 7) (v := .bool false) (d := 111) (l2 := #[true, true, true, true, true, true, true, true, false, false, false]) rfl (by kernel_rfl) (by kernel_rfl) (by kernel_rfl) (fun _ _ _ h => h) (by kernel_rfl) (fun w hSw => ?_) (by assumption) rfl (by kernel_rfl) ?_
                · obtain ⟨h0, h1, h2, h3, h4, h5, h6, h7, h8, h9, h10, h11, _⟩ := hSw; go_simp
                simp only [List.set]
                refine vH_take (i := 8) (v := .bool true) (d := 112) (l2 := #[true, true, true, true, true, true, true, true, true, false, false]) rfl (by kernel_rfl) (by kernel_rfl) (by kernel_rfl) (fun _ _ _ h => h) (by kernel_rfl) (fun w hSw => ?_) (by assumption) rfl (by kernel_rfl) ?_
                · obtain ⟨h0, h1, h2, h3, h4, h5, h6, h7, h8, h9, h10, h11, _⟩ := hSw; go_simp
                simp only [List.set]
                refine vH_take (i := 9) (v := .bool true) (d := 113) (l2 := #[true, true, true, true, true, true, true, true, true, true, false]) rfl (by kernel_rfl) (by kernel_rfl) (by kernel_rfl) (fun _ _ _ h => h) (by kernel_rfl) (fun w hSw => ?_) (by assumption) rfl (by kernel_rfl) ?_
                · obtain ⟨h0, h1, h2, h3, h4, h5, h6, h7, h8, h9, h10, h11, _⟩ := hSw; go_simp
                simp only [List.set]
                refine vH_take (i := 10) (v := .bool false) (d := 114) (l2 := #[true, true, true, true, true, true, true, true, true, true, true]) rfl (by kernel_rfl) (by kernel_rfl) (by kernel_rfl) (fun _ _ _ h => h) (by kernel_rfl) (fun w hSw => ?_) (by assumption) rfl (by kernel_rfl) ?_
                · obtain ⟨h0, h1, h2, h3, h4, h5, h6, h7, h8, h9, h10, h11, _⟩ := hSw; go_simp
                simp only [List.set]
                refine wpAnyH_done (by kernel_rfl) ?_ _
                go_wp2_with (fail)
                go_meet
                exact ⟨rfl, hS⟩
              | true =>
                obtain rfl : b = false := hb.symm.trans rfl
                have hS := t3_drew hS
                refine wp_region_held_drew (S := T3 w k x s r k' x' s' r' k'' x'' s'' r'') (by kernel_rfl) hS (fun hHeld => ?_)
                refine vH_take (i := 0) (v := .agg #[.int .u8 (k : Int), .float .f64 x, .string s, .int .i64 r]) (d := 104) (l2 := #[true, false, false, false, false, false, false, false, false, false, false]) rfl (by kernel_rfl) (by kernel_rfl) (by kernel_rfl) (fun _ _ _ h => h) (by kernel_rfl) (fun w hSw => ?_) (by assumption) rfl (by kernel_rfl) ?_
                · obtain ⟨h0, h1, h2, h3, h4, h5, h6, h7, h8, h9, h10, h11, _⟩ := hSw; go_simp
                simp only [List.set]
                refine vH_take (i := 1) (v := .agg #[.int .u8 (k' : Int), .float .f64 x', .string s', .int .i64 r']) (d := 105) (l2 := #[true, true, false, false, false, false, false, false, false, false, false]) rfl (by kernel_rfl) (by kernel_rfl) (by kernel_rfl) (fun _ _ _ h => h) (by kernel_rfl) (fun w hSw => ?_) (by assumption) rfl (by kernel_rfl) ?_
                · obtain ⟨h0, h1, h2, h3, h4, h5, h6, h7, h8, h9, h10, h11, _⟩ := hSw; go_simp
                simp only [List.set]
                refine vH_take (i := 3) (v := .agg #[.int .u8 (k : Int), .float .f64 x, .string s, .int .i64 r]) (d := 107) (l2 := #[true, true, false, true, false, false, false, false, false, false, false]) rfl (by kernel_rfl) (by kernel_rfl) (by kernel_rfl) (fun _ _ _ h => h) (by kernel_rfl) (fun w hSw => ?_) (by assumption) rfl (by kernel_rfl) ?_
                · obtain ⟨h0, h1, h2, h3, h4, h5, h6, h7, h8, h9, h10, h11, _⟩ := hSw; go_simp
                simp only [List.set]
                refine vH_take (i := 4) (v := .agg #[.int .u8 (k' : Int), .float .f64 x', .string s', .int .i64 r']) (d := 108) (l2 := #[true, true, false, true, true, false, false, false, false, false, false]) rfl (by kernel_rfl) (by kernel_rfl) (by kernel_rfl) (fun _ _ _ h => h) (by kernel_rfl) (fun w hSw => ?_) (by assumption) rfl (by kernel_rfl) ?_
                · obtain ⟨h0, h1, h2, h3, h4, h5, h6, h7, h8, h9, h10, h11, _⟩ := hSw; go_simp
                simp only [List.set]
                refine wpAnyH_ready (rs := [2]) (by kernel_rfl) (by simp) ?_
                refine AllReadyH.cons rfl (fun K hK => ?_) AllReadyH.nil
                go_simp
                (go_at_call 7; (with_reducible refine (st _ hS).mono ?_); rintro e wx ⟨rfl, hS⟩)
                refine hK.out _ _ hS (fun hHeld => ?_)
                clear hK K
                refine wpAnyH_ready (rs := [5]) (by kernel_rfl) (by simp) ?_
                refine AllReadyH.cons rfl (fun K hK => ?_) AllReadyH.nil
                go_simp
                (go_at_call 6; (with_reducible refine (sab _ hS).mono ?_); rintro e wx ⟨rfl, hS⟩)
                refine hK.out _ _ hS (fun hHeld => ?_)
                clear hK K
                refine vH_take (i := 6) (v := .bool true) (d := 110) (l2 := #[true, true, true, true, true, true, true, false, false, false, false]) rfl (by kernel_rfl) (by kernel_rfl) (by kernel_rfl) (fun _ _ _ h => h) (by kernel_rfl) (fun w hSw => ?_) (by assumption) rfl (by kernel_rfl) ?_
                · obtain ⟨h0, h1, h2, h3, h4, h5, h6, h7, h8, h9, h10, h11, _⟩ := hSw; go_simp
                simp only [List.set]
                refine vH_take (i := 7) (v := .bool true) (d := 111) (l2 := #[true, true, true, true, true, true, true, true, false, false, false]) rfl (by kernel_rfl) (by kernel_rfl) (by kernel_rfl) (fun _ _ _ h => h) (by kernel_rfl) (fun w hSw => ?_) (by assumption) rfl (by kernel_rfl) ?_
                · obtain ⟨h0, h1, h2, h3, h4, h5, h6, h7, h8, h9, h10, h11, _⟩ := hSw; go_simp
                simp only [List.set]
                refine vH_take (i := 8) (v := .bool false) (d := 112) (l2 := #[true, true, true, true, true, true, true, true, true, false, false]) rfl (by kernel_rfl) (by kernel_rfl) (by kernel_rfl) (fun _ _ _ h => h) (by kernel_rfl) (fun w hSw => ?_) (by assumption) rfl (by kernel_rfl) ?_
                · obtain ⟨h0, h1, h2, h3, h4, h5, h6, h7, h8, h9, h10, h11, _⟩ := hSw; go_simp
                simp only [List.set]
                refine vH_take (i := 9) (v := .bool false) (d := 113) (l2 := #[true, true, true, true, true, true, true, true, true, true, false]) rfl (by kernel_rfl) (by kernel_rfl) (by kernel_rfl) (fun _ _ _ h => h) (by kernel_rfl) (fun w hSw => ?_) (by assumption) rfl (by kernel_rfl) ?_
                · obtain ⟨h0, h1, h2, h3, h4, h5, h6, h7, h8, h9, h10, h11, _⟩ := hSw; go_simp
                simp only [List.set]
                refine vH_take (i := 10) (v := .bool false) (d := 114) (l2 := #[true, true, true, true, true, true, true, true, true, true, true]) rfl (by kernel_rfl) (by kernel_rfl) (by kernel_rfl) (fun _ _ _ h => h) (by kernel_rfl) (fun w hSw => ?_) (by assumption) rfl (by kernel_rfl) ?_
                · obtain ⟨h0, h1, h2, h3, h4, h5, h6, h7, h8, h9, h10, h11, _⟩ := hSw; go_simp
                simp only [List.set]
                refine wpAnyH_done (by kernel_rfl) ?_ _
                go_wp2_with (fail)
                go_meet
                exact ⟨rfl, hS⟩
          case rest =>
            obtain ⟨rfl, hS⟩ := hcut
            clear sab HB HC
            have hS0 := hS; obtain ⟨d0, d1, d2, d3, d4, d5, d6, d7, d8, d9, d10, d11, _⟩ := hS0
            cases oa
            · cases ob
              · cases b
                · clear HOB HST
                  go_wp2_with (first
                    | (go_at_call 12; first | ((with_reducible refine (p1 _ hS).mono ?_); rintro e w5 ⟨rfl, hS⟩; have hS0 := hS; obtain ⟨d0, d1, d2, d3, d4, d5, d6, d7, d8, d9, d10, d11, _⟩ := hS0) | ((with_reducible refine (p2 _ hS).mono ?_); rintro e w6 ⟨rfl, hS⟩; have hS0 := hS; obtain ⟨d0, d1, d2, d3, d4, d5, d6, d7, d8, d9, d10, d11, _⟩ := hS0))
                    | (go_at_call 19; first | ((with_reducible refine (o1 _ hS).mono ?_); rintro e w7 ⟨rfl, hS⟩; have hS0 := hS; obtain ⟨d0, d1, d2, d3, d4, d5, d6, d7, d8, d9, d10, d11, _⟩ := hS0) | ((with_reducible refine (o2 _ hS).mono ?_); rintro e w8 ⟨rfl, hS⟩; have hS0 := hS; obtain ⟨d0, d1, d2, d3, d4, d5, d6, d7, d8, d9, d10, d11, _⟩ := hS0))
                    | (go_at_call 7; (with_reducible refine (st _ hS).mono ?_); rintro e w9 ⟨rfl, hS⟩))
                  go_ret
                  exact ⟨ret_bool (by simp), t3_below hS⟩
                · obtain ⟨rfl, rfl⟩ := HST.out rfl rfl rfl
                  clear HOB HST
                  go_wp2_with (first
                    | (go_at_call 12; first | ((with_reducible refine (p1 _ hS).mono ?_); rintro e w5 ⟨rfl, hS⟩; have hS0 := hS; obtain ⟨d0, d1, d2, d3, d4, d5, d6, d7, d8, d9, d10, d11, _⟩ := hS0) | ((with_reducible refine (p2 _ hS).mono ?_); rintro e w6 ⟨rfl, hS⟩; have hS0 := hS; obtain ⟨d0, d1, d2, d3, d4, d5, d6, d7, d8, d9, d10, d11, _⟩ := hS0))
                    | (go_at_call 19; first | ((with_reducible refine (o1 _ hS).mono ?_); rintro e w7 ⟨rfl, hS⟩; have hS0 := hS; obtain ⟨d0, d1, d2, d3, d4, d5, d6, d7, d8, d9, d10, d11, _⟩ := hS0) | ((with_reducible refine (o2 _ hS).mono ?_); rintro e w8 ⟨rfl, hS⟩; have hS0 := hS; obtain ⟨d0, d1, d2, d3, d4, d5, d6, d7, d8, d9, d10, d11, _⟩ := hS0))
                    | (go_at_call 7; (with_reducible refine (st _ hS).mono ?_); rintro e w9 ⟨rfl, hS⟩))
                  go_ret
                  exact ⟨ret_bool (by simp), t3_below hS⟩
              · obtain ⟨rfl, rfl⟩ := HOB.out rfl
                clear HOB HST
                go_wp2_with (first
                  | (go_at_call 12; first | ((with_reducible refine (p1 _ hS).mono ?_); rintro e w5 ⟨rfl, hS⟩; have hS0 := hS; obtain ⟨d0, d1, d2, d3, d4, d5, d6, d7, d8, d9, d10, d11, _⟩ := hS0) | ((with_reducible refine (p2 _ hS).mono ?_); rintro e w6 ⟨rfl, hS⟩; have hS0 := hS; obtain ⟨d0, d1, d2, d3, d4, d5, d6, d7, d8, d9, d10, d11, _⟩ := hS0))
                  | (go_at_call 19; first | ((with_reducible refine (o1 _ hS).mono ?_); rintro e w7 ⟨rfl, hS⟩; have hS0 := hS; obtain ⟨d0, d1, d2, d3, d4, d5, d6, d7, d8, d9, d10, d11, _⟩ := hS0) | ((with_reducible refine (o2 _ hS).mono ?_); rintro e w8 ⟨rfl, hS⟩; have hS0 := hS; obtain ⟨d0, d1, d2, d3, d4, d5, d6, d7, d8, d9, d10, d11, _⟩ := hS0))
                  | (go_at_call 7; (with_reducible refine (st _ hS).mono ?_); rintro e w9 ⟨rfl, hS⟩))
                go_ret
                exact ⟨ret_bool (by simp), t3_below hS⟩
            · obtain ⟨rfl, rfl⟩ := HOB.out rfl
              clear HOB HST
              go_wp2_with (first
                | (go_at_call 12; first | ((with_reducible refine (p1 _ hS).mono ?_); rintro e w5 ⟨rfl, hS⟩; have hS0 := hS; obtain ⟨d0, d1, d2, d3, d4, d5, d6, d7, d8, d9, d10, d11, _⟩ := hS0) | ((with_reducible refine (p2 _ hS).mono ?_); rintro e w6 ⟨rfl, hS⟩; have hS0 := hS; obtain ⟨d0, d1, d2, d3, d4, d5, d6, d7, d8, d9, d10, d11, _⟩ := hS0))
                | (go_at_call 19; first | ((with_reducible refine (o1 _ hS).mono ?_); rintro e w7 ⟨rfl, hS⟩; have hS0 := hS; obtain ⟨d0, d1, d2, d3, d4, d5, d6, d7, d8, d9, d10, d11, _⟩ := hS0) | ((with_reducible refine (o2 _ hS).mono ?_); rintro e w8 ⟨rfl, hS⟩; have hS0 := hS; obtain ⟨d0, d1, d2, d3, d4, d5, d6, d7, d8, d9, d10, d11, _⟩ := hS0))
                | (go_at_call 7; (with_reducible refine (st _ hS).mono ?_); rintro e w9 ⟨rfl, hS⟩))
              go_ret
              exact ⟨ret_bool (by simp), t3_below hS⟩
end Go.Proofs.YthjmpifdhbjdcaaDoor.S
