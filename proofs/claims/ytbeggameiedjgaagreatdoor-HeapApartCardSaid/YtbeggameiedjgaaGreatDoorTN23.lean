/-
  Values in letters, their kinds whole numbers: what may be, what can stand as a Get or Set, when two are the same: contracts that hang on the letters alone.
-/
import Derived.Test.YtbeggameiedjgaaGreatDoorTN20
import Derived.Test.YtbeggameiedjgaaGreatDoorTN22
import Derived.Deep.RegionHeld3
import Derived.Deep.CutRange
namespace Go.Proofs.YtbeggameiedjgaaGreatDoor.S
open Go.RowKit Fl

/-- a value that may come in -/
def VIn (k : Int) (x : Nat) (r : Int) : Prop := 0 ≤ k ∧ k < 256 ∧ x < 2 ^ 64 ∧ r < 2 ^ 63
/-- a value that may be -/
def VOk (k : Int) (x : Nat) (s : ByteArray) (r : Int) : Prop := ∃ v : Vl, v.ok ∧ (v.kd : Int) = k ∧ v.fl = x ∧ v.st = s ∧ v.rf = r
noncomputable def mayI (k : Int) (x : Nat) (s : ByteArray) (r : Int) : Bool := @decide (VOk k x s r) (Classical.propDecidable _)
theorem mayI_iff {k : Int} {x : Nat} {s : ByteArray} {r : Int} : mayI k x s r = true ↔ VOk k x s r := by unfold mayI; exact @decide_eq_true_iff _ (Classical.propDecidable _)
theorem may_i {ka : Int} {xa : Nat} {sa : ByteArray} {ra : Int} (h : VIn ka xa ra) (w : World) : Calls Tryz.prog 89 #[.agg #[.int .u8 ka, .float .f64 xa, .string sa, .int .i64 ra]] w fun e w' => e = .returned (.bool (mayI ka xa sa ra)) ∧ Below w.heap.size w w' := by
  obtain ⟨h0, h1, hx, hr⟩ := h
  obtain ⟨n, rfl⟩ := Int.eq_ofNat_of_zero_le h0
  by_cases hv : VOk (n : Int) xa sa ra
  · rw [mayI_iff.2 hv]
    obtain ⟨v, ok, hk, rfl, rfl, rfl⟩ := hv
    obtain rfl : v.kd = n := by omega
    exact May_ok ok w
  · refine (May_any n xa sa ra w hx hr).mono fun e w' ⟨b, he, hb, g⟩ => ⟨?_, hb⟩
    have hm : mayI (n : Int) xa sa ra = false := by cases hh : mayI (n : Int) xa sa ra with | false => rfl | true => exact absurd (mayI_iff.1 hh) hv
    rw [hm]
    cases b with
    | false => exact he
    | true =>
      obtain ⟨v, ok, hk, h3, h4, h5⟩ := g rfl
      exact absurd ⟨v, ok, by rw [hk], h3, h4, h5⟩ hv
/-- of a value that may stand as a Get or Set -/
def calI (k : Int) : Bool := k == 0 || (k == 7 || k == 8)
noncomputable def callsI (k : Int) (x : Nat) (s : ByteArray) (r : Int) : Bool := mayI k x s r && calI k
theorem Calls_i {ka : Int} {xa : Nat} {sa : ByteArray} {ra : Int} (h : 0 ≤ ka) (w : World) : Calls Tryz.prog 87 #[.agg #[.int .u8 ka, .float .f64 xa, .string sa, .int .i64 ra]] w fun e w' => e = .returned (.bool (ka == 7 || ka == 8)) ∧ Below w.heap.size w w' := by
  obtain ⟨n, rfl⟩ := Int.eq_ofNat_of_zero_le h
  have := Calls_v n xa sa ra w
  unfold calB at this
  rw [← kd_eq n 7, ← kd_eq n 8] at this
  exact this
theorem calls_i {ka : Int} {xa : Nat} {sa : ByteArray} {ra : Int} (h : VIn ka xa ra) (w : World) : Calls Tryz.prog 164 #[.agg #[.int .u8 ka, .float .f64 xa, .string sa, .int .i64 ra]] w fun e w' => e = .returned (.bool (callsI ka xa sa ra)) ∧ Below w.heap.size w w' := by
  have c1 := fun w => may_i (sa := sa) h w
  have c2 := fun w => Calls_i (xa := xa) (sa := sa) (ra := ra) h.1 w
  have hb := heap_alloc_new w (.cells #[.int .u8 ka, .float .f64 xa, .string sa, .int .i64 ra] 26)
  obtain ⟨q0, q1, q2, q3, _⟩ := vc4 hb
  unfold callsI calI
  rcases Bool.eq_false_or_eq_true (mayI ka xa sa ra) with hm | hm
  · rw [hm] at c1
    rcases Bool.eq_false_or_eq_true (ka == 0) with h0 | h0
    all_goals
      go_enter Tryz.func164, Tryz.ntmps164
      go_wp2_with (first
        | (go_at_call 89; (with_reducible refine (c1 _).mono ?_); rintro e w1 ⟨rfl, h1⟩; obtain ⟨q0, q1, q2, q3, _⟩ := vc4 (vblkn h1 hb); have hB := vafter h1)
        | (go_at_call 87; (with_reducible refine (c2 _).mono ?_); rintro e w2 ⟨rfl, h2⟩; have hB := vb hB h2))
      go_ret
      exact ⟨dret (by rw [hm, h0]; simp), hB⟩
  · rw [hm] at c1
    go_enter Tryz.func164, Tryz.ntmps164
    go_wp2_with (go_at_call 89; (with_reducible refine (c1 _).mono ?_); rintro e w1 ⟨rfl, h1⟩; have hB := vafter h1)
    go_ret
    exact ⟨dret (by rw [hm]; rfl), hB⟩
/-- whether two values are the same -/
def sameI (k : Int) (x : Nat) (s : ByteArray) (r : Int) (k' : Int) (x' : Nat) (s' : ByteArray) (r' : Int) : Bool := sameG k.toNat x s r k'.toNat x' s' r'
theorem same_i_refl {ka : Int} {xa : Nat} {sa : ByteArray} {ra : Int} (h : VOk ka xa sa ra) : sameI ka xa sa ra ka xa sa ra = true := by
  obtain ⟨v, ok, rfl, rfl, rfl, rfl⟩ := h
  exact sameV_refl ok
theorem vok_kind {ka : Int} {xa : Nat} {sa : ByteArray} {ra : Int} (h : VOk ka xa sa ra) : 0 ≤ ka ∧ ka ≤ 8 := by
  obtain ⟨v, ok, rfl, rfl, rfl, rfl⟩ := h
  cases v with
  | obj k r => have := ok.1; simp only [Vl.kd]; omega
  | _ => simp only [Vl.kd]; omega
theorem vok_und : VOk 0 0 ⟨#[]⟩ 0 := ⟨.und, trivial, rfl, rfl, rfl, rfl⟩
end Go.Proofs.YtbeggameiedjgaaGreatDoor.S
/-
  Two descriptors compared by ==, the second with no field but its Has.
-/
namespace Go.Proofs.YtbeggameiedjgaaGreatDoor.S
open Go.RowKit Fl

def zV (k : Int) (x : Nat) (s : ByteArray) (r : Int) : Bool := k == 0 && (feq x 0 && (s.toList.isEmpty && r == 0))
theorem eq_val (d : Nat) (ka : Int) (xa : Nat) (sa : ByteArray) (ra : Int) (w : World) : (Op.equalIn (d + 2) 26 (.agg #[.int .u8 ka, .float .f64 xa, .string sa, .int .i64 ra]) (.agg #[.int .u8 0, .float .f64 0, .string ⟨#[]⟩, .int .i64 0])).run Tryz.prog w = .ok (zV ka xa sa ra) w := by
  have hv := veq_float d xa 0 w
  have z3 : (⟨#[]⟩ : ByteArray).toList = [] := by rw [toList_data]
  simp only [zV]
  by_cases h1 : ka = 0 <;> cases h2 : feq xa 0 <;> by_cases h3 : sa.toList = [] <;> by_cases h4 : ra = 0 <;> (rw [h2] at hv; simp [go_sem, run_equalIn_struct, Tryz.underlying26, hv, z3, h1, h3, h4])
def zD (o h : Int) (va vb vc p q z : Bool) : Bool := o == h && (va && (vb && (vc && (!p && (!q && !z)))))
theorem fields_step {d : Nat} {xs ys : Array Value} {f : Field} {fs : List Field} {a b : Value} {r : Bool} {w : World} (hn : f.name ≠ "_") (ha : (part f.type xs f.offset).run Tryz.prog w = .ok a w) (hb : (part f.type ys f.offset).run Tryz.prog w = .ok b w)
    (hr : (Op.equalIn d f.type a b).run Tryz.prog w = .ok r w) {t : Bool} (h : (Op.eqFields d xs ys fs).run Tryz.prog w = .ok t w) : (Op.eqFields d xs ys (f :: fs)).run Tryz.prog w = .ok (r && t) w := by
  simp only [Op.eqFields, if_pos hn, Sem.run_bind, ha, hb, hr, Result.andThen_ok]
  cases r <;> simp [h]
set_option maxRecDepth 100000 in
theorem eq_desc (d : Nat) (o h : Int) (ka : Int) (xa : Nat) (sa : ByteArray) (ra : Int) (kb : Int) (xb : Nat) (sb : ByteArray) (rb : Int) (kc : Int) (xc : Nat) (sc : ByteArray) (rc : Int) (p q z : Bool) (w : World) : (Op.equalIn (d + 3) 28 (.agg #[.int .u8 o, .int .u8 ka, .float .f64 xa, .string sa, .int .i64 ra, .int .u8 kb, .float .f64 xb, .string sb, .int .i64 rb, .int .u8 kc, .float .f64 xc, .string sc, .int .i64 rc, .bool p, .bool q, .bool z]) (.agg #[.int .u8 h, .int .u8 0, .float .f64 0, .string ⟨#[]⟩, .int .i64 0, .int .u8 0, .float .f64 0, .string ⟨#[]⟩, .int .i64 0, .int .u8 0, .float .f64 0, .string ⟨#[]⟩, .int .i64 0, .bool false, .bool false, .bool false])).run Tryz.prog w = .ok (zD o h (zV ka xa sa ra) (zV kb xb sb rb) (zV kc xc sc rc) p q z) w := by
  rw [run_equalIn_struct _ _ _ _ _ (by kernel_rfl) (by kernel_rfl)]
  simp only [Program.fieldsOf, Tryz.underlying28]
  unfold zD
  refine fields_step (by decide) (a := .int .u8 o) (b := .int .u8 h) (by simp [go_sem]) (by simp [go_sem]) (by simp [go_sem]) ?_
  refine fields_step (by decide) (a := .agg #[.int .u8 ka, .float .f64 xa, .string sa, .int .i64 ra]) (b := .agg #[.int .u8 0, .float .f64 0, .string ⟨#[]⟩, .int .i64 0]) (by simp [go_sem]) (by simp [go_sem]) (eq_val d ka xa sa ra w) ?_
  refine fields_step (by decide) (a := .agg #[.int .u8 kb, .float .f64 xb, .string sb, .int .i64 rb]) (b := .agg #[.int .u8 0, .float .f64 0, .string ⟨#[]⟩, .int .i64 0]) (by simp [go_sem]) (by simp [go_sem]) (eq_val d kb xb sb rb w) ?_
  refine fields_step (by decide) (a := .agg #[.int .u8 kc, .float .f64 xc, .string sc, .int .i64 rc]) (b := .agg #[.int .u8 0, .float .f64 0, .string ⟨#[]⟩, .int .i64 0]) (by simp [go_sem]) (by simp [go_sem]) (eq_val d kc xc sc rc w) ?_
  refine fields_step (by decide) (a := .bool p) (b := .bool false) (by simp [go_sem]) (by simp [go_sem]) (by cases p <;> simp [go_sem]) ?_
  refine fields_step (by decide) (a := .bool q) (b := .bool false) (by simp [go_sem]) (by simp [go_sem]) (by cases q <;> simp [go_sem]) ?_
  have h0 : (Op.eqFields (d + 2) (#[.int .u8 o, .int .u8 ka, .float .f64 xa, .string sa, .int .i64 ra, .int .u8 kb, .float .f64 xb, .string sb, .int .i64 rb, .int .u8 kc, .float .f64 xc, .string sc, .int .i64 rc, .bool p, .bool q, .bool z]) (#[.int .u8 h, .int .u8 0, .float .f64 0, .string ⟨#[]⟩, .int .i64 0, .int .u8 0, .float .f64 0, .string ⟨#[]⟩, .int .i64 0, .int .u8 0, .float .f64 0, .string ⟨#[]⟩, .int .i64 0, .bool false, .bool false, .bool false]) []).run Tryz.prog w = .ok true w := by simp [Op.eqFields]
  have := fields_step (f := { name := "Configurable", type := 4, offset := 15, embedded := false, tag := "", pkgPath := "", byteOffset := 130 }) (by decide) (a := .bool z) (b := .bool false) (by simp [go_sem]) (by simp [go_sem]) (r := !z) (by cases z <;> simp [go_sem]) h0
  rw [Bool.and_true] at this
  exact this
end Go.Proofs.YtbeggameiedjgaaGreatDoor.S
/-
  Regions that draw, with loads of whole descriptors and a comparison of two: laws of one operation under what the world holds.
-/
namespace Go.Proofs.YtbeggameiedjgaaGreatDoor.S
open Go.RowKit Fl

theorem hput_some (xs : List Value) (d : List Deferred) (i : Nat) (v : Value) : Act.put ⟨xs.toArray, d⟩ (some i) v = ⟨(xs.set i v).toArray, d⟩ := by simp [Act.put]
theorem hH_take {P : Program} {ops : Array Oper} {Q : Exit → Act → World → Prop} {md : Region.Mode} {S : World → Prop} {i d : Nat} {oi : Oper} {v : Value} {fuel : Nat} {listed l2 : Array Bool} {xs : List Value} {ds : List Deferred} {w : World} (hi : ops[i]? = some oi)
    (hs : Region.noSelect ops = true) (hf : Region.free md ops listed i = true) (hr : (Region.ready md ops listed).contains i = true)
    (hQ : ∀ c a w, Q (.panic c) (a.put oi.dst v) w → Q (.panic c) a w) (hw : Region.wanted oi (yielded ops (Act.mk xs.toArray ds).tmps) = true) (hv : ∀ w, S w → (execOp (Act.mk xs.toArray ds).eval oi).run P w = .ok (.value v) w) (hS : S w) (hd : oi.dst = some d) (hl : listed.setIfInBounds i true = l2)
    (h : wpAnyH P md ops Q S fuel l2 ⟨(xs.set d v).toArray, ds⟩ w) : wpAnyH P md ops Q S (fuel + 1) listed ⟨xs.toArray, ds⟩ w :=
  wpAnyH_take hi hs hf hr hQ (Or.inl ⟨hw, hv⟩) hS (by rw [hd, hput_some, hl]; exact h)
theorem hH_skip {P : Program} {ops : Array Oper} {Q : Exit → Act → World → Prop} {md : Region.Mode} {S : World → Prop} {i : Nat} {oi : Oper} {fuel : Nat} {listed l2 : Array Bool} {a : Act} {w : World} (hi : ops[i]? = some oi)
    (hs : Region.noSelect ops = true) (hf : Region.free md ops listed i = true) (hr : (Region.ready md ops listed).contains i = true)
    (hQ : ∀ c a w, Q (.panic c) (a.put oi.dst undef) w → Q (.panic c) a w) (hw : Region.wanted oi (yielded ops a.tmps) = false) (he : a.put oi.dst undef = a) (hl : listed.setIfInBounds i true = l2) (hS : S w)
    (h : wpAnyH P md ops Q S fuel l2 a w) : wpAnyH P md ops Q S (fuel + 1) listed a w :=
  wpAnyH_take hi hs hf hr hQ (Or.inr ⟨hw, rfl⟩) hS (by rw [he, hl]; exact h)
theorem hH_drop {P : Program} {ops : Array Oper} {Q : Exit → Act → World → Prop} {md : Region.Mode} {S : World → Prop} {i d : Nat} {oi : Oper} {fuel : Nat} {listed l2 : Array Bool} {xs : List Value} {ds : List Deferred} {w : World} (hi : ops[i]? = some oi)
    (hs : Region.noSelect ops = true) (hf : Region.free md ops listed i = true) (hr : (Region.ready md ops listed).contains i = true)
    (hQ : ∀ c a w, Q (.panic c) (a.put oi.dst undef) w → Q (.panic c) a w) (hw : Region.wanted oi (yielded ops (Act.mk xs.toArray ds).tmps) = false) (hS : S w) (hd : oi.dst = some d) (hl : listed.setIfInBounds i true = l2)
    (h : wpAnyH P md ops Q S fuel l2 ⟨(xs.set d undef).toArray, ds⟩ w) : wpAnyH P md ops Q S (fuel + 1) listed ⟨xs.toArray, ds⟩ w :=
  wpAnyH_take hi hs hf hr hQ (Or.inr ⟨hw, rfl⟩) hS (by rw [hd, hput_some, hl]; exact h)
section
variable {a : Act} {o : Oper} {w : World} {x y : Operand} {g : Nat} {t : TypeId} {c0 c1 c2 c3 c4 c5 c6 c7 c8 c9 c10 c11 c12 c13 c14 c15 : Value}
theorem ex_load (ho : o.op = .load 28 x) (hx : a.eval x = .pointer (some ⟨g, 0, none⟩)) (hg : w.heap[g]? = some (.cells #[c0, c1, c2, c3, c4, c5, c6, c7, c8, c9, c10, c11, c12, c13, c14, c15] t (0, 0))) :
    (execOp a.eval o).run Tryz.prog w = .ok (.value (.agg #[c0, c1, c2, c3, c4, c5, c6, c7, c8, c9, c10, c11, c12, c13, c14, c15])) w := by
  unfold execOp
  simp only [ho, hx, Instr.loadAt, Instr.sureAddr, Sem.run_bind, Sem.run_pure, Result.andThen_ok, run_loadVar_row (P := Tryz.prog) w g t 28 _ (0, 0) _ hg Tryz.underlying28 rfl dsz]
theorem ex_neq {n h : Int} {p q z : Bool} {kd : Int} {xd : Nat} {sd : ByteArray} {rd : Int} {ke : Int} {xe : Nat} {se : ByteArray} {re : Int} {kf : Int} {xf : Nat} {sf : ByteArray} {rf : Int} (ho : o.op = .binOp .neq 28 x y 28) (hx : a.eval x = .agg #[.int .u8 n, .int .u8 kd, .float .f64 xd, .string sd, .int .i64 rd, .int .u8 ke, .float .f64 xe, .string se, .int .i64 re, .int .u8 kf, .float .f64 xf, .string sf, .int .i64 rf, .bool p, .bool q, .bool z]) (hy : a.eval y = .agg #[.int .u8 h, .int .u8 0, .float .f64 0, .string ⟨#[]⟩, .int .i64 0, .int .u8 0, .float .f64 0, .string ⟨#[]⟩, .int .i64 0, .int .u8 0, .float .f64 0, .string ⟨#[]⟩, .int .i64 0, .bool false, .bool false, .bool false]) :
    (execOp a.eval o).run Tryz.prog w = .ok (.value (.bool (!zD n h (zV kd xd sd rd) (zV ke xe se re) (zV kf xf sf rf) p q z))) w := by
  have he := eq_desc 9997 n h kd xd sd rd ke xe se re kf xf sf rf p q z w
  unfold execOp
  simp only [ho, hx, hy, Sem.run_bind, Sem.run_pure, run_eqGuard_agg w _ _ _ _ _ _ (show Tryz.prog.eqGuardType Tryz.prog.depth 28 = false by kernel_rfl), run_neq_struct, he, Result.andThen_ok]
end
end Go.Proofs.YtbeggameiedjgaaGreatDoor.S
