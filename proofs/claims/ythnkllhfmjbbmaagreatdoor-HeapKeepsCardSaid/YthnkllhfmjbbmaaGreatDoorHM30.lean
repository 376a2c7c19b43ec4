/-
  heap.holds, revokes, leads.
-/
import Derived.Test.YthnkllhfmjbbmaaGreatDoorHM29
import Derived.Deep.LoopGhost
namespace Go.Proofs.YthnkllhfmjbbmaaGreatDoor.S
open Go.RowKit Go.Lib Fl
open Classical

theorem ok_ref {v : Vq} (h : v.Ok) (ho : objQ v = true) : 0 ≤ v.r := by
  obtain ⟨u, ok, e1, _, _, e4⟩ := h
  cases u with
  | obj k r => rw [← e4]; exact ok.2.1
  | _ =>
    exfalso
    unfold objQ at ho
    rw [← e1] at ho
    exact absurd ho (by simp only [Vl.kd]; decide)
theorem may_ok {v : Vq} (h : v.may = true) : v.Ok := mayI_iff.1 h
theorem holds_at {H : List Ob} {v : Vq} {n : Nat} (h : n < H.length) (e : v.r = n) : refB H v = (v.k == kindO H[n]) := by
  unfold refB
  rw [e, Int.toNat_natCast, List.getElem?_eq_getElem h]
theorem holds_out {H : List Ob} {v : Vq} {n : Nat} (h : ¬ n < H.length) (e : v.r = n) : refB H v = false := by
  unfold refB
  rw [e, Int.toNat_natCast, List.getElem?_eq_none (by omega)]
/-- what holds holds on to -/
structure Hh (w : World) (A : Option Addr) (n cap : Nat) (k : Int) (x : Nat) (s : ByteArray) (r : Int) (W : World) : Prop where
  below : Below w.heap.size w W
  h : W.cell? ⟨w.heap.size, 0, none⟩ = some (.slice A n cap)
  v : W.heap[w.heap.size + 1]? = some (.cells #[.int .u8 k, .float .f64 x, .string s, .int .i64 r] 31 (0, 0))
  lt : w.heap.size + 1 < W.heap.size
theorem hh_start (w : World) (A : Option Addr) (n cap : Nat) (k : Int) (x : Nat) (s : ByteArray) (r : Int) : Hh w A n cap k x s r ((w.alloc (.cells #[.slice A n cap] 24)).alloc (.cells #[.int .u8 k, .float .f64 x, .string s, .int .i64 r] 31)) := by
  obtain ⟨b1, b2⟩ := vblk2 (w := w) (Below.refl _ ((w.alloc (.cells #[.slice A n cap] 24)).alloc (.cells #[.int .u8 k, .float .f64 x, .string s, .int .i64 r] 31)))
  exact ⟨vafter (vzero _ _), (vcells b1 0).trans rfl, b2, by simp⟩
theorem Hh.up {w W W' : World} {A : Option Addr} {n cap : Nat} {k : Int} {x : Nat} {s : ByteArray} {r : Int} (h : Hh w A n cap k x s r W) (hb : Below W.heap.size W W') : Hh w A n cap k x s r W' :=
  ⟨vb h.below hb, (hb.cell (p := ⟨w.heap.size, 0, none⟩) (by have := h.lt; show w.heap.size < _; omega)).trans h.h, vblkn hb h.v, Nat.lt_of_lt_of_le h.lt hb.size⟩
set_option maxHeartbeats 2000000 in
set_option maxRecDepth 100000 in
theorem holds_h (A : Option Addr) (H : List Ob) (cap : Nat) (v : Vq) (w : World) (hH : HIn w A H cap) (hv : v.In) : Calls Tryz.prog 76 #[.agg #[.slice A H.length cap], .agg #[.int .u8 v.k, .float .f64 v.x, .string v.s, .int .i64 v.r]] w fun e w' => e = .returned (.bool (holdsB H v)) ∧ Below w.heap.size w w' := by
  have c1 := fun w => may_i (sa := v.s) hv w
  have c2 := fun w => IsObject_q v hv.1 w
  have HS := Lib.hid (hh_start w A H.length cap v.k v.x v.s v.r)
  have hmay : v.may = mayI v.k v.x v.s v.r := rfl
  rw [← hmay] at c1
  unfold holdsB
  obtain ⟨q0, q1, q2, q3, _⟩ := vc4 HS.out.v
  cases hm : v.may with
  | false =>
    rw [hm] at c1
    go_enter Tryz.func76, Tryz.ntmps76
    go_wp2_with (go_at_call 115; (with_reducible refine (c1 _).mono ?_); rintro e w1 ⟨rfl, h9⟩; have HS := Lib.hid (HS.out.up h9); clear h9)
    go_ret
    exact ⟨rfl, HS.out.below⟩
  | true =>
    rw [hm] at c1
    have hr0 := fun ho => ok_ref (may_ok hm) ho
    cases ho : objQ v with
    | false =>
      rw [ho] at c2
      go_enter Tryz.func76, Tryz.ntmps76
      go_wp2_with (first
        | (go_at_call 115; (with_reducible refine (c1 _).mono ?_); rintro e w1 ⟨rfl, h9⟩; have HS := Lib.hid (HS.out.up h9); obtain ⟨q0, q1, q2, q3, _⟩ := vc4 HS.out.v; clear h9)
        | (go_at_call 66; (with_reducible refine (c2 _).mono ?_); rintro e w2 ⟨rfl, h9⟩; have HS := Lib.hid (HS.out.up h9); clear h9))
      go_ret
      exact ⟨rfl, HS.out.below⟩
    | true =>
      rw [ho] at c2
      obtain ⟨n, hn⟩ := Int.eq_ofNat_of_zero_le (hr0 ho)
      by_cases hlt : n < H.length
      · rw [holds_at hlt hn]
        obtain ⟨a, rfl, hab, hof, _⟩ := hH.at hlt
        have hK := fun W (hb : Below w.heap.size w W) => kind_h (a.add (n * 18)) H[n] W (hof.up hb)
        generalize H[n] = o at *
        obtain ⟨k, x, s, r⟩ := v
        dsimp only at *
        subst hn
        have hlz : (n : Int) < (H.length : Int) := by omega
        have hl0 : (0 : Int) ≤ (n : Int) := by omega
        go_enter Tryz.func76, Tryz.ntmps76
        go_wp2_with (first
          | (go_at_call 115; (with_reducible refine (c1 _).mono ?_); rintro e w1 ⟨rfl, h9⟩; have HS := Lib.hid (HS.out.up h9); obtain ⟨q0, q1, q2, q3, _⟩ := vc4 HS.out.v; clear h9)
          | (go_at_call 66; (with_reducible refine (c2 _).mono ?_); rintro e w2 ⟨rfl, h9⟩; have HS := Lib.hid (HS.out.up h9); obtain ⟨q0, q1, q2, q3, _⟩ := vc4 HS.out.v; have q4 := HS.out.h; clear h9))
        go_quiet ((go_at_call 116; exact Calls.quiet_of_same (hK _ (tdrewN HS.out.below _))))
        all_goals go_wp2
        all_goals go_ret
        all_goals exact ⟨rfl, tdrewN HS.out.below _⟩
      · rw [holds_out hlt hn]
        obtain ⟨k, x, s, r⟩ := v
        dsimp only at *
        subst hn
        have hlz : ¬ (n : Int) < (H.length : Int) := by omega
        go_enter Tryz.func76, Tryz.ntmps76
        go_wp2_with (first
          | (go_at_call 115; (with_reducible refine (c1 _).mono ?_); rintro e w1 ⟨rfl, h9⟩; have HS := Lib.hid (HS.out.up h9); obtain ⟨q0, q1, q2, q3, _⟩ := vc4 HS.out.v; clear h9)
          | (go_at_call 66; (with_reducible refine (c2 _).mono ?_); rintro e w2 ⟨rfl, h9⟩; have HS := Lib.hid (HS.out.up h9); obtain ⟨q0, q1, q2, q3, _⟩ := vc4 HS.out.v; have q4 := HS.out.h; clear h9))
        go_quiet (fail)
        all_goals go_wp2
        all_goals go_ret
        all_goals exact ⟨rfl, tdrewN HS.out.below _⟩
end Go.Proofs.YthnkllhfmjbbmaaGreatDoor.S
/-
  heap.loops: whether one comes back from an object to it by prototypes.
-/
namespace Go.Proofs.YthnkllhfmjbbmaaGreatDoor.S
open Go.RowKit Go.Lib Fl
open Classical

def WK (W : List Nat) : Array Value := (W.map fun (x : Nat) => Value.int .i64 (x : Int)).toArray
theorem WK_size (W : List Nat) : (WK W).size = W.length := by simp [WK]
theorem WK_at {W : List Nat} {i : Nat} (h : i < W.length) : (WK W)[i]? = some (.int .i64 (W[i] : Int)) := by simp [WK, h]
theorem WK_set (W : List Nat) (i k : Nat) : (WK W).setIfInBounds i (.int .i64 (k : Int)) = WK (W.set i k) := by simp [WK, List.map_set]
theorem made_ints (n : Nat) : madeCells (Value.int .i64 0).cells (n * 1) = WK (List.replicate n 0) := by
  apply Array.ext
  · simp [madeCells, WK]
  · intro i h1 h2
    have e : i % 1 = 0 := Nat.mod_one i
    simp [madeCells, WK, Value.cells, e]
/-- what loops holds on to -/
structure Ls (w : World) (A : Option Addr) (n cap : Nat) (K : List Nat) (W : World) : Prop where
  below : Below w.heap.size w W
  h : W.heap[w.heap.size]? = some (.cells #[.slice A n cap] 24 (0, 0))
  k : W.heap[w.heap.size + 1]? = some (.cells (WK K) 3 (0, 0))
theorem Ls.up {w W W' : World} {A : Option Addr} {n cap : Nat} {K : List Nat} (h : Ls w A n cap K W) (hb : Below W.heap.size W W') : Ls w A n cap K W' := ⟨vb h.below hb, vblkn hb h.h, vblkn hb h.k⟩
theorem Ls.other {w W W' : World} {A : Option Addr} {n cap g : Nat} {K : List Nat} (h : Ls w A n cap K W) (hb : Below w.heap.size w W') (hO : ∀ j, j ≠ g → W'.heap[j]? = W.heap[j]?) (hg : w.heap.size + 1 < g) : Ls w A n cap K W' :=
  ⟨hb, (hO _ (by omega)).trans h.h, (hO _ (by omega)).trans h.k⟩
theorem Ls.lt {w W : World} {A : Option Addr} {n cap : Nat} {K : List Nat} (h : Ls w A n cap K W) : w.heap.size + 1 < W.heap.size := lt_blk h.k
theorem ls_start (w : World) (A : Option Addr) (n cap : Nat) (K : List Nat) : Ls w A n cap K ((w.alloc (.cells #[.slice A n cap] 24)).alloc (.cells (WK K) 3)) := by
  obtain ⟨b1, b2⟩ := vblk2 (w := w) (Below.refl _ ((w.alloc (.cells #[.slice A n cap] 24)).alloc (.cells (WK K) 3)))
  exact ⟨vafter (vzero _ _), b1, b2⟩
theorem Ls.fz {w W : World} {A : Option Addr} {n cap : Nat} {K : List Nat} (h : Ls w A n cap K W) (p : Nat) : W.frozen? ⟨w.heap.size + 1, p, none⟩ = false := by simp [World.frozen?, h.k]
theorem Ls.c {w W : World} {A : Option Addr} {n cap : Nat} {K : List Nat} (h : Ls w A n cap K W) : W.cell? ⟨w.heap.size, 0, none⟩ = some (.slice A n cap) := (vcells h.h 0).trans rfl
section
variable {ops : Array Oper} {rest : List Oper} {o : Oper} {a : Act} {w : World} {Q : Exit → Act → World → Prop} {x y : Operand} {t : TypeId}
/-- ints made -/
theorem ints_make {l c : Operand} {n : Nat} (hgd : o.guard = none) (ho : o.op = .makeSlice 40 l c) (hl : a.eval l = .int .i64 (n : Int)) (hc : a.eval c = .int .i64 (n : Int)) (hn : n ≤ 1000000)
    (h : wpList Tryz.prog ops Q rest (a.put o.dst (.slice (some ⟨w.heap.size, 0, none⟩) n n)) (w.alloc (.cells (WK (List.replicate n 0)) 3))) : wpList Tryz.prog ops Q (o :: rest) a w := by
  obtain ⟨i0, hi, hz0, hz1, hz2⟩ := info_parts (P := Tryz.prog) (e := 3) (z := .int .i64 0) (size := 1) (bytes := 8) (by kernel_rfl)
  refine wpList_plain hgd fun K hK => ?_
  have hr := run_makeSlice (P := Tryz.prog) w 40 3 i0 (.int .i64 0) Tryz.underlying40 hi hz0 .i64 .i64 (n : Int) (n : Int) (by omega) (by omega) (by rw [hz1]; omega) (by rw [hz2]; omega) (by omega)
  rw [hz1, Int.toNat_natCast, made_ints] at hr
  unfold Oper.wp execOp
  simp only [ho, hl, hc, hr, Sem.run_bind, Sem.run_pure, Result.andThen_ok]
  exact hK _ _ h
/-- one of a row of the call's own stored -/
theorem ik_store {cs : Array Value} {v : Int} {B g m : Nat} {w0 : World} (hgd : o.guard = none) (ho : o.op = .store 3 x y) (hx : a.eval x = .pointer (some ⟨g, m, none⟩)) (hy : a.eval y = .int .i64 v) (hg : w.heap[g]? = some (.cells cs t (0, 0))) (hm : m < cs.size) (hB : Below B w0 w) (hBg : B ≤ g)
    (h : ∀ W : World, Below B w0 W → W.heap[g]? = some (.cells (cs.setIfInBounds m (.int .i64 v)) t (0, 0)) → (∀ j, j ≠ g → W.heap[j]? = w.heap[j]?) → W.heap.size = w.heap.size → wpList Tryz.prog ops Q rest (a.put o.dst undef) W) : wpList Tryz.prog ops Q (o :: rest) a w := by
  have hc : w.cell? ⟨g, m, none⟩ = some cs[m] := by rw [vcells hg m]; simp [hm]
  have hf : w.frozen? ⟨g, m, none⟩ = false := by simp [World.frozen?, hg]
  refine wpList_plain hgd fun K hK => ?_
  have hr : (Instr.storeAt 3 (.pointer (some ⟨g, m, none⟩)) (.int .i64 v)).run Tryz.prog w = .ok () (w.setCell ⟨g, m, none⟩ (.int .i64 v)) := by simp [go_sem, hc, hf]
  unfold Oper.wp execOp
  simp only [ho, hx, hy, hr, Sem.run_bind, Sem.run_pure, Result.andThen_ok]
  refine hK _ _ (h _ (hB.setCell (p := ⟨g, m, none⟩) hBg _) (vset1 hg m _) (fun j hj => ?_) (by simp))
  exact Below.heap_setCell w ⟨g, m, none⟩ _ j hj
end
/-- where a prototype leads -/
def ProtoOk (H : List Ob) : Prop := ∀ i (h : i < H.length), objQ H[i].proto = true → ∃ m : Nat, H[i].proto.r = m ∧ m < H.length
theorem next_none {H : List Ob} {p : Nat} (h : p < H.length) (e : objQ H[p].proto = false) : nextO H p = none := by
  unfold nextO
  rw [List.getElem?_eq_getElem h]
  dsimp only
  rw [e]; rfl
theorem next_some {H : List Ob} {p m : Nat} (h : p < H.length) (e : objQ H[p].proto = true) (er : H[p].proto.r = m) : nextO H p = some m := by
  unfold nextO
  rw [List.getElem?_eq_getElem h]
  dsimp only
  rw [e, er]; rfl
theorem walk_hit {H : List Ob} {k f p : Nat} {W : List Nat} (h : p < W.length) (e : W[p] = k) : walkF H k (f + 1) p W = none := by
  unfold walkF
  rw [List.getElem?_eq_getElem h]
  dsimp only
  rw [e, beq_self_eq_true]; rfl
theorem walk_old {H : List Ob} {k f p : Nat} {W : List Nat} (h : p < W.length) (e : W[p] ≠ k) (e0 : W[p] ≠ 0) : walkF H k (f + 1) p W = some W := by
  unfold walkF
  rw [List.getElem?_eq_getElem h]
  dsimp only
  rw [beq_eq_false_iff_ne.2 e, beq_eq_false_iff_ne.2 e0]; rfl
theorem walk_on {H : List Ob} {k f p : Nat} {W : List Nat} (h : p < W.length) (e : W[p] ≠ k) (e0 : W[p] = 0) : walkF H k (f + 1) p W = match nextO H p with | none => some (W.set p k) | some q => walkF H k f q (W.set p k) := by
  conv => lhs; unfold walkF
  rw [List.getElem?_eq_getElem h]
  dsimp only
  rw [beq_eq_false_iff_ne.2 e, beq_iff_eq.2 e0]; rfl
theorem count_set {W : List Nat} {p k : Nat} (h : p < W.length) (e0 : W[p] = 0) (hk : k ≠ 0) : (W.set p k).count 0 + 1 = W.count 0 := by
  induction W generalizing p with
  | nil => simp at h
  | cons x r ih =>
    cases p with
    | zero =>
      simp only [List.getElem_cons_zero] at e0
      subst e0
      simp only [List.set_cons_zero, List.count_cons_self]
      rw [List.count_cons_of_ne hk]
    | succ p =>
      simp only [List.getElem_cons_succ] at e0
      have := ih (by simpa using h) e0
      simp only [List.set_cons_succ, List.count_cons]
      omega
/-- how far a walk has come: at an object yet to be asked, or at its end -/
inductive Wst (H : List Ob) (k f : Nat) (R : Option (List Nat)) (K : List Nat) (v : Vq) : Prop where
  | run (p : Nat) : objQ v = true → v.r = p → p < H.length → walkF H k f p K = R → K.count 0 < f → Wst H k f R K v
  | off : objQ v = false → R = some K → Wst H k f R K v
theorem wst_on {H : List Ob} {K : List Nat} {p k f : Nat} {R : Option (List Nat)} (hpK : p < K.length) (hp : p < H.length) (hk : k ≠ 0) (e1 : K[p] ≠ k) (e0 : K[p] = 0) (hw : walkF H k (f + 1) p K = R) (hc : K.count 0 < f + 1) (hN : ProtoOk H) : Wst H k f R (K.set p k) H[p].proto := by
  rw [walk_on hpK e1 e0] at hw
  have hcs := count_set hpK e0 hk
  cases ho : objQ H[p].proto with
  | false => rw [next_none hp ho] at hw; exact .off ho hw.symm
  | true =>
    obtain ⟨m, hm, hlt⟩ := hN p hp ho
    rw [next_some hp ho hm] at hw
    exact .run m ho hm hlt hw (by omega)
theorem ls_next {w V : World} {A : Option Addr} {n cap i p : Nat} {K : List Nat} (h : Ls w A n cap K V) :
    ((V.setCell ⟨w.heap.size + 1, p, none⟩ (.int .i64 ((i : Int) + 1))).alloc (.cells #[.int .u8 0, .float .f64 0, .string ⟨#[]⟩, .int .i64 0] 31)).heap[V.heap.size]? = some (.cells #[.int .u8 0, .float .f64 0, .string ⟨#[]⟩, .int .i64 0] 31 (0, 0)) ∧
    Ls w A n cap (K.set p (i + 1)) ((V.setCell ⟨w.heap.size + 1, p, none⟩ (.int .i64 ((i : Int) + 1))).alloc (.cells #[.int .u8 0, .float .f64 0, .string ⟨#[]⟩, .int .i64 0] 31)) := by
  have hks : (V.setCell ⟨w.heap.size + 1, p, none⟩ (.int .i64 ((i : Int) + 1))).heap[w.heap.size + 1]? = some (.cells (WK (K.set p (i + 1))) 3 (0, 0)) := by
    have := vset1 h.k p (.int .i64 ((i + 1 : Nat) : Int))
    rw [WK_set] at this
    rw [← this]; rfl
  have L4 : Ls w A n cap (K.set p (i + 1)) (V.setCell ⟨w.heap.size + 1, p, none⟩ (.int .i64 ((i : Int) + 1))) :=
    ⟨h.below.setCell (p := ⟨w.heap.size + 1, p, none⟩) (Nat.le_succ _) _, vset1o h.h (by omega) _ _, hks⟩
  have hA := heap_alloc_new (V.setCell ⟨w.heap.size + 1, p, none⟩ (.int .i64 ((i : Int) + 1))) (.cells #[.int .u8 0, .float .f64 0, .string ⟨#[]⟩, .int .i64 0] 31)
  rw [World.size_setCell] at hA
  exact ⟨hA, L4.up (vzero _ _)⟩
/-- the loop's variable in its box -/
structure Lp (w : World) (A : Option Addr) (H : List Ob) (cap k f : Nat) (R : Option (List Nat)) (g : Nat) (W : World) : Prop where
  out : ∃ (v : Vq) (K : List Nat), Ls w A H.length cap K W ∧ K.length = H.length ∧ w.heap.size + 1 < g ∧ W.heap[g]? = some (.cells #[.int .u8 v.k, .float .f64 v.x, .string v.s, .int .i64 v.r] 31 (0, 0)) ∧ 0 ≤ v.k ∧ Wst H k f R K v
theorem vq_one (k : Int) (x : Nat) (s : ByteArray) (r : Int) : (#[Value.int .u8 k, .float .f64 x, .string s, .int .i64 r] : Array Value).all (·.oneCell') = true := cells_one (l := [.int .u8 k, .float .f64 x, .string s, .int .i64 r]) rfl
theorem loops_some {H : List Ob} {kx i : Nat} {K K2 : List Nat} {b : Bool} (hlo : loopsL H (kx + 1) i K = b) (hR : walkF H (i + 1) (H.length + 1) i K = some K2) : loopsL H kx (i + 1) K2 = b := by
  rw [← hlo]
  show _ = (match walkF H (i + 1) (H.length + 1) i K with | none => true | some W' => loopsL H kx (i + 1) W')
  rw [hR]
theorem loops_none {H : List Ob} {kx i : Nat} {K : List Nat} {b : Bool} (hlo : loopsL H (kx + 1) i K = b) (hR : walkF H (i + 1) (H.length + 1) i K = none) : b = true := by
  rw [← hlo]
  show (match walkF H (i + 1) (H.length + 1) i K with | none => true | some W' => loopsL H kx (i + 1) W') = true
  rw [hR]
set_option maxHeartbeats 8000000 in
set_option maxRecDepth 1000000 in
theorem loops_h (A : Option Addr) (H : List Ob) (cap : Nat) (w : World) (hH : HIn w A H cap) (hN : ProtoOk H) : Calls Tryz.prog 45 #[.agg #[.slice A H.length cap]] w fun e w' => e = .returned (.bool (loopsB H)) ∧ Below w.heap.size w w' := by
  have HS := Lib.hid (ls_start w A H.length cap (List.replicate H.length 0))
  have hfew := hH.few
  have q4 := HS.out.c
  have q5 : (w.alloc (.cells #[.slice A H.length cap] 24)).cell? ⟨w.heap.size, 0, none⟩ = some (.slice A H.length cap) := (vcells (heap_alloc_new w _) 0).trans rfl
  have HH := Lib.hid hH
  have HN := Lib.hid hN
  clear hH hN
  go_enter Tryz.func45, Tryz.ntmps45
  go_wp2_with (refine ints_make (n := H.length) rfl rfl rfl rfl (by omega) ?_)
  go_loopg [14] H.length (fun kx s14 wr => ∃ i : Nat, s14 = .int .i64 i ∧ i + kx = H.length ∧ Hid (∃ K : List Nat, K.length = H.length ∧ Ls w A H.length cap K wr ∧ loopsL H kx i K = loopsB H))
  case atStart => exact ⟨0, rfl, by omega, Lib.hid ⟨_, by simp, HS.out, rfl⟩⟩
  case round =>
    obtain ⟨i, rfl, hik, HR⟩ := hrel
    obtain ⟨K, hK, hL, hlo⟩ := HR.out
    cases gk with
    | zero =>
      obtain rfl : i = H.length := by omega
      go_wp2
      go_ret
      exact ⟨by rw [← hlo]; rfl, hL.below⟩
    | succ kx =>
      have hlt : i < H.length := by omega
      have hlz : (i : Int) < (H.length : Int) := by omega
      have hl5 : (H.length : Int) ≤ 5000 := by omega
      have hl0 : (0 : Int) ≤ (i : Int) := by omega
      have HL := Lib.hid hL
      have hc1 := vq_one 6 0 ⟨#[]⟩ (i : Int)
      have hi1 : (Tryz.prog.info? 31).map (·.size) = some (#[Value.int .u8 6, .float .f64 0, .string ⟨#[]⟩, .int .i64 (i : Int)] : Array Value).size := vsz4
      have HLO := Lib.hid hlo
      have HKL := Lib.hid hK
      clear q4 q5 hL hlo hK
      go_wp2_with (first
        | ((with_reducible refine t_store rfl rfl rfl rfl (heap_alloc_new _ _) hi1 ?_ hc1 (vzero wr _) (Nat.le_refl _) ?_); (rfl); intro W hBW hW _ _; have HL2 := Lib.hid (HL.out.up hBW)))
      dsimp only [Act.put]
      go_loopg [6] (H.length + 1) (fun f s6 wx => ∃ g : Nat, s6 = .pointer (some ⟨g, 0, none⟩) ∧ Hid (Lp w A H cap (i + 1) f (walkF H (i + 1) (H.length + 1) i K) g wx))
      case atStart =>
        refine ⟨_, rfl, Lib.hid ⟨⟨⟨6, 0, ⟨#[]⟩, (i : Int)⟩, K, HL2.out, HKL.out, HL.out.lt, hW, (show (0 : Int) ≤ 6 by decide), .run i rfl rfl hlt rfl ?_⟩⟩⟩
        have := List.count_le_length (a := 0) (l := K)
        have := HKL.out
        omega
      case round =>
        obtain ⟨g, rfl, HP⟩ := hrel
        obtain ⟨v, K2, hL2, hK2, hg1, hgb, hv0, hst⟩ := HP.out.out
        have cI := fun V => IsObject_q v hv0 V
        obtain ⟨q0, q1, q2, q3, _⟩ := vc4 hgb
        have HL3 := Lib.hid hL2
        have HKK := Lib.hid hK2
        have HG := Lib.hid hgb
        clear hL2 hgb HL2 hW
        cases hst with
        | off ho hR =>
          rw [ho] at cI
          have HR2 := Lib.hid hR
          clear hR
          go_wp2_with (go_at_call 66; (with_reducible refine (cI _).mono ?_); rintro e w1 ⟨rfl, h9⟩; have HL3 := Lib.hid (HL3.out.up h9); clear h9)
          go_roundg kx
          case measure => omega
          case rel => exact ⟨i + 1, by congr 1, by omega, Lib.hid ⟨K2, HKK.out, HL3.out, loops_some HLO.out HR2.out⟩⟩
        | run p ho hr hp hw hcnt =>
          rw [ho] at cI
          obtain ⟨f, rfl⟩ : ∃ f, gk = f + 1 := ⟨gk - 1, by omega⟩
          obtain ⟨k, x, s, r⟩ := v
          dsimp only at *
          subst hr
          have hpz : (p : Int) < (H.length : Int) := by omega
          have hp0 : (0 : Int) ≤ (p : Int) := by omega
          have hpK : p < K2.length := by rw [hK2]; exact hp
          have HW := Lib.hid hw
          have HC := Lib.hid hcnt
          clear hw hcnt hK2
          by_cases e1 : K2[p] = i + 1
          · have HR2 := Lib.hid ((HW.out.symm.trans (walk_hit hpK e1)))
            go_wp2_with (go_at_call 66; (with_reducible refine (cI _).mono ?_); rintro e w1 ⟨rfl, h9⟩; have HL3 := Lib.hid (HL3.out.up h9); have HG := Lib.hid (vblkn h9 HG.out); obtain ⟨q0, q1, q2, q3, _⟩ := vc4 HG.out; have c0 := (vcells HL3.out.k p).trans (WK_at hpK); clear h9)
            go_ret
            exact ⟨by rw [loops_none HLO.out HR2.out]; rfl, HL3.out.below⟩
          · have b1 : ((K2[p] : Int) == (i : Int) + 1) = false := by rw [beq_eq_false_iff_ne]; omega
            by_cases e0 : K2[p] = 0
            · have b0 : ((K2[p] : Int) != 0) = false := by rw [e0]; rfl
              obtain ⟨a, rfl, hab, hof, _⟩ := HH.out.at hp
              have hpin := (HH.out.inn H[p] (List.getElem_mem hp)).proto.1
              have HWS := Lib.hid (wst_on hpK hp (Nat.succ_ne_zero i) e1 e0 HW.out HC.out HN.out)
              have hlen3 : (K2.set p (i + 1)).length = H.length := by rw [List.length_set]; exact HKK.out
              have HK3 := Lib.hid hlen3
              have HOF := Lib.hid hof
              clear hof hlen3
              have hc2 := vq_one k x s (p : Int)
              have hc3 := vq_one H[p].proto.k H[p].proto.x H[p].proto.s H[p].proto.r
              have hi3 : (Tryz.prog.info? 31).map (·.size) = some (#[Value.int .u8 H[p].proto.k, .float .f64 H[p].proto.x, .string H[p].proto.s, .int .i64 H[p].proto.r] : Array Value).size := vsz4
              have hi2 : (Tryz.prog.info? 31).map (·.size) = some (#[Value.int .u8 k, .float .f64 x, .string s, .int .i64 (p : Int)] : Array Value).size := vsz4
              have HA := Lib.hid (fun (V : World) (hV : Ls w (some a) H.length cap K2 V) => ls_next (i := i) (p := p) hV)
              go_wp2_with (first
                | (go_at_call 66; (with_reducible refine (cI _).mono ?_); rintro e w1 ⟨rfl, h9⟩; have HL3 := Lib.hid (HL3.out.up h9); have HG := Lib.hid (vblkn h9 HG.out); obtain ⟨q0, q1, q2, q3, _⟩ := vc4 HG.out; have c0 := (vcells HL3.out.k p).trans (WK_at hpK); obtain ⟨hA, hLA⟩ := HA.out w1 HL3.out; have hfz := HL3.out.fz p; have hBA := hLA.below; have hLt := HL3.out.lt; have hB1 : w.heap.size ≤ w1.heap.size := (by omega); clear h9)
                | ((with_reducible refine t_store rfl rfl rfl rfl hA hi2 ?_ hc2 hBA hB1 ?_); (rfl); intro W3 hB3 hW3 hO3 _; have HL5 := Lib.hid (hLA.other hB3 hO3 hLt); clear q0 q1 q2 q3 c0; obtain ⟨q0, q1, q2, q3, _⟩ := vc4 hW3; have q4 := HL5.out.c; have hp3 := (HOF.out.up HL5.out.below).proto; have hl3 := (HOF.out.up HL5.out.below).lt)
                | ((with_reducible refine va_load ?_ rfl rfl hp3 ?_); (rfl))
                | ((with_reducible refine t_store rfl rfl rfl rfl hW3 hi3 ?_ hc3 HL5.out.below hB1 ?_); (rfl); intro W4 hB4 hW4 hO4 _))
              go_roundg f
              case measure => omega
              case rel => exact ⟨_, rfl, Lib.hid ⟨⟨H[p].proto, K2.set p (i + 1), HL5.out.other hB4 hO4 hLt, HK3.out, hLt, hW4, hpin, HWS.out⟩⟩⟩
            · have b0 : ((K2[p] : Int) != 0) = true := by unfold bne; rw [beq_eq_false_iff_ne.2 (show ¬ (K2[p] : Int) = 0 by omega)]; rfl
              have HR2 := Lib.hid (HW.out.symm.trans (walk_old hpK e1 e0))
              go_wp2_with (go_at_call 66; (with_reducible refine (cI _).mono ?_); rintro e w1 ⟨rfl, h9⟩; have HL3 := Lib.hid (HL3.out.up h9); have HG := Lib.hid (vblkn h9 HG.out); obtain ⟨q0, q1, q2, q3, _⟩ := vc4 HG.out; have c0 := (vcells HL3.out.k p).trans (WK_at hpK); clear h9)
              go_roundg kx
              case measure => omega
              case rel => exact ⟨i + 1, by congr 1, by omega, Lib.hid ⟨K2, HKK.out, HL3.out, loops_some HLO.out HR2.out⟩⟩
end Go.Proofs.YthnkllhfmjbbmaaGreatDoor.S
