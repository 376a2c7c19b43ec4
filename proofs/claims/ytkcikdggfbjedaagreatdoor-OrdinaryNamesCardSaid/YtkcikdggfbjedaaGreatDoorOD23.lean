/-
  slices.EqualFunc of objects by heap.sameObject; heap.Same.
-/
import Derived.Test.YtkcikdggfbjedaaGreatDoorOD22
import Derived.Test.YtkcikdggfbjedaaGreatDoorOD21
import Derived.Test.YtkcikdggfbjedaaGreatDoorOD14
namespace Go.Proofs.YtkcikdggfbjedaaGreatDoor.S
open Go.RowKit Go.Lib Fl
open Classical

/-- objects' cells in a row -/
def ORow (w : World) (A : Option Addr) (M : List Ob) : Prop := 0 < M.length → ∃ a, A = some a ∧ a.block < w.heap.size ∧ ∀ i (h : i < M.length) j u, (ocl M[i])[j]? = some u → w.cell? ((a.add (i * 18)).add j) = some u
theorem ORow.up {w W : World} {A : Option Addr} {M : List Ob} (h : ORow w A M) (hb : Below w.heap.size w W) : ORow W A M := fun hp => by
  obtain ⟨a, h1, h2, h3⟩ := h hp
  exact ⟨a, h1, Nat.lt_of_lt_of_le h2 hb.size, fun i hi j u hu => by rw [hb.cell (by rw [add_blk, add_blk]; exact h2)]; exact h3 i hi j u hu⟩
theorem orow_h {w : World} {A : Option Addr} {H : List Ob} (h : HRow w A H) : ORow w A H := fun hp => by
  obtain ⟨a, h1, h2, h3⟩ := h hp
  exact ⟨a, h1, h2, fun i hi j u hu => of_back (h3 i hi).1 j u hu⟩
theorem orow_b {w : World} {B : Nat} {M : List Ob} {t : TypeId} (h : w.heap[B]? = some (.cells (hcl M).toArray t (0, 0))) : ORow w (some ⟨B, 0, none⟩) M := fun _ => by
  refine ⟨_, rfl, lt_blk h, fun i hi j u hu => ?_⟩
  have hj : j < 18 := by have := (List.getElem?_eq_some_iff.1 hu).1; rw [ocl_len] at this; exact this
  rw [add_add, Addr.add_mid, Nat.zero_add, vcells h (i * 18 + j), List.getElem?_toArray, hcl_at M i hi j hj]
  exact hu
section
variable {ops : Array Oper} {rest : List Oper} {o : Oper} {a : Act} {w : World} {Q : Exit → Act → World → Prop} {x y : Operand} {g : Nat} {t : TypeId}
theorem oa_load {A : Addr} {p : Ob} (hw : Region.wanted o (yielded ops a.tmps) = true) (ho : o.op = .load 64 x) (hx : a.eval x = .pointer (some A)) (hc : ∀ j u, (ocl p)[j]? = some u → w.cell? (A.add j) = some u)
    (h : wpList Tryz.prog ops Q rest (a.put o.dst (.agg (obA p))) w) : wpList Tryz.prog ops Q (o :: rest) a w :=
  wpList_wanted hw fun _ hK => wp_load_at ho hx hc Tryz.underlying64 rfl osz (hK _ _ h)
end
set_option maxHeartbeats 4000000 in
set_option maxRecDepth 100000 in
theorem eqobjs (r : Bool) (M H : List Ob) (n : Nat) (A B : Option Addr) (ca cb : Nat) (w : World) (hM : M.length = n) (hH : H.length = n) (hA : ORow w A M) (hB : ORow w B H) (hl : n ≤ 1000000)
    (hS : ∀ i (h1 : i < M.length) (h2 : i < H.length) W, Below w.heap.size w W → Calls Tryz.prog 51 #[.agg (obA M[i]), .agg (obA H[i])] W fun e w' => e = .returned (.bool r) ∧ Below W.heap.size W w') :
    Calls Tryz.prog 50 #[.slice A n ca, .slice B n cb, .func (.func 51) #[] #[]] w fun e w' => e = .returned (.bool (r || decide (n = 0))) ∧ Below w.heap.size w w' := by
  have hle : ((n : Int) != (n : Int)) = false := by simp
  have hHA := Lib.hid hA
  have hHB := Lib.hid hB
  have HM := Lib.hid (And.intro hM hH)
  have HS := Lib.hid hS
  clear hA hB hM hH hS
  go_enter Tryz.func50, Tryz.ntmps50
  go_wp2_with (fail)
  go_loopg [17] n (fun kx s17 wr => ∃ i : Nat, s17 = .int .i64 i ∧ i + kx = n ∧ Hid (Below w.heap.size w wr) ∧ Hid (0 < i → r = true))
  case atStart => exact ⟨0, rfl, by omega, Lib.hid (Below.refl _ _), Lib.hid fun h => absurd h (Nat.lt_irrefl 0)⟩
  case round =>
    obtain ⟨i, rfl, hik, H0, HR⟩ := hrel
    cases gk with
    | zero =>
      obtain rfl : i = n := by omega
      go_wp2_with (fail)
      go_ret
      refine ⟨?_, H0.out⟩
      rcases Nat.eq_zero_or_pos i with h | h
      · rw [decide_eq_true h, Bool.or_true]; rfl
      · rw [HR.out h]; rfl
    | succ kx =>
      have hlt : i < n := by omega
      have hlz : (i : Int) < (n : Int) := by omega
      have hi0 : (0 : Int) ≤ (i : Int) := by omega
      have hm1 : i < M.length := by rw [HM.out.1]; exact hlt
      have hm2 : i < H.length := by rw [HM.out.2]; exact hlt
      obtain ⟨a, rfl, hab, hrow⟩ := hHA.out.up H0.out (by omega)
      obtain ⟨b, rfl, hbb, hrow2⟩ := hHB.out.up H0.out (by omega)
      have hc := hrow i hm1
      have hd : ∀ W, Below wr.heap.size wr W → ∀ j u, (ocl H[i])[j]? = some u → W.cell? ((b.add (i * 18)).add j) = some u := fun W hb j u hu => by
        rw [hb.cell (by rw [add_blk, add_blk]; exact hbb)]; exact hrow2 i hm2 j u hu
      have kk := HS.out i hm1 hm2
      clear hrow hrow2
      generalize M[i] = P at *
      generalize H[i] = P2 at *
      have hi1 : ∀ P : Ob, (Tryz.prog.info? 64).map (·.size) = some (obA P).size := fun _ => osz
      go_wp2_with (first
        | ((with_reducible refine oa_load ?_ rfl rfl hc ?_); (rfl))
        | ((with_reducible refine oa_load ?_ rfl rfl (hd _ HB1.out) ?_); (rfl))
        | ((with_reducible refine t_store rfl rfl rfl rfl (heap_alloc_new wr _) (hi1 _) ?_ (obA_one P) (vzero wr _) (Nat.le_refl _) ?_); (rfl); intro W1 hBW1 hW1 hO1 hz1; clear hO1 hz1; have HB1 := Lib.hid hBW1)
        | ((with_reducible refine t_store rfl rfl rfl rfl (heap_alloc_new W1 _) (hi1 _) ?_ (obA_one P2) (vzero W1 _) (Nat.le_refl _) ?_); (rfl); intro W2 hBW2 hW2 hO2 hz2; clear hz2; have hW12 := (hO2 _ (by have := lt_blk hW1; omega)).trans (vblkn (vzero _ _) hW1); have HB2 := Lib.hid (vb H0.out (vb HB1.out hBW2)))
        | ((with_reducible refine ob_load ?_ rfl rfl hW12 ?_); (rfl))
        | ((with_reducible refine ob_load ?_ rfl rfl hW2 ?_); (rfl)))
      refine (kk _ HB2.out).mono ?_
      rintro e w5 ⟨rfl, h9⟩
      dsimp only
      have HB5 := Lib.hid (vb HB2.out h9)
      cases r with
      | true =>
        go_wp2_with (fail)
        go_roundg kx
        case measure => omega
        case rel => exact ⟨i + 1, by congr 1, by omega, HB5, Lib.hid fun _ => trivial⟩
      | false =>
        go_wp2_with (fail)
        go_ret
        refine ⟨?_, HB5.out⟩
        rw [decide_eq_false (by omega)]; rfl
set_option maxRecDepth 100000 in
theorem Same_h (r : Bool) (M H : List Ob) (n : Nat) (A B : Option Addr) (ca cb : Nat) (w : World) (hM : M.length = n) (hH : H.length = n) (hA : ORow w A M) (hB : ORow w B H) (hl : n ≤ 1000000)
    (hS : ∀ i (h1 : i < M.length) (h2 : i < H.length) W, Below w.heap.size w W → Calls Tryz.prog 51 #[.agg (obA M[i]), .agg (obA H[i])] W fun e w' => e = .returned (.bool r) ∧ Below W.heap.size W w') :
    Calls Tryz.prog 20 #[.agg #[.slice A n ca], .agg #[.slice B n cb]] w fun e w' => e = .returned (.bool (r || decide (n = 0))) ∧ Below w.heap.size w w' := by
  have cE := fun W (hb : Below w.heap.size w W) => eqobjs r M H n A B ca cb W hM hH (hA.up hb) (hB.up hb) hl (fun i h1 h2 V hV => hS i h1 h2 V (vb hb hV))
  obtain ⟨b1, b2⟩ := vblk2 (Below.refl _ ((w.alloc (.cells #[.slice A n ca] 24)).alloc (.cells #[.slice B n cb] 24)))
  have q1 : ((w.alloc (.cells #[.slice A n ca] 24)).alloc (.cells #[.slice B n cb] 24)).cell? ⟨w.heap.size, 0, none⟩ = some (.slice A n ca) := (vcells b1 0).trans rfl
  have q2 : ((w.alloc (.cells #[.slice A n ca] 24)).alloc (.cells #[.slice B n cb] 24)).cell? ⟨w.heap.size + 1, 0, none⟩ = some (.slice B n cb) := (vcells b2 0).trans rfl
  have hB0 : Below w.heap.size w ((w.alloc (.cells #[.slice A n ca] 24)).alloc (.cells #[.slice B n cb] 24)) := vafter (vzero _ _)
  have HC := Lib.hid (cE _ hB0)
  clear hA hB hM hH hS cE b1 b2
  generalize (r || decide (n = 0)) = z at *
  go_enter Tryz.func20, Tryz.ntmps20
  go_wp2_with (go_at_call 50; (with_reducible refine HC.out.mono ?_); rintro e w1 ⟨rfl, h9⟩)
  go_ret
  exact ⟨rfl, vb hB0 h9⟩
end Go.Proofs.YtkcikdggfbjedaaGreatDoor.S
/-
  The law's own: large.
-/
namespace Go.Proofs.YtkcikdggfbjedaaGreatDoor.S
open Go.RowKit Go.Lib Fl
open Classical

def largeB (H : List Ob) : Bool := H.any fun o => decide (100 < o.props.length)
/-- large's own block -/
structure Lg (w : World) (A : Option Addr) (n cap : Nat) (W : World) : Prop where
  below : Below w.heap.size w W
  h : W.heap[w.heap.size]? = some (.cells #[.slice A n cap] 24 (0, 0))
end Go.Proofs.YtkcikdggfbjedaaGreatDoor.S
/-
  The law's own: spoil writes over a twin, and over nothing else.
-/
namespace Go.Proofs.YtkcikdggfbjedaaGreatDoor.S
open Go.RowKit Go.Lib Fl
open Classical

section
variable {ops : Array Oper} {rest : List Oper} {o : Oper} {a : Act} {w : World} {Q : Exit → Act → World → Prop} {x y : Operand} {g : Nat} {t ty : TypeId}
end
def pz : Pq := ⟨⟨⟨#[]⟩, 0⟩, dz 0⟩
def o77 : Ob := ⟨77, v0, false, none, 0, [], v0, v0, ⟨#[]⟩, false, false⟩
section
variable {o : Oper} {a : Act} {w : World}
end
/-- how far spoil has come -/
structure Sp (w : World) (n1 B n : Nat) (M : List Ob) (i : Nat) (W : World) : Prop where
  m : ∃ Mi : List Ob, Mi.length = n ∧ (∀ j (h : j < Mi.length) (h' : j < M.length), i ≤ j → Mi[j] = M[j]) ∧ (∀ j (h : j < Mi.length), j < i → Mi[j].kind = 77) ∧ W.heap[B]? = some (.cells (hcl Mi).toArray 64 (0, 0))
  p : ∀ j (h : j < M.length), ∃ (g : Nat) (cur : List Value), M[j].pa = some ⟨g, 0, none⟩ ∧ B < g ∧ g < n1 ∧ M[j].pc = M[j].props.length ∧ W.heap[g]? = some (.cells cur.toArray 109 (0, 0)) ∧ cur.length = M[j].props.length * 18
  box : W.heap[w.heap.size]? = some (.cells #[.slice (some ⟨B, 0, none⟩) n n] 24 (0, 0))
  below : Below B w W
  keep : ∀ j, n1 ≤ j → j < w.heap.size → W.heap[j]? = w.heap[j]?
  lt : B < n1 ∧ n1 ≤ w.heap.size
  len : M.length = n
theorem Sp.put {w W W' : World} {n1 B n i g : Nat} {M : List Ob} {cur cur' : List Value} (h : Sp w n1 B n M i W) (hg : B < g) (hg1 : g < n1) (hb : ∀ B w0, Below B w0 W → B ≤ g → Below B w0 W') (hc : W.heap[g]? = some (.cells cur.toArray 109 (0, 0))) (hc' : W'.heap[g]? = some (.cells cur'.toArray 109 (0, 0))) (hl : cur'.length = cur.length) (hO : ∀ j, j ≠ g → W'.heap[j]? = W.heap[j]?) : Sp w n1 B n M i W' := by
  have hlt := h.lt
  obtain ⟨Mi, m1, m2, m3, m4⟩ := h.m
  refine ⟨⟨Mi, m1, m2, m3, (hO _ (by omega)).trans m4⟩, fun j hj => ?_, (hO _ (by omega)).trans h.box, hb _ _ h.below (by omega), fun j h1 h2 => (hO j (by omega)).trans (h.keep j h1 h2), hlt, h.len⟩
  obtain ⟨g2, c2, p1, p2, p3, p4, p5, p6⟩ := h.p j hj
  by_cases c : g2 = g
  · subst c
    rw [hc] at p5
    have e : cur.toArray = c2.toArray := by simpa using p5
    have e2 : cur = c2 := by simpa using e
    exact ⟨g2, cur', p1, p2, p3, p4, hc', by rw [hl, e2]; exact p6⟩
  · exact ⟨g2, c2, p1, p2, p3, p4, (hO _ c).trans p5, p6⟩
theorem Sp.next {w W W' : World} {n1 B n i : Nat} {M Mi : List Ob} (h : Sp w n1 B n M i W) (hi : i < n) (m1 : Mi.length = n) (m2 : ∀ j (h : j < Mi.length) (h' : j < M.length), i ≤ j → Mi[j] = M[j]) (m3 : ∀ j (h : j < Mi.length), j < i → Mi[j].kind = 77)
    (hb : ∀ B' w0, Below B' w0 W → B' ≤ B → Below B' w0 W') (hc' : W'.heap[B]? = some (.cells ((hcl Mi).take (i * 18) ++ ocl o77 ++ (hcl Mi).drop (i * 18 + 18)).toArray 64 (0, 0))) (hO : ∀ j, j ≠ B → W'.heap[j]? = W.heap[j]?) : Sp w n1 B n M (i + 1) W' := by
  have hlt := h.lt
  rw [hcl_put Mi i o77 (by omega)] at hc'
  refine ⟨⟨Mi.set i o77, by rw [List.length_set]; exact m1, fun j hj h' hij => ?_, fun j hj hji => ?_, hc'⟩, fun j hj => ?_, (hO _ (by omega)).trans h.box, hb _ _ h.below (Nat.le_refl _), fun j h1 h2 => (hO j (by omega)).trans (h.keep j h1 h2), hlt, h.len⟩
  · rw [List.length_set] at hj
    rw [List.getElem_set_ne (by omega)]
    exact m2 j hj h' (by omega)
  · rw [List.length_set] at hj
    by_cases c : j = i
    · subst c; rw [List.getElem_set_self]; rfl
    · rw [List.getElem_set_ne (by omega)]; exact m3 j hj (by omega)
  · obtain ⟨g2, c2, p1, p2, p3, p4, p5, p6⟩ := h.p j hj
    exact ⟨g2, c2, p1, p2, p3, p4, (hO _ (by omega)).trans p5, p6⟩
end Go.Proofs.YtkcikdggfbjedaaGreatDoor.S
/-
  The law's own: spoil, the walk.
-/
namespace Go.Proofs.YtkcikdggfbjedaaGreatDoor.S
open Go.RowKit Go.Lib Fl
open Classical

theorem Sp.cell {w W : World} {n1 B n i g N : Nat} {M : List Ob} (h : Sp w n1 B n M i W) (hi : i < M.length) (hg : M[i].pa = some ⟨g, 0, none⟩) (hc : M[i].pc = M[i].props.length) (hN : M[i].props.length = N) : W.cell? ⟨B, i * 18 + 6, none⟩ = some (.slice (some ⟨g, 0, none⟩) N N) := by
  obtain ⟨Mi, m1, m2, _, m4⟩ := h.m
  have hl := h.len
  have := hcl_at Mi i (by omega) 6 (by decide)
  rw [vcells m4 (i * 18 + 6), List.getElem?_toArray, this, m2 i (by omega) hi (Nat.le_refl _)]
  show some (Value.slice M[i].pa M[i].props.length M[i].pc) = _
  rw [hg, hc, hN]
end Go.Proofs.YtkcikdggfbjedaaGreatDoor.S
/-
  HeapApart: what the law is handed, and what stands ahead of its last statement.
-/
namespace Go.Proofs.YtkcikdggfbjedaaGreatDoor.S
open Go.RowKit Go.Lib Fl
open Classical

/-- a heap that comes in, however many objects it has -/
structure HIn0 (w : World) (A : Option Addr) (H : List Ob) (cap : Nat) : Prop where
  inn : ∀ o ∈ H, o.In
  row : HRow w A H
  room : H.length ≤ cap
  cap63 : cap < 9223372036854775808
  nil : A = none → cap = 0
theorem small_p {H : List Ob} (h : largeB H = false) : ∀ o ∈ H, o.props.length ≤ 100000 := fun o ho => by
  unfold largeB at h
  rw [List.any_eq_false] at h
  have := h o ho
  simp at this
  omega
theorem HIn0.few {w : World} {A : Option Addr} {H : List Ob} {cap : Nat} (h : HIn0 w A H cap) (hf : H.length ≤ 5000) (hs : largeB H = false) : HIn w A H cap := ⟨h.inn, h.row, hf, fun o ho => by have := small_p hs o ho; omega, h.room, h.cap63, h.nil⟩
theorem Tw.keep {n0 B : Nat} {H M : List Ob} {W W' : World} (h : Tw n0 B H M W) (hO : ∀ j, B ≤ j → j < W.heap.size → W'.heap[j]? = W.heap[j]?) : Tw n0 B H M W' :=
  ⟨h.len, fun j h1 h2 => by obtain ⟨g, g1, g2, g3⟩ := (h.all j h1 h2).out; exact ⟨g, g1, g2, (hO g (by omega) (lt_blk g3)).trans g3⟩, (hO B (Nat.le_refl _) (lt_blk h.b)).trans h.b, h.le⟩
/-- ahead of the last statement: the heap, the twin that was written over, the other twin -/
structure Ap (w : World) (A : Option Addr) (H : List Ob) (cap n gt gu B1 B2 : Nat) (M2 : List Ob) (W : World) : Prop where
  below : Below w.heap.size w W
  h : W.heap[w.heap.size]? = some (.cells #[.slice A n cap] 24 (0, 0))
  t : W.heap[gt]? = some (.cells #[.slice (some ⟨B1, 0, none⟩) n n] 24 (0, 0))
  u : W.heap[gu]? = some (.cells #[.slice (some ⟨B2, 0, none⟩) n n] 24 (0, 0))
  m : ∃ M1 : List Ob, M1.length = n ∧ (∀ i (h : i < M1.length), M1[i].kind = 77) ∧ W.heap[B1]? = some (.cells (hcl M1).toArray 64 (0, 0))
  tw : Tw 0 B2 H M2 W
theorem Ap.up {w : World} {A : Option Addr} {H : List Ob} {cap n gt gu B1 B2 : Nat} {M2 : List Ob} {W W' : World} (h : Ap w A H cap n gt gu B1 B2 M2 W) (hb : Below W.heap.size W W') : Ap w A H cap n gt gu B1 B2 M2 W' :=
  ⟨vb h.below hb, vblkn hb h.h, vblkn hb h.t, vblkn hb h.u, h.m.imp fun _ g => ⟨g.1, g.2.1, vblkn hb g.2.2⟩, h.tw.up hb⟩
end Go.Proofs.YtkcikdggfbjedaaGreatDoor.S
/-
  HeapApart: the walk.
-/
namespace Go.Proofs.YtkcikdggfbjedaaGreatDoor.S
open Go.RowKit Go.Lib Fl
open Classical

theorem h1_load {W : World} {v : Value} {g : Nat} (h : W.heap[g]? = some (.cells #[v] 24 (0, 0))) : (Instr.loadAt 24 (.pointer (some ⟨g, 0, none⟩))).run Tryz.prog W = .ok (.agg #[v]) W :=
  run_loadAt_at (A := ⟨g, 0, none⟩) (cs := [v]) (fun j u hu => by
    rw [Addr.add_mid, Nat.zero_add, vcells h j]
    simpa using hu) Tryz.underlying24 rfl hsz
/-- ahead of the twins -/
structure Aq (w : World) (A : Option Addr) (n cap : Nat) (W : World) : Prop where
  below : Below w.heap.size w W
  h : W.heap[w.heap.size]? = some (.cells #[.slice A n cap] 24 (0, 0))
theorem Aq.up {w : World} {A : Option Addr} {n cap : Nat} {W W' : World} (h : Aq w A n cap W) (hb : Below W.heap.size W W') : Aq w A n cap W' := ⟨vb h.below hb, vblkn hb h.h⟩
theorem Aq.q {w : World} {A : Option Addr} {n cap : Nat} {W : World} (h : Aq w A n cap W) : W.cell? ⟨w.heap.size, 0, none⟩ = some (.slice A n cap) := (vcells h.h 0).trans rfl
end Go.Proofs.YtkcikdggfbjedaaGreatDoor.S
/-
  HeapMore: from more objects one comes to all that one comes to from fewer.
-/
namespace Go.Proofs.YtkcikdggfbjedaaGreatDoor.S
open Go.RowKit Go.Lib Fl
open Classical

def E0 (k : Int) (w : World) (e : Ending) (w' : World) : Prop := e = .returned (.tuple #[.slice none 0 0, .int .i64 k]) ∧ Below w.heap.size w w'
def R0 (L : List Nat) (w : World) (e : Ending) (w' : World) : Prop := ∃ g cap, e = .returned (.tuple #[.slice (some ⟨g, 0, none⟩) L.length cap, .int .i64 0]) ∧ (w'.ownsRow w.heap.size 3 1 (.slice (some ⟨g, 0, none⟩) L.length cap) L.length (wkv L) ∧ Below w.heap.size w w')
/-- the loops' world -/
structure Mo (w : World) (g1 g2 gp : Nat) (L M : List Nat) (p : Vq) (W : World) : Prop where
  below : Below w.heap.size w W
  l : ∀ i (h : i < L.length), W.cell? ⟨g1, i, none⟩ = some (.int .i64 (L[i] : Int))
  m : ∀ i (h : i < M.length), W.cell? ⟨g2, i, none⟩ = some (.int .i64 (M[i] : Int))
  p : W.heap[gp]? = some (.cells #[.int .u8 p.k, .float .f64 p.x, .string p.s, .int .i64 p.r] 48 (0, 0))
theorem Mo.drew {w : World} {g1 g2 gp : Nat} {L M : List Nat} {p : Vq} {W : World} (h : Mo w g1 g2 gp L M p W) : Mo w g1 g2 gp L M p W.drew := ⟨h.below.trans ((Below.refl _ _).drew), h.l, h.m, h.p⟩
theorem Mo.c {w : World} {g1 g2 gp : Nat} {L M : List Nat} {p : Vq} {W : World} (h : Mo w g1 g2 gp L M p W) : W.cell? ⟨gp, 3, none⟩ = some (.int .i64 p.r) := (vcells h.p 3).trans rfl
def anyR (L : List Nat) (i : Nat) (r : Int) : Bool := (L.take i).any fun x => ((x : Int) == r)
end Go.Proofs.YtkcikdggfbjedaaGreatDoor.S
/-
  HeapKeeps' reaches: from what one comes to one comes to nothing else.
-/
namespace Go.Proofs.YtkcikdggfbjedaaGreatDoor.S
open Go.RowKit Go.Lib Fl
open Classical

/-- the loop's world -/
structure Mq (w : World) (g1 g2 : Nat) (L : List Nat) (W : World) : Prop where
  below : Below w.heap.size w W
  l : ∀ i (h : i < L.length), W.cell? ⟨g1, i, none⟩ = some (.int .i64 (L[i] : Int))
  m : ∀ i (h : i < L.length), W.cell? ⟨g2, i, none⟩ = some (.int .i64 (L[i] : Int))
theorem Mq.drew {w : World} {g1 g2 : Nat} {L : List Nat} {W : World} (h : Mq w g1 g2 L W) : Mq w g1 g2 L W.drew := ⟨h.below.trans ((Below.refl _ _).drew), h.l, h.m⟩
end Go.Proofs.YtkcikdggfbjedaaGreatDoor.S
/-
  heap.Put.
-/
namespace Go.Proofs.YtkcikdggfbjedaaGreatDoor.S
open Go.RowKit Go.Lib Fl
open Classical

def thE (H : List Ob) (n : Int) : Int := if n < 0 ∨ (H.length : Int) ≤ n then 2 else 0
theorem th_zero {H : List Ob} {n : Int} (h : thE H n = 0) : inZ H n := by
  unfold thE at h
  unfold inZ
  split at h
  · exact absurd h (by decide)
  · omega
theorem orE_zero {x y : Int} (h : orE x y = 0) : x = 0 ∧ y = 0 := by
  unfold orE at h
  split at h
  · exact ⟨by assumption, h⟩
  · contradiction
/-- Put's error -/
noncomputable def hpE (H : List Ob) (n : Int) (o : Ob) : Int := if orE (chkH H) (thE H n) = 0 then chkH (hput H n.toNat o) else orE (chkH H) (thE H n)
def HputTo (H : List Ob) (n : Int) (o : Ob) (w : World) (e : Ending) (w' : World) : Prop := Below w.heap.size w w' ∧ ((hpE H n o ≠ 0 ∧ e = .returned (.tuple #[.agg #[.slice none 0 0], .int .i64 (hpE H n o)])) ∨
  (hpE H n o = 0 ∧ ∃ B M, e = .returned (.tuple #[.agg #[.slice (some ⟨B, 0, none⟩) H.length H.length], .int .i64 0]) ∧ Tw w.heap.size B (hput H n.toNat o) M w'))
section
variable {ops : Array Oper} {rest : List Oper} {o : Oper} {a : Act} {w : World} {Q : Exit → Act → World → Prop} {x : Operand} {g : Nat}
theorem h1_ld {v : Value} (hw : Region.wanted o (yielded ops a.tmps) = true) (ho : o.op = .load 24 x) (hx : a.eval x = .pointer (some ⟨g, 0, none⟩)) (hg : w.heap[g]? = some (.cells #[v] 24 (0, 0)))
    (h : wpList Tryz.prog ops Q rest (a.put o.dst (.agg #[v])) w) : wpList Tryz.prog ops Q (o :: rest) a w :=
  wpList_wanted hw fun _ hK => wp_load_row 24 x ho g hx 24 _ (0, 0) _ hg Tryz.underlying24 rfl hsz (hK _ _ h)
end
end Go.Proofs.YtkcikdggfbjedaaGreatDoor.S
/-
  heap.Of.
-/
namespace Go.Proofs.YtkcikdggfbjedaaGreatDoor.S
open Go.RowKit Go.Lib Fl
open Classical

/-- no object -/
def oZ : Ob := ⟨0, v0, false, none, 0, [], v0, v0, ⟨#[]⟩, false, false⟩
abbrev ozA : Array Value := #[.int .u8 0, .int .u8 0, .float .f64 0, .string ⟨#[]⟩, .int .i64 0, .bool false, .slice none 0 0, .int .u8 0, .float .f64 0, .string ⟨#[]⟩, .int .i64 0, .int .u8 0, .float .f64 0, .string ⟨#[]⟩, .int .i64 0, .string ⟨#[]⟩, .bool false, .bool false]
/-- Of's own blocks -/
structure Ow (w : World) (A : Option Addr) (n cap : Nat) (W : World) : Prop where
  below : Below w.heap.size w W
  h : W.heap[w.heap.size]? = some (.cells #[.slice A n cap] 24 (0, 0))
  r : W.heap[w.heap.size + 1]? = some (.cells ozA 64 (0, 0))
theorem Ow.up {w : World} {A : Option Addr} {n cap : Nat} {W W' : World} (h : Ow w A n cap W) (hb : Below W.heap.size W W') : Ow w A n cap W' := ⟨vb h.below hb, vblkn hb h.h, vblkn hb h.r⟩
theorem ow_start (w : World) (A : Option Addr) (n cap : Nat) : Ow w A n cap ((w.alloc (.cells #[.slice A n cap] 24)).alloc (.cells ozA 64)) := by
  obtain ⟨b1, b2⟩ := vblk2 (w := w) (Below.refl _ ((w.alloc (.cells #[.slice A n cap] 24)).alloc (.cells ozA 64)))
  exact ⟨vafter (vzero _ _), b1, b2⟩
noncomputable def ofE (H : List Ob) (n : Int) : Int := orE (chkH H) (thE H n)
/-- an object with its properties in block g -/
def Ob.at (o : Ob) (g : Nat) : Ob := { o with pa := some ⟨g, 0, none⟩, pc := o.props.length }
def OfTo (H : List Ob) (n : Int) (w : World) (e : Ending) (w' : World) : Prop := Below w.heap.size w w' ∧ ((ofE H n ≠ 0 ∧ e = .returned (.tuple #[.agg (obA oZ), .int .i64 (ofE H n)])) ∨
  (ofE H n = 0 ∧ ∃ (h : n.toNat < H.length) (g : Nat), e = .returned (.tuple #[.agg (obA (H[n.toNat].at g)), .int .i64 0]) ∧ w'.heap[g]? = some (.cells (prCells H[n.toNat].props).toArray 109 (0, 0))))
theorem of_end {f : Func} {i j : Nat} {t : TypeId} {Q : Ending → World → Prop} {tmps : Array Value} {W : World} {g : Nat} {o : Ob} {y : Int} (hf : f.results = #[.cell i 64, .tmp j])
    (h2 : tmps[i]?.getD undef = .pointer (some ⟨g, 0, none⟩)) (h3 : tmps[j]?.getD undef = .int .i64 y) (hb : W.heap[g]? = some (.cells (obA o) t (0, 0))) (hQ : Q (.returned (.tuple #[.agg (obA o), .int .i64 y])) W) :
    bodyPost Tryz.prog f Q .ret { tmps := tmps, defers := [] } W := by
  have hl := run_loadVar_row (P := Tryz.prog) W g t 64 (obA o) (0, 0) _ hb Tryz.underlying64 rfl osz
  refine bodyPost_ret (v := .tuple #[.agg (obA o), .int .i64 y]) ?_ rfl hQ
  simp [h2, h3, results, hf, hl, asAddr]
theorem obA_at (o : Ob) (g : Nat) : (obA o).setIfInBounds 6 (.slice (some ⟨g, 0, none⟩) o.props.length o.props.length) = obA (o.at g) := rfl
section
variable {ops : Array Oper} {rest : List Oper} {o : Oper} {a : Act} {w : World} {Q : Exit → Act → World → Prop} {x y : Operand} {t : TypeId}
theorem sl_store {cs : Array Value} {P : Option Addr} {B g m n c : Nat} {w0 : World} (hgd : o.guard = none) (ho : o.op = .store 62 x y) (hx : a.eval x = .pointer (some ⟨g, m, none⟩)) (hy : a.eval y = .slice P n c) (hg : w.heap[g]? = some (.cells cs t (0, 0))) (hm : m < cs.size) (hB : Below B w0 w) (hBg : B ≤ g)
    (h : ∀ W : World, Below B w0 W → W.heap[g]? = some (.cells (cs.setIfInBounds m (.slice P n c)) t (0, 0)) → (∀ j, j ≠ g → W.heap[j]? = w.heap[j]?) → W.heap.size = w.heap.size → wpList Tryz.prog ops Q rest (a.put o.dst undef) W) : wpList Tryz.prog ops Q (o :: rest) a w := by
  have hc : w.cell? ⟨g, m, none⟩ = some cs[m] := by rw [vcells hg m]; simp [hm]
  have hf : w.frozen? ⟨g, m, none⟩ = false := by simp [World.frozen?, hg]
  refine wpList_plain hgd fun K hK => ?_
  have hr : (Instr.storeAt 62 (.pointer (some ⟨g, m, none⟩)) (.slice P n c)).run Tryz.prog w = .ok () (w.setCell ⟨g, m, none⟩ (.slice P n c)) := by simp [go_sem, hc, hf]
  unfold Oper.wp execOp
  simp only [ho, hx, hy, hr, Sem.run_bind, Sem.run_pure, Result.andThen_ok]
  refine hK _ _ (h _ (hB.setCell (p := ⟨g, m, none⟩) hBg _) (vset1 hg m _) (fun j hj => ?_) (by simp))
  exact Below.heap_setCell w ⟨g, m, none⟩ _ j hj
end
set_option maxHeartbeats 4000000 in
set_option maxRecDepth 1000000 in
theorem Of_h (A : Option Addr) (H : List Ob) (cap : Nat) (n : Int) (w : World) (hH : HIn w A H cap) (hp : ∀ o ∈ H, o.props.length ≤ 100000) (htab : TabHere w) :
    Calls Tryz.prog 28 #[.agg #[.slice A H.length cap], .int .i64 n] w (OfTo H n w) := by
  have HN := Lib.hid (ow_start w A H.length cap)
  have cC := fun W (hb : Below w.heap.size w W) => Check_h A H cap W (hH.up hb) (tab_up htab hb)
  have cT : ∀ W, Calls Tryz.prog 60 #[.agg #[.slice A H.length cap], .int .i64 n] W fun e w' => e = .returned (.int .i64 (thE H n)) ∧ Below W.heap.size W w' := fun W => there_h H A cap n W
  have hi1 : ∀ o : Ob, (Tryz.prog.info? 64).map (·.size) = some (obA o).size := fun _ => osz
  have hofe : ofE H n = orE (chkH H) (thE H n) := rfl
  have hthz := fun h => th_zero (H := H) (n := n) h
  have HH := Lib.hid hH
  clear hH
  generalize hx : chkH H = x at *
  generalize thE H n = y at *
  go_enter Tryz.func28, Tryz.ntmps28
  go_upto_region 1 with (fail)
  have hS : Ow w A H.length cap _ := HN.out.up (Below.refl _ _).drew
  refine wp_region_held_drew (S := Ow w A H.length cap) (by kernel_rfl) hS (fun hHeld => ?_)
  refine hH_take (i := 0) (v := .agg #[.slice A H.length cap]) (d := 8) (l2 := #[true, false, false, false, false, false, false, false]) rfl (by kernel_rfl) (by kernel_rfl) (by kernel_rfl) (fun _ _ _ h => h) (by kernel_rfl) (fun w hSw => ?_) (by assumption) rfl (by kernel_rfl) ?_
  · exact ex_load_at (h1_load hSw.h) rfl rfl
  simp only [List.set]
  refine hH_take (i := 2) (v := .agg #[.slice A H.length cap]) (d := 10) (l2 := #[true, false, true, false, false, false, false, false]) rfl (by kernel_rfl) (by kernel_rfl) (by kernel_rfl) (fun _ _ _ h => h) (by kernel_rfl) (fun w hSw => ?_) (by assumption) rfl (by kernel_rfl) ?_
  · exact ex_load_at (h1_load hSw.h) rfl rfl
  simp only [List.set]
  refine hH_take (i := 3) (v := .int .i64 n) (d := 11) (l2 := #[true, false, true, true, false, false, false, false]) rfl (by kernel_rfl) (by kernel_rfl) (by kernel_rfl) (fun _ _ _ h => h) (by kernel_rfl) (fun w hSw => ?_) (by assumption) rfl (by kernel_rfl) ?_
  · go_simp
  simp only [List.set]
  refine wpAnyH_ready (rs := [1]) (by kernel_rfl) (by simp) ?_
  refine AllReadyH.cons rfl (fun K hK => ?_) AllReadyH.nil
  go_simp
  go_at_call 19
  (with_reducible refine (cC _ hS.below).mono ?_)
  rintro e w1 ⟨rfl, h1⟩
  have hS := hS.up h1
  clear h1
  refine hK.out _ _ hS (fun hHeld => ?_)
  clear hK K
  refine wpAnyH_ready (rs := [4]) (by kernel_rfl) (by simp) ?_
  refine AllReadyH.cons rfl (fun K hK => ?_) AllReadyH.nil
  go_simp
  go_at_call 60
  (with_reducible refine (cT _).mono ?_)
  rintro e w1 ⟨rfl, h1⟩
  have hS := hS.up h1
  clear h1
  refine hK.out _ _ hS (fun hHeld => ?_)
  clear hK K
  refine wpAnyH_ready (rs := [5]) (by kernel_rfl) (by simp) ?_
  refine AllReadyH.cons rfl (fun K hK => ?_) AllReadyH.nil
  go_simp
  have hS := hS.up (vzero _ (.cells #[.int .i64 x, .int .i64 y] 25))
  have hO := orS_new w1 x y
  refine hK.out _ _ hS (fun hHeld => ?_)
  clear hK K
  refine wpAnyH_ready (rs := [6]) (by kernel_rfl) (by simp) ?_
  refine AllReadyH.cons rfl (fun K hK => ?_) AllReadyH.nil
  go_simp
  go_at_call 44
  (with_reducible refine (Or_2 _ x y _ hO.1 hO.2).mono ?_)
  rintro e w2 ⟨rfl, rfl⟩
  refine hK.out _ _ hS (fun hHeld => ?_)
  clear hK K
  refine hH_take (i := 7) (v := .int .i64 (orE x y)) (d := 6) (l2 := #[true, true, true, true, true, true, true, true]) rfl (by kernel_rfl) (by kernel_rfl) (by kernel_rfl) (fun _ _ _ h => h) (by kernel_rfl) (fun w hSw => ?_) (by assumption) rfl (by kernel_rfl) ?_
  · go_simp
  simp only [List.set]
  refine wpAnyH_done (by kernel_rfl) ?_ _
  clear hO
  have HN := Lib.hid hS
  clear hS hHeld
  generalize w1.alloc (.cells #[.int .i64 x, .int .i64 y] 25) = W0 at *
  have HE := Lib.hid hofe
  clear hofe
  by_cases h0 : orE x y = 0
  · obtain ⟨hx0, hy0⟩ := orE_zero h0
    have hin := hthz hy0
    obtain ⟨k, rfl⟩ := Int.eq_ofNat_of_zero_le hin.1
    have hkz : (k : Int) < (H.length : Int) := hin.2
    have hk0 : (0 : Int) ≤ (k : Int) := hin.1
    have hkl : k < H.length := by omega
    rw [h0] at HE ⊢
    have hkn : ((k : Int)).toNat = k := Int.toNat_natCast k
    have hpk := hp H[k] (List.getElem_mem hkl)
    obtain ⟨a, rfl, hab, hof, hP⟩ := HH.out.at hkl
    have hoc := of_back hof
    have HOQ := Lib.hid (show ∃ o, o = H[k] from ⟨_, rfl⟩)
    obtain ⟨q, hq⟩ : ∃ q, q = H[k] := ⟨_, rfl⟩
    rw [← hq] at hof hP hpk hoc
    have HQ := Lib.hid hq
    have cP := fun W (hb : Below w.heap.size w W) => copiedP_h q.pa q.props.length q.pc (prCells q.props) W (pr_r18 (pr_up hP hb)) (by omega)
    clear hq hin hthz hx0 hy0 h0 cT cC HOQ hp
    have hq0 : W0.cell? ⟨w.heap.size, 0, none⟩ = some (.slice (some a) H.length cap) := (vcells HN.out.h 0).trans rfl
    have hcl := fun W (hb : Below w.heap.size w W) j u hu => (hb.cell (p := (a.add (k * 18)).add j) (by rw [add_blk]; exact hab)).trans (hoc j u hu)
    have hc5 := hcl _ HN.out.below
    go_wp2_with (first
      | ((with_reducible refine oa_load ?_ rfl rfl hc5 ?_); (rfl))
      | ((with_reducible refine t_store rfl rfl rfl rfl (heap_alloc_new W0 _) (hi1 q) ?_ (obA_one q) (vzero W0 _) (Nat.le_refl _) ?_); (rfl); intro W1 hb1 hW1 _ _; have HN1 := Lib.hid (HN.out.up hb1); have q6 : W1.cell? ⟨W0.heap.size, 6, none⟩ = some (.slice q.pa q.props.length q.pc) := (vcells hW1 6).trans rfl; have HB1 := Lib.hid hb1; clear hb1)
      | (go_at_call 61; (with_reducible refine (cP _ HN1.out.below).mono ?_); rintro e W2 ⟨g, rfl, hg1, hg2, h9⟩; have HN2 := Lib.hid (HN1.out.up h9); have hB2 := HN2.out.below; have hw7 := vblkn h9 hW1; have hlt7 := lt_blk hW1; have hle0 := HN.out.below.size; have HG2 := Lib.hid hg2; clear h9)
      | ((with_reducible refine sl_store rfl rfl rfl rfl hw7 (by rw [obA_size]; omega) hB2 hle0 ?_); intro W3 hb3 hW3 hO3 _; have hW3b := (obA_at q g) ▸ hW3; have hr3 := (hO3 _ (by have := lt_blk HN.out.r; omega)).trans HN2.out.r; have hg3 := (hO3 g (by omega)).trans HG2.out)
      | ((with_reducible refine ob_load ?_ rfl rfl hW3b ?_); (rfl))
      | ((with_reducible refine t_store rfl rfl rfl rfl hr3 (hi1 _) ?_ (obA_one (q.at g)) hb3 (by omega) ?_); (rfl); intro W6 hb6 hW6 hO6 _))
    refine of_end Tryz.results28 rfl rfl hW6 ⟨hb6, .inr ⟨HE.out, by rw [hkn]; exact hkl, g, ?_, ?_⟩⟩
    · simp only [hkn, ← HQ.out]
    · simp only [hkn, ← HQ.out]
      exact (hO6 g (by have := lt_blk HN.out.r; omega)).trans hg3
  · have hzb : (orE x y != 0) = true := by unfold bne; rw [beq_eq_false_iff_ne.2 h0]; rfl
    have HZ := Lib.hid h0
    have hr := HN.out.r
    have hB := HN.out.below
    clear h0 cT cC
    generalize orE x y = E at *
    have hoz : Value.agg (obA oZ) = Value.agg (obA oZ) := rfl
    go_wp2_with ((with_reducible refine t_store rfl rfl rfl rfl hr (hi1 oZ) ?_ (obA_one oZ) hB (by omega) ?_); (rfl); intro W6 hb6 hW6 hO6 _)
    exact of_end Tryz.results28 rfl rfl hW6 ⟨hb6, .inl ⟨by rw [HE.out]; exact HZ.out, by rw [HE.out]⟩⟩
end Go.Proofs.YtkcikdggfbjedaaGreatDoor.S
/-
  HeapKeeps: heaps that lie somewhere, held against one another.
-/
namespace Go.Proofs.YtkcikdggfbjedaaGreatDoor.S
open Go.RowKit Go.Lib Fl
open Classical

/-- a heap lies there -/
structure HL (w : World) (A : Option Addr) (M : List Ob) : Prop where
  row : ORow w A M
  pr : ∀ o ∈ M, PR w o.pa o.props
  few : ∀ o ∈ M, o.props.length ≤ 100000
theorem HL.up {w W : World} {A : Option Addr} {M : List Ob} (h : HL w A M) (hb : Below w.heap.size w W) : HL W A M := ⟨h.row.up hb, fun o ho => pr_up (h.pr o ho) hb, h.few⟩
theorem hl_in {w : World} {A : Option Addr} {H : List Ob} {cap : Nat} (h : HIn w A H cap) (hp : ∀ o ∈ H, o.props.length ≤ 100000) : HL w A H :=
  ⟨orow_h h.row, fun o ho => by obtain ⟨i, hi, rfl⟩ := List.getElem_of_mem ho; exact (h.at hi).choose_spec.2.2.2, hp⟩
theorem HL.take {w : World} {A : Option Addr} {M : List Ob} (h : HL w A M) (n : Nat) : HL w A (M.take n) := by
  refine ⟨fun hp => ?_, fun o ho => h.pr o (List.mem_of_mem_take ho), fun o ho => h.few o (List.mem_of_mem_take ho)⟩
  rw [List.length_take] at hp
  obtain ⟨a, h1, h2, h3⟩ := h.row (by omega)
  refine ⟨a, h1, h2, fun i hi j u hu => ?_⟩
  rw [List.length_take] at hi
  rw [List.getElem_take] at hu
  exact h3 i (by omega) j u hu
theorem HL.drop {w : World} {B : Nat} {M : List Ob} (h : HL w (some ⟨B, 0, none⟩) M) (n : Nat) : HL w (some ⟨B, n * 18, none⟩) (M.drop n) := by
  refine ⟨fun hp => ?_, fun o ho => h.pr o (List.mem_of_mem_drop ho), fun o ho => h.few o (List.mem_of_mem_drop ho)⟩
  rw [List.length_drop] at hp
  obtain ⟨a, h1, h2, h3⟩ := h.row (by omega)
  obtain rfl := Option.some.inj h1
  refine ⟨_, rfl, h2, fun i hi j u hu => ?_⟩
  rw [List.length_drop] at hi
  rw [List.getElem_drop] at hu
  have := h3 (n + i) (by omega) j u hu
  have e : ((⟨B, 0, none⟩ : Addr).add ((n + i) * 18)).add j = ((⟨B, n * 18, none⟩ : Addr).add (i * 18)).add j := by
    rw [add_add, add_add, Addr.add_mid, Addr.add_mid]
    congr 1
    omega
  rw [← e]
  exact this
theorem bare_eq {X Y : Ob} (h : X.bare = Y.bare) : ({ X with pa := Y.pa, pc := Y.pc } : Ob) = Y := by
  cases X; cases Y
  simp only [Ob.bare, Ob.mk.injEq] at h ⊢
  exact ⟨h.1, h.2.1, h.2.2.1, trivial, trivial, h.2.2.2.2.2.1, h.2.2.2.2.2.2⟩
theorem bare_props {X Y : Ob} (h : X.bare = Y.bare) : X.props = Y.props := by
  have := congrArg Ob.props h
  exact this
theorem bare_at {M H : List Ob} (h : M.map Ob.bare = H.map Ob.bare) (i : Nat) (h1 : i < M.length) (h2 : i < H.length) : M[i].bare = H[i].bare := by
  have := congrArg (fun l => l[i]?) h
  simp only [getB, List.getElem?_eq_getElem h1, List.getElem?_eq_getElem h2, Option.map_some] at this
  exact Option.some.inj this
/-- heaps that differ in where their properties lie alone are the same -/
theorem same_hl {M H : List Ob} (n : Nat) (A B : Option Addr) (ca cb : Nat) (w : World) (hM : HL w A M) (hH : HL w B H) (hb : M.map Ob.bare = H.map Ob.bare) (hl : M.length = n) (hn : n ≤ 1000000) :
    Calls Tryz.prog 20 #[.agg #[.slice A n ca], .agg #[.slice B n cb]] w fun e w' => e = .returned (.bool true) ∧ Below w.heap.size w w' := by
  have hl2 : H.length = n := by have := congrArg List.length hb; rw [List.length_map, List.length_map] at this; omega
  refine Same_h true M H n A B ca cb w hl hl2 hM.row hH.row hn fun i h1 h2 W hW => ?_
  have e := bare_at hb i h1 h2
  have := sameobj_like M[i] H[i].pa H[i].pc W (pr_up (hM.pr _ (List.getElem_mem h1)) hW) (by rw [bare_props e]; exact pr_up (hH.pr _ (List.getElem_mem h2)) hW) (by have := hM.few _ (List.getElem_mem h1); omega)
  rw [bare_eq e] at this
  exact this
section
variable {ops : Array Oper} {rest : List Oper} {o : Oper} {a : Act} {w : World} {Q : Exit → Act → World → Prop} {x y : Operand}
end
end Go.Proofs.YtkcikdggfbjedaaGreatDoor.S
