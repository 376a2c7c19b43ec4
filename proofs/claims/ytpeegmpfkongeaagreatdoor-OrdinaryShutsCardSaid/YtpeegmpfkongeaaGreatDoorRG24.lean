/-
  The law's own: large.
-/
import Derived.Test.YtpeegmpfkongeaaGreatDoorRG23
import Derived.Test.YtpeegmpfkongeaaGreatDoorRG21
import Derived.Test.YtpeegmpfkongeaaGreatDoorRG22
import Derived.Test.YtpeegmpfkongeaaGreatDoorRG14
import Derived.Test.YtpeegmpfkongeaaGreatDoorRG20
namespace Go.Proofs.YtpeegmpfkongeaaGreatDoor.S
open Go.RowKit Go.Lib Fl
open Classical

def largeB (H : List Ob) : Bool := H.any fun o => decide (100 < o.props.length)
/-- large's own block -/
structure Lg (w : World) (A : Option Addr) (n cap : Nat) (W : World) : Prop where
  below : Below w.heap.size w W
  h : W.heap[w.heap.size]? = some (.cells #[.slice A n cap] 24 (0, 0))
end Go.Proofs.YtpeegmpfkongeaaGreatDoor.S
/-
  The law's own: spoil writes over a twin, and over nothing else.
-/
namespace Go.Proofs.YtpeegmpfkongeaaGreatDoor.S
open Go.RowKit Go.Lib Fl
open Classical

section
variable {ops : Array Oper} {rest : List Oper} {o : Oper} {a : Act} {w : World} {Q : Exit → Act → World → Prop} {x y : Operand} {g : Nat} {t ty : TypeId}
end
def pz : Pq := ⟨⟨⟨#[]⟩, 0⟩, dz 0⟩
def o77 : Ob := ⟨77, v0, false, none, 0, [], v0, v0, ⟨#[]⟩, false, false⟩
section
variable {o : Oper} {a : Act} {w : World}
end
/-- how far spoil has come -/
structure Sp (w : World) (n1 B n : Nat) (M : List Ob) (i : Nat) (W : World) : Prop where
  m : ∃ Mi : List Ob, Mi.length = n ∧ (∀ j (h : j < Mi.length) (h' : j < M.length), i ≤ j → Mi[j] = M[j]) ∧ (∀ j (h : j < Mi.length), j < i → Mi[j].kind = 77) ∧ W.heap[B]? = some (.cells (hcl Mi).toArray 34 (0, 0))
  p : ∀ j (h : j < M.length), ∃ (g : Nat) (cur : List Value), M[j].pa = some ⟨g, 0, none⟩ ∧ B < g ∧ g < n1 ∧ M[j].pc = M[j].props.length ∧ W.heap[g]? = some (.cells cur.toArray 90 (0, 0)) ∧ cur.length = M[j].props.length * 18
  box : W.heap[w.heap.size]? = some (.cells #[.slice (some ⟨B, 0, none⟩) n n] 24 (0, 0))
  below : Below B w W
  keep : ∀ j, n1 ≤ j → j < w.heap.size → W.heap[j]? = w.heap[j]?
  lt : B < n1 ∧ n1 ≤ w.heap.size
  len : M.length = n
theorem Sp.put {w W W' : World} {n1 B n i g : Nat} {M : List Ob} {cur cur' : List Value} (h : Sp w n1 B n M i W) (hg : B < g) (hg1 : g < n1) (hb : ∀ B w0, Below B w0 W → B ≤ g → Below B w0 W') (hc : W.heap[g]? = some (.cells cur.toArray 90 (0, 0))) (hc' : W'.heap[g]? = some (.cells cur'.toArray 90 (0, 0))) (hl : cur'.length = cur.length) (hO : ∀ j, j ≠ g → W'.heap[j]? = W.heap[j]?) : Sp w n1 B n M i W' := by
  have hlt := h.lt
  obtain ⟨Mi, m1, m2, m3, m4⟩ := h.m
  refine ⟨⟨Mi, m1, m2, m3, (hO _ (by omega)).trans m4⟩, fun j hj => ?_, (hO _ (by omega)).trans h.box, hb _ _ h.below (by omega), fun j h1 h2 => (hO j (by omega)).trans (h.keep j h1 h2), hlt, h.len⟩
  obtain ⟨g2, c2, p1, p2, p3, p4, p5, p6⟩ := h.p j hj
  by_cases c : g2 = g
  · subst c
    rw [hc] at p5
    have e : cur.toArray = c2.toArray := by simpa using p5
    have e2 : cur = c2 := by simpa using e
    exact ⟨g2, cur', p1, p2, p3, p4, hc', by rw [hl, e2]; exact p6⟩
  · exact ⟨g2, c2, p1, p2, p3, p4, (hO _ c).trans p5, p6⟩
theorem Sp.next {w W W' : World} {n1 B n i : Nat} {M Mi : List Ob} (h : Sp w n1 B n M i W) (hi : i < n) (m1 : Mi.length = n) (m2 : ∀ j (h : j < Mi.length) (h' : j < M.length), i ≤ j → Mi[j] = M[j]) (m3 : ∀ j (h : j < Mi.length), j < i → Mi[j].kind = 77)
    (hb : ∀ B' w0, Below B' w0 W → B' ≤ B → Below B' w0 W') (hc' : W'.heap[B]? = some (.cells ((hcl Mi).take (i * 18) ++ ocl o77 ++ (hcl Mi).drop (i * 18 + 18)).toArray 34 (0, 0))) (hO : ∀ j, j ≠ B → W'.heap[j]? = W.heap[j]?) : Sp w n1 B n M (i + 1) W' := by
  have hlt := h.lt
  rw [hcl_put Mi i o77 (by omega)] at hc'
  refine ⟨⟨Mi.set i o77, by rw [List.length_set]; exact m1, fun j hj h' hij => ?_, fun j hj hji => ?_, hc'⟩, fun j hj => ?_, (hO _ (by omega)).trans h.box, hb _ _ h.below (Nat.le_refl _), fun j h1 h2 => (hO j (by omega)).trans (h.keep j h1 h2), hlt, h.len⟩
  · rw [List.length_set] at hj
    rw [List.getElem_set_ne (by omega)]
    exact m2 j hj h' (by omega)
  · rw [List.length_set] at hj
    by_cases c : j = i
    · subst c; rw [List.getElem_set_self]; rfl
    · rw [List.getElem_set_ne (by omega)]; exact m3 j hj (by omega)
  · obtain ⟨g2, c2, p1, p2, p3, p4, p5, p6⟩ := h.p j hj
    exact ⟨g2, c2, p1, p2, p3, p4, (hO _ (by omega)).trans p5, p6⟩
end Go.Proofs.YtpeegmpfkongeaaGreatDoor.S
/-
  The law's own: spoil, the walk.
-/
namespace Go.Proofs.YtpeegmpfkongeaaGreatDoor.S
open Go.RowKit Go.Lib Fl
open Classical

theorem Sp.cell {w W : World} {n1 B n i g N : Nat} {M : List Ob} (h : Sp w n1 B n M i W) (hi : i < M.length) (hg : M[i].pa = some ⟨g, 0, none⟩) (hc : M[i].pc = M[i].props.length) (hN : M[i].props.length = N) : W.cell? ⟨B, i * 18 + 6, none⟩ = some (.slice (some ⟨g, 0, none⟩) N N) := by
  obtain ⟨Mi, m1, m2, _, m4⟩ := h.m
  have hl := h.len
  have := hcl_at Mi i (by omega) 6 (by decide)
  rw [vcells m4 (i * 18 + 6), List.getElem?_toArray, this, m2 i (by omega) hi (Nat.le_refl _)]
  show some (Value.slice M[i].pa M[i].props.length M[i].pc) = _
  rw [hg, hc, hN]
end Go.Proofs.YtpeegmpfkongeaaGreatDoor.S
/-
  HeapApart: what the law is handed, and what stands ahead of its last statement.
-/
namespace Go.Proofs.YtpeegmpfkongeaaGreatDoor.S
open Go.RowKit Go.Lib Fl
open Classical

/-- a heap that comes in, however many objects it has -/
structure HIn0 (w : World) (A : Option Addr) (H : List Ob) (cap : Nat) : Prop where
  inn : ∀ o ∈ H, o.In
  row : HRow w A H
  room : H.length ≤ cap
  cap63 : cap < 9223372036854775808
  nil : A = none → cap = 0
theorem small_p {H : List Ob} (h : largeB H = false) : ∀ o ∈ H, o.props.length ≤ 100000 := fun o ho => by
  unfold largeB at h
  rw [List.any_eq_false] at h
  have := h o ho
  simp at this
  omega
theorem HIn0.few {w : World} {A : Option Addr} {H : List Ob} {cap : Nat} (h : HIn0 w A H cap) (hf : H.length ≤ 5000) (hs : largeB H = false) : HIn w A H cap := ⟨h.inn, h.row, hf, fun o ho => by have := small_p hs o ho; omega, h.room, h.cap63, h.nil⟩
theorem Tw.keep {n0 B : Nat} {H M : List Ob} {W W' : World} (h : Tw n0 B H M W) (hO : ∀ j, B ≤ j → j < W.heap.size → W'.heap[j]? = W.heap[j]?) : Tw n0 B H M W' :=
  ⟨h.len, fun j h1 h2 => by obtain ⟨g, g1, g2, g3⟩ := (h.all j h1 h2).out; exact ⟨g, g1, g2, (hO g (by omega) (lt_blk g3)).trans g3⟩, (hO B (Nat.le_refl _) (lt_blk h.b)).trans h.b, h.le⟩
/-- ahead of the last statement: the heap, the twin that was written over, the other twin -/
structure Ap (w : World) (A : Option Addr) (H : List Ob) (cap n gt gu B1 B2 : Nat) (M2 : List Ob) (W : World) : Prop where
  below : Below w.heap.size w W
  h : W.heap[w.heap.size]? = some (.cells #[.slice A n cap] 24 (0, 0))
  t : W.heap[gt]? = some (.cells #[.slice (some ⟨B1, 0, none⟩) n n] 24 (0, 0))
  u : W.heap[gu]? = some (.cells #[.slice (some ⟨B2, 0, none⟩) n n] 24 (0, 0))
  m : ∃ M1 : List Ob, M1.length = n ∧ (∀ i (h : i < M1.length), M1[i].kind = 77) ∧ W.heap[B1]? = some (.cells (hcl M1).toArray 34 (0, 0))
  tw : Tw 0 B2 H M2 W
theorem Ap.up {w : World} {A : Option Addr} {H : List Ob} {cap n gt gu B1 B2 : Nat} {M2 : List Ob} {W W' : World} (h : Ap w A H cap n gt gu B1 B2 M2 W) (hb : Below W.heap.size W W') : Ap w A H cap n gt gu B1 B2 M2 W' :=
  ⟨vb h.below hb, vblkn hb h.h, vblkn hb h.t, vblkn hb h.u, h.m.imp fun _ g => ⟨g.1, g.2.1, vblkn hb g.2.2⟩, h.tw.up hb⟩
end Go.Proofs.YtpeegmpfkongeaaGreatDoor.S
/-
  HeapApart: the walk.
-/
namespace Go.Proofs.YtpeegmpfkongeaaGreatDoor.S
open Go.RowKit Go.Lib Fl
open Classical

theorem h1_load {W : World} {v : Value} {g : Nat} (h : W.heap[g]? = some (.cells #[v] 24 (0, 0))) : (Instr.loadAt 24 (.pointer (some ⟨g, 0, none⟩))).run Tryz.prog W = .ok (.agg #[v]) W :=
  run_loadAt_at (A := ⟨g, 0, none⟩) (cs := [v]) (fun j u hu => by
    rw [Addr.add_mid, Nat.zero_add, vcells h j]
    simpa using hu) Tryz.underlying24 rfl hsz
/-- ahead of the twins -/
structure Aq (w : World) (A : Option Addr) (n cap : Nat) (W : World) : Prop where
  below : Below w.heap.size w W
  h : W.heap[w.heap.size]? = some (.cells #[.slice A n cap] 24 (0, 0))
theorem Aq.up {w : World} {A : Option Addr} {n cap : Nat} {W W' : World} (h : Aq w A n cap W) (hb : Below W.heap.size W W') : Aq w A n cap W' := ⟨vb h.below hb, vblkn hb h.h⟩
theorem Aq.q {w : World} {A : Option Addr} {n cap : Nat} {W : World} (h : Aq w A n cap W) : W.cell? ⟨w.heap.size, 0, none⟩ = some (.slice A n cap) := (vcells h.h 0).trans rfl
end Go.Proofs.YtpeegmpfkongeaaGreatDoor.S
/-
  HeapMore: from more objects one comes to all that one comes to from fewer.
-/
namespace Go.Proofs.YtpeegmpfkongeaaGreatDoor.S
open Go.RowKit Go.Lib Fl
open Classical

def E0 (k : Int) (w : World) (e : Ending) (w' : World) : Prop := e = .returned (.tuple #[.slice none 0 0, .int .i64 k]) ∧ Below w.heap.size w w'
def R0 (L : List Nat) (w : World) (e : Ending) (w' : World) : Prop := ∃ g cap, e = .returned (.tuple #[.slice (some ⟨g, 0, none⟩) L.length cap, .int .i64 0]) ∧ (w'.ownsRow w.heap.size 3 1 (.slice (some ⟨g, 0, none⟩) L.length cap) L.length (wkv L) ∧ Below w.heap.size w w')
/-- the loops' world -/
structure Mo (w : World) (g1 g2 gp : Nat) (L M : List Nat) (p : Vq) (W : World) : Prop where
  below : Below w.heap.size w W
  l : ∀ i (h : i < L.length), W.cell? ⟨g1, i, none⟩ = some (.int .i64 (L[i] : Int))
  m : ∀ i (h : i < M.length), W.cell? ⟨g2, i, none⟩ = some (.int .i64 (M[i] : Int))
  p : W.heap[gp]? = some (.cells #[.int .u8 p.k, .float .f64 p.x, .string p.s, .int .i64 p.r] 31 (0, 0))
theorem Mo.drew {w : World} {g1 g2 gp : Nat} {L M : List Nat} {p : Vq} {W : World} (h : Mo w g1 g2 gp L M p W) : Mo w g1 g2 gp L M p W.drew := ⟨h.below.trans ((Below.refl _ _).drew), h.l, h.m, h.p⟩
theorem Mo.c {w : World} {g1 g2 gp : Nat} {L M : List Nat} {p : Vq} {W : World} (h : Mo w g1 g2 gp L M p W) : W.cell? ⟨gp, 3, none⟩ = some (.int .i64 p.r) := (vcells h.p 3).trans rfl
def anyR (L : List Nat) (i : Nat) (r : Int) : Bool := (L.take i).any fun x => ((x : Int) == r)
end Go.Proofs.YtpeegmpfkongeaaGreatDoor.S
/-
  HeapKeeps' reaches: from what one comes to one comes to nothing else.
-/
namespace Go.Proofs.YtpeegmpfkongeaaGreatDoor.S
open Go.RowKit Go.Lib Fl
open Classical

/-- the loop's world -/
structure Mq (w : World) (g1 g2 : Nat) (L : List Nat) (W : World) : Prop where
  below : Below w.heap.size w W
  l : ∀ i (h : i < L.length), W.cell? ⟨g1, i, none⟩ = some (.int .i64 (L[i] : Int))
  m : ∀ i (h : i < L.length), W.cell? ⟨g2, i, none⟩ = some (.int .i64 (L[i] : Int))
theorem Mq.drew {w : World} {g1 g2 : Nat} {L : List Nat} {W : World} (h : Mq w g1 g2 L W) : Mq w g1 g2 L W.drew := ⟨h.below.trans ((Below.refl _ _).drew), h.l, h.m⟩
end Go.Proofs.YtpeegmpfkongeaaGreatDoor.S
/-
  heap.Put.
-/
namespace Go.Proofs.YtpeegmpfkongeaaGreatDoor.S
open Go.RowKit Go.Lib Fl
open Classical

def thE (H : List Ob) (n : Int) : Int := if n < 0 ∨ (H.length : Int) ≤ n then 2 else 0
/-- Put's error -/
noncomputable def hpE (H : List Ob) (n : Int) (o : Ob) : Int := if orE (chkH H) (thE H n) = 0 then chkH (hput H n.toNat o) else orE (chkH H) (thE H n)
def HputTo (H : List Ob) (n : Int) (o : Ob) (w : World) (e : Ending) (w' : World) : Prop := Below w.heap.size w w' ∧ ((hpE H n o ≠ 0 ∧ e = .returned (.tuple #[.agg #[.slice none 0 0], .int .i64 (hpE H n o)])) ∨
  (hpE H n o = 0 ∧ ∃ B M, e = .returned (.tuple #[.agg #[.slice (some ⟨B, 0, none⟩) H.length H.length], .int .i64 0]) ∧ Tw w.heap.size B (hput H n.toNat o) M w'))
section
variable {ops : Array Oper} {rest : List Oper} {o : Oper} {a : Act} {w : World} {Q : Exit → Act → World → Prop} {x : Operand} {g : Nat}
theorem h1_ld {v : Value} (hw : Region.wanted o (yielded ops a.tmps) = true) (ho : o.op = .load 24 x) (hx : a.eval x = .pointer (some ⟨g, 0, none⟩)) (hg : w.heap[g]? = some (.cells #[v] 24 (0, 0)))
    (h : wpList Tryz.prog ops Q rest (a.put o.dst (.agg #[v])) w) : wpList Tryz.prog ops Q (o :: rest) a w :=
  wpList_wanted hw fun _ hK => wp_load_row 24 x ho g hx 24 _ (0, 0) _ hg Tryz.underlying24 rfl hsz (hK _ _ h)
end
end Go.Proofs.YtpeegmpfkongeaaGreatDoor.S
/-
  heap.Of.
-/
namespace Go.Proofs.YtpeegmpfkongeaaGreatDoor.S
open Go.RowKit Go.Lib Fl
open Classical

/-- no object -/
def oZ : Ob := ⟨0, v0, false, none, 0, [], v0, v0, ⟨#[]⟩, false, false⟩
abbrev ozA : Array Value := #[.int .u8 0, .int .u8 0, .float .f64 0, .string ⟨#[]⟩, .int .i64 0, .bool false, .slice none 0 0, .int .u8 0, .float .f64 0, .string ⟨#[]⟩, .int .i64 0, .int .u8 0, .float .f64 0, .string ⟨#[]⟩, .int .i64 0, .string ⟨#[]⟩, .bool false, .bool false]
/-- Of's own blocks -/
structure Ow (w : World) (A : Option Addr) (n cap : Nat) (W : World) : Prop where
  below : Below w.heap.size w W
  h : W.heap[w.heap.size]? = some (.cells #[.slice A n cap] 24 (0, 0))
  r : W.heap[w.heap.size + 1]? = some (.cells ozA 34 (0, 0))
theorem Ow.up {w : World} {A : Option Addr} {n cap : Nat} {W W' : World} (h : Ow w A n cap W) (hb : Below W.heap.size W W') : Ow w A n cap W' := ⟨vb h.below hb, vblkn hb h.h, vblkn hb h.r⟩
noncomputable def ofE (H : List Ob) (n : Int) : Int := orE (chkH H) (thE H n)
/-- an object with its properties in block g -/
def Ob.at (o : Ob) (g : Nat) : Ob := { o with pa := some ⟨g, 0, none⟩, pc := o.props.length }
def OfTo (H : List Ob) (n : Int) (w : World) (e : Ending) (w' : World) : Prop := Below w.heap.size w w' ∧ ((ofE H n ≠ 0 ∧ e = .returned (.tuple #[.agg (obA oZ), .int .i64 (ofE H n)])) ∨
  (ofE H n = 0 ∧ ∃ (h : n.toNat < H.length) (g : Nat), e = .returned (.tuple #[.agg (obA (H[n.toNat].at g)), .int .i64 0]) ∧ w'.heap[g]? = some (.cells (prCells H[n.toNat].props).toArray 90 (0, 0))))
section
variable {ops : Array Oper} {rest : List Oper} {o : Oper} {a : Act} {w : World} {Q : Exit → Act → World → Prop} {x y : Operand} {t : TypeId}
end
end Go.Proofs.YtpeegmpfkongeaaGreatDoor.S
/-
  HeapKeeps: heaps that lie somewhere, held against one another.
-/
namespace Go.Proofs.YtpeegmpfkongeaaGreatDoor.S
open Go.RowKit Go.Lib Fl
open Classical

/-- a heap lies there -/
structure HL (w : World) (A : Option Addr) (M : List Ob) : Prop where
  row : ORow w A M
  pr : ∀ o ∈ M, PR w o.pa o.props
  few : ∀ o ∈ M, o.props.length ≤ 100000
theorem HL.up {w W : World} {A : Option Addr} {M : List Ob} (h : HL w A M) (hb : Below w.heap.size w W) : HL W A M := ⟨h.row.up hb, fun o ho => pr_up (h.pr o ho) hb, h.few⟩
theorem hl_in {w : World} {A : Option Addr} {H : List Ob} {cap : Nat} (h : HIn w A H cap) (hp : ∀ o ∈ H, o.props.length ≤ 100000) : HL w A H :=
  ⟨orow_h h.row, fun o ho => by obtain ⟨i, hi, rfl⟩ := List.getElem_of_mem ho; exact (h.at hi).choose_spec.2.2.2, hp⟩
theorem HL.take {w : World} {A : Option Addr} {M : List Ob} (h : HL w A M) (n : Nat) : HL w A (M.take n) := by
  refine ⟨fun hp => ?_, fun o ho => h.pr o (List.mem_of_mem_take ho), fun o ho => h.few o (List.mem_of_mem_take ho)⟩
  rw [List.length_take] at hp
  obtain ⟨a, h1, h2, h3⟩ := h.row (by omega)
  refine ⟨a, h1, h2, fun i hi j u hu => ?_⟩
  rw [List.length_take] at hi
  rw [List.getElem_take] at hu
  exact h3 i (by omega) j u hu
theorem HL.drop {w : World} {B : Nat} {M : List Ob} (h : HL w (some ⟨B, 0, none⟩) M) (n : Nat) : HL w (some ⟨B, n * 18, none⟩) (M.drop n) := by
  refine ⟨fun hp => ?_, fun o ho => h.pr o (List.mem_of_mem_drop ho), fun o ho => h.few o (List.mem_of_mem_drop ho)⟩
  rw [List.length_drop] at hp
  obtain ⟨a, h1, h2, h3⟩ := h.row (by omega)
  obtain rfl := Option.some.inj h1
  refine ⟨_, rfl, h2, fun i hi j u hu => ?_⟩
  rw [List.length_drop] at hi
  rw [List.getElem_drop] at hu
  have := h3 (n + i) (by omega) j u hu
  have e : ((⟨B, 0, none⟩ : Addr).add ((n + i) * 18)).add j = ((⟨B, n * 18, none⟩ : Addr).add (i * 18)).add j := by
    rw [add_add, add_add, Addr.add_mid, Addr.add_mid]
    congr 1
    omega
  rw [← e]
  exact this
theorem bare_eq {X Y : Ob} (h : X.bare = Y.bare) : ({ X with pa := Y.pa, pc := Y.pc } : Ob) = Y := by
  cases X; cases Y
  simp only [Ob.bare, Ob.mk.injEq] at h ⊢
  exact ⟨h.1, h.2.1, h.2.2.1, trivial, trivial, h.2.2.2.2.2.1, h.2.2.2.2.2.2⟩
theorem bare_props {X Y : Ob} (h : X.bare = Y.bare) : X.props = Y.props := by
  have := congrArg Ob.props h
  exact this
theorem bare_at {M H : List Ob} (h : M.map Ob.bare = H.map Ob.bare) (i : Nat) (h1 : i < M.length) (h2 : i < H.length) : M[i].bare = H[i].bare := by
  have := congrArg (fun l => l[i]?) h
  simp only [getB, List.getElem?_eq_getElem h1, List.getElem?_eq_getElem h2, Option.map_some] at this
  exact Option.some.inj this
/-- heaps that differ in where their properties lie alone are the same -/
theorem same_hl {M H : List Ob} (n : Nat) (A B : Option Addr) (ca cb : Nat) (w : World) (hM : HL w A M) (hH : HL w B H) (hb : M.map Ob.bare = H.map Ob.bare) (hl : M.length = n) (hn : n ≤ 1000000) :
    Calls Tryz.prog 36 #[.agg #[.slice A n ca], .agg #[.slice B n cb]] w fun e w' => e = .returned (.bool true) ∧ Below w.heap.size w w' := by
  have hl2 : H.length = n := by have := congrArg List.length hb; rw [List.length_map, List.length_map] at this; omega
  refine Same_h true M H n A B ca cb w hl hl2 hM.row hH.row hn fun i h1 h2 W hW => ?_
  have e := bare_at hb i h1 h2
  have := sameobj_like M[i] H[i].pa H[i].pc W (pr_up (hM.pr _ (List.getElem_mem h1)) hW) (by rw [bare_props e]; exact pr_up (hH.pr _ (List.getElem_mem h2)) hW) (by have := hM.few _ (List.getElem_mem h1); omega)
  rw [bare_eq e] at this
  exact this
section
variable {ops : Array Oper} {rest : List Oper} {o : Oper} {a : Act} {w : World} {Q : Exit → Act → World → Prop} {x y : Operand}
end
end Go.Proofs.YtpeegmpfkongeaaGreatDoor.S
/-
  ordinary: kind, plain, eight, there.
-/
namespace Go.Proofs.YtpeegmpfkongeaaGreatDoor.S
open Go.RowKit Go.Lib Fl
open Classical

def kindP (o : Ob) : Int := bif o.makes then 8 else bif o.calls then 7 else 6
theorem kind_o (o : Ob) (w : World) : Calls Tryz.prog 146 #[.agg (obA o)] w fun e w' => e = .returned (.int .u8 (kindP o)) ∧ Below w.heap.size w w' := by
  have hb := heap_alloc_new w (.cells (obA o) 34)
  have h1 : (w.alloc (.cells (obA o) 34)).cell? ⟨w.heap.size, 17, none⟩ = some (.bool o.makes) := (vcells hb 17).trans rfl
  have h2 : (w.alloc (.cells (obA o) 34)).cell? ⟨w.heap.size, 16, none⟩ = some (.bool o.calls) := (vcells hb 16).trans rfl
  have hB := vzero w (.cells (obA o) 34)
  unfold kindP
  cases e1 : o.makes <;> cases e2 : o.calls
  all_goals
    rw [e1] at h1
    rw [e2] at h2
    go_enter Tryz.func146, Tryz.ntmps146
    go_wp2
    go_ret
    exact ⟨rfl, hB⟩
def plainK (k : Int) : Bool := k == 1 || (k == 4 || k == 5)
theorem plain_o (o : Ob) (w : World) : Calls Tryz.prog 83 #[.agg (obA o)] w fun e w' => e = .returned (.bool (plainK o.kind)) ∧ Below w.heap.size w w' := by
  have hb := heap_alloc_new w (.cells (obA o) 34)
  have h1 : (w.alloc (.cells (obA o) 34)).cell? ⟨w.heap.size, 0, none⟩ = some (.int .u8 o.kind) := (vcells hb 0).trans rfl
  have hB := vzero w (.cells (obA o) 34)
  unfold plainK
  cases e1 : (o.kind == 1) <;> cases e2 : (o.kind == 4) <;> cases e3 : (o.kind == 5)
  all_goals
    go_enter Tryz.func83, Tryz.ntmps83
    go_wp2
    go_ret
    exact ⟨rfl, hB⟩
def eightM (m : Int) : Bool := m == 1 || (m == 2 || (m == 3 || (m == 4 || (m == 5 || (m == 6 || (m == 10 || m == 11))))))
theorem eight_o (m : Int) (w : World) : Calls Tryz.prog 82 #[.int .u8 m] w fun e w' => e = .returned (.bool (eightM m)) ∧ w' = w := by
  unfold eightM
  cases e1 : (m == 1)
  · cases e2 : (m == 2)
    · cases e3 : (m == 3)
      · cases e4 : (m == 4)
        · cases e5 : (m == 5)
          · cases e6 : (m == 6)
            · cases e7 : (m == 10)
              · cases e8 : (m == 11)
                all_goals
                  go_enter Tryz.func82, Tryz.ntmps82
                  go_wp2
                  go_ret
                  exact ⟨rfl, rfl⟩
              · go_enter Tryz.func82, Tryz.ntmps82
                go_wp2
                go_ret
                exact ⟨rfl, rfl⟩
            · go_enter Tryz.func82, Tryz.ntmps82
              go_wp2
              go_ret
              exact ⟨rfl, rfl⟩
          · go_enter Tryz.func82, Tryz.ntmps82
            go_wp2
            go_ret
            exact ⟨rfl, rfl⟩
        · go_enter Tryz.func82, Tryz.ntmps82
          go_wp2
          go_ret
          exact ⟨rfl, rfl⟩
      · go_enter Tryz.func82, Tryz.ntmps82
        go_wp2
        go_ret
        exact ⟨rfl, rfl⟩
    · go_enter Tryz.func82, Tryz.ntmps82
      go_wp2
      go_ret
      exact ⟨rfl, rfl⟩
  · go_enter Tryz.func82, Tryz.ntmps82
    go_wp2
    go_ret
    exact ⟨rfl, rfl⟩
noncomputable def inB (H : List Ob) (n : Int) : Bool := decide (0 ≤ n ∧ n < (H.length : Int))
theorem there_o (H : List Ob) (A : Option Addr) (cap : Nat) (n : Int) (w : World) : Calls Tryz.prog 55 #[.agg #[.slice A H.length cap], .int .i64 n] w fun e w' => e = .returned (.bool (inB H n)) ∧ Below w.heap.size w w' := by
  have hb := heap_alloc_new w (.cells #[.slice A H.length cap] 24)
  have q0 : (w.alloc (.cells #[.slice A H.length cap] 24)).cell? ⟨w.heap.size, 0, none⟩ = some (.slice A H.length cap) := (vcells hb 0).trans rfl
  have hB := vzero w (.cells #[.slice A H.length cap] 24)
  unfold inB
  by_cases c : 0 ≤ n
  · by_cases d : n < (H.length : Int)
    · rw [decide_eq_true ⟨c, d⟩]
      go_enter Tryz.func55, Tryz.ntmps55
      go_wp2
      go_ret
      exact ⟨rfl, hB⟩
    · rw [decide_eq_false (fun h => d h.2)]
      go_enter Tryz.func55, Tryz.ntmps55
      go_wp2
      go_ret
      exact ⟨rfl, hB⟩
  · rw [decide_eq_false (fun h => c h.1)]
    go_enter Tryz.func55, Tryz.ntmps55
    go_wp2
    go_ret
    exact ⟨rfl, hB⟩
theorem kind_eq {H : List Ob} {o : Ob} {n : Nat} (h : mayB H o n = true) : kindP o = kindO o := by
  unfold mayB at h
  simp only [Bool.and_eq_true] at h
  have hf := h.2.2.2
  unfold fitsB at hf
  unfold kindP kindO
  cases e1 : o.calls <;> cases e2 : o.makes
  · rfl
  · exfalso
    have hk : kindO o = 0 := by unfold kindO; rw [e1, e2]; rfl
    rw [hk, e1] at hf
    cases k1 : o.kind == 1 <;> rw [k1] at hf
    · cases k2 : o.kind == 2 <;> rw [k2] at hf
      · cases k3 : o.kind == 3 <;> rw [k3] at hf
        · cases k4 : o.kind == 4 <;> rw [k4] at hf
          · cases k5 : o.kind == 5 <;> rw [k5] at hf
            · cases k6 : o.kind == 6 <;> rw [k6] at hf
              · exact absurd hf (by simp)
              · simp only [cond_true, cond_false, Bool.and_eq_true] at hf
                have hl := hf.2.2.2.2
                unfold leadsB at hl
                rw [hk] at hl
                cases c : (o.target.k == 1 && o.handler.k == 1) with
                | true => rw [c] at hl; exact absurd hl (by simp)
                | false =>
                  rw [c] at hl
                  simp only [cond_false, Bool.and_eq_true, beq_iff_eq] at hl
                  have ha := hl.1
                  unfold aheadB objQ at ha
                  rw [← hl.2.2] at ha
                  exact absurd ha (by simp)
            · exact absurd hf (by simp)
          · exact absurd hf (by simp)
        · exact absurd hf (by simp)
      · exact absurd hf (by simp)
    · exact absurd hf (by simp)
  · rfl
  · rfl
end Go.Proofs.YtpeegmpfkongeaaGreatDoor.S
