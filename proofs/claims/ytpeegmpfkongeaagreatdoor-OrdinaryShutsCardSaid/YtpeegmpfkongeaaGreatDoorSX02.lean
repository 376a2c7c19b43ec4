/-
  A row of operations as a structure.
-/
import Derived.Test.YtpeegmpfkongeaaGreatDoorSX01
namespace Go.Proofs.YtpeegmpfkongeaaGreatDoor.S
open Go.RowKit Go.Lib Fl
open Classical

section
variable {ops : Array Oper} {rest : List Oper} {o : Oper} {w : World} {Q : Exit → Act → World → Prop} {xs : List Value} {ds : List Deferred} {d : Nat} {v : Value}
theorem wl_take (hw : Region.wanted o (yielded ops (Act.mk xs.toArray ds).tmps) = true) (hr : (execOp (Act.mk xs.toArray ds).eval o).run Tryz.prog w = .ok (.value v) w) (hd : o.dst = some d) (h : wpList Tryz.prog ops Q rest ⟨(xs.set d v).toArray, ds⟩ w) : wpList Tryz.prog ops Q (o :: rest) ⟨xs.toArray, ds⟩ w :=
  w_run hw hr (by rw [hd, hput_some]; exact h)
theorem bl_run {W : World} {g n : Nat} {b : Bool} (h : W.cell? ⟨g, n, none⟩ = some (.bool b)) : (Instr.loadAt 4 (.pointer (some ⟨g, n, none⟩))).run Tryz.prog W = .ok (.bool b) W := by simp [go_sem, h]
theorem wl_skip (hw : Region.wanted o (yielded ops (Act.mk xs.toArray ds).tmps) = false) (hd : o.dst = some d) (h : wpList Tryz.prog ops Q rest ⟨(xs.set d undef).toArray, ds⟩ w) : wpList Tryz.prog ops Q (o :: rest) ⟨xs.toArray, ds⟩ w :=
  wpList_skip hw (by rw [hd, hput_some]; exact h)
/-- a row of operations to be walked, as a structure: nothing looks into it -/
structure WL (ops : Array Oper) (Q : Exit → Act → World → Prop) (l : List Oper) (a : Act) (w : World) : Prop where
  out : wpList Tryz.prog ops Q l a w
theorem WL.take (hw : Region.wanted o (yielded ops (Act.mk xs.toArray ds).tmps) = true) (hr : (execOp (Act.mk xs.toArray ds).eval o).run Tryz.prog w = .ok (.value v) w) (hd : o.dst = some d) (h : WL ops Q rest ⟨(xs.set d v).toArray, ds⟩ w) : WL ops Q (o :: rest) ⟨xs.toArray, ds⟩ w := ⟨wl_take hw hr hd h.out⟩
theorem WL.skip (hw : Region.wanted o (yielded ops (Act.mk xs.toArray ds).tmps) = false) (hd : o.dst = some d) (h : WL ops Q rest ⟨(xs.set d undef).toArray, ds⟩ w) : WL ops Q (o :: rest) ⟨xs.toArray, ds⟩ w := ⟨wl_skip hw hd h.out⟩
theorem WL.call (hw : Region.wanted o (yielded ops (Act.mk xs.toArray ds).tmps) = true) (h : ∀ K : Act → World → Prop, (∀ a w, WL ops Q rest a w → K a w) → o.wp Tryz.prog ⟨xs.toArray, ds⟩ w K Q) : WL ops Q (o :: rest) ⟨xs.toArray, ds⟩ w := ⟨wpList_wanted hw fun K hK => h K fun a w g => hK a w g.out⟩
theorem WL.none {a : Act} (h : Q .normal a w) : WL ops Q [] a w := ⟨wpList_nil h⟩
end
/-- the law's own blocks -/
structure Rb (w : World) (A : Option Addr) (n cap : Nat) (v : Vq) (W : World) : Prop where
  below : Below w.heap.size w W
  h : W.heap[w.heap.size]? = some (.cells #[.slice A n cap] 24 (0, 0))
  v : W.heap[w.heap.size + 1]? = some (.cells (vA v) 31 (0, 0))
theorem Rb.up {w : World} {A : Option Addr} {n cap : Nat} {v : Vq} {W W' : World} (h : Rb w A n cap v W) (hb : Below W.heap.size W W') : Rb w A n cap v W' := ⟨vb h.below hb, vblkn hb h.h, vblkn hb h.v⟩
theorem Rb.va {w : World} {A : Option Addr} {n cap : Nat} {v : Vq} {W : World} (h : Rb w A n cap v W) : VAt W ⟨w.heap.size + 1, 0, none⟩ v := ⟨lt_blk h.v, (vcells h.v 0).trans rfl, (vcells h.v 1).trans rfl, (vcells h.v 2).trans rfl, (vcells h.v 3).trans rfl⟩
theorem Rb.q {w : World} {A : Option Addr} {n cap : Nat} {v : Vq} {W : World} (h : Rb w A n cap v W) : W.cell? ⟨w.heap.size, 0, none⟩ = some (.slice A n cap) := (vcells h.h 0).trans rfl
/-- with what Do gave -/
structure Rx (w : World) (A : Option Addr) (n cap : Nat) (v : Vq) (gx go B : Nat) (b : Bool) (H M2 : List Ob) (W : World) : Prop where
  rb : Rb w A n cap v W
  x : W.heap[gx]? = some (.cells #[.slice (some ⟨B, 0, none⟩) n n] 24 (0, 0))
  o : W.heap[go]? = some (.cells (oqA (yesO b)) 52 (0, 0))
  l : LeftH H B M2 W
theorem Rx.up {w : World} {A : Option Addr} {n cap : Nat} {v : Vq} {gx go B : Nat} {b : Bool} {H M2 : List Ob} {W W' : World} (h : Rx w A n cap v gx go B b H M2 W) (hb : Below W.heap.size W W') : Rx w A n cap v gx go B b H M2 W' := ⟨h.rb.up hb, vblkn hb h.x, vblkn hb h.o, h.l.up hb⟩
noncomputable def tailR (n : Nat) : Code := match Tryz.f8.body with | some c => rgtN n c | none => .skip
end Go.Proofs.YtpeegmpfkongeaaGreatDoor.S
