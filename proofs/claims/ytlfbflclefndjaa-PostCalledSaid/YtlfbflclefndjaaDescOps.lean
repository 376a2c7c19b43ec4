/-
  Descriptors: a struct of sixteen cells in a block: its loads and stores, whole or a value of four, as laws of one operation; the blocks of a call's own.
-/
import Derived.Test.YtlfbflclefndjaaValNew
import Derived.Deep.MidRow
import Derived.Deep.Cut
import Derived.Laws.CopyOwn
namespace Go.Proofs.Ytlfbflclefndjaa.S
open Go.RowKit Fl

theorem dsz : (Try.prog.info? 27).map (·.size) = some 16 := by kernel_rfl
theorem vsz : (Try.prog.info? 24).map (·.size) = some 4 := by kernel_rfl
theorem cells_one {l : List Value} (h : l.all (·.oneCell') = true) : l.toArray.all (·.oneCell') = true := all_oneCell_toArray (List.all_eq_true.1 h)
section
variable {ops : Array Oper} {rest : List Oper} {o : Oper} {a : Act} {w : World} {Q : Exit → Act → World → Prop} {x y : Operand} {g i : Nat} {t : TypeId} {c0 c1 c2 c3 c4 c5 c6 c7 c8 c9 c10 c11 c12 c13 c14 c15 : Value}
theorem wpList_wanted (hw : Region.wanted o (yielded ops a.tmps) = true) (h : ∀ K : Act → World → Prop, (∀ a w, wpList Try.prog ops Q rest a w → K a w) → o.wp Try.prog a w K Q) : wpList Try.prog ops Q (o :: rest) a w := by
  unfold wpList
  rw [if_pos hw]
  exact Or.inl (h _ fun _ _ q => q)
theorem d_load (hw : Region.wanted o (yielded ops a.tmps) = true) (ho : o.op = .load 27 x)
    (hx : a.eval x = .pointer (some ⟨g, 0, none⟩)) (hg : w.heap[g]? = some (.cells #[c0, c1, c2, c3, c4, c5, c6, c7, c8, c9, c10, c11, c12, c13, c14, c15] t (0, 0)))
    (h : wpList Try.prog ops Q rest (a.put o.dst (.agg #[c0, c1, c2, c3, c4, c5, c6, c7, c8, c9, c10, c11, c12, c13, c14, c15])) w) : wpList Try.prog ops Q (o :: rest) a w :=
  wpList_wanted hw fun _ hK => wp_load_row 27 x ho g hx t _ (0, 0) _ hg Try.underlying27 rfl dsz (hK _ _ h)
theorem d_store (hgd : o.guard = none) (ho : o.op = .store 27 x y)
    (hx : a.eval x = .pointer (some ⟨g, 0, none⟩)) (hy : a.eval y = .agg #[c0, c1, c2, c3, c4, c5, c6, c7, c8, c9, c10, c11, c12, c13, c14, c15]) {old : Array Value} (hg : w.heap[g]? = some (.cells old t (0, 0))) (hold : old.size = 16)
    (h1 : ([c0, c1, c2, c3, c4, c5, c6, c7, c8, c9, c10, c11, c12, c13, c14, c15] : List Value).all (·.oneCell') = true)
    (h : wpList Try.prog ops Q rest (a.put o.dst undef) (w.setRow g #[c0, c1, c2, c3, c4, c5, c6, c7, c8, c9, c10, c11, c12, c13, c14, c15])) : wpList Try.prog ops Q (o :: rest) a w :=
  wpList_store_row hgd 27 x y ho g _ hx hy t old hg dsz hold (cells_one h1) h
theorem row_range {cs : Array Value} {l : List Value} (hg : w.heap[g]? = some (.cells cs t (0, 0))) (hl : ∀ j v, l[j]? = some v → cs[i + j]? = some v) : w.rangeAt g i l := fun j v hv => by
  rw [vcells hg (i + j)]; exact hl j v hv
theorem four {cs : Array Value} (h0 : cs[i]? = some c0) (h1 : cs[i + 1]? = some c1) (h2 : cs[i + 2]? = some c2) (h3 : cs[i + 3]? = some c3) : ∀ j v, ([c0, c1, c2, c3] : List Value)[j]? = some v → cs[i + j]? = some v := by
  intro j v hv
  match j, hv with
  | 0, hv => cases hv; exact h0
  | 1, hv => cases hv; exact h1
  | 2, hv => cases hv; exact h2
  | 3, hv => cases hv; exact h3
  | n + 4, hv => cases hv
theorem v_load {cs : Array Value} (hw : Region.wanted o (yielded ops a.tmps) = true) (ho : o.op = .load 24 x) (hx : a.eval x = .pointer (some ⟨g, i, none⟩)) (hg : w.heap[g]? = some (.cells cs t (0, 0)))
    (h0 : cs[i]? = some c0) (h1 : cs[i + 1]? = some c1) (h2 : cs[i + 2]? = some c2) (h3 : cs[i + 3]? = some c3)
    (h : wpList Try.prog ops Q rest (a.put o.dst (.agg #[c0, c1, c2, c3])) w) : wpList Try.prog ops Q (o :: rest) a w :=
  wpList_wanted hw fun _ hK => wp_load_mid 24 x ho g i hx [c0, c1, c2, c3] _ (row_range hg (four h0 h1 h2 h3)) Try.underlying24 rfl vsz (hK _ _ h)
theorem v_store {cs : Array Value} (hgd : o.guard = none) (ho : o.op = .store 24 x y) (hx : a.eval x = .pointer (some ⟨g, i, none⟩)) (hy : a.eval y = .agg #[c0, c1, c2, c3]) (hg : w.heap[g]? = some (.cells cs t (0, 0)))
    (hi : i + 4 ≤ cs.size) (h1 : ([c0, c1, c2, c3] : List Value).all (·.oneCell') = true)
    (h : wpList Try.prog ops Q rest (a.put o.dst undef) ((((w.setCell ⟨g, i, none⟩ c0).setCell ⟨g, i + 1, none⟩ c1).setCell ⟨g, i + 2, none⟩ c2).setCell ⟨g, i + 3, none⟩ c3)) : wpList Try.prog ops Q (o :: rest) a w := by
  refine wpList_store_mid hgd 24 x y ho g i #[c0, c1, c2, c3] hx hy ?_ vsz (cells_one h1) h
  intro j hj
  have hj : j < 4 := hj
  refine ⟨?_, vfz hg _⟩
  rw [vcells hg, Array.getElem?_eq_getElem (by omega)]
  rfl
end
theorem vblk3 {w w1 : World} {o p q : Obj} (h : Below (((w.alloc o).alloc p).alloc q).heap.size (((w.alloc o).alloc p).alloc q) w1) : w1.heap[w.heap.size]? = some o ∧ w1.heap[w.heap.size + 1]? = some p ∧ w1.heap[w.heap.size + 1 + 1]? = some q := by
  have e : (w.alloc o).heap.size = w.heap.size + 1 := by simp
  obtain ⟨a, b⟩ := vblk2 h
  rw [e] at a b
  exact ⟨vblk1 (vafter2 h), a, b⟩
theorem below_row {B : Nat} {w0 w : World} (h : Below B w0 w) {g : Nat} (hg : B ≤ g) (cs : Array Value) : Below B w0 (w.setRow g cs) := below_setRow h hg cs
theorem vset_o {w : World} {g j : Nat} {o : Obj} (h : w.heap[g]? = some o) (hj : j ≠ g) (cs : Array Value) : (w.setRow j cs).heap[g]? = some o := by
  rw [← h]; exact setRow_other w j g cs (fun e => hj e.symm)
end Go.Proofs.Ytlfbflclefndjaa.S
