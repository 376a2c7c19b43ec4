/-
  Values made of any float, string, boolean: walks.
-/
import Derived.Test.YtlgbnfcnimjheaaDoorChecked
import Derived.Test.YtlgbnfcnimjheaaDoorDN01
import Derived.WalkKit
import Derived.WalkSpells
import Derived.WalkLawsBesides
import Derived.Lib.Hide
import Derived.Below
import Derived.Deep.Draws
import Derived.Deep.MidRow
import Derived.Deep.Cut
import Derived.Laws.CopyOwn
import Derived.Laws.AppendOwn
import Derived.Laws.OwnMore
import Derived.Shelf.Strings.Builder1
import Derived.Shelf.Strings.Builder2
import Derived.Shelf.Strings.OnBuilder
import Derived.Test.YtlgbnfcnimjheaaDoorProg
namespace Go.Proofs.YtlgbnfcnimjheaaDoor.S
open Go.RowKit Fl

/-- a store of a float into a cell (the walk has no law of its own for it) -/
theorem vstore (a : Addr) (x : Nat) (m : Mode) (w : World) : (store a (.float .f64 x) m).run Tryd.prog w = stored Tryd.prog w a (.float .f64 x) m := run_store Tryd.prog w a _ m rfl
theorem vzero (w : World) (o : Obj) : Below w.heap.size w (w.alloc o) := (Below.refl _ _).alloc (Nat.le_refl _) o
theorem vb {w a b : World} (h : Below w.heap.size w a) (g : Below a.heap.size a b) : Below w.heap.size w b := h.trans (g.mono h.size)
theorem vafter {w w1 : World} {o : Obj} (h : Below (w.alloc o).heap.size (w.alloc o) w1) : Below w.heap.size w w1 := (vzero w o).trans (h.mono (vzero w o).size)
theorem vafter2 {w w1 : World} {o p : Obj} (h : Below ((w.alloc o).alloc p).heap.size ((w.alloc o).alloc p) w1) : Below w.heap.size w w1 := vafter (vafter h)
theorem vcell {W w1 : World} {B : Nat} (hb : Below B W w1) : (∀ b o, b < B → w1.cell? ⟨b, o, none⟩ = W.cell? ⟨b, o, none⟩) ∧ (∀ b o, b < B → w1.frozen? ⟨b, o, none⟩ = W.frozen? ⟨b, o, none⟩) :=
  ⟨fun b o h => hb.cell (p := ⟨b, o, none⟩) h, fun b o h => hb.frozen (p := ⟨b, o, none⟩) h⟩
theorem vlt1 {w w1 : World} {o : Obj} (h : Below (w.alloc o).heap.size (w.alloc o) w1) : w.heap.size < w1.heap.size := by have := h.size; simp at this; omega
theorem vlt2 {w w1 : World} {o p : Obj} (h : Below ((w.alloc o).alloc p).heap.size ((w.alloc o).alloc p) w1) : w.heap.size < w1.heap.size ∧ w.heap.size + 1 < w1.heap.size := by have := h.size; simp at this; omega
theorem vltn {w1 w2 : World} {n : Nat} (h : Below w1.heap.size w1 w2) (g : n < w1.heap.size) : n < w2.heap.size := Nat.lt_of_lt_of_le g h.size
theorem vset1 {w : World} {g : Nat} {t : TypeId} {cs : Array Value} (h : w.heap[g]? = some (.cells cs t (0, 0))) (i : Nat) (a : Value) : (w.setCell ⟨g, i, none⟩ a).heap[g]? = some (.cells (cs.setIfInBounds i a) t (0, 0)) := by
  simp [World.setCell, Array.getElem?_modify, h]
theorem vset1o {w : World} {g j : Nat} {o : Obj} (h : w.heap[g]? = some o) (hj : j ≠ g) (i : Nat) (a : Value) : (w.setCell ⟨j, i, none⟩ a).heap[g]? = some o := by
  simp [World.setCell, Array.getElem?_modify, h, hj]
theorem vblk1 {w w1 : World} {o : Obj} (h : Below (w.alloc o).heap.size (w.alloc o) w1) : w1.heap[w.heap.size]? = some o := by
  have e : (w.alloc o).heap.size = w.heap.size + 1 := by simp
  rw [h.block w.heap.size (by omega)]; exact heap_alloc_new w o
theorem vblk2 {w w1 : World} {o p : Obj} (h : Below ((w.alloc o).alloc p).heap.size ((w.alloc o).alloc p) w1) : w1.heap[w.heap.size]? = some o ∧ w1.heap[w.heap.size + 1]? = some p := by
  have e : (w.alloc o).heap.size = w.heap.size + 1 := by simp
  have e2 : ((w.alloc o).alloc p).heap.size = w.heap.size + 1 + 1 := by simp
  refine ⟨?_, ?_⟩
  · rw [h.block w.heap.size (by omega), ← heap_alloc_new w o]
    exact (vzero (w.alloc o) p).block _ (by omega)
  · rw [h.block (w.heap.size + 1) (by omega), ← e]; exact heap_alloc_new _ p
theorem vblkn {w1 w2 : World} {g : Nat} {o : Obj} (h : Below w1.heap.size w1 w2) (hb : w1.heap[g]? = some o) : w2.heap[g]? = some o := by
  have hg : g < w1.heap.size := by
    rcases Nat.lt_or_ge g w1.heap.size with c | c
    · exact c
    · rw [Array.getElem?_eq_none c] at hb; cases hb
  rw [h.block g hg]; exact hb
theorem vcells {w : World} {g : Nat} {t : TypeId} {cs : Array Value} (h : w.heap[g]? = some (.cells cs t (0, 0))) (i : Nat) : w.cell? ⟨g, i, none⟩ = cs[i]? := cell_of_row w g i cs t (0, 0) h
theorem vfz {w : World} {g : Nat} {t : TypeId} {cs : Array Value} (h : w.heap[g]? = some (.cells cs t (0, 0))) (i : Nat) : w.frozen? ⟨g, i, none⟩ = false := by
  simp [World.frozen?, h]
theorem vc4 {w : World} {g : Nat} {t : TypeId} {c0 c1 c2 c3 : Value} (h : w.heap[g]? = some (.cells #[c0, c1, c2, c3] t (0, 0))) :
    w.cell? ⟨g, 0, none⟩ = some c0 ∧ w.cell? ⟨g, 1, none⟩ = some c1 ∧ w.cell? ⟨g, 2, none⟩ = some c2 ∧ w.cell? ⟨g, 3, none⟩ = some c3 ∧ ∀ i, w.frozen? ⟨g, i, none⟩ = false := ⟨vcells h 0, vcells h 1, vcells h 2, vcells h 3, vfz h⟩
/-- a function whose one result is a value in a block of its own -/
theorem val_end {f : Func} {i : Nat} {t : TypeId} {Q : Ending → World → Prop} {tmps : Array Value} {W : World} {g : Nat} {k : Int} {x : Nat} {s : ByteArray} {r : Int} (hf : f.results = #[.cell i 30])
    (h2 : tmps[i]?.getD undef = .pointer (some ⟨g, 0, none⟩)) (hb : W.heap[g]? = some (.cells #[.int .u8 k, .float .f64 x, .string s, .int .i64 r] t (0, 0))) (hQ : Q (.returned (.agg #[.int .u8 k, .float .f64 x, .string s, .int .i64 r])) W) :
    bodyPost Tryd.prog f Q .ret { tmps := tmps, defers := [] } W := by
  have c0 : W.cell? ⟨g, 0, none⟩ = some (.int .u8 k) := vcells hb 0
  have c1 : W.cell? ⟨g, 1, none⟩ = some (.float .f64 x) := vcells hb 1
  have c2 : W.cell? ⟨g, 2, none⟩ = some (.string s) := vcells hb 2
  have c3 : W.cell? ⟨g, 3, none⟩ = some (.int .i64 r) := vcells hb 3
  clear hb
  refine bodyPost_ret (v := .agg #[.int .u8 k, .float .f64 x, .string s, .int .i64 r]) ?_ rfl hQ
  simp [h2, c0, c1, c2, c3, results, hf, go_sem]
theorem vset4 {w : World} {g : Nat} {t : TypeId} {c0 c1 c2 c3 : Value} (h : w.heap[g]? = some (.cells #[c0, c1, c2, c3] t (0, 0))) (a b c d : Value) :
    ((((w.setCell ⟨g, 0, none⟩ a).setCell ⟨g, 1, none⟩ b).setCell ⟨g, 2, none⟩ c).setCell ⟨g, 3, none⟩ d).heap[g]? = some (.cells #[a, b, c, d] t (0, 0)) :=
  vset1 (vset1 (vset1 (vset1 h 0 a) 1 b) 2 c) 3 d
theorem vbel4 {B g : Nat} {w0 w : World} (h : Below B w0 w) (hg : B ≤ g) (a b c d : Value) :
    Below B w0 ((((w.setCell ⟨g, 0, none⟩ a).setCell ⟨g, 1, none⟩ b).setCell ⟨g, 2, none⟩ c).setCell ⟨g, 3, none⟩ d) :=
  (((h.setCell (p := ⟨g, 0, none⟩) hg a).setCell (p := ⟨g, 1, none⟩) hg b).setCell (p := ⟨g, 2, none⟩) hg c).setCell (p := ⟨g, 3, none⟩) hg d
def valG (k x : Nat) (s : ByteArray) (r : Int) : Value := .agg #[.int .u8 (k : Int), .float .f64 x, .string s, .int .i64 r]

theorem Num_v (x : Nat) (w : World) : Calls Tryd.prog 8 #[.float .f64 x] w fun e w' => e = .returned (.agg #[.int .u8 3, .float .f64 x, .string ⟨#[]⟩, .int .i64 0]) ∧ Below w.heap.size w w' := by
  have hst := vstore
  go_enter Tryd.func8, Tryd.ntmps8
  go_wp2
  refine bodyPost_ret (v := .agg #[.int .u8 3, .float .f64 x, .string ⟨#[]⟩, .int .i64 0]) (by simp [results, Tryd.results8, go_sem]) rfl ⟨rfl, ?_⟩
  exact vzero _ _
def oneB (b : Bool) : Nat := if b then 4607182418800017408 else 0
end Go.Proofs.YtlgbnfcnimjheaaDoor.S
/-
  Descriptors: a struct of sixteen cells in a block: its loads and stores, whole or a value of four, as laws of one operation; the blocks of a call's own.
-/
namespace Go.Proofs.YtlgbnfcnimjheaaDoor.S
open Go.RowKit Fl

theorem dsz : (Tryd.prog.info? 33).map (·.size) = some 16 := by kernel_rfl
theorem vsz : (Tryd.prog.info? 30).map (·.size) = some 4 := by kernel_rfl
theorem cells_one {l : List Value} (h : l.all (·.oneCell') = true) : l.toArray.all (·.oneCell') = true := all_oneCell_toArray (List.all_eq_true.1 h)
section
variable {ops : Array Oper} {rest : List Oper} {o : Oper} {a : Act} {w : World} {Q : Exit → Act → World → Prop} {x y : Operand} {g i : Nat} {t : TypeId} {c0 c1 c2 c3 c4 c5 c6 c7 c8 c9 c10 c11 c12 c13 c14 c15 : Value}
theorem wpList_wanted (hw : Region.wanted o (yielded ops a.tmps) = true) (h : ∀ K : Act → World → Prop, (∀ a w, wpList Tryd.prog ops Q rest a w → K a w) → o.wp Tryd.prog a w K Q) : wpList Tryd.prog ops Q (o :: rest) a w := by
  unfold wpList
  rw [if_pos hw]
  exact Or.inl (h _ fun _ _ q => q)
theorem d_load (hw : Region.wanted o (yielded ops a.tmps) = true) (ho : o.op = .load 33 x)
    (hx : a.eval x = .pointer (some ⟨g, 0, none⟩)) (hg : w.heap[g]? = some (.cells #[c0, c1, c2, c3, c4, c5, c6, c7, c8, c9, c10, c11, c12, c13, c14, c15] t (0, 0)))
    (h : wpList Tryd.prog ops Q rest (a.put o.dst (.agg #[c0, c1, c2, c3, c4, c5, c6, c7, c8, c9, c10, c11, c12, c13, c14, c15])) w) : wpList Tryd.prog ops Q (o :: rest) a w :=
  wpList_wanted hw fun _ hK => wp_load_row 33 x ho g hx t _ (0, 0) _ hg Tryd.underlying33 rfl dsz (hK _ _ h)
theorem d_store (hgd : o.guard = none) (ho : o.op = .store 33 x y)
    (hx : a.eval x = .pointer (some ⟨g, 0, none⟩)) (hy : a.eval y = .agg #[c0, c1, c2, c3, c4, c5, c6, c7, c8, c9, c10, c11, c12, c13, c14, c15]) {old : Array Value} (hg : w.heap[g]? = some (.cells old t (0, 0))) (hold : old.size = 16)
    (h1 : ([c0, c1, c2, c3, c4, c5, c6, c7, c8, c9, c10, c11, c12, c13, c14, c15] : List Value).all (·.oneCell') = true)
    (h : wpList Tryd.prog ops Q rest (a.put o.dst undef) (w.setRow g #[c0, c1, c2, c3, c4, c5, c6, c7, c8, c9, c10, c11, c12, c13, c14, c15])) : wpList Tryd.prog ops Q (o :: rest) a w :=
  wpList_store_row hgd 33 x y ho g _ hx hy t old hg dsz hold (cells_one h1) h
theorem row_range {cs : Array Value} {l : List Value} (hg : w.heap[g]? = some (.cells cs t (0, 0))) (hl : ∀ j v, l[j]? = some v → cs[i + j]? = some v) : w.rangeAt g i l := fun j v hv => by
  rw [vcells hg (i + j)]; exact hl j v hv
theorem four {cs : Array Value} (h0 : cs[i]? = some c0) (h1 : cs[i + 1]? = some c1) (h2 : cs[i + 2]? = some c2) (h3 : cs[i + 3]? = some c3) : ∀ j v, ([c0, c1, c2, c3] : List Value)[j]? = some v → cs[i + j]? = some v := by
  intro j v hv
  match j, hv with
  | 0, hv => cases hv; exact h0
  | 1, hv => cases hv; exact h1
  | 2, hv => cases hv; exact h2
  | 3, hv => cases hv; exact h3
  | n + 4, hv => cases hv
theorem v_load {cs : Array Value} (hw : Region.wanted o (yielded ops a.tmps) = true) (ho : o.op = .load 30 x) (hx : a.eval x = .pointer (some ⟨g, i, none⟩)) (hg : w.heap[g]? = some (.cells cs t (0, 0)))
    (h0 : cs[i]? = some c0) (h1 : cs[i + 1]? = some c1) (h2 : cs[i + 2]? = some c2) (h3 : cs[i + 3]? = some c3)
    (h : wpList Tryd.prog ops Q rest (a.put o.dst (.agg #[c0, c1, c2, c3])) w) : wpList Tryd.prog ops Q (o :: rest) a w :=
  wpList_wanted hw fun _ hK => wp_load_mid 30 x ho g i hx [c0, c1, c2, c3] _ (row_range hg (four h0 h1 h2 h3)) Tryd.underlying30 rfl vsz (hK _ _ h)
theorem v_store {cs : Array Value} (hgd : o.guard = none) (ho : o.op = .store 30 x y) (hx : a.eval x = .pointer (some ⟨g, i, none⟩)) (hy : a.eval y = .agg #[c0, c1, c2, c3]) (hg : w.heap[g]? = some (.cells cs t (0, 0)))
    (hi : i + 4 ≤ cs.size) (h1 : ([c0, c1, c2, c3] : List Value).all (·.oneCell') = true)
    (h : wpList Tryd.prog ops Q rest (a.put o.dst undef) ((((w.setCell ⟨g, i, none⟩ c0).setCell ⟨g, i + 1, none⟩ c1).setCell ⟨g, i + 2, none⟩ c2).setCell ⟨g, i + 3, none⟩ c3)) : wpList Tryd.prog ops Q (o :: rest) a w := by
  refine wpList_store_mid hgd 30 x y ho g i #[c0, c1, c2, c3] hx hy ?_ vsz (cells_one h1) h
  intro j hj
  have hj : j < 4 := hj
  refine ⟨?_, vfz hg _⟩
  rw [vcells hg, Array.getElem?_eq_getElem (by omega)]
  rfl
end
theorem vblk3 {w w1 : World} {o p q : Obj} (h : Below (((w.alloc o).alloc p).alloc q).heap.size (((w.alloc o).alloc p).alloc q) w1) : w1.heap[w.heap.size]? = some o ∧ w1.heap[w.heap.size + 1]? = some p ∧ w1.heap[w.heap.size + 1 + 1]? = some q := by
  have e : (w.alloc o).heap.size = w.heap.size + 1 := by simp
  obtain ⟨a, b⟩ := vblk2 h
  rw [e] at a b
  exact ⟨vblk1 (vafter2 h), a, b⟩
theorem below_row {B : Nat} {w0 w : World} (h : Below B w0 w) {g : Nat} (hg : B ≤ g) (cs : Array Value) : Below B w0 (w.setRow g cs) := below_setRow h hg cs
theorem vset_o {w : World} {g j : Nat} {o : Obj} (h : w.heap[g]? = some o) (hj : j ≠ g) (cs : Array Value) : (w.setRow j cs).heap[g]? = some o := by
  rw [← h]; exact setRow_other w j g cs (fun e => hj e.symm)
end Go.Proofs.YtlgbnfcnimjheaaDoor.S
/-
  Descriptors: has, IsData, IsAccess: walks.
-/
namespace Go.Proofs.YtlgbnfcnimjheaaDoor.S
open Go.RowKit Fl

def hasB (h m : Int) : Bool := bits .and .u8 h m != 0
theorem has_c (h m : Int) (ka : Int) (xa : Nat) (sa : ByteArray) (ra : Int) (kb : Int) (xb : Nat) (sb : ByteArray) (rb : Int) (kc : Int) (xc : Nat) (sc : ByteArray) (rc : Int) (p q z : Bool) (w : World) : Calls Tryd.prog 24 #[.agg #[.int .u8 h, .int .u8 ka, .float .f64 xa, .string sa, .int .i64 ra, .int .u8 kb, .float .f64 xb, .string sb, .int .i64 rb, .int .u8 kc, .float .f64 xc, .string sc, .int .i64 rc, .bool p, .bool q, .bool z], .int .u8 m] w fun e w' => e = .returned (.bool (hasB h m)) ∧ Below w.heap.size w w' := by
  go_enter Tryd.func24, Tryd.ntmps24
  go_wp2
  go_ret
  exact ⟨rfl, vzero _ _⟩
theorem IsData_c (h : Int) (ka : Int) (xa : Nat) (sa : ByteArray) (ra : Int) (kb : Int) (xb : Nat) (sb : ByteArray) (rb : Int) (kc : Int) (xc : Nat) (sc : ByteArray) (rc : Int) (p q z : Bool) (w : World) : Calls Tryd.prog 20 #[.agg #[.int .u8 h, .int .u8 ka, .float .f64 xa, .string sa, .int .i64 ra, .int .u8 kb, .float .f64 xb, .string sb, .int .i64 rb, .int .u8 kc, .float .f64 xc, .string sc, .int .i64 rc, .bool p, .bool q, .bool z]] w fun e w' => e = .returned (.bool (hasB h 3)) ∧ Below w.heap.size w w' := by
  have hb := heap_alloc_new w (.cells #[.int .u8 h, .int .u8 ka, .float .f64 xa, .string sa, .int .i64 ra, .int .u8 kb, .float .f64 xb, .string sb, .int .i64 rb, .int .u8 kc, .float .f64 xc, .string sc, .int .i64 rc, .bool p, .bool q, .bool z] 33)
  go_enter Tryd.func20, Tryd.ntmps20
  go_wp2_with (first | ((with_reducible refine d_load ?_ rfl rfl hb ?_); (rfl)) | (go_at_call 24; (with_reducible refine (has_c _ _ _ _ _ _ _ _ _ _ _ _ _ _ _ _ _ _).mono ?_); rintro e w1 ⟨rfl, h1⟩))
  go_ret
  exact ⟨rfl, vafter h1⟩
theorem IsAccess_c (h : Int) (ka : Int) (xa : Nat) (sa : ByteArray) (ra : Int) (kb : Int) (xb : Nat) (sb : ByteArray) (rb : Int) (kc : Int) (xc : Nat) (sc : ByteArray) (rc : Int) (p q z : Bool) (w : World) : Calls Tryd.prog 21 #[.agg #[.int .u8 h, .int .u8 ka, .float .f64 xa, .string sa, .int .i64 ra, .int .u8 kb, .float .f64 xb, .string sb, .int .i64 rb, .int .u8 kc, .float .f64 xc, .string sc, .int .i64 rc, .bool p, .bool q, .bool z]] w fun e w' => e = .returned (.bool (hasB h 12)) ∧ Below w.heap.size w w' := by
  have hb := heap_alloc_new w (.cells #[.int .u8 h, .int .u8 ka, .float .f64 xa, .string sa, .int .i64 ra, .int .u8 kb, .float .f64 xb, .string sb, .int .i64 rb, .int .u8 kc, .float .f64 xc, .string sc, .int .i64 rc, .bool p, .bool q, .bool z] 33)
  go_enter Tryd.func21, Tryd.ntmps21
  go_wp2_with (first | ((with_reducible refine d_load ?_ rfl rfl hb ?_); (rfl)) | (go_at_call 24; (with_reducible refine (has_c _ _ _ _ _ _ _ _ _ _ _ _ _ _ _ _ _ _).mono ?_); rintro e w1 ⟨rfl, h1⟩))
  go_ret
  exact ⟨rfl, vafter h1⟩
end Go.Proofs.YtlgbnfcnimjheaaDoor.S
/-
  Descriptors: Text's closure, which appends to a row of strings of Text's own.
-/
namespace Go.Proofs.YtlgbnfcnimjheaaDoor.S
open Go.RowKit Fl

/-- a row of strings of the call's own -/
def SS (B : Nat) (v : Value) (xs : List ByteArray) (w : World) : Prop := w.ownsRow B 9 1 v xs.length (xs.map Value.string) ∧ B ≤ w.heap.size
theorem ss_up {B : Nat} {v : Value} {xs : List ByteArray} {w w1 : World} (h : SS B v xs w) (hb : Below w.heap.size w w1) : SS B v xs w1 := by
  obtain ⟨⟨h1, h2⟩, h3⟩ := h
  refine ⟨⟨h1, ?_⟩, Nat.le_trans h3 hb.size⟩
  rcases h2 with h2 | ⟨g, cap, cur, e, hg, hblk, hr⟩
  · exact Or.inl h2
  · exact Or.inr ⟨g, cap, cur, e, hg, vblkn hb hblk, hr⟩
theorem str_info : (Tryd.prog.info? 9).map (fun i => (i.zero, i.size, i.bytes)) = some (some (.string ⟨#[]⟩), 1, 16) := by kernel_rfl
theorem dinfo_parts {P : Program} {t : TypeId} {z : Value} {a b : Nat} (h : (P.info? t).map (fun i => (i.zero, i.size, i.bytes)) = some (some z, a, b)) : ∃ i, P.info? t = some i ∧ i.zero = some z ∧ i.size = a ∧ i.bytes = b := by
  cases hi : P.info? t with
  | none => simp [hi] at h
  | some i => exact ⟨i, rfl, by simpa [hi] using h⟩
/-- one string more -/
theorem ss_app {ops : Array Oper} {rest : List Oper} {o : Oper} {a : Act} {Q : Exit → Act → World → Prop} (hgd : o.guard = none) (s x : Operand)
    (ho : o.op = .call { callee := .builtin .append, args := #[s, x], argTypes := #[59, 59] })
    {B : Nat} {v : Value} {xs : List ByteArray} {u : ByteArray} {wr : World} (h : SS B v xs wr) (hs : a.eval s = v) (hx : a.eval x = .slice (some ⟨wr.heap.size, 0, none⟩) 1 1) (hl : xs.length ≤ 100)
    (kk : ∀ v' w', SS B v' (xs ++ [u]) w' → wr.grownBy w' v.ownBlock → wpList Tryd.prog ops Q rest (a.put o.dst v') w') : wpList Tryd.prog ops Q (o :: rest) a (wr.alloc (.cells #[.string u] 9)) := by
  obtain ⟨h1, hB⟩ := h
  obtain ⟨i0, hi, hz0, hz1, hz2⟩ := dinfo_parts str_info
  refine wpList_append_own _ hgd s x 59 ho B 9 i0 (.string ⟨#[]⟩) 1 16 Tryd.underlying59 hi hz0 hz1 hz2 rfl (by decide) v xs.length (xs.map Value.string) hs (h1.alloc _) ⟨wr.heap.size, 0, none⟩ 1 1 [.string u] hx rfl ?_ ?_ ?_ ?_ ?_ ?_
  · intro j y hj
    have e : (⟨wr.heap.size, 0, none⟩ : Addr).add j = ⟨wr.heap.size, j, none⟩ := by unfold Addr.add; split <;> simp_all
    rw [e, vcells (heap_alloc_new wr _) j, ← hj]
    match j with
    | 0 => rfl
    | j + 1 => rfl
  · intro y hy; simp at hy; subst hy; rfl
  · unfold maxLen; omega
  · omega
  · simp; omega
  · intro v' w' hown hgrow _
    have hg2 : wr.grownBy w' v.ownBlock := (World.grownBy_alloc _ _ _).trans hgrow
    refine kk v' w' ⟨?_, Nat.le_trans hB hg2.size⟩ hg2
    rw [List.length_append, List.map_append]
    exact hown
theorem ss_shape {B : Nat} {v : Value} {xs : List ByteArray} {w : World} (h : SS B v xs w) : ∃ A cap, v = .slice A xs.length cap := by
  rcases h.1.2 with ⟨rfl, h2⟩ | ⟨g, cap, cur, rfl, _⟩
  · exact ⟨none, 0, by rw [h2]⟩
  · exact ⟨_, cap, rfl⟩
theorem ss_own {B : Nat} {v : Value} {xs : List ByteArray} {w : World} (h : SS B v xs w) {k : Nat} (hk : v.ownBlock = some k) : B ≤ k := (h.1.lt _ hk).1
theorem ss_set {B : Nat} {v : Value} {xs : List ByteArray} {w : World} (h : SS B v xs w) {g : Nat} (hg : g < B) (i : Nat) (u : Value) : SS B v xs (w.setCell ⟨g, i, none⟩ u) := by
  obtain ⟨⟨h1, h2⟩, h3⟩ := h
  refine ⟨⟨h1, ?_⟩, by simpa using h3⟩
  rcases h2 with h2 | ⟨g', cap, cur, e, hg', hblk, hr⟩
  · exact Or.inl h2
  · exact Or.inr ⟨g', cap, cur, e, hg', vset1o hblk (by omega) i u, hr⟩
theorem tell_no {m : Int} {wd tx : ByteArray} {h : Int} {ka : Int} {xa : Nat} {sa : ByteArray} {ra : Int} {kb : Int} {xb : Nat} {sb : ByteArray} {rb : Int} {kc : Int} {xc : Nat} {sc : ByteArray} {rc : Int} {p q z : Bool} {gd gl : Nat} (w : World) (b1 : w.heap[gd]? = some (.cells #[.int .u8 h, .int .u8 ka, .float .f64 xa, .string sa, .int .i64 ra, .int .u8 kb, .float .f64 xb, .string sb, .int .i64 rb, .int .u8 kc, .float .f64 xc, .string sc, .int .i64 rc, .bool p, .bool q, .bool z] 33 (0, 0))) (hm : hasB h m = false) :
    Calls Tryd.prog 31 #[.int .u8 m, .string wd, .string tx, .pointer (some ⟨gd, 0, none⟩), .pointer (some ⟨gl, 0, none⟩)] w fun e w' => e = .returned (.tuple #[]) ∧ Below w.heap.size w w' := by
  go_enter Tryd.func31, Tryd.ntmps31
  go_wp2_with (first | ((with_reducible refine d_load ?_ rfl rfl b1 ?_); (rfl)) | (go_at_call 24; (with_reducible refine (has_c _ _ _ _ _ _ _ _ _ _ _ _ _ _ _ _ _ _).mono ?_); rintro e w1 ⟨rfl, h1⟩; rw [hm]))
  go_end0
  exact ⟨rfl, h1⟩
set_option maxRecDepth 100000 in
theorem tell_yes {m : Int} {wd tx : ByteArray} {h : Int} {ka : Int} {xa : Nat} {sa : ByteArray} {ra : Int} {kb : Int} {xb : Nat} {sb : ByteArray} {rb : Int} {kc : Int} {xc : Nat} {sc : ByteArray} {rc : Int} {p q z : Bool} {gd gl B N : Nat} {v : Value} {xs : List ByteArray} {t : TypeId} (w0 w : World) (b1 : w.heap[gd]? = some (.cells #[.int .u8 h, .int .u8 ka, .float .f64 xa, .string sa, .int .i64 ra, .int .u8 kb, .float .f64 xb, .string sb, .int .i64 rb, .int .u8 kc, .float .f64 xc, .string sc, .int .i64 rc, .bool p, .bool q, .bool z] 33 (0, 0))) (b2 : w.heap[gl]? = some (.cells #[v] t (0, 0))) (hv : SS B v xs w) (hb0 : Below N w0 w) (hN : N ≤ gl) (hgl : gl < B) (hgd : gd < B) (hne : gd ≠ gl) (hxs : xs.length ≤ 50)
    (hwd : wd.size ≤ 100) (htx : tx.size ≤ 100) (hm : hasB h m = true) :
    Calls Tryd.prog 31 #[.int .u8 m, .string wd, .string tx, .pointer (some ⟨gd, 0, none⟩), .pointer (some ⟨gl, 0, none⟩)] w fun e w' => e = .returned (.tuple #[]) ∧ ∃ v', w'.heap[gl]? = some (.cells #[v'] t (0, 0)) ∧ w'.heap[gd]? = some (.cells #[.int .u8 h, .int .u8 ka, .float .f64 xa, .string sa, .int .i64 ra, .int .u8 kb, .float .f64 xb, .string sb, .int .i64 rb, .int .u8 kc, .float .f64 xc, .string sc, .int .i64 rc, .bool p, .bool q, .bool z] 33 (0, 0)) ∧ SS B v' (xs ++ [wd ++ ⟨#[32]⟩ ++ tx]) w' ∧ Below N w0 w' := by
  have hBw := hv.2
  have hneq : ∀ w2 v2, SS B v2 xs w2 → some gl ≠ v2.ownBlock ∧ some gd ≠ v2.ownBlock := fun w2 v2 h2 => ⟨fun e => by have := ss_own h2 e.symm; omega, fun e => by have := ss_own h2 e.symm; omega⟩
  go_enter Tryd.func31, Tryd.ntmps31
  go_wp2_with (first | ((with_reducible refine d_load ?_ rfl rfl b1 ?_); (rfl)) | (go_at_call 24; (with_reducible refine (has_c _ _ _ _ _ _ _ _ _ _ _ _ _ _ _ _ _ _).mono ?_); rintro e w1 ⟨rfl, h1⟩; rw [hm]; replace b1 := vblkn h1 b1; replace b2 := vblkn h1 b2; replace hv := ss_up hv h1; have c2 := vcells b2 0; have f2 := vfz b2 0) | ((with_reducible refine ss_app rfl _ _ rfl hv rfl rfl ?_ ?_); (omega); rintro v' w2 hv2 hg; obtain ⟨A2, cap2, rfl⟩ := ss_shape hv2; have hl1 := hv.2; have b2' := (hg.block gl (by omega) (hneq _ _ hv).1).trans b2; have b1' := (hg.block gd (by omega) (hneq _ _ hv).2).trans b1; have c3 := vcells b2' 0; have f3 := vfz b2' 0))
  have hv3 : SS B (Value.slice A2 (xs.length + 1) cap2) (xs ++ [wd ++ ⟨#[32]⟩ ++ tx]) w2 := by rw [List.length_append] at hv2; exact hv2
  go_end0
  exact ⟨rfl, _, vset1 b2' 0 _, vset1o b1' (Ne.symm hne) 0 _, ss_set hv3 hgl 0 _, ((Below.trans hb0 (h1.mono (by omega))).grown hg (by omega) (fun k hk => by have := ss_own hv hk; omega)).setCell (p := ⟨gl, 0, none⟩) hN _⟩
end Go.Proofs.YtlgbnfcnimjheaaDoor.S
/-
  DERIVED: THE SHELF's CONTRACTS AT THIS DUMP, IN PLAIN WORDS (tools/lay-plain.mjs out of 'YtlgbnfcnimjheaaDoorDescShelfTry.lean', which tools/lay-shelf.mjs wrote): THE SAME DECLARATIONS UNDER THE SAME NAMES: 'import', 'namespace', 'open', 'def', 'theorem' AND NOTHING ELSE: no command of the shelf's: FOR A HAND-IN. Each laying: the table of numbers ('.._ren') and one theorem, a field a fact of the dump's own or the kernel's comparison; each contract: ONE APPLICATION.
-/
namespace Go.Proofs
open Go.Shelf
def Tryd.lays156_ren : Go.Shelf.Ren := ⟨fun | 156 => 34 | 165 => 53 | 166 => 54 | 169 => 55 | 240 => 80 | 241 => 81 | 276 => 90 | 277 => 91 | n => n, fun | 31 => 59 | 9 => 9 | 3 => 3 | 4 => 4 | 0 => 0 | 20 => 20 | 72 => 86 | 76 => 90 | 70 => 83 | 37 => 84 | 75 => 89 | 127 => 108 | 164 => 67 | 5 => 5 | 80 => 92 | n => n, fun | n => n⟩
theorem Tryd.lays156 : Go.Proofs.Lays.n156 Tryd.prog Tryd.lays156_ren := {
  mixed := by kernel_rfl
  f156 := Tryd.func34.trans (congrArg some (by kernel_rfl))
  f165 := Tryd.func53.trans (congrArg some (by kernel_rfl))
  f166 := Tryd.func54.trans (congrArg some (by kernel_rfl))
  f169 := Tryd.func55.trans (congrArg some (by kernel_rfl))
  f240 := Tryd.func80.trans (congrArg some (by kernel_rfl))
  f241 := Tryd.func81.trans (congrArg some (by kernel_rfl))
  f276 := Tryd.func90.trans (congrArg some (by kernel_rfl))
  f277 := Tryd.func91.trans (congrArg some (by kernel_rfl))
  t0 := Tryd.underlying0
  a0 := Tryd.isAgg0
  z0 := Tryd.sizeOf0
  v0 := Tryd.zeroValue0
  t3 := Tryd.underlying3
  a3 := Tryd.isAgg3
  z3 := Tryd.sizeOf3
  v3 := Tryd.zeroValue3
  t4 := Tryd.underlying4
  a4 := Tryd.isAgg4
  z4 := Tryd.sizeOf4
  v4 := Tryd.zeroValue4
  t9 := Tryd.underlying9
  a9 := Tryd.isAgg9
  z9 := Tryd.sizeOf9
  v9 := Tryd.zeroValue9
  t20 := Tryd.underlying20
  a20 := Tryd.isAgg20
  z20 := Tryd.sizeOf20
  v20 := Tryd.zeroValue20
  t31 := Tryd.underlying59
  a31 := Tryd.isAgg59
  z31 := Tryd.sizeOf59
  v31 := Tryd.zeroValue59
  t37 := Tryd.underlying84
  a37 := Tryd.isAgg84
  z37 := Tryd.sizeOf84
  v37 := Tryd.zeroValue84
  t70 := Tryd.underlying83
  a70 := Tryd.isAgg83
  z70 := Tryd.sizeOf83
  v70 := Tryd.zeroValue83
  t72 := Tryd.underlying86
  a72 := Tryd.isAgg86
  z72 := Tryd.sizeOf86
  v72 := Tryd.zeroValue86
  t75 := Tryd.underlying89
  a75 := Tryd.isAgg89
  z75 := Tryd.sizeOf89
  v75 := Tryd.zeroValue89
  t76 := Tryd.underlying90
  a76 := Tryd.isAgg90
  z76 := Tryd.sizeOf90
  v76 := Tryd.zeroValue90
  t127 := Tryd.underlying108
  a127 := Tryd.isAgg108
  z127 := Tryd.sizeOf108
  v127 := Tryd.zeroValue108
  t164 := Tryd.underlying67
  a164 := Tryd.isAgg67
  z164 := Tryd.sizeOf67
  v164 := Tryd.zeroValue67 }
theorem Tryd.Builder_Extra_156 : Builder.Extra Tryd.prog Tryd.lays156_ren := {
  sizeBuilder := by kernel_rfl
  liesBuilder := by kernel_rfl
  t5 := Tryd.underlying5
  a5 := Tryd.isAgg5
  z5 := Tryd.sizeOf5
  v5 := Tryd.zeroValue5
  infoByte := by kernel_rfl
  cellsByte := by kernel_rfl
  sizeByte := by kernel_rfl
  neB5 := by decide }
open Go.RowKit in
/-- strings.Join of at least one element. -/
theorem Tryd.strings_Join (bk o c : Nat) (xs : List ByteArray) (sep : ByteArray) (w : World) (hcells : ∀ (j : Nat) x, xs[j]? = some x → w.cell? ⟨bk, o + j, none⟩ = some (.string x)) (hbk : bk < w.heap.size) (hN : xs.length ≤ 140737488355328) (hcap : xs.length ≤ c) (hlen : (Lib.join (xs.map (·.data.toList)) sep.data.toList).length ≤ 140737488355328) :
    Calls Tryd.prog 34 #[.slice (some ⟨bk, o, none⟩) xs.length c, .string sep] w fun e w' => e = .returned (.string ⟨(Lib.join (xs.map (·.data.toList)) sep.data.toList).toArray⟩) ∧ Below w.heap.size w w' := Any.strings_Join Tryd.lays156 Tryd.Builder_Extra_156 bk o c xs sep w hcells hbk hN hcap hlen
end Go.Proofs
/-
  What the small functions of package num and of the document's own answer do to one float: walks, for every float.
-/
namespace Go.Proofs.YtlgbnfcnimjheaaDoor
open Go.RowKit Fl

theorem run_archTrunc (x : Nat) (w : World) (h : ¬ IsNaN x) : (callFunc 111 #[.float .f64 x]).run Tryd.prog w = .ok (.value (.float .f64 (truncW x))) w := by
  rw [run_callFunc_extern Tryd.func111 (by kernel_rfl) (by kernel_rfl) (by kernel_rfl) (e := Extern.MathFloor.toIntegral "math.archTrunc" .zero) (by kernel_rfl)]
  have e : Extern.MathFloor.toIntegral "math.archTrunc" .zero #[.float .f64 x] = pure (.float .f64 (truncW x)) := by
    show (match Ieee.double.read x with
      | .nan s t => _
      | d => (pure (.float .f64 (Ieee.double.write (d.integral .zero))) : Sem Value)) = _
    unfold truncW
    cases hd : Ieee.double.read x with
    | nan s t => exact absurd hd (by
        intro hd
        rcases Nat.lt_or_eq_of_le (Nat.le_of_not_lt h) with c | c
        · obtain ⟨m, e, h1, _⟩ := read_fin c
          rw [h1] at hd; cases hd
        · rw [read_inf c] at hd; cases hd)
    | number s m i => rfl
    | infinity s => rfl
  rw [e]; rfl

theorem run_Float64bits (x : Nat) (w : World) : (callFunc 72 #[.float .f64 x]).run Tryd.prog w = .ok (.value (.int .u64 x)) w := by
  rw [run_callFunc_extern Tryd.func72 (by kernel_rfl) (by kernel_rfl) (by kernel_rfl) (e := Extern.MathFloatBits.float64bits) (by kernel_rfl)]
  rfl

theorem none_any (x : Nat) (w : World) :
    Calls Tryd.prog 75 #[.float .f64 x] w fun e w' => e = .returned (.bool (FloatKind.f64.format.order x x != some .eq)) ∧ w = w' := by
  go_enter Tryd.func75, Tryd.ntmps75
  go_wp2
  go_ret
  exact ⟨rfl, rfl⟩

theorem Trunc_num (x : Nat) (w : World) (hn : ¬ IsNaN x) :
    Calls Tryd.prog 100 #[.float .f64 x] w fun e w' => e = .returned (.float .f64 (truncW x)) ∧ w = w' := by
  have ht := fun w => run_archTrunc x w hn
  go_enter Tryd.func100, Tryd.ntmps100
  go_wp2
  go_ret
  exact ⟨rfl, rfl⟩

theorem sgn_wrap (x : Nat) (_hx : x < 2 ^ 64) : decide (wrap64 (x : Int) < 0) = sgn x := by
  unfold sgn wrap64
  rw [Bool.eq_iff_iff, decide_eq_true_iff, beq_iff_eq]; omega

theorem ret_bool {a b : Bool} (h : a = b) : Ending.returned (.bool a) = .returned (.bool b) := by rw [h]
theorem ret_int {k : IntKind} {a b : Int} (h : a = b) : Ending.returned (.int k a) = .returned (.int k b) := by rw [h]

theorem Signbit_any (x : Nat) (w : World) (hx : x < 2 ^ 64) :
    Calls Tryd.prog 45 #[.float .f64 x] w fun e w' => e = .returned (.bool (sgn x)) ∧ w = w' := by
  have hb := fun w => run_Float64bits x w
  have hs : Hid (decide (wrap64 (x : Int) < 0) = sgn x) := Lib.hid (sgn_wrap x hx)
  go_enter Tryd.func45, Tryd.ntmps45
  go_wp2
  go_ret
  exact ⟨ret_bool hs.out, rfl⟩

/-- whether a float is whole and no minus nought -/
def wholeB (x : Nat) : Bool := (FloatKind.f64.format.order x (truncW x) == some .eq) && !((FloatKind.f64.format.order x 0 == some .eq) && sgn x)
def leB (x y : Nat) : Bool := FloatKind.f64.format.order x y == some .lt || FloatKind.f64.format.order x y == some .eq

theorem whole_num (x : Nat) (w : World) (hx : x < 2 ^ 64) (hn : ¬ IsNaN x) :
    Calls Tryd.prog 85 #[.float .f64 x] w fun e w' => e = .returned (.bool (wholeB x)) ∧ w = w' := by
  go_enter Tryd.func85, Tryd.ntmps85
  go_wp2_with (first | (go_at_call 100; refine (Trunc_num _ _ hn).mono ?_; rintro e w' ⟨rfl, rfl⟩) | (go_at_call 45; refine (Signbit_any _ _ hx).mono ?_; rintro e w' ⟨rfl, rfl⟩))
  all_goals (go_ret; exact ⟨ret_bool (by simp [wholeB, *]), rfl⟩)

def inB (x : Nat) : Bool := leB 14069245235905429503 x && leB x 4845873199050653695

theorem May_nan (x : Nat) (w : World) (hn : IsNaN x) :
    Calls Tryd.prog 71 #[.float .f64 x] w fun e w' => e = .returned (.bool true) ∧ w = w' := by
  have ho : FloatKind.f64.format.order x x = none := order_nan_l x hn
  go_enter Tryd.func71, Tryd.ntmps71
  go_wp2_with (first | (go_at_call 75; refine (none_any _ _).mono ?_; rintro e w' ⟨rfl, rfl⟩))
  go_ret
  exact ⟨rfl, rfl⟩

theorem May_num (x : Nat) (w : World) (hx : x < 2 ^ 64) (hn : ¬ IsNaN x) :
    Calls Tryd.prog 71 #[.float .f64 x] w fun e w' => e = .returned (.bool (wholeB x && inB x)) ∧ w = w' := by
  have ho : FloatKind.f64.format.order x x = some .eq := order_self hn
  cases hb : wholeB x
  all_goals
    have HB := Lib.hid hb
    clear hb
    go_enter Tryd.func71, Tryd.ntmps71
    go_wp2_with (first | (go_at_call 75; refine (none_any _ _).mono ?_; rintro e w' ⟨rfl, rfl⟩) | (go_at_call 85; refine (whole_num _ _ hx hn).mono ?_; rintro e w' ⟨rfl, rfl⟩; rw [HB.out]))
    all_goals (go_ret; exact ⟨ret_bool (by simp [inB, leB, *]), rfl⟩)

theorem F_safe : F 9007199254740991 = 4845873199050653695 := by decide
theorem F_nsafe : F (-9007199254740991) = 14069245235905429503 := by decide
theorem F_0 : F 0 = 0 := F_zero

def mayC (c : Cl) : Bool := match c with
  | .nan => true
  | .other => false
  | .ours _ => true

theorem wholeB_ours (n : Int) (h : n.natAbs < 2 ^ 53) : wholeB (F n) = true := by
  have e1 : FloatKind.f64.format.order (F n) (F n) = some .eq := order_self (not_nan_F n h)
  have e2 : FloatKind.f64.format.order (F n) 0 = some (compare n 0) := by
    have := order_F n 0 h (by decide)
    rw [F_zero] at this; exact this
  unfold wholeB
  rw [truncW_F n h, e1, e2, sgn_F]
  rcases Int.lt_trichotomy n 0 with c | c | c
  · rw [Int.compare_eq_lt.2 c]; simp
  · subst c; simp
  · rw [Int.compare_eq_gt.2 c]; simp

theorem inB_ours (n : Int) (h : SafeN n) : inB (F n) = true := by
  have e1 : FloatKind.f64.format.order 14069245235905429503 (F n) = some (compare (-9007199254740991) n) := by
    have := order_F (-9007199254740991) n (by decide) h.abs
    rw [F_nsafe] at this; exact this
  have e2 : FloatKind.f64.format.order (F n) 4845873199050653695 = some (compare n 9007199254740991) := by
    have := order_F n 9007199254740991 h.abs (by decide)
    rw [F_safe] at this; exact this
  obtain ⟨h1, h2⟩ := h
  unfold inB leB
  rw [e1, e2]
  have a : compare (-9007199254740991) n = .lt ∨ compare (-9007199254740991) n = .eq := by
    rcases Int.lt_or_eq_of_le h1 with c | c
    · exact Or.inl (Int.compare_eq_lt.2 c)
    · right; rw [c]; simp
  have b : compare n 9007199254740991 = .lt ∨ compare n 9007199254740991 = .eq := by
    rcases Int.lt_or_eq_of_le h2 with c | c
    · exact Or.inl (Int.compare_eq_lt.2 c)
    · right; rw [c]; simp
  rcases a with a | a <;> rcases b with b | b <;> rw [a, b] <;> rfl

theorem inB_big {x : Nat} (h : Big x) : inB x = false := by
  have e1 := (order_big h (-9007199254740991) (by decide)).2
  have e2 := (order_big h 9007199254740991 (by decide)).1
  rw [F_nsafe] at e1
  rw [F_safe] at e2
  have e1' : FloatKind.f64.format.order 14069245235905429503 x = _ := e1
  have e2' : FloatKind.f64.format.order x 4845873199050653695 = _ := e2
  unfold inB leB
  rw [e1', e2']
  cases sgn x <;> rfl

theorem wholeB_frac {x : Nat} (h : Frac x) : wholeB x = false := by
  have e : (FloatKind.f64.format.order x (truncW x) == some .eq) = false := truncW_frac h
  unfold wholeB; rw [e]; rfl
theorem wholeB_m0 : wholeB (2 ^ 63) = false := by decide

theorem big_not_nan {x : Nat} (h : Big x) : ¬ IsNaN x := by have := h.1; unfold IsNaN; omega
theorem frac_not_nan {x : Nat} (h : Frac x) : ¬ IsNaN x := by have := h.1; unfold IsFin at this; unfold IsNaN; omega
theorem m0_not_nan : ¬ IsNaN (2 ^ 63) := by unfold IsNaN rung; decide

theorem other_not_nan {x : Nat} (h : Is .other x) : ¬ IsNaN x := by
  obtain ⟨_, h | h | h⟩ := h
  · exact big_not_nan h
  · exact frac_not_nan h
  · rw [h]; exact m0_not_nan

theorem mayB_other {x : Nat} (h : Is .other x) : (wholeB x && inB x) = false := by
  obtain ⟨_, h | h | h⟩ := h
  · rw [inB_big h, Bool.and_false]
  · rw [wholeB_frac h, Bool.false_and]
  · rw [h, wholeB_m0, Bool.false_and]

/-- num.May -/
theorem May_cls {c : Cl} {x : Nat} (h : Is c x) (w : World) :
    Calls Tryd.prog 71 #[.float .f64 x] w fun e w' => e = .returned (.bool (mayC c)) ∧ w = w' := by
  have hx := h.lt
  cases c with
  | nan => exact May_nan x w h.2
  | other =>
    have := May_num x w hx (other_not_nan h)
    rw [mayB_other h] at this; exact this
  | ours n =>
    obtain ⟨rfl, hs⟩ := h
    have := May_num (F n) w hx (not_nan_F n hs.abs)
    rw [wholeB_ours n hs.abs, inB_ours n hs] at this; exact this

/-- what a reckoning comes to: no number, an error, or one of our numbers -/
inductive Res where
  | nan | err (k : Int) | ok (n : Int)
def EncR (r : Res) (v : Nat) (k : Int) : Prop := match r with
  | .nan => (v < 2 ^ 64 ∧ IsNaN v) ∧ k = 0
  | .err j => v = 0 ∧ k = j
  | .ok n => (v = F n ∧ SafeN n) ∧ k = 0
def RetR (r : Res) (w : World) (e : Ending) (w' : World) : Prop := ∃ v k n, EncR r v k ∧ e = .returned (.tuple #[.float .f64 v, .int .i64 k]) ∧ w' = w.drewN n
/-- a worth, told -/
def tellC (c : Cl) : Res := match c with
  | .nan => .nan
  | .other => .err 10
  | .ours n => .ok n

theorem tell_cls {c : Cl} {x : Nat} (h : Is c x) (w : World) :
    Calls Tryd.prog 84 #[.float .f64 x] w fun e w' => ∃ v k, EncR (tellC c) v k ∧ e = .returned (.tuple #[.float .f64 v, .int .i64 k]) ∧ w = w' := by
  have m1 := fun w => May_cls h w
  cases c
  all_goals
    unfold mayC at m1
    go_enter Tryd.func84, Tryd.ntmps84
    go_wp2_with (first | (go_at_call 71; refine (m1 _).mono ?_; rintro e w' ⟨rfl, rfl⟩))
    go_ret2
  · exact ⟨x, 0, ⟨h, rfl⟩, rfl, rfl⟩
  · exact ⟨0, 10, ⟨rfl, rfl⟩, rfl, rfl⟩
  · exact ⟨x, 0, ⟨h, rfl⟩, rfl, rfl⟩
end Go.Proofs.YtlgbnfcnimjheaaDoor
/-
  Less and Index of package num beside the document's own, for every two floats: walks.
-/
namespace Go.Proofs.YtlgbnfcnimjheaaDoor
open Go.RowKit Fl

/-- the document's whole: of our numbers the number and true, else 0 and false -/
def wholeI (c : Cl) : Int := match c with
  | .ours n => n
  | _ => 0
def wholeC (c : Cl) : Bool := match c with
  | .ours _ => true
  | _ => false

theorem order_some {x y : Nat} (hx : IsFin x) (hy : IsFin y) : ∃ o, FloatKind.f64.format.order x y = some o := ⟨_, order_fin hx hy⟩

theorem conv_run {x : Nat} {k : Int} (h : floatToIntVal .f64 x .i64 = some k) (w : World) : (convert 28 2 (.float .f64 x)).run Tryd.prog w = .ok (.int .i64 k) w :=
  run_convert_float_int w _ _ .f64 .i64 x k (by rw [Tryd.underlying28]; rfl) Tryd.underlying2 h

theorem run_archTrunc_nan (x : Nat) (w : World) : ∃ y n, (callFunc 111 #[.float .f64 x]).run Tryd.prog w = .ok (.value (.float .f64 y)) (w.drewN n) := by
  rw [run_callFunc_extern Tryd.func111 (by kernel_rfl) (by kernel_rfl) (by kernel_rfl) (e := Extern.MathFloor.toIntegral "math.archTrunc" .zero) (by kernel_rfl)]
  obtain ⟨q, hq, e⟩ : ∃ q : Question, q.forced = false ∧ Extern.MathFloor.toIntegral "math.archTrunc" .zero #[.float .f64 x] = (match Ieee.double.read x with
      | .nan s t => if FloatKind.f64.format.quiet t = t then pure (Value.float .f64 x) else do
        let kept ← choose q
        pure (.float .f64 (if kept == 1 then x else FloatKind.f64.encode (.nan s (FloatKind.f64.format.quiet t))))
      | d => pure (.float .f64 (Ieee.double.write (d.integral .zero)))) := by
    refine ⟨_, ?_, rfl⟩
    rfl
  rw [e]
  generalize Ieee.double.read x = r
  cases r with
  | number s m i => exact ⟨_, 0, rfl⟩
  | infinity s => exact ⟨_, 0, rfl⟩
  | nan s t =>
    by_cases c : FloatKind.f64.format.quiet t = t
    · exact ⟨x, 0, by simp only [if_pos c]; rfl⟩
    · refine ⟨if q.cut (w.tape w.drawn q) == 1 then x else FloatKind.f64.encode (.nan s (FloatKind.f64.format.quiet t)), 1, ?_⟩
      simp only [if_neg c, Sem.run_bind, run_choose, hq, Bool.false_eq_true, if_false, Result.andThen]
      rfl

def SomeFloat (w : World) (e : Ending) (w' : World) : Prop := ∃ y n, e = .returned (.float .f64 y) ∧ w' = w.drewN n
def DrawnBool (b : Bool) (w : World) (e : Ending) (w' : World) : Prop := ∃ n, e = .returned (.bool b) ∧ w' = w.drewN n

set_option maxRecDepth 1000000 in
theorem Trunc_nan (x : Nat) (w : World) : Calls Tryd.prog 100 #[.float .f64 x] w (SomeFloat w) := by
  obtain ⟨y, n, ht⟩ := run_archTrunc_nan x w
  go_enter Tryd.func100, Tryd.ntmps100
  go_wp2
  go_ret
  exact ⟨y, n, rfl, rfl⟩

theorem whole_nan {x : Nat} (hn : IsNaN x) (w : World) : Calls Tryd.prog 85 #[.float .f64 x] w (DrawnBool false w) := by
  have ho : ∀ y, FloatKind.f64.format.order x y = none := fun y => order_nan_l y hn
  go_enter Tryd.func85, Tryd.ntmps85
  go_wp2_with (go_at_call 100; refine (Trunc_nan _ _).mono ?_; rintro e w' ⟨y, n, rfl, rfl⟩)
  go_ret
  exact ⟨_, rfl, rfl⟩

def idxB (c : Cl) : Bool := match c with
  | .ours n => decide (0 ≤ n) && decide (n < 1024)
  | _ => false
def idxI (c : Cl) : Int := if idxB c then wholeI c else 0
def DrawnIdx (c : Cl) (w : World) (e : Ending) (w' : World) : Prop := ∃ n, e = .returned (.tuple #[.int .i64 (idxI c), .bool (idxB c)]) ∧ w' = w.drewN n

theorem F_1024 : F 1024 = 4652218415073722368 := by decide

theorem conv_run_int {x : Nat} {k : Int} (h : floatToIntVal .f64 x .i64 = some k) (w : World) : (convert 28 3 (.float .f64 x)).run Tryd.prog w = .ok (.int .i64 k) w :=
  run_convert_float_int w _ _ .f64 .i64 x k (by rw [Tryd.underlying28]; rfl) Tryd.underlying3 h

theorem Index_nan {x : Nat} (h : IsNaN x) (w : World) : Calls Tryd.prog 57 #[.float .f64 x] w (DrawnIdx .nan w) := by
  go_enter Tryd.func57, Tryd.ntmps57
  go_wp2_with (go_at_call 85; refine (whole_nan h _).mono ?_; rintro e w' ⟨n, rfl, rfl⟩)
  go_ret2
  exact ⟨_, rfl, rfl⟩

theorem Index_out {x : Nat} (hx : x < 2 ^ 64) (hn : ¬ IsNaN x) (h : wholeB x = false ∨ FloatKind.f64.format.order x 0 = some .lt ∨ (FloatKind.f64.format.order x 0 = some .gt ∧ FloatKind.f64.format.order x 4652218415073722368 = some .gt)) (w : World) :
    Calls Tryd.prog 57 #[.float .f64 x] w fun e w' => e = .returned (.tuple #[.int .i64 0, .bool false]) ∧ w = w' := by
  have hw := fun w => whole_num x w hx hn
  cases hb : wholeB x
  · rw [hb] at hw
    clear hb h
    go_enter Tryd.func57, Tryd.ntmps57
    go_wp2_with (go_at_call 85; refine (hw _).mono ?_; rintro e w' ⟨rfl, rfl⟩)
    go_ret2
    exact ⟨rfl, rfl⟩
  · rw [hb] at hw h
    clear hb
    rcases h with h | h | ⟨h1, h2⟩
    · cases h
    · go_enter Tryd.func57, Tryd.ntmps57
      go_wp2_with (go_at_call 85; refine (hw _).mono ?_; rintro e w' ⟨rfl, rfl⟩)
      go_ret2
      exact ⟨rfl, rfl⟩
    · go_enter Tryd.func57, Tryd.ntmps57
      go_wp2_with (go_at_call 85; refine (hw _).mono ?_; rintro e w' ⟨rfl, rfl⟩)
      go_ret2
      exact ⟨rfl, rfl⟩

theorem Index_ours {n : Int} (h : SafeN n) (w : World) :
    Calls Tryd.prog 57 #[.float .f64 (F n)] w fun e w' => e = .returned (.tuple #[.int .i64 (idxI (.ours n)), .bool (idxB (.ours n))]) ∧ w = w' := by
  have ha := h.abs
  have hw := fun w => whole_num (F n) w (F_lt n) (not_nan_F n ha)
  rw [wholeB_ours n ha] at hw
  have hc := fun w => conv_run_int (floatToIntVal_F n ha) w
  have e1 := order_F n 0 ha (by decide)
  have e2 := order_F n 1024 ha (by decide)
  rw [F_zero] at e1
  rw [F_1024] at e2
  obtain ⟨x, hx⟩ : ∃ x, x = F n := ⟨_, rfl⟩
  rw [← hx] at hw hc e1 e2 ⊢
  clear hx
  have c1 : (n < 0 ∧ compare n 0 = .lt ∧ idxB (.ours n) = false) ∨ (0 ≤ n ∧ compare n 0 ≠ .lt) := by
    by_cases c : n < 0
    · exact Or.inl ⟨c, Int.compare_eq_lt.2 c, by simp [idxB]; omega⟩
    · exact Or.inr ⟨by omega, fun e => c (Int.compare_eq_lt.1 e)⟩
  have c2 : (n < 1024 ∧ compare n 1024 = .lt) ∨ (1024 ≤ n ∧ compare n 1024 ≠ .lt ∧ idxB (.ours n) = false) := by
    by_cases c : n < 1024
    · exact Or.inl ⟨c, Int.compare_eq_lt.2 c⟩
    · exact Or.inr ⟨by omega, fun e => c (Int.compare_eq_lt.1 e), by simp [idxB]; omega⟩
  have o1 : FloatKind.f64.format.order x 0 = _ := e1
  have o2 : FloatKind.f64.format.order x 4652218415073722368 = _ := e2
  clear e1 e2 ha
  rcases c1 with ⟨c, d, b⟩ | ⟨c, d⟩
  · rw [d] at o1
    unfold idxI
    rw [b]
    clear c2 d b c o2
    go_enter Tryd.func57, Tryd.ntmps57
    go_wp2_with (go_at_call 85; refine (hw _).mono ?_; rintro e w' ⟨rfl, rfl⟩)
    go_ret2
    exact ⟨rfl, rfl⟩
  · rcases c2 with ⟨c', d'⟩ | ⟨c', d', b⟩
    · have b : idxB (.ours n) = true := by simp [idxB, c, c']
      rw [d'] at o2
      unfold idxI
      rw [b]
      obtain ⟨o, ho⟩ : ∃ o, compare n 0 = o := ⟨_, rfl⟩
      rw [ho] at d o1
      clear ho b d' c c'
      show Calls _ _ _ _ fun e w' => e = .returned (.tuple #[.int .i64 n, .bool true]) ∧ w = w'
      cases o
      · exact absurd rfl d
      all_goals
        clear d
        go_enter Tryd.func57, Tryd.ntmps57
        go_wp2_with (go_at_call 85; refine (hw _).mono ?_; rintro e w' ⟨rfl, rfl⟩)
        go_ret2
        exact ⟨rfl, rfl⟩
    · unfold idxI
      rw [b]
      obtain ⟨o, ho⟩ : ∃ o, compare n 0 = o := ⟨_, rfl⟩
      obtain ⟨u, hu⟩ : ∃ u, compare n 1024 = u := ⟨_, rfl⟩
      rw [ho] at d o1
      rw [hu] at d' o2
      clear ho hu b c c'
      cases o
      · exact absurd rfl d
      all_goals
        cases u
        · exact absurd rfl d'
        all_goals
          clear d d'
          go_enter Tryd.func57, Tryd.ntmps57
          go_wp2_with (go_at_call 85; refine (hw _).mono ?_; rintro e w' ⟨rfl, rfl⟩)
          go_ret2
          exact ⟨rfl, rfl⟩

theorem drewN_zero (w : World) : w = w.drewN 0 := rfl

theorem Index_cls {c : Cl} {x : Nat} (h : Is c x) (w : World) : Calls Tryd.prog 57 #[.float .f64 x] w (DrawnIdx c w) := by
  cases c with
  | nan => exact Index_nan h.2 w
  | other =>
    refine (Index_out h.lt (other_not_nan h) ?_ w).mono fun e w' ⟨he, hw⟩ => ⟨0, he, hw ▸ rfl⟩
    obtain ⟨_, h | h | h⟩ := h
    · have e1 := (order_big h 0 (by decide)).1
      have e2 := (order_big h 1024 (by decide)).1
      rw [F_zero] at e1
      rw [F_1024] at e2
      cases hs : sgn x
      · rw [hs] at e1 e2; exact Or.inr (Or.inr ⟨e1, e2⟩)
      · rw [hs] at e1; exact Or.inr (Or.inl e1)
    · exact Or.inl (wholeB_frac h)
    · exact Or.inl (by rw [h]; exact wholeB_m0)
  | ours n =>
    obtain ⟨rfl, hs⟩ := h
    exact (Index_ours hs w).mono fun e w' ⟨he, hw⟩ => ⟨0, he, hw ▸ rfl⟩

def lessV (x y : Nat) : Int := if FloatKind.f64.format.order x x != some .eq || FloatKind.f64.format.order y y != some .eq then -1 else if FloatKind.f64.format.order x y == some .lt then 1 else 0

theorem below_drawn (w : World) (n : Nat) : Below w.heap.size w (w.drewN n) := ⟨rfl, rfl, rfl, Nat.le_refl _, fun _ _ => rfl⟩

end Go.Proofs.YtlgbnfcnimjheaaDoor
/-
  What reckoning with two floats comes to, told by what the floats are: package num's operations and the document's own: walks.
-/
namespace Go.Proofs.YtlgbnfcnimjheaaDoor
open Go.RowKit Fl

theorem results_tmp4 {fn : Func} {t u v x : Tmp} (h : fn.results = #[.tmp t, .tmp u, .tmp v, .tmp x]) (tmps : Array Value) (P : Program) (w : World) :
    (results fn tmps).run P w = .ok (.tuple #[tmps.getD t undef, tmps.getD u undef, tmps.getD v undef, tmps.getD x undef]) w := by simp [results, h]

/-- the class of a whole number's word -/
def clF (n : Int) : Cl := if -9007199254740991 ≤ n ∧ n ≤ 9007199254740991 then .ours n else .other
theorem is_clF (n : Int) : Is (clF n) (F n) := by
  unfold clF
  by_cases h : -9007199254740991 ≤ n ∧ n ≤ 9007199254740991
  · rw [if_pos h]; exact ⟨rfl, h⟩
  · rw [if_neg h]; exact ⟨F_lt n, Or.inl (F_big n (by omega))⟩
def tellN (n : Int) : Res := if -9007199254740991 ≤ n ∧ n ≤ 9007199254740991 then .ok n else .err 10
theorem tell_clF (n : Int) : tellC (clF n) = tellN n := by unfold tellN clF; split <;> rfl
theorem is_m0 : Is .other (2 ^ 63) := ⟨by decide, Or.inr (Or.inr rfl)⟩
theorem other_of_frac {z : Nat} (hz : z < 2 ^ 64) (hf : IsFin z) (hm : ru (rung z) % U ≠ 0) : Is .other z := by
  by_cases b : 2 ^ 53 * U ≤ ru (rung z)
  · exact ⟨hz, Or.inl ⟨Nat.le_of_lt hf, b⟩⟩
  · exact ⟨hz, Or.inr (Or.inl ⟨hf, hm, Nat.lt_of_not_le b⟩)⟩
theorem is_inf (s : Bool) : Is .other (Ieee.double.word s Ieee.double.infRung) := by
  have e4 : Ieee.double.infRung = 2047 * 2 ^ 52 := by decide
  rw [e4]
  have w := word_sgn s (2047 * 2 ^ 52) (by decide)
  refine ⟨w.2.2, Or.inl ⟨by rw [w.2.1]; exact Nat.le_refl _, ?_⟩⟩
  rw [w.2.1]; exact ru_inf

/-- an operation that has no answer gives some NaN -/
theorem run_float_none {P : Program} {op : BinOp} {x y : Nat} (hop : op = .add ∨ op = .sub ∨ op = .mul ∨ op = .quo) (h : floatBits op .f64 x y = none) (w : World) :
    ∃ v, v < 2 ^ 64 ∧ IsNaN v ∧ ∀ t, (binOp op t (.float .f64 x) (.float .f64 y)).run P w = .ok (.float .f64 v) (w.drewN 1) := by
  refine ⟨(Question.nanBits .f64 x y).cut (w.tape w.drawn (.nanBits .f64 x y)), ?_, ?_, ?_⟩
  · unfold Question.cut; dsimp only; omega
  · unfold IsNaN rung Question.cut; dsimp only
    generalize w.tape w.drawn (Question.nanBits FloatKind.f64 x y) = t
    obtain ⟨a, ha, ha2⟩ : ∃ a, a = t % 2 ∧ a < 2 := ⟨_, rfl, Nat.mod_lt _ (by decide)⟩
    obtain ⟨b, hb, hb2⟩ : ∃ b, b = t / 2 % (2 ^ 52 - 1) ∧ b < 2 ^ 52 - 1 := ⟨_, rfl, Nat.mod_lt _ (by decide)⟩
    rw [← ha, ← hb]
    clear ha hb
    have : a = 0 ∨ a = 1 := by omega
    rcases this with c | c <;> subst c <;> omega
  · intro t
    unfold floatBits at h
    rcases hop with rfl | rfl | rfl | rfl
    all_goals
      simp only at h
      simp [binOp, Op.floatArith, h, Question.forced, World.drewN]

theorem nan_l {op : BinOp} {x : Nat} (y : Nat) (h : IsNaN x) : floatBits op .f64 x y = none := by
  obtain ⟨t, hr⟩ := read_nan h
  have h2 : FloatKind.f64.format.read x = .nan (sgn x) t := hr
  unfold floatBits
  cases op <;> first | rfl | (simp only [Ieee.Format.add, Ieee.Format.sub, Ieee.Format.mul, Ieee.Format.div, h2]; rfl)

theorem nan_r {op : BinOp} (x : Nat) {y : Nat} (h : IsNaN y) : floatBits op .f64 x y = none := by
  obtain ⟨t, hr⟩ := read_nan h
  have h2 : FloatKind.f64.format.read y = .nan (sgn y) t := hr
  unfold floatBits
  cases op <;> first | rfl | (simp only [Ieee.Format.add, Ieee.Format.sub, Ieee.Format.mul, Ieee.Format.div, h2]; cases FloatKind.f64.format.read x <;> rfl)

/-- the class of a sum, a difference, a product, a quotient of our numbers, and its word -/
def SomeNaN (w : World) (e : Ending) (w' : World) : Prop := ∃ v n, (v < 2 ^ 64 ∧ IsNaN v) ∧ e = .returned (.float .f64 v) ∧ w' = w.drewN n

def twoV (c d : Cl) : Value := if mayC c && mayC d then .tuple #[.int .i64 (wholeI c), .int .i64 (wholeI d), .bool (!wholeC c || !wholeC d), .int .i64 0] else .tuple #[.int .i64 0, .int .i64 0, .bool false, .int .i64 2]

def EncV (r : Res) (w : World) (e : Ending) (w' : World) : Prop := ∃ v k, EncR r v k ∧ e = .returned (.tuple #[.float .f64 v, .int .i64 k]) ∧ w = w'

/-- a reckoning of two of our numbers by f; an error where one is none of ours, no number where one is no number -/
def opR (f : Int → Int → Res) (c d : Cl) : Res := match c, d with
  | .other, _ => .err 2
  | _, .other => .err 2
  | .ours a, .ours b => f a b
  | _, _ => .nan

theorem retR_err (k : Int) (w : World) : RetR (.err k) w (.returned (.tuple #[.float .f64 0, .int .i64 k])) w := ⟨0, k, 0, ⟨rfl, rfl⟩, rfl, rfl⟩
theorem retR_of {r : Res} {v : Nat} {k : Int} (h : EncR r v k) (w : World) (n : Nat) : RetR r w (.returned (.tuple #[.float .f64 v, .int .i64 k])) (w.drewN n) := ⟨v, k, n, h, rfl, rfl⟩

/-- one operation of two of our numbers, of any class: what it comes to -/
def Worth (op : BinOp) (f : Int → Int → Res) : Prop := ∀ a b : Int, SafeN a → SafeN b →
  (∃ c z, floatBits op .f64 (F a) (F b) = some z ∧ Is c z ∧ tellC c = f a b) ∨ (floatBits op .f64 (F a) (F b) = none ∧ f a b = .nan)

def sumR (a b : Int) : Res := tellN (a + b)
def subR (a b : Int) : Res := tellN (a - b)
def mulR (a b : Int) : Res := if a = 0 ∨ b = 0 then (if a < 0 ∨ b < 0 then .err 10 else .ok 0) else tellN (a * b)
def divR (a b : Int) : Res := if b = 0 then (if a = 0 then .nan else .err 10) else if a = 0 then (if b < 0 then .err 10 else .ok 0) else if a.tmod b ≠ 0 then .err 10 else .ok (a.tdiv b)
def remR (a b : Int) : Res := if b = 0 then .nan else if a < 0 ∧ a.tmod b = 0 then .err 10 else .ok (a.tmod b)
def negR (a : Int) : Res := if a = 0 then .err 10 else .ok (-a)

theorem word_f0 : Ieee.double.word false 0 = F 0 := by decide
theorem word_t0 : Ieee.double.word true 0 = 2 ^ 63 := by decide

theorem worth_add : Worth .add sumR := fun a b ha hb => Or.inl ⟨_, _, add_F a b ha.abs hb.abs, is_clF _, tell_clF _⟩
theorem worth_sub : Worth .sub subR := fun a b ha hb => Or.inl ⟨_, _, sub_F a b ha.abs hb.abs, is_clF _, tell_clF _⟩
theorem worth_mul : Worth .mul mulR := by
  intro a b ha hb
  left
  have h : floatBits .mul .f64 (F a) (F b) = _ := mul_F a b ha.abs hb.abs
  unfold mulR
  by_cases c : a = 0 ∨ b = 0
  · rw [if_pos c] at h ⊢
    by_cases d : a < 0 ∨ b < 0
    · rw [if_pos d]
      refine ⟨.other, _, h, ?_, rfl⟩
      have : (decide (a < 0) ^^ decide (b < 0)) = true := by
        rcases c with c | c <;> rcases d with d | d <;> simp [c, d] <;> omega
      rw [this, word_t0]; exact is_m0
    · rw [if_neg d]
      refine ⟨.ours 0, _, h, ?_, rfl⟩
      have : (decide (a < 0) ^^ decide (b < 0)) = false := by
        have d1 : ¬ a < 0 := fun e => d (Or.inl e)
        have d2 : ¬ b < 0 := fun e => d (Or.inr e)
        simp [d1, d2]
      rw [this, word_f0]; exact ⟨rfl, by unfold SafeN; omega⟩
  · rw [if_neg c] at h ⊢
    exact ⟨_, _, h, is_clF _, tell_clF _⟩
theorem worth_div : Worth .quo divR := by
  intro a b ha hb
  unfold divR
  by_cases b0 : b = 0
  · subst b0
    rw [if_pos rfl]
    by_cases a0 : a = 0
    · subst a0; right; exact ⟨div_zero_zero, rfl⟩
    · rw [if_neg a0]; left
      exact ⟨.other, _, div_zero_r a ha.abs a0, is_inf _, rfl⟩
  · rw [if_neg b0]
    left
    by_cases a0 : a = 0
    · subst a0
      rw [if_pos rfl]
      have h : floatBits .quo .f64 (F 0) (F b) = _ := div_zero_l b hb.abs b0
      by_cases d : b < 0
      · rw [if_pos d]
        refine ⟨.other, _, h, ?_, rfl⟩
        rw [decide_eq_true d, word_t0]; exact is_m0
      · rw [if_neg d]
        refine ⟨.ours 0, _, h, ?_, rfl⟩
        rw [decide_eq_false d, word_f0]; exact ⟨rfl, by unfold SafeN; omega⟩
    · rw [if_neg a0]
      by_cases m : a.tmod b = 0
      · rw [if_neg (by simp [m])]
        have hq : a = a.tdiv b * b := by
          have := Int.tmod_add_mul_tdiv a b
          rw [m, Int.zero_add, Int.mul_comm] at this; exact this.symm
        refine ⟨.ours (a.tdiv b), _, div_F a b ha.abs hb.abs a0 b0 _ hq, ⟨rfl, ?_⟩, rfl⟩
        have h1 : (a.tdiv b).natAbs ≤ a.natAbs := by
          rw [Int.natAbs_tdiv]; exact Nat.div_le_self _ _
        have := ha; unfold SafeN at this ⊢; omega
      · rw [if_pos m]
        obtain ⟨z, h, hz, hf, hm⟩ := div_F_frac a b ha.abs hb.abs b0 (by
          intro q hq
          apply m
          have : a.natAbs % b.natAbs = 0 := by rw [hq]; exact Nat.mul_mod_left _ _
          have h2 : (a.tmod b).natAbs = a.natAbs % b.natAbs := Int.natAbs_tmod a b
          omega)
        exact ⟨.other, z, h, other_of_frac hz hf hm, rfl⟩

/-- an operation of package num that asks 'both', reckons, and tells: all of them at once -/
theorem reckon {op : BinOp} {f : Int → Int → Res} {c d : Cl} {x y : Nat} (hop : op = .add ∨ op = .sub ∨ op = .mul ∨ op = .quo) (hf : Worth op f) (h : Is c x) (g : Is d y) (hm : (mayC c && mayC d) = true) (w : World) :
    ∃ e z n, Is e z ∧ tellC e = opR f c d ∧ ∀ t, (binOp op t (.float .f64 x) (.float .f64 y)).run Tryd.prog w = .ok (.float .f64 z) (w.drewN n) := by
  have key : (∃ e z, floatBits op .f64 x y = some z ∧ Is e z ∧ tellC e = opR f c d) ∨ (floatBits op .f64 x y = none ∧ opR f c d = .nan) := by
    cases c with
    | other => cases hm
    | nan =>
      cases d with
      | other => cases hm
      | nan => exact Or.inr ⟨nan_l y h.2, rfl⟩
      | ours b => exact Or.inr ⟨nan_l y h.2, rfl⟩
    | ours a =>
      cases d with
      | other => cases hm
      | nan => exact Or.inr ⟨nan_r x g.2, rfl⟩
      | ours b =>
        obtain ⟨rfl, ha⟩ := h
        obtain ⟨rfl, hb⟩ := g
        rcases hf a b ha hb with ⟨e, z, h1, h2, h3⟩ | ⟨h1, h2⟩
        · exact Or.inl ⟨e, z, h1, h2, h3⟩
        · exact Or.inr ⟨h1, h2⟩
  rcases key with ⟨e, z, h1, h2, h3⟩ | ⟨h1, h2⟩
  · exact ⟨e, z, 0, h2, h3, fun t => run_float_arith w op t .f64 x y z h1⟩
  · obtain ⟨v, v1, v2, v3⟩ := run_float_none (P := Tryd.prog) hop h1 w
    exact ⟨.nan, v, 1, ⟨v1, v2⟩, h2.symm, v3⟩

theorem opR_no {f : Int → Int → Res} {c d : Cl} (hm : (mayC c && mayC d) = false) : opR f c d = .err 2 := by
  cases c <;> cases d <;> first | rfl | cases hm

end Go.Proofs.YtlgbnfcnimjheaaDoor
