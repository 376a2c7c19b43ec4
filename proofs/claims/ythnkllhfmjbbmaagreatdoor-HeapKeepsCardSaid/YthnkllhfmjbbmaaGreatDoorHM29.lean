/-
  A heap in memory: an object's cells, values in them; what tells an object's kind, and what it has.
-/
import Derived.Test.YthnkllhfmjbbmaaGreatDoorHM28
import Derived.RangeFuncNested
import Derived.RangeFuncBound
import Derived.RangeFuncCalls
import Derived.RangeFuncLeaves
import Derived.Shelf.Abstract
import Derived.Shelf.RegionOpen
import Derived.WalkKit
import Derived.OwnWalkIn
import Derived.TacticsInMore
import Derived.LoopNIn
import Derived.LoopIn
namespace Go.Proofs.YthnkllhfmjbbmaaGreatDoor.S
open Go.RowKit Go.Lib Fl
open Classical

theorem osz : (Tryz.prog.info? 34).map (·.size) = some 18 := by kernel_rfl
theorem vsz4 : (Tryz.prog.info? 31).map (·.size) = some 4 := by kernel_rfl
/-- a value's cells -/
structure VAt (w : World) (A : Addr) (v : Vq) : Prop where
  lt : A.block < w.heap.size
  k : w.cell? A = some (.int .u8 v.k)
  x : w.cell? ⟨A.block, A.off + 1, none⟩ = some (.float .f64 v.x)
  s : w.cell? ⟨A.block, A.off + 2, none⟩ = some (.string v.s)
  r : w.cell? ⟨A.block, A.off + 3, none⟩ = some (.int .i64 v.r)
theorem VAt.up {w w' : World} {A : Addr} {v : Vq} (h : VAt w A v) (hb : Below w.heap.size w w') : VAt w' A v :=
  ⟨Nat.lt_of_lt_of_le h.lt hb.size, (hb.cell (p := A) h.lt).trans h.k, (hb.cell (p := ⟨A.block, A.off + 1, none⟩) h.lt).trans h.x, (hb.cell (p := ⟨A.block, A.off + 2, none⟩) h.lt).trans h.s, (hb.cell (p := ⟨A.block, A.off + 3, none⟩) h.lt).trans h.r⟩
/-- an object's cells -/
structure OF (w : World) (A : Addr) (o : Ob) : Prop where
  lt : A.block < w.heap.size
  kind : w.cell? A = some (.int .u8 o.kind)
  proto : VAt w ⟨A.block, A.off + 1, none⟩ o.proto
  ext : w.cell? ⟨A.block, A.off + 5, none⟩ = some (.bool o.ext)
  props : w.cell? ⟨A.block, A.off + 6, none⟩ = some (.slice o.pa o.props.length o.pc)
  target : VAt w ⟨A.block, A.off + 7, none⟩ o.target
  handler : VAt w ⟨A.block, A.off + 11, none⟩ o.handler
  text : w.cell? ⟨A.block, A.off + 15, none⟩ = some (.string o.text)
  calls : w.cell? ⟨A.block, A.off + 16, none⟩ = some (.bool o.calls)
  makes : w.cell? ⟨A.block, A.off + 17, none⟩ = some (.bool o.makes)
theorem OF.up {w w' : World} {A : Addr} {o : Ob} (h : OF w A o) (hb : Below w.heap.size w w') : OF w' A o :=
  ⟨Nat.lt_of_lt_of_le h.lt hb.size, (hb.cell (p := A) h.lt).trans h.kind, h.proto.up hb, (hb.cell (p := ⟨A.block, A.off + 5, none⟩) h.lt).trans h.ext, (hb.cell (p := ⟨A.block, A.off + 6, none⟩) h.lt).trans h.props,
   h.target.up hb, h.handler.up hb, (hb.cell (p := ⟨A.block, A.off + 15, none⟩) h.lt).trans h.text, (hb.cell (p := ⟨A.block, A.off + 16, none⟩) h.lt).trans h.calls, (hb.cell (p := ⟨A.block, A.off + 17, none⟩) h.lt).trans h.makes⟩
theorem of_cells {w : World} {A : Addr} {o : Ob} (hlt : A.block < w.heap.size) (h : ∀ j u, (ocl o)[j]? = some u → w.cell? (A.add j) = some u) : OF w A o :=
  ⟨hlt, h 0 _ rfl, ⟨hlt, h 1 _ rfl, h 2 _ rfl, h 3 _ rfl, h 4 _ rfl⟩, h 5 _ rfl, h 6 _ rfl, ⟨hlt, h 7 _ rfl, h 8 _ rfl, h 9 _ rfl, h 10 _ rfl⟩, ⟨hlt, h 11 _ rfl, h 12 _ rfl, h 13 _ rfl, h 14 _ rfl⟩, h 15 _ rfl, h 16 _ rfl, h 17 _ rfl⟩
theorem of_back {w : World} {A : Addr} {o : Ob} (h : OF w A o) : ∀ j u, (ocl o)[j]? = some u → w.cell? (A.add j) = some u := fun j u hu => by
  match j, hu with
  | 0, hu => cases hu; exact h.kind
  | 1, hu => cases hu; exact h.proto.k
  | 2, hu => cases hu; exact h.proto.x
  | 3, hu => cases hu; exact h.proto.s
  | 4, hu => cases hu; exact h.proto.r
  | 5, hu => cases hu; exact h.ext
  | 6, hu => cases hu; exact h.props
  | 7, hu => cases hu; exact h.target.k
  | 8, hu => cases hu; exact h.target.x
  | 9, hu => cases hu; exact h.target.s
  | 10, hu => cases hu; exact h.target.r
  | 11, hu => cases hu; exact h.handler.k
  | 12, hu => cases hu; exact h.handler.x
  | 13, hu => cases hu; exact h.handler.s
  | 14, hu => cases hu; exact h.handler.r
  | 15, hu => cases hu; exact h.text
  | 16, hu => cases hu; exact h.calls
  | 17, hu => cases hu; exact h.makes
  | n + 18, hu => cases hu
/-- objects in a row, and their properties, wherever they lie -/
def HRow (w : World) (A : Option Addr) (H : List Ob) : Prop := 0 < H.length → ∃ a, A = some a ∧ a.block < w.heap.size ∧ ∀ i (h : i < H.length), OF w (a.add (i * 18)) H[i] ∧ PR w H[i].pa H[i].props
theorem hrow_up {w w' : World} {A : Option Addr} {H : List Ob} (h : HRow w A H) (hb : Below w.heap.size w w') : HRow w' A H := fun hp => by
  obtain ⟨a, h1, h2, h3⟩ := h hp
  exact ⟨a, h1, Nat.lt_of_lt_of_le h2 hb.size, fun i hi => ⟨(h3 i hi).1.up hb, pr_up (h3 i hi).2 hb⟩⟩
/-- a heap that may come in -/
structure HIn (w : World) (A : Option Addr) (H : List Ob) (cap : Nat) : Prop where
  inn : ∀ o ∈ H, o.In
  row : HRow w A H
  few : H.length ≤ 5000
  pfew : ∀ o ∈ H, o.props.length < 1000000000000
  room : H.length ≤ cap
  cap63 : cap < 9223372036854775808
  nil : A = none → cap = 0
theorem HIn.up {w w' : World} {A : Option Addr} {H : List Ob} {cap : Nat} (h : HIn w A H cap) (hb : Below w.heap.size w w') : HIn w' A H cap := ⟨h.inn, hrow_up h.row hb, h.few, h.pfew, h.room, h.cap63, h.nil⟩
theorem HIn.at {w : World} {A : Option Addr} {H : List Ob} {cap : Nat} (h : HIn w A H cap) {i : Nat} (hi : i < H.length) : ∃ a, A = some a ∧ (a.add (i * 18)).block < w.heap.size ∧ OF w (a.add (i * 18)) H[i] ∧ PR w H[i].pa H[i].props := by
  obtain ⟨a, h1, h2, h3⟩ := h.row (by omega)
  exact ⟨a, h1, by rw [add_blk]; exact h2, h3 i hi⟩
section
variable {ops : Array Oper} {rest : List Oper} {o : Oper} {a : Act} {w : World} {Q : Exit → Act → World → Prop} {x y : Operand} {g i : Nat} {t : TypeId}
/-- a value loaded -/
theorem va_load {A : Addr} {v : Vq} (hw : Region.wanted o (yielded ops a.tmps) = true) (ho : o.op = .load 31 x) (hx : a.eval x = .pointer (some A)) (hv : VAt w A v)
    (h : wpList Tryz.prog ops Q rest (a.put o.dst (.agg #[.int .u8 v.k, .float .f64 v.x, .string v.s, .int .i64 v.r])) w) : wpList Tryz.prog ops Q (o :: rest) a w :=
  wpList_wanted hw fun _ hK => wp_load_at (cs := [.int .u8 v.k, .float .f64 v.x, .string v.s, .int .i64 v.r]) ho hx (fun j u hu => by
    match j, hu with
    | 0, hu => cases hu; exact hv.k
    | 1, hu => cases hu; exact hv.x
    | 2, hu => cases hu; exact hv.s
    | 3, hu => cases hu; exact hv.r
    | n + 4, hu => cases hu) Tryz.underlying31 rfl vsz4 (hK _ _ h)
end
theorem veq0 (v : Vq) (w : World) : (Op.equalIn (9998 + 2) 31 (.agg #[.int .u8 v.k, .float .f64 v.x, .string v.s, .int .i64 v.r]) (.agg #[.int .u8 0, .float .f64 0, .string ⟨#[]⟩, .int .i64 0])).run Tryz.prog w = .ok v.z w := eq_val 9998 v.k v.x v.s v.r w
section
variable {ops : Array Oper} {rest : List Oper} {o : Oper} {a : Act} {w : World} {Q : Exit → Act → World → Prop} {x y : Operand}
theorem ex_eqz {v : Vq} (ho : o.op = .binOp .eql 31 x y 31) (hx : a.eval x = .agg #[.int .u8 v.k, .float .f64 v.x, .string v.s, .int .i64 v.r]) (hy : a.eval y = .agg #[.int .u8 0, .float .f64 0, .string ⟨#[]⟩, .int .i64 0]) :
    (execOp a.eval o).run Tryz.prog w = .ok (.value (.bool v.z)) w := by
  have he := veq0 v w
  unfold execOp
  simp only [ho, hx, hy, Sem.run_bind, Sem.run_pure, run_eqGuard_agg w _ _ _ _ _ _ (show Tryz.prog.eqGuardType Tryz.prog.depth 31 = false by kernel_rfl), run_eql_struct, he, Result.andThen_ok]
/-- a value held against the zero one -/
theorem vz_eq {v : Vq} (hw : Region.wanted o (yielded ops a.tmps) = true) (ho : o.op = .binOp .eql 31 x y 31) (hx : a.eval x = .agg #[.int .u8 v.k, .float .f64 v.x, .string v.s, .int .i64 v.r]) (hy : a.eval y = .agg #[.int .u8 0, .float .f64 0, .string ⟨#[]⟩, .int .i64 0])
    (h : wpList Tryz.prog ops Q rest (a.put o.dst (.bool v.z)) w) : wpList Tryz.prog ops Q (o :: rest) a w :=
  wpList_wanted hw fun K hK => by
    unfold Oper.wp
    rw [ex_eqz ho hx hy]
    exact hK _ _ h
end
theorem kind_h (A : Addr) (o : Ob) (w : World) (h : OF w A o) : Calls Tryz.prog 116 #[.pointer (some A)] w fun e w' => e = .returned (.int .u8 (kindO o)) ∧ w' = w := by
  have h1 := h.calls
  have h2 := h.makes
  have h0 := h.lt
  unfold kindO
  clear h
  generalize o.calls = b at *
  generalize o.makes = c at *
  cases b <;> cases c
  all_goals
    go_enter Tryz.func116, Tryz.ntmps116
    go_wp2
    go_ret
    exact ⟨rfl, rfl⟩
set_option maxRecDepth 100000 in
theorem alone_h (A : Addr) (o : Ob) (w : World) (h : OF w A o) : Calls Tryz.prog 119 #[.pointer (some A)] w fun e w' => e = .returned (.bool (aloneB o)) ∧ w' = w := by
  have h1 := h.target
  have h2 := h.handler
  have h0 := h.lt
  unfold aloneB
  clear h
  cases e1 : o.target.z <;> cases e2 : o.handler.z
  all_goals
    go_enter Tryz.func119, Tryz.ntmps119
    go_wp2_with (first
      | ((with_reducible refine va_load ?_ rfl rfl h1 ?_); (rfl))
      | ((with_reducible refine va_load ?_ rfl rfl h2 ?_); (rfl))
      | ((with_reducible refine vz_eq (v := o.target) ?_ rfl rfl rfl ?_); (rfl); rw [e1])
      | ((with_reducible refine vz_eq (v := o.handler) ?_ rfl rfl rfl ?_); (rfl); rw [e2]))
    go_ret
    exact ⟨rfl, rfl⟩
theorem bare_h (A : Addr) (o : Ob) (w : World) (h : OF w A o) : Calls Tryz.prog 117 #[.pointer (some A)] w fun e w' => e = .returned (.bool (bareB o)) ∧ w' = w := by
  have h1 := h.text
  have h0 := h.lt
  have c1 := alone_h A o w h
  unfold bareB
  clear h
  generalize aloneB o = b at *
  generalize o.text = s at *
  cases b with
  | false =>
    go_enter Tryz.func117, Tryz.ntmps117
    go_wp2_with (go_at_call 119; (with_reducible refine c1.mono ?_); rintro e w1 ⟨rfl, rfl⟩)
    go_ret
    exact ⟨rfl, rfl⟩
  | true =>
    go_enter Tryz.func117, Tryz.ntmps117
    go_wp2_with (go_at_call 119; (with_reducible refine c1.mono ?_); rintro e w1 ⟨rfl, rfl⟩)
    go_ret
    exact ⟨by first | rfl | simp, rfl⟩
theorem IsObject_q (v : Vq) (h : 0 ≤ v.k) (w : World) : Calls Tryz.prog 66 #[.agg #[.int .u8 v.k, .float .f64 v.x, .string v.s, .int .i64 v.r]] w fun e w' => e = .returned (.bool (objQ v)) ∧ Below w.heap.size w w' := by
  obtain ⟨k, x, s, r⟩ := v
  obtain ⟨n, rfl⟩ := Int.eq_ofNat_of_zero_le h
  have := IsObject_v n x s r w
  unfold objQ
  unfold objB at this
  dsimp only at this ⊢
  refine this.mono fun e w' ⟨he, hb⟩ => ⟨he.trans ?_, hb⟩
  have k6 : ((n : Int) == 6) = (n == 6) := kd_eq n 6
  have k7 : ((n : Int) == 7) = (n == 7) := kd_eq n 7
  have k8 : ((n : Int) == 8) = (n == 8) := kd_eq n 8
  rw [k6, k7, k8, Bool.or_assoc]
theorem ahead_h (v : Vq) (h : 0 ≤ v.k) (n : Nat) (w : World) : Calls Tryz.prog 162 #[.agg #[.int .u8 v.k, .float .f64 v.x, .string v.s, .int .i64 v.r], .int .i64 (n : Int)] w fun e w' => e = .returned (.bool (aheadB v n)) ∧ Below w.heap.size w w' := by
  have c1 := fun w => IsObject_q v h w
  have hb := heap_alloc_new w (.cells #[.int .u8 v.k, .float .f64 v.x, .string v.s, .int .i64 v.r] 31)
  obtain ⟨q0, q1, q2, q3, _⟩ := vc4 hb
  unfold aheadB
  generalize objQ v = b at *
  cases b with
  | false =>
    go_enter Tryz.func162, Tryz.ntmps162
    go_wp2_with (go_at_call 66; (with_reducible refine (c1 _).mono ?_); rintro e w1 ⟨rfl, h1⟩; obtain ⟨q0, q1, q2, q3, _⟩ := vc4 (vblkn h1 hb); have hB := vafter h1)
    go_ret
    exact ⟨rfl, hB⟩
  | true =>
    go_enter Tryz.func162, Tryz.ntmps162
    go_wp2_with (go_at_call 66; (with_reducible refine (c1 _).mono ?_); rintro e w1 ⟨rfl, h1⟩; obtain ⟨q0, q1, q2, q3, _⟩ := vc4 (vblkn h1 hb); have hB := vafter h1)
    go_ret
    exact ⟨by first | rfl | simp, hB⟩
end Go.Proofs.YthnkllhfmjbbmaaGreatDoor.S
/-
  heap.values: an iterator over all that stands in an object.
-/
namespace Go.Proofs.YthnkllhfmjbbmaaGreatDoor.S
open Go.RowKit Go.Lib Fl Go.Shelf
open Classical
attribute [local go_sem] Oper.semAt_some

def encV (v : Vq) : Array Value := #[.agg #[.int .u8 v.k, .float .f64 v.x, .string v.s, .int .i64 v.r]]
theorem values_h (A : Addr) (w : World) : Calls Tryz.prog 75 #[.pointer (some A)] w fun e w' => e = .returned (.func (.func 114) #[] #[.pointer (some ⟨w.heap.size, 0, none⟩)]) ∧ w' = w.alloc (.cells #[.pointer (some A)] 121) := by
  go_enter Tryz.func75, Tryz.ntmps75
  go_wp2
  go_ret
  exact ⟨rfl, rfl⟩
/-- the values that stand in an object ahead of its i-th property -/
def valsN (o : Ob) (i : Nat) : List Vq := [o.proto, o.target, o.handler] ++ (o.props.take i).flatMap fun p => [p.d.a, p.d.b, p.d.c]
theorem vals_all (o : Ob) : valsN o o.props.length = valsO o := by unfold valsN valsO; rw [List.take_length]
theorem vals_step (o : Ob) (i : Nat) (h : i < o.props.length) : valsN o (i + 1) = valsN o i ++ [o.props[i].d.a] ++ [o.props[i].d.b] ++ [o.props[i].d.c] := by
  unfold valsN
  rw [take_snoc h, List.flatMap_append]
  simp
theorem vals_len (o : Ob) (i : Nat) (h : i ≤ o.props.length) : (valsN o i).length = 3 + 3 * i := by
  unfold valsN
  have : ∀ L : List Pq, (L.flatMap fun p => [p.d.a, p.d.b, p.d.c]).length = 3 * L.length := fun L => by
    induction L with
    | nil => rfl
    | cons x r ih => rw [List.flatMap_cons, List.length_append, ih, List.length_cons]; simp; omega
  rw [List.length_append, this, List.length_take]
  simp; omega
theorem vals_pre (o : Ob) (i : Nat) : valsN o i <+: valsO o := by
  rw [← vals_all]
  unfold valsN
  refine ⟨(o.props.drop i).flatMap fun p => [p.d.a, p.d.b, p.d.c], ?_⟩
  rw [List.append_assoc, ← List.flatMap_append, List.take_append_drop, List.take_length]
end Go.Proofs.YthnkllhfmjbbmaaGreatDoor.S
/-
  heap.values$1: the iterator itself.
-/
namespace Go.Proofs.YthnkllhfmjbbmaaGreatDoor.S
open Go.RowKit Go.Lib Fl Go.Shelf
open Classical
attribute [local go_sem] Oper.semAt_some

/-- what a round keeps: all that lay when the function began, and the iterator's box -/
structure KB (n0 Bn : Nat) (W W' : World) : Prop where
  size : W.heap.size ≤ W'.heap.size
  blk : ∀ b, (b < n0 ∨ b = Bn) → b < W.heap.size → W'.heap[b]? = W.heap[b]?
theorem KB.trans {n0 Bn : Nat} {X Y Z : World} (h : KB n0 Bn X Y) (g : KB n0 Bn Y Z) : KB n0 Bn X Z := ⟨Nat.le_trans h.size g.size, fun b hb hl => (g.blk b hb (Nat.lt_of_lt_of_le hl h.size)).trans (h.blk b hb hl)⟩
theorem KB.of_below {n0 Bn : Nat} {W W' : World} (h : Below W.heap.size W W') : KB n0 Bn W W' := ⟨h.size, fun b _ hl => h.block b hl⟩
theorem KB.putObj {n0 Bn l : Nat} {W : World} {o' : Obj} (h1 : n0 ≤ l) (h2 : Bn < l) : KB n0 Bn W (W.putObj l o') := ⟨by simp [World.putObj], fun b hb _ => World.putObj_heap_other (by omega)⟩
/-- all that lay when the function began lies as it lay -/
structure Kw (w W : World) : Prop where
  size : w.heap.size ≤ W.heap.size
  blk : ∀ b, b < w.heap.size → W.heap[b]? = w.heap[b]?
theorem Kw.cell {w W : World} (h : Kw w W) {p : Addr} (hp : p.block < w.heap.size) : W.cell? p = w.cell? p := World.cell?_of_block (w := w) (h.blk p.block hp)
theorem Kw.of_below {w W : World} (h : Below w.heap.size w W) : Kw w W := ⟨h.size, fun b hb => h.block b hb⟩
theorem Kw.kb {w W W' : World} {Bn : Nat} (h : Kw w W) (k : KB w.heap.size Bn W W') : Kw w W' := ⟨Nat.le_trans h.size k.size, fun b hb => (k.blk b (.inl hb) (Nat.lt_of_lt_of_le hb h.size)).trans (h.blk b hb)⟩
theorem VAt.kw {w W : World} {A : Addr} {v : Vq} (h : VAt w A v) (hb : Kw w W) : VAt W A v :=
  ⟨Nat.lt_of_lt_of_le h.lt hb.size, (hb.cell (p := A) h.lt).trans h.k, (hb.cell (p := ⟨A.block, A.off + 1, none⟩) h.lt).trans h.x, (hb.cell (p := ⟨A.block, A.off + 2, none⟩) h.lt).trans h.s, (hb.cell (p := ⟨A.block, A.off + 3, none⟩) h.lt).trans h.r⟩
theorem OF.kw {w W : World} {A : Addr} {o : Ob} (h : OF w A o) (hb : Kw w W) : OF W A o :=
  ⟨Nat.lt_of_lt_of_le h.lt hb.size, (hb.cell (p := A) h.lt).trans h.kind, h.proto.kw hb, (hb.cell (p := ⟨A.block, A.off + 5, none⟩) h.lt).trans h.ext, (hb.cell (p := ⟨A.block, A.off + 6, none⟩) h.lt).trans h.props,
   h.target.kw hb, h.handler.kw hb, (hb.cell (p := ⟨A.block, A.off + 15, none⟩) h.lt).trans h.text, (hb.cell (p := ⟨A.block, A.off + 16, none⟩) h.lt).trans h.calls, (hb.cell (p := ⟨A.block, A.off + 17, none⟩) h.lt).trans h.makes⟩
theorem pr_kw {w W : World} {A : Option Addr} {L : List Pq} (h : PR w A L) (hb : Kw w W) : PR W A L := fun hp => by
  obtain ⟨a, h1, h2, h3⟩ := h hp
  refine ⟨a, h1, Nat.lt_of_lt_of_le h2 hb.size, fun i hi j u hu => ?_⟩
  rw [hb.cell (by rw [add_blk]; exact h2)]
  exact h3 i hi j u hu
abbrev Vin := { v : Vq // v.In }
def Vin.out (v : Vin) : Vq := v.1
def encI (v : Vin) : Array Value := encV v.1
/-- the values of a property's descriptor -/
theorem pr_vals {w : World} {a : Addr} {L : List Pq} (h : PR w (some a) L) {i : Nat} (hi : i < L.length) :
    VAt w ⟨(a.add (i * 18)).block, (a.add (i * 18)).off + 3, none⟩ L[i].d.a ∧ VAt w ⟨(a.add (i * 18)).block, (a.add (i * 18)).off + 7, none⟩ L[i].d.b ∧ VAt w ⟨(a.add (i * 18)).block, (a.add (i * 18)).off + 11, none⟩ L[i].d.c := by
  obtain ⟨b, hb, hlt, hc⟩ := h (by omega)
  obtain rfl := Option.some.inj hb
  have hl : (a.add (i * 18)).block < w.heap.size := by rw [add_blk]; exact hlt
  have hcc : ∀ j u, (pcl L[i])[j]? = some u → w.cell? ((a.add (i * 18)).add j) = some u := fun j u hu => by rw [add_add]; exact hc i hi j u hu
  exact ⟨⟨hl, hcc 3 _ rfl, hcc 4 _ rfl, hcc 5 _ rfl, hcc 6 _ rfl⟩, ⟨hl, hcc 7 _ rfl, hcc 8 _ rfl, hcc 9 _ rfl, hcc 10 _ rfl⟩, ⟨hl, hcc 11 _ rfl, hcc 12 _ rfl, hcc 13 _ rfl, hcc 14 _ rfl⟩⟩
/-- what the iterator holds on to -/
structure Is (w : World) (Bn : Nat) (A : Addr) (W : World) : Prop where
  kw : Kw w W
  b : W.heap[Bn]? = some (.cells #[.pointer (some A)] 121 (0, 0))
theorem Is.kb {w W W' : World} {Bn : Nat} {A : Addr} (h : Is w Bn A W) (k : KB w.heap.size Bn W W') : Is w Bn A W' := ⟨h.kw.kb k, (k.blk Bn (.inr rfl) (lt_blk h.b)).trans h.b⟩
theorem Is.c {w W : World} {Bn : Nat} {A : Addr} (h : Is w Bn A W) : W.cell? ⟨Bn, 0, none⟩ = some (.pointer (some A)) := (vcells h.b 0).trans rfl
theorem lt_0 (m : Nat) : 0 < 3 + 3 * m := by omega
theorem lt_1 (m : Nat) : 1 < 3 + 3 * m := by omega
theorem lt_2 (m : Nat) : 2 < 3 + 3 * m := by omega
theorem len_0 {α : Type} {pre : List α} {i m : Nat} (h : pre.length = 3 + 3 * i) (hi : i < m) : pre.length < 3 + 3 * m := by omega
theorem len_1 {α : Type} {pre : List α} {x : α} {i m : Nat} (h : pre.length = 3 + 3 * i) (hi : i < m) : (pre ++ [x]).length < 3 + 3 * m := by rw [List.length_append]; show pre.length + 1 < _; omega
theorem len_2 {α : Type} {pre : List α} {x y : α} {i m : Nat} (h : pre.length = 3 + 3 * i) (hi : i < m) : (pre ++ [x] ++ [y]).length < 3 + 3 * m := by rw [List.length_append, List.length_append]; show pre.length + 1 + 1 < _; omega
theorem pre_1 (o : Ob) : [o.proto] <+: valsO o := ⟨_, rfl⟩
theorem pre_2 (o : Ob) : [o.proto, o.target] <+: valsO o := ⟨_, rfl⟩
theorem pre_3 (o : Ob) : [o.proto, o.target, o.handler] <+: valsO o := ⟨_, rfl⟩
theorem pre_n1 (o : Ob) (i : Nat) (h : i < o.props.length) : valsN o i ++ [o.props[i].d.a] <+: valsO o := List.IsPrefix.trans ⟨[o.props[i].d.b] ++ [o.props[i].d.c], by rw [vals_step o i h]; simp⟩ (vals_pre o (i + 1))
theorem pre_n2 (o : Ob) (i : Nat) (h : i < o.props.length) : valsN o i ++ [o.props[i].d.a] ++ [o.props[i].d.b] <+: valsO o := List.IsPrefix.trans ⟨[o.props[i].d.c], by rw [vals_step o i h]⟩ (vals_pre o (i + 1))
theorem pre_n3 (o : Ob) (i : Nat) (h : i < o.props.length) : valsN o i ++ [o.props[i].d.a] ++ [o.props[i].d.b] ++ [o.props[i].d.c] <+: valsO o := by rw [← vals_step o i h]; exact vals_pre o (i + 1)
set_option maxRecDepth 100000 in
set_option maxHeartbeats 2000000 in
theorem values1_in (F : Fence) (n : Nat) (hf : F.fn 114) (hro : F.round = none) (hn : 1 ≤ n) (l Bn : Nat) (w : World) (A : Addr) (o : Ob) (J Jx : List Vin → World → Prop)
    (hO : OF w A o) (hP : PR w o.pa o.props) (hin : o.In) (hfew : o.props.length < 1000000000000)
    (hY : ∀ (pre : List Vin) (x : Vin) W, J pre W → pre.length < (valsO o).length → YieldAt F (n - 1) Tryz.prog l (encI x) W fun e W' =>
      (e = .returned (.bool true) ∧ J (pre ++ [x]) W' ∧ KB w.heap.size Bn W W') ∨ (e = .returned (.bool false) ∧ Jx (pre ++ [x]) W'))
    (W : World) (hS : Is w Bn A W) (h0 : J [] W) :
    CallsIn F n Tryz.prog 114 #[.func (.yield l) #[] #[], .pointer (some ⟨Bn, 0, none⟩)] W fun e W' => (∃ v, e = .returned v) ∧
      ((∃ ys : List Vin, ys.map Vin.out = valsO o ∧ J ys W') ∨ (∃ pre : List Vin, pre.map Vin.out <+: valsO o ∧ Jx pre W')) := by
  have hlen : (valsO o).length = 3 + 3 * o.props.length := by rw [← vals_all]; exact vals_len o _ (Nat.le_refl _)
  refine callsIn_of_wp Tryz.func114 rfl hf ?_ hro
  simp only [Tryz.ntmps114, List.size_toArray, List.length_cons, List.length_nil, Nat.reduceAdd, Nat.reduceSub, Array.replicate_succ, Array.replicate_zero, List.push_toArray, List.append_toArray, List.nil_append, List.cons_append]
  obtain ⟨f1, t1, a1, b1, hy1, hR1⟩ := hY [] ⟨o.proto, hin.proto⟩ W h0 (by rw [hlen]; exact lt_0 _)
  dsimp only [encI, encV] at hy1
  have q0 := hS.c
  have o1 := hO.kw hS.kw
  have p0 := o1.proto.k
  have p1 := o1.proto.x
  have p2 := o1.proto.s
  have p3 := o1.proto.r
  have hl := o1.lt
  gi_wp2
  refine hR1.mono ?_
  rintro e W1 (⟨rfl, hJ1, hk1⟩ | ⟨rfl, hx1⟩)
  rotate_left
  · gi_wp2
    refine ⟨fun _ h => (by cases h), ?_⟩
    gi_wp2
    refine bodyPost_ret (results_none rfl _ _ _) rfl ?_
    exact ⟨⟨_, rfl⟩, .inr ⟨[⟨o.proto, hin.proto⟩], pre_1 o, hx1⟩⟩
  have hS1 := hS.kb hk1
  clear q0 o1 p0 p1 p2 p3 hl hk1 hy1 hR1
  obtain ⟨f2, t2, a2, b2, hy2, hR2⟩ := hY [⟨o.proto, hin.proto⟩] ⟨o.target, hin.target⟩ W1 hJ1 (by rw [hlen]; exact lt_1 _)
  dsimp only [encI, encV] at hy2
  have q0 := hS1.c
  have o1 := hO.kw hS1.kw
  have p0 := o1.target.k
  have p1 := o1.target.x
  have p2 := o1.target.s
  have p3 := o1.target.r
  have hl := o1.lt
  gi_wp2
  refine hR2.mono ?_
  rintro e W2 (⟨rfl, hJ2, hk2⟩ | ⟨rfl, hx2⟩)
  rotate_left
  · gi_wp2
    refine ⟨fun _ h => (by cases h), ?_⟩
    gi_wp2
    refine bodyPost_ret (results_none rfl _ _ _) rfl ?_
    exact ⟨⟨_, rfl⟩, .inr ⟨[⟨o.proto, hin.proto⟩, ⟨o.target, hin.target⟩], pre_2 o, hx2⟩⟩
  have hS2 := hS1.kb hk2
  clear q0 o1 p0 p1 p2 p3 hl hk2 hy2 hR2
  obtain ⟨f3, t3, a3, b3, hy3, hR3⟩ := hY [⟨o.proto, hin.proto⟩, ⟨o.target, hin.target⟩] ⟨o.handler, hin.handler⟩ W2 hJ2 (by rw [hlen]; exact lt_2 _)
  dsimp only [encI, encV] at hy3
  have q0 := hS2.c
  have o1 := hO.kw hS2.kw
  have p0 := o1.handler.k
  have p1 := o1.handler.x
  have p2 := o1.handler.s
  have p3 := o1.handler.r
  have hl := o1.lt
  gi_wp2
  refine hR3.mono ?_
  rintro e W3 (⟨rfl, hJ3, hk3⟩ | ⟨rfl, hx3⟩)
  rotate_left
  · gi_wp2
    refine bodyPost_ret (results_none rfl _ _ _) rfl ?_
    exact ⟨⟨_, rfl⟩, .inr ⟨[⟨o.proto, hin.proto⟩, ⟨o.target, hin.target⟩, ⟨o.handler, hin.handler⟩], pre_3 o, hx3⟩⟩
  have hS3 := hS2.kb hk3
  clear q0 o1 p0 p1 p2 p3 hl hk3 hy3 hR3
  have q0 := hS3.c
  have o1 := hO.kw hS3.kw
  have p0 := o1.props
  have hl := o1.lt
  gi_wp2
  clear q0 o1 p0 hl
  gi_loopw [35] (fun s wr => ∃ (i : Nat) (pre : List Vin), s = .int .i64 (i : Int) ∧ i ≤ o.props.length ∧ pre.map Vin.out = valsN o i ∧ J pre wr ∧ Is w Bn A wr) (fun s _ => o.props.length - (intOf s).toNat)
  case atStart => exact ⟨0, [⟨o.proto, hin.proto⟩, ⟨o.target, hin.target⟩, ⟨o.handler, hin.handler⟩], rfl, Nat.zero_le _, rfl, hJ3, hS3⟩
  case round =>
    obtain ⟨i, pre, rfl, hi, hm, hJ, hSr⟩ := hrel
    by_cases hlt : i < o.props.length
    · have hlz : (i : Int) < (o.props.length : Int) := by omega
      have hl0 : (0 : Int) ≤ (i : Int) := by omega
      have hpl : pre.length = 3 + 3 * i := by have e := congrArg List.length hm; rw [List.length_map, vals_len o i hi] at e; exact e
      obtain ⟨a, hpa, _, _⟩ := hP (by omega)
      have HPA := Lib.hid hpa
      clear hpa
      have hpin := hin.props o.props[i] (List.getElem_mem hlt)
      obtain ⟨f1, t1, a1, b1, hy1, hR1⟩ := hY (pre) ⟨o.props[i].d.a, hpin.2.a⟩ wr hJ (by rw [hlen]; exact len_0 hpl hlt)
      dsimp only [encI, encV] at hy1
      have q0 := hSr.c
      have o1 := hO.kw hSr.kw
      have p4 := o1.props
      rw [HPA.out] at p4
      have hv := pr_vals (HPA.out ▸ pr_kw hP hSr.kw : PR wr (some a) o.props) hlt
      have p0 := hv.1.k
      have p1 := hv.1.x
      have p2 := hv.1.s
      have p3 := hv.1.r
      have hl := o1.lt
      have hl2 := hv.1.lt
      dsimp only at hl2 p0 p1 p2 p3
      gi_wp2
      refine hR1.mono ?_
      rintro e W4 (⟨rfl, hJ4, hk4⟩ | ⟨rfl, hx4⟩)
      rotate_left
      · gi_wp2
        refine ⟨fun _ h => (by cases h), ?_⟩
        gi_wp2
        refine bodyPost_ret (results_none rfl _ _ _) rfl ?_
        exact ⟨⟨_, rfl⟩, .inr ⟨pre ++ [⟨o.props[i].d.a, hpin.2.a⟩], by simp only [List.map_append, List.map_cons, List.map_nil, hm]; exact pre_n1 o i hlt, hx4⟩⟩
      have hS4 := hSr.kb hk4
      clear q0 o1 p0 p1 p2 p3 p4 hl hl2 hv hk4 hy1 hR1
      obtain ⟨f2, t2, a2, b2, hy2, hR2⟩ := hY (pre ++ [⟨o.props[i].d.a, hpin.2.a⟩]) ⟨o.props[i].d.b, hpin.2.b⟩ W4 hJ4 (by rw [hlen]; exact len_1 hpl hlt)
      dsimp only [encI, encV] at hy2
      have q0 := hS4.c
      have o1 := hO.kw hS4.kw
      have p4 := o1.props
      rw [HPA.out] at p4
      have hv := pr_vals (HPA.out ▸ pr_kw hP hS4.kw : PR W4 (some a) o.props) hlt
      have p0 := hv.2.1.k
      have p1 := hv.2.1.x
      have p2 := hv.2.1.s
      have p3 := hv.2.1.r
      have hl := o1.lt
      have hl2 := hv.1.lt
      dsimp only at hl2 p0 p1 p2 p3
      gi_wp2
      refine hR2.mono ?_
      rintro e W5 (⟨rfl, hJ5, hk5⟩ | ⟨rfl, hx5⟩)
      rotate_left
      · gi_wp2
        refine ⟨fun _ h => (by cases h), ?_⟩
        gi_wp2
        refine bodyPost_ret (results_none rfl _ _ _) rfl ?_
        exact ⟨⟨_, rfl⟩, .inr ⟨pre ++ [⟨o.props[i].d.a, hpin.2.a⟩] ++ [⟨o.props[i].d.b, hpin.2.b⟩], by simp only [List.map_append, List.map_cons, List.map_nil, hm]; exact pre_n2 o i hlt, hx5⟩⟩
      have hS5 := hS4.kb hk5
      clear q0 o1 p0 p1 p2 p3 p4 hl hl2 hv hk5 hy2 hR2
      obtain ⟨f3, t3, a3, b3, hy3, hR3⟩ := hY (pre ++ [⟨o.props[i].d.a, hpin.2.a⟩] ++ [⟨o.props[i].d.b, hpin.2.b⟩]) ⟨o.props[i].d.c, hpin.2.c⟩ W5 hJ5 (by rw [hlen]; exact len_2 hpl hlt)
      dsimp only [encI, encV] at hy3
      have q0 := hS5.c
      have o1 := hO.kw hS5.kw
      have p4 := o1.props
      rw [HPA.out] at p4
      have hv := pr_vals (HPA.out ▸ pr_kw hP hS5.kw : PR W5 (some a) o.props) hlt
      have p0 := hv.2.2.k
      have p1 := hv.2.2.x
      have p2 := hv.2.2.s
      have p3 := hv.2.2.r
      have hl := o1.lt
      have hl2 := hv.1.lt
      dsimp only at hl2 p0 p1 p2 p3
      gi_wp2
      refine hR3.mono ?_
      rintro e W6 (⟨rfl, hJ6, hk6⟩ | ⟨rfl, hx6⟩)
      rotate_left
      · gi_wp2
        refine bodyPost_ret (results_none rfl _ _ _) rfl ?_
        exact ⟨⟨_, rfl⟩, .inr ⟨pre ++ [⟨o.props[i].d.a, hpin.2.a⟩] ++ [⟨o.props[i].d.b, hpin.2.b⟩] ++ [⟨o.props[i].d.c, hpin.2.c⟩], by simp only [List.map_append, List.map_cons, List.map_nil, hm]; exact pre_n3 o i hlt, hx6⟩⟩
      have hS6 := hS5.kb hk6
      clear q0 o1 p0 p1 p2 p3 p4 hl hl2 hv hk6 hy3 hR3
      gi_wp2
      go_roundw
      case rel =>
        exact ⟨i + 1, pre ++ [⟨o.props[i].d.a, hpin.2.a⟩] ++ [⟨o.props[i].d.b, hpin.2.b⟩] ++ [⟨o.props[i].d.c, hpin.2.c⟩], by congr 1, by omega, by simp only [List.map_append, List.map_cons, List.map_nil, hm]; exact (vals_step o i hlt).symm, hJ6, hS6⟩
      case measure => simp [intOf]; omega
    · have hlz : ¬ (i : Int) < (o.props.length : Int) := by omega
      obtain rfl : i = o.props.length := by omega
      gi_wp2
      go_end0
      exact ⟨⟨_, rfl⟩, .inl ⟨pre, by rw [hm, vals_all], hJ⟩⟩
/-- the iterator's contract -/
theorem values_stops (F : Fence) (n : Nat) (hf : F.fn 114) (hro : F.round = none) (hn : 1 ≤ n) (Bn : Nat) (w W0 : World) (A : Addr) (o : Ob) (hO : OF w A o) (hP : PR w o.pa o.props) (hin : o.In) (hfew : o.props.length < 1000000000000) (hS : Is w Bn A W0) :
    SeqStopsK F n Tryz.prog 114 #[.pointer (some ⟨Bn, 0, none⟩)] encI (KB w.heap.size Bn) (fun ys => ys.map Vin.out = valsO o) (fun pre => pre.map Vin.out <+: valsO o) (valsO o).length W0 := fun l J Jx W hW _ _ hY h0 =>
  values1_in F n hf hro hn l Bn w A o J Jx hO hP hin hfew hY W (hS.kb (KB.of_below hW)) h0
end Go.Proofs.YthnkllhfmjbbmaaGreatDoor.S
