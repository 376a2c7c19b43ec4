/-
  Heaps: which objects may be, where prototypes lead, what one comes to: plain functions.
-/
import Derived.Test.YtbeggameiedjgaaGreatDoorTN32
import Derived.Laws.CopyRow
import Derived.RangeFuncNested
import Derived.RangeFuncBound
import Derived.RangeFuncCalls
import Derived.RangeFuncLeaves
import Derived.Shelf.Abstract
import Derived.Shelf.RegionOpen
import Derived.WalkKit
import Derived.OwnWalkIn
import Derived.TacticsInMore
import Derived.LoopNIn
import Derived.LoopIn
import Derived.Deep.LoopGhost
import Derived.Test.YtbeggameiedjgaaGreatDoorTN17
namespace Go.Proofs.YtbeggameiedjgaaGreatDoor.S
open Go.RowKit Go.Lib Fl
open Classical

/-- an object; pa and pc: where its properties lie, and how many have room there (they count for nothing) -/
structure Ob where
  kind : Int
  proto : Vq
  ext : Bool
  pa : Option Addr
  pc : Nat
  props : List Pq
  target : Vq
  handler : Vq
  text : ByteArray
  calls : Bool
  makes : Bool
instance : Inhabited Ob := ⟨⟨0, v0, false, none, 0, [], v0, v0, ⟨#[]⟩, false, false⟩⟩
def ocl (o : Ob) : List Value := [.int .u8 o.kind, .int .u8 o.proto.k, .float .f64 o.proto.x, .string o.proto.s, .int .i64 o.proto.r, .bool o.ext, .slice o.pa o.props.length o.pc,
  .int .u8 o.target.k, .float .f64 o.target.x, .string o.target.s, .int .i64 o.target.r, .int .u8 o.handler.k, .float .f64 o.handler.x, .string o.handler.s, .int .i64 o.handler.r, .string o.text, .bool o.calls, .bool o.makes]
def obA (o : Ob) : Array Value := (ocl o).toArray
theorem ocl_len (o : Ob) : (ocl o).length = 18 := rfl
theorem obA_size (o : Ob) : (obA o).size = 18 := rfl
theorem obA_one (o : Ob) : (obA o).all (·.oneCell') = true := cells_one (l := ocl o) rfl
/-- an object that may come in -/
structure Ob.In (o : Ob) : Prop where
  k0 : 0 ≤ o.kind
  k1 : o.kind < 256
  proto : o.proto.In
  target : o.target.In
  handler : o.handler.In
  text : o.text.size ≤ maxLen
  props : ∀ p ∈ o.props, p.In
  room : o.props.length ≤ o.pc
  cap63 : o.pc < 9223372036854775808
  nil : o.pa = none → o.pc = 0
/-- but for where its properties lie -/
def Ob.bare (o : Ob) : Ob := { o with pa := none, pc := 0 }
def objQ (v : Vq) : Bool := v.k == 6 || (v.k == 7 || v.k == 8)
def valsO (o : Ob) : List Vq := [o.proto, o.target, o.handler] ++ o.props.flatMap fun p => [p.d.a, p.d.b, p.d.c]
def kindO (o : Ob) : Int := bif o.calls && o.makes then 8 else bif o.calls then 7 else bif o.makes then 0 else 6
def refB (H : List Ob) (v : Vq) : Bool := match H[v.r.toNat]? with | some o => v.k == kindO o | none => false
noncomputable def holdsB (H : List Ob) (v : Vq) : Bool := v.may && (!objQ v || refB H v)
def aloneB (o : Ob) : Bool := o.target.z && o.handler.z
def bareB (o : Ob) : Bool := aloneB o && o.text.toList.isEmpty
def lenK : Ky := ⟨(⟨#[108, 101, 110, 103, 116, 104]⟩ : ByteArray), 0⟩
/-- the whole number that a float tells, from 0 to 1024 -/
noncomputable def smallN (x : Nat) : Option Nat := if h : ∃ n : Nat, n ≤ 1024 ∧ x = F n then some (Classical.choose h) else none
def idxs (L : List Pq) (such : Nat → Bool) : Bool := L.all fun p => match ixK p.k.str p.k.sym with | some i => such i | none => true
noncomputable def measuredB (L : List Pq) : Bool := match L with
  | [] => false
  | p :: _ => eqK p.k lenK && (p.d.a.k == 3 && (match smallN p.d.a.x with | some n => !p.d.q && (!p.d.z && idxs L fun i => decide (i < n)) | none => false))
def boxesB (o : Ob) : Bool := decide (o.text.size ≤ 4096) && (!(o.props.any fun p => eqK p.k lenK) && idxs o.props fun i => decide (o.text.size ≤ i))
def aheadB (v : Vq) (n : Nat) : Bool := objQ v && decide (v.r < n)
def proxB (H : List Ob) (t : Vq) : Bool := match H[t.r.toNat]? with | some o => o.kind == 6 | none => false
def revokesB (H : List Ob) (t : Vq) (n : Nat) : Bool := t.z || (aheadB t n && proxB H t)
def leadsB (o : Ob) (n : Nat) : Bool := bif o.target.k == 1 && o.handler.k == 1 then !(kindO o == 0) else aheadB o.target n && (aheadB o.handler n && kindO o == o.target.k)
noncomputable def fitsB (H : List Ob) (o : Ob) (n : Nat) : Bool :=
  bif o.kind == 1 then kindO o == 6 && bareB o
  else bif o.kind == 2 then kindO o == 6 && (bareB o && measuredB o.props)
  else bif o.kind == 3 then kindO o == 6 && (aloneB o && boxesB o)
  else bif o.kind == 4 then kindO o == 8 && bareB o
  else bif o.kind == 5 then o.calls && (o.handler.z && (o.text.toList.isEmpty && revokesB H o.target n))
  else bif o.kind == 6 then !o.ext && (o.props.isEmpty && (o.proto.k == 1 && (o.text.toList.isEmpty && leadsB o n)))
  else false
noncomputable def mayB (H : List Ob) (o : Ob) (n : Nat) : Bool :=
  chkT o.props == 0 && ((objQ o.proto || o.proto.k == 1) && ((valsO o).all (holdsB H) && fitsB H o n))
/-- where an object's prototype leads -/
def nextO (H : List Ob) (p : Nat) : Option Nat := match H[p]? with
  | some o => bif objQ o.proto then some o.proto.r.toNat else none
  | none => none
/-- one walk along prototypes: none, if it comes back -/
def walkF (H : List Ob) (k : Nat) : Nat → Nat → List Nat → Option (List Nat)
  | 0, _, W => some W
  | f + 1, p, W => match W[p]? with
    | none => some W
    | some x => bif x == k then none else bif !(x == 0) then some W else match nextO H p with
      | none => some (W.set p k)
      | some q => walkF H k f q (W.set p k)
def loopsL (H : List Ob) : Nat → Nat → List Nat → Bool
  | 0, _, _ => false
  | m + 1, n, W => match walkF H (n + 1) (H.length + 1) n W with
    | none => true
    | some W' => loopsL H m (n + 1) W'
def loopsB (H : List Ob) : Bool := loopsL H H.length 0 (List.replicate H.length 0)
noncomputable def mayH (H : List Ob) : Bool := decide (H.length ≤ 4096) && ((List.range H.length).all (fun i => match H[i]? with | some o => mayB H o i | none => false) && !loopsB H)
noncomputable def chkH (H : List Ob) : Int := bif mayH H then 0 else 9
theorem mayH_iff {H : List Ob} : mayH H = true ↔ H.length ≤ 4096 ∧ (∀ i (h : i < H.length), mayB H H[i] i = true) ∧ loopsB H = false := by
  unfold mayH
  simp only [Bool.and_eq_true, decide_eq_true_eq, List.all_eq_true, List.mem_range, Bool.not_eq_true']
  refine ⟨fun ⟨a, b, c⟩ => ⟨a, fun i h => ?_, c⟩, fun ⟨a, b, c⟩ => ⟨a, fun i h => ?_, c⟩⟩
  · have := b i h
    rw [List.getElem?_eq_getElem h] at this
    exact this
  · rw [List.getElem?_eq_getElem h]; exact b i h
/-- what may be in a heap may be with more objects behind -/
theorem holds_more {H : List Ob} {v : Vq} (G : List Ob) (h : holdsB H v = true) : holdsB (H ++ G) v = true := by
  unfold holdsB at h ⊢
  rw [Bool.and_eq_true] at h ⊢
  refine ⟨h.1, ?_⟩
  have h2 := h.2
  cases ho : objQ v with
  | false => rfl
  | true =>
    rw [ho, Bool.not_true, Bool.false_or] at h2
    rw [Bool.not_true, Bool.false_or]
    unfold refB at h2 ⊢
    cases e : H[v.r.toNat]? with
    | none => rw [e] at h2; cases h2
    | some o =>
      obtain ⟨hi, _⟩ := List.getElem?_eq_some_iff.1 e
      rw [e] at h2
      rw [List.getElem?_append_left hi, e]
      exact h2
theorem may_more {H : List Ob} {o : Ob} {n : Nat} (G : List Ob) (h : mayB H o n = true) : mayB (H ++ G) o n = true := by
  unfold mayB at h ⊢
  simp only [Bool.and_eq_true] at h ⊢
  obtain ⟨h1, h2, h3, h4⟩ := h
  refine ⟨h1, h2, ?_, ?_⟩
  · rw [List.all_eq_true] at h3 ⊢
    exact fun v hv => holds_more G (h3 v hv)
  · unfold fitsB at h4 ⊢
    have hr : revokesB H o.target n = true → revokesB (H ++ G) o.target n = true := fun h => by
      unfold revokesB at h ⊢
      rw [Bool.or_eq_true] at h ⊢
      refine h.imp id fun h => ?_
      rw [Bool.and_eq_true] at h ⊢
      refine ⟨h.1, ?_⟩
      have h2 := h.2
      unfold proxB at h2 ⊢
      cases e : H[o.target.r.toNat]? with
      | none => rw [e] at h2; cases h2
      | some u =>
        obtain ⟨hi, _⟩ := List.getElem?_eq_some_iff.1 e
        rw [e] at h2
        rw [List.getElem?_append_left hi, e]
        exact h2
    cases e1 : o.kind == 1 <;> rw [e1] at h4
    · cases e2 : o.kind == 2 <;> rw [e2] at h4
      · cases e3 : o.kind == 3 <;> rw [e3] at h4
        · cases e4 : o.kind == 4 <;> rw [e4] at h4
          · cases e5 : o.kind == 5 <;> rw [e5] at h4
            · exact h4
            · simp only [cond_true, cond_false, Bool.and_eq_true] at h4 ⊢
              exact ⟨h4.1, h4.2.1, h4.2.2.1, hr h4.2.2.2⟩
          · exact h4
        · exact h4
      · exact h4
    · exact h4
/-- the heap with one object more may be, where that one may, and no prototypes lead back -/
theorem mayH_new {H : List Ob} {o : Ob} (h : mayH H = true) (hn : H.length ≠ 4096) (ho : mayB (H ++ [o]) o H.length = true) (hl : loopsB (H ++ [o]) = false) : mayH (H ++ [o]) = true := by
  obtain ⟨a, b, _⟩ := mayH_iff.1 h
  refine mayH_iff.2 ⟨by simp; omega, fun i hi => ?_, hl⟩
  by_cases c : i < H.length
  · rw [List.getElem_append_left c]; exact may_more _ (b i c)
  · have e : i = H.length := by simp at hi; omega
    subst e
    rw [List.getElem_append_right (Nat.le_refl _)]
    simpa using ho
/-- to which objects an object leads -/
def refsO (o : Ob) : List Nat := (valsO o).filterMap fun v => bif objQ v then some v.r.toNat else none
inductive RH (H : List Ob) (F : List Nat) : Nat → Prop where
  | start {x : Nat} : x ∈ F → RH H F x
  | step {x y : Nat} {o : Ob} : RH H F x → H[x]? = some o → y ∈ refsO o → RH H F y
theorem RH.more {H : List Ob} {F G : List Nat} (h : ∀ x ∈ F, RH H G x) {y : Nat} (hy : RH H F y) : RH H G y := by
  induction hy with
  | start h' => exact h _ h'
  | step _ e hm ih => exact .step ih e hm
theorem RH.lt {H : List Ob} {F : List Nat} (hm : mayH H = true) (hF : ∀ x ∈ F, x < H.length) {y : Nat} (hy : RH H F y) : y < H.length := by
  induction hy with
  | start h' => exact hF _ h'
  | @step x y o _ e hm' ih =>
    obtain ⟨hi, he⟩ := List.getElem?_eq_some_iff.1 e
    have hb := (mayH_iff.1 hm).2.1 x hi
    rw [he] at hb
    unfold mayB at hb
    simp only [Bool.and_eq_true] at hb
    obtain ⟨v, hv, hv2⟩ := List.mem_filterMap.1 hm'
    have hh := List.all_eq_true.1 hb.2.2.1 v hv
    cases ho : objQ v with
    | false => rw [ho] at hv2; cases hv2
    | true =>
      rw [ho] at hv2
      obtain rfl : v.r.toNat = y := Option.some.inj hv2
      unfold holdsB at hh
      rw [Bool.and_eq_true, ho, Bool.not_true, Bool.false_or] at hh
      unfold refB at hh
      cases e2 : H[v.r.toNat]? with
      | none => rw [e2] at hh; exact absurd hh.2 (by simp)
      | some u => exact (List.getElem?_eq_some_iff.1 e2).1
end Go.Proofs.YtbeggameiedjgaaGreatDoor.S
/-
  A heap in memory: an object's cells, values in them; what tells an object's kind, and what it has.
-/
namespace Go.Proofs.YtbeggameiedjgaaGreatDoor.S
open Go.RowKit Go.Lib Fl
open Classical

theorem osz : (Tryz.prog.info? 54).map (·.size) = some 18 := by kernel_rfl
theorem vsz4 : (Tryz.prog.info? 26).map (·.size) = some 4 := by kernel_rfl
/-- a value's cells -/
structure VAt (w : World) (A : Addr) (v : Vq) : Prop where
  lt : A.block < w.heap.size
  k : w.cell? A = some (.int .u8 v.k)
  x : w.cell? ⟨A.block, A.off + 1, none⟩ = some (.float .f64 v.x)
  s : w.cell? ⟨A.block, A.off + 2, none⟩ = some (.string v.s)
  r : w.cell? ⟨A.block, A.off + 3, none⟩ = some (.int .i64 v.r)
theorem VAt.up {w w' : World} {A : Addr} {v : Vq} (h : VAt w A v) (hb : Below w.heap.size w w') : VAt w' A v :=
  ⟨Nat.lt_of_lt_of_le h.lt hb.size, (hb.cell (p := A) h.lt).trans h.k, (hb.cell (p := ⟨A.block, A.off + 1, none⟩) h.lt).trans h.x, (hb.cell (p := ⟨A.block, A.off + 2, none⟩) h.lt).trans h.s, (hb.cell (p := ⟨A.block, A.off + 3, none⟩) h.lt).trans h.r⟩
/-- an object's cells -/
structure OF (w : World) (A : Addr) (o : Ob) : Prop where
  lt : A.block < w.heap.size
  kind : w.cell? A = some (.int .u8 o.kind)
  proto : VAt w ⟨A.block, A.off + 1, none⟩ o.proto
  ext : w.cell? ⟨A.block, A.off + 5, none⟩ = some (.bool o.ext)
  props : w.cell? ⟨A.block, A.off + 6, none⟩ = some (.slice o.pa o.props.length o.pc)
  target : VAt w ⟨A.block, A.off + 7, none⟩ o.target
  handler : VAt w ⟨A.block, A.off + 11, none⟩ o.handler
  text : w.cell? ⟨A.block, A.off + 15, none⟩ = some (.string o.text)
  calls : w.cell? ⟨A.block, A.off + 16, none⟩ = some (.bool o.calls)
  makes : w.cell? ⟨A.block, A.off + 17, none⟩ = some (.bool o.makes)
theorem OF.up {w w' : World} {A : Addr} {o : Ob} (h : OF w A o) (hb : Below w.heap.size w w') : OF w' A o :=
  ⟨Nat.lt_of_lt_of_le h.lt hb.size, (hb.cell (p := A) h.lt).trans h.kind, h.proto.up hb, (hb.cell (p := ⟨A.block, A.off + 5, none⟩) h.lt).trans h.ext, (hb.cell (p := ⟨A.block, A.off + 6, none⟩) h.lt).trans h.props,
   h.target.up hb, h.handler.up hb, (hb.cell (p := ⟨A.block, A.off + 15, none⟩) h.lt).trans h.text, (hb.cell (p := ⟨A.block, A.off + 16, none⟩) h.lt).trans h.calls, (hb.cell (p := ⟨A.block, A.off + 17, none⟩) h.lt).trans h.makes⟩
theorem of_cells {w : World} {A : Addr} {o : Ob} (hlt : A.block < w.heap.size) (h : ∀ j u, (ocl o)[j]? = some u → w.cell? (A.add j) = some u) : OF w A o :=
  ⟨hlt, h 0 _ rfl, ⟨hlt, h 1 _ rfl, h 2 _ rfl, h 3 _ rfl, h 4 _ rfl⟩, h 5 _ rfl, h 6 _ rfl, ⟨hlt, h 7 _ rfl, h 8 _ rfl, h 9 _ rfl, h 10 _ rfl⟩, ⟨hlt, h 11 _ rfl, h 12 _ rfl, h 13 _ rfl, h 14 _ rfl⟩, h 15 _ rfl, h 16 _ rfl, h 17 _ rfl⟩
theorem of_back {w : World} {A : Addr} {o : Ob} (h : OF w A o) : ∀ j u, (ocl o)[j]? = some u → w.cell? (A.add j) = some u := fun j u hu => by
  match j, hu with
  | 0, hu => cases hu; exact h.kind
  | 1, hu => cases hu; exact h.proto.k
  | 2, hu => cases hu; exact h.proto.x
  | 3, hu => cases hu; exact h.proto.s
  | 4, hu => cases hu; exact h.proto.r
  | 5, hu => cases hu; exact h.ext
  | 6, hu => cases hu; exact h.props
  | 7, hu => cases hu; exact h.target.k
  | 8, hu => cases hu; exact h.target.x
  | 9, hu => cases hu; exact h.target.s
  | 10, hu => cases hu; exact h.target.r
  | 11, hu => cases hu; exact h.handler.k
  | 12, hu => cases hu; exact h.handler.x
  | 13, hu => cases hu; exact h.handler.s
  | 14, hu => cases hu; exact h.handler.r
  | 15, hu => cases hu; exact h.text
  | 16, hu => cases hu; exact h.calls
  | 17, hu => cases hu; exact h.makes
  | n + 18, hu => cases hu
/-- objects in a row, and their properties, wherever they lie -/
def HRow (w : World) (A : Option Addr) (H : List Ob) : Prop := 0 < H.length → ∃ a, A = some a ∧ a.block < w.heap.size ∧ ∀ i (h : i < H.length), OF w (a.add (i * 18)) H[i] ∧ PR w H[i].pa H[i].props
theorem hrow_up {w w' : World} {A : Option Addr} {H : List Ob} (h : HRow w A H) (hb : Below w.heap.size w w') : HRow w' A H := fun hp => by
  obtain ⟨a, h1, h2, h3⟩ := h hp
  exact ⟨a, h1, Nat.lt_of_lt_of_le h2 hb.size, fun i hi => ⟨(h3 i hi).1.up hb, pr_up (h3 i hi).2 hb⟩⟩
/-- a heap that may come in -/
structure HIn (w : World) (A : Option Addr) (H : List Ob) (cap : Nat) : Prop where
  inn : ∀ o ∈ H, o.In
  row : HRow w A H
  few : H.length ≤ 5000
  pfew : ∀ o ∈ H, o.props.length < 1000000000000
  room : H.length ≤ cap
  cap63 : cap < 9223372036854775808
  nil : A = none → cap = 0
theorem HIn.up {w w' : World} {A : Option Addr} {H : List Ob} {cap : Nat} (h : HIn w A H cap) (hb : Below w.heap.size w w') : HIn w' A H cap := ⟨h.inn, hrow_up h.row hb, h.few, h.pfew, h.room, h.cap63, h.nil⟩
theorem HIn.at {w : World} {A : Option Addr} {H : List Ob} {cap : Nat} (h : HIn w A H cap) {i : Nat} (hi : i < H.length) : ∃ a, A = some a ∧ (a.add (i * 18)).block < w.heap.size ∧ OF w (a.add (i * 18)) H[i] ∧ PR w H[i].pa H[i].props := by
  obtain ⟨a, h1, h2, h3⟩ := h.row (by omega)
  exact ⟨a, h1, by rw [add_blk]; exact h2, h3 i hi⟩
section
variable {ops : Array Oper} {rest : List Oper} {o : Oper} {a : Act} {w : World} {Q : Exit → Act → World → Prop} {x y : Operand} {g i : Nat} {t : TypeId}
/-- a value loaded -/
theorem va_load {A : Addr} {v : Vq} (hw : Region.wanted o (yielded ops a.tmps) = true) (ho : o.op = .load 26 x) (hx : a.eval x = .pointer (some A)) (hv : VAt w A v)
    (h : wpList Tryz.prog ops Q rest (a.put o.dst (.agg #[.int .u8 v.k, .float .f64 v.x, .string v.s, .int .i64 v.r])) w) : wpList Tryz.prog ops Q (o :: rest) a w :=
  wpList_wanted hw fun _ hK => wp_load_at (cs := [.int .u8 v.k, .float .f64 v.x, .string v.s, .int .i64 v.r]) ho hx (fun j u hu => by
    match j, hu with
    | 0, hu => cases hu; exact hv.k
    | 1, hu => cases hu; exact hv.x
    | 2, hu => cases hu; exact hv.s
    | 3, hu => cases hu; exact hv.r
    | n + 4, hu => cases hu) Tryz.underlying26 rfl vsz4 (hK _ _ h)
end
theorem veq0 (v : Vq) (w : World) : (Op.equalIn (9998 + 2) 26 (.agg #[.int .u8 v.k, .float .f64 v.x, .string v.s, .int .i64 v.r]) (.agg #[.int .u8 0, .float .f64 0, .string ⟨#[]⟩, .int .i64 0])).run Tryz.prog w = .ok v.z w := eq_val 9998 v.k v.x v.s v.r w
section
variable {ops : Array Oper} {rest : List Oper} {o : Oper} {a : Act} {w : World} {Q : Exit → Act → World → Prop} {x y : Operand}
theorem ex_eqz {v : Vq} (ho : o.op = .binOp .eql 26 x y 26) (hx : a.eval x = .agg #[.int .u8 v.k, .float .f64 v.x, .string v.s, .int .i64 v.r]) (hy : a.eval y = .agg #[.int .u8 0, .float .f64 0, .string ⟨#[]⟩, .int .i64 0]) :
    (execOp a.eval o).run Tryz.prog w = .ok (.value (.bool v.z)) w := by
  have he := veq0 v w
  unfold execOp
  simp only [ho, hx, hy, Sem.run_bind, Sem.run_pure, run_eqGuard_agg w _ _ _ _ _ _ (show Tryz.prog.eqGuardType Tryz.prog.depth 26 = false by kernel_rfl), run_eql_struct, he, Result.andThen_ok]
/-- a value held against the zero one -/
theorem vz_eq {v : Vq} (hw : Region.wanted o (yielded ops a.tmps) = true) (ho : o.op = .binOp .eql 26 x y 26) (hx : a.eval x = .agg #[.int .u8 v.k, .float .f64 v.x, .string v.s, .int .i64 v.r]) (hy : a.eval y = .agg #[.int .u8 0, .float .f64 0, .string ⟨#[]⟩, .int .i64 0])
    (h : wpList Tryz.prog ops Q rest (a.put o.dst (.bool v.z)) w) : wpList Tryz.prog ops Q (o :: rest) a w :=
  wpList_wanted hw fun K hK => by
    unfold Oper.wp
    rw [ex_eqz ho hx hy]
    exact hK _ _ h
end
theorem kind_h (A : Addr) (o : Ob) (w : World) (h : OF w A o) : Calls Tryz.prog 90 #[.pointer (some A)] w fun e w' => e = .returned (.int .u8 (kindO o)) ∧ w' = w := by
  have h1 := h.calls
  have h2 := h.makes
  have h0 := h.lt
  unfold kindO
  clear h
  generalize o.calls = b at *
  generalize o.makes = c at *
  cases b <;> cases c
  all_goals
    go_enter Tryz.func90, Tryz.ntmps90
    go_wp2
    go_ret
    exact ⟨rfl, rfl⟩
set_option maxRecDepth 100000 in
theorem alone_h (A : Addr) (o : Ob) (w : World) (h : OF w A o) : Calls Tryz.prog 93 #[.pointer (some A)] w fun e w' => e = .returned (.bool (aloneB o)) ∧ w' = w := by
  have h1 := h.target
  have h2 := h.handler
  have h0 := h.lt
  unfold aloneB
  clear h
  cases e1 : o.target.z <;> cases e2 : o.handler.z
  all_goals
    go_enter Tryz.func93, Tryz.ntmps93
    go_wp2_with (first
      | ((with_reducible refine va_load ?_ rfl rfl h1 ?_); (rfl))
      | ((with_reducible refine va_load ?_ rfl rfl h2 ?_); (rfl))
      | ((with_reducible refine vz_eq (v := o.target) ?_ rfl rfl rfl ?_); (rfl); rw [e1])
      | ((with_reducible refine vz_eq (v := o.handler) ?_ rfl rfl rfl ?_); (rfl); rw [e2]))
    go_ret
    exact ⟨rfl, rfl⟩
theorem bare_h (A : Addr) (o : Ob) (w : World) (h : OF w A o) : Calls Tryz.prog 91 #[.pointer (some A)] w fun e w' => e = .returned (.bool (bareB o)) ∧ w' = w := by
  have h1 := h.text
  have h0 := h.lt
  have c1 := alone_h A o w h
  unfold bareB
  clear h
  generalize aloneB o = b at *
  generalize o.text = s at *
  cases b with
  | false =>
    go_enter Tryz.func91, Tryz.ntmps91
    go_wp2_with (go_at_call 93; (with_reducible refine c1.mono ?_); rintro e w1 ⟨rfl, rfl⟩)
    go_ret
    exact ⟨rfl, rfl⟩
  | true =>
    go_enter Tryz.func91, Tryz.ntmps91
    go_wp2_with (go_at_call 93; (with_reducible refine c1.mono ?_); rintro e w1 ⟨rfl, rfl⟩)
    go_ret
    exact ⟨by first | rfl | simp, rfl⟩
theorem IsObject_q (v : Vq) (h : 0 ≤ v.k) (w : World) : Calls Tryz.prog 66 #[.agg #[.int .u8 v.k, .float .f64 v.x, .string v.s, .int .i64 v.r]] w fun e w' => e = .returned (.bool (objQ v)) ∧ Below w.heap.size w w' := by
  obtain ⟨k, x, s, r⟩ := v
  obtain ⟨n, rfl⟩ := Int.eq_ofNat_of_zero_le h
  have := IsObject_v n x s r w
  unfold objQ
  unfold objB at this
  dsimp only at this ⊢
  refine this.mono fun e w' ⟨he, hb⟩ => ⟨he.trans ?_, hb⟩
  have k6 : ((n : Int) == 6) = (n == 6) := kd_eq n 6
  have k7 : ((n : Int) == 7) = (n == 7) := kd_eq n 7
  have k8 : ((n : Int) == 8) = (n == 8) := kd_eq n 8
  rw [k6, k7, k8, Bool.or_assoc]
theorem ahead_h (v : Vq) (h : 0 ≤ v.k) (n : Nat) (w : World) : Calls Tryz.prog 134 #[.agg #[.int .u8 v.k, .float .f64 v.x, .string v.s, .int .i64 v.r], .int .i64 (n : Int)] w fun e w' => e = .returned (.bool (aheadB v n)) ∧ Below w.heap.size w w' := by
  have c1 := fun w => IsObject_q v h w
  have hb := heap_alloc_new w (.cells #[.int .u8 v.k, .float .f64 v.x, .string v.s, .int .i64 v.r] 26)
  obtain ⟨q0, q1, q2, q3, _⟩ := vc4 hb
  unfold aheadB
  generalize objQ v = b at *
  cases b with
  | false =>
    go_enter Tryz.func134, Tryz.ntmps134
    go_wp2_with (go_at_call 66; (with_reducible refine (c1 _).mono ?_); rintro e w1 ⟨rfl, h1⟩; obtain ⟨q0, q1, q2, q3, _⟩ := vc4 (vblkn h1 hb); have hB := vafter h1)
    go_ret
    exact ⟨rfl, hB⟩
  | true =>
    go_enter Tryz.func134, Tryz.ntmps134
    go_wp2_with (go_at_call 66; (with_reducible refine (c1 _).mono ?_); rintro e w1 ⟨rfl, h1⟩; obtain ⟨q0, q1, q2, q3, _⟩ := vc4 (vblkn h1 hb); have hB := vafter h1)
    go_ret
    exact ⟨by first | rfl | simp, hB⟩
end Go.Proofs.YtbeggameiedjgaaGreatDoor.S
/-
  heap.copied: a row in new memory; elements of eighteen cells.
-/
namespace Go.Proofs.YtbeggameiedjgaaGreatDoor.S
open Go.RowKit Go.Lib Fl
open Classical

theorem run_copy_18 (w : World) (dT sT ty elem : TypeId) (g n dCap : Nat) (a : Addr) (sCap : Nat) (cur : Array Value) (t : TypeId) (cs : List Value)
    (hu : Tryz.prog.underlying dT = some (.slice elem)) (hs : (Tryz.prog.info? elem).map (·.size) = some 18)
    (hg : w.heap[g]? = some (.cells cur t (0, 0))) (hn : cs.length = n * 18)
    (hsrc : ∀ j v, cs[j]? = some v → w.cell? (a.add j) = some v) (hfit : cur.size = cs.length) (h1 : ∀ v ∈ cs, v.oneCell' = true) :
    (Builtin.copy_ #[dT, sT] ty #[.slice (some ⟨g, 0, none⟩) n dCap, .slice (some a) n sCap]).run Tryz.prog w = .ok (goInt n) (w.setRow g cs.toArray) := by
  have hl := run_loadCells_list (P := Tryz.prog) w a cs hsrc
  have hst := run_storeCells_at Tryz.prog g 0 t cs 0 cur w hg (by simp; omega) h1
  rw [hn] at hl
  have e : (cur.toList.take 0 ++ cs ++ cur.toList.drop (0 + cs.length)).toArray = cs.toArray := by
    rw [List.take_zero, List.nil_append, List.drop_eq_nil_of_le (by simp; omega), List.append_nil]
  cases hq : Tryz.prog.info? elem with
  | none => simp [hq] at hs
  | some i =>
    have hi : i.size = 18 := by simpa [hq] using hs
    simp [Builtin.copy_, run_underlying hu, Builtin.lenOf, Builtin.firstCells, sizeOf, typeInfo, hq, hi, hl]
    rw [hst]
    show Result.ok (goInt ↑n) (w.setRow g (cur.toList.take 0 ++ cs ++ cur.toList.drop (0 + cs.length)).toArray) = _
    rw [e]
theorem run_copy_z (w : World) (dT sT ty elem : TypeId) (d sp : Option Addr) (dCap sCap : Nat) (hu : Tryz.prog.underlying dT = some (.slice elem)) (hs : (Tryz.prog.info? elem).map (·.size) = some 18) :
    (Builtin.copy_ #[dT, sT] ty #[.slice d 0 dCap, .slice sp 0 sCap]).run Tryz.prog w = .ok (goInt 0) w := by
  cases hq : Tryz.prog.info? elem with
  | none => simp [hq] at hs
  | some i =>
    cases d <;> cases sp <;> simp [Builtin.copy_, run_underlying hu, Builtin.lenOf, Builtin.firstCells, sizeOf, typeInfo, hq, storeCells, loadCells, loadCellsFrom]
theorem cell_old {w : World} {p : Addr} {v : Value} (h : w.cell? p = some v) (o : Obj) : (w.alloc o).cell? p = some v := ((vzero w o).cell (p := p) (klt_of_cell h)).trans h
/-- a row of eighteen cells an element, wherever it lies -/
def R18 (w : World) (A : Option Addr) (n : Nat) (cs : List Value) : Prop := cs.length = n * 18 ∧ (∀ v ∈ cs, v.oneCell' = true) ∧ (0 < n → ∃ a, A = some a ∧ ∀ j v, cs[j]? = some v → w.cell? (a.add j) = some v)
section
variable {ops : Array Oper} {rest : List Oper} {o : Oper} {a : Act} {w : World} {Q : Exit → Act → World → Prop} {x y : Operand} {t : TypeId}
theorem c18_make {T e : TypeId} {z : Value} {b : Nat} {l c : Operand} {n : Nat} (hT : Tryz.prog.underlying T = some (.slice e)) (hi : (Tryz.prog.info? e).map (fun i => (i.zero, i.size, i.bytes)) = some (some z, 18, b)) (hb : b ≤ 1000) (hgd : o.guard = none) (ho : o.op = .makeSlice T l c) (hl : a.eval l = .int .i64 (n : Int)) (hc : a.eval c = .int .i64 (n : Int)) (hn : n ≤ 100000)
    (h : ∀ cur : Array Value, cur.size = n * 18 → wpList Tryz.prog ops Q rest (a.put o.dst (.slice (some ⟨w.heap.size, 0, none⟩) n n)) (w.alloc (.cells cur e))) : wpList Tryz.prog ops Q (o :: rest) a w := by
  obtain ⟨i0, hi, hz0, hz1, hz2⟩ := info_parts hi
  have hbn : (b : Int) * (n : Int) ≤ 281474976710656 := by
    have h1 := Nat.mul_le_mul hb hn
    have h2 : b * n ≤ 281474976710656 := Nat.le_trans h1 (by decide)
    rw [← Int.natCast_mul]
    exact Int.ofNat_le.2 h2
  refine wpList_plain hgd fun K hK => ?_
  have hr := run_makeSlice (P := Tryz.prog) w T e i0 z hT hi hz0 .i64 .i64 (n : Int) (n : Int) (by omega) (by omega) (by rw [hz1]; omega) (by rw [hz2]; exact hbn) (by omega)
  rw [hz1, Int.toNat_natCast] at hr
  unfold Oper.wp execOp
  simp only [ho, hl, hc, hr, Sem.run_bind, Sem.run_pure, Result.andThen_ok]
  exact hK _ _ (h _ (size_madeCells _ _))
end
theorem run_copy_any (w : World) (dT sT ty e t : TypeId) (g n cap : Nat) (A : Option Addr) (cs : List Value) (cur : Array Value) (hT : Tryz.prog.underlying dT = some (.slice e)) (hs : (Tryz.prog.info? e).map (·.size) = some 18)
    (hg : w.heap[g]? = some (.cells cur t (0, 0))) (hcur : cur.size = n * 18) (hR : R18 w A n cs) :
    ∃ W : World, (Builtin.copy_ #[dT, sT] ty #[.slice (some ⟨g, 0, none⟩) n n, .slice A n cap]).run Tryz.prog w = .ok (goInt n) W ∧ (∀ B w0, Below B w0 w → B ≤ g → Below B w0 W) ∧ W.heap[g]? = some (.cells cs.toArray t (0, 0)) := by
  obtain ⟨hl, h1, hr⟩ := hR
  rcases Nat.eq_zero_or_pos n with hz | hp
  · subst hz
    obtain rfl : cs = [] := List.eq_nil_of_length_eq_zero (by omega)
    obtain rfl : cur = #[] := Array.eq_empty_of_size_eq_zero (by omega)
    exact ⟨w, run_copy_z w dT sT ty e (some ⟨g, 0, none⟩) A 0 cap hT hs, fun _ _ h _ => h, hg⟩
  · obtain ⟨ad, rfl, hsrc⟩ := hr hp
    exact ⟨_, run_copy_18 w dT sT ty e g n n ad cap cur t cs hT hs hg hl hsrc (by omega) h1, fun _ _ h h2 => below_row h h2 _, setRow_heap _ _ _ _ _ _ hg⟩
theorem R18.old {w : World} {A : Option Addr} {n : Nat} {cs : List Value} (h : R18 w A n cs) (o : Obj) : R18 (w.alloc o) A n cs := ⟨h.1, h.2.1, fun hp => by obtain ⟨a, e, g⟩ := h.2.2 hp; exact ⟨a, e, fun j v hv => cell_old (g j v hv) o⟩⟩
theorem info_p : (Tryz.prog.info? 30).map (fun i => (i.zero, i.size, i.bytes)) = some (some (.agg (prA default)), 18, 160) := by kernel_rfl
theorem info_o : (Tryz.prog.info? 54).map (fun i => (i.zero, i.size, i.bytes)) = some (some (.agg (obA default)), 18, 184) := by kernel_rfl
/-- a row copied into a new block -/
def CopTo (n : Nat) (cs : List Value) (e : TypeId) (w : World) (r : Ending) (w' : World) : Prop := ∃ g, r = .returned (.slice (some ⟨g, 0, none⟩) n n) ∧ w.heap.size ≤ g ∧ w'.heap[g]? = some (.cells cs.toArray e (0, 0)) ∧ Below w.heap.size w w'
set_option maxRecDepth 100000 in
theorem copiedP_h (A : Option Addr) (n cap : Nat) (cs : List Value) (w : World) (hR : R18 w A n cs) (hn : n ≤ 100000) : Calls Tryz.prog 50 #[.slice A n cap] w (CopTo n cs 30 w) := by
  go_enter Tryz.func50, Tryz.ntmps50
  go_wp2_with (refine c18_make Tryz.underlying35 info_p (by decide) rfl rfl rfl rfl hn ?_; intro cur hcur)
  obtain ⟨W, hrun, hB, hW⟩ := run_copy_any (w.alloc (.cells cur 30)) 35 35 3 30 30 w.heap.size n cap A cs cur Tryz.underlying35 psz (heap_alloc_new _ _) hcur (hR.old _)
  rw [hrun]
  go_wp2
  go_ret
  exact ⟨_, rfl, Nat.le_refl _, hW, hB _ _ (vzero w _) (Nat.le_refl _)⟩
set_option maxRecDepth 100000 in
theorem copiedO_h (A : Option Addr) (n cap : Nat) (cs : List Value) (w : World) (hR : R18 w A n cs) (hn : n ≤ 100000) : Calls Tryz.prog 57 #[.slice A n cap] w (CopTo n cs 54 w) := by
  go_enter Tryz.func57, Tryz.ntmps57
  go_wp2_with (refine c18_make Tryz.underlying47 info_o (by decide) rfl rfl rfl rfl hn ?_; intro cur hcur)
  obtain ⟨W, hrun, hB, hW⟩ := run_copy_any (w.alloc (.cells cur 54)) 47 47 3 54 54 w.heap.size n cap A cs cur Tryz.underlying47 osz (heap_alloc_new _ _) hcur (hR.old _)
  rw [hrun]
  go_wp2
  go_ret
  exact ⟨_, rfl, Nat.le_refl _, hW, hB _ _ (vzero w _) (Nat.le_refl _)⟩
end Go.Proofs.YtbeggameiedjgaaGreatDoor.S
/-
  heap.values: an iterator over all that stands in an object.
-/
namespace Go.Proofs.YtbeggameiedjgaaGreatDoor.S
open Go.RowKit Go.Lib Fl Go.Shelf
open Classical
attribute [local go_sem] Oper.semAt_some

def encV (v : Vq) : Array Value := #[.agg #[.int .u8 v.k, .float .f64 v.x, .string v.s, .int .i64 v.r]]
theorem values_h (A : Addr) (w : World) : Calls Tryz.prog 67 #[.pointer (some A)] w fun e w' => e = .returned (.func (.func 88) #[] #[.pointer (some ⟨w.heap.size, 0, none⟩)]) ∧ w' = w.alloc (.cells #[.pointer (some A)] 118) := by
  go_enter Tryz.func67, Tryz.ntmps67
  go_wp2
  go_ret
  exact ⟨rfl, rfl⟩
/-- the values that stand in an object ahead of its i-th property -/
def valsN (o : Ob) (i : Nat) : List Vq := [o.proto, o.target, o.handler] ++ (o.props.take i).flatMap fun p => [p.d.a, p.d.b, p.d.c]
theorem vals_all (o : Ob) : valsN o o.props.length = valsO o := by unfold valsN valsO; rw [List.take_length]
theorem vals_step (o : Ob) (i : Nat) (h : i < o.props.length) : valsN o (i + 1) = valsN o i ++ [o.props[i].d.a] ++ [o.props[i].d.b] ++ [o.props[i].d.c] := by
  unfold valsN
  rw [take_snoc h, List.flatMap_append]
  simp
theorem vals_len (o : Ob) (i : Nat) (h : i ≤ o.props.length) : (valsN o i).length = 3 + 3 * i := by
  unfold valsN
  have : ∀ L : List Pq, (L.flatMap fun p => [p.d.a, p.d.b, p.d.c]).length = 3 * L.length := fun L => by
    induction L with
    | nil => rfl
    | cons x r ih => rw [List.flatMap_cons, List.length_append, ih, List.length_cons]; simp; omega
  rw [List.length_append, this, List.length_take]
  simp; omega
theorem vals_pre (o : Ob) (i : Nat) : valsN o i <+: valsO o := by
  rw [← vals_all]
  unfold valsN
  refine ⟨(o.props.drop i).flatMap fun p => [p.d.a, p.d.b, p.d.c], ?_⟩
  rw [List.append_assoc, ← List.flatMap_append, List.take_append_drop, List.take_length]
end Go.Proofs.YtbeggameiedjgaaGreatDoor.S
/-
  heap.values$1: the iterator itself.
-/
namespace Go.Proofs.YtbeggameiedjgaaGreatDoor.S
open Go.RowKit Go.Lib Fl Go.Shelf
open Classical
attribute [local go_sem] Oper.semAt_some

/-- what a round keeps: all that lay when the function began, and the iterator's box -/
structure KB (n0 Bn : Nat) (W W' : World) : Prop where
  size : W.heap.size ≤ W'.heap.size
  blk : ∀ b, (b < n0 ∨ b = Bn) → b < W.heap.size → W'.heap[b]? = W.heap[b]?
theorem KB.trans {n0 Bn : Nat} {X Y Z : World} (h : KB n0 Bn X Y) (g : KB n0 Bn Y Z) : KB n0 Bn X Z := ⟨Nat.le_trans h.size g.size, fun b hb hl => (g.blk b hb (Nat.lt_of_lt_of_le hl h.size)).trans (h.blk b hb hl)⟩
theorem KB.of_below {n0 Bn : Nat} {W W' : World} (h : Below W.heap.size W W') : KB n0 Bn W W' := ⟨h.size, fun b _ hl => h.block b hl⟩
theorem KB.putObj {n0 Bn l : Nat} {W : World} {o' : Obj} (h1 : n0 ≤ l) (h2 : Bn < l) : KB n0 Bn W (W.putObj l o') := ⟨by simp [World.putObj], fun b hb _ => World.putObj_heap_other (by omega)⟩
/-- all that lay when the function began lies as it lay -/
structure Kw (w W : World) : Prop where
  size : w.heap.size ≤ W.heap.size
  blk : ∀ b, b < w.heap.size → W.heap[b]? = w.heap[b]?
theorem Kw.cell {w W : World} (h : Kw w W) {p : Addr} (hp : p.block < w.heap.size) : W.cell? p = w.cell? p := World.cell?_of_block (w := w) (h.blk p.block hp)
theorem Kw.of_below {w W : World} (h : Below w.heap.size w W) : Kw w W := ⟨h.size, fun b hb => h.block b hb⟩
theorem Kw.kb {w W W' : World} {Bn : Nat} (h : Kw w W) (k : KB w.heap.size Bn W W') : Kw w W' := ⟨Nat.le_trans h.size k.size, fun b hb => (k.blk b (.inl hb) (Nat.lt_of_lt_of_le hb h.size)).trans (h.blk b hb)⟩
theorem VAt.kw {w W : World} {A : Addr} {v : Vq} (h : VAt w A v) (hb : Kw w W) : VAt W A v :=
  ⟨Nat.lt_of_lt_of_le h.lt hb.size, (hb.cell (p := A) h.lt).trans h.k, (hb.cell (p := ⟨A.block, A.off + 1, none⟩) h.lt).trans h.x, (hb.cell (p := ⟨A.block, A.off + 2, none⟩) h.lt).trans h.s, (hb.cell (p := ⟨A.block, A.off + 3, none⟩) h.lt).trans h.r⟩
theorem OF.kw {w W : World} {A : Addr} {o : Ob} (h : OF w A o) (hb : Kw w W) : OF W A o :=
  ⟨Nat.lt_of_lt_of_le h.lt hb.size, (hb.cell (p := A) h.lt).trans h.kind, h.proto.kw hb, (hb.cell (p := ⟨A.block, A.off + 5, none⟩) h.lt).trans h.ext, (hb.cell (p := ⟨A.block, A.off + 6, none⟩) h.lt).trans h.props,
   h.target.kw hb, h.handler.kw hb, (hb.cell (p := ⟨A.block, A.off + 15, none⟩) h.lt).trans h.text, (hb.cell (p := ⟨A.block, A.off + 16, none⟩) h.lt).trans h.calls, (hb.cell (p := ⟨A.block, A.off + 17, none⟩) h.lt).trans h.makes⟩
theorem pr_kw {w W : World} {A : Option Addr} {L : List Pq} (h : PR w A L) (hb : Kw w W) : PR W A L := fun hp => by
  obtain ⟨a, h1, h2, h3⟩ := h hp
  refine ⟨a, h1, Nat.lt_of_lt_of_le h2 hb.size, fun i hi j u hu => ?_⟩
  rw [hb.cell (by rw [add_blk]; exact h2)]
  exact h3 i hi j u hu
abbrev Vin := { v : Vq // v.In }
def Vin.out (v : Vin) : Vq := v.1
def encI (v : Vin) : Array Value := encV v.1
/-- the values of a property's descriptor -/
theorem pr_vals {w : World} {a : Addr} {L : List Pq} (h : PR w (some a) L) {i : Nat} (hi : i < L.length) :
    VAt w ⟨(a.add (i * 18)).block, (a.add (i * 18)).off + 3, none⟩ L[i].d.a ∧ VAt w ⟨(a.add (i * 18)).block, (a.add (i * 18)).off + 7, none⟩ L[i].d.b ∧ VAt w ⟨(a.add (i * 18)).block, (a.add (i * 18)).off + 11, none⟩ L[i].d.c := by
  obtain ⟨b, hb, hlt, hc⟩ := h (by omega)
  obtain rfl := Option.some.inj hb
  have hl : (a.add (i * 18)).block < w.heap.size := by rw [add_blk]; exact hlt
  have hcc : ∀ j u, (pcl L[i])[j]? = some u → w.cell? ((a.add (i * 18)).add j) = some u := fun j u hu => by rw [add_add]; exact hc i hi j u hu
  exact ⟨⟨hl, hcc 3 _ rfl, hcc 4 _ rfl, hcc 5 _ rfl, hcc 6 _ rfl⟩, ⟨hl, hcc 7 _ rfl, hcc 8 _ rfl, hcc 9 _ rfl, hcc 10 _ rfl⟩, ⟨hl, hcc 11 _ rfl, hcc 12 _ rfl, hcc 13 _ rfl, hcc 14 _ rfl⟩⟩
/-- what the iterator holds on to -/
structure Is (w : World) (Bn : Nat) (A : Addr) (W : World) : Prop where
  kw : Kw w W
  b : W.heap[Bn]? = some (.cells #[.pointer (some A)] 118 (0, 0))
theorem Is.kb {w W W' : World} {Bn : Nat} {A : Addr} (h : Is w Bn A W) (k : KB w.heap.size Bn W W') : Is w Bn A W' := ⟨h.kw.kb k, (k.blk Bn (.inr rfl) (lt_blk h.b)).trans h.b⟩
theorem Is.c {w W : World} {Bn : Nat} {A : Addr} (h : Is w Bn A W) : W.cell? ⟨Bn, 0, none⟩ = some (.pointer (some A)) := (vcells h.b 0).trans rfl
theorem lt_0 (m : Nat) : 0 < 3 + 3 * m := by omega
theorem lt_1 (m : Nat) : 1 < 3 + 3 * m := by omega
theorem lt_2 (m : Nat) : 2 < 3 + 3 * m := by omega
theorem len_0 {α : Type} {pre : List α} {i m : Nat} (h : pre.length = 3 + 3 * i) (hi : i < m) : pre.length < 3 + 3 * m := by omega
theorem len_1 {α : Type} {pre : List α} {x : α} {i m : Nat} (h : pre.length = 3 + 3 * i) (hi : i < m) : (pre ++ [x]).length < 3 + 3 * m := by rw [List.length_append]; show pre.length + 1 < _; omega
theorem len_2 {α : Type} {pre : List α} {x y : α} {i m : Nat} (h : pre.length = 3 + 3 * i) (hi : i < m) : (pre ++ [x] ++ [y]).length < 3 + 3 * m := by rw [List.length_append, List.length_append]; show pre.length + 1 + 1 < _; omega
theorem pre_1 (o : Ob) : [o.proto] <+: valsO o := ⟨_, rfl⟩
theorem pre_2 (o : Ob) : [o.proto, o.target] <+: valsO o := ⟨_, rfl⟩
theorem pre_3 (o : Ob) : [o.proto, o.target, o.handler] <+: valsO o := ⟨_, rfl⟩
theorem pre_n1 (o : Ob) (i : Nat) (h : i < o.props.length) : valsN o i ++ [o.props[i].d.a] <+: valsO o := List.IsPrefix.trans ⟨[o.props[i].d.b] ++ [o.props[i].d.c], by rw [vals_step o i h]; simp⟩ (vals_pre o (i + 1))
theorem pre_n2 (o : Ob) (i : Nat) (h : i < o.props.length) : valsN o i ++ [o.props[i].d.a] ++ [o.props[i].d.b] <+: valsO o := List.IsPrefix.trans ⟨[o.props[i].d.c], by rw [vals_step o i h]⟩ (vals_pre o (i + 1))
theorem pre_n3 (o : Ob) (i : Nat) (h : i < o.props.length) : valsN o i ++ [o.props[i].d.a] ++ [o.props[i].d.b] ++ [o.props[i].d.c] <+: valsO o := by rw [← vals_step o i h]; exact vals_pre o (i + 1)
set_option maxRecDepth 100000 in
set_option maxHeartbeats 2000000 in
theorem values1_in (F : Fence) (n : Nat) (hf : F.fn 88) (hro : F.round = none) (hn : 1 ≤ n) (l Bn : Nat) (w : World) (A : Addr) (o : Ob) (J Jx : List Vin → World → Prop)
    (hO : OF w A o) (hP : PR w o.pa o.props) (hin : o.In) (hfew : o.props.length < 1000000000000)
    (hY : ∀ (pre : List Vin) (x : Vin) W, J pre W → pre.length < (valsO o).length → YieldAt F (n - 1) Tryz.prog l (encI x) W fun e W' =>
      (e = .returned (.bool true) ∧ J (pre ++ [x]) W' ∧ KB w.heap.size Bn W W') ∨ (e = .returned (.bool false) ∧ Jx (pre ++ [x]) W'))
    (W : World) (hS : Is w Bn A W) (h0 : J [] W) :
    CallsIn F n Tryz.prog 88 #[.func (.yield l) #[] #[], .pointer (some ⟨Bn, 0, none⟩)] W fun e W' => (∃ v, e = .returned v) ∧
      ((∃ ys : List Vin, ys.map Vin.out = valsO o ∧ J ys W') ∨ (∃ pre : List Vin, pre.map Vin.out <+: valsO o ∧ Jx pre W')) := by
  have hlen : (valsO o).length = 3 + 3 * o.props.length := by rw [← vals_all]; exact vals_len o _ (Nat.le_refl _)
  refine callsIn_of_wp Tryz.func88 rfl hf ?_ hro
  simp only [Tryz.ntmps88, List.size_toArray, List.length_cons, List.length_nil, Nat.reduceAdd, Nat.reduceSub, Array.replicate_succ, Array.replicate_zero, List.push_toArray, List.append_toArray, List.nil_append, List.cons_append]
  obtain ⟨f1, t1, a1, b1, hy1, hR1⟩ := hY [] ⟨o.proto, hin.proto⟩ W h0 (by rw [hlen]; exact lt_0 _)
  dsimp only [encI, encV] at hy1
  have q0 := hS.c
  have o1 := hO.kw hS.kw
  have p0 := o1.proto.k
  have p1 := o1.proto.x
  have p2 := o1.proto.s
  have p3 := o1.proto.r
  have hl := o1.lt
  gi_wp2
  refine hR1.mono ?_
  rintro e W1 (⟨rfl, hJ1, hk1⟩ | ⟨rfl, hx1⟩)
  rotate_left
  · gi_wp2
    refine ⟨fun _ h => (by cases h), ?_⟩
    gi_wp2
    refine bodyPost_ret (results_none rfl _ _ _) rfl ?_
    exact ⟨⟨_, rfl⟩, .inr ⟨[⟨o.proto, hin.proto⟩], pre_1 o, hx1⟩⟩
  have hS1 := hS.kb hk1
  clear q0 o1 p0 p1 p2 p3 hl hk1 hy1 hR1
  obtain ⟨f2, t2, a2, b2, hy2, hR2⟩ := hY [⟨o.proto, hin.proto⟩] ⟨o.target, hin.target⟩ W1 hJ1 (by rw [hlen]; exact lt_1 _)
  dsimp only [encI, encV] at hy2
  have q0 := hS1.c
  have o1 := hO.kw hS1.kw
  have p0 := o1.target.k
  have p1 := o1.target.x
  have p2 := o1.target.s
  have p3 := o1.target.r
  have hl := o1.lt
  gi_wp2
  refine hR2.mono ?_
  rintro e W2 (⟨rfl, hJ2, hk2⟩ | ⟨rfl, hx2⟩)
  rotate_left
  · gi_wp2
    refine ⟨fun _ h => (by cases h), ?_⟩
    gi_wp2
    refine bodyPost_ret (results_none rfl _ _ _) rfl ?_
    exact ⟨⟨_, rfl⟩, .inr ⟨[⟨o.proto, hin.proto⟩, ⟨o.target, hin.target⟩], pre_2 o, hx2⟩⟩
  have hS2 := hS1.kb hk2
  clear q0 o1 p0 p1 p2 p3 hl hk2 hy2 hR2
  obtain ⟨f3, t3, a3, b3, hy3, hR3⟩ := hY [⟨o.proto, hin.proto⟩, ⟨o.target, hin.target⟩] ⟨o.handler, hin.handler⟩ W2 hJ2 (by rw [hlen]; exact lt_2 _)
  dsimp only [encI, encV] at hy3
  have q0 := hS2.c
  have o1 := hO.kw hS2.kw
  have p0 := o1.handler.k
  have p1 := o1.handler.x
  have p2 := o1.handler.s
  have p3 := o1.handler.r
  have hl := o1.lt
  gi_wp2
  refine hR3.mono ?_
  rintro e W3 (⟨rfl, hJ3, hk3⟩ | ⟨rfl, hx3⟩)
  rotate_left
  · gi_wp2
    refine bodyPost_ret (results_none rfl _ _ _) rfl ?_
    exact ⟨⟨_, rfl⟩, .inr ⟨[⟨o.proto, hin.proto⟩, ⟨o.target, hin.target⟩, ⟨o.handler, hin.handler⟩], pre_3 o, hx3⟩⟩
  have hS3 := hS2.kb hk3
  clear q0 o1 p0 p1 p2 p3 hl hk3 hy3 hR3
  have q0 := hS3.c
  have o1 := hO.kw hS3.kw
  have p0 := o1.props
  have hl := o1.lt
  gi_wp2
  clear q0 o1 p0 hl
  gi_loopw [35] (fun s wr => ∃ (i : Nat) (pre : List Vin), s = .int .i64 (i : Int) ∧ i ≤ o.props.length ∧ pre.map Vin.out = valsN o i ∧ J pre wr ∧ Is w Bn A wr) (fun s _ => o.props.length - (intOf s).toNat)
  case atStart => exact ⟨0, [⟨o.proto, hin.proto⟩, ⟨o.target, hin.target⟩, ⟨o.handler, hin.handler⟩], rfl, Nat.zero_le _, rfl, hJ3, hS3⟩
  case round =>
    obtain ⟨i, pre, rfl, hi, hm, hJ, hSr⟩ := hrel
    by_cases hlt : i < o.props.length
    · have hlz : (i : Int) < (o.props.length : Int) := by omega
      have hl0 : (0 : Int) ≤ (i : Int) := by omega
      have hpl : pre.length = 3 + 3 * i := by have e := congrArg List.length hm; rw [List.length_map, vals_len o i hi] at e; exact e
      obtain ⟨a, hpa, _, _⟩ := hP (by omega)
      have HPA := Lib.hid hpa
      clear hpa
      have hpin := hin.props o.props[i] (List.getElem_mem hlt)
      obtain ⟨f1, t1, a1, b1, hy1, hR1⟩ := hY (pre) ⟨o.props[i].d.a, hpin.2.a⟩ wr hJ (by rw [hlen]; exact len_0 hpl hlt)
      dsimp only [encI, encV] at hy1
      have q0 := hSr.c
      have o1 := hO.kw hSr.kw
      have p4 := o1.props
      rw [HPA.out] at p4
      have hv := pr_vals (HPA.out ▸ pr_kw hP hSr.kw : PR wr (some a) o.props) hlt
      have p0 := hv.1.k
      have p1 := hv.1.x
      have p2 := hv.1.s
      have p3 := hv.1.r
      have hl := o1.lt
      have hl2 := hv.1.lt
      dsimp only at hl2 p0 p1 p2 p3
      gi_wp2
      refine hR1.mono ?_
      rintro e W4 (⟨rfl, hJ4, hk4⟩ | ⟨rfl, hx4⟩)
      rotate_left
      · gi_wp2
        refine ⟨fun _ h => (by cases h), ?_⟩
        gi_wp2
        refine bodyPost_ret (results_none rfl _ _ _) rfl ?_
        exact ⟨⟨_, rfl⟩, .inr ⟨pre ++ [⟨o.props[i].d.a, hpin.2.a⟩], by simp only [List.map_append, List.map_cons, List.map_nil, hm]; exact pre_n1 o i hlt, hx4⟩⟩
      have hS4 := hSr.kb hk4
      clear q0 o1 p0 p1 p2 p3 p4 hl hl2 hv hk4 hy1 hR1
      obtain ⟨f2, t2, a2, b2, hy2, hR2⟩ := hY (pre ++ [⟨o.props[i].d.a, hpin.2.a⟩]) ⟨o.props[i].d.b, hpin.2.b⟩ W4 hJ4 (by rw [hlen]; exact len_1 hpl hlt)
      dsimp only [encI, encV] at hy2
      have q0 := hS4.c
      have o1 := hO.kw hS4.kw
      have p4 := o1.props
      rw [HPA.out] at p4
      have hv := pr_vals (HPA.out ▸ pr_kw hP hS4.kw : PR W4 (some a) o.props) hlt
      have p0 := hv.2.1.k
      have p1 := hv.2.1.x
      have p2 := hv.2.1.s
      have p3 := hv.2.1.r
      have hl := o1.lt
      have hl2 := hv.1.lt
      dsimp only at hl2 p0 p1 p2 p3
      gi_wp2
      refine hR2.mono ?_
      rintro e W5 (⟨rfl, hJ5, hk5⟩ | ⟨rfl, hx5⟩)
      rotate_left
      · gi_wp2
        refine ⟨fun _ h => (by cases h), ?_⟩
        gi_wp2
        refine bodyPost_ret (results_none rfl _ _ _) rfl ?_
        exact ⟨⟨_, rfl⟩, .inr ⟨pre ++ [⟨o.props[i].d.a, hpin.2.a⟩] ++ [⟨o.props[i].d.b, hpin.2.b⟩], by simp only [List.map_append, List.map_cons, List.map_nil, hm]; exact pre_n2 o i hlt, hx5⟩⟩
      have hS5 := hS4.kb hk5
      clear q0 o1 p0 p1 p2 p3 p4 hl hl2 hv hk5 hy2 hR2
      obtain ⟨f3, t3, a3, b3, hy3, hR3⟩ := hY (pre ++ [⟨o.props[i].d.a, hpin.2.a⟩] ++ [⟨o.props[i].d.b, hpin.2.b⟩]) ⟨o.props[i].d.c, hpin.2.c⟩ W5 hJ5 (by rw [hlen]; exact len_2 hpl hlt)
      dsimp only [encI, encV] at hy3
      have q0 := hS5.c
      have o1 := hO.kw hS5.kw
      have p4 := o1.props
      rw [HPA.out] at p4
      have hv := pr_vals (HPA.out ▸ pr_kw hP hS5.kw : PR W5 (some a) o.props) hlt
      have p0 := hv.2.2.k
      have p1 := hv.2.2.x
      have p2 := hv.2.2.s
      have p3 := hv.2.2.r
      have hl := o1.lt
      have hl2 := hv.1.lt
      dsimp only at hl2 p0 p1 p2 p3
      gi_wp2
      refine hR3.mono ?_
      rintro e W6 (⟨rfl, hJ6, hk6⟩ | ⟨rfl, hx6⟩)
      rotate_left
      · gi_wp2
        refine bodyPost_ret (results_none rfl _ _ _) rfl ?_
        exact ⟨⟨_, rfl⟩, .inr ⟨pre ++ [⟨o.props[i].d.a, hpin.2.a⟩] ++ [⟨o.props[i].d.b, hpin.2.b⟩] ++ [⟨o.props[i].d.c, hpin.2.c⟩], by simp only [List.map_append, List.map_cons, List.map_nil, hm]; exact pre_n3 o i hlt, hx6⟩⟩
      have hS6 := hS5.kb hk6
      clear q0 o1 p0 p1 p2 p3 p4 hl hl2 hv hk6 hy3 hR3
      gi_wp2
      go_roundw
      case rel =>
        exact ⟨i + 1, pre ++ [⟨o.props[i].d.a, hpin.2.a⟩] ++ [⟨o.props[i].d.b, hpin.2.b⟩] ++ [⟨o.props[i].d.c, hpin.2.c⟩], by congr 1, by omega, by simp only [List.map_append, List.map_cons, List.map_nil, hm]; exact (vals_step o i hlt).symm, hJ6, hS6⟩
      case measure => simp [intOf]; omega
    · have hlz : ¬ (i : Int) < (o.props.length : Int) := by omega
      obtain rfl : i = o.props.length := by omega
      gi_wp2
      go_end0
      exact ⟨⟨_, rfl⟩, .inl ⟨pre, by rw [hm, vals_all], hJ⟩⟩
/-- the iterator's contract -/
theorem values_stops (F : Fence) (n : Nat) (hf : F.fn 88) (hro : F.round = none) (hn : 1 ≤ n) (Bn : Nat) (w W0 : World) (A : Addr) (o : Ob) (hO : OF w A o) (hP : PR w o.pa o.props) (hin : o.In) (hfew : o.props.length < 1000000000000) (hS : Is w Bn A W0) :
    SeqStopsK F n Tryz.prog 88 #[.pointer (some ⟨Bn, 0, none⟩)] encI (KB w.heap.size Bn) (fun ys => ys.map Vin.out = valsO o) (fun pre => pre.map Vin.out <+: valsO o) (valsO o).length W0 := fun l J Jx W hW _ _ hY h0 =>
  values1_in F n hf hro hn l Bn w A o J Jx hO hP hin hfew hY W (hS.kb (KB.of_below hW)) h0
end Go.Proofs.YtbeggameiedjgaaGreatDoor.S
/-
  heap.indices with either closure; which properties are called length. Generated: gen_heapidx.py.
-/
namespace Go.Proofs.YtbeggameiedjgaaGreatDoor.S
open Go.RowKit Go.Lib Fl
open Classical

theorem ix_lt {s : ByteArray} {y : Int} {m : Nat} (h : ixK s y = some m) : m < 1024 := by
  unfold ixK at h
  by_cases c : y ≤ 0
  · rw [if_pos c] at h
    unfold idxO at h
    cases hR : readR s.data.toList with
    | ok n =>
      rw [hR] at h
      dsimp only at h
      by_cases d : 0 ≤ n ∧ n < 1024 ∧ s.data.toList = Lib.itoa n
      · rw [if_pos d] at h; injection h with h; omega
      · rw [if_neg d] at h; cases h
    | _ => rw [hR] at h; cases h
  · rw [if_neg c] at h; cases h
theorem dec_lt (i n : Nat) : decide ((i : Int) < (n : Int)) = decide (i < n) := by simp
theorem dec_ge (i n : Nat) : decide ((n : Int) ≤ (i : Int)) = decide (n ≤ i) := by simp
theorem lessF (g n i : Nat) (w : World) (hn : n ≤ 1024) (hc : w.cell? ⟨g, 0, none⟩ = some (.float .f64 (F n))) : Calls Tryz.prog 131 #[.int .i64 (i : Int), .pointer (some ⟨g, 0, none⟩)] w fun e w' => e = .returned (.bool (decide (i < n))) ∧ w' = w := by
  have hv := fun w => conv_run_int (floatToIntVal_F n (by omega)) w
  go_enter Tryz.func131, Tryz.ntmps131
  go_wp2
  go_ret
  exact ⟨by rw [← dec_lt]; rfl, rfl⟩
theorem geF (g i : Nat) (A : Addr) (o : Ob) (w : World) (hc : w.cell? ⟨g, 0, none⟩ = some (.pointer (some A))) (h : OF w A o) : Calls Tryz.prog 133 #[.int .i64 (i : Int), .pointer (some ⟨g, 0, none⟩)] w fun e w' => e = .returned (.bool (decide (o.text.size ≤ i))) ∧ w' = w := by
  have h1 := h.text
  have h0 := h.lt
  clear h
  go_enter Tryz.func133, Tryz.ntmps133
  go_wp2
  go_ret
  exact ⟨by rw [← dec_ge]; rfl, rfl⟩
theorem idxs_step {L : List Pq} {such : Nat → Bool} {i : Nat} (h : i < L.length) : idxs (L.drop i) such = ((match ixK L[i].k.str L[i].k.sym with | some m => such m | none => true) && idxs (L.drop (i + 1)) such) := by
  rw [List.drop_eq_getElem_cons h]; rfl
set_option maxHeartbeats 2000000 in
set_option maxRecDepth 100000 in
theorem indices_m (A : Option Addr) (L : List Pq) (cap : Nat) (g n : Nat) (w : World) (htab : TabHere w) (hin : ∀ p ∈ L, p.In) (hl : L.length < 1000000000000) (hL : PR w A L) (hn : n ≤ 1024) (hg : g < w.heap.size) (hcl : w.cell? ⟨g, 0, none⟩ = some (.float .f64 (F n))) : Calls Tryz.prog 130 #[.slice A L.length cap, .func (.func 131) #[] #[.pointer (some ⟨g, 0, none⟩)]] w fun e w' => e = .returned (.bool (idxs L (fun i => decide (i < n)))) ∧ Below w.heap.size w w' := by
  have hF := fun (i : Nat) W (hb : Below w.heap.size w W) => lessF g n i W hn ((hb.cell (p := ⟨g, 0, none⟩) hg).trans hcl)
  have HTB := Lib.hid htab
  have HF := Lib.hid hF
  clear hF
  go_enter Tryz.func130, Tryz.ntmps130
  go_wp2
  go_loopg [11] L.length (fun kx s11 wr => ∃ i : Nat, s11 = .int .i64 i ∧ i + kx = L.length ∧ Hid (idxs L (fun i => decide (i < n)) = idxs (L.drop i) (fun i => decide (i < n)) ∧ Below w.heap.size w wr))
  case atStart => exact ⟨0, rfl, by omega, Lib.hid ⟨by simp, Below.refl _ _⟩⟩
  case round =>
    obtain ⟨i, rfl, hik, H⟩ := hrel
    cases gk with
    | zero =>
      obtain rfl : i = L.length := by omega
      go_wp2
      go_ret
      refine ⟨?_, H.out.2⟩
      rw [H.out.1, List.drop_length]; rfl
    | succ kx =>
      have hlt : i < L.length := by omega
      have hlz : (i : Int) < (L.length : Int) := by omega
      obtain ⟨a, rfl, hab, hrow⟩ := pr_up hL H.out.2 (by omega)
      have hc : ∀ j u, (pcl L[i])[j]? = some u → wr.cell? ((a.add (i * 18)).add j) = some u := fun j u hu => by rw [add_add]; exact hrow i hlt j u hu
      have hst := idxs_step (such := (fun i => decide (i < n))) hlt
      have hpi := hin L[i] (List.getElem_mem hlt)
      obtain ⟨P, hP⟩ : ∃ P, P = L[i] := ⟨_, rfl⟩
      rw [← hP] at hc hst hpi
      have HS := Lib.hid (H.out.1.trans hst)
      have HB := Lib.hid H.out.2
      have hI := fun W (hb : Below w.heap.size w W) => Index_k P.k.str P.k.sym W hpi.1.1 hpi.1.2 (tab_up htab hb)
      have hi1 : (Tryz.prog.info? 30).map (·.size) = some (prA P).size := psz
      clear hP hrow hst hpi htab
      cases ho : ixK P.k.str P.k.sym with
      | none =>
        have hI2 : ∀ W (_ : Below w.heap.size w W), Calls Tryz.prog 120 #[.agg #[.string P.k.str, .int .i64 P.k.sym]] W fun e w' => e = .returned (.tuple #[.int .i64 0, .bool false]) ∧ Below W.heap.size W w' := fun W hb => by have := hI W hb; rw [ho] at this; exact this
        clear hI
        go_wp2_with (first
          | ((with_reducible refine p_load ?_ rfl rfl hc ?_); (rfl))
          | ((with_reducible refine t_store rfl rfl rfl rfl (heap_alloc_new _ _) hi1 ?_ (prA_one P) (vzero wr _) (Nat.le_refl _) ?_); (rfl); intro W hBW hW _ _; have HB := Lib.hid (vb HB.out hBW))
          | ((with_reducible refine pk_load ?_ rfl rfl hW ?_); (rfl))
          | (go_at_call 120; (with_reducible refine (hI2 _ HB.out).mono ?_); rintro e w1 ⟨rfl, h9⟩; have HB := Lib.hid (vb HB.out h9); clear h9))
        go_roundg kx
        case measure => omega
        case rel => exact ⟨i + 1, by congr 1, by omega, Lib.hid ⟨by rw [HS.out, ho]; rfl, HB.out⟩⟩
      | some m =>
        have hI2 : ∀ W (_ : Below w.heap.size w W), Calls Tryz.prog 120 #[.agg #[.string P.k.str, .int .i64 P.k.sym]] W fun e w' => e = .returned (.tuple #[.int .i64 (m : Int), .bool true]) ∧ Below W.heap.size W w' := fun W hb => by have := hI W hb; rw [ho] at this; exact this
        clear hI
        have hm : m < 1024 := ix_lt ho
        cases hq : decide (m < n) with
        | true =>
          go_wp2_with (first
            | ((with_reducible refine p_load ?_ rfl rfl hc ?_); (rfl))
            | ((with_reducible refine t_store rfl rfl rfl rfl (heap_alloc_new _ _) hi1 ?_ (prA_one P) (vzero wr _) (Nat.le_refl _) ?_); (rfl); intro W hBW hW _ _; have HB := Lib.hid (vb HB.out hBW))
            | ((with_reducible refine pk_load ?_ rfl rfl hW ?_); (rfl))
            | (go_at_call 120; (with_reducible refine (hI2 _ HB.out).mono ?_); rintro e w1 ⟨rfl, h9⟩; have HB := Lib.hid (vb HB.out h9); clear h9))
          refine (HF.out m _ HB.out).mono ?_
          rintro e w2 ⟨rfl, rfl⟩
          rw [hq]
          dsimp only
          go_wp2_with (fail)
          go_roundg kx
          case measure => omega
          case rel => exact ⟨i + 1, by congr 1, by omega, Lib.hid ⟨by rw [HS.out, ho]; exact (congrArg (· && _) (hq)).trans (Bool.true_and _), HB.out⟩⟩
        | false =>
          go_wp2_with (first
            | ((with_reducible refine p_load ?_ rfl rfl hc ?_); (rfl))
            | ((with_reducible refine t_store rfl rfl rfl rfl (heap_alloc_new _ _) hi1 ?_ (prA_one P) (vzero wr _) (Nat.le_refl _) ?_); (rfl); intro W hBW hW _ _; have HB := Lib.hid (vb HB.out hBW))
            | ((with_reducible refine pk_load ?_ rfl rfl hW ?_); (rfl))
            | (go_at_call 120; (with_reducible refine (hI2 _ HB.out).mono ?_); rintro e w1 ⟨rfl, h9⟩; have HB := Lib.hid (vb HB.out h9); clear h9))
          refine (HF.out m _ HB.out).mono ?_
          rintro e w2 ⟨rfl, rfl⟩
          rw [hq]
          dsimp only
          go_wp2_with (fail)
          go_ret
          refine ⟨?_, HB.out⟩
          rw [HS.out, ho, show (match (some m : Option Nat) with | some m => ((fun i => decide (i < n))) m | none => true) = false from hq]; rfl
set_option maxHeartbeats 2000000 in
set_option maxRecDepth 100000 in
theorem indices_b (A : Option Addr) (L : List Pq) (cap : Nat) (g : Nat) (B : Addr) (o : Ob) (w : World) (htab : TabHere w) (hin : ∀ p ∈ L, p.In) (hl : L.length < 1000000000000) (hL : PR w A L) (hg : g < w.heap.size) (hcl : w.cell? ⟨g, 0, none⟩ = some (.pointer (some B))) (hO : OF w B o) : Calls Tryz.prog 130 #[.slice A L.length cap, .func (.func 133) #[] #[.pointer (some ⟨g, 0, none⟩)]] w fun e w' => e = .returned (.bool (idxs L (fun i => decide (o.text.size ≤ i)))) ∧ Below w.heap.size w w' := by
  have hF := fun (i : Nat) W (hb : Below w.heap.size w W) => geF g i B o W ((hb.cell (p := ⟨g, 0, none⟩) hg).trans hcl) (hO.up hb)
  have HTB := Lib.hid htab
  have HF := Lib.hid hF
  clear hF
  go_enter Tryz.func130, Tryz.ntmps130
  go_wp2
  go_loopg [11] L.length (fun kx s11 wr => ∃ i : Nat, s11 = .int .i64 i ∧ i + kx = L.length ∧ Hid (idxs L (fun i => decide (o.text.size ≤ i)) = idxs (L.drop i) (fun i => decide (o.text.size ≤ i)) ∧ Below w.heap.size w wr))
  case atStart => exact ⟨0, rfl, by omega, Lib.hid ⟨by simp, Below.refl _ _⟩⟩
  case round =>
    obtain ⟨i, rfl, hik, H⟩ := hrel
    cases gk with
    | zero =>
      obtain rfl : i = L.length := by omega
      go_wp2
      go_ret
      refine ⟨?_, H.out.2⟩
      rw [H.out.1, List.drop_length]; rfl
    | succ kx =>
      have hlt : i < L.length := by omega
      have hlz : (i : Int) < (L.length : Int) := by omega
      obtain ⟨a, rfl, hab, hrow⟩ := pr_up hL H.out.2 (by omega)
      have hc : ∀ j u, (pcl L[i])[j]? = some u → wr.cell? ((a.add (i * 18)).add j) = some u := fun j u hu => by rw [add_add]; exact hrow i hlt j u hu
      have hst := idxs_step (such := (fun i => decide (o.text.size ≤ i))) hlt
      have hpi := hin L[i] (List.getElem_mem hlt)
      obtain ⟨P, hP⟩ : ∃ P, P = L[i] := ⟨_, rfl⟩
      rw [← hP] at hc hst hpi
      have HS := Lib.hid (H.out.1.trans hst)
      have HB := Lib.hid H.out.2
      have hI := fun W (hb : Below w.heap.size w W) => Index_k P.k.str P.k.sym W hpi.1.1 hpi.1.2 (tab_up htab hb)
      have hi1 : (Tryz.prog.info? 30).map (·.size) = some (prA P).size := psz
      clear hP hrow hst hpi htab
      cases ho : ixK P.k.str P.k.sym with
      | none =>
        have hI2 : ∀ W (_ : Below w.heap.size w W), Calls Tryz.prog 120 #[.agg #[.string P.k.str, .int .i64 P.k.sym]] W fun e w' => e = .returned (.tuple #[.int .i64 0, .bool false]) ∧ Below W.heap.size W w' := fun W hb => by have := hI W hb; rw [ho] at this; exact this
        clear hI
        go_wp2_with (first
          | ((with_reducible refine p_load ?_ rfl rfl hc ?_); (rfl))
          | ((with_reducible refine t_store rfl rfl rfl rfl (heap_alloc_new _ _) hi1 ?_ (prA_one P) (vzero wr _) (Nat.le_refl _) ?_); (rfl); intro W hBW hW _ _; have HB := Lib.hid (vb HB.out hBW))
          | ((with_reducible refine pk_load ?_ rfl rfl hW ?_); (rfl))
          | (go_at_call 120; (with_reducible refine (hI2 _ HB.out).mono ?_); rintro e w1 ⟨rfl, h9⟩; have HB := Lib.hid (vb HB.out h9); clear h9))
        go_roundg kx
        case measure => omega
        case rel => exact ⟨i + 1, by congr 1, by omega, Lib.hid ⟨by rw [HS.out, ho]; rfl, HB.out⟩⟩
      | some m =>
        have hI2 : ∀ W (_ : Below w.heap.size w W), Calls Tryz.prog 120 #[.agg #[.string P.k.str, .int .i64 P.k.sym]] W fun e w' => e = .returned (.tuple #[.int .i64 (m : Int), .bool true]) ∧ Below W.heap.size W w' := fun W hb => by have := hI W hb; rw [ho] at this; exact this
        clear hI
        have hm : m < 1024 := ix_lt ho
        cases hq : decide (o.text.size ≤ m) with
        | true =>
          go_wp2_with (first
            | ((with_reducible refine p_load ?_ rfl rfl hc ?_); (rfl))
            | ((with_reducible refine t_store rfl rfl rfl rfl (heap_alloc_new _ _) hi1 ?_ (prA_one P) (vzero wr _) (Nat.le_refl _) ?_); (rfl); intro W hBW hW _ _; have HB := Lib.hid (vb HB.out hBW))
            | ((with_reducible refine pk_load ?_ rfl rfl hW ?_); (rfl))
            | (go_at_call 120; (with_reducible refine (hI2 _ HB.out).mono ?_); rintro e w1 ⟨rfl, h9⟩; have HB := Lib.hid (vb HB.out h9); clear h9))
          refine (HF.out m _ HB.out).mono ?_
          rintro e w2 ⟨rfl, rfl⟩
          rw [hq]
          dsimp only
          go_wp2_with (fail)
          go_roundg kx
          case measure => omega
          case rel => exact ⟨i + 1, by congr 1, by omega, Lib.hid ⟨by rw [HS.out, ho]; exact (congrArg (· && _) (hq)).trans (Bool.true_and _), HB.out⟩⟩
        | false =>
          go_wp2_with (first
            | ((with_reducible refine p_load ?_ rfl rfl hc ?_); (rfl))
            | ((with_reducible refine t_store rfl rfl rfl rfl (heap_alloc_new _ _) hi1 ?_ (prA_one P) (vzero wr _) (Nat.le_refl _) ?_); (rfl); intro W hBW hW _ _; have HB := Lib.hid (vb HB.out hBW))
            | ((with_reducible refine pk_load ?_ rfl rfl hW ?_); (rfl))
            | (go_at_call 120; (with_reducible refine (hI2 _ HB.out).mono ?_); rintro e w1 ⟨rfl, h9⟩; have HB := Lib.hid (vb HB.out h9); clear h9))
          refine (HF.out m _ HB.out).mono ?_
          rintro e w2 ⟨rfl, rfl⟩
          rw [hq]
          dsimp only
          go_wp2_with (fail)
          go_ret
          refine ⟨?_, HB.out⟩
          rw [HS.out, ho, show (match (some m : Option Nat) with | some m => ((fun i => decide (o.text.size ≤ i))) m | none => true) = false from hq]; rfl
end Go.Proofs.YtbeggameiedjgaaGreatDoor.S
/-
  heap.boxes: a string object's own properties. Generated: gen_heapbox.py.
-/
namespace Go.Proofs.YtbeggameiedjgaaGreatDoor.S
open Go.RowKit Go.Lib Fl
open Classical

set_option maxHeartbeats 2000000 in
set_option maxRecDepth 100000 in
theorem lenF (p : Pq) (w : World) : Calls Tryz.prog 132 #[.agg (prA p)] w fun e w' => e = .returned (.bool (eqK p.k lenK)) ∧ Below w.heap.size w w' := by
  have hb0 := heap_alloc_new w (.cells (prA p) 30)
  have c0 : (w.alloc (.cells (prA p) 30)).cell? ⟨w.heap.size, 0, none⟩ = some (.string p.k.str) := (vcells hb0 0).trans rfl
  have c1 : (w.alloc (.cells (prA p) 30)).cell? ⟨w.heap.size, 1, none⟩ = some (.int .i64 p.k.sym) := (vcells hb0 1).trans rfl
  have q := key_eq 9998 p.k.str (⟨#[108, 101, 110, 103, 116, 104]⟩ : ByteArray) p.k.sym 0
  rw [show (p.k.str == (⟨#[108, 101, 110, 103, 116, 104]⟩ : ByteArray) && p.k.sym == 0) = eqK p.k lenK from rfl] at q
  have ko := fun W hg hb => of_keep (⟨#[108, 101, 110, 103, 116, 104]⟩ : ByteArray) w.heap.size w W hg hb
  have hz5 := new_lt w (.cells (prA p) 30)
  have hd := (vzero w (.cells (prA p) 30)).drew
  generalize eqK p.k lenK = b at *
  generalize hk0 : p.k.str = s at *
  generalize hk1 : p.k.sym = y at *
  clear hb0
  cases b
  all_goals
    go_enter Tryz.func132, Tryz.ntmps132
    go_wp2
    go_region_held3 (fun w' => w.heap.size < w'.heap.size ∧ Below w.heap.size w w' ∧ w'.cell? ⟨w.heap.size, 0, none⟩ = some (.string s) ∧ w'.cell? ⟨w.heap.size, 1, none⟩ = some (.int .i64 y)) (first | exact ⟨hz5, hd, c0, c1⟩ | go_keep)
      (first
        | (go_at_call 13; refine (ko _ ?_ ?_).mono ?_; (simp [*]); (simp [*]); rintro e w' ⟨rfl, hb1, hb2, hb3⟩))
    go_wp2
    go_ret
    exact ⟨rfl, by assumption⟩
set_option maxHeartbeats 2000000 in
set_option maxRecDepth 100000 in
theorem indexL (A : Option Addr) (L : List Pq) (cap : Nat) (w : World) (hl : L.length < 1000000000000) (hL : PR w A L) : Calls Tryz.prog 86 #[.slice A L.length cap, .func (.func 132) #[] #[]] w fun e w' => ∃ n : Int, e = .returned (.int .i64 n) ∧ (decide (0 ≤ n) = L.any fun p => eqK p.k lenK) ∧ Below w.heap.size w w' := by
  go_enter Tryz.func86, Tryz.ntmps86
  go_wp2
  go_loopg [8] L.length (fun kx s8 wr => ∃ i : Nat, s8 = .int .i64 i ∧ i + kx = L.length ∧ Hid ((L.any fun p => eqK p.k lenK) = ((L.drop i).any fun p => eqK p.k lenK) ∧ Below w.heap.size w wr))
  case atStart => exact ⟨0, rfl, by omega, Lib.hid ⟨by simp, Below.refl _ _⟩⟩
  case round =>
    obtain ⟨i, rfl, hik, H⟩ := hrel
    cases gk with
    | zero =>
      obtain rfl : i = L.length := by omega
      go_wp2
      go_ret
      refine ⟨-1, rfl, ?_, H.out.2⟩
      rw [H.out.1, List.drop_length]; rfl
    | succ kx =>
      have hlt : i < L.length := by omega
      have hlz : (i : Int) < (L.length : Int) := by omega
      obtain ⟨a, rfl, hab, hrow⟩ := pr_up hL H.out.2 (by omega)
      have hc : ∀ j u, (pcl L[i])[j]? = some u → wr.cell? ((a.add (i * 18)).add j) = some u := fun j u hu => by rw [add_add]; exact hrow i hlt j u hu
      have hstep : ((L.drop i).any fun p => eqK p.k lenK) = (eqK L[i].k lenK || ((L.drop (i + 1)).any fun p => eqK p.k lenK)) := by rw [List.drop_eq_getElem_cons hlt]; rfl
      have hF := fun W => lenF L[i] W
      obtain ⟨P, hP⟩ : ∃ P, P = L[i] := ⟨_, rfl⟩
      rw [← hP] at hc hstep hF
      have HS := Lib.hid (H.out.1.trans hstep)
      clear hP hrow hstep
      cases hq : eqK P.k lenK with
      | true =>
        rw [hq] at hF
        go_wp2_with ((with_reducible refine p_load ?_ rfl rfl hc ?_); (rfl))
        refine (hF _).mono ?_
        rintro e w1 ⟨rfl, h9⟩
        have HB := Lib.hid (vb H.out.2 h9)
        clear h9
        dsimp only
        go_wp2_with (fail)
        go_ret
        refine ⟨(i : Int), rfl, ?_, HB.out⟩
        rw [HS.out, hq]; simp
      | false =>
        rw [hq] at hF
        go_wp2_with ((with_reducible refine p_load ?_ rfl rfl hc ?_); (rfl))
        refine (hF _).mono ?_
        rintro e w1 ⟨rfl, h9⟩
        have HB := Lib.hid (vb H.out.2 h9)
        clear h9
        dsimp only
        go_wp2_with (fail)
        go_roundg kx
        case measure => omega
        case rel => exact ⟨i + 1, by congr 1, by omega, Lib.hid ⟨by rw [HS.out, hq]; rfl, HB.out⟩⟩
set_option maxRecDepth 100000 in
theorem containsL (A : Option Addr) (L : List Pq) (cap : Nat) (w : World) (hl : L.length < 1000000000000) (hL : PR w A L) : Calls Tryz.prog 65 #[.slice A L.length cap, .func (.func 132) #[] #[]] w fun e w' => e = .returned (.bool (L.any fun p => eqK p.k lenK)) ∧ Below w.heap.size w w' := by
  have hI := indexL A L cap w hl hL
  go_enter Tryz.func65, Tryz.ntmps65
  go_wp2_with (go_at_call 86; (with_reducible refine hI.mono ?_); rintro e w1 ⟨n, rfl, hn, hb⟩)
  go_ret
  exact ⟨by rw [← hn]; rfl, hb⟩
/-- what boxes holds on to -/
structure Bx (w : World) (B : Addr) (o : Ob) (W : World) : Prop where
  below : Below w.heap.size w W
  b : W.heap[w.heap.size]? = some (.cells #[.pointer (some B)] 118 (0, 0))
  of : OF W B o
theorem Bx.up {w W W' : World} {B : Addr} {o : Ob} (h : Bx w B o W) (hb : Below W.heap.size W W') : Bx w B o W' := ⟨vb h.below hb, vblkn hb h.b, h.of.up hb⟩
theorem Bx.c {w W : World} {B : Addr} {o : Ob} (h : Bx w B o W) : W.cell? ⟨w.heap.size, 0, none⟩ = some (.pointer (some B)) := (vcells h.b 0).trans rfl
theorem bx_start {w : World} {B : Addr} {o : Ob} (h : OF w B o) : Bx w B o (w.alloc (.cells #[.pointer (some B)] 118)) := ⟨vzero _ _, heap_alloc_new w _, h.up (vzero _ _)⟩
set_option maxHeartbeats 2000000 in
set_option maxRecDepth 100000 in
theorem boxes_h (B : Addr) (o : Ob) (w : World) (h : OF w B o) (hin : o.In) (hfew : o.props.length < 1000000000000) (hP : PR w o.pa o.props) (htab : TabHere w) : Calls Tryz.prog 94 #[.pointer (some B)] w fun e w' => e = .returned (.bool (boxesB o)) ∧ Below w.heap.size w w' := by
  have HB := Lib.hid (bx_start h)
  have cC := fun W (hb : Below w.heap.size w W) => containsL o.pa o.props o.pc W hfew (pr_up hP hb)
  have cI := fun W (hx : Bx w B o W) => indices_b o.pa o.props o.pc w.heap.size B o W (tab_up htab hx.below) hin.props hfew (pr_up hP hx.below) (lt_blk hx.b) hx.c hx.of
  have q0 := HB.out.c
  have q1 := HB.out.of.text
  have q2 := HB.out.of.props
  have q3 := HB.out.of.lt
  unfold boxesB
  by_cases hs : o.text.size ≤ 4096
  · have hz : ¬ (4096 : Int) < (o.text.size : Int) := by omega
    rw [decide_eq_true hs]
    cases ha : (o.props.any fun p => eqK p.k lenK) with
    | true =>
      rw [ha] at cC
      go_enter Tryz.func94, Tryz.ntmps94
      go_wp2_with (go_at_call 65; (with_reducible refine (cC _ HB.out.below).mono ?_); rintro e w1 ⟨rfl, h9⟩; have HB := Lib.hid (HB.out.up h9); clear h9)
      go_ret
      exact ⟨rfl, HB.out.below⟩
    | false =>
      rw [ha] at cC
      go_enter Tryz.func94, Tryz.ntmps94
      go_wp2_with (first
        | (go_at_call 65; (with_reducible refine (cC _ HB.out.below).mono ?_); rintro e w1 ⟨rfl, h9⟩; have HB := Lib.hid (HB.out.up h9); have q0 := HB.out.c; have q1 := HB.out.of.text; have q2 := HB.out.of.props; have q3 := HB.out.of.lt; clear h9)
        | (go_at_call 130; (with_reducible refine (cI _ HB.out).mono ?_); rintro e w1 ⟨rfl, h9⟩; have HB := Lib.hid (HB.out.up h9); clear h9))
      go_ret
      exact ⟨rfl, HB.out.below⟩
  · have hz : (4096 : Int) < (o.text.size : Int) := by omega
    rw [decide_eq_false hs]
    go_enter Tryz.func94, Tryz.ntmps94
    go_wp2
    go_ret
    exact ⟨rfl, HB.out.below⟩
end Go.Proofs.YtbeggameiedjgaaGreatDoor.S
/-
  heap.holds, revokes, leads.
-/
namespace Go.Proofs.YtbeggameiedjgaaGreatDoor.S
open Go.RowKit Go.Lib Fl
open Classical

theorem ok_ref {v : Vq} (h : v.Ok) (ho : objQ v = true) : 0 ≤ v.r := by
  obtain ⟨u, ok, e1, _, _, e4⟩ := h
  cases u with
  | obj k r => rw [← e4]; exact ok.2.1
  | _ =>
    exfalso
    unfold objQ at ho
    rw [← e1] at ho
    exact absurd ho (by simp only [Vl.kd]; decide)
theorem may_ok {v : Vq} (h : v.may = true) : v.Ok := mayI_iff.1 h
theorem holds_at {H : List Ob} {v : Vq} {n : Nat} (h : n < H.length) (e : v.r = n) : refB H v = (v.k == kindO H[n]) := by
  unfold refB
  rw [e, Int.toNat_natCast, List.getElem?_eq_getElem h]
theorem holds_out {H : List Ob} {v : Vq} {n : Nat} (h : ¬ n < H.length) (e : v.r = n) : refB H v = false := by
  unfold refB
  rw [e, Int.toNat_natCast, List.getElem?_eq_none (by omega)]
/-- what holds holds on to -/
structure Hh (w : World) (A : Option Addr) (n cap : Nat) (k : Int) (x : Nat) (s : ByteArray) (r : Int) (W : World) : Prop where
  below : Below w.heap.size w W
  h : W.cell? ⟨w.heap.size, 0, none⟩ = some (.slice A n cap)
  v : W.heap[w.heap.size + 1]? = some (.cells #[.int .u8 k, .float .f64 x, .string s, .int .i64 r] 26 (0, 0))
  lt : w.heap.size + 1 < W.heap.size
theorem hh_start (w : World) (A : Option Addr) (n cap : Nat) (k : Int) (x : Nat) (s : ByteArray) (r : Int) : Hh w A n cap k x s r ((w.alloc (.cells #[.slice A n cap] 49)).alloc (.cells #[.int .u8 k, .float .f64 x, .string s, .int .i64 r] 26)) := by
  obtain ⟨b1, b2⟩ := vblk2 (w := w) (Below.refl _ ((w.alloc (.cells #[.slice A n cap] 49)).alloc (.cells #[.int .u8 k, .float .f64 x, .string s, .int .i64 r] 26)))
  exact ⟨vafter (vzero _ _), (vcells b1 0).trans rfl, b2, by simp⟩
theorem Hh.up {w W W' : World} {A : Option Addr} {n cap : Nat} {k : Int} {x : Nat} {s : ByteArray} {r : Int} (h : Hh w A n cap k x s r W) (hb : Below W.heap.size W W') : Hh w A n cap k x s r W' :=
  ⟨vb h.below hb, (hb.cell (p := ⟨w.heap.size, 0, none⟩) (by have := h.lt; show w.heap.size < _; omega)).trans h.h, vblkn hb h.v, Nat.lt_of_lt_of_le h.lt hb.size⟩
set_option maxHeartbeats 2000000 in
set_option maxRecDepth 100000 in
theorem holds_h (A : Option Addr) (H : List Ob) (cap : Nat) (v : Vq) (w : World) (hH : HIn w A H cap) (hv : v.In) : Calls Tryz.prog 68 #[.agg #[.slice A H.length cap], .agg #[.int .u8 v.k, .float .f64 v.x, .string v.s, .int .i64 v.r]] w fun e w' => e = .returned (.bool (holdsB H v)) ∧ Below w.heap.size w w' := by
  have c1 := fun w => may_i (sa := v.s) hv w
  have c2 := fun w => IsObject_q v hv.1 w
  have HS := Lib.hid (hh_start w A H.length cap v.k v.x v.s v.r)
  have hmay : v.may = mayI v.k v.x v.s v.r := rfl
  rw [← hmay] at c1
  unfold holdsB
  obtain ⟨q0, q1, q2, q3, _⟩ := vc4 HS.out.v
  cases hm : v.may with
  | false =>
    rw [hm] at c1
    go_enter Tryz.func68, Tryz.ntmps68
    go_wp2_with (go_at_call 89; (with_reducible refine (c1 _).mono ?_); rintro e w1 ⟨rfl, h9⟩; have HS := Lib.hid (HS.out.up h9); clear h9)
    go_ret
    exact ⟨rfl, HS.out.below⟩
  | true =>
    rw [hm] at c1
    have hr0 := fun ho => ok_ref (may_ok hm) ho
    cases ho : objQ v with
    | false =>
      rw [ho] at c2
      go_enter Tryz.func68, Tryz.ntmps68
      go_wp2_with (first
        | (go_at_call 89; (with_reducible refine (c1 _).mono ?_); rintro e w1 ⟨rfl, h9⟩; have HS := Lib.hid (HS.out.up h9); obtain ⟨q0, q1, q2, q3, _⟩ := vc4 HS.out.v; clear h9)
        | (go_at_call 66; (with_reducible refine (c2 _).mono ?_); rintro e w2 ⟨rfl, h9⟩; have HS := Lib.hid (HS.out.up h9); clear h9))
      go_ret
      exact ⟨rfl, HS.out.below⟩
    | true =>
      rw [ho] at c2
      obtain ⟨n, hn⟩ := Int.eq_ofNat_of_zero_le (hr0 ho)
      by_cases hlt : n < H.length
      · rw [holds_at hlt hn]
        obtain ⟨a, rfl, hab, hof, _⟩ := hH.at hlt
        have hK := fun W (hb : Below w.heap.size w W) => kind_h (a.add (n * 18)) H[n] W (hof.up hb)
        generalize H[n] = o at *
        obtain ⟨k, x, s, r⟩ := v
        dsimp only at *
        subst hn
        have hlz : (n : Int) < (H.length : Int) := by omega
        have hl0 : (0 : Int) ≤ (n : Int) := by omega
        go_enter Tryz.func68, Tryz.ntmps68
        go_wp2_with (first
          | (go_at_call 89; (with_reducible refine (c1 _).mono ?_); rintro e w1 ⟨rfl, h9⟩; have HS := Lib.hid (HS.out.up h9); obtain ⟨q0, q1, q2, q3, _⟩ := vc4 HS.out.v; clear h9)
          | (go_at_call 66; (with_reducible refine (c2 _).mono ?_); rintro e w2 ⟨rfl, h9⟩; have HS := Lib.hid (HS.out.up h9); obtain ⟨q0, q1, q2, q3, _⟩ := vc4 HS.out.v; have q4 := HS.out.h; clear h9))
        go_quiet ((go_at_call 90; exact Calls.quiet_of_same (hK _ (tdrewN HS.out.below _))))
        all_goals go_wp2
        all_goals go_ret
        all_goals exact ⟨rfl, tdrewN HS.out.below _⟩
      · rw [holds_out hlt hn]
        obtain ⟨k, x, s, r⟩ := v
        dsimp only at *
        subst hn
        have hlz : ¬ (n : Int) < (H.length : Int) := by omega
        go_enter Tryz.func68, Tryz.ntmps68
        go_wp2_with (first
          | (go_at_call 89; (with_reducible refine (c1 _).mono ?_); rintro e w1 ⟨rfl, h9⟩; have HS := Lib.hid (HS.out.up h9); obtain ⟨q0, q1, q2, q3, _⟩ := vc4 HS.out.v; clear h9)
          | (go_at_call 66; (with_reducible refine (c2 _).mono ?_); rintro e w2 ⟨rfl, h9⟩; have HS := Lib.hid (HS.out.up h9); obtain ⟨q0, q1, q2, q3, _⟩ := vc4 HS.out.v; have q4 := HS.out.h; clear h9))
        go_quiet (fail)
        all_goals go_wp2
        all_goals go_ret
        all_goals exact ⟨rfl, tdrewN HS.out.below _⟩
end Go.Proofs.YtbeggameiedjgaaGreatDoor.S
