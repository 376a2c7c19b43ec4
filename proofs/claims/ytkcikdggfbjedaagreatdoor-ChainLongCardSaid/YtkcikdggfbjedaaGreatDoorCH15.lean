/-
  table.Find where the properties may be. Generated: gen_tabdrop.py.
-/
import Derived.Test.YtkcikdggfbjedaaGreatDoorCH14
import Derived.Test.YtkcikdggfbjedaaGreatDoorCH09
import Derived.Maps.AppendAt
import Derived.OwnWalk
import Derived.RangeFuncNested
import Derived.RangeFuncBound
import Derived.RangeFuncCalls
import Derived.RangeFuncLeaves
import Derived.Shelf.Abstract
import Derived.Shelf.RegionOpen
import Derived.WalkKit
import Derived.OwnWalkIn
import Derived.TacticsInMore
import Derived.LoopNIn
import Derived.LoopIn
namespace Go.Proofs.YtkcikdggfbjedaaGreatDoor.S
open Go.RowKit Go.Lib Fl
open Classical

/-- a descriptor found, or none -/
def fndD (L : List Pq) (k : Ky) : Dq := match findT L k with | some p => p.d | none => dz 0
def FndTo (L : List Pq) (k : Ky) (w : World) (e : Ending) (w' : World) : Prop := e = .returned (.tuple #[.agg (fndD L k).cells, .bool (findT L k).isSome, .int .i64 0]) ∧ Below w.heap.size w w'
end Go.Proofs.YtkcikdggfbjedaaGreatDoor.S
/-
  A property built out of a key and a descriptor; a slice of one.
-/
namespace Go.Proofs.YtkcikdggfbjedaaGreatDoor.S
open Go.RowKit Go.Lib Fl

section
variable {ops : Array Oper} {rest : List Oper} {o : Oper} {a : Act} {w : World} {Q : Exit → Act → World → Prop}
end
end Go.Proofs.YtkcikdggfbjedaaGreatDoor.S
/-
  table.Put where the properties may be. Generated: gen_tabdrop.py.
-/
namespace Go.Proofs.YtkcikdggfbjedaaGreatDoor.S
open Go.RowKit Go.Lib Fl
open Classical

/-- Put's error -/
noncomputable def putE (L : List Pq) (p : Pq) : Int := if mayT p = 0 then (if cutN L p.k = 1024 then 100 else 0) else mayT p
def PutOut (L : List Pq) (p : Pq) (w : World) (e : Ending) (w' : World) : Prop := ∃ v, e = .returned (.tuple #[v, .int .i64 (putE L p)]) ∧ (putE L p = 0 → OutS w' v (putT L p)) ∧ Below w.heap.size w w'
end Go.Proofs.YtkcikdggfbjedaaGreatDoor.S
/-
  table.Keys, Sealed, Frozen where the properties may be. Generated: gen_tabtell.py.
-/
namespace Go.Proofs.YtkcikdggfbjedaaGreatDoor.S
open Go.RowKit Go.Lib Fl
open Classical

end Go.Proofs.YtkcikdggfbjedaaGreatDoor.S
/-
  table.Keys where the properties may be.
-/
namespace Go.Proofs.YtkcikdggfbjedaaGreatDoor.S
open Go.RowKit Go.Lib Fl
open Classical

theorem pw_load {ops : Array Oper} {rest : List Oper} {o : Oper} {a : Act} {w : World} {Q : Exit → Act → World → Prop} {x : Operand} {g : Nat} {p : Pq} (hw : Region.wanted o (yielded ops a.tmps) = true) (ho : o.op = .load 109 x) (hx : a.eval x = .pointer (some ⟨g, 0, none⟩)) (hg : w.heap[g]? = some (.cells (prA p) 109 (0, 0)))
    (h : wpList Tryz.prog ops Q rest (a.put o.dst (.agg (prA p))) w) : wpList Tryz.prog ops Q (o :: rest) a w :=
  wpList_wanted hw fun _ hK => wp_load_row 109 x ho g hx 109 _ (0, 0) _ hg Tryz.underlying109 rfl psz (hK _ _ h)
def keysL (L : List Pq) : List Ky := L.map (·.k)
def KeysTo (L : List Pq) (w : World) (e : Ending) (w' : World) : Prop := ∃ M O, e = .returned (.tuple #[.slice (some ⟨O, 0, none⟩) L.length L.length, .int .i64 0]) ∧ OrdOf (keysL L) M ∧ w'.heap[O]? = some (.cells (kyCells M).toArray 45 (0, 0)) ∧ Below w.heap.size w w'
theorem below_gb {w w' : World} (h : Below w.heap.size w w') : w.grownBy w' none := ⟨h.os, h.tape, h.output, h.size, fun k hk _ => h.block k hk⟩
theorem own_up {w w' : World} {B : Nat} {e : TypeId} {size n : Nat} {v : Value} {xs : List Value} (h : w.ownsRow B e size v n xs) (hb : Below w.heap.size w w') : w'.ownsRow B e size v n xs :=
  h.kept (below_gb hb) (by cases v.ownBlock <;> simp)
end Go.Proofs.YtkcikdggfbjedaaGreatDoor.S
/-
  alive of the laws of table: put, and found.
-/
namespace Go.Proofs.YtkcikdggfbjedaaGreatDoor.S
open Go.RowKit Go.Lib Fl
open Classical

/-- the usual property of a number -/
def dN (x : Nat) : Dq := ⟨51, ⟨3, x, ⟨#[]⟩, 0⟩, v0, v0, true, true, true⟩
def pN (s : ByteArray) (y : Int) (x : Nat) : Pq := ⟨⟨s, y⟩, dN x⟩

theorem ok_in2 {v : Vq} (h : v.Ok) : v.In := by
  obtain ⟨u, ok, e1, e2, _, e4⟩ := h
  obtain ⟨k0, k8⟩ := vok_kind ⟨u, ok, e1, e2, rfl, e4⟩
  refine ⟨k0, by omega, ?_, ?_⟩
  · rw [← e2]
    cases u with
    | boo x => rcases ok with rfl | rfl | rfl <;> simp only [Vl.fl] <;> omega
    | num x => obtain ⟨c, hc, _⟩ := ok; simp only [Vl.fl]; exact hc.lt
    | _ => simp only [Vl.fl]; omega
  · rw [← e4]
    cases u with
    | sym r => exact ok.2
    | obj k r => exact ok.2.2
    | _ => simp only [Vl.rf]; omega
theorem pN_in {s : ByteArray} {y : Int} {x : Nat} (hs : s.size ≤ 4096) (hy : 0 ≤ y ∧ y < 100) (hv : (⟨3, x, ⟨#[]⟩, 0⟩ : Vq).Ok) : (pN s y x).In :=
  ⟨⟨by show s.size ≤ maxLen; unfold maxLen; omega, by show -2 ^ 63 ≤ y; omega, by show y < 2 ^ 63; omega⟩, by show (0 : Int) ≤ 51; decide, by show (51 : Int) < 256; decide, ok_in2 hv, ok_in2 v0_ok, ok_in2 v0_ok⟩
def pA : Pq := pN (⟨#[97]⟩ : ByteArray) 0 4607182418800017408
end Go.Proofs.YtkcikdggfbjedaaGreatDoor.S
/-
  Heaps: which objects may be, where prototypes lead, what one comes to: plain functions.
-/
namespace Go.Proofs.YtkcikdggfbjedaaGreatDoor.S
open Go.RowKit Go.Lib Fl
open Classical

/-- an object; pa and pc: where its properties lie, and how many have room there (they count for nothing) -/
structure Ob where
  kind : Int
  proto : Vq
  ext : Bool
  pa : Option Addr
  pc : Nat
  props : List Pq
  target : Vq
  handler : Vq
  text : ByteArray
  calls : Bool
  makes : Bool
instance : Inhabited Ob := ⟨⟨0, v0, false, none, 0, [], v0, v0, ⟨#[]⟩, false, false⟩⟩
def ocl (o : Ob) : List Value := [.int .u8 o.kind, .int .u8 o.proto.k, .float .f64 o.proto.x, .string o.proto.s, .int .i64 o.proto.r, .bool o.ext, .slice o.pa o.props.length o.pc,
  .int .u8 o.target.k, .float .f64 o.target.x, .string o.target.s, .int .i64 o.target.r, .int .u8 o.handler.k, .float .f64 o.handler.x, .string o.handler.s, .int .i64 o.handler.r, .string o.text, .bool o.calls, .bool o.makes]
def obA (o : Ob) : Array Value := (ocl o).toArray
theorem ocl_len (o : Ob) : (ocl o).length = 18 := rfl
theorem obA_size (o : Ob) : (obA o).size = 18 := rfl
theorem obA_one (o : Ob) : (obA o).all (·.oneCell') = true := cells_one (l := ocl o) rfl
/-- an object that may come in -/
structure Ob.In (o : Ob) : Prop where
  k0 : 0 ≤ o.kind
  k1 : o.kind < 256
  proto : o.proto.In
  target : o.target.In
  handler : o.handler.In
  text : o.text.size ≤ maxLen
  props : ∀ p ∈ o.props, p.In
  room : o.props.length ≤ o.pc
  cap63 : o.pc < 9223372036854775808
  nil : o.pa = none → o.pc = 0
/-- but for where its properties lie -/
def Ob.bare (o : Ob) : Ob := { o with pa := none, pc := 0 }
def objQ (v : Vq) : Bool := v.k == 6 || (v.k == 7 || v.k == 8)
def valsO (o : Ob) : List Vq := [o.proto, o.target, o.handler] ++ o.props.flatMap fun p => [p.d.a, p.d.b, p.d.c]
def kindO (o : Ob) : Int := bif o.calls && o.makes then 8 else bif o.calls then 7 else bif o.makes then 0 else 6
def refB (H : List Ob) (v : Vq) : Bool := match H[v.r.toNat]? with | some o => v.k == kindO o | none => false
noncomputable def holdsB (H : List Ob) (v : Vq) : Bool := v.may && (!objQ v || refB H v)
def aloneB (o : Ob) : Bool := o.target.z && o.handler.z
def bareB (o : Ob) : Bool := aloneB o && o.text.toList.isEmpty
def lenK : Ky := ⟨(⟨#[108, 101, 110, 103, 116, 104]⟩ : ByteArray), 0⟩
/-- the whole number that a float tells, from 0 to 1024 -/
noncomputable def smallN (x : Nat) : Option Nat := if h : ∃ n : Nat, n ≤ 1024 ∧ x = F n then some (Classical.choose h) else none
def idxs (L : List Pq) (such : Nat → Bool) : Bool := L.all fun p => match ixK p.k.str p.k.sym with | some i => such i | none => true
noncomputable def measuredB (L : List Pq) : Bool := match L with
  | [] => false
  | p :: _ => eqK p.k lenK && (p.d.a.k == 3 && (match smallN p.d.a.x with | some n => !p.d.q && (!p.d.z && idxs L fun i => decide (i < n)) | none => false))
def boxesB (o : Ob) : Bool := decide (o.text.size ≤ 4096) && (!(o.props.any fun p => eqK p.k lenK) && idxs o.props fun i => decide (o.text.size ≤ i))
def aheadB (v : Vq) (n : Nat) : Bool := objQ v && decide (v.r < n)
def proxB (H : List Ob) (t : Vq) : Bool := match H[t.r.toNat]? with | some o => o.kind == 6 | none => false
def revokesB (H : List Ob) (t : Vq) (n : Nat) : Bool := t.z || (aheadB t n && proxB H t)
def leadsB (o : Ob) (n : Nat) : Bool := bif o.target.k == 1 && o.handler.k == 1 then !(kindO o == 0) else aheadB o.target n && (aheadB o.handler n && kindO o == o.target.k)
noncomputable def fitsB (H : List Ob) (o : Ob) (n : Nat) : Bool :=
  bif o.kind == 1 then kindO o == 6 && bareB o
  else bif o.kind == 2 then kindO o == 6 && (bareB o && measuredB o.props)
  else bif o.kind == 3 then kindO o == 6 && (aloneB o && boxesB o)
  else bif o.kind == 4 then kindO o == 8 && bareB o
  else bif o.kind == 5 then o.calls && (o.handler.z && (o.text.toList.isEmpty && revokesB H o.target n))
  else bif o.kind == 6 then !o.ext && (o.props.isEmpty && (o.proto.k == 1 && (o.text.toList.isEmpty && leadsB o n)))
  else false
noncomputable def mayB (H : List Ob) (o : Ob) (n : Nat) : Bool :=
  chkT o.props == 0 && ((objQ o.proto || o.proto.k == 1) && ((valsO o).all (holdsB H) && fitsB H o n))
/-- where an object's prototype leads -/
def nextO (H : List Ob) (p : Nat) : Option Nat := match H[p]? with
  | some o => bif objQ o.proto then some o.proto.r.toNat else none
  | none => none
/-- one walk along prototypes: none, if it comes back -/
def walkF (H : List Ob) (k : Nat) : Nat → Nat → List Nat → Option (List Nat)
  | 0, _, W => some W
  | f + 1, p, W => match W[p]? with
    | none => some W
    | some x => bif x == k then none else bif !(x == 0) then some W else match nextO H p with
      | none => some (W.set p k)
      | some q => walkF H k f q (W.set p k)
def loopsL (H : List Ob) : Nat → Nat → List Nat → Bool
  | 0, _, _ => false
  | m + 1, n, W => match walkF H (n + 1) (H.length + 1) n W with
    | none => true
    | some W' => loopsL H m (n + 1) W'
def loopsB (H : List Ob) : Bool := loopsL H H.length 0 (List.replicate H.length 0)
noncomputable def mayH (H : List Ob) : Bool := decide (H.length ≤ 4096) && ((List.range H.length).all (fun i => match H[i]? with | some o => mayB H o i | none => false) && !loopsB H)
noncomputable def chkH (H : List Ob) : Int := bif mayH H then 0 else 9
theorem mayH_iff {H : List Ob} : mayH H = true ↔ H.length ≤ 4096 ∧ (∀ i (h : i < H.length), mayB H H[i] i = true) ∧ loopsB H = false := by
  unfold mayH
  simp only [Bool.and_eq_true, decide_eq_true_eq, List.all_eq_true, List.mem_range, Bool.not_eq_true']
  refine ⟨fun ⟨a, b, c⟩ => ⟨a, fun i h => ?_, c⟩, fun ⟨a, b, c⟩ => ⟨a, fun i h => ?_, c⟩⟩
  · have := b i h
    rw [List.getElem?_eq_getElem h] at this
    exact this
  · rw [List.getElem?_eq_getElem h]; exact b i h
/-- what may be in a heap may be with more objects behind -/
theorem holds_more {H : List Ob} {v : Vq} (G : List Ob) (h : holdsB H v = true) : holdsB (H ++ G) v = true := by
  unfold holdsB at h ⊢
  rw [Bool.and_eq_true] at h ⊢
  refine ⟨h.1, ?_⟩
  have h2 := h.2
  cases ho : objQ v with
  | false => rfl
  | true =>
    rw [ho, Bool.not_true, Bool.false_or] at h2
    rw [Bool.not_true, Bool.false_or]
    unfold refB at h2 ⊢
    cases e : H[v.r.toNat]? with
    | none => rw [e] at h2; cases h2
    | some o =>
      obtain ⟨hi, _⟩ := List.getElem?_eq_some_iff.1 e
      rw [e] at h2
      rw [List.getElem?_append_left hi, e]
      exact h2
theorem may_more {H : List Ob} {o : Ob} {n : Nat} (G : List Ob) (h : mayB H o n = true) : mayB (H ++ G) o n = true := by
  unfold mayB at h ⊢
  simp only [Bool.and_eq_true] at h ⊢
  obtain ⟨h1, h2, h3, h4⟩ := h
  refine ⟨h1, h2, ?_, ?_⟩
  · rw [List.all_eq_true] at h3 ⊢
    exact fun v hv => holds_more G (h3 v hv)
  · unfold fitsB at h4 ⊢
    have hr : revokesB H o.target n = true → revokesB (H ++ G) o.target n = true := fun h => by
      unfold revokesB at h ⊢
      rw [Bool.or_eq_true] at h ⊢
      refine h.imp id fun h => ?_
      rw [Bool.and_eq_true] at h ⊢
      refine ⟨h.1, ?_⟩
      have h2 := h.2
      unfold proxB at h2 ⊢
      cases e : H[o.target.r.toNat]? with
      | none => rw [e] at h2; cases h2
      | some u =>
        obtain ⟨hi, _⟩ := List.getElem?_eq_some_iff.1 e
        rw [e] at h2
        rw [List.getElem?_append_left hi, e]
        exact h2
    cases e1 : o.kind == 1 <;> rw [e1] at h4
    · cases e2 : o.kind == 2 <;> rw [e2] at h4
      · cases e3 : o.kind == 3 <;> rw [e3] at h4
        · cases e4 : o.kind == 4 <;> rw [e4] at h4
          · cases e5 : o.kind == 5 <;> rw [e5] at h4
            · exact h4
            · simp only [cond_true, cond_false, Bool.and_eq_true] at h4 ⊢
              exact ⟨h4.1, h4.2.1, h4.2.2.1, hr h4.2.2.2⟩
          · exact h4
        · exact h4
      · exact h4
    · exact h4
/-- the heap with one object more may be, where that one may, and no prototypes lead back -/
theorem mayH_new {H : List Ob} {o : Ob} (h : mayH H = true) (hn : H.length ≠ 4096) (ho : mayB (H ++ [o]) o H.length = true) (hl : loopsB (H ++ [o]) = false) : mayH (H ++ [o]) = true := by
  obtain ⟨a, b, _⟩ := mayH_iff.1 h
  refine mayH_iff.2 ⟨by simp; omega, fun i hi => ?_, hl⟩
  by_cases c : i < H.length
  · rw [List.getElem_append_left c]; exact may_more _ (b i c)
  · have e : i = H.length := by simp at hi; omega
    subst e
    rw [List.getElem_append_right (Nat.le_refl _)]
    simpa using ho
/-- to which objects an object leads -/
def refsO (o : Ob) : List Nat := (valsO o).filterMap fun v => bif objQ v then some v.r.toNat else none
inductive RH (H : List Ob) (F : List Nat) : Nat → Prop where
  | start {x : Nat} : x ∈ F → RH H F x
  | step {x y : Nat} {o : Ob} : RH H F x → H[x]? = some o → y ∈ refsO o → RH H F y
theorem RH.more {H : List Ob} {F G : List Nat} (h : ∀ x ∈ F, RH H G x) {y : Nat} (hy : RH H F y) : RH H G y := by
  induction hy with
  | start h' => exact h _ h'
  | step _ e hm ih => exact .step ih e hm
theorem RH.lt {H : List Ob} {F : List Nat} (hm : mayH H = true) (hF : ∀ x ∈ F, x < H.length) {y : Nat} (hy : RH H F y) : y < H.length := by
  induction hy with
  | start h' => exact hF _ h'
  | @step x y o _ e hm' ih =>
    obtain ⟨hi, he⟩ := List.getElem?_eq_some_iff.1 e
    have hb := (mayH_iff.1 hm).2.1 x hi
    rw [he] at hb
    unfold mayB at hb
    simp only [Bool.and_eq_true] at hb
    obtain ⟨v, hv, hv2⟩ := List.mem_filterMap.1 hm'
    have hh := List.all_eq_true.1 hb.2.2.1 v hv
    cases ho : objQ v with
    | false => rw [ho] at hv2; cases hv2
    | true =>
      rw [ho] at hv2
      obtain rfl : v.r.toNat = y := Option.some.inj hv2
      unfold holdsB at hh
      rw [Bool.and_eq_true, ho, Bool.not_true, Bool.false_or] at hh
      unfold refB at hh
      cases e2 : H[v.r.toNat]? with
      | none => rw [e2] at hh; exact absurd hh.2 (by simp)
      | some u => exact (List.getElem?_eq_some_iff.1 e2).1
end Go.Proofs.YtkcikdggfbjedaaGreatDoor.S
/-
  A heap in memory: an object's cells, values in them; what tells an object's kind, and what it has.
-/
namespace Go.Proofs.YtkcikdggfbjedaaGreatDoor.S
open Go.RowKit Go.Lib Fl
open Classical

theorem osz : (Tryz.prog.info? 64).map (·.size) = some 18 := by kernel_rfl
theorem vsz4 : (Tryz.prog.info? 48).map (·.size) = some 4 := by kernel_rfl
/-- a value's cells -/
structure VAt (w : World) (A : Addr) (v : Vq) : Prop where
  lt : A.block < w.heap.size
  k : w.cell? A = some (.int .u8 v.k)
  x : w.cell? ⟨A.block, A.off + 1, none⟩ = some (.float .f64 v.x)
  s : w.cell? ⟨A.block, A.off + 2, none⟩ = some (.string v.s)
  r : w.cell? ⟨A.block, A.off + 3, none⟩ = some (.int .i64 v.r)
theorem VAt.up {w w' : World} {A : Addr} {v : Vq} (h : VAt w A v) (hb : Below w.heap.size w w') : VAt w' A v :=
  ⟨Nat.lt_of_lt_of_le h.lt hb.size, (hb.cell (p := A) h.lt).trans h.k, (hb.cell (p := ⟨A.block, A.off + 1, none⟩) h.lt).trans h.x, (hb.cell (p := ⟨A.block, A.off + 2, none⟩) h.lt).trans h.s, (hb.cell (p := ⟨A.block, A.off + 3, none⟩) h.lt).trans h.r⟩
/-- an object's cells -/
structure OF (w : World) (A : Addr) (o : Ob) : Prop where
  lt : A.block < w.heap.size
  kind : w.cell? A = some (.int .u8 o.kind)
  proto : VAt w ⟨A.block, A.off + 1, none⟩ o.proto
  ext : w.cell? ⟨A.block, A.off + 5, none⟩ = some (.bool o.ext)
  props : w.cell? ⟨A.block, A.off + 6, none⟩ = some (.slice o.pa o.props.length o.pc)
  target : VAt w ⟨A.block, A.off + 7, none⟩ o.target
  handler : VAt w ⟨A.block, A.off + 11, none⟩ o.handler
  text : w.cell? ⟨A.block, A.off + 15, none⟩ = some (.string o.text)
  calls : w.cell? ⟨A.block, A.off + 16, none⟩ = some (.bool o.calls)
  makes : w.cell? ⟨A.block, A.off + 17, none⟩ = some (.bool o.makes)
theorem OF.up {w w' : World} {A : Addr} {o : Ob} (h : OF w A o) (hb : Below w.heap.size w w') : OF w' A o :=
  ⟨Nat.lt_of_lt_of_le h.lt hb.size, (hb.cell (p := A) h.lt).trans h.kind, h.proto.up hb, (hb.cell (p := ⟨A.block, A.off + 5, none⟩) h.lt).trans h.ext, (hb.cell (p := ⟨A.block, A.off + 6, none⟩) h.lt).trans h.props,
   h.target.up hb, h.handler.up hb, (hb.cell (p := ⟨A.block, A.off + 15, none⟩) h.lt).trans h.text, (hb.cell (p := ⟨A.block, A.off + 16, none⟩) h.lt).trans h.calls, (hb.cell (p := ⟨A.block, A.off + 17, none⟩) h.lt).trans h.makes⟩
theorem of_cells {w : World} {A : Addr} {o : Ob} (hlt : A.block < w.heap.size) (h : ∀ j u, (ocl o)[j]? = some u → w.cell? (A.add j) = some u) : OF w A o :=
  ⟨hlt, h 0 _ rfl, ⟨hlt, h 1 _ rfl, h 2 _ rfl, h 3 _ rfl, h 4 _ rfl⟩, h 5 _ rfl, h 6 _ rfl, ⟨hlt, h 7 _ rfl, h 8 _ rfl, h 9 _ rfl, h 10 _ rfl⟩, ⟨hlt, h 11 _ rfl, h 12 _ rfl, h 13 _ rfl, h 14 _ rfl⟩, h 15 _ rfl, h 16 _ rfl, h 17 _ rfl⟩
theorem of_back {w : World} {A : Addr} {o : Ob} (h : OF w A o) : ∀ j u, (ocl o)[j]? = some u → w.cell? (A.add j) = some u := fun j u hu => by
  match j, hu with
  | 0, hu => cases hu; exact h.kind
  | 1, hu => cases hu; exact h.proto.k
  | 2, hu => cases hu; exact h.proto.x
  | 3, hu => cases hu; exact h.proto.s
  | 4, hu => cases hu; exact h.proto.r
  | 5, hu => cases hu; exact h.ext
  | 6, hu => cases hu; exact h.props
  | 7, hu => cases hu; exact h.target.k
  | 8, hu => cases hu; exact h.target.x
  | 9, hu => cases hu; exact h.target.s
  | 10, hu => cases hu; exact h.target.r
  | 11, hu => cases hu; exact h.handler.k
  | 12, hu => cases hu; exact h.handler.x
  | 13, hu => cases hu; exact h.handler.s
  | 14, hu => cases hu; exact h.handler.r
  | 15, hu => cases hu; exact h.text
  | 16, hu => cases hu; exact h.calls
  | 17, hu => cases hu; exact h.makes
  | n + 18, hu => cases hu
/-- objects in a row, and their properties, wherever they lie -/
def HRow (w : World) (A : Option Addr) (H : List Ob) : Prop := 0 < H.length → ∃ a, A = some a ∧ a.block < w.heap.size ∧ ∀ i (h : i < H.length), OF w (a.add (i * 18)) H[i] ∧ PR w H[i].pa H[i].props
theorem hrow_up {w w' : World} {A : Option Addr} {H : List Ob} (h : HRow w A H) (hb : Below w.heap.size w w') : HRow w' A H := fun hp => by
  obtain ⟨a, h1, h2, h3⟩ := h hp
  exact ⟨a, h1, Nat.lt_of_lt_of_le h2 hb.size, fun i hi => ⟨(h3 i hi).1.up hb, pr_up (h3 i hi).2 hb⟩⟩
/-- a heap that may come in -/
structure HIn (w : World) (A : Option Addr) (H : List Ob) (cap : Nat) : Prop where
  inn : ∀ o ∈ H, o.In
  row : HRow w A H
  few : H.length ≤ 5000
  pfew : ∀ o ∈ H, o.props.length < 1000000000000
  room : H.length ≤ cap
  cap63 : cap < 9223372036854775808
  nil : A = none → cap = 0
theorem HIn.up {w w' : World} {A : Option Addr} {H : List Ob} {cap : Nat} (h : HIn w A H cap) (hb : Below w.heap.size w w') : HIn w' A H cap := ⟨h.inn, hrow_up h.row hb, h.few, h.pfew, h.room, h.cap63, h.nil⟩
theorem HIn.at {w : World} {A : Option Addr} {H : List Ob} {cap : Nat} (h : HIn w A H cap) {i : Nat} (hi : i < H.length) : ∃ a, A = some a ∧ (a.add (i * 18)).block < w.heap.size ∧ OF w (a.add (i * 18)) H[i] ∧ PR w H[i].pa H[i].props := by
  obtain ⟨a, h1, h2, h3⟩ := h.row (by omega)
  exact ⟨a, h1, by rw [add_blk]; exact h2, h3 i hi⟩
section
variable {ops : Array Oper} {rest : List Oper} {o : Oper} {a : Act} {w : World} {Q : Exit → Act → World → Prop} {x y : Operand} {g i : Nat} {t : TypeId}
/-- a value loaded -/
theorem va_load {A : Addr} {v : Vq} (hw : Region.wanted o (yielded ops a.tmps) = true) (ho : o.op = .load 48 x) (hx : a.eval x = .pointer (some A)) (hv : VAt w A v)
    (h : wpList Tryz.prog ops Q rest (a.put o.dst (.agg #[.int .u8 v.k, .float .f64 v.x, .string v.s, .int .i64 v.r])) w) : wpList Tryz.prog ops Q (o :: rest) a w :=
  wpList_wanted hw fun _ hK => wp_load_at (cs := [.int .u8 v.k, .float .f64 v.x, .string v.s, .int .i64 v.r]) ho hx (fun j u hu => by
    match j, hu with
    | 0, hu => cases hu; exact hv.k
    | 1, hu => cases hu; exact hv.x
    | 2, hu => cases hu; exact hv.s
    | 3, hu => cases hu; exact hv.r
    | n + 4, hu => cases hu) Tryz.underlying48 rfl vsz4 (hK _ _ h)
end
theorem veq0 (v : Vq) (w : World) : (Op.equalIn (9998 + 2) 48 (.agg #[.int .u8 v.k, .float .f64 v.x, .string v.s, .int .i64 v.r]) (.agg #[.int .u8 0, .float .f64 0, .string ⟨#[]⟩, .int .i64 0])).run Tryz.prog w = .ok v.z w := eq_val 9998 v.k v.x v.s v.r w
section
variable {ops : Array Oper} {rest : List Oper} {o : Oper} {a : Act} {w : World} {Q : Exit → Act → World → Prop} {x y : Operand}
theorem ex_eqz {v : Vq} (ho : o.op = .binOp .eql 48 x y 48) (hx : a.eval x = .agg #[.int .u8 v.k, .float .f64 v.x, .string v.s, .int .i64 v.r]) (hy : a.eval y = .agg #[.int .u8 0, .float .f64 0, .string ⟨#[]⟩, .int .i64 0]) :
    (execOp a.eval o).run Tryz.prog w = .ok (.value (.bool v.z)) w := by
  have he := veq0 v w
  unfold execOp
  simp only [ho, hx, hy, Sem.run_bind, Sem.run_pure, run_eqGuard_agg w _ _ _ _ _ _ (show Tryz.prog.eqGuardType Tryz.prog.depth 48 = false by kernel_rfl), run_eql_struct, he, Result.andThen_ok]
/-- a value held against the zero one -/
theorem vz_eq {v : Vq} (hw : Region.wanted o (yielded ops a.tmps) = true) (ho : o.op = .binOp .eql 48 x y 48) (hx : a.eval x = .agg #[.int .u8 v.k, .float .f64 v.x, .string v.s, .int .i64 v.r]) (hy : a.eval y = .agg #[.int .u8 0, .float .f64 0, .string ⟨#[]⟩, .int .i64 0])
    (h : wpList Tryz.prog ops Q rest (a.put o.dst (.bool v.z)) w) : wpList Tryz.prog ops Q (o :: rest) a w :=
  wpList_wanted hw fun K hK => by
    unfold Oper.wp
    rw [ex_eqz ho hx hy]
    exact hK _ _ h
end
theorem kind_h (A : Addr) (o : Ob) (w : World) (h : OF w A o) : Calls Tryz.prog 103 #[.pointer (some A)] w fun e w' => e = .returned (.int .u8 (kindO o)) ∧ w' = w := by
  have h1 := h.calls
  have h2 := h.makes
  have h0 := h.lt
  unfold kindO
  clear h
  generalize o.calls = b at *
  generalize o.makes = c at *
  cases b <;> cases c
  all_goals
    go_enter Tryz.func103, Tryz.ntmps103
    go_wp2
    go_ret
    exact ⟨rfl, rfl⟩
set_option maxRecDepth 100000 in
theorem alone_h (A : Addr) (o : Ob) (w : World) (h : OF w A o) : Calls Tryz.prog 106 #[.pointer (some A)] w fun e w' => e = .returned (.bool (aloneB o)) ∧ w' = w := by
  have h1 := h.target
  have h2 := h.handler
  have h0 := h.lt
  unfold aloneB
  clear h
  cases e1 : o.target.z <;> cases e2 : o.handler.z
  all_goals
    go_enter Tryz.func106, Tryz.ntmps106
    go_wp2_with (first
      | ((with_reducible refine va_load ?_ rfl rfl h1 ?_); (rfl))
      | ((with_reducible refine va_load ?_ rfl rfl h2 ?_); (rfl))
      | ((with_reducible refine vz_eq (v := o.target) ?_ rfl rfl rfl ?_); (rfl); rw [e1])
      | ((with_reducible refine vz_eq (v := o.handler) ?_ rfl rfl rfl ?_); (rfl); rw [e2]))
    go_ret
    exact ⟨rfl, rfl⟩
theorem bare_h (A : Addr) (o : Ob) (w : World) (h : OF w A o) : Calls Tryz.prog 104 #[.pointer (some A)] w fun e w' => e = .returned (.bool (bareB o)) ∧ w' = w := by
  have h1 := h.text
  have h0 := h.lt
  have c1 := alone_h A o w h
  unfold bareB
  clear h
  generalize aloneB o = b at *
  generalize o.text = s at *
  cases b with
  | false =>
    go_enter Tryz.func104, Tryz.ntmps104
    go_wp2_with (go_at_call 106; (with_reducible refine c1.mono ?_); rintro e w1 ⟨rfl, rfl⟩)
    go_ret
    exact ⟨rfl, rfl⟩
  | true =>
    go_enter Tryz.func104, Tryz.ntmps104
    go_wp2_with (go_at_call 106; (with_reducible refine c1.mono ?_); rintro e w1 ⟨rfl, rfl⟩)
    go_ret
    exact ⟨by first | rfl | simp, rfl⟩
theorem IsObject_q (v : Vq) (h : 0 ≤ v.k) (w : World) : Calls Tryz.prog 62 #[.agg #[.int .u8 v.k, .float .f64 v.x, .string v.s, .int .i64 v.r]] w fun e w' => e = .returned (.bool (objQ v)) ∧ Below w.heap.size w w' := by
  obtain ⟨k, x, s, r⟩ := v
  obtain ⟨n, rfl⟩ := Int.eq_ofNat_of_zero_le h
  have := IsObject_v n x s r w
  unfold objQ
  unfold objB at this
  dsimp only at this ⊢
  refine this.mono fun e w' ⟨he, hb⟩ => ⟨he.trans ?_, hb⟩
  have k6 : ((n : Int) == 6) = (n == 6) := kd_eq n 6
  have k7 : ((n : Int) == 7) = (n == 7) := kd_eq n 7
  have k8 : ((n : Int) == 8) = (n == 8) := kd_eq n 8
  rw [k6, k7, k8, Bool.or_assoc]
theorem ahead_h (v : Vq) (h : 0 ≤ v.k) (n : Nat) (w : World) : Calls Tryz.prog 128 #[.agg #[.int .u8 v.k, .float .f64 v.x, .string v.s, .int .i64 v.r], .int .i64 (n : Int)] w fun e w' => e = .returned (.bool (aheadB v n)) ∧ Below w.heap.size w w' := by
  have c1 := fun w => IsObject_q v h w
  have hb := heap_alloc_new w (.cells #[.int .u8 v.k, .float .f64 v.x, .string v.s, .int .i64 v.r] 48)
  obtain ⟨q0, q1, q2, q3, _⟩ := vc4 hb
  unfold aheadB
  generalize objQ v = b at *
  cases b with
  | false =>
    go_enter Tryz.func128, Tryz.ntmps128
    go_wp2_with (go_at_call 62; (with_reducible refine (c1 _).mono ?_); rintro e w1 ⟨rfl, h1⟩; obtain ⟨q0, q1, q2, q3, _⟩ := vc4 (vblkn h1 hb); have hB := vafter h1)
    go_ret
    exact ⟨rfl, hB⟩
  | true =>
    go_enter Tryz.func128, Tryz.ntmps128
    go_wp2_with (go_at_call 62; (with_reducible refine (c1 _).mono ?_); rintro e w1 ⟨rfl, h1⟩; obtain ⟨q0, q1, q2, q3, _⟩ := vc4 (vblkn h1 hb); have hB := vafter h1)
    go_ret
    exact ⟨by first | rfl | simp, hB⟩
end Go.Proofs.YtkcikdggfbjedaaGreatDoor.S
/-
  heap.values: an iterator over all that stands in an object.
-/
namespace Go.Proofs.YtkcikdggfbjedaaGreatDoor.S
open Go.RowKit Go.Lib Fl Go.Shelf
open Classical
attribute [local go_sem] Oper.semAt_some

def encV (v : Vq) : Array Value := #[.agg #[.int .u8 v.k, .float .f64 v.x, .string v.s, .int .i64 v.r]]
theorem values_h (A : Addr) (w : World) : Calls Tryz.prog 71 #[.pointer (some A)] w fun e w' => e = .returned (.func (.func 101) #[] #[.pointer (some ⟨w.heap.size, 0, none⟩)]) ∧ w' = w.alloc (.cells #[.pointer (some A)] 101) := by
  go_enter Tryz.func71, Tryz.ntmps71
  go_wp2
  go_ret
  exact ⟨rfl, rfl⟩
/-- the values that stand in an object ahead of its i-th property -/
def valsN (o : Ob) (i : Nat) : List Vq := [o.proto, o.target, o.handler] ++ (o.props.take i).flatMap fun p => [p.d.a, p.d.b, p.d.c]
theorem vals_all (o : Ob) : valsN o o.props.length = valsO o := by unfold valsN valsO; rw [List.take_length]
theorem vals_step (o : Ob) (i : Nat) (h : i < o.props.length) : valsN o (i + 1) = valsN o i ++ [o.props[i].d.a] ++ [o.props[i].d.b] ++ [o.props[i].d.c] := by
  unfold valsN
  rw [take_snoc h, List.flatMap_append]
  simp
theorem vals_len (o : Ob) (i : Nat) (h : i ≤ o.props.length) : (valsN o i).length = 3 + 3 * i := by
  unfold valsN
  have : ∀ L : List Pq, (L.flatMap fun p => [p.d.a, p.d.b, p.d.c]).length = 3 * L.length := fun L => by
    induction L with
    | nil => rfl
    | cons x r ih => rw [List.flatMap_cons, List.length_append, ih, List.length_cons]; simp; omega
  rw [List.length_append, this, List.length_take]
  simp; omega
theorem vals_pre (o : Ob) (i : Nat) : valsN o i <+: valsO o := by
  rw [← vals_all]
  unfold valsN
  refine ⟨(o.props.drop i).flatMap fun p => [p.d.a, p.d.b, p.d.c], ?_⟩
  rw [List.append_assoc, ← List.flatMap_append, List.take_append_drop, List.take_length]
end Go.Proofs.YtkcikdggfbjedaaGreatDoor.S
