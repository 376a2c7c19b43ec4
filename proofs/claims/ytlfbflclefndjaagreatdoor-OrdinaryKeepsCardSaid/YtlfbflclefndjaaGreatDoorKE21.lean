/-
  heap.behind: what one comes to from some objects, in the order in which it is found.
-/
import Derived.Test.YtlfbflclefndjaaGreatDoorKE20
import Derived.Test.YtlfbflclefndjaaGreatDoorKE19
import Derived.Shelf.Sort.Plain
import Derived.Test.YtlfbflclefndjaaGreatDoorProg
import Derived.Sort.OwnSortedInts
import Derived.Test.YtlfbflclefndjaaGreatDoorKE15
import Derived.Laws.CopyRow
import Derived.Deep.LoopGhost
namespace Go.Proofs.YtlfbflclefndjaaGreatDoor.S
open Go.RowKit Go.Lib Fl Go.Shelf
open Classical
attribute [local go_sem] Oper.semAt_some

/-- the marks of the loops over functions -/
structure Dfs (n0 : Nat) (Ds : List Nat) (W : World) : Prop where
  ge : ∀ D ∈ Ds, n0 ≤ D
  nd : Ds.Nodup
  all : ∀ D ∈ Ds, W.heap[D]? = some (.deferred (some []))
def dfl (Ds : List Nat) : List Deferred := Ds.map fun D => { target := .collected D, args := #[] }
/-- but for some blocks a world is as it was -/
structure SameBut (Ds : List Nat) (W W' : World) : Prop where
  os : W'.os = W.os
  tape : W'.tape = W.tape
  output : W'.output = W.output
  size : W'.heap.size = W.heap.size
  blk : ∀ b, b ∉ Ds → W'.heap[b]? = W.heap[b]?
/-- upZ that come in, in a row -/
def IRow (w : World) (A : Option Addr) (Z : List Int) : Prop := 0 < Z.length → ∃ a, A = some a ∧ a.block < w.heap.size ∧ ∀ i (h : i < Z.length), w.cell? (a.add i) = some (.int .i64 Z[i])
section
variable {F : Fence} {nF : Nat} {ops : Array Oper} {rest : List Oper} {o : Oper} {a : Act} {w : World} {Q : Exit → Act → World → Prop} {x y : Operand} {t : TypeId}
end
theorem may_holds {H : List Ob} {o : Ob} {n : Nat} {v : Vq} (h : mayB H o n = true) (hv : v ∈ valsO o) : holdsB H v = true := by
  unfold mayB at h
  simp only [Bool.and_eq_true] at h
  exact List.all_eq_true.1 h.2.2.1 v hv
/-- the loop's variable in its box -/
def Ay {o : Ob} (T : Act → Nat → Prop) (x : Vof o) (a' : Act) (W : World) : Prop := ∃ Bx, W.heap[Bx]? = some (.cells #[.int .u8 x.1.k, .float .f64 x.1.x, .string x.1.s, .int .i64 x.1.r] 34 (0, 0)) ∧ T a' Bx
def BehindTo (H : List Ob) (F : List Nat) (w : World) (e : Ending) (w' : World) : Prop := ∃ L v, e = .returned v ∧ w'.ownsRow w.heap.size 3 1 v L.length (wkv L) ∧ L.Nodup ∧ (∀ y, y ∈ L ↔ RH H F y) ∧ Below w.heap.size w w'
end Go.Proofs.YtlfbflclefndjaaGreatDoor.S
/-
  DERIVED: THE SHELF's CONTRACTS AT THIS DUMP, IN PLAIN WORDS (tools/lay-plain.mjs out of 'YtlfbflclefndjaaGreatDoorSortShelfTry.lean', which tools/lay-shelf.mjs wrote): THE SAME DECLARATIONS UNDER THE SAME NAMES: 'import', 'namespace', 'open', 'def', 'theorem' AND NOTHING ELSE: no command of the shelf's: FOR A HAND-IN. Each laying: the table of numbers ('.._ren') and one theorem, a field a fact of the dump's own or the kernel's comparison; each contract: ONE APPLICATION.
-/
namespace Go.Proofs
open Go.Shelf
end Go.Proofs
/-
  heap.Reach: what one comes to from some objects, rising.
-/
namespace Go.Proofs.YtlfbflclefndjaaGreatDoor.S
open Go.RowKit Go.Lib Fl Go.Shelf
open Classical

theorem there_h (H : List Ob) (A : Option Addr) (cap : Nat) (z : Int) (w : World) : Calls Tryz.prog 21 #[.agg #[.slice A H.length cap], .int .i64 z] w fun e w' => e = .returned (.int .i64 (if z < 0 ∨ (H.length : Int) ≤ z then 2 else 0)) ∧ Below w.heap.size w w' := by
  have hb := heap_alloc_new w (.cells #[.slice A H.length cap] 24)
  have q0 : (w.alloc (.cells #[.slice A H.length cap] 24)).cell? ⟨w.heap.size, 0, none⟩ = some (.slice A H.length cap) := (vcells hb 0).trans rfl
  have hB := vzero w (.cells #[.slice A H.length cap] 24)
  by_cases c : z < 0
  · rw [if_pos (.inl c)]
    go_enter Tryz.func21, Tryz.ntmps21
    go_wp2
    go_ret
    exact ⟨rfl, hB⟩
  · by_cases d : (H.length : Int) ≤ z
    · rw [if_pos (.inr d)]
      go_enter Tryz.func21, Tryz.ntmps21
      go_wp2
      go_ret
      exact ⟨rfl, hB⟩
    · rw [if_neg (by omega)]
      go_enter Tryz.func21, Tryz.ntmps21
      go_wp2
      go_ret
      exact ⟨rfl, hB⟩
def inZ (H : List Ob) (z : Int) : Prop := 0 ≤ z ∧ z < (H.length : Int)
noncomputable def reachE (H : List Ob) (Z : List Int) : Int := if chkH H = 0 then (if 4096 < Z.length then 4 else if ∀ z ∈ Z, inZ H z then 0 else 2) else 9
def nats (Z : List Int) : List Nat := Z.map Int.toNat
def ReachTo (H : List Ob) (Z : List Int) (w : World) (e : Ending) (w' : World) : Prop := Below w.heap.size w w' ∧
  ((reachE H Z ≠ 0 ∧ e = .returned (.tuple #[.slice none 0 0, .int .i64 (reachE H Z)])) ∨
   (reachE H Z = 0 ∧ ∃ g cap, e = .returned (.tuple #[.slice (some ⟨g, 0, none⟩) (reachL H (nats Z)).length cap, .int .i64 0]) ∧ w'.ownsRow w.heap.size 3 1 (.slice (some ⟨g, 0, none⟩) (reachL H (nats Z)).length cap) (reachL H (nats Z)).length (wkv (reachL H (nats Z)))))
end Go.Proofs.YtlfbflclefndjaaGreatDoor.S
/-
  heap.copied: a row in new memory; elements of eighteen cells.
-/
namespace Go.Proofs.YtlfbflclefndjaaGreatDoor.S
open Go.RowKit Go.Lib Fl
open Classical

theorem run_copy_18 (w : World) (dT sT ty elem : TypeId) (g n dCap : Nat) (a : Addr) (sCap : Nat) (cur : Array Value) (t : TypeId) (cs : List Value)
    (hu : Tryz.prog.underlying dT = some (.slice elem)) (hs : (Tryz.prog.info? elem).map (·.size) = some 18)
    (hg : w.heap[g]? = some (.cells cur t (0, 0))) (hn : cs.length = n * 18)
    (hsrc : ∀ j v, cs[j]? = some v → w.cell? (a.add j) = some v) (hfit : cur.size = cs.length) (h1 : ∀ v ∈ cs, v.oneCell' = true) :
    (Builtin.copy_ #[dT, sT] ty #[.slice (some ⟨g, 0, none⟩) n dCap, .slice (some a) n sCap]).run Tryz.prog w = .ok (goInt n) (w.setRow g cs.toArray) := by
  have hl := run_loadCells_list (P := Tryz.prog) w a cs hsrc
  have hst := run_storeCells_at Tryz.prog g 0 t cs 0 cur w hg (by simp; omega) h1
  rw [hn] at hl
  have e : (cur.toList.take 0 ++ cs ++ cur.toList.drop (0 + cs.length)).toArray = cs.toArray := by
    rw [List.take_zero, List.nil_append, List.drop_eq_nil_of_le (by simp; omega), List.append_nil]
  cases hq : Tryz.prog.info? elem with
  | none => simp [hq] at hs
  | some i =>
    have hi : i.size = 18 := by simpa [hq] using hs
    simp [Builtin.copy_, run_underlying hu, Builtin.lenOf, Builtin.firstCells, sizeOf, typeInfo, hq, hi, hl]
    rw [hst]
    show Result.ok (goInt ↑n) (w.setRow g (cur.toList.take 0 ++ cs ++ cur.toList.drop (0 + cs.length)).toArray) = _
    rw [e]
theorem run_copy_z (w : World) (dT sT ty elem : TypeId) (d sp : Option Addr) (dCap sCap : Nat) (hu : Tryz.prog.underlying dT = some (.slice elem)) (hs : (Tryz.prog.info? elem).map (·.size) = some 18) :
    (Builtin.copy_ #[dT, sT] ty #[.slice d 0 dCap, .slice sp 0 sCap]).run Tryz.prog w = .ok (goInt 0) w := by
  cases hq : Tryz.prog.info? elem with
  | none => simp [hq] at hs
  | some i =>
    cases d <;> cases sp <;> simp [Builtin.copy_, run_underlying hu, Builtin.lenOf, Builtin.firstCells, sizeOf, typeInfo, hq, storeCells, loadCells, loadCellsFrom]
theorem cell_old {w : World} {p : Addr} {v : Value} (h : w.cell? p = some v) (o : Obj) : (w.alloc o).cell? p = some v := ((vzero w o).cell (p := p) (klt_of_cell h)).trans h
/-- a row of eighteen cells an element, wherever it lies -/
def R18 (w : World) (A : Option Addr) (n : Nat) (cs : List Value) : Prop := cs.length = n * 18 ∧ (∀ v ∈ cs, v.oneCell' = true) ∧ (0 < n → ∃ a, A = some a ∧ ∀ j v, cs[j]? = some v → w.cell? (a.add j) = some v)
section
variable {ops : Array Oper} {rest : List Oper} {o : Oper} {a : Act} {w : World} {Q : Exit → Act → World → Prop} {x y : Operand} {t : TypeId}
theorem c18_make {T e : TypeId} {z : Value} {b : Nat} {l c : Operand} {n : Nat} (hT : Tryz.prog.underlying T = some (.slice e)) (hi : (Tryz.prog.info? e).map (fun i => (i.zero, i.size, i.bytes)) = some (some z, 18, b)) (hb : b ≤ 1000) (hgd : o.guard = none) (ho : o.op = .makeSlice T l c) (hl : a.eval l = .int .i64 (n : Int)) (hc : a.eval c = .int .i64 (n : Int)) (hn : n ≤ 100000)
    (h : ∀ cur : Array Value, cur.size = n * 18 → wpList Tryz.prog ops Q rest (a.put o.dst (.slice (some ⟨w.heap.size, 0, none⟩) n n)) (w.alloc (.cells cur e))) : wpList Tryz.prog ops Q (o :: rest) a w := by
  obtain ⟨i0, hi, hz0, hz1, hz2⟩ := info_parts hi
  have hbn : (b : Int) * (n : Int) ≤ 281474976710656 := by
    have h1 := Nat.mul_le_mul hb hn
    have h2 : b * n ≤ 281474976710656 := Nat.le_trans h1 (by decide)
    rw [← Int.natCast_mul]
    exact Int.ofNat_le.2 h2
  refine wpList_plain hgd fun K hK => ?_
  have hr := run_makeSlice (P := Tryz.prog) w T e i0 z hT hi hz0 .i64 .i64 (n : Int) (n : Int) (by omega) (by omega) (by rw [hz1]; omega) (by rw [hz2]; exact hbn) (by omega)
  rw [hz1, Int.toNat_natCast] at hr
  unfold Oper.wp execOp
  simp only [ho, hl, hc, hr, Sem.run_bind, Sem.run_pure, Result.andThen_ok]
  exact hK _ _ (h _ (size_madeCells _ _))
end
theorem run_copy_any (w : World) (dT sT ty e t : TypeId) (g n cap : Nat) (A : Option Addr) (cs : List Value) (cur : Array Value) (hT : Tryz.prog.underlying dT = some (.slice e)) (hs : (Tryz.prog.info? e).map (·.size) = some 18)
    (hg : w.heap[g]? = some (.cells cur t (0, 0))) (hcur : cur.size = n * 18) (hR : R18 w A n cs) :
    ∃ W : World, (Builtin.copy_ #[dT, sT] ty #[.slice (some ⟨g, 0, none⟩) n n, .slice A n cap]).run Tryz.prog w = .ok (goInt n) W ∧ (∀ B w0, Below B w0 w → B ≤ g → Below B w0 W) ∧ W.heap[g]? = some (.cells cs.toArray t (0, 0)) := by
  obtain ⟨hl, h1, hr⟩ := hR
  rcases Nat.eq_zero_or_pos n with hz | hp
  · subst hz
    obtain rfl : cs = [] := List.eq_nil_of_length_eq_zero (by omega)
    obtain rfl : cur = #[] := Array.eq_empty_of_size_eq_zero (by omega)
    exact ⟨w, run_copy_z w dT sT ty e (some ⟨g, 0, none⟩) A 0 cap hT hs, fun _ _ h _ => h, hg⟩
  · obtain ⟨ad, rfl, hsrc⟩ := hr hp
    exact ⟨_, run_copy_18 w dT sT ty e g n n ad cap cur t cs hT hs hg hl hsrc (by omega) h1, fun _ _ h h2 => below_row h h2 _, setRow_heap _ _ _ _ _ _ hg⟩
theorem R18.old {w : World} {A : Option Addr} {n : Nat} {cs : List Value} (h : R18 w A n cs) (o : Obj) : R18 (w.alloc o) A n cs := ⟨h.1, h.2.1, fun hp => by obtain ⟨a, e, g⟩ := h.2.2 hp; exact ⟨a, e, fun j v hv => cell_old (g j v hv) o⟩⟩
theorem info_p : (Tryz.prog.info? 68).map (fun i => (i.zero, i.size, i.bytes)) = some (some (.agg (prA default)), 18, 160) := by kernel_rfl
theorem info_o : (Tryz.prog.info? 37).map (fun i => (i.zero, i.size, i.bytes)) = some (some (.agg (obA default)), 18, 184) := by kernel_rfl
/-- a row copied into a new block -/
def CopTo (n : Nat) (cs : List Value) (e : TypeId) (w : World) (r : Ending) (w' : World) : Prop := ∃ g, r = .returned (.slice (some ⟨g, 0, none⟩) n n) ∧ w.heap.size ≤ g ∧ w'.heap[g]? = some (.cells cs.toArray e (0, 0)) ∧ Below w.heap.size w w'
set_option maxRecDepth 100000 in
theorem copiedP_h (A : Option Addr) (n cap : Nat) (cs : List Value) (w : World) (hR : R18 w A n cs) (hn : n ≤ 100000) : Calls Tryz.prog 22 #[.slice A n cap] w (CopTo n cs 68 w) := by
  go_enter Tryz.func22, Tryz.ntmps22
  go_wp2_with (refine c18_make Tryz.underlying35 info_p (by decide) rfl rfl rfl rfl hn ?_; intro cur hcur)
  obtain ⟨W, hrun, hB, hW⟩ := run_copy_any (w.alloc (.cells cur 68)) 35 35 3 68 68 w.heap.size n cap A cs cur Tryz.underlying35 psz (heap_alloc_new _ _) hcur (hR.old _)
  rw [hrun]
  go_wp2
  go_ret
  exact ⟨_, rfl, Nat.le_refl _, hW, hB _ _ (vzero w _) (Nat.le_refl _)⟩
set_option maxRecDepth 100000 in
theorem copiedO_h (A : Option Addr) (n cap : Nat) (cs : List Value) (w : World) (hR : R18 w A n cs) (hn : n ≤ 100000) : Calls Tryz.prog 43 #[.slice A n cap] w (CopTo n cs 37 w) := by
  go_enter Tryz.func43, Tryz.ntmps43
  go_wp2_with (refine c18_make Tryz.underlying22 info_o (by decide) rfl rfl rfl rfl hn ?_; intro cur hcur)
  obtain ⟨W, hrun, hB, hW⟩ := run_copy_any (w.alloc (.cells cur 37)) 22 22 3 37 37 w.heap.size n cap A cs cur Tryz.underlying22 osz (heap_alloc_new _ _) hcur (hR.old _)
  rw [hrun]
  go_wp2
  go_ret
  exact ⟨_, rfl, Nat.le_refl _, hW, hB _ _ (vzero w _) (Nat.le_refl _)⟩
end Go.Proofs.YtlfbflclefndjaaGreatDoor.S
/-
  heap.part: objects get properties of their own.
-/
namespace Go.Proofs.YtlfbflclefndjaaGreatDoor.S
open Go.RowKit Go.Lib Fl
open Classical

def hcl (H : List Ob) : List Value := H.flatMap ocl
theorem hcl_cons (x : Ob) (H : List Ob) : hcl (x :: H) = ocl x ++ hcl H := rfl
theorem hcl_len (H : List Ob) : (hcl H).length = H.length * 18 := by
  induction H with
  | nil => rfl
  | cons x r ih => rw [hcl_cons, List.length_append, ih, ocl_len, List.length_cons]; omega
theorem hcl_at : ∀ (H : List Ob) (i : Nat) (h : i < H.length) (j : Nat), j < 18 → (hcl H)[i * 18 + j]? = (ocl H[i])[j]?
  | x :: H, 0, _, j, hj => by rw [hcl_cons, Nat.zero_mul, Nat.zero_add, List.getElem?_append_left (by rw [ocl_len]; exact hj)]; rfl
  | x :: H, i + 1, h, j, hj => by
    rw [hcl_cons, List.getElem?_append_right (by rw [ocl_len]; omega), ocl_len, show (i + 1) * 18 + j - 18 = i * 18 + j by omega, hcl_at H i (by simpa using h) j hj]
    rfl
/-- an object whose properties lie elsewhere -/
def Ob.moved (o : Ob) (a : Option Addr) : Ob := { o with pa := a, pc := o.props.length }
theorem ocl_moved (o : Ob) (a : Option Addr) : (ocl o).set 6 (.slice a o.props.length o.props.length) = ocl (o.moved a) := rfl
theorem hcl_moved : ∀ (H : List Ob) (i : Nat) (h : i < H.length) (a : Option Addr), (hcl H).set (i * 18 + 6) (.slice a H[i].props.length H[i].props.length) = hcl (H.set i (H[i].moved a))
  | x :: H, 0, _, a => by rw [hcl_cons, Nat.zero_mul, Nat.zero_add, List.set_append_left _ _ (by rw [ocl_len]; omega)]; exact congrArg (· ++ hcl H) (ocl_moved x a)
  | x :: H, i + 1, h, a => by
    rw [hcl_cons, List.set_append_right _ _ (by rw [ocl_len]; omega), ocl_len, show (i + 1) * 18 + 6 - 18 = i * 18 + 6 by omega]
    have := hcl_moved H i (by simpa using h) a
    rw [List.getElem_cons_succ, List.set_cons_succ, hcl_cons, this]
theorem hcl_one (H : List Ob) : ∀ v ∈ hcl H, v.oneCell' = true := fun v hv => by
  obtain ⟨o, _, ho⟩ := List.mem_flatMap.1 hv
  have := obA_one o
  rw [obA, List.all_toArray, List.all_eq_true] at this
  exact this v ho
/-- a row of properties as cells -/
theorem pr_r18 {w : World} {A : Option Addr} {L : List Pq} (h : PR w A L) : R18 w A L.length (prCells L) := by
  refine ⟨prCells_len L, prCells_one L, fun hp => ?_⟩
  obtain ⟨a, rfl, _, _⟩ := id h hp
  exact ⟨a, rfl, fun j v hv => pr_cells h j v hv⟩
/-- properties that lie below B -/
def PRB (B : Nat) (w : World) (A : Option Addr) (L : List Pq) : Prop := 0 < L.length → ∃ a, A = some a ∧ a.block < B ∧ ∀ i (h : i < L.length) j u, (pcl L[i])[j]? = some u → w.cell? (a.add (i * 18 + j)) = some u
theorem PRB.up {B : Nat} {w w' : World} {A : Option Addr} {L : List Pq} (h : PRB B w A L) (hb : Below B w w') : PRB B w' A L := fun hp => by
  obtain ⟨a, h1, h2, h3⟩ := h hp
  exact ⟨a, h1, h2, fun i hi j u hu => (hb.cell (by rw [add_blk]; exact h2)).trans (h3 i hi j u hu)⟩
theorem PRB.pr {B : Nat} {w : World} {A : Option Addr} {L : List Pq} (h : PRB B w A L) (hB : B ≤ w.heap.size) : PR w A L := fun hp => by
  obtain ⟨a, h1, h2, h3⟩ := h hp
  exact ⟨a, h1, Nat.lt_of_lt_of_le h2 hB, h3⟩
/-- an object that got properties of its own -/
structure Parted (n0 : Nat) (m o : Ob) (W : World) : Prop where
  out : ∃ g, n0 ≤ g ∧ m = o.moved (some ⟨g, 0, none⟩) ∧ W.heap[g]? = some (.cells (prCells o.props).toArray 68 (0, 0))
theorem Parted.up {n0 : Nat} {m o : Ob} {W W' : World} (h : Parted n0 m o W) (hb : Below W.heap.size W W') : Parted n0 m o W' := by
  obtain ⟨g, h1, h2, h3⟩ := h.out
  exact ⟨g, h1, h2, vblkn hb h3⟩
/-- how far part has come -/
structure Pt (w : World) (B : Nat) (H : List Ob) (i : Nat) (M : List Ob) (W : World) : Prop where
  len : M.length = H.length
  done : ∀ j (h : j < M.length) (h' : j < H.length), j < i → Parted w.heap.size M[j] H[j] W
  rest : ∀ j (h : j < M.length) (h' : j < H.length), i ≤ j → M[j] = H[j]
  b : W.heap[B]? = some (.cells (hcl M).toArray 37 (0, 0))
  below : Below B w W
  size : w.heap.size ≤ W.heap.size
/-- what part is handed -/
structure PtIn (w : World) (B : Nat) (H : List Ob) : Prop where
  lt : B < w.heap.size
  b : w.heap[B]? = some (.cells (hcl H).toArray 37 (0, 0))
  props : ∀ i (h : i < H.length), PRB B w H[i].pa H[i].props ∧ H[i].props.length ≤ 100000
  few : H.length ≤ 5001
theorem pt_start {w : World} {B : Nat} {H : List Ob} (h : PtIn w B H) : Pt w B H 0 H w := ⟨rfl, fun _ _ _ h => absurd h (Nat.not_lt_zero _), fun _ _ _ _ => rfl, h.b, Below.refl _ _, Nat.le_refl _⟩
theorem pt_step {w wr w1 : World} {B i g : Nat} {H M : List Ob} (hw : B < w.heap.size) (hP : Pt w B H i M wr) (hlt : i < H.length) (hiM : i < M.length) (hr : M[i] = H[i]) (hg : wr.heap.size ≤ g) (hgb : w1.heap[g]? = some (.cells (prCells H[i].props).toArray 68 (0, 0))) (h9 : Below wr.heap.size wr w1) :
    Pt w B H (i + 1) (M.set i (H[i].moved (some ⟨g, 0, none⟩))) (w1.setCell ⟨B, i * 18 + 6, none⟩ (.slice (some ⟨g, 0, none⟩) H[i].props.length H[i].props.length)) := by
  have hBs : B < wr.heap.size := lt_blk hP.b
  have hgB : g ≠ B := by omega
  refine ⟨by rw [List.length_set]; exact hP.len, fun j hj hj' hji => ?_, fun j hj hj' hji => ?_, ?_, ?_, ?_⟩
  · by_cases c : j = i
    · subst c
      refine ⟨g, Nat.le_trans hP.size hg, ?_, vset1o hgb (Ne.symm hgB) _ _⟩
      rw [List.getElem_set_self]
    · rw [List.length_set] at hj
      obtain ⟨g2, h1, h2, h3⟩ := (hP.done j hj hj' (by omega)).out
      refine ⟨g2, h1, ?_, vset1o (vblkn h9 h3) (by omega) _ _⟩
      rw [List.getElem_set_ne (by omega)]
      exact h2
  · rw [List.length_set] at hj
    rw [List.getElem_set_ne (by omega)]
    exact hP.rest j hj hj' (by omega)
  · have h1 := vset1 (vblkn h9 hP.b) (i * 18 + 6) (.slice (some ⟨g, 0, none⟩) H[i].props.length H[i].props.length)
    have h2 := hcl_moved M i hiM (some ⟨g, 0, none⟩)
    rw [hr] at h2
    rw [List.setIfInBounds_toArray, h2] at h1
    exact h1
  · exact (hP.below.trans (h9.mono (Nat.le_of_lt hBs))).setCell (p := ⟨B, i * 18 + 6, none⟩) (Nat.le_refl B) _
  · rw [World.size_setCell]
    exact Nat.le_trans hP.size h9.size
set_option maxHeartbeats 4000000 in
set_option maxRecDepth 1000000 in
theorem part_h (B cap : Nat) (H : List Ob) (w : World) (hI : PtIn w B H) : Calls Tryz.prog 44 #[.slice (some ⟨B, 0, none⟩) H.length cap] w fun e w' => e = .returned (.tuple #[]) ∧ ∃ M, Pt w B H H.length M w' := by
  have hfew := hI.few
  go_enter Tryz.func44, Tryz.ntmps44
  go_wp2
  go_loopg [5] H.length (fun kx s5 wr => ∃ i : Nat, s5 = .int .i64 i ∧ i + kx = H.length ∧ Hid (∃ M, Pt w B H i M wr))
  case atStart => exact ⟨0, rfl, by omega, Lib.hid ⟨H, pt_start hI⟩⟩
  case round =>
    obtain ⟨i, rfl, hik, HR⟩ := hrel
    cases gk with
    | zero =>
      obtain rfl : i = H.length := by omega
      go_wp2
      go_end0
      exact ⟨rfl, HR.out⟩
    | succ kx =>
      have hlt : i < H.length := by omega
      have hlz : (i : Int) < (H.length : Int) := by omega
      have hl0 : (0 : Int) ≤ (i : Int) := by omega
      obtain ⟨M, hP⟩ := HR.out
      have hiM : i < M.length := by rw [hP.len]; exact hlt
      have hrest := hP.rest i hiM hlt (Nat.le_refl _)
      have hBs : B < wr.heap.size := lt_blk hP.b
      have hc : wr.cell? ⟨B, i * 18 + 6, none⟩ = some (.slice H[i].pa H[i].props.length H[i].pc) := by
        have := hcl_at M i hiM 6 (by decide)
        rw [hrest] at this
        rw [vcells hP.b (i * 18 + 6), List.getElem?_toArray]
        exact this
      have cP := copiedP_h H[i].pa H[i].props.length H[i].pc (prCells H[i].props) wr (pr_r18 (((hI.props i hlt).1.up hP.below).pr (Nat.le_of_lt hBs))) (hI.props i hlt).2
      have HP := Lib.hid hP
      have HM := Lib.hid hrest
      clear hP hrest
      go_wp2_with (go_at_call 22; (with_reducible refine cP.mono ?_); rintro e w1 ⟨g, rfl, hg, hgb, h9⟩; have hc2 := (h9.cell (p := ⟨B, i * 18 + 6, none⟩) hBs).trans hc; have hf2 : w1.frozen? ⟨B, i * 18 + 6, none⟩ = false := (by simp [World.frozen?, vblkn h9 HP.out.b]))
      go_roundg kx
      case measure => omega
      case rel => exact ⟨i + 1, by congr 1, by omega, Lib.hid ⟨_, pt_step hI.lt HP.out hlt hiM HM.out hg hgb h9⟩⟩
end Go.Proofs.YtlfbflclefndjaaGreatDoor.S
/-
  TableNames: the five properties, their order, what Drop makes of them; a property made.
-/
namespace Go.Proofs.YtlfbflclefndjaaGreatDoor.S
open Go.RowKit Go.Lib Fl
open Classical

def q1 : Pq := pN (⟨#[98]⟩ : ByteArray) 0 4607182418800017408
def q2 : Pq := pN (⟨#[50]⟩ : ByteArray) 0 4611686018427387904
def q3 : Pq := pN ⟨#[]⟩ 1 4613937818241073152
def q4 : Pq := pN (⟨#[49]⟩ : ByteArray) 0 4616189618054758400
def q5 : Pq := pN (⟨#[97]⟩ : ByteArray) 0 4617315517961601024
def L5 : List Pq := [q1, q2, q3, q4, q5]
end Go.Proofs.YtlfbflclefndjaaGreatDoor.S
/-
  TableNames: the order of the five keys, and the three lists that may not be.
-/
namespace Go.Proofs.YtlfbflclefndjaaGreatDoor.S
open Go.RowKit Go.Lib Fl
open Classical

def M5 : List Ky := [⟨(⟨#[49]⟩ : ByteArray), 0⟩, ⟨(⟨#[50]⟩ : ByteArray), 0⟩, ⟨(⟨#[98]⟩ : ByteArray), 0⟩, ⟨(⟨#[97]⟩ : ByteArray), 0⟩, ⟨⟨#[]⟩, 1⟩]
def twA : List Pq := [pN (⟨#[97]⟩ : ByteArray) 0 4607182418800017408, pN (⟨#[97]⟩ : ByteArray) 0 4611686018427387904]
def onA : List Pq := [⟨⟨(⟨#[97]⟩ : ByteArray), 0⟩, ⟨1, v0, v0, v0, false, false, false⟩⟩]
def noS : List Pq := [⟨⟨⟨#[]⟩, -1⟩, dz 0⟩]
/-- the blocks of such lists -/
theorem pr_blk {w : World} {g : Nat} {L : List Pq} (h : w.heap[g]? = some (.cells (prCells L).toArray 68 (0, 0))) : PR w (some ⟨g, 0, none⟩) L := fun _ => by
  refine ⟨_, rfl, lt_blk h, fun i hi j u hu => ?_⟩
  have hj : j < 18 := by have := (List.getElem?_eq_some_iff.1 hu).1; rw [pcl_len] at this; exact this
  rw [Addr.add_mid, Nat.zero_add, vcells h, ← hu, ← prCells_at L i hi j hj]
  simp
end Go.Proofs.YtlfbflclefndjaaGreatDoor.S
/-
  TableNames: prop: the usual property of a number.
-/
namespace Go.Proofs.YtlfbflclefndjaaGreatDoor.S
open Go.RowKit Go.Lib Fl
open Classical

end Go.Proofs.YtlfbflclefndjaaGreatDoor.S
/-
  heap.Twin: a heap in memory of its own.
-/
namespace Go.Proofs.YtlfbflclefndjaaGreatDoor.S
open Go.RowKit Go.Lib Fl
open Classical

theorem hsz : (Tryz.prog.info? 24).map (·.size) = some 1 := by kernel_rfl
theorem h_end {f : Func} {i : Nat} {t : TypeId} {Q : Ending → World → Prop} {tmps : Array Value} {W : World} {g : Nat} {v : Value} (hf : f.results = #[.cell i 24]) (h2 : tmps.getD i undef = .pointer (some ⟨g, 0, none⟩)) (hb : W.heap[g]? = some (.cells #[v] t (0, 0)))
    (hQ : Q (.returned (.agg #[v])) W) : bodyPost Tryz.prog f Q .ret { tmps := tmps, defers := [] } W :=
  bodyPost_ret (results_cell_row hf tmps W g t _ (0, 0) _ h2 hb Tryz.underlying24 rfl hsz) rfl hQ
theorem hrow_r18 {w : World} {A : Option Addr} {H : List Ob} (h : HRow w A H) : R18 w A H.length (hcl H) := by
  refine ⟨hcl_len H, hcl_one H, fun hp => ?_⟩
  obtain ⟨a, rfl, _, hc⟩ := h hp
  refine ⟨a, rfl, fun j v hv => ?_⟩
  have hj : j < H.length * 18 := by have := (List.getElem?_eq_some_iff.1 hv).1; rw [hcl_len] at this; exact this
  have e : j = j / 18 * 18 + j % 18 := by omega
  rw [e, hcl_at H (j / 18) (by omega) (j % 18) (by omega)] at hv
  have := of_back (hc (j / 18) (by omega)).1 (j % 18) v hv
  rw [add_add] at this
  rw [e]
  exact this
/-- a heap in new memory: its objects in block B, their properties in blocks behind it -/
structure Tw (n0 B : Nat) (H M : List Ob) (W : World) : Prop where
  len : M.length = H.length
  all : ∀ j (h : j < M.length) (h' : j < H.length), Parted (B + 1) M[j] H[j] W
  b : W.heap[B]? = some (.cells (hcl M).toArray 37 (0, 0))
  le : n0 ≤ B
theorem Tw.up {n0 B : Nat} {H M : List Ob} {W W' : World} (h : Tw n0 B H M W) (hb : Below W.heap.size W W') : Tw n0 B H M W' := ⟨h.len, fun j h1 h2 => (h.all j h1 h2).up hb, vblkn hb h.b, h.le⟩
theorem tw_of {w W : World} {n0 B : Nat} {H M : List Ob} (h : Pt w B H H.length M W) (hw : B < w.heap.size) (hB : n0 ≤ B) : Tw n0 B H M W :=
  ⟨h.len, fun j h1 h2 => by obtain ⟨g, g1, g2, g3⟩ := (h.done j h1 h2 h2).out; exact ⟨g, by omega, g2, g3⟩, h.b, hB⟩
theorem Tw.other {n0 B r : Nat} {H M : List Ob} {W W' : World} (h : Tw n0 B H M W) (hO : ∀ j, j ≠ r → W'.heap[j]? = W.heap[j]?) (hr : r < B) : Tw n0 B H M W' :=
  ⟨h.len, fun j h1 h2 => by obtain ⟨g, g1, g2, g3⟩ := (h.all j h1 h2).out; exact ⟨g, g1, g2, (hO g (by omega)).trans g3⟩, (hO B (by omega)).trans h.b, h.le⟩
theorem ptin_of {w W : World} {A : Option Addr} {H : List Ob} {cap B : Nat} (hH : HIn w A H cap) (hp : ∀ o ∈ H, o.props.length ≤ 100000) (hb : Below w.heap.size w W) (hB : w.heap.size ≤ B) (hgb : W.heap[B]? = some (.cells (hcl H).toArray 37 (0, 0))) : PtIn W B H := by
  refine ⟨lt_blk hgb, hgb, fun i hi => ⟨fun hpos => ?_, hp _ (List.getElem_mem hi)⟩, by have := hH.few; omega⟩
  obtain ⟨_, _, _, _, hr⟩ := hH.at hi
  obtain ⟨a, h1, h2, h3⟩ := hr hpos
  exact ⟨a, h1, Nat.lt_of_lt_of_le h2 hB, fun k hk j u hu => (hb.cell (by rw [add_blk]; exact h2)).trans (h3 k hk j u hu)⟩
def TwTo (H : List Ob) (w : World) (e : Ending) (w' : World) : Prop := ∃ B M, e = .returned (.agg #[.slice (some ⟨B, 0, none⟩) H.length H.length]) ∧ Tw w.heap.size B H M w' ∧ Below w.heap.size w w'
set_option maxHeartbeats 4000000 in
set_option maxRecDepth 1000000 in
theorem Twin_h (A : Option Addr) (H : List Ob) (cap : Nat) (w : World) (hH : HIn w A H cap) (hp : ∀ o ∈ H, o.props.length ≤ 100000) : Calls Tryz.prog 24 #[.agg #[.slice A H.length cap]] w (TwTo H w) := by
  obtain ⟨b1, b2⟩ := vblk2 (w := w) (Below.refl _ ((w.alloc (.cells #[.slice A H.length cap] 24)).alloc (.cells #[.slice none 0 0] 24)))
  have hB0 : Below w.heap.size w ((w.alloc (.cells #[.slice A H.length cap] 24)).alloc (.cells #[.slice none 0 0] 24)) := vafter (vzero _ _)
  have hsz0 : ((w.alloc (.cells #[.slice A H.length cap] 24)).alloc (.cells #[.slice none 0 0] 24)).heap.size = w.heap.size + 2 := by simp
  have q0 : ((w.alloc (.cells #[.slice A H.length cap] 24)).alloc (.cells #[.slice none 0 0] 24)).cell? ⟨w.heap.size, 0, none⟩ = some (.slice A H.length cap) := (vcells b1 0).trans rfl
  have HW0 := Lib.hid (And.intro hB0 (And.intro b2 hsz0))
  have hfew := hH.few
  have cC := copiedO_h A H.length cap (hcl H) _ (hrow_r18 (hH.up hB0).row) (by omega)
  have hi1 : ∀ v : Value, (Tryz.prog.info? 24).map (·.size) = some (#[v] : Array Value).size := fun v => hsz
  have hc1 : ∀ B : Nat, (#[Value.slice (some ⟨B, 0, none⟩) H.length H.length] : Array Value).all (·.oneCell') = true := fun B => cells_one (l := [.slice (some ⟨B, 0, none⟩) H.length H.length]) rfl
  have HH := Lib.hid hH
  clear b1 hH
  go_enter Tryz.func24, Tryz.ntmps24
  go_wp2_with (first
    | (go_at_call 43; (with_reducible refine cC.mono ?_); rintro e W1 ⟨B, rfl, hB, hgb, h9⟩; have hb1 := vb hB0 h9; have hlB : w.heap.size + 2 ≤ B := (by omega); have hPI := ptin_of HH.out hp hb1 (by omega) hgb; have hr1 := (h9.block _ (lt_blk b2)).trans b2)
    | (go_at_call 44; (with_reducible refine (part_h B H.length H _ hPI).mono ?_); rintro e W2 ⟨rfl, M, hPt⟩; have HT := Lib.hid (tw_of (n0 := w.heap.size) hPt (lt_blk hgb) (by omega)); have hb2 := hb1.trans (hPt.below.mono (show w.heap.size ≤ B by omega)); have hr2 := (hPt.below.block (w.heap.size + 1) (by omega)).trans hr1; clear hPt)
    | ((with_reducible refine t_store rfl rfl rfl rfl hr2 (hi1 _) ?_ (hc1 B) hb2 (Nat.le_succ _) ?_); (rfl); intro W3 hb3 hW3 hO3 _))
  exact h_end Tryz.results24 rfl hW3 ⟨B, M, rfl, HT.out.other hO3 (by omega), hb3⟩
end Go.Proofs.YtlfbflclefndjaaGreatDoor.S
/-
  heap.with: a twin of a heap with an object in a place, or behind the others.
-/
namespace Go.Proofs.YtlfbflclefndjaaGreatDoor.S
open Go.RowKit Go.Lib Fl
open Classical

section
variable {ops : Array Oper} {rest : List Oper} {o : Oper} {a : Act} {w : World} {Q : Exit → Act → World → Prop} {x y : Operand} {g : Nat} {t : TypeId}
/-- an object in a block of the call's own, loaded -/
theorem ob_load {ob : Ob} (hw : Region.wanted o (yielded ops a.tmps) = true) (ho : o.op = .load 37 x) (hx : a.eval x = .pointer (some ⟨g, 0, none⟩)) (hg : w.heap[g]? = some (.cells (obA ob) t (0, 0)))
    (h : wpList Tryz.prog ops Q rest (a.put o.dst (.agg (obA ob))) w) : wpList Tryz.prog ops Q (o :: rest) a w :=
  wpList_wanted hw fun _ hK => wp_load_row 37 x ho g hx t _ (0, 0) _ hg Tryz.underlying37 rfl osz (hK _ _ h)
end
def hput (H : List Ob) (n : Nat) (o : Ob) : List Ob := if n < H.length then H.set n o else H ++ [o]
theorem hcl_app (H M : List Ob) : hcl (H ++ M) = hcl H ++ hcl M := List.flatMap_append
theorem hcl_take : ∀ (H : List Ob) (n : Nat), (hcl H).take (n * 18) = hcl (H.take n)
  | [], n => by rw [List.take_nil]; exact List.take_nil
  | x :: H, 0 => by rw [Nat.zero_mul]; rfl
  | x :: H, n + 1 => by
    rw [hcl_cons, List.take_succ_cons, hcl_cons, List.take_append, ocl_len, show (n + 1) * 18 - 18 = n * 18 by omega, hcl_take H n, List.take_of_length_le (by rw [ocl_len]; omega)]
theorem hcl_drop : ∀ (H : List Ob) (n : Nat), (hcl H).drop (n * 18) = hcl (H.drop n)
  | [], n => by rw [List.drop_nil]; exact List.drop_nil
  | x :: H, 0 => by rw [Nat.zero_mul]; rfl
  | x :: H, n + 1 => by
    rw [hcl_cons, List.drop_succ_cons, List.drop_append, ocl_len, show (n + 1) * 18 - 18 = n * 18 by omega, hcl_drop H n, List.drop_of_length_le (by rw [ocl_len]; omega), List.nil_append]
theorem hcl_put (H : List Ob) (n : Nat) (o : Ob) (h : n < H.length) : (hcl H).take (n * 18) ++ ocl o ++ (hcl H).drop (n * 18 + 18) = hcl (H.set n o) := by
  rw [hcl_take, show n * 18 + 18 = (n + 1) * 18 by omega, hcl_drop, List.set_eq_take_append_cons_drop, if_pos h, hcl_app, hcl_cons, List.append_assoc]
end Go.Proofs.YtlfbflclefndjaaGreatDoor.S
/-
  heap.with: the walk.
-/
namespace Go.Proofs.YtlfbflclefndjaaGreatDoor.S
open Go.RowKit Go.Lib Fl
open Classical

/-- a heap with an object put into it, in memory of its own -/
def WithTo (H : List Ob) (n : Nat) (o : Ob) (w : World) (e : Ending) (w' : World) : Prop := ∃ B M, e = .returned (.agg #[.slice (some ⟨B, 0, none⟩) (hput H n o).length (hput H n o).length]) ∧ Tw w.heap.size B (hput H n o) M w' ∧ Below w.heap.size w w'
end Go.Proofs.YtlfbflclefndjaaGreatDoor.S
/-
  A heap's objects in other memory: what may be counts the same.
-/
namespace Go.Proofs.YtlfbflclefndjaaGreatDoor.S
open Go.RowKit Go.Lib Fl
open Classical

theorem getB (H : List Ob) (i : Nat) : (H.map Ob.bare)[i]? = H[i]?.map Ob.bare := List.getElem?_map ..
theorem refB_bare (H : List Ob) (v : Vq) : refB (H.map Ob.bare) v = refB H v := by unfold refB; rw [getB]; cases H[v.r.toNat]? <;> rfl
theorem proxB_bare (H : List Ob) (v : Vq) : proxB (H.map Ob.bare) v = proxB H v := by unfold proxB; rw [getB]; cases H[v.r.toNat]? <;> rfl
theorem nextO_bare (H : List Ob) (p : Nat) : nextO (H.map Ob.bare) p = nextO H p := by unfold nextO; rw [getB]; cases H[p]? <;> rfl
theorem holdsB_bare (H : List Ob) : holdsB (H.map Ob.bare) = holdsB H := by funext v; unfold holdsB; rw [refB_bare]
theorem mayB_bare (H : List Ob) (o : Ob) (n : Nat) : mayB (H.map Ob.bare) o.bare n = mayB H o n := by
  show mayB (H.map Ob.bare) o n = mayB H o n
  unfold mayB fitsB revokesB
  rw [holdsB_bare, proxB_bare]
theorem walkF_bare (H : List Ob) (k : Nat) : ∀ (f p : Nat) (W : List Nat), walkF (H.map Ob.bare) k f p W = walkF H k f p W
  | 0, _, _ => rfl
  | f + 1, p, W => by
    unfold walkF
    rw [nextO_bare]
    cases W[p]? with
    | none => rfl
    | some x =>
      dsimp only
      cases nextO H p with
      | none => rfl
      | some q => dsimp only; rw [walkF_bare H k f q]
theorem loopsL_bare (H : List Ob) : ∀ (m n : Nat) (W : List Nat), loopsL (H.map Ob.bare) m n W = loopsL H m n W
  | 0, _, _ => rfl
  | m + 1, n, W => by
    unfold loopsL
    rw [walkF_bare, List.length_map]
    cases walkF H (n + 1) (H.length + 1) n W with
    | none => rfl
    | some W' => exact loopsL_bare H m (n + 1) W'
theorem loopsB_bare (H : List Ob) : loopsB (H.map Ob.bare) = loopsB H := by unfold loopsB; rw [List.length_map, loopsL_bare]
theorem mayH_bare (H : List Ob) : mayH (H.map Ob.bare) = mayH H := by
  rw [Bool.eq_iff_iff, mayH_iff, mayH_iff, loopsB_bare]
  refine and_congr (by rw [List.length_map]) (and_congr_left fun _ => ⟨fun h i hi => ?_, fun h i hi => ?_⟩)
  · have := h i (by simpa using hi)
    rw [List.getElem_map, mayB_bare] at this
    exact this
  · rw [List.getElem_map, mayB_bare]
    exact h i (by simpa using hi)
theorem mayH_like {H M : List Ob} (h : M.map Ob.bare = H.map Ob.bare) : mayH M = mayH H := by rw [← mayH_bare M, h, mayH_bare]
theorem Tw.like {n0 B : Nat} {H M : List Ob} {W : World} (h : Tw n0 B H M W) : M.map Ob.bare = H.map Ob.bare := by
  refine List.ext_getElem? fun i => ?_
  rw [getB, getB]
  by_cases c : i < M.length
  · obtain ⟨g, _, e, _⟩ := (h.all i c (by rw [← h.len]; exact c)).out
    rw [List.getElem?_eq_getElem c, List.getElem?_eq_getElem (by rw [← h.len]; exact c), e]
    rfl
  · rw [List.getElem?_eq_none (by omega), List.getElem?_eq_none (by have := h.len; omega)]
theorem Tw.inn {n0 B : Nat} {H M : List Ob} {W : World} (h : Tw n0 B H M W) (hin : ∀ o ∈ H, o.In) (hf : H.length ≤ 5000) (hp : ∀ o ∈ H, o.props.length ≤ 100000) : HIn W (some ⟨B, 0, none⟩) M M.length := by
  have one : ∀ i (hi : i < M.length), ∃ g, W.heap[g]? = some (.cells (prCells M[i].props).toArray 68 (0, 0)) ∧ M[i].pa = some ⟨g, 0, none⟩ ∧ M[i].pc = M[i].props.length ∧ M[i].In ∧ M[i].props.length ≤ 100000 := fun i hi => by
    have hi2 : i < H.length := by rw [← h.len]; exact hi
    obtain ⟨g, _, e, hg⟩ := (h.all i hi hi2).out
    have hI := hin _ (List.getElem_mem hi2)
    have hP := hp _ (List.getElem_mem hi2)
    rw [e]
    exact ⟨g, hg, rfl, rfl, ⟨hI.k0, hI.k1, hI.proto, hI.target, hI.handler, hI.text, hI.props, Nat.le_refl _, show H[i].props.length < 9223372036854775808 by omega, fun hc => by cases hc⟩, hP⟩
  refine ⟨fun o ho => ?_, fun hpos => ⟨_, rfl, lt_blk h.b, fun i hi => ⟨?_, ?_⟩⟩, by rw [h.len]; exact hf, fun o ho => ?_, Nat.le_refl _, by have := h.len; omega, fun hc => by cases hc⟩
  · obtain ⟨i, hi, rfl⟩ := List.getElem_of_mem ho
    exact (one i hi).choose_spec.2.2.2.1
  · refine of_cells (by rw [add_blk]; exact lt_blk h.b) fun j u hu => ?_
    have hj : j < 18 := by have := (List.getElem?_eq_some_iff.1 hu).1; rw [ocl_len] at this; exact this
    rw [add_add, Addr.add_mid, Nat.zero_add, vcells h.b (i * 18 + j), List.getElem?_toArray, hcl_at M i hi j hj]
    exact hu
  · obtain ⟨g, hg, e, _⟩ := one i hi
    rw [e]
    exact pr_blk hg
  · obtain ⟨i, hi, rfl⟩ := List.getElem_of_mem ho
    have := (one i hi).choose_spec.2.2.2.2
    omega
end Go.Proofs.YtlfbflclefndjaaGreatDoor.S
/-
  heap.New.
-/
namespace Go.Proofs.YtlfbflclefndjaaGreatDoor.S
open Go.RowKit Go.Lib Fl
open Classical

theorem Tw.mono {n0 n1 B : Nat} {H M : List Ob} {W : World} (h : Tw n0 B H M W) (hn : n1 ≤ n0) : Tw n1 B H M W := ⟨h.len, h.all, h.b, Nat.le_trans hn h.le⟩
/-- New's error -/
noncomputable def newE (H : List Ob) (o : Ob) : Int := bif !mayH H then 9 else bif decide (H.length = 4096) then 4 else bif mayB (H ++ [o]) o H.length && !loopsB (H ++ [o]) then 0 else 9
def NewTo (H : List Ob) (o : Ob) (w : World) (e : Ending) (w' : World) : Prop := Below w.heap.size w w' ∧ ((newE H o ≠ 0 ∧ e = .returned (.tuple #[.agg #[.slice none 0 0], .int .i64 0, .int .i64 (newE H o)])) ∨
  (newE H o = 0 ∧ ∃ B M, e = .returned (.tuple #[.agg #[.slice (some ⟨B, 0, none⟩) (H.length + 1) (H.length + 1)], .int .i64 H.length, .int .i64 0]) ∧ Tw w.heap.size B (H ++ [o]) M w'))
/-- New's own blocks -/
structure Nw (w : World) (A : Option Addr) (n cap : Nat) (o : Ob) (W : World) : Prop where
  below : Below w.heap.size w W
  h : W.heap[w.heap.size]? = some (.cells #[.slice A n cap] 24 (0, 0))
  o : W.heap[w.heap.size + 1]? = some (.cells (obA o) 37 (0, 0))
  r : W.heap[w.heap.size + 1 + 1]? = some (.cells #[.slice none 0 0] 24 (0, 0))
theorem Nw.up {w : World} {A : Option Addr} {n cap : Nat} {o : Ob} {W W' : World} (h : Nw w A n cap o W) (hb : Below W.heap.size W W') : Nw w A n cap o W' := ⟨vb h.below hb, vblkn hb h.h, vblkn hb h.o, vblkn hb h.r⟩
theorem Nw.q {w : World} {A : Option Addr} {n cap : Nat} {o : Ob} {W : World} (h : Nw w A n cap o W) : W.cell? ⟨w.heap.size, 0, none⟩ = some (.slice A n cap) := (vcells h.h 0).trans rfl
end Go.Proofs.YtlfbflclefndjaaGreatDoor.S
