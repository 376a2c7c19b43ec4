/-
  heap.values$1: the iterator once more, its values told to be the object's own.
-/
import Derived.Test.YtpeegmpfkongeaaGreatDoorRG16
import Derived.Test.YtpeegmpfkongeaaGreatDoorRG20
import Derived.Test.YtpeegmpfkongeaaGreatDoorRG19
import Derived.Shelf.Sort.Plain
import Derived.Test.YtpeegmpfkongeaaGreatDoorProg
import Derived.Sort.OwnSortedInts
import Derived.Laws.CopyRow
namespace Go.Proofs.YtpeegmpfkongeaaGreatDoor.S
open Go.RowKit Go.Lib Fl Go.Shelf
open Classical
attribute [local go_sem] Oper.semAt_some

abbrev Vof (o : Ob) := { v : Vq // v.In ∧ v ∈ valsO o }
def Vof.out {o : Ob} (v : Vof o) : Vq := v.1
def encJ {o : Ob} (v : Vof o) : Array Value := encV v.1
theorem vm_p (o : Ob) : o.proto ∈ valsO o := by unfold valsO; simp
theorem vm_t (o : Ob) : o.target ∈ valsO o := by unfold valsO; simp
theorem vm_h (o : Ob) : o.handler ∈ valsO o := by unfold valsO; simp
end Go.Proofs.YtpeegmpfkongeaaGreatDoor.S
/-
  heap.behind: what one comes to from some objects, in the order in which it is found.
-/
namespace Go.Proofs.YtpeegmpfkongeaaGreatDoor.S
open Go.RowKit Go.Lib Fl Go.Shelf
open Classical
attribute [local go_sem] Oper.semAt_some

/-- the marks of the loops over functions -/
structure Dfs (n0 : Nat) (Ds : List Nat) (W : World) : Prop where
  ge : ∀ D ∈ Ds, n0 ≤ D
  nd : Ds.Nodup
  all : ∀ D ∈ Ds, W.heap[D]? = some (.deferred (some []))
def dfl (Ds : List Nat) : List Deferred := Ds.map fun D => { target := .collected D, args := #[] }
/-- but for some blocks a world is as it was -/
structure SameBut (Ds : List Nat) (W W' : World) : Prop where
  os : W'.os = W.os
  tape : W'.tape = W.tape
  output : W'.output = W.output
  size : W'.heap.size = W.heap.size
  blk : ∀ b, b ∉ Ds → W'.heap[b]? = W.heap[b]?
/-- upZ that come in, in a row -/
def IRow (w : World) (A : Option Addr) (Z : List Int) : Prop := 0 < Z.length → ∃ a, A = some a ∧ a.block < w.heap.size ∧ ∀ i (h : i < Z.length), w.cell? (a.add i) = some (.int .i64 Z[i])
section
variable {F : Fence} {nF : Nat} {ops : Array Oper} {rest : List Oper} {o : Oper} {a : Act} {w : World} {Q : Exit → Act → World → Prop} {x y : Operand} {t : TypeId}
end
theorem may_holds {H : List Ob} {o : Ob} {n : Nat} {v : Vq} (h : mayB H o n = true) (hv : v ∈ valsO o) : holdsB H v = true := by
  unfold mayB at h
  simp only [Bool.and_eq_true] at h
  exact List.all_eq_true.1 h.2.2.1 v hv
/-- the loop's variable in its box -/
def Ay {o : Ob} (T : Act → Nat → Prop) (x : Vof o) (a' : Act) (W : World) : Prop := ∃ Bx, W.heap[Bx]? = some (.cells #[.int .u8 x.1.k, .float .f64 x.1.x, .string x.1.s, .int .i64 x.1.r] 31 (0, 0)) ∧ T a' Bx
def BehindTo (H : List Ob) (F : List Nat) (w : World) (e : Ending) (w' : World) : Prop := ∃ L v, e = .returned v ∧ w'.ownsRow w.heap.size 3 1 v L.length (wkv L) ∧ L.Nodup ∧ (∀ y, y ∈ L ↔ RH H F y) ∧ Below w.heap.size w w'
end Go.Proofs.YtpeegmpfkongeaaGreatDoor.S
/-
  DERIVED: THE SHELF's CONTRACTS AT THIS DUMP, IN PLAIN WORDS (tools/lay-plain.mjs out of 'YtpeegmpfkongeaaGreatDoorSortShelfTry.lean', which tools/lay-shelf.mjs wrote): THE SAME DECLARATIONS UNDER THE SAME NAMES: 'import', 'namespace', 'open', 'def', 'theorem' AND NOTHING ELSE: no command of the shelf's: FOR A HAND-IN. Each laying: the table of numbers ('.._ren') and one theorem, a field a fact of the dump's own or the kernel's comparison; each contract: ONE APPLICATION.
-/
namespace Go.Proofs
open Go.Shelf
def Tryz.lays189_ren : Go.Shelf.Ren := ⟨fun | 189 => 45 | 125 => 75 | 257 => 74 | 128 => 128 | 129 => 129 | 294 => 119 | 295 => 120 | 296 => 121 | 297 => 122 | 298 => 123 | 299 => 124 | 216 => 125 | 300 => 126 | 301 => 127 | 328 => 159 | 329 => 160 | 330 => 161 | 331 => 162 | 332 => 163 | 215 => 164 | 343 => 180 | n => n, fun | 28 => 40 | 3 => 3 | 46 => 138 | 0 => 0 | 51 => 176 | 53 => 178 | 4 => 4 | 183 => 168 | 182 => 167 | 131 => 173 | 5 => 5 | 9 => 9 | 218 => 204 | 222 => 208 | 228 => 226 | 229 => 227 | n => n, fun | n => n⟩
end Go.Proofs
/-
  heap.Reach: what one comes to from some objects, rising.
-/
namespace Go.Proofs.YtpeegmpfkongeaaGreatDoor.S
open Go.RowKit Go.Lib Fl Go.Shelf
open Classical

def inZ (H : List Ob) (z : Int) : Prop := 0 ≤ z ∧ z < (H.length : Int)
noncomputable def reachE (H : List Ob) (Z : List Int) : Int := if chkH H = 0 then (if 4096 < Z.length then 4 else if ∀ z ∈ Z, inZ H z then 0 else 2) else 9
def nats (Z : List Int) : List Nat := Z.map Int.toNat
def ReachTo (H : List Ob) (Z : List Int) (w : World) (e : Ending) (w' : World) : Prop := Below w.heap.size w w' ∧
  ((reachE H Z ≠ 0 ∧ e = .returned (.tuple #[.slice none 0 0, .int .i64 (reachE H Z)])) ∨
   (reachE H Z = 0 ∧ ∃ g cap, e = .returned (.tuple #[.slice (some ⟨g, 0, none⟩) (reachL H (nats Z)).length cap, .int .i64 0]) ∧ w'.ownsRow w.heap.size 3 1 (.slice (some ⟨g, 0, none⟩) (reachL H (nats Z)).length cap) (reachL H (nats Z)).length (wkv (reachL H (nats Z)))))
theorem rr_end {f : Func} {i j : Nat} {Q : Ending → World → Prop} {tmps : Array Value} {W : World} {y z : Value} (hf : f.results = #[.tmp i, .tmp j])
    (h2 : tmps[i]?.getD undef = y) (h3 : tmps[j]?.getD undef = z) (hQ : Q (.returned (.tuple #[y, z])) W) : bodyPost Tryz.prog f Q .ret { tmps := tmps, defers := [] } W := by
  refine bodyPost_ret (v := .tuple #[y, z]) ?_ rfl hQ
  simp [h2, h3, results, hf]
end Go.Proofs.YtpeegmpfkongeaaGreatDoor.S
/-
  heap.copied: a row in new memory; elements of eighteen cells.
-/
namespace Go.Proofs.YtpeegmpfkongeaaGreatDoor.S
open Go.RowKit Go.Lib Fl
open Classical

theorem run_copy_18 (w : World) (dT sT ty elem : TypeId) (g n dCap : Nat) (a : Addr) (sCap : Nat) (cur : Array Value) (t : TypeId) (cs : List Value)
    (hu : Tryz.prog.underlying dT = some (.slice elem)) (hs : (Tryz.prog.info? elem).map (·.size) = some 18)
    (hg : w.heap[g]? = some (.cells cur t (0, 0))) (hn : cs.length = n * 18)
    (hsrc : ∀ j v, cs[j]? = some v → w.cell? (a.add j) = some v) (hfit : cur.size = cs.length) (h1 : ∀ v ∈ cs, v.oneCell' = true) :
    (Builtin.copy_ #[dT, sT] ty #[.slice (some ⟨g, 0, none⟩) n dCap, .slice (some a) n sCap]).run Tryz.prog w = .ok (goInt n) (w.setRow g cs.toArray) := by
  have hl := run_loadCells_list (P := Tryz.prog) w a cs hsrc
  have hst := run_storeCells_at Tryz.prog g 0 t cs 0 cur w hg (by simp; omega) h1
  rw [hn] at hl
  have e : (cur.toList.take 0 ++ cs ++ cur.toList.drop (0 + cs.length)).toArray = cs.toArray := by
    rw [List.take_zero, List.nil_append, List.drop_eq_nil_of_le (by simp; omega), List.append_nil]
  cases hq : Tryz.prog.info? elem with
  | none => simp [hq] at hs
  | some i =>
    have hi : i.size = 18 := by simpa [hq] using hs
    simp [Builtin.copy_, run_underlying hu, Builtin.lenOf, Builtin.firstCells, sizeOf, typeInfo, hq, hi, hl]
    rw [hst]
    show Result.ok (goInt ↑n) (w.setRow g (cur.toList.take 0 ++ cs ++ cur.toList.drop (0 + cs.length)).toArray) = _
    rw [e]
theorem run_copy_z (w : World) (dT sT ty elem : TypeId) (d sp : Option Addr) (dCap sCap : Nat) (hu : Tryz.prog.underlying dT = some (.slice elem)) (hs : (Tryz.prog.info? elem).map (·.size) = some 18) :
    (Builtin.copy_ #[dT, sT] ty #[.slice d 0 dCap, .slice sp 0 sCap]).run Tryz.prog w = .ok (goInt 0) w := by
  cases hq : Tryz.prog.info? elem with
  | none => simp [hq] at hs
  | some i =>
    cases d <;> cases sp <;> simp [Builtin.copy_, run_underlying hu, Builtin.lenOf, Builtin.firstCells, sizeOf, typeInfo, hq, storeCells, loadCells, loadCellsFrom]
theorem cell_old {w : World} {p : Addr} {v : Value} (h : w.cell? p = some v) (o : Obj) : (w.alloc o).cell? p = some v := ((vzero w o).cell (p := p) (klt_of_cell h)).trans h
/-- a row of eighteen cells an element, wherever it lies -/
def R18 (w : World) (A : Option Addr) (n : Nat) (cs : List Value) : Prop := cs.length = n * 18 ∧ (∀ v ∈ cs, v.oneCell' = true) ∧ (0 < n → ∃ a, A = some a ∧ ∀ j v, cs[j]? = some v → w.cell? (a.add j) = some v)
section
variable {ops : Array Oper} {rest : List Oper} {o : Oper} {a : Act} {w : World} {Q : Exit → Act → World → Prop} {x y : Operand} {t : TypeId}
theorem c18_make {T e : TypeId} {z : Value} {b : Nat} {l c : Operand} {n : Nat} (hT : Tryz.prog.underlying T = some (.slice e)) (hi : (Tryz.prog.info? e).map (fun i => (i.zero, i.size, i.bytes)) = some (some z, 18, b)) (hb : b ≤ 1000) (hgd : o.guard = none) (ho : o.op = .makeSlice T l c) (hl : a.eval l = .int .i64 (n : Int)) (hc : a.eval c = .int .i64 (n : Int)) (hn : n ≤ 100000)
    (h : ∀ cur : Array Value, cur.size = n * 18 → wpList Tryz.prog ops Q rest (a.put o.dst (.slice (some ⟨w.heap.size, 0, none⟩) n n)) (w.alloc (.cells cur e))) : wpList Tryz.prog ops Q (o :: rest) a w := by
  obtain ⟨i0, hi, hz0, hz1, hz2⟩ := info_parts hi
  have hbn : (b : Int) * (n : Int) ≤ 281474976710656 := by
    have h1 := Nat.mul_le_mul hb hn
    have h2 : b * n ≤ 281474976710656 := Nat.le_trans h1 (by decide)
    rw [← Int.natCast_mul]
    exact Int.ofNat_le.2 h2
  refine wpList_plain hgd fun K hK => ?_
  have hr := run_makeSlice (P := Tryz.prog) w T e i0 z hT hi hz0 .i64 .i64 (n : Int) (n : Int) (by omega) (by omega) (by rw [hz1]; omega) (by rw [hz2]; exact hbn) (by omega)
  rw [hz1, Int.toNat_natCast] at hr
  unfold Oper.wp execOp
  simp only [ho, hl, hc, hr, Sem.run_bind, Sem.run_pure, Result.andThen_ok]
  exact hK _ _ (h _ (size_madeCells _ _))
end
theorem run_copy_any (w : World) (dT sT ty e t : TypeId) (g n cap : Nat) (A : Option Addr) (cs : List Value) (cur : Array Value) (hT : Tryz.prog.underlying dT = some (.slice e)) (hs : (Tryz.prog.info? e).map (·.size) = some 18)
    (hg : w.heap[g]? = some (.cells cur t (0, 0))) (hcur : cur.size = n * 18) (hR : R18 w A n cs) :
    ∃ W : World, (Builtin.copy_ #[dT, sT] ty #[.slice (some ⟨g, 0, none⟩) n n, .slice A n cap]).run Tryz.prog w = .ok (goInt n) W ∧ (∀ B w0, Below B w0 w → B ≤ g → Below B w0 W) ∧ W.heap[g]? = some (.cells cs.toArray t (0, 0)) := by
  obtain ⟨hl, h1, hr⟩ := hR
  rcases Nat.eq_zero_or_pos n with hz | hp
  · subst hz
    obtain rfl : cs = [] := List.eq_nil_of_length_eq_zero (by omega)
    obtain rfl : cur = #[] := Array.eq_empty_of_size_eq_zero (by omega)
    exact ⟨w, run_copy_z w dT sT ty e (some ⟨g, 0, none⟩) A 0 cap hT hs, fun _ _ h _ => h, hg⟩
  · obtain ⟨ad, rfl, hsrc⟩ := hr hp
    exact ⟨_, run_copy_18 w dT sT ty e g n n ad cap cur t cs hT hs hg hl hsrc (by omega) h1, fun _ _ h h2 => below_row h h2 _, setRow_heap _ _ _ _ _ _ hg⟩
theorem R18.old {w : World} {A : Option Addr} {n : Nat} {cs : List Value} (h : R18 w A n cs) (o : Obj) : R18 (w.alloc o) A n cs := ⟨h.1, h.2.1, fun hp => by obtain ⟨a, e, g⟩ := h.2.2 hp; exact ⟨a, e, fun j v hv => cell_old (g j v hv) o⟩⟩
theorem info_p : (Tryz.prog.info? 90).map (fun i => (i.zero, i.size, i.bytes)) = some (some (.agg (prA default)), 18, 160) := by kernel_rfl
theorem info_o : (Tryz.prog.info? 34).map (fun i => (i.zero, i.size, i.bytes)) = some (some (.agg (obA default)), 18, 184) := by kernel_rfl
/-- a row copied into a new block -/
def CopTo (n : Nat) (cs : List Value) (e : TypeId) (w : World) (r : Ending) (w' : World) : Prop := ∃ g, r = .returned (.slice (some ⟨g, 0, none⟩) n n) ∧ w.heap.size ≤ g ∧ w'.heap[g]? = some (.cells cs.toArray e (0, 0)) ∧ Below w.heap.size w w'
set_option maxRecDepth 100000 in
theorem copiedP_h (A : Option Addr) (n cap : Nat) (cs : List Value) (w : World) (hR : R18 w A n cs) (hn : n ≤ 100000) : Calls Tryz.prog 43 #[.slice A n cap] w (CopTo n cs 90 w) := by
  go_enter Tryz.func43, Tryz.ntmps43
  go_wp2_with (refine c18_make Tryz.underlying32 info_p (by decide) rfl rfl rfl rfl hn ?_; intro cur hcur)
  obtain ⟨W, hrun, hB, hW⟩ := run_copy_any (w.alloc (.cells cur 90)) 32 32 3 90 90 w.heap.size n cap A cs cur Tryz.underlying32 psz (heap_alloc_new _ _) hcur (hR.old _)
  rw [hrun]
  go_wp2
  go_ret
  exact ⟨_, rfl, Nat.le_refl _, hW, hB _ _ (vzero w _) (Nat.le_refl _)⟩
set_option maxRecDepth 100000 in
theorem copiedO_h (A : Option Addr) (n cap : Nat) (cs : List Value) (w : World) (hR : R18 w A n cs) (hn : n ≤ 100000) : Calls Tryz.prog 87 #[.slice A n cap] w (CopTo n cs 34 w) := by
  go_enter Tryz.func87, Tryz.ntmps87
  go_wp2_with (refine c18_make Tryz.underlying22 info_o (by decide) rfl rfl rfl rfl hn ?_; intro cur hcur)
  obtain ⟨W, hrun, hB, hW⟩ := run_copy_any (w.alloc (.cells cur 34)) 22 22 3 34 34 w.heap.size n cap A cs cur Tryz.underlying22 osz (heap_alloc_new _ _) hcur (hR.old _)
  rw [hrun]
  go_wp2
  go_ret
  exact ⟨_, rfl, Nat.le_refl _, hW, hB _ _ (vzero w _) (Nat.le_refl _)⟩
end Go.Proofs.YtpeegmpfkongeaaGreatDoor.S
