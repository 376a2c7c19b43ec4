/-
  Values made of any float, string, boolean: walks.
-/
import Derived.Test.YtmdmfjlmmojbgaaGreatDoorChecked
import Derived.Test.YtmdmfjlmmojbgaaGreatDoorTF01
import Derived.WalkKit
import Derived.WalkSpells
import Derived.WalkLawsBesides
import Derived.Lib.Hide
import Derived.Below
import Derived.Deep.Draws
import Derived.Shelf.LaysM
import Derived.Shelf.Strconv.Itoa3
import Derived.Test.YtmdmfjlmmojbgaaGreatDoorProg
import Derived.Test.YtmdmfjlmmojbgaaGreatDoorTF05
import Derived.Test.YtmdmfjlmmojbgaaGreatDoorTF06
import Derived.Lib.ItoaLen
namespace Go.Proofs.YtmdmfjlmmojbgaaGreatDoor.S
open Go.RowKit Fl

/-- a store of a float into a cell (the walk has no law of its own for it) -/
theorem vstore (a : Addr) (x : Nat) (m : Mode) (w : World) : (store a (.float .f64 x) m).run Tryz.prog w = stored Tryz.prog w a (.float .f64 x) m := run_store Tryz.prog w a _ m rfl
theorem vzero (w : World) (o : Obj) : Below w.heap.size w (w.alloc o) := (Below.refl _ _).alloc (Nat.le_refl _) o
theorem vb {w a b : World} (h : Below w.heap.size w a) (g : Below a.heap.size a b) : Below w.heap.size w b := h.trans (g.mono h.size)
theorem vafter {w w1 : World} {o : Obj} (h : Below (w.alloc o).heap.size (w.alloc o) w1) : Below w.heap.size w w1 := (vzero w o).trans (h.mono (vzero w o).size)
theorem vafter2 {w w1 : World} {o p : Obj} (h : Below ((w.alloc o).alloc p).heap.size ((w.alloc o).alloc p) w1) : Below w.heap.size w w1 := vafter (vafter h)
theorem vcell {W w1 : World} {B : Nat} (hb : Below B W w1) : (∀ b o, b < B → w1.cell? ⟨b, o, none⟩ = W.cell? ⟨b, o, none⟩) ∧ (∀ b o, b < B → w1.frozen? ⟨b, o, none⟩ = W.frozen? ⟨b, o, none⟩) :=
  ⟨fun b o h => hb.cell (p := ⟨b, o, none⟩) h, fun b o h => hb.frozen (p := ⟨b, o, none⟩) h⟩
theorem vlt1 {w w1 : World} {o : Obj} (h : Below (w.alloc o).heap.size (w.alloc o) w1) : w.heap.size < w1.heap.size := by have := h.size; simp at this; omega
theorem vlt2 {w w1 : World} {o p : Obj} (h : Below ((w.alloc o).alloc p).heap.size ((w.alloc o).alloc p) w1) : w.heap.size < w1.heap.size ∧ w.heap.size + 1 < w1.heap.size := by have := h.size; simp at this; omega
theorem vltn {w1 w2 : World} {n : Nat} (h : Below w1.heap.size w1 w2) (g : n < w1.heap.size) : n < w2.heap.size := Nat.lt_of_lt_of_le g h.size
theorem vset1 {w : World} {g : Nat} {t : TypeId} {cs : Array Value} (h : w.heap[g]? = some (.cells cs t (0, 0))) (i : Nat) (a : Value) : (w.setCell ⟨g, i, none⟩ a).heap[g]? = some (.cells (cs.setIfInBounds i a) t (0, 0)) := by
  simp [World.setCell, Array.getElem?_modify, h]
theorem vset1o {w : World} {g j : Nat} {o : Obj} (h : w.heap[g]? = some o) (hj : j ≠ g) (i : Nat) (a : Value) : (w.setCell ⟨j, i, none⟩ a).heap[g]? = some o := by
  simp [World.setCell, Array.getElem?_modify, h, hj]
theorem vblk1 {w w1 : World} {o : Obj} (h : Below (w.alloc o).heap.size (w.alloc o) w1) : w1.heap[w.heap.size]? = some o := by
  have e : (w.alloc o).heap.size = w.heap.size + 1 := by simp
  rw [h.block w.heap.size (by omega)]; exact heap_alloc_new w o
theorem vblk2 {w w1 : World} {o p : Obj} (h : Below ((w.alloc o).alloc p).heap.size ((w.alloc o).alloc p) w1) : w1.heap[w.heap.size]? = some o ∧ w1.heap[w.heap.size + 1]? = some p := by
  have e : (w.alloc o).heap.size = w.heap.size + 1 := by simp
  have e2 : ((w.alloc o).alloc p).heap.size = w.heap.size + 1 + 1 := by simp
  refine ⟨?_, ?_⟩
  · rw [h.block w.heap.size (by omega), ← heap_alloc_new w o]
    exact (vzero (w.alloc o) p).block _ (by omega)
  · rw [h.block (w.heap.size + 1) (by omega), ← e]; exact heap_alloc_new _ p
theorem vblkn {w1 w2 : World} {g : Nat} {o : Obj} (h : Below w1.heap.size w1 w2) (hb : w1.heap[g]? = some o) : w2.heap[g]? = some o := by
  have hg : g < w1.heap.size := by
    rcases Nat.lt_or_ge g w1.heap.size with c | c
    · exact c
    · rw [Array.getElem?_eq_none c] at hb; cases hb
  rw [h.block g hg]; exact hb
theorem vcells {w : World} {g : Nat} {t : TypeId} {cs : Array Value} (h : w.heap[g]? = some (.cells cs t (0, 0))) (i : Nat) : w.cell? ⟨g, i, none⟩ = cs[i]? := cell_of_row w g i cs t (0, 0) h
theorem vfz {w : World} {g : Nat} {t : TypeId} {cs : Array Value} (h : w.heap[g]? = some (.cells cs t (0, 0))) (i : Nat) : w.frozen? ⟨g, i, none⟩ = false := by
  simp [World.frozen?, h]
theorem vc4 {w : World} {g : Nat} {t : TypeId} {c0 c1 c2 c3 : Value} (h : w.heap[g]? = some (.cells #[c0, c1, c2, c3] t (0, 0))) :
    w.cell? ⟨g, 0, none⟩ = some c0 ∧ w.cell? ⟨g, 1, none⟩ = some c1 ∧ w.cell? ⟨g, 2, none⟩ = some c2 ∧ w.cell? ⟨g, 3, none⟩ = some c3 ∧ ∀ i, w.frozen? ⟨g, i, none⟩ = false := ⟨vcells h 0, vcells h 1, vcells h 2, vcells h 3, vfz h⟩
/-- a function whose one result is a value in a block of its own -/
theorem val_end {f : Func} {i : Nat} {t : TypeId} {Q : Ending → World → Prop} {tmps : Array Value} {W : World} {g : Nat} {k : Int} {x : Nat} {s : ByteArray} {r : Int} (hf : f.results = #[.cell i 26])
    (h2 : tmps[i]?.getD undef = .pointer (some ⟨g, 0, none⟩)) (hb : W.heap[g]? = some (.cells #[.int .u8 k, .float .f64 x, .string s, .int .i64 r] t (0, 0))) (hQ : Q (.returned (.agg #[.int .u8 k, .float .f64 x, .string s, .int .i64 r])) W) :
    bodyPost Tryz.prog f Q .ret { tmps := tmps, defers := [] } W := by
  have c0 : W.cell? ⟨g, 0, none⟩ = some (.int .u8 k) := vcells hb 0
  have c1 : W.cell? ⟨g, 1, none⟩ = some (.float .f64 x) := vcells hb 1
  have c2 : W.cell? ⟨g, 2, none⟩ = some (.string s) := vcells hb 2
  have c3 : W.cell? ⟨g, 3, none⟩ = some (.int .i64 r) := vcells hb 3
  clear hb
  refine bodyPost_ret (v := .agg #[.int .u8 k, .float .f64 x, .string s, .int .i64 r]) ?_ rfl hQ
  simp [h2, c0, c1, c2, c3, results, hf, go_sem]
theorem vset4 {w : World} {g : Nat} {t : TypeId} {c0 c1 c2 c3 : Value} (h : w.heap[g]? = some (.cells #[c0, c1, c2, c3] t (0, 0))) (a b c d : Value) :
    ((((w.setCell ⟨g, 0, none⟩ a).setCell ⟨g, 1, none⟩ b).setCell ⟨g, 2, none⟩ c).setCell ⟨g, 3, none⟩ d).heap[g]? = some (.cells #[a, b, c, d] t (0, 0)) :=
  vset1 (vset1 (vset1 (vset1 h 0 a) 1 b) 2 c) 3 d
theorem vbel4 {B g : Nat} {w0 w : World} (h : Below B w0 w) (hg : B ≤ g) (a b c d : Value) :
    Below B w0 ((((w.setCell ⟨g, 0, none⟩ a).setCell ⟨g, 1, none⟩ b).setCell ⟨g, 2, none⟩ c).setCell ⟨g, 3, none⟩ d) :=
  (((h.setCell (p := ⟨g, 0, none⟩) hg a).setCell (p := ⟨g, 1, none⟩) hg b).setCell (p := ⟨g, 2, none⟩) hg c).setCell (p := ⟨g, 3, none⟩) hg d
def valG (k x : Nat) (s : ByteArray) (r : Int) : Value := .agg #[.int .u8 (k : Int), .float .f64 x, .string s, .int .i64 r]

theorem Num_v (x : Nat) (w : World) : Calls Tryz.prog 8 #[.float .f64 x] w fun e w' => e = .returned (.agg #[.int .u8 3, .float .f64 x, .string ⟨#[]⟩, .int .i64 0]) ∧ Below w.heap.size w w' := by
  have hst := vstore
  go_enter Tryz.func8, Tryz.ntmps8
  go_wp2
  refine bodyPost_ret (v := .agg #[.int .u8 3, .float .f64 x, .string ⟨#[]⟩, .int .i64 0]) (by simp [results, Tryz.results8, go_sem]) rfl ⟨rfl, ?_⟩
  exact vzero _ _
def oneB (b : Bool) : Nat := if b then 4607182418800017408 else 0
end Go.Proofs.YtmdmfjlmmojbgaaGreatDoor.S
/-
  DERIVED: THE SHELF's CONTRACTS AT THIS DUMP, IN PLAIN WORDS (tools/lay-plain.mjs out of 'YtmdmfjlmmojbgaaGreatDoorValShelfTry.lean', which tools/lay-shelf.mjs wrote): THE SAME DECLARATIONS UNDER THE SAME NAMES: 'import', 'namespace', 'open', 'def', 'theorem' AND NOTHING ELSE: no command of the shelf's: FOR A HAND-IN. Each laying: the table of numbers ('.._ren') and one theorem, a field a fact of the dump's own or the kernel's comparison; each contract: ONE APPLICATION.
-/
namespace Go.Proofs
open Go.Shelf
def Tryz.laysM171_ren : Go.Shelf.Ren := ⟨fun | 171 => 76 | 243 => 91 | 246 => 102 | 283 => 108 | 284 => 109 | 285 => 110 | 286 => 111 | 129 => 117 | 317 => 116 | 318 => 118 | 319 => 119 | 320 => 120 | 337 => 122 | 338 => 123 | n => n, fun | 3 => 3 | 9 => 9 | 2 => 2 | 4 => 4 | 171 => 134 | 0 => 0 | 53 => 124 | 37 => 137 | 5 => 5 | 173 => 138 | 212 => 149 | 51 => 150 | 20 => 20 | 213 => 151 | 46 => 113 | 232 => 155 | 233 => 156 | n => n, fun | 17 => 3 | 18 => 5 | 19 => 6 | n => n⟩
theorem Tryz.laysM171 : Go.Proofs.LaysM.n171 Tryz.prog Tryz.laysM171_ren := {
  mixed := by kernel_rfl
  f129 := Tryz.func117.trans (congrArg some (by kernel_rfl))
  f171 := Tryz.func76.trans (congrArg some (by kernel_rfl))
  f243 := Tryz.func91.trans (congrArg some (by kernel_rfl))
  f246 := Tryz.func102.trans (congrArg some (by kernel_rfl))
  f283 := Tryz.func108.trans (congrArg some (by kernel_rfl))
  f284 := Tryz.func109.trans (congrArg some (by kernel_rfl))
  f285 := Tryz.func110.trans (congrArg some (by kernel_rfl))
  f286 := Tryz.func111.trans (congrArg some (by kernel_rfl))
  f317 := Tryz.func116.trans (congrArg some (by kernel_rfl))
  f318 := Tryz.func118.trans (congrArg some (by kernel_rfl))
  f319 := Tryz.func119.trans (congrArg some (by kernel_rfl))
  f320 := Tryz.func120.trans (congrArg some (by kernel_rfl))
  f337 := Tryz.func122.trans (congrArg some (by kernel_rfl))
  f338 := Tryz.func123.trans (congrArg some (by kernel_rfl))
  t0 := Tryz.underlying0
  a0 := Tryz.isAgg0
  z0 := Tryz.sizeOf0
  v0 := Tryz.zeroValue0
  t2 := Tryz.underlying2
  a2 := Tryz.isAgg2
  z2 := Tryz.sizeOf2
  v2 := Tryz.zeroValue2
  t3 := Tryz.underlying3
  a3 := Tryz.isAgg3
  z3 := Tryz.sizeOf3
  v3 := Tryz.zeroValue3
  t4 := Tryz.underlying4
  a4 := Tryz.isAgg4
  z4 := Tryz.sizeOf4
  v4 := Tryz.zeroValue4
  t5 := Tryz.underlying5
  a5 := Tryz.isAgg5
  z5 := Tryz.sizeOf5
  v5 := Tryz.zeroValue5
  t9 := Tryz.underlying9
  a9 := Tryz.isAgg9
  z9 := Tryz.sizeOf9
  v9 := Tryz.zeroValue9
  t20 := Tryz.underlying20
  a20 := Tryz.isAgg20
  z20 := Tryz.sizeOf20
  v20 := Tryz.zeroValue20
  t37 := Tryz.underlying137
  a37 := Tryz.isAgg137
  z37 := Tryz.sizeOf137
  v37 := Tryz.zeroValue137
  t46 := Tryz.underlying113
  a46 := Tryz.isAgg113
  z46 := Tryz.sizeOf113
  v46 := Tryz.zeroValue113
  t51 := Tryz.underlying150
  a51 := Tryz.isAgg150
  z51 := Tryz.sizeOf150
  v51 := Tryz.zeroValue150
  t53 := Tryz.underlying124
  a53 := Tryz.isAgg124
  z53 := Tryz.sizeOf124
  v53 := Tryz.zeroValue124
  t171 := Tryz.underlying134
  a171 := Tryz.isAgg134
  z171 := Tryz.sizeOf134
  v171 := Tryz.zeroValue134
  t173 := Tryz.underlying138
  a173 := Tryz.isAgg138
  z173 := Tryz.sizeOf138
  v173 := Tryz.zeroValue138
  t212 := Tryz.underlying149
  a212 := Tryz.isAgg149
  z212 := Tryz.sizeOf149
  v212 := Tryz.zeroValue149
  t213 := Tryz.underlying151
  a213 := Tryz.isAgg151
  z213 := Tryz.sizeOf151
  t232 := Tryz.underlying155
  a232 := Tryz.isAgg155
  z232 := Tryz.sizeOf155
  v232 := Tryz.zeroValue155
  t233 := Tryz.underlying156
  a233 := Tryz.isAgg156
  z233 := Tryz.sizeOf156
  v233 := Tryz.zeroValue156
  g17 := by kernel_rfl
  g18 := by kernel_rfl
  g19 := by kernel_rfl
  i0 := by kernel_rfl
  i2 := by kernel_rfl
  i3 := by kernel_rfl
  i4 := by kernel_rfl
  i5 := by kernel_rfl
  i9 := by kernel_rfl
  i20 := by kernel_rfl
  i37 := by kernel_rfl
  i46 := by kernel_rfl
  i51 := by kernel_rfl
  i53 := by kernel_rfl
  i171 := by kernel_rfl
  i173 := by kernel_rfl
  i212 := by kernel_rfl
  i232 := by kernel_rfl
  i233 := by kernel_rfl
  m17 := by kernel_rfl
  m18 := by kernel_rfl
  m19 := by kernel_rfl }
open Go.RowKit Go.Sort Go.Lib in
/-- strconv.Itoa, for every int. -/
theorem Tryz.strconv_Itoa (n : Int) (h0 : -9223372036854775808 ≤ n) (h1 : n ≤ 9223372036854775807) (w : World) (htab : Lib.TabIs Tryz.prog w "internal/strconv.uint64pow10" .u64 Lib.pow10Tab) :
    Calls Tryz.prog 76 #[.int .i64 n] w fun e w' => e = .returned (.string ⟨(Lib.itoa n).toArray⟩) ∧ ∃ k os, w' = grow (w.drewN k) os := Any.strconv_Itoa Tryz.laysM171 n h0 h1 w htab
end Go.Proofs
/-
  Keys: which are indices; key.Of, symbol, Number, Index, rank: walks.
-/
namespace Go.Proofs.YtmdmfjlmmojbgaaGreatDoor.S
open Go.RowKit Fl

/-- the number that a text is the index of -/
def idxO (s : ByteArray) : Option Nat := match readR s.data.toList with
  | .ok n => if 0 ≤ n ∧ n < 1024 ∧ s.data.toList = Lib.itoa n then some n.toNat else none
  | _ => none
/-- .. and a key -/
def ixK (s : ByteArray) (y : Int) : Option Nat := if y ≤ 0 then idxO s else none
/-- a key's rank in the order -/
def rkO (o : Option Nat) (y : Int) : Nat := match o with
  | some n => n
  | none => if y ≤ 0 then 1024 else 1025
def rkK (s : ByteArray) (y : Int) : Nat := rkO (ixK s y) y
theorem idxO_lt {s : ByteArray} {n : Nat} (h : idxO s = some n) : n < 1024 ∧ s.data.toList = Lib.itoa (n : Int) := by
  unfold idxO at h
  split at h
  · split at h
    · rename_i m _ hc
      cases h
      refine ⟨by omega, ?_⟩
      rw [show ((m.toNat : Nat) : Int) = m by omega]; exact hc.2.2
    · cases h
  · cases h
theorem ixK_lt {s : ByteArray} {y : Int} {n : Nat} (h : ixK s y = some n) : n < 1024 ∧ s.data.toList = Lib.itoa (n : Int) ∧ y ≤ 0 := by
  unfold ixK at h
  split at h
  · exact ⟨(idxO_lt h).1, (idxO_lt h).2, by assumption⟩
  · cases h
theorem digR_err {neg : Bool} {l : List UInt8} {j : Int} (h : digR neg l = .err j) : j = 10 := by
  unfold digR at h
  split at h
  · cases h
  · split at h
    · cases h; rfl
    · split at h
      · cases h; rfl
      · cases h
theorem bareR_err {l : List UInt8} {j : Int} (h : bareR l = .err j) : j = 10 := by
  cases l with
  | nil => rw [show bareR [] = .ok 0 from rfl] at h; cases h
  | cons c r =>
    rw [bareR_cons] at h
    split at h
    · exact digR_err h
    · split at h
      · exact digR_err h
      · exact digR_err h

theorem keyOf_k (s : ByteArray) (w : World) : Calls Tryz.prog 10 #[.string s] w fun e w' => e = .returned (.agg #[.string s, .int .i64 0]) ∧ Below w.heap.size w w' := by
  go_enter Tryz.func10, Tryz.ntmps10
  go_wp2
  refine bodyPost_ret (v := .agg #[.string s, .int .i64 0]) (by simp [results, Tryz.results10, go_sem]) rfl ⟨rfl, ?_⟩
  exact vzero _ _
theorem keysymbol_k (s : ByteArray) (y : Int) (w : World) : Calls Tryz.prog 30 #[.agg #[.string s, .int .i64 y]] w fun e w' => e = .returned (.bool (decide (0 < y))) ∧ Below w.heap.size w w' := by
  go_enter Tryz.func30, Tryz.ntmps30
  go_wp2
  go_ret
  exact ⟨rfl, vzero _ _⟩
theorem Itoa_k (n : Int) (h0 : -9223372036854775808 ≤ n) (h1 : n ≤ 9223372036854775807) (w : World) (htab : Lib.TabIs Tryz.prog w "internal/strconv.uint64pow10" .u64 Lib.pow10Tab) : Calls Tryz.prog 76 #[.int .i64 n] w fun e w' => e = .returned (.string ⟨(Lib.itoa n).toArray⟩) ∧ Below w.heap.size w w' :=
  (Tryz.strconv_Itoa n h0 h1 w htab).mono fun e w' ⟨he, k, os, hw⟩ => ⟨he, by rw [hw]; exact grow_below w k os⟩
/-- a key's two cells, set in a block of the call's own -/
theorem kset2 {w : World} {g : Nat} {t : TypeId} {c0 c1 : Value} (h : w.heap[g]? = some (.cells #[c0, c1] t (0, 0))) (a b : Value) :
    ((w.setCell ⟨g, 0, none⟩ a).setCell ⟨g, 1, none⟩ b).heap[g]? = some (.cells #[a, b] t (0, 0)) := vset1 (vset1 h 0 a) 1 b
theorem kbel2 {B g : Nat} {w0 w : World} (h : Below B w0 w) (hg : B ≤ g) (a b : Value) : Below B w0 ((w.setCell ⟨g, 0, none⟩ a).setCell ⟨g, 1, none⟩ b) :=
  (h.setCell (p := ⟨g, 0, none⟩) hg a).setCell (p := ⟨g, 1, none⟩) hg b
theorem kc2 {w : World} {g : Nat} {t : TypeId} {c0 c1 : Value} (h : w.heap[g]? = some (.cells #[c0, c1] t (0, 0))) :
    w.cell? ⟨g, 0, none⟩ = some c0 ∧ w.cell? ⟨g, 1, none⟩ = some c1 ∧ ∀ i, w.frozen? ⟨g, i, none⟩ = false := ⟨vcells h 0, vcells h 1, vfz h⟩
/-- a function whose one result is a key in a block of its own -/
theorem key_end {f : Func} {i : Nat} {t : TypeId} {Q : Ending → World → Prop} {tmps : Array Value} {W : World} {g : Nat} {s : ByteArray} {r : Int} (hf : f.results = #[.cell i 23])
    (h2 : tmps[i]?.getD undef = .pointer (some ⟨g, 0, none⟩)) (hb : W.heap[g]? = some (.cells #[.string s, .int .i64 r] t (0, 0))) (hQ : Q (.returned (.agg #[.string s, .int .i64 r])) W) :
    bodyPost Tryz.prog f Q .ret { tmps := tmps, defers := [] } W := by
  have c0 : W.cell? ⟨g, 0, none⟩ = some (.string s) := vcells hb 0
  have c1 : W.cell? ⟨g, 1, none⟩ = some (.int .i64 r) := vcells hb 1
  clear hb
  refine bodyPost_ret (v := .agg #[.string s, .int .i64 r]) ?_ rfl hQ
  simp [h2, c0, c1, results, hf, go_sem]
theorem Number_k (n : Int) (h0 : -9223372036854775808 ≤ n) (h1 : n ≤ 9223372036854775807) (w : World) (htab : TabHere w) : Calls Tryz.prog 55 #[.int .i64 n] w fun e w' => e = .returned (.agg #[.string ⟨(Lib.itoa n).toArray⟩, .int .i64 0]) ∧ Below w.heap.size w w' := by
  have hI := fun w ht => Itoa_k n h0 h1 w ht
  have hO := fun w => keyOf_k ⟨(Lib.itoa n).toArray⟩ w
  generalize (⟨(Lib.itoa n).toArray⟩ : ByteArray) = t at *
  have HTAB := Lib.hid htab
  clear h0 h1 htab
  go_enter Tryz.func55, Tryz.ntmps55
  go_wp2_with (first
    | (go_at_call 76; refine (hI _ (HTAB.out _ (vzero _ _))).mono ?_; rintro e w1 ⟨rfl, h1⟩; have hb1 := vblk1 h1; have hz1 := vlt1 h1; have H1 := Lib.hid h1; clear h1)
    | (go_at_call 10; refine (hO _).mono ?_; rintro e w2 ⟨rfl, h2⟩; have hb2 := vblkn h2 hb1; have hz2 := vltn h2 hz1; obtain ⟨hc0, hc1, hfr⟩ := kc2 hb2; have HB2 := Lib.hid hb2; clear hb1 hb2; have H2 := Lib.hid h2; clear h2))
  refine key_end (g := w.heap.size) Tryz.results55 rfl (kset2 HB2.out _ _) ⟨rfl, ?_⟩
  exact kbel2 (vb (vafter H1.out) H2.out) (Nat.le_refl _) _ _
end Go.Proofs.YtmdmfjlmmojbgaaGreatDoor.S
