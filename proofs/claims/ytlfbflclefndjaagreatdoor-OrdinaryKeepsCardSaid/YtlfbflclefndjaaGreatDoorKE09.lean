/-
  DERIVED: THE SHELF's CONTRACTS AT THIS DUMP, IN PLAIN WORDS (tools/lay-plain.mjs out of 'YtlfbflclefndjaaGreatDoorKeyShelfTry.lean', which tools/lay-shelf.mjs wrote): THE SAME DECLARATIONS UNDER THE SAME NAMES: 'import', 'namespace', 'open', 'def', 'theorem' AND NOTHING ELSE: no command of the shelf's: FOR A HAND-IN. Each laying: the table of numbers ('.._ren') and one theorem, a field a fact of the dump's own or the kernel's comparison; each contract: ONE APPLICATION.
-/
import Derived.Shelf.GgSortMore.Lays
import Derived.Test.YtlfbflclefndjaaGreatDoorProg
import Derived.Test.YtlfbflclefndjaaGreatDoorKE04
import Derived.Test.YtlfbflclefndjaaGreatDoorKE08
import Derived.OwnWalk
import Derived.Deep.RegionWith
import Derived.Shelf.Strings.Builder1
import Derived.Shelf.Strings.Builder2
import Derived.Shelf.Strings.Search3
import Derived.Shelf.Strings.Shaped
import Derived.Shelf.LaysM
import Derived.Test.YtlfbflclefndjaaGreatDoorChecked
import Derived.WalkKit
import Derived.WalkSpells
import Derived.WalkLawsBesides
import Derived.BigCall
import Derived.Lib.Hide
import Derived.Deep.RegionHeld3
import Derived.Deep.QuietTactic
import Derived.BigQuiet
namespace Go.Proofs
open Go.Shelf
def Tryz.sl8_ren : Go.Shelf.Ren := ⟨fun | 8 => 113 | 13 => 119 | 14 => 120 | 16 => 122 | 15 => 121 | 29 => 143 | 30 => 144 | 42 => 153 | 49 => 161 | n => n, fun | 20 => 20 | 26 => 151 | 36 => 161 | 0 => 0 | 38 => 163 | 42 => 167 | 3 => 3 | 4 => 4 | 47 => 183 | 17 => 17 | 33 => 158 | 34 => 159 | 89 => 225 | 12 => 12 | 56 => 206 | 82 => 218 | 5 => 5 | 83 => 219 | 84 => 220 | 85 => 221 | 86 => 222 | 87 => 223 | n => n, fun | n => n⟩
theorem Tryz.sl8 : Go.Proofs.LaysGt.n8 Tryz.prog Tryz.sl8_ren := {
  mixed := by kernel_rfl
  f8 := Tryz.func113.trans (congrArg some (by kernel_rfl))
  f13 := Tryz.func119.trans (congrArg some (by kernel_rfl))
  f14 := Tryz.func120.trans (congrArg some (by kernel_rfl))
  f15 := Tryz.func121.trans (congrArg some (by kernel_rfl))
  f16 := Tryz.func122.trans (congrArg some (by kernel_rfl))
  f29 := Tryz.func143.trans (congrArg some (by kernel_rfl))
  f30 := Tryz.func144.trans (congrArg some (by kernel_rfl))
  f42 := Tryz.func153.trans (congrArg some (by kernel_rfl))
  f49 := Tryz.func161.trans (congrArg some (by kernel_rfl))
  t0 := Tryz.underlying0
  a0 := Tryz.isAgg0
  z0 := Tryz.sizeOf0
  v0 := Tryz.zeroValue0
  i0 := by kernel_rfl
  t3 := Tryz.underlying3
  a3 := Tryz.isAgg3
  z3 := Tryz.sizeOf3
  v3 := Tryz.zeroValue3
  i3 := by kernel_rfl
  t4 := Tryz.underlying4
  a4 := Tryz.isAgg4
  z4 := Tryz.sizeOf4
  v4 := Tryz.zeroValue4
  i4 := by kernel_rfl
  t5 := Tryz.underlying5
  a5 := Tryz.isAgg5
  z5 := Tryz.sizeOf5
  v5 := Tryz.zeroValue5
  i5 := by kernel_rfl
  t12 := Tryz.underlying12
  a12 := Tryz.isAgg12
  z12 := Tryz.sizeOf12
  v12 := Tryz.zeroValue12
  i12 := by kernel_rfl
  t17 := Tryz.underlying17
  a17 := Tryz.isAgg17
  z17 := Tryz.sizeOf17
  v17 := Tryz.zeroValue17
  i17 := by kernel_rfl
  t20 := Tryz.underlying20
  a20 := Tryz.isAgg20
  z20 := Tryz.sizeOf20
  v20 := Tryz.zeroValue20
  i20 := by kernel_rfl
  t26 := Tryz.underlying151
  a26 := Tryz.isAgg151
  z26 := Tryz.sizeOf151
  v26 := Tryz.zeroValue151
  i26 := by kernel_rfl
  t33 := Tryz.underlying158
  a33 := Tryz.isAgg158
  z33 := Tryz.sizeOf158
  v33 := Tryz.zeroValue158
  i33 := by kernel_rfl
  t34 := Tryz.underlying159
  a34 := Tryz.isAgg159
  z34 := Tryz.sizeOf159
  v34 := Tryz.zeroValue159
  i34 := by kernel_rfl
  t36 := Tryz.underlying161
  a36 := Tryz.isAgg161
  z36 := Tryz.sizeOf161
  v36 := Tryz.zeroValue161
  i36 := by kernel_rfl
  t38 := Tryz.underlying163
  a38 := Tryz.isAgg163
  z38 := Tryz.sizeOf163
  v38 := Tryz.zeroValue163
  i38 := by kernel_rfl
  t42 := Tryz.underlying167
  a42 := Tryz.isAgg167
  z42 := Tryz.sizeOf167
  v42 := Tryz.zeroValue167
  i42 := by kernel_rfl
  t47 := Tryz.underlying183
  a47 := Tryz.isAgg183
  z47 := Tryz.sizeOf183
  v47 := Tryz.zeroValue183
  i47 := by kernel_rfl
  t56 := Tryz.underlying206
  a56 := Tryz.isAgg206
  z56 := Tryz.sizeOf206
  v56 := Tryz.zeroValue206
  i56 := by kernel_rfl
  t82 := Tryz.underlying218
  a82 := Tryz.isAgg218
  z82 := Tryz.sizeOf218
  v82 := Tryz.zeroValue218
  i82 := by kernel_rfl
  t83 := Tryz.underlying219
  a83 := Tryz.isAgg219
  z83 := Tryz.sizeOf219
  v83 := Tryz.zeroValue219
  i83 := by kernel_rfl
  t84 := Tryz.underlying220
  a84 := Tryz.isAgg220
  z84 := Tryz.sizeOf220
  v84 := Tryz.zeroValue220
  i84 := by kernel_rfl
  t85 := Tryz.underlying221
  a85 := Tryz.isAgg221
  z85 := Tryz.sizeOf221
  v85 := Tryz.zeroValue221
  i85 := by kernel_rfl
  t86 := Tryz.underlying222
  a86 := Tryz.isAgg222
  z86 := Tryz.sizeOf222
  v86 := Tryz.zeroValue222
  i86 := by kernel_rfl
  t87 := Tryz.underlying223
  a87 := Tryz.isAgg223
  z87 := Tryz.sizeOf223
  v87 := Tryz.zeroValue223
  i87 := by kernel_rfl
  t89 := Tryz.underlying225
  a89 := Tryz.isAgg225
  z89 := Tryz.sizeOf225
  v89 := Tryz.zeroValue225
  i89 := by kernel_rfl }
end Go.Proofs
/-
  Keys: the rows of key.Order, sorted.
-/
namespace Go.Proofs.YtlfbflclefndjaaGreatDoor.S
open Go.Shelf Go.RowKit Go.Lib Go.Sort Fl

/-- a key -/
structure Ky where
  str : ByteArray
  sym : Int
instance : Inhabited Ky := ⟨⟨⟨#[]⟩, 0⟩⟩
def rkKy (k : Ky) : Nat := rkK k.str k.sym
/-- a row's cells: the rank and the key -/
def encR (k : Ky) : List Value := [.int .i64 (rkKy k : Nat), .string k.str, .int .i64 k.sym]
noncomputable def rowsT : TypeInfo := (Tryz.prog.info? 147).get (by kernel_rfl)
noncomputable def rowT : TypeInfo := (Tryz.prog.info? 150).get (by kernel_rfl)
theorem rowsK (n : Nat) (h2 : 2 ≤ n) : Lib.swapperK n rowT 25 = 9 := by
  have a : rowT.hasPointers = true := by kernel_rfl
  have b : rowT.bytes = 32 := by kernel_rfl
  have c : (n == 0) = false := by simp; omega
  have d : (n == 1) = false := by simp; omega
  simp [Lib.swapperK, a, b, c, d]

set_option maxHeartbeats 2000000 in
/-- the closure: a row's rank below another's -/
theorem less_k (R B size : Nat) (W : World) (G : Nat → Nat) (hs : W.cell? ⟨B, 0, none⟩ = some (.slice (some ⟨R, 0, none⟩) size size))
    (hc : ∀ t, t < size → W.cell? ⟨R, 0 + t * 3, none⟩ = some (.int .i64 (G t : Nat))) (i j : Nat) (hi : i < size) (hj : j < size) (_hsz : size < 1000000000000000000) :
    Calls Tryz.prog 112 #[.int .i64 i, .int .i64 j, .pointer (some ⟨B, 0, none⟩)] W fun e w' => e = .returned (.bool (decide (G i < G j))) ∧ ∃ q, w' = W.drewN q := by
  have ci := hc i hi
  have cj := hc j hj
  rw [Nat.zero_add] at ci cj
  go_enter Tryz.func112, Tryz.ntmps112
  go_wp2
  go_quiet (fail)
  go_wp2
  go_ret
  exact ⟨by simp, nq, rfl⟩

theorem sort_rows (R B : Nat) (d : Array Ky) (w : World) (hH : HoldsK encR 3 w R 0 d) (hB : w.cell? ⟨B, 0, none⟩ = some (.slice (some ⟨R, 0, none⟩) d.size d.size)) (hne : B ≠ R) (hR : R < w.heap.size) (hBz : B < w.heap.size) (hsz : d.size < 1000000000000000000) :
    Calls Tryz.prog 113 #[.iface 147 (.slice (some ⟨R, 0, none⟩) d.size d.size), .func (.func 112) #[] #[.pointer (some ⟨B, 0, none⟩)]] w (Sorted rkKy encR 3 R 0 d w) := by
  have hless : LessReadsK Tryz.prog 112 #[.pointer (some ⟨B, 0, none⟩)] encR 3 (ltR rkKy) R 0 d.size w := by
    intro m os dk hs i j hi hj
    have e : sortWorldK encR 3 w R 0 m dk os = putRowK encR 3 (grow (Sort.ahead w m) os) R 0 dk := by
      unfold sortWorldK; rw [putRowK_grow _ _ (Sort.ahead w m) _ R 0 _ hR]
    have hHg : HoldsK encR 3 (grow (Sort.ahead w m) os) R 0 d := holdsK_grow _ _ _ _ R 0 d hR (holdsK_ahead _ _ _ _ _ _ _ hH)
    refine less_k R B d.size _ (fun t => rkKy dk[t]!) ?_ (fun t ht => ?_) i j hi hj hsz
    · rw [e, cell?_putRowK_other _ _ _ R 0 dk _ hne, cell?_grow _ _ _ (by show B < w.heap.size; exact hBz)]
      exact hB
    · rw [e]; exact ((holdsK_putRowK _ _ _ R 0 d dk hHg hs).cell (i := t) (c := 0) (by omega) (by omega)).1
  by_cases h2 : 2 ≤ d.size
  · exact Any.sort_SliceStable_cells Tryz.sl8 147 150 rowsT rowT (by kernel_rfl) (by kernel_rfl) (by kernel_rfl) (by kernel_rfl) 25 (fun _ => by kernel_rfl) encR 3 (fun _ => rfl) (by kernel_rfl) (fun _ => by kernel_rfl)
      (fun x v hv => by simp [encR] at hv; rcases hv with rfl | rfl | rfl <;> rfl) rkKy 112 _
      (enters_of Tryz.func112 (by kernel_rfl) rfl) R 0 d.size d h2 hsz 142 (by rw [rowsK _ h2]; kernel_rfl) false
      (fun args W => run_callFunc_extern Tryz.func142 (by kernel_rfl) (by kernel_rfl) (by kernel_rfl) (e := Extern.ReflectliteSwapper.swap false) (by kernel_rfl) args W) w hless hH hR
  · have few : ∀ n, n ≤ 1 → d.size = n → ∀ f, Tryz.prog.funcs.findIdx? (·.name == "internal/reflectlite" ++ ".Swapper$" ++ toString (swapperK n rowT 25)) = some f → Calls Tryz.prog 113 #[.iface 147 (.slice (some ⟨R, 0, none⟩) d.size d.size), .func (.func 112) #[] #[.pointer (some ⟨B, 0, none⟩)]] w (Sorted rkKy encR 3 R 0 d w) := fun n hn hd f hf =>
      Any.sort_SliceStable_few Tryz.sl8 147 150 rowsT rowT (by kernel_rfl) (by kernel_rfl) (by kernel_rfl) (by kernel_rfl) 25 (fun _ => by kernel_rfl) encR 3 rkKy 112 _ _ R 0 d.size d (by omega) f (by rw [hd]; exact hf) w hH
    by_cases h0 : d.size = 0
    · exact few 0 (by omega) h0 134 (by kernel_rfl)
    · exact few 1 (by omega) (by omega) 135 (by kernel_rfl)
end Go.Proofs.YtlfbflclefndjaaGreatDoor.S
/-
  key.Order: what its loops keep; what the sort leaves.
-/
namespace Go.Proofs.YtlfbflclefndjaaGreatDoor.S
open Go.RowKit Go.Sort Fl

def KyIn (k : Ky) : Prop := k.str.size ≤ maxLen ∧ -2 ^ 63 ≤ k.sym ∧ k.sym < 2 ^ 63
/-- keys in a row, wherever it lies -/
def RK (w : World) (A : Option Addr) (L : List Ky) : Prop := 0 < L.length → ∃ a, A = some a ∧ a.block < w.heap.size ∧ ∀ i (h : i < L.length), w.cell? (a.add (i * 2)) = some (.string L[i].str) ∧ w.cell? ⟨(a.add (i * 2)).block, (a.add (i * 2)).off + 1, none⟩ = some (.int .i64 L[i].sym)
def kyCells (L : List Ky) : List Value := L.flatMap fun k => [.string k.str, .int .i64 k.sym]
/-- the order of keys -/
structure OrdOf (L M : List Ky) : Prop where
  sorted : M.Pairwise fun a b => rkKy a ≤ rkKy b
  fil : ∀ r, M.filter (fun k => rkKy k == r) = L.filter (fun k => rkKy k == r)
  len : M.length = L.length
def OrdTo (L : List Ky) (w : World) (e : Ending) (w' : World) : Prop := ∃ M O, e = .returned (.slice (some ⟨O, 0, none⟩) L.length L.length) ∧ OrdOf L M ∧ w.heap.size ≤ O ∧ w'.heap[O]? = some (.cells (kyCells M).toArray 26 (0, 0)) ∧ Below w.heap.size w w'
theorem row_info : (Tryz.prog.info? 150).map (fun i => (i.zero, i.size, i.bytes)) = some (some (.agg #[.int .i64 0, .string ⟨#[]⟩, .int .i64 0]), 3, 32) := by kernel_rfl
theorem key_info : (Tryz.prog.info? 26).map (fun i => (i.zero, i.size, i.bytes)) = some (some (.agg #[.string ⟨#[]⟩, .int .i64 0]), 2, 24) := by kernel_rfl

theorem own_blk {w : World} {B e n K m size : Nat} {xs : List Value} (h : w.ownsRow B e size (.slice (some ⟨K, 0, none⟩) m n) m xs) (hm : m = n) : ∃ cs : Array Value, cs.size = n * size ∧ w.heap[K]? = some (.cells cs e (0, 0)) := by
  subst hm
  rcases h.2 with ⟨h1, _⟩ | ⟨g, cap, cur, h1, _, h2, _, _, h3, _⟩
  · cases h1
  · injection h1 with h4 _ h5
    injection h4 with h4
    injection h4 with h4
    subst h4 h5
    exact ⟨cur, by simpa using h3, h2⟩

/-- in the midst of filling the rows -/
structure Lp1 (L : List Ky) (w : World) (B i : Nat) (wr : World) : Prop where
  below : Below w.heap.size w wr
  box : wr.heap[B]? = some (.cells #[.slice (some ⟨w.heap.size, 0, none⟩) L.length L.length] 147 (0, 0))
  rows : ∃ cs : Array Value, cs.size = L.length * 3 ∧ wr.heap[w.heap.size]? = some (.cells cs 150 (0, 0)) ∧ ∀ j (hj : j < L.length), j < i → cs[j * 3]? = some (.int .i64 (rkKy L[j] : Nat)) ∧ cs[j * 3 + 1]? = some (.string L[j].str) ∧ cs[j * 3 + 2]? = some (.int .i64 L[j].sym)
theorem grown_below {w w2 : World} (h : w.grownBy w2 none) : Below w.heap.size w w2 := ⟨h.os, h.tape, h.output, h.size, fun k hk => h.block k hk (by simp)⟩
theorem lt_blk {w : World} {g : Nat} {o : Obj} (hb : w.heap[g]? = some o) : g < w.heap.size := by
  rcases Nat.lt_or_ge g w.heap.size with c | c
  · exact c
  · rw [Array.getElem?_eq_none c] at hb; cases hb
theorem lp1_start {L : List Ky} {w w2 : World} (gK : w.grownBy w2 none) (hK : ∃ cs : Array Value, cs.size = L.length * 3 ∧ w2.heap[w.heap.size]? = some (.cells cs 150 (0, 0))) :
    Lp1 L w w2.heap.size 0 (w2.alloc (.cells #[.slice (some ⟨w.heap.size, 0, none⟩) L.length L.length] 147)) := by
  obtain ⟨cs, h1, h2⟩ := hK
  have hlt := lt_blk h2
  refine ⟨(grown_below gK).alloc gK.size _, heap_alloc_new _ _, cs, h1, ?_, fun j _ h => absurd h (Nat.not_lt_zero _)⟩
  rw [← h2]
  exact (vzero w2 _).block _ hlt
theorem Lp1.alloc {L : List Ky} {w : World} {B i : Nat} {wr : World} (h : Lp1 L w B i wr) (o : Obj) : Lp1 L w B i (wr.alloc o) := by
  have hB := lt_blk h.box
  obtain ⟨cs, h1, h2, h3⟩ := h.rows
  have hR := lt_blk h2
  exact ⟨vb h.below (vzero wr o), ((vzero wr o).block _ hB).trans h.box, cs, h1, ((vzero wr o).block _ hR).trans h2, h3⟩
theorem rk_up {w wr : World} {A : Option Addr} {L : List Ky} (h : RK w A L) (hb : Below w.heap.size w wr) : RK wr A L := fun hp => by
  obtain ⟨a, h1, h2, h3⟩ := h hp
  have ha : ∀ k, (a.add k).block = a.block := fun k => by unfold Addr.add; split <;> rfl
  refine ⟨a, h1, Nat.lt_of_lt_of_le h2 hb.size, fun i hi => ⟨?_, ?_⟩⟩
  · rw [hb.cell (by rw [ha]; exact h2)]; exact (h3 i hi).1
  · rw [hb.cell (by show (a.add (i * 2)).block < _; rw [ha]; exact h2)]; exact (h3 i hi).2


theorem size_set3 (cs : Array Value) (i : Nat) (a b c : Value) : (((cs.setIfInBounds i a).setIfInBounds (i + 1) b).setIfInBounds (i + 2) c).size = cs.size := by simp
theorem lp1_put {L : List Ky} {w W1 w3 : World} {B i : Nat} {cs : Array Value} {s : ByteArray} {y : Int} {r : Nat} (hi : i < L.length) (H1 : Below w.heap.size w W1) (hne : w.heap.size < B) (hcz : cs.size = L.length * 3)
    (hrj : ∀ j (hj : j < L.length), j < i → cs[j * 3]? = some (.int .i64 (rkKy L[j] : Nat)) ∧ cs[j * 3 + 1]? = some (.string L[j].str) ∧ cs[j * 3 + 2]? = some (.int .i64 L[j].sym))
    (hr3 : w3.heap[w.heap.size]? = some (.cells cs 150 (0, 0))) (hb3 : w3.heap[B]? = some (.cells #[.slice (some ⟨w.heap.size, 0, none⟩) L.length L.length] 147 (0, 0))) (h3 : Below W1.drew.heap.size W1.drew w3) (hs : L[i].str = s) (hy : L[i].sym = y) (hr : rkK s y = r) :
    Lp1 L w B (i + 1) (((w3.setCell ⟨w.heap.size, i * 3, none⟩ (.int .i64 (r : Nat))).setCell ⟨w.heap.size, i * 3 + 1, none⟩ (.string s)).setCell ⟨w.heap.size, i * 3 + 2, none⟩ (.int .i64 y)) := by
  refine ⟨?_, vset1o (vset1o (vset1o hb3 (by omega) _ _) (by omega) _ _) (by omega) _ _, ((cs.setIfInBounds (i * 3) (.int .i64 (r : Nat))).setIfInBounds (i * 3 + 1) (.string s)).setIfInBounds (i * 3 + 2) (.int .i64 y), by rw [size_set3]; exact hcz, vset1 (vset1 (vset1 hr3 _ _) _ _) _ _, fun j hj hji => ?_⟩
  · have h := vb (w := w) (a := W1.drew) H1.drew h3
    exact ((h.setCell (p := ⟨w.heap.size, _, none⟩) (Nat.le_refl _) _).setCell (p := ⟨w.heap.size, _, none⟩) (Nat.le_refl _) _).setCell (p := ⟨w.heap.size, _, none⟩) (Nat.le_refl _) _
  · simp only [Array.getElem?_setIfInBounds, Array.size_setIfInBounds]
    by_cases e : j = i
    · subst e
      refine ⟨?_, ?_, ?_⟩
      · rw [if_neg (by omega), if_neg (by omega), if_pos rfl, if_pos (by omega), ← hr, ← hs, ← hy]; rfl
      · rw [if_neg (by omega), if_pos rfl, if_pos (by omega), hs]
      · rw [if_pos rfl, if_pos (by omega), hy]
    · obtain ⟨q1, q2, q3⟩ := hrj j hj (by omega)
      refine ⟨?_, ?_, ?_⟩
      · rw [if_neg (by omega), if_neg (by omega), if_neg (by omega)]; exact q1
      · rw [if_neg (by omega), if_neg (by omega), if_neg (by omega)]; exact q2
      · rw [if_neg (by omega), if_neg (by omega), if_neg (by omega)]; exact q3

theorem get_arr (L : List Ky) (j : Nat) (hj : j < L.length) : (L.toArray)[j]! = L[j] := by
  rw [getElem!_pos L.toArray j (by simpa using hj)]; simp
/-- filled: the rows hold the keys -/
theorem holds_rows {L : List Ky} {w wr : World} {B : Nat} (h : Lp1 L w B L.length wr) : HoldsK encR 3 wr w.heap.size 0 L.toArray := by
  obtain ⟨cs, h1, h2, h3⟩ := h.rows
  intro t ht
  rw [size_flatK] at ht
  have ht : t < L.length * 3 := by simpa using ht
  have hj : t / 3 < L.length := by omega
  obtain ⟨q1, q2, q3⟩ := h3 (t / 3) hj hj
  rw [Nat.zero_add]
  refine ⟨?_, vfz h2 t⟩
  rw [vcells h2 t, get_flatK _ _ _ _ (by simpa using ht), get_arr L _ hj]
  have h3 : t % 3 = 0 ∨ t % 3 = 1 ∨ t % 3 = 2 := by omega
  rcases h3 with e | e | e
  · rw [e]; rw [show cs[t]? = cs[t / 3 * 3]? by congr 1; omega]; exact q1
  · rw [e]; rw [show cs[t]? = cs[t / 3 * 3 + 1]? by congr 1; omega]; exact q2
  · rw [e]; rw [show cs[t]? = cs[t / 3 * 3 + 2]? by congr 1; omega]; exact q3
/-- behind the sort -/
theorem heap_sorted (wr : World) (n R : Nat) (d' : Array Ky) (os : Array Obj) (k : Nat) (hk : k < wr.heap.size) (hne : k ≠ R) : (grow (putRowK encR 3 (Sort.ahead wr n) R 0 d') os).heap[k]? = wr.heap[k]? := by
  show ((putRowK encR 3 (Sort.ahead wr n) R 0 d').heap ++ os)[k]? = _
  rw [Array.getElem?_append_left (by rw [size_putRowK]; exact hk)]
  show (wr.heap.modify R _)[k]? = _
  rw [Array.getElem?_modify, if_neg (fun e => hne e.symm)]
theorem below_sorted (wr : World) (n R : Nat) (d' : Array Ky) (os : Array Obj) (hR : R < wr.heap.size) : Below R wr (grow (putRowK encR 3 (Sort.ahead wr n) R 0 d') os) :=
  ⟨rfl, rfl, rfl, by rw [size_grow, size_putRowK]; exact Nat.le_add_right _ _, fun k hk => heap_sorted wr n R d' os k (by omega) (by omega)⟩
theorem holds_sorted {wr : World} {n R : Nat} {d d' : Array Ky} {os : Array Obj} (hR : R < wr.heap.size) (h : HoldsK encR 3 wr R 0 d) (hs : d'.size = d.size) : HoldsK encR 3 (grow (putRowK encR 3 (Sort.ahead wr n) R 0 d') os) R 0 d' :=
  holdsK_grow encR 3 _ os R 0 d' (by rw [size_putRowK]; exact hR) (holdsK_putRowK encR 3 (Sort.ahead wr n) R 0 d d' h hs)

theorem seg_all {α : Type} [Inhabited α] (d : Array α) (n : Nat) (h : n = d.size) : seg d 0 n = d.toList := by
  subst h
  refine List.ext_getElem (by rw [seg_len]; simp) fun i h1 h2 => ?_
  rw [seg_get, Nat.zero_add]
  rw [getElem!_pos d i (by simpa using h2)]; simp
theorem ord_of {L : List Ky} {d' : Array Ky} (s1 : Stb rkKy 0 L.toArray.size L.toArray d') (s2 : Srt rkKy 0 L.toArray.size d') : OrdOf L d'.toList := by
  have hz : L.toArray.size = d'.size := s1.size.symm
  refine ⟨?_, fun r => ?_, by have := s1.size; simpa using this⟩
  · rw [List.pairwise_iff_getElem]
    intro i j hi hj hij
    have := s2 i j (Nat.zero_le _) (Nat.le_of_lt hij) (by rw [hz]; simpa using hj)
    rw [getElem!_pos d' i (by simpa using hi), getElem!_pos d' j (by simpa using hj)] at this
    simpa using this
  · have := s1.fil r
    rw [seg_all d' _ hz, seg_all L.toArray _ rfl] at this
    simpa using this

/-- in the midst of copying the keys out -/
structure Lp2 (d : Array Ky) (w : World) (R O i : Nat) (wr : World) : Prop where
  below : Below w.heap.size w wr
  rows : HoldsK encR 3 wr R 0 d
  out : ∃ cs : Array Value, cs.size = d.size * 2 ∧ wr.heap[O]? = some (.cells cs 26 (0, 0)) ∧ ∀ j, j < d.size → j < i → cs[j * 2]? = some (.string d[j]!.str) ∧ cs[j * 2 + 1]? = some (.int .i64 d[j]!.sym)
theorem holdsK_same {enc : Ky → List Value} {k : Nat} {w w' : World} {blk off : Nat} {d : Array Ky} (h : HoldsK enc k w blk off d) (hb : w'.heap[blk]? = w.heap[blk]?) : HoldsK enc k w' blk off d := fun t ht => by
  obtain ⟨h1, h2⟩ := h t ht
  refine ⟨?_, ?_⟩
  · rw [← h1]; unfold World.cell?; rw [hb]
  · rw [← h2]; unfold World.frozen?; rw [hb]
theorem holdsK_lt {w : World} {blk : Nat} {d : Array Ky} (h : HoldsK encR 3 w blk 0 d) (hd : 0 < d.size) : blk < w.heap.size := by
  have := (h.cell (i := 0) (c := 0) hd (by omega)).1
  rcases Nat.lt_or_ge blk w.heap.size with c | c
  · exact c
  · have e : w.heap[blk]? = none := Array.getElem?_eq_none c
    simp [World.cell?, e] at this
theorem lp2_set {d : Array Ky} {w wr : World} {R O i : Nat} (h : Lp2 d w R O i wr) (hi : i < d.size) (hO : w.heap.size ≤ O) (hne : R ≠ O) :
    Lp2 d w R O (i + 1) ((wr.setCell ⟨O, i * 2, none⟩ (.string d[i]!.str)).setCell ⟨O, i * 2 + 1, none⟩ (.int .i64 d[i]!.sym)) := by
  obtain ⟨cs, h1, h2, h3⟩ := h.out
  refine ⟨?_, ?_, (cs.setIfInBounds (i * 2) (.string d[i]!.str)).setIfInBounds (i * 2 + 1) (.int .i64 d[i]!.sym), by simp [h1], vset1 (vset1 h2 _ _) _ _, fun j hj hji => ?_⟩
  · exact (h.below.setCell (p := ⟨O, _, none⟩) hO _).setCell (p := ⟨O, _, none⟩) hO _
  · refine holdsK_same (w := wr) h.rows ?_
    simp only [World.setCell, Array.getElem?_modify]
    rw [if_neg (fun e => hne e.symm), if_neg (fun e => hne e.symm)]
  · simp only [Array.getElem?_setIfInBounds, Array.size_setIfInBounds]
    by_cases e : j = i
    · subst e
      refine ⟨?_, ?_⟩
      · rw [if_neg (by omega), if_pos rfl, if_pos (by omega)]
      · rw [if_pos rfl, if_pos (by omega)]
    · obtain ⟨q1, q2⟩ := h3 j hj (by omega)
      refine ⟨?_, ?_⟩
      · rw [if_neg (by omega), if_neg (by omega)]; exact q1
      · rw [if_neg (by omega), if_neg (by omega)]; exact q2
theorem lp2_put {d : Array Ky} {w wr : World} {R O i : Nat} (h : Lp2 d w R O i wr) (hi : i < d.size) (hO : w.heap.size ≤ O) (hne : R ≠ O) (o : Obj) :
    Lp2 d w R O (i + 1) (((wr.setCell ⟨O, i * 2, none⟩ (.string d[i]!.str)).setCell ⟨O, i * 2 + 1, none⟩ (.int .i64 d[i]!.sym)).alloc o) := by
  have H := lp2_set h hi hO hne
  generalize (wr.setCell ⟨O, i * 2, none⟩ (.string d[i]!.str)).setCell ⟨O, i * 2 + 1, none⟩ (.int .i64 d[i]!.sym) = W at *
  obtain ⟨cs, h1, h2, h3⟩ := H.out
  have hOl := lt_blk h2
  have hRl := holdsK_lt H.rows (by omega)
  exact ⟨vb H.below (vzero W o), holdsK_same H.rows ((vzero W o).block _ hRl), cs, h1, ((vzero W o).block _ hOl).trans h2, h3⟩
theorem kyCells_len (L : List Ky) : (kyCells L).length = L.length * 2 := by
  induction L with
  | nil => rfl
  | cons k L ih => show (_ :: _ :: kyCells L).length = _; simp [ih]; omega
theorem kyCells_at (L : List Ky) : ∀ (j : Nat) (hj : j < L.length), (kyCells L)[j * 2]? = some (.string L[j].str) ∧ (kyCells L)[j * 2 + 1]? = some (.int .i64 L[j].sym) := by
  induction L with
  | nil => intro j hj; simp at hj
  | cons k L ih =>
    intro j hj
    show (Value.string k.str :: Value.int .i64 k.sym :: kyCells L)[j * 2]? = _ ∧ (Value.string k.str :: Value.int .i64 k.sym :: kyCells L)[j * 2 + 1]? = _
    cases j with
    | zero => exact ⟨rfl, rfl⟩
    | succ j =>
      have := ih j (by simpa using hj)
      rw [show (j + 1) * 2 = j * 2 + 1 + 1 by omega]
      simpa using this
theorem lp2_end {d : Array Ky} {w wr : World} {R O : Nat} (h : Lp2 d w R O d.size wr) : wr.heap[O]? = some (.cells (kyCells d.toList).toArray 26 (0, 0)) := by
  obtain ⟨cs, h1, h2, h3⟩ := h.out
  rw [h2]
  congr 2
  refine Array.ext (by rw [h1]; simp [kyCells_len]) fun t t1 t2 => ?_
  have hj : t / 2 < d.size := by omega
  obtain ⟨q1, q2⟩ := h3 (t / 2) hj hj
  obtain ⟨k1, k2⟩ := kyCells_at d.toList (t / 2) (by simpa using hj)
  rw [getElem!_pos d _ hj] at q1 q2
  simp only [Array.getElem_toList] at k1 k2
  have e : t % 2 = 0 ∨ t % 2 = 1 := by omega
  have g : cs[t]? = (kyCells d.toList)[t]? := by
    rcases e with e | e
    · rw [show cs[t]? = cs[t / 2 * 2]? by congr 1; omega, show (kyCells d.toList)[t]? = (kyCells d.toList)[t / 2 * 2]? by congr 1; omega, q1, k1]
    · rw [show cs[t]? = cs[t / 2 * 2 + 1]? by congr 1; omega, show (kyCells d.toList)[t]? = (kyCells d.toList)[t / 2 * 2 + 1]? by congr 1; omega, q2, k2]
  rw [Array.getElem?_eq_getElem t1, List.getElem?_eq_getElem (by simpa using t2)] at g
  simpa using Option.some.inj g
end Go.Proofs.YtlfbflclefndjaaGreatDoor.S
/-
  key.Order: walk.
-/
namespace Go.Proofs.YtlfbflclefndjaaGreatDoor.S
open Go.RowKit Go.Sort Fl

set_option maxHeartbeats 4000000 in
set_option maxRecDepth 1000000 in
theorem Order_k (A : Option Addr) (L : List Ky) (cap : Nat) (w : World) (hin : ∀ k ∈ L, KyIn k) (hl : L.length < 1000000000000) (hL : RK w A L) (htab : TabHere w) : Calls Tryz.prog 105 #[.slice A L.length cap] w (OrdTo L w) := by
  obtain ⟨i0, hi, hz0, hz1, hz2⟩ := info_parts row_info
  go_enter Tryz.func105, Tryz.ntmps105
  go_wp2_with (first
    | (refine wpList_make_full _ rfl _ _ 147 rfl 0 150 i0 _ 3 Tryz.underlying147 hi hz0 hz1 .i64 .i64 _ _ L.length rfl rfl rfl rfl (by rw [hz2]; omega) (by unfold maxLen; omega) (Nat.zero_le _) ?_; intro w2 hK gK; have HP := Lib.hid (lp1_start gK (own_blk hK rfl)); have hBw := gK.size; have hBW : w.heap.size < w2.heap.size := by obtain ⟨cs, _, h2⟩ := own_blk hK rfl; exact lt_blk h2))
  clear hK gK hi hz0 hz1 hz2
  go_loopg [15] L.length (fun kx s15 wr => ∃ i : Nat, s15 = .int .i64 i ∧ i + kx = L.length ∧ Hid (Lp1 L w w2.heap.size i wr))
  case atStart => exact ⟨0, rfl, by omega, HP⟩
  case round =>
    clear HP
    obtain ⟨i, rfl, hik, H⟩ := hrel
    cases gk with
    | zero =>
      obtain rfl : i = L.length := by omega
      have hHs := holds_rows H.out
      have hBb := H.out.box
      have cB := vcells hBb 0
      simp only [List.getElem?_toArray, List.getElem?_cons_zero] at cB
      have hBl := lt_blk hBb
      have hRl : w.heap.size < wr.heap.size := Nat.lt_trans hBW hBl
      have hsrt := sort_rows w.heap.size w2.heap.size L.toArray wr hHs (by rw [show L.toArray.size = L.length by simp]; exact cB) (by omega) hRl hBl (by simp; omega)
      rw [show L.toArray.size = L.length by simp] at hsrt
      have HW := Lib.hid H.out.below
      have HHs := Lib.hid hHs
      have HBb := Lib.hid hBb
      clear H hHs hBb hik
      obtain ⟨j0, hj, jz0, jz1, jz2⟩ := info_parts key_info
      go_wp2_with (fail)
      go_at_call 113
      refine hsrt.mono ?_
      rintro e w3 ⟨rfl, d', nd, os, s1, s2, rfl⟩
      have hB3 := (heap_sorted wr nd w.heap.size d' os w2.heap.size hBl (by omega)).trans HBb.out
      have hH3 := holds_sorted (n := nd) (os := os) hRl HHs.out s1.size
      have hb3 := HW.out.trans (below_sorted wr nd w.heap.size d' os hRl)
      have hR3 : w.heap.size < (grow (putRowK encR 3 (Sort.ahead wr nd) w.heap.size 0 d') os).heap.size := Nat.lt_of_lt_of_le hRl (below_sorted wr nd w.heap.size d' os hRl).size
      generalize grow (putRowK encR 3 (Sort.ahead wr nd) w.heap.size 0 d') os = w3 at *
      have cB := vcells hB3 0
      simp only [List.getElem?_toArray, List.getElem?_cons_zero] at cB
      have cB0 := cB
      have HS1 := Lib.hid (And.intro s1 s2)
      have HH3 := Lib.hid hH3
      have HB3 := Lib.hid hb3
      clear s1 s2 hH3 hb3
      go_wp2_with (refine wpList_make_full _ rfl _ _ 42 rfl 0 26 j0 _ 2 Tryz.underlying42 hj jz0 jz1 .i64 .i64 _ _ L.length rfl rfl rfl rfl (by rw [jz2]; omega) (by unfold maxLen; omega) (Nat.zero_le _) ?_; intro w4 hK gK; have HK := Lib.hid (own_blk hK rfl); have HG := Lib.hid (grown_below gK); have cB := (vcell (grown_below gK)).1 w2.heap.size 0 (lt_blk hB3); rw [cB0] at cB; clear hK gK)
      have hdz : d'.size = L.length := by have := HS1.out.1.size; simpa using this
      have hRO : w.heap.size < w3.heap.size := hR3
      have P0 : Hid (Lp2 d' w w.heap.size w3.heap.size 0 w4) := by
        obtain ⟨cs, h1, h2⟩ := HK.out
        exact Lib.hid ⟨vb HB3.out HG.out, holdsK_same HH3.out (HG.out.block _ hRO), cs, by rw [h1, hdz], h2, fun j _ h => absurd h (Nat.not_lt_zero _)⟩
      clear cB cB0 hj jz0 jz1 jz2 hB3
      go_loopg [38] L.length (fun kx s38 wr2 => ∃ i : Nat, s38 = .int .i64 i ∧ i + kx = L.length ∧ Hid (Lp2 d' w w.heap.size w3.heap.size i wr2))
      case atStart => exact ⟨0, rfl, by omega, P0⟩
      case round =>
        clear P0 HH3 HB3 HK HG HHs HBb HW
        obtain ⟨i, rfl, hik, H⟩ := hrel
        cases gk with
        | zero =>
          obtain rfl : i = L.length := by omega
          go_wp2
          go_ret
          have O1 := ord_of HS1.out.1 HS1.out.2
          have E1 := lp2_end (by rw [hdz]; exact H.out)
          exact ⟨d'.toList, w3.heap.size, rfl, O1, Nat.le_of_lt hRO, E1, H.out.below⟩
        | succ kx =>
          have hlt : i < L.length := by omega
          have hlz : (i : Int) < (L.length : Int) := by omega
          have hid : i < d'.size := by omega
          have q0 := (H.out.rows.cell (i := i) (c := 0) hid (by omega)).1
          have q1 := (H.out.rows.cell (i := i) (c := 1) hid (by omega)).1
          have q2 := (H.out.rows.cell (i := i) (c := 2) hid (by omega)).1
          rw [show 0 + i * 3 + 0 = i * 3 by omega, show (encR d'[i]!)[0]! = .int .i64 (rkKy d'[i]! : Nat) from rfl] at q0
          rw [show 0 + i * 3 + 1 = i * 3 + 1 by omega, show (encR d'[i]!)[1]! = .string d'[i]!.str from rfl] at q1
          rw [show 0 + i * 3 + 2 = i * 3 + 2 by omega, show (encR d'[i]!)[2]! = .int .i64 d'[i]!.sym from rfl] at q2
          obtain ⟨cs, hcz, hob, _⟩ := H.out.out
          have hRl := holdsK_lt H.out.rows (by omega)
          have hOl := lt_blk hob
          obtain ⟨x0, hx0⟩ : ∃ x, cs[i * 2]? = some x := ⟨_, Array.getElem?_eq_getElem (by omega)⟩
          obtain ⟨x1, hx1⟩ : ∃ x, cs[i * 2 + 1]? = some x := ⟨_, Array.getElem?_eq_getElem (by omega)⟩
          have o0 := (vcells hob (i * 2)).trans hx0
          have o1 := (vcells hob (i * 2 + 1)).trans hx1
          have oz := vfz hob
          have PP := fun o => Lib.hid (lp2_put H.out hid (Nat.le_of_lt hRO) (Nat.ne_of_lt hRO) o)
          clear hob hx0 hx1 H
          generalize rkKy d'[i]! = r at *
          generalize d'[i]!.str = s at *
          generalize d'[i]!.sym = y at *
          go_wp2
          go_roundg kx
          case measure => omega
          case rel => exact ⟨i + 1, by simp, by omega, PP _⟩
    | succ kx =>
      have hlt : i < L.length := by omega
      have hlz : (i : Int) < (L.length : Int) := by omega
      obtain ⟨a, rfl, ha, hcs⟩ := rk_up hL H.out.below (by omega)
      obtain ⟨c0, c1⟩ := hcs i hlt
      obtain ⟨hk1, hk2, hk3⟩ := hin L[i] (List.getElem_mem hlt)
      have hab : ∀ k, (a.add k).block < wr.heap.size := fun k => by
        have : (a.add k).block = a.block := by unfold Addr.add; split <;> rfl
        rw [this]; exact ha
      have cB := vcells H.out.box 0
      have hBr := lt_blk H.out.box
      clear hcs
      generalize hs : L[i].str = s at *
      generalize hy : L[i].sym = y at *
      go_wp2
      have HT1 := Lib.hid (tab_up htab (vb H.out.below (vzero wr (.cells #[.string s, .int .i64 y] 26))))
      have hbk := heap_alloc_new wr (.cells #[.string s, .int .i64 y] 26)
      have H1 : Hid (Lp1 L w w2.heap.size i (wr.alloc (.cells #[.string s, .int .i64 y] 26))) := Lib.hid (H.out.alloc _)
      have hz1 : wr.heap.size < (wr.alloc (.cells #[.string s, .int .i64 y] 26)).heap.size := by simp
      generalize wr.alloc (.cells #[.string s, .int .i64 y] 26) = W1 at *
      obtain ⟨k0, k1, kf⟩ := kc2 hbk
      have cB := vcells H1.out.box 0
      simp only [List.getElem?_toArray, List.getElem?_cons_zero] at cB
      obtain ⟨cs, hcz, hrb, hrj⟩ := H1.out.rows
      have HRJ := Lib.hid hrj
      have HB1 := Lib.hid H1.out.box
      have HW1 := Lib.hid H1.out.below
      obtain ⟨x0, hx0⟩ : ∃ x, cs[i * 3]? = some x := ⟨_, Array.getElem?_eq_getElem (by omega)⟩
      obtain ⟨x1, hx1⟩ : ∃ x, cs[i * 3 + 1]? = some x := ⟨_, Array.getElem?_eq_getElem (by omega)⟩
      obtain ⟨x2, hx2⟩ : ∃ x, cs[i * 3 + 2]? = some x := ⟨_, Array.getElem?_eq_getElem (by omega)⟩
      have rk := rank_k s y W1.drew hk1 ⟨hk2, hk3⟩ (tab_up (w := W1) HT1.out (Below.refl _ _).drew)
      have HCZ := Lib.hid hcz
      have HRB := Lib.hid hrb
      have HX := Lib.hid (And.intro hx0 (And.intro hx1 hx2))
      have HBK := Lib.hid hbk
      clear hrj hcz hrb hx0 hx1 hx2 H1 H hbk
      generalize hrk : rkK s y = r at *
      go_region_with (go_at_call 111; refine rk.mono ?_; rintro e w3 ⟨rfl, h3⟩; have hr3 := vblkn (w1 := W1.drew) h3 HRB.out; have hb3 := vblkn (w1 := W1.drew) h3 HB1.out; have hk3 := vblkn (w1 := W1.drew) h3 HBK.out; obtain ⟨k0, k1, kf⟩ := kc2 hk3; have cB := vcells hb3 0; have r0 := (vcells hr3 (i * 3)).trans HX.out.1; have r1 := (vcells hr3 (i * 3 + 1)).trans HX.out.2.1; have r2 := (vcells hr3 (i * 3 + 2)).trans HX.out.2.2; have rz := vfz hr3; have HR3 := Lib.hid hr3; have HB3 := Lib.hid hb3; have H3 := Lib.hid h3; clear hr3 hb3 hk3 h3)
      all_goals
        have P := Lib.hid (lp1_put hlt HW1.out hBW HCZ.out HRJ.out HR3.out HB3.out H3.out hs hy hrk)
        clear r0 r1 r2 rz cB k0 k1 kf
        generalize ((w3.setCell ⟨w.heap.size, i * 3, none⟩ (.int .i64 (r : Nat))).setCell ⟨w.heap.size, i * 3 + 1, none⟩ (.string s)).setCell ⟨w.heap.size, i * 3 + 2, none⟩ (.int .i64 y) = w4 at *
        go_wp2
        go_roundg kx
        case measure => omega
        case rel => exact ⟨i + 1, by simp, by omega, P⟩
end Go.Proofs.YtlfbflclefndjaaGreatDoor.S
/-
  DERIVED: THE SHELF's CONTRACTS AT THIS DUMP, IN PLAIN WORDS (tools/lay-plain.mjs out of 'YtlfbflclefndjaaGreatDoorStrShelfTry.lean', which tools/lay-shelf.mjs wrote): THE SAME DECLARATIONS UNDER THE SAME NAMES: 'import', 'namespace', 'open', 'def', 'theorem' AND NOTHING ELSE: no command of the shelf's: FOR A HAND-IN. Each laying: the table of numbers ('.._ren') and one theorem, a field a fact of the dump's own or the kernel's comparison; each contract: ONE APPLICATION.
-/
namespace Go.Proofs
open Go.Shelf
end Go.Proofs
/-
  The library's contracts of (*strings.Builder).WriteByte and WriteString laid at this seat by hand: the shelf's command lays them not where no body names the type of the panic's value.
-/
namespace Go.Proofs
open Go.Shelf
end Go.Proofs
/-
  The builder in the words of lists of bytes; a string laid anew: walks.
-/
namespace Go.Proofs.YtlfbflclefndjaaGreatDoor.S
open Go.RowKit

theorem ret_bool {a b : Bool} (h : a = b) : Ending.returned (.bool a) = .returned (.bool b) := by rw [h]
theorem size_len (t : ByteArray) : t.size = t.data.toList.length := by simp
theorem toList_data (s : ByteArray) : s.toList = s.data.toList := Go.ByteArray.toList_eq s
/-- the answer is a string -/
def StrTo (t : ByteArray) (w : World) (e : Ending) (w' : World) : Prop := e = .returned (.string t) ∧ Below w.heap.size w w'
/-- the answer is a string and a number -/
def StrIntTo (t : ByteArray) (k : Int) (w : World) (e : Ending) (w' : World) : Prop := e = .returned (.tuple #[.string t, .int .i64 k]) ∧ Below w.heap.size w w'

end Go.Proofs.YtlfbflclefndjaaGreatDoor.S
/-
  StrMade: Join and Repeat, the program's and the document's own: walks.
-/
namespace Go.Proofs.YtlfbflclefndjaaGreatDoor.S
open Go.RowKit

def joinE (a b : ByteArray) : Int := if a.size + b.size > 4096 then 20 else 0
def joinT (a b : ByteArray) : ByteArray := if a.size + b.size > 4096 then ⟨#[]⟩ else ⟨(a.data.toList ++ b.data.toList).toArray⟩

/-- a list of bytes so many times -/
def reps (l : List UInt8) : Nat → List UInt8
  | 0 => []
  | k + 1 => reps l k ++ l
def repE (s : ByteArray) (n : Int) : Int := if n < 0 then 2 else if s.size = 0 then 0 else if n.toNat * s.size > 4096 then 20 else 0
def repT (s : ByteArray) (n : Int) : ByteArray := if n < 0 then ⟨#[]⟩ else if s.size = 0 then ⟨#[]⟩ else if n.toNat * s.size > 4096 then ⟨#[]⟩ else ⟨(reps s.data.toList n.toNat).toArray⟩

end Go.Proofs.YtlfbflclefndjaaGreatDoor.S
/-
  Quote, the program's and the document's own: walks.
-/
namespace Go.Proofs.YtlfbflclefndjaaGreatDoor.S
open Go.RowKit

/-- a sixteen's byte -/
def hexN (n : Nat) : Nat := if n < 10 then 48 + n else 87 + n
/-- what stands for a byte between quotes -/
def qb (c : UInt8) : List UInt8 :=
  if c.toNat = 34 ∨ c.toNat = 92 then [92, c] else if c.toNat = 10 then [92, 110] else if c.toNat = 9 then [92, 116] else if c.toNat = 13 then [92, 114]
  else if c.toNat < 32 ∨ 126 < c.toNat then [92, 120, (hexN (c.toNat / 16)).toUInt8, (hexN (c.toNat % 16)).toUInt8] else [c]
def quoteI (l : List UInt8) : List UInt8 := l.flatMap qb
def quoteL (l : List UInt8) : List UInt8 := 34 :: (quoteI l ++ [34])
def signT (n : Nat) : ByteArray := (⟨#[48, 49, 50, 51, 52, 53, 54, 55, 56, 57, 97, 98, 99, 100, 101, 102]⟩ : ByteArray).extract n (n + 1)
end Go.Proofs.YtlfbflclefndjaaGreatDoor.S
/-
  Keys: the order is one; key.Sym, key.Text; the law's alive.
-/
namespace Go.Proofs.YtlfbflclefndjaaGreatDoor.S
open Go.RowKit Fl

theorem ord_mem {L M : List Ky} (h : OrdOf L M) (k : Ky) : k ∈ M ↔ k ∈ L := by
  have := h.fil (rkKy k)
  have e1 : k ∈ M ↔ k ∈ M.filter (fun x => rkKy x == rkKy k) := by simp
  have e2 : k ∈ L ↔ k ∈ L.filter (fun x => rkKy x == rkKy k) := by simp
  rw [e1, e2, this]
def kA : Ky := ⟨⟨#[97]⟩, 0⟩
def k3 : Ky := ⟨⟨#[51]⟩, 0⟩
/-- a key's text -/
def symText (n : Int) : ByteArray := (⟨#[115, 121, 109, 98, 111, 108, 32]⟩ : ByteArray) ++ ⟨(Lib.itoa n).toArray⟩
/-- keys in a block of their own -/
theorem rk_blk {w : World} {O : Nat} {M : List Ky} (h : w.heap[O]? = some (.cells (kyCells M).toArray 26 (0, 0))) : RK w (some ⟨O, 0, none⟩) M := fun hp => by
  have hadd : ∀ k, (⟨O, 0, none⟩ : Addr).add k = ⟨O, k, none⟩ := fun k => by unfold Addr.add; split <;> simp_all
  refine ⟨⟨O, 0, none⟩, rfl, lt_blk h, fun i hi => ?_⟩
  obtain ⟨k1, k2⟩ := kyCells_at M i hi
  rw [hadd]
  exact ⟨(vcells h (i * 2)).trans (by simpa using k1), (vcells h (i * 2 + 1)).trans (by simpa using k2)⟩
theorem of_keep (s : ByteArray) (g : Nat) (w0 w : World) (hg : g < w.heap.size) (hb : Below w0.heap.size w0 w) :
    Calls Tryz.prog 81 #[.string s] w fun e w' => e = .returned (.agg #[.string s, .int .i64 0]) ∧ g < w'.heap.size ∧ Below w0.heap.size w0 w' ∧ ∀ o, w'.cell? ⟨g, o, none⟩ = w.cell? ⟨g, o, none⟩ :=
  (keyOf_k s w).mono fun _ _ ⟨he, h⟩ => ⟨he, Nat.lt_of_lt_of_le hg h.size, vb hb h, fun o => h.cell (p := ⟨g, o, none⟩) hg⟩
end Go.Proofs.YtlfbflclefndjaaGreatDoor.S
/-
  Plain, the program's and the document's own: what an escape stands for: walks.
-/
namespace Go.Proofs.YtlfbflclefndjaaGreatDoor.S
open Go.RowKit

/-- what a digit of sixteens is worth -/
def worthN (n : Nat) : Int := if 48 ≤ n ∧ n ≤ 57 then (n : Int) - 48 else if 97 ≤ n ∧ n ≤ 102 then (n : Int) - 87 else -1
/-- what two digits of sixteens stand for -/
def hexOf (a b : Int) : UInt8 := (16 * a + b).toNat.toUInt8
def sixR (s : ByteArray) : UInt8 × Nat :=
  if h : s.size < 4 then (0, 0) else if worthN s[2].toNat < 0 ∨ worthN s[3].toNat < 0 then (0, 0) else (hexOf (worthN s[2].toNat) (worthN s[3].toNat), 4)
/-- the answer is a byte and how many bytes it is written with -/
def ByteTo (r : UInt8 × Nat) (w : World) (e : Ending) (w' : World) : Prop := e = .returned (.tuple #[.int .u8 (r.1.toNat : Int), .int .i64 (r.2 : Int)]) ∧ ∃ n, w' = w.drewN n

/-- what stands at a string's beginning: a byte, and how many bytes it is written with -/
def escS (s : ByteArray) : UInt8 × Nat :=
  if h0 : s.size < 1 then (0, 0)
  else if s[0].toNat ≠ 92 then (s[0], 1)
  else if h1 : s.size < 2 then (0, 0)
  else if s[1].toNat = 92 ∨ s[1].toNat = 34 ∨ s[1].toNat = 39 then (s[1], 2)
  else if s[1].toNat = 110 then (10, 2)
  else if s[1].toNat = 116 then (9, 2)
  else if s[1].toNat = 114 then (13, 2)
  else if s[1].toNat = 120 then sixR s
  else (0, 0)

/-- a literal's inside, gone through from a place on: the place of the backslash that begins no escape, or the bytes -/
def plainR (s : ByteArray) : Nat → Nat → List UInt8 → Nat ⊕ List UInt8
  | 0, _, acc => .inr acc
  | f + 1, i, acc => if i < s.size then (if (escS (s.extract i s.size)).2 = 0 then .inl i else plainR s f (i + (escS (s.extract i s.size)).2) (acc ++ [(escS (s.extract i s.size)).1])) else .inr acc
def outOf (r : Nat ⊕ List UInt8) : ByteArray × Int × Int :=
  match r with
  | .inl i => (⟨#[]⟩, (i : Int), 5)
  | .inr acc => if acc.length > 4096 then (⟨#[]⟩, 0, 20) else (⟨acc.toArray⟩, 0, 0)
def plainO (s : ByteArray) : ByteArray × Int × Int := if s.size > 65536 then (⟨#[]⟩, 0, 3) else outOf (plainR s s.size 0 [])
/-- the answer is a string, a place and a number -/
def Str3To (r : ByteArray × Int × Int) (w : World) (e : Ending) (w' : World) : Prop := e = .returned (.tuple #[.string r.1, .int .i64 r.2.1, .int .i64 r.2.2]) ∧ Below w.heap.size w w'

end Go.Proofs.YtlfbflclefndjaaGreatDoor.S
/-
  Quoted and read it is itself: the facts of it without a walk.
-/
namespace Go.Proofs.YtlfbflclefndjaaGreatDoor.S
open Go.RowKit
end Go.Proofs.YtlfbflclefndjaaGreatDoor.S
