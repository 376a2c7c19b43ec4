/-
  DERIVED: THE SHELF's CONTRACTS AT THIS DUMP, IN PLAIN WORDS (tools/lay-plain.mjs out of 'YtmdmfjlmmojbgaaGreatDoorKeyShelfTry.lean', which tools/lay-shelf.mjs wrote): THE SAME DECLARATIONS UNDER THE SAME NAMES: 'import', 'namespace', 'open', 'def', 'theorem' AND NOTHING ELSE: no command of the shelf's: FOR A HAND-IN. Each laying: the table of numbers ('.._ren') and one theorem, a field a fact of the dump's own or the kernel's comparison; each contract: ONE APPLICATION.
-/
import Derived.Shelf.GgSortMore.Lays
import Derived.Test.YtmdmfjlmmojbgaaGreatDoorProg
import Derived.Test.YtmdmfjlmmojbgaaGreatDoorTF08
import Derived.Test.YtmdmfjlmmojbgaaGreatDoorTF14
namespace Go.Proofs
open Go.Shelf
def Tryz.sl8_ren : Go.Shelf.Ren := ⟨fun | 8 => 41 | 13 => 47 | 14 => 48 | 16 => 50 | 15 => 49 | 29 => 65 | 30 => 66 | 42 => 77 | 49 => 92 | n => n, fun | 20 => 20 | 26 => 79 | 36 => 90 | 0 => 0 | 38 => 92 | 42 => 96 | 3 => 3 | 4 => 4 | 47 => 113 | 17 => 17 | 33 => 87 | 34 => 88 | 89 => 170 | 12 => 12 | 56 => 150 | 82 => 163 | 5 => 5 | 83 => 164 | 84 => 165 | 85 => 166 | 86 => 167 | 87 => 168 | n => n, fun | n => n⟩
theorem Tryz.sl8 : Go.Proofs.LaysGt.n8 Tryz.prog Tryz.sl8_ren := {
  mixed := by kernel_rfl
  f8 := Tryz.func41.trans (congrArg some (by kernel_rfl))
  f13 := Tryz.func47.trans (congrArg some (by kernel_rfl))
  f14 := Tryz.func48.trans (congrArg some (by kernel_rfl))
  f15 := Tryz.func49.trans (congrArg some (by kernel_rfl))
  f16 := Tryz.func50.trans (congrArg some (by kernel_rfl))
  f29 := Tryz.func65.trans (congrArg some (by kernel_rfl))
  f30 := Tryz.func66.trans (congrArg some (by kernel_rfl))
  f42 := Tryz.func77.trans (congrArg some (by kernel_rfl))
  f49 := Tryz.func92.trans (congrArg some (by kernel_rfl))
  t0 := Tryz.underlying0
  a0 := Tryz.isAgg0
  z0 := Tryz.sizeOf0
  v0 := Tryz.zeroValue0
  i0 := by kernel_rfl
  t3 := Tryz.underlying3
  a3 := Tryz.isAgg3
  z3 := Tryz.sizeOf3
  v3 := Tryz.zeroValue3
  i3 := by kernel_rfl
  t4 := Tryz.underlying4
  a4 := Tryz.isAgg4
  z4 := Tryz.sizeOf4
  v4 := Tryz.zeroValue4
  i4 := by kernel_rfl
  t5 := Tryz.underlying5
  a5 := Tryz.isAgg5
  z5 := Tryz.sizeOf5
  v5 := Tryz.zeroValue5
  i5 := by kernel_rfl
  t12 := Tryz.underlying12
  a12 := Tryz.isAgg12
  z12 := Tryz.sizeOf12
  v12 := Tryz.zeroValue12
  i12 := by kernel_rfl
  t17 := Tryz.underlying17
  a17 := Tryz.isAgg17
  z17 := Tryz.sizeOf17
  v17 := Tryz.zeroValue17
  i17 := by kernel_rfl
  t20 := Tryz.underlying20
  a20 := Tryz.isAgg20
  z20 := Tryz.sizeOf20
  v20 := Tryz.zeroValue20
  i20 := by kernel_rfl
  t26 := Tryz.underlying79
  a26 := Tryz.isAgg79
  z26 := Tryz.sizeOf79
  v26 := Tryz.zeroValue79
  i26 := by kernel_rfl
  t33 := Tryz.underlying87
  a33 := Tryz.isAgg87
  z33 := Tryz.sizeOf87
  v33 := Tryz.zeroValue87
  i33 := by kernel_rfl
  t34 := Tryz.underlying88
  a34 := Tryz.isAgg88
  z34 := Tryz.sizeOf88
  v34 := Tryz.zeroValue88
  i34 := by kernel_rfl
  t36 := Tryz.underlying90
  a36 := Tryz.isAgg90
  z36 := Tryz.sizeOf90
  v36 := Tryz.zeroValue90
  i36 := by kernel_rfl
  t38 := Tryz.underlying92
  a38 := Tryz.isAgg92
  z38 := Tryz.sizeOf92
  v38 := Tryz.zeroValue92
  i38 := by kernel_rfl
  t42 := Tryz.underlying96
  a42 := Tryz.isAgg96
  z42 := Tryz.sizeOf96
  v42 := Tryz.zeroValue96
  i42 := by kernel_rfl
  t47 := Tryz.underlying113
  a47 := Tryz.isAgg113
  z47 := Tryz.sizeOf113
  v47 := Tryz.zeroValue113
  i47 := by kernel_rfl
  t56 := Tryz.underlying150
  a56 := Tryz.isAgg150
  z56 := Tryz.sizeOf150
  v56 := Tryz.zeroValue150
  i56 := by kernel_rfl
  t82 := Tryz.underlying163
  a82 := Tryz.isAgg163
  z82 := Tryz.sizeOf163
  v82 := Tryz.zeroValue163
  i82 := by kernel_rfl
  t83 := Tryz.underlying164
  a83 := Tryz.isAgg164
  z83 := Tryz.sizeOf164
  v83 := Tryz.zeroValue164
  i83 := by kernel_rfl
  t84 := Tryz.underlying165
  a84 := Tryz.isAgg165
  z84 := Tryz.sizeOf165
  v84 := Tryz.zeroValue165
  i84 := by kernel_rfl
  t85 := Tryz.underlying166
  a85 := Tryz.isAgg166
  z85 := Tryz.sizeOf166
  v85 := Tryz.zeroValue166
  i85 := by kernel_rfl
  t86 := Tryz.underlying167
  a86 := Tryz.isAgg167
  z86 := Tryz.sizeOf167
  v86 := Tryz.zeroValue167
  i86 := by kernel_rfl
  t87 := Tryz.underlying168
  a87 := Tryz.isAgg168
  z87 := Tryz.sizeOf168
  v87 := Tryz.zeroValue168
  i87 := by kernel_rfl
  t89 := Tryz.underlying170
  a89 := Tryz.isAgg170
  z89 := Tryz.sizeOf170
  v89 := Tryz.zeroValue170
  i89 := by kernel_rfl }
end Go.Proofs
/-
  Keys: the rows of key.Order, sorted.
-/
namespace Go.Proofs.YtmdmfjlmmojbgaaGreatDoor.S
open Go.Shelf Go.RowKit Go.Lib Go.Sort Fl

/-- a key -/
structure Ky where
  str : ByteArray
  sym : Int
instance : Inhabited Ky := ⟨⟨⟨#[]⟩, 0⟩⟩
def rkKy (k : Ky) : Nat := rkK k.str k.sym
/-- a row's cells: the rank and the key -/
def encR (k : Ky) : List Value := [.int .i64 (rkKy k : Nat), .string k.str, .int .i64 k.sym]
noncomputable def rowsT : TypeInfo := (Tryz.prog.info? 75).get (by kernel_rfl)
noncomputable def rowT : TypeInfo := (Tryz.prog.info? 78).get (by kernel_rfl)
theorem rowsK (n : Nat) (h2 : 2 ≤ n) : Lib.swapperK n rowT 25 = 9 := by
  have a : rowT.hasPointers = true := by kernel_rfl
  have b : rowT.bytes = 32 := by kernel_rfl
  have c : (n == 0) = false := by simp; omega
  have d : (n == 1) = false := by simp; omega
  simp [Lib.swapperK, a, b, c, d]

set_option maxHeartbeats 2000000 in
/-- the closure: a row's rank below another's -/
theorem less_k (R B size : Nat) (W : World) (G : Nat → Nat) (hs : W.cell? ⟨B, 0, none⟩ = some (.slice (some ⟨R, 0, none⟩) size size))
    (hc : ∀ t, t < size → W.cell? ⟨R, 0 + t * 3, none⟩ = some (.int .i64 (G t : Nat))) (i j : Nat) (hi : i < size) (hj : j < size) (_hsz : size < 1000000000000000000) :
    Calls Tryz.prog 40 #[.int .i64 i, .int .i64 j, .pointer (some ⟨B, 0, none⟩)] W fun e w' => e = .returned (.bool (decide (G i < G j))) ∧ ∃ q, w' = W.drewN q := by
  have ci := hc i hi
  have cj := hc j hj
  rw [Nat.zero_add] at ci cj
  go_enter Tryz.func40, Tryz.ntmps40
  go_wp2
  go_quiet (fail)
  go_wp2
  go_ret
  exact ⟨by simp, nq, rfl⟩

theorem sort_rows (R B : Nat) (d : Array Ky) (w : World) (hH : HoldsK encR 3 w R 0 d) (hB : w.cell? ⟨B, 0, none⟩ = some (.slice (some ⟨R, 0, none⟩) d.size d.size)) (hne : B ≠ R) (hR : R < w.heap.size) (hBz : B < w.heap.size) (hsz : d.size < 1000000000000000000) :
    Calls Tryz.prog 41 #[.iface 75 (.slice (some ⟨R, 0, none⟩) d.size d.size), .func (.func 40) #[] #[.pointer (some ⟨B, 0, none⟩)]] w (Sorted rkKy encR 3 R 0 d w) := by
  have hless : LessReadsK Tryz.prog 40 #[.pointer (some ⟨B, 0, none⟩)] encR 3 (ltR rkKy) R 0 d.size w := by
    intro m os dk hs i j hi hj
    have e : sortWorldK encR 3 w R 0 m dk os = putRowK encR 3 (grow (Sort.ahead w m) os) R 0 dk := by
      unfold sortWorldK; rw [putRowK_grow _ _ (Sort.ahead w m) _ R 0 _ hR]
    have hHg : HoldsK encR 3 (grow (Sort.ahead w m) os) R 0 d := holdsK_grow _ _ _ _ R 0 d hR (holdsK_ahead _ _ _ _ _ _ _ hH)
    refine less_k R B d.size _ (fun t => rkKy dk[t]!) ?_ (fun t ht => ?_) i j hi hj hsz
    · rw [e, cell?_putRowK_other _ _ _ R 0 dk _ hne, cell?_grow _ _ _ (by show B < w.heap.size; exact hBz)]
      exact hB
    · rw [e]; exact ((holdsK_putRowK _ _ _ R 0 d dk hHg hs).cell (i := t) (c := 0) (by omega) (by omega)).1
  by_cases h2 : 2 ≤ d.size
  · exact Any.sort_SliceStable_cells Tryz.sl8 75 78 rowsT rowT (by kernel_rfl) (by kernel_rfl) (by kernel_rfl) (by kernel_rfl) 25 (fun _ => by kernel_rfl) encR 3 (fun _ => rfl) (by kernel_rfl) (fun _ => by kernel_rfl)
      (fun x v hv => by simp [encR] at hv; rcases hv with rfl | rfl | rfl <;> rfl) rkKy 40 _
      (enters_of Tryz.func40 (by kernel_rfl) rfl) R 0 d.size d h2 hsz 64 (by rw [rowsK _ h2]; kernel_rfl) false
      (fun args W => run_callFunc_extern Tryz.func64 (by kernel_rfl) (by kernel_rfl) (by kernel_rfl) (e := Extern.ReflectliteSwapper.swap false) (by kernel_rfl) args W) w hless hH hR
  · have few : ∀ n, n ≤ 1 → d.size = n → ∀ f, Tryz.prog.funcs.findIdx? (·.name == "internal/reflectlite" ++ ".Swapper$" ++ toString (swapperK n rowT 25)) = some f → Calls Tryz.prog 41 #[.iface 75 (.slice (some ⟨R, 0, none⟩) d.size d.size), .func (.func 40) #[] #[.pointer (some ⟨B, 0, none⟩)]] w (Sorted rkKy encR 3 R 0 d w) := fun n hn hd f hf =>
      Any.sort_SliceStable_few Tryz.sl8 75 78 rowsT rowT (by kernel_rfl) (by kernel_rfl) (by kernel_rfl) (by kernel_rfl) 25 (fun _ => by kernel_rfl) encR 3 rkKy 40 _ _ R 0 d.size d (by omega) f (by rw [hd]; exact hf) w hH
    by_cases h0 : d.size = 0
    · exact few 0 (by omega) h0 56 (by kernel_rfl)
    · exact few 1 (by omega) (by omega) 57 (by kernel_rfl)
end Go.Proofs.YtmdmfjlmmojbgaaGreatDoor.S
