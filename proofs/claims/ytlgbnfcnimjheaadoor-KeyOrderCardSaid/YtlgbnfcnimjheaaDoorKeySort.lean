/-
  Keys: the rows of key.Order, sorted.
-/
import Derived.Test.YtlgbnfcnimjheaaDoorKeyIndex2
import Derived.Test.YtlgbnfcnimjheaaDoorStabSlice
import Derived.Test.YtlgbnfcnimjheaaDoorKeyShelf
namespace Go.Proofs.YtlgbnfcnimjheaaDoor.S
open Go.Shelf Go.RowKit Go.Lib Go.Sort Fl

/-- a key -/
structure Ky where
  str : ByteArray
  sym : Int
instance : Inhabited Ky := ⟨⟨⟨#[]⟩, 0⟩⟩
def rkKy (k : Ky) : Nat := rkK k.str k.sym
/-- a row's cells: the rank and the key -/
def encR (k : Ky) : List Value := [.int .i64 (rkKy k : Nat), .string k.str, .int .i64 k.sym]
noncomputable def rowsT : TypeInfo := (Tryd.prog.info? 44).get (by kernel_rfl)
noncomputable def rowT : TypeInfo := (Tryd.prog.info? 47).get (by kernel_rfl)
theorem rowsK (n : Nat) (h2 : 2 ≤ n) : Lib.swapperK n rowT 25 = 9 := by
  have a : rowT.hasPointers = true := by kernel_rfl
  have b : rowT.bytes = 32 := by kernel_rfl
  have c : (n == 0) = false := by simp; omega
  have d : (n == 1) = false := by simp; omega
  simp [Lib.swapperK, a, b, c, d]

set_option maxHeartbeats 2000000 in
/-- the closure: a row's rank below another's -/
theorem less_k (R B size : Nat) (W : World) (G : Nat → Nat) (hs : W.cell? ⟨B, 0, none⟩ = some (.slice (some ⟨R, 0, none⟩) size size))
    (hc : ∀ t, t < size → W.cell? ⟨R, 0 + t * 3, none⟩ = some (.int .i64 (G t : Nat))) (i j : Nat) (hi : i < size) (hj : j < size) (_hsz : size < 1000000000000000000) :
    Calls Tryd.prog 17 #[.int .i64 i, .int .i64 j, .pointer (some ⟨B, 0, none⟩)] W fun e w' => e = .returned (.bool (decide (G i < G j))) ∧ ∃ q, w' = W.drewN q := by
  have ci := hc i hi
  have cj := hc j hj
  rw [Nat.zero_add] at ci cj
  go_enter Tryd.func17, Tryd.ntmps17
  go_wp2
  go_quiet (fail)
  go_wp2
  go_ret
  exact ⟨by simp, nq, rfl⟩

theorem sort_rows (R B : Nat) (d : Array Ky) (w : World) (hH : HoldsK encR 3 w R 0 d) (hB : w.cell? ⟨B, 0, none⟩ = some (.slice (some ⟨R, 0, none⟩) d.size d.size)) (hne : B ≠ R) (hR : R < w.heap.size) (hBz : B < w.heap.size) (hsz : d.size < 1000000000000000000) :
    Calls Tryd.prog 18 #[.iface 44 (.slice (some ⟨R, 0, none⟩) d.size d.size), .func (.func 17) #[] #[.pointer (some ⟨B, 0, none⟩)]] w (Sorted rkKy encR 3 R 0 d w) := by
  have hless : LessReadsK Tryd.prog 17 #[.pointer (some ⟨B, 0, none⟩)] encR 3 (ltR rkKy) R 0 d.size w := by
    intro m os dk hs i j hi hj
    have e : sortWorldK encR 3 w R 0 m dk os = putRowK encR 3 (grow (Sort.ahead w m) os) R 0 dk := by
      unfold sortWorldK; rw [putRowK_grow _ _ (Sort.ahead w m) _ R 0 _ hR]
    have hHg : HoldsK encR 3 (grow (Sort.ahead w m) os) R 0 d := holdsK_grow _ _ _ _ R 0 d hR (holdsK_ahead _ _ _ _ _ _ _ hH)
    refine less_k R B d.size _ (fun t => rkKy dk[t]!) ?_ (fun t ht => ?_) i j hi hj hsz
    · rw [e, cell?_putRowK_other _ _ _ R 0 dk _ hne, cell?_grow _ _ _ (by show B < w.heap.size; exact hBz)]
      exact hB
    · rw [e]; exact ((holdsK_putRowK _ _ _ R 0 d dk hHg hs).cell (i := t) (c := 0) (by omega) (by omega)).1
  by_cases h2 : 2 ≤ d.size
  · exact Any.sort_SliceStable_cells Tryd.sl8 44 47 rowsT rowT (by kernel_rfl) (by kernel_rfl) (by kernel_rfl) (by kernel_rfl) 25 (fun _ => by kernel_rfl) encR 3 (fun _ => rfl) (by kernel_rfl) (fun _ => by kernel_rfl)
      (fun x v hv => by simp [encR] at hv; rcases hv with rfl | rfl | rfl <;> rfl) rkKy 17 _
      (enters_of Tryd.func17 (by kernel_rfl) rfl) R 0 d.size d h2 hsz 67 (by rw [rowsK _ h2]; kernel_rfl) false
      (fun args W => run_callFunc_extern Tryd.func67 (by kernel_rfl) (by kernel_rfl) (by kernel_rfl) (e := Extern.ReflectliteSwapper.swap false) (by kernel_rfl) args W) w hless hH hR
  · have few : ∀ n, n ≤ 1 → d.size = n → ∀ f, Tryd.prog.funcs.findIdx? (·.name == "internal/reflectlite" ++ ".Swapper$" ++ toString (swapperK n rowT 25)) = some f → Calls Tryd.prog 18 #[.iface 44 (.slice (some ⟨R, 0, none⟩) d.size d.size), .func (.func 17) #[] #[.pointer (some ⟨B, 0, none⟩)]] w (Sorted rkKy encR 3 R 0 d w) := fun n hn hd f hf =>
      Any.sort_SliceStable_few Tryd.sl8 44 47 rowsT rowT (by kernel_rfl) (by kernel_rfl) (by kernel_rfl) (by kernel_rfl) 25 (fun _ => by kernel_rfl) encR 3 rkKy 17 _ _ R 0 d.size d (by omega) f (by rw [hd]; exact hf) w hH
    by_cases h0 : d.size = 0
    · exact few 0 (by omega) h0 59 (by kernel_rfl)
    · exact few 1 (by omega) (by omega) 60 (by kernel_rfl)
end Go.Proofs.YtlgbnfcnimjheaaDoor.S
