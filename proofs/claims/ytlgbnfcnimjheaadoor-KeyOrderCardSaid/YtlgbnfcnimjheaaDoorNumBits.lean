/-
  Int and Bits of package num beside the document's own, for every byte and every two floats: walks.
-/
import Derived.Test.YtlgbnfcnimjheaaDoorNumSums
import Derived.Laws.Bits64b
namespace Go.Proofs.YtlgbnfcnimjheaaDoor
open Go.RowKit Fl

/-- the 32 bits of what a float is -/
def intC (c : Cl) : Int := wrap32 (wholeI c)

theorem intC_zero : (0 : Int) = wrap32 0 := by unfold wrap32; decide

/-- what the operation of a byte makes of 32 bits and 32 bits -/
def bitsI (op a b : Int) : Int :=
  if op = 38 then bits .and .i32 a b else if op = 124 then bits .or .i32 a b else if op = 94 then bits .xor .i32 a b
  else if op = 60 then wrap32 (a * 2 ^ (b % 32).toNat) else if op = 62 then a / 2 ^ (b % 32).toNat else a % 4294967296 / 2 ^ (b % 32).toNat
def codeB (op : Int) : Bool := op == 38 || op == 124 || op == 94 || op == 60 || op == 62 || op == 117
def bitsR (op : Int) (c d : Cl) : Res := if mayC c && mayC d then (if codeB op then .ok (bitsI op (intC c) (intC d)) else .err 2) else .err 2

theorem intC_in (c : Cl) : -2147483648 ≤ intC c ∧ intC c ≤ 2147483647 := by unfold intC wrap32; omega

theorem div_pow_in (a : Int) (n : Nat) (l u : Int) (hl : l ≤ 0) (hu : 0 ≤ u) (h1 : l ≤ a) (h2 : a ≤ u) : l ≤ a / 2 ^ n ∧ a / 2 ^ n ≤ u := by
  have hp : (0 : Int) < 2 ^ n := Int.pow_pos (by decide)
  constructor
  · rw [Int.le_ediv_iff_mul_le hp]
    have : l * 2 ^ n ≤ l * 1 := Int.mul_le_mul_of_nonpos_left hl (by omega)
    omega
  · have h3 : a / 2 ^ n < u + 1 := by
      rw [Int.ediv_lt_iff_lt_mul hp]
      have : (u + 1) * 1 ≤ (u + 1) * 2 ^ n := Int.mul_le_mul_of_nonneg_left (by omega) (by omega)
      omega
    omega

theorem wrap_i32_in (n : Int) : -2147483648 ≤ IntKind.i32.wrap n ∧ IntKind.i32.wrap n ≤ 2147483647 := by rw [IntKind.wrap_i32]; omega

theorem bitsI_safe (op a b : Int) (ha : -2147483648 ≤ a ∧ a ≤ 2147483647) : SafeN (bitsI op a b) := by
  have k : ∀ n : Int, -2147483648 ≤ n ∧ n ≤ 2147483647 → SafeN n := fun n h => by unfold SafeN; omega
  unfold bitsI
  split
  · exact k _ (wrap_i32_in _)
  · split
    · exact k _ (wrap_i32_in _)
    · split
      · exact k _ (wrap_i32_in _)
      · split
        · exact k _ (by unfold wrap32; omega)
        · split
          · exact k _ (div_pow_in a _ _ _ (by decide) (by decide) ha.1 ha.2)
          · have := div_pow_in (a % 4294967296) (b % 32).toNat 0 4294967295 (by decide) (by decide) (by omega) (by omega)
            unfold SafeN; omega

theorem places_and (b : Int) : bits .and .u32 (b % 4294967296) 31 = b % 32 := by
  have hi : ∀ n : Int, 0 ≤ n → n < 2 ^ 32 → IntKind.u32.wrap n = n := by
    intro n a c; rw [IntKind.wrap_u32]; omega
  have := bits_mask .u32 32 (by decide) hi 5 (by decide) (b % 4294967296) (by omega) (by omega)
  refine this.trans ?_
  omega

theorem shl_same (a : Int) (P : Int) : wrap32 (a % 4294967296 * P % 4294967296) = wrap32 (a * P) := by
  have e : a % 4294967296 * P % 4294967296 = a * P % 4294967296 := by
    rw [Int.mul_emod, Int.emod_emod, ← Int.mul_emod]
  rw [e]; unfold wrap32; omega

theorem encR_ok {n m : Int} (e : m = n) (h : SafeN n) : EncR (.ok n) (F m) 0 := by rw [e]; exact ⟨⟨rfl, h⟩, rfl⟩

end Go.Proofs.YtlgbnfcnimjheaaDoor
