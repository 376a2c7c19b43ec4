/-
  The document's own Read, and NumTexts: walks.
-/
import Derived.Test.YtlgbnfcnimjheaaDoorDN03
import Derived.Laws.Bits64b
import Derived.Shelf.Strings.Builder1
import Derived.Shelf.Strings.Builder2
import Derived.Shelf.Strings.Search3
import Derived.Shelf.Strings.Shaped
import Derived.Shelf.LaysM
import Derived.Test.YtlgbnfcnimjheaaDoorProg
import Derived.Test.YtlgbnfcnimjheaaDoorChecked
import Derived.WalkKit
import Derived.WalkSpells
import Derived.WalkLawsBesides
import Derived.BigCall
import Derived.Lib.Hide
import Derived.Test.YtlgbnfcnimjheaaDoorDN02
import Derived.Deep.Draws
namespace Go.Proofs.YtlgbnfcnimjheaaDoor
open Go.RowKit Fl

def blankB (c : UInt8) : Bool := blanksL.contains c
theorem blankB_eq (c : UInt8) : blankB c = (c.toNat == 9 || c.toNat == 10 || c.toNat == 13 || c.toNat == 32) := by
  unfold blankB blanksL
  have e : ∀ d : UInt8, (c == d) = (c.toNat == d.toNat) := by
    intro d
    rw [Bool.eq_iff_iff, beq_iff_eq, beq_iff_eq]
    exact ⟨fun h => by rw [h], fun h => UInt8.toNat_inj.1 h⟩
  simp only [List.contains_cons, List.contains_nil, Bool.or_false, e]
  simp only [Bool.or_assoc]
  rfl

theorem getElem_list (s : ByteArray) (k : Nat) (h : k < s.size) : s.data.toList[k]? = some s[k] := by
  rw [List.getElem?_eq_getElem (by rw [← size_len]; exact h)]
  simp [ByteArray.getElem_eq_getElem_data]

def BlankTo (l : List UInt8) (k : Nat) : Prop := ∀ (j : Nat) b, j < k → l[j]? = some b → blanksL.contains b = true
def BlankFrom (l : List UInt8) (k : Nat) : Prop := ∀ (j : Nat) b, k ≤ j → l[j]? = some b → blanksL.contains b = true
def StopAt (l : List UInt8) (k : Nat) : Prop := ∀ b, l[k]? = some b → blanksL.contains b = false

theorem blankTo_succ (s : ByteArray) (k : Nat) (h : k < s.size) (hb : blankB s[k] = true) (g : BlankTo s.data.toList k) : BlankTo s.data.toList (k + 1) := by
  intro j b hj hjb
  by_cases c : j = k
  · subst c
    rw [getElem_list s j h] at hjb
    injection hjb with hjb
    rw [← hjb]; exact hb
  · exact g j b (by omega) hjb
theorem blankFrom_pred (s : ByteArray) (k : Nat) (h : k < s.size) (hb : blankB s[k] = true) (g : BlankFrom s.data.toList (k + 1)) : BlankFrom s.data.toList k := by
  intro j b hj hjb
  by_cases c : j = k
  · subst c
    rw [getElem_list s j h] at hjb
    injection hjb with hjb
    rw [← hjb]; exact hb
  · exact g j b (by omega) hjb

theorem empty_extract (s : ByteArray) (m : Nat) : ByteArray.empty.data.toList = (s.extract m m).data.toList := by
  rw [Lib.extract_data, Nat.sub_self, List.take_zero]; rfl

/-- where the two looks for blanks end, there the trimmed text stands -/
theorem trim_at (l : List UInt8) (f t : Nat) (hft : f ≤ t) (ht : t ≤ l.length) (h1 : BlankTo l f) (h2 : StopAt l f) (h3 : BlankFrom l t) (h4 : f < t → StopAt l (t - 1)) : (l.drop f).take (t - f) = Lib.trimS l blanksL := by
  unfold Lib.trimS
  rcases Nat.lt_or_eq_of_le hft with c | c
  · rw [Lib.trimRightS_take l blanksL t ht h3 (fun b _ hb => h4 c b hb)]
    rw [Lib.trimLeftS_drop (l.take t) blanksL f (by rw [List.length_take]; omega)
      (fun j b hj hb => h1 j b hj (by rw [List.getElem?_take_of_lt (by omega)] at hb; exact hb))
      (fun b hb => h2 b (by rw [List.getElem?_take_of_lt c] at hb; exact hb))]
    rw [List.drop_take]
  · subst c
    have hall : f = l.length := by
      by_cases d : f < l.length
      · exfalso
        have e := List.getElem?_eq_getElem d
        have a := h2 _ e
        have b := h3 f _ (Nat.le_refl _) e
        rw [a] at b; cases b
      · omega
    rw [Nat.sub_self, List.take_zero]
    have : Lib.trimRightS l blanksL = l.take 0 := Lib.trimRightS_take l blanksL 0 (Nat.zero_le _) (fun j b _ hb => by
      by_cases d : j < f
      · exact h1 j b d hb
      · exact h3 j b (by omega) hb) (fun b hb => by omega)
    rw [this, List.take_zero]
    rfl

end Go.Proofs.YtlgbnfcnimjheaaDoor
/-
  The document's own Read at every text: a walk.
-/
namespace Go.Proofs.YtlgbnfcnimjheaaDoor
open Go.RowKit Fl

def seg (t : ByteArray) (a k : Nat) : List UInt8 := (t.data.toList.take k).drop a
theorem seg_succ (t : ByteArray) (a k : Nat) (h : a ≤ k) (hk : k < t.size) : seg t a (k + 1) = seg t a k ++ [t[k]] := by
  unfold seg
  rw [take_snoc t k hk, List.drop_append_of_le_length]
  rw [List.length_take]
  have := size_len t
  omega
theorem seg_self (t : ByteArray) (a : Nat) : seg t a a = [] := by unfold seg; exact List.drop_eq_nil_of_le (List.length_take_le _ _)
theorem seg_all (t : ByteArray) (a k : Nat) (h : t.size ≤ k) : seg t a k = t.data.toList.drop a := by unfold seg; rw [List.take_of_length_le (by rw [← size_len]; exact h)]
theorem valD_app (x y : List UInt8) : valD x ≤ valD (x ++ y) := by
  unfold valD
  rw [List.foldl_append]
  generalize x.foldl (fun n c => n * 10 + (c.toNat - 48)) 0 = n
  induction y generalizing n with
  | nil => exact Nat.le_refl _
  | cons c r ih => exact Nat.le_trans (by omega) (ih (n * 10 + (c.toNat - 48)))
theorem seg_le (t : ByteArray) (a k : Nat) : valD (seg t a k) ≤ valD (t.data.toList.drop a) := by
  have : t.data.toList.drop a = seg t a k ++ (t.data.toList.drop (max a k)) := by
    unfold seg
    by_cases c : a ≤ k
    · rw [Nat.max_eq_right c, List.drop_take]
      have e : t.data.toList.drop k = (t.data.toList.drop a).drop (k - a) := by rw [List.drop_drop]; congr 1; omega
      rw [e, List.take_append_drop]
    · have e1 : (t.data.toList.take k).drop a = [] := List.drop_eq_nil_of_le (by rw [List.length_take]; omega)
      rw [Nat.max_eq_left (by omega), e1]; rfl
  rw [this]; exact valD_app _ _
theorem drop_dig (t : ByteArray) (a k : Nat) (h : a ≤ k) (hk : k < t.size) (hd : isDig t[k] = false) : (t.data.toList.drop a).all isDig = false := by
  rw [List.all_eq_false]
  refine ⟨t[k], ?_, by simp [hd]⟩
  rw [List.mem_iff_getElem?]
  exact ⟨k - a, by rw [List.getElem?_drop, show a + (k - a) = k by omega]; exact getElem_list t k hk⟩
theorem drop_dig_at (t : ByteArray) (a k : Nat) (h : a ≤ k) (hk : k < t.size) (hd : (t.data.toList.drop a).all isDig = true) : isDig t[k] = true := by
  cases c : isDig t[k]
  · rw [drop_dig t a k h hk c] at hd; cases hd
  · rfl

theorem below_draw2 {w W : World} (h : Below w.heap.size w W) (n : Nat) : Below w.heap.size w (W.drewN n) := ⟨h.os, h.tape, h.output, h.size, h.block⟩
theorem digR_nan (neg : Bool) {l : List UInt8} (h : l = [] ∨ l.all isDig = false) : digR neg l = .nan := by unfold digR; rw [if_pos h]
theorem digR_big (neg : Bool) {l : List UInt8} (h1 : l ≠ []) (h2 : l.all isDig = true) (h3 : 9007199254740991 < valD l) : digR neg l = .err 10 := by
  unfold digR; rw [if_neg (by rintro (h | h); exact h1 h; rw [h2] at h; cases h), if_pos h3]
theorem digR_zero {l : List UInt8} (h1 : l ≠ []) (h2 : l.all isDig = true) (h3 : valD l = 0) : digR true l = .err 10 := by
  unfold digR; rw [if_neg (by rintro (h | h); exact h1 h; rw [h2] at h; cases h), if_neg (by omega), if_pos ⟨rfl, h3⟩]
theorem digR_ok (neg : Bool) {l : List UInt8} (h1 : l ≠ []) (h2 : l.all isDig = true) (h3 : valD l ≤ 9007199254740991) (h4 : neg = true → valD l ≠ 0) : digR neg l = .ok (if neg then -(valD l : Int) else (valD l : Int)) := by
  unfold digR; rw [if_neg (by rintro (h | h); exact h1 h; rw [h2] at h; cases h), if_neg (by omega), if_neg (by rintro ⟨a, b⟩; exact h4 a b)]


end Go.Proofs.YtlgbnfcnimjheaaDoor
/-
  Int and Bits of package num beside the document's own, for every byte and every two floats: walks.
-/
namespace Go.Proofs.YtlgbnfcnimjheaaDoor
open Go.RowKit Fl

/-- the 32 bits of what a float is -/
def intC (c : Cl) : Int := wrap32 (wholeI c)

theorem intC_zero : (0 : Int) = wrap32 0 := by unfold wrap32; decide

/-- what the operation of a byte makes of 32 bits and 32 bits -/
def bitsI (op a b : Int) : Int :=
  if op = 38 then bits .and .i32 a b else if op = 124 then bits .or .i32 a b else if op = 94 then bits .xor .i32 a b
  else if op = 60 then wrap32 (a * 2 ^ (b % 32).toNat) else if op = 62 then a / 2 ^ (b % 32).toNat else a % 4294967296 / 2 ^ (b % 32).toNat
def codeB (op : Int) : Bool := op == 38 || op == 124 || op == 94 || op == 60 || op == 62 || op == 117
def bitsR (op : Int) (c d : Cl) : Res := if mayC c && mayC d then (if codeB op then .ok (bitsI op (intC c) (intC d)) else .err 2) else .err 2

theorem intC_in (c : Cl) : -2147483648 ≤ intC c ∧ intC c ≤ 2147483647 := by unfold intC wrap32; omega

theorem div_pow_in (a : Int) (n : Nat) (l u : Int) (hl : l ≤ 0) (hu : 0 ≤ u) (h1 : l ≤ a) (h2 : a ≤ u) : l ≤ a / 2 ^ n ∧ a / 2 ^ n ≤ u := by
  have hp : (0 : Int) < 2 ^ n := Int.pow_pos (by decide)
  constructor
  · rw [Int.le_ediv_iff_mul_le hp]
    have : l * 2 ^ n ≤ l * 1 := Int.mul_le_mul_of_nonpos_left hl (by omega)
    omega
  · have h3 : a / 2 ^ n < u + 1 := by
      rw [Int.ediv_lt_iff_lt_mul hp]
      have : (u + 1) * 1 ≤ (u + 1) * 2 ^ n := Int.mul_le_mul_of_nonneg_left (by omega) (by omega)
      omega
    omega

theorem wrap_i32_in (n : Int) : -2147483648 ≤ IntKind.i32.wrap n ∧ IntKind.i32.wrap n ≤ 2147483647 := by rw [IntKind.wrap_i32]; omega

theorem bitsI_safe (op a b : Int) (ha : -2147483648 ≤ a ∧ a ≤ 2147483647) : SafeN (bitsI op a b) := by
  have k : ∀ n : Int, -2147483648 ≤ n ∧ n ≤ 2147483647 → SafeN n := fun n h => by unfold SafeN; omega
  unfold bitsI
  split
  · exact k _ (wrap_i32_in _)
  · split
    · exact k _ (wrap_i32_in _)
    · split
      · exact k _ (wrap_i32_in _)
      · split
        · exact k _ (by unfold wrap32; omega)
        · split
          · exact k _ (div_pow_in a _ _ _ (by decide) (by decide) ha.1 ha.2)
          · have := div_pow_in (a % 4294967296) (b % 32).toNat 0 4294967295 (by decide) (by decide) (by omega) (by omega)
            unfold SafeN; omega

theorem places_and (b : Int) : bits .and .u32 (b % 4294967296) 31 = b % 32 := by
  have hi : ∀ n : Int, 0 ≤ n → n < 2 ^ 32 → IntKind.u32.wrap n = n := by
    intro n a c; rw [IntKind.wrap_u32]; omega
  have := bits_mask .u32 32 (by decide) hi 5 (by decide) (b % 4294967296) (by omega) (by omega)
  refine this.trans ?_
  omega

theorem shl_same (a : Int) (P : Int) : wrap32 (a % 4294967296 * P % 4294967296) = wrap32 (a * P) := by
  have e : a % 4294967296 * P % 4294967296 = a * P % 4294967296 := by
    rw [Int.mul_emod, Int.emod_emod, ← Int.mul_emod]
  rw [e]; unfold wrap32; omega

theorem encR_ok {n m : Int} (e : m = n) (h : SafeN n) : EncR (.ok n) (F m) 0 := by rw [e]; exact ⟨⟨rfl, h⟩, rfl⟩

end Go.Proofs.YtlgbnfcnimjheaaDoor
/-
  NumTexts and NumAgain: texts and what they are worth, beside the document's own, and back: walks.
-/
namespace Go.Proofs.YtlgbnfcnimjheaaDoor
open Go.RowKit Fl

theorem bytes_ext {a b : ByteArray} (h : a.data.toList = b.data.toList) : a = b := Go.WideShapes.bytes_inj h

def TabHere (w : World) : Prop := Lib.TabBelow Tryd.prog w.heap.size w "internal/strconv.uint64pow10" .u64 Lib.pow10Tab

theorem below_size {w a b : World} (h1 : Below w.heap.size w a) (h2 : Below a.heap.size a b) : Below w.heap.size w b := h1.trans (h2.mono h1.size)

end Go.Proofs.YtlgbnfcnimjheaaDoor
/-
  DERIVED: THE SHELF's CONTRACTS AT THIS DUMP, IN PLAIN WORDS (tools/lay-plain.mjs out of 'YtlgbnfcnimjheaaDoorStrShelfTry.lean', which tools/lay-shelf.mjs wrote): THE SAME DECLARATIONS UNDER THE SAME NAMES: 'import', 'namespace', 'open', 'def', 'theorem' AND NOTHING ELSE: no command of the shelf's: FOR A HAND-IN. Each laying: the table of numbers ('.._ren') and one theorem, a field a fact of the dump's own or the kernel's comparison; each contract: ONE APPLICATION.
-/
namespace Go.Proofs
open Go.Shelf
def Tryd.lays169_ren : Go.Shelf.Ren := ⟨fun | 169 => 55 | n => n, fun | 70 => 83 | 9 => 9 | 0 => 0 | 72 => 86 | 37 => 84 | 127 => 108 | 3 => 3 | 5 => 5 | n => n, fun | n => n⟩
theorem Tryd.lays169 : Go.Proofs.Lays.n169 Tryd.prog Tryd.lays169_ren := {
  mixed := by kernel_rfl
  f169 := Tryd.func55.trans (congrArg some (by kernel_rfl))
  t0 := Tryd.underlying0
  a0 := Tryd.isAgg0
  z0 := Tryd.sizeOf0
  v0 := Tryd.zeroValue0
  t3 := Tryd.underlying3
  a3 := Tryd.isAgg3
  z3 := Tryd.sizeOf3
  v3 := Tryd.zeroValue3
  t9 := Tryd.underlying9
  a9 := Tryd.isAgg9
  z9 := Tryd.sizeOf9
  v9 := Tryd.zeroValue9
  t37 := Tryd.underlying84
  a37 := Tryd.isAgg84
  z37 := Tryd.sizeOf84
  v37 := Tryd.zeroValue84
  t70 := Tryd.underlying83
  a70 := Tryd.isAgg83
  z70 := Tryd.sizeOf83
  v70 := Tryd.zeroValue83
  t72 := Tryd.underlying86
  a72 := Tryd.isAgg86
  z72 := Tryd.sizeOf86
  v72 := Tryd.zeroValue86
  t127 := Tryd.underlying108
  a127 := Tryd.isAgg108
  z127 := Tryd.sizeOf108
  v127 := Tryd.zeroValue108 }
theorem Tryd.Builder_Extra_169 : Builder.Extra Tryd.prog Tryd.lays169_ren := {
  sizeBuilder := by kernel_rfl
  liesBuilder := by kernel_rfl
  t5 := Tryd.underlying5
  a5 := Tryd.isAgg5
  z5 := Tryd.sizeOf5
  v5 := Tryd.zeroValue5
  infoByte := by kernel_rfl
  cellsByte := by kernel_rfl
  sizeByte := by kernel_rfl
  neB5 := by decide }
open Go.RowKit in
/-- (*strings.Builder).String: the bytes held. -/
theorem Tryd.Builder_String_any (B b : Nat) (l : List UInt8) (w : World) (h : Lib.IsBuilder 86 5 B b (Lib.byteCells l) w) (hBw : B ≤ w.heap.size) :
    Calls Tryd.prog 55 #[.pointer (some ⟨b, 0, none⟩)] w fun e w' => e = .returned (.string ⟨l.toArray⟩) ∧ Below B w w' := Any.Builder_String_any Tryd.lays169 Tryd.Builder_Extra_169 B b l w h hBw
def Tryd.lays165_ren : Go.Shelf.Ren := ⟨fun | 165 => 53 | 240 => 80 | 241 => 81 | 276 => 90 | 277 => 91 | n => n, fun | 70 => 83 | 3 => 3 | 0 => 0 | 4 => 4 | 9 => 9 | 20 => 20 | 72 => 86 | 37 => 84 | 164 => 67 | 5 => 5 | n => n, fun | n => n⟩
theorem Tryd.lays165 : Go.Proofs.Lays.n165 Tryd.prog Tryd.lays165_ren := {
  mixed := by kernel_rfl
  f165 := Tryd.func53.trans (congrArg some (by kernel_rfl))
  f240 := Tryd.func80.trans (congrArg some (by kernel_rfl))
  f241 := Tryd.func81.trans (congrArg some (by kernel_rfl))
  f276 := Tryd.func90.trans (congrArg some (by kernel_rfl))
  f277 := Tryd.func91.trans (congrArg some (by kernel_rfl))
  t0 := Tryd.underlying0
  a0 := Tryd.isAgg0
  z0 := Tryd.sizeOf0
  v0 := Tryd.zeroValue0
  t3 := Tryd.underlying3
  a3 := Tryd.isAgg3
  z3 := Tryd.sizeOf3
  v3 := Tryd.zeroValue3
  t4 := Tryd.underlying4
  a4 := Tryd.isAgg4
  z4 := Tryd.sizeOf4
  v4 := Tryd.zeroValue4
  t9 := Tryd.underlying9
  a9 := Tryd.isAgg9
  z9 := Tryd.sizeOf9
  v9 := Tryd.zeroValue9
  t20 := Tryd.underlying20
  a20 := Tryd.isAgg20
  z20 := Tryd.sizeOf20
  v20 := Tryd.zeroValue20
  t37 := Tryd.underlying84
  a37 := Tryd.isAgg84
  z37 := Tryd.sizeOf84
  v37 := Tryd.zeroValue84
  t70 := Tryd.underlying83
  a70 := Tryd.isAgg83
  z70 := Tryd.sizeOf83
  v70 := Tryd.zeroValue83
  t72 := Tryd.underlying86
  a72 := Tryd.isAgg86
  z72 := Tryd.sizeOf86
  v72 := Tryd.zeroValue86
  t164 := Tryd.underlying67
  a164 := Tryd.isAgg67
  z164 := Tryd.sizeOf67
  v164 := Tryd.zeroValue67 }
theorem Tryd.Builder_Extra_165 : Builder.Extra Tryd.prog Tryd.lays165_ren := {
  sizeBuilder := by kernel_rfl
  liesBuilder := by kernel_rfl
  t5 := Tryd.underlying5
  a5 := Tryd.isAgg5
  z5 := Tryd.sizeOf5
  v5 := Tryd.zeroValue5
  infoByte := by kernel_rfl
  cellsByte := by kernel_rfl
  sizeByte := by kernel_rfl
  neB5 := by decide }
open Go.RowKit in
/-- (*strings.Builder).Grow of a builder that has not been written. -/
theorem Tryd.Builder_Grow_fresh (B b n : Nat) (w : World) (hB : B ≤ b) (hbk : w.heap[b]? = some (.cells #[.pointer none, .slice none 0 0] 86 (0, 0))) (hBw : B ≤ w.heap.size) (hn : n ≤ 281474976710656) :
    Calls Tryd.prog 53 #[.pointer (some ⟨b, 0, none⟩), .int .i64 n] w fun e w' => e = .returned (.tuple #[]) ∧ (Lib.BuilderAt 86 5 B b (.pointer (some ⟨b, 0, none⟩)) [] w' ∧ Below B w w') := Any.Builder_Grow_fresh Tryd.lays165 Tryd.Builder_Extra_165 B b n w hB hbk hBw hn
end Go.Proofs
/-
  The library's contracts of (*strings.Builder).WriteByte and WriteString laid at this seat by hand: the shelf's command lays them not where no body names the type of the panic's value.
-/
namespace Go.Proofs
open Go.Shelf
def Tryd.lays167_ren : Go.Shelf.Ren := ⟨fun | 167 => 77 | 240 => 80 | 276 => 90 | n => n, fun | 0 => 0 | 3 => 3 | 4 => 4 | 5 => 5 | 9 => 9 | 20 => 20 | 37 => 84 | 70 => 83 | 72 => 86 | 75 => 89 | 80 => 92 | 164 => 67 | n => n, fun | n => n⟩
theorem Tryd.lays167 : Go.Proofs.Lays.n167 Tryd.prog Tryd.lays167_ren := {
  mixed := by kernel_rfl
  f167 := Tryd.func77.trans (congrArg some (by kernel_rfl))
  f240 := Tryd.func80.trans (congrArg some (by kernel_rfl))
  f276 := Tryd.func90.trans (congrArg some (by kernel_rfl))
  t0 := Tryd.underlying0
  a0 := Tryd.isAgg0
  z0 := Tryd.sizeOf0
  v0 := Tryd.zeroValue0
  t4 := Tryd.underlying4
  a4 := Tryd.isAgg4
  z4 := Tryd.sizeOf4
  v4 := Tryd.zeroValue4
  t5 := Tryd.underlying5
  a5 := Tryd.isAgg5
  z5 := Tryd.sizeOf5
  v5 := Tryd.zeroValue5
  t9 := Tryd.underlying9
  a9 := Tryd.isAgg9
  z9 := Tryd.sizeOf9
  v9 := Tryd.zeroValue9
  t20 := Tryd.underlying20
  a20 := Tryd.isAgg20
  z20 := Tryd.sizeOf20
  v20 := Tryd.zeroValue20
  t37 := Tryd.underlying84
  a37 := Tryd.isAgg84
  z37 := Tryd.sizeOf84
  v37 := Tryd.zeroValue84
  t70 := Tryd.underlying83
  a70 := Tryd.isAgg83
  z70 := Tryd.sizeOf83
  v70 := Tryd.zeroValue83
  t72 := Tryd.underlying86
  a72 := Tryd.isAgg86
  z72 := Tryd.sizeOf86
  v72 := Tryd.zeroValue86
  t75 := Tryd.underlying89
  a75 := Tryd.isAgg89
  z75 := Tryd.sizeOf89
  v75 := Tryd.zeroValue89
  t164 := Tryd.underlying67
  a164 := Tryd.isAgg67
  z164 := Tryd.sizeOf67
  v164 := Tryd.zeroValue67 }
theorem Tryd.Builder_Extra_167 : Builder.Extra Tryd.prog Tryd.lays167_ren := {
  sizeBuilder := by kernel_rfl
  liesBuilder := by kernel_rfl
  t5 := Tryd.underlying5
  a5 := Tryd.isAgg5
  z5 := Tryd.sizeOf5
  v5 := Tryd.zeroValue5
  infoByte := by kernel_rfl
  cellsByte := by kernel_rfl
  sizeByte := by kernel_rfl
  neB5 := by decide }
def Tryd.lays166_ren : Go.Shelf.Ren := ⟨fun | 166 => 54 | 240 => 80 | 276 => 90 | n => n, fun | 0 => 0 | 3 => 3 | 4 => 4 | 5 => 5 | 9 => 9 | 20 => 20 | 37 => 84 | 70 => 83 | 72 => 86 | 75 => 89 | 80 => 92 | 164 => 67 | n => n, fun | n => n⟩
theorem Tryd.lays166 : Go.Proofs.Lays.n166 Tryd.prog Tryd.lays166_ren := {
  mixed := by kernel_rfl
  f166 := Tryd.func54.trans (congrArg some (by kernel_rfl))
  f240 := Tryd.func80.trans (congrArg some (by kernel_rfl))
  f276 := Tryd.func90.trans (congrArg some (by kernel_rfl))
  t0 := Tryd.underlying0
  a0 := Tryd.isAgg0
  z0 := Tryd.sizeOf0
  v0 := Tryd.zeroValue0
  t3 := Tryd.underlying3
  a3 := Tryd.isAgg3
  z3 := Tryd.sizeOf3
  v3 := Tryd.zeroValue3
  t4 := Tryd.underlying4
  a4 := Tryd.isAgg4
  z4 := Tryd.sizeOf4
  v4 := Tryd.zeroValue4
  t9 := Tryd.underlying9
  a9 := Tryd.isAgg9
  z9 := Tryd.sizeOf9
  v9 := Tryd.zeroValue9
  t20 := Tryd.underlying20
  a20 := Tryd.isAgg20
  z20 := Tryd.sizeOf20
  v20 := Tryd.zeroValue20
  t37 := Tryd.underlying84
  a37 := Tryd.isAgg84
  z37 := Tryd.sizeOf84
  v37 := Tryd.zeroValue84
  t70 := Tryd.underlying83
  a70 := Tryd.isAgg83
  z70 := Tryd.sizeOf83
  v70 := Tryd.zeroValue83
  t72 := Tryd.underlying86
  a72 := Tryd.isAgg86
  z72 := Tryd.sizeOf86
  v72 := Tryd.zeroValue86
  t75 := Tryd.underlying89
  a75 := Tryd.isAgg89
  z75 := Tryd.sizeOf89
  v75 := Tryd.zeroValue89
  t164 := Tryd.underlying67
  a164 := Tryd.isAgg67
  z164 := Tryd.sizeOf67
  v164 := Tryd.zeroValue67 }
theorem Tryd.Builder_Extra_166 : Builder.Extra Tryd.prog Tryd.lays166_ren := {
  sizeBuilder := by kernel_rfl
  liesBuilder := by kernel_rfl
  t5 := Tryd.underlying5
  a5 := Tryd.isAgg5
  z5 := Tryd.sizeOf5
  v5 := Tryd.zeroValue5
  infoByte := by kernel_rfl
  cellsByte := by kernel_rfl
  sizeByte := by kernel_rfl
  neB5 := by decide }
open Go.RowKit in
/-- (*strings.Builder).WriteByte. -/
theorem Tryd.Builder_WriteByte (B b : Nat) (bs : List Value) (c : Int) (w : World) (h : Lib.IsBuilder 86 5 B b bs w) (hlen : bs.length + 1 ≤ 140737488355328) (hBw : B ≤ w.heap.size) :
    Calls Tryd.prog 77 #[.pointer (some ⟨b, 0, none⟩), .int .u8 c] w fun e w' => e = .returned .nilIface ∧ (Lib.BuilderAt 86 5 B b (.pointer (some ⟨b, 0, none⟩)) (bs ++ [.int .u8 c]) w' ∧ Below B w w') := Any.Builder_WriteByte Tryd.lays167 Tryd.Builder_Extra_167 B b bs c w h hlen hBw
open Go.RowKit in
/-- (*strings.Builder).WriteString. -/
theorem Tryd.Builder_WriteString (B b : Nat) (bs : List Value) (s : ByteArray) (w : World) (h : Lib.IsBuilder 86 5 B b bs w) (hlen : bs.length + s.size ≤ 140737488355328) (hBw : B ≤ w.heap.size) :
    Calls Tryd.prog 54 #[.pointer (some ⟨b, 0, none⟩), .string s] w fun e w' => e = .returned (.tuple #[.int .i64 s.size, .nilIface]) ∧ (Lib.BuilderAt 86 5 B b (.pointer (some ⟨b, 0, none⟩)) (bs ++ Lib.strCells s) w' ∧ Below B w w') := Any.Builder_WriteString Tryd.lays166 Tryd.Builder_Extra_166 B b bs s w h hlen hBw
end Go.Proofs
/-
  The builder in the words of lists of bytes; a string laid anew: walks.
-/
namespace Go.Proofs.YtlgbnfcnimjheaaDoor.S
open Go.RowKit

theorem ret_bool {a b : Bool} (h : a = b) : Ending.returned (.bool a) = .returned (.bool b) := by rw [h]
theorem ret_int {k : IntKind} {a b : Int} (h : a = b) : Ending.returned (.int k a) = .returned (.int k b) := by rw [h]
theorem ret_str {a b : ByteArray} (h : a = b) : Ending.returned (.string a) = .returned (.string b) := by rw [h]

theorem size_len (t : ByteArray) : t.size = t.data.toList.length := by simp
theorem toList_data (s : ByteArray) : s.toList = s.data.toList := Go.ByteArray.toList_eq s
theorem mk_list (l : List UInt8) : (⟨l.toArray⟩ : ByteArray).data.toList = l := rfl
theorem mk_size (l : List UInt8) : (⟨l.toArray⟩ : ByteArray).size = l.length := by simp [ByteArray.size]
theorem str_ext {a b : ByteArray} (h : a.data.toList = b.data.toList) : a = b := by
  cases a with | mk a => cases b with | mk b => exact congrArg ByteArray.mk (Array.toList_inj.1 h)
theorem mk_of (s : ByteArray) : (⟨s.data.toList.toArray⟩ : ByteArray) = s := str_ext rfl
theorem getElem_list (s : ByteArray) (k : Nat) (h : k < s.size) : s.data.toList[k]? = some s[k] := by
  rw [List.getElem?_eq_getElem (by rw [← size_len]; exact h)]
  simp [ByteArray.getElem_eq_getElem_data]

/-- a fresh builder in block b -/
def FB (B b : Nat) (w0 w : World) : Prop := B ≤ b ∧ w.heap[b]? = some (.cells #[.pointer none, .slice none 0 0] 86 (0, 0)) ∧ Below B w0 w ∧ B ≤ w.heap.size
/-- a builder in block b that holds the bytes l -/
def BB (B b : Nat) (l : List UInt8) (w0 w : World) : Prop := Lib.IsBuilder 86 5 B b (Lib.byteCells l) w ∧ Below B w0 w ∧ B ≤ w.heap.size

theorem fb_alloc (w : World) : FB w.heap.size w.heap.size w (w.alloc (.cells #[.pointer none, .slice none 0 0] 86)) :=
  ⟨Nat.le_refl _, heap_alloc_new w _, (Below.refl _ w).alloc (Nat.le_refl _) _, (((Below.refl _ w).alloc (Nat.le_refl _) (.cells #[.pointer none, .slice none 0 0] 86))).size⟩
theorem FB.drew {B b : Nat} {w0 w : World} (h : FB B b w0 w) : FB B b w0 w.drew := ⟨h.1, h.2.1, h.2.2.1.drew, h.2.2.2⟩
theorem BB.drew {B b : Nat} {l : List UInt8} {w0 w : World} (h : BB B b l w0 w) : BB B b l w0 w.drew := ⟨h.1.imp Lib.BuilderAt.drew Lib.BuilderAt.drew, h.2.1.drew, h.2.2⟩
theorem bb_alloc (w : World) : BB w.heap.size w.heap.size [] w (w.alloc (.cells #[.pointer none, .slice none 0 0] 86)) :=
  ⟨Lib.fresh_isBuilder _ _ w, (Below.refl _ w).alloc (Nat.le_refl _) _, ((Below.refl _ w).alloc (Nat.le_refl _) (.cells #[.pointer none, .slice none 0 0] 86)).size⟩

theorem wb_grow {B b : Nat} (n : Int) {w0 w : World} (h : FB B b w0 w) (h0 : 0 ≤ n) (hn : n ≤ 281474976710656) :
    Calls Tryd.prog 53 #[.pointer (some ⟨b, 0, none⟩), .int .i64 n] w fun e w' => e = .returned (.tuple #[]) ∧ BB B b [] w0 w' := by
  obtain ⟨k, rfl⟩ := Int.eq_ofNat_of_zero_le h0
  refine (Tryd.Builder_Grow_fresh B b k w h.1 h.2.1 h.2.2.2 (by omega)).mono fun e w' ⟨he, hb, hw⟩ => ⟨he, Or.inr hb, h.2.2.1.trans hw, Nat.le_trans h.2.2.2 hw.size⟩
theorem wb_byte {B b : Nat} {l : List UInt8} (c : UInt8) {w0 w : World} (h : BB B b l w0 w) (hl : l.length + 1 ≤ 140737488355328) :
    Calls Tryd.prog 77 #[.pointer (some ⟨b, 0, none⟩), .int .u8 (c.toNat : Int)] w fun e w' => e = .returned .nilIface ∧ BB B b (l ++ [c]) w0 w' := by
  refine (Tryd.Builder_WriteByte B b _ c.toNat w h.1 (by rw [Lib.byteCells_length]; exact hl) h.2.2).mono fun e w' ⟨he, hb, hw⟩ => ⟨he, Or.inr (by rw [Lib.byteCells_append]; exact hb), h.2.1.trans hw, Nat.le_trans h.2.2 hw.size⟩
theorem wb_str {B b : Nat} {l : List UInt8} (s : ByteArray) {w0 w : World} (h : BB B b l w0 w) (hl : l.length + s.size ≤ 140737488355328) :
    Calls Tryd.prog 54 #[.pointer (some ⟨b, 0, none⟩), .string s] w fun e w' => e = .returned (.tuple #[.int .i64 s.size, .nilIface]) ∧ BB B b (l ++ s.data.toList) w0 w' := by
  refine (Tryd.Builder_WriteString B b _ s w h.1 (by rw [Lib.byteCells_length]; exact hl) h.2.2).mono fun e w' ⟨he, hb, hw⟩ => ⟨he, Or.inr (by rw [Lib.byteCells_append, ← Lib.strCells_eq]; exact hb), h.2.1.trans hw, Nat.le_trans h.2.2 hw.size⟩
theorem wb_string {B b : Nat} {l : List UInt8} {w0 w : World} (h : BB B b l w0 w) :
    Calls Tryd.prog 55 #[.pointer (some ⟨b, 0, none⟩)] w fun e w' => e = .returned (.string ⟨l.toArray⟩) ∧ Below B w0 w' :=
  (Tryd.Builder_String_any B b l w h.1 h.2.2).mono fun _ _ ⟨he, hw⟩ => ⟨he, h.2.1.trans hw⟩
/-- the answer is a string -/
def StrTo (t : ByteArray) (w : World) (e : Ending) (w' : World) : Prop := e = .returned (.string t) ∧ Below w.heap.size w w'
/-- the answer is a string and a number -/
def StrIntTo (t : ByteArray) (k : Int) (w : World) (e : Ending) (w' : World) : Prop := e = .returned (.tuple #[.string t, .int .i64 k]) ∧ Below w.heap.size w w'

theorem int_wf {n : Int} (h : (Lit.int .i64 n).wf = true) : -9223372036854775808 ≤ n ∧ n ≤ 9223372036854775807 := by
  have h2 : (decide (IntKind.i64.min ≤ n) && decide (n ≤ IntKind.i64.max)) = true := h
  rw [show IntKind.i64.min = -9223372036854775808 by decide, show IntKind.i64.max = 9223372036854775807 by decide] at h2
  simpa using h2
end Go.Proofs.YtlgbnfcnimjheaaDoor.S
/-
  StrMade: Join and Repeat, the program's and the document's own: walks.
-/
namespace Go.Proofs.YtlgbnfcnimjheaaDoor.S
open Go.RowKit

theorem append_list (a b : ByteArray) : (a ++ b).data.toList = a.data.toList ++ b.data.toList := by simp
theorem append_size (a b : ByteArray) : (a ++ b).size = a.size + b.size := by simp

def joinE (a b : ByteArray) : Int := if a.size + b.size > 4096 then 20 else 0
def joinT (a b : ByteArray) : ByteArray := if a.size + b.size > 4096 then ⟨#[]⟩ else ⟨(a.data.toList ++ b.data.toList).toArray⟩

/-- a list of bytes so many times -/
def reps (l : List UInt8) : Nat → List UInt8
  | 0 => []
  | k + 1 => reps l k ++ l
theorem reps_len (l : List UInt8) (k : Nat) : (reps l k).length = k * l.length := by
  induction k with
  | zero => simp [reps]
  | succ k ih => rw [reps, List.length_append, ih, Nat.succ_mul]

def repE (s : ByteArray) (n : Int) : Int := if n < 0 then 2 else if s.size = 0 then 0 else if n.toNat * s.size > 4096 then 20 else 0
def repT (s : ByteArray) (n : Int) : ByteArray := if n < 0 then ⟨#[]⟩ else if s.size = 0 then ⟨#[]⟩ else if n.toNat * s.size > 4096 then ⟨#[]⟩ else ⟨(reps s.data.toList n.toNat).toArray⟩

theorem over_div (n m : Nat) (hm : 0 < m) : n * m > 4096 ↔ 4096 / m < n := by
  rw [Nat.div_lt_iff_lt_mul hm]
theorem quo_nat (m : Nat) : (4096 : Int) / (m : Int) = ((4096 / m : Nat) : Int) := by rw [Int.natCast_ediv]; rfl
theorem mul_nat (k m : Nat) (h : k * m ≤ 4096) : wrap64 ((k : Int) * (m : Int)) = ((k * m : Nat) : Int) := by
  rw [← Int.natCast_mul]; generalize k * m = p at *; unfold wrap64; omega

theorem below_size {B : Nat} {w w' : World} (h : Below B w w') : w.heap.size ≤ w'.heap.size := h.size
theorem below_up {w w1 w2 : World} (h1 : Below w.heap.size w w1) (h2 : Below w1.heap.size w1 w2) : Below w.heap.size w w2 := h1.trans (h2.mono (below_size h1))

end Go.Proofs.YtlgbnfcnimjheaaDoor.S
/-
  Quote, the program's and the document's own: walks.
-/
namespace Go.Proofs.YtlgbnfcnimjheaaDoor.S
open Go.RowKit

/-- a sixteen's byte -/
def hexN (n : Nat) : Nat := if n < 10 then 48 + n else 87 + n
theorem hexN_lt (n : Nat) (h : n < 16) : hexN n < 256 := by unfold hexN; split <;> omega
/-- what stands for a byte between quotes -/
def qb (c : UInt8) : List UInt8 :=
  if c.toNat = 34 ∨ c.toNat = 92 then [92, c] else if c.toNat = 10 then [92, 110] else if c.toNat = 9 then [92, 116] else if c.toNat = 13 then [92, 114]
  else if c.toNat < 32 ∨ 126 < c.toNat then [92, 120, (hexN (c.toNat / 16)).toUInt8, (hexN (c.toNat % 16)).toUInt8] else [c]
theorem qb_len (c : UInt8) : 1 ≤ (qb c).length ∧ (qb c).length ≤ 4 := by
  unfold qb; repeat' split
  all_goals simp
def quoteI (l : List UInt8) : List UInt8 := l.flatMap qb
def quoteL (l : List UInt8) : List UInt8 := 34 :: (quoteI l ++ [34])
theorem quoteI_snoc (l : List UInt8) (c : UInt8) : quoteI (l ++ [c]) = quoteI l ++ qb c := by simp [quoteI]
theorem quoteI_len (l : List UInt8) : (quoteI l).length ≤ 4 * l.length := by
  induction l with
  | nil => simp [quoteI]
  | cons c r ih =>
    have e : quoteI (c :: r) = qb c ++ quoteI r := by simp [quoteI]
    have := (qb_len c).2
    rw [e, List.length_append, List.length_cons]; omega

theorem toNat_of (n : Nat) (h : n < 256) : (n.toUInt8).toNat = n := by simp; omega

theorem wb_byteN {B b : Nat} {l : List UInt8} (n : Int) (h0 : 0 ≤ n ∧ n < 256) {w0 w : World} (h : BB B b l w0 w) (hl : l.length + 1 ≤ 140737488355328) :
    Calls Tryd.prog 77 #[.pointer (some ⟨b, 0, none⟩), .int .u8 n] w fun e w' => e = .returned .nilIface ∧ BB B b (l ++ [n.toNat.toUInt8]) w0 w' := by
  have := wb_byte n.toNat.toUInt8 h hl
  rw [toNat_of _ (by omega), Int.toNat_of_nonneg h0.1] at this
  exact this

theorem digit_any (n : Nat) (h : n < 16) (w : World) : Calls Tryd.prog 89 #[.int .u8 (n : Int)] w fun e w' => e = .returned (.int .u8 (hexN n : Int)) ∧ w = w' := by
  unfold hexN
  by_cases c : n < 10
  · rw [if_pos c]
    go_enter Tryd.func89, Tryd.ntmps89
    go_wp2
    go_ret
    refine ⟨ret_int ?_, rfl⟩
    first | done | omega | (simp; omega)
  · rw [if_neg c]
    go_enter Tryd.func89, Tryd.ntmps89
    go_wp2
    go_ret
    refine ⟨ret_int ?_, rfl⟩
    first | done | omega | (simp; omega)

theorem write_any (c : UInt8) {B b : Nat} {l : List UInt8} {w0 w : World} (h : BB B b l w0 w) (hl : l.length + 4 ≤ 140737488355328) :
    Calls Tryd.prog 78 #[.pointer (some ⟨b, 0, none⟩), .int .u8 (c.toNat : Int)] w fun e w' => e = .returned (.tuple #[]) ∧ BB B b (l ++ qb c) w0 w' := by
  have hc := c.toNat_lt
  unfold qb
  by_cases c1 : c.toNat = 34 ∨ c.toNat = 92
  · rw [if_pos c1]
    rcases c1 with c1 | c1
    · obtain rfl : c = 34 := UInt8.toNat_inj.1 c1
      go_enter Tryd.func78, Tryd.ntmps78
      go_wp2_with (first
        | (go_at_call 77; ((with_reducible refine (wb_byteN 92 (by omega) h (by omega)).mono ?_); rintro e w1 ⟨rfl, h1⟩))
        | (go_at_call 77; ((with_reducible refine (wb_byteN 34 (by omega) h1 (by simp; omega)).mono ?_); rintro e w2 ⟨rfl, h2⟩)))
      go_end0; refine ⟨rfl, ?_⟩; rw [List.append_assoc] at h2; exact h2
    · obtain rfl : c = 92 := UInt8.toNat_inj.1 c1
      go_enter Tryd.func78, Tryd.ntmps78
      go_wp2_with (first
        | (go_at_call 77; ((refine (wb_byteN 92 (by omega) h (by omega)).mono ?_); rintro e w1 ⟨rfl, h1⟩; have H := Lib.hid h; clear h))
        | (go_at_call 77; ((refine (wb_byteN 92 (by omega) h1 (by simp; omega)).mono ?_); rintro e w2 ⟨rfl, h2⟩)))
      go_end0; refine ⟨rfl, ?_⟩; rw [List.append_assoc] at h2; exact h2
  · rw [if_neg c1]
    obtain ⟨n1, n2⟩ := not_or.1 c1
    clear c1
    have i1 : ((c.toNat : Int) == 34) = false := beq_false_of_ne (by omega)
    have i2 : ((c.toNat : Int) == 92) = false := beq_false_of_ne (by omega)
    by_cases c2 : c.toNat = 10
    · rw [if_pos c2]
      go_enter Tryd.func78, Tryd.ntmps78
      go_wp2_with (go_at_call 54; refine (wb_str ⟨#[92, 110]⟩ h (by simp [ByteArray.size]; omega)).mono ?_; rintro e w1 ⟨rfl, h1⟩)
      go_end0
      exact ⟨rfl, h1⟩
    · rw [if_neg c2]
      by_cases c3 : c.toNat = 9
      · rw [if_pos c3]
        go_enter Tryd.func78, Tryd.ntmps78
        go_wp2_with (go_at_call 54; refine (wb_str ⟨#[92, 116]⟩ h (by simp [ByteArray.size]; omega)).mono ?_; rintro e w1 ⟨rfl, h1⟩)
        go_end0
        exact ⟨rfl, h1⟩
      · rw [if_neg c3]
        by_cases c4 : c.toNat = 13
        · rw [if_pos c4]
          go_enter Tryd.func78, Tryd.ntmps78
          go_wp2_with (go_at_call 54; refine (wb_str ⟨#[92, 114]⟩ h (by simp [ByteArray.size]; omega)).mono ?_; rintro e w1 ⟨rfl, h1⟩)
          go_end0
          exact ⟨rfl, h1⟩
        · rw [if_neg c4]
          by_cases c5 : c.toNat < 32 ∨ 126 < c.toNat
          · rw [if_pos c5]
            have hmask0 : bits .and .u8 (c.toNat : Int) 15 = ((c.toNat % 16 : Nat) : Int) := by
              have := bits_mask .u8 8 (by decide) (fun n a c => by rw [IntKind.wrap_u8]; omega) 4 (by decide) (c.toNat : Int) (by omega) (by omega)
              rw [Int.natCast_emod]; exact this
            have hq0 : ((c.toNat : Int) / 16) = ((c.toNat / 16 : Nat) : Int) := by rw [Int.natCast_ediv]; rfl
            have q1 : c.toNat / 16 < 16 := by omega
            have r1 : c.toNat % 16 < 16 := by omega
            generalize c.toNat / 16 = q at *
            generalize c.toNat % 16 = r at *
            have hd := hexN_lt q q1
            have hm := hexN_lt r r1
            have k1 := fun w => digit_any q q1 w
            have k2 := fun w => digit_any r r1 w
            generalize hexN q = x at *
            generalize hexN r = y at *
            have i3 : (decide ((c.toNat : Int) < 32) || decide (126 < (c.toNat : Int))) = true := by
              rw [Bool.or_eq_true, decide_eq_true_iff, decide_eq_true_iff]; omega
            clear c5
            go_enter Tryd.func78, Tryd.ntmps78
            go_wp2_with (first
              | (go_at_call 54; refine (wb_str ⟨#[92, 120]⟩ h (by simp [ByteArray.size]; omega)).mono ?_; rintro e w1 ⟨rfl, h1⟩)
              | (go_at_call 89; ((with_reducible refine (k1 _).mono ?_); rintro e w' ⟨rfl, rfl⟩))
              | (go_at_call 89; ((with_reducible refine (k2 _).mono ?_); rintro e w' ⟨rfl, rfl⟩))
              | (go_at_call 77; ((with_reducible refine (wb_byteN (x : Int) (by omega) h1 (by simp; omega)).mono ?_); rintro e w2 ⟨rfl, h2⟩))
              | (go_at_call 77; ((with_reducible refine (wb_byteN (y : Int) (by omega) h2 (by simp; omega)).mono ?_); rintro e w3 ⟨rfl, h3⟩)))
            all_goals (go_end0; refine ⟨rfl, ?_⟩; simp only [List.append_assoc] at h3; exact h3)
          · rw [if_neg c5]
            obtain ⟨n5, n6⟩ := not_or.1 c5
            clear c5
            have i3 : (decide ((c.toNat : Int) < 32) || decide (126 < (c.toNat : Int))) = false := by
              rw [Bool.or_eq_false_iff, decide_eq_false_iff_not, decide_eq_false_iff_not]; omega
            go_enter Tryd.func78, Tryd.ntmps78
            go_wp2_with (go_at_call 77; with_reducible refine (wb_byte c h (by omega)).mono ?_; rintro e w1 ⟨rfl, h1⟩)
            go_end0
            exact ⟨rfl, h1⟩

theorem list_take_snoc (s : ByteArray) (k : Nat) (h : k < s.size) : s.data.toList.take (k + 1) = s.data.toList.take k ++ [s[k]] := by
  rw [List.take_add_one, getElem_list s k h]; rfl
theorem quote_step (s : ByteArray) (k : Nat) (h : k < s.size) : quoteI (s.data.toList.take (k + 1)) = quoteI (s.data.toList.take k) ++ qb s[k] := by
  rw [list_take_snoc s k h, quoteI_snoc]
theorem quote_take_len (s : ByteArray) (k : Nat) (h : k ≤ s.size) : (quoteI (s.data.toList.take k)).length ≤ 4 * k := by
  refine Nat.le_trans (quoteI_len _) ?_
  rw [List.length_take, ← size_len]; omega

theorem Quote_any (s : ByteArray) (w : World) (hs : s.size ≤ 9000) : Calls Tryd.prog 51 #[.string s] w (StrTo ⟨(quoteL s.data.toList).toArray⟩ w) := by
  have h0 := fb_alloc w
  go_enter Tryd.func51, Tryd.ntmps51
  go_wp2_with (first
    | (go_at_call 53; refine (wb_grow _ (FB.drew h0) (by omega) (by omega)).mono ?_; rintro e w1 ⟨rfl, h1⟩)
    | (go_at_call 53; refine (wb_grow _ h0 (by omega) (by omega)).mono ?_; rintro e w1 ⟨rfl, h1⟩)
    | (go_at_call 77; refine (wb_byteN 34 (by omega) h1 (by simp)).mono ?_; rintro e w2 ⟨rfl, h2⟩))
  go_loopw [4] (fun i wr => ∃ k : Nat, k ≤ s.size ∧ i = .int .i64 k ∧ BB w.heap.size w.heap.size (34 :: quoteI (s.data.toList.take k)) w wr) (fun i _ => s.size - (intOf i).toNat)
  case atStart => exact ⟨0, Nat.zero_le _, rfl, h2⟩
  case round =>
    obtain ⟨k, hk, rfl, h3⟩ := hrel
    have hlen := quote_take_len s k hk
    by_cases hlt : k < s.size
    · have hst := Lib.hid (quote_step s k hlt)
      go_wp2_with (go_at_call 78; refine (write_any s[k] h3 (by rw [List.length_cons]; omega)).mono ?_; rintro e w3 ⟨rfl, h4⟩)
      go_roundw
      case rel => exact ⟨k + 1, hlt, by go_num, by rw [hst.out]; exact h4⟩
      case measure => simp [intOf]; omega
    · have he : s.data.toList.take k = s.data.toList := List.take_of_length_le (by rw [← size_len]; omega)
      rw [he] at h3 hlen
      go_wp2_with (first
        | (go_at_call 77; refine (wb_byteN 34 (by omega) h3 (by rw [List.length_cons]; omega)).mono ?_; rintro e w3 ⟨rfl, h4⟩)
        | (go_at_call 55; refine (wb_string h4).mono ?_; rintro e w4 ⟨rfl, h5⟩))
      go_ret
      exact ⟨rfl, h5⟩

/-- ### the document's own -/
theorem extract_list (s : ByteArray) (a b : Nat) : (s.extract a b).data.toList = (s.data.toList.drop a).take (b - a) := by
  rw [ByteArray.data_extract, Array.toList_extract, List.extract_eq_take_drop]
theorem extract_one (s : ByteArray) (k : Nat) (h : k < s.size) : (s.extract k (k + 1)).data.toList = [s[k]] := by
  rw [extract_list, Nat.add_sub_cancel_left]
  have h2 : k < s.data.toList.length := by rw [← size_len]; exact h
  rw [List.drop_eq_getElem_cons h2, List.take_succ_cons, List.take_zero]
  simp [ByteArray.getElem_eq_getElem_data]

def signT (n : Nat) : ByteArray := (⟨#[48, 49, 50, 51, 52, 53, 54, 55, 56, 57, 97, 98, 99, 100, 101, 102]⟩ : ByteArray).extract n (n + 1)
theorem signT_list (n : Nat) (h : n < 16) : (signT n).data.toList = [(hexN n).toUInt8] := by
  have : ∀ m : Fin 16, (signT m).data.toList = [(hexN m).toUInt8] := by decide
  exact this ⟨n, h⟩
theorem app2 (t : ByteArray) (l : List UInt8) (u : ByteArray) (m : List UInt8) (h : t.data.toList = l) (g : u.data.toList = m) : (t ++ u).data.toList = l ++ m := by rw [append_list, h, g]
theorem app3 (t : ByteArray) (l : List UInt8) (u v : ByteArray) (m n : List UInt8) (h : t.data.toList = l) (g : u.data.toList = m) (f : v.data.toList = n) : (t ++ u ++ v).data.toList = l ++ (m ++ n) := by rw [append_list, append_list, h, g, f, List.append_assoc]
theorem app4 (t : ByteArray) (l : List UInt8) (u v x : ByteArray) (m n o : List UInt8) (h : t.data.toList = l) (g : u.data.toList = m) (f : v.data.toList = n) (d : x.data.toList = o) : (t ++ u ++ v ++ x).data.toList = l ++ (m ++ n ++ o) := by rw [append_list, append_list, append_list, h, g, f, d]; simp only [List.append_assoc]

end Go.Proofs.YtlgbnfcnimjheaaDoor.S
/-
  Values: what they are, and when they are the same: mathematics.
-/
namespace Go.Proofs.YtlgbnfcnimjheaaDoor.S
open Go.RowKit Fl

def feq (x y : Nat) : Bool := FloatKind.f64.format.order x y == some .eq
/-- what a float is worth: no number, or a whole number (a minus nought is 0) -/
def NV (x : Nat) (o : Option Int) : Prop := x < 2 ^ 64 ∧ ((IsNaN x ∧ o = none) ∨ (x = 2 ^ 63 ∧ o = some 0) ∨ ∃ n, SafeN n ∧ x = F n ∧ o = some n)
theorem cmp_eq (a b : Int) : (some (compare a b) == some Ordering.eq) = (some a == some b) := by
  rcases Int.lt_trichotomy a b with c | c | c
  · rw [Int.compare_eq_lt.2 c, Bool.eq_iff_iff]; simp; omega
  · subst c; simp
  · rw [Int.compare_eq_gt.2 c, Bool.eq_iff_iff]; simp; omega
theorem feq_nv {x y : Nat} {o p : Option Int} (h : NV x o) (g : NV y p) : feq x y = (o.isSome && o == p) := by
  obtain ⟨_, h⟩ := h
  obtain ⟨_, g⟩ := g
  rcases h with ⟨h, rfl⟩ | ⟨rfl, rfl⟩ | ⟨n, hn, rfl, rfl⟩
  · have e : FloatKind.f64.format.order x y = none := order_nan_l y h
    unfold feq; rw [e]; rfl
  · rcases g with ⟨g, rfl⟩ | ⟨rfl, rfl⟩ | ⟨m, hm, rfl, rfl⟩
    · have e : FloatKind.f64.format.order (2 ^ 63) y = none := order_nan_r _ g
      unfold feq; rw [e]; rfl
    · have e : FloatKind.f64.format.order (2 ^ 63) (2 ^ 63) = some .eq := order_m0_self
      unfold feq; rw [e]; rfl
    · have e : FloatKind.f64.format.order (2 ^ 63) (F m) = some (compare 0 m) := (order_m0 m hm.abs).1
      unfold feq; rw [e, cmp_eq]; rfl
  · rcases g with ⟨g, rfl⟩ | ⟨rfl, rfl⟩ | ⟨m, hm, rfl, rfl⟩
    · have e : FloatKind.f64.format.order (F n) y = none := order_nan_r _ g
      unfold feq; rw [e]; rfl
    · have e : FloatKind.f64.format.order (F n) (2 ^ 63) = some (compare n 0) := (order_m0 n hn.abs).2
      unfold feq; rw [e, cmp_eq]; rfl
    · have e : FloatKind.f64.format.order (F n) (F m) = some (compare n m) := order_F n m hn.abs hm.abs
      unfold feq; rw [e, cmp_eq]; rfl
theorem nv_cls {c : Cl} {x : Nat} (h : Is c x) (hm : mayC c = true) : ∃ o, NV x o ∧ ((c = .nan ∧ o = none) ∨ ∃ n, c = .ours n ∧ o = some n) := by
  cases c with
  | nan => exact ⟨none, ⟨h.1, Or.inl ⟨h.2, rfl⟩⟩, Or.inl ⟨rfl, rfl⟩⟩
  | other => cases hm
  | ours n => exact ⟨some n, ⟨h.lt, Or.inr (Or.inr ⟨n, h.2, h.1, rfl⟩)⟩, Or.inr ⟨n, rfl, rfl⟩⟩

/-! ### values that may be -/
inductive Vl where
  | und | nul | boo (x : Nat) | num (x : Nat) | str (s : ByteArray) | sym (r : Int) | obj (k : Nat) (r : Int)
namespace Vl
def kd : Vl → Nat
  | .und => 0 | .nul => 1 | .boo _ => 2 | .num _ => 3 | .str _ => 4 | .sym _ => 5 | .obj k _ => k
def fl : Vl → Nat
  | .boo x => x | .num x => x | _ => 0
def st : Vl → ByteArray
  | .str s => s | _ => ⟨#[]⟩
def rf : Vl → Int
  | .sym r => r | .obj _ r => r | _ => 0
def val (v : Vl) : Value := .agg #[.int .u8 (v.kd : Int), .float .f64 v.fl, .string v.st, .int .i64 v.rf]
def ok : Vl → Prop
  | .und => True
  | .nul => True
  | .boo x => x = 0 ∨ x = 2 ^ 63 ∨ x = 4607182418800017408
  | .num x => ∃ c, Is c x ∧ mayC c = true
  | .str s => s.size ≤ 4096
  | .sym r => 0 ≤ r ∧ r < 2 ^ 63
  | .obj k r => (k = 6 ∨ k = 7 ∨ k = 8) ∧ 0 ≤ r ∧ r < 2 ^ 63
end Vl

def objB (k : Nat) : Bool := k == 6 || k == 7 || k == 8
def calB (k : Nat) : Bool := k == 7 || k == 8
/-- same, of any values -/
def sameG (k x : Nat) (s : ByteArray) (r : Int) (k' x' : Nat) (s' : ByteArray) (r' : Int) : Bool :=
  if objB k && objB k' then r == r' else if k ≠ k' then false else if k = 0 ∨ k = 1 then true else if k = 2 then feq x x' else if k = 3 then feq x x' || (!feq x x && !feq x' x')
  else if k = 4 then s.data.toList == s'.data.toList else if k = 5 then r == r' else false
def sameV (a b : Vl) : Bool := sameG a.kd a.fl a.st a.rf b.kd b.fl b.st b.rf
def noneV (v : Vl) : Bool := v.kd == 3 && !feq v.fl v.fl
def truthV (v : Vl) : Bool := match v with
  | .und => false
  | .nul => false
  | .boo x => !feq x 0 && feq x x
  | .num x => !feq x 0 && feq x x
  | .str s => !s.data.toList.isEmpty
  | _ => true
def typeV (v : Vl) : List UInt8 := match v with
  | .und => [117, 110, 100, 101, 102, 105, 110, 101, 100]
  | .nul => [111, 98, 106, 101, 99, 116]
  | .boo _ => [98, 111, 111, 108, 101, 97, 110]
  | .num _ => [110, 117, 109, 98, 101, 114]
  | .str _ => [115, 116, 114, 105, 110, 103]
  | .sym _ => [115, 121, 109, 98, 111, 108]
  | .obj k _ => if k = 6 then [111, 98, 106, 101, 99, 116] else [102, 117, 110, 99, 116, 105, 111, 110]
/-- the text of a value -/
def TextV (v : Vl) (l : List UInt8) : Prop := match v with
  | .und => l = [117, 110, 100, 101, 102, 105, 110, 101, 100]
  | .nul => l = [110, 117, 108, 108]
  | .boo x => l = if feq x 0 then [102, 97, 108, 115, 101] else [116, 114, 117, 101]
  | .num x => ∃ c, Is c x ∧ mayC c = true ∧ l = textL c
  | .str s => l = quoteL s.data.toList
  | .sym r => l = [115, 121, 109, 98, 111, 108, 32] ++ Lib.itoa r
  | .obj _ r => l = [111, 98, 106, 101, 99, 116, 32] ++ Lib.itoa r

theorem boo_nv {x : Nat} (h : (Vl.boo x).ok) : ∃ o, NV x o ∧ (o = some 0 ∨ o = some 1) := by
  rcases h with rfl | rfl | rfl
  · exact ⟨some 0, ⟨by decide, Or.inr (Or.inr ⟨0, by unfold SafeN; omega, F_zero.symm, rfl⟩)⟩, Or.inl rfl⟩
  · exact ⟨some 0, ⟨by decide, Or.inr (Or.inl ⟨rfl, rfl⟩)⟩, Or.inl rfl⟩
  · exact ⟨some 1, ⟨by decide, Or.inr (Or.inr ⟨1, by unfold SafeN; omega, by decide, rfl⟩)⟩, Or.inr rfl⟩
theorem num_nv {x : Nat} (h : (Vl.num x).ok) : ∃ o, NV x o := by
  obtain ⟨c, hc, hm⟩ := h
  obtain ⟨o, ho, _⟩ := nv_cls hc hm
  exact ⟨o, ho⟩
theorem nv_zero : NV 0 (some 0) := ⟨by decide, Or.inr (Or.inr ⟨0, by unfold SafeN; omega, F_zero.symm, rfl⟩)⟩
theorem beq_opt (o p : Option Int) : (o == p) = (p == o) := by
  rw [Bool.eq_iff_iff]; simp only [beq_iff_eq]; exact eq_comm

/-- the same, in one form: of one kind, or two objects -/
theorem obj_kd {k : Nat} (h : k = 6 ∨ k = 7 ∨ k = 8) : objB k = true := by rcases h with rfl | rfl | rfl <;> rfl
theorem sameV_refl {a : Vl} (h : a.ok) : sameV a a = true := by
  cases a with
  | und => rfl
  | nul => rfl
  | boo x =>
    obtain ⟨o, ho, h1⟩ := boo_nv h
    show feq x x = true
    rw [feq_nv ho ho]
    rcases h1 with rfl | rfl <;> rfl
  | num x =>
    obtain ⟨o, ho⟩ := num_nv h
    show (feq x x || (!feq x x && !feq x x)) = true
    cases feq x x <;> rfl
  | str s => show (s.data.toList == s.data.toList) = true; exact beq_self_eq_true _
  | sym r => show (r == r) = true; exact beq_self_eq_true _
  | obj k r =>
    unfold sameV sameG
    have : objB k = true := obj_kd h.1
    simp only [Vl.kd, this, Bool.and_self, if_true, Vl.rf, beq_self_eq_true]
/-- which values are the same -/
def Sm (a b : Vl) : Prop := match a, b with
  | .und, .und => True
  | .nul, .nul => True
  | .boo x, .boo y => ∃ o, NV x o ∧ NV y o
  | .num x, .num y => ∃ o, NV x o ∧ NV y o
  | .str s, .str t => s.data.toList = t.data.toList
  | .sym r, .sym q => r = q
  | .obj _ r, .obj _ q => r = q
  | _, _ => False
theorem nv_fun {x : Nat} {o p : Option Int} (h : NV x o) (g : NV x p) : o = p := by
  have e := feq_nv h g
  have e1 := feq_nv h h
  have e2 := feq_nv g g
  rw [e1] at e
  cases o with
  | none =>
    cases p with
    | none => rfl
    | some p => rw [e1] at e2; simp at e2
  | some o => simpa using e
theorem diffV {a b : Vl} (h1 : objB a.kd = false ∨ objB b.kd = false) (h2 : a.kd ≠ b.kd) : sameV a b = false := by
  have h : (objB a.kd && objB b.kd) = false := by rcases h1 with h | h <;> simp [h]
  unfold sameV sameG
  rw [if_neg (by rw [h]; decide), if_pos h2]
theorem same_sm {a b : Vl} (ha : a.ok) (hb : b.ok) : sameV a b = true ↔ Sm a b := by
  cases a <;> cases b
  case und.und => exact ⟨fun _ => trivial, fun _ => rfl⟩
  case nul.nul => exact ⟨fun _ => trivial, fun _ => rfl⟩
  case boo.boo x y =>
    obtain ⟨o, ho, h1⟩ := boo_nv ha
    obtain ⟨p, hp, h2⟩ := boo_nv hb
    show feq x y = true ↔ _
    rw [feq_nv ho hp]
    constructor
    · intro h
      have h : o = p := by rw [Bool.and_eq_true] at h; exact beq_iff_eq.1 h.2
      exact ⟨o, ho, h ▸ hp⟩
    · rintro ⟨q, h3, h4⟩
      rw [nv_fun ho h3, nv_fun hp h4] at *
      rcases h1 with rfl | rfl <;> rfl
  case num.num x y =>
    obtain ⟨o, ho⟩ := num_nv ha
    obtain ⟨p, hp⟩ := num_nv hb
    show (feq x y || (!feq x x && !feq y y)) = true ↔ _
    rw [feq_nv ho hp, feq_nv ho ho, feq_nv hp hp]
    constructor
    · intro h
      have h : o = p := by cases o <;> cases p <;> simp at h ⊢; exact h
      exact ⟨o, ho, h ▸ hp⟩
    · rintro ⟨q, h3, h4⟩
      rw [nv_fun ho h3, nv_fun hp h4] at *
      cases q <;> simp
  case str.str s t => exact beq_iff_eq
  case sym.sym r q => exact beq_iff_eq
  case obj.obj k r j q =>
    unfold sameV sameG
    have h1 : objB k = true := obj_kd ha.1
    have h2 : objB j = true := obj_kd hb.1
    simp only [Vl.kd, h1, h2, Bool.and_self, if_true, Vl.rf]
    exact beq_iff_eq
  all_goals
    refine ⟨fun h => ?_, fun h => h.elim⟩
    exfalso
    revert h
    rw [diffV]
    · exact fun h => by cases h
    · first | exact .inl rfl | exact .inr rfl
    · first
        | (simp only [Vl.kd]; omega)
        | (have h := ha.1; simp only [Vl.kd]; omega)
        | (have h := hb.1; simp only [Vl.kd]; omega)
theorem sm_symm {a b : Vl} (h : Sm a b) : Sm b a := by
  cases a <;> cases b <;> first | exact h.elim | exact h.symm | trivial | (obtain ⟨o, h1, h2⟩ := h; exact ⟨o, h2, h1⟩)
theorem sm_trans {a b c : Vl} (h : Sm a b) (g : Sm b c) : Sm a c := by
  cases a <;> cases b <;> first
    | exact h.elim
    | (cases c <;> first
        | exact g.elim
        | trivial
        | exact Eq.trans h g
        | (obtain ⟨o, h1, h2⟩ := h; obtain ⟨p, g1, g2⟩ := g; have e := nv_fun h2 g1; subst e; exact ⟨o, h1, g2⟩))
theorem sameV_symm {a b : Vl} (ha : a.ok) (hb : b.ok) : sameV a b = sameV b a := by
  rw [Bool.eq_iff_iff, same_sm ha hb, same_sm hb ha]; exact ⟨sm_symm, sm_symm⟩
theorem sameV_trans {a b c : Vl} (ha : a.ok) (hb : b.ok) (hc : c.ok) (h : sameV a b = true) (g : sameV b c = true) : sameV a c = true :=
  (same_sm ha hc).2 (sm_trans ((same_sm ha hb).1 h) ((same_sm hb hc).1 g))
theorem same_truth {a b : Vl} (ha : a.ok) (hb : b.ok) (h : sameV a b = true) : truthV a = truthV b := by
  have h := (same_sm ha hb).1 h
  cases a <;> cases b <;> first
    | exact h.elim
    | rfl
    | (obtain ⟨o, h1, h2⟩ := h; unfold truthV; dsimp only; rw [feq_nv h1 nv_zero, feq_nv h2 nv_zero, feq_nv h1 h1, feq_nv h2 h2])
    | (have h : _ = _ := h; unfold truthV; dsimp only; rw [h])
theorem same_type {a b : Vl} (ha : a.ok) (hb : b.ok) (h : sameV a b = true) (hc : calB a.kd = calB b.kd) : typeV a = typeV b := by
  have h := (same_sm ha hb).1 h
  cases a <;> cases b <;> first
    | exact h.elim
    | rfl
    | (have h1 := ha.1; have h2 := hb.1; revert hc; rcases h1 with rfl | rfl | rfl <;> rcases h2 with rfl | rfl | rfl <;> first | exact fun _ => rfl | (intro h; simp [Vl.kd, calB] at h))
theorem same_text {a b : Vl} {l m : List UInt8} (ha : a.ok) (hb : b.ok) (h0 : sameV a b = true) (hl : TextV a l) (hm : TextV b m) : l = m := by
  have h := (same_sm ha hb).1 h0
  clear h0
  cases a <;> cases b <;> first
    | exact h.elim
    | exact hl.trans hm.symm
    | skip
  case boo.boo x y =>
    obtain ⟨o, h1, h2⟩ := h
    have hl : l = _ := hl
    have hm : m = _ := hm
    rw [hl, hm, feq_nv h1 nv_zero, feq_nv h2 nv_zero]
  case num.num x y =>
    obtain ⟨o, h1, h2⟩ := h
    obtain ⟨c, hc, hcm, rfl⟩ := hl
    obtain ⟨d, hd, hdm, rfl⟩ := hm
    obtain ⟨p, p1, p2⟩ := nv_cls hc hcm
    obtain ⟨q, q1, q2⟩ := nv_cls hd hdm
    obtain rfl := nv_fun h1 p1
    obtain rfl := nv_fun h2 q1
    rcases p2 with ⟨rfl, rfl⟩ | ⟨n, rfl, rfl⟩ <;> rcases q2 with ⟨rfl, e⟩ | ⟨k, rfl, e⟩
    · rfl
    · cases e
    · cases e
    · cases e; rfl
  case str.str s t =>
    have hl : l = _ := hl
    have hm : m = _ := hm
    have h : s.data.toList = t.data.toList := h
    rw [hl, hm, h]
  case sym.sym r q =>
    have hl : l = _ := hl
    have hm : m = _ := hm
    have h : r = q := h
    rw [hl, hm, h]
  case obj.obj k r j q =>
    have hl : l = _ := hl
    have hm : m = _ := hm
    have h : r = q := h
    rw [hl, hm, h]
end Go.Proofs.YtlgbnfcnimjheaaDoor.S
/-
  The small functions of package value: walks, for any value.
-/
namespace Go.Proofs.YtlgbnfcnimjheaaDoor.S
open Go.RowKit Fl

theorem kd_eq (k n : Nat) : ((k : Int) == (n : Int)) = (k == n) := by rw [Bool.eq_iff_iff]; simp only [beq_iff_eq]; omega
theorem Calls_v (k x : Nat) (s : ByteArray) (r : Int) (w : World) : Calls Tryd.prog 46 #[.agg #[.int .u8 (k : Int), .float .f64 x, .string s, .int .i64 r]] w fun e w' => e = .returned (.bool (calB k)) ∧ Below w.heap.size w w' := by
  have e7 : ((k : Int) == 7) = (k == 7) := kd_eq k 7
  have e8 : ((k : Int) == 8) = (k == 8) := kd_eq k 8
  unfold calB
  cases h7 : (k == 7) <;> cases h8 : (k == 8)
  all_goals
    rw [h7] at e7
    rw [h8] at e8
    go_enter Tryd.func46, Tryd.ntmps46
    go_wp2
    go_ret
    exact ⟨rfl, vzero _ _⟩
theorem IsObject_v (k x : Nat) (s : ByteArray) (r : Int) (w : World) : Calls Tryd.prog 47 #[.agg #[.int .u8 (k : Int), .float .f64 x, .string s, .int .i64 r]] w fun e w' => e = .returned (.bool (objB k)) ∧ Below w.heap.size w w' := by
  have e6 : ((k : Int) == 6) = (k == 6) := kd_eq k 6
  have ho : objB k = (k == 6 || calB k) := by unfold objB calB; cases (k == 6) <;> rfl
  have kc := fun w => Calls_v k x s r w
  rw [ho]
  cases h6 : (k == 6)
  all_goals
    rw [h6] at e6
    go_enter Tryd.func47, Tryd.ntmps47
    go_wp2_with (go_at_call 46; refine (kc _).mono ?_; rintro e w1 ⟨rfl, h1⟩)
    go_ret
  · exact ⟨rfl, vafter h1⟩
  · exact ⟨rfl, vzero _ _⟩
theorem IsNaN_f (x : Nat) (w : World) : Calls Tryd.prog 73 #[.float .f64 x] w fun e w' => e = .returned (.bool (FloatKind.f64.format.order x x != some .eq)) ∧ w = w' := by
  go_enter Tryd.func73, Tryd.ntmps73
  go_wp2
  go_ret
  exact ⟨rfl, rfl⟩
theorem none_v (k x : Nat) (s : ByteArray) (r : Int) (w : World) : Calls Tryd.prog 48 #[.agg #[.int .u8 (k : Int), .float .f64 x, .string s, .int .i64 r]] w fun e w' => e = .returned (.bool (k == 3 && !feq x x)) ∧ Below w.heap.size w w' := by
  have e3 : ((k : Int) == 3) = (k == 3) := kd_eq k 3
  have kn := fun w => IsNaN_f x w
  cases h3 : (k == 3)
  all_goals
    rw [h3] at e3
    go_enter Tryd.func48, Tryd.ntmps48
    go_wp2_with (go_at_call 73; refine (kn _).mono ?_; rintro e w' ⟨rfl, rfl⟩)
    go_ret
    exact ⟨rfl, vzero _ _⟩
end Go.Proofs.YtlgbnfcnimjheaaDoor.S
