/-
  Text of package num beside the document's own, for every float: walks.
-/
import Derived.Test.YthnkllhfmjbbmaaGreatDoorHM04
import Derived.Lib.AppendIntMem
import Derived.Test.YthnkllhfmjbbmaaGreatDoorHM03
import Derived.Laws.Bits64b
import Derived.Test.YthnkllhfmjbbmaaGreatDoorChecked
import Derived.Test.YthnkllhfmjbbmaaGreatDoorHM01
import Derived.WalkKit
import Derived.WalkSpells
import Derived.WalkLawsBesides
import Derived.Lib.Hide
import Derived.Below
import Derived.Deep.Draws
import Derived.Shelf.LaysM
import Derived.Shelf.Strconv.Itoa3
import Derived.Test.YthnkllhfmjbbmaaGreatDoorProg
namespace Go.Proofs.YthnkllhfmjbbmaaGreatDoor
open Go.RowKit Fl

def textL (c : Cl) : List UInt8 := match c with
  | .nan => [78, 97, 78]
  | .other => []
  | .ours n => Lib.itoa n
def TextTo (l : List UInt8) (w : World) (e : Ending) (w' : World) : Prop := ∃ t : ByteArray, t.data.toList = l ∧ e = .returned (.string t) ∧ Below w.heap.size w w'

theorem grow_below (w : World) (k : Nat) (os : Array Obj) : Below w.heap.size w (Sort.grow (w.drewN k) os) := by
  refine ⟨rfl, rfl, rfl, ?_, fun i hi => ?_⟩
  · show w.heap.size ≤ (w.heap ++ os).size
    simp
  · show (w.heap ++ os)[i]? = w.heap[i]?
    rw [Array.getElem?_append_left hi]

theorem encode_one (k : Nat) (hk : k < 10) : Utf8.encode (48 + (k : Int)) = ⟨#[UInt8.ofNat (48 + k)]⟩ := by
  have : k = 0 ∨ k = 1 ∨ k = 2 ∨ k = 3 ∨ k = 4 ∨ k = 5 ∨ k = 6 ∨ k = 7 ∨ k = 8 ∨ k = 9 := by omega
  rcases this with rfl | rfl | rfl | rfl | rfl | rfl | rfl | rfl | rfl | rfl <;> decide

theorem size_one (b : UInt8) : (⟨#[b]⟩ : ByteArray).size = 1 := rfl
theorem decDigits_big (k : Nat) (h : 10 ≤ k) : Lib.decDigits k = Lib.decDigits (k / 10) ++ [UInt8.ofNat (48 + k % 10)] := by
  rw [Lib.decDigits]; rw [dif_neg (by omega)]
theorem decDigits_one (k : Nat) (h : k < 10) : Lib.decDigits k = [UInt8.ofNat (48 + k)] := by
  rw [Lib.decDigits]; rw [dif_pos h]

theorem decDigits_len (k : Nat) : (Lib.decDigits k).length ≤ k + 1 := by
  induction k using Nat.strongRecOn with
  | _ k ih =>
    by_cases c : k < 10
    · rw [decDigits_one k c]; simp
    · rw [decDigits_big k (by omega), List.length_append]
      have := ih (k / 10) (by omega)
      simp only [List.length_cons, List.length_nil]; omega

theorem Text_cls {c : Cl} {x : Nat} (h : Is c x) (w : World) (htab : Lib.TabIs Tryz.prog w "internal/strconv.uint64pow10" .u64 Lib.pow10Tab) :
    Calls Tryz.prog 171 #[.float .f64 x] w (TextTo (textL c) w) := by
  have m := fun w => May_cls h w
  have ho := self_cls h
  cases c with
  | nan =>
    dsimp only [selfO] at ho
    go_enter Tryz.func171, Tryz.ntmps171
    go_wp2_with (go_at_call 190; refine (none_any _ _).mono ?_; rintro e w' ⟨rfl, rfl⟩)
    go_ret
    exact ⟨_, rfl, rfl, Below.refl _ _⟩
  | other =>
    dsimp only [selfO] at ho
    dsimp only [mayC] at m
    go_enter Tryz.func171, Tryz.ntmps171
    go_wp2_with (first | (go_at_call 190; refine (none_any _ _).mono ?_; rintro e w' ⟨rfl, rfl⟩) | (go_at_call 180; refine (m _).mono ?_; rintro e w' ⟨rfl, rfl⟩))
    go_ret
    exact ⟨_, rfl, rfl, Below.refl _ _⟩
  | ours n =>
    dsimp only [selfO] at ho
    dsimp only [mayC] at m
    obtain ⟨rfl, hs⟩ := h
    have hc := fun w => conv_run (floatToIntVal_F n hs.abs) w
    have hF := Tryz.strconv_FormatInt_10 n (by have := hs.1; omega) (by have := hs.2; omega) w htab
    have hF' : Calls Tryz.prog 191 #[.int .i64 n, .int .i64 10] w (TextTo (Lib.itoa n) w) := hF.mono fun e w' ⟨he, k, os, hw⟩ => ⟨_, rfl, he, by rw [hw]; exact grow_below w k os⟩
    clear hF htab hs
    show Calls _ _ _ _ (TextTo (Lib.itoa n) w)
    generalize F n = x at *
    go_enter Tryz.func171, Tryz.ntmps171
    go_wp2_with (first | (go_at_call 190; refine (none_any _ _).mono ?_; rintro e w' ⟨rfl, rfl⟩) | (go_at_call 180; refine (m _).mono ?_; rintro e w' ⟨rfl, rfl⟩) | (go_at_call 191; refine hF'.mono ?_; rintro e w' ⟨t, ht, rfl, hB⟩))
    go_ret
    exact ⟨t, ht, rfl, hB⟩
end Go.Proofs.YthnkllhfmjbbmaaGreatDoor
/-
  The document's own Read, and NumTexts: walks.
-/
namespace Go.Proofs.YthnkllhfmjbbmaaGreatDoor
open Go.RowKit Fl

def blankB (c : UInt8) : Bool := blanksL.contains c
theorem blankB_eq (c : UInt8) : blankB c = (c.toNat == 9 || c.toNat == 10 || c.toNat == 13 || c.toNat == 32) := by
  unfold blankB blanksL
  have e : ∀ d : UInt8, (c == d) = (c.toNat == d.toNat) := by
    intro d
    rw [Bool.eq_iff_iff, beq_iff_eq, beq_iff_eq]
    exact ⟨fun h => by rw [h], fun h => UInt8.toNat_inj.1 h⟩
  simp only [List.contains_cons, List.contains_nil, Bool.or_false, e]
  simp only [Bool.or_assoc]
  rfl

theorem getElem_list (s : ByteArray) (k : Nat) (h : k < s.size) : s.data.toList[k]? = some s[k] := by
  rw [List.getElem?_eq_getElem (by rw [← size_len]; exact h)]
  simp [ByteArray.getElem_eq_getElem_data]

def BlankTo (l : List UInt8) (k : Nat) : Prop := ∀ (j : Nat) b, j < k → l[j]? = some b → blanksL.contains b = true
def BlankFrom (l : List UInt8) (k : Nat) : Prop := ∀ (j : Nat) b, k ≤ j → l[j]? = some b → blanksL.contains b = true
def StopAt (l : List UInt8) (k : Nat) : Prop := ∀ b, l[k]? = some b → blanksL.contains b = false

theorem blankTo_succ (s : ByteArray) (k : Nat) (h : k < s.size) (hb : blankB s[k] = true) (g : BlankTo s.data.toList k) : BlankTo s.data.toList (k + 1) := by
  intro j b hj hjb
  by_cases c : j = k
  · subst c
    rw [getElem_list s j h] at hjb
    injection hjb with hjb
    rw [← hjb]; exact hb
  · exact g j b (by omega) hjb
theorem blankFrom_pred (s : ByteArray) (k : Nat) (h : k < s.size) (hb : blankB s[k] = true) (g : BlankFrom s.data.toList (k + 1)) : BlankFrom s.data.toList k := by
  intro j b hj hjb
  by_cases c : j = k
  · subst c
    rw [getElem_list s j h] at hjb
    injection hjb with hjb
    rw [← hjb]; exact hb
  · exact g j b (by omega) hjb

theorem empty_extract (s : ByteArray) (m : Nat) : ByteArray.empty.data.toList = (s.extract m m).data.toList := by
  rw [Lib.extract_data, Nat.sub_self, List.take_zero]; rfl

/-- where the two looks for blanks end, there the trimmed text stands -/
theorem trim_at (l : List UInt8) (f t : Nat) (hft : f ≤ t) (ht : t ≤ l.length) (h1 : BlankTo l f) (h2 : StopAt l f) (h3 : BlankFrom l t) (h4 : f < t → StopAt l (t - 1)) : (l.drop f).take (t - f) = Lib.trimS l blanksL := by
  unfold Lib.trimS
  rcases Nat.lt_or_eq_of_le hft with c | c
  · rw [Lib.trimRightS_take l blanksL t ht h3 (fun b _ hb => h4 c b hb)]
    rw [Lib.trimLeftS_drop (l.take t) blanksL f (by rw [List.length_take]; omega)
      (fun j b hj hb => h1 j b hj (by rw [List.getElem?_take_of_lt (by omega)] at hb; exact hb))
      (fun b hb => h2 b (by rw [List.getElem?_take_of_lt c] at hb; exact hb))]
    rw [List.drop_take]
  · subst c
    have hall : f = l.length := by
      by_cases d : f < l.length
      · exfalso
        have e := List.getElem?_eq_getElem d
        have a := h2 _ e
        have b := h3 f _ (Nat.le_refl _) e
        rw [a] at b; cases b
      · omega
    rw [Nat.sub_self, List.take_zero]
    have : Lib.trimRightS l blanksL = l.take 0 := Lib.trimRightS_take l blanksL 0 (Nat.zero_le _) (fun j b _ hb => by
      by_cases d : j < f
      · exact h1 j b d hb
      · exact h3 j b (by omega) hb) (fun b hb => by omega)
    rw [this, List.take_zero]
    rfl

end Go.Proofs.YthnkllhfmjbbmaaGreatDoor
/-
  The document's own Read at every text: a walk.
-/
namespace Go.Proofs.YthnkllhfmjbbmaaGreatDoor
open Go.RowKit Fl

def seg (t : ByteArray) (a k : Nat) : List UInt8 := (t.data.toList.take k).drop a
theorem seg_succ (t : ByteArray) (a k : Nat) (h : a ≤ k) (hk : k < t.size) : seg t a (k + 1) = seg t a k ++ [t[k]] := by
  unfold seg
  rw [take_snoc t k hk, List.drop_append_of_le_length]
  rw [List.length_take]
  have := size_len t
  omega
theorem seg_self (t : ByteArray) (a : Nat) : seg t a a = [] := by unfold seg; exact List.drop_eq_nil_of_le (List.length_take_le _ _)
theorem seg_all (t : ByteArray) (a k : Nat) (h : t.size ≤ k) : seg t a k = t.data.toList.drop a := by unfold seg; rw [List.take_of_length_le (by rw [← size_len]; exact h)]
theorem valD_app (x y : List UInt8) : valD x ≤ valD (x ++ y) := by
  unfold valD
  rw [List.foldl_append]
  generalize x.foldl (fun n c => n * 10 + (c.toNat - 48)) 0 = n
  induction y generalizing n with
  | nil => exact Nat.le_refl _
  | cons c r ih => exact Nat.le_trans (by omega) (ih (n * 10 + (c.toNat - 48)))
theorem seg_le (t : ByteArray) (a k : Nat) : valD (seg t a k) ≤ valD (t.data.toList.drop a) := by
  have : t.data.toList.drop a = seg t a k ++ (t.data.toList.drop (max a k)) := by
    unfold seg
    by_cases c : a ≤ k
    · rw [Nat.max_eq_right c, List.drop_take]
      have e : t.data.toList.drop k = (t.data.toList.drop a).drop (k - a) := by rw [List.drop_drop]; congr 1; omega
      rw [e, List.take_append_drop]
    · have e1 : (t.data.toList.take k).drop a = [] := List.drop_eq_nil_of_le (by rw [List.length_take]; omega)
      rw [Nat.max_eq_left (by omega), e1]; rfl
  rw [this]; exact valD_app _ _
theorem drop_dig (t : ByteArray) (a k : Nat) (h : a ≤ k) (hk : k < t.size) (hd : isDig t[k] = false) : (t.data.toList.drop a).all isDig = false := by
  rw [List.all_eq_false]
  refine ⟨t[k], ?_, by simp [hd]⟩
  rw [List.mem_iff_getElem?]
  exact ⟨k - a, by rw [List.getElem?_drop, show a + (k - a) = k by omega]; exact getElem_list t k hk⟩
theorem drop_dig_at (t : ByteArray) (a k : Nat) (h : a ≤ k) (hk : k < t.size) (hd : (t.data.toList.drop a).all isDig = true) : isDig t[k] = true := by
  cases c : isDig t[k]
  · rw [drop_dig t a k h hk c] at hd; cases hd
  · rfl

theorem below_draw2 {w W : World} (h : Below w.heap.size w W) (n : Nat) : Below w.heap.size w (W.drewN n) := ⟨h.os, h.tape, h.output, h.size, h.block⟩
theorem digR_nan (neg : Bool) {l : List UInt8} (h : l = [] ∨ l.all isDig = false) : digR neg l = .nan := by unfold digR; rw [if_pos h]
theorem digR_big (neg : Bool) {l : List UInt8} (h1 : l ≠ []) (h2 : l.all isDig = true) (h3 : 9007199254740991 < valD l) : digR neg l = .err 10 := by
  unfold digR; rw [if_neg (by rintro (h | h); exact h1 h; rw [h2] at h; cases h), if_pos h3]
theorem digR_zero {l : List UInt8} (h1 : l ≠ []) (h2 : l.all isDig = true) (h3 : valD l = 0) : digR true l = .err 10 := by
  unfold digR; rw [if_neg (by rintro (h | h); exact h1 h; rw [h2] at h; cases h), if_neg (by omega), if_pos ⟨rfl, h3⟩]
theorem digR_ok (neg : Bool) {l : List UInt8} (h1 : l ≠ []) (h2 : l.all isDig = true) (h3 : valD l ≤ 9007199254740991) (h4 : neg = true → valD l ≠ 0) : digR neg l = .ok (if neg then -(valD l : Int) else (valD l : Int)) := by
  unfold digR; rw [if_neg (by rintro (h | h); exact h1 h; rw [h2] at h; cases h), if_neg (by omega), if_neg (by rintro ⟨a, b⟩; exact h4 a b)]


end Go.Proofs.YthnkllhfmjbbmaaGreatDoor
/-
  Int and Bits of package num beside the document's own, for every byte and every two floats: walks.
-/
namespace Go.Proofs.YthnkllhfmjbbmaaGreatDoor
open Go.RowKit Fl

/-- the 32 bits of what a float is -/
def intC (c : Cl) : Int := wrap32 (wholeI c)

theorem intC_zero : (0 : Int) = wrap32 0 := by unfold wrap32; decide

/-- what the operation of a byte makes of 32 bits and 32 bits -/
def bitsI (op a b : Int) : Int :=
  if op = 38 then bits .and .i32 a b else if op = 124 then bits .or .i32 a b else if op = 94 then bits .xor .i32 a b
  else if op = 60 then wrap32 (a * 2 ^ (b % 32).toNat) else if op = 62 then a / 2 ^ (b % 32).toNat else a % 4294967296 / 2 ^ (b % 32).toNat
def codeB (op : Int) : Bool := op == 38 || op == 124 || op == 94 || op == 60 || op == 62 || op == 117
def bitsR (op : Int) (c d : Cl) : Res := if mayC c && mayC d then (if codeB op then .ok (bitsI op (intC c) (intC d)) else .err 2) else .err 2

theorem intC_in (c : Cl) : -2147483648 ≤ intC c ∧ intC c ≤ 2147483647 := by unfold intC wrap32; omega

theorem div_pow_in (a : Int) (n : Nat) (l u : Int) (hl : l ≤ 0) (hu : 0 ≤ u) (h1 : l ≤ a) (h2 : a ≤ u) : l ≤ a / 2 ^ n ∧ a / 2 ^ n ≤ u := by
  have hp : (0 : Int) < 2 ^ n := Int.pow_pos (by decide)
  constructor
  · rw [Int.le_ediv_iff_mul_le hp]
    have : l * 2 ^ n ≤ l * 1 := Int.mul_le_mul_of_nonpos_left hl (by omega)
    omega
  · have h3 : a / 2 ^ n < u + 1 := by
      rw [Int.ediv_lt_iff_lt_mul hp]
      have : (u + 1) * 1 ≤ (u + 1) * 2 ^ n := Int.mul_le_mul_of_nonneg_left (by omega) (by omega)
      omega
    omega

theorem wrap_i32_in (n : Int) : -2147483648 ≤ IntKind.i32.wrap n ∧ IntKind.i32.wrap n ≤ 2147483647 := by rw [IntKind.wrap_i32]; omega

theorem bitsI_safe (op a b : Int) (ha : -2147483648 ≤ a ∧ a ≤ 2147483647) : SafeN (bitsI op a b) := by
  have k : ∀ n : Int, -2147483648 ≤ n ∧ n ≤ 2147483647 → SafeN n := fun n h => by unfold SafeN; omega
  unfold bitsI
  split
  · exact k _ (wrap_i32_in _)
  · split
    · exact k _ (wrap_i32_in _)
    · split
      · exact k _ (wrap_i32_in _)
      · split
        · exact k _ (by unfold wrap32; omega)
        · split
          · exact k _ (div_pow_in a _ _ _ (by decide) (by decide) ha.1 ha.2)
          · have := div_pow_in (a % 4294967296) (b % 32).toNat 0 4294967295 (by decide) (by decide) (by omega) (by omega)
            unfold SafeN; omega

theorem places_and (b : Int) : bits .and .u32 (b % 4294967296) 31 = b % 32 := by
  have hi : ∀ n : Int, 0 ≤ n → n < 2 ^ 32 → IntKind.u32.wrap n = n := by
    intro n a c; rw [IntKind.wrap_u32]; omega
  have := bits_mask .u32 32 (by decide) hi 5 (by decide) (b % 4294967296) (by omega) (by omega)
  refine this.trans ?_
  omega

theorem shl_same (a : Int) (P : Int) : wrap32 (a % 4294967296 * P % 4294967296) = wrap32 (a * P) := by
  have e : a % 4294967296 * P % 4294967296 = a * P % 4294967296 := by
    rw [Int.mul_emod, Int.emod_emod, ← Int.mul_emod]
  rw [e]; unfold wrap32; omega

theorem encR_ok {n m : Int} (e : m = n) (h : SafeN n) : EncR (.ok n) (F m) 0 := by rw [e]; exact ⟨⟨rfl, h⟩, rfl⟩

end Go.Proofs.YthnkllhfmjbbmaaGreatDoor
/-
  NumTexts and NumAgain: texts and what they are worth, beside the document's own, and back: walks.
-/
namespace Go.Proofs.YthnkllhfmjbbmaaGreatDoor
open Go.RowKit Fl

theorem bytes_ext {a b : ByteArray} (h : a.data.toList = b.data.toList) : a = b := Go.WideShapes.bytes_inj h

def TabHere (w : World) : Prop := Lib.TabBelow Tryz.prog w.heap.size w "internal/strconv.uint64pow10" .u64 Lib.pow10Tab

theorem below_size {w a b : World} (h1 : Below w.heap.size w a) (h2 : Below a.heap.size a b) : Below w.heap.size w b := h1.trans (h2.mono h1.size)

end Go.Proofs.YthnkllhfmjbbmaaGreatDoor
/-
  Values made of any float, string, boolean: walks.
-/
namespace Go.Proofs.YthnkllhfmjbbmaaGreatDoor.S
open Go.RowKit Fl

/-- a store of a float into a cell (the walk has no law of its own for it) -/
theorem vstore (a : Addr) (x : Nat) (m : Mode) (w : World) : (store a (.float .f64 x) m).run Tryz.prog w = stored Tryz.prog w a (.float .f64 x) m := run_store Tryz.prog w a _ m rfl
theorem vzero (w : World) (o : Obj) : Below w.heap.size w (w.alloc o) := (Below.refl _ _).alloc (Nat.le_refl _) o
theorem vb {w a b : World} (h : Below w.heap.size w a) (g : Below a.heap.size a b) : Below w.heap.size w b := h.trans (g.mono h.size)
theorem vafter {w w1 : World} {o : Obj} (h : Below (w.alloc o).heap.size (w.alloc o) w1) : Below w.heap.size w w1 := (vzero w o).trans (h.mono (vzero w o).size)
theorem vafter2 {w w1 : World} {o p : Obj} (h : Below ((w.alloc o).alloc p).heap.size ((w.alloc o).alloc p) w1) : Below w.heap.size w w1 := vafter (vafter h)
theorem vcell {W w1 : World} {B : Nat} (hb : Below B W w1) : (∀ b o, b < B → w1.cell? ⟨b, o, none⟩ = W.cell? ⟨b, o, none⟩) ∧ (∀ b o, b < B → w1.frozen? ⟨b, o, none⟩ = W.frozen? ⟨b, o, none⟩) :=
  ⟨fun b o h => hb.cell (p := ⟨b, o, none⟩) h, fun b o h => hb.frozen (p := ⟨b, o, none⟩) h⟩
theorem vlt1 {w w1 : World} {o : Obj} (h : Below (w.alloc o).heap.size (w.alloc o) w1) : w.heap.size < w1.heap.size := by have := h.size; simp at this; omega
theorem vlt2 {w w1 : World} {o p : Obj} (h : Below ((w.alloc o).alloc p).heap.size ((w.alloc o).alloc p) w1) : w.heap.size < w1.heap.size ∧ w.heap.size + 1 < w1.heap.size := by have := h.size; simp at this; omega
theorem vltn {w1 w2 : World} {n : Nat} (h : Below w1.heap.size w1 w2) (g : n < w1.heap.size) : n < w2.heap.size := Nat.lt_of_lt_of_le g h.size
theorem vset1 {w : World} {g : Nat} {t : TypeId} {cs : Array Value} (h : w.heap[g]? = some (.cells cs t (0, 0))) (i : Nat) (a : Value) : (w.setCell ⟨g, i, none⟩ a).heap[g]? = some (.cells (cs.setIfInBounds i a) t (0, 0)) := by
  simp [World.setCell, Array.getElem?_modify, h]
theorem vset1o {w : World} {g j : Nat} {o : Obj} (h : w.heap[g]? = some o) (hj : j ≠ g) (i : Nat) (a : Value) : (w.setCell ⟨j, i, none⟩ a).heap[g]? = some o := by
  simp [World.setCell, Array.getElem?_modify, h, hj]
theorem vblk1 {w w1 : World} {o : Obj} (h : Below (w.alloc o).heap.size (w.alloc o) w1) : w1.heap[w.heap.size]? = some o := by
  have e : (w.alloc o).heap.size = w.heap.size + 1 := by simp
  rw [h.block w.heap.size (by omega)]; exact heap_alloc_new w o
theorem vblk2 {w w1 : World} {o p : Obj} (h : Below ((w.alloc o).alloc p).heap.size ((w.alloc o).alloc p) w1) : w1.heap[w.heap.size]? = some o ∧ w1.heap[w.heap.size + 1]? = some p := by
  have e : (w.alloc o).heap.size = w.heap.size + 1 := by simp
  have e2 : ((w.alloc o).alloc p).heap.size = w.heap.size + 1 + 1 := by simp
  refine ⟨?_, ?_⟩
  · rw [h.block w.heap.size (by omega), ← heap_alloc_new w o]
    exact (vzero (w.alloc o) p).block _ (by omega)
  · rw [h.block (w.heap.size + 1) (by omega), ← e]; exact heap_alloc_new _ p
theorem vblkn {w1 w2 : World} {g : Nat} {o : Obj} (h : Below w1.heap.size w1 w2) (hb : w1.heap[g]? = some o) : w2.heap[g]? = some o := by
  have hg : g < w1.heap.size := by
    rcases Nat.lt_or_ge g w1.heap.size with c | c
    · exact c
    · rw [Array.getElem?_eq_none c] at hb; cases hb
  rw [h.block g hg]; exact hb
theorem vcells {w : World} {g : Nat} {t : TypeId} {cs : Array Value} (h : w.heap[g]? = some (.cells cs t (0, 0))) (i : Nat) : w.cell? ⟨g, i, none⟩ = cs[i]? := cell_of_row w g i cs t (0, 0) h
theorem vfz {w : World} {g : Nat} {t : TypeId} {cs : Array Value} (h : w.heap[g]? = some (.cells cs t (0, 0))) (i : Nat) : w.frozen? ⟨g, i, none⟩ = false := by
  simp [World.frozen?, h]
theorem vc4 {w : World} {g : Nat} {t : TypeId} {c0 c1 c2 c3 : Value} (h : w.heap[g]? = some (.cells #[c0, c1, c2, c3] t (0, 0))) :
    w.cell? ⟨g, 0, none⟩ = some c0 ∧ w.cell? ⟨g, 1, none⟩ = some c1 ∧ w.cell? ⟨g, 2, none⟩ = some c2 ∧ w.cell? ⟨g, 3, none⟩ = some c3 ∧ ∀ i, w.frozen? ⟨g, i, none⟩ = false := ⟨vcells h 0, vcells h 1, vcells h 2, vcells h 3, vfz h⟩
/-- a function whose one result is a value in a block of its own -/
theorem val_end {f : Func} {i : Nat} {t : TypeId} {Q : Ending → World → Prop} {tmps : Array Value} {W : World} {g : Nat} {k : Int} {x : Nat} {s : ByteArray} {r : Int} (hf : f.results = #[.cell i 31])
    (h2 : tmps[i]?.getD undef = .pointer (some ⟨g, 0, none⟩)) (hb : W.heap[g]? = some (.cells #[.int .u8 k, .float .f64 x, .string s, .int .i64 r] t (0, 0))) (hQ : Q (.returned (.agg #[.int .u8 k, .float .f64 x, .string s, .int .i64 r])) W) :
    bodyPost Tryz.prog f Q .ret { tmps := tmps, defers := [] } W := by
  have c0 : W.cell? ⟨g, 0, none⟩ = some (.int .u8 k) := vcells hb 0
  have c1 : W.cell? ⟨g, 1, none⟩ = some (.float .f64 x) := vcells hb 1
  have c2 : W.cell? ⟨g, 2, none⟩ = some (.string s) := vcells hb 2
  have c3 : W.cell? ⟨g, 3, none⟩ = some (.int .i64 r) := vcells hb 3
  clear hb
  refine bodyPost_ret (v := .agg #[.int .u8 k, .float .f64 x, .string s, .int .i64 r]) ?_ rfl hQ
  simp [h2, c0, c1, c2, c3, results, hf, go_sem]
theorem vset4 {w : World} {g : Nat} {t : TypeId} {c0 c1 c2 c3 : Value} (h : w.heap[g]? = some (.cells #[c0, c1, c2, c3] t (0, 0))) (a b c d : Value) :
    ((((w.setCell ⟨g, 0, none⟩ a).setCell ⟨g, 1, none⟩ b).setCell ⟨g, 2, none⟩ c).setCell ⟨g, 3, none⟩ d).heap[g]? = some (.cells #[a, b, c, d] t (0, 0)) :=
  vset1 (vset1 (vset1 (vset1 h 0 a) 1 b) 2 c) 3 d
theorem vbel4 {B g : Nat} {w0 w : World} (h : Below B w0 w) (hg : B ≤ g) (a b c d : Value) :
    Below B w0 ((((w.setCell ⟨g, 0, none⟩ a).setCell ⟨g, 1, none⟩ b).setCell ⟨g, 2, none⟩ c).setCell ⟨g, 3, none⟩ d) :=
  (((h.setCell (p := ⟨g, 0, none⟩) hg a).setCell (p := ⟨g, 1, none⟩) hg b).setCell (p := ⟨g, 2, none⟩) hg c).setCell (p := ⟨g, 3, none⟩) hg d
def valG (k x : Nat) (s : ByteArray) (r : Int) : Value := .agg #[.int .u8 (k : Int), .float .f64 x, .string s, .int .i64 r]

theorem Num_v (x : Nat) (w : World) : Calls Tryz.prog 60 #[.float .f64 x] w fun e w' => e = .returned (.agg #[.int .u8 3, .float .f64 x, .string ⟨#[]⟩, .int .i64 0]) ∧ Below w.heap.size w w' := by
  have hst := vstore
  go_enter Tryz.func60, Tryz.ntmps60
  go_wp2
  refine bodyPost_ret (v := .agg #[.int .u8 3, .float .f64 x, .string ⟨#[]⟩, .int .i64 0]) (by simp [results, Tryz.results60, go_sem]) rfl ⟨rfl, ?_⟩
  exact vzero _ _
theorem Str_v (s : ByteArray) (w : World) : Calls Tryz.prog 138 #[.string s] w fun e w' => e = .returned (.agg #[.int .u8 4, .float .f64 0, .string s, .int .i64 0]) ∧ Below w.heap.size w w' := by
  have hst := vstore
  go_enter Tryz.func138, Tryz.ntmps138
  go_wp2
  refine bodyPost_ret (v := .agg #[.int .u8 4, .float .f64 0, .string s, .int .i64 0]) (by simp [results, Tryz.results138, go_sem]) rfl ⟨rfl, ?_⟩
  exact vzero _ _
def oneB (b : Bool) : Nat := if b then 4607182418800017408 else 0
end Go.Proofs.YthnkllhfmjbbmaaGreatDoor.S
/-
  DERIVED: THE SHELF's CONTRACTS AT THIS DUMP, IN PLAIN WORDS (tools/lay-plain.mjs out of 'YthnkllhfmjbbmaaGreatDoorValShelfTry.lean', which tools/lay-shelf.mjs wrote): THE SAME DECLARATIONS UNDER THE SAME NAMES: 'import', 'namespace', 'open', 'def', 'theorem' AND NOTHING ELSE: no command of the shelf's: FOR A HAND-IN. Each laying: the table of numbers ('.._ren') and one theorem, a field a fact of the dump's own or the kernel's comparison; each contract: ONE APPLICATION.
-/
namespace Go.Proofs
open Go.Shelf
def Tryz.laysM171_ren : Go.Shelf.Ren := ⟨fun | 171 => 82 | 243 => 134 | 246 => 169 | 283 => 185 | 284 => 186 | 285 => 187 | 286 => 188 | 129 => 133 | 317 => 203 | 318 => 204 | 319 => 205 | 320 => 206 | 337 => 223 | 338 => 224 | n => n, fun | 3 => 3 | 9 => 9 | 2 => 2 | 4 => 4 | 171 => 231 | 0 => 0 | 53 => 180 | 37 => 100 | 5 => 5 | 173 => 233 | 212 => 253 | 51 => 178 | 20 => 20 | 213 => 254 | 46 => 141 | 232 => 273 | 233 => 274 | n => n, fun | 17 => 1 | 18 => 3 | 19 => 4 | n => n⟩
theorem Tryz.laysM171 : Go.Proofs.LaysM.n171 Tryz.prog Tryz.laysM171_ren := {
  mixed := by kernel_rfl
  f129 := Tryz.func133.trans (congrArg some (by kernel_rfl))
  f171 := Tryz.func82.trans (congrArg some (by kernel_rfl))
  f243 := Tryz.func134.trans (congrArg some (by kernel_rfl))
  f246 := Tryz.func169.trans (congrArg some (by kernel_rfl))
  f283 := Tryz.func185.trans (congrArg some (by kernel_rfl))
  f284 := Tryz.func186.trans (congrArg some (by kernel_rfl))
  f285 := Tryz.func187.trans (congrArg some (by kernel_rfl))
  f286 := Tryz.func188.trans (congrArg some (by kernel_rfl))
  f317 := Tryz.func203.trans (congrArg some (by kernel_rfl))
  f318 := Tryz.func204.trans (congrArg some (by kernel_rfl))
  f319 := Tryz.func205.trans (congrArg some (by kernel_rfl))
  f320 := Tryz.func206.trans (congrArg some (by kernel_rfl))
  f337 := Tryz.func223.trans (congrArg some (by kernel_rfl))
  f338 := Tryz.func224.trans (congrArg some (by kernel_rfl))
  t0 := Tryz.underlying0
  a0 := Tryz.isAgg0
  z0 := Tryz.sizeOf0
  v0 := Tryz.zeroValue0
  t2 := Tryz.underlying2
  a2 := Tryz.isAgg2
  z2 := Tryz.sizeOf2
  v2 := Tryz.zeroValue2
  t3 := Tryz.underlying3
  a3 := Tryz.isAgg3
  z3 := Tryz.sizeOf3
  v3 := Tryz.zeroValue3
  t4 := Tryz.underlying4
  a4 := Tryz.isAgg4
  z4 := Tryz.sizeOf4
  v4 := Tryz.zeroValue4
  t5 := Tryz.underlying5
  a5 := Tryz.isAgg5
  z5 := Tryz.sizeOf5
  v5 := Tryz.zeroValue5
  t9 := Tryz.underlying9
  a9 := Tryz.isAgg9
  z9 := Tryz.sizeOf9
  v9 := Tryz.zeroValue9
  t20 := Tryz.underlying20
  a20 := Tryz.isAgg20
  z20 := Tryz.sizeOf20
  v20 := Tryz.zeroValue20
  t37 := Tryz.underlying100
  a37 := Tryz.isAgg100
  z37 := Tryz.sizeOf100
  v37 := Tryz.zeroValue100
  t46 := Tryz.underlying141
  a46 := Tryz.isAgg141
  z46 := Tryz.sizeOf141
  v46 := Tryz.zeroValue141
  t51 := Tryz.underlying178
  a51 := Tryz.isAgg178
  z51 := Tryz.sizeOf178
  v51 := Tryz.zeroValue178
  t53 := Tryz.underlying180
  a53 := Tryz.isAgg180
  z53 := Tryz.sizeOf180
  v53 := Tryz.zeroValue180
  t171 := Tryz.underlying231
  a171 := Tryz.isAgg231
  z171 := Tryz.sizeOf231
  v171 := Tryz.zeroValue231
  t173 := Tryz.underlying233
  a173 := Tryz.isAgg233
  z173 := Tryz.sizeOf233
  v173 := Tryz.zeroValue233
  t212 := Tryz.underlying253
  a212 := Tryz.isAgg253
  z212 := Tryz.sizeOf253
  v212 := Tryz.zeroValue253
  t213 := Tryz.underlying254
  a213 := Tryz.isAgg254
  z213 := Tryz.sizeOf254
  t232 := Tryz.underlying273
  a232 := Tryz.isAgg273
  z232 := Tryz.sizeOf273
  v232 := Tryz.zeroValue273
  t233 := Tryz.underlying274
  a233 := Tryz.isAgg274
  z233 := Tryz.sizeOf274
  v233 := Tryz.zeroValue274
  g17 := by kernel_rfl
  g18 := by kernel_rfl
  g19 := by kernel_rfl
  i0 := by kernel_rfl
  i2 := by kernel_rfl
  i3 := by kernel_rfl
  i4 := by kernel_rfl
  i5 := by kernel_rfl
  i9 := by kernel_rfl
  i20 := by kernel_rfl
  i37 := by kernel_rfl
  i46 := by kernel_rfl
  i51 := by kernel_rfl
  i53 := by kernel_rfl
  i171 := by kernel_rfl
  i173 := by kernel_rfl
  i212 := by kernel_rfl
  i232 := by kernel_rfl
  i233 := by kernel_rfl
  m17 := by kernel_rfl
  m18 := by kernel_rfl
  m19 := by kernel_rfl }
open Go.RowKit Go.Sort Go.Lib in
/-- strconv.Itoa, for every int. -/
theorem Tryz.strconv_Itoa (n : Int) (h0 : -9223372036854775808 ≤ n) (h1 : n ≤ 9223372036854775807) (w : World) (htab : Lib.TabIs Tryz.prog w "internal/strconv.uint64pow10" .u64 Lib.pow10Tab) :
    Calls Tryz.prog 82 #[.int .i64 n] w fun e w' => e = .returned (.string ⟨(Lib.itoa n).toArray⟩) ∧ ∃ k os, w' = grow (w.drewN k) os := Any.strconv_Itoa Tryz.laysM171 n h0 h1 w htab
end Go.Proofs
