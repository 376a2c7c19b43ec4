/-
  NumBack: what package num reckoned is reckoned back, for every two floats: walks.
-/
import Derived.Test.YtmdmfjlmmojbgaaGreatDoorTF04
import Derived.Test.YtmdmfjlmmojbgaaGreatDoorTF05
import Derived.Lib.AppendIntMem
import Derived.Laws.Bits64b

namespace Go.Proofs.YtmdmfjlmmojbgaaGreatDoor
open Go.RowKit Fl

def RetOk (n : Int) (w : World) (e : Ending) (w' : World) : Prop := ∃ m, e = .returned (.tuple #[.float .f64 (F n), .int .i64 0]) ∧ w' = w.drewN m
def RetBad (w : World) (e : Ending) (w' : World) : Prop := ∃ v k m, k ≠ 0 ∧ e = .returned (.tuple #[.float .f64 v, .int .i64 k]) ∧ w' = w.drewN m
theorem retR_ok {n : Int} {w : World} {e : Ending} {w' : World} (h : RetR (.ok n) w e w') : RetOk n w e w' := by
  obtain ⟨v, k, m, ⟨⟨rfl, _⟩, rfl⟩, h2, h3⟩ := h
  exact ⟨m, h2, h3⟩

theorem aliveE : EncR (sumR 2 3) (F 5) 0 := ⟨⟨rfl, by unfold SafeN; omega⟩, rfl⟩
def sizeV (b : Int) : Int := (b.natAbs : Int)
theorem is_ours {n : Int} (h : SafeN n) : Is (.ours n) (F n) := ⟨rfl, h⟩
def Drawn (w w' : World) : Prop := ∃ n, w' = w.drewN n

def selfO (c : Cl) : Option Ordering := match c with
  | .nan => none
  | _ => some .eq
theorem self_cls {c : Cl} {x : Nat} (h : Is c x) : FloatKind.f64.format.order x x = selfO c := by
  cases c with
  | nan => exact order_nan_l x h.2
  | other => exact order_self (other_not_nan h)
  | ours n => obtain ⟨rfl, hs⟩ := h; exact order_self (not_nan_F n hs.abs)

/-- what comes of a reckoning that tells n -/
def OkAt (x : Nat) (w : World) (e : Ending) (w' : World) : Prop := ∃ m, e = .returned (.tuple #[.float .f64 x, .int .i64 0]) ∧ w' = w.drewN m
theorem okAt {n : Int} {x : Nat} (hx : F n = x) {w : World} {e : Ending} {w' : World} (h : RetR (.ok n) w e w') : OkAt x w e w' := by
  obtain ⟨v, k, m, ⟨⟨rfl, _⟩, rfl⟩, h2, h3⟩ := h
  exact ⟨m, by rw [← hx]; exact h2, h3⟩

theorem tellN_cases (n : Int) : (tellN n = .ok n ∧ SafeN n) ∨ tellN n = .err 10 := by
  unfold tellN
  by_cases c : -9007199254740991 ≤ n ∧ n ≤ 9007199254740991
  · exact Or.inl ⟨if_pos c, c⟩
  · exact Or.inr (if_neg c)

theorem tellN_ok {n : Int} (h : SafeN n) : tellN n = .ok n := if_pos h

theorem mul_back {a b : Int} (ha : SafeN a) (b0 : b ≠ 0) (hab : a ≠ 0 ∨ 0 < b) : (∃ p, mulR a b = .ok p ∧ SafeN p ∧ divR p b = .ok a) ∨ mulR a b = .err 10 := by
  unfold mulR
  by_cases c : a = 0 ∨ b = 0
  · rw [if_pos c]
    have a0 : a = 0 := c.resolve_right b0
    subst a0
    have hb : ¬ ((0 : Int) < 0 ∨ b < 0) := by omega
    rw [if_neg hb]
    refine Or.inl ⟨0, rfl, by unfold SafeN; omega, ?_⟩
    unfold divR
    rw [if_neg b0, if_pos rfl, if_neg (by omega)]
  · rw [if_neg c]
    rcases tellN_cases (a * b) with ⟨h1, h2⟩ | h
    · refine Or.inl ⟨_, h1, h2, ?_⟩
      have a0 : a ≠ 0 := fun e => c (Or.inl e)
      have p0 : a * b ≠ 0 := Int.mul_ne_zero a0 b0
      unfold divR
      rw [if_neg b0, if_neg p0, if_neg (by rw [Int.mul_tmod_left]; simp), Int.mul_tdiv_cancel _ b0]
    · exact Or.inr h

theorem div_back {a b : Int} (ha : SafeN a) (b0 : b ≠ 0) : (∃ q, divR a b = .ok q ∧ SafeN q ∧ mulR q b = .ok a) ∨ divR a b = .err 10 := by
  unfold divR
  rw [if_neg b0]
  by_cases a0 : a = 0
  · subst a0
    rw [if_pos rfl]
    by_cases c : b < 0
    · rw [if_pos c]; exact Or.inr rfl
    · rw [if_neg c]
      refine Or.inl ⟨0, rfl, by unfold SafeN; omega, ?_⟩
      unfold mulR
      rw [if_pos (Or.inl rfl), if_neg (by omega)]
  · rw [if_neg a0]
    by_cases m : a.tmod b = 0
    · rw [if_neg (by simp [m])]
      have hq : a.tdiv b * b = a := by
        have := Int.tmod_add_mul_tdiv a b
        rw [m, Int.zero_add, Int.mul_comm] at this; exact this
      have q0 : a.tdiv b ≠ 0 := by intro e; rw [e, Int.zero_mul] at hq; exact a0 hq.symm
      have h1 : (a.tdiv b).natAbs ≤ a.natAbs := by rw [Int.natAbs_tdiv]; exact Nat.div_le_self _ _
      refine Or.inl ⟨_, rfl, by unfold SafeN at *; omega, ?_⟩
      unfold mulR
      rw [if_neg (by intro e; rcases e with e | e; exact q0 e; exact b0 e), hq]
      exact tellN_ok ha
    · rw [if_pos m]; exact Or.inr rfl

theorem rem_back {a b : Int} (ha : SafeN a) (hb : SafeN b) (b0 : b ≠ 0) :
    (∃ r t, remR a b = .ok r ∧ SafeN r ∧ t = a - r ∧ subR a r = .ok t ∧ SafeN t ∧ (t = 0 → r = a) ∧ (t ≠ 0 → ∃ q, SafeN q ∧ divR t b = .ok q) ∧ (r = 0 ∨ (0 < r ∧ 0 < a) ∨ (r < 0 ∧ a < 0)) ∧ -(b.natAbs : Int) < r ∧ r < (b.natAbs : Int)) ∨ remR a b = .err 10 := by
  unfold remR
  rw [if_neg b0]
  by_cases c : a < 0 ∧ a.tmod b = 0
  · rw [if_pos c]; exact Or.inr rfl
  · rw [if_neg c]
    left
    have h1 : (a.tmod b).natAbs = a.natAbs % b.natAbs := Int.natAbs_tmod a b
    have h2 : a.natAbs % b.natAbs < b.natAbs := Nat.mod_lt _ (by omega)
    have h3 : a.natAbs % b.natAbs ≤ a.natAbs := Nat.mod_le _ _
    have h4 := Int.tmod_add_mul_tdiv a b
    have hsgn : (0 ≤ a ∧ 0 ≤ a.tmod b) ∨ (a < 0 ∧ a.tmod b ≤ 0) := by
      by_cases s : a < 0
      · right; refine ⟨s, ?_⟩
        rw [tmod_neg a b s]; omega
      · left; exact ⟨by omega, Int.tmod_nonneg b (by omega)⟩
    have hst : SafeN (a - a.tmod b) := by unfold SafeN at *; omega
    refine ⟨_, _, rfl, by unfold SafeN at *; omega, rfl, tellN_ok hst, hst, fun e => by omega, fun e => ?_, by omega, by omega, by omega⟩
    have e2 : a - a.tmod b = a.tdiv b * b := by rw [Int.mul_comm]; omega
    unfold divR
    rw [if_neg b0, if_neg e, e2, if_neg (by rw [Int.mul_tmod_left]; simp), Int.mul_tdiv_cancel _ b0]
    have h5 : (a.tdiv b).natAbs ≤ a.natAbs := by rw [Int.natAbs_tdiv]; exact Nat.div_le_self _ _
    exact ⟨_, by unfold SafeN at *; omega, rfl⟩

theorem order_zero {n : Int} (h : SafeN n) : FloatKind.f64.format.order (F n) 0 = some (compare n 0) := by
  have := order_F n 0 h.abs (by decide)
  rw [F_zero] at this
  exact this
end Go.Proofs.YtmdmfjlmmojbgaaGreatDoor
/-
  Text of package num beside the document's own, for every float: walks.
-/
namespace Go.Proofs.YtmdmfjlmmojbgaaGreatDoor
open Go.RowKit Fl

def textL (c : Cl) : List UInt8 := match c with
  | .nan => [78, 97, 78]
  | .other => []
  | .ours n => Lib.itoa n
def TextTo (l : List UInt8) (w : World) (e : Ending) (w' : World) : Prop := ∃ t : ByteArray, t.data.toList = l ∧ e = .returned (.string t) ∧ Below w.heap.size w w'

theorem grow_below (w : World) (k : Nat) (os : Array Obj) : Below w.heap.size w (Sort.grow (w.drewN k) os) := by
  refine ⟨rfl, rfl, rfl, ?_, fun i hi => ?_⟩
  · show w.heap.size ≤ (w.heap ++ os).size
    simp
  · show (w.heap ++ os)[i]? = w.heap[i]?
    rw [Array.getElem?_append_left hi]

theorem encode_one (k : Nat) (hk : k < 10) : Utf8.encode (48 + (k : Int)) = ⟨#[UInt8.ofNat (48 + k)]⟩ := by
  have : k = 0 ∨ k = 1 ∨ k = 2 ∨ k = 3 ∨ k = 4 ∨ k = 5 ∨ k = 6 ∨ k = 7 ∨ k = 8 ∨ k = 9 := by omega
  rcases this with rfl | rfl | rfl | rfl | rfl | rfl | rfl | rfl | rfl | rfl <;> decide

theorem size_one (b : UInt8) : (⟨#[b]⟩ : ByteArray).size = 1 := rfl
theorem decDigits_big (k : Nat) (h : 10 ≤ k) : Lib.decDigits k = Lib.decDigits (k / 10) ++ [UInt8.ofNat (48 + k % 10)] := by
  rw [Lib.decDigits]; rw [dif_neg (by omega)]
theorem decDigits_one (k : Nat) (h : k < 10) : Lib.decDigits k = [UInt8.ofNat (48 + k)] := by
  rw [Lib.decDigits]; rw [dif_pos h]

theorem decDigits_len (k : Nat) : (Lib.decDigits k).length ≤ k + 1 := by
  induction k using Nat.strongRecOn with
  | _ k ih =>
    by_cases c : k < 10
    · rw [decDigits_one k c]; simp
    · rw [decDigits_big k (by omega), List.length_append]
      have := ih (k / 10) (by omega)
      simp only [List.length_cons, List.length_nil]; omega

end Go.Proofs.YtmdmfjlmmojbgaaGreatDoor
/-
  The document's own Read, and NumTexts: walks.
-/
namespace Go.Proofs.YtmdmfjlmmojbgaaGreatDoor
open Go.RowKit Fl

def blankB (c : UInt8) : Bool := blanksL.contains c
theorem blankB_eq (c : UInt8) : blankB c = (c.toNat == 9 || c.toNat == 10 || c.toNat == 13 || c.toNat == 32) := by
  unfold blankB blanksL
  have e : ∀ d : UInt8, (c == d) = (c.toNat == d.toNat) := by
    intro d
    rw [Bool.eq_iff_iff, beq_iff_eq, beq_iff_eq]
    exact ⟨fun h => by rw [h], fun h => UInt8.toNat_inj.1 h⟩
  simp only [List.contains_cons, List.contains_nil, Bool.or_false, e]
  simp only [Bool.or_assoc]
  rfl

theorem getElem_list (s : ByteArray) (k : Nat) (h : k < s.size) : s.data.toList[k]? = some s[k] := by
  rw [List.getElem?_eq_getElem (by rw [← size_len]; exact h)]
  simp [ByteArray.getElem_eq_getElem_data]

def BlankTo (l : List UInt8) (k : Nat) : Prop := ∀ (j : Nat) b, j < k → l[j]? = some b → blanksL.contains b = true
def BlankFrom (l : List UInt8) (k : Nat) : Prop := ∀ (j : Nat) b, k ≤ j → l[j]? = some b → blanksL.contains b = true
def StopAt (l : List UInt8) (k : Nat) : Prop := ∀ b, l[k]? = some b → blanksL.contains b = false

theorem blankTo_succ (s : ByteArray) (k : Nat) (h : k < s.size) (hb : blankB s[k] = true) (g : BlankTo s.data.toList k) : BlankTo s.data.toList (k + 1) := by
  intro j b hj hjb
  by_cases c : j = k
  · subst c
    rw [getElem_list s j h] at hjb
    injection hjb with hjb
    rw [← hjb]; exact hb
  · exact g j b (by omega) hjb
theorem blankFrom_pred (s : ByteArray) (k : Nat) (h : k < s.size) (hb : blankB s[k] = true) (g : BlankFrom s.data.toList (k + 1)) : BlankFrom s.data.toList k := by
  intro j b hj hjb
  by_cases c : j = k
  · subst c
    rw [getElem_list s j h] at hjb
    injection hjb with hjb
    rw [← hjb]; exact hb
  · exact g j b (by omega) hjb

theorem empty_extract (s : ByteArray) (m : Nat) : ByteArray.empty.data.toList = (s.extract m m).data.toList := by
  rw [Lib.extract_data, Nat.sub_self, List.take_zero]; rfl

/-- where the two looks for blanks end, there the trimmed text stands -/
theorem trim_at (l : List UInt8) (f t : Nat) (hft : f ≤ t) (ht : t ≤ l.length) (h1 : BlankTo l f) (h2 : StopAt l f) (h3 : BlankFrom l t) (h4 : f < t → StopAt l (t - 1)) : (l.drop f).take (t - f) = Lib.trimS l blanksL := by
  unfold Lib.trimS
  rcases Nat.lt_or_eq_of_le hft with c | c
  · rw [Lib.trimRightS_take l blanksL t ht h3 (fun b _ hb => h4 c b hb)]
    rw [Lib.trimLeftS_drop (l.take t) blanksL f (by rw [List.length_take]; omega)
      (fun j b hj hb => h1 j b hj (by rw [List.getElem?_take_of_lt (by omega)] at hb; exact hb))
      (fun b hb => h2 b (by rw [List.getElem?_take_of_lt c] at hb; exact hb))]
    rw [List.drop_take]
  · subst c
    have hall : f = l.length := by
      by_cases d : f < l.length
      · exfalso
        have e := List.getElem?_eq_getElem d
        have a := h2 _ e
        have b := h3 f _ (Nat.le_refl _) e
        rw [a] at b; cases b
      · omega
    rw [Nat.sub_self, List.take_zero]
    have : Lib.trimRightS l blanksL = l.take 0 := Lib.trimRightS_take l blanksL 0 (Nat.zero_le _) (fun j b _ hb => by
      by_cases d : j < f
      · exact h1 j b d hb
      · exact h3 j b (by omega) hb) (fun b hb => by omega)
    rw [this, List.take_zero]
    rfl

end Go.Proofs.YtmdmfjlmmojbgaaGreatDoor
/-
  The document's own Read at every text: a walk.
-/
namespace Go.Proofs.YtmdmfjlmmojbgaaGreatDoor
open Go.RowKit Fl

def seg (t : ByteArray) (a k : Nat) : List UInt8 := (t.data.toList.take k).drop a
theorem seg_succ (t : ByteArray) (a k : Nat) (h : a ≤ k) (hk : k < t.size) : seg t a (k + 1) = seg t a k ++ [t[k]] := by
  unfold seg
  rw [take_snoc t k hk, List.drop_append_of_le_length]
  rw [List.length_take]
  have := size_len t
  omega
theorem seg_self (t : ByteArray) (a : Nat) : seg t a a = [] := by unfold seg; exact List.drop_eq_nil_of_le (List.length_take_le _ _)
theorem seg_all (t : ByteArray) (a k : Nat) (h : t.size ≤ k) : seg t a k = t.data.toList.drop a := by unfold seg; rw [List.take_of_length_le (by rw [← size_len]; exact h)]
theorem valD_app (x y : List UInt8) : valD x ≤ valD (x ++ y) := by
  unfold valD
  rw [List.foldl_append]
  generalize x.foldl (fun n c => n * 10 + (c.toNat - 48)) 0 = n
  induction y generalizing n with
  | nil => exact Nat.le_refl _
  | cons c r ih => exact Nat.le_trans (by omega) (ih (n * 10 + (c.toNat - 48)))
theorem seg_le (t : ByteArray) (a k : Nat) : valD (seg t a k) ≤ valD (t.data.toList.drop a) := by
  have : t.data.toList.drop a = seg t a k ++ (t.data.toList.drop (max a k)) := by
    unfold seg
    by_cases c : a ≤ k
    · rw [Nat.max_eq_right c, List.drop_take]
      have e : t.data.toList.drop k = (t.data.toList.drop a).drop (k - a) := by rw [List.drop_drop]; congr 1; omega
      rw [e, List.take_append_drop]
    · have e1 : (t.data.toList.take k).drop a = [] := List.drop_eq_nil_of_le (by rw [List.length_take]; omega)
      rw [Nat.max_eq_left (by omega), e1]; rfl
  rw [this]; exact valD_app _ _
theorem drop_dig (t : ByteArray) (a k : Nat) (h : a ≤ k) (hk : k < t.size) (hd : isDig t[k] = false) : (t.data.toList.drop a).all isDig = false := by
  rw [List.all_eq_false]
  refine ⟨t[k], ?_, by simp [hd]⟩
  rw [List.mem_iff_getElem?]
  exact ⟨k - a, by rw [List.getElem?_drop, show a + (k - a) = k by omega]; exact getElem_list t k hk⟩
theorem drop_dig_at (t : ByteArray) (a k : Nat) (h : a ≤ k) (hk : k < t.size) (hd : (t.data.toList.drop a).all isDig = true) : isDig t[k] = true := by
  cases c : isDig t[k]
  · rw [drop_dig t a k h hk c] at hd; cases hd
  · rfl

theorem below_draw2 {w W : World} (h : Below w.heap.size w W) (n : Nat) : Below w.heap.size w (W.drewN n) := ⟨h.os, h.tape, h.output, h.size, h.block⟩
theorem digR_nan (neg : Bool) {l : List UInt8} (h : l = [] ∨ l.all isDig = false) : digR neg l = .nan := by unfold digR; rw [if_pos h]
theorem digR_big (neg : Bool) {l : List UInt8} (h1 : l ≠ []) (h2 : l.all isDig = true) (h3 : 9007199254740991 < valD l) : digR neg l = .err 10 := by
  unfold digR; rw [if_neg (by rintro (h | h); exact h1 h; rw [h2] at h; cases h), if_pos h3]
theorem digR_zero {l : List UInt8} (h1 : l ≠ []) (h2 : l.all isDig = true) (h3 : valD l = 0) : digR true l = .err 10 := by
  unfold digR; rw [if_neg (by rintro (h | h); exact h1 h; rw [h2] at h; cases h), if_neg (by omega), if_pos ⟨rfl, h3⟩]
theorem digR_ok (neg : Bool) {l : List UInt8} (h1 : l ≠ []) (h2 : l.all isDig = true) (h3 : valD l ≤ 9007199254740991) (h4 : neg = true → valD l ≠ 0) : digR neg l = .ok (if neg then -(valD l : Int) else (valD l : Int)) := by
  unfold digR; rw [if_neg (by rintro (h | h); exact h1 h; rw [h2] at h; cases h), if_neg (by omega), if_neg (by rintro ⟨a, b⟩; exact h4 a b)]


end Go.Proofs.YtmdmfjlmmojbgaaGreatDoor
/-
  Int and Bits of package num beside the document's own, for every byte and every two floats: walks.
-/
namespace Go.Proofs.YtmdmfjlmmojbgaaGreatDoor
open Go.RowKit Fl

/-- the 32 bits of what a float is -/
def intC (c : Cl) : Int := wrap32 (wholeI c)

theorem intC_zero : (0 : Int) = wrap32 0 := by unfold wrap32; decide

/-- what the operation of a byte makes of 32 bits and 32 bits -/
def bitsI (op a b : Int) : Int :=
  if op = 38 then bits .and .i32 a b else if op = 124 then bits .or .i32 a b else if op = 94 then bits .xor .i32 a b
  else if op = 60 then wrap32 (a * 2 ^ (b % 32).toNat) else if op = 62 then a / 2 ^ (b % 32).toNat else a % 4294967296 / 2 ^ (b % 32).toNat
def codeB (op : Int) : Bool := op == 38 || op == 124 || op == 94 || op == 60 || op == 62 || op == 117
def bitsR (op : Int) (c d : Cl) : Res := if mayC c && mayC d then (if codeB op then .ok (bitsI op (intC c) (intC d)) else .err 2) else .err 2

theorem intC_in (c : Cl) : -2147483648 ≤ intC c ∧ intC c ≤ 2147483647 := by unfold intC wrap32; omega

theorem div_pow_in (a : Int) (n : Nat) (l u : Int) (hl : l ≤ 0) (hu : 0 ≤ u) (h1 : l ≤ a) (h2 : a ≤ u) : l ≤ a / 2 ^ n ∧ a / 2 ^ n ≤ u := by
  have hp : (0 : Int) < 2 ^ n := Int.pow_pos (by decide)
  constructor
  · rw [Int.le_ediv_iff_mul_le hp]
    have : l * 2 ^ n ≤ l * 1 := Int.mul_le_mul_of_nonpos_left hl (by omega)
    omega
  · have h3 : a / 2 ^ n < u + 1 := by
      rw [Int.ediv_lt_iff_lt_mul hp]
      have : (u + 1) * 1 ≤ (u + 1) * 2 ^ n := Int.mul_le_mul_of_nonneg_left (by omega) (by omega)
      omega
    omega

theorem wrap_i32_in (n : Int) : -2147483648 ≤ IntKind.i32.wrap n ∧ IntKind.i32.wrap n ≤ 2147483647 := by rw [IntKind.wrap_i32]; omega

theorem bitsI_safe (op a b : Int) (ha : -2147483648 ≤ a ∧ a ≤ 2147483647) : SafeN (bitsI op a b) := by
  have k : ∀ n : Int, -2147483648 ≤ n ∧ n ≤ 2147483647 → SafeN n := fun n h => by unfold SafeN; omega
  unfold bitsI
  split
  · exact k _ (wrap_i32_in _)
  · split
    · exact k _ (wrap_i32_in _)
    · split
      · exact k _ (wrap_i32_in _)
      · split
        · exact k _ (by unfold wrap32; omega)
        · split
          · exact k _ (div_pow_in a _ _ _ (by decide) (by decide) ha.1 ha.2)
          · have := div_pow_in (a % 4294967296) (b % 32).toNat 0 4294967295 (by decide) (by decide) (by omega) (by omega)
            unfold SafeN; omega

theorem places_and (b : Int) : bits .and .u32 (b % 4294967296) 31 = b % 32 := by
  have hi : ∀ n : Int, 0 ≤ n → n < 2 ^ 32 → IntKind.u32.wrap n = n := by
    intro n a c; rw [IntKind.wrap_u32]; omega
  have := bits_mask .u32 32 (by decide) hi 5 (by decide) (b % 4294967296) (by omega) (by omega)
  refine this.trans ?_
  omega

theorem shl_same (a : Int) (P : Int) : wrap32 (a % 4294967296 * P % 4294967296) = wrap32 (a * P) := by
  have e : a % 4294967296 * P % 4294967296 = a * P % 4294967296 := by
    rw [Int.mul_emod, Int.emod_emod, ← Int.mul_emod]
  rw [e]; unfold wrap32; omega

theorem encR_ok {n m : Int} (e : m = n) (h : SafeN n) : EncR (.ok n) (F m) 0 := by rw [e]; exact ⟨⟨rfl, h⟩, rfl⟩

end Go.Proofs.YtmdmfjlmmojbgaaGreatDoor
/-
  NumTexts and NumAgain: texts and what they are worth, beside the document's own, and back: walks.
-/
namespace Go.Proofs.YtmdmfjlmmojbgaaGreatDoor
open Go.RowKit Fl

theorem bytes_ext {a b : ByteArray} (h : a.data.toList = b.data.toList) : a = b := Go.WideShapes.bytes_inj h

def TabHere (w : World) : Prop := Lib.TabBelow Tryz.prog w.heap.size w "internal/strconv.uint64pow10" .u64 Lib.pow10Tab

theorem below_size {w a b : World} (h1 : Below w.heap.size w a) (h2 : Below a.heap.size a b) : Below w.heap.size w b := h1.trans (h2.mono h1.size)

end Go.Proofs.YtmdmfjlmmojbgaaGreatDoor
