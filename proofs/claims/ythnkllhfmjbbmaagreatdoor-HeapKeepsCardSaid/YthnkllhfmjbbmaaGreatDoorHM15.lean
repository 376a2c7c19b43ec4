/-
  NumAgain: texts and bits come back, for every two floats: walks.
-/
import Derived.Test.YthnkllhfmjbbmaaGreatDoorHM05
import Derived.Test.YthnkllhfmjbbmaaGreatDoorHM14
import Derived.Deep.Draws
namespace Go.Proofs.YthnkllhfmjbbmaaGreatDoor
open Go.RowKit Fl

theorem dig_of (d : Nat) (h : d < 10) : isDig (UInt8.ofNat (48 + d)) = true ∧ (UInt8.ofNat (48 + d)).toNat - 48 = d := by
  have : d = 0 ∨ d = 1 ∨ d = 2 ∨ d = 3 ∨ d = 4 ∨ d = 5 ∨ d = 6 ∨ d = 7 ∨ d = 8 ∨ d = 9 := by omega
  rcases this with rfl | rfl | rfl | rfl | rfl | rfl | rfl | rfl | rfl | rfl <;> decide

theorem decDigits_val (k : Nat) : valD (Lib.decDigits k) = k ∧ (Lib.decDigits k).all isDig = true ∧ Lib.decDigits k ≠ [] := by
  induction k using Nat.strongRecOn with
  | _ k ih =>
    by_cases c : k < 10
    · obtain ⟨d1, d2⟩ := dig_of k c
      rw [decDigits_one k c]
      refine ⟨?_, by rw [List.all_cons, d1]; rfl, by simp⟩
      show 0 * 10 + ((UInt8.ofNat (48 + k)).toNat - 48) = k
      omega
    · obtain ⟨d1, d2⟩ := dig_of (k % 10) (by omega)
      obtain ⟨i1, i2, i3⟩ := ih (k / 10) (by omega)
      rw [decDigits_big k (by omega)]
      refine ⟨by rw [valD_snoc, i1, d2]; omega, by rw [List.all_append, i2, List.all_cons, d1]; rfl, by simp⟩

theorem dig_no_blank (c : UInt8) (h : isDig c = true) : blanksL.contains c = false ∧ c ≠ 45 ∧ c ≠ 43 := by
  obtain ⟨h1, h2⟩ := (isDig_iff c).1 h
  have hb := blankB_eq c
  unfold blankB at hb
  refine ⟨?_, ?_, ?_⟩
  · rw [hb]
    have a : (c.toNat == 9) = false := by rw [beq_eq_false_iff_ne]; omega
    have b : (c.toNat == 10) = false := by rw [beq_eq_false_iff_ne]; omega
    have d : (c.toNat == 13) = false := by rw [beq_eq_false_iff_ne]; omega
    have e : (c.toNat == 32) = false := by rw [beq_eq_false_iff_ne]; omega
    rw [a, b, d, e]; rfl
  · intro e; rw [e] at h1 h2; revert h1; decide
  · intro e; rw [e] at h1 h2; revert h1; decide

theorem trim_none (l : List UInt8) (h : ∀ c ∈ l, blanksL.contains c = false) : Lib.trimS l blanksL = l := by
  have e := trim_at l 0 l.length (Nat.zero_le _) (Nat.le_refl _) (fun j b hj _ => by omega) (fun b hb => h b (List.mem_of_getElem? hb)) (fun j b hj hb => by rw [List.getElem?_eq_none hj] at hb; cases hb) (fun _ b hb => h b (List.mem_of_getElem? hb))
  rw [← e]; simp

theorem readR_itoa (n : Int) (h : SafeN n) : readR (Lib.itoa n) = .ok n := by
  obtain ⟨s1, s2⟩ := h
  unfold readR
  by_cases c : n < 0
  · obtain ⟨v, a, ne⟩ := decDigits_val n.natAbs
    have hi : Lib.itoa n = 45 :: Lib.decDigits n.natAbs := by unfold Lib.itoa; rw [if_pos c]
    rw [hi, trim_none _ (by
      intro x hx
      rcases List.mem_cons.1 hx with e | e
      · rw [e]; decide
      · exact (dig_no_blank x (List.all_eq_true.1 a x e)).1), bareR_cons, if_pos rfl, digR_ok true ne a (by omega) (fun _ => by omega)]
    simp only [if_true, v]
    congr 1; omega
  · obtain ⟨v, a, ne⟩ := decDigits_val n.toNat
    have hi : Lib.itoa n = Lib.decDigits n.toNat := by unfold Lib.itoa; rw [if_neg c]
    rw [hi, trim_none _ (fun x hx => (dig_no_blank x (List.all_eq_true.1 a x hx)).1)]
    cases hd : Lib.decDigits n.toNat with
    | nil => exact absurd hd ne
    | cons x r =>
      have hx := dig_no_blank x (List.all_eq_true.1 a x (by rw [hd]; exact List.mem_cons_self))
      rw [bareR_cons, if_neg hx.2.1, if_neg hx.2.2, ← hd, digR_ok false ne a (by omega) (by intro e; cases e)]
      simp only [Bool.false_eq_true, if_false, v]
      congr 1; omega

theorem readR_nan : readR [78, 97, 78] = .nan := by
  unfold readR
  rw [trim_none _ (by decide), bareR_cons, if_neg (by decide), if_neg (by decide), digR_nan false (Or.inr (by decide))]

/-- the bits of two numbers, in 32 bits -/
theorem bits_bv (op : BinOp) (a b : Int) : bits op .i32 a b = IntKind.i32.wrap ((match op with
    | .and => BitVec.ofInt 32 a &&& BitVec.ofInt 32 b
    | .or => BitVec.ofInt 32 a ||| BitVec.ofInt 32 b
    | .xor => BitVec.ofInt 32 a ^^^ BitVec.ofInt 32 b
    | _ => BitVec.ofInt 32 a &&& ~~~ BitVec.ofInt 32 b).toNat : Int) := rfl

theorem wrap_i32_bv (x : BitVec 32) : IntKind.i32.wrap (x.toNat : Int) = x.toInt := by
  rw [IntKind.wrap_i32, BitVec.toInt_eq_toNat_cond]
  have := x.isLt
  split <;> omega
theorem ofInt_toInt (x : BitVec 32) : BitVec.ofInt 32 x.toInt = x := BitVec.ofInt_toInt
theorem toInt_ofInt (a : Int) (h : -2147483648 ≤ a ∧ a ≤ 2147483647) : (BitVec.ofInt 32 a).toInt = a := by
  rw [BitVec.toInt_ofInt, Int.bmod_def]
  split <;> omega

theorem xor_back (a b : Int) (ha : -2147483648 ≤ a ∧ a ≤ 2147483647) : bits .xor .i32 (bits .xor .i32 a b) b = a := by
  rw [bits_bv .xor a b, wrap_i32_bv, bits_bv]
  simp only
  rw [ofInt_toInt, BitVec.xor_assoc, BitVec.xor_self, BitVec.xor_zero, wrap_i32_bv, toInt_ofInt a ha]

theorem nat_and_or (a : Nat) : ∀ b : Nat, (a &&& b) + (a ||| b) = a + b := by
  induction a using Nat.strongRecOn with
  | _ a ih =>
    intro b
    by_cases z : a = 0
    · subst z; simp
    · have h := ih (a / 2) (by omega) (b / 2)
      have e1 := Nat.and_div_two (a := a) (b := b)
      have e2 := Nat.or_div_two (a := a) (b := b)
      have m1 : (a &&& b) % 2 = (a % 2) &&& (b % 2) := Nat.and_mod_two_pow (n := 1)
      have m2 : (a ||| b) % 2 = (a % 2) ||| (b % 2) := Nat.or_mod_two_pow (n := 1)
      have hm : ((a % 2) &&& (b % 2)) + ((a % 2) ||| (b % 2)) = a % 2 + b % 2 := by
        have ha : a % 2 = 0 ∨ a % 2 = 1 := by omega
        have hb : b % 2 = 0 ∨ b % 2 = 1 := by omega
        rcases ha with ha | ha <;> rcases hb with hb | hb <;> rw [ha, hb] <;> decide
      rw [← e1, ← e2] at h
      rw [← m1, ← m2] at hm
      omega

theorem and_or_sum (a b : Int) (ha : -2147483648 ≤ a ∧ a ≤ 2147483647) (hb : -2147483648 ≤ b ∧ b ≤ 2147483647) : bits .and .i32 a b + bits .or .i32 a b = a + b := by
  have h1 := toInt_ofInt a ha
  have h2 := toInt_ofInt b hb
  rw [bits_bv .and a b, bits_bv .or a b]
  simp only
  rw [wrap_i32_bv, wrap_i32_bv]
  generalize BitVec.ofInt 32 a = x at *
  generalize BitVec.ofInt 32 b = y at *
  have hn := nat_and_or x.toNat y.toNat
  rw [← h1, ← h2]
  rw [BitVec.toInt_eq_msb_cond (x &&& y), BitVec.toInt_eq_msb_cond (x ||| y), BitVec.toInt_eq_msb_cond x, BitVec.toInt_eq_msb_cond y, BitVec.msb_and, BitVec.msb_or, BitVec.toNat_and, BitVec.toNat_or]
  cases x.msb <;> cases y.msb <;> simp <;> omega

theorem F_sum (a b : Int) (ha : -2147483648 ≤ a ∧ a ≤ 2147483647) (hb : -2147483648 ≤ b ∧ b ≤ 2147483647) : floatBits .add .f64 (F a) (F b) = some (F (a + b)) := add_F a b (by omega) (by omega)

end Go.Proofs.YthnkllhfmjbbmaaGreatDoor
/-
  Values: what they are, and when they are the same: mathematics.
-/
namespace Go.Proofs.YthnkllhfmjbbmaaGreatDoor.S
open Go.RowKit Fl

def feq (x y : Nat) : Bool := FloatKind.f64.format.order x y == some .eq
/-- what a float is worth: no number, or a whole number (a minus nought is 0) -/
def NV (x : Nat) (o : Option Int) : Prop := x < 2 ^ 64 ∧ ((IsNaN x ∧ o = none) ∨ (x = 2 ^ 63 ∧ o = some 0) ∨ ∃ n, SafeN n ∧ x = F n ∧ o = some n)
theorem cmp_eq (a b : Int) : (some (compare a b) == some Ordering.eq) = (some a == some b) := by
  rcases Int.lt_trichotomy a b with c | c | c
  · rw [Int.compare_eq_lt.2 c, Bool.eq_iff_iff]; simp; omega
  · subst c; simp
  · rw [Int.compare_eq_gt.2 c, Bool.eq_iff_iff]; simp; omega
theorem feq_nv {x y : Nat} {o p : Option Int} (h : NV x o) (g : NV y p) : feq x y = (o.isSome && o == p) := by
  obtain ⟨_, h⟩ := h
  obtain ⟨_, g⟩ := g
  rcases h with ⟨h, rfl⟩ | ⟨rfl, rfl⟩ | ⟨n, hn, rfl, rfl⟩
  · have e : FloatKind.f64.format.order x y = none := order_nan_l y h
    unfold feq; rw [e]; rfl
  · rcases g with ⟨g, rfl⟩ | ⟨rfl, rfl⟩ | ⟨m, hm, rfl, rfl⟩
    · have e : FloatKind.f64.format.order (2 ^ 63) y = none := order_nan_r _ g
      unfold feq; rw [e]; rfl
    · have e : FloatKind.f64.format.order (2 ^ 63) (2 ^ 63) = some .eq := order_m0_self
      unfold feq; rw [e]; rfl
    · have e : FloatKind.f64.format.order (2 ^ 63) (F m) = some (compare 0 m) := (order_m0 m hm.abs).1
      unfold feq; rw [e, cmp_eq]; rfl
  · rcases g with ⟨g, rfl⟩ | ⟨rfl, rfl⟩ | ⟨m, hm, rfl, rfl⟩
    · have e : FloatKind.f64.format.order (F n) y = none := order_nan_r _ g
      unfold feq; rw [e]; rfl
    · have e : FloatKind.f64.format.order (F n) (2 ^ 63) = some (compare n 0) := (order_m0 n hn.abs).2
      unfold feq; rw [e, cmp_eq]; rfl
    · have e : FloatKind.f64.format.order (F n) (F m) = some (compare n m) := order_F n m hn.abs hm.abs
      unfold feq; rw [e, cmp_eq]; rfl
theorem nv_cls {c : Cl} {x : Nat} (h : Is c x) (hm : mayC c = true) : ∃ o, NV x o ∧ ((c = .nan ∧ o = none) ∨ ∃ n, c = .ours n ∧ o = some n) := by
  cases c with
  | nan => exact ⟨none, ⟨h.1, Or.inl ⟨h.2, rfl⟩⟩, Or.inl ⟨rfl, rfl⟩⟩
  | other => cases hm
  | ours n => exact ⟨some n, ⟨h.lt, Or.inr (Or.inr ⟨n, h.2, h.1, rfl⟩)⟩, Or.inr ⟨n, rfl, rfl⟩⟩

/-! ### values that may be -/
inductive Vl where
  | und | nul | boo (x : Nat) | num (x : Nat) | str (s : ByteArray) | sym (r : Int) | obj (k : Nat) (r : Int)
namespace Vl
def kd : Vl → Nat
  | .und => 0 | .nul => 1 | .boo _ => 2 | .num _ => 3 | .str _ => 4 | .sym _ => 5 | .obj k _ => k
def fl : Vl → Nat
  | .boo x => x | .num x => x | _ => 0
def st : Vl → ByteArray
  | .str s => s | _ => ⟨#[]⟩
def rf : Vl → Int
  | .sym r => r | .obj _ r => r | _ => 0
def val (v : Vl) : Value := .agg #[.int .u8 (v.kd : Int), .float .f64 v.fl, .string v.st, .int .i64 v.rf]
def ok : Vl → Prop
  | .und => True
  | .nul => True
  | .boo x => x = 0 ∨ x = 2 ^ 63 ∨ x = 4607182418800017408
  | .num x => ∃ c, Is c x ∧ mayC c = true
  | .str s => s.size ≤ 4096
  | .sym r => 0 ≤ r ∧ r < 2 ^ 63
  | .obj k r => (k = 6 ∨ k = 7 ∨ k = 8) ∧ 0 ≤ r ∧ r < 2 ^ 63
end Vl

def objB (k : Nat) : Bool := k == 6 || k == 7 || k == 8
def calB (k : Nat) : Bool := k == 7 || k == 8
/-- same, of any values -/
def sameG (k x : Nat) (s : ByteArray) (r : Int) (k' x' : Nat) (s' : ByteArray) (r' : Int) : Bool :=
  if objB k && objB k' then r == r' else if k ≠ k' then false else if k = 0 ∨ k = 1 then true else if k = 2 then feq x x' else if k = 3 then feq x x' || (!feq x x && !feq x' x')
  else if k = 4 then s.data.toList == s'.data.toList else if k = 5 then r == r' else false
def sameV (a b : Vl) : Bool := sameG a.kd a.fl a.st a.rf b.kd b.fl b.st b.rf
def noneV (v : Vl) : Bool := v.kd == 3 && !feq v.fl v.fl
def truthV (v : Vl) : Bool := match v with
  | .und => false
  | .nul => false
  | .boo x => !feq x 0 && feq x x
  | .num x => !feq x 0 && feq x x
  | .str s => !s.data.toList.isEmpty
  | _ => true
def typeV (v : Vl) : List UInt8 := match v with
  | .und => [117, 110, 100, 101, 102, 105, 110, 101, 100]
  | .nul => [111, 98, 106, 101, 99, 116]
  | .boo _ => [98, 111, 111, 108, 101, 97, 110]
  | .num _ => [110, 117, 109, 98, 101, 114]
  | .str _ => [115, 116, 114, 105, 110, 103]
  | .sym _ => [115, 121, 109, 98, 111, 108]
  | .obj k _ => if k = 6 then [111, 98, 106, 101, 99, 116] else [102, 117, 110, 99, 116, 105, 111, 110]
/-- the text of a value -/
def TextV (v : Vl) (l : List UInt8) : Prop := match v with
  | .und => l = [117, 110, 100, 101, 102, 105, 110, 101, 100]
  | .nul => l = [110, 117, 108, 108]
  | .boo x => l = if feq x 0 then [102, 97, 108, 115, 101] else [116, 114, 117, 101]
  | .num x => ∃ c, Is c x ∧ mayC c = true ∧ l = textL c
  | .str s => l = quoteL s.data.toList
  | .sym r => l = [115, 121, 109, 98, 111, 108, 32] ++ Lib.itoa r
  | .obj _ r => l = [111, 98, 106, 101, 99, 116, 32] ++ Lib.itoa r

theorem boo_nv {x : Nat} (h : (Vl.boo x).ok) : ∃ o, NV x o ∧ (o = some 0 ∨ o = some 1) := by
  rcases h with rfl | rfl | rfl
  · exact ⟨some 0, ⟨by decide, Or.inr (Or.inr ⟨0, by unfold SafeN; omega, F_zero.symm, rfl⟩)⟩, Or.inl rfl⟩
  · exact ⟨some 0, ⟨by decide, Or.inr (Or.inl ⟨rfl, rfl⟩)⟩, Or.inl rfl⟩
  · exact ⟨some 1, ⟨by decide, Or.inr (Or.inr ⟨1, by unfold SafeN; omega, by decide, rfl⟩)⟩, Or.inr rfl⟩
theorem num_nv {x : Nat} (h : (Vl.num x).ok) : ∃ o, NV x o := by
  obtain ⟨c, hc, hm⟩ := h
  obtain ⟨o, ho, _⟩ := nv_cls hc hm
  exact ⟨o, ho⟩
theorem nv_zero : NV 0 (some 0) := ⟨by decide, Or.inr (Or.inr ⟨0, by unfold SafeN; omega, F_zero.symm, rfl⟩)⟩
theorem beq_opt (o p : Option Int) : (o == p) = (p == o) := by
  rw [Bool.eq_iff_iff]; simp only [beq_iff_eq]; exact eq_comm

/-- the same, in one form: of one kind, or two objects -/
theorem obj_kd {k : Nat} (h : k = 6 ∨ k = 7 ∨ k = 8) : objB k = true := by rcases h with rfl | rfl | rfl <;> rfl
theorem sameV_refl {a : Vl} (h : a.ok) : sameV a a = true := by
  cases a with
  | und => rfl
  | nul => rfl
  | boo x =>
    obtain ⟨o, ho, h1⟩ := boo_nv h
    show feq x x = true
    rw [feq_nv ho ho]
    rcases h1 with rfl | rfl <;> rfl
  | num x =>
    obtain ⟨o, ho⟩ := num_nv h
    show (feq x x || (!feq x x && !feq x x)) = true
    cases feq x x <;> rfl
  | str s => show (s.data.toList == s.data.toList) = true; exact beq_self_eq_true _
  | sym r => show (r == r) = true; exact beq_self_eq_true _
  | obj k r =>
    unfold sameV sameG
    have : objB k = true := obj_kd h.1
    simp only [Vl.kd, this, Bool.and_self, if_true, Vl.rf, beq_self_eq_true]
/-- which values are the same -/
def Sm (a b : Vl) : Prop := match a, b with
  | .und, .und => True
  | .nul, .nul => True
  | .boo x, .boo y => ∃ o, NV x o ∧ NV y o
  | .num x, .num y => ∃ o, NV x o ∧ NV y o
  | .str s, .str t => s.data.toList = t.data.toList
  | .sym r, .sym q => r = q
  | .obj _ r, .obj _ q => r = q
  | _, _ => False
theorem nv_fun {x : Nat} {o p : Option Int} (h : NV x o) (g : NV x p) : o = p := by
  have e := feq_nv h g
  have e1 := feq_nv h h
  have e2 := feq_nv g g
  rw [e1] at e
  cases o with
  | none =>
    cases p with
    | none => rfl
    | some p => rw [e1] at e2; simp at e2
  | some o => simpa using e
theorem diffV {a b : Vl} (h1 : objB a.kd = false ∨ objB b.kd = false) (h2 : a.kd ≠ b.kd) : sameV a b = false := by
  have h : (objB a.kd && objB b.kd) = false := by rcases h1 with h | h <;> simp [h]
  unfold sameV sameG
  rw [if_neg (by rw [h]; decide), if_pos h2]
theorem same_sm {a b : Vl} (ha : a.ok) (hb : b.ok) : sameV a b = true ↔ Sm a b := by
  cases a <;> cases b
  case und.und => exact ⟨fun _ => trivial, fun _ => rfl⟩
  case nul.nul => exact ⟨fun _ => trivial, fun _ => rfl⟩
  case boo.boo x y =>
    obtain ⟨o, ho, h1⟩ := boo_nv ha
    obtain ⟨p, hp, h2⟩ := boo_nv hb
    show feq x y = true ↔ _
    rw [feq_nv ho hp]
    constructor
    · intro h
      have h : o = p := by rw [Bool.and_eq_true] at h; exact beq_iff_eq.1 h.2
      exact ⟨o, ho, h ▸ hp⟩
    · rintro ⟨q, h3, h4⟩
      rw [nv_fun ho h3, nv_fun hp h4] at *
      rcases h1 with rfl | rfl <;> rfl
  case num.num x y =>
    obtain ⟨o, ho⟩ := num_nv ha
    obtain ⟨p, hp⟩ := num_nv hb
    show (feq x y || (!feq x x && !feq y y)) = true ↔ _
    rw [feq_nv ho hp, feq_nv ho ho, feq_nv hp hp]
    constructor
    · intro h
      have h : o = p := by cases o <;> cases p <;> simp at h ⊢; exact h
      exact ⟨o, ho, h ▸ hp⟩
    · rintro ⟨q, h3, h4⟩
      rw [nv_fun ho h3, nv_fun hp h4] at *
      cases q <;> simp
  case str.str s t => exact beq_iff_eq
  case sym.sym r q => exact beq_iff_eq
  case obj.obj k r j q =>
    unfold sameV sameG
    have h1 : objB k = true := obj_kd ha.1
    have h2 : objB j = true := obj_kd hb.1
    simp only [Vl.kd, h1, h2, Bool.and_self, if_true, Vl.rf]
    exact beq_iff_eq
  all_goals
    refine ⟨fun h => ?_, fun h => h.elim⟩
    exfalso
    revert h
    rw [diffV]
    · exact fun h => by cases h
    · first | exact .inl rfl | exact .inr rfl
    · first
        | (simp only [Vl.kd]; omega)
        | (have h := ha.1; simp only [Vl.kd]; omega)
        | (have h := hb.1; simp only [Vl.kd]; omega)
theorem sm_symm {a b : Vl} (h : Sm a b) : Sm b a := by
  cases a <;> cases b <;> first | exact h.elim | exact h.symm | trivial | (obtain ⟨o, h1, h2⟩ := h; exact ⟨o, h2, h1⟩)
theorem sm_trans {a b c : Vl} (h : Sm a b) (g : Sm b c) : Sm a c := by
  cases a <;> cases b <;> first
    | exact h.elim
    | (cases c <;> first
        | exact g.elim
        | trivial
        | exact Eq.trans h g
        | (obtain ⟨o, h1, h2⟩ := h; obtain ⟨p, g1, g2⟩ := g; have e := nv_fun h2 g1; subst e; exact ⟨o, h1, g2⟩))
theorem sameV_symm {a b : Vl} (ha : a.ok) (hb : b.ok) : sameV a b = sameV b a := by
  rw [Bool.eq_iff_iff, same_sm ha hb, same_sm hb ha]; exact ⟨sm_symm, sm_symm⟩
theorem sameV_trans {a b c : Vl} (ha : a.ok) (hb : b.ok) (hc : c.ok) (h : sameV a b = true) (g : sameV b c = true) : sameV a c = true :=
  (same_sm ha hc).2 (sm_trans ((same_sm ha hb).1 h) ((same_sm hb hc).1 g))
theorem same_truth {a b : Vl} (ha : a.ok) (hb : b.ok) (h : sameV a b = true) : truthV a = truthV b := by
  have h := (same_sm ha hb).1 h
  cases a <;> cases b <;> first
    | exact h.elim
    | rfl
    | (obtain ⟨o, h1, h2⟩ := h; unfold truthV; dsimp only; rw [feq_nv h1 nv_zero, feq_nv h2 nv_zero, feq_nv h1 h1, feq_nv h2 h2])
    | (have h : _ = _ := h; unfold truthV; dsimp only; rw [h])
theorem same_type {a b : Vl} (ha : a.ok) (hb : b.ok) (h : sameV a b = true) (hc : calB a.kd = calB b.kd) : typeV a = typeV b := by
  have h := (same_sm ha hb).1 h
  cases a <;> cases b <;> first
    | exact h.elim
    | rfl
    | (have h1 := ha.1; have h2 := hb.1; revert hc; rcases h1 with rfl | rfl | rfl <;> rcases h2 with rfl | rfl | rfl <;> first | exact fun _ => rfl | (intro h; simp [Vl.kd, calB] at h))
theorem same_text {a b : Vl} {l m : List UInt8} (ha : a.ok) (hb : b.ok) (h0 : sameV a b = true) (hl : TextV a l) (hm : TextV b m) : l = m := by
  have h := (same_sm ha hb).1 h0
  clear h0
  cases a <;> cases b <;> first
    | exact h.elim
    | exact hl.trans hm.symm
    | skip
  case boo.boo x y =>
    obtain ⟨o, h1, h2⟩ := h
    have hl : l = _ := hl
    have hm : m = _ := hm
    rw [hl, hm, feq_nv h1 nv_zero, feq_nv h2 nv_zero]
  case num.num x y =>
    obtain ⟨o, h1, h2⟩ := h
    obtain ⟨c, hc, hcm, rfl⟩ := hl
    obtain ⟨d, hd, hdm, rfl⟩ := hm
    obtain ⟨p, p1, p2⟩ := nv_cls hc hcm
    obtain ⟨q, q1, q2⟩ := nv_cls hd hdm
    obtain rfl := nv_fun h1 p1
    obtain rfl := nv_fun h2 q1
    rcases p2 with ⟨rfl, rfl⟩ | ⟨n, rfl, rfl⟩ <;> rcases q2 with ⟨rfl, e⟩ | ⟨k, rfl, e⟩
    · rfl
    · cases e
    · cases e
    · cases e; rfl
  case str.str s t =>
    have hl : l = _ := hl
    have hm : m = _ := hm
    have h : s.data.toList = t.data.toList := h
    rw [hl, hm, h]
  case sym.sym r q =>
    have hl : l = _ := hl
    have hm : m = _ := hm
    have h : r = q := h
    rw [hl, hm, h]
  case obj.obj k r j q =>
    have hl : l = _ := hl
    have hm : m = _ := hm
    have h : r = q := h
    rw [hl, hm, h]
end Go.Proofs.YthnkllhfmjbbmaaGreatDoor.S
/-
  The small functions of package value: walks, for any value.
-/
namespace Go.Proofs.YthnkllhfmjbbmaaGreatDoor.S
open Go.RowKit Fl

theorem kd_eq (k n : Nat) : ((k : Int) == (n : Int)) = (k == n) := by rw [Bool.eq_iff_iff]; simp only [beq_iff_eq]; omega
theorem Calls_v (k x : Nat) (s : ByteArray) (r : Int) (w : World) : Calls Tryz.prog 104 #[.agg #[.int .u8 (k : Int), .float .f64 x, .string s, .int .i64 r]] w fun e w' => e = .returned (.bool (calB k)) ∧ Below w.heap.size w w' := by
  have e7 : ((k : Int) == 7) = (k == 7) := kd_eq k 7
  have e8 : ((k : Int) == 8) = (k == 8) := kd_eq k 8
  unfold calB
  cases h7 : (k == 7) <;> cases h8 : (k == 8)
  all_goals
    rw [h7] at e7
    rw [h8] at e8
    go_enter Tryz.func104, Tryz.ntmps104
    go_wp2
    go_ret
    exact ⟨rfl, vzero _ _⟩
theorem IsObject_v (k x : Nat) (s : ByteArray) (r : Int) (w : World) : Calls Tryz.prog 66 #[.agg #[.int .u8 (k : Int), .float .f64 x, .string s, .int .i64 r]] w fun e w' => e = .returned (.bool (objB k)) ∧ Below w.heap.size w w' := by
  have e6 : ((k : Int) == 6) = (k == 6) := kd_eq k 6
  have ho : objB k = (k == 6 || calB k) := by unfold objB calB; cases (k == 6) <;> rfl
  have kc := fun w => Calls_v k x s r w
  rw [ho]
  cases h6 : (k == 6)
  all_goals
    rw [h6] at e6
    go_enter Tryz.func66, Tryz.ntmps66
    go_wp2_with (go_at_call 104; refine (kc _).mono ?_; rintro e w1 ⟨rfl, h1⟩)
    go_ret
  · exact ⟨rfl, vafter h1⟩
  · exact ⟨rfl, vzero _ _⟩
theorem IsNaN_f (x : Nat) (w : World) : Calls Tryz.prog 105 #[.float .f64 x] w fun e w' => e = .returned (.bool (FloatKind.f64.format.order x x != some .eq)) ∧ w = w' := by
  go_enter Tryz.func105, Tryz.ntmps105
  go_wp2
  go_ret
  exact ⟨rfl, rfl⟩
theorem none_v (k x : Nat) (s : ByteArray) (r : Int) (w : World) : Calls Tryz.prog 67 #[.agg #[.int .u8 (k : Int), .float .f64 x, .string s, .int .i64 r]] w fun e w' => e = .returned (.bool (k == 3 && !feq x x)) ∧ Below w.heap.size w w' := by
  have e3 : ((k : Int) == 3) = (k == 3) := kd_eq k 3
  have kn := fun w => IsNaN_f x w
  cases h3 : (k == 3)
  all_goals
    rw [h3] at e3
    go_enter Tryz.func67, Tryz.ntmps67
    go_wp2_with (go_at_call 105; refine (kn _).mono ?_; rintro e w' ⟨rfl, rfl⟩)
    go_ret
    exact ⟨rfl, vzero _ _⟩
end Go.Proofs.YthnkllhfmjbbmaaGreatDoor.S
