/-
  NumAgain: texts and bits come back, for every two floats: walks.
-/
import Derived.Test.YtlgbnfcnimjheaaDoorTextLaws
namespace Go.Proofs.YtlgbnfcnimjheaaDoor
open Go.RowKit Fl

theorem dig_of (d : Nat) (h : d < 10) : isDig (UInt8.ofNat (48 + d)) = true ∧ (UInt8.ofNat (48 + d)).toNat - 48 = d := by
  have : d = 0 ∨ d = 1 ∨ d = 2 ∨ d = 3 ∨ d = 4 ∨ d = 5 ∨ d = 6 ∨ d = 7 ∨ d = 8 ∨ d = 9 := by omega
  rcases this with rfl | rfl | rfl | rfl | rfl | rfl | rfl | rfl | rfl | rfl <;> decide

theorem decDigits_val (k : Nat) : valD (Lib.decDigits k) = k ∧ (Lib.decDigits k).all isDig = true ∧ Lib.decDigits k ≠ [] := by
  induction k using Nat.strongRecOn with
  | _ k ih =>
    by_cases c : k < 10
    · obtain ⟨d1, d2⟩ := dig_of k c
      rw [decDigits_one k c]
      refine ⟨?_, by rw [List.all_cons, d1]; rfl, by simp⟩
      show 0 * 10 + ((UInt8.ofNat (48 + k)).toNat - 48) = k
      omega
    · obtain ⟨d1, d2⟩ := dig_of (k % 10) (by omega)
      obtain ⟨i1, i2, i3⟩ := ih (k / 10) (by omega)
      rw [decDigits_big k (by omega)]
      refine ⟨by rw [valD_snoc, i1, d2]; omega, by rw [List.all_append, i2, List.all_cons, d1]; rfl, by simp⟩

theorem dig_no_blank (c : UInt8) (h : isDig c = true) : blanksL.contains c = false ∧ c ≠ 45 ∧ c ≠ 43 := by
  obtain ⟨h1, h2⟩ := (isDig_iff c).1 h
  have hb := blankB_eq c
  unfold blankB at hb
  refine ⟨?_, ?_, ?_⟩
  · rw [hb]
    have a : (c.toNat == 9) = false := by rw [beq_eq_false_iff_ne]; omega
    have b : (c.toNat == 10) = false := by rw [beq_eq_false_iff_ne]; omega
    have d : (c.toNat == 13) = false := by rw [beq_eq_false_iff_ne]; omega
    have e : (c.toNat == 32) = false := by rw [beq_eq_false_iff_ne]; omega
    rw [a, b, d, e]; rfl
  · intro e; rw [e] at h1 h2; revert h1; decide
  · intro e; rw [e] at h1 h2; revert h1; decide

theorem trim_none (l : List UInt8) (h : ∀ c ∈ l, blanksL.contains c = false) : Lib.trimS l blanksL = l := by
  have e := trim_at l 0 l.length (Nat.zero_le _) (Nat.le_refl _) (fun j b hj _ => by omega) (fun b hb => h b (List.mem_of_getElem? hb)) (fun j b hj hb => by rw [List.getElem?_eq_none hj] at hb; cases hb) (fun _ b hb => h b (List.mem_of_getElem? hb))
  rw [← e]; simp

theorem readR_itoa (n : Int) (h : SafeN n) : readR (Lib.itoa n) = .ok n := by
  obtain ⟨s1, s2⟩ := h
  unfold readR
  by_cases c : n < 0
  · obtain ⟨v, a, ne⟩ := decDigits_val n.natAbs
    have hi : Lib.itoa n = 45 :: Lib.decDigits n.natAbs := by unfold Lib.itoa; rw [if_pos c]
    rw [hi, trim_none _ (by
      intro x hx
      rcases List.mem_cons.1 hx with e | e
      · rw [e]; decide
      · exact (dig_no_blank x (List.all_eq_true.1 a x e)).1), bareR_cons, if_pos rfl, digR_ok true ne a (by omega) (fun _ => by omega)]
    simp only [if_true, v]
    congr 1; omega
  · obtain ⟨v, a, ne⟩ := decDigits_val n.toNat
    have hi : Lib.itoa n = Lib.decDigits n.toNat := by unfold Lib.itoa; rw [if_neg c]
    rw [hi, trim_none _ (fun x hx => (dig_no_blank x (List.all_eq_true.1 a x hx)).1)]
    cases hd : Lib.decDigits n.toNat with
    | nil => exact absurd hd ne
    | cons x r =>
      have hx := dig_no_blank x (List.all_eq_true.1 a x (by rw [hd]; exact List.mem_cons_self))
      rw [bareR_cons, if_neg hx.2.1, if_neg hx.2.2, ← hd, digR_ok false ne a (by omega) (by intro e; cases e)]
      simp only [Bool.false_eq_true, if_false, v]
      congr 1; omega

theorem readR_nan : readR [78, 97, 78] = .nan := by
  unfold readR
  rw [trim_none _ (by decide), bareR_cons, if_neg (by decide), if_neg (by decide), digR_nan false (Or.inr (by decide))]

/-- the bits of two numbers, in 32 bits -/
theorem bits_bv (op : BinOp) (a b : Int) : bits op .i32 a b = IntKind.i32.wrap ((match op with
    | .and => BitVec.ofInt 32 a &&& BitVec.ofInt 32 b
    | .or => BitVec.ofInt 32 a ||| BitVec.ofInt 32 b
    | .xor => BitVec.ofInt 32 a ^^^ BitVec.ofInt 32 b
    | _ => BitVec.ofInt 32 a &&& ~~~ BitVec.ofInt 32 b).toNat : Int) := rfl

theorem wrap_i32_bv (x : BitVec 32) : IntKind.i32.wrap (x.toNat : Int) = x.toInt := by
  rw [IntKind.wrap_i32, BitVec.toInt_eq_toNat_cond]
  have := x.isLt
  split <;> omega
theorem ofInt_toInt (x : BitVec 32) : BitVec.ofInt 32 x.toInt = x := BitVec.ofInt_toInt
theorem toInt_ofInt (a : Int) (h : -2147483648 ≤ a ∧ a ≤ 2147483647) : (BitVec.ofInt 32 a).toInt = a := by
  rw [BitVec.toInt_ofInt, Int.bmod_def]
  split <;> omega

theorem xor_back (a b : Int) (ha : -2147483648 ≤ a ∧ a ≤ 2147483647) : bits .xor .i32 (bits .xor .i32 a b) b = a := by
  rw [bits_bv .xor a b, wrap_i32_bv, bits_bv]
  simp only
  rw [ofInt_toInt, BitVec.xor_assoc, BitVec.xor_self, BitVec.xor_zero, wrap_i32_bv, toInt_ofInt a ha]

theorem nat_and_or (a : Nat) : ∀ b : Nat, (a &&& b) + (a ||| b) = a + b := by
  induction a using Nat.strongRecOn with
  | _ a ih =>
    intro b
    by_cases z : a = 0
    · subst z; simp
    · have h := ih (a / 2) (by omega) (b / 2)
      have e1 := Nat.and_div_two (a := a) (b := b)
      have e2 := Nat.or_div_two (a := a) (b := b)
      have m1 : (a &&& b) % 2 = (a % 2) &&& (b % 2) := Nat.and_mod_two_pow (n := 1)
      have m2 : (a ||| b) % 2 = (a % 2) ||| (b % 2) := Nat.or_mod_two_pow (n := 1)
      have hm : ((a % 2) &&& (b % 2)) + ((a % 2) ||| (b % 2)) = a % 2 + b % 2 := by
        have ha : a % 2 = 0 ∨ a % 2 = 1 := by omega
        have hb : b % 2 = 0 ∨ b % 2 = 1 := by omega
        rcases ha with ha | ha <;> rcases hb with hb | hb <;> rw [ha, hb] <;> decide
      rw [← e1, ← e2] at h
      rw [← m1, ← m2] at hm
      omega

theorem and_or_sum (a b : Int) (ha : -2147483648 ≤ a ∧ a ≤ 2147483647) (hb : -2147483648 ≤ b ∧ b ≤ 2147483647) : bits .and .i32 a b + bits .or .i32 a b = a + b := by
  have h1 := toInt_ofInt a ha
  have h2 := toInt_ofInt b hb
  rw [bits_bv .and a b, bits_bv .or a b]
  simp only
  rw [wrap_i32_bv, wrap_i32_bv]
  generalize BitVec.ofInt 32 a = x at *
  generalize BitVec.ofInt 32 b = y at *
  have hn := nat_and_or x.toNat y.toNat
  rw [← h1, ← h2]
  rw [BitVec.toInt_eq_msb_cond (x &&& y), BitVec.toInt_eq_msb_cond (x ||| y), BitVec.toInt_eq_msb_cond x, BitVec.toInt_eq_msb_cond y, BitVec.msb_and, BitVec.msb_or, BitVec.toNat_and, BitVec.toNat_or]
  cases x.msb <;> cases y.msb <;> simp <;> omega

theorem F_sum (a b : Int) (ha : -2147483648 ≤ a ∧ a ≤ 2147483647) (hb : -2147483648 ≤ b ∧ b ≤ 2147483647) : floatBits .add .f64 (F a) (F b) = some (F (a + b)) := add_F a b (by omega) (by omega)

end Go.Proofs.YtlgbnfcnimjheaaDoor
