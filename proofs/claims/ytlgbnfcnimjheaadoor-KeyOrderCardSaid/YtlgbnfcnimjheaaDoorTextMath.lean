/-
  Texts of digits and what they are worth; floats that have grown beyond 53 bits stay there: plain lemmas.
-/
import Derived.Test.YtlgbnfcnimjheaaDoorNumOps
import Derived.Lib.SlTrimSet
import Derived.Lib.ItoaNum
namespace Go.Proofs.YtlgbnfcnimjheaaDoor
open Go.RowKit Fl Ieee

def isDig (c : UInt8) : Bool := decide (48 ≤ c.toNat) && decide (c.toNat ≤ 57)
def valD (l : List UInt8) : Nat := l.foldl (fun n c => n * 10 + (c.toNat - 48)) 0
theorem valD_snoc (l : List UInt8) (c : UInt8) : valD (l ++ [c]) = valD l * 10 + (c.toNat - 48) := by unfold valD; rw [List.foldl_append]; rfl

/-- digits behind a sign -/
def digR (neg : Bool) (l : List UInt8) : Res :=
  if l = [] ∨ l.all isDig = false then .nan
  else if 9007199254740991 < valD l then .err 10
  else if neg = true ∧ valD l = 0 then .err 10
  else .ok (if neg then -(valD l : Int) else (valD l : Int))
/-- a text without blanks at its ends -/
def bareR : List UInt8 → Res
  | [] => .ok 0
  | c :: r => if c = 45 then digR true r else if c = 43 then digR false r else digR false (c :: r)
def blanksL : List UInt8 := [9, 10, 13, 32]
def readR (l : List UInt8) : Res := bareR (Lib.trimS l blanksL)

def Acc (n v : Nat) : Prop := (n < 2 ^ 53 ∧ v = F (n : Int)) ∨ (2 ^ 53 ≤ n ∧ Big v ∧ sgn v = false ∧ v < 2 ^ 64)

theorem big_log {m : Nat} {e : Int} (he : -1074 ≤ e) (h : 2 ^ 53 * U ≤ m * 2 ^ (e + 1074).toNat) : m ≠ 0 ∧ 53 ≤ (m.log2 : Int) + e := by
  obtain ⟨k, hk⟩ : ∃ k, k = 1074 := ⟨_, rfl⟩
  rw [U_pow k hk, ← Nat.pow_add] at h
  have hp := Nat.two_pow_pos (53 + k)
  have m0 : m ≠ 0 := by intro c; rw [c, Nat.zero_mul] at h; omega
  refine ⟨m0, ?_⟩
  have hne : m * 2 ^ (e + 1074).toNat ≠ 0 := by omega
  have := (Nat.le_log2 hne).2 h
  rw [log2_scale _ _ m0] at this
  omega

theorem log2_ge {m n k : Nat} (m0 : m ≠ 0) (h : m * 2 ^ k ≤ n) : n ≠ 0 ∧ m.log2 + k ≤ n.log2 := by
  have hp := Nat.mul_pos (Nat.pos_of_ne_zero m0) (Nat.two_pow_pos k)
  refine ⟨by omega, (Nat.le_log2 (by omega)).2 (Nat.le_trans ?_ h)⟩
  rw [Nat.pow_add]
  exact Nat.mul_le_mul_right _ (Nat.log2_self_le m0)

theorem big_inf : Big (double.word false double.infRung) ∧ sgn (double.word false double.infRung) = false ∧ double.word false double.infRung < 2 ^ 64 := by
  have e4 : double.infRung = 2047 * 2 ^ 52 := by decide
  rw [e4]
  have w := word_sgn false (2047 * 2 ^ 52) (by decide)
  exact ⟨⟨by rw [w.2.1]; exact Nat.le_refl _, by rw [w.2.1]; exact ru_inf⟩, w.1, w.2.2⟩

theorem nearest_grown (mag : Nat) (place : Int) (h : mag ≠ 0) (hb : 53 ≤ place + mag.log2) : Big (double.nearest false mag place) ∧ sgn (double.nearest false mag place) = false ∧ double.nearest false mag place < 2 ^ 64 :=
  ⟨nearest_big _ _ _ h hb, (nearest_all _ _ _ h).1, double.nearest_lt _ _ _⟩

theorem big_mul {v : Nat} (hb : Big v) (hs : sgn v = false) : ∃ y, floatBits .mul .f64 v (F 10) = some y ∧ Big y ∧ sgn y = false ∧ y < 2 ^ 64 := by
  obtain ⟨j, g, _, _⟩ := read_F 10 (by decide)
  show ∃ y, double.mul v (F 10) = some y ∧ _
  unfold Format.mul
  rw [g]
  have d10 : decide ((10 : Int) < 0) = false := by decide
  rw [d10]
  rcases Nat.lt_or_eq_of_le hb.1 with c | c
  · obtain ⟨m, e, h1, h2, _, h4, _⟩ := read_fin c
    rw [h1, hs]
    obtain ⟨m0, hl⟩ := big_log h2 (by rw [h4]; exact hb.2)
    refine ⟨_, rfl, ?_⟩
    obtain ⟨n0, hn⟩ := log2_ge (n := m * ((10 : Int).natAbs * 2 ^ j)) (k := j) m0 (by
      have : m * 2 ^ j ≤ m * 2 ^ j * 10 := Nat.le_mul_of_pos_right _ (by decide)
      have e2 : m * ((10 : Int).natAbs * 2 ^ j) = m * 2 ^ j * 10 := by rw [show (10 : Int).natAbs = 10 from rfl, Nat.mul_comm 10, Nat.mul_assoc]
      rw [e2]; exact this)
    exact nearest_grown _ _ n0 (by omega)
  · rw [read_inf c, hs]
    unfold Datum.product
    have n0 : (10 : Int).natAbs * 2 ^ j ≠ 0 := by have := Nat.mul_pos (show 0 < (10 : Int).natAbs by decide) (Nat.two_pow_pos j); omega
    simp only [n0, if_false, Option.map_some]
    exact ⟨_, rfl, big_inf⟩

theorem big_add {v d : Nat} (hb : Big v) (hs : sgn v = false) (hd : d ≤ 9) : ∃ y, floatBits .add .f64 v (F (d : Int)) = some y ∧ Big y ∧ sgn y = false ∧ y < 2 ^ 64 := by
  obtain ⟨j, g, _, _⟩ := read_F (d : Int) (by omega)
  show ∃ y, double.add v (F (d : Int)) = some y ∧ _
  unfold Format.add
  rw [g]
  have dd : decide ((d : Int) < 0) = false := decide_eq_false (by omega)
  rw [dd]
  rcases Nat.lt_or_eq_of_le hb.1 with c | c
  · obtain ⟨m, e, h1, h2, _, h4, _⟩ := read_fin c
    rw [h1, hs]
    obtain ⟨m0, hl⟩ := big_log h2 (by rw [h4]; exact hb.2)
    unfold Datum.sum
    simp only [Option.map_some]
    obtain ⟨T, hT⟩ : ∃ T : Nat, (signed false m (e - min e (-(j : Int))).toNat + signed false ((d : Int).natAbs * 2 ^ j) (-(j : Int) - min e (-(j : Int))).toNat) = (T : Int) ∧ m * 2 ^ (e - min e (-(j : Int))).toNat ≤ T := by
      rw [signed_eq, signed_eq]
      simp only [Bool.false_eq_true, if_false]
      exact ⟨m * 2 ^ (e - min e (-(j : Int))).toNat + (d : Int).natAbs * 2 ^ j * 2 ^ (-(j : Int) - min e (-(j : Int))).toNat, by omega, by omega⟩
    rw [hT.1]
    obtain ⟨n0, hn⟩ := log2_ge m0 hT.2
    have t0 : ¬ ((T : Int) = 0) := by omega
    have t1 : decide ((T : Int) < 0) = false := decide_eq_false (by omega)
    simp only [t0, if_false, t1, Int.natAbs_natCast]
    exact ⟨_, rfl, nearest_grown _ _ n0 (by omega)⟩
  · rw [read_inf c, hs]
    exact ⟨_, rfl, big_inf⟩

theorem F_grown (n : Nat) (h : 2 ^ 53 ≤ n) : Big (F (n : Int)) ∧ sgn (F (n : Int)) = false ∧ F (n : Int) < 2 ^ 64 :=
  ⟨F_big _ (by omega), by rw [sgn_F]; exact decide_eq_false (by omega), F_lt _⟩

theorem acc_step {n v d : Nat} (h : Acc n v) (hd : d ≤ 9) : ∃ v1 v2, floatBits .mul .f64 v (F 10) = some v1 ∧ floatBits .add .f64 v1 (F (d : Int)) = some v2 ∧ Acc (n * 10 + d) v2 := by
  rcases h with ⟨h1, rfl⟩ | ⟨h1, h2, h3, h4⟩
  · have hm : floatBits .mul .f64 (F (n : Int)) (F 10) = some (F ((n * 10 : Nat) : Int)) := by
      have := mul_F (n : Int) 10 (by omega) (by decide)
      refine (show floatBits .mul .f64 (F (n : Int)) (F 10) = _ from this).trans ?_
      by_cases z : n = 0
      · subst z; decide
      · rw [if_neg (by omega)]; congr 2
    by_cases c : n * 10 < 2 ^ 53
    · refine ⟨_, _, hm, add_F _ _ (by omega) (by omega), ?_⟩
      have e : ((n * 10 : Nat) : Int) + (d : Int) = ((n * 10 + d : Nat) : Int) := by omega
      rw [e]
      by_cases c2 : n * 10 + d < 2 ^ 53
      · exact Or.inl ⟨c2, rfl⟩
      · obtain ⟨b1, b2, b3⟩ := F_grown (n * 10 + d) (by omega)
        exact Or.inr ⟨by omega, b1, b2, b3⟩
    · obtain ⟨b1, b2, b3⟩ := F_grown (n * 10) (by omega)
      obtain ⟨y, hy, y1, y2, y3⟩ := big_add (d := d) b1 b2 hd
      exact ⟨_, y, hm, hy, Or.inr ⟨by omega, y1, y2, y3⟩⟩
  · obtain ⟨y, hy, y1, y2, y3⟩ := big_mul h2 h3
    obtain ⟨z, hz, z1, z2, z3⟩ := big_add (d := d) y1 y2 hd
    exact ⟨y, z, hy, hz, Or.inr ⟨by omega, z1, z2, z3⟩⟩

theorem take_snoc (s : ByteArray) (k : Nat) (h : k < s.size) : s.data.toList.take (k + 1) = s.data.toList.take k ++ [s[k]] := by
  rw [List.take_succ_eq_append_getElem (by simpa using h)]; rfl

/-- a worth behind a sign, told -/
theorem acc_cls {l : List UInt8} {v : Nat} (neg : Bool) (hl : ¬ (l = [] ∨ l.all isDig = false)) (h : Acc (valD l) v) :
    ∃ c, Is c (if neg then Op.negFloat .f64 v else v) ∧ tellC c = digR neg l := by
  unfold digR
  rw [if_neg hl]
  have negW : ∀ x, x < 2 ^ 64 → sgn x = false → Big x → Is .other (Op.negFloat .f64 x) := by
    intro x hx hs hb
    have e : Op.negFloat .f64 x = if x < 2 ^ 63 then x + 2 ^ 63 else x - 2 ^ 63 := neg_word x hx
    rw [e]
    have hr : rung (if x < 2 ^ 63 then x + 2 ^ 63 else x - 2 ^ 63) = rung x := by unfold rung; split <;> omega
    refine ⟨by split <;> omega, Or.inl ?_⟩
    unfold Big; rw [hr]; exact hb
  rcases h with ⟨h1, rfl⟩ | ⟨h1, h2, h3, h4⟩
  · by_cases big : 9007199254740991 < valD l
    · exfalso; omega
    · rw [if_neg big]
      cases neg
      · simp only [Bool.false_eq_true, if_false, false_and]
        exact ⟨.ours _, ⟨rfl, by unfold SafeN; omega⟩, rfl⟩
      · simp only [if_true, true_and]
        by_cases z : valD l = 0
        · rw [if_pos z, z]
          refine ⟨.other, ?_, rfl⟩
          have : Op.negFloat .f64 (F ((0 : Nat) : Int)) = 2 ^ 63 := by decide
          rw [this]; exact is_m0
        · rw [if_neg z]
          exact ⟨.ours _, ⟨neg_F _ (by omega) (by omega), by unfold SafeN; omega⟩, rfl⟩
  · have hbig : 9007199254740991 < valD l := by omega
    rw [if_pos hbig]
    cases neg
    · simp only [Bool.false_eq_true, if_false]
      exact ⟨.other, ⟨h4, Or.inl h2⟩, rfl⟩
    · simp only [if_true]
      exact ⟨.other, negW v h4 h3 h2, rfl⟩
end Go.Proofs.YtlgbnfcnimjheaaDoor
