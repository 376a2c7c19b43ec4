/-
  Values in letters, their kinds whole numbers: what may be, what can stand as a Get or Set, when two are the same: contracts that hang on the letters alone.
-/
import Derived.Test.YtlgbnfcnimjheaaValMay3
import Derived.Test.YtlgbnfcnimjheaaValTell
import Derived.Test.YtlgbnfcnimjheaaDescSame
namespace Go.Proofs.Ytlgbnfcnimjheaa.S
open Go.RowKit Fl

/-- a value that may come in -/
def VIn (k : Int) (x : Nat) (r : Int) : Prop := 0 ≤ k ∧ k < 256 ∧ x < 2 ^ 64 ∧ r < 2 ^ 63
/-- a value that may be -/
def VOk (k : Int) (x : Nat) (s : ByteArray) (r : Int) : Prop := ∃ v : Vl, v.ok ∧ (v.kd : Int) = k ∧ v.fl = x ∧ v.st = s ∧ v.rf = r
noncomputable def mayI (k : Int) (x : Nat) (s : ByteArray) (r : Int) : Bool := @decide (VOk k x s r) (Classical.propDecidable _)
theorem mayI_iff {k : Int} {x : Nat} {s : ByteArray} {r : Int} : mayI k x s r = true ↔ VOk k x s r := by unfold mayI; exact @decide_eq_true_iff _ (Classical.propDecidable _)
theorem may_i {ka : Int} {xa : Nat} {sa : ByteArray} {ra : Int} (h : VIn ka xa ra) (w : World) : Calls Try.prog 24 #[.agg #[.int .u8 ka, .float .f64 xa, .string sa, .int .i64 ra]] w fun e w' => e = .returned (.bool (mayI ka xa sa ra)) ∧ Below w.heap.size w w' := by
  obtain ⟨h0, h1, hx, hr⟩ := h
  obtain ⟨n, rfl⟩ := Int.eq_ofNat_of_zero_le h0
  by_cases hv : VOk (n : Int) xa sa ra
  · rw [mayI_iff.2 hv]
    obtain ⟨v, ok, hk, rfl, rfl, rfl⟩ := hv
    obtain rfl : v.kd = n := by omega
    exact May_ok ok w
  · refine (May_any n xa sa ra w hx hr).mono fun e w' ⟨b, he, hb, g⟩ => ⟨?_, hb⟩
    have hm : mayI (n : Int) xa sa ra = false := by cases hh : mayI (n : Int) xa sa ra with | false => rfl | true => exact absurd (mayI_iff.1 hh) hv
    rw [hm]
    cases b with
    | false => exact he
    | true =>
      obtain ⟨v, ok, hk, h3, h4, h5⟩ := g rfl
      exact absurd ⟨v, ok, by rw [hk], h3, h4, h5⟩ hv
/-- of a value that may stand as a Get or Set -/
def calI (k : Int) : Bool := k == 0 || (k == 7 || k == 8)
noncomputable def callsI (k : Int) (x : Nat) (s : ByteArray) (r : Int) : Bool := mayI k x s r && calI k
theorem Calls_i {ka : Int} {xa : Nat} {sa : ByteArray} {ra : Int} (h : 0 ≤ ka) (w : World) : Calls Try.prog 26 #[.agg #[.int .u8 ka, .float .f64 xa, .string sa, .int .i64 ra]] w fun e w' => e = .returned (.bool (ka == 7 || ka == 8)) ∧ Below w.heap.size w w' := by
  obtain ⟨n, rfl⟩ := Int.eq_ofNat_of_zero_le h
  have := Calls_v n xa sa ra w
  unfold calB at this
  rw [← kd_eq n 7, ← kd_eq n 8] at this
  exact this
theorem calls_i {ka : Int} {xa : Nat} {sa : ByteArray} {ra : Int} (h : VIn ka xa ra) (w : World) : Calls Try.prog 25 #[.agg #[.int .u8 ka, .float .f64 xa, .string sa, .int .i64 ra]] w fun e w' => e = .returned (.bool (callsI ka xa sa ra)) ∧ Below w.heap.size w w' := by
  have c1 := fun w => may_i (sa := sa) h w
  have c2 := fun w => Calls_i (xa := xa) (sa := sa) (ra := ra) h.1 w
  have hb := heap_alloc_new w (.cells #[.int .u8 ka, .float .f64 xa, .string sa, .int .i64 ra] 24)
  obtain ⟨q0, q1, q2, q3, _⟩ := vc4 hb
  unfold callsI calI
  rcases Bool.eq_false_or_eq_true (mayI ka xa sa ra) with hm | hm
  · rw [hm] at c1
    rcases Bool.eq_false_or_eq_true (ka == 0) with h0 | h0
    all_goals
      go_enter Try.func25, Try.ntmps25
      go_wp2_with (first
        | (go_at_call 24; (with_reducible refine (c1 _).mono ?_); rintro e w1 ⟨rfl, h1⟩; obtain ⟨q0, q1, q2, q3, _⟩ := vc4 (vblkn h1 hb); have hB := vafter h1)
        | (go_at_call 26; (with_reducible refine (c2 _).mono ?_); rintro e w2 ⟨rfl, h2⟩; have hB := vb hB h2))
      go_ret
      exact ⟨dret (by rw [hm, h0]; simp), hB⟩
  · rw [hm] at c1
    go_enter Try.func25, Try.ntmps25
    go_wp2_with (go_at_call 24; (with_reducible refine (c1 _).mono ?_); rintro e w1 ⟨rfl, h1⟩; have hB := vafter h1)
    go_ret
    exact ⟨dret (by rw [hm]; rfl), hB⟩
/-- whether two values are the same -/
def sameI (k : Int) (x : Nat) (s : ByteArray) (r : Int) (k' : Int) (x' : Nat) (s' : ByteArray) (r' : Int) : Bool := sameG k.toNat x s r k'.toNat x' s' r'
theorem same_i {ka : Int} {xa : Nat} {sa : ByteArray} {ra : Int} {kb : Int} {xb : Nat} {sb : ByteArray} {rb : Int} (h : 0 ≤ ka ∧ ka ≤ 8) (h' : 0 ≤ kb) (w : World) : Calls Try.prog 12 #[.agg #[.int .u8 ka, .float .f64 xa, .string sa, .int .i64 ra], .agg #[.int .u8 kb, .float .f64 xb, .string sb, .int .i64 rb]] w fun e w' => e = .returned (.bool (sameI ka xa sa ra kb xb sb rb)) ∧ Below w.heap.size w w' := by
  obtain ⟨n, rfl⟩ := Int.eq_ofNat_of_zero_le h.1
  obtain ⟨m, rfl⟩ := Int.eq_ofNat_of_zero_le h'
  exact Same_any n xa sa ra m xb sb rb (by omega) w
theorem same_i_refl {ka : Int} {xa : Nat} {sa : ByteArray} {ra : Int} (h : VOk ka xa sa ra) : sameI ka xa sa ra ka xa sa ra = true := by
  obtain ⟨v, ok, rfl, rfl, rfl, rfl⟩ := h
  exact sameV_refl ok
theorem vok_kind {ka : Int} {xa : Nat} {sa : ByteArray} {ra : Int} (h : VOk ka xa sa ra) : 0 ≤ ka ∧ ka ≤ 8 := by
  obtain ⟨v, ok, rfl, rfl, rfl, rfl⟩ := h
  cases v with
  | obj k r => have := ok.1; simp only [Vl.kd]; omega
  | _ => simp only [Vl.kd]; omega
theorem vok_und : VOk 0 0 ⟨#[]⟩ 0 := ⟨.und, trivial, rfl, rfl, rfl, rfl⟩
end Go.Proofs.Ytlgbnfcnimjheaa.S
