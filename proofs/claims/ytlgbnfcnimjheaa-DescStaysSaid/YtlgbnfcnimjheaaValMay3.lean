/-
  value.May of any value: what may be is one of nine shapes.
-/
import Derived.Test.YtlgbnfcnimjheaaValMay2
namespace Go.Proofs.Ytlgbnfcnimjheaa.S
open Go.RowKit Fl

theorem feq_F {x : Nat} {m : Int} (hx : x < 2 ^ 64) (hm : SafeN m) (h : feq x (F m) = true) : x = F m ∨ (x = 2 ^ 63 ∧ m = 0) := by
  obtain ⟨c, hc⟩ := cls x hx
  have h : FloatKind.f64.format.order x (F m) = some .eq := by unfold feq at h; exact eq_of_beq h
  have h : Ieee.double.order x (F m) = some .eq := h
  cases c with
  | nan => rw [order_nan_l _ hc.2] at h; cases h
  | other =>
    obtain ⟨_, g | g | g⟩ := hc
    · rw [(order_big g m hm.abs).1] at h
      have h := Option.some.inj h
      split at h <;> cases h
    · exact absurd h (order_frac g m hm.abs).1
    · subst g
      rw [(order_m0 m hm.abs).1] at h
      have h : compare 0 m = .eq := Option.some.inj h
      have h : 0 = m := Int.compare_eq_eq.1 h
      exact .inr ⟨rfl, h.symm⟩
  | ours n =>
    obtain ⟨rfl, hs⟩ := hc
    rw [order_F n m hs.abs hm.abs] at h
    have h : compare n m = .eq := Option.some.inj h
    have h : n = m := Int.compare_eq_eq.1 h
    subst h
    exact .inl rfl
theorem rest_of {x : Nat} {s : ByteArray} {r : Int} (hx : x < 2 ^ 64) (h : restB x s r = true) : x = 0 ∧ s = ⟨#[]⟩ ∧ r = 0 := by
  unfold restB at h
  simp only [Bool.and_eq_true, Bool.not_eq_true', List.isEmpty_iff, beq_iff_eq] at h
  obtain ⟨⟨⟨h1, h2⟩, h3⟩, h4⟩ := h
  refine ⟨?_, ?_, h3⟩
  · rcases feq_F (m := 0) hx (by unfold SafeN; omega) (by rw [F_zero]; exact h1) with e | ⟨e, _⟩
    · rw [e, F_zero]
    · rw [e] at h4; exact absurd h4 (by decide)
  · rw [toList_data] at h2
    exact bytes_ext h2
/-- what value.May comes to -/
def MayTo (k x : Nat) (s : ByteArray) (r : Int) (w : World) (e : Ending) (w' : World) : Prop :=
  ∃ b, e = .returned (.bool b) ∧ Below w.heap.size w w' ∧ (b = true → ∃ v : Vl, v.ok ∧ v.kd = k ∧ v.fl = x ∧ v.st = s ∧ v.rf = r)
theorem may_of {k x : Nat} {s : ByteArray} {r : Int} {w : World} {b : Bool} {e : Ending} {w' : World} (h : e = .returned (.bool b) ∧ Below w.heap.size w w') (g : b = true → ∃ v : Vl, v.ok ∧ v.kd = k ∧ v.fl = x ∧ v.st = s ∧ v.rf = r) : MayTo k x s r w e w' := ⟨b, h.1, h.2, g⟩
theorem May_any (k x : Nat) (s : ByteArray) (r : Int) (w : World) (hx : x < 2 ^ 64) (hr : r < 2 ^ 63) : Calls Try.prog 24 #[.agg #[.int .u8 (k : Int), .float .f64 x, .string s, .int .i64 r]] w (MayTo k x s r w) := by
  have e0 := kd_eq k 0
  have e1 := kd_eq k 1
  have e2 := kd_eq k 2
  have e3 := kd_eq k 3
  have e4 := kd_eq k 4
  have e5 := kd_eq k 5
  by_cases c0 : k = 0
  · subst c0
    refine (May_k0 x s r w hx).mono fun e w' h => may_of h fun hb => ?_
    obtain ⟨rfl, rfl, rfl⟩ := rest_of hx hb
    exact ⟨.und, trivial, rfl, rfl, rfl, rfl⟩
  by_cases c1 : k = 1
  · subst c1
    refine (May_k1 x s r w hx).mono fun e w' h => may_of h fun hb => ?_
    obtain ⟨rfl, rfl, rfl⟩ := rest_of hx hb
    exact ⟨.nul, trivial, rfl, rfl, rfl, rfl⟩
  by_cases c2 : k = 2
  · subst c2
    refine (May_k2 x s r w).mono fun e w' h => may_of h fun hb => ?_
    rw [Bool.and_eq_true, Bool.or_eq_true] at hb
    obtain ⟨_, rfl, rfl⟩ := rest_of (by decide) hb.2
    refine ⟨.boo x, ?_, rfl, rfl, rfl, rfl⟩
    rcases hb.1 with h | h
    · rcases feq_F (m := 0) hx (by unfold SafeN; omega) (by rw [F_zero]; exact h) with e | ⟨e, _⟩
      · rw [F_zero] at e; exact .inl e
      · exact .inr (.inl e)
    · rcases feq_F (m := 1) hx (by unfold SafeN; omega) (by rw [show F 1 = 4607182418800017408 by decide]; exact h) with e | ⟨_, e⟩
      · rw [show F 1 = 4607182418800017408 by decide] at e; exact .inr (.inr e)
      · cases e
  by_cases c3 : k = 3
  · subst c3
    obtain ⟨c, hc⟩ := cls x hx
    refine (May_k3 x s r w hc).mono fun e w' h => may_of h fun hb => ?_
    rw [Bool.and_eq_true] at hb
    obtain ⟨_, rfl, rfl⟩ := rest_of (by decide) hb.2
    exact ⟨.num x, ⟨c, hc, hb.1⟩, rfl, rfl, rfl, rfl⟩
  by_cases c4 : k = 4
  · subst c4
    refine (May_k4 x s r w hx).mono fun e w' h => may_of h fun hb => ?_
    rw [Bool.and_eq_true] at hb
    obtain ⟨rfl, _, rfl⟩ := rest_of hx hb.2
    have := of_decide_eq_true hb.1
    exact ⟨.str s, by show s.size ≤ 4096; omega, rfl, rfl, rfl, rfl⟩
  by_cases c5 : k = 5
  · subst c5
    refine (May_k5 x s r w hx).mono fun e w' h => may_of h fun hb => ?_
    rw [Bool.and_eq_true] at hb
    obtain ⟨rfl, rfl, _⟩ := rest_of hx hb.2
    exact ⟨.sym r, ⟨of_decide_eq_true hb.1, hr⟩, rfl, rfl, rfl, rfl⟩
  have f0 : ((k : Int) == 0) = false := by rw [beq_eq_false_iff_ne]; omega
  have f1 : ((k : Int) == 1) = false := by rw [beq_eq_false_iff_ne]; omega
  have f2 : ((k : Int) == 2) = false := by rw [beq_eq_false_iff_ne]; omega
  have f3 : ((k : Int) == 3) = false := by rw [beq_eq_false_iff_ne]; omega
  have f4 : ((k : Int) == 4) = false := by rw [beq_eq_false_iff_ne]; omega
  have f5 : ((k : Int) == 5) = false := by rw [beq_eq_false_iff_ne]; omega
  cases ho : objB k
  · refine (May_no x s r w k hx f0 f1 f2 f3 f4 f5 ho).mono fun e w' h => may_of h fun hb => ?_
    cases hb
  · refine (May_obj x s r w k hx f0 f1 f2 f3 f4 f5 ho).mono fun e w' h => may_of h fun hb => ?_
    rw [Bool.and_eq_true] at hb
    obtain ⟨rfl, rfl, _⟩ := rest_of hx hb.2
    refine ⟨.obj k r, ⟨?_, of_decide_eq_true hb.1, hr⟩, rfl, rfl, rfl, rfl⟩
    unfold objB at ho
    simp only [Bool.or_eq_true, beq_iff_eq] at ho
    omega
end Go.Proofs.Ytlgbnfcnimjheaa.S
