/-
  The law's times and third: walks.
-/
import Derived.Test.YtlgbnfcnimjheaaDoorKeyAlive
namespace Go.Proofs.YtlgbnfcnimjheaaDoor.S
open Go.RowKit Fl

/-- two keys, compared -/
def eqK (a b : Ky) : Bool := (a.str == b.str) && (a.sym == b.sym)
theorem eqK_iff {a b : Ky} : eqK a b = true ↔ a = b := by
  unfold eqK
  rw [Bool.and_eq_true]
  constructor
  · rintro ⟨h1, h2⟩
    cases a; cases b
    have := str_beq h1
    have := eq_of_beq h2
    simp_all
  · rintro rfl
    exact ⟨str_same _, beq_self_eq_true _⟩
theorem eqK_no {a b : Ky} (h : a ≠ b) : eqK a b = false := by
  cases c : eqK a b
  · rfl
  · exact absurd (eqK_iff.1 c) h
def timesL (L : List Ky) (k : Ky) : Nat := (L.filter fun x => eqK x k).length
theorem times_ord {L M : List Ky} (h : OrdOf L M) (k : Ky) : timesL M k = timesL L k := by
  have e : ∀ X : List Ky, timesL X k = ((X.filter fun x => rkKy x == rkKy k).filter fun x => eqK x k).length := fun X => by
    unfold timesL
    rw [List.filter_filter]
    congr 1
    refine List.filter_congr fun x _ => ?_
    cases c : eqK x k
    · rfl
    · rw [eqK_iff.1 c]; simp
  rw [e, e, h.fil]
def thR (r : Nat) : Nat := if r < 1024 then 0 else if r = 1024 then 1 else 2
def thK (k : Ky) : Nat := thR (rkKy k)
def ixN (k : Ky) : Nat := (ixK k.str k.sym).getD 0
theorem th_some {k : Ky} {n : Nat} (h : ixK k.str k.sym = some n) : thK k = 0 ∧ rkKy k = n := by
  have e : rkKy k = n := by unfold rkKy rkK rkO; rw [h]
  unfold thK thR
  have := (ixK_lt h).1
  rw [e, if_pos this]
  exact ⟨rfl, rfl⟩
theorem th_none {k : Ky} (h : ixK k.str k.sym = none) : thK k = if 0 < k.sym then 2 else 1 := by
  have e : rkKy k = if k.sym ≤ 0 then 1024 else 1025 := by unfold rkKy rkK rkO; rw [h]
  unfold thK thR
  rw [e]
  clear e
  by_cases c : k.sym ≤ 0
  · rw [if_pos c, if_neg (show ¬ 0 < k.sym by omega)]; rfl
  · rw [if_neg c, if_pos (show 0 < k.sym by omega)]; rfl

theorem times_succ (L : List Ky) (k : Ky) (i : Nat) (h : i < L.length) : timesL (L.take (i + 1)) k = timesL (L.take i) k + if eqK L[i] k = true then 1 else 0 := by
  unfold timesL
  rw [List.take_add_one, List.getElem?_eq_getElem h, List.filter_append, List.length_append]
  congr 1
  simp only [Option.toList_some, List.filter_cons, List.filter_nil]
  split <;> rfl
theorem times_le (L : List Ky) (k : Ky) (i : Nat) : timesL (L.take i) k ≤ i := by
  unfold timesL
  have := List.length_filter_le (fun x => eqK x k) (L.take i)
  have h2 := List.length_take_le i L
  omega
end Go.Proofs.YtlgbnfcnimjheaaDoor.S
