/-
  KeyRow: what its loops keep; the walk.
-/
import Derived.Test.YtlgbnfcnimjheaaDoorKeyTimes
namespace Go.Proofs.YtlgbnfcnimjheaaDoor.S
open Go.RowKit Fl

def one1 (X : List Ky) : List Ky := X.filter fun k => thK k == 1
theorem th_rank (k : Ky) : (thK k == 1) = (rkKy k == 1024) := by
  unfold thK thR
  by_cases c : rkKy k < 1024
  · rw [if_pos c]
    have : (rkKy k == 1024) = false := by rw [beq_eq_false_iff_ne]; omega
    rw [this]; rfl
  · rw [if_neg c]
    by_cases d : rkKy k = 1024
    · rw [if_pos d, d]; rfl
    · rw [if_neg d]
      have : (rkKy k == 1024) = false := by rw [beq_eq_false_iff_ne]; exact d
      rw [this]; rfl
theorem one_ord {L M : List Ky} (h : OrdOf L M) : one1 M = one1 L := by
  unfold one1
  have e : (fun k => thK k == 1) = fun k => rkKy k == 1024 := funext th_rank
  rw [e]
  exact h.fil 1024
theorem one_skip {X : List Ky} {i : Nat} (h : i < X.length) (hn : thK X[i] ≠ 1) : one1 (X.drop i) = one1 (X.drop (i + 1)) := by
  rw [List.drop_eq_getElem_cons h]
  unfold one1
  rw [List.filter_cons_of_neg (by simpa using hn)]
theorem one_take {X : List Ky} {i : Nat} (h : i < X.length) (hn : thK X[i] = 1) : one1 (X.drop i) = X[i] :: one1 (X.drop (i + 1)) := by
  rw [List.drop_eq_getElem_cons h]
  unfold one1
  rw [List.filter_cons_of_pos (by simpa using hn)]
theorem one_end {X : List Ky} {i : Nat} (h : X.length ≤ i) : one1 (X.drop i) = [] := by
  rw [List.drop_eq_nil_of_le h]; rfl
theorem th_mono {a b : Ky} (h : rkKy a ≤ rkKy b) : thK a ≤ thK b := by
  unfold thK thR
  by_cases c : rkKy a < 1024
  · rw [if_pos c]; exact Nat.zero_le _
  · rw [if_neg c, if_neg (show ¬ rkKy b < 1024 by omega)]
    by_cases d : rkKy a = 1024
    · rw [if_pos d]; split <;> omega
    · rw [if_neg d, if_neg (show ¬ rkKy b = 1024 by omega)]; exact Nat.le_refl _
theorem th_zero {k : Ky} (h : thK k = 0) : ixN k = rkKy k := by
  unfold ixN
  cases e : ixK k.str k.sym with
  | some n => rw [(th_some e).2]; rfl
  | none =>
    have := th_none e
    rw [h] at this
    split at this <;> omega
theorem ord_self {L M : List Ky} (h : OrdOf L M) : OrdOf M M := ⟨h.sorted, fun _ => rfl, rfl⟩
theorem ord_again {L M M' : List Ky} (h : OrdOf L M) (h' : OrdOf M M') : M' = M := ord_eq h' (ord_self h)
theorem ord_in {L M : List Ky} (h : OrdOf L M) (hin : ∀ k ∈ L, KyIn k) : ∀ k ∈ M, KyIn k := fun k hk => hin k ((ord_mem h k).1 hk)
theorem ord_step {L M : List Ky} (h : OrdOf L M) (i : Nat) (hi : i + 1 < M.length) : rkKy M[i] ≤ rkKy M[i + 1] := List.pairwise_iff_getElem.1 h.sorted i (i + 1) (by omega) hi (by omega)

/-- what all of KeyRow keeps -/
structure Kept (w : World) (O1 O2 : Nat) (M : List Ky) (wr : World) : Prop where
  below : Below w.heap.size w wr
  m : wr.heap[O1]? = some (.cells (kyCells M).toArray 24 (0, 0))
  again : wr.heap[O2]? = some (.cells (kyCells M).toArray 24 (0, 0))
theorem Kept.up {w wr w2 : World} {O1 O2 : Nat} {M : List Ky} (h : Kept w O1 O2 M wr) (hb : Below wr.heap.size wr w2) : Kept w O1 O2 M w2 := ⟨vb h.below hb, vblkn hb h.m, vblkn hb h.again⟩
theorem kcells {w : World} {O : Nat} {M : List Ky} (h : w.heap[O]? = some (.cells (kyCells M).toArray 24 (0, 0))) (i : Nat) (hi : i < M.length) : w.cell? ⟨O, i * 2, none⟩ = some (.string M[i].str) ∧ w.cell? ⟨O, i * 2 + 1, none⟩ = some (.int .i64 M[i].sym) := by
  obtain ⟨k1, k2⟩ := kyCells_at M i hi
  exact ⟨(vcells h _).trans (by simpa using k1), (vcells h _).trans (by simpa using k2)⟩
theorem below_drew (w : World) : Below w.heap.size w w.drew := ⟨rfl, rfl, rfl, Nat.le_refl _, fun _ _ => rfl⟩

end Go.Proofs.YtlgbnfcnimjheaaDoor.S
