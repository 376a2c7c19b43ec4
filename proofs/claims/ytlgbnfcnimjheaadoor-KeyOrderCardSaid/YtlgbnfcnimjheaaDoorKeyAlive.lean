/-
  Keys: the order is one; key.Sym, key.Text; the law's alive.
-/
import Derived.Test.YtlgbnfcnimjheaaDoorKeyOrd
import Derived.Test.YtlgbnfcnimjheaaDoorStrQuote
import Derived.Deep.RegionHeld3
namespace Go.Proofs.YtlgbnfcnimjheaaDoor.S
open Go.RowKit Fl

theorem ord_mem {L M : List Ky} (h : OrdOf L M) (k : Ky) : k ∈ M ↔ k ∈ L := by
  have := h.fil (rkKy k)
  have e1 : k ∈ M ↔ k ∈ M.filter (fun x => rkKy x == rkKy k) := by simp
  have e2 : k ∈ L ↔ k ∈ L.filter (fun x => rkKy x == rkKy k) := by simp
  rw [e1, e2, this]
/-- two lists in order that have the same keys of each rank, in the same order, are one -/
theorem ord_unique : ∀ {M M' : List Ky}, M.Pairwise (fun a b => rkKy a ≤ rkKy b) → M'.Pairwise (fun a b => rkKy a ≤ rkKy b) → (∀ r, M.filter (fun k => rkKy k == r) = M'.filter (fun k => rkKy k == r)) → M = M'
  | [], M', _, _, h => by
    cases M' with
    | nil => rfl
    | cons y ys =>
      have := h (rkKy y)
      simp at this
  | x :: xs, [], _, _, h => by
    have := h (rkKy x)
    simp at this
  | x :: xs, y :: ys, h1, h2, h => by
    rw [List.pairwise_cons] at h1 h2
    have hxy : rkKy x = rkKy y := by
      have a1 : x ∈ (y :: ys) := by
        have : x ∈ (y :: ys).filter (fun k => rkKy k == rkKy x) := by rw [← h]; simp
        exact (List.mem_filter.1 this).1
      have a2 : y ∈ (x :: xs) := by
        have : y ∈ (x :: xs).filter (fun k => rkKy k == rkKy y) := by rw [h]; simp
        exact (List.mem_filter.1 this).1
      have b1 : rkKy y ≤ rkKy x := by
        rcases List.mem_cons.1 a1 with e | e
        · rw [e]; exact Nat.le_refl _
        · exact h2.1 x e
      have b2 : rkKy x ≤ rkKy y := by
        rcases List.mem_cons.1 a2 with e | e
        · rw [e]; exact Nat.le_refl _
        · exact h1.1 y e
      omega
    have hh := h (rkKy x)
    rw [List.filter_cons_of_pos (by simp), List.filter_cons_of_pos (by simp [hxy])] at hh
    injection hh with e1 e2
    subst e1
    have := ord_unique h1.2 h2.2 fun r => by
      by_cases c : rkKy x = r
      · subst c; exact e2
      · have := h r
        rw [List.filter_cons_of_neg (by simp [c]), List.filter_cons_of_neg (by simp [c])] at this
        exact this
    rw [this]
theorem ord_eq {L M M' : List Ky} (h : OrdOf L M) (h' : OrdOf L M') : M = M' := ord_unique h.sorted h'.sorted fun r => (h.fil r).trans (h'.fil r).symm
def kA : Ky := ⟨⟨#[97]⟩, 0⟩
def k3 : Ky := ⟨⟨#[51]⟩, 0⟩
theorem in_A3 : ∀ k ∈ [kA, k3], KyIn k := by
  intro k hk
  simp at hk
  rcases hk with rfl | rfl
  · exact ⟨by decide, by decide, by decide⟩
  · exact ⟨by decide, by decide, by decide⟩
theorem rk_A : rkKy kA = 1024 := by kernel_rfl
theorem rk_3 : rkKy k3 = 3 := by kernel_rfl
theorem ord_A3 : OrdOf [kA, k3] [k3, kA] := by
  refine ⟨?_, fun r => ?_, rfl⟩
  · simp [rk_A, rk_3]
  · simp only [List.filter_cons, List.filter_nil, rk_A, rk_3]
    by_cases c : 3 = r
    · subst c; rfl
    · by_cases d : 1024 = r
      · subst d; rfl
      · simp [c, d]

/-- a key's text -/
def symText (n : Int) : ByteArray := (⟨#[115, 121, 109, 98, 111, 108, 32]⟩ : ByteArray) ++ ⟨(Lib.itoa n).toArray⟩
/-- keys in a block of their own -/
theorem rk_blk {w : World} {O : Nat} {M : List Ky} (h : w.heap[O]? = some (.cells (kyCells M).toArray 24 (0, 0))) : RK w (some ⟨O, 0, none⟩) M := fun hp => by
  have hadd : ∀ k, (⟨O, 0, none⟩ : Addr).add k = ⟨O, k, none⟩ := fun k => by unfold Addr.add; split <;> simp_all
  refine ⟨⟨O, 0, none⟩, rfl, lt_blk h, fun i hi => ?_⟩
  obtain ⟨k1, k2⟩ := kyCells_at M i hi
  rw [hadd]
  exact ⟨(vcells h (i * 2)).trans (by simpa using k1), (vcells h (i * 2 + 1)).trans (by simpa using k2)⟩
theorem of_keep (s : ByteArray) (g : Nat) (w0 w : World) (hg : g < w.heap.size) (hb : Below w0.heap.size w0 w) :
    Calls Tryd.prog 86 #[.string s] w fun e w' => e = .returned (.agg #[.string s, .int .i64 0]) ∧ g < w'.heap.size ∧ Below w0.heap.size w0 w' ∧ ∀ o, w'.cell? ⟨g, o, none⟩ = w.cell? ⟨g, o, none⟩ :=
  (keyOf_k s w).mono fun _ _ ⟨he, h⟩ => ⟨he, Nat.lt_of_lt_of_le hg h.size, vb hb h, fun o => h.cell (p := ⟨g, o, none⟩) hg⟩
theorem ix_3 : ixK ⟨#[51]⟩ 0 = some 3 := by kernel_rfl
theorem sym_1 : symText (2 - 1) = ⟨#[115, 121, 109, 98, 111, 108, 32, 49]⟩ := by kernel_rfl

end Go.Proofs.YtlgbnfcnimjheaaDoor.S
