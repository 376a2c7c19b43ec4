/-
  The document's own Order of keys: its mathematics (a row is put together by insertion from the right; the rest behind it).
-/
import Derived.Test.YtlgbnfcnimjheaaDoorKeyRows
namespace Go.Proofs.YtlgbnfcnimjheaaDoor.S
open Go.RowKit Fl

def insA {α : Type} (x : α) (X : List α) (p : Nat) : List α := X.take p ++ x :: X.drop p
/-- while what lies behind the place is shifted: the row Y, the hole at k -/
structure Sh {α : Type} (X Y : List α) (k : Nat) : Prop where
  len : Y.length = X.length + 1
  lo : ∀ j, j < k → Y[j]? = X[j]?
  hi : ∀ j, k < j → Y[j]? = X[j - 1]?
theorem sh_start {α : Type} (X : List α) (z : α) : Sh X (X ++ [z]) X.length := by
  refine ⟨by simp, fun j hj => List.getElem?_append_left hj, fun j hj => ?_⟩
  rw [List.getElem?_eq_none (by simp; omega), List.getElem?_eq_none (by omega)]
theorem sh_step {α : Type} {X Y : List α} {k : Nat} {u : α} (h : Sh X Y (k + 1)) (hk : k + 1 < Y.length) (hu : Y[k]? = some u) : Sh X (Y.set (k + 1) u) k := by
  refine ⟨by rw [List.length_set]; exact h.len, fun j hj => ?_, fun j hj => ?_⟩
  · rw [List.getElem?_set_ne (by omega)]; exact h.lo j (by omega)
  · by_cases c : k + 1 = j
    · subst c
      rw [List.getElem?_set_self hk, ← hu]
      exact h.lo k (by omega)
    · rw [List.getElem?_set_ne c]; exact h.hi j (by omega)
theorem sh_end {α : Type} {X Y : List α} {k : Nat} (h : Sh X Y k) (hk : k ≤ X.length) (x : α) : Y.set k x = insA x X k := by
  have hl := h.len
  apply List.ext_getElem?
  intro j
  unfold insA
  rcases Nat.lt_trichotomy j k with c | c | c
  · rw [List.getElem?_set_ne (by omega), List.getElem?_append_left (by simp; omega), List.getElem?_take_of_lt c]
    exact h.lo j c
  · subst c
    rw [List.getElem?_set_self (by omega), List.getElem?_append_right (by simp; omega)]
    simp [Nat.min_eq_left hk]
  · rw [List.getElem?_set_ne (by omega), List.getElem?_append_right (by simp; omega), List.length_take, Nat.min_eq_left hk, h.hi j c, show j - k = (j - k - 1) + 1 by omega, List.getElem?_cons_succ, List.getElem?_drop]
    congr 1
    omega
theorem insA_len {α : Type} (x : α) (X : List α) (p : Nat) (hp : p ≤ X.length) : (insA x X p).length = X.length + 1 := by
  unfold insA
  simp
  omega
theorem insA_map {α β : Type} (f : α → β) (x : α) (X : List α) (p : Nat) : insA (f x) (X.map f) p = (insA x X p).map f := by
  unfold insA
  rw [List.map_append, List.map_cons, List.map_take, List.map_drop]

theorem rk_top (k : Ky) : rkKy k ≤ 1025 := by
  unfold rkKy rkK
  cases c : ixK k.str k.sym with
  | some n => exact Nat.le_of_lt (Nat.lt_of_lt_of_le (ixK_lt c).1 (by omega))
  | none =>
    show (if k.sym ≤ 0 then 1024 else 1025) ≤ 1025
    split <;> omega
def atR (r : Nat) (L : List Ky) : List Ky := L.filter fun k => rkKy k == r
/-- the first part of the row: the indices among T, in order -/
structure Ph (X T : List Ky) : Prop where
  sorted : X.Pairwise fun a b => rkKy a ≤ rkKy b
  fil : ∀ r, r < 1024 → X.filter (fun k => rkKy k == r) = T.filter (fun k => rkKy k == r)
  lt : ∀ k ∈ X, rkKy k < 1024
  len : X.length + (atR 1024 T).length + (atR 1025 T).length = T.length
theorem ph_nil : Ph [] [] := ⟨List.Pairwise.nil, fun _ _ => rfl, (fun k hk => by cases hk), rfl⟩
theorem ph_skip {X T : List Ky} {k : Ky} (h : Ph X T) (hk : 1024 ≤ rkKy k) : Ph X (T ++ [k]) := by
  refine ⟨h.sorted, fun r hr => ?_, h.lt, ?_⟩
  rotate_left
  · have h1 := h.len
    have h2 := rk_top k
    unfold atR at *
    rw [List.filter_append, List.filter_append, List.length_append, List.length_append, List.length_append]
    by_cases c : rkKy k = 1024
    · simp [c]; omega
    · have d : rkKy k = 1025 := by omega
      simp [d]; omega
  rw [List.filter_append, h.fil r hr]
  have : (rkKy k == r) = false := by rw [beq_eq_false_iff_ne]; omega
  simp [this]
theorem ph_ins {X T : List Ky} {k : Ky} {p : Nat} (h : Ph X T) (hk : rkKy k < 1024) (hp : p ≤ X.length) (hi : ∀ j (hj : j < X.length), p ≤ j → rkKy k < rkKy X[j]) (lo : ∀ j (hj : j < X.length), j + 1 = p → rkKy X[j] ≤ rkKy k) : Ph (insA k X p) (T ++ [k]) := by
  have hd : ∀ x ∈ X.drop p, rkKy k < rkKy x := fun x hx => by
    obtain ⟨j, hj, e⟩ := List.mem_iff_getElem.1 hx
    rw [List.getElem_drop] at e
    rw [← e]
    exact hi _ (by rw [List.length_drop] at hj; omega) (by omega)
  have ht : ∀ x ∈ X.take p, rkKy x ≤ rkKy k := fun x hx => by
    obtain ⟨j, hj, e⟩ := List.mem_iff_getElem.1 hx
    rw [List.length_take] at hj
    rw [List.getElem_take] at e
    rw [← e]
    have hjX : j < X.length := by omega
    have hpX : p - 1 < X.length := by omega
    have h2 := lo (p - 1) hpX (by omega)
    rcases Nat.lt_or_ge j (p - 1) with c | c
    · exact Nat.le_trans (List.pairwise_iff_getElem.1 h.sorted j (p - 1) hjX hpX c) h2
    · have : j = p - 1 := by omega
      subst this
      exact h2
  have hs : X.take p ++ X.drop p = X := List.take_append_drop p X
  have hpw := h.sorted
  rw [← hs, List.pairwise_append] at hpw
  refine ⟨?_, fun r hr => ?_, fun x hx => ?_, by
    have h1 := h.len
    have c : rkKy k ≠ 1024 := by omega
    have d : rkKy k ≠ 1025 := by omega
    unfold atR at *
    rw [insA_len k X p hp, List.filter_append, List.filter_append, List.length_append, List.length_append, List.length_append]
    simp [c, d]
    omega⟩
  · unfold insA
    rw [List.pairwise_append]
    refine ⟨hpw.1, List.pairwise_cons.2 ⟨fun x hx => Nat.le_of_lt (hd x hx), hpw.2.1⟩, fun a ha b hb => ?_⟩
    rcases List.mem_cons.1 hb with rfl | hb
    · exact ht a ha
    · exact hpw.2.2 a ha b hb
  · have hf := h.fil r hr
    rw [← hs, List.filter_append] at hf
    unfold insA
    rw [List.filter_append, List.filter_append, ← hf, List.append_assoc]
    congr 1
    by_cases c : rkKy k = r
    · have e : (X.drop p).filter (fun k => rkKy k == r) = [] := by
        rw [List.filter_eq_nil_iff]
        intro x hx
        have := hd x hx
        simp
        omega
      rw [List.filter_cons_of_pos (by simp [c]), e]
      simp [c]
    · rw [List.filter_cons_of_neg (by simp [c])]
      simp [c]
  · unfold insA at hx
    rcases List.mem_append.1 hx with c | c
    · exact h.lt x (List.mem_of_mem_take c)
    · rcases List.mem_cons.1 c with rfl | c
      · exact hk
      · exact h.lt x (List.mem_of_mem_drop c)
theorem atR_mem {r : Nat} {L : List Ky} {x : Ky} (h : x ∈ atR r L) : rkKy x = r := by
  have := (List.mem_filter.1 h).2
  simpa using this
theorem atR_fil (r s : Nat) (L : List Ky) : (atR r L).filter (fun k => rkKy k == s) = if r = s then atR r L else [] := by
  split
  · rename_i e
    subst e
    exact List.filter_eq_self.2 fun x hx => by simp [atR_mem hx]
  · rw [List.filter_eq_nil_iff]
    intro x hx
    simp [atR_mem hx]
    assumption
theorem ph_sorted {X L : List Ky} (h : Ph X L) : (X ++ atR 1024 L ++ atR 1025 L).Pairwise fun a b => rkKy a ≤ rkKy b := by
  rw [List.append_assoc, List.pairwise_append]
  refine ⟨h.sorted, ?_, fun a ha b hb => ?_⟩
  · rw [List.pairwise_append]
    refine ⟨?_, ?_, fun a ha b hb => by rw [atR_mem ha, atR_mem hb]; omega⟩
    · exact List.pairwise_of_forall_mem_list fun a ha b hb => by rw [atR_mem ha, atR_mem hb]; omega
    · exact List.pairwise_of_forall_mem_list fun a ha b hb => by rw [atR_mem ha, atR_mem hb]; omega
  · have := h.lt a ha
    rcases List.mem_append.1 hb with c | c
    · rw [atR_mem c]; omega
    · rw [atR_mem c]; omega
theorem ph_fil {X L : List Ky} (h : Ph X L) (r : Nat) : (X ++ atR 1024 L ++ atR 1025 L).filter (fun k => rkKy k == r) = L.filter (fun k => rkKy k == r) := by
  rw [List.filter_append, List.filter_append, atR_fil, atR_fil]
  have hx : 1024 ≤ r → X.filter (fun k => rkKy k == r) = [] := fun hr => by
    rw [List.filter_eq_nil_iff]
    intro x hx
    have := h.lt x hx
    simp
    omega
  by_cases c : r < 1024
  · rw [if_neg (by omega), if_neg (by omega), List.append_nil, List.append_nil]; exact h.fil r c
  · rw [hx (by omega)]
    by_cases d : 1024 = r
    · subst d
      rw [if_pos rfl, if_neg (by omega), List.append_nil]
      rfl
    · rw [if_neg d]
      by_cases e : 1025 = r
      · subst e
        rw [if_pos rfl]
        rfl
      · rw [if_neg e]
        symm
        show L.filter _ = []
        rw [List.filter_eq_nil_iff]
        intro x _
        have := rk_top x
        simp
        omega
theorem ph_ord {X L : List Ky} (h : Ph X L) : OrdOf L (X ++ atR 1024 L ++ atR 1025 L) := ⟨ph_sorted h, ph_fil h, by
  rw [List.length_append, List.length_append]
  exact h.len⟩
end Go.Proofs.YtlgbnfcnimjheaaDoor.S
