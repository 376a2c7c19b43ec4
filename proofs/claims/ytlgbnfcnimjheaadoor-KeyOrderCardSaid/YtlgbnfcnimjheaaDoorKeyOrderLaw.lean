/-
  The law KeyOrder: its walk.
-/
import Derived.Test.YtlgbnfcnimjheaaDoorKeyRefOrd
import Derived.Test.YtlgbnfcnimjheaaDoorKeyRefSa
import Derived.Test.YtlgbnfcnimjheaaDoorKeyOpen
import Derived.Test.YtlgbnfcnimjheaaDoorKeyRow
import Derived.Laws.AppendOwnNone
namespace Go.Proofs.YtlgbnfcnimjheaaDoor.S
open Go.ChangeShapes Go.WideShapes Go.Deep Go.RowKit Fl

section
variable {H : Type} {enc : TypeId × Value → H} {w : World} {base : Nat}
set_option maxRecDepth 100000 in
theorem open_keys2 {v : Value} {d : DataW H} {p : List MemPlace} (hv : Value.okWide Tryd.prog w .any base 22 v) (h : DataW.Trod enc Tryd.prog w 0 (fun _ => true) true 22 v d p) :
    ∃ (A : Option Addr) (l : List Ky) (cap : Nat), v = .slice A l.length cap ∧ l.length ≤ cap ∧ l.length ≤ maxLen ∧ RK w A l ∧ (∀ k ∈ l, KyIn k) ∧ (A = none → cap = 0) := by
  obtain ⟨A, l, cap, rfl, h1, h2, h3, h4⟩ := open_keys hv h
  refine ⟨A, l, cap, rfl, h1, h2, h3, h4, fun hA => ?_⟩
  subst hA
  obtain ⟨fuel, hf⟩ := h
  rcases open_slice Tryd.underlying22 hf with ⟨q, _⟩ | ⟨a, len', cap', m, n, D, Pl, hcs, _⟩
  · have q : [Value.slice none l.length cap] = [.slice none 0 0] := q
    injection q with q
    injection q
  · have hcs : [Value.slice none l.length cap] = [.slice (some a) len' cap'] := hcs
    injection hcs with hcs
    injection hcs with e1
    cases e1
end
theorem add_one (a : Addr) (m : Nat) : a.add (m + 1) = ⟨(a.add m).block, (a.add m).off + 1, none⟩ := by
  unfold Addr.add
  rw [if_neg (Nat.succ_ne_zero m)]
  split
  · rename_i e; rw [e]
  · rfl
theorem rk_cells {w : World} {a : Addr} {L : List Ky} (h : RK w (some a) L) (j : Nat) (u : Value) (hj : (kyCells L)[j]? = some u) : w.cell? (a.add j) = some u := by
  have hlt : j < (kyCells L).length := (List.getElem?_eq_some_iff.1 hj).1
  rw [ky_len] at hlt
  obtain ⟨b, hb, _, hc⟩ := h (by omega)
  injection hb with hb; subst hb
  have hi : j / 2 < L.length := by omega
  obtain ⟨k0, k1⟩ := kyCells_at L (j / 2) hi
  obtain ⟨c0, c1⟩ := hc (j / 2) hi
  rcases Nat.mod_two_eq_zero_or_one j with e | e
  · have ej : j = j / 2 * 2 := by omega
    rw [← ej] at k0 c0
    rw [c0, ← k0, hj]
  · have ej : j = j / 2 * 2 + 1 := by omega
    rw [← ej] at k1
    have ea : a.add j = ⟨(a.add (j / 2 * 2)).block, (a.add (j / 2 * 2)).off + 1, none⟩ := by
      conv => lhs; rw [ej]
      exact add_one a _
    rw [ea, c1, ← k1, hj]
set_option maxRecDepth 100000 in
/-- keys of somewhere else, put behind nothing -/
theorem ky_all {ops : Array Oper} {rest : List Oper} {o : Oper} {a : Act} {Q : Exit → Act → World → Prop} (hgd : o.guard = none) (s x : Operand)
    (ho : o.op = .call { callee := .builtin .append, args := #[s, x], argTypes := #[22, 22] })
    {w : World} (hs : a.eval s = .slice none 0 0) {A : Option Addr} {L : List Ky} {cap : Nat} (hx : a.eval x = .slice A L.length cap) (hr : RK w A L) (hA : A = none → cap = 0) (hl : L.length ≤ 70000)
    (kk : ∀ v' w', Rw w.heap.size v' (.slice none 0 0) L [] w w' → wpList Tryd.prog ops Q rest (a.put o.dst v') w') : wpList Tryd.prog ops Q (o :: rest) a w := by
  obtain ⟨i0, hi, hz0, hz1, hz2⟩ := info_parts key_info
  cases A with
  | none =>
    have hc := hA rfl
    subst hc
    have hl0 : L = [] := by
      cases L with
      | nil => rfl
      | cons t r => obtain ⟨b, hb, _⟩ := hr (by simp); cases hb
    subst hl0
    exact wpList_append_own_none hgd s x 22 ho w.heap.size 24 i0 2 Tryd.underlying22 hi (.slice none 0 0) 0 [] hs (World.ownsRow_nil _ _ _ _) hx (kk _ _ (rw_nil w))
  | some ad =>
    refine wpList_append_own _ hgd s x 22 ho w.heap.size 24 i0 (.agg #[.string ⟨#[]⟩, .int .i64 0]) 2 24 Tryd.underlying22 hi hz0 hz1 hz2 rfl (by decide) (.slice none 0 0) 0 [] hs (World.ownsRow_nil _ _ _ _) ad L.length cap (kyCells L) hx (ky_len L) (rk_cells hr) ?_ ?_ ?_ ?_ ?_
    · intro u hu
      unfold kyCells at hu
      rw [List.mem_flatMap] at hu
      obtain ⟨t, _, ht⟩ := hu
      simp at ht; rcases ht with rfl | rfl <;> rfl
    · unfold maxLen; omega
    · omega
    · exact Nat.le_refl _
    · intro v' w' hown hgrow _
      rw [Nat.zero_add, List.nil_append] at hown
      exact kk v' w' ⟨hown, World.ownsRow_nil _ _ _ _, (Below.refl _ _).grown hgrow (Nat.le_refl _) (fun k hk => by simp [Value.ownBlock] at hk), hgrow.size⟩
/-- a row of keys of the call's own, read -/
theorem own_rk {B n cap g : Nat} {M : List Ky} {w : World} (h : w.ownsRow B 24 2 (.slice (some ⟨g, 0, none⟩) n cap) M.length (kyCells M)) {L : List Ky} {r : List Ky} (hM : M = L ++ r) : RK w (some ⟨g, 0, none⟩) L := fun hp => by
  have hc := h.cells (g := g) rfl
  have hadd : ∀ k, (⟨g, 0, none⟩ : Addr).add k = ⟨g, k, none⟩ := fun k => by unfold Addr.add; split <;> simp_all
  refine ⟨⟨g, 0, none⟩, rfl, (h.lt g rfl).2, fun i hi => ?_⟩
  have hi' : i < M.length := by rw [hM, List.length_append]; omega
  obtain ⟨k0, k1⟩ := kyCells_at M i hi'
  have e : M[i] = L[i] := by subst hM; exact List.getElem_append_left hi
  rw [e] at k0 k1
  have c0 := hc _ _ k0
  have c1 := hc _ _ k1
  rw [hadd] at c0 c1 ⊢
  exact ⟨c0, c1⟩
def seven : ByteArray := (⟨#[55, 55]⟩ : ByteArray)
/-- the law's own row: l, and one key behind -/
structure OK7 (w : World) (g : Nat) (L : List Ky) : Prop where
  lt : g < w.heap.size
  rk : RK w (some ⟨g, 0, none⟩) L
  s : w.cell? ⟨g, L.length * 2, none⟩ = some (.string (⟨#[55, 55]⟩ : ByteArray))
  i : w.cell? ⟨g, L.length * 2 + 1, none⟩ = some (.int .i64 0)
theorem ok7_of {B n cap g : Nat} {L : List Ky} {w : World} (h : w.ownsRow B 24 2 (.slice (some ⟨g, 0, none⟩) n cap) (L ++ [(⟨(⟨#[55, 55]⟩ : ByteArray), 0⟩ : Ky)]).length (kyCells (L ++ [(⟨(⟨#[55, 55]⟩ : ByteArray), 0⟩ : Ky)]))) : OK7 w g L := by
  have hc := h.cells (g := g) rfl
  have hadd : ∀ k, (⟨g, 0, none⟩ : Addr).add k = ⟨g, k, none⟩ := fun k => by unfold Addr.add; split <;> simp_all
  have hi : L.length < (L ++ [(⟨(⟨#[55, 55]⟩ : ByteArray), 0⟩ : Ky)]).length := by rw [List.length_append]; exact Nat.lt_succ_self _
  obtain ⟨k0, k1⟩ := kyCells_at _ L.length hi
  have e : (L ++ [(⟨(⟨#[55, 55]⟩ : ByteArray), 0⟩ : Ky)])[L.length] = ⟨(⟨#[55, 55]⟩ : ByteArray), 0⟩ := by simp
  rw [e] at k0 k1
  have c0 := hc _ _ k0
  have c1 := hc _ _ k1
  rw [hadd] at c0 c1
  exact ⟨(h.lt g rfl).2, own_rk h rfl, c0, c1⟩
theorem rk_same {w w' : World} {g : Nat} {L : List Ky} (h : RK w (some ⟨g, 0, none⟩) L) (hb : w'.heap[g]? = w.heap[g]?) (hs : w.heap.size ≤ w'.heap.size) : RK w' (some ⟨g, 0, none⟩) L := fun hp => by
  obtain ⟨a, ha, hl, hc⟩ := h hp
  injection ha with ha
  subst ha
  have e : ∀ o, w'.cell? ⟨g, o, none⟩ = w.cell? ⟨g, o, none⟩ := fun o => World.cell?_of_block (a := ⟨g, o, none⟩) hb
  have hadd : ∀ k, (⟨g, 0, none⟩ : Addr).add k = ⟨g, k, none⟩ := fun k => by unfold Addr.add; split <;> simp_all
  refine ⟨⟨g, 0, none⟩, rfl, Nat.lt_of_lt_of_le hl hs, fun i hi => ?_⟩
  obtain ⟨c0, c1⟩ := hc i hi
  rw [hadd] at c0 c1 ⊢
  exact ⟨(e _).trans c0, (e _).trans c1⟩
theorem ok7_same {w w' : World} {g : Nat} {L : List Ky} (h : OK7 w g L) (hb : w'.heap[g]? = w.heap[g]?) (hs : w.heap.size ≤ w'.heap.size) : OK7 w' g L :=
  have e : ∀ o, w'.cell? ⟨g, o, none⟩ = w.cell? ⟨g, o, none⟩ := fun o => World.cell?_of_block (a := ⟨g, o, none⟩) hb
  ⟨Nat.lt_of_lt_of_le h.lt hs, rk_same h.rk hb hs, (e _).trans h.s, (e _).trans h.i⟩
theorem ok7_up {w w' : World} {g : Nat} {L : List Ky} (h : OK7 w g L) (hb : Below w.heap.size w w') : OK7 w' g L := ok7_same h (hb.block g h.lt) hb.size
theorem grown_two {w w' : World} {O : Nat} (h : w.grownBy w' (some O)) (i j : Nat) (a b : Value) : w.grownBy ((w'.setCell ⟨O, i, none⟩ a).setCell ⟨O, j, none⟩ b) (some O) :=
  ⟨h.os, h.tape, h.output, by simpa using h.size, fun k hk hne => by
    have hk' : k ≠ O := fun e => hne (by rw [e])
    rw [heap_setCell_other _ _ _ _ hk', heap_setCell_other _ _ _ _ hk']
    exact h.block k hk hne⟩
end Go.Proofs.YtlgbnfcnimjheaaDoor.S
