/-
  Two rows of the call's own, one of keys, one of numbers: the document's own Order keeps them side by side.
-/
import Derived.Test.YtlgbnfcnimjheaaDoorKeyRefMath
import Derived.Test.YtlgbnfcnimjheaaDoorKeyRefSa
import Derived.OneCell
import Derived.Laws.AppendOwn
import Derived.Laws.OwnMore
import Derived.OwnWalk
namespace Go.Proofs.YtlgbnfcnimjheaaDoor.S
open Go.RowKit Fl

def nCells (N : List Nat) : List Value := N.map fun n => .int .i64 (n : Nat)
theorem ky_len (X : List Ky) : (kyCells X).length = X.length * 2 := by
  induction X with
  | nil => rfl
  | cons t r ih => unfold kyCells at *; rw [List.flatMap_cons, List.length_append, ih, List.length_cons]; simp; omega
theorem ky_snoc (X : List Ky) (k : Ky) : kyCells (X ++ [k]) = kyCells X ++ [.string k.str, .int .i64 k.sym] := by unfold kyCells; rw [List.flatMap_append]; simp
theorem ky_set (X : List Ky) (i : Nat) (k : Ky) : kyCells (X.set i k) = ((kyCells X).set (i * 2) (.string k.str)).set (i * 2 + 1) (.int .i64 k.sym) := by
  induction X generalizing i with
  | nil => rfl
  | cons t r ih =>
    cases i with
    | zero => rfl
    | succ i =>
      have h := ih i
      unfold kyCells at *
      rw [List.set_cons_succ, List.flatMap_cons, List.flatMap_cons, h, show (i + 1) * 2 = i * 2 + 1 + 1 by omega]
      rfl
/-- the two rows -/
structure Rw (B : Nat) (v u : Value) (X : List Ky) (N : List Nat) (w0 w : World) : Prop where
  out : w.ownsRow B 24 2 v X.length (kyCells X)
  num : w.ownsRow B 3 1 u N.length (nCells N)
  below : Below B w0 w
  le : B ≤ w.heap.size
theorem rw_nil (w : World) : Rw w.heap.size (.slice none 0 0) (.slice none 0 0) [] [] w w := ⟨World.ownsRow_nil _ _ _ _, World.ownsRow_nil _ _ _ _, Below.refl _ _, Nat.le_refl _⟩
section
variable {B : Nat} {v u : Value} {X : List Ky} {N : List Nat} {w0 w w' : World}
theorem own_up {e : TypeId} {size n : Nat} {xs : List Value} (h : w.ownsRow B e size v n xs) (hb : Below w.heap.size w w') : w'.ownsRow B e size v n xs :=
  h.kept (row := none) ⟨hb.os, hb.tape, hb.output, hb.size, fun k hk _ => hb.block k hk⟩ (by
    rcases h.2 with ⟨rfl, _⟩ | ⟨g, cap, cur, rfl, _⟩
    · exact Or.inl rfl
    · exact Or.inr (by simp [Value.ownBlock]))
theorem rw_up (h : Rw B v u X N w0 w) (hb : Below w.heap.size w w') : Rw B v u X N w0 w' :=
  ⟨own_up h.out hb, own_up h.num hb, h.below.trans (hb.mono h.le), Nat.le_trans h.le hb.size⟩
theorem own_ty {e : TypeId} {size n : Nat} {xs : List Value} (h : w.ownsRow B e size v n xs) : v.ownBlock = none ∨ ∃ g cur, v.ownBlock = some g ∧ w.heap[g]? = some (.cells cur e (0, 0)) := by
  rcases h.2 with ⟨rfl, _⟩ | ⟨g, cap, cur, rfl, _, hg, _⟩
  · exact Or.inl rfl
  · exact Or.inr ⟨g, cur, rfl, hg⟩
theorem rw_ne (h : Rw B v u X N w0 w) : v.ownBlock = none ∨ v.ownBlock ≠ u.ownBlock := by
  rcases own_ty h.out with c | ⟨g, cur, c, hg⟩
  · exact Or.inl c
  · refine Or.inr fun e => ?_
    rcases own_ty h.num with d | ⟨g2, cur2, d, hg2⟩
    · rw [c, d] at e; cases e
    · rw [c, d] at e
      cases e
      rw [hg] at hg2
      injection hg2 with h1
      injection h1 with _ h2 _
      exact absurd h2 (by decide)
theorem rw_ne2 (h : Rw B v u X N w0 w) : u.ownBlock = none ∨ u.ownBlock ≠ v.ownBlock := by
  rcases rw_ne h with c | c
  · rcases own_ty h.num with d | ⟨g2, cur2, d, hg2⟩
    · exact Or.inl d
    · exact Or.inr (by rw [c, d]; exact fun e => by cases e)
  · exact Or.inr fun e => c e.symm
theorem rw_shape (h : Rw B v u X N w0 w) : (∃ A cap, v = .slice A X.length cap) ∧ ∃ A cap, u = .slice A N.length cap := by
  refine ⟨?_, ?_⟩
  · rcases h.out.2 with ⟨rfl, h1⟩ | ⟨g, cap, cur, rfl, _⟩
    · exact ⟨none, 0, by rw [h1]⟩
    · exact ⟨_, cap, rfl⟩
  · rcases h.num.2 with ⟨rfl, h1⟩ | ⟨g, cap, cur, rfl, _⟩
    · exact ⟨none, 0, by rw [h1]⟩
    · exact ⟨_, cap, rfl⟩
theorem own_pos {e : TypeId} {size n : Nat} {xs : List Value} (h : w.ownsRow B e size v n xs) (hn : 0 < n) : ∃ g cap, v = .slice (some ⟨g, 0, none⟩) n cap ∧ B ≤ g ∧ g < w.heap.size ∧ n ≤ cap := by
  rcases h.2 with ⟨_, h1⟩ | ⟨g, cap, cur, rfl, hb, hg, hc, _⟩
  · omega
  · exact ⟨g, cap, rfl, hb, lt_blk hg, hc⟩
end
theorem own_grown {B : Nat} {e : TypeId} {size n : Nat} {xs : List Value} {v : Value} {w0 w w' : World} (h : w.ownsRow B e size v n xs) (hb : Below B w0 w) (hle : B ≤ w.heap.size) (hg : w.grownBy w' v.ownBlock) : Below B w0 w' :=
  hb.grown hg hle fun k hk => (h.lt k hk).1
/-- a key more -/
theorem rw_app {ops : Array Oper} {rest : List Oper} {o : Oper} {a : Act} {Q : Exit → Act → World → Prop} (hgd : o.guard = none) (s x : Operand)
    (ho : o.op = .call { callee := .builtin .append, args := #[s, x], argTypes := #[22, 22] })
    {B : Nat} {v u : Value} {X : List Ky} {N : List Nat} {w0 wr : World} (h : Rw B v u X N w0 wr) (hs : a.eval s = v) (st : ByteArray) (sy : Int) (hx : a.eval x = .slice (some ⟨wr.heap.size, 0, none⟩) 1 1)
    (hl : X.length ≤ 70000)
    (kk : ∀ v' w', Rw B v' u (X ++ [⟨st, sy⟩]) N w0 w' → wpList Tryd.prog ops Q rest (a.put o.dst v') w') : wpList Tryd.prog ops Q (o :: rest) a (wr.alloc (.cells #[.string st, .int .i64 sy] 24)) := by
  obtain ⟨i0, hi, hz0, hz1, hz2⟩ := info_parts key_info
  have hA := rw_up h (vzero wr (.cells #[.string st, .int .i64 sy] 24))
  refine wpList_append_own _ hgd s x 22 ho B 24 i0 (.agg #[.string ⟨#[]⟩, .int .i64 0]) 2 24 Tryd.underlying22 hi hz0 hz1 hz2 rfl (by decide) v X.length (kyCells X) hs hA.out ⟨wr.heap.size, 0, none⟩ 1 1 [.string st, .int .i64 sy] hx rfl ?_ ?_ ?_ ?_ ?_ ?_
  · intro j c hj
    have e : (⟨wr.heap.size, 0, none⟩ : Addr).add j = ⟨wr.heap.size, j, none⟩ := by unfold Addr.add; split <;> simp_all
    rw [e, vcells (heap_alloc_new wr _) j, ← hj]
    match j with
    | 0 => rfl
    | 1 => rfl
    | j + 2 => rfl
  · intro c hc; simp at hc; rcases hc with rfl | rfl <;> rfl
  · unfold maxLen; omega
  · omega
  · exact hA.le
  · intro v' w' hown hgrow _
    refine kk v' w' ⟨?_, ?_, ?_, ?_⟩
    · rw [ky_snoc, List.length_append]; exact hown
    · exact hA.num.kept hgrow (rw_ne2 hA)
    · exact own_grown hA.out hA.below hA.le hgrow
    · exact Nat.le_trans hA.le hgrow.size
theorem int_info : (Tryd.prog.info? 3).map (fun i => (i.zero, i.size, i.bytes)) = some (some (.int .i64 0), 1, 8) := by kernel_rfl
/-- a number more -/
theorem rw_appn {ops : Array Oper} {rest : List Oper} {o : Oper} {a : Act} {Q : Exit → Act → World → Prop} (hgd : o.guard = none) (s x : Operand)
    (ho : o.op = .call { callee := .builtin .append, args := #[s, x], argTypes := #[50, 50] })
    {B : Nat} {v u : Value} {X : List Ky} {N : List Nat} {w0 wr : World} (h : Rw B v u X N w0 wr) (hs : a.eval s = u) (hx : a.eval x = .slice (some ⟨wr.heap.size, 0, none⟩) 1 1)
    (hl : N.length ≤ 70000)
    (kk : ∀ u' w', Rw B v u' X (N ++ [0]) w0 w' → wpList Tryd.prog ops Q rest (a.put o.dst u') w') : wpList Tryd.prog ops Q (o :: rest) a (wr.alloc (.cells #[.int .i64 0] 3)) := by
  obtain ⟨i0, hi, hz0, hz1, hz2⟩ := info_parts int_info
  have hA := rw_up h (vzero wr (.cells #[.int .i64 0] 3))
  refine wpList_append_own _ hgd s x 50 ho B 3 i0 (.int .i64 0) 1 8 Tryd.underlying50 hi hz0 hz1 hz2 rfl (by decide) u N.length (nCells N) hs hA.num ⟨wr.heap.size, 0, none⟩ 1 1 [.int .i64 0] hx rfl ?_ ?_ ?_ ?_ ?_ ?_
  · intro j c hj
    have e : (⟨wr.heap.size, 0, none⟩ : Addr).add j = ⟨wr.heap.size, j, none⟩ := by unfold Addr.add; split <;> simp_all
    rw [e, vcells (heap_alloc_new wr _) j, ← hj]
    match j with
    | 0 => rfl
    | j + 1 => rfl
  · intro c hc; simp at hc; rcases hc with rfl; rfl
  · unfold maxLen; omega
  · omega
  · exact hA.le
  · intro u' w' hown hgrow _
    refine kk u' w' ⟨?_, ?_, ?_, ?_⟩
    · exact hA.out.kept hgrow (rw_ne hA)
    · rw [show nCells (N ++ [0]) = nCells N ++ [.int .i64 0] by unfold nCells; rw [List.map_append]; rfl, List.length_append]; exact hown
    · exact own_grown hA.num hA.below hA.le hgrow
    · exact Nat.le_trans hA.le hgrow.size
section
variable {B g n cap : Nat} {v u : Value} {X : List Ky} {N : List Nat} {w0 w : World}
theorem rw_put (h : Rw B (.slice (some ⟨g, 0, none⟩) n cap) u X N w0 w) (hn : n = X.length) (i : Nat) (st : ByteArray) (sy : Int) :
    Rw B (.slice (some ⟨g, 0, none⟩) n cap) u (X.set i ⟨st, sy⟩) N w0 ((w.setCell ⟨g, i * 2, none⟩ (.string st)).setCell ⟨g, i * 2 + 1, none⟩ (.int .i64 sy)) := by
  subst hn
  obtain ⟨a1, b1⟩ := h.out.stored (i * 2) (.string st)
  obtain ⟨a2, b2⟩ := a1.stored (i * 2 + 1) (.int .i64 sy)
  have hne : u.ownBlock = none ∨ u.ownBlock ≠ some g := rw_ne2 h
  have c1 : Below B w0 (w.setCell ⟨g, i * 2, none⟩ (.string st)) := own_grown h.out h.below h.le b1
  have z1 := Nat.le_trans h.le b1.size
  refine ⟨?_, (h.num.kept b1 hne).kept b2 hne, own_grown a1 c1 z1 b2, Nat.le_trans z1 b2.size⟩
  rw [ky_set, List.length_set]
  exact a2
theorem rw_putn (h : Rw B v (.slice (some ⟨g, 0, none⟩) n cap) X N w0 w) (hn : n = N.length) (i m : Nat) :
    Rw B v (.slice (some ⟨g, 0, none⟩) n cap) X (N.set i m) w0 (w.setCell ⟨g, i, none⟩ (.int .i64 (m : Nat))) := by
  subst hn
  obtain ⟨a1, b1⟩ := h.num.stored i (.int .i64 (m : Nat))
  have hne : v.ownBlock = none ∨ v.ownBlock ≠ some g := rw_ne h
  refine ⟨h.out.kept b1 hne, ?_, own_grown h.num h.below h.le b1, Nat.le_trans h.le b1.size⟩
  rw [show nCells (N.set i m) = (nCells N).set i (.int .i64 (m : Nat)) by unfold nCells; rw [List.map_set], List.length_set]
  exact a1
theorem rw_key (h : Rw B (.slice (some ⟨g, 0, none⟩) n cap) u X N w0 w) (hn : n = X.length) (i : Nat) (hi : i < X.length) :
    w.cell? ⟨g, i * 2, none⟩ = some (.string X[i].str) ∧ w.cell? ⟨g, i * 2 + 1, none⟩ = some (.int .i64 X[i].sym) := by
  subst hn
  obtain ⟨k1, k2⟩ := kyCells_at X i hi
  exact ⟨(h.out.cellAt _ (by omega)).trans k1, (h.out.cellAt _ (by omega)).trans k2⟩
theorem rw_no (h : Rw B v (.slice (some ⟨g, 0, none⟩) n cap) X N w0 w) (hn : n = N.length) (i : Nat) (hi : i < N.length) : w.cell? ⟨g, i, none⟩ = some (.int .i64 (N[i] : Nat)) := by
  subst hn
  refine (h.num.cellAt _ (by omega)).trans ?_
  unfold nCells
  rw [List.getElem?_map, List.getElem?_eq_getElem hi]
  rfl
theorem rw_fz (h : Rw B (.slice (some ⟨g, 0, none⟩) n cap) u X N w0 w) (hn : n = X.length) (j : Nat) : w.frozen? ⟨g, j, none⟩ = false := by
  subst hn
  exact h.out.frozenAt j
theorem rw_fzn (h : Rw B v (.slice (some ⟨g, 0, none⟩) n cap) X N w0 w) (hn : n = N.length) (j : Nat) : w.frozen? ⟨g, j, none⟩ = false := by
  subst hn
  exact h.num.frozenAt j
end
end Go.Proofs.YtlgbnfcnimjheaaDoor.S
