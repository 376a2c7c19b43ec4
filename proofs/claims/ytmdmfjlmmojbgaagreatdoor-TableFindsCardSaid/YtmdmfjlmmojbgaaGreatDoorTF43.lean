/-
  Properties, and a slice of them, that come in, opened.
-/
import Derived.Test.YtmdmfjlmmojbgaaGreatDoorTF35
import Derived.Test.YtmdmfjlmmojbgaaGreatDoorTF23
import Derived.Test.YtmdmfjlmmojbgaaGreatDoorTF42
namespace Go.Proofs.YtmdmfjlmmojbgaaGreatDoor.S
open Go.ChangeShapes Go.WideShapes Go.Deep Go.RowKit Fl

section
variable {H : Type} {enc : TypeId × Value → H} {w : World} {base : Nat} {spare : Nat → Bool} {held : Bool}
theorem plist_of {n : Nat} {Q : Nat → Pq → Prop} (h : ∀ i, i < n → ∃ t, Q i t) : ∃ l : List Pq, l.length = n ∧ ∀ (i : Nat) (hi : i < l.length), Q i l[i] := by
  induction n with
  | zero => exact ⟨[], rfl, fun i hi => by simp at hi⟩
  | succ n ih =>
    obtain ⟨l, hl, hq⟩ := ih fun i hi => h i (by omega)
    obtain ⟨t, ht⟩ := h n (by omega)
    refine ⟨l ++ [t], by simp [hl], fun i hi => ?_⟩
    by_cases c : i < l.length
    · rw [List.getElem_append_left c]; exact hq i c
    · have e : i = l.length := by simp at hi; omega
      subst e
      rw [List.getElem_append_right (Nat.le_refl _)]
      simp only [Nat.sub_self, List.getElem_singleton]
      rw [hl]; exact ht
set_option maxRecDepth 100000 in
theorem popen_cells {n : Nat} {cs : List Value} {y : DataW H × List MemPlace} (hl : cs.length = 18) (ht : DataW.trod enc Tryz.prog w base spare held n 30 cs = some y) : ∃ p : Pq, cs = pcl p ∧ p.In := by
  obtain ⟨xs, m, _, _, _, hxl, hf⟩ := DataW.trod_struct Tryz.underlying30 ht
  have ek : Tryz.prog.cellsOf 23 = 2 := by kernel_rfl
  have ed : Tryz.prog.cellsOf 28 = 16 := by kernel_rfl
  match xs, hxl with
  | [y0, y1], _ =>
    have h0 : DataW.trod enc Tryz.prog w base spare held m 23 ((cs.drop 0).take (Tryz.prog.cellsOf 23)) = some y0 := hf 0 _ rfl
    have h1 : DataW.trod enc Tryz.prog w base spare held m 28 ((cs.drop 2).take (Tryz.prog.cellsOf 28)) = some y1 := hf 1 _ rfl
    rw [ek] at h0
    rw [ed] at h1
    obtain ⟨k, e1, hk⟩ := kopen_cells (by simp [hl]) h0
    obtain ⟨d, e2, hd⟩ := open_dq (by simp [hl]) h1
    refine ⟨⟨k, d⟩, ?_, hk, hd⟩
    have e3 : cs = (cs.drop 0).take 2 ++ (cs.drop 2).take 16 := by
      rw [List.drop_zero, List.take_of_length_le (by simp [hl] : (cs.drop 2).length ≤ 16), List.take_append_drop]
    rw [e3, e1, e2]
    rfl
set_option maxRecDepth 100000 in
theorem popen_one {a : Addr} {n : Nat} {cs : List Value} {x : DataW H × List MemPlace} (hc : w.cells? base a 18 = some cs) (ht : DataW.trod enc Tryz.prog w base spare held n 30 cs = some x) : ∃ p : Pq, p.In ∧ a.block < w.heap.size ∧ ∀ j u, (pcl p)[j]? = some u → w.cell? (a.add j) = some u := by
  obtain ⟨_, hl, hat⟩ := World.cells?_some hc
  obtain ⟨p, rfl, hp⟩ := popen_cells hl ht
  have h0 := hat 0 (by omega)
  refine ⟨p, hp, ?_, fun j u hu => ?_⟩
  · have := klt_of_cell h0
    rw [kblock_add] at this
    exact this
  · have hj : j < 18 := by have := (List.getElem?_eq_some_iff.1 hu).1; rw [pcl_len] at this; exact this
    rw [hat j hj]
    have := (List.getElem?_eq_some_iff.1 hu).2
    simp [← this]
set_option maxRecDepth 100000 in
/-- a slice of properties that comes in -/
theorem open_props {v : Value} {d : DataW H} {p : List MemPlace} (hv : Value.okWide Tryz.prog w .any base 35 v) (h : DataW.Trod enc Tryz.prog w 0 (fun _ => true) true 35 v d p) :
    ∃ (A : Option Addr) (l : List Pq) (cap : Nat), v = .slice A l.length cap ∧ l.length ≤ cap ∧ cap ≤ maxLen ∧ PR w A l ∧ (∀ k ∈ l, k.In) ∧ (A = none → cap = 0) := by
  obtain ⟨a0, len, cap, rfl⟩ := okWide_slice Tryz.underlying35 hv
  obtain ⟨fuel, hf⟩ := h
  have hcell : Tryz.prog.cellsOf 30 = 18 := by kernel_rfl
  rcases open_slice Tryz.underlying35 hf with ⟨h1, _⟩ | ⟨a, len', cap', m, n, D, Pl, hcs, _, hl, hm, hmm, _, hi⟩
  · have h1 : [Value.slice a0 len cap] = [.slice none 0 0] := h1
    injection h1 with h1
    injection h1 with e1 e2 e3
    subst e1 e2 e3
    exact ⟨none, [], 0, rfl, Nat.le_refl _, Nat.zero_le _, pr_nil, (fun t ht => by cases ht), fun _ => rfl⟩
  · have hcs : [Value.slice a0 len cap] = [.slice (some a) len' cap'] := hcs
    injection hcs with hcs
    injection hcs with e1 e2 e3
    subst e1 e2 e3
    rw [if_pos rfl] at hmm
    subst hmm
    obtain ⟨l, hll, hq⟩ := plist_of (n := len) (Q := fun i k => k.In ∧ (a.add (i * 18)).block < w.heap.size ∧ ∀ j u, (pcl k)[j]? = some u → w.cell? ((a.add (i * 18)).add j) = some u) fun i hilt => by
      obtain ⟨cs', hc, ht⟩ := hi i (by omega)
      rw [hcell] at hc
      exact popen_one hc ht
    refine ⟨some a, l, _, by rw [hll], by omega, by omega, fun hpos => ?_, fun t ht => ?_, fun h => by cases h⟩
    · have hb := (hq 0 hpos).2.1
      rw [kblock_add] at hb
      refine ⟨a, rfl, hb, fun i hi' j u hu => ?_⟩
      rw [← add_add]
      exact (hq i hi').2.2 j u hu
    · obtain ⟨i, hi'⟩ := List.getElem?_of_mem ht
      obtain ⟨hlt, he⟩ := List.getElem?_eq_some_iff.1 hi'
      rw [← he]; exact (hq i hlt).1
end
end Go.Proofs.YtmdmfjlmmojbgaaGreatDoor.S
