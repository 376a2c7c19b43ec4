/-
  A key, and a slice of keys, that come in, opened.
-/
import Derived.Test.YtlgbnfcnimjheaaDoorKeyRows
import Derived.Deep.Slices
import Derived.Deep.Fields
import Derived.ChangeSame
import Derived.Carry
import Derived.OpenShut
import Derived.Laws.Cover2
namespace Go.Proofs.YtlgbnfcnimjheaaDoor.S
open Go.ChangeShapes Go.WideShapes Go.Deep Go.RowKit Fl

section
variable {H : Type} {enc : TypeId × Value → H} {w : World} {base : Nat} {spare : Nat → Bool} {held : Bool}
theorem kblock_add (a : Addr) (k : Nat) : (a.add k).block = a.block := by unfold Addr.add; split <;> rfl
theorem klt_of_cell {a : Addr} {v : Value} (h : w.cell? a = some v) : a.block < w.heap.size := by
  rcases Nat.lt_or_ge a.block w.heap.size with hlt | hge
  · exact hlt
  · exfalso
    have e : w.heap[a.block]? = none := Array.getElem?_eq_none hge
    simp [World.cell?, e] at h
theorem klist_of {n : Nat} {Q : Nat → Ky → Prop} (h : ∀ i, i < n → ∃ t, Q i t) : ∃ l : List Ky, l.length = n ∧ ∀ (i : Nat) (hi : i < l.length), Q i l[i] := by
  induction n with
  | zero => exact ⟨[], rfl, fun i hi => by simp at hi⟩
  | succ n ih =>
    obtain ⟨l, hl, hq⟩ := ih fun i hi => h i (by omega)
    obtain ⟨t, ht⟩ := h n (by omega)
    refine ⟨l ++ [t], by simp [hl], fun i hi => ?_⟩
    by_cases c : i < l.length
    · rw [List.getElem_append_left c]; exact hq i c
    · have e : i = l.length := by simp at hi; omega
      subst e
      rw [List.getElem_append_right (Nat.le_refl _)]
      simp only [Nat.sub_self, List.getElem_singleton]
      rw [hl]; exact ht
set_option maxRecDepth 100000 in
theorem kopen_cells {n : Nat} {cs : List Value} {y : DataW H × List MemPlace} (hl : cs.length = 2) (ht : DataW.trod enc Tryd.prog w base spare held n 24 cs = some y) :
    ∃ k : Ky, cs = [.string k.str, .int .i64 k.sym] ∧ KyIn k := by
  obtain ⟨xs, m, _, _, _, hxl, hf⟩ := DataW.trod_struct Tryd.underlying24 ht
  match cs, hl with
  | [c0, c1], _ =>
    have e3 : Tryd.prog.cellsOf 3 = 1 := by kernel_rfl
    have e9 : Tryd.prog.cellsOf 9 = 1 := by kernel_rfl
    match xs, hxl with
    | [y0, y1], _ =>
      have h0 : DataW.trod enc Tryd.prog w base spare held m 9 (([c0, c1].drop 0).take (Tryd.prog.cellsOf 9)) = some y0 := hf 0 _ rfl
      have h1 : DataW.trod enc Tryd.prog w base spare held m 3 (([c0, c1].drop 1).take (Tryd.prog.cellsOf 3)) = some y1 := hf 1 _ rfl
      rw [e9] at h0
      rw [e3] at h1
      obtain ⟨s, s1, _, s2⟩ := DataW.trod_string Tryd.underlying9 h0
      obtain ⟨p, p1, _, p2⟩ := DataW.trod_int Tryd.underlying3 h1
      obtain rfl : c0 = .string s := by simpa using s1
      obtain rfl : c1 = .int .i64 p := by simpa using p1
      have hp : -9223372036854775808 ≤ p ∧ p ≤ 9223372036854775807 := by
        have h2 : (decide (IntKind.i64.min ≤ p) && decide (p ≤ IntKind.i64.max)) = true := p2
        rw [show IntKind.i64.min = -9223372036854775808 by decide, show IntKind.i64.max = 9223372036854775807 by decide] at h2
        simpa using h2
      exact ⟨⟨s, p⟩, rfl, s2, by show -2 ^ 63 ≤ p; omega, by show p < 2 ^ 63; omega⟩
set_option maxRecDepth 100000 in
/-- a key that comes in -/
theorem open_key {v : Value} {d : DataW H} {p : List MemPlace} (hv : Value.okWide Tryd.prog w .any base 24 v) (h : DataW.Trod enc Tryd.prog w 0 (fun _ => true) true 24 v d p) :
    ∃ k : Ky, v = .agg #[.string k.str, .int .i64 k.sym] ∧ KyIn k := by
  obtain ⟨cs, rfl, hsz⟩ := okWide_struct Tryd.underlying24 hv
  obtain ⟨fuel, hf⟩ := h
  have hcell : Tryd.prog.cellsOf 24 = 2 := by kernel_rfl
  rw [hcell] at hsz
  have hf : DataW.trod enc Tryd.prog w 0 (fun _ => true) true fuel 24 cs.toList = some (d, p) := hf
  obtain ⟨k, e, hk⟩ := kopen_cells (by simpa using hsz) hf
  exact ⟨k, by rw [← e], hk⟩
set_option maxRecDepth 100000 in
theorem kopen_one {a : Addr} {n : Nat} {cs : List Value} {x : DataW H × List MemPlace} (hc : w.cells? base a 2 = some cs) (ht : DataW.trod enc Tryd.prog w base spare held n 24 cs = some x) :
    ∃ k : Ky, KyIn k ∧ a.block < w.heap.size ∧ w.cell? (a.add 0) = some (.string k.str) ∧ w.cell? (a.add 1) = some (.int .i64 k.sym) := by
  obtain ⟨_, hl, hat⟩ := World.cells?_some hc
  obtain ⟨k, rfl, hk⟩ := kopen_cells hl ht
  have h0 := hat 0 (by omega)
  have h1 := hat 1 (by omega)
  refine ⟨k, hk, ?_, h0, h1⟩
  have := klt_of_cell h0
  rw [kblock_add] at this
  exact this
set_option maxRecDepth 100000 in
/-- a slice of keys that comes in -/
theorem open_keys {v : Value} {d : DataW H} {p : List MemPlace} (hv : Value.okWide Tryd.prog w .any base 22 v) (h : DataW.Trod enc Tryd.prog w 0 (fun _ => true) true 22 v d p) :
    ∃ (A : Option Addr) (l : List Ky) (cap : Nat), v = .slice A l.length cap ∧ l.length ≤ cap ∧ l.length ≤ maxLen ∧ RK w A l ∧ ∀ k ∈ l, KyIn k := by
  obtain ⟨a0, len, cap, rfl⟩ := okWide_slice Tryd.underlying22 hv
  obtain ⟨fuel, hf⟩ := h
  have hcell : Tryd.prog.cellsOf 24 = 2 := by kernel_rfl
  rcases open_slice Tryd.underlying22 hf with ⟨h1, _⟩ | ⟨a, len', cap', m, n, D, Pl, hcs, _, hl, hm, hmm, _, hi⟩
  · have h1 : [Value.slice a0 len cap] = [.slice none 0 0] := h1
    injection h1 with h1
    injection h1 with e1 e2 e3
    subst e1 e2 e3
    exact ⟨none, [], 0, rfl, Nat.le_refl _, Nat.zero_le _, fun h => by simp at h, fun t ht => by cases ht⟩
  · have hcs : [Value.slice a0 len cap] = [.slice (some a) len' cap'] := hcs
    injection hcs with hcs
    injection hcs with e1 e2 e3
    subst e1 e2 e3
    rw [if_pos rfl] at hmm
    subst hmm
    obtain ⟨l, hll, hq⟩ := klist_of (n := len) (Q := fun i k => KyIn k ∧ (a.add (i * 2)).block < w.heap.size ∧ w.cell? ((a.add (i * 2)).add 0) = some (.string k.str) ∧ w.cell? ((a.add (i * 2)).add 1) = some (.int .i64 k.sym)) fun i hilt => by
      obtain ⟨cs', hc, ht⟩ := hi i (by omega)
      rw [hcell] at hc
      exact kopen_one hc ht
    refine ⟨some a, l, _, by rw [hll], by omega, by omega, fun hpos => ?_, fun t ht => ?_⟩
    · have hb := (hq 0 hpos).2.1
      rw [kblock_add] at hb
      refine ⟨a, rfl, hb, fun i hi' => ?_⟩
      obtain ⟨_, _, c0, c1⟩ := hq i hi'
      exact ⟨c0, c1⟩
    · obtain ⟨i, hi'⟩ := List.getElem?_of_mem ht
      obtain ⟨hlt, he⟩ := List.getElem?_eq_some_iff.1 hi'
      rw [← he]; exact (hq i hlt).1
end
end Go.Proofs.YtlgbnfcnimjheaaDoor.S
