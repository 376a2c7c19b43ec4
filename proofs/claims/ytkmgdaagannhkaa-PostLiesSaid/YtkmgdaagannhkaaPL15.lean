/-
  The input of the laws on post, opened. Generated: gen_postopen.py.
-/
import Derived.Test.YtkmgdaagannhkaaPL13
import Derived.Test.YtkmgdaagannhkaaPL14
import Derived.Test.YtkmgdaagannhkaaRows
import Derived.ProofKit
import Derived.OpenShut
import Derived.ShutString
import Derived.ChangeOld
import Derived.Below
import Derived.Carry
namespace Go.Proofs.Ytkmgdaagannhkaa.S
open Go.ChangeShapes Go.WideShapes Go.Deep Go.RowKit Fl

theorem cut8 (cs : List Value) (hl : cs.length = 26) : cs = (cs.drop 0).take 1 ++ ((cs.drop 1).take 4 ++ ((cs.drop 5).take 1 ++ ((cs.drop 6).take 1 ++ ((cs.drop 7).take 16 ++ ((cs.drop 23).take 1 ++ ((cs.drop 24).take 1 ++ ((cs.drop 25).take 1))))))) := by
  have h (i n : Nat) : (cs.drop i).take n ++ cs.drop (i + n) = cs.drop i := by rw [← List.drop_drop]; exact List.take_append_drop n (cs.drop i)
  have e : (cs.drop 25).take 1 = cs.drop 25 := List.take_of_length_le (by rw [List.length_drop, hl]; decide)
  rw [e, show cs.drop 25 = cs.drop (24 + 1) from rfl, h 24 1, show cs.drop 24 = cs.drop (23 + 1) from rfl, h 23 1, show cs.drop 23 = cs.drop (7 + 16) from rfl, h 7 16, show cs.drop 7 = cs.drop (6 + 1) from rfl, h 6 1, show cs.drop 6 = cs.drop (5 + 1) from rfl, h 5 1, show cs.drop 5 = cs.drop (1 + 4) from rfl, h 1 4, show cs.drop 1 = cs.drop (0 + 1) from rfl, h 0 1, List.drop_zero]
theorem cut8b (cs : List Value) (hl : cs.length = 79) : cs = (cs.drop 0).take 29 ++ ((cs.drop 29).take 26 ++ ((cs.drop 55).take 1 ++ ((cs.drop 56).take 4 ++ ((cs.drop 60).take 1 ++ ((cs.drop 61).take 16 ++ ((cs.drop 77).take 1 ++ ((cs.drop 78).take 1))))))) := by
  have h (i n : Nat) : (cs.drop i).take n ++ cs.drop (i + n) = cs.drop i := by rw [← List.drop_drop]; exact List.take_append_drop n (cs.drop i)
  have e : (cs.drop 78).take 1 = cs.drop 78 := List.take_of_length_le (by rw [List.length_drop, hl]; decide)
  rw [e, show cs.drop 78 = cs.drop (77 + 1) from rfl, h 77 1, show cs.drop 77 = cs.drop (61 + 16) from rfl, h 61 16, show cs.drop 61 = cs.drop (60 + 1) from rfl, h 60 1, show cs.drop 60 = cs.drop (56 + 4) from rfl, h 56 4, show cs.drop 56 = cs.drop (55 + 1) from rfl, h 55 1, show cs.drop 55 = cs.drop (29 + 26) from rfl, h 29 26, show cs.drop 29 = cs.drop (0 + 29) from rfl, h 0 29, List.drop_zero]
section
variable {H : Type} {enc : TypeId × Value → H} {w : World} {base : Nat} {spare : Nat → Bool} {held : Bool}
theorem kblock_add (a : Addr) (k : Nat) : (a.add k).block = a.block := by unfold Addr.add; split <;> rfl
theorem klt_of_cell {a : Addr} {v : Value} (h : w.cell? a = some v) : a.block < w.heap.size := by
  rcases Nat.lt_or_ge a.block w.heap.size with hlt | hge
  · exact hlt
  · exfalso
    have e : w.heap[a.block]? = none := Array.getElem?_eq_none hge
    simp [World.cell?, e] at h
theorem klist_of {n : Nat} {Q : Nat → Ky → Prop} (h : ∀ i, i < n → ∃ t, Q i t) : ∃ l : List Ky, l.length = n ∧ ∀ (i : Nat) (hi : i < l.length), Q i l[i] := by
  induction n with
  | zero => exact ⟨[], rfl, fun i hi => by simp at hi⟩
  | succ n ih =>
    obtain ⟨l, hl, hq⟩ := ih fun i hi => h i (by omega)
    obtain ⟨t, ht⟩ := h n (by omega)
    refine ⟨l ++ [t], by simp [hl], fun i hi => ?_⟩
    by_cases c : i < l.length
    · rw [List.getElem_append_left c]; exact hq i c
    · have e : i = l.length := by simp at hi; omega
      subst e
      rw [List.getElem_append_right (Nat.le_refl _)]
      simp only [Nat.sub_self, List.getElem_singleton]
      rw [hl]; exact ht
set_option maxRecDepth 100000 in
theorem kopen_cells {n : Nat} {cs : List Value} {y : DataW H × List MemPlace} (hl : cs.length = 2) (ht : DataW.trod enc Try.prog w base spare held n 29 cs = some y) :
    ∃ k : Ky, cs = [.string k.str, .int .i64 k.sym] ∧ KyIn k := by
  obtain ⟨xs, m, _, _, _, hxl, hf⟩ := DataW.trod_struct Try.underlying29 ht
  match cs, hl with
  | [c0, c1], _ =>
    have e3 : Try.prog.cellsOf 3 = 1 := by kernel_rfl
    have e9 : Try.prog.cellsOf 9 = 1 := by kernel_rfl
    match xs, hxl with
    | [y0, y1], _ =>
      have h0 : DataW.trod enc Try.prog w base spare held m 9 (([c0, c1].drop 0).take (Try.prog.cellsOf 9)) = some y0 := hf 0 _ rfl
      have h1 : DataW.trod enc Try.prog w base spare held m 3 (([c0, c1].drop 1).take (Try.prog.cellsOf 3)) = some y1 := hf 1 _ rfl
      rw [e9] at h0
      rw [e3] at h1
      obtain ⟨s, s1, _, s2⟩ := DataW.trod_string Try.underlying9 h0
      obtain ⟨p, p1, _, p2⟩ := DataW.trod_int Try.underlying3 h1
      obtain rfl : c0 = .string s := by simpa using s1
      obtain rfl : c1 = .int .i64 p := by simpa using p1
      have hp : -9223372036854775808 ≤ p ∧ p ≤ 9223372036854775807 := by
        have h2 : (decide (IntKind.i64.min ≤ p) && decide (p ≤ IntKind.i64.max)) = true := p2
        rw [show IntKind.i64.min = -9223372036854775808 by decide, show IntKind.i64.max = 9223372036854775807 by decide] at h2
        simpa using h2
      exact ⟨⟨s, p⟩, rfl, s2, by show -2 ^ 63 ≤ p; omega, by show p < 2 ^ 63; omega⟩
set_option maxRecDepth 100000 in
theorem kopen_one {a : Addr} {n : Nat} {cs : List Value} {x : DataW H × List MemPlace} (hc : w.cells? base a 2 = some cs) (ht : DataW.trod enc Try.prog w base spare held n 29 cs = some x) :
    ∃ k : Ky, KyIn k ∧ a.block < w.heap.size ∧ w.cell? (a.add 0) = some (.string k.str) ∧ w.cell? (a.add 1) = some (.int .i64 k.sym) := by
  obtain ⟨_, hl, hat⟩ := World.cells?_some hc
  obtain ⟨k, rfl, hk⟩ := kopen_cells hl ht
  have h0 := hat 0 (by omega)
  have h1 := hat 1 (by omega)
  refine ⟨k, hk, ?_, h0, h1⟩
  have := klt_of_cell h0
  rw [kblock_add] at this
  exact this
set_option maxRecDepth 100000 in
/-- a slice of keys in a struct that comes in -/
theorem kopen_list {n : Nat} {cs : List Value} {y : DataW H × List MemPlace} (hf : DataW.trod enc Try.prog w base (fun _ => true) true n 31 cs = some y) :
    ∃ (A : Option Addr) (l : List Ky) (cap : Nat), cs = [.slice A l.length cap] ∧ l.length ≤ cap ∧ (A = none → cap = 0) ∧ l.length ≤ maxLen ∧ RK w A l := by
  have hcell : Try.prog.cellsOf 29 = 2 := by kernel_rfl
  rcases open_slice Try.underlying31 hf with ⟨h1, _⟩ | ⟨a, len, cap, m, n, D, Pl, hcs, _, hl, hm, hmm, _, hi⟩
  · exact ⟨none, [], 0, h1, Nat.le_refl _, fun _ => rfl, Nat.zero_le _, fun h => by simp at h⟩
  · rw [if_pos rfl] at hmm
    subst hmm
    obtain ⟨l, hll, hq⟩ := klist_of (n := len) (Q := fun i k => KyIn k ∧ (a.add (i * 2)).block < w.heap.size ∧ w.cell? ((a.add (i * 2)).add 0) = some (.string k.str) ∧ w.cell? ((a.add (i * 2)).add 1) = some (.int .i64 k.sym)) fun i hilt => by
      obtain ⟨cs', hc, ht⟩ := hi i (by omega)
      rw [hcell] at hc
      exact kopen_one hc ht
    refine ⟨some a, l, _, by rw [hll]; exact hcs, by omega, (fun h => nomatch h), by omega, fun hpos => ?_⟩
    have hb := (hq 0 hpos).2.1
    rw [kblock_add] at hb
    refine ⟨a, rfl, hb, fun i hi' => ?_⟩
    obtain ⟨_, _, c0, c1⟩ := hq i hi'
    exact ⟨c0, c1⟩
theorem dlist_of {n : Nat} {Q : Nat → Dq → Prop} (h : ∀ i, i < n → ∃ t, Q i t) : ∃ l : List Dq, l.length = n ∧ ∀ (i : Nat) (hi : i < l.length), Q i l[i] := by
  induction n with
  | zero => exact ⟨[], rfl, fun i hi => by simp at hi⟩
  | succ n ih =>
    obtain ⟨l, hl, hq⟩ := ih fun i hi => h i (by omega)
    obtain ⟨t, ht⟩ := h n (by omega)
    refine ⟨l ++ [t], by simp [hl], fun i hi => ?_⟩
    by_cases c : i < l.length
    · rw [List.getElem_append_left c]; exact hq i c
    · have e : i = l.length := by simp at hi; omega
      subst e
      rw [List.getElem_append_right (Nat.le_refl _)]
      simp only [Nat.sub_self, List.getElem_singleton]
      rw [hl]; exact ht
set_option maxRecDepth 100000 in
theorem dopen_one {a : Addr} {n : Nat} {cs : List Value} {x : DataW H × List MemPlace} (hc : w.cells? base a 16 = some cs) (ht : DataW.trod enc Try.prog w base spare held n 27 cs = some x) :
    ∃ d : Dq, d.In ∧ a.block < w.heap.size ∧ ∀ j u, d.cells.toList[j]? = some u → w.cell? (a.add j) = some u := by
  obtain ⟨_, hl, hat⟩ := World.cells?_some hc
  obtain ⟨d, e, hd⟩ := open_dq hl ht
  have h0 := hat 0 (by omega)
  refine ⟨d, hd, ?_, fun j u hu => ?_⟩
  · rw [List.getElem?_eq_getElem (by omega)] at h0
    have := klt_of_cell h0
    rw [kblock_add] at this
    exact this
  · rw [← e] at hu
    have hj : j < 16 := by have := (List.getElem?_eq_some_iff.1 hu).1; omega
    rw [hat j hj]
    exact hu
set_option maxRecDepth 100000 in
/-- a slice of descriptors in a struct that comes in -/
theorem dopen_list {n : Nat} {cs : List Value} {y : DataW H × List MemPlace} (hf : DataW.trod enc Try.prog w base (fun _ => true) true n 41 cs = some y) :
    ∃ (A : Option Addr) (l : List Dq) (cap : Nat), cs = [.slice A l.length cap] ∧ RD w A l ∧ ∀ d ∈ l, d.In := by
  have hcell : Try.prog.cellsOf 27 = 16 := by kernel_rfl
  rcases open_slice Try.underlying41 hf with ⟨h1, _⟩ | ⟨a, len, cap, m, n, D, Pl, hcs, _, hl, hm, hmm, _, hi⟩
  · exact ⟨none, [], 0, h1, fun h => by simp at h, fun d hd => by cases hd⟩
  · rw [if_pos rfl] at hmm
    subst hmm
    obtain ⟨l, hll, hq⟩ := dlist_of (n := len) (Q := fun i d => d.In ∧ (a.add (i * 16)).block < w.heap.size ∧ ∀ j u, d.cells.toList[j]? = some u → w.cell? ((a.add (i * 16)).add j) = some u) fun i hilt => by
      obtain ⟨cs', hc, ht⟩ := hi i (by omega)
      rw [hcell] at hc
      exact dopen_one hc ht
    refine ⟨some a, l, _, by rw [hll]; exact hcs, fun hpos => ?_, fun t ht => ?_⟩
    · have hb := (hq 0 hpos).2.1
      rw [kblock_add] at hb
      exact ⟨a, rfl, hb, fun i hi' => (hq i hi').2.2⟩
    · obtain ⟨i, hi'⟩ := List.getElem?_of_mem ht
      obtain ⟨hlt, he⟩ := List.getElem?_eq_some_iff.1 hi'
      rw [← he]; exact (hq i hlt).1
set_option maxRecDepth 100000 in
theorem aopen_cells {n : Nat} {cs : List Value} {y : DataW H × List MemPlace} (hl : cs.length = 29) (ht : DataW.trod enc Try.prog w 0 (fun _ => true) true n 39 cs = some y) : ∃ a : Ak, cs = akl a ∧ a.In := by
  obtain ⟨xs, m, _, _, _, hxl, hf⟩ := DataW.trod_struct Try.underlying39 ht
  have eu : Try.prog.cellsOf 5 = 1 := by kernel_rfl
  have ei : Try.prog.cellsOf 3 = 1 := by kernel_rfl
  have ek : Try.prog.cellsOf 29 = 2 := by kernel_rfl
  have ed : Try.prog.cellsOf 27 = 16 := by kernel_rfl
  have ev : Try.prog.cellsOf 24 = 4 := by kernel_rfl
  have es : Try.prog.cellsOf 37 = 1 := by kernel_rfl
  match cs, hl with
  | [c0, c1, c2, c3, c4, c5, c6, c7, c8, c9, c10, c11, c12, c13, c14, c15, c16, c17, c18, c19, c20, c21, c22, c23, c24, c25, c26, c27, c28], _ =>
    match xs, hxl with
    | [y0, y1, y2, y3, y4, y5, y6], _ =>
      have h0 := hf 0 _ rfl
      replace h0 : DataW.trod enc Try.prog w 0 (fun _ => true) true m 5 (([c0, c1, c2, c3, c4, c5, c6, c7, c8, c9, c10, c11, c12, c13, c14, c15, c16, c17, c18, c19, c20, c21, c22, c23, c24, c25, c26, c27, c28].drop 0).take (Try.prog.cellsOf 5)) = some y0 := h0
      have h1 := hf 1 _ rfl
      replace h1 : DataW.trod enc Try.prog w 0 (fun _ => true) true m 3 (([c0, c1, c2, c3, c4, c5, c6, c7, c8, c9, c10, c11, c12, c13, c14, c15, c16, c17, c18, c19, c20, c21, c22, c23, c24, c25, c26, c27, c28].drop 1).take (Try.prog.cellsOf 3)) = some y1 := h1
      have h2 := hf 2 _ rfl
      replace h2 : DataW.trod enc Try.prog w 0 (fun _ => true) true m 29 (([c0, c1, c2, c3, c4, c5, c6, c7, c8, c9, c10, c11, c12, c13, c14, c15, c16, c17, c18, c19, c20, c21, c22, c23, c24, c25, c26, c27, c28].drop 2).take (Try.prog.cellsOf 29)) = some y2 := h2
      have h3 := hf 3 _ rfl
      replace h3 : DataW.trod enc Try.prog w 0 (fun _ => true) true m 27 (([c0, c1, c2, c3, c4, c5, c6, c7, c8, c9, c10, c11, c12, c13, c14, c15, c16, c17, c18, c19, c20, c21, c22, c23, c24, c25, c26, c27, c28].drop 4).take (Try.prog.cellsOf 27)) = some y3 := h3
      have h4 := hf 4 _ rfl
      replace h4 : DataW.trod enc Try.prog w 0 (fun _ => true) true m 24 (([c0, c1, c2, c3, c4, c5, c6, c7, c8, c9, c10, c11, c12, c13, c14, c15, c16, c17, c18, c19, c20, c21, c22, c23, c24, c25, c26, c27, c28].drop 20).take (Try.prog.cellsOf 24)) = some y4 := h4
      have h5 := hf 5 _ rfl
      replace h5 : DataW.trod enc Try.prog w 0 (fun _ => true) true m 24 (([c0, c1, c2, c3, c4, c5, c6, c7, c8, c9, c10, c11, c12, c13, c14, c15, c16, c17, c18, c19, c20, c21, c22, c23, c24, c25, c26, c27, c28].drop 24).take (Try.prog.cellsOf 24)) = some y5 := h5
      have h6 := hf 6 _ rfl
      replace h6 : DataW.trod enc Try.prog w 0 (fun _ => true) true m 37 (([c0, c1, c2, c3, c4, c5, c6, c7, c8, c9, c10, c11, c12, c13, c14, c15, c16, c17, c18, c19, c20, c21, c22, c23, c24, c25, c26, c27, c28].drop 28).take (Try.prog.cellsOf 37)) = some y6 := h6
      rw [eu] at h0
      rw [ei] at h1
      rw [ek] at h2
      rw [ed] at h3
      rw [ev] at h4 h5
      rw [es] at h6
      obtain ⟨k, k1, _, k2⟩ := DataW.trod_int Try.underlying5 h0
      obtain ⟨n1, n2, _, n3⟩ := DataW.trod_int Try.underlying3 h1
      obtain ⟨ky, e2, i2⟩ := kopen_cells (by rfl) h2
      obtain ⟨dd, e3, i3⟩ := open_dq (by rfl) h3
      obtain ⟨v4, e4, i4⟩ := open_vq (by rfl) h4
      obtain ⟨v5, e5, _⟩ := open_vq (by rfl) h5
      have hs : ∃ A q r, c28 = .slice A q r := by
        rcases open_slice Try.underlying37 h6 with ⟨h1, _⟩ | ⟨a, len', cap', _, _, _, _, h1, _⟩
        · have h1 : [c28] = [.slice none 0 0] := h1
          injection h1 with h1
          exact ⟨_, _, _, h1⟩
        · have h1 : [c28] = [.slice (some a) len' cap'] := h1
          injection h1 with h1
          exact ⟨_, _, _, h1⟩
      obtain ⟨A, q, r, rfl⟩ := hs
      have k1 : [c0] = [.int .u8 k] := k1
      have n2 : [c1] = [.int .i64 n1] := n2
      have e2 : [c2, c3] = _ := e2
      have e3 : [c4, c5, c6, c7, c8, c9, c10, c11, c12, c13, c14, c15, c16, c17, c18, c19] = _ := e3
      have e4 : [c20, c21, c22, c23] = _ := e4
      have e5 : [c24, c25, c26, c27] = _ := e5
      refine ⟨⟨k, n1, ky, dd, v4, v5, A, q, r⟩, ?_, i2, i3, i4⟩
      show [c0] ++ ([c1] ++ ([c2, c3] ++ ([c4, c5, c6, c7, c8, c9, c10, c11, c12, c13, c14, c15, c16, c17, c18, c19] ++ ([c20, c21, c22, c23] ++ ([c24, c25, c26, c27] ++ [.slice A q r]))))) = _
      rw [k1, n2, e2, e3, e4, e5]
      rfl
set_option maxRecDepth 100000 in
theorem oopen_cells {n : Nat} {cs : List Value} {y : DataW H × List MemPlace} (hl : cs.length = 26) (ht : DataW.trod enc Try.prog w 0 (fun _ => true) true n 33 cs = some y) : ∃ (q : Oq) (K : List Ky), cs = oql q ∧ q.v.In ∧ q.d.In ∧ q.kn = K.length ∧ K.length ≤ q.kc ∧ (q.ka = none → q.kc = 0) ∧ K.length ≤ maxLen ∧ RK w q.ka K := by
  obtain ⟨xs, m, _, _, _, hxl, hf⟩ := DataW.trod_struct Try.underlying33 ht
  match xs, hxl with
  | [y0, y1, y2, y3, y4, y5, y6, y7], _ =>
    have h0 := hf 0 _ rfl
    replace h0 : DataW.trod enc Try.prog w 0 (fun _ => true) true m 5 ((cs.drop 0).take (Try.prog.cellsOf 5)) = some y0 := h0
    rw [show Try.prog.cellsOf 5 = 1 by kernel_rfl] at h0
    have h1 := hf 1 _ rfl
    replace h1 : DataW.trod enc Try.prog w 0 (fun _ => true) true m 24 ((cs.drop 1).take (Try.prog.cellsOf 24)) = some y1 := h1
    rw [show Try.prog.cellsOf 24 = 4 by kernel_rfl] at h1
    have h2 := hf 2 _ rfl
    replace h2 : DataW.trod enc Try.prog w 0 (fun _ => true) true m 4 ((cs.drop 5).take (Try.prog.cellsOf 4)) = some y2 := h2
    rw [show Try.prog.cellsOf 4 = 1 by kernel_rfl] at h2
    have h3 := hf 3 _ rfl
    replace h3 : DataW.trod enc Try.prog w 0 (fun _ => true) true m 4 ((cs.drop 6).take (Try.prog.cellsOf 4)) = some y3 := h3
    rw [show Try.prog.cellsOf 4 = 1 by kernel_rfl] at h3
    have h4 := hf 4 _ rfl
    replace h4 : DataW.trod enc Try.prog w 0 (fun _ => true) true m 27 ((cs.drop 7).take (Try.prog.cellsOf 27)) = some y4 := h4
    rw [show Try.prog.cellsOf 27 = 16 by kernel_rfl] at h4
    have h5 := hf 5 _ rfl
    replace h5 : DataW.trod enc Try.prog w 0 (fun _ => true) true m 31 ((cs.drop 23).take (Try.prog.cellsOf 31)) = some y5 := h5
    rw [show Try.prog.cellsOf 31 = 1 by kernel_rfl] at h5
    have h6 := hf 6 _ rfl
    replace h6 : DataW.trod enc Try.prog w 0 (fun _ => true) true m 5 ((cs.drop 24).take (Try.prog.cellsOf 5)) = some y6 := h6
    rw [show Try.prog.cellsOf 5 = 1 by kernel_rfl] at h6
    have h7 := hf 7 _ rfl
    replace h7 : DataW.trod enc Try.prog w 0 (fun _ => true) true m 9 ((cs.drop 25).take (Try.prog.cellsOf 9)) = some y7 := h7
    rw [show Try.prog.cellsOf 9 = 1 by kernel_rfl] at h7
    obtain ⟨k, e0, _, _⟩ := DataW.trod_int Try.underlying5 h0
    obtain ⟨v, e1, i1⟩ := open_vq (by rw [List.length_take, List.length_drop, hl]; rfl) h1
    obtain ⟨b2, e2⟩ := dread_bool Try.underlying4 h2
    obtain ⟨b3, e3⟩ := dread_bool Try.underlying4 h3
    obtain ⟨d, e4, i4⟩ := open_dq (by rw [List.length_take, List.length_drop, hl]; rfl) h4
    obtain ⟨A, L, c, e5, i5, j5, g5, r5⟩ := kopen_list h5
    obtain ⟨x, e6, _, _⟩ := DataW.trod_int Try.underlying5 h6
    obtain ⟨s, e7, _, _⟩ := DataW.trod_string Try.underlying9 h7
    refine ⟨⟨k, v, b2, b3, d, A, L.length, c, x, s⟩, L, ?_, i1, i4, rfl, i5, j5, g5, r5⟩
    rw [cut8 cs hl, e0, e1, e2, e3, e4, e5, e6, e7]
    rfl
/-- what is known of an input -/
structure SIn (w : World) (a : Ak) (q : Oq) (f : Fq) (K L : List Ky) (D : List Dq) : Prop where
  ad : a.d.In
  av : a.v.In
  qv : q.v.In
  qd : q.d.In
  fp : f.proto.In
  fd : f.d.In
  kn : q.kn = K.length
  kc : K.length ≤ q.kc
  knil : q.ka = none → q.kc = 0
  k : RK w q.ka K
  fk : f.kn = L.length
  lc : L.length ≤ f.kc
  lnil : f.ka = none → f.kc = 0
  l : RK w f.ka L
  fn : f.on = D.length
  d : RD w f.oa D
  di : ∀ d ∈ D, d.In
theorem SIn.cin {a : Ak} {q : Oq} {f : Fq} {K L : List Ky} {D : List Dq} (h : SIn w a q f K L D) (hk : K.length < 1000000000000) (hl : L.length < 1000000000000) (hd : D.length < 1000000000000) : CIn w a q f K L D :=
  { qv := h.qv, qd := h.qd, av := h.av, ad := h.ad, fp := h.fp, fd := h.fd, kn := h.kn, kl := hk, k := h.k, kc := h.kc, knil := h.knil, fk := h.fk, ll := hl, l := h.l, lc := h.lc, fn := h.fn, dl := hd, d := h.d, di := h.di }
set_option maxRecDepth 100000 in
theorem sopen_cells {n : Nat} {cs : List Value} {y : DataW H × List MemPlace} (hl : cs.length = 79) (ht : DataW.trod enc Try.prog w 0 (fun _ => true) true n 52 cs = some y) : ∃ (a : Ak) (q : Oq) (f : Fq) (K L : List Ky) (D : List Dq), cs = cll a q f ∧ SIn w a q f K L D := by
  obtain ⟨xs, m, _, _, _, hxl, hf⟩ := DataW.trod_struct Try.underlying52 ht
  match xs, hxl with
  | [y0, y1, y2, y3, y4, y5, y6, y7], _ =>
    have h0 := hf 0 _ rfl
    replace h0 : DataW.trod enc Try.prog w 0 (fun _ => true) true m 39 ((cs.drop 0).take (Try.prog.cellsOf 39)) = some y0 := h0
    rw [show Try.prog.cellsOf 39 = 29 by kernel_rfl] at h0
    have h1 := hf 1 _ rfl
    replace h1 : DataW.trod enc Try.prog w 0 (fun _ => true) true m 33 ((cs.drop 29).take (Try.prog.cellsOf 33)) = some y1 := h1
    rw [show Try.prog.cellsOf 33 = 26 by kernel_rfl] at h1
    have h2 := hf 2 _ rfl
    replace h2 : DataW.trod enc Try.prog w 0 (fun _ => true) true m 4 ((cs.drop 55).take (Try.prog.cellsOf 4)) = some y2 := h2
    rw [show Try.prog.cellsOf 4 = 1 by kernel_rfl] at h2
    have h3 := hf 3 _ rfl
    replace h3 : DataW.trod enc Try.prog w 0 (fun _ => true) true m 24 ((cs.drop 56).take (Try.prog.cellsOf 24)) = some y3 := h3
    rw [show Try.prog.cellsOf 24 = 4 by kernel_rfl] at h3
    have h4 := hf 4 _ rfl
    replace h4 : DataW.trod enc Try.prog w 0 (fun _ => true) true m 4 ((cs.drop 60).take (Try.prog.cellsOf 4)) = some y4 := h4
    rw [show Try.prog.cellsOf 4 = 1 by kernel_rfl] at h4
    have h5 := hf 5 _ rfl
    replace h5 : DataW.trod enc Try.prog w 0 (fun _ => true) true m 27 ((cs.drop 61).take (Try.prog.cellsOf 27)) = some y5 := h5
    rw [show Try.prog.cellsOf 27 = 16 by kernel_rfl] at h5
    have h6 := hf 6 _ rfl
    replace h6 : DataW.trod enc Try.prog w 0 (fun _ => true) true m 31 ((cs.drop 77).take (Try.prog.cellsOf 31)) = some y6 := h6
    rw [show Try.prog.cellsOf 31 = 1 by kernel_rfl] at h6
    have h7 := hf 7 _ rfl
    replace h7 : DataW.trod enc Try.prog w 0 (fun _ => true) true m 41 ((cs.drop 78).take (Try.prog.cellsOf 41)) = some y7 := h7
    rw [show Try.prog.cellsOf 41 = 1 by kernel_rfl] at h7
    obtain ⟨a, e0, _, i0, j0⟩ := aopen_cells (by rw [List.length_take, List.length_drop, hl]; rfl) h0
    obtain ⟨q, K, e1, qv, qd, kn, kc, kx, _, kr⟩ := oopen_cells (by rw [List.length_take, List.length_drop, hl]; rfl) h1
    obtain ⟨b2, e2⟩ := dread_bool Try.underlying4 h2
    obtain ⟨v, e3, i3⟩ := open_vq (by rw [List.length_take, List.length_drop, hl]; rfl) h3
    obtain ⟨b4, e4⟩ := dread_bool Try.underlying4 h4
    obtain ⟨d, e5, i5⟩ := open_dq (by rw [List.length_take, List.length_drop, hl]; rfl) h5
    obtain ⟨A, L, c, e6, i6, n6, _, r6⟩ := kopen_list h6
    obtain ⟨A2, D, c2, e7, r7, q7⟩ := dopen_list h7
    refine ⟨a, q, ⟨b2, v, b4, d, A, L.length, c, A2, D.length, c2⟩, K, L, D, ?_, ⟨i0, j0, qv, qd, i3, i5, kn, kc, kx, kr, rfl, i6, n6, r6, rfl, r7, q7⟩⟩
    rw [cut8b cs hl, e0, e1, e2, e3, e4, e5, e6, e7]
    rfl
set_option maxRecDepth 100000 in
/-- an input -/
theorem open_asked {v : Value} {d : DataW H} {p : List MemPlace} (hv : Value.okWide Try.prog w .any base 52 v) (h : DataW.Trod enc Try.prog w 0 (fun _ => true) true 52 v d p) :
    ∃ (a : Ak) (q : Oq) (f : Fq) (K L : List Ky) (D : List Dq), v = .agg (clA a q f) ∧ SIn w a q f K L D := by
  obtain ⟨cs, rfl, hsz⟩ := okWide_struct Try.underlying52 hv
  obtain ⟨fuel, hf⟩ := h
  have hcell : Try.prog.cellsOf 52 = 79 := by kernel_rfl
  rw [hcell] at hsz
  have hf : DataW.trod enc Try.prog w 0 (fun _ => true) true fuel 52 cs.toList = some (d, p) := hf
  obtain ⟨a, q, f, K, L, D, e, hi⟩ := sopen_cells (by simpa using hsz) hf
  exact ⟨a, q, f, K, L, D, by congr 1; exact Array.toList_inj.1 e, hi⟩
end
end Go.Proofs.Ytkmgdaagannhkaa.S
/-
  PostLies: any input.
-/
namespace Go.Proofs.Ytkmgdaagannhkaa.S
open Go.RowKit Go.Lib Fl

theorem longN_le {n : Nat} (h : longN n = false) : n ≤ 1100 := by
  unfold longN at h
  have := of_decide_eq_false h
  omega
theorem PostLies_walk (a : Ak) (q : Oq) (f : Fq) (K L : List Ky) (D : List Dq) (w : World) (h : SIn w a q f K L D) : Calls Try.prog 5 #[.agg (clA a q f)] w fun e w' => e = .returned (.bool true) ∧ Below w.heap.size w w' := by
  cases hn : longN (max (max q.kn f.kn) f.on) with
  | true => exact lies_long a q f w hn
  | false =>
    have := longN_le hn
    have h1 := h.kn
    have h2 := h.fk
    have h3 := h.fn
    exact lies_p a q f K L D w (h.cin (by omega) (by omega) (by omega)) (by omega) hn
end Go.Proofs.Ytkmgdaagannhkaa.S
/-
  PostLies: whatever the input, the Go function returns true and leaves its input as it was: the walk, carried into the row.
-/
namespace Go.Proofs.Ytkmgdaagannhkaa
open Go.ChangeShapes Go.WideShapes Go.ChangeAt Go.RowKit
open Go.ChangeMaps (open_string shut_string)

theorem PostLies_own : ownKnob Try.prog.godebug = none := by kernel_rfl

theorem laidOut : laidOutB Try.prog = true := by kernel_rfl
set_option maxRecDepth 100000 in
theorem PostLies_lifted (os : Os) (started : os.Started) (H : Type) (enc : TypeId × Value → H) :
    ReturnsInHanded {} Try.checked os 5 .any (Rows.postLiesSpec.pre6 enc Try.prog Try.f5 Rows.postLiesRow.domain false) (Rows.postLiesSpec.post enc Try.prog Try.f5 false true false false) := by
  refine returnsInHanded_of_change (C := Try.checked) PostLies_own started (by kernel_rfl) Try.func5
    (ChangeSpec.witness6 (enc := enc) (C := Try.checked) false ⟨#[], #[.agg #[.int .u8 0, .int .i64 0, .string ByteArray.empty, .int .i64 0, .int .u8 0, .int .u8 0, .float .f64 0, .string ByteArray.empty, .int .i64 0, .int .u8 0, .float .f64 0, .string ByteArray.empty, .int .i64 0, .int .u8 0, .float .f64 0, .string ByteArray.empty, .int .i64 0, .bool false, .bool false, .bool false, .int .u8 0, .float .f64 0, .string ByteArray.empty, .int .i64 0, .int .u8 0, .float .f64 0, .string ByteArray.empty, .int .i64 0, .slice none 0 0, .int .u8 0, .int .u8 0, .float .f64 0, .string ByteArray.empty, .int .i64 0, .bool false, .bool false, .int .u8 0, .int .u8 0, .float .f64 0, .string ByteArray.empty, .int .i64 0, .int .u8 0, .float .f64 0, .string ByteArray.empty, .int .i64 0, .int .u8 0, .float .f64 0, .string ByteArray.empty, .int .i64 0, .bool false, .bool false, .bool false, .slice none 0 0, .int .u8 0, .string ByteArray.empty, .bool false, .int .u8 0, .float .f64 0, .string ByteArray.empty, .int .i64 0, .bool false, .int .u8 0, .int .u8 0, .float .f64 0, .string ByteArray.empty, .int .i64 0, .int .u8 0, .float .f64 0, .string ByteArray.empty, .int .i64 0, .int .u8 0, .float .f64 0, .string ByteArray.empty, .int .i64 0, .bool false, .bool false, .bool false, .slice none 0 0, .slice none 0 0]], []⟩ 8 (by kernel_rfl) (by kernel_rfl) (by kernel_rfl) (by kernel_rfl)) ?_
  intro W base args ds gs before hval0 hW hcnd _
  have hval : ∀ (j : Nat) t v, Try.f5.params[j]? = some t → args[j]? = some v → Value.okWide Try.prog W .any base t v := hval0
  have hW' := hW
  obtain ⟨p, q, hA0, hV, rfl, hfz, hnd⟩ := hW
  have hA : DataW.TrodAll enc Try.prog W 0 (fun _ => true) true Try.f5.params.toList args.toList ds p := hA0
  rw [Try.params5] at hA hval
  obtain ⟨v0, vs0, d0, ds0, p0, q0, hargs, rfl, rfl, h0, r0⟩ := trodAll_cons hA
  obtain ⟨rfl, rfl, rfl⟩ := trodAll_nil r0
  obtain rfl : args = #[v0] := by cases args; simp_all
  obtain ⟨rfl, rfl⟩ := trodVars_none hV
  have h0k := h0
  obtain ⟨a0, q0, f0, K0, L0, D0, rfl, hk0⟩ := S.open_asked (hval 0 52 v0 rfl rfl) h0
  have hlt0 : ∀ x ∈ p0, x.block < W.heap.size := fun x hx => hW'.lt x (by simp [hx])
  clear hA0 hval0
  refine (S.PostLies_walk a0 q0 f0 K0 L0 D0 W hk0).mono fun e W' ⟨he, bel⟩ => ?_
  subst he
  exact ⟨_, rfl, _, _, _, [], _, [], hW', trodAll_mk1 (shut_bool Try.underlying4 _), (trodAll_cons_mk (Below.trod laidOut (by kernel_rfl) (of_decide_eq_true (by kernel_rfl)) h0k bel hlt0) trodAll_mk0), rfl, bel.frame _, fun h => by cases h⟩

theorem PostLies_holds : Rows.PostLiesSaid :=
  OpenClaim.holds_of_wide 5 Try.f5 rfl rfl rfl rfl rfl rfl rfl ⟨rfl, rfl, rfl, rfl, rfl⟩ rfl rfl rfl rfl rfl (by kernel_rfl) Try.func5 (by kernel_rfl)
    (of_decide_eq_true (by kernel_rfl)) (by unfold Func.isWrapper; first | (rw [if_pos (by decide +kernel)]; kernel_rfl) | (rw [if_neg (by decide +kernel)]; exact ⟨rfl, rfl⟩))
    (fun os started H enc _ => PostLies_lifted os started H enc)
#print axioms PostLies_holds
end Go.Proofs.Ytkmgdaagannhkaa
