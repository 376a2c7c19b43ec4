/-
  A heap that comes in, opened.
-/
import Derived.Test.YtlfbflclefndjaaGreatDoorKE15
import Derived.Test.YtlfbflclefndjaaGreatDoorKE30
import Derived.Deep.Slices
import Derived.Deep.Fields
import Derived.Test.YtlfbflclefndjaaGreatDoorKE29
import Derived.Deep.LoopGhost
namespace Go.Proofs.YtlfbflclefndjaaGreatDoor.S
open Go.ChangeShapes Go.WideShapes Go.Deep Go.RowKit Fl

section
variable {H : Type} {enc : TypeId × Value → H} {w : World} {base : Nat}
set_option maxRecDepth 100000 in
/-- a slice of properties inside of something that comes in -/
theorem iopen_props {v : Value} {fuel : Nat} {y : DataW H × List MemPlace} (hf : DataW.trod enc Tryz.prog w 0 (fun _ => true) true fuel 35 [v] = some y) :
    ∃ (A : Option Addr) (l : List Pq) (cap : Nat), v = .slice A l.length cap ∧ l.length ≤ cap ∧ cap ≤ maxLen ∧ PR w A l ∧ (∀ k ∈ l, k.In) ∧ (A = none → cap = 0) := by
  have hcell : Tryz.prog.cellsOf 68 = 18 := by kernel_rfl
  rcases open_slice Tryz.underlying35 hf with ⟨h1, _⟩ | ⟨a, len', cap', m, n, D, Pl, hcs, _, hl, hm, hmm, _, hi⟩
  · have h1 : [v] = [.slice none 0 0] := h1
    injection h1 with h1
    subst h1
    exact ⟨none, [], 0, rfl, Nat.le_refl _, Nat.zero_le _, pr_nil, (fun t ht => by cases ht), fun _ => rfl⟩
  · have hcs : [v] = [.slice (some a) len' cap'] := hcs
    injection hcs with hcs
    subst hcs
    rw [if_pos rfl] at hmm
    subst hmm
    obtain ⟨l, hll, hq⟩ := plist_of (n := len') (Q := fun i k => k.In ∧ (a.add (i * 18)).block < w.heap.size ∧ ∀ j u, (pcl k)[j]? = some u → w.cell? ((a.add (i * 18)).add j) = some u) fun i hilt => by
      obtain ⟨cs', hc, ht⟩ := hi i (by omega)
      rw [hcell] at hc
      exact popen_one hc ht
    refine ⟨some a, l, _, by rw [hll], by omega, by omega, fun hpos => ?_, fun t ht => ?_, fun h => by cases h⟩
    · have hb := (hq 0 hpos).2.1
      rw [kblock_add] at hb
      refine ⟨a, rfl, hb, fun i hi' j u hu => ?_⟩
      rw [← add_add]
      exact (hq i hi').2.2 j u hu
    · obtain ⟨i, hi'⟩ := List.getElem?_of_mem ht
      obtain ⟨hlt, he⟩ := List.getElem?_eq_some_iff.1 hi'
      rw [← he]; exact (hq i hlt).1
set_option maxRecDepth 100000 in
theorem oopen_cells {n : Nat} {cs : List Value} {y : DataW H × List MemPlace} (hl : cs.length = 18) (ht : DataW.trod enc Tryz.prog w 0 (fun _ => true) true n 37 cs = some y) : ∃ o : Ob, cs = ocl o ∧ o.In ∧ PR w o.pa o.props := by
  obtain ⟨xs, m, _, _, _, hxl, hf⟩ := DataW.trod_struct Tryz.underlying37 ht
  have eb : Tryz.prog.cellsOf 4 = 1 := by kernel_rfl
  have eu : Tryz.prog.cellsOf 5 = 1 := by kernel_rfl
  have es : Tryz.prog.cellsOf 9 = 1 := by kernel_rfl
  have ev : Tryz.prog.cellsOf 34 = 4 := by kernel_rfl
  have ep : Tryz.prog.cellsOf 35 = 1 := by kernel_rfl
  match cs, hl with
  | [c0, c1, c2, c3, c4, c5, c6, c7, c8, c9, c10, c11, c12, c13, c14, c15, c16, c17], _ =>
    match xs, hxl with
    | [y0, y1, y2, y3, y4, y5, y6, y7, y8], _ =>
      have h0 := hf 0 _ rfl
      have h1 := hf 1 _ rfl
      have h2 := hf 2 _ rfl
      have h3 := hf 3 _ rfl
      have h4 := hf 4 _ rfl
      have h5 := hf 5 _ rfl
      have h6 := hf 6 _ rfl
      have h7 := hf 7 _ rfl
      have h8 := hf 8 _ rfl
      replace h0 : DataW.trod enc Tryz.prog w 0 (fun _ => true) true m 5 (([c0, c1, c2, c3, c4, c5, c6, c7, c8, c9, c10, c11, c12, c13, c14, c15, c16, c17].drop 0).take (Tryz.prog.cellsOf 5)) = some y0 := h0
      replace h1 : DataW.trod enc Tryz.prog w 0 (fun _ => true) true m 34 (([c0, c1, c2, c3, c4, c5, c6, c7, c8, c9, c10, c11, c12, c13, c14, c15, c16, c17].drop 1).take (Tryz.prog.cellsOf 34)) = some y1 := h1
      replace h2 : DataW.trod enc Tryz.prog w 0 (fun _ => true) true m 4 (([c0, c1, c2, c3, c4, c5, c6, c7, c8, c9, c10, c11, c12, c13, c14, c15, c16, c17].drop 5).take (Tryz.prog.cellsOf 4)) = some y2 := h2
      replace h3 : DataW.trod enc Tryz.prog w 0 (fun _ => true) true m 35 (([c0, c1, c2, c3, c4, c5, c6, c7, c8, c9, c10, c11, c12, c13, c14, c15, c16, c17].drop 6).take (Tryz.prog.cellsOf 35)) = some y3 := h3
      replace h4 : DataW.trod enc Tryz.prog w 0 (fun _ => true) true m 34 (([c0, c1, c2, c3, c4, c5, c6, c7, c8, c9, c10, c11, c12, c13, c14, c15, c16, c17].drop 7).take (Tryz.prog.cellsOf 34)) = some y4 := h4
      replace h5 : DataW.trod enc Tryz.prog w 0 (fun _ => true) true m 34 (([c0, c1, c2, c3, c4, c5, c6, c7, c8, c9, c10, c11, c12, c13, c14, c15, c16, c17].drop 11).take (Tryz.prog.cellsOf 34)) = some y5 := h5
      replace h6 : DataW.trod enc Tryz.prog w 0 (fun _ => true) true m 9 (([c0, c1, c2, c3, c4, c5, c6, c7, c8, c9, c10, c11, c12, c13, c14, c15, c16, c17].drop 15).take (Tryz.prog.cellsOf 9)) = some y6 := h6
      replace h7 : DataW.trod enc Tryz.prog w 0 (fun _ => true) true m 4 (([c0, c1, c2, c3, c4, c5, c6, c7, c8, c9, c10, c11, c12, c13, c14, c15, c16, c17].drop 16).take (Tryz.prog.cellsOf 4)) = some y7 := h7
      replace h8 : DataW.trod enc Tryz.prog w 0 (fun _ => true) true m 4 (([c0, c1, c2, c3, c4, c5, c6, c7, c8, c9, c10, c11, c12, c13, c14, c15, c16, c17].drop 17).take (Tryz.prog.cellsOf 4)) = some y8 := h8
      rw [eu] at h0
      rw [ev] at h1 h4 h5
      rw [eb] at h2 h7 h8
      rw [ep] at h3
      rw [es] at h6
      obtain ⟨k, k1, _, k2⟩ := DataW.trod_int Tryz.underlying5 h0
      obtain ⟨v1, e1, i1⟩ := open_vq (by rfl) h1
      obtain ⟨b2, e2⟩ := dread_bool Tryz.underlying4 h2
      obtain ⟨A, l, cap, e3, g1, g2, g3, g4, g5⟩ := iopen_props (v := c6) h3
      obtain ⟨v4, e4, i4⟩ := open_vq (by rfl) h4
      obtain ⟨v5, e5, i5⟩ := open_vq (by rfl) h5
      obtain ⟨s, s1, _, s2⟩ := DataW.trod_string Tryz.underlying9 h6
      obtain ⟨b7, e7⟩ := dread_bool Tryz.underlying4 h7
      obtain ⟨b8, e8⟩ := dread_bool Tryz.underlying4 h8
      have hk : 0 ≤ k ∧ k < 256 := by
        have h2 : (decide (IntKind.u8.min ≤ k) && decide (k ≤ IntKind.u8.max)) = true := k2
        rw [show IntKind.u8.min = 0 by decide, show IntKind.u8.max = 255 by decide] at h2
        simp at h2
        omega
      refine ⟨⟨k, v1, b2, A, cap, l, v4, v5, s, b7, b8⟩, ?_, ⟨hk.1, hk.2, i1, i4, i5, s2, g4, g1, by unfold maxLen at g2; show cap < _; omega, g5⟩, g3⟩
      have t1 : [c1, c2, c3, c4] = _ := e1
      have t4 : [c7, c8, c9, c10] = _ := e4
      have t5 : [c11, c12, c13, c14] = _ := e5
      simp only [List.drop, List.take, List.cons.injEq, and_true] at k1 e2 s1 e7 e8
      simp only [List.cons.injEq, and_true] at t1 t4 t5
      obtain ⟨t1a, t1b, t1c, t1d⟩ := t1
      obtain ⟨t4a, t4b, t4c, t4d⟩ := t4
      obtain ⟨t5a, t5b, t5c, t5d⟩ := t5
      subst k1 e2 s1 e7 e8 e3 t1a t1b t1c t1d t4a t4b t4c t4d t5a t5b t5c t5d
      rfl
end
end Go.Proofs.YtlfbflclefndjaaGreatDoor.S
/-
  Asks that come in, opened.
-/
namespace Go.Proofs.YtlfbflclefndjaaGreatDoor.S
open Go.ChangeShapes Go.WideShapes Go.Deep Go.RowKit Go.Lib Fl

/-- a slice of asks lies so -/
def RAk (w : World) (A : Option Addr) (L : List Ak) : Prop := 0 < L.length → ∃ a, A = some a ∧ a.block < w.heap.size ∧ ∀ i (h : i < L.length), ∀ j u, (akl L[i])[j]? = some u → w.cell? ((a.add (i * 29)).add j) = some u
theorem RAk.up {w w' : World} {A : Option Addr} {L : List Ak} (h : RAk w A L) (hb : Below w.heap.size w w') : RAk w' A L := fun hp => by
  obtain ⟨a, h1, h2, h3⟩ := h hp
  exact ⟨a, h1, Nat.lt_of_lt_of_le h2 hb.size, fun i hi j u hu => (hb.cell (by rw [add_blk, add_blk]; exact h2)).trans (h3 i hi j u hu)⟩
theorem akl_len (a : Ak) : (akl a).length = 29 := rfl
section
variable {H : Type} {enc : TypeId × Value → H} {w : World} {base : Nat}
theorem aklist_of {n : Nat} {Q : Nat → Ak → Prop} (h : ∀ i, i < n → ∃ t, Q i t) : ∃ l : List Ak, l.length = n ∧ ∀ (i : Nat) (hi : i < l.length), Q i l[i] := by
  induction n with
  | zero => exact ⟨[], rfl, fun i hi => by simp at hi⟩
  | succ n ih =>
    obtain ⟨l, hl, hq⟩ := ih fun i hi => h i (by omega)
    obtain ⟨t, ht⟩ := h n (by omega)
    refine ⟨l ++ [t], by simp [hl], fun i hi => ?_⟩
    by_cases c : i < l.length
    · rw [List.getElem_append_left c]; exact hq i c
    · have e : i = l.length := by simp at hi; omega
      subst e
      rw [List.getElem_append_right (Nat.le_refl _)]
      simp only [Nat.sub_self, List.getElem_singleton]
      rw [hl]; exact ht
set_option maxRecDepth 100000 in
theorem aopen_cells {n : Nat} {cs : List Value} {y : DataW H × List MemPlace} (hl : cs.length = 29) (ht : DataW.trod enc Tryz.prog w 0 (fun _ => true) true n 49 cs = some y) : ∃ a : Ak, cs = akl a ∧ a.In := by
  obtain ⟨xs, m, _, _, _, hxl, hf⟩ := DataW.trod_struct Tryz.underlying49 ht
  have eu : Tryz.prog.cellsOf 5 = 1 := by kernel_rfl
  have ei : Tryz.prog.cellsOf 3 = 1 := by kernel_rfl
  have ek : Tryz.prog.cellsOf 26 = 2 := by kernel_rfl
  have ed : Tryz.prog.cellsOf 41 = 16 := by kernel_rfl
  have ev : Tryz.prog.cellsOf 34 = 4 := by kernel_rfl
  have es : Tryz.prog.cellsOf 47 = 1 := by kernel_rfl
  match cs, hl with
  | [c0, c1, c2, c3, c4, c5, c6, c7, c8, c9, c10, c11, c12, c13, c14, c15, c16, c17, c18, c19, c20, c21, c22, c23, c24, c25, c26, c27, c28], _ =>
    match xs, hxl with
    | [y0, y1, y2, y3, y4, y5, y6], _ =>
      have h0 := hf 0 _ rfl
      replace h0 : DataW.trod enc Tryz.prog w 0 (fun _ => true) true m 5 (([c0, c1, c2, c3, c4, c5, c6, c7, c8, c9, c10, c11, c12, c13, c14, c15, c16, c17, c18, c19, c20, c21, c22, c23, c24, c25, c26, c27, c28].drop 0).take (Tryz.prog.cellsOf 5)) = some y0 := h0
      have h1 := hf 1 _ rfl
      replace h1 : DataW.trod enc Tryz.prog w 0 (fun _ => true) true m 3 (([c0, c1, c2, c3, c4, c5, c6, c7, c8, c9, c10, c11, c12, c13, c14, c15, c16, c17, c18, c19, c20, c21, c22, c23, c24, c25, c26, c27, c28].drop 1).take (Tryz.prog.cellsOf 3)) = some y1 := h1
      have h2 := hf 2 _ rfl
      replace h2 : DataW.trod enc Tryz.prog w 0 (fun _ => true) true m 26 (([c0, c1, c2, c3, c4, c5, c6, c7, c8, c9, c10, c11, c12, c13, c14, c15, c16, c17, c18, c19, c20, c21, c22, c23, c24, c25, c26, c27, c28].drop 2).take (Tryz.prog.cellsOf 26)) = some y2 := h2
      have h3 := hf 3 _ rfl
      replace h3 : DataW.trod enc Tryz.prog w 0 (fun _ => true) true m 41 (([c0, c1, c2, c3, c4, c5, c6, c7, c8, c9, c10, c11, c12, c13, c14, c15, c16, c17, c18, c19, c20, c21, c22, c23, c24, c25, c26, c27, c28].drop 4).take (Tryz.prog.cellsOf 41)) = some y3 := h3
      have h4 := hf 4 _ rfl
      replace h4 : DataW.trod enc Tryz.prog w 0 (fun _ => true) true m 34 (([c0, c1, c2, c3, c4, c5, c6, c7, c8, c9, c10, c11, c12, c13, c14, c15, c16, c17, c18, c19, c20, c21, c22, c23, c24, c25, c26, c27, c28].drop 20).take (Tryz.prog.cellsOf 34)) = some y4 := h4
      have h5 := hf 5 _ rfl
      replace h5 : DataW.trod enc Tryz.prog w 0 (fun _ => true) true m 34 (([c0, c1, c2, c3, c4, c5, c6, c7, c8, c9, c10, c11, c12, c13, c14, c15, c16, c17, c18, c19, c20, c21, c22, c23, c24, c25, c26, c27, c28].drop 24).take (Tryz.prog.cellsOf 34)) = some y5 := h5
      have h6 := hf 6 _ rfl
      replace h6 : DataW.trod enc Tryz.prog w 0 (fun _ => true) true m 47 (([c0, c1, c2, c3, c4, c5, c6, c7, c8, c9, c10, c11, c12, c13, c14, c15, c16, c17, c18, c19, c20, c21, c22, c23, c24, c25, c26, c27, c28].drop 28).take (Tryz.prog.cellsOf 47)) = some y6 := h6
      rw [eu] at h0
      rw [ei] at h1
      rw [ek] at h2
      rw [ed] at h3
      rw [ev] at h4 h5
      rw [es] at h6
      obtain ⟨k, k1, _, k2⟩ := DataW.trod_int Tryz.underlying5 h0
      obtain ⟨n1, n2, _, n3⟩ := DataW.trod_int Tryz.underlying3 h1
      obtain ⟨ky, e2, i2⟩ := kopen_cells (by rfl) h2
      obtain ⟨dd, e3, i3⟩ := open_dq (by rfl) h3
      obtain ⟨v4, e4, i4⟩ := open_vq (by rfl) h4
      obtain ⟨v5, e5, _⟩ := open_vq (by rfl) h5
      have hs : ∃ A q r, c28 = .slice A q r := by
        rcases open_slice Tryz.underlying47 h6 with ⟨h1, _⟩ | ⟨a, len', cap', _, _, _, _, h1, _⟩
        · have h1 : [c28] = [.slice none 0 0] := h1
          injection h1 with h1
          exact ⟨_, _, _, h1⟩
        · have h1 : [c28] = [.slice (some a) len' cap'] := h1
          injection h1 with h1
          exact ⟨_, _, _, h1⟩
      obtain ⟨A, q, r, rfl⟩ := hs
      have k1 : [c0] = [.int .u8 k] := k1
      have n2 : [c1] = [.int .i64 n1] := n2
      have e2 : [c2, c3] = _ := e2
      have e3 : [c4, c5, c6, c7, c8, c9, c10, c11, c12, c13, c14, c15, c16, c17, c18, c19] = _ := e3
      have e4 : [c20, c21, c22, c23] = _ := e4
      have e5 : [c24, c25, c26, c27] = _ := e5
      refine ⟨⟨k, n1, ky, dd, v4, v5, A, q, r⟩, ?_, i2, i3, i4⟩
      show [c0] ++ ([c1] ++ ([c2, c3] ++ ([c4, c5, c6, c7, c8, c9, c10, c11, c12, c13, c14, c15, c16, c17, c18, c19] ++ ([c20, c21, c22, c23] ++ ([c24, c25, c26, c27] ++ [.slice A q r]))))) = _
      rw [k1, n2, e2, e3, e4, e5]
      rfl
set_option maxRecDepth 100000 in
theorem aopen_one {a : Addr} {n : Nat} {cs : List Value} {x : DataW H × List MemPlace} (hc : w.cells? 0 a 29 = some cs) (ht : DataW.trod enc Tryz.prog w 0 (fun _ => true) true n 49 cs = some x) : ∃ p : Ak, p.In ∧ a.block < w.heap.size ∧ ∀ j u, (akl p)[j]? = some u → w.cell? (a.add j) = some u := by
  obtain ⟨_, hl, hat⟩ := World.cells?_some hc
  obtain ⟨p, rfl, hp⟩ := aopen_cells hl ht
  have h0 := hat 0 (by omega)
  refine ⟨p, hp, ?_, fun j u hu => ?_⟩
  · have := klt_of_cell h0
    rw [kblock_add] at this
    exact this
  · have hj : j < 29 := by have := (List.getElem?_eq_some_iff.1 hu).1; rw [akl_len] at this; exact this
    rw [hat j hj]
    have := (List.getElem?_eq_some_iff.1 hu).2
    simp [← this]
set_option maxRecDepth 100000 in
/-- a slice of asks that comes in -/
theorem open_asks {v : Value} {d : DataW H} {p : List MemPlace} (hv : Value.okWide Tryz.prog w .any base 27 v) (h : DataW.Trod enc Tryz.prog w 0 (fun _ => true) true 27 v d p) :
    ∃ (A : Option Addr) (l : List Ak) (cap : Nat), v = .slice A l.length cap ∧ l.length ≤ cap ∧ cap ≤ maxLen ∧ RAk w A l ∧ (∀ k ∈ l, k.In) := by
  obtain ⟨a0, len, cap, rfl⟩ := okWide_slice Tryz.underlying27 hv
  obtain ⟨fuel, hf⟩ := h
  have hcell : Tryz.prog.cellsOf 49 = 29 := by kernel_rfl
  rcases open_slice Tryz.underlying27 hf with ⟨h1, _⟩ | ⟨a, len', cap', m, n, D, Pl, hcs, _, hl, hm, hmm, _, hi⟩
  · have h1 : [Value.slice a0 len cap] = [.slice none 0 0] := h1
    injection h1 with h1
    injection h1 with e1 e2 e3
    subst e1 e2 e3
    exact ⟨none, [], 0, rfl, Nat.le_refl _, Nat.zero_le _, (fun h => absurd h (Nat.lt_irrefl _)), (fun t ht => by cases ht)⟩
  · have hcs : [Value.slice a0 len cap] = [.slice (some a) len' cap'] := hcs
    injection hcs with hcs
    injection hcs with e1 e2 e3
    subst e1 e2 e3
    rw [if_pos rfl] at hmm
    subst hmm
    obtain ⟨l, hll, hq⟩ := aklist_of (n := len) (Q := fun i k => k.In ∧ (a.add (i * 29)).block < w.heap.size ∧ ∀ j u, (akl k)[j]? = some u → w.cell? ((a.add (i * 29)).add j) = some u) fun i hilt => by
      obtain ⟨cs', hc, ht⟩ := hi i (by omega)
      rw [hcell] at hc
      exact aopen_one hc ht
    refine ⟨some a, l, _, by rw [hll], by omega, by omega, fun hpos => ?_, fun t ht => ?_⟩
    · have hb := (hq 0 hpos).2.1
      rw [kblock_add] at hb
      exact ⟨a, rfl, hb, fun i hi' j u hu => (hq i hi').2.2 j u hu⟩
    · obtain ⟨i, hi'⟩ := List.getElem?_of_mem ht
      obtain ⟨hlt, he⟩ := List.getElem?_eq_some_iff.1 hi'
      rw [← he]; exact (hq i hlt).1
end
end Go.Proofs.YtlfbflclefndjaaGreatDoor.S
/-
  OrdinaryKeeps: the walk.
-/
namespace Go.Proofs.YtlfbflclefndjaaGreatDoor.S
open Go.RowKit Go.Lib Fl
open Classical

/-- the heap as it stands ahead of a round -/
structure Kr (w : World) (A1 : Option Addr) (H1 : List Ob) (c1 : Nat) (k : Nat) (ky : Ky) (W : World) : Prop where
  below : Below w.heap.size w W
  h : W.heap[w.heap.size]? = some (.cells #[.slice A1 H1.length c1] 24 (0, 0))
  kb : W.heap[w.heap.size + 1]? = some (.cells #[.string ky.str, .int .i64 ky.sym] 26 (0, 0))
  inn : HIn W A1 H1 c1
  small : ∀ o ∈ H1, o.props.length ≤ 100000
  may : mayH H1 = true
  lt : k < H1.length
  plain : plainK H1[k].kind = true
theorem Kr.up {w : World} {A1 : Option Addr} {H1 : List Ob} {c1 k : Nat} {ky : Ky} {W W' : World} (h : Kr w A1 H1 c1 k ky W) (hb : Below W.heap.size W W') : Kr w A1 H1 c1 k ky W' := ⟨vb h.below hb, vblkn hb h.h, vblkn hb h.kb, h.inn.up hb, h.small, h.may, h.lt, h.plain⟩
theorem ra_at {w : World} {A : Option Addr} {L : List Ak} (h : RAk w A L) {i : Nat} (hi : i < L.length) : ∃ a, A = some a ∧ (a.add (i * 29)).block < w.heap.size ∧ ∀ j u, (akA L[i]).toList[j]? = some u → w.cell? ((a.add (i * 29)).add j) = some u := by
  obtain ⟨a, h1, h2, h3⟩ := h (by omega)
  exact ⟨a, h1, by rw [add_blk]; exact h2, fun j u hu => h3 i hi j u hu⟩
theorem aq_load {ops : Array Oper} {rest : List Oper} {o : Oper} {a : Act} {w : World} {Q : Exit → Act → World → Prop} {x : Operand} {A : Addr} {k : Ak} (hw : Region.wanted o (yielded ops a.tmps) = true) (ho : o.op = .load 49 x) (hx : a.eval x = .pointer (some A)) (hc : ∀ j u, (akA k).toList[j]? = some u → w.cell? (A.add j) = some u)
    (h : wpList Tryz.prog ops Q rest (a.put o.dst (.agg (akA k))) w) : wpList Tryz.prog ops Q (o :: rest) a w :=
  wpList_wanted hw fun _ hK => wp_load_at (cs := (akA k).toList) ho hx hc Tryz.underlying49 rfl ask_sz (hK _ _ h)
theorem Kr.done {w : World} {A1 : Option Addr} {H1 : List Ob} {c1 k : Nat} {ky : Ky} {W : World} {a : Ak} (h : Kr w A1 H1 c1 k ky W) (ha : a.In) (htab : TabHere W) : Calls Tryz.prog 8 #[.agg #[.slice A1 H1.length c1], .agg (akA a)] W fun e w' =>
    (∃ E : Int, E ≠ 0 ∧ e = .returned (.tuple #[.agg #[.slice none 0 0], .agg (oqA ozero), .int .i64 E]) ∧ Below W.heap.size W w') ∨
    (∃ (B : Nat) (q : Oq) (M2 : List Ob), e = .returned (.tuple #[.agg #[.slice (some ⟨B, 0, none⟩) H1.length H1.length], .agg (oqA q), .int .i64 0]) ∧ (LeftH H1 B M2 w' ∧ ∃ (h1 : k < H1.length) (h2 : k < M2.length), KeptL H1[k] M2[k] ky ∧ (q.kind = 1 ∨ q.kind = 3) ∧ (a.n = (k : Int) → a.k = ky → q.b = true → (a.m = 6 → (findT M2[k].props ky).isSome = true) ∧ (a.m = 10 → (findT M2[k].props ky).isSome = false))) ∧ Below W.heap.size W w') :=
  (Do_any A1 H1 c1 a W h.inn h.small ha htab).mono fun e w' ⟨hb, h2⟩ => by
    rcases h2 with ⟨hne, he⟩ | ⟨_, hm, k2, B, q, M2, hA, he, hD, hB⟩
    · exact .inl ⟨_, hne, he, hb⟩
    · obtain ⟨h3, h4, h5, h6⟩ := keeps_done (ky := ky) hD hA hm ha h.inn.inn h.lt
      exact .inr ⟨B, q, M2, he, ⟨done_left hD hB hm hA ha h.inn.few h.inn.inn, h.lt, h3, h4, h5, h6⟩, hb⟩
/-- what Do came to, of the object that is looked at -/
structure Dr (H1 : List Ob) (k : Nat) (ky : Ky) (a : Ak) (v : Value) (q : Oq) (E : Int) (W : World) : Prop where
  one : v.oneCell' = true
  ok : E = 0 → ∃ (B : Nat) (M2 : List Ob), v = .slice (some ⟨B, 0, none⟩) H1.length H1.length ∧ LeftH H1 B M2 W ∧ ∃ (h1 : k < H1.length) (h2 : k < M2.length), KeptL H1[k] M2[k] ky ∧ (q.kind = 1 ∨ q.kind = 3) ∧ (a.n = (k : Int) → a.k = ky → q.b = true → (a.m = 6 → (findT M2[k].props ky).isSome = true) ∧ (a.m = 10 → (findT M2[k].props ky).isSome = false))
theorem Dr.up {H1 : List Ob} {k : Nat} {ky : Ky} {a : Ak} {v : Value} {q : Oq} {E : Int} {W W' : World} (h : Dr H1 k ky a v q E W) (hb : Below W.heap.size W W') : Dr H1 k ky a v q E W' := ⟨h.one, fun e => by
  obtain ⟨B, M2, h1, h2, h3⟩ := h.ok e
  exact ⟨B, M2, h1, h2.up hb, h3⟩⟩
theorem Kr.dr {w : World} {A1 : Option Addr} {H1 : List Ob} {c1 k : Nat} {ky : Ky} {W : World} {a : Ak} (h : Kr w A1 H1 c1 k ky W) (ha : a.In) (htab : TabHere w) : Calls Tryz.prog 8 #[.agg #[.slice A1 H1.length c1], .agg (akA a)] W fun e w' =>
    ∃ (v : Value) (q : Oq) (E : Int), e = .returned (.tuple #[.agg #[v], .agg (oqA q), .int .i64 E]) ∧ Dr H1 k ky a v q E w' ∧ Below W.heap.size W w' :=
  (h.done ha (tab_up htab h.below)).mono fun e w' h2 => by
    rcases h2 with ⟨E, hE, he, hb⟩ | ⟨B, q, M2, he, ⟨hl, h3⟩, hb⟩
    · exact ⟨_, _, E, he, ⟨rfl, fun h => absurd h hE⟩, hb⟩
    · exact ⟨_, q, 0, he, ⟨rfl, fun _ => ⟨B, M2, rfl, hl, h3⟩⟩, hb⟩
theorem Kr.told {w : World} {A1 : Option Addr} {H1 : List Ob} {c1 k : Nat} {ky : Ky} {W : World} (h : Kr w A1 H1 c1 k ky W) (hky : KyIn ky) (hmk : mayKy ky) (htab : TabHere w) : Calls Tryz.prog 9 #[.agg #[.slice A1 H1.length c1], .int .i64 (k : Int), .agg #[.string ky.str, .int .i64 ky.sym]] W (ToldTo H1 k h.lt ky W) :=
  told_o A1 H1 c1 k ky W h.inn h.small h.may h.lt h.plain hky hmk (tab_up htab h.below)
end Go.Proofs.YtlfbflclefndjaaGreatDoor.S
