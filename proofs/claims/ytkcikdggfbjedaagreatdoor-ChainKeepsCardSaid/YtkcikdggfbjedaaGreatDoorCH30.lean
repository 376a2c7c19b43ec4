/-
  A value that comes in, opened: a struct of four fields.
-/
import Derived.Test.YtkcikdggfbjedaaGreatDoorCH03
import Derived.Deep.Slices
import Derived.Deep.Fields
import Derived.ChangeSame
import Derived.Carry
import Derived.OpenShut
import Derived.Laws.Cover2
import Derived.Test.YtkcikdggfbjedaaGreatDoorCH12
import Derived.Test.YtkcikdggfbjedaaGreatDoorCH15
import Derived.Test.YtkcikdggfbjedaaGreatDoorCH11
import Derived.Test.YtkcikdggfbjedaaGreatDoorCH23
namespace Go.Proofs.YtkcikdggfbjedaaGreatDoor.S
open Go.ChangeShapes Go.WideShapes Go.Deep Go.RowKit Fl

section
variable {H : Type} {enc : TypeId × Value → H} {w : World} {base : Nat} {spare : Nat → Bool} {held : Bool}
/-- a float, read -/
theorem vread_float {k : FloatKind} {t : TypeId} {fuel : Nat} {cs : List Value} {x : DataW H × List MemPlace} (ht : Tryz.prog.underlying t = some (.float k)) (h : DataW.trod enc Tryz.prog w base spare held fuel t cs = some x) : ∃ b, cs = [.float k b] ∧ (Lit.float k b).wf = true := by
  cases fuel with
  | zero => simp [DataW.trod] at h
  | succ n =>
    unfold DataW.trod at h
    rw [ht] at h
    split at h <;> simp_all
set_option maxRecDepth 100000 in
theorem vopen_cells {n : Nat} {cs : List Value} {y : DataW H × List MemPlace} (hl : cs.length = 4) (ht : DataW.trod enc Tryz.prog w base spare held n 48 cs = some y) :
    ∃ (k x : Nat) (s : ByteArray) (r : Int), cs = [.int .u8 (k : Int), .float .f64 x, .string s, .int .i64 r] ∧ k < 256 ∧ x < 2 ^ 64 ∧ s.size ≤ maxLen ∧ -2 ^ 63 ≤ r ∧ r < 2 ^ 63 := by
  obtain ⟨xs, m, _, _, _, hxl, hf⟩ := DataW.trod_struct Tryz.underlying48 ht
  match cs, hl with
  | [c0, c1, c2, c3], _ =>
    have e5 : Tryz.prog.cellsOf 5 = 1 := by kernel_rfl
    have e3 : Tryz.prog.cellsOf 3 = 1 := by kernel_rfl
    have e9 : Tryz.prog.cellsOf 9 = 1 := by kernel_rfl
    have ef : Tryz.prog.cellsOf 46 = 1 := by kernel_rfl
    match xs, hxl with
    | [y0, y1, y2, y3], _ =>
      have h0 : DataW.trod enc Tryz.prog w base spare held m 5 (([c0, c1, c2, c3].drop 0).take (Tryz.prog.cellsOf 5)) = some y0 := hf 0 _ rfl
      have h1 : DataW.trod enc Tryz.prog w base spare held m 46 (([c0, c1, c2, c3].drop 1).take (Tryz.prog.cellsOf 46)) = some y1 := hf 1 _ rfl
      have h2 : DataW.trod enc Tryz.prog w base spare held m 9 (([c0, c1, c2, c3].drop 2).take (Tryz.prog.cellsOf 9)) = some y2 := hf 2 _ rfl
      have h3 : DataW.trod enc Tryz.prog w base spare held m 3 (([c0, c1, c2, c3].drop 3).take (Tryz.prog.cellsOf 3)) = some y3 := hf 3 _ rfl
      rw [e5] at h0
      rw [ef] at h1
      rw [e9] at h2
      rw [e3] at h3
      obtain ⟨k, k1, _, k2⟩ := DataW.trod_int Tryz.underlying5 h0
      obtain ⟨b, b1, b2⟩ := vread_float Tryz.underlying46 h1
      obtain ⟨s, s1, _, s2⟩ := DataW.trod_string Tryz.underlying9 h2
      obtain ⟨p, p1, _, p2⟩ := DataW.trod_int Tryz.underlying3 h3
      obtain rfl : c0 = .int .u8 k := by simpa using k1
      obtain rfl : c1 = .float .f64 b := by simpa using b1
      obtain rfl : c2 = .string s := by simpa using s1
      obtain rfl : c3 = .int .i64 p := by simpa using p1
      have hk : 0 ≤ k ∧ k ≤ 255 := by
        have h2 : (decide (IntKind.u8.min ≤ k) && decide (k ≤ IntKind.u8.max)) = true := k2
        rw [show IntKind.u8.min = 0 by decide, show IntKind.u8.max = 255 by decide] at h2
        simpa using h2
      have hb : b < 2 ^ 64 := by
        have h2 : decide (b < 2 ^ 64) = true := b2
        simpa using h2
      have hp : -9223372036854775808 ≤ p ∧ p ≤ 9223372036854775807 := by
        have h2 : (decide (IntKind.i64.min ≤ p) && decide (p ≤ IntKind.i64.max)) = true := p2
        rw [show IntKind.i64.min = -9223372036854775808 by decide, show IntKind.i64.max = 9223372036854775807 by decide] at h2
        simpa using h2
      have e : ((k.toNat : Nat) : Int) = k := by omega
      exact ⟨k.toNat, b, s, p, by rw [e], by omega, hb, s2, by omega, by omega⟩
end
end Go.Proofs.YtkcikdggfbjedaaGreatDoor.S
/-
  A descriptor that comes in, opened: a struct of seven fields, three of them structs.
-/
namespace Go.Proofs.YtkcikdggfbjedaaGreatDoor.S
open Go.ChangeShapes Go.WideShapes Go.Deep Go.RowKit Fl

section
variable {H : Type} {enc : TypeId × Value → H} {w : World} {base : Nat} {spare : Nat → Bool} {held : Bool}
theorem dread_bool {t : TypeId} {fuel : Nat} {cs : List Value} {x : DataW H × List MemPlace} (ht : Tryz.prog.underlying t = some .bool) (h : DataW.trod enc Tryz.prog w base spare held fuel t cs = some x) : ∃ b, cs = [.bool b] := by
  cases fuel with
  | zero => simp [DataW.trod] at h
  | succ n =>
    unfold DataW.trod at h
    rw [ht] at h
    split at h <;> simp_all
set_option maxRecDepth 100000 in
theorem open_vq {n : Nat} {cs : List Value} {y : DataW H × List MemPlace} (hl : cs.length = 4) (ht : DataW.trod enc Tryz.prog w base spare held n 48 cs = some y) :
    ∃ v : Vq, cs = [.int .u8 v.k, .float .f64 v.x, .string v.s, .int .i64 v.r] ∧ v.In := by
  obtain ⟨k, x, s, r, e, h1, h2, h3, h4, h5⟩ := vopen_cells hl ht
  exact ⟨⟨(k : Int), x, s, r⟩, e, by dsimp only; omega, by dsimp only; omega, h2, h5⟩
set_option maxRecDepth 100000 in
theorem open_dq {n : Nat} {cs : List Value} {y : DataW H × List MemPlace} (hl : cs.length = 16) (ht : DataW.trod enc Tryz.prog w base spare held n 50 cs = some y) :
    ∃ q : Dq, cs = q.cells.toList ∧ q.In := by
  obtain ⟨xs, m, _, _, _, hxl, hf⟩ := DataW.trod_struct Tryz.underlying50 ht
  match cs, hl with
  | [c0, c1, c2, c3, c4, c5, c6, c7, c8, c9, c10, c11, c12, c13, c14, c15], _ =>
    have e5 : Tryz.prog.cellsOf 5 = 1 := by kernel_rfl
    have eb : Tryz.prog.cellsOf 4 = 1 := by kernel_rfl
    have ev : Tryz.prog.cellsOf 48 = 4 := by kernel_rfl
    match xs, hxl with
    | [y0, y1, y2, y3, y4, y5, y6], _ =>
      have h0 : DataW.trod enc Tryz.prog w base spare held m 5 (([c0, c1, c2, c3, c4, c5, c6, c7, c8, c9, c10, c11, c12, c13, c14, c15].drop 0).take (Tryz.prog.cellsOf 5)) = some y0 := hf 0 _ rfl
      have h1 : DataW.trod enc Tryz.prog w base spare held m 48 (([c0, c1, c2, c3, c4, c5, c6, c7, c8, c9, c10, c11, c12, c13, c14, c15].drop 1).take (Tryz.prog.cellsOf 48)) = some y1 := hf 1 _ rfl
      have h2 : DataW.trod enc Tryz.prog w base spare held m 48 (([c0, c1, c2, c3, c4, c5, c6, c7, c8, c9, c10, c11, c12, c13, c14, c15].drop 5).take (Tryz.prog.cellsOf 48)) = some y2 := hf 2 _ rfl
      have h3 : DataW.trod enc Tryz.prog w base spare held m 48 (([c0, c1, c2, c3, c4, c5, c6, c7, c8, c9, c10, c11, c12, c13, c14, c15].drop 9).take (Tryz.prog.cellsOf 48)) = some y3 := hf 3 _ rfl
      have h4 : DataW.trod enc Tryz.prog w base spare held m 4 (([c0, c1, c2, c3, c4, c5, c6, c7, c8, c9, c10, c11, c12, c13, c14, c15].drop 13).take (Tryz.prog.cellsOf 4)) = some y4 := hf 4 _ rfl
      have h5 : DataW.trod enc Tryz.prog w base spare held m 4 (([c0, c1, c2, c3, c4, c5, c6, c7, c8, c9, c10, c11, c12, c13, c14, c15].drop 14).take (Tryz.prog.cellsOf 4)) = some y5 := hf 5 _ rfl
      have h6 : DataW.trod enc Tryz.prog w base spare held m 4 (([c0, c1, c2, c3, c4, c5, c6, c7, c8, c9, c10, c11, c12, c13, c14, c15].drop 15).take (Tryz.prog.cellsOf 4)) = some y6 := hf 6 _ rfl
      rw [e5] at h0
      rw [ev] at h1 h2 h3
      rw [eb] at h4 h5 h6
      obtain ⟨k, k1, _, k2⟩ := DataW.trod_int Tryz.underlying5 h0
      obtain ⟨a, a1, a2⟩ := open_vq rfl h1
      obtain ⟨b, b1, b2⟩ := open_vq rfl h2
      obtain ⟨c, d1, d2⟩ := open_vq rfl h3
      obtain ⟨p, p1⟩ := dread_bool Tryz.underlying4 h4
      obtain ⟨q, q1⟩ := dread_bool Tryz.underlying4 h5
      obtain ⟨z, z1⟩ := dread_bool Tryz.underlying4 h6
      have hk : 0 ≤ k ∧ k ≤ 255 := by
        have h2 : (decide (IntKind.u8.min ≤ k) && decide (k ≤ IntKind.u8.max)) = true := k2
        rw [show IntKind.u8.min = 0 by decide, show IntKind.u8.max = 255 by decide] at h2
        simpa using h2
      refine ⟨⟨k, a, b, c, p, q, z⟩, ?_, ⟨hk.1, by dsimp only; omega, a2, b2, d2⟩⟩
      simp only [List.drop_succ_cons, List.drop_zero, List.take_succ_cons, List.take_zero, List.cons.injEq, and_true] at k1 a1 b1 d1 p1 q1 z1
      obtain rfl := k1
      obtain ⟨rfl, rfl, rfl, rfl⟩ := a1
      obtain ⟨rfl, rfl, rfl, rfl⟩ := b1
      obtain ⟨rfl, rfl, rfl, rfl⟩ := d1
      obtain rfl := p1
      obtain rfl := q1
      obtain rfl := z1
      rfl
end
end Go.Proofs.YtkcikdggfbjedaaGreatDoor.S
/-
  Properties, and a slice of them, that come in, opened.
-/
namespace Go.Proofs.YtkcikdggfbjedaaGreatDoor.S
open Go.ChangeShapes Go.WideShapes Go.Deep Go.RowKit Fl

section
variable {H : Type} {enc : TypeId × Value → H} {w : World} {base : Nat} {spare : Nat → Bool} {held : Bool}
theorem plist_of {n : Nat} {Q : Nat → Pq → Prop} (h : ∀ i, i < n → ∃ t, Q i t) : ∃ l : List Pq, l.length = n ∧ ∀ (i : Nat) (hi : i < l.length), Q i l[i] := by
  induction n with
  | zero => exact ⟨[], rfl, fun i hi => by simp at hi⟩
  | succ n ih =>
    obtain ⟨l, hl, hq⟩ := ih fun i hi => h i (by omega)
    obtain ⟨t, ht⟩ := h n (by omega)
    refine ⟨l ++ [t], by simp [hl], fun i hi => ?_⟩
    by_cases c : i < l.length
    · rw [List.getElem_append_left c]; exact hq i c
    · have e : i = l.length := by simp at hi; omega
      subst e
      rw [List.getElem_append_right (Nat.le_refl _)]
      simp only [Nat.sub_self, List.getElem_singleton]
      rw [hl]; exact ht
set_option maxRecDepth 100000 in
theorem popen_cells {n : Nat} {cs : List Value} {y : DataW H × List MemPlace} (hl : cs.length = 18) (ht : DataW.trod enc Tryz.prog w base spare held n 109 cs = some y) : ∃ p : Pq, cs = pcl p ∧ p.In := by
  obtain ⟨xs, m, _, _, _, hxl, hf⟩ := DataW.trod_struct Tryz.underlying109 ht
  have ek : Tryz.prog.cellsOf 45 = 2 := by kernel_rfl
  have ed : Tryz.prog.cellsOf 50 = 16 := by kernel_rfl
  match xs, hxl with
  | [y0, y1], _ =>
    have h0 : DataW.trod enc Tryz.prog w base spare held m 45 ((cs.drop 0).take (Tryz.prog.cellsOf 45)) = some y0 := hf 0 _ rfl
    have h1 : DataW.trod enc Tryz.prog w base spare held m 50 ((cs.drop 2).take (Tryz.prog.cellsOf 50)) = some y1 := hf 1 _ rfl
    rw [ek] at h0
    rw [ed] at h1
    obtain ⟨k, e1, hk⟩ := kopen_cells (by simp [hl]) h0
    obtain ⟨d, e2, hd⟩ := open_dq (by simp [hl]) h1
    refine ⟨⟨k, d⟩, ?_, hk, hd⟩
    have e3 : cs = (cs.drop 0).take 2 ++ (cs.drop 2).take 16 := by
      rw [List.drop_zero, List.take_of_length_le (by simp [hl] : (cs.drop 2).length ≤ 16), List.take_append_drop]
    rw [e3, e1, e2]
    rfl
set_option maxRecDepth 100000 in
theorem popen_one {a : Addr} {n : Nat} {cs : List Value} {x : DataW H × List MemPlace} (hc : w.cells? base a 18 = some cs) (ht : DataW.trod enc Tryz.prog w base spare held n 109 cs = some x) : ∃ p : Pq, p.In ∧ a.block < w.heap.size ∧ ∀ j u, (pcl p)[j]? = some u → w.cell? (a.add j) = some u := by
  obtain ⟨_, hl, hat⟩ := World.cells?_some hc
  obtain ⟨p, rfl, hp⟩ := popen_cells hl ht
  have h0 := hat 0 (by omega)
  refine ⟨p, hp, ?_, fun j u hu => ?_⟩
  · have := klt_of_cell h0
    rw [kblock_add] at this
    exact this
  · have hj : j < 18 := by have := (List.getElem?_eq_some_iff.1 hu).1; rw [pcl_len] at this; exact this
    rw [hat j hj]
    have := (List.getElem?_eq_some_iff.1 hu).2
    simp [← this]
end
end Go.Proofs.YtkcikdggfbjedaaGreatDoor.S
/-
  A heap that comes in, opened.
-/
namespace Go.Proofs.YtkcikdggfbjedaaGreatDoor.S
open Go.ChangeShapes Go.WideShapes Go.Deep Go.RowKit Fl

section
variable {H : Type} {enc : TypeId × Value → H} {w : World} {base : Nat}
set_option maxRecDepth 100000 in
/-- a slice of properties inside of something that comes in -/
theorem iopen_props {v : Value} {fuel : Nat} {y : DataW H × List MemPlace} (hf : DataW.trod enc Tryz.prog w 0 (fun _ => true) true fuel 62 [v] = some y) :
    ∃ (A : Option Addr) (l : List Pq) (cap : Nat), v = .slice A l.length cap ∧ l.length ≤ cap ∧ cap ≤ maxLen ∧ PR w A l ∧ (∀ k ∈ l, k.In) ∧ (A = none → cap = 0) := by
  have hcell : Tryz.prog.cellsOf 109 = 18 := by kernel_rfl
  rcases open_slice Tryz.underlying62 hf with ⟨h1, _⟩ | ⟨a, len', cap', m, n, D, Pl, hcs, _, hl, hm, hmm, _, hi⟩
  · have h1 : [v] = [.slice none 0 0] := h1
    injection h1 with h1
    subst h1
    exact ⟨none, [], 0, rfl, Nat.le_refl _, Nat.zero_le _, pr_nil, (fun t ht => by cases ht), fun _ => rfl⟩
  · have hcs : [v] = [.slice (some a) len' cap'] := hcs
    injection hcs with hcs
    subst hcs
    rw [if_pos rfl] at hmm
    subst hmm
    obtain ⟨l, hll, hq⟩ := plist_of (n := len') (Q := fun i k => k.In ∧ (a.add (i * 18)).block < w.heap.size ∧ ∀ j u, (pcl k)[j]? = some u → w.cell? ((a.add (i * 18)).add j) = some u) fun i hilt => by
      obtain ⟨cs', hc, ht⟩ := hi i (by omega)
      rw [hcell] at hc
      exact popen_one hc ht
    refine ⟨some a, l, _, by rw [hll], by omega, by omega, fun hpos => ?_, fun t ht => ?_, fun h => by cases h⟩
    · have hb := (hq 0 hpos).2.1
      rw [kblock_add] at hb
      refine ⟨a, rfl, hb, fun i hi' j u hu => ?_⟩
      rw [← add_add]
      exact (hq i hi').2.2 j u hu
    · obtain ⟨i, hi'⟩ := List.getElem?_of_mem ht
      obtain ⟨hlt, he⟩ := List.getElem?_eq_some_iff.1 hi'
      rw [← he]; exact (hq i hlt).1
set_option maxRecDepth 100000 in
theorem oopen_cells {n : Nat} {cs : List Value} {y : DataW H × List MemPlace} (hl : cs.length = 18) (ht : DataW.trod enc Tryz.prog w 0 (fun _ => true) true n 64 cs = some y) : ∃ o : Ob, cs = ocl o ∧ o.In ∧ PR w o.pa o.props := by
  obtain ⟨xs, m, _, _, _, hxl, hf⟩ := DataW.trod_struct Tryz.underlying64 ht
  have eb : Tryz.prog.cellsOf 4 = 1 := by kernel_rfl
  have eu : Tryz.prog.cellsOf 5 = 1 := by kernel_rfl
  have es : Tryz.prog.cellsOf 9 = 1 := by kernel_rfl
  have ev : Tryz.prog.cellsOf 48 = 4 := by kernel_rfl
  have ep : Tryz.prog.cellsOf 62 = 1 := by kernel_rfl
  match cs, hl with
  | [c0, c1, c2, c3, c4, c5, c6, c7, c8, c9, c10, c11, c12, c13, c14, c15, c16, c17], _ =>
    match xs, hxl with
    | [y0, y1, y2, y3, y4, y5, y6, y7, y8], _ =>
      have h0 := hf 0 _ rfl
      have h1 := hf 1 _ rfl
      have h2 := hf 2 _ rfl
      have h3 := hf 3 _ rfl
      have h4 := hf 4 _ rfl
      have h5 := hf 5 _ rfl
      have h6 := hf 6 _ rfl
      have h7 := hf 7 _ rfl
      have h8 := hf 8 _ rfl
      replace h0 : DataW.trod enc Tryz.prog w 0 (fun _ => true) true m 5 (([c0, c1, c2, c3, c4, c5, c6, c7, c8, c9, c10, c11, c12, c13, c14, c15, c16, c17].drop 0).take (Tryz.prog.cellsOf 5)) = some y0 := h0
      replace h1 : DataW.trod enc Tryz.prog w 0 (fun _ => true) true m 48 (([c0, c1, c2, c3, c4, c5, c6, c7, c8, c9, c10, c11, c12, c13, c14, c15, c16, c17].drop 1).take (Tryz.prog.cellsOf 48)) = some y1 := h1
      replace h2 : DataW.trod enc Tryz.prog w 0 (fun _ => true) true m 4 (([c0, c1, c2, c3, c4, c5, c6, c7, c8, c9, c10, c11, c12, c13, c14, c15, c16, c17].drop 5).take (Tryz.prog.cellsOf 4)) = some y2 := h2
      replace h3 : DataW.trod enc Tryz.prog w 0 (fun _ => true) true m 62 (([c0, c1, c2, c3, c4, c5, c6, c7, c8, c9, c10, c11, c12, c13, c14, c15, c16, c17].drop 6).take (Tryz.prog.cellsOf 62)) = some y3 := h3
      replace h4 : DataW.trod enc Tryz.prog w 0 (fun _ => true) true m 48 (([c0, c1, c2, c3, c4, c5, c6, c7, c8, c9, c10, c11, c12, c13, c14, c15, c16, c17].drop 7).take (Tryz.prog.cellsOf 48)) = some y4 := h4
      replace h5 : DataW.trod enc Tryz.prog w 0 (fun _ => true) true m 48 (([c0, c1, c2, c3, c4, c5, c6, c7, c8, c9, c10, c11, c12, c13, c14, c15, c16, c17].drop 11).take (Tryz.prog.cellsOf 48)) = some y5 := h5
      replace h6 : DataW.trod enc Tryz.prog w 0 (fun _ => true) true m 9 (([c0, c1, c2, c3, c4, c5, c6, c7, c8, c9, c10, c11, c12, c13, c14, c15, c16, c17].drop 15).take (Tryz.prog.cellsOf 9)) = some y6 := h6
      replace h7 : DataW.trod enc Tryz.prog w 0 (fun _ => true) true m 4 (([c0, c1, c2, c3, c4, c5, c6, c7, c8, c9, c10, c11, c12, c13, c14, c15, c16, c17].drop 16).take (Tryz.prog.cellsOf 4)) = some y7 := h7
      replace h8 : DataW.trod enc Tryz.prog w 0 (fun _ => true) true m 4 (([c0, c1, c2, c3, c4, c5, c6, c7, c8, c9, c10, c11, c12, c13, c14, c15, c16, c17].drop 17).take (Tryz.prog.cellsOf 4)) = some y8 := h8
      rw [eu] at h0
      rw [ev] at h1 h4 h5
      rw [eb] at h2 h7 h8
      rw [ep] at h3
      rw [es] at h6
      obtain ⟨k, k1, _, k2⟩ := DataW.trod_int Tryz.underlying5 h0
      obtain ⟨v1, e1, i1⟩ := open_vq (by rfl) h1
      obtain ⟨b2, e2⟩ := dread_bool Tryz.underlying4 h2
      obtain ⟨A, l, cap, e3, g1, g2, g3, g4, g5⟩ := iopen_props (v := c6) h3
      obtain ⟨v4, e4, i4⟩ := open_vq (by rfl) h4
      obtain ⟨v5, e5, i5⟩ := open_vq (by rfl) h5
      obtain ⟨s, s1, _, s2⟩ := DataW.trod_string Tryz.underlying9 h6
      obtain ⟨b7, e7⟩ := dread_bool Tryz.underlying4 h7
      obtain ⟨b8, e8⟩ := dread_bool Tryz.underlying4 h8
      have hk : 0 ≤ k ∧ k < 256 := by
        have h2 : (decide (IntKind.u8.min ≤ k) && decide (k ≤ IntKind.u8.max)) = true := k2
        rw [show IntKind.u8.min = 0 by decide, show IntKind.u8.max = 255 by decide] at h2
        simp at h2
        omega
      refine ⟨⟨k, v1, b2, A, cap, l, v4, v5, s, b7, b8⟩, ?_, ⟨hk.1, hk.2, i1, i4, i5, s2, g4, g1, by unfold maxLen at g2; show cap < _; omega, g5⟩, g3⟩
      have t1 : [c1, c2, c3, c4] = _ := e1
      have t4 : [c7, c8, c9, c10] = _ := e4
      have t5 : [c11, c12, c13, c14] = _ := e5
      simp only [List.drop, List.take, List.cons.injEq, and_true] at k1 e2 s1 e7 e8
      simp only [List.cons.injEq, and_true] at t1 t4 t5
      obtain ⟨t1a, t1b, t1c, t1d⟩ := t1
      obtain ⟨t4a, t4b, t4c, t4d⟩ := t4
      obtain ⟨t5a, t5b, t5c, t5d⟩ := t5
      subst k1 e2 s1 e7 e8 e3 t1a t1b t1c t1d t4a t4b t4c t4d t5a t5b t5c t5d
      rfl
end
end Go.Proofs.YtkcikdggfbjedaaGreatDoor.S
/-
  A heap that comes in, opened: the whole.
-/
namespace Go.Proofs.YtkcikdggfbjedaaGreatDoor.S
open Go.ChangeShapes Go.WideShapes Go.Deep Go.RowKit Fl

section
variable {H : Type} {enc : TypeId × Value → H} {w : World} {base : Nat}
theorem oblist_of {n : Nat} {Q : Nat → Ob → Prop} (h : ∀ i, i < n → ∃ t, Q i t) : ∃ l : List Ob, l.length = n ∧ ∀ (i : Nat) (hi : i < l.length), Q i l[i] := by
  induction n with
  | zero => exact ⟨[], rfl, fun i hi => by simp at hi⟩
  | succ n ih =>
    obtain ⟨l, hl, hq⟩ := ih fun i hi => h i (by omega)
    obtain ⟨t, ht⟩ := h n (by omega)
    refine ⟨l ++ [t], by simp [hl], fun i hi => ?_⟩
    by_cases c : i < l.length
    · rw [List.getElem_append_left c]; exact hq i c
    · have e : i = l.length := by simp at hi; omega
      subst e
      rw [List.getElem_append_right (Nat.le_refl _)]
      simp only [Nat.sub_self, List.getElem_singleton]
      rw [hl]; exact ht
set_option maxRecDepth 100000 in
theorem oopen_one {a : Addr} {n : Nat} {cs : List Value} {x : DataW H × List MemPlace} (hc : w.cells? 0 a 18 = some cs) (ht : DataW.trod enc Tryz.prog w 0 (fun _ => true) true n 64 cs = some x) : ∃ o : Ob, o.In ∧ PR w o.pa o.props ∧ OF w a o := by
  obtain ⟨_, hl, hat⟩ := World.cells?_some hc
  obtain ⟨o, rfl, ho, hp⟩ := oopen_cells hl ht
  have h0 := hat 0 (by omega)
  refine ⟨o, ho, hp, of_cells ?_ fun j u hu => ?_⟩
  · have := klt_of_cell h0
    rw [kblock_add] at this
    exact this
  · have hj : j < 18 := by have := (List.getElem?_eq_some_iff.1 hu).1; rw [ocl_len] at this; exact this
    rw [hat j hj]
    have := (List.getElem?_eq_some_iff.1 hu).2
    simp [← this]
set_option maxRecDepth 100000 in
/-- a heap that comes in -/
theorem open_heap {v : Value} {d : DataW H} {p : List MemPlace} (hv : Value.okWide Tryz.prog w .any base 24 v) (h : DataW.Trod enc Tryz.prog w 0 (fun _ => true) true 24 v d p) :
    ∃ (A : Option Addr) (l : List Ob) (cap : Nat), v = .agg #[.slice A l.length cap] ∧ HIn0 w A l cap := by
  obtain ⟨cs, rfl, hsz⟩ := okWide_struct Tryz.underlying24 hv
  obtain ⟨fuel, hf⟩ := h
  have hcell1 : Tryz.prog.cellsOf 24 = 1 := by kernel_rfl
  have hcell2 : Tryz.prog.cellsOf 22 = 1 := by kernel_rfl
  have hcell : Tryz.prog.cellsOf 64 = 18 := by kernel_rfl
  rw [hcell1] at hsz
  have hf : DataW.trod enc Tryz.prog w 0 (fun _ => true) true fuel 24 cs.toList = some (d, p) := hf
  obtain ⟨xs, m0, _, _, _, hxl, hf2⟩ := DataW.trod_struct Tryz.underlying24 hf
  obtain ⟨c0, hc0⟩ : ∃ c0, cs.toList = [c0] := List.length_eq_one_iff.1 (by simpa using hsz)
  have hcs : cs = #[c0] := by apply Array.toList_inj.1; rw [hc0]
  subst hcs
  match xs, hxl with
  | [y0], _ =>
    have h0 : DataW.trod enc Tryz.prog w 0 (fun _ => true) true m0 22 (([c0].drop 0).take (Tryz.prog.cellsOf 22)) = some y0 := hf2 0 _ rfl
    rw [hcell2] at h0
    have h0 : DataW.trod enc Tryz.prog w 0 (fun _ => true) true m0 22 [c0] = some y0 := h0
    rcases open_slice Tryz.underlying22 h0 with ⟨h1, _⟩ | ⟨a, len', cap', m, n, D, Pl, hcs, _, hl, hm, hmm, _, hi⟩
    · have h1 : [c0] = [.slice none 0 0] := h1
      injection h1 with h1
      subst h1
      exact ⟨none, [], 0, rfl, (fun o ho => by cases ho), (fun hp => absurd hp (Nat.lt_irrefl 0)), Nat.le_refl _, (by decide), fun _ => rfl⟩
    · have hcs : [c0] = [.slice (some a) len' cap'] := hcs
      injection hcs with hcs
      subst hcs
      rw [if_pos rfl] at hmm
      subst hmm
      obtain ⟨l, hll, hq⟩ := oblist_of (n := len') (Q := fun i k => k.In ∧ PR w k.pa k.props ∧ OF w (a.add (i * 18)) k) fun i hilt => by
        obtain ⟨cs', hc, ht⟩ := hi i (by omega)
        rw [hcell] at hc
        exact oopen_one hc ht
      refine ⟨some a, l, _, by rw [hll], fun t ht => ?_, fun hpos => ?_, by omega, by unfold maxLen at *; omega, fun h => by cases h⟩
      · obtain ⟨i, hi'⟩ := List.getElem?_of_mem ht
        obtain ⟨hlt, he⟩ := List.getElem?_eq_some_iff.1 hi'
        rw [← he]; exact (hq i hlt).1
      · have hb := (hq 0 hpos).2.2.lt
        rw [kblock_add] at hb
        exact ⟨a, rfl, hb, fun i hi' => ⟨(hq i hi').2.2, (hq i hi').2.1⟩⟩
end
end Go.Proofs.YtkcikdggfbjedaaGreatDoor.S
