/-
  PostLies: the call of Check, told of an input.
-/
import Derived.Test.YtkmgdaagannhkaaPT13
import Derived.Test.YtkmgdaagannhkaaPT03
import Derived.Deep.Slices
import Derived.Deep.Fields
import Derived.ChangeSame
import Derived.Carry
import Derived.OpenShut
import Derived.Laws.Cover2
import Derived.Test.YtkmgdaagannhkaaPT05
namespace Go.Proofs.Ytkmgdaagannhkaa.S
open Go.RowKit Go.Lib Fl
open Classical

/-- an input and an answer in blocks of their own -/
structure Sx (w : World) (c : Array Value) (g : Nat) (X : Oq) (W : World) : Prop where
  below : Below w.heap.size w W
  c : W.heap[w.heap.size]? = some (.cells c 52 (0, 0))
  o : W.heap[g]? = some (.cells (oql X).toArray 33 (0, 0))
theorem Sx.up {w W W' : World} {c : Array Value} {g : Nat} {X : Oq} (h : Sx w c g X W) (hb : Below W.heap.size W W') : Sx w c g X W' := ⟨vb h.below hb, vblkn hb h.c, vblkn hb h.o⟩
/-- what Check comes to, but for the world -/
def ChX (a : Ak) (q : Oq) (f : Fq) (K L : List Ky) (D : List Dq) (X : Oq) (b : Bool) : Prop :=
  (mayE a q f K L D ≠ 0 ∧ X = oz0 ∧ b = false) ∨ (mayE a q f K L D = 0 ∧ holdsB a q f K L D = false ∧ X = oz0 ∧ b = false) ∨ (mayE a q f K L D = 0 ∧ holdsB a q f K L D = true ∧ b = true ∧ ∃ ka kc, X = delQ a.m q K.length ka kc)
section
variable {o : Oper} {a : Act} {w : World}
theorem en_o26 (ho : o.op = .alloc 33) : (execOp a.eval o).run Try.prog w = .ok (.value (.pointer (some ⟨w.heap.size, 0, none⟩))) (w.alloc (.cells oz26 33)) := by
  unfold execOp
  simp only [ho]
  kernel_rfl
end
end Go.Proofs.Ytkmgdaagannhkaa.S
/-
  What a descriptor that is delivered keeps of a fixed property.
-/
namespace Go.Proofs.Ytkmgdaagannhkaa.S
open Go.RowKit Go.Lib Fl
open Classical

theorem there_ok {f : Fq} (h : thereE f = 0) (hf : f.found = true) : wholeQ f.d = true := by
  unfold thereE wholeE at h
  rw [hf] at h
  cases hw : wholeQ f.d
  · rw [hw] at h; exact absurd h (by decide)
  · rfl
structure Kept (c : Dq) (f : Fq) : Prop where
  h : c.h = 51 ∨ c.h = 60
  k : 0 ≤ c.a.k ∧ c.a.k ≤ 8
  z : fixedB f = true → c.z = false
  s : fixedB f = true → f.d.h = c.h
  q : fixedB f = true → c.q = f.d.q
  p : fixedB f = true → hasB f.d.h 3 = true → f.d.p = false → c.p = false ∧ sameQ c.a f.d.a = true
end Go.Proofs.Ytkmgdaagannhkaa.S
/-
  A value that comes in, opened: a struct of four fields.
-/
namespace Go.Proofs.Ytkmgdaagannhkaa.S
open Go.ChangeShapes Go.WideShapes Go.Deep Go.RowKit Fl

section
variable {H : Type} {enc : TypeId × Value → H} {w : World} {base : Nat} {spare : Nat → Bool} {held : Bool}
/-- a float, read -/
theorem vread_float {k : FloatKind} {t : TypeId} {fuel : Nat} {cs : List Value} {x : DataW H × List MemPlace} (ht : Try.prog.underlying t = some (.float k)) (h : DataW.trod enc Try.prog w base spare held fuel t cs = some x) : ∃ b, cs = [.float k b] ∧ (Lit.float k b).wf = true := by
  cases fuel with
  | zero => simp [DataW.trod] at h
  | succ n =>
    unfold DataW.trod at h
    rw [ht] at h
    split at h <;> simp_all
set_option maxRecDepth 100000 in
theorem vopen_cells {n : Nat} {cs : List Value} {y : DataW H × List MemPlace} (hl : cs.length = 4) (ht : DataW.trod enc Try.prog w base spare held n 24 cs = some y) :
    ∃ (k x : Nat) (s : ByteArray) (r : Int), cs = [.int .u8 (k : Int), .float .f64 x, .string s, .int .i64 r] ∧ k < 256 ∧ x < 2 ^ 64 ∧ s.size ≤ maxLen ∧ -2 ^ 63 ≤ r ∧ r < 2 ^ 63 := by
  obtain ⟨xs, m, _, _, _, hxl, hf⟩ := DataW.trod_struct Try.underlying24 ht
  match cs, hl with
  | [c0, c1, c2, c3], _ =>
    have e5 : Try.prog.cellsOf 5 = 1 := by kernel_rfl
    have e3 : Try.prog.cellsOf 3 = 1 := by kernel_rfl
    have e9 : Try.prog.cellsOf 9 = 1 := by kernel_rfl
    have ef : Try.prog.cellsOf 22 = 1 := by kernel_rfl
    match xs, hxl with
    | [y0, y1, y2, y3], _ =>
      have h0 : DataW.trod enc Try.prog w base spare held m 5 (([c0, c1, c2, c3].drop 0).take (Try.prog.cellsOf 5)) = some y0 := hf 0 _ rfl
      have h1 : DataW.trod enc Try.prog w base spare held m 22 (([c0, c1, c2, c3].drop 1).take (Try.prog.cellsOf 22)) = some y1 := hf 1 _ rfl
      have h2 : DataW.trod enc Try.prog w base spare held m 9 (([c0, c1, c2, c3].drop 2).take (Try.prog.cellsOf 9)) = some y2 := hf 2 _ rfl
      have h3 : DataW.trod enc Try.prog w base spare held m 3 (([c0, c1, c2, c3].drop 3).take (Try.prog.cellsOf 3)) = some y3 := hf 3 _ rfl
      rw [e5] at h0
      rw [ef] at h1
      rw [e9] at h2
      rw [e3] at h3
      obtain ⟨k, k1, _, k2⟩ := DataW.trod_int Try.underlying5 h0
      obtain ⟨b, b1, b2⟩ := vread_float Try.underlying22 h1
      obtain ⟨s, s1, _, s2⟩ := DataW.trod_string Try.underlying9 h2
      obtain ⟨p, p1, _, p2⟩ := DataW.trod_int Try.underlying3 h3
      obtain rfl : c0 = .int .u8 k := by simpa using k1
      obtain rfl : c1 = .float .f64 b := by simpa using b1
      obtain rfl : c2 = .string s := by simpa using s1
      obtain rfl : c3 = .int .i64 p := by simpa using p1
      have hk : 0 ≤ k ∧ k ≤ 255 := by
        have h2 : (decide (IntKind.u8.min ≤ k) && decide (k ≤ IntKind.u8.max)) = true := k2
        rw [show IntKind.u8.min = 0 by decide, show IntKind.u8.max = 255 by decide] at h2
        simpa using h2
      have hb : b < 2 ^ 64 := by
        have h2 : decide (b < 2 ^ 64) = true := b2
        simpa using h2
      have hp : -9223372036854775808 ≤ p ∧ p ≤ 9223372036854775807 := by
        have h2 : (decide (IntKind.i64.min ≤ p) && decide (p ≤ IntKind.i64.max)) = true := p2
        rw [show IntKind.i64.min = -9223372036854775808 by decide, show IntKind.i64.max = 9223372036854775807 by decide] at h2
        simpa using h2
      have e : ((k.toNat : Nat) : Int) = k := by omega
      exact ⟨k.toNat, b, s, p, by rw [e], by omega, hb, s2, by omega, by omega⟩
end
end Go.Proofs.Ytkmgdaagannhkaa.S
/-
  A descriptor that comes in, opened: a struct of seven fields, three of them structs.
-/
namespace Go.Proofs.Ytkmgdaagannhkaa.S
open Go.ChangeShapes Go.WideShapes Go.Deep Go.RowKit Fl

section
variable {H : Type} {enc : TypeId × Value → H} {w : World} {base : Nat} {spare : Nat → Bool} {held : Bool}
theorem dread_bool {t : TypeId} {fuel : Nat} {cs : List Value} {x : DataW H × List MemPlace} (ht : Try.prog.underlying t = some .bool) (h : DataW.trod enc Try.prog w base spare held fuel t cs = some x) : ∃ b, cs = [.bool b] := by
  cases fuel with
  | zero => simp [DataW.trod] at h
  | succ n =>
    unfold DataW.trod at h
    rw [ht] at h
    split at h <;> simp_all
set_option maxRecDepth 100000 in
theorem open_vq {n : Nat} {cs : List Value} {y : DataW H × List MemPlace} (hl : cs.length = 4) (ht : DataW.trod enc Try.prog w base spare held n 24 cs = some y) :
    ∃ v : Vq, cs = [.int .u8 v.k, .float .f64 v.x, .string v.s, .int .i64 v.r] ∧ v.In := by
  obtain ⟨k, x, s, r, e, h1, h2, h3, h4, h5⟩ := vopen_cells hl ht
  exact ⟨⟨(k : Int), x, s, r⟩, e, by dsimp only; omega, by dsimp only; omega, h2, h5⟩
set_option maxRecDepth 100000 in
theorem open_dq {n : Nat} {cs : List Value} {y : DataW H × List MemPlace} (hl : cs.length = 16) (ht : DataW.trod enc Try.prog w base spare held n 27 cs = some y) :
    ∃ q : Dq, cs = q.cells.toList ∧ q.In := by
  obtain ⟨xs, m, _, _, _, hxl, hf⟩ := DataW.trod_struct Try.underlying27 ht
  match cs, hl with
  | [c0, c1, c2, c3, c4, c5, c6, c7, c8, c9, c10, c11, c12, c13, c14, c15], _ =>
    have e5 : Try.prog.cellsOf 5 = 1 := by kernel_rfl
    have eb : Try.prog.cellsOf 4 = 1 := by kernel_rfl
    have ev : Try.prog.cellsOf 24 = 4 := by kernel_rfl
    match xs, hxl with
    | [y0, y1, y2, y3, y4, y5, y6], _ =>
      have h0 : DataW.trod enc Try.prog w base spare held m 5 (([c0, c1, c2, c3, c4, c5, c6, c7, c8, c9, c10, c11, c12, c13, c14, c15].drop 0).take (Try.prog.cellsOf 5)) = some y0 := hf 0 _ rfl
      have h1 : DataW.trod enc Try.prog w base spare held m 24 (([c0, c1, c2, c3, c4, c5, c6, c7, c8, c9, c10, c11, c12, c13, c14, c15].drop 1).take (Try.prog.cellsOf 24)) = some y1 := hf 1 _ rfl
      have h2 : DataW.trod enc Try.prog w base spare held m 24 (([c0, c1, c2, c3, c4, c5, c6, c7, c8, c9, c10, c11, c12, c13, c14, c15].drop 5).take (Try.prog.cellsOf 24)) = some y2 := hf 2 _ rfl
      have h3 : DataW.trod enc Try.prog w base spare held m 24 (([c0, c1, c2, c3, c4, c5, c6, c7, c8, c9, c10, c11, c12, c13, c14, c15].drop 9).take (Try.prog.cellsOf 24)) = some y3 := hf 3 _ rfl
      have h4 : DataW.trod enc Try.prog w base spare held m 4 (([c0, c1, c2, c3, c4, c5, c6, c7, c8, c9, c10, c11, c12, c13, c14, c15].drop 13).take (Try.prog.cellsOf 4)) = some y4 := hf 4 _ rfl
      have h5 : DataW.trod enc Try.prog w base spare held m 4 (([c0, c1, c2, c3, c4, c5, c6, c7, c8, c9, c10, c11, c12, c13, c14, c15].drop 14).take (Try.prog.cellsOf 4)) = some y5 := hf 5 _ rfl
      have h6 : DataW.trod enc Try.prog w base spare held m 4 (([c0, c1, c2, c3, c4, c5, c6, c7, c8, c9, c10, c11, c12, c13, c14, c15].drop 15).take (Try.prog.cellsOf 4)) = some y6 := hf 6 _ rfl
      rw [e5] at h0
      rw [ev] at h1 h2 h3
      rw [eb] at h4 h5 h6
      obtain ⟨k, k1, _, k2⟩ := DataW.trod_int Try.underlying5 h0
      obtain ⟨a, a1, a2⟩ := open_vq rfl h1
      obtain ⟨b, b1, b2⟩ := open_vq rfl h2
      obtain ⟨c, d1, d2⟩ := open_vq rfl h3
      obtain ⟨p, p1⟩ := dread_bool Try.underlying4 h4
      obtain ⟨q, q1⟩ := dread_bool Try.underlying4 h5
      obtain ⟨z, z1⟩ := dread_bool Try.underlying4 h6
      have hk : 0 ≤ k ∧ k ≤ 255 := by
        have h2 : (decide (IntKind.u8.min ≤ k) && decide (k ≤ IntKind.u8.max)) = true := k2
        rw [show IntKind.u8.min = 0 by decide, show IntKind.u8.max = 255 by decide] at h2
        simpa using h2
      refine ⟨⟨k, a, b, c, p, q, z⟩, ?_, ⟨hk.1, by dsimp only; omega, a2, b2, d2⟩⟩
      simp only [List.drop_succ_cons, List.drop_zero, List.take_succ_cons, List.take_zero, List.cons.injEq, and_true] at k1 a1 b1 d1 p1 q1 z1
      obtain rfl := k1
      obtain ⟨rfl, rfl, rfl, rfl⟩ := a1
      obtain ⟨rfl, rfl, rfl, rfl⟩ := b1
      obtain ⟨rfl, rfl, rfl, rfl⟩ := d1
      obtain rfl := p1
      obtain rfl := q1
      obtain rfl := z1
      rfl
end
end Go.Proofs.Ytkmgdaagannhkaa.S
/-
  The input of the laws on post, opened. Generated: gen_postopen.py.
-/
namespace Go.Proofs.Ytkmgdaagannhkaa.S
open Go.ChangeShapes Go.WideShapes Go.Deep Go.RowKit Fl

theorem cut8 (cs : List Value) (hl : cs.length = 26) : cs = (cs.drop 0).take 1 ++ ((cs.drop 1).take 4 ++ ((cs.drop 5).take 1 ++ ((cs.drop 6).take 1 ++ ((cs.drop 7).take 16 ++ ((cs.drop 23).take 1 ++ ((cs.drop 24).take 1 ++ ((cs.drop 25).take 1))))))) := by
  have h (i n : Nat) : (cs.drop i).take n ++ cs.drop (i + n) = cs.drop i := by rw [← List.drop_drop]; exact List.take_append_drop n (cs.drop i)
  have e : (cs.drop 25).take 1 = cs.drop 25 := List.take_of_length_le (by rw [List.length_drop, hl]; decide)
  rw [e, show cs.drop 25 = cs.drop (24 + 1) from rfl, h 24 1, show cs.drop 24 = cs.drop (23 + 1) from rfl, h 23 1, show cs.drop 23 = cs.drop (7 + 16) from rfl, h 7 16, show cs.drop 7 = cs.drop (6 + 1) from rfl, h 6 1, show cs.drop 6 = cs.drop (5 + 1) from rfl, h 5 1, show cs.drop 5 = cs.drop (1 + 4) from rfl, h 1 4, show cs.drop 1 = cs.drop (0 + 1) from rfl, h 0 1, List.drop_zero]
theorem cut8b (cs : List Value) (hl : cs.length = 79) : cs = (cs.drop 0).take 29 ++ ((cs.drop 29).take 26 ++ ((cs.drop 55).take 1 ++ ((cs.drop 56).take 4 ++ ((cs.drop 60).take 1 ++ ((cs.drop 61).take 16 ++ ((cs.drop 77).take 1 ++ ((cs.drop 78).take 1))))))) := by
  have h (i n : Nat) : (cs.drop i).take n ++ cs.drop (i + n) = cs.drop i := by rw [← List.drop_drop]; exact List.take_append_drop n (cs.drop i)
  have e : (cs.drop 78).take 1 = cs.drop 78 := List.take_of_length_le (by rw [List.length_drop, hl]; decide)
  rw [e, show cs.drop 78 = cs.drop (77 + 1) from rfl, h 77 1, show cs.drop 77 = cs.drop (61 + 16) from rfl, h 61 16, show cs.drop 61 = cs.drop (60 + 1) from rfl, h 60 1, show cs.drop 60 = cs.drop (56 + 4) from rfl, h 56 4, show cs.drop 56 = cs.drop (55 + 1) from rfl, h 55 1, show cs.drop 55 = cs.drop (29 + 26) from rfl, h 29 26, show cs.drop 29 = cs.drop (0 + 29) from rfl, h 0 29, List.drop_zero]
section
variable {H : Type} {enc : TypeId × Value → H} {w : World} {base : Nat} {spare : Nat → Bool} {held : Bool}
theorem kblock_add (a : Addr) (k : Nat) : (a.add k).block = a.block := by unfold Addr.add; split <;> rfl
theorem klt_of_cell {a : Addr} {v : Value} (h : w.cell? a = some v) : a.block < w.heap.size := by
  rcases Nat.lt_or_ge a.block w.heap.size with hlt | hge
  · exact hlt
  · exfalso
    have e : w.heap[a.block]? = none := Array.getElem?_eq_none hge
    simp [World.cell?, e] at h
theorem klist_of {n : Nat} {Q : Nat → Ky → Prop} (h : ∀ i, i < n → ∃ t, Q i t) : ∃ l : List Ky, l.length = n ∧ ∀ (i : Nat) (hi : i < l.length), Q i l[i] := by
  induction n with
  | zero => exact ⟨[], rfl, fun i hi => by simp at hi⟩
  | succ n ih =>
    obtain ⟨l, hl, hq⟩ := ih fun i hi => h i (by omega)
    obtain ⟨t, ht⟩ := h n (by omega)
    refine ⟨l ++ [t], by simp [hl], fun i hi => ?_⟩
    by_cases c : i < l.length
    · rw [List.getElem_append_left c]; exact hq i c
    · have e : i = l.length := by simp at hi; omega
      subst e
      rw [List.getElem_append_right (Nat.le_refl _)]
      simp only [Nat.sub_self, List.getElem_singleton]
      rw [hl]; exact ht
set_option maxRecDepth 100000 in
theorem kopen_cells {n : Nat} {cs : List Value} {y : DataW H × List MemPlace} (hl : cs.length = 2) (ht : DataW.trod enc Try.prog w base spare held n 29 cs = some y) :
    ∃ k : Ky, cs = [.string k.str, .int .i64 k.sym] ∧ KyIn k := by
  obtain ⟨xs, m, _, _, _, hxl, hf⟩ := DataW.trod_struct Try.underlying29 ht
  match cs, hl with
  | [c0, c1], _ =>
    have e3 : Try.prog.cellsOf 3 = 1 := by kernel_rfl
    have e9 : Try.prog.cellsOf 9 = 1 := by kernel_rfl
    match xs, hxl with
    | [y0, y1], _ =>
      have h0 : DataW.trod enc Try.prog w base spare held m 9 (([c0, c1].drop 0).take (Try.prog.cellsOf 9)) = some y0 := hf 0 _ rfl
      have h1 : DataW.trod enc Try.prog w base spare held m 3 (([c0, c1].drop 1).take (Try.prog.cellsOf 3)) = some y1 := hf 1 _ rfl
      rw [e9] at h0
      rw [e3] at h1
      obtain ⟨s, s1, _, s2⟩ := DataW.trod_string Try.underlying9 h0
      obtain ⟨p, p1, _, p2⟩ := DataW.trod_int Try.underlying3 h1
      obtain rfl : c0 = .string s := by simpa using s1
      obtain rfl : c1 = .int .i64 p := by simpa using p1
      have hp : -9223372036854775808 ≤ p ∧ p ≤ 9223372036854775807 := by
        have h2 : (decide (IntKind.i64.min ≤ p) && decide (p ≤ IntKind.i64.max)) = true := p2
        rw [show IntKind.i64.min = -9223372036854775808 by decide, show IntKind.i64.max = 9223372036854775807 by decide] at h2
        simpa using h2
      exact ⟨⟨s, p⟩, rfl, s2, by show -2 ^ 63 ≤ p; omega, by show p < 2 ^ 63; omega⟩
set_option maxRecDepth 100000 in
theorem kopen_one {a : Addr} {n : Nat} {cs : List Value} {x : DataW H × List MemPlace} (hc : w.cells? base a 2 = some cs) (ht : DataW.trod enc Try.prog w base spare held n 29 cs = some x) :
    ∃ k : Ky, KyIn k ∧ a.block < w.heap.size ∧ w.cell? (a.add 0) = some (.string k.str) ∧ w.cell? (a.add 1) = some (.int .i64 k.sym) := by
  obtain ⟨_, hl, hat⟩ := World.cells?_some hc
  obtain ⟨k, rfl, hk⟩ := kopen_cells hl ht
  have h0 := hat 0 (by omega)
  have h1 := hat 1 (by omega)
  refine ⟨k, hk, ?_, h0, h1⟩
  have := klt_of_cell h0
  rw [kblock_add] at this
  exact this
set_option maxRecDepth 100000 in
/-- a slice of keys in a struct that comes in -/
theorem kopen_list {n : Nat} {cs : List Value} {y : DataW H × List MemPlace} (hf : DataW.trod enc Try.prog w base (fun _ => true) true n 31 cs = some y) :
    ∃ (A : Option Addr) (l : List Ky) (cap : Nat), cs = [.slice A l.length cap] ∧ l.length ≤ cap ∧ (A = none → cap = 0) ∧ l.length ≤ maxLen ∧ RK w A l := by
  have hcell : Try.prog.cellsOf 29 = 2 := by kernel_rfl
  rcases open_slice Try.underlying31 hf with ⟨h1, _⟩ | ⟨a, len, cap, m, n, D, Pl, hcs, _, hl, hm, hmm, _, hi⟩
  · exact ⟨none, [], 0, h1, Nat.le_refl _, fun _ => rfl, Nat.zero_le _, fun h => by simp at h⟩
  · rw [if_pos rfl] at hmm
    subst hmm
    obtain ⟨l, hll, hq⟩ := klist_of (n := len) (Q := fun i k => KyIn k ∧ (a.add (i * 2)).block < w.heap.size ∧ w.cell? ((a.add (i * 2)).add 0) = some (.string k.str) ∧ w.cell? ((a.add (i * 2)).add 1) = some (.int .i64 k.sym)) fun i hilt => by
      obtain ⟨cs', hc, ht⟩ := hi i (by omega)
      rw [hcell] at hc
      exact kopen_one hc ht
    refine ⟨some a, l, _, by rw [hll]; exact hcs, by omega, (fun h => nomatch h), by omega, fun hpos => ?_⟩
    have hb := (hq 0 hpos).2.1
    rw [kblock_add] at hb
    refine ⟨a, rfl, hb, fun i hi' => ?_⟩
    obtain ⟨_, _, c0, c1⟩ := hq i hi'
    exact ⟨c0, c1⟩
theorem dlist_of {n : Nat} {Q : Nat → Dq → Prop} (h : ∀ i, i < n → ∃ t, Q i t) : ∃ l : List Dq, l.length = n ∧ ∀ (i : Nat) (hi : i < l.length), Q i l[i] := by
  induction n with
  | zero => exact ⟨[], rfl, fun i hi => by simp at hi⟩
  | succ n ih =>
    obtain ⟨l, hl, hq⟩ := ih fun i hi => h i (by omega)
    obtain ⟨t, ht⟩ := h n (by omega)
    refine ⟨l ++ [t], by simp [hl], fun i hi => ?_⟩
    by_cases c : i < l.length
    · rw [List.getElem_append_left c]; exact hq i c
    · have e : i = l.length := by simp at hi; omega
      subst e
      rw [List.getElem_append_right (Nat.le_refl _)]
      simp only [Nat.sub_self, List.getElem_singleton]
      rw [hl]; exact ht
set_option maxRecDepth 100000 in
theorem dopen_one {a : Addr} {n : Nat} {cs : List Value} {x : DataW H × List MemPlace} (hc : w.cells? base a 16 = some cs) (ht : DataW.trod enc Try.prog w base spare held n 27 cs = some x) :
    ∃ d : Dq, d.In ∧ a.block < w.heap.size ∧ ∀ j u, d.cells.toList[j]? = some u → w.cell? (a.add j) = some u := by
  obtain ⟨_, hl, hat⟩ := World.cells?_some hc
  obtain ⟨d, e, hd⟩ := open_dq hl ht
  have h0 := hat 0 (by omega)
  refine ⟨d, hd, ?_, fun j u hu => ?_⟩
  · rw [List.getElem?_eq_getElem (by omega)] at h0
    have := klt_of_cell h0
    rw [kblock_add] at this
    exact this
  · rw [← e] at hu
    have hj : j < 16 := by have := (List.getElem?_eq_some_iff.1 hu).1; omega
    rw [hat j hj]
    exact hu
set_option maxRecDepth 100000 in
/-- a slice of descriptors in a struct that comes in -/
theorem dopen_list {n : Nat} {cs : List Value} {y : DataW H × List MemPlace} (hf : DataW.trod enc Try.prog w base (fun _ => true) true n 41 cs = some y) :
    ∃ (A : Option Addr) (l : List Dq) (cap : Nat), cs = [.slice A l.length cap] ∧ RD w A l ∧ ∀ d ∈ l, d.In := by
  have hcell : Try.prog.cellsOf 27 = 16 := by kernel_rfl
  rcases open_slice Try.underlying41 hf with ⟨h1, _⟩ | ⟨a, len, cap, m, n, D, Pl, hcs, _, hl, hm, hmm, _, hi⟩
  · exact ⟨none, [], 0, h1, fun h => by simp at h, fun d hd => by cases hd⟩
  · rw [if_pos rfl] at hmm
    subst hmm
    obtain ⟨l, hll, hq⟩ := dlist_of (n := len) (Q := fun i d => d.In ∧ (a.add (i * 16)).block < w.heap.size ∧ ∀ j u, d.cells.toList[j]? = some u → w.cell? ((a.add (i * 16)).add j) = some u) fun i hilt => by
      obtain ⟨cs', hc, ht⟩ := hi i (by omega)
      rw [hcell] at hc
      exact dopen_one hc ht
    refine ⟨some a, l, _, by rw [hll]; exact hcs, fun hpos => ?_, fun t ht => ?_⟩
    · have hb := (hq 0 hpos).2.1
      rw [kblock_add] at hb
      exact ⟨a, rfl, hb, fun i hi' => (hq i hi').2.2⟩
    · obtain ⟨i, hi'⟩ := List.getElem?_of_mem ht
      obtain ⟨hlt, he⟩ := List.getElem?_eq_some_iff.1 hi'
      rw [← he]; exact (hq i hlt).1
set_option maxRecDepth 100000 in
theorem aopen_cells {n : Nat} {cs : List Value} {y : DataW H × List MemPlace} (hl : cs.length = 29) (ht : DataW.trod enc Try.prog w 0 (fun _ => true) true n 39 cs = some y) : ∃ a : Ak, cs = akl a ∧ a.In := by
  obtain ⟨xs, m, _, _, _, hxl, hf⟩ := DataW.trod_struct Try.underlying39 ht
  have eu : Try.prog.cellsOf 5 = 1 := by kernel_rfl
  have ei : Try.prog.cellsOf 3 = 1 := by kernel_rfl
  have ek : Try.prog.cellsOf 29 = 2 := by kernel_rfl
  have ed : Try.prog.cellsOf 27 = 16 := by kernel_rfl
  have ev : Try.prog.cellsOf 24 = 4 := by kernel_rfl
  have es : Try.prog.cellsOf 37 = 1 := by kernel_rfl
  match cs, hl with
  | [c0, c1, c2, c3, c4, c5, c6, c7, c8, c9, c10, c11, c12, c13, c14, c15, c16, c17, c18, c19, c20, c21, c22, c23, c24, c25, c26, c27, c28], _ =>
    match xs, hxl with
    | [y0, y1, y2, y3, y4, y5, y6], _ =>
      have h0 := hf 0 _ rfl
      replace h0 : DataW.trod enc Try.prog w 0 (fun _ => true) true m 5 (([c0, c1, c2, c3, c4, c5, c6, c7, c8, c9, c10, c11, c12, c13, c14, c15, c16, c17, c18, c19, c20, c21, c22, c23, c24, c25, c26, c27, c28].drop 0).take (Try.prog.cellsOf 5)) = some y0 := h0
      have h1 := hf 1 _ rfl
      replace h1 : DataW.trod enc Try.prog w 0 (fun _ => true) true m 3 (([c0, c1, c2, c3, c4, c5, c6, c7, c8, c9, c10, c11, c12, c13, c14, c15, c16, c17, c18, c19, c20, c21, c22, c23, c24, c25, c26, c27, c28].drop 1).take (Try.prog.cellsOf 3)) = some y1 := h1
      have h2 := hf 2 _ rfl
      replace h2 : DataW.trod enc Try.prog w 0 (fun _ => true) true m 29 (([c0, c1, c2, c3, c4, c5, c6, c7, c8, c9, c10, c11, c12, c13, c14, c15, c16, c17, c18, c19, c20, c21, c22, c23, c24, c25, c26, c27, c28].drop 2).take (Try.prog.cellsOf 29)) = some y2 := h2
      have h3 := hf 3 _ rfl
      replace h3 : DataW.trod enc Try.prog w 0 (fun _ => true) true m 27 (([c0, c1, c2, c3, c4, c5, c6, c7, c8, c9, c10, c11, c12, c13, c14, c15, c16, c17, c18, c19, c20, c21, c22, c23, c24, c25, c26, c27, c28].drop 4).take (Try.prog.cellsOf 27)) = some y3 := h3
      have h4 := hf 4 _ rfl
      replace h4 : DataW.trod enc Try.prog w 0 (fun _ => true) true m 24 (([c0, c1, c2, c3, c4, c5, c6, c7, c8, c9, c10, c11, c12, c13, c14, c15, c16, c17, c18, c19, c20, c21, c22, c23, c24, c25, c26, c27, c28].drop 20).take (Try.prog.cellsOf 24)) = some y4 := h4
      have h5 := hf 5 _ rfl
      replace h5 : DataW.trod enc Try.prog w 0 (fun _ => true) true m 24 (([c0, c1, c2, c3, c4, c5, c6, c7, c8, c9, c10, c11, c12, c13, c14, c15, c16, c17, c18, c19, c20, c21, c22, c23, c24, c25, c26, c27, c28].drop 24).take (Try.prog.cellsOf 24)) = some y5 := h5
      have h6 := hf 6 _ rfl
      replace h6 : DataW.trod enc Try.prog w 0 (fun _ => true) true m 37 (([c0, c1, c2, c3, c4, c5, c6, c7, c8, c9, c10, c11, c12, c13, c14, c15, c16, c17, c18, c19, c20, c21, c22, c23, c24, c25, c26, c27, c28].drop 28).take (Try.prog.cellsOf 37)) = some y6 := h6
      rw [eu] at h0
      rw [ei] at h1
      rw [ek] at h2
      rw [ed] at h3
      rw [ev] at h4 h5
      rw [es] at h6
      obtain ⟨k, k1, _, k2⟩ := DataW.trod_int Try.underlying5 h0
      obtain ⟨n1, n2, _, n3⟩ := DataW.trod_int Try.underlying3 h1
      obtain ⟨ky, e2, i2⟩ := kopen_cells (by rfl) h2
      obtain ⟨dd, e3, i3⟩ := open_dq (by rfl) h3
      obtain ⟨v4, e4, i4⟩ := open_vq (by rfl) h4
      obtain ⟨v5, e5, _⟩ := open_vq (by rfl) h5
      have hs : ∃ A q r, c28 = .slice A q r := by
        rcases open_slice Try.underlying37 h6 with ⟨h1, _⟩ | ⟨a, len', cap', _, _, _, _, h1, _⟩
        · have h1 : [c28] = [.slice none 0 0] := h1
          injection h1 with h1
          exact ⟨_, _, _, h1⟩
        · have h1 : [c28] = [.slice (some a) len' cap'] := h1
          injection h1 with h1
          exact ⟨_, _, _, h1⟩
      obtain ⟨A, q, r, rfl⟩ := hs
      have k1 : [c0] = [.int .u8 k] := k1
      have n2 : [c1] = [.int .i64 n1] := n2
      have e2 : [c2, c3] = _ := e2
      have e3 : [c4, c5, c6, c7, c8, c9, c10, c11, c12, c13, c14, c15, c16, c17, c18, c19] = _ := e3
      have e4 : [c20, c21, c22, c23] = _ := e4
      have e5 : [c24, c25, c26, c27] = _ := e5
      refine ⟨⟨k, n1, ky, dd, v4, v5, A, q, r⟩, ?_, i2, i3, i4⟩
      show [c0] ++ ([c1] ++ ([c2, c3] ++ ([c4, c5, c6, c7, c8, c9, c10, c11, c12, c13, c14, c15, c16, c17, c18, c19] ++ ([c20, c21, c22, c23] ++ ([c24, c25, c26, c27] ++ [.slice A q r]))))) = _
      rw [k1, n2, e2, e3, e4, e5]
      rfl
set_option maxRecDepth 100000 in
theorem oopen_cells {n : Nat} {cs : List Value} {y : DataW H × List MemPlace} (hl : cs.length = 26) (ht : DataW.trod enc Try.prog w 0 (fun _ => true) true n 33 cs = some y) : ∃ (q : Oq) (K : List Ky), cs = oql q ∧ q.v.In ∧ q.d.In ∧ q.kn = K.length ∧ K.length ≤ q.kc ∧ (q.ka = none → q.kc = 0) ∧ K.length ≤ maxLen ∧ RK w q.ka K := by
  obtain ⟨xs, m, _, _, _, hxl, hf⟩ := DataW.trod_struct Try.underlying33 ht
  match xs, hxl with
  | [y0, y1, y2, y3, y4, y5, y6, y7], _ =>
    have h0 := hf 0 _ rfl
    replace h0 : DataW.trod enc Try.prog w 0 (fun _ => true) true m 5 ((cs.drop 0).take (Try.prog.cellsOf 5)) = some y0 := h0
    rw [show Try.prog.cellsOf 5 = 1 by kernel_rfl] at h0
    have h1 := hf 1 _ rfl
    replace h1 : DataW.trod enc Try.prog w 0 (fun _ => true) true m 24 ((cs.drop 1).take (Try.prog.cellsOf 24)) = some y1 := h1
    rw [show Try.prog.cellsOf 24 = 4 by kernel_rfl] at h1
    have h2 := hf 2 _ rfl
    replace h2 : DataW.trod enc Try.prog w 0 (fun _ => true) true m 4 ((cs.drop 5).take (Try.prog.cellsOf 4)) = some y2 := h2
    rw [show Try.prog.cellsOf 4 = 1 by kernel_rfl] at h2
    have h3 := hf 3 _ rfl
    replace h3 : DataW.trod enc Try.prog w 0 (fun _ => true) true m 4 ((cs.drop 6).take (Try.prog.cellsOf 4)) = some y3 := h3
    rw [show Try.prog.cellsOf 4 = 1 by kernel_rfl] at h3
    have h4 := hf 4 _ rfl
    replace h4 : DataW.trod enc Try.prog w 0 (fun _ => true) true m 27 ((cs.drop 7).take (Try.prog.cellsOf 27)) = some y4 := h4
    rw [show Try.prog.cellsOf 27 = 16 by kernel_rfl] at h4
    have h5 := hf 5 _ rfl
    replace h5 : DataW.trod enc Try.prog w 0 (fun _ => true) true m 31 ((cs.drop 23).take (Try.prog.cellsOf 31)) = some y5 := h5
    rw [show Try.prog.cellsOf 31 = 1 by kernel_rfl] at h5
    have h6 := hf 6 _ rfl
    replace h6 : DataW.trod enc Try.prog w 0 (fun _ => true) true m 5 ((cs.drop 24).take (Try.prog.cellsOf 5)) = some y6 := h6
    rw [show Try.prog.cellsOf 5 = 1 by kernel_rfl] at h6
    have h7 := hf 7 _ rfl
    replace h7 : DataW.trod enc Try.prog w 0 (fun _ => true) true m 9 ((cs.drop 25).take (Try.prog.cellsOf 9)) = some y7 := h7
    rw [show Try.prog.cellsOf 9 = 1 by kernel_rfl] at h7
    obtain ⟨k, e0, _, _⟩ := DataW.trod_int Try.underlying5 h0
    obtain ⟨v, e1, i1⟩ := open_vq (by rw [List.length_take, List.length_drop, hl]; rfl) h1
    obtain ⟨b2, e2⟩ := dread_bool Try.underlying4 h2
    obtain ⟨b3, e3⟩ := dread_bool Try.underlying4 h3
    obtain ⟨d, e4, i4⟩ := open_dq (by rw [List.length_take, List.length_drop, hl]; rfl) h4
    obtain ⟨A, L, c, e5, i5, j5, g5, r5⟩ := kopen_list h5
    obtain ⟨x, e6, _, _⟩ := DataW.trod_int Try.underlying5 h6
    obtain ⟨s, e7, _, _⟩ := DataW.trod_string Try.underlying9 h7
    refine ⟨⟨k, v, b2, b3, d, A, L.length, c, x, s⟩, L, ?_, i1, i4, rfl, i5, j5, g5, r5⟩
    rw [cut8 cs hl, e0, e1, e2, e3, e4, e5, e6, e7]
    rfl
/-- what is known of an input -/
structure SIn (w : World) (a : Ak) (q : Oq) (f : Fq) (K L : List Ky) (D : List Dq) : Prop where
  ad : a.d.In
  av : a.v.In
  qv : q.v.In
  qd : q.d.In
  fp : f.proto.In
  fd : f.d.In
  kn : q.kn = K.length
  kc : K.length ≤ q.kc
  knil : q.ka = none → q.kc = 0
  k : RK w q.ka K
  fk : f.kn = L.length
  lc : L.length ≤ f.kc
  lnil : f.ka = none → f.kc = 0
  l : RK w f.ka L
  fn : f.on = D.length
  d : RD w f.oa D
  di : ∀ d ∈ D, d.In
set_option maxRecDepth 100000 in
theorem sopen_cells {n : Nat} {cs : List Value} {y : DataW H × List MemPlace} (hl : cs.length = 79) (ht : DataW.trod enc Try.prog w 0 (fun _ => true) true n 52 cs = some y) : ∃ (a : Ak) (q : Oq) (f : Fq) (K L : List Ky) (D : List Dq), cs = cll a q f ∧ SIn w a q f K L D := by
  obtain ⟨xs, m, _, _, _, hxl, hf⟩ := DataW.trod_struct Try.underlying52 ht
  match xs, hxl with
  | [y0, y1, y2, y3, y4, y5, y6, y7], _ =>
    have h0 := hf 0 _ rfl
    replace h0 : DataW.trod enc Try.prog w 0 (fun _ => true) true m 39 ((cs.drop 0).take (Try.prog.cellsOf 39)) = some y0 := h0
    rw [show Try.prog.cellsOf 39 = 29 by kernel_rfl] at h0
    have h1 := hf 1 _ rfl
    replace h1 : DataW.trod enc Try.prog w 0 (fun _ => true) true m 33 ((cs.drop 29).take (Try.prog.cellsOf 33)) = some y1 := h1
    rw [show Try.prog.cellsOf 33 = 26 by kernel_rfl] at h1
    have h2 := hf 2 _ rfl
    replace h2 : DataW.trod enc Try.prog w 0 (fun _ => true) true m 4 ((cs.drop 55).take (Try.prog.cellsOf 4)) = some y2 := h2
    rw [show Try.prog.cellsOf 4 = 1 by kernel_rfl] at h2
    have h3 := hf 3 _ rfl
    replace h3 : DataW.trod enc Try.prog w 0 (fun _ => true) true m 24 ((cs.drop 56).take (Try.prog.cellsOf 24)) = some y3 := h3
    rw [show Try.prog.cellsOf 24 = 4 by kernel_rfl] at h3
    have h4 := hf 4 _ rfl
    replace h4 : DataW.trod enc Try.prog w 0 (fun _ => true) true m 4 ((cs.drop 60).take (Try.prog.cellsOf 4)) = some y4 := h4
    rw [show Try.prog.cellsOf 4 = 1 by kernel_rfl] at h4
    have h5 := hf 5 _ rfl
    replace h5 : DataW.trod enc Try.prog w 0 (fun _ => true) true m 27 ((cs.drop 61).take (Try.prog.cellsOf 27)) = some y5 := h5
    rw [show Try.prog.cellsOf 27 = 16 by kernel_rfl] at h5
    have h6 := hf 6 _ rfl
    replace h6 : DataW.trod enc Try.prog w 0 (fun _ => true) true m 31 ((cs.drop 77).take (Try.prog.cellsOf 31)) = some y6 := h6
    rw [show Try.prog.cellsOf 31 = 1 by kernel_rfl] at h6
    have h7 := hf 7 _ rfl
    replace h7 : DataW.trod enc Try.prog w 0 (fun _ => true) true m 41 ((cs.drop 78).take (Try.prog.cellsOf 41)) = some y7 := h7
    rw [show Try.prog.cellsOf 41 = 1 by kernel_rfl] at h7
    obtain ⟨a, e0, _, i0, j0⟩ := aopen_cells (by rw [List.length_take, List.length_drop, hl]; rfl) h0
    obtain ⟨q, K, e1, qv, qd, kn, kc, kx, _, kr⟩ := oopen_cells (by rw [List.length_take, List.length_drop, hl]; rfl) h1
    obtain ⟨b2, e2⟩ := dread_bool Try.underlying4 h2
    obtain ⟨v, e3, i3⟩ := open_vq (by rw [List.length_take, List.length_drop, hl]; rfl) h3
    obtain ⟨b4, e4⟩ := dread_bool Try.underlying4 h4
    obtain ⟨d, e5, i5⟩ := open_dq (by rw [List.length_take, List.length_drop, hl]; rfl) h5
    obtain ⟨A, L, c, e6, i6, n6, _, r6⟩ := kopen_list h6
    obtain ⟨A2, D, c2, e7, r7, q7⟩ := dopen_list h7
    refine ⟨a, q, ⟨b2, v, b4, d, A, L.length, c, A2, D.length, c2⟩, K, L, D, ?_, ⟨i0, j0, qv, qd, i3, i5, kn, kc, kx, kr, rfl, i6, n6, r6, rfl, r7, q7⟩⟩
    rw [cut8b cs hl, e0, e1, e2, e3, e4, e5, e6, e7]
    rfl
set_option maxRecDepth 100000 in
/-- an input -/
theorem open_asked {v : Value} {d : DataW H} {p : List MemPlace} (hv : Value.okWide Try.prog w .any base 52 v) (h : DataW.Trod enc Try.prog w 0 (fun _ => true) true 52 v d p) :
    ∃ (a : Ak) (q : Oq) (f : Fq) (K L : List Ky) (D : List Dq), v = .agg (clA a q f) ∧ SIn w a q f K L D := by
  obtain ⟨cs, rfl, hsz⟩ := okWide_struct Try.underlying52 hv
  obtain ⟨fuel, hf⟩ := h
  have hcell : Try.prog.cellsOf 52 = 79 := by kernel_rfl
  rw [hcell] at hsz
  have hf : DataW.trod enc Try.prog w 0 (fun _ => true) true fuel 52 cs.toList = some (d, p) := hf
  obtain ⟨a, q, f, K, L, D, e, hi⟩ := sopen_cells (by simpa using hsz) hf
  exact ⟨a, q, f, K, L, D, by congr 1; exact Array.toList_inj.1 e, hi⟩
end
end Go.Proofs.Ytkmgdaagannhkaa.S
/-
  PostTruth: what says what the target itself says is delivered: the mathematics, and the six calls of Check.
-/
namespace Go.Proofs.Ytkmgdaagannhkaa.S
open Go.RowKit Go.Lib Fl
open Classical

def valO (v : Vq) : Oq := ⟨1, v, false, false, dz 0, none, 0, 0, 0, ⟨#[]⟩⟩
def keyO (A : Option Addr) (n c : Nat) : Oq := ⟨1, v0, false, false, dz 0, A, n, c, 0, ⟨#[]⟩⟩
def fndO (b : Bool) (d : Dq) : Oq := ⟨1, v0, false, b, d, none, 0, 0, 0, ⟨#[]⟩⟩
/-- what Check comes to, where what counts may be -/
def TrX (E m : Int) (q : Oq) (n : Nat) (X : Oq) (b : Bool) : Prop := E = 0 → b = true ∧ ∃ ka kc, X = delQ m q n ka kc
theorem check_t (W : World) (a : Ak) (q : Oq) (f : Fq) (K L : List Ky) (D : List Dq) (hi : CIn W a q f K L D) (hl : K.length ≤ 70000) (hh : mayE a q f K L D = 0 → holdsB a q f K L D = true) : Calls Try.prog 8 #[.agg (akA a), .agg (oqA q), .agg (fqA f)] W fun e w' =>
    ∃ (X : Oq) (b : Bool), e = .returned (.tuple #[.agg (oqA X), .bool b, .int .i64 (mayE a q f K L D)]) ∧ TrX (mayE a q f K L D) a.m q K.length X b ∧ Below W.heap.size W w' := by
  refine (check_p W a q f K L D hi hl).mono fun e w' h => ?_
  obtain ⟨X, t, he, h, hb⟩ := h
  refine ⟨X, t, he, fun h0 => ?_, hb⟩
  rcases h with ⟨h1, _⟩ | ⟨_, h1, _⟩ | ⟨_, _, h3, ka, kc, h4⟩
  · exact absurd h0 h1
  · rw [hh h0] at h1; cases h1
  · exact ⟨h3, ka, kc, h4⟩
theorem sin_cin {w : World} {a : Ak} {q : Oq} {f : Fq} {K L : List Ky} {D : List Dq} (h : SIn w a q f K L D) (m : Int) (q' : Oq) (hv : q'.v.In) (hd : q'.d.In) (hk : q'.kn = 0) (hc : q'.ka = none → q'.kc = 0) (hl : L.length < 1000000000000) (hD : D.length < 1000000000000) : CIn w (akz m) q' f [] L D :=
  { qv := hv, qd := hd, av := v0_in, ad := dz_in, fp := h.fp, fd := h.fd, kn := hk, kl := by decide, k := fun h => absurd h (by decide), kc := Nat.zero_le _, knil := hc, fk := h.fk, ll := hl, l := h.l, lc := h.lc, fn := h.fn, dl := hD, d := h.d, di := h.di }
theorem sin_cin2 {w : World} {a : Ak} {q : Oq} {f : Fq} {K L : List Ky} {D : List Dq} (h : SIn w a q f K L D) (hl : L.length < 1000000000000) (hD : D.length < 1000000000000) : CIn w (akz 11) (keyO f.ka f.kn f.kc) f L L D :=
  { qv := v0_in, qd := dz_in, av := v0_in, ad := dz_in, fp := h.fp, fd := h.fd, kn := h.fk, kl := hl, k := h.l, kc := h.lc, knil := h.lnil, fk := h.fk, ll := hl, l := h.l, lc := h.lc, fn := h.fn, dl := hD, d := h.d, di := h.di }
theorem t_ext {f : Fq} {L : List Ky} {D : List Dq} : holdsB (akz 3) (yesO f.ext) f [] L D = true := by
  rw [holdsB_3]
  show (f.ext == f.ext) = true
  cases f.ext <;> rfl
theorem t_may1 {f : Fq} {L : List Ky} {D : List Dq} : mayE (akz 1) (valO f.proto) f [] L D = orE (whatE f.proto) (parE f.proto) := by
  unfold mayE akz valO; simp
theorem t_proto {f : Fq} {L : List Ky} {D : List Dq} (h : mayE (akz 1) (valO f.proto) f [] L D = 0) : holdsB (akz 1) (valO f.proto) f [] L D = true := by
  rw [t_may1] at h
  obtain ⟨h1, h2⟩ := orE_0 h
  obtain ⟨p1, p2, _⟩ := par_ok h2
  have e : holdsB (akz 1) (valO f.proto) f [] L D = (leadsB f.proto && keepsB f f.proto) := by unfold holdsB akz valO; simp
  rw [e, p1]
  unfold keepsB
  rw [same_refl p2, Bool.or_true]
  rfl
theorem t_may11 {f : Fq} {q : Oq} {L : List Ky} {D : List Dq} (hq : q.kind = 1) : mayE (akz 11) q f L L D = orE (keysE L) (ownedE L D) := by
  unfold mayE akz; simp [hq]
theorem t_keys {f : Fq} {L : List Ky} {D : List Dq} (h : mayE (akz 11) (keyO f.ka f.kn f.kc) f L L D = 0) : holdsB (akz 11) (keyO f.ka f.kn f.kc) f L L D = true := by
  rw [t_may11 rfl] at h
  obtain ⟨_, h2⟩ := orE_0 h
  have e : holdsB (akz 11) (keyO f.ka f.kn f.kc) f L L D = listedB L L D f.ext := by unfold holdsB akz; simp
  rw [e]
  unfold listedB
  rw [twiceB_no.2 (owned_nodup h2), allB_iff.2 (stuck_mem L D), allB_iff.2 fun k hk => hk]
  cases f.ext <;> rfl
theorem t_may5 {f : Fq} {q : Oq} {L : List Ky} {D : List Dq} (hq : q.kind = 1) : mayE (akz 5) q f [] L D = orE (descE q) (thereE f) := by
  unfold mayE akz; simp [hq]
/-- a whole descriptor, made complete -/
structure Self (x d : Dq) : Prop where
  g : Good x
  h : x.h = d.h
  a : hasB d.h 1 = true → x.a = d.a
  b : hasB d.h 4 = true → x.b = d.b
  c : hasB d.h 8 = true → x.c = d.c
  p : hasB d.h 2 = true → x.p = d.p
  q : x.q = d.q
  z : x.z = d.z
theorem self_of {d : Dq} (g : Good d) (hh : d.h = 51 ∨ d.h = 60) : Self (completeQ d) d := by
  have gc := (complete_good g).1
  rw [complete_eq g.mem] at gc ⊢
  refine ⟨gc, ?_, ?_, ?_, ?_, ?_, ?_, ?_⟩ <;> dsimp only
  · rcases hh with e | e <;> rw [e] <;> rfl
  · intro e; rw [e]; rfl
  · intro e; rw [e]; rfl
  · intro e; rw [e]; rfl
  · intro e; rw [e]; rfl
  · rcases hh with e | e <;> rw [e] <;> rfl
  · rcases hh with e | e <;> rw [e] <;> rfl
theorem held_in {d : Dq} (hh : d.h = 51 ∨ d.h = 60) : (hasB (heldH d d) 1 = true → hasB d.h 1 = true) ∧ (hasB (heldH d d) 2 = true → hasB d.h 2 = true) ∧ (hasB (heldH d d) 4 = true → hasB d.h 4 = true) ∧ (hasB (heldH d d) 8 = true → hasB d.h 8 = true) := by
  unfold heldH
  rcases hh with e | e <;> rw [e] <;> cases d.p <;> exact ⟨by decide, by decide, by decide, by decide⟩
theorem self_chg {c d : Dq} (s : Self c d) (g : Good d) (hh : d.h = 51 ∨ d.h = 60) : changesQ c d = true := by
  unfold changesQ
  obtain ⟨_, hb, _⟩ := allH_bits _ g.mem
  have hb' : (hasB d.h 12 && hasB d.h 3) = false := by rw [Bool.and_comm]; exact hb
  have eh : heldH c d = heldH d d := by unfold heldH; rw [s.h]
  rw [s.h, hb, hb', eh]
  have e : bits .and .u8 d.h (heldH d d) = heldH d d := by
    unfold heldH
    rcases hh with e | e <;> rw [e] <;> cases d.p
    · exact held_bits.2.2.1
    · exact held_bits.1
    · exact held_bits.2.2.2
    · exact held_bits.2.1
  rw [e]
  obtain ⟨h1, h2, h4, h8⟩ := held_in hh
  rw [sameD_true (fun e => by rw [s.a (h1 e)]; exact same_refl g.a) (fun e => by rw [s.b (h4 e)]; exact same_refl (g.b (h4 e)).1) (fun e => by rw [s.c (h8 e)]; exact same_refl (g.c (h8 e)).1) (fun e => s.p (h2 e)) (fun _ => s.q) (fun _ => s.z)]
  cases d.z <;> rfl
theorem self_desc {c d : Dq} (s : Self c d) (g : Good d) (w : World) : Calls Try.prog 19 #[.agg c.cells, .agg d.cells] w fun e w' => e = .returned (.bool true) ∧ Below w.heap.size w w' := by
  have k := good_kinds s.g
  have k2 := good_kinds g
  have e : sameD c.h d.h (sameQ c.a d.a) (sameQ c.b d.b) (sameQ c.c d.c) c.p d.p c.q d.q c.z d.z = true := by
    rw [s.h]
    exact sameD_true (fun e => by rw [s.a e]; exact same_refl g.a) (fun e => by rw [s.b e]; exact same_refl (g.b e).1) (fun e => by rw [s.c e]; exact same_refl (g.c e).1) (fun e => s.p e) (fun _ => s.q) (fun _ => s.z)
  have := Same_q (a := c) (b := d) k ⟨k2.1.1, k2.2.1.1, k2.2.2.1⟩ w
  rw [e] at this
  exact this
theorem there_good {f : Fq} (hn : f.d.In) (h : thereE f = 0) (hf : f.found = true) : Good f.d ∧ (f.d.h = 51 ∨ f.d.h = 60) ∧ compQ f.d = completeQ f.d := by
  obtain ⟨g, hh⟩ := (whole_iff hn).1 (there_ok h hf)
  exact ⟨g, hh, by unfold compQ; rw [chk_of g]; rfl⟩
theorem t_told {f : Fq} {L : List Ky} {D : List Dq} (hn : f.d.In) (b : Bool) (hb : f.found = b) (h : mayE (akz 5) (fndO b (bif b then f.d else dz 0)) f [] L D = 0) : holdsB (akz 5) (fndO b (bif b then f.d else dz 0)) f [] L D = true := by
  rw [t_may5 rfl] at h
  obtain ⟨_, h2⟩ := orE_0 h
  have e : holdsB (akz 5) (fndO b (bif b then f.d else dz 0)) f [] L D = toldB (fndO b (bif b then f.d else dz 0)) f := by unfold holdsB akz; simp
  rw [e]
  unfold toldB fndO
  dsimp only
  cases b with
  | false =>
    show freeB f = true
    unfold freeB
    rw [hb]
    rfl
  | true =>
    show (fitsB f (compQ f.d) && ((compQ f.d).z || (fixedB f && !narrowsB f (compQ f.d)))) = true
    obtain ⟨g, hh, hc⟩ := there_good hn h2 hb
    have s := self_of g hh
    rw [hc]
    generalize completeQ f.d = c at *
    have hF : fitsB f c = true := by
      unfold fitsB compatQ
      rw [chk_of s.g, there_ok h2 hb, hb]
      exact self_chg s g hh
    rw [hF, s.z]
    unfold narrowsB fixedB
    rw [hb]
    cases hz : f.d.z with
    | true => rfl
    | false =>
      have e2 : (f.d.p && (hasB c.h 2 && !c.p)) = false := by
        rw [s.h]
        cases e : hasB f.d.h 2 with
        | false => simp
        | true => rw [s.p e]; cases f.d.p <;> rfl
      rw [e2]
      rfl
theorem t_may7 {f : Fq} {b : Bool} {L : List Ky} {D : List Dq} : mayE (akz 7) (yesO b) f [] L D = thereE f := by
  unfold mayE akz yesO; simp
theorem t_has {f : Fq} {L : List Ky} {D : List Dq} : holdsB (akz 7) (yesO f.found) f [] L D = true := by
  have e : holdsB (akz 7) (yesO f.found) f [] L D = (f.found || freeB f) := by unfold holdsB akz yesO; simp
  rw [e]
  unfold freeB
  cases f.found <;> rfl
theorem t_may8 {f : Fq} {v : Vq} {L : List Ky} {D : List Dq} : mayE (akz 8) (valO v) f [] L D = orE (whatE v) (thereE f) := by
  unfold mayE akz valO; simp
theorem t_may8z {f : Fq} {L : List Ky} {D : List Dq} (hn : f.d.In) (hf : f.found = true) (h : thereE f = 0) : mayE (akz 8) (valO f.d.a) f [] L D = 0 := by
  rw [t_may8, h]
  obtain ⟨g, _⟩ := there_good hn h hf
  have : whatE f.d.a = 0 := by
    unfold whatE
    rw [show f.d.a.may = true from mayI_iff.2 g.a]
    rfl
  rw [this]
  rfl
theorem t_get {f : Fq} {L : List Ky} {D : List Dq} (hn : f.d.In) (hf : f.found = true) (h : thereE f = 0) (h3 : hasB f.d.h 3 = true) : holdsB (akz 8) (valO f.d.a) f [] L D = true := by
  obtain ⟨g, hh, _⟩ := there_good hn h hf
  have b05 : hasB 51 12 = false := by decide +kernel
  have b12 : hasB 60 3 = false := by decide +kernel
  have e : holdsB (akz 8) (valO f.d.a) f [] L D = gotB f.d.a f := by unfold holdsB akz valO; simp
  rw [e]
  unfold gotB
  have h12 : hasB f.d.h 12 = false := by
    rcases hh with e | e
    · rw [e]; exact b05
    · rw [e, b12] at h3; cases h3
  rw [h12, same_refl g.a, Bool.or_true]
  cases fixedB f <;> rfl
end Go.Proofs.Ytkmgdaagannhkaa.S
