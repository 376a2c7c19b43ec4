/-
  A slice of tokens that comes in, opened: it reads as a list of tokens.
-/
import Derived.Test.YtgjpcoplnpkmoaaGreatDoorLexText3
import Derived.Deep.Slices
import Derived.Deep.Fields
import Derived.ChangeSame
import Derived.Carry
import Derived.OpenShut
import Derived.Laws.Cover2
namespace Go.Proofs.YtgjpcoplnpkmoaaGreatDoor.S
open Go.ChangeShapes Go.WideShapes Go.Deep Go.RowKit Fl

section
variable {H : Type} {enc : TypeId × Value → H} {w : World} {base : Nat} {spare : Nat → Bool} {held : Bool}
/-- a float, read -/
theorem read_float {k : FloatKind} {t : TypeId} {fuel : Nat} {cs : List Value} {x : DataW H × List MemPlace} (ht : Tryz.prog.underlying t = some (.float k)) (h : DataW.trod enc Tryz.prog w base spare held fuel t cs = some x) : ∃ b, cs = [.float k b] ∧ (Lit.float k b).wf = true := by
  cases fuel with
  | zero => simp [DataW.trod] at h
  | succ n =>
    unfold DataW.trod at h
    rw [ht] at h
    split at h <;> simp_all
theorem lt_of_cell {a : Addr} {v : Value} (h : w.cell? a = some v) : a.block < w.heap.size := by
  rcases Nat.lt_or_ge a.block w.heap.size with hlt | hge
  · exact hlt
  · exfalso
    have e : w.heap[a.block]? = none := Array.getElem?_eq_none hge
    simp [World.cell?, e] at h
theorem list_of {n : Nat} {Q : Nat → Tk → Prop} (h : ∀ i, i < n → ∃ t, Q i t) : ∃ l : List Tk, l.length = n ∧ ∀ (i : Nat) (hi : i < l.length), Q i l[i] := by
  induction n with
  | zero => exact ⟨[], rfl, fun i hi => by simp at hi⟩
  | succ n ih =>
    obtain ⟨l, hl, hq⟩ := ih fun i hi => h i (by omega)
    obtain ⟨t, ht⟩ := h n (by omega)
    refine ⟨l ++ [t], by simp [hl], fun i hi => ?_⟩
    by_cases c : i < l.length
    · rw [List.getElem_append_left c]; exact hq i c
    · have e : i = l.length := by simp at hi; omega
      subst e
      rw [List.getElem_append_right (Nat.le_refl _)]
      simp only [Nat.sub_self, List.getElem_singleton]
      rw [hl]; exact ht
set_option maxRecDepth 100000 in
theorem open_one {a : Addr} {n : Nat} {cs : List Value} {x : DataW H × List MemPlace} (hc : w.cells? base a 4 = some cs) (ht : DataW.trod enc Tryz.prog w base spare held n 25 cs = some x) :
    ∃ t : Tk, TkIn t ∧ a.block < w.heap.size ∧ ∀ j, j < 4 → w.cell? (a.add j) = (tkC t)[j]? := by
  obtain ⟨_, hl, hat⟩ := World.cells?_some hc
  obtain ⟨xs, m, _, _, _, hxl, hf⟩ := DataW.trod_struct Tryz.underlying25 ht
  match cs, hl with
  | [c0, c1, c2, c3], _ =>
    have e5 : Tryz.prog.cellsOf 5 = 1 := by kernel_rfl
    have e3 : Tryz.prog.cellsOf 3 = 1 := by kernel_rfl
    have e9 : Tryz.prog.cellsOf 9 = 1 := by kernel_rfl
    have ef : Tryz.prog.cellsOf 23 = 1 := by kernel_rfl
    match xs, hxl with
    | [y0, y1, y2, y3], _ =>
      have h0 : DataW.trod enc Tryz.prog w base spare held m 5 (([c0, c1, c2, c3].drop 0).take (Tryz.prog.cellsOf 5)) = some y0 := hf 0 _ rfl
      have h1 : DataW.trod enc Tryz.prog w base spare held m 3 (([c0, c1, c2, c3].drop 1).take (Tryz.prog.cellsOf 3)) = some y1 := hf 1 _ rfl
      have h2 : DataW.trod enc Tryz.prog w base spare held m 9 (([c0, c1, c2, c3].drop 2).take (Tryz.prog.cellsOf 9)) = some y2 := hf 2 _ rfl
      have h3 : DataW.trod enc Tryz.prog w base spare held m 23 (([c0, c1, c2, c3].drop 3).take (Tryz.prog.cellsOf 23)) = some y3 := hf 3 _ rfl
      rw [e5] at h0
      rw [e3] at h1
      rw [e9] at h2
      rw [ef] at h3
      obtain ⟨k, k1, _, k2⟩ := DataW.trod_int Tryz.underlying5 h0
      obtain ⟨p, p1, _, p2⟩ := DataW.trod_int Tryz.underlying3 h1
      obtain ⟨s, s1, _, s2⟩ := DataW.trod_string Tryz.underlying9 h2
      obtain ⟨b, b1, b2⟩ := read_float Tryz.underlying23 h3
      obtain rfl : c0 = .int .u8 k := by simpa using k1
      obtain rfl : c1 = .int .i64 p := by simpa using p1
      obtain rfl : c2 = .string s := by simpa using s1
      obtain rfl : c3 = .float .f64 b := by simpa using b1
      have hk : 0 ≤ k ∧ k ≤ 255 := by
        have h2 : (decide (IntKind.u8.min ≤ k) && decide (k ≤ IntKind.u8.max)) = true := k2
        rw [show IntKind.u8.min = 0 by decide, show IntKind.u8.max = 255 by decide] at h2
        simpa using h2
      have hb : b < 2 ^ 64 := by
        have h2 : decide (b < 2 ^ 64) = true := b2
        simpa using h2
      refine ⟨⟨k.toNat, p, s, b⟩, ⟨by show k.toNat < 256; omega, s2, hb⟩, ?_, ?_⟩
      · have := lt_of_cell (hat 0 (by omega))
        rw [block_of_add] at this
        exact this
      · intro j hj
        rw [hat j hj]
        have e : ((k.toNat : Nat) : Int) = k := by omega
        unfold tkC
        dsimp only
        rw [e]
set_option maxRecDepth 100000 in
/-- a slice of tokens that comes in -/
theorem open_tokens {v : Value} {d : DataW H} {p : List MemPlace} (hv : Value.okWide Tryz.prog w .any base 22 v) (h : DataW.Trod enc Tryz.prog w 0 (fun _ => true) true 22 v d p) :
    ∃ (A : Option Addr) (l : List Tk) (cap : Nat), v = .slice A l.length cap ∧ l.length ≤ cap ∧ l.length ≤ maxLen ∧ RdA w A l ∧ ∀ t ∈ l, TkIn t := by
  obtain ⟨a0, len, cap, rfl⟩ := okWide_slice Tryz.underlying22 hv
  obtain ⟨fuel, hf⟩ := h
  have hcell : Tryz.prog.cellsOf 25 = 4 := by kernel_rfl
  rcases open_slice Tryz.underlying22 hf with ⟨h1, _⟩ | ⟨a, len', cap', m, n, D, Pl, hcs, _, hl, hm, hmm, _, hi⟩
  · have h1 : [Value.slice a0 len cap] = [.slice none 0 0] := h1
    injection h1 with h1
    injection h1 with e1 e2 e3
    subst e1 e2 e3
    exact ⟨none, [], 0, rfl, Nat.le_refl _, Nat.zero_le _, fun h => by simp at h, fun t ht => by cases ht⟩
  · have hcs : [Value.slice a0 len cap] = [.slice (some a) len' cap'] := hcs
    injection hcs with hcs
    injection hcs with e1 e2 e3
    subst e1 e2 e3
    rw [if_pos rfl] at hmm
    subst hmm
    obtain ⟨l, hll, hq⟩ := list_of (n := len) (Q := fun i t => TkIn t ∧ (a.add (i * 4)).block < w.heap.size ∧ ∀ j, j < 4 → w.cell? ((a.add (i * 4)).add j) = (tkC t)[j]?) fun i hilt => by
      obtain ⟨cs', hc, ht⟩ := hi i (by omega)
      rw [hcell] at hc
      exact open_one hc ht
    refine ⟨some a, l, _, by rw [hll], by omega, by omega, fun hpos => ?_, fun t ht => ?_⟩
    · have hb := (hq 0 hpos).2.1
      rw [block_of_add] at hb
      refine ⟨a, rfl, hb, fun j hj => ?_⟩
      have hk : j / 4 < l.length := by omega
      have hc := (hq (j / 4) hk).2.2 (j % 4) (by omega)
      rw [add_of_add] at hc
      have e := tkCells_at l (j / 4) hk (j % 4) (by omega)
      have ej : j / 4 * 4 + j % 4 = j := by omega
      rw [ej] at hc e
      rw [hc, e]
    · obtain ⟨i, hi'⟩ := List.getElem?_of_mem ht
      obtain ⟨hlt, he⟩ := List.getElem?_eq_some_iff.1 hi'
      rw [← he]; exact (hq i hlt).1
end
end Go.Proofs.YtgjpcoplnpkmoaaGreatDoor.S
