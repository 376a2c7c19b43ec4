/-
  key.Check, Value, Prim, Text: walks; texts of keys that are not the same differ.
-/
import Derived.Test.YthnkllhfmjbbmaaGreatDoorHM14
import Derived.Test.YthnkllhfmjbbmaaGreatDoorHM15
import Derived.Test.YthnkllhfmjbbmaaGreatDoorHM17
import Derived.Test.YthnkllhfmjbbmaaGreatDoorHM12
import Derived.Deep.Slices
import Derived.Deep.Fields
import Derived.ChangeSame
import Derived.Carry
import Derived.OpenShut
import Derived.Laws.Cover2
import Derived.Test.YthnkllhfmjbbmaaGreatDoorHM05
import Derived.Deep.MidRow
import Derived.Deep.Cut
import Derived.Laws.CopyOwn
namespace Go.Proofs.YthnkllhfmjbbmaaGreatDoor.S
open Go.RowKit Fl

/-- two keys, compared -/
def eqK (a b : Ky) : Bool := (a.str == b.str) && (a.sym == b.sym)
theorem eqK_iff {a b : Ky} : eqK a b = true ↔ a = b := by
  unfold eqK
  rw [Bool.and_eq_true]
  constructor
  · rintro ⟨h1, h2⟩
    cases a; cases b
    have := str_beq h1
    have := eq_of_beq h2
    simp_all
  · rintro rfl
    exact ⟨str_same _, beq_self_eq_true _⟩
theorem eqK_no {a b : Ky} (h : a ≠ b) : eqK a b = false := by
  cases c : eqK a b
  · rfl
  · exact absurd (eqK_iff.1 c) h
/-- whether a key may be -/
def mayKy (k : Ky) : Prop := 0 ≤ k.sym ∧ k.str.size ≤ 4096 ∧ (0 < k.sym → k.str = ⟨#[]⟩)
/-- a key's text -/
def textKy (k : Ky) : ByteArray := if 0 < k.sym then symText (k.sym - 1) else ⟨(quoteL k.str.data.toList).toArray⟩

theorem itoa_inj {a b : Int} (ha : 0 ≤ a) (hb : 0 ≤ b) (h : Lib.itoa a = Lib.itoa b) : a = b := by
  have e : ∀ n : Int, 0 ≤ n → Lib.itoa n = Lib.decDigits n.toNat := fun n hn => by unfold Lib.itoa; rw [if_neg (by omega)]
  rw [e a ha, e b hb] at h
  have h1 := (decDigits_val a.toNat).1
  have h2 := (decDigits_val b.toNat).1
  rw [h] at h1
  omega
theorem symText_list (n : Int) : (symText n).data.toList = [115, 121, 109, 98, 111, 108, 32] ++ Lib.itoa n := by
  unfold symText
  rw [ByteArray.data_append, Array.toList_append]
theorem text_inj {a b : Ky} (ha : mayKy a) (hb : mayKy b) (h : textKy a = textKy b) : a = b := by
  obtain ⟨a1, a2, a3⟩ := ha
  obtain ⟨b1, b2, b3⟩ := hb
  have h := congrArg (fun t : ByteArray => t.data.toList) h
  unfold textKy at h
  by_cases c : 0 < a.sym
  · by_cases d : 0 < b.sym
    · rw [if_pos c, if_pos d] at h
      simp only [symText_list] at h
      have := itoa_inj (by omega) (by omega) (List.append_cancel_left h)
      have e1 := a3 c
      have e2 := b3 d
      cases a; cases b
      simp only at this e1 e2 ⊢
      subst e1 e2
      congr 1
      omega
    · rw [if_pos c, if_neg d] at h
      simp only [symText_list] at h
      unfold quoteL at h
      simp at h
  · by_cases d : 0 < b.sym
    · rw [if_neg c, if_pos d] at h
      simp only [symText_list] at h
      unfold quoteL at h
      simp at h
    · rw [if_neg c, if_neg d] at h
      have h : quoteL a.str.data.toList = quoteL b.str.data.toList := by simpa using h
      unfold quoteL at h
      injection h with _ h
      have hq : quoteI a.str.data.toList = quoteI b.str.data.toList := List.append_cancel_right h
      have p1 := plain_quote ⟨(quoteI a.str.data.toList).toArray⟩ a.str (by simp) a2
      have p2 := plain_quote ⟨(quoteI a.str.data.toList).toArray⟩ b.str (by simp [hq]) b2
      rw [p1] at p2
      injection p2 with e _
      cases a; cases b
      simp only at e a1 b1 c d ⊢
      subst e
      congr 1
      omega
theorem text_eq {a b : Ky} (ha : mayKy a) (hb : mayKy b) : (textKy a == textKy b) = eqK a b := by
  cases c : eqK a b
  · cases d : textKy a == textKy b
    · rfl
    · have := text_inj ha hb (str_beq d)
      rw [eqK_iff.2 this] at c
      cases c
  · rw [eqK_iff.1 c]; exact str_same _

theorem empty_is (s : ByteArray) : s = ⟨#[]⟩ ↔ s.toList.isEmpty = true := by
  rw [List.isEmpty_iff, toList_data]
  constructor
  · intro h; rw [h]
  · intro h; exact bytes_ext (by rw [h])
theorem keyCheck_bad (s : ByteArray) (y : Int) (w : World) (h : ¬ mayKy ⟨s, y⟩) : Calls Tryz.prog 92 #[.agg #[.string s, .int .i64 y]] w fun e w' => e = .returned (.int .i64 9) ∧ Below w.heap.size w w' := by
  have hS := fun w => keysymbol_k s y w
  by_cases c1 : y < 0
  · go_enter Tryz.func92, Tryz.ntmps92
    go_wp2_with (fail)
    go_ret
    exact ⟨rfl, vzero _ _⟩
  · by_cases c2 : 4096 < s.size
    · go_enter Tryz.func92, Tryz.ntmps92
      go_wp2_with (fail)
      go_ret
      exact ⟨rfl, vzero _ _⟩
    · have c3 : 0 < y ∧ s ≠ ⟨#[]⟩ := by
        refine Classical.byContradiction fun g => h ⟨by show 0 ≤ y; omega, by show s.size ≤ 4096; omega, fun hy => ?_⟩
        exact Classical.byContradiction fun g2 => g ⟨hy, g2⟩
      obtain ⟨c3, c4⟩ := c3
      have c5 : s.toList.isEmpty = false := by
        cases e : s.toList.isEmpty
        · rfl
        · exact absurd ((empty_is s).2 e) c4
      have hd : decide (0 < y) = true := by simp; exact c3
      rw [hd] at hS
      clear h c4 hd
      go_enter Tryz.func92, Tryz.ntmps92
      go_wp2_with (go_at_call 140; refine (hS _).mono ?_; rintro e w1 ⟨rfl, h1⟩; have hb1 := vblk1 h1; have hz1 := vlt1 h1; obtain ⟨hc0, hc1, hfr⟩ := kc2 hb1; clear hb1; have H1 := Lib.hid (vafter h1); clear h1)
      go_ret
      exact ⟨rfl, H1.out⟩
theorem keyCheck_ok (s : ByteArray) (y : Int) (w : World) (h : mayKy ⟨s, y⟩) : Calls Tryz.prog 92 #[.agg #[.string s, .int .i64 y]] w fun e w' => e = .returned (.int .i64 0) ∧ Below w.heap.size w w' := by
  have hS := fun w => keysymbol_k s y w
  obtain ⟨c1, c2, c3⟩ := h
  have c1 : ¬ y < 0 := by have : 0 ≤ y := c1; omega
  have c2 : ¬ 4096 < s.size := by have : s.size ≤ 4096 := c2; omega
  have c3 : 0 < y → s = ⟨#[]⟩ := c3
  by_cases d : 0 < y
  · have hs := c3 d
    subst hs
    have hd : decide (0 < y) = true := by simp; exact d
    rw [hd] at hS
    clear c3 hd c2
    go_enter Tryz.func92, Tryz.ntmps92
    go_wp2_with (go_at_call 140; refine (hS _).mono ?_; rintro e w1 ⟨rfl, h1⟩; have hb1 := vblk1 h1; have hz1 := vlt1 h1; obtain ⟨hc0, hc1, hfr⟩ := kc2 hb1; clear hb1; have H1 := Lib.hid (vafter h1); clear h1)
    go_ret
    exact ⟨rfl, H1.out⟩
  · have hd : decide (0 < y) = false := by simp; omega
    rw [hd] at hS
    clear c3 hd
    go_enter Tryz.func92, Tryz.ntmps92
    go_wp2_with (go_at_call 140; refine (hS _).mono ?_; rintro e w1 ⟨rfl, h1⟩; have hb1 := vblk1 h1; have hz1 := vlt1 h1; obtain ⟨hc0, hc1, hfr⟩ := kc2 hb1; clear hb1; have H1 := Lib.hid (vafter h1); clear h1)
    go_ret
    exact ⟨rfl, H1.out⟩
/-- a function whose results are a key in a block of its own, and a number -/
theorem key_end2 {f : Func} {i j : Nat} {t : TypeId} {Q : Ending → World → Prop} {tmps : Array Value} {W : World} {g : Nat} {s : ByteArray} {r z : Int} (hf : f.results = #[.cell i 63, .tmp j])
    (h2 : tmps[i]?.getD undef = .pointer (some ⟨g, 0, none⟩)) (h3 : tmps[j]?.getD undef = .int .i64 z) (hb : W.heap[g]? = some (.cells #[.string s, .int .i64 r] t (0, 0))) (hQ : Q (.returned (.tuple #[.agg #[.string s, .int .i64 r], .int .i64 z])) W) :
    bodyPost Tryz.prog f Q .ret { tmps := tmps, defers := [] } W := by
  have c0 : W.cell? ⟨g, 0, none⟩ = some (.string s) := vcells hb 0
  have c1 : W.cell? ⟨g, 1, none⟩ = some (.int .i64 r) := vcells hb 1
  clear hb
  refine bodyPost_ret (v := .tuple #[.agg #[.string s, .int .i64 r], .int .i64 z]) ?_ rfl hQ
  simp [h2, h3, c0, c1, results, hf, go_sem]

def PrimTo (s : ByteArray) (y z : Int) (w : World) (e : Ending) (w' : World) : Prop := e = .returned (.tuple #[.agg #[.string s, .int .i64 y], .int .i64 z]) ∧ Below w.heap.size w w'
theorem keyText_k (s : ByteArray) (y : Int) (hk : mayKy ⟨s, y⟩) (h1 : y < 9223372036854775808) (w : World) (htab : TabHere w) : Calls Tryz.prog 84 #[.agg #[.string s, .int .i64 y]] w fun e w' => e = .returned (.string (textKy ⟨s, y⟩)) ∧ Below w.heap.size w w' := by
  by_cases c : 0 < y
  · have := TextSym_k s y c h1 w htab
    have e : textKy ⟨s, y⟩ = symText (y - 1) := if_pos c
    rw [e]; exact this
  · have e : textKy ⟨s, y⟩ = ⟨(quoteL s.data.toList).toArray⟩ := if_neg c
    rw [e]
    have hq := fun w => Quote_any s w (by have := hk.2.1; show s.size ≤ 9000; have h2 : s.size ≤ 4096 := this; omega)
    have hS := fun w => keysymbol_k s y w
    have hd : decide (0 < y) = false := by simp; omega
    rw [hd] at hS
    generalize (⟨(quoteL s.data.toList).toArray⟩ : ByteArray) = t at *
    clear hk hd e htab h1
    go_enter Tryz.func84, Tryz.ntmps84
    go_wp2_with (first
      | (go_at_call 140; refine (hS _).mono ?_; rintro e w1 ⟨rfl, h2⟩; have hb1 := vblk1 h2; have hz1 := vlt1 h2; obtain ⟨hc0, hc1, hfr⟩ := kc2 hb1; clear hb1; have H1 := Lib.hid (vafter h2); clear h2)
      | (go_at_call 141; refine (hq _).mono ?_; rintro e w2 ⟨rfl, h2⟩; have H2 := Lib.hid (vb H1.out h2); clear h2))
    go_ret
    exact ⟨rfl, H2.out⟩
end Go.Proofs.YthnkllhfmjbbmaaGreatDoor.S
/-
  A key, and a slice of keys, that come in, opened.
-/
namespace Go.Proofs.YthnkllhfmjbbmaaGreatDoor.S
open Go.ChangeShapes Go.WideShapes Go.Deep Go.RowKit Fl

section
variable {H : Type} {enc : TypeId × Value → H} {w : World} {base : Nat} {spare : Nat → Bool} {held : Bool}
theorem kblock_add (a : Addr) (k : Nat) : (a.add k).block = a.block := by unfold Addr.add; split <;> rfl
theorem klt_of_cell {a : Addr} {v : Value} (h : w.cell? a = some v) : a.block < w.heap.size := by
  rcases Nat.lt_or_ge a.block w.heap.size with hlt | hge
  · exact hlt
  · exfalso
    have e : w.heap[a.block]? = none := Array.getElem?_eq_none hge
    simp [World.cell?, e] at h
theorem klist_of {n : Nat} {Q : Nat → Ky → Prop} (h : ∀ i, i < n → ∃ t, Q i t) : ∃ l : List Ky, l.length = n ∧ ∀ (i : Nat) (hi : i < l.length), Q i l[i] := by
  induction n with
  | zero => exact ⟨[], rfl, fun i hi => by simp at hi⟩
  | succ n ih =>
    obtain ⟨l, hl, hq⟩ := ih fun i hi => h i (by omega)
    obtain ⟨t, ht⟩ := h n (by omega)
    refine ⟨l ++ [t], by simp [hl], fun i hi => ?_⟩
    by_cases c : i < l.length
    · rw [List.getElem_append_left c]; exact hq i c
    · have e : i = l.length := by simp at hi; omega
      subst e
      rw [List.getElem_append_right (Nat.le_refl _)]
      simp only [Nat.sub_self, List.getElem_singleton]
      rw [hl]; exact ht
set_option maxRecDepth 100000 in
theorem kopen_cells {n : Nat} {cs : List Value} {y : DataW H × List MemPlace} (hl : cs.length = 2) (ht : DataW.trod enc Tryz.prog w base spare held n 63 cs = some y) :
    ∃ k : Ky, cs = [.string k.str, .int .i64 k.sym] ∧ KyIn k := by
  obtain ⟨xs, m, _, _, _, hxl, hf⟩ := DataW.trod_struct Tryz.underlying63 ht
  match cs, hl with
  | [c0, c1], _ =>
    have e3 : Tryz.prog.cellsOf 3 = 1 := by kernel_rfl
    have e9 : Tryz.prog.cellsOf 9 = 1 := by kernel_rfl
    match xs, hxl with
    | [y0, y1], _ =>
      have h0 : DataW.trod enc Tryz.prog w base spare held m 9 (([c0, c1].drop 0).take (Tryz.prog.cellsOf 9)) = some y0 := hf 0 _ rfl
      have h1 : DataW.trod enc Tryz.prog w base spare held m 3 (([c0, c1].drop 1).take (Tryz.prog.cellsOf 3)) = some y1 := hf 1 _ rfl
      rw [e9] at h0
      rw [e3] at h1
      obtain ⟨s, s1, _, s2⟩ := DataW.trod_string Tryz.underlying9 h0
      obtain ⟨p, p1, _, p2⟩ := DataW.trod_int Tryz.underlying3 h1
      obtain rfl : c0 = .string s := by simpa using s1
      obtain rfl : c1 = .int .i64 p := by simpa using p1
      have hp : -9223372036854775808 ≤ p ∧ p ≤ 9223372036854775807 := by
        have h2 : (decide (IntKind.i64.min ≤ p) && decide (p ≤ IntKind.i64.max)) = true := p2
        rw [show IntKind.i64.min = -9223372036854775808 by decide, show IntKind.i64.max = 9223372036854775807 by decide] at h2
        simpa using h2
      exact ⟨⟨s, p⟩, rfl, s2, by show -2 ^ 63 ≤ p; omega, by show p < 2 ^ 63; omega⟩
set_option maxRecDepth 100000 in
/-- a key that comes in -/
theorem open_key {v : Value} {d : DataW H} {p : List MemPlace} (hv : Value.okWide Tryz.prog w .any base 63 v) (h : DataW.Trod enc Tryz.prog w 0 (fun _ => true) true 63 v d p) :
    ∃ k : Ky, v = .agg #[.string k.str, .int .i64 k.sym] ∧ KyIn k := by
  obtain ⟨cs, rfl, hsz⟩ := okWide_struct Tryz.underlying63 hv
  obtain ⟨fuel, hf⟩ := h
  have hcell : Tryz.prog.cellsOf 63 = 2 := by kernel_rfl
  rw [hcell] at hsz
  have hf : DataW.trod enc Tryz.prog w 0 (fun _ => true) true fuel 63 cs.toList = some (d, p) := hf
  obtain ⟨k, e, hk⟩ := kopen_cells (by simpa using hsz) hf
  exact ⟨k, by rw [← e], hk⟩
set_option maxRecDepth 100000 in
theorem kopen_one {a : Addr} {n : Nat} {cs : List Value} {x : DataW H × List MemPlace} (hc : w.cells? base a 2 = some cs) (ht : DataW.trod enc Tryz.prog w base spare held n 63 cs = some x) :
    ∃ k : Ky, KyIn k ∧ a.block < w.heap.size ∧ w.cell? (a.add 0) = some (.string k.str) ∧ w.cell? (a.add 1) = some (.int .i64 k.sym) := by
  obtain ⟨_, hl, hat⟩ := World.cells?_some hc
  obtain ⟨k, rfl, hk⟩ := kopen_cells hl ht
  have h0 := hat 0 (by omega)
  have h1 := hat 1 (by omega)
  refine ⟨k, hk, ?_, h0, h1⟩
  have := klt_of_cell h0
  rw [kblock_add] at this
  exact this
set_option maxRecDepth 100000 in
/-- a slice of keys that comes in -/
theorem open_keys {v : Value} {d : DataW H} {p : List MemPlace} (hv : Value.okWide Tryz.prog w .any base 56 v) (h : DataW.Trod enc Tryz.prog w 0 (fun _ => true) true 56 v d p) :
    ∃ (A : Option Addr) (l : List Ky) (cap : Nat), v = .slice A l.length cap ∧ l.length ≤ cap ∧ l.length ≤ maxLen ∧ RK w A l ∧ ∀ k ∈ l, KyIn k := by
  obtain ⟨a0, len, cap, rfl⟩ := okWide_slice Tryz.underlying56 hv
  obtain ⟨fuel, hf⟩ := h
  have hcell : Tryz.prog.cellsOf 63 = 2 := by kernel_rfl
  rcases open_slice Tryz.underlying56 hf with ⟨h1, _⟩ | ⟨a, len', cap', m, n, D, Pl, hcs, _, hl, hm, hmm, _, hi⟩
  · have h1 : [Value.slice a0 len cap] = [.slice none 0 0] := h1
    injection h1 with h1
    injection h1 with e1 e2 e3
    subst e1 e2 e3
    exact ⟨none, [], 0, rfl, Nat.le_refl _, Nat.zero_le _, fun h => by simp at h, fun t ht => by cases ht⟩
  · have hcs : [Value.slice a0 len cap] = [.slice (some a) len' cap'] := hcs
    injection hcs with hcs
    injection hcs with e1 e2 e3
    subst e1 e2 e3
    rw [if_pos rfl] at hmm
    subst hmm
    obtain ⟨l, hll, hq⟩ := klist_of (n := len) (Q := fun i k => KyIn k ∧ (a.add (i * 2)).block < w.heap.size ∧ w.cell? ((a.add (i * 2)).add 0) = some (.string k.str) ∧ w.cell? ((a.add (i * 2)).add 1) = some (.int .i64 k.sym)) fun i hilt => by
      obtain ⟨cs', hc, ht⟩ := hi i (by omega)
      rw [hcell] at hc
      exact kopen_one hc ht
    refine ⟨some a, l, _, by rw [hll], by omega, by omega, fun hpos => ?_, fun t ht => ?_⟩
    · have hb := (hq 0 hpos).2.1
      rw [kblock_add] at hb
      refine ⟨a, rfl, hb, fun i hi' => ?_⟩
      obtain ⟨_, _, c0, c1⟩ := hq i hi'
      exact ⟨c0, c1⟩
    · obtain ⟨i, hi'⟩ := List.getElem?_of_mem ht
      obtain ⟨hlt, he⟩ := List.getElem?_eq_some_iff.1 hi'
      rw [← he]; exact (hq i hlt).1
end
end Go.Proofs.YthnkllhfmjbbmaaGreatDoor.S
/-
  Descriptors: a struct of sixteen cells in a block: its loads and stores, whole or a value of four, as laws of one operation; the blocks of a call's own.
-/
namespace Go.Proofs.YthnkllhfmjbbmaaGreatDoor.S
open Go.RowKit Fl

theorem dsz : (Tryz.prog.info? 55).map (·.size) = some 16 := by kernel_rfl
theorem vsz : (Tryz.prog.info? 31).map (·.size) = some 4 := by kernel_rfl
theorem cells_one {l : List Value} (h : l.all (·.oneCell') = true) : l.toArray.all (·.oneCell') = true := all_oneCell_toArray (List.all_eq_true.1 h)
section
variable {ops : Array Oper} {rest : List Oper} {o : Oper} {a : Act} {w : World} {Q : Exit → Act → World → Prop} {x y : Operand} {g i : Nat} {t : TypeId} {c0 c1 c2 c3 c4 c5 c6 c7 c8 c9 c10 c11 c12 c13 c14 c15 : Value}
theorem wpList_wanted (hw : Region.wanted o (yielded ops a.tmps) = true) (h : ∀ K : Act → World → Prop, (∀ a w, wpList Tryz.prog ops Q rest a w → K a w) → o.wp Tryz.prog a w K Q) : wpList Tryz.prog ops Q (o :: rest) a w := by
  unfold wpList
  rw [if_pos hw]
  exact Or.inl (h _ fun _ _ q => q)
theorem d_load (hw : Region.wanted o (yielded ops a.tmps) = true) (ho : o.op = .load 55 x)
    (hx : a.eval x = .pointer (some ⟨g, 0, none⟩)) (hg : w.heap[g]? = some (.cells #[c0, c1, c2, c3, c4, c5, c6, c7, c8, c9, c10, c11, c12, c13, c14, c15] t (0, 0)))
    (h : wpList Tryz.prog ops Q rest (a.put o.dst (.agg #[c0, c1, c2, c3, c4, c5, c6, c7, c8, c9, c10, c11, c12, c13, c14, c15])) w) : wpList Tryz.prog ops Q (o :: rest) a w :=
  wpList_wanted hw fun _ hK => wp_load_row 55 x ho g hx t _ (0, 0) _ hg Tryz.underlying55 rfl dsz (hK _ _ h)
theorem d_store (hgd : o.guard = none) (ho : o.op = .store 55 x y)
    (hx : a.eval x = .pointer (some ⟨g, 0, none⟩)) (hy : a.eval y = .agg #[c0, c1, c2, c3, c4, c5, c6, c7, c8, c9, c10, c11, c12, c13, c14, c15]) {old : Array Value} (hg : w.heap[g]? = some (.cells old t (0, 0))) (hold : old.size = 16)
    (h1 : ([c0, c1, c2, c3, c4, c5, c6, c7, c8, c9, c10, c11, c12, c13, c14, c15] : List Value).all (·.oneCell') = true)
    (h : wpList Tryz.prog ops Q rest (a.put o.dst undef) (w.setRow g #[c0, c1, c2, c3, c4, c5, c6, c7, c8, c9, c10, c11, c12, c13, c14, c15])) : wpList Tryz.prog ops Q (o :: rest) a w :=
  wpList_store_row hgd 55 x y ho g _ hx hy t old hg dsz hold (cells_one h1) h
theorem row_range {cs : Array Value} {l : List Value} (hg : w.heap[g]? = some (.cells cs t (0, 0))) (hl : ∀ j v, l[j]? = some v → cs[i + j]? = some v) : w.rangeAt g i l := fun j v hv => by
  rw [vcells hg (i + j)]; exact hl j v hv
theorem four {cs : Array Value} (h0 : cs[i]? = some c0) (h1 : cs[i + 1]? = some c1) (h2 : cs[i + 2]? = some c2) (h3 : cs[i + 3]? = some c3) : ∀ j v, ([c0, c1, c2, c3] : List Value)[j]? = some v → cs[i + j]? = some v := by
  intro j v hv
  match j, hv with
  | 0, hv => cases hv; exact h0
  | 1, hv => cases hv; exact h1
  | 2, hv => cases hv; exact h2
  | 3, hv => cases hv; exact h3
  | n + 4, hv => cases hv
theorem v_load {cs : Array Value} (hw : Region.wanted o (yielded ops a.tmps) = true) (ho : o.op = .load 31 x) (hx : a.eval x = .pointer (some ⟨g, i, none⟩)) (hg : w.heap[g]? = some (.cells cs t (0, 0)))
    (h0 : cs[i]? = some c0) (h1 : cs[i + 1]? = some c1) (h2 : cs[i + 2]? = some c2) (h3 : cs[i + 3]? = some c3)
    (h : wpList Tryz.prog ops Q rest (a.put o.dst (.agg #[c0, c1, c2, c3])) w) : wpList Tryz.prog ops Q (o :: rest) a w :=
  wpList_wanted hw fun _ hK => wp_load_mid 31 x ho g i hx [c0, c1, c2, c3] _ (row_range hg (four h0 h1 h2 h3)) Tryz.underlying31 rfl vsz (hK _ _ h)
theorem v_store {cs : Array Value} (hgd : o.guard = none) (ho : o.op = .store 31 x y) (hx : a.eval x = .pointer (some ⟨g, i, none⟩)) (hy : a.eval y = .agg #[c0, c1, c2, c3]) (hg : w.heap[g]? = some (.cells cs t (0, 0)))
    (hi : i + 4 ≤ cs.size) (h1 : ([c0, c1, c2, c3] : List Value).all (·.oneCell') = true)
    (h : wpList Tryz.prog ops Q rest (a.put o.dst undef) ((((w.setCell ⟨g, i, none⟩ c0).setCell ⟨g, i + 1, none⟩ c1).setCell ⟨g, i + 2, none⟩ c2).setCell ⟨g, i + 3, none⟩ c3)) : wpList Tryz.prog ops Q (o :: rest) a w := by
  refine wpList_store_mid hgd 31 x y ho g i #[c0, c1, c2, c3] hx hy ?_ vsz (cells_one h1) h
  intro j hj
  have hj : j < 4 := hj
  refine ⟨?_, vfz hg _⟩
  rw [vcells hg, Array.getElem?_eq_getElem (by omega)]
  rfl
end
theorem vblk3 {w w1 : World} {o p q : Obj} (h : Below (((w.alloc o).alloc p).alloc q).heap.size (((w.alloc o).alloc p).alloc q) w1) : w1.heap[w.heap.size]? = some o ∧ w1.heap[w.heap.size + 1]? = some p ∧ w1.heap[w.heap.size + 1 + 1]? = some q := by
  have e : (w.alloc o).heap.size = w.heap.size + 1 := by simp
  obtain ⟨a, b⟩ := vblk2 h
  rw [e] at a b
  exact ⟨vblk1 (vafter2 h), a, b⟩
theorem below_row {B : Nat} {w0 w : World} (h : Below B w0 w) {g : Nat} (hg : B ≤ g) (cs : Array Value) : Below B w0 (w.setRow g cs) := below_setRow h hg cs
theorem vset_o {w : World} {g j : Nat} {o : Obj} (h : w.heap[g]? = some o) (hj : j ≠ g) (cs : Array Value) : (w.setRow j cs).heap[g]? = some o := by
  rw [← h]; exact setRow_other w j g cs (fun e => hj e.symm)
end Go.Proofs.YthnkllhfmjbbmaaGreatDoor.S
/-
  Descriptors: has, IsData, IsAccess: walks.
-/
namespace Go.Proofs.YthnkllhfmjbbmaaGreatDoor.S
open Go.RowKit Fl

def hasB (h m : Int) : Bool := bits .and .u8 h m != 0
theorem has_c (h m : Int) (ka : Int) (xa : Nat) (sa : ByteArray) (ra : Int) (kb : Int) (xb : Nat) (sb : ByteArray) (rb : Int) (kc : Int) (xc : Nat) (sc : ByteArray) (rc : Int) (p q z : Bool) (w : World) : Calls Tryz.prog 68 #[.agg #[.int .u8 h, .int .u8 ka, .float .f64 xa, .string sa, .int .i64 ra, .int .u8 kb, .float .f64 xb, .string sb, .int .i64 rb, .int .u8 kc, .float .f64 xc, .string sc, .int .i64 rc, .bool p, .bool q, .bool z], .int .u8 m] w fun e w' => e = .returned (.bool (hasB h m)) ∧ Below w.heap.size w w' := by
  go_enter Tryz.func68, Tryz.ntmps68
  go_wp2
  go_ret
  exact ⟨rfl, vzero _ _⟩
theorem IsData_c (h : Int) (ka : Int) (xa : Nat) (sa : ByteArray) (ra : Int) (kb : Int) (xb : Nat) (sb : ByteArray) (rb : Int) (kc : Int) (xc : Nat) (sc : ByteArray) (rc : Int) (p q z : Bool) (w : World) : Calls Tryz.prog 37 #[.agg #[.int .u8 h, .int .u8 ka, .float .f64 xa, .string sa, .int .i64 ra, .int .u8 kb, .float .f64 xb, .string sb, .int .i64 rb, .int .u8 kc, .float .f64 xc, .string sc, .int .i64 rc, .bool p, .bool q, .bool z]] w fun e w' => e = .returned (.bool (hasB h 3)) ∧ Below w.heap.size w w' := by
  have hb := heap_alloc_new w (.cells #[.int .u8 h, .int .u8 ka, .float .f64 xa, .string sa, .int .i64 ra, .int .u8 kb, .float .f64 xb, .string sb, .int .i64 rb, .int .u8 kc, .float .f64 xc, .string sc, .int .i64 rc, .bool p, .bool q, .bool z] 55)
  go_enter Tryz.func37, Tryz.ntmps37
  go_wp2_with (first | ((with_reducible refine d_load ?_ rfl rfl hb ?_); (rfl)) | (go_at_call 68; (with_reducible refine (has_c _ _ _ _ _ _ _ _ _ _ _ _ _ _ _ _ _ _).mono ?_); rintro e w1 ⟨rfl, h1⟩))
  go_ret
  exact ⟨rfl, vafter h1⟩
theorem IsAccess_c (h : Int) (ka : Int) (xa : Nat) (sa : ByteArray) (ra : Int) (kb : Int) (xb : Nat) (sb : ByteArray) (rb : Int) (kc : Int) (xc : Nat) (sc : ByteArray) (rc : Int) (p q z : Bool) (w : World) : Calls Tryz.prog 109 #[.agg #[.int .u8 h, .int .u8 ka, .float .f64 xa, .string sa, .int .i64 ra, .int .u8 kb, .float .f64 xb, .string sb, .int .i64 rb, .int .u8 kc, .float .f64 xc, .string sc, .int .i64 rc, .bool p, .bool q, .bool z]] w fun e w' => e = .returned (.bool (hasB h 12)) ∧ Below w.heap.size w w' := by
  have hb := heap_alloc_new w (.cells #[.int .u8 h, .int .u8 ka, .float .f64 xa, .string sa, .int .i64 ra, .int .u8 kb, .float .f64 xb, .string sb, .int .i64 rb, .int .u8 kc, .float .f64 xc, .string sc, .int .i64 rc, .bool p, .bool q, .bool z] 55)
  go_enter Tryz.func109, Tryz.ntmps109
  go_wp2_with (first | ((with_reducible refine d_load ?_ rfl rfl hb ?_); (rfl)) | (go_at_call 68; (with_reducible refine (has_c _ _ _ _ _ _ _ _ _ _ _ _ _ _ _ _ _ _).mono ?_); rintro e w1 ⟨rfl, h1⟩))
  go_ret
  exact ⟨rfl, vafter h1⟩
end Go.Proofs.YthnkllhfmjbbmaaGreatDoor.S
