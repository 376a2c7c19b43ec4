/-
  LexTexts: a text's tokens beside the document's own: the walk.
-/
import Derived.Test.YtjjbefebpilhdaaDoorLexRefToks
import Derived.Test.YtjjbefebpilhdaaDoorLexSame
import Derived.Test.YtjjbefebpilhdaaDoorLexNum
namespace Go.Proofs.YtjjbefebpilhdaaDoor.S
open Go.RowKit Fl

theorem long_any (s : ByteArray) (w : World) (hm : s.size ≤ maxLen) : Calls Tryd.prog 15 #[.string s] w fun e w' => e = .returned (.bool ((decide (33000 < s.size) && decide (s.size ≤ 65536)) || decide (66000 < s.size))) ∧ w = w' := by
  unfold maxLen at hm
  go_enter Tryd.func15, Tryd.ntmps15
  go_wp2
  all_goals (go_ret; refine ⟨ret_bool ?_, rfl⟩; rw [Bool.eq_iff_iff]; simp; omega)

def trL : TR → List Tk
  | .ok l => l
  | .err _ _ => []
def trA : TR → Int
  | .ok _ => 0
  | .err a _ => a
def trK : TR → Int
  | .ok _ => 0
  | .err _ k => k
/-- both kinds of an answer in one -/
def TrTo (r : TR) (w : World) (e : Ending) (w' : World) : Prop := ∃ A cap, e = .returned (.tuple #[.slice A (trL r).length cap, .int .i64 (trA r), .int .i64 (trK r)]) ∧ TB w.heap.size (.slice A (trL r).length cap) (trL r) w w'
theorem tr_of {r : TR} {w : World} {e : Ending} {w' : World} (h : TokTo r w e w') : TrTo r w e w' := by
  cases r with
  | ok l =>
    obtain ⟨v, he, hb⟩ := h
    obtain ⟨A, cap, hv⟩ := tb_shape hb
    subst hv
    exact ⟨A, cap, he, hb⟩
  | err a k => exact ⟨none, 0, h.1, World.ownsRow_nil _ _ _ _, h.2, h.2.size⟩
theorem tr_num {l : List UInt8} : ∀ t ∈ trL (toks l), numOk t.num := by
  cases h : toks l with
  | ok r => exact toks_num h
  | err a k => intro t ht; cases ht
theorem toksF_len : ∀ (f i : Nat) (l : List UInt8) (acc r : List Tk), toksF f i l acc = .ok r → r.length ≤ acc.length + f
  | 0, _, _, _, _, h => by cases h
  | f + 1, i, l, acc, r, h => by
    unfold toksF at h
    split at h
    · cases h
    · split at h
      · cases h; simp
      · split at h
        · cases h
        · split at h
          · cases h
          · have := toksF_len f _ _ _ r h
            simp at this; omega
theorem tr_len {s : ByteArray} : (trL (toks s.data.toList)).length ≤ 70000 := by
  cases h : toks s.data.toList with
  | ok r =>
    unfold toks at h
    split at h
    · cases h
    · have h1 := toksF_len _ _ _ _ r h
      have h2 : ¬ s.data.toList.length > 65536 := by assumption
      show r.length ≤ 70000
      rw [List.length_nil] at h1; omega
  | err a k => simp [trL]
theorem rd_below {B : Nat} {A : Option Addr} {n cap : Nat} {l : List Tk} {w0 w w' : World} (h : TB B (.slice A n cap) l w0 w) (hb : Below w.heap.size w w') : RdT w' A l := rd_of (tb_up h hb)

def LW (w wr : World) (A1 A2 : Option Addr) (l : List Tk) : Prop := Below w.heap.size w wr ∧ (0 < l.length → ∃ g1 g2, A1 = some ⟨g1, 0, none⟩ ∧ A2 = some ⟨g2, 0, none⟩ ∧ w.heap.size ≤ g1 ∧ g2 ≠ g1 ∧ g2 < wr.heap.size ∧ (∀ j, j < l.length * 4 → ∃ x, wr.cell? ⟨g1, j, none⟩ = some x) ∧ (∀ j, wr.frozen? ⟨g1, j, none⟩ = false) ∧ ∀ j, j < l.length * 4 → wr.cell? ⟨g2, j, none⟩ = (tkCells l)[j]?)
theorem lw_start {w w1 w2 wr : World} {A1 A2 : Option Addr} {c1 c2 : Nat} {l : List Tk} (h1 : TB w.heap.size (.slice A1 l.length c1) l w w1) (h2 : TB w1.heap.size (.slice A2 l.length c2) l w1 w2) (hb : Below w2.heap.size w2 wr) : LW w wr A1 A2 l := by
  have h1' := tb_up (tb_up h1 h2.2.1) hb
  have h2' := tb_up h2 hb
  refine ⟨h1'.2.1, fun hl => ?_⟩
  rcases h1.1.2 with ⟨_, e⟩ | ⟨g1, cap, cur, hv, hg1, _⟩
  · omega
  · rcases h2.1.2 with ⟨_, e⟩ | ⟨g2, cap', cur', hv', hg2, _⟩
    · omega
    · injection hv with hA hn hc
      injection hv' with hA' hn' hc'
      subst hA hA' hc hc'
      have q1 := h1.1.lt g1 rfl
      have q2 := h2'.1.lt g2 rfl
      refine ⟨g1, g2, rfl, rfl, hg1, by omega, q2.2, fun j hj => ?_, fun j => h1'.1.frozenAt j, fun j hj => h2'.1.cellAt j hj⟩
      have hlt : j < (tkCells l).length := by rw [tkCells_len]; exact hj
      exact ⟨_, (h1'.1.cellAt j hj).trans (List.getElem?_eq_getElem hlt)⟩
theorem cell_set {w : World} {p q : Addr} {u : Value} (h : ∃ x, w.cell? q = some x) : ∃ x, (w.setCell p u).cell? q = some x := by
  obtain ⟨x, hx⟩ := h
  by_cases e : q = p
  · subst e; exact ⟨u, World.cell?_setCell_same w q u hx⟩
  · exact ⟨x, (World.cell?_setCell_other w p q u (fun g => e g.symm)).trans hx⟩
theorem lw_set {w wr : World} {A1 A2 : Option Addr} {l : List Tk} {g1 o : Nat} (hl : 0 < l.length) (hA : A1 = some ⟨g1, 0, none⟩) (h : LW w wr A1 A2 l) (u : Value) : LW w (wr.setCell ⟨g1, o, none⟩ u) A1 A2 l := by
  obtain ⟨hb, hh⟩ := h
  obtain ⟨g1', g2, e1, e2, h1, h2, h3, h4, h5, h6⟩ := hh hl
  rw [hA] at e1
  injection e1 with e1; injection e1 with e1; subst e1
  refine ⟨hb.setCell (p := ⟨g1, o, none⟩) h1 u, fun _ => ⟨g1, g2, hA, e2, h1, h2, by simpa [World.setCell] using h3, fun j hj => cell_set (h4 j hj), fun j => ?_, fun j hj => ?_⟩⟩
  · rw [World.frozen?_setCell]; exact h5 j
  · rw [World.cell?_setCell_other _ _ _ _ (fun e => h2 (congrArg Addr.block e).symm)]; exact h6 j hj

set_option maxHeartbeats 4000000 in
set_option maxRecDepth 1000000 in
theorem LexTexts_walk (s : ByteArray) (w : World) (hm : s.size ≤ maxLen) :
    Calls Tryd.prog 4 #[.string s] w fun e w' => e = .returned (.bool true) ∧ Below w.heap.size w w' := by
  have kl := fun w => long_any s w hm
  by_cases hlong : ((decide (33000 < s.size) && decide (s.size ≤ 65536)) || decide (66000 < s.size)) = true
  · rw [hlong] at kl
    clear hlong
    go_enter Tryd.func4, Tryd.ntmps4
    go_wp2_with (go_at_call 15; refine (kl _).mono ?_; rintro e w1 ⟨rfl, rfl⟩)
    go_ret
    exact ⟨rfl, Below.refl _ _⟩
  · have hf : ((decide (33000 < s.size) && decide (s.size ≤ 65536)) || decide (66000 < s.size)) = false := by simpa using hlong
    have hs : s.size ≤ 70000 := by simp at hlong; omega
    rw [hf] at kl
    clear hlong hf
    have hm2 : s.size ≤ 9223372036854775807 := hm
    have hnum := tr_num (l := s.data.toList)
    have hlen := tr_len (s := s)
    obtain ⟨l, hl⟩ : ∃ l, trL (toks s.data.toList) = l := ⟨_, rfl⟩
    obtain ⟨a, ha⟩ : ∃ a, trA (toks s.data.toList) = a := ⟨_, rfl⟩
    obtain ⟨k, hk⟩ : ∃ k, trK (toks s.data.toList) = k := ⟨_, rfl⟩
    have kt : ∀ w, Calls Tryd.prog 8 #[.string s] w (fun e w' => ∃ A cap, e = .returned (.tuple #[.slice A l.length cap, .int .i64 a, .int .i64 k]) ∧ TB w.heap.size (.slice A l.length cap) l w w') := fun w => (Tokens_any s hs w).mono fun e w' h => by
      have := tr_of h
      unfold TrTo at this
      rw [hl, ha, hk] at this
      exact this
    have kr : ∀ w, Calls Tryd.prog 16 #[.string s] w (fun e w' => ∃ A cap, e = .returned (.tuple #[.slice A l.length cap, .int .i64 a, .int .i64 k]) ∧ TB w.heap.size (.slice A l.length cap) l w w') := fun w => (refTokens_any s hs w).mono fun e w' h => by
      have := tr_of h
      unfold TrTo at this
      rw [hl, ha, hk] at this
      exact this
    rw [hl] at hnum hlen
    clear hl ha hk
    have HNUM := Lib.hid hnum
    clear hnum
    have kw := fun w => lexWord_any s w
    have krw := fun w => refWord_any s w
    have ks := fun w => lexSign_any s w hm2
    have krs := fun w => refSign_any s w
    generalize wordB s.data.toList = wb at *
    generalize signB s.data.toList = sb at *
    clear hm hm2
    go_enter Tryd.func4, Tryd.ntmps4
    go_wp2_with (first
      | (go_at_call 15; refine (kl _).mono ?_; rintro e w1 ⟨rfl, rfl⟩)
      | (go_at_call 8; refine (kt _).mono ?_; rintro e w1 ⟨A1, cap1, rfl, ht⟩; have HT := Lib.hid ht; clear ht)
      | (go_at_call 16; refine (kr _).mono ?_; rintro e w2 ⟨A2, cap2, rfl, hr⟩; have HR := Lib.hid hr; have HT2 := Lib.hid (tb_up HT.out hr.2.1); clear hr; have kss := fun W h1 h2 => Same_true l A1 A2 cap1 cap2 W h1 h2 HNUM.out hlen)
      | (go_at_call 17; refine (kss _ (rd_of HT2.out) (rd_of HR.out)).mono ?_; rintro e w3 ⟨rfl, hb3⟩; have HB3 := Lib.hid hb3; clear hb3)
      | (go_at_call 13; refine (kw _).mono ?_; rintro e w4 ⟨rfl, rfl⟩)
      | (go_at_call 18; refine (krw _).mono ?_; rintro e w4 ⟨rfl, rfl⟩)
      | (go_at_call 14; refine (ks _).mono ?_; rintro e w4 ⟨rfl, q, rfl⟩)
      | (go_at_call 19; refine (krs _).mono ?_; rintro e w4 ⟨rfl, rfl⟩))
    have HLW := Lib.hid (lw_start HT.out HR.out (below_draw2 HB3.out q))
    go_loopw [9] (fun i wr => ∃ k : Nat, k ≤ l.length ∧ i = .int .i64 k ∧ Hid (LW w wr A1 A2 l)) (fun i _ => l.length - (intOf i).toNat)
    case atStart => exact ⟨0, Nat.zero_le _, rfl, HLW⟩
    case round =>
      obtain ⟨j, hj, rfl, H⟩ := hrel
      clear HLW HT HT2 HR HB3
      by_cases hlt : j < l.length
      · have hl0 : 0 < l.length := by omega
        obtain ⟨g1, g2, hA1, hA2, _, _, _, hc4, hc5, _⟩ := H.out.2 hl0
        have hA1' := hA1
        subst hA1
        obtain ⟨x0, y0⟩ := hc4 (j * 4) (by omega)
        obtain ⟨x1, y1⟩ := hc4 (j * 4 + 1) (by omega)
        obtain ⟨x2, y2⟩ := hc4 (j * 4 + 2) (by omega)
        obtain ⟨x3, y3⟩ := hc4 (j * 4 + 3) (by omega)
        have f0 := hc5 (j * 4)
        have f1 := hc5 (j * 4 + 1)
        have f2 := hc5 (j * 4 + 2)
        have f3 := hc5 (j * 4 + 3)
        have HA1 := Lib.hid hA1'
        have hst := store_f
        clear hc4 hc5 hA2 hA1' kt kr kss kl kw krw ks krs
        go_wp2
        go_roundw
        case rel => exact ⟨j + 1, by omega, by go_num, Lib.hid (lw_set hl0 HA1.out (lw_set hl0 HA1.out (lw_set hl0 HA1.out (lw_set hl0 HA1.out H.out _) _) _) _)⟩
        case measure => simp [intOf]; omega
      · have hrd2 : ∀ wx, Below wr.heap.size wr wx → RdT wx A2 l := fun wx hb hl => by
          obtain ⟨g1, g2, _, hA2, _, _, h3, _, _, h6⟩ := H.out.2 hl
          exact ⟨g2, hA2, fun j hj => (hb.cell (p := ⟨g2, j, none⟩) h3).trans (h6 j hj)⟩
        have HRD := Lib.hid hrd2
        have hks := fun A3 c3 W h1 h2 => Same_true l A3 A2 c3 cap2 W h1 h2 HNUM.out hlen
        clear hrd2 kr kss kl kw krw ks krs
        go_wp2_with (first
          | (go_at_call 8; refine (kt _).mono ?_; rintro e w5 ⟨A3, cap3, rfl, ht3⟩; have HT3 := Lib.hid ht3; clear ht3)
          | (go_at_call 17; refine (hks A3 cap3 _ (rd_of HT3.out) (HRD.out _ HT3.out.2.1)).mono ?_; rintro e w6 ⟨rfl, hb6⟩; have HB6 := Lib.hid hb6; clear hb6))
        go_ret
        exact ⟨rfl, below_up (below_up H.out.1 HT3.out.2.1) HB6.out⟩
end Go.Proofs.YtjjbefebpilhdaaDoor.S
