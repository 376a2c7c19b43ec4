/-
  Which tokens may be, and tokens written as a text: walks of package lex.
-/
import Derived.Test.YtgjpcoplnpkmoaaGreatDoorLexWrit2
import Derived.Test.YtgjpcoplnpkmoaaGreatDoorLexSame
import Derived.Test.YtgjpcoplnpkmoaaGreatDoorLexAlive
import Derived.Test.YtgjpcoplnpkmoaaGreatDoorTextTens
import Derived.Test.YtgjpcoplnpkmoaaGreatDoorTextLaws
import Derived.Deep.AppendLies
import Derived.Deep.Draws
namespace Go.Proofs.YtgjpcoplnpkmoaaGreatDoor.S
open Go.RowKit Fl

/-! ### a slice that reads as tokens, wherever it lies -/
theorem block_of_add (a : Addr) (n : Nat) : (a.add n).block = a.block := by unfold Addr.add; split <;> rfl
theorem add_of_add (a : Addr) (i j : Nat) : (a.add i).add j = a.add (i + j) := by
  unfold Addr.add
  by_cases hi : i = 0 <;> by_cases hj : j = 0 <;> simp [hi, hj, Nat.add_assoc]
def RdA (w : World) (A : Option Addr) (l : List Tk) : Prop := 0 < l.length → ∃ a, A = some a ∧ a.block < w.heap.size ∧ ∀ j, j < l.length * 4 → w.cell? (a.add j) = (tkCells l)[j]?
theorem rda_up {w w' : World} {A : Option Addr} {l : List Tk} (h : RdA w A l) (hb : Below w.heap.size w w') : RdA w' A l := fun hl => by
  obtain ⟨a, ha, hlt, hc⟩ := h hl
  exact ⟨a, ha, Nat.lt_of_lt_of_le hlt hb.size, fun j hj => (hb.cell (p := a.add j) (by rw [block_of_add]; exact hlt)).trans (hc j hj)⟩
theorem rda_tb {B : Nat} {A : Option Addr} {n cap : Nat} {l : List Tk} {w0 w : World} (h : TB B (.slice A n cap) l w0 w) : RdA w A l := fun hl => by
  have h0 := h.1
  rcases h.1.2 with ⟨_, h1⟩ | ⟨g, cap', cur, hv, hb, hh, _⟩
  · omega
  · injection hv with hA hn hc
    subst hA hn hc
    refine ⟨_, rfl, (h0.lt g rfl).2, fun j hj => ?_⟩
    have e : (⟨g, 0, none⟩ : Addr).add j = ⟨g, j, none⟩ := by unfold Addr.add; split <;> simp_all
    rw [e]
    exact h0.cellAt j hj
theorem tkCells_take (l : List Tk) (m : Nat) (hm : m ≤ l.length) (j : Nat) (hj : j < m * 4) : (tkCells (l.take m))[j]? = (tkCells l)[j]? := by
  have e : tkCells l = tkCells (l.take m) ++ tkCells (l.drop m) := by
    unfold tkCells; rw [← List.flatMap_append, List.take_append_drop]
  rw [e, List.getElem?_append_left]
  rw [tkCells_len, List.length_take]; omega
theorem rda_take {w : World} {A : Option Addr} {l : List Tk} (h : RdA w A l) (m : Nat) (hm : m ≤ l.length) : RdA w A (l.take m) := fun hl => by
  rw [List.length_take] at hl
  obtain ⟨a, ha, hlt, hc⟩ := h (by omega)
  refine ⟨a, ha, hlt, fun j hj => ?_⟩
  rw [List.length_take] at hj
  rw [tkCells_take l m hm j (by omega)]
  exact hc j (by omega)
/-- the four cells of one token -/
theorem rda_at {w : World} {A : Option Addr} {l : List Tk} (h : RdA w A l) (k : Nat) (hk : k < l.length) : ∃ a, A = some a ∧ a.block < w.heap.size ∧
    w.cell? (a.add (k * 4)) = some (.int .u8 (l[k].kind : Int)) ∧ w.cell? (a.add (k * 4 + 1)) = some (.int .i64 l[k].pos) ∧ w.cell? (a.add (k * 4 + 2)) = some (.string l[k].text) ∧ w.cell? (a.add (k * 4 + 3)) = some (.float .f64 l[k].num) := by
  obtain ⟨a, ha, hlt, hc⟩ := h (by omega)
  exact ⟨a, ha, hlt, (hc (k * 4 + 0) (by omega)).trans (tkCells_at l k hk 0 (by omega)), (hc (k * 4 + 1) (by omega)).trans (tkCells_at l k hk 1 (by omega)), (hc (k * 4 + 2) (by omega)).trans (tkCells_at l k hk 2 (by omega)), (hc (k * 4 + 3) (by omega)).trans (tkCells_at l k hk 3 (by omega))⟩
theorem bb_up {B b : Nat} {l : List UInt8} {w0 w w' : World} (h : BB B b l w0 w) (hb : Below w.heap.size w w') : BB B b l w0 w' := by
  have key : ∀ p, Lib.BuilderAt 59 5 B b p (Lib.byteCells l) w → Lib.BuilderAt 59 5 B b p (Lib.byteCells l) w' := by
    intro p g
    have hlt := g.lt
    obtain ⟨h1, v, h2, h3, h4⟩ := g
    refine ⟨h1, v, by rw [hb.block b hlt]; exact h2, h3.kept (row := none) ⟨hb.os, hb.tape, hb.output, hb.size, fun k hk _ => hb.block k hk⟩ ?_, h4⟩
    rcases h3.2 with ⟨rfl, _⟩ | ⟨g, cap, cur, rfl, _⟩
    · exact Or.inl rfl
    · exact Or.inr (by simp [Value.ownBlock])
  exact ⟨h.1.imp (key _) (key _), h.2.1.trans (hb.mono h.2.2), Nat.le_trans h.2.2 hb.size⟩
theorem bb_below {B b : Nat} {l : List UInt8} {w0 w : World} (h : BB B b l w0 w) : Below B w0 w := h.2.1

/-! ### is a token what its Text is read as? -/
def aloneB (k : Nat) (l : List UInt8) : Bool := match pieceL l with | .tok k' _ _ wd => decide (k' = k) && decide (wd = l.length) | .bad _ => false
theorem aloneB_iff {k : Nat} {l : List UInt8} : aloneB k l = true ↔ aloneP k l := by
  unfold aloneB aloneP
  cases h : pieceL l with
  | tok k' t n wd =>
    dsimp only
    rw [Bool.and_eq_true, decide_eq_true_eq, decide_eq_true_eq]
    constructor
    · rintro ⟨rfl, rfl⟩; exact ⟨t, n, rfl⟩
    · rintro ⟨t', n', e⟩; injection e with e1 e2 e3 e4; exact ⟨e1, e4⟩
  | bad f =>
    dsimp only
    constructor
    · intro h; cases h
    · rintro ⟨t', n', e⟩; cases e

set_option maxHeartbeats 2000000 in
theorem alone_any (k : Nat) (p : Int) (s : ByteArray) (n : Nat) (hk0 : k ≠ 0) (hs : s.size ≤ 9223372036854775807) (w : World) :
    Calls Tryz.prog 77 #[.agg #[.int .u8 (k : Int), .int .i64 p, .string s, .float .f64 n]] w fun e w' => e = .returned (.bool (aloneB k s.data.toList)) ∧ Below w.heap.size w w' := by
  by_cases h0 : 0 < s.size
  · have hz : s.toList.isEmpty = false := by rw [toList_data]; cases hl : s.data.toList with | nil => rw [size_len, hl] at h0; exact absurd h0 (by simp) | cons _ _ => rfl
    have hz2 : (!s.data.toList.isEmpty) = true := by rw [← toList_data, hz]; rfl
    have kp := fun w => piece_any s h0 hs w
    have hl : s.data.toList.length = s.size := (size_len s).symm
    unfold aloneB
    rw [hl]
    generalize pieceL s.data.toList = r at *
    cases r with
    | bad f =>
      have kp : ∀ w, Calls Tryz.prog 60 #[.string s] w (fun e w' => e = .returned (.tuple #[.agg #[.int .u8 0, .int .i64 0, .string ⟨#[]⟩, .float .f64 0], .int .i64 0, .int .i64 f]) ∧ Below w.heap.size w w') := kp
      have hst := store_f
      have hk : ((0 : Int) == (k : Int)) = false := by rw [beq_eq_false_iff_ne]; omega
      clear hl
      go_enter Tryz.func77, Tryz.ntmps77
      go_wp2_with (go_at_call 60; refine (kp _).mono ?_; rintro e w1 ⟨rfl, h1⟩; obtain ⟨hc, hf⟩ := bcell h1; have hzz := lt_after h1; have H1 := Lib.hid h1; clear h1)
      go_ret
      exact ⟨rfl, alloc_of (after_alloc H1.out) (Nat.le_refl _) _⟩
    | tok k' t n' wd =>
      have kp : ∀ w, Calls Tryz.prog 60 #[.string s] w (fun e w' => e = .returned (.tuple #[.agg #[.int .u8 (k' : Int), .int .i64 0, .string t, .float .f64 n'], .int .i64 (wd : Int), .int .i64 0]) ∧ Below w.heap.size w w') := kp
      have hst := store_f
      clear hl
      dsimp only
      by_cases c1 : k' = k
      · have hk : ((k' : Int) == (k : Int)) = true := by rw [c1]; simp
        rw [decide_eq_true c1]
        clear c1
        by_cases c2 : wd = s.size
        · have hk2 : ((wd : Int) == (s.size : Int)) = true := by rw [c2]; simp
          rw [decide_eq_true c2]
          clear c2
          go_enter Tryz.func77, Tryz.ntmps77
          go_wp2_with (go_at_call 60; refine (kp _).mono ?_; rintro e w1 ⟨rfl, h1⟩; obtain ⟨hc, hf⟩ := bcell h1; have hzz := lt_after h1; have H1 := Lib.hid h1; clear h1)
          go_ret
          exact ⟨rfl, alloc_of (after_alloc H1.out) (Nat.le_refl _) _⟩
        · have hk2 : ((wd : Int) == (s.size : Int)) = false := by rw [beq_eq_false_iff_ne]; omega
          rw [decide_eq_false c2]
          clear c2
          go_enter Tryz.func77, Tryz.ntmps77
          go_wp2_with (go_at_call 60; refine (kp _).mono ?_; rintro e w1 ⟨rfl, h1⟩; obtain ⟨hc, hf⟩ := bcell h1; have hzz := lt_after h1; have H1 := Lib.hid h1; clear h1)
          go_ret
          exact ⟨rfl, alloc_of (after_alloc H1.out) (Nat.le_refl _) _⟩
      · have hk : ((k' : Int) == (k : Int)) = false := by rw [beq_eq_false_iff_ne]; omega
        rw [decide_eq_false c1]
        clear c1
        go_enter Tryz.func77, Tryz.ntmps77
        go_wp2_with (go_at_call 60; refine (kp _).mono ?_; rintro e w1 ⟨rfl, h1⟩; obtain ⟨hc, hf⟩ := bcell h1; have hzz := lt_after h1; have H1 := Lib.hid h1; clear h1)
        go_ret
        exact ⟨rfl, alloc_of (after_alloc H1.out) (Nat.le_refl _) _⟩
  · have hn : s.data.toList = [] := List.length_eq_zero_iff.1 (by rw [← size_len]; omega)
    have hs0 : s = ⟨#[]⟩ := str_ext hn
    subst hs0
    clear hn h0 hs
    go_enter Tryz.func77, Tryz.ntmps77
    go_wp2
    go_ret
    exact ⟨rfl, zero_alloc _ _⟩

/-! ### told: may a token be? -/
def zrB (x : Nat) : Bool := FloatKind.f64.format.order x 0 == some .eq
def nmB (c : Cl) : Bool := match c with | .ours n => decide (0 ≤ n) | _ => false
theorem zrB_iff {x : Nat} : zrB x = true ↔ zeroP x := by unfold zrB zeroP; simp
theorem told_other (k : Nat) (p : Int) (s : ByteArray) (n : Nat) (h : k ≠ 0 ∧ k ≠ 1 ∧ k ≠ 2 ∧ k ≠ 3 ∧ k ≠ 4 ∧ k ≠ 5) (w : World) :
    Calls Tryz.prog 51 #[.agg #[.int .u8 (k : Int), .int .i64 p, .string s, .float .f64 n]] w fun e w' => e = .returned (.bool false) ∧ Below w.heap.size w w' := by
  have h0 : ((k : Int) == 0) = false := by rw [beq_eq_false_iff_ne]; omega
  have h1 : ((k : Int) == 1) = false := by rw [beq_eq_false_iff_ne]; omega
  have h2 : ((k : Int) == 2) = false := by rw [beq_eq_false_iff_ne]; omega
  have h3 : ((k : Int) == 3) = false := by rw [beq_eq_false_iff_ne]; omega
  have h4 : ((k : Int) == 4) = false := by rw [beq_eq_false_iff_ne]; omega
  have h5 : ((k : Int) == 5) = false := by rw [beq_eq_false_iff_ne]; omega
  clear h
  go_enter Tryz.func51, Tryz.ntmps51
  go_wp2
  go_ret
  exact ⟨rfl, zero_alloc _ _⟩
theorem told_alone (k : Nat) (p : Int) (s : ByteArray) (n : Nat) (h : k = 1 ∨ k = 2 ∨ k = 5) (hs : s.size ≤ 9223372036854775807) (w : World) :
    Calls Tryz.prog 51 #[.agg #[.int .u8 (k : Int), .int .i64 p, .string s, .float .f64 n]] w fun e w' => e = .returned (.bool (zrB n && aloneB k s.data.toList)) ∧ Below w.heap.size w w' := by
  have ka := fun w => alone_any k p s n (by omega) hs w
  generalize aloneB k s.data.toList = b at *
  have hz : (FloatKind.f64.format.order n 0 == some .eq) = zrB n := rfl
  cases hc : zrB n
  all_goals
    rw [hc] at hz
    clear hc
    rcases h with rfl | rfl | rfl
    all_goals
      go_enter Tryz.func51, Tryz.ntmps51
      go_wp2_with (go_at_call 77; refine (ka _).mono ?_; rintro e w1 ⟨rfl, h1⟩; have H1 := Lib.hid h1; clear h1)
      go_ret
      first | exact ⟨rfl, zero_alloc _ _⟩ | exact ⟨ret_bool (by simp), after_alloc H1.out⟩
end Go.Proofs.YtgjpcoplnpkmoaaGreatDoor.S
