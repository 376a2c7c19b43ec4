/-
  Two lists of tokens that hold the same are told to be the same: the document's own Same.
-/
import Derived.Test.YtjjbefebpilhdaaDoorLexTokens
namespace Go.Proofs.YtjjbefebpilhdaaDoor.S
open Go.RowKit Fl

/-- a slice at A reads as the tokens l -/
def RdT (w : World) (A : Option Addr) (l : List Tk) : Prop := 0 < l.length → ∃ g, A = some ⟨g, 0, none⟩ ∧ ∀ j, j < l.length * 4 → w.cell? ⟨g, j, none⟩ = (tkCells l)[j]?
theorem rd_of {B : Nat} {A : Option Addr} {n cap : Nat} {l : List Tk} {w0 w : World} (h : TB B (.slice A n cap) l w0 w) : RdT w A l := by
  intro hl
  have h0 := h.1
  rcases h.1.2 with ⟨_, h1⟩ | ⟨g, cap', cur, hv, hb, hh, _⟩
  · omega
  · injection hv with hA hn hc
    subst hA hn hc
    exact ⟨g, rfl, fun j hj => h0.cellAt j hj⟩
theorem tkCells_at (l : List Tk) : ∀ (k : Nat) (hk : k < l.length) (j : Nat), j < 4 → (tkCells l)[k * 4 + j]? = (tkC l[k])[j]? := by
  induction l with
  | nil => intro k hk; simp at hk
  | cons t r ih =>
    intro k hk j hj
    have e : tkCells (t :: r) = tkC t ++ tkCells r := by unfold tkCells; rw [List.flatMap_cons]
    rw [e]
    have hl : (tkC t).length = 4 := rfl
    cases k with
    | zero => rw [Nat.zero_mul, Nat.zero_add, List.getElem?_append_left (by omega)]; rfl
    | succ k =>
      rw [List.getElem?_append_right (by omega), hl, List.getElem_cons_succ]
      have e2 : (k + 1) * 4 + j - 4 = k * 4 + j := by omega
      rw [e2]
      exact ih k (by simpa using hk) j hj

set_option maxHeartbeats 2000000 in
theorem Same_true (l : List Tk) (A1 A2 : Option Addr) (c1 c2 : Nat) (w : World) (h1 : RdT w A1 l) (h2 : RdT w A2 l) (hn : ∀ t ∈ l, FloatKind.f64.format.order t.num t.num = some .eq) (hl : l.length ≤ 70000) :
    Calls Tryd.prog 17 #[.slice A1 l.length c1, .slice A2 l.length c2, .bool true] w fun e w' => e = .returned (.bool true) ∧ Below w.heap.size w w' := by
  go_enter Tryd.func17, Tryd.ntmps17
  go_wp2_with (fail)
  go_loopw [7] (fun i wr => ∃ k : Nat, k ≤ l.length ∧ i = .int .i64 k ∧ Hid (Below w.heap.size w wr ∧ ∀ p, wr.cell? p = w.cell? p)) (fun i _ => l.length - (intOf i).toNat)
  case atStart => exact ⟨0, Nat.zero_le _, rfl, Lib.hid ⟨Below.refl _ _, fun _ => rfl⟩⟩
  case round =>
    obtain ⟨k, hk, rfl, H⟩ := hrel
    obtain ⟨hbw, hcw⟩ := H.out
    by_cases hlt : k < l.length
    · obtain ⟨g1, hA1, r1⟩ := h1 (by omega)
      obtain ⟨g2, hA2, r2⟩ := h2 (by omega)
      subst hA1 hA2
      have hnum := hn l[k] (List.getElem_mem _)
      have a0 : wr.cell? ⟨g1, k * 4, none⟩ = some (.int .u8 (l[k].kind : Int)) := (hcw _).trans <| (r1 (k * 4 + 0) (by omega)).trans (tkCells_at l k hlt 0 (by omega))
      have a1 : wr.cell? ⟨g1, k * 4 + 1, none⟩ = some (.int .i64 l[k].pos) := (hcw _).trans <| (r1 (k * 4 + 1) (by omega)).trans (tkCells_at l k hlt 1 (by omega))
      have a2 : wr.cell? ⟨g1, k * 4 + 2, none⟩ = some (.string l[k].text) := (hcw _).trans <| (r1 (k * 4 + 2) (by omega)).trans (tkCells_at l k hlt 2 (by omega))
      have a3 : wr.cell? ⟨g1, k * 4 + 3, none⟩ = some (.float .f64 l[k].num) := (hcw _).trans <| (r1 (k * 4 + 3) (by omega)).trans (tkCells_at l k hlt 3 (by omega))
      have b0 : wr.cell? ⟨g2, k * 4, none⟩ = some (.int .u8 (l[k].kind : Int)) := (hcw _).trans <| (r2 (k * 4 + 0) (by omega)).trans (tkCells_at l k hlt 0 (by omega))
      have b1 : wr.cell? ⟨g2, k * 4 + 1, none⟩ = some (.int .i64 l[k].pos) := (hcw _).trans <| (r2 (k * 4 + 1) (by omega)).trans (tkCells_at l k hlt 1 (by omega))
      have b2 : wr.cell? ⟨g2, k * 4 + 2, none⟩ = some (.string l[k].text) := (hcw _).trans <| (r2 (k * 4 + 2) (by omega)).trans (tkCells_at l k hlt 2 (by omega))
      have b3 : wr.cell? ⟨g2, k * 4 + 3, none⟩ = some (.float .f64 l[k].num) := (hcw _).trans <| (r2 (k * 4 + 3) (by omega)).trans (tkCells_at l k hlt 3 (by omega))
      generalize l[k] = t at *
      have hf1 : (FloatKind.f64.format.order t.num t.num == some .eq) = true := by rw [hnum]; rfl
      have hf2 : (FloatKind.f64.format.order t.num t.num != some .eq) = false := by rw [hnum]; rfl
      have hki : (0 : Int) ≤ (k : Int) := by omega
      have hkl : (k : Int) < (l.length : Int) := by omega
      have HB := Lib.hid hbw
      have HC := Lib.hid hcw
      clear hnum r1 r2 h1 h2 hn H hbw hcw
      go_wp2_with (fail)
      go_quiet (fail)
      go_wp2
      go_roundw
      case rel => exact ⟨k + 1, by omega, by go_num, Lib.hid ⟨below_draw2 HB.out _, fun p => HC.out p⟩⟩
      case measure => simp [intOf]; omega
    · go_wp2
      go_ret
      exact ⟨rfl, hbw⟩
end Go.Proofs.YtjjbefebpilhdaaDoor.S
