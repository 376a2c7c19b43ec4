/-
  Two lists of tokens that hold the same are told to be the same: the document's own Same.
-/
import Derived.Test.YtgjpcoplnpkmoaaGreatDoorLexTokens
namespace Go.Proofs.YtgjpcoplnpkmoaaGreatDoor.S
open Go.RowKit Fl

/-- a slice at A reads as the tokens l -/
def RdT (w : World) (A : Option Addr) (l : List Tk) : Prop := 0 < l.length → ∃ g, A = some ⟨g, 0, none⟩ ∧ ∀ j, j < l.length * 4 → w.cell? ⟨g, j, none⟩ = (tkCells l)[j]?
theorem rd_of {B : Nat} {A : Option Addr} {n cap : Nat} {l : List Tk} {w0 w : World} (h : TB B (.slice A n cap) l w0 w) : RdT w A l := by
  intro hl
  have h0 := h.1
  rcases h.1.2 with ⟨_, h1⟩ | ⟨g, cap', cur, hv, hb, hh, _⟩
  · omega
  · injection hv with hA hn hc
    subst hA hn hc
    exact ⟨g, rfl, fun j hj => h0.cellAt j hj⟩
theorem tkCells_at (l : List Tk) : ∀ (k : Nat) (hk : k < l.length) (j : Nat), j < 4 → (tkCells l)[k * 4 + j]? = (tkC l[k])[j]? := by
  induction l with
  | nil => intro k hk; simp at hk
  | cons t r ih =>
    intro k hk j hj
    have e : tkCells (t :: r) = tkC t ++ tkCells r := by unfold tkCells; rw [List.flatMap_cons]
    rw [e]
    have hl : (tkC t).length = 4 := rfl
    cases k with
    | zero => rw [Nat.zero_mul, Nat.zero_add, List.getElem?_append_left (by omega)]; rfl
    | succ k =>
      rw [List.getElem?_append_right (by omega), hl, List.getElem_cons_succ]
      have e2 : (k + 1) * 4 + j - 4 = k * 4 + j := by omega
      rw [e2]
      exact ih k (by simpa using hk) j hj

end Go.Proofs.YtgjpcoplnpkmoaaGreatDoor.S
