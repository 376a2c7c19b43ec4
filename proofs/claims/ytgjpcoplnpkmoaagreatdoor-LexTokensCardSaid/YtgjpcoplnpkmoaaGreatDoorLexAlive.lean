/-
  What every statement of the chapter begins with: five tokens.
-/
import Derived.Test.YtgjpcoplnpkmoaaGreatDoorLexTokens
import Derived.Deep.RegionHeld3
namespace Go.Proofs.YtgjpcoplnpkmoaaGreatDoor.S
open Go.RowKit Fl

def aliveT : List Tk := [⟨2, 0, ⟨#[108, 101, 116]⟩, 0⟩, ⟨1, 4, ⟨#[120]⟩, 0⟩, ⟨5, 5, ⟨#[61]⟩, 0⟩, ⟨3, 6, ⟨#[]⟩, 4607182418800017408⟩, ⟨5, 7, ⟨#[59]⟩, 0⟩, ⟨0, 8, ⟨#[]⟩, 0⟩]
set_option maxRecDepth 100000 in
theorem alive_toks : toks [108, 101, 116, 32, 120, 61, 49, 59] = .ok aliveT := by
  kernel_rfl

theorem tb_cells {B : Nat} {v : Value} {l : List Tk} {w0 w : World} (h : TB B v l w0 w) (hl : 0 < l.length) :
    ∃ g cap, v = .slice (some ⟨g, 0, none⟩) l.length cap ∧ g < w.heap.size ∧ B ≤ g ∧ ∀ j, j < l.length * 4 → w.cell? ⟨g, j, none⟩ = (tkCells l)[j]? := by
  have h0 := h.1
  rcases h.1.2 with ⟨_, h1⟩ | ⟨g, cap, cur, rfl, hb, hh, _⟩
  · omega
  · exact ⟨g, cap, rfl, (h0.lt g rfl).2, hb, fun j hj => h0.cellAt j hj⟩

theorem eq_float (d : Nat) (a b : Nat) (w : World) : (Op.equalIn (d + 1) 23 (.float .f64 a) (.float .f64 b)).run Tryz.prog w = .ok (FloatKind.f64.format.order a b == some .eq) w := by
  simp [Op.equalIn, run_underlying Tryz.underlying23]; rfl
theorem eq_float0 (w : World) : (Op.equalIn 9999 23 (.float .f64 0) (.float .f64 0)).run Tryz.prog w = .ok true w := eq_float 9998 0 0 w
theorem eq_float1 (w : World) : (Op.equalIn 9999 23 (.float .f64 4607182418800017408) (.float .f64 4607182418800017408)).run Tryz.prog w = .ok true w := eq_float 9998 _ _ w
end Go.Proofs.YtgjpcoplnpkmoaaGreatDoor.S
