/-
  What every statement of the chapter begins with: five tokens.
-/
import Derived.Test.YtgjpcoplnpkmoaaDoorLexTokens
import Derived.Deep.RegionHeld3
namespace Go.Proofs.YtgjpcoplnpkmoaaDoor.S
open Go.RowKit Fl

def aliveT : List Tk := [⟨2, 0, ⟨#[108, 101, 116]⟩, 0⟩, ⟨1, 4, ⟨#[120]⟩, 0⟩, ⟨5, 5, ⟨#[61]⟩, 0⟩, ⟨3, 6, ⟨#[]⟩, 4607182418800017408⟩, ⟨5, 7, ⟨#[59]⟩, 0⟩, ⟨0, 8, ⟨#[]⟩, 0⟩]
set_option maxRecDepth 100000 in
theorem alive_toks : toks [108, 101, 116, 32, 120, 61, 49, 59] = .ok aliveT := by
  kernel_rfl

theorem tb_cells {B : Nat} {v : Value} {l : List Tk} {w0 w : World} (h : TB B v l w0 w) (hl : 0 < l.length) :
    ∃ g cap, v = .slice (some ⟨g, 0, none⟩) l.length cap ∧ g < w.heap.size ∧ B ≤ g ∧ ∀ j, j < l.length * 4 → w.cell? ⟨g, j, none⟩ = (tkCells l)[j]? := by
  have h0 := h.1
  rcases h.1.2 with ⟨_, h1⟩ | ⟨g, cap, cur, rfl, hb, hh, _⟩
  · omega
  · exact ⟨g, cap, rfl, (h0.lt g rfl).2, hb, fun j hj => h0.cellAt j hj⟩

theorem token_any (k a : Int) (s : ByteArray) (w : World) : Calls Tryd.prog 22 #[.int .u8 k, .string s, .int .i64 a] w fun e w' => e = .returned (.agg #[.int .u8 k, .int .i64 a, .string s, .float .f64 0]) ∧ Below w.heap.size w w' := by
  have hst := store_f
  go_enter Tryd.func22, Tryd.ntmps22
  go_wp2
  refine bodyPost_ret (v := .agg #[.int .u8 k, .int .i64 a, .string s, .float .f64 0]) (by simp [results, Tryd.results22, go_sem]) rfl ⟨rfl, ?_⟩
  exact zero_alloc _ _

theorem eq_float (d : Nat) (a b : Nat) (w : World) : (Op.equalIn (d + 1) 26 (.float .f64 a) (.float .f64 b)).run Tryd.prog w = .ok (FloatKind.f64.format.order a b == some .eq) w := by
  simp [Op.equalIn, run_underlying Tryd.underlying26]; rfl
theorem eq_float0 (w : World) : (Op.equalIn 9999 26 (.float .f64 0) (.float .f64 0)).run Tryd.prog w = .ok true w := eq_float 9998 0 0 w
theorem eq_float1 (w : World) : (Op.equalIn 9999 26 (.float .f64 4607182418800017408) (.float .f64 4607182418800017408)).run Tryd.prog w = .ok true w := eq_float 9998 _ _ w
theorem token_keep (k a : Int) (s : ByteArray) (g : Nat) (w0 w : World) (hg : g < w.heap.size) (hb : Below w0.heap.size w0 w) : Calls Tryd.prog 22 #[.int .u8 k, .string s, .int .i64 a] w fun e w' => e = .returned (.agg #[.int .u8 k, .int .i64 a, .string s, .float .f64 0]) ∧ g < w'.heap.size ∧ Below w0.heap.size w0 w' ∧ ∀ o, w'.cell? ⟨g, o, none⟩ = w.cell? ⟨g, o, none⟩ :=
  (token_any k a s w).mono fun _ _ ⟨he, h⟩ => ⟨he, Nat.lt_of_lt_of_le hg h.size, hb.trans (h.mono hb.size), fun o => h.cell (p := ⟨g, o, none⟩) hg⟩

set_option maxHeartbeats 4000000 in
set_option maxRecDepth 1000000 in
theorem lexalive_any (w : World) : Calls Tryd.prog 10 #[] w fun e w' => e = .returned (.bool true) ∧ Below w.heap.size w w' := by
  have kt : ∀ w, Calls Tryd.prog 6 #[.string ⟨#[108, 101, 116, 32, 120, 61, 49, 59]⟩] w (fun e w' => ∃ v, e = .returned (.tuple #[v, .int .i64 0, .int .i64 0]) ∧ TB w.heap.size v aliveT w w') := fun w => by
    have := Tokens_any ⟨#[108, 101, 116, 32, 120, 61, 49, 59]⟩ (by decide) w
    rw [show (⟨#[108, 101, 116, 32, 120, 61, 49, 59]⟩ : ByteArray).data.toList = [108, 101, 116, 32, 120, 61, 49, 59] from rfl, alive_toks] at this
    exact this
  have f0 := eq_float0
  have f1 := eq_float1
  have kk := fun k a s g W => token_keep k a s g w W
  go_enter Tryd.func10, Tryd.ntmps10
  go_wp2_with (go_at_call 6; refine (kt _).mono ?_; rintro e w1 ⟨v, rfl, ht⟩; obtain ⟨g, cap, hv, hg, hbg, hcells⟩ := tb_cells ht (by decide); rw [show aliveT.length = 6 from rfl] at hv hcells; subst hv; have HT := Lib.hid ht; clear ht)
  clear kt
  have hd := HT.out.2.1.drew
  have c0 : w1.cell? ⟨g, 0, none⟩ = some (.int .u8 2) := hcells 0 (by decide)
  have c1 : w1.cell? ⟨g, 1, none⟩ = some (.int .i64 0) := hcells 1 (by decide)
  have c2 : w1.cell? ⟨g, 2, none⟩ = some (.string ⟨#[108, 101, 116]⟩) := hcells 2 (by decide)
  have c3 : w1.cell? ⟨g, 3, none⟩ = some (.float .f64 0) := hcells 3 (by decide)
  have c4 : w1.cell? ⟨g, 4, none⟩ = some (.int .u8 1) := hcells 4 (by decide)
  have c5 : w1.cell? ⟨g, 5, none⟩ = some (.int .i64 4) := hcells 5 (by decide)
  have c6 : w1.cell? ⟨g, 6, none⟩ = some (.string ⟨#[120]⟩) := hcells 6 (by decide)
  have c7 : w1.cell? ⟨g, 7, none⟩ = some (.float .f64 0) := hcells 7 (by decide)
  have c8 : w1.cell? ⟨g, 8, none⟩ = some (.int .u8 5) := hcells 8 (by decide)
  have c9 : w1.cell? ⟨g, 9, none⟩ = some (.int .i64 5) := hcells 9 (by decide)
  have c10 : w1.cell? ⟨g, 10, none⟩ = some (.string ⟨#[61]⟩) := hcells 10 (by decide)
  have c11 : w1.cell? ⟨g, 11, none⟩ = some (.float .f64 0) := hcells 11 (by decide)
  have c12 : w1.cell? ⟨g, 12, none⟩ = some (.int .u8 3) := hcells 12 (by decide)
  have c13 : w1.cell? ⟨g, 13, none⟩ = some (.int .i64 6) := hcells 13 (by decide)
  have c14 : w1.cell? ⟨g, 14, none⟩ = some (.string ⟨#[]⟩) := hcells 14 (by decide)
  have c15 : w1.cell? ⟨g, 15, none⟩ = some (.float .f64 4607182418800017408) := hcells 15 (by decide)
  have c16 : w1.cell? ⟨g, 16, none⟩ = some (.int .u8 5) := hcells 16 (by decide)
  have c17 : w1.cell? ⟨g, 17, none⟩ = some (.int .i64 7) := hcells 17 (by decide)
  have c18 : w1.cell? ⟨g, 18, none⟩ = some (.string ⟨#[59]⟩) := hcells 18 (by decide)
  have c19 : w1.cell? ⟨g, 19, none⟩ = some (.float .f64 0) := hcells 19 (by decide)
  have c20 : w1.cell? ⟨g, 20, none⟩ = some (.int .u8 0) := hcells 20 (by decide)
  have c21 : w1.cell? ⟨g, 21, none⟩ = some (.int .i64 8) := hcells 21 (by decide)
  have c22 : w1.cell? ⟨g, 22, none⟩ = some (.string ⟨#[]⟩) := hcells 22 (by decide)
  have c23 : w1.cell? ⟨g, 23, none⟩ = some (.float .f64 0) := hcells 23 (by decide)
  clear hcells
  go_region_held3 (fun w' => g < w'.heap.size ∧ Below w.heap.size w w' ∧ w'.cell? ⟨g, 0, none⟩ = some (.int .u8 2) ∧ w'.cell? ⟨g, 1, none⟩ = some (.int .i64 0) ∧ w'.cell? ⟨g, 2, none⟩ = some (.string ⟨#[108, 101, 116]⟩) ∧ w'.cell? ⟨g, 3, none⟩ = some (.float .f64 0) ∧ w'.cell? ⟨g, 4, none⟩ = some (.int .u8 1) ∧ w'.cell? ⟨g, 5, none⟩ = some (.int .i64 4) ∧ w'.cell? ⟨g, 6, none⟩ = some (.string ⟨#[120]⟩) ∧ w'.cell? ⟨g, 7, none⟩ = some (.float .f64 0) ∧ w'.cell? ⟨g, 8, none⟩ = some (.int .u8 5) ∧ w'.cell? ⟨g, 9, none⟩ = some (.int .i64 5) ∧ w'.cell? ⟨g, 10, none⟩ = some (.string ⟨#[61]⟩) ∧ w'.cell? ⟨g, 11, none⟩ = some (.float .f64 0) ∧ w'.cell? ⟨g, 12, none⟩ = some (.int .u8 3) ∧ w'.cell? ⟨g, 13, none⟩ = some (.int .i64 6) ∧ w'.cell? ⟨g, 14, none⟩ = some (.string ⟨#[]⟩) ∧ w'.cell? ⟨g, 15, none⟩ = some (.float .f64 4607182418800017408) ∧ w'.cell? ⟨g, 16, none⟩ = some (.int .u8 5) ∧ w'.cell? ⟨g, 17, none⟩ = some (.int .i64 7) ∧ w'.cell? ⟨g, 18, none⟩ = some (.string ⟨#[59]⟩) ∧ w'.cell? ⟨g, 19, none⟩ = some (.float .f64 0) ∧ w'.cell? ⟨g, 20, none⟩ = some (.int .u8 0) ∧ w'.cell? ⟨g, 21, none⟩ = some (.int .i64 8) ∧ w'.cell? ⟨g, 22, none⟩ = some (.string ⟨#[]⟩) ∧ w'.cell? ⟨g, 23, none⟩ = some (.float .f64 0)) (first | exact ⟨hg, hd, c0, c1, c2, c3, c4, c5, c6, c7, c8, c9, c10, c11, c12, c13, c14, c15, c16, c17, c18, c19, c20, c21, c22, c23⟩ | go_keep)
    (first | (go_at_call 22; refine (kk _ _ _ g _ ?_ ?_).mono ?_; (simp [*]); (simp [*]); rintro e w' ⟨rfl, hb1, hb2, hb3⟩))
  go_wp2
  go_ret
  exact ⟨rfl, by assumption⟩
end Go.Proofs.YtgjpcoplnpkmoaaDoor.S
