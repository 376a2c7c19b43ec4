/-
  What a text begins with: a name, a sign: walks of package lex.
-/
import Derived.Test.YtgjpcoplnpkmoaaGreatDoorLexSign
import Derived.Test.YtgjpcoplnpkmoaaGreatDoorLexClose
namespace Go.Proofs.YtgjpcoplnpkmoaaGreatDoor.S
open Go.RowKit Fl

theorem Clone_any (s : ByteArray) (w : World) (hs : s.size ≤ 281474976710656) :
    Calls Tryz.prog 69 #[.string s] w fun e w' => e = .returned (.string s) ∧ Below w.heap.size w w' := by
  have k := fun w => Tryz.stringslite_Clone s w hs
  go_enter Tryz.func69, Tryz.ntmps69
  go_wp2_with (go_at_call 101; refine (k _).mono ?_; rintro e w1 ⟨rfl, h1⟩)
  go_ret
  exact ⟨rfl, h1⟩

theorem bcell {W w1 : World} {B : Nat} (hb : Below B W w1) : (∀ b o, b < B → w1.cell? ⟨b, o, none⟩ = W.cell? ⟨b, o, none⟩) ∧ (∀ b o, b < B → w1.frozen? ⟨b, o, none⟩ = W.frozen? ⟨b, o, none⟩) :=
  ⟨fun b o h => hb.cell (p := ⟨b, o, none⟩) h, fun b o h => hb.frozen (p := ⟨b, o, none⟩) h⟩

/-- a store of a float into a cell (the walk has no law of its own for it) -/
theorem store_f (a : Addr) (x : Nat) (m : Mode) (w : World) : (store a (.float .f64 x) m).run Tryz.prog w = stored Tryz.prog w a (.float .f64 x) m := run_store Tryz.prog w a _ m rfl

def tkV (k : Nat) (a : Int) (t : ByteArray) (n : Nat) : Value := .agg #[.int .u8 (k : Int), .int .i64 a, .string t, .float .f64 n]
def prT : PR → Value
  | .tok k t n _ => tkV k 0 t n
  | .bad _ => tkV 0 0 ⟨#[]⟩ 0
def prW : PR → Int
  | .tok _ _ _ wd => (wd : Int)
  | .bad _ => 0
def prF : PR → Int
  | .tok _ _ _ _ => 0
  | .bad f => f
def Piece2To (r : PR) (w : World) (e : Ending) (w' : World) : Prop := e = .returned (.tuple #[prT r, .int .i64 (prW r)]) ∧ Below w.heap.size w w'
def Piece3To (r : PR) (w : World) (e : Ending) (w' : World) : Prop := e = .returned (.tuple #[prT r, .int .i64 (prW r), .int .i64 (prF r)]) ∧ Below w.heap.size w w'

theorem set4 {B g : Nat} {w0 w : World} (h : Below B w0 w) (hg : B ≤ g) (a b c d : Value) :
    Below B w0 ((((w.setCell ⟨g, 0, none⟩ a).setCell ⟨g, 1, none⟩ b).setCell ⟨g, 2, none⟩ c).setCell ⟨g, 3, none⟩ d) :=
  (((h.setCell (p := ⟨g, 0, none⟩) hg a).setCell (p := ⟨g, 1, none⟩) hg b).setCell (p := ⟨g, 2, none⟩) hg c).setCell (p := ⟨g, 3, none⟩) hg d
theorem after_alloc {w w1 : World} {o : Obj} (h : Below (w.alloc o).heap.size (w.alloc o) w1) : Below w.heap.size w w1 := ((Below.refl _ _).alloc (Nat.le_refl _) o).trans (h.mono (by simp))
theorem alloc_of {B : Nat} {w0 w : World} (h : Below B w0 w) (hB : B ≤ w0.heap.size) (o : Obj) : Below B w0 (w.alloc o) := h.alloc (Nat.le_trans hB h.size) o
theorem piece2_ok {r : PR} {v x : Value} {w w' : World} (h1 : v = prT r) (h2 : x = .int .i64 (prW r)) (hb : Below w.heap.size w w') : Piece2To r w (.returned (.tuple #[v, x])) w' := ⟨by rw [h1, h2], hb⟩
theorem piece3_ok {r : PR} {v x y : Value} {w w' : World} (h1 : v = prT r) (h2 : x = .int .i64 (prW r)) (h3 : y = .int .i64 (prF r)) (hb : Below w.heap.size w w') : Piece3To r w (.returned (.tuple #[v, x, y])) w' := ⟨by rw [h1, h2, h3], hb⟩

theorem take_ext (s : ByteArray) (n : Nat) : s.extract 0 n = mkB (s.data.toList.take n) := by rw [mkB_ext]; rfl

set_option maxHeartbeats 1000000 in
theorem name_any (s : ByteArray) (hs : s.size ≤ 9223372036854775807) (w : World) : Calls Tryz.prog 91 #[.string s] w (Piece2To (nameL s.data.toList) w) := by
  have kr := fun w => run_inner s w (by unfold maxLen; omega)
  have hle := runL_le innB s.data.toList
  rw [← size_len] at hle
  unfold nameL
  have hx := take_ext s (runL innB s.data.toList)
  have hl : (s.extract 0 (runL innB s.data.toList)).data.toList = s.data.toList.take (runL innB s.data.toList) := by rw [hx, mkB_list]
  have kw := fun w => lexWord_any (s.extract 0 (runL innB s.data.toList)) w
  rw [hl] at kw
  rw [← hx]
  clear hx hl
  generalize wordB (s.data.toList.take (runL innB s.data.toList)) = b at *
  generalize runL innB s.data.toList = n at *
  have kc := fun (hn : ¬ n > 4096) w => Clone_any (s.extract 0 n) w (by simp; omega)
  by_cases hn : n > 4096
  · rw [if_pos hn]
    clear kc kw
    have hst := store_f
    go_enter Tryz.func91, Tryz.ntmps91
    go_wp2_with (go_at_call 119; refine (kr _).mono ?_; rintro e w1 ⟨rfl, rfl⟩)
    refine bodyPost_ret (v := .tuple #[tkV 0 0 ⟨#[]⟩ 0, .int .i64 0]) (by simp [tkV, results, Tryz.results91, go_sem]) rfl (piece2_ok rfl rfl ?_)
    exact (Below.refl _ _).alloc (Nat.le_refl _) _
  · rw [if_neg hn]
    have kc := kc hn
    cases b
    all_goals
      have hst := store_f
      go_enter Tryz.func91, Tryz.ntmps91
      go_wp2_with (first
        | (go_at_call 119; refine (kr _).mono ?_; rintro e w1 ⟨rfl, rfl⟩)
        | (go_at_call 69; refine (kc _).mono ?_; rintro e w1 ⟨rfl, h1⟩; obtain ⟨hc, hf⟩ := bcell h1; have hz : w.heap.size < w1.heap.size := by have := h1.size; simp at this; omega)
        | (go_at_call 121; refine (kw _).mono ?_; rintro e w1 ⟨rfl, rfl⟩))
    · refine bodyPost_ret (v := .tuple #[tkV 1 0 (s.extract 0 n) 0, .int .i64 n]) (by simp [tkV, hc, hz, results, Tryz.results91, go_sem]) rfl (piece2_ok rfl rfl ?_)
      exact alloc_of (set4 (after_alloc h1) (Nat.le_refl _) _ _ _ _) (Nat.le_refl _) _
    · refine bodyPost_ret (v := .tuple #[tkV 2 0 (s.extract 0 n) 0, .int .i64 n]) (by simp [tkV, hc, hz, results, Tryz.results91, go_sem]) rfl (piece2_ok rfl rfl ?_)
      exact alloc_of (set4 (after_alloc h1) (Nat.le_refl _) _ _ _ _) (Nat.le_refl _) _
end Go.Proofs.YtgjpcoplnpkmoaaGreatDoor.S
