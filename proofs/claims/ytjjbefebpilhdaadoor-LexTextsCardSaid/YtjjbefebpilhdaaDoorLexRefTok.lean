/-
  The document's own token: walks.
-/
import Derived.Test.YtjjbefebpilhdaaDoorLexAmong
import Derived.Test.YtjjbefebpilhdaaDoorLexPiece4
import Derived.Test.YtjjbefebpilhdaaDoorTextLaws
import Derived.Test.YtjjbefebpilhdaaDoorStrPlainRef
namespace Go.Proofs.YtjjbefebpilhdaaDoor.S
open Go.RowKit Fl

def prN : PR → Nat → Int
  | .tok _ _ _ wd, i => ((i + wd : Nat) : Int)
  | .bad f, i => (i : Int) + f
def prB : PR → Bool
  | .tok _ _ _ _ => true
  | .bad _ => false
def prP : PR → Nat → Value
  | .tok k t n _, i => tkV k i t n
  | .bad _, _ => tkV 0 0 ⟨#[]⟩ 0
/-- what the document's own token tells of what stands at a place -/
def RefTokTo (r : PR) (i : Nat) (w : World) (e : Ending) (w' : World) : Prop := e = .returned (.tuple #[prP r i, .int .i64 (prN r i), .bool (prB r)]) ∧ Below w.heap.size w w'
theorem ref_ok {r : PR} {i : Nat} {v x y : Value} {w w' : World} (h1 : v = prP r i) (h2 : x = .int .i64 (prN r i)) (h3 : y = .bool (prB r)) (hb : Below w.heap.size w w') : RefTokTo r i w (.returned (.tuple #[v, x, y])) w' := ⟨by rw [h1, h2, h3], hb⟩

theorem ref_end {Q : Ending → World → Prop} {tmps : Array Value} {W : World} {g : Nat} {a p x : Int} {b : ByteArray} {c : Nat} {y : Bool}
    (h2 : tmps[4]?.getD undef = .pointer (some ⟨g, 0, none⟩)) (h3 : tmps[5]?.getD undef = .int .i64 x) (h4 : tmps[6]?.getD undef = .bool y)
    (hb : W.heap[g]? = some (.cells #[.int .u8 a, .int .i64 p, .string b, .float .f64 c] 28 (0, 0)))
    (hQ : Q (.returned (.tuple #[.agg #[.int .u8 a, .int .i64 p, .string b, .float .f64 c], .int .i64 x, .bool y])) W) :
    bodyPost Tryd.prog Tryd.f32 Q .ret { tmps := tmps, defers := [] } W := by
  have c0 : W.cell? ⟨g, 0, none⟩ = some (.int .u8 a) := blk_cell hb 0
  have c1 : W.cell? ⟨g, 1, none⟩ = some (.int .i64 p) := blk_cell hb 1
  have c2 : W.cell? ⟨g, 2, none⟩ = some (.string b) := blk_cell hb 2
  have c3 : W.cell? ⟨g, 3, none⟩ = some (.float .f64 c) := blk_cell hb 3
  clear hb
  refine bodyPost_ret (v := .tuple #[.agg #[.int .u8 a, .int .i64 p, .string b, .float .f64 c], .int .i64 x, .bool y]) ?_ rfl hQ
  simp [h2, h3, h4, c0, c1, c2, c3, results, Tryd.results32, go_sem]

theorem two_blk (w : World) (A B : Obj) : ((w.alloc A).alloc B).heap[w.heap.size]? = some A := by
  rw [Below.heap_alloc _ _ _ (by simp)]; exact heap_alloc_new w A
theorem two_below (w : World) (A B : Obj) : Below w.heap.size w ((w.alloc A).alloc B) := alloc_of (zero_alloc w A) (Nat.le_refl _) B

theorem ext_take (s : ByteArray) (i n : Nat) : s.extract i (i + n) = mkB ((s.data.toList.drop i).take n) := by
  rw [mkB_ext]
  have : i + n - i = n := by omega
  rw [this]

set_option maxHeartbeats 2000000 in
set_option maxRecDepth 1000000 in
theorem reftok_name (s : ByteArray) (i : Nat) (w : World) (hs : s.size ≤ 70000) (hi : i < s.size) (hc : iniB s[i] = true) :
    Calls Tryd.prog 32 #[.string s, .int .i64 (i : Int)] w (RefTokTo (nameL (s.data.toList.drop i)) i w) := by
  have k1 := fun w => reffirst_any s[i] w
  rw [hc] at k1
  have kn := fun w => named_any s i w hs (by omega)
  have hle := runL_le innB (s.data.toList.drop i)
  rw [List.length_drop, ← size_len] at hle
  unfold nameL
  have hx := ext_take s i (runL innB (s.data.toList.drop i))
  have kw := fun w => refWord_any (s.extract i (i + runL innB (s.data.toList.drop i))) w
  rw [hx, mkB_list, ← hx] at kw
  rw [← hx]
  clear hx hc
  generalize wordB ((s.data.toList.drop i).take (runL innB (s.data.toList.drop i))) = b at *
  generalize runL innB (s.data.toList.drop i) = n at *
  have e1 : ((i + n : Nat) : Int) = (i : Int) + (n : Int) := by omega
  rw [e1] at kn
  have hst := store_f
  by_cases hn : n > 4096
  · rw [if_pos hn]
    have hn' : (4096 : Int) < (i : Int) + (n : Int) - (i : Int) := by omega
    cases b
    all_goals
      go_enter Tryd.func32, Tryd.ntmps32
      go_wp2_with (first
        | (go_at_call 46; refine (k1 _).mono ?_; rintro e w1 ⟨rfl, rfl⟩)
        | (go_at_call 47; refine (kn _).mono ?_; rintro e w1 ⟨rfl, rfl⟩)
        | (go_at_call 18; refine (kw _).mono ?_; rintro e w1 ⟨rfl, rfl⟩))
      refine ref_end (a := 0) (p := 0) (b := ⟨#[]⟩) (c := 0) (x := (i : Int)) (y := false) rfl rfl rfl (two_blk _ _ _) (ref_ok rfl (by simp [prN]) rfl (two_below _ _ _))
  · rw [if_neg hn]
    have hn' : ¬ (4096 : Int) < (i : Int) + (n : Int) - (i : Int) := by omega
    cases b
    · skip
      go_enter Tryd.func32, Tryd.ntmps32
      go_wp2_with (first
        | (go_at_call 46; refine (k1 _).mono ?_; rintro e w1 ⟨rfl, rfl⟩)
        | (go_at_call 47; refine (kn _).mono ?_; rintro e w1 ⟨rfl, rfl⟩)
        | (go_at_call 18; refine (kw _).mono ?_; rintro e w1 ⟨rfl, rfl⟩))
      refine ref_end (a := 1) (p := (i : Int)) (b := s.extract i (i + n)) (c := 0) (x := (i : Int) + n) (y := true) rfl rfl rfl (two_blk _ _ _) (ref_ok rfl (by simp [prN]) rfl (two_below _ _ _))
    · skip
      go_enter Tryd.func32, Tryd.ntmps32
      go_wp2_with (first
        | (go_at_call 46; refine (k1 _).mono ?_; rintro e w1 ⟨rfl, rfl⟩)
        | (go_at_call 47; refine (kn _).mono ?_; rintro e w1 ⟨rfl, rfl⟩)
        | (go_at_call 18; refine (kw _).mono ?_; rintro e w1 ⟨rfl, rfl⟩))
      refine ref_end (a := 2) (p := (i : Int)) (b := s.extract i (i + n)) (c := 0) (x := (i : Int) + n) (y := true) rfl rfl rfl (two_blk _ _ _) (ref_ok rfl (by simp [prN]) rfl (two_below _ _ _))

theorem sign_1 (l : List UInt8) (j : Nat) (hj : 1 ≤ j) (h : signN l = j) : j ≤ l.length ∧ signB (l.take j) = true ∧ ∀ k, j < k → k ≤ 3 → ¬ (k ≤ l.length ∧ signB (l.take k) = true) := by
  unfold signN at h
  split at h
  · rename_i g; subst h; exact ⟨g.1, g.2, fun k h1 h2 => by omega⟩
  · rename_i g3
    split at h
    · rename_i g; subst h; exact ⟨g.1, g.2, fun k h1 h2 => by obtain rfl : k = 3 := by omega
                                                              exact g3⟩
    · rename_i g2
      split at h
      · rename_i g; subst h
        refine ⟨g.1, g.2, fun k h1 h2 => ?_⟩
        rcases (by omega : k = 2 ∨ k = 3) with rfl | rfl
        · exact g2
        · exact g3
      · omega
theorem sign_0 (l : List UInt8) (h : signN l = 0) : ∀ k, 0 < k → k ≤ 3 → ¬ (k ≤ l.length ∧ signB (l.take k) = true) := by
  intro k h1 h2
  unfold signN at h
  split at h
  · omega
  · rename_i g3
    split at h
    · omega
    · rename_i g2
      split at h
      · omega
      · rename_i g1
        rcases (by omega : k = 1 ∨ k = 2 ∨ k = 3) with rfl | rfl | rfl
        · exact g1
        · exact g2
        · exact g3
end Go.Proofs.YtjjbefebpilhdaaDoor.S
