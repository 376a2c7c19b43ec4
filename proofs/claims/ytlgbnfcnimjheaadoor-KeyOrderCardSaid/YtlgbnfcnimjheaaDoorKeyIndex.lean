/-
  Keys: which are indices; key.Of, symbol, Number, Index, rank: walks.
-/
import Derived.Test.YtlgbnfcnimjheaaDoorTextRead
import Derived.Test.YtlgbnfcnimjheaaDoorTextLaws
import Derived.Test.YtlgbnfcnimjheaaDoorValNew
import Derived.Test.YtlgbnfcnimjheaaDoorValShelf
import Derived.Lib.ItoaLen
namespace Go.Proofs.YtlgbnfcnimjheaaDoor.S
open Go.RowKit Fl

/-- the number that a text is the index of -/
def idxO (s : ByteArray) : Option Nat := match readR s.data.toList with
  | .ok n => if 0 ≤ n ∧ n < 1024 ∧ s.data.toList = Lib.itoa n then some n.toNat else none
  | _ => none
/-- .. and a key -/
def ixK (s : ByteArray) (y : Int) : Option Nat := if y ≤ 0 then idxO s else none
/-- a key's rank in the order -/
def rkO (o : Option Nat) (y : Int) : Nat := match o with
  | some n => n
  | none => if y ≤ 0 then 1024 else 1025
def rkK (s : ByteArray) (y : Int) : Nat := rkO (ixK s y) y
theorem idxO_lt {s : ByteArray} {n : Nat} (h : idxO s = some n) : n < 1024 ∧ s.data.toList = Lib.itoa (n : Int) := by
  unfold idxO at h
  split at h
  · split at h
    · rename_i m _ hc
      cases h
      refine ⟨by omega, ?_⟩
      rw [show ((m.toNat : Nat) : Int) = m by omega]; exact hc.2.2
    · cases h
  · cases h
theorem ixK_lt {s : ByteArray} {y : Int} {n : Nat} (h : ixK s y = some n) : n < 1024 ∧ s.data.toList = Lib.itoa (n : Int) ∧ y ≤ 0 := by
  unfold ixK at h
  split at h
  · exact ⟨(idxO_lt h).1, (idxO_lt h).2, by assumption⟩
  · cases h
theorem digR_err {neg : Bool} {l : List UInt8} {j : Int} (h : digR neg l = .err j) : j = 10 := by
  unfold digR at h
  split at h
  · cases h
  · split at h
    · cases h; rfl
    · split at h
      · cases h; rfl
      · cases h
theorem bareR_err {l : List UInt8} {j : Int} (h : bareR l = .err j) : j = 10 := by
  cases l with
  | nil => rw [show bareR [] = .ok 0 from rfl] at h; cases h
  | cons c r =>
    rw [bareR_cons] at h
    split at h
    · exact digR_err h
    · split at h
      · exact digR_err h
      · exact digR_err h

theorem keyOf_k (s : ByteArray) (w : World) : Calls Tryd.prog 86 #[.string s] w fun e w' => e = .returned (.agg #[.string s, .int .i64 0]) ∧ Below w.heap.size w w' := by
  go_enter Tryd.func86, Tryd.ntmps86
  go_wp2
  refine bodyPost_ret (v := .agg #[.string s, .int .i64 0]) (by simp [results, Tryd.results86, go_sem]) rfl ⟨rfl, ?_⟩
  exact vzero _ _
theorem keysymbol_k (s : ByteArray) (y : Int) (w : World) : Calls Tryd.prog 37 #[.agg #[.string s, .int .i64 y]] w fun e w' => e = .returned (.bool (decide (0 < y))) ∧ Below w.heap.size w w' := by
  go_enter Tryd.func37, Tryd.ntmps37
  go_wp2
  go_ret
  exact ⟨rfl, vzero _ _⟩
theorem Itoa_k (n : Int) (h0 : -9223372036854775808 ≤ n) (h1 : n ≤ 9223372036854775807) (w : World) (htab : Lib.TabIs Tryd.prog w "internal/strconv.uint64pow10" .u64 Lib.pow10Tab) : Calls Tryd.prog 52 #[.int .i64 n] w fun e w' => e = .returned (.string ⟨(Lib.itoa n).toArray⟩) ∧ Below w.heap.size w w' :=
  (Tryd.strconv_Itoa n h0 h1 w htab).mono fun e w' ⟨he, k, os, hw⟩ => ⟨he, by rw [hw]; exact grow_below w k os⟩
/-- a key's two cells, set in a block of the call's own -/
theorem kset2 {w : World} {g : Nat} {t : TypeId} {c0 c1 : Value} (h : w.heap[g]? = some (.cells #[c0, c1] t (0, 0))) (a b : Value) :
    ((w.setCell ⟨g, 0, none⟩ a).setCell ⟨g, 1, none⟩ b).heap[g]? = some (.cells #[a, b] t (0, 0)) := vset1 (vset1 h 0 a) 1 b
theorem kbel2 {B g : Nat} {w0 w : World} (h : Below B w0 w) (hg : B ≤ g) (a b : Value) : Below B w0 ((w.setCell ⟨g, 0, none⟩ a).setCell ⟨g, 1, none⟩ b) :=
  (h.setCell (p := ⟨g, 0, none⟩) hg a).setCell (p := ⟨g, 1, none⟩) hg b
theorem kc2 {w : World} {g : Nat} {t : TypeId} {c0 c1 : Value} (h : w.heap[g]? = some (.cells #[c0, c1] t (0, 0))) :
    w.cell? ⟨g, 0, none⟩ = some c0 ∧ w.cell? ⟨g, 1, none⟩ = some c1 ∧ ∀ i, w.frozen? ⟨g, i, none⟩ = false := ⟨vcells h 0, vcells h 1, vfz h⟩
/-- a function whose one result is a key in a block of its own -/
theorem key_end {f : Func} {i : Nat} {t : TypeId} {Q : Ending → World → Prop} {tmps : Array Value} {W : World} {g : Nat} {s : ByteArray} {r : Int} (hf : f.results = #[.cell i 24])
    (h2 : tmps[i]?.getD undef = .pointer (some ⟨g, 0, none⟩)) (hb : W.heap[g]? = some (.cells #[.string s, .int .i64 r] t (0, 0))) (hQ : Q (.returned (.agg #[.string s, .int .i64 r])) W) :
    bodyPost Tryd.prog f Q .ret { tmps := tmps, defers := [] } W := by
  have c0 : W.cell? ⟨g, 0, none⟩ = some (.string s) := vcells hb 0
  have c1 : W.cell? ⟨g, 1, none⟩ = some (.int .i64 r) := vcells hb 1
  clear hb
  refine bodyPost_ret (v := .agg #[.string s, .int .i64 r]) ?_ rfl hQ
  simp [h2, c0, c1, results, hf, go_sem]
theorem Number_k (n : Int) (h0 : -9223372036854775808 ≤ n) (h1 : n ≤ 9223372036854775807) (w : World) (htab : TabHere w) : Calls Tryd.prog 58 #[.int .i64 n] w fun e w' => e = .returned (.agg #[.string ⟨(Lib.itoa n).toArray⟩, .int .i64 0]) ∧ Below w.heap.size w w' := by
  have hI := fun w ht => Itoa_k n h0 h1 w ht
  have hO := fun w => keyOf_k ⟨(Lib.itoa n).toArray⟩ w
  generalize (⟨(Lib.itoa n).toArray⟩ : ByteArray) = t at *
  have HTAB := Lib.hid htab
  clear h0 h1 htab
  go_enter Tryd.func58, Tryd.ntmps58
  go_wp2_with (first
    | (go_at_call 52; refine (hI _ (HTAB.out _ (vzero _ _))).mono ?_; rintro e w1 ⟨rfl, h1⟩; have hb1 := vblk1 h1; have hz1 := vlt1 h1; have H1 := Lib.hid h1; clear h1)
    | (go_at_call 86; refine (hO _).mono ?_; rintro e w2 ⟨rfl, h2⟩; have hb2 := vblkn h2 hb1; have hz2 := vltn h2 hz1; obtain ⟨hc0, hc1, hfr⟩ := kc2 hb2; have HB2 := Lib.hid hb2; clear hb1 hb2; have H2 := Lib.hid h2; clear h2))
  refine key_end (g := w.heap.size) Tryd.results58 rfl (kset2 HB2.out _ _) ⟨rfl, ?_⟩
  exact kbel2 (vb (vafter H1.out) H2.out) (Nat.le_refl _) _ _
end Go.Proofs.YtlgbnfcnimjheaaDoor.S
