/-
  The law DescStays where the property may not become so: its walk; alive. Generated: gen_desclaw2.py.
-/
import Derived.Test.YtlgbnfcnimjheaaDoorDN08
import Derived.Test.YtlgbnfcnimjheaaDoorDN02
import Derived.Test.YtlgbnfcnimjheaaDoorDN05
import Derived.Test.YtlgbnfcnimjheaaDoorDN06
namespace Go.Proofs.YtlgbnfcnimjheaaDoor.S
open Go.RowKit Fl

/-- the law's own: a value made complete -/
theorem descalive_any (w : World) : Calls Tryd.prog 15 #[] w fun e w' => e = .returned (.bool true) ∧ Below w.heap.size w w' := by
  have hv := fun w => Num_v 4607182418800017408 w
  let d1 : Dq := ⟨1, ⟨3, 4607182418800017408, ⟨#[]⟩, 0⟩, v0, v0, false, false, false⟩
  have hi : d1.In := ⟨by decide, by decide, ⟨by decide, by decide, by decide, by decide⟩, ok_in v0_ok, ok_in v0_ok⟩
  have h1 : Is (.ours 1) 4607182418800017408 := ⟨by decide, by unfold SafeN; omega⟩
  have hg : Good d1 := ⟨by decide, ⟨.num 4607182418800017408, ⟨_, h1, rfl⟩, rfl, rfl, rfl, rfl⟩, fun h => absurd h (by decide), fun h => absurd h (by decide), fun _ => v0_z, fun h => absurd h (by decide), fun _ => v0_z, fun _ => rfl, fun _ => rfl, fun _ => rfl⟩
  have hc : ∀ w, Calls Tryd.prog 35 #[.agg #[.int .u8 1, .int .u8 3, .float .f64 4607182418800017408, .string ⟨#[]⟩, .int .i64 0, .int .u8 0, .float .f64 0, .string ⟨#[]⟩, .int .i64 0, .int .u8 0, .float .f64 0, .string ⟨#[]⟩, .int .i64 0, .bool false, .bool false, .bool false]] w fun e w' => e = .returned (.tuple #[.agg #[.int .u8 51, .int .u8 3, .float .f64 4607182418800017408, .string ⟨#[]⟩, .int .i64 0, .int .u8 0, .float .f64 0, .string ⟨#[]⟩, .int .i64 0, .int .u8 0, .float .f64 0, .string ⟨#[]⟩, .int .i64 0, .bool false, .bool false, .bool false], .int .i64 0]) ∧ Below w.heap.size w w' := fun w => by
    have := Complete_q hi hg w
    rw [show completeQ d1 = ⟨51, ⟨3, 4607182418800017408, ⟨#[]⟩, 0⟩, v0, v0, false, false, false⟩ by kernel_rfl] at this
    exact this
  go_enter Tryd.func15, Tryd.ntmps15
  go_upto_region 2 with (first | (go_at_call 8; (with_reducible refine (hv _).mono ?_); rintro e w1 ⟨rfl, h1⟩) | (go_at_call 35; (with_reducible refine (hc _).mono ?_); rintro e w2 ⟨rfl, h2⟩) | ((with_reducible refine d_store rfl rfl rfl rfl (heap_alloc_new _ _) ?_ ?_ ?_); (rfl); (rfl)))
  have hB := vb h1 h2
  have b3 := made_row (w := w2) (o := .cells #[.int .u8 0, .int .u8 0, .float .f64 0, .string ⟨#[]⟩, .int .i64 0, .int .u8 0, .float .f64 0, .string ⟨#[]⟩, .int .i64 0, .int .u8 0, .float .f64 0, .string ⟨#[]⟩, .int .i64 0, .bool false, .bool false, .bool false] 33) (cs2 := #[.int .u8 51, .int .u8 3, .float .f64 4607182418800017408, .string ⟨#[]⟩, .int .i64 0, .int .u8 0, .float .f64 0, .string ⟨#[]⟩, .int .i64 0, .int .u8 0, .float .f64 0, .string ⟨#[]⟩, .int .i64 0, .bool false, .bool false, .bool false]) rfl
  have hB3 := made_below (o := .cells #[.int .u8 0, .int .u8 0, .float .f64 0, .string ⟨#[]⟩, .int .i64 0, .int .u8 0, .float .f64 0, .string ⟨#[]⟩, .int .i64 0, .int .u8 0, .float .f64 0, .string ⟨#[]⟩, .int .i64 0, .bool false, .bool false, .bool false] 33) (cs2 := #[.int .u8 51, .int .u8 3, .float .f64 4607182418800017408, .string ⟨#[]⟩, .int .i64 0, .int .u8 0, .float .f64 0, .string ⟨#[]⟩, .int .i64 0, .int .u8 0, .float .f64 0, .string ⟨#[]⟩, .int .i64 0, .bool false, .bool false, .bool false]) hB hB.size
  have e0 := vcells b3 0
  have e2 := vcells b3 2
  have e13 := vcells b3 13
  have hf : (FloatKind.f64.format.order 4607182418800017408 4607182418800017408 == some .eq) = true := by decide
  clear hc hv hi hg
  go_wp2
  go_ret
  exact ⟨rfl, hB3⟩
end Go.Proofs.YtlgbnfcnimjheaaDoor.S
/-
  Descriptors: Text, of the usual one of 1 and of none.
-/
namespace Go.Proofs.YtlgbnfcnimjheaaDoor.S
open Go.RowKit Fl

/-- Text's own: the descriptor in its box, the row of fields told so far -/
def TS (w0 : World) (C : Array Value) (xs : List ByteArray) (w : World) : Prop := w.heap[w0.heap.size]? = some (.cells C 33 (0, 0)) ∧ ∃ v, w.heap[w0.heap.size + 1]? = some (.cells #[v] 59 (0, 0)) ∧ SS (w0.heap.size + 2) v xs w ∧ Below w0.heap.size w0 w
theorem ts_up {w0 w w1 : World} {C : Array Value} {xs : List ByteArray} (h : TS w0 C xs w) (g : Below w.heap.size w w1) : TS w0 C xs w1 := by
  obtain ⟨b1, v, b2, hv, hb⟩ := h
  exact ⟨vblkn g b1, v, vblkn g b2, ss_up hv g, vb hb g⟩
theorem ts_tab {w0 w : World} {C : Array Value} {xs : List ByteArray} (h : TS w0 C xs w) (ht : TabHere w0) : TabHere w := by
  obtain ⟨_, _, _, _, hb⟩ := h
  exact tab_up ht hb
section
variable {w0 : World} {m h : Int} {wd tx : ByteArray} {ka : Int} {xa : Nat} {sa : ByteArray} {ra : Int} {kb : Int} {xb : Nat} {sb : ByteArray} {rb : Int} {kc : Int} {xc : Nat} {sc : ByteArray} {rc : Int} {p q z : Bool} {xs : List ByteArray}
theorem ts_yes (hm : hasB h m = true) (h1 : wd.size ≤ 100) (h2 : tx.size ≤ 100) (h3 : xs.length ≤ 50) (w : World) (hS : TS w0 #[.int .u8 h, .int .u8 ka, .float .f64 xa, .string sa, .int .i64 ra, .int .u8 kb, .float .f64 xb, .string sb, .int .i64 rb, .int .u8 kc, .float .f64 xc, .string sc, .int .i64 rc, .bool p, .bool q, .bool z] xs w) :
    Calls Tryd.prog 31 #[.int .u8 m, .string wd, .string tx, .pointer (some ⟨w0.heap.size, 0, none⟩), .pointer (some ⟨w0.heap.size + 1, 0, none⟩)] w fun e w' => e = .returned (.tuple #[]) ∧ TS w0 #[.int .u8 h, .int .u8 ka, .float .f64 xa, .string sa, .int .i64 ra, .int .u8 kb, .float .f64 xb, .string sb, .int .i64 rb, .int .u8 kc, .float .f64 xc, .string sc, .int .i64 rc, .bool p, .bool q, .bool z] (xs ++ [wd ++ ⟨#[32]⟩ ++ tx]) w' := by
  obtain ⟨b1, v, b2, hv, hb⟩ := hS
  refine (tell_yes (N := w0.heap.size) w0 w b1 b2 hv hb (by omega) (by omega) (by omega) (by omega) h3 h1 h2 hm).mono ?_
  rintro e w' ⟨rfl, v', c2, c1, hv', hb'⟩
  exact ⟨rfl, c1, v', c2, hv', hb'⟩
theorem ts_no (hm : hasB h m = false) (w : World) (hS : TS w0 #[.int .u8 h, .int .u8 ka, .float .f64 xa, .string sa, .int .i64 ra, .int .u8 kb, .float .f64 xb, .string sb, .int .i64 rb, .int .u8 kc, .float .f64 xc, .string sc, .int .i64 rc, .bool p, .bool q, .bool z] xs w) :
    Calls Tryd.prog 31 #[.int .u8 m, .string wd, .string tx, .pointer (some ⟨w0.heap.size, 0, none⟩), .pointer (some ⟨w0.heap.size + 1, 0, none⟩)] w fun e w' => e = .returned (.tuple #[]) ∧ TS w0 #[.int .u8 h, .int .u8 ka, .float .f64 xa, .string sa, .int .i64 ra, .int .u8 kb, .float .f64 xb, .string sb, .int .i64 rb, .int .u8 kc, .float .f64 xc, .string sc, .int .i64 rc, .bool p, .bool q, .bool z] xs w' :=
  (tell_no w hS.1 hm).mono fun _ _ ⟨he, hb⟩ => ⟨he, ts_up hS hb⟩
end
theorem txt_und (w : World) (htab : TabHere w) : Calls Tryd.prog 32 #[.agg #[.int .u8 0, .float .f64 0, .string ⟨#[]⟩, .int .i64 0]] w fun e w' => e = .returned (.string (⟨#[117, 110, 100, 101, 102, 105, 110, 101, 100]⟩ : ByteArray)) ∧ Below w.heap.size w w' :=
  (Text_v (v := .und) trivial w htab).mono fun e w' ⟨t, he, ht, hb⟩ => ⟨by
    have ht : t.data.toList = _ := ht
    rw [he]; congr 2; exact bytes_ext ht, hb⟩
theorem txt_one (w : World) (htab : TabHere w) : Calls Tryd.prog 32 #[.agg #[.int .u8 3, .float .f64 4607182418800017408, .string ⟨#[]⟩, .int .i64 0]] w fun e w' => e = .returned (.string (⟨#[49]⟩ : ByteArray)) ∧ Below w.heap.size w w' := by
  have h1 : Is (.ours 1) 4607182418800017408 := ⟨by decide, by unfold SafeN; omega⟩
  refine (Text_v (v := .num 4607182418800017408) ⟨_, h1, rfl⟩ w htab).mono fun e w' ⟨t, he, ht, hb⟩ => ⟨?_, hb⟩
  obtain ⟨c, hc, hm, ht⟩ := ht
  obtain ⟨o, ho, hw⟩ := nv_cls hc hm
  obtain ⟨o1, ho1, hw1⟩ := nv_cls h1 rfl
  have e1 : o1 = some 1 := by
    rcases hw1 with ⟨h, _⟩ | ⟨n, h, g⟩
    · cases h
    · cases h; exact g
  have e2 : o = some 1 := (nv_fun ho ho1).trans e1
  have e3 : c = .ours 1 := by
    rcases hw with ⟨_, g⟩ | ⟨n, h, g⟩
    · rw [e2] at g; cases g
    · rw [e2] at g; cases g; exact h
  subst e3
  have e4 : textL (.ours 1) = [49] := by kernel_rfl
  rw [e4] at ht
  rw [he]; congr 2; exact bytes_ext ht
theorem answer_c (b : Bool) (w : World) : Calls Tryd.prog 33 #[.bool b] w fun e w' => e = .returned (.string (bif b then (⟨#[121, 101, 115]⟩ : ByteArray) else (⟨#[110, 111]⟩ : ByteArray))) ∧ w = w' := by
  cases b
  all_goals
    go_enter Tryd.func33, Tryd.ntmps33
    go_wp2
    go_ret
    exact ⟨rfl, rfl⟩
theorem answer_t (w : World) : Calls Tryd.prog 33 #[.bool true] w fun e w' => e = .returned (.string (⟨#[121, 101, 115]⟩ : ByteArray)) ∧ w = w' := answer_c true w
theorem answer_f (w : World) : Calls Tryd.prog 33 #[.bool false] w fun e w' => e = .returned (.string (⟨#[110, 111]⟩ : ByteArray)) ∧ w = w' := answer_c false w
theorem Data_c (ka : Int) (xa : Nat) (sa : ByteArray) (ra : Int) (w : World) : Calls Tryd.prog 12 #[.agg #[.int .u8 ka, .float .f64 xa, .string sa, .int .i64 ra]] w fun e w' => e = .returned (.agg #[.int .u8 51, .int .u8 ka, .float .f64 xa, .string sa, .int .i64 ra, .int .u8 0, .float .f64 0, .string ⟨#[]⟩, .int .i64 0, .int .u8 0, .float .f64 0, .string ⟨#[]⟩, .int .i64 0, .bool true, .bool true, .bool true]) ∧ Below w.heap.size w w' := by
  have hst := vstore
  have hB0 : Below w.heap.size w ((w.alloc (.cells #[.int .u8 ka, .float .f64 xa, .string sa, .int .i64 ra] 30)).alloc (.cells #[.int .u8 0, .int .u8 0, .float .f64 0, .string ⟨#[]⟩, .int .i64 0, .int .u8 0, .float .f64 0, .string ⟨#[]⟩, .int .i64 0, .int .u8 0, .float .f64 0, .string ⟨#[]⟩, .int .i64 0, .bool false, .bool false, .bool false] 33)) := vafter (vzero _ _)
  obtain ⟨b1, b2⟩ := vblk2 (w := w) (Below.refl _ ((w.alloc (.cells #[.int .u8 ka, .float .f64 xa, .string sa, .int .i64 ra] 30)).alloc (.cells #[.int .u8 0, .int .u8 0, .float .f64 0, .string ⟨#[]⟩, .int .i64 0, .int .u8 0, .float .f64 0, .string ⟨#[]⟩, .int .i64 0, .int .u8 0, .float .f64 0, .string ⟨#[]⟩, .int .i64 0, .bool false, .bool false, .bool false] 33)))
  go_enter Tryd.func12, Tryd.ntmps12
  go_wp2_with (first | ((with_reducible refine v_load ?_ rfl rfl b1 rfl rfl rfl rfl ?_); (rfl)) | ((with_reducible refine d_store rfl rfl rfl rfl b2 ?_ ?_ ?_); (rfl); (rfl)))
  exact d_end Tryd.results12 rfl (setRow_heap _ _ _ _ _ _ b2) ⟨rfl, below_row hB0 (by omega) _⟩
theorem ts_row {w : World} {xs : List ByteArray} {B : Nat} {v : Value} (hv : SS B v xs w) (hx : xs ≠ []) : ∃ g cap, v = .slice (some ⟨g, 0, none⟩) xs.length cap ∧ xs.length ≤ cap ∧ g < w.heap.size ∧ ∀ (j : Nat) x, xs[j]? = some x → w.cell? ⟨g, 0 + j, none⟩ = some (.string x) := by
  obtain ⟨⟨h1, h2⟩, h3⟩ := hv
  rcases h2 with ⟨_, h2⟩ | ⟨g, cap, cur, e, hg, hblk, h4, h5, h6, h7⟩
  · exact absurd (List.eq_nil_of_length_eq_zero h2) hx
  · refine ⟨g, cap, e, h4, ?_, fun j x hj => ?_⟩
    · rcases Nat.lt_or_ge g w.heap.size with c | c
      · exact c
      · rw [Array.getElem?_eq_none c] at hblk; cases hblk
    · rw [vcells hblk (0 + j), Nat.zero_add]
      have hjl : j < xs.length := (List.getElem?_eq_some_iff.1 hj).1
      have : (cur.toList.take (xs.length * 1))[j]? = some (.string x) := by rw [h7, List.getElem?_map, hj]; rfl
      rw [List.getElem?_take_of_lt (by omega)] at this
      simpa using this
end Go.Proofs.YtlgbnfcnimjheaaDoor.S
/-
  Descriptors: Text of the usual one of 1, and of none. Generated: gen_desctext.py.
-/
namespace Go.Proofs.YtlgbnfcnimjheaaDoor.S
open Go.RowKit Fl

set_option maxRecDepth 1000000 in
set_option maxHeartbeats 4000000 in
theorem text_51 (w : World) (htab : TabHere w) : Calls Tryd.prog 14 #[.agg #[.int .u8 51, .int .u8 3, .float .f64 4607182418800017408, .string ⟨#[]⟩, .int .i64 0, .int .u8 0, .float .f64 0, .string ⟨#[]⟩, .int .i64 0, .int .u8 0, .float .f64 0, .string ⟨#[]⟩, .int .i64 0, .bool true, .bool true, .bool true]] w fun e w' => e = .returned (.string (⟨#[118, 97, 108, 117, 101, 32, 49, 44, 32, 119, 114, 105, 116, 97, 98, 108, 101, 32, 121, 101, 115, 44, 32, 101, 110, 117, 109, 101, 114, 97, 98, 108, 101, 32, 121, 101, 115, 44, 32, 99, 111, 110, 102, 105, 103, 117, 114, 97, 98, 108, 101, 32, 121, 101, 115]⟩ : ByteArray)) ∧ Below w.heap.size w w' := by
  have hmf : ∀ (fn : Fn) (first cap : Array Value) (w : World), (Instr.makeFunc fn first cap).run Tryd.prog w = .ok (.func fn first cap) w := fun _ _ _ _ => rfl
  obtain ⟨b1, b2⟩ := vblk2 (w := w) (Below.refl _ ((w.alloc (.cells #[.int .u8 51, .int .u8 3, .float .f64 4607182418800017408, .string ⟨#[]⟩, .int .i64 0, .int .u8 0, .float .f64 0, .string ⟨#[]⟩, .int .i64 0, .int .u8 0, .float .f64 0, .string ⟨#[]⟩, .int .i64 0, .bool true, .bool true, .bool true] 33)).alloc (.cells #[.slice none 0 0] 59)))
  have hS : TS w #[.int .u8 51, .int .u8 3, .float .f64 4607182418800017408, .string ⟨#[]⟩, .int .i64 0, .int .u8 0, .float .f64 0, .string ⟨#[]⟩, .int .i64 0, .int .u8 0, .float .f64 0, .string ⟨#[]⟩, .int .i64 0, .bool true, .bool true, .bool true] [] ((w.alloc (.cells #[.int .u8 51, .int .u8 3, .float .f64 4607182418800017408, .string ⟨#[]⟩, .int .i64 0, .int .u8 0, .float .f64 0, .string ⟨#[]⟩, .int .i64 0, .int .u8 0, .float .f64 0, .string ⟨#[]⟩, .int .i64 0, .bool true, .bool true, .bool true] 33)).alloc (.cells #[.slice none 0 0] 59)) := ⟨b1, _, b2, ⟨World.ownsRow_nil _ _ _ _, by simp⟩, vafter (vzero _ _)⟩
  have t0 := fun w1 (h : TS w #[.int .u8 51, .int .u8 3, .float .f64 4607182418800017408, .string ⟨#[]⟩, .int .i64 0, .int .u8 0, .float .f64 0, .string ⟨#[]⟩, .int .i64 0, .int .u8 0, .float .f64 0, .string ⟨#[]⟩, .int .i64 0, .bool true, .bool true, .bool true] ([]) w1) => ts_yes (m := 1) (wd := (⟨#[118, 97, 108, 117, 101]⟩ : ByteArray)) (tx := (⟨#[49]⟩ : ByteArray)) (by decide) (by decide) (by decide) (by decide) w1 h
  have t1 := fun w1 (h : TS w #[.int .u8 51, .int .u8 3, .float .f64 4607182418800017408, .string ⟨#[]⟩, .int .i64 0, .int .u8 0, .float .f64 0, .string ⟨#[]⟩, .int .i64 0, .int .u8 0, .float .f64 0, .string ⟨#[]⟩, .int .i64 0, .bool true, .bool true, .bool true] ([] ++ [(⟨#[118, 97, 108, 117, 101]⟩ : ByteArray) ++ ⟨#[32]⟩ ++ (⟨#[49]⟩ : ByteArray)]) w1) => ts_yes (m := 2) (wd := (⟨#[119, 114, 105, 116, 97, 98, 108, 101]⟩ : ByteArray)) (tx := (⟨#[121, 101, 115]⟩ : ByteArray)) (by decide) (by decide) (by decide) (by decide) w1 h
  have t2 := fun w1 (h : TS w #[.int .u8 51, .int .u8 3, .float .f64 4607182418800017408, .string ⟨#[]⟩, .int .i64 0, .int .u8 0, .float .f64 0, .string ⟨#[]⟩, .int .i64 0, .int .u8 0, .float .f64 0, .string ⟨#[]⟩, .int .i64 0, .bool true, .bool true, .bool true] ([] ++ [(⟨#[118, 97, 108, 117, 101]⟩ : ByteArray) ++ ⟨#[32]⟩ ++ (⟨#[49]⟩ : ByteArray)] ++ [(⟨#[119, 114, 105, 116, 97, 98, 108, 101]⟩ : ByteArray) ++ ⟨#[32]⟩ ++ (⟨#[121, 101, 115]⟩ : ByteArray)]) w1) => ts_no (m := 4) (wd := (⟨#[103, 101, 116]⟩ : ByteArray)) (tx := (⟨#[117, 110, 100, 101, 102, 105, 110, 101, 100]⟩ : ByteArray)) (by decide) w1 h
  have t3 := fun w1 (h : TS w #[.int .u8 51, .int .u8 3, .float .f64 4607182418800017408, .string ⟨#[]⟩, .int .i64 0, .int .u8 0, .float .f64 0, .string ⟨#[]⟩, .int .i64 0, .int .u8 0, .float .f64 0, .string ⟨#[]⟩, .int .i64 0, .bool true, .bool true, .bool true] ([] ++ [(⟨#[118, 97, 108, 117, 101]⟩ : ByteArray) ++ ⟨#[32]⟩ ++ (⟨#[49]⟩ : ByteArray)] ++ [(⟨#[119, 114, 105, 116, 97, 98, 108, 101]⟩ : ByteArray) ++ ⟨#[32]⟩ ++ (⟨#[121, 101, 115]⟩ : ByteArray)]) w1) => ts_no (m := 8) (wd := (⟨#[115, 101, 116]⟩ : ByteArray)) (tx := (⟨#[117, 110, 100, 101, 102, 105, 110, 101, 100]⟩ : ByteArray)) (by decide) w1 h
  have t4 := fun w1 (h : TS w #[.int .u8 51, .int .u8 3, .float .f64 4607182418800017408, .string ⟨#[]⟩, .int .i64 0, .int .u8 0, .float .f64 0, .string ⟨#[]⟩, .int .i64 0, .int .u8 0, .float .f64 0, .string ⟨#[]⟩, .int .i64 0, .bool true, .bool true, .bool true] ([] ++ [(⟨#[118, 97, 108, 117, 101]⟩ : ByteArray) ++ ⟨#[32]⟩ ++ (⟨#[49]⟩ : ByteArray)] ++ [(⟨#[119, 114, 105, 116, 97, 98, 108, 101]⟩ : ByteArray) ++ ⟨#[32]⟩ ++ (⟨#[121, 101, 115]⟩ : ByteArray)]) w1) => ts_yes (m := 16) (wd := (⟨#[101, 110, 117, 109, 101, 114, 97, 98, 108, 101]⟩ : ByteArray)) (tx := (⟨#[121, 101, 115]⟩ : ByteArray)) (by decide) (by decide) (by decide) (by decide) w1 h
  have t5 := fun w1 (h : TS w #[.int .u8 51, .int .u8 3, .float .f64 4607182418800017408, .string ⟨#[]⟩, .int .i64 0, .int .u8 0, .float .f64 0, .string ⟨#[]⟩, .int .i64 0, .int .u8 0, .float .f64 0, .string ⟨#[]⟩, .int .i64 0, .bool true, .bool true, .bool true] ([] ++ [(⟨#[118, 97, 108, 117, 101]⟩ : ByteArray) ++ ⟨#[32]⟩ ++ (⟨#[49]⟩ : ByteArray)] ++ [(⟨#[119, 114, 105, 116, 97, 98, 108, 101]⟩ : ByteArray) ++ ⟨#[32]⟩ ++ (⟨#[121, 101, 115]⟩ : ByteArray)] ++ [(⟨#[101, 110, 117, 109, 101, 114, 97, 98, 108, 101]⟩ : ByteArray) ++ ⟨#[32]⟩ ++ (⟨#[121, 101, 115]⟩ : ByteArray)]) w1) => ts_yes (m := 32) (wd := (⟨#[99, 111, 110, 102, 105, 103, 117, 114, 97, 98, 108, 101]⟩ : ByteArray)) (tx := (⟨#[121, 101, 115]⟩ : ByteArray)) (by decide) (by decide) (by decide) (by decide) w1 h
  clear b2
  go_enter Tryd.func14, Tryd.ntmps14
  go_upto_region 4 with (first | ((with_reducible refine v_load ?_ rfl rfl b1 rfl rfl rfl rfl ?_); (rfl)) | (go_at_call 32; (with_reducible refine (txt_one _ (ts_tab hS htab)).mono ?_); rintro e w1 ⟨rfl, h1⟩; replace hS := ts_up hS h1) | (go_at_call 33; (with_reducible refine (answer_t _).mono ?_); rintro e w1 ⟨rfl, rfl⟩) | (go_at_call 31; (with_reducible refine (t0 _ hS).mono ?_); rintro e w1 ⟨rfl, hS9⟩; clear hS; have hS := hS9; clear hS9; have b1 := hS.1))
  have q0 := vcells b1 13
  go_upto_region 5 with (first | ((with_reducible refine v_load ?_ rfl rfl b1 rfl rfl rfl rfl ?_); (rfl)) | (go_at_call 32; (with_reducible refine (txt_und _ (ts_tab hS htab)).mono ?_); rintro e w1 ⟨rfl, h1⟩; replace hS := ts_up hS h1) | (go_at_call 33; (with_reducible refine (answer_t _).mono ?_); rintro e w1 ⟨rfl, rfl⟩) | (go_at_call 31; (with_reducible refine (t1 _ hS).mono ?_); rintro e w1 ⟨rfl, hS9⟩; clear hS; have hS := hS9; clear hS9; have b1 := hS.1))
  have q1 := vcells b1 5
  go_upto_region 6 with (first | ((with_reducible refine v_load ?_ rfl rfl b1 rfl rfl rfl rfl ?_); (rfl)) | (go_at_call 32; (with_reducible refine (txt_und _ (ts_tab hS htab)).mono ?_); rintro e w1 ⟨rfl, h1⟩; replace hS := ts_up hS h1) | (go_at_call 33; (with_reducible refine (answer_t _).mono ?_); rintro e w1 ⟨rfl, rfl⟩) | (go_at_call 31; (with_reducible refine (t2 _ hS).mono ?_); rintro e w1 ⟨rfl, hS9⟩; clear hS; have hS := hS9; clear hS9; have b1 := hS.1))
  have q2 := vcells b1 9
  go_upto_region 7 with (first | ((with_reducible refine v_load ?_ rfl rfl b1 rfl rfl rfl rfl ?_); (rfl)) | (go_at_call 32; (with_reducible refine (txt_und _ (ts_tab hS htab)).mono ?_); rintro e w1 ⟨rfl, h1⟩; replace hS := ts_up hS h1) | (go_at_call 33; (with_reducible refine (answer_t _).mono ?_); rintro e w1 ⟨rfl, rfl⟩) | (go_at_call 31; (with_reducible refine (t3 _ hS).mono ?_); rintro e w1 ⟨rfl, hS9⟩; clear hS; have hS := hS9; clear hS9; have b1 := hS.1))
  have q3 := vcells b1 14
  go_upto_region 8 with (first | ((with_reducible refine v_load ?_ rfl rfl b1 rfl rfl rfl rfl ?_); (rfl)) | (go_at_call 32; (with_reducible refine (txt_und _ (ts_tab hS htab)).mono ?_); rintro e w1 ⟨rfl, h1⟩; replace hS := ts_up hS h1) | (go_at_call 33; (with_reducible refine (answer_t _).mono ?_); rintro e w1 ⟨rfl, rfl⟩) | (go_at_call 31; (with_reducible refine (t4 _ hS).mono ?_); rintro e w1 ⟨rfl, hS9⟩; clear hS; have hS := hS9; clear hS9; have b1 := hS.1))
  have q4 := vcells b1 15
  go_upto_region 9 with (first | ((with_reducible refine v_load ?_ rfl rfl b1 rfl rfl rfl rfl ?_); (rfl)) | (go_at_call 32; (with_reducible refine (txt_und _ (ts_tab hS htab)).mono ?_); rintro e w1 ⟨rfl, h1⟩; replace hS := ts_up hS h1) | (go_at_call 33; (with_reducible refine (answer_t _).mono ?_); rintro e w1 ⟨rfl, rfl⟩) | (go_at_call 31; (with_reducible refine (t5 _ hS).mono ?_); rintro e w1 ⟨rfl, hS9⟩; clear hS; have hS := hS9; clear hS9; have b1 := hS.1))
  have q5 := vcells b1 15
  obtain ⟨_, v, b2, hv, hB⟩ := hS
  obtain ⟨g, cap, rfl, hcap, hg, hcells⟩ := ts_row hv (by simp)
  have J : Calls Tryd.prog 34 #[.slice (some ⟨g, 0, none⟩) 4 cap, .string (⟨#[44, 32]⟩ : ByteArray)] w1 fun e w' => e = .returned (.string (⟨#[118, 97, 108, 117, 101, 32, 49, 44, 32, 119, 114, 105, 116, 97, 98, 108, 101, 32, 121, 101, 115, 44, 32, 101, 110, 117, 109, 101, 114, 97, 98, 108, 101, 32, 121, 101, 115, 44, 32, 99, 111, 110, 102, 105, 103, 117, 114, 97, 98, 108, 101, 32, 121, 101, 115]⟩ : ByteArray)) ∧ Below w1.heap.size w1 w' := by
    refine (Tryd.strings_Join g 0 cap ([] ++ [(⟨#[118, 97, 108, 117, 101]⟩ : ByteArray) ++ ⟨#[32]⟩ ++ (⟨#[49]⟩ : ByteArray)] ++ [(⟨#[119, 114, 105, 116, 97, 98, 108, 101]⟩ : ByteArray) ++ ⟨#[32]⟩ ++ (⟨#[121, 101, 115]⟩ : ByteArray)] ++ [(⟨#[101, 110, 117, 109, 101, 114, 97, 98, 108, 101]⟩ : ByteArray) ++ ⟨#[32]⟩ ++ (⟨#[121, 101, 115]⟩ : ByteArray)] ++ [(⟨#[99, 111, 110, 102, 105, 103, 117, 114, 97, 98, 108, 101]⟩ : ByteArray) ++ ⟨#[32]⟩ ++ (⟨#[121, 101, 115]⟩ : ByteArray)]) (⟨#[44, 32]⟩ : ByteArray) w1 hcells hg (by decide) hcap (by decide)).mono fun e w' ⟨he, hb⟩ => ⟨he.trans ?_, hb⟩
    congr 2
  have b3 : w1.heap[w.heap.size + 1]? = some (.cells #[.slice (some ⟨g, 0, none⟩) 4 cap] 59 (0, 0)) := b2
  have c3 := vcells b3 0
  clear b2 hv hcap hcells
  go_wp2_with (go_at_call 34; (with_reducible refine J.mono ?_); rintro e w2 ⟨rfl, h2⟩)
  go_ret
  exact ⟨rfl, vb hB h2⟩
set_option maxRecDepth 1000000 in
set_option maxHeartbeats 4000000 in
theorem text_0 (w : World) (htab : TabHere w) : Calls Tryd.prog 14 #[.agg #[.int .u8 0, .int .u8 0, .float .f64 0, .string ⟨#[]⟩, .int .i64 0, .int .u8 0, .float .f64 0, .string ⟨#[]⟩, .int .i64 0, .int .u8 0, .float .f64 0, .string ⟨#[]⟩, .int .i64 0, .bool false, .bool false, .bool false]] w fun e w' => e = .returned (.string (⟨#[110, 111, 116, 104, 105, 110, 103]⟩ : ByteArray)) ∧ Below w.heap.size w w' := by
  have hmf : ∀ (fn : Fn) (first cap : Array Value) (w : World), (Instr.makeFunc fn first cap).run Tryd.prog w = .ok (.func fn first cap) w := fun _ _ _ _ => rfl
  obtain ⟨b1, b2⟩ := vblk2 (w := w) (Below.refl _ ((w.alloc (.cells #[.int .u8 0, .int .u8 0, .float .f64 0, .string ⟨#[]⟩, .int .i64 0, .int .u8 0, .float .f64 0, .string ⟨#[]⟩, .int .i64 0, .int .u8 0, .float .f64 0, .string ⟨#[]⟩, .int .i64 0, .bool false, .bool false, .bool false] 33)).alloc (.cells #[.slice none 0 0] 59)))
  have hS : TS w #[.int .u8 0, .int .u8 0, .float .f64 0, .string ⟨#[]⟩, .int .i64 0, .int .u8 0, .float .f64 0, .string ⟨#[]⟩, .int .i64 0, .int .u8 0, .float .f64 0, .string ⟨#[]⟩, .int .i64 0, .bool false, .bool false, .bool false] [] ((w.alloc (.cells #[.int .u8 0, .int .u8 0, .float .f64 0, .string ⟨#[]⟩, .int .i64 0, .int .u8 0, .float .f64 0, .string ⟨#[]⟩, .int .i64 0, .int .u8 0, .float .f64 0, .string ⟨#[]⟩, .int .i64 0, .bool false, .bool false, .bool false] 33)).alloc (.cells #[.slice none 0 0] 59)) := ⟨b1, _, b2, ⟨World.ownsRow_nil _ _ _ _, by simp⟩, vafter (vzero _ _)⟩
  have t0 := fun w1 (h : TS w #[.int .u8 0, .int .u8 0, .float .f64 0, .string ⟨#[]⟩, .int .i64 0, .int .u8 0, .float .f64 0, .string ⟨#[]⟩, .int .i64 0, .int .u8 0, .float .f64 0, .string ⟨#[]⟩, .int .i64 0, .bool false, .bool false, .bool false] ([]) w1) => ts_no (m := 1) (wd := (⟨#[118, 97, 108, 117, 101]⟩ : ByteArray)) (tx := (⟨#[117, 110, 100, 101, 102, 105, 110, 101, 100]⟩ : ByteArray)) (by decide) w1 h
  have t1 := fun w1 (h : TS w #[.int .u8 0, .int .u8 0, .float .f64 0, .string ⟨#[]⟩, .int .i64 0, .int .u8 0, .float .f64 0, .string ⟨#[]⟩, .int .i64 0, .int .u8 0, .float .f64 0, .string ⟨#[]⟩, .int .i64 0, .bool false, .bool false, .bool false] ([]) w1) => ts_no (m := 2) (wd := (⟨#[119, 114, 105, 116, 97, 98, 108, 101]⟩ : ByteArray)) (tx := (⟨#[110, 111]⟩ : ByteArray)) (by decide) w1 h
  have t2 := fun w1 (h : TS w #[.int .u8 0, .int .u8 0, .float .f64 0, .string ⟨#[]⟩, .int .i64 0, .int .u8 0, .float .f64 0, .string ⟨#[]⟩, .int .i64 0, .int .u8 0, .float .f64 0, .string ⟨#[]⟩, .int .i64 0, .bool false, .bool false, .bool false] ([]) w1) => ts_no (m := 4) (wd := (⟨#[103, 101, 116]⟩ : ByteArray)) (tx := (⟨#[117, 110, 100, 101, 102, 105, 110, 101, 100]⟩ : ByteArray)) (by decide) w1 h
  have t3 := fun w1 (h : TS w #[.int .u8 0, .int .u8 0, .float .f64 0, .string ⟨#[]⟩, .int .i64 0, .int .u8 0, .float .f64 0, .string ⟨#[]⟩, .int .i64 0, .int .u8 0, .float .f64 0, .string ⟨#[]⟩, .int .i64 0, .bool false, .bool false, .bool false] ([]) w1) => ts_no (m := 8) (wd := (⟨#[115, 101, 116]⟩ : ByteArray)) (tx := (⟨#[117, 110, 100, 101, 102, 105, 110, 101, 100]⟩ : ByteArray)) (by decide) w1 h
  have t4 := fun w1 (h : TS w #[.int .u8 0, .int .u8 0, .float .f64 0, .string ⟨#[]⟩, .int .i64 0, .int .u8 0, .float .f64 0, .string ⟨#[]⟩, .int .i64 0, .int .u8 0, .float .f64 0, .string ⟨#[]⟩, .int .i64 0, .bool false, .bool false, .bool false] ([]) w1) => ts_no (m := 16) (wd := (⟨#[101, 110, 117, 109, 101, 114, 97, 98, 108, 101]⟩ : ByteArray)) (tx := (⟨#[110, 111]⟩ : ByteArray)) (by decide) w1 h
  have t5 := fun w1 (h : TS w #[.int .u8 0, .int .u8 0, .float .f64 0, .string ⟨#[]⟩, .int .i64 0, .int .u8 0, .float .f64 0, .string ⟨#[]⟩, .int .i64 0, .int .u8 0, .float .f64 0, .string ⟨#[]⟩, .int .i64 0, .bool false, .bool false, .bool false] ([]) w1) => ts_no (m := 32) (wd := (⟨#[99, 111, 110, 102, 105, 103, 117, 114, 97, 98, 108, 101]⟩ : ByteArray)) (tx := (⟨#[110, 111]⟩ : ByteArray)) (by decide) w1 h
  clear b2
  go_enter Tryd.func14, Tryd.ntmps14
  go_upto_region 4 with (first | ((with_reducible refine v_load ?_ rfl rfl b1 rfl rfl rfl rfl ?_); (rfl)) | (go_at_call 32; (with_reducible refine (txt_und _ (ts_tab hS htab)).mono ?_); rintro e w1 ⟨rfl, h1⟩; replace hS := ts_up hS h1) | (go_at_call 33; (with_reducible refine (answer_f _).mono ?_); rintro e w1 ⟨rfl, rfl⟩) | (go_at_call 31; (with_reducible refine (t0 _ hS).mono ?_); rintro e w1 ⟨rfl, hS9⟩; clear hS; have hS := hS9; clear hS9; have b1 := hS.1))
  have q0 := vcells b1 13
  go_upto_region 5 with (first | ((with_reducible refine v_load ?_ rfl rfl b1 rfl rfl rfl rfl ?_); (rfl)) | (go_at_call 32; (with_reducible refine (txt_und _ (ts_tab hS htab)).mono ?_); rintro e w1 ⟨rfl, h1⟩; replace hS := ts_up hS h1) | (go_at_call 33; (with_reducible refine (answer_f _).mono ?_); rintro e w1 ⟨rfl, rfl⟩) | (go_at_call 31; (with_reducible refine (t1 _ hS).mono ?_); rintro e w1 ⟨rfl, hS9⟩; clear hS; have hS := hS9; clear hS9; have b1 := hS.1))
  have q1 := vcells b1 5
  go_upto_region 6 with (first | ((with_reducible refine v_load ?_ rfl rfl b1 rfl rfl rfl rfl ?_); (rfl)) | (go_at_call 32; (with_reducible refine (txt_und _ (ts_tab hS htab)).mono ?_); rintro e w1 ⟨rfl, h1⟩; replace hS := ts_up hS h1) | (go_at_call 33; (with_reducible refine (answer_f _).mono ?_); rintro e w1 ⟨rfl, rfl⟩) | (go_at_call 31; (with_reducible refine (t2 _ hS).mono ?_); rintro e w1 ⟨rfl, hS9⟩; clear hS; have hS := hS9; clear hS9; have b1 := hS.1))
  have q2 := vcells b1 9
  go_upto_region 7 with (first | ((with_reducible refine v_load ?_ rfl rfl b1 rfl rfl rfl rfl ?_); (rfl)) | (go_at_call 32; (with_reducible refine (txt_und _ (ts_tab hS htab)).mono ?_); rintro e w1 ⟨rfl, h1⟩; replace hS := ts_up hS h1) | (go_at_call 33; (with_reducible refine (answer_f _).mono ?_); rintro e w1 ⟨rfl, rfl⟩) | (go_at_call 31; (with_reducible refine (t3 _ hS).mono ?_); rintro e w1 ⟨rfl, hS9⟩; clear hS; have hS := hS9; clear hS9; have b1 := hS.1))
  have q3 := vcells b1 14
  go_upto_region 8 with (first | ((with_reducible refine v_load ?_ rfl rfl b1 rfl rfl rfl rfl ?_); (rfl)) | (go_at_call 32; (with_reducible refine (txt_und _ (ts_tab hS htab)).mono ?_); rintro e w1 ⟨rfl, h1⟩; replace hS := ts_up hS h1) | (go_at_call 33; (with_reducible refine (answer_f _).mono ?_); rintro e w1 ⟨rfl, rfl⟩) | (go_at_call 31; (with_reducible refine (t4 _ hS).mono ?_); rintro e w1 ⟨rfl, hS9⟩; clear hS; have hS := hS9; clear hS9; have b1 := hS.1))
  have q4 := vcells b1 15
  go_upto_region 9 with (first | ((with_reducible refine v_load ?_ rfl rfl b1 rfl rfl rfl rfl ?_); (rfl)) | (go_at_call 32; (with_reducible refine (txt_und _ (ts_tab hS htab)).mono ?_); rintro e w1 ⟨rfl, h1⟩; replace hS := ts_up hS h1) | (go_at_call 33; (with_reducible refine (answer_f _).mono ?_); rintro e w1 ⟨rfl, rfl⟩) | (go_at_call 31; (with_reducible refine (t5 _ hS).mono ?_); rintro e w1 ⟨rfl, hS9⟩; clear hS; have hS := hS9; clear hS9; have b1 := hS.1))
  have q5 := vcells b1 15
  obtain ⟨_, v, b2, hv, hB⟩ := hS
  obtain ⟨A0, cap, rfl⟩ := ss_shape hv
  have b3 : w1.heap[w.heap.size + 1]? = some (.cells #[.slice A0 0 cap] 59 (0, 0)) := b2
  have c3 := vcells b3 0
  clear b2 hv
  go_wp2
  go_ret
  exact ⟨rfl, hB⟩
end Go.Proofs.YtlgbnfcnimjheaaDoor.S
/-
  What the law DescNames calls, at its own descriptors. Generated: gen_descnames.py.
-/
namespace Go.Proofs.YtlgbnfcnimjheaaDoor.S
open Go.RowKit Fl

theorem one_ok : (⟨3, 4607182418800017408, ⟨#[]⟩, 0⟩ : Vq).Ok := ⟨.num 4607182418800017408, ⟨.ours 1, ⟨by decide, by unfold SafeN; omega⟩, rfl⟩, rfl, rfl, rfl, rfl⟩
theorem two_ok : (⟨3, 4611686018427387904, ⟨#[]⟩, 0⟩ : Vq).Ok := ⟨.num 4611686018427387904, ⟨.ours 2, ⟨by decide, by unfold SafeN; omega⟩, rfl⟩, rfl, rfl, rfl, rfl⟩
theorem fun_ok : (⟨7, 0, ⟨#[]⟩, 5⟩ : Vq).Ok := ⟨.obj 7 5, ⟨.inr (.inl rfl), by omega, by omega⟩, rfl, rfl, rfl, rfl⟩
theorem zero_ok : (⟨0, 0, ⟨#[]⟩, 0⟩ : Vq).Ok := v0_ok
theorem zero_z : (⟨0, 0, ⟨#[]⟩, 0⟩ : Vq).z = true := v0_z
def dA : Dq := ⟨5, ⟨0, 0, ⟨#[]⟩, 0⟩, ⟨0, 0, ⟨#[]⟩, 0⟩, ⟨0, 0, ⟨#[]⟩, 0⟩, false, false, false⟩
theorem dA_in : dA.In := ⟨by decide, by decide, ok_in zero_ok, ok_in zero_ok, ok_in zero_ok⟩
def dB : Dq := ⟨4, ⟨0, 0, ⟨#[]⟩, 0⟩, ⟨3, 4607182418800017408, ⟨#[]⟩, 0⟩, ⟨0, 0, ⟨#[]⟩, 0⟩, false, false, false⟩
theorem dB_in : dB.In := ⟨by decide, by decide, ok_in zero_ok, ok_in one_ok, ok_in zero_ok⟩
def dC : Dq := ⟨0, ⟨0, 0, ⟨#[]⟩, 0⟩, ⟨0, 0, ⟨#[]⟩, 0⟩, ⟨0, 0, ⟨#[]⟩, 0⟩, true, false, false⟩
theorem dC_in : dC.In := ⟨by decide, by decide, ok_in zero_ok, ok_in zero_ok, ok_in zero_ok⟩
def dD : Dq := ⟨64, ⟨0, 0, ⟨#[]⟩, 0⟩, ⟨0, 0, ⟨#[]⟩, 0⟩, ⟨0, 0, ⟨#[]⟩, 0⟩, false, false, false⟩
theorem dD_in : dD.In := ⟨by decide, by decide, ok_in zero_ok, ok_in zero_ok, ok_in zero_ok⟩
def dO : Dq := ⟨0, ⟨0, 0, ⟨#[]⟩, 0⟩, ⟨0, 0, ⟨#[]⟩, 0⟩, ⟨0, 0, ⟨#[]⟩, 0⟩, false, false, false⟩
theorem dO_in : dO.In := ⟨by decide, by decide, ok_in zero_ok, ok_in zero_ok, ok_in zero_ok⟩
def d2 : Dq := ⟨1, ⟨3, 4611686018427387904, ⟨#[]⟩, 0⟩, ⟨0, 0, ⟨#[]⟩, 0⟩, ⟨0, 0, ⟨#[]⟩, 0⟩, false, false, false⟩
theorem d2_in : d2.In := ⟨by decide, by decide, ok_in two_ok, ok_in zero_ok, ok_in zero_ok⟩
def d1 : Dq := ⟨1, ⟨3, 4607182418800017408, ⟨#[]⟩, 0⟩, ⟨0, 0, ⟨#[]⟩, 0⟩, ⟨0, 0, ⟨#[]⟩, 0⟩, false, false, false⟩
theorem d1_in : d1.In := ⟨by decide, by decide, ok_in one_ok, ok_in zero_ok, ok_in zero_ok⟩
def fx : Dq := ⟨51, ⟨3, 4607182418800017408, ⟨#[]⟩, 0⟩, ⟨0, 0, ⟨#[]⟩, 0⟩, ⟨0, 0, ⟨#[]⟩, 0⟩, false, false, false⟩
theorem fx_in : fx.In := ⟨by decide, by decide, ok_in one_ok, ok_in zero_ok, ok_in zero_ok⟩
def dE : Dq := ⟨1, ⟨0, 0, ⟨#[]⟩, 0⟩, ⟨0, 0, ⟨#[]⟩, 0⟩, ⟨0, 0, ⟨#[]⟩, 0⟩, false, false, false⟩
theorem dE_in : dE.In := ⟨by decide, by decide, ok_in zero_ok, ok_in zero_ok, ok_in zero_ok⟩
def dG : Dq := ⟨4, ⟨0, 0, ⟨#[]⟩, 0⟩, ⟨7, 0, ⟨#[]⟩, 5⟩, ⟨0, 0, ⟨#[]⟩, 0⟩, false, false, false⟩
theorem dG_in : dG.In := ⟨by decide, by decide, ok_in zero_ok, ok_in fun_ok, ok_in zero_ok⟩
def dt : Dq := ⟨51, ⟨3, 4607182418800017408, ⟨#[]⟩, 0⟩, ⟨0, 0, ⟨#[]⟩, 0⟩, ⟨0, 0, ⟨#[]⟩, 0⟩, true, true, true⟩
theorem dt_in : dt.In := ⟨by decide, by decide, ok_in one_ok, ok_in zero_ok, ok_in zero_ok⟩
def dX : Dq := ⟨60, ⟨0, 0, ⟨#[]⟩, 0⟩, ⟨7, 0, ⟨#[]⟩, 5⟩, ⟨0, 0, ⟨#[]⟩, 0⟩, false, true, true⟩
theorem dX_in : dX.In := ⟨by decide, by decide, ok_in zero_ok, ok_in fun_ok, ok_in zero_ok⟩
theorem dO_good : Good dO := ⟨by decide, zero_ok, (fun _ => zero_z), (fun h => absurd h (by decide)), fun _ => zero_z, (fun h => absurd h (by decide)), fun _ => zero_z, (fun _ => rfl), (fun _ => rfl), (fun _ => rfl)⟩
theorem d2_good : Good d2 := ⟨by decide, two_ok, (fun h => absurd h (by decide)), (fun h => absurd h (by decide)), fun _ => zero_z, (fun h => absurd h (by decide)), fun _ => zero_z, (fun _ => rfl), (fun _ => rfl), (fun _ => rfl)⟩
theorem d1_good : Good d1 := ⟨by decide, one_ok, (fun h => absurd h (by decide)), (fun h => absurd h (by decide)), fun _ => zero_z, (fun h => absurd h (by decide)), fun _ => zero_z, (fun _ => rfl), (fun _ => rfl), (fun _ => rfl)⟩
theorem fx_good : Good fx := ⟨by decide, one_ok, (fun h => absurd h (by decide)), (fun h => absurd h (by decide)), fun _ => zero_z, (fun h => absurd h (by decide)), fun _ => zero_z, (fun h => absurd h (by decide)), (fun h => absurd h (by decide)), (fun h => absurd h (by decide))⟩
theorem dE_good : Good dE := ⟨by decide, zero_ok, (fun h => absurd h (by decide)), (fun h => absurd h (by decide)), fun _ => zero_z, (fun h => absurd h (by decide)), fun _ => zero_z, (fun _ => rfl), (fun _ => rfl), (fun _ => rfl)⟩
theorem dG_good : Good dG := ⟨by decide, zero_ok, (fun _ => zero_z), (fun _ => ⟨fun_ok, rfl⟩), fun h => absurd h (by decide), (fun h => absurd h (by decide)), fun _ => zero_z, (fun _ => rfl), (fun _ => rfl), (fun _ => rfl)⟩
theorem dt_good : Good dt := ⟨by decide, one_ok, (fun h => absurd h (by decide)), (fun h => absurd h (by decide)), fun _ => zero_z, (fun h => absurd h (by decide)), fun _ => zero_z, (fun h => absurd h (by decide)), (fun h => absurd h (by decide)), (fun h => absurd h (by decide))⟩
theorem dX_good : Good dX := ⟨by decide, zero_ok, (fun _ => zero_z), (fun _ => ⟨fun_ok, rfl⟩), fun h => absurd h (by decide), (fun _ => ⟨zero_ok, rfl⟩), fun h => absurd h (by decide), (fun _ => rfl), (fun h => absurd h (by decide)), (fun h => absurd h (by decide))⟩
theorem not_good {d : Dq} (hd : d.In) (h : ¬ Good d) : chkQ d = false := by cases e : chkQ d with | false => rfl | true => exact absurd (good_of hd e) h
theorem check_dA (w : World) : Calls Tryd.prog 9 #[.agg #[.int .u8 5, .int .u8 0, .float .f64 0, .string ⟨#[]⟩, .int .i64 0, .int .u8 0, .float .f64 0, .string ⟨#[]⟩, .int .i64 0, .int .u8 0, .float .f64 0, .string ⟨#[]⟩, .int .i64 0, .bool false, .bool false, .bool false]] w fun e w' => e = .returned (.int .i64 90) ∧ Below w.heap.size w w' := by
  have := Check_q dA_in w
  rw [not_good dA_in (fun g => absurd g.mem (by decide))] at this
  exact this
theorem check_dB (w : World) : Calls Tryd.prog 9 #[.agg #[.int .u8 4, .int .u8 0, .float .f64 0, .string ⟨#[]⟩, .int .i64 0, .int .u8 3, .float .f64 4607182418800017408, .string ⟨#[]⟩, .int .i64 0, .int .u8 0, .float .f64 0, .string ⟨#[]⟩, .int .i64 0, .bool false, .bool false, .bool false]] w fun e w' => e = .returned (.int .i64 90) ∧ Below w.heap.size w w' := by
  have := Check_q dB_in w
  rw [not_good dB_in (fun g => absurd (g.b (by decide)).2 (by decide))] at this
  exact this
theorem check_dC (w : World) : Calls Tryd.prog 9 #[.agg #[.int .u8 0, .int .u8 0, .float .f64 0, .string ⟨#[]⟩, .int .i64 0, .int .u8 0, .float .f64 0, .string ⟨#[]⟩, .int .i64 0, .int .u8 0, .float .f64 0, .string ⟨#[]⟩, .int .i64 0, .bool true, .bool false, .bool false]] w fun e w' => e = .returned (.int .i64 90) ∧ Below w.heap.size w w' := by
  have := Check_q dC_in w
  rw [not_good dC_in (fun g => absurd (g.np (by decide)) (by decide))] at this
  exact this
theorem check_dD (w : World) : Calls Tryd.prog 9 #[.agg #[.int .u8 64, .int .u8 0, .float .f64 0, .string ⟨#[]⟩, .int .i64 0, .int .u8 0, .float .f64 0, .string ⟨#[]⟩, .int .i64 0, .int .u8 0, .float .f64 0, .string ⟨#[]⟩, .int .i64 0, .bool false, .bool false, .bool false]] w fun e w' => e = .returned (.int .i64 90) ∧ Below w.heap.size w w' := by
  have := Check_q dD_in w
  rw [not_good dD_in (fun g => absurd g.mem (by decide))] at this
  exact this
theorem check_dO (w : World) : Calls Tryd.prog 9 #[.agg #[.int .u8 0, .int .u8 0, .float .f64 0, .string ⟨#[]⟩, .int .i64 0, .int .u8 0, .float .f64 0, .string ⟨#[]⟩, .int .i64 0, .int .u8 0, .float .f64 0, .string ⟨#[]⟩, .int .i64 0, .bool false, .bool false, .bool false]] w fun e w' => e = .returned (.int .i64 0) ∧ Below w.heap.size w w' := by
  have := Check_q dO_in w
  rw [chk_of dO_good] at this
  exact this
theorem compat_1 (w : World) : Calls Tryd.prog 10 #[.bool false, .agg #[.int .u8 0, .int .u8 0, .float .f64 0, .string ⟨#[]⟩, .int .i64 0, .int .u8 0, .float .f64 0, .string ⟨#[]⟩, .int .i64 0, .int .u8 0, .float .f64 0, .string ⟨#[]⟩, .int .i64 0, .bool false, .bool false, .bool false], .bool false, .agg #[.int .u8 0, .int .u8 0, .float .f64 0, .string ⟨#[]⟩, .int .i64 0, .int .u8 0, .float .f64 0, .string ⟨#[]⟩, .int .i64 0, .int .u8 0, .float .f64 0, .string ⟨#[]⟩, .int .i64 0, .bool false, .bool false, .bool false]] w fun e w' => e = .returned (.tuple #[.bool false, .int .i64 0]) ∧ Below w.heap.size w w' := by
  have := compat_q (ext := false) (found := false) dO_in dO_in w
  have e : compatQ false dO false dO = (false, 0) := by
    unfold compatQ; rw [chk_of dO_good]; rfl
  rw [e] at this
  exact this
theorem compat_2 (w : World) : Calls Tryd.prog 10 #[.bool true, .agg #[.int .u8 0, .int .u8 0, .float .f64 0, .string ⟨#[]⟩, .int .i64 0, .int .u8 0, .float .f64 0, .string ⟨#[]⟩, .int .i64 0, .int .u8 0, .float .f64 0, .string ⟨#[]⟩, .int .i64 0, .bool false, .bool false, .bool false], .bool false, .agg #[.int .u8 0, .int .u8 0, .float .f64 0, .string ⟨#[]⟩, .int .i64 0, .int .u8 0, .float .f64 0, .string ⟨#[]⟩, .int .i64 0, .int .u8 0, .float .f64 0, .string ⟨#[]⟩, .int .i64 0, .bool false, .bool false, .bool false]] w fun e w' => e = .returned (.tuple #[.bool true, .int .i64 0]) ∧ Below w.heap.size w w' := by
  have := compat_q (ext := true) (found := false) dO_in dO_in w
  have e : compatQ true dO false dO = (true, 0) := by
    unfold compatQ; rw [chk_of dO_good]; rfl
  rw [e] at this
  exact this
theorem compat_3 (w : World) : Calls Tryd.prog 10 #[.bool true, .agg #[.int .u8 1, .int .u8 3, .float .f64 4611686018427387904, .string ⟨#[]⟩, .int .i64 0, .int .u8 0, .float .f64 0, .string ⟨#[]⟩, .int .i64 0, .int .u8 0, .float .f64 0, .string ⟨#[]⟩, .int .i64 0, .bool false, .bool false, .bool false], .bool true, .agg #[.int .u8 51, .int .u8 3, .float .f64 4607182418800017408, .string ⟨#[]⟩, .int .i64 0, .int .u8 0, .float .f64 0, .string ⟨#[]⟩, .int .i64 0, .int .u8 0, .float .f64 0, .string ⟨#[]⟩, .int .i64 0, .bool false, .bool false, .bool false]] w fun e w' => e = .returned (.tuple #[.bool false, .int .i64 0]) ∧ Below w.heap.size w w' := by
  have := compat_q (ext := true) (found := true) d2_in fx_in w
  have e : compatQ true d2 true fx = (false, 0) := by
    unfold compatQ; rw [chk_of d2_good, (whole_iff fx_in).2 ⟨fx_good, Or.inl rfl⟩, show changesQ d2 fx = false by kernel_rfl]; rfl
  rw [e] at this
  exact this
theorem compat_4 (w : World) : Calls Tryd.prog 10 #[.bool true, .agg #[.int .u8 1, .int .u8 3, .float .f64 4607182418800017408, .string ⟨#[]⟩, .int .i64 0, .int .u8 0, .float .f64 0, .string ⟨#[]⟩, .int .i64 0, .int .u8 0, .float .f64 0, .string ⟨#[]⟩, .int .i64 0, .bool false, .bool false, .bool false], .bool true, .agg #[.int .u8 51, .int .u8 3, .float .f64 4607182418800017408, .string ⟨#[]⟩, .int .i64 0, .int .u8 0, .float .f64 0, .string ⟨#[]⟩, .int .i64 0, .int .u8 0, .float .f64 0, .string ⟨#[]⟩, .int .i64 0, .bool false, .bool false, .bool false]] w fun e w' => e = .returned (.tuple #[.bool true, .int .i64 0]) ∧ Below w.heap.size w w' := by
  have := compat_q (ext := true) (found := true) d1_in fx_in w
  have e : compatQ true d1 true fx = (true, 0) := by
    unfold compatQ; rw [chk_of d1_good, (whole_iff fx_in).2 ⟨fx_good, Or.inl rfl⟩, show changesQ d1 fx = true by kernel_rfl]; rfl
  rw [e] at this
  exact this
theorem compat_5 (w : World) : Calls Tryd.prog 10 #[.bool true, .agg #[.int .u8 0, .int .u8 0, .float .f64 0, .string ⟨#[]⟩, .int .i64 0, .int .u8 0, .float .f64 0, .string ⟨#[]⟩, .int .i64 0, .int .u8 0, .float .f64 0, .string ⟨#[]⟩, .int .i64 0, .bool false, .bool false, .bool false], .bool true, .agg #[.int .u8 1, .int .u8 0, .float .f64 0, .string ⟨#[]⟩, .int .i64 0, .int .u8 0, .float .f64 0, .string ⟨#[]⟩, .int .i64 0, .int .u8 0, .float .f64 0, .string ⟨#[]⟩, .int .i64 0, .bool false, .bool false, .bool false]] w fun e w' => e = .returned (.tuple #[.bool false, .int .i64 90]) ∧ Below w.heap.size w w' := by
  have := compat_q (ext := true) (found := true) dO_in dE_in w
  have e : compatQ true dO true dE = (false, 90) := by
    have hw : wholeQ dE = false := by cases e : wholeQ dE with | false => rfl | true => exact absurd ((whole_iff dE_in).1 e).2 (by decide)
    unfold compatQ; rw [chk_of dO_good, hw]; rfl
  rw [e] at this
  exact this
theorem apply_1 (w : World) : Calls Tryd.prog 11 #[.bool true, .agg #[.int .u8 4, .int .u8 0, .float .f64 0, .string ⟨#[]⟩, .int .i64 0, .int .u8 7, .float .f64 0, .string ⟨#[]⟩, .int .i64 5, .int .u8 0, .float .f64 0, .string ⟨#[]⟩, .int .i64 0, .bool false, .bool false, .bool false], .bool true, .agg #[.int .u8 51, .int .u8 3, .float .f64 4607182418800017408, .string ⟨#[]⟩, .int .i64 0, .int .u8 0, .float .f64 0, .string ⟨#[]⟩, .int .i64 0, .int .u8 0, .float .f64 0, .string ⟨#[]⟩, .int .i64 0, .bool true, .bool true, .bool true]] w fun e w' => e = .returned (.tuple #[.agg #[.int .u8 60, .int .u8 0, .float .f64 0, .string ⟨#[]⟩, .int .i64 0, .int .u8 7, .float .f64 0, .string ⟨#[]⟩, .int .i64 5, .int .u8 0, .float .f64 0, .string ⟨#[]⟩, .int .i64 0, .bool false, .bool true, .bool true], .bool true, .int .i64 0]) ∧ Below w.heap.size w w' := by
  have := apply_q (ext := true) (found := true) dG_in dt_in w
  have e : compatQ true dG true dt = (true, 0) := by unfold compatQ; rw [chk_of dG_good, (whole_iff dt_in).2 ⟨dt_good, Or.inl rfl⟩, show changesQ dG dt = true by kernel_rfl]; rfl
  have e2 : applyQ true dG true dt = dX := by unfold applyQ; rw [e]; kernel_rfl
  rw [e, e2] at this
  exact this
theorem same_1 (w : World) : Calls Tryd.prog 13 #[.agg #[.int .u8 60, .int .u8 0, .float .f64 0, .string ⟨#[]⟩, .int .i64 0, .int .u8 7, .float .f64 0, .string ⟨#[]⟩, .int .i64 5, .int .u8 0, .float .f64 0, .string ⟨#[]⟩, .int .i64 0, .bool false, .bool true, .bool true], .agg #[.int .u8 60, .int .u8 0, .float .f64 0, .string ⟨#[]⟩, .int .i64 0, .int .u8 7, .float .f64 0, .string ⟨#[]⟩, .int .i64 5, .int .u8 0, .float .f64 0, .string ⟨#[]⟩, .int .i64 0, .bool false, .bool true, .bool true]] w fun e w' => e = .returned (.bool true) ∧ Below w.heap.size w w' := by
  obtain ⟨ka, kb, kc⟩ := good_kinds dX_good
  have := Same_q (a := dX) (b := dX) ⟨ka, kb, kc⟩ ⟨ka.1, kb.1, kc.1⟩ w
  rw [show sameD dX.h dX.h (sameQ dX.a dX.a) (sameQ dX.b dX.b) (sameQ dX.c dX.c) dX.p dX.p dX.q dX.q dX.z dX.z = true by kernel_rfl] at this
  exact this
end Go.Proofs.YtlgbnfcnimjheaaDoor.S
