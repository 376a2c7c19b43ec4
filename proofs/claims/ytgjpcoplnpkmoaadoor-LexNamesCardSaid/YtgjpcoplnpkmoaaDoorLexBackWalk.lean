/-
  LexBack: the walk.
-/
import Derived.Test.YtgjpcoplnpkmoaaDoorLexBack
namespace Go.Proofs.YtgjpcoplnpkmoaaDoor.S
open Go.RowKit Fl

theorem tr_ok {s : ByteArray} (hs : s.size ≤ 70000) {r : List Tk} (h : toks s.data.toList = .ok r) (w : World) :
    Calls Tryd.prog 6 #[.string s] w fun e w' => ∃ A cap, e = .returned (.tuple #[.slice A r.length cap, .int .i64 0, .int .i64 0]) ∧ TB w.heap.size (.slice A r.length cap) r w w' := by
  refine (Tokens_any s hs w).mono fun e w' g => ?_
  rw [h] at g
  obtain ⟨v, he, hb⟩ := g
  obtain ⟨A, cap, hv⟩ := tb_shape hb
  subst hv
  exact ⟨A, cap, he, hb⟩
theorem tr_err {s : ByteArray} (hs : s.size ≤ 70000) {a k : Int} (h : toks s.data.toList = .err a k) (w : World) :
    Calls Tryd.prog 6 #[.string s] w fun e w' => e = .returned (.tuple #[.slice none 0 0, .int .i64 a, .int .i64 k]) ∧ Below w.heap.size w w' := by
  refine (Tokens_any s hs w).mono fun e w' g => ?_
  rw [h] at g
  exact g
theorem tb_cap {B : Nat} {A : Option Addr} {n cap : Nat} {l : List Tk} {w0 w : World} (h : TB B (.slice A n cap) l w0 w) : n ≤ cap := by
  rcases h.1.2 with ⟨h1, h2⟩ | ⟨g, c, cur, hv, hb, hh, hle, _⟩
  · injection h1; omega
  · injection hv; omega

theorem Text_at (l : List Tk) (A : Option Addr) (cap : Nat) (w : World) (hr : RdA w A l) (hin : ∀ t ∈ l, TkIn t) (hl : l.length ≤ 100000) (hcap : l.length ≤ cap) (htab : TabHere w) (s : List UInt8) (k : Int) (h : TextR l s k) (v : ByteArray) (hv : mkB s = v) :
    Calls Tryd.prog 9 #[.slice A l.length cap] w fun e w' => e = .returned (.tuple #[.string v, .int .i64 k]) ∧ Below w.heap.size w w' := by
  rw [← hv]; exact Text_any l A cap w hr hin hl hcap htab s k h
/-- what the document asks of a text's tokens: whatever the second half says -/
def RestTo (w : World) (e : Ending) (w' : World) : Prop := e = .returned (.bool true) ∧ Below w.heap.size w w'

set_option maxHeartbeats 4000000 in
set_option maxRecDepth 1000000 in
theorem back_err (s : ByteArray) (l : List Tk) (A : Option Addr) (cap : Nat) (w : World) (hm : s.size ≤ 3000) (hr : RdA w A l) (hin : ∀ t ∈ l, TkIn t) (hl : l.length ≤ 1000) (hcap : l.length ≤ cap) (htab : TabHere w)
    (a k : Int) (h : toks s.data.toList = .err a k) (u : List UInt8) (j : Int) (hu : TextR l u j) (hj : j ≠ 0) :
    Calls Tryd.prog 4 #[.string s, .slice A l.length cap] w (RestTo w) := by
  have kt := fun w => tr_err (by omega) h w
  obtain ⟨ha1, ha2⟩ := toks_place h
  rw [← size_len] at ha2
  have hk : (k != 0) = true := by rw [bne_iff_ne]; exact toks_err h
  have kx := fun w h1 h2 => Text_any l A cap w h1 hin (by omega) hcap h2 u j hu
  have hj' : (j != 0) = true := by rw [bne_iff_ne]; exact hj
  have hu0 : mkB u = ⟨#[]⟩ := by
    rcases hu with ⟨_, e, _⟩ | ⟨_, _, e, _⟩ | ⟨_, _, _, e, _⟩ | ⟨_, _, _, _, e⟩
    · rw [e]; rfl
    · rw [e]; rfl
    · rw [e]; rfl
    · exact absurd e hj
  have kal := lexalive_any
  have HR := Lib.hid hr
  have HT := Lib.hid htab
  clear hr hin htab h hu hj
  go_enter Tryd.func4, Tryd.ntmps4
  go_wp2_with (first
    | (go_at_call 10; refine (kal _).mono ?_; rintro e w1 ⟨rfl, hb1⟩; have HB1 := Lib.hid hb1; clear hb1)
    | (go_at_call 6; refine (kt _).mono ?_; rintro e w2 ⟨rfl, hb2⟩; have HB2 := Lib.hid (below_up HB1.out hb2); clear hb2)
    | (go_at_call 9; refine (kx _ (rda_up HR.out HB2.out) (tab_below HT.out HB2.out)).mono ?_; rintro e w3 ⟨rfl, hb3⟩; have HB3 := Lib.hid (below_up HB2.out hb3); clear hb3; rw [hu0]))
  go_ret
  exact ⟨rfl, HB3.out⟩

/-- tokens that are written, and read again -/
theorem again_of {l : List Tk} {u : List UInt8} (hu : TextR l u 0) (hin : ∀ t ∈ l, TkIn t) : (mkB u).size ≤ 70000 ∧ ∃ r, toks (mkB u).data.toList = .ok r ∧ SameL r l ∧ r.length ≤ 70000 := by
  rcases hu with ⟨_, _, e⟩ | ⟨_, _, _, e⟩ | ⟨_, _, _, _, e⟩ | ⟨h1, h2, h3, h4, _⟩
  · cases e
  · cases e
  · cases e
  · obtain ⟨r, hr, hs⟩ := read_may h2 hin h1 h3
    subst h4
    exact ⟨by rw [mkB_size]; omega, r, hr, hs, by have := (told_in hr).2.2; omega⟩

set_option maxHeartbeats 4000000 in
set_option maxRecDepth 1000000 in
theorem back_err0 (s : ByteArray) (l : List Tk) (A : Option Addr) (cap : Nat) (w : World) (hm : s.size ≤ 3000) (hr : RdA w A l) (hin : ∀ t ∈ l, TkIn t) (hl : l.length ≤ 1000) (hcap : l.length ≤ cap) (htab : TabHere w)
    (a k : Int) (h : toks s.data.toList = .err a k) (u : List UInt8) (hu : TextR l u 0) :
    Calls Tryd.prog 4 #[.string s, .slice A l.length cap] w (RestTo w) := by
  have kt := fun w => tr_err (by omega) h w
  obtain ⟨ha1, ha2⟩ := toks_place h
  rw [← size_len] at ha2
  have hk : (k != 0) = true := by rw [bne_iff_ne]; exact toks_err h
  obtain ⟨v, hv⟩ : ∃ v, mkB u = v := ⟨_, rfl⟩
  have kx := fun w h1 h2 => Text_at l A cap w h1 hin (by omega) hcap h2 u 0 hu v hv
  obtain ⟨hsz, r, hr1, hr2, hr3⟩ := again_of hu hin
  rw [hv] at hsz hr1
  have kt2 := fun w => tr_ok hsz hr1 w
  have ks := fun A1 c1 W h1 h2 => same_yes r l A1 A c1 cap W h1 h2 hr2 hr3
  have kal := lexalive_any
  have HR := Lib.hid hr
  have HT := Lib.hid htab
  clear hr hin htab h hu hr1 hr2 hv
  go_enter Tryd.func4, Tryd.ntmps4
  go_wp2_with (first
    | (go_at_call 10; refine (kal _).mono ?_; rintro e w1 ⟨rfl, hb1⟩; have HB1 := Lib.hid hb1; clear hb1)
    | (go_at_call 6; ((with_reducible refine (kt _).mono ?_); rintro e w2 ⟨rfl, hb2⟩; have HB2 := Lib.hid (below_up HB1.out hb2); clear hb2))
    | (go_at_call 9; refine (kx _ (rda_up HR.out HB2.out) (tab_below HT.out HB2.out)).mono ?_; rintro e w3 ⟨rfl, hb3⟩; have HB3 := Lib.hid (below_up HB2.out hb3); clear hb3)
    | (go_at_call 6; ((with_reducible refine (kt2 _).mono ?_); rintro e w4 ⟨A1, c1, rfl, ht4⟩; have HT4 := Lib.hid ht4; have HB4 := Lib.hid (below_up HB3.out ht4.2.1); clear ht4))
    | (go_at_call 13; refine (ks A1 c1 _ (rda_tb HT4.out) (rda_up HR.out HB4.out)).mono ?_; rintro e w5 ⟨rfl, hb5⟩; have HB5 := Lib.hid (below_up HB4.out hb5); clear hb5))
  go_ret
  exact ⟨rfl, HB5.out⟩
end Go.Proofs.YtgjpcoplnpkmoaaDoor.S
