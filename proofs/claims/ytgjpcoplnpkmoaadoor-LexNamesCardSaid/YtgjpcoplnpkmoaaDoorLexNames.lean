/-
  LexNames: the limits and the errors have their numbers; examples of the chapter: the walk.
-/
import Derived.Test.YtgjpcoplnpkmoaaDoorLexBackWalk
namespace Go.Proofs.YtgjpcoplnpkmoaaDoor.S
open Go.RowKit Fl

theorem wrong_yes (s : ByteArray) (a : Int) (hs : s.size ≤ 70000) (h : toks s.data.toList = .err a 5) (w : World) :
    Calls Tryd.prog 8 #[.string s, .int .i64 a] w fun e w' => e = .returned (.bool true) ∧ Below w.heap.size w w' := by
  have kt := fun w => tr_err hs h w
  clear h
  go_enter Tryd.func8, Tryd.ntmps8
  go_wp2_with (go_at_call 6; refine (kt _).mono ?_; rintro e w1 ⟨rfl, h1⟩)
  go_ret
  exact ⟨rfl, h1⟩

set_option maxRecDepth 1000000
theorem only_0 : toks [97, 47, 42, 98, 42, 47, 32, 47, 47, 32, 99] = .ok [⟨1, 0, ⟨#[97]⟩, 0⟩, ⟨0, 11, ⟨#[]⟩, 0⟩] := by kernel_rfl
theorem only_1 : toks [39, 97, 92, 34, 98, 39] = .ok [⟨4, 0, ⟨#[97, 34, 98]⟩, 0⟩, ⟨0, 6, ⟨#[]⟩, 0⟩] := by kernel_rfl
theorem only_2 : toks [34, 92, 120, 52, 49, 34] = .ok [⟨4, 0, ⟨#[65]⟩, 0⟩, ⟨0, 6, ⟨#[]⟩, 0⟩] := by kernel_rfl
theorem wrong_0 : toks [48, 49] = .err 0 5 := by kernel_rfl
theorem wrong_1 : toks [49, 97] = .err 0 5 := by kernel_rfl
theorem wrong_2 : toks [57, 48, 48, 55, 49, 57, 57, 50, 53, 52, 55, 52, 48, 57, 57, 50] = .err 0 5 := by kernel_rfl
theorem wrong_3 : toks [34, 97] = .err 0 5 := by kernel_rfl
theorem wrong_4 : toks [47, 42] = .err 0 5 := by kernel_rfl
theorem wrong_5 : toks [97, 35] = .err 1 5 := by kernel_rfl
theorem wrong_6 : toks [34, 97, 92, 113, 34] = .err 2 5 := by kernel_rfl
def twoA : List Tk := [⟨1, 0, ⟨#[97]⟩, 0⟩, ⟨5, 1, ⟨#[62, 62, 62]⟩, 0⟩, ⟨5, 4, ⟨#[61]⟩, 0⟩, ⟨1, 5, ⟨#[98]⟩, 0⟩, ⟨0, 6, ⟨#[]⟩, 0⟩]
def twoB : List Tk := [⟨1, 0, ⟨#[97]⟩, 0⟩, ⟨5, 1, ⟨#[61, 61, 61]⟩, 0⟩, ⟨1, 4, ⟨#[98]⟩, 0⟩, ⟨0, 5, ⟨#[]⟩, 0⟩]
theorem two_a : toks [97, 62, 62, 62, 61, 98] = .ok twoA := by kernel_rfl
theorem two_b : toks [97, 61, 61, 61, 98] = .ok twoB := by kernel_rfl
def letX : List Tk := [⟨2, 0, ⟨#[108, 101, 116]⟩, 0⟩, ⟨1, 0, ⟨#[120]⟩, 0⟩, ⟨0, 0, ⟨#[]⟩, 0⟩]
theorem good_let : GoodT ⟨2, 0, ⟨#[108, 101, 116]⟩, 0⟩ := ⟨Or.inr (Or.inr (Or.inr ⟨Or.inr (Or.inl rfl), zero_0, ⟨#[108, 101, 116]⟩, 0, by kernel_rfl⟩)), by decide, by decide⟩
theorem good_x : GoodT ⟨1, 0, ⟨#[120]⟩, 0⟩ := ⟨Or.inr (Or.inr (Or.inr ⟨Or.inl rfl, zero_0, ⟨#[120]⟩, 0, by kernel_rfl⟩)), by decide, by decide⟩
theorem letX_len : (joinL letX.dropLast).length = 5 := by kernel_rfl
theorem letX_may : MayP letX := told_may (b := [⟨2, 0, ⟨#[108, 101, 116]⟩, 0⟩, ⟨1, 0, ⟨#[120]⟩, 0⟩]) fun t ht => by
  rw [List.mem_cons, List.mem_singleton] at ht
  rcases ht with rfl | rfl
  · exact good_let
  · exact good_x
theorem letX_text : TextR letX [108, 101, 116, 32, 120] 0 := Or.inr (Or.inr (Or.inr ⟨by decide, letX_may, by rw [letX_len]; decide, by kernel_rfl, rfl⟩))
theorem letX_in : ∀ t ∈ letX, TkIn t := by
  intro t ht
  unfold letX at ht
  rw [List.mem_cons, List.mem_cons, List.mem_singleton] at ht
  rcases ht with rfl | rfl | rfl
  · exact good_in good_let.1 (by decide)
  · exact good_in good_x.1 (by decide)
  · exact ⟨by decide, by decide, by decide⟩
theorem letX_rda (w : World) : RdA (w.alloc (.cells #[.int .u8 2, .int .i64 0, .string ⟨#[108, 101, 116]⟩, .float .f64 0, .int .u8 1, .int .i64 0, .string ⟨#[120]⟩, .float .f64 0, .int .u8 0, .int .i64 0, .string ⟨#[]⟩, .float .f64 0] 28)) (some ⟨w.heap.size, 0, none⟩) letX := fun _ => by
  refine ⟨_, rfl, by simp, fun j hj => ?_⟩
  have e : (⟨w.heap.size, 0, none⟩ : Addr).add j = ⟨w.heap.size, j, none⟩ := by unfold Addr.add; split <;> simp_all
  rw [e, blk_cell (heap_alloc_new w _) j]
  match j with
  | 0 => rfl
  | 1 => rfl
  | 2 => rfl
  | 3 => rfl
  | 4 => rfl
  | 5 => rfl
  | 6 => rfl
  | 7 => rfl
  | 8 => rfl
  | 9 => rfl
  | 10 => rfl
  | 11 => rfl
  | j + 12 => exact absurd hj (by show ¬ j + 12 < 12; omega)
theorem none_text : TextR [] [] 5 := Or.inr (Or.inl ⟨by decide, fun h => h.1 rfl, rfl, rfl⟩)

set_option maxHeartbeats 8000000 in
theorem LexNames_walk (w : World) (htab : TabHere w) : Calls Tryd.prog 3 #[] w fun e w' => e = .returned (.bool true) ∧ Below w.heap.size w w' := by
  have HT := Lib.hid htab
  clear htab
  have kal := lexalive_any
  have kA := fun w => tr_ok (s := ⟨#[97, 62, 62, 62, 61, 98]⟩) (by decide) two_a w
  have kB := fun w => tr_ok (s := ⟨#[97, 61, 61, 61, 98]⟩) (by decide) two_b w
  have kO0 : ∀ w, Calls Tryd.prog 7 #[.string ⟨#[97, 47, 42, 98, 42, 47, 32, 47, 47, 32, 99]⟩, .int .u8 1, .string ⟨#[97]⟩] w (fun e w' => e = .returned (.bool true) ∧ Below w.heap.size w w') := fun w => only_yes ⟨#[97, 47, 42, 98, 42, 47, 32, 47, 47, 32, 99]⟩ 1 0 0 ⟨#[97]⟩ _ (by decide) only_0 w
  have kO1 : ∀ w, Calls Tryd.prog 7 #[.string ⟨#[39, 97, 92, 34, 98, 39]⟩, .int .u8 4, .string ⟨#[97, 34, 98]⟩] w (fun e w' => e = .returned (.bool true) ∧ Below w.heap.size w w') := fun w => only_yes ⟨#[39, 97, 92, 34, 98, 39]⟩ 4 0 0 ⟨#[97, 34, 98]⟩ _ (by decide) only_1 w
  have kO2 : ∀ w, Calls Tryd.prog 7 #[.string ⟨#[34, 92, 120, 52, 49, 34]⟩, .int .u8 4, .string ⟨#[65]⟩] w (fun e w' => e = .returned (.bool true) ∧ Below w.heap.size w w') := fun w => only_yes ⟨#[34, 92, 120, 52, 49, 34]⟩ 4 0 0 ⟨#[65]⟩ _ (by decide) only_2 w
  have kW0 := fun w => wrong_yes ⟨#[48, 49]⟩ 0 (by decide) wrong_0 w
  have kW1 := fun w => wrong_yes ⟨#[49, 97]⟩ 0 (by decide) wrong_1 w
  have kW2 := fun w => wrong_yes ⟨#[57, 48, 48, 55, 49, 57, 57, 50, 53, 52, 55, 52, 48, 57, 57, 50]⟩ 0 (by decide) wrong_2 w
  have kW3 := fun w => wrong_yes ⟨#[34, 97]⟩ 0 (by decide) wrong_3 w
  have kW4 := fun w => wrong_yes ⟨#[47, 42]⟩ 0 (by decide) wrong_4 w
  have kW5 := fun w => wrong_yes ⟨#[97, 35]⟩ 1 (by decide) wrong_5 w
  have kW6 := fun w => wrong_yes ⟨#[34, 97, 92, 113, 34]⟩ 2 (by decide) wrong_6 w
  have kX : ∀ w, TabHere w → Calls Tryd.prog 9 #[.slice (some ⟨w.heap.size, 0, none⟩) 3 3] (w.alloc (.cells #[.int .u8 2, .int .i64 0, .string ⟨#[108, 101, 116]⟩, .float .f64 0, .int .u8 1, .int .i64 0, .string ⟨#[120]⟩, .float .f64 0, .int .u8 0, .int .i64 0, .string ⟨#[]⟩, .float .f64 0] 28)) (fun e w' => e = .returned (.tuple #[.string ⟨#[108, 101, 116, 32, 120]⟩, .int .i64 0]) ∧ Below w.heap.size w w') := fun w hw => by
    have := Text_at letX (some ⟨w.heap.size, 0, none⟩) 3 _ (letX_rda w) letX_in (by decide) (by decide) (tab_below hw (zero_alloc w _)) _ _ letX_text ⟨#[108, 101, 116, 32, 120]⟩ rfl
    exact this.mono fun e w' ⟨he, hb⟩ => ⟨he, after_alloc hb⟩
  have kY : ∀ w, TabHere w → Calls Tryd.prog 9 #[.slice none 0 0] w (fun e w' => e = .returned (.tuple #[.string ⟨#[]⟩, .int .i64 5]) ∧ Below w.heap.size w w') := fun w hw =>
    Text_at [] none 0 w (fun h => absurd h (by decide)) (fun t ht => by cases ht) (by decide) (by decide) hw _ _ none_text ⟨#[]⟩ rfl
  have kP : ∀ w, Calls Tryd.prog 11 #[.string ⟨#[116, 121, 112, 101, 111, 102]⟩] w (fun e w' => e = .returned (.bool true) ∧ w = w') := fun w => lexWord_any ⟨#[116, 121, 112, 101, 111, 102]⟩ w
  have kQ : ∀ w, Calls Tryd.prog 11 #[.string ⟨#[111, 102]⟩] w (fun e w' => e = .returned (.bool false) ∧ w = w') := fun w => lexWord_any ⟨#[111, 102]⟩ w
  have kR : ∀ w, Calls Tryd.prog 12 #[.string ⟨#[62, 62, 62]⟩] w (fun e w' => e = .returned (.bool true) ∧ ∃ n, w' = w.drewN n) := fun w => lexSign_any ⟨#[62, 62, 62]⟩ w (by decide)
  have kS : ∀ w, Calls Tryd.prog 12 #[.string ⟨#[61, 62]⟩] w (fun e w' => e = .returned (.bool false) ∧ ∃ n, w' = w.drewN n) := fun w => lexSign_any ⟨#[61, 62]⟩ w (by decide)
  go_enter Tryd.func3, Tryd.ntmps3
  go_wp2_with (first
    | (go_at_call 6; ((with_reducible refine (kA _).mono ?_); rintro e w1 ⟨A1, q1, rfl, ht1⟩; obtain ⟨g1, cap1, hv1, hg1, hbg1, hc1⟩ := tb_cells ht1 (by decide); injection hv1 with hA1 hn1 hq1; subst hA1 hq1; have c1 : w1.cell? ⟨g1, 6, none⟩ = some (.string ⟨#[62, 62, 62]⟩) := hc1 6 (by decide); have c2 : w1.cell? ⟨g1, 10, none⟩ = some (.string ⟨#[61]⟩) := hc1 10 (by decide); have HB1 := Lib.hid ht1.2.1; clear hc1 ht1 hn1))
    | (go_at_call 6; ((with_reducible refine (kB _).mono ?_); rintro e w2 ⟨A2, q2, rfl, ht2⟩; obtain ⟨g2, cap2, hv2, hg2, hbg2, hc2⟩ := tb_cells ht2 (by decide); injection hv2 with hA2 hn2 hq2; subst hA2 hq2; have c3 : w2.cell? ⟨g2, 6, none⟩ = some (.string ⟨#[61, 61, 61]⟩) := hc2 6 (by decide); have c4 : w2.cell? ⟨g1, 6, none⟩ = some (.string ⟨#[62, 62, 62]⟩) := (ht2.2.1.cell (p := ⟨g1, 6, none⟩) hg1).trans c1; have c5 : w2.cell? ⟨g1, 10, none⟩ = some (.string ⟨#[61]⟩) := (ht2.2.1.cell (p := ⟨g1, 10, none⟩) hg1).trans c2; have HB2 := Lib.hid (below_up HB1.out ht2.2.1); clear hc2 ht2 hn2))
    | (go_at_call 7; ((with_reducible refine (kO0 _).mono ?_); rintro e w3 ⟨rfl, hb3⟩; have HB3 := Lib.hid (below_up HB2.out hb3); clear hb3))
    | (go_at_call 7; ((with_reducible refine (kO1 _).mono ?_); rintro e w4 ⟨rfl, hb4⟩; have HB4 := Lib.hid (below_up HB3.out hb4); clear hb4))
    | (go_at_call 7; ((with_reducible refine (kO2 _).mono ?_); rintro e w5 ⟨rfl, hb5⟩; have HB5 := Lib.hid (below_up HB4.out hb5); clear hb5))
    | (go_at_call 8; ((with_reducible refine (kW0 _).mono ?_); rintro e w6 ⟨rfl, hb6⟩; have HB6 := Lib.hid (below_up HB5.out hb6); clear hb6))
    | (go_at_call 8; ((with_reducible refine (kW1 _).mono ?_); rintro e w7 ⟨rfl, hb7⟩; have HB7 := Lib.hid (below_up HB6.out hb7); clear hb7))
    | (go_at_call 8; ((with_reducible refine (kW2 _).mono ?_); rintro e w8 ⟨rfl, hb8⟩; have HB8 := Lib.hid (below_up HB7.out hb8); clear hb8))
    | (go_at_call 8; ((with_reducible refine (kW3 _).mono ?_); rintro e w9 ⟨rfl, hb9⟩; have HB9 := Lib.hid (below_up HB8.out hb9); clear hb9))
    | (go_at_call 8; ((with_reducible refine (kW4 _).mono ?_); rintro e w10 ⟨rfl, hb10⟩; have HB10 := Lib.hid (below_up HB9.out hb10); clear hb10))
    | (go_at_call 8; ((with_reducible refine (kW5 _).mono ?_); rintro e w11 ⟨rfl, hb11⟩; have HB11 := Lib.hid (below_up HB10.out hb11); clear hb11))
    | (go_at_call 8; ((with_reducible refine (kW6 _).mono ?_); rintro e w12 ⟨rfl, hb12⟩; have HB12 := Lib.hid (below_up HB11.out hb12); clear hb12))
    | (go_at_call 9; ((with_reducible refine (kX _ (tab_below HT.out HB12.out)).mono ?_); rintro e w13 ⟨rfl, hb13⟩; have HB13 := Lib.hid (below_up HB12.out hb13); clear hb13))
    | (go_at_call 9; ((with_reducible refine (kY _ (tab_below HT.out HB13.out)).mono ?_); rintro e w14 ⟨rfl, hb14⟩; have HB14 := Lib.hid (below_up HB13.out hb14); clear hb14))
    | (go_at_call 10; refine (kal _).mono ?_; rintro e w15 ⟨rfl, hb15⟩; have HB15 := Lib.hid (below_up HB14.out hb15); clear hb15)
    | (go_at_call 11; ((with_reducible refine (kP _).mono ?_); rintro e w' ⟨rfl, rfl⟩))
    | (go_at_call 11; ((with_reducible refine (kQ _).mono ?_); rintro e w' ⟨rfl, rfl⟩))
    | (go_at_call 12; ((with_reducible refine (kR _).mono ?_); rintro e w' ⟨rfl, n1, rfl⟩))
    | (go_at_call 12; ((with_reducible refine (kS _).mono ?_); rintro e w' ⟨rfl, n2, rfl⟩)))
  go_ret
  first | exact ⟨rfl, below_draw2 HB15.out _⟩ | exact ⟨rfl, below_draw2 (below_draw2 HB15.out _) _⟩
end Go.Proofs.YtgjpcoplnpkmoaaDoor.S
