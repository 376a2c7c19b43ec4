/-
  NumNames: the sentence of the limits and the examples of package num: walks.
-/
import Derived.Test.YtggcepoolcfpgaaDoorNumAgainFin
namespace Go.Proofs.YtggcepoolcfpgaaDoor
open Go.RowKit Fl

def TellB (v : Nat) (k : Int) (w : World) (e : Ending) (w' : World) : Prop := e = .returned (.tuple #[.float .f64 v, .int .i64 k]) ∧ Below w.heap.size w w'
def TellN (w : World) (e : Ending) (w' : World) : Prop := ∃ v, FloatKind.f64.format.order v v = none ∧ e = .returned (.tuple #[.float .f64 v, .int .i64 0]) ∧ Below w.heap.size w w'
theorem tellB_ok {n : Int} {x : Nat} (hx : F n = x) {w : World} {e : Ending} {w' : World} (h : RetR (.ok n) w e w') : TellB x 0 w e w' := by
  obtain ⟨v, k, m, ⟨⟨rfl, _⟩, rfl⟩, h2, h3⟩ := h
  exact ⟨by rw [← hx]; exact h2, by rw [h3]; exact below_drawn _ _⟩
theorem tellB_err {n : Int} {w : World} {e : Ending} {w' : World} (h : RetR (.err n) w e w') : TellB 0 n w e w' := by
  obtain ⟨v, k, m, ⟨rfl, rfl⟩, h2, h3⟩ := h
  exact ⟨h2, by rw [h3]; exact below_drawn _ _⟩
theorem tellN_nan {w : World} {e : Ending} {w' : World} (h : RetR .nan w e w') : TellN w e w' := by
  obtain ⟨v, k, m, ⟨⟨_, hn⟩, rfl⟩, h2, h3⟩ := h
  exact ⟨v, order_nan_l v hn, h2, by rw [h3]; exact below_drawn _ _⟩
theorem readB_ok {n : Int} {x : Nat} (hx : F n = x) {w : World} {e : Ending} {w' : World} (h : RetRead (.ok n) w e w') : TellB x 0 w e w' := by
  obtain ⟨v, k, ⟨⟨rfl, _⟩, rfl⟩, h2, h3⟩ := h
  exact ⟨by rw [← hx]; exact h2, h3⟩
theorem readB_err {n : Int} {w : World} {e : Ending} {w' : World} (h : RetRead (.err n) w e w') : TellB 0 n w e w' := by
  obtain ⟨v, k, ⟨rfl, rfl⟩, h2, h3⟩ := h
  exact ⟨h2, h3⟩
theorem readN_nan {w : World} {e : Ending} {w' : World} (h : RetRead .nan w e w') : TellN w e w' := by
  obtain ⟨v, k, ⟨⟨_, hn⟩, rfl⟩, h2, h3⟩ := h
  exact ⟨v, order_nan_l v hn, h2, h3⟩

theorem nm1 (w : World) : Calls Tryd.prog 6 #[.float .f64 4845873199050653694, .float .f64 4607182418800017408] w (TellB 4845873199050653695 0 w) := by
  refine (Add_cls (show Is (.ours (9007199254740990)) 4845873199050653694 from ⟨by decide, by unfold SafeN; omega⟩) (show Is (.ours (1)) 4607182418800017408 from ⟨by decide, by unfold SafeN; omega⟩) w).mono fun e w' h => ?_
  have h : RetR (.ok (9007199254740991)) w e w' := h
  exact tellB_ok (by decide) h

theorem nm2 (w : World) : Calls Tryd.prog 7 #[.float .f64 0, .float .f64 13840687554816376832] w (TellB 0 10 w) := by
  refine (Mul_cls (show Is (.ours (0)) 0 from ⟨by decide, by unfold SafeN; omega⟩) (show Is (.ours (-5)) 13840687554816376832 from ⟨by decide, by unfold SafeN; omega⟩) w).mono fun e w' h => ?_
  have h : RetR (.err 10) w e w' := h
  exact tellB_err h

theorem nm3 (w : World) : Calls Tryd.prog 8 #[.float .f64 0] w (TellB 0 10 w) := by
  refine (Neg_cls (show Is (.ours (0)) 0 from ⟨by decide, by unfold SafeN; omega⟩) w).mono fun e w' h => ?_
  have h : RetR (.err 10) w e w' := h
  exact tellB_err h

theorem nm4 (w : World) : Calls Tryd.prog 9 #[.float .f64 4607182418800017408, .float .f64 0] w (TellB 0 10 w) := by
  refine (Div_cls (show Is (.ours (1)) 4607182418800017408 from ⟨by decide, by unfold SafeN; omega⟩) (show Is (.ours (0)) 0 from ⟨by decide, by unfold SafeN; omega⟩) w).mono fun e w' h => ?_
  have h : RetR (.err 10) w e w' := h
  exact tellB_err h

theorem nm5 (w : World) : Calls Tryd.prog 9 #[.float .f64 0, .float .f64 0] w (TellN w) := by
  refine (Div_cls (show Is (.ours (0)) 0 from ⟨by decide, by unfold SafeN; omega⟩) (show Is (.ours (0)) 0 from ⟨by decide, by unfold SafeN; omega⟩) w).mono fun e w' h => ?_
  have h : RetR (.nan) w e w' := h
  exact tellN_nan h

theorem nm6 (w : World) : Calls Tryd.prog 9 #[.float .f64 4619567317775286272, .float .f64 4611686018427387904] w (TellB 0 10 w) := by
  refine (Div_cls (show Is (.ours (7)) 4619567317775286272 from ⟨by decide, by unfold SafeN; omega⟩) (show Is (.ours (2)) 4611686018427387904 from ⟨by decide, by unfold SafeN; omega⟩) w).mono fun e w' h => ?_
  have h : RetR (.err 10) w e w' := h
  exact tellB_err h

theorem nm7 (w : World) : Calls Tryd.prog 9 #[.float .f64 13841813454723219456, .float .f64 4611686018427387904] w (TellB 13837309855095848960 0 w) := by
  refine (Div_cls (show Is (.ours (-6)) 13841813454723219456 from ⟨by decide, by unfold SafeN; omega⟩) (show Is (.ours (2)) 4611686018427387904 from ⟨by decide, by unfold SafeN; omega⟩) w).mono fun e w' h => ?_
  have h : RetR (.ok (-3)) w e w' := h
  exact tellB_ok (by decide) h

theorem nm8 (w : World) : Calls Tryd.prog 11 #[.float .f64 13842939354630062080, .float .f64 4611686018427387904] w (TellB 13830554455654793216 0 w) := by
  refine (Rem_cls (show Is (.ours (-7)) 13842939354630062080 from ⟨by decide, by unfold SafeN; omega⟩) (show Is (.ours (2)) 4611686018427387904 from ⟨by decide, by unfold SafeN; omega⟩) w).mono fun e w' h => ?_
  have h : RetR (.ok (-1)) w e w' := h
  exact tellB_ok (by decide) h

theorem nm9 (w : World) : Calls Tryd.prog 11 #[.float .f64 13839561654909534208, .float .f64 4611686018427387904] w (TellB 0 10 w) := by
  refine (Rem_cls (show Is (.ours (-4)) 13839561654909534208 from ⟨by decide, by unfold SafeN; omega⟩) (show Is (.ours (2)) 4611686018427387904 from ⟨by decide, by unfold SafeN; omega⟩) w).mono fun e w' h => ?_
  have h : RetR (.err 10) w e w' := h
  exact tellB_err h

theorem nm10 (w : World) : Calls Tryd.prog 11 #[.float .f64 4619567317775286272, .float .f64 13835058055282163712] w (TellB 4607182418800017408 0 w) := by
  refine (Rem_cls (show Is (.ours (7)) 4619567317775286272 from ⟨by decide, by unfold SafeN; omega⟩) (show Is (.ours (-2)) 13835058055282163712 from ⟨by decide, by unfold SafeN; omega⟩) w).mono fun e w' h => ?_
  have h : RetR (.ok (1)) w e w' := h
  exact tellB_ok (by decide) h

theorem nm11 (w : World) : Calls Tryd.prog 11 #[.float .f64 4619567317775286272, .float .f64 0] w (TellN w) := by
  refine (Rem_cls (show Is (.ours (7)) 4619567317775286272 from ⟨by decide, by unfold SafeN; omega⟩) (show Is (.ours (0)) 0 from ⟨by decide, by unfold SafeN; omega⟩) w).mono fun e w' h => ?_
  have h : RetR (.nan) w e w' := h
  exact tellN_nan h

theorem nm12 (w : World) : Calls Tryd.prog 12 #[.int .u8 60, .float .f64 4607182418800017408, .float .f64 4629418941960159232] w (TellB 13970166044103278592 0 w) := by
  refine (Bits_cls 60 (show Is (.ours (1)) 4607182418800017408 from ⟨by decide, by unfold SafeN; omega⟩) (show Is (.ours (31)) 4629418941960159232 from ⟨by decide, by unfold SafeN; omega⟩) (by omega) (by omega) w).mono fun e w' h => ?_
  have er : bitsR 60 (.ours (1)) (.ours (31)) = .ok (-2147483648) := by first | rfl | decide | (simp [bitsR, mayC, codeB, bitsI, intC, wholeI, wrap32]; done)
  rw [er] at h
  exact tellB_ok (by decide) h

theorem nm13 (w : World) : Calls Tryd.prog 12 #[.int .u8 62, .float .f64 13844065254536904704, .float .f64 4607182418800017408] w (TellB 13839561654909534208 0 w) := by
  refine (Bits_cls 62 (show Is (.ours (-8)) 13844065254536904704 from ⟨by decide, by unfold SafeN; omega⟩) (show Is (.ours (1)) 4607182418800017408 from ⟨by decide, by unfold SafeN; omega⟩) (by omega) (by omega) w).mono fun e w' h => ?_
  have er : bitsR 62 (.ours (-8)) (.ours (1)) = .ok (-4) := by first | rfl | decide | (simp [bitsR, mayC, codeB, bitsI, intC, wholeI, wrap32]; done)
  rw [er] at h
  exact tellB_ok (by decide) h

theorem nm14 (w : World) : Calls Tryd.prog 12 #[.int .u8 117, .float .f64 13830554455654793216, .float .f64 0] w (TellB 4751297606873776128 0 w) := by
  refine (Bits_cls 117 (show Is (.ours (-1)) 13830554455654793216 from ⟨by decide, by unfold SafeN; omega⟩) (show Is (.ours (0)) 0 from ⟨by decide, by unfold SafeN; omega⟩) (by omega) (by omega) w).mono fun e w' h => ?_
  have er : bitsR 117 (.ours (-1)) (.ours (0)) = .ok (4294967295) := by first | rfl | decide | (simp [bitsR, mayC, codeB, bitsI, intC, wholeI, wrap32]; done)
  rw [er] at h
  exact tellB_ok (by decide) h

theorem nm15 (w : World) : Calls Tryd.prog 12 #[.int .u8 120, .float .f64 4607182418800017408, .float .f64 4607182418800017408] w (TellB 0 2 w) := by
  refine (Bits_cls 120 (show Is (.ours (1)) 4607182418800017408 from ⟨by decide, by unfold SafeN; omega⟩) (show Is (.ours (1)) 4607182418800017408 from ⟨by decide, by unfold SafeN; omega⟩) (by omega) (by omega) w).mono fun e w' h => ?_
  have er : bitsR 120 (.ours (1)) (.ours (1)) = .err 2 := by first | rfl | decide | (simp [bitsR, mayC, codeB, bitsI, intC, wholeI, wrap32]; done)
  rw [er] at h
  exact tellB_err h

theorem rd16 : readR [32, 48, 48, 55, 32] = .ok (7) := by
  first | rfl | decide | decide +kernel

theorem nm16 (w : World) : Calls Tryd.prog 13 #[.string ⟨#[32, 48, 48, 55, 32]⟩] w (TellB 4619567317775286272 0 w) := by
  refine (Read_any ⟨#[32, 48, 48, 55, 32]⟩ w (by decide)).mono fun e w' h => ?_
  have h : RetRead (readR [32, 48, 48, 55, 32]) w e w' := h
  rw [rd16] at h
  exact readB_ok (by decide) h

theorem rd17 : readR [45, 48] = .err 10 := by
  first | rfl | decide | decide +kernel

theorem nm17 (w : World) : Calls Tryd.prog 13 #[.string ⟨#[45, 48]⟩] w (TellB 0 10 w) := by
  refine (Read_any ⟨#[45, 48]⟩ w (by decide)).mono fun e w' h => ?_
  have h : RetRead (readR [45, 48]) w e w' := h
  rw [rd17] at h
  exact readB_err h

theorem rd18 : readR [49, 46, 53] = .nan := by
  first | rfl | decide | decide +kernel

theorem nm18 (w : World) : Calls Tryd.prog 13 #[.string ⟨#[49, 46, 53]⟩] w (TellN w) := by
  refine (Read_any ⟨#[49, 46, 53]⟩ w (by decide)).mono fun e w' h => ?_
  have h : RetRead (readR [49, 46, 53]) w e w' := h
  rw [rd18] at h
  exact readN_nan h

theorem rd19 : readR [] = .ok (0) := by
  first | rfl | decide | decide +kernel

theorem nm19 (w : World) : Calls Tryd.prog 13 #[.string ⟨#[]⟩] w (TellB 0 0 w) := by
  refine (Read_any ⟨#[]⟩ w (by decide)).mono fun e w' h => ?_
  have h : RetRead (readR []) w e w' := h
  rw [rd19] at h
  exact readB_ok (by decide) h

theorem rd20 : readR [57, 48, 48, 55, 49, 57, 57, 50, 53, 52, 55, 52, 48, 57, 57, 50] = .err 10 := by
  first | rfl | decide | decide +kernel

theorem nm20 (w : World) : Calls Tryd.prog 13 #[.string ⟨#[57, 48, 48, 55, 49, 57, 57, 50, 53, 52, 55, 52, 48, 57, 57, 50]⟩] w (TellB 0 10 w) := by
  refine (Read_any ⟨#[57, 48, 48, 55, 49, 57, 57, 50, 53, 52, 55, 52, 48, 57, 57, 50]⟩ w (by decide)).mono fun e w' h => ?_
  have h : RetRead (readR [57, 48, 48, 55, 49, 57, 57, 50, 53, 52, 55, 52, 48, 57, 57, 50]) w e w' := h
  rw [rd20] at h
  exact readB_err h

theorem is_half : Is .other 4602678819172646912 := ⟨by decide, Or.inr (Or.inl (by unfold Frac IsFin; decide +kernel))⟩
theorem itoa_m12 : Lib.itoa (-12) = [45, 49, 50] := by
  unfold Lib.itoa
  rw [if_pos (by decide)]
  show 45 :: Lib.decDigits 12 = _
  rw [decDigits_big 12 (by omega), decDigits_one (12 / 10) (by omega)]
  rfl
theorem nmT1 (w : World) (ht : Lib.TabIs Tryd.prog w "internal/strconv.uint64pow10" .u64 Lib.pow10Tab) : Calls Tryd.prog 14 #[.float .f64 13846317054350589952] w fun e w' => e = .returned (.string ⟨#[45, 49, 50]⟩) ∧ Below w.heap.size w w' := by
  refine (Text_cls (show Is (.ours (-12)) 13846317054350589952 from ⟨by decide, by unfold SafeN; omega⟩) w ht).mono ?_
  rintro e w' ⟨t, h1, h2, h3⟩
  have h1 : t.data.toList = Lib.itoa (-12) := h1
  rw [itoa_m12] at h1
  have ht : t = ⟨#[45, 49, 50]⟩ := bytes_ext h1
  exact ⟨by rw [h2, ht], h3⟩
theorem nmT2 (w : World) (ht : Lib.TabIs Tryd.prog w "internal/strconv.uint64pow10" .u64 Lib.pow10Tab) : Calls Tryd.prog 14 #[.float .f64 4602678819172646912] w fun e w' => e = .returned (.string ⟨#[]⟩) ∧ Below w.heap.size w w' := by
  refine (Text_cls is_half w ht).mono ?_
  rintro e w' ⟨t, h1, h2, h3⟩
  have ht : t = ⟨#[]⟩ := bytes_ext h1
  exact ⟨by rw [h2, ht], h3⟩

set_option maxHeartbeats 4000000 in
set_option maxRecDepth 100000 in
theorem NumNames_walk (w : World) (htab : TabHere w) :
    Calls Tryd.prog 3 #[] w fun e w' => e = .returned (.bool true) ∧ Below w.heap.size w w' := by
  have HT : ∀ u, Below w.heap.size w u → Lib.TabIs Tryd.prog u "internal/strconv.uint64pow10" .u64 Lib.pow10Tab := fun u h => htab _ h
  clear htab
  have B : Hid (Below w.heap.size w w) := Lib.hid (Below.refl _ _)
  have oA : FloatKind.f64.format.order 4845873199050653695 4845873199050653695 = some .eq := by decide
  have oB : FloatKind.f64.format.order 13837309855095848960 13837309855095848960 = some .eq := by decide
  have oC : FloatKind.f64.format.order 13830554455654793216 13830554455654793216 = some .eq := by decide
  have oD : FloatKind.f64.format.order 4607182418800017408 4607182418800017408 = some .eq := by decide
  have oE : FloatKind.f64.format.order 13970166044103278592 13970166044103278592 = some .eq := by decide
  have oF : FloatKind.f64.format.order 13839561654909534208 13839561654909534208 = some .eq := by decide
  have oG : FloatKind.f64.format.order 4751297606873776128 4751297606873776128 = some .eq := by decide
  have oH : FloatKind.f64.format.order 4619567317775286272 4619567317775286272 = some .eq := by decide
  have oI : FloatKind.f64.format.order 0 0 = some .eq := by decide
  go_enter Tryd.func3, Tryd.ntmps3
  go_wp2_with (first
    | (go_at_call 15; refine (alive_any _).mono ?_; rintro e w' ⟨na, rfl, rfl⟩; have B := Lib.hid (below_draw2 B.out na))
    | (go_at_call 10; refine (lawnone_any _ _).mono ?_; rintro e w' ⟨rfl, rfl⟩)
    | (go_at_call 6; ((with_reducible refine (nm1 _).mono ?_); rintro e w1 ⟨rfl, b1⟩; have B := Lib.hid (below_size B.out b1); clear b1))
    | (go_at_call 7; ((with_reducible refine (nm2 _).mono ?_); rintro e w2 ⟨rfl, b2⟩; have B := Lib.hid (below_size B.out b2); clear b2))
    | (go_at_call 8; ((with_reducible refine (nm3 _).mono ?_); rintro e w3 ⟨rfl, b3⟩; have B := Lib.hid (below_size B.out b3); clear b3))
    | (go_at_call 9; ((with_reducible refine (nm4 _).mono ?_); rintro e w4 ⟨rfl, b4⟩; have B := Lib.hid (below_size B.out b4); clear b4))
    | (go_at_call 9; ((with_reducible refine (nm5 _).mono ?_); rintro e w5 ⟨v5, o5, rfl, b5⟩; have B := Lib.hid (below_size B.out b5); clear b5))
    | (go_at_call 9; ((with_reducible refine (nm6 _).mono ?_); rintro e w6 ⟨rfl, b6⟩; have B := Lib.hid (below_size B.out b6); clear b6))
    | (go_at_call 9; ((with_reducible refine (nm7 _).mono ?_); rintro e w7 ⟨rfl, b7⟩; have B := Lib.hid (below_size B.out b7); clear b7))
    | (go_at_call 11; ((with_reducible refine (nm8 _).mono ?_); rintro e w8 ⟨rfl, b8⟩; have B := Lib.hid (below_size B.out b8); clear b8))
    | (go_at_call 11; ((with_reducible refine (nm9 _).mono ?_); rintro e w9 ⟨rfl, b9⟩; have B := Lib.hid (below_size B.out b9); clear b9))
    | (go_at_call 11; ((with_reducible refine (nm10 _).mono ?_); rintro e w10 ⟨rfl, b10⟩; have B := Lib.hid (below_size B.out b10); clear b10))
    | (go_at_call 11; ((with_reducible refine (nm11 _).mono ?_); rintro e w11 ⟨v11, o11, rfl, b11⟩; have B := Lib.hid (below_size B.out b11); clear b11))
    | (go_at_call 12; ((with_reducible refine (nm12 _).mono ?_); rintro e w12 ⟨rfl, b12⟩; have B := Lib.hid (below_size B.out b12); clear b12))
    | (go_at_call 12; ((with_reducible refine (nm13 _).mono ?_); rintro e w13 ⟨rfl, b13⟩; have B := Lib.hid (below_size B.out b13); clear b13))
    | (go_at_call 12; ((with_reducible refine (nm14 _).mono ?_); rintro e w14 ⟨rfl, b14⟩; have B := Lib.hid (below_size B.out b14); clear b14))
    | (go_at_call 12; ((with_reducible refine (nm15 _).mono ?_); rintro e w15 ⟨rfl, b15⟩; have B := Lib.hid (below_size B.out b15); clear b15))
    | (go_at_call 13; ((with_reducible refine (nm16 _).mono ?_); rintro e w16 ⟨rfl, b16⟩; have B := Lib.hid (below_size B.out b16); clear b16))
    | (go_at_call 13; ((with_reducible refine (nm17 _).mono ?_); rintro e w17 ⟨rfl, b17⟩; have B := Lib.hid (below_size B.out b17); clear b17))
    | (go_at_call 13; ((with_reducible refine (nm18 _).mono ?_); rintro e w18 ⟨v18, o18, rfl, b18⟩; have B := Lib.hid (below_size B.out b18); clear b18))
    | (go_at_call 13; ((with_reducible refine (nm19 _).mono ?_); rintro e w19 ⟨rfl, b19⟩; have B := Lib.hid (below_size B.out b19); clear b19))
    | (go_at_call 13; ((with_reducible refine (nm20 _).mono ?_); rintro e w20 ⟨rfl, b20⟩; have B := Lib.hid (below_size B.out b20); clear b20))
    | (go_at_call 14; ((with_reducible refine (nmT1 _ (HT _ B.out)).mono ?_); rintro e wT1 ⟨rfl, bT1⟩; have B := Lib.hid (below_size B.out bT1); clear bT1))
    | (go_at_call 14; ((with_reducible refine (nmT2 _ (HT _ B.out)).mono ?_); rintro e wT2 ⟨rfl, bT2⟩; have B := Lib.hid (below_size B.out bT2); clear bT2)))
  go_ret
  refine ⟨?_, B.out⟩
  rfl
end Go.Proofs.YtggcepoolcfpgaaDoor
