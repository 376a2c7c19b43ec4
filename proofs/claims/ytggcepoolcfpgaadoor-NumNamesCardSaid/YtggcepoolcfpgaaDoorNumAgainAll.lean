/-
  NumAgain, walked, for every two floats.
-/
import Derived.Test.YtggcepoolcfpgaaDoorNumAgain
namespace Go.Proofs.YtggcepoolcfpgaaDoor
open Go.RowKit Fl

theorem bits_ok (op : Int) (hop : 0 ≤ op ∧ op ≤ 255) (hc : codeB op = true) {c d : Cl} {x y : Nat} (h : Is c x) (g : Is d y) (hm : (mayC c && mayC d) = true) (w : World) :
    Calls Tryd.prog 12 #[.int .u8 op, .float .f64 x, .float .f64 y] w (OkAt (F (bitsI op (intC c) (intC d))) w) := by
  refine (Bits_cls op h g hop.1 hop.2 w).mono fun e w' hr => okAt rfl ?_
  have e1 : bitsR op c d = .ok (bitsI op (intC c) (intC d)) := by unfold bitsR; rw [if_pos hm, if_pos hc]
  rw [e1] at hr; exact hr

theorem itoa_len (n : Int) (h : SafeN n) : (Lib.itoa n).length ≤ 9007199254740993 := by
  obtain ⟨h1, h2⟩ := h
  unfold Lib.itoa
  split
  · rw [List.length_cons]; have := decDigits_len n.natAbs; omega
  · have := decDigits_len n.toNat; omega

/-- what is asked of the first float alone: its text is read as it was -/
def ReadTo (x : Nat) (t : ByteArray) : Prop := ∀ w, Calls Tryd.prog 13 #[.string t] w fun e w' => ∃ v, (FloatKind.f64.format.order v v = FloatKind.f64.format.order x x ∧ (FloatKind.f64.format.order x x = some .eq → v = x)) ∧ e = .returned (.tuple #[.float .f64 v, .int .i64 0]) ∧ Below w.heap.size w w'

theorem read_text {c : Cl} {x : Nat} (h : Is c x) (hm : mayC c = true) (t : ByteArray) (ht : t.data.toList = textL c) : ReadTo x t := by
  intro w
  have hsz : t.size ≤ maxLen := by
    rw [size_len, ht]; unfold maxLen
    cases c with
    | nan => decide
    | other => cases hm
    | ours n => have := itoa_len n h.2; show (Lib.itoa n).length ≤ _; omega
  refine (Read_any t w hsz).mono fun e w' ⟨v, k, he, hr, hb⟩ => ?_
  rw [ht] at he
  cases c with
  | other => cases hm
  | nan =>
    rw [show textL .nan = [78, 97, 78] from rfl, readR_nan] at he
    obtain ⟨⟨_, hn⟩, rfl⟩ := he
    refine ⟨v, ⟨?_, fun e => ?_⟩, hr, hb⟩
    · rw [show FloatKind.f64.format.order v v = none from order_nan_l v hn, show FloatKind.f64.format.order x x = none from order_nan_l x h.2]
    · rw [show FloatKind.f64.format.order x x = none from order_nan_l x h.2] at e; cases e
  | ours n =>
    rw [show textL (.ours n) = Lib.itoa n from rfl, readR_itoa n h.2] at he
    obtain ⟨⟨rfl, _⟩, rfl⟩ := he
    rw [h.1]
    exact ⟨F n, ⟨rfl, fun _ => rfl⟩, by rw [← h.1]; rw [h.1]; exact hr, hb⟩

def ReadX (x : Nat) (t : ByteArray) : Prop := ∀ w, Calls Tryd.prog 13 #[.string t] w fun e w' => e = .returned (.tuple #[.float .f64 x, .int .i64 0]) ∧ Below w.heap.size w w'
theorem readX {x : Nat} {t : ByteArray} (h : ReadTo x t) (hx : FloatKind.f64.format.order x x = some .eq) : ReadX x t := fun w => (h w).mono fun e w' ⟨v, ⟨_, h2⟩, he, hb⟩ => ⟨by rw [he, h2 hx], hb⟩

theorem NumAgain_in {c d : Cl} {x y : Nat} (h : Is c x) (g : Is d y) (hc : mayC c = true) (hd : mayC d = true) (w : World) (htab : TabHere w) :
    Calls Tryd.prog 5 #[.float .f64 x, .float .f64 y] w fun e w' => e = .returned (.bool true) ∧ Below w.heap.size w w' := by
  have m1 := fun w => May_cls h w
  have m2 := fun w => May_cls g w
  rw [hc] at m1
  rw [hd] at m2
  have hm : (mayC c && mayC d) = true := by rw [hc, hd]; rfl
  have ha := intC_in c
  have hb := intC_in d
  have hx := self_cls h
  have b1 := fun w => bits_ok 94 (by omega) (by decide) h g hm w
  have b3 := fun w => bits_ok 38 (by omega) (by decide) h g hm w
  have b4 := fun w => bits_ok 124 (by omega) (by decide) h g hm w
  have hxs : SafeN (bits .xor .i32 (intC c) (intC d)) := bitsI_safe 94 (intC c) (intC d) ha
  have hxr := wrap_i32_in ((BitVec.ofInt 32 (intC c) ^^^ BitVec.ofInt 32 (intC d)).toNat : Int)
  have hwx : intC (.ours (bits .xor .i32 (intC c) (intC d))) = bits .xor .i32 (intC c) (intC d) := by
    show wrap32 (bits .xor .i32 (intC c) (intC d)) = _
    have e : bits .xor .i32 (intC c) (intC d) = IntKind.i32.wrap ((BitVec.ofInt 32 (intC c) ^^^ BitVec.ofInt 32 (intC d)).toNat : Int) := rfl
    rw [e]; unfold wrap32; omega
  have b2 := fun w => bits_ok 94 (by omega) (by decide) (is_ours hxs) g (by rw [hd]; rfl) w
  have e2 : bitsI 94 (intC (.ours (bits .xor .i32 (intC c) (intC d)))) (intC d) = intC c := by
    rw [hwx]; exact xor_back _ _ ha
  rw [e2] at b2
  have i1 := fun w => Int_cls h w
  have i2 := fun w => Int_cls g w
  have hT := fun w ht => Text_cls h w ht
  have hRT := fun t ht => read_text h hc t ht
  have hsum := and_or_sum (intC c) (intC d) ha hb
  have s1 : floatBits .add .f64 (floatOfInt .f64 (intC c)) (floatOfInt .f64 (intC d)) = some (F (intC c + intC d)) := F_sum _ _ ha hb
  have hand := wrap_i32_in ((BitVec.ofInt 32 (intC c) &&& BitVec.ofInt 32 (intC d)).toNat : Int)
  have hor := wrap_i32_in ((BitVec.ofInt 32 (intC c) ||| BitVec.ofInt 32 (intC d)).toNat : Int)
  have s2 : floatBits .add .f64 (F (bitsI 38 (intC c) (intC d))) (F (bitsI 124 (intC c) (intC d))) = some (F (intC c + intC d)) := by
    rw [← hsum]
    exact F_sum (bits .and .i32 (intC c) (intC d)) (bits .or .i32 (intC c) (intC d)) hand hor
  have o1 : FloatKind.f64.format.order (F (intC c + intC d)) (F (intC c + intC d)) = some .eq := order_self (not_nan_F _ (by omega))
  have o2 : FloatKind.f64.format.order (F (intC c)) (F (intC c)) = some .eq := order_self (not_nan_F _ (by omega))
  have q1 := fun w => run_float_arith (P := Tryd.prog) w .add 22 .f64 _ _ _ s1
  have q2 := fun w => run_float_arith (P := Tryd.prog) w .add 22 .f64 _ _ _ s2
  have hso : selfO c = none ∨ selfO c = some .eq := by cases c <;> first | exact Or.inl rfl | exact Or.inr rfl
  clear hxr hwx hand hor hsum s1 s2 ha hb e2 hxs hm
  generalize F (intC c + intC d) = fS at *
  generalize F (bitsI 38 (intC c) (intC d)) = fA at *
  generalize F (bitsI 124 (intC c) (intC d)) = fO at *
  have b1' : ∀ w, Calls Tryd.prog 12 #[.int .u8 94, .float .f64 x, .float .f64 y] w (OkAt (F (bits .xor .i32 (intC c) (intC d))) w) := b1
  clear b1
  generalize F (bits .xor .i32 (intC c) (intC d)) = fX at *
  generalize intC c = a at *
  generalize intC d = b at *
  have HTAB := Lib.hid htab
  have HRT := Lib.hid hRT
  clear htab h g hRT
  generalize textL c = l at *
  rcases hso with hso | hso
  all_goals
    rw [hso] at hx
    have HRX : Hid (FloatKind.f64.format.order x x = some .eq → ∀ t, t.data.toList = l → ReadX x t) := Lib.hid (fun e t ht => readX (HRT.out t ht) e)
    clear hso hc hd
    go_enter Tryd.func5, Tryd.ntmps5
    go_wp2_with (first
      | (go_at_call 15; refine (alive_any _).mono ?_; rintro e w' ⟨n1, rfl, rfl⟩)
      | (go_at_call 19; ((with_reducible refine (m1 _).mono ?_); rintro e w' ⟨rfl, rfl⟩))
      | (go_at_call 19; ((with_reducible refine (m2 _).mono ?_); rintro e w' ⟨rfl, rfl⟩))
      | (go_at_call 14; refine (hT _ (HTAB.out _ (below_drawn _ _))).mono ?_; rintro e w3 ⟨t1, h1, rfl, b3⟩; (first | have R1 := Lib.hid (HRX.out hx t1 h1) | have R1 := Lib.hid (HRT.out t1 h1)); have B3 := Lib.hid b3; clear h1 b3)
      | (go_at_call 13; refine (R1.out _).mono ?_; (first | (rintro e w4 ⟨v, ⟨hv1, hv2⟩, rfl, b4⟩; rw [hx] at hv1; clear hv2; have B4 := Lib.hid b4; clear b4) | (rintro e w4 ⟨rfl, b4⟩; have B4 := Lib.hid b4; clear b4)))
      | (go_at_call 10; refine (lawnone_any _ _).mono ?_; rintro e w' ⟨rfl, rfl⟩)
      | (go_at_call 12; ((with_reducible refine (b1' _).mono ?_); rintro e w' ⟨p1, rfl, rfl⟩))
      | (go_at_call 12; ((with_reducible refine (b2 _).mono ?_); rintro e w' ⟨p2, rfl, rfl⟩))
      | (go_at_call 12; ((with_reducible refine (b3 _).mono ?_); rintro e w' ⟨p3, rfl, rfl⟩))
      | (go_at_call 12; ((with_reducible refine (b4 _).mono ?_); rintro e w' ⟨p4, rfl, rfl⟩))
      | (go_at_call 20; ((with_reducible refine (i1 _).mono ?_); rintro e w' ⟨rfl, rfl⟩))
      | (go_at_call 20; ((with_reducible refine (i2 _).mono ?_); rintro e w' ⟨rfl, rfl⟩)))
    go_ret
    exact ⟨rfl, below_draw2 (below_size (below_size (below_drawn _ _) B3.out) B4.out) _⟩
end Go.Proofs.YtggcepoolcfpgaaDoor
