/-
  LexBack: the walk where the text has tokens.
-/
import Derived.Test.YtgjpcoplnpkmoaaDoorLexBackWalk
import Derived.IntWalk
import Derived.Deep.CutRange
import Derived.Deep.DeepCutAuto
namespace Go.Proofs.YtgjpcoplnpkmoaaDoor.S
open Go.RowKit Fl

set_option maxHeartbeats 4000000 in
set_option maxRecDepth 1000000 in
theorem back_ok (s : ByteArray) (l : List Tk) (A : Option Addr) (cap : Nat) (w : World) (hm : s.size ≤ 3000) (hr : RdA w A l) (hin : ∀ t ∈ l, TkIn t) (hl : l.length ≤ 1000) (hcap : l.length ≤ cap) (htab : TabHere w)
    (R : List Tk) (h : toks s.data.toList = .ok R) :
    Calls Tryd.prog 4 #[.string s, .slice A l.length cap] w (RestTo w) := by
  have kt := fun w => tr_ok (by omega) h w
  have hat := fun k hk => told_at h k hk
  obtain ⟨hRin, hRmay, hRlen⟩ := told_in h
  have kal := lexalive_any
  have HR := Lib.hid hr
  have HT := Lib.hid htab
  have HIN := Lib.hid hin
  have HAT := Lib.hid hat
  have HRIN := Lib.hid hRin
  have HRMAY := Lib.hid hRmay
  clear hr hin htab h hat hRin hRmay
  go_enter Tryd.func4, Tryd.ntmps4
  go_wp2_with (first
    | (go_at_call 10; refine (kal _).mono ?_; rintro e w1 ⟨rfl, hb1⟩; have HB1 := Lib.hid hb1; clear hb1)
    | (go_at_call 6; refine (kt _).mono ?_; rintro e w2 ⟨A1, c1, rfl, ht2⟩; have HB2 := Lib.hid (below_up HB1.out ht2.2.1); have HRD := Lib.hid (rda_tb ht2); have hc1 := tb_cap ht2; clear ht2))
  go_loopw [9] (fun i wr => ∃ k : Nat, k ≤ R.length ∧ i = .int .i64 k ∧ Hid (Below w2.heap.size w2 wr)) (fun i _ => R.length - (intOf i).toNat)
  case atStart => exact ⟨0, Nat.zero_le _, rfl, Lib.hid (Below.refl _ _)⟩
  case round =>
    obtain ⟨k, hk, rfl, H⟩ := hrel
    by_cases hlt : k < R.length
    · obtain ⟨p, hp, hps, hprev, hkind, hplain⟩ := HAT.out k hlt
      obtain ⟨a, rfl, hab, a0, a1, a2, a3⟩ := rda_cells (rda_up HRD.out H.out) k hlt
      have hst := store_f
      have hkd : R[k].kind = 0 ∨ (R[k].kind = 1 ∨ R[k].kind = 2 ∨ R[k].kind = 5) ∨ (R[k].kind = 3 ∨ R[k].kind = 4) := by
        rcases (may_at HRMAY.out k hlt).1 with ⟨e, _⟩ | ⟨e, _⟩ | ⟨e, _⟩ | ⟨e, _⟩ <;> omega
      have hq : ∃ q : Int, q < (p : Int) ∧ (0 < k → wr.cell? ⟨(a.add ((k - 1) * 4)).block, (a.add ((k - 1) * 4)).off + 1, none⟩ = some (.int .i64 q)) := by
        by_cases hk0 : 0 < k
        · obtain ⟨b, hb, _, _, b1, _⟩ := rda_cells (rda_up HRD.out H.out) (k - 1) (by omega)
          injection hb with hb; subst hb
          exact ⟨R[k-1].pos, hprev (k - 1) (by omega) (by omega), fun _ => b1⟩
        · exact ⟨-1, by omega, fun h => absurd h hk0⟩
      obtain ⟨q, hqp, hqc⟩ := hq
      clear hprev HAT HRIN HRMAY HIN
      generalize R[k] = t at *
      obtain ⟨kd, ps, tx, nm⟩ := t
      dsimp only at hp hkind hplain a0 a1 a2 a3 hkd
      subst hp
      have n1 : ¬ (p : Int) < 0 := by omega
      have n2 : ¬ (s.size : Int) < (p : Int) := by omega
      have n3 : ¬ (p : Int) ≤ q := by omega
      have hz : ((k : Int) == (R.length : Int) - 1) = ((kd : Int) == 0) := by
        rw [Bool.eq_iff_iff, beq_iff_eq, beq_iff_eq]; constructor <;> intro h <;> omega
      have HPL := Lib.hid hplain
      have hkd2 : (kd = 1 ∨ kd = 2 ∨ kd = 5) ∨ ¬ (kd = 1 ∨ kd = 2 ∨ kd = 5) := by omega
      clear hkind hplain hqp hkd
      generalize hzz : ((kd : Int) == 0) = z at *
      have e5 : IntKind.i64.wrap ((R.length : Int) - 1) = (R.length : Int) - 1 := IntWalk.i64_in _ (by omega)
      go_upto_region 14 with (fail)
      go_cut [100] from 55 to 140 (fun r wx => r = .bool false ∧ ∃ n, wx = (wr.alloc (.cells #[.int .u8 (kd : Int), .int .i64 (p : Int), .string tx, .float .f64 nm] 28)).drewN n)
      case first =>
        by_cases hk0 : 0 < k
        · have b1 := hqc hk0
          have hab2 : (a.add ((k - 1) * 4)).block < wr.heap.size := by rw [block_of_add]; exact hab
          have hab3 : (a.add ((k - 1) * 4)).block ≠ wr.heap.size := by omega
          have hk1 : 0 < (k : Int) := by omega
          have e4 : (k : Int) - 1 < (R.length : Int) := by omega
          have e3 : 0 ≤ (k : Int) - 1 := by omega
          have e1 : IntKind.i64.wrap ((k : Int) - 1) = (k : Int) - 1 := IntWalk.i64_in _ (by omega)
          have e2 : ((k : Int) - 1).toNat = k - 1 := by omega
          clear hqc
          go_quiet (fail)
          go_wp2
          go_meet
          exact ⟨rfl, _, rfl⟩
        · have hk1 : ¬ 0 < (k : Int) := by omega
          clear hqc
          go_quiet (fail)
          go_wp2
          go_meet
          exact ⟨rfl, _, rfl⟩
      case rest =>
        obtain ⟨rfl, n, rfl⟩ := hcut
        clear hqc
        rcases hkd2 with hkp | hkp
        · obtain ⟨hp1, hp2⟩ := HPL.out hkp
          have hp3 : (p : Int) + (tx.size : Int) ≤ (s.size : Int) := by omega
          have hp4 : ¬ (s.size : Int) < (p : Int) + (tx.size : Int) := by omega
          have q1 : (0 : Int) ≤ (p : Int) := by omega
          have q2 : (p : Int) ≤ (p : Int) + (tx.size : Int) := by omega
          have q3 : (0 : Int) ≤ (p : Int) + (tx.size : Int) := by omega
          have e6 : IntKind.i64.wrap ((p : Int) + (tx.size : Int)) = (p : Int) + (tx.size : Int) := IntWalk.i64_in _ (by omega)
          have e7 : ((p : Int) + (tx.size : Int)).toNat = p + tx.size := by omega
          clear HPL
          rcases hkp with rfl | rfl | rfl
          all_goals
            go_wp2_with (fail)
            go_quiet (fail)
            go_wp2
            go_roundw
            case rel => exact ⟨k + 1, by omega, by go_num, Lib.hid (below_draw2 (below_up H.out (zero_alloc _ _)) _)⟩
            case measure => simp [intOf]; omega
        · have u1 : ((kd : Int) == 1) = false := by rw [beq_eq_false_iff_ne]; omega
          have u2 : ((kd : Int) == 2) = false := by rw [beq_eq_false_iff_ne]; omega
          have u5 : ((kd : Int) == 5) = false := by rw [beq_eq_false_iff_ne]; omega
          clear HPL hkp
          go_wp2_with (fail)
          go_quiet (fail)
          go_wp2
          go_roundw
          case rel => exact ⟨k + 1, by omega, by go_num, Lib.hid (below_draw2 (below_up H.out (zero_alloc _ _)) _)⟩
          case measure => simp [intOf]; omega
    · have hkR : ¬ (k : Int) < (R.length : Int) := by omega
      have HBr := Lib.hid (below_up HB2.out H.out)
      have HRr := Lib.hid (rda_up HRD.out H.out)
      have hRl : R.length ≤ 70000 := by omega
      obtain ⟨u1, k1, hu1⟩ := textR_any R
      obtain ⟨u, j, hu⟩ := textR_any l
      obtain ⟨v1, hv1⟩ : ∃ v, mkB u1 = v := ⟨_, rfl⟩
      obtain ⟨v, hv⟩ : ∃ v, mkB u = v := ⟨_, rfl⟩
      have hk1 : k1 = 0 ∨ (k1 = 3 ∧ u1 = []) := by
        rcases hu1 with ⟨e, _⟩ | ⟨_, e, _⟩ | ⟨_, _, _, e1, e2⟩ | ⟨_, _, _, _, e⟩
        · omega
        · exact absurd HRMAY.out e
        · exact Or.inr ⟨e2, e1⟩
        · exact Or.inl e
      have kx1 := fun w h1 h2 => Text_at R A1 c1 w h1 HRIN.out (by omega) hc1 h2 u1 k1 hu1 v1 hv1
      have kx := fun w h1 h2 => Text_at l A cap w h1 HIN.out (by omega) hcap h2 u j hu v hv
      have hR1 : v1.size ≤ 70000 ∧ ∃ r, toks v1.data.toList = .ok r ∧ r.length ≤ 70000 ∧ (k1 = 0 → SameL r R) := by
        rcases hk1 with rfl | ⟨rfl, rfl⟩
        · obtain ⟨a1, r, a2, a3, a4⟩ := again_of hu1 HRIN.out
          rw [hv1] at a1 a2
          exact ⟨a1, r, a2, a4, fun _ => a3⟩
        · subst hv1
          exact ⟨by decide, [⟨0, 0, ⟨#[]⟩, 0⟩], rfl, by decide, fun h => absurd h (by decide)⟩
      obtain ⟨hs1, r1, hr1, hrl1, hsame1⟩ := hR1
      have kt1 := fun w => tr_ok hs1 hr1 w
      have hk1' : k1 = 0 ∨ k1 = 3 := hk1.imp id And.left
      by_cases hj : j = 0
      · subst hj
        obtain ⟨hs2, r2, hr2, hss2, hrl2⟩ := again_of hu HIN.out
        rw [hv] at hs2 hr2
        have kt2 := fun w => tr_ok hs2 hr2 w
        have ks2 := fun A2 c2 W h1 h2 => same_yes r2 l A2 A c2 cap W h1 h2 hss2 hrl2
        clear hv1 hv hr1 hr2 hu1 hu hk1 HIN HRIN HRMAY HAT H hss2 kt
        rcases hk1' with rfl | rfl
        · have ks1 := fun A2 c2 W h1 h2 => same_yes r1 R A2 A1 c2 c1 W h1 h2 (hsame1 rfl) hrl1
          clear hsame1
          go_wp2_with (first
            | (go_at_call 9; ((with_reducible refine (kx1 _ HRr.out (tab_below HT.out HBr.out)).mono ?_); rintro e w3 ⟨rfl, hb3⟩; have HB3 := Lib.hid (below_up HBr.out hb3); have HR3 := Lib.hid (rda_up HRr.out hb3); clear hb3))
            | (go_at_call 6; ((with_reducible refine (kt1 _).mono ?_); rintro e w4 ⟨A4, c4, rfl, ht4⟩; have HT4 := Lib.hid (rda_tb ht4); have HB4 := Lib.hid (below_up HB3.out ht4.2.1); have HR4 := Lib.hid (rda_up HR3.out ht4.2.1); clear ht4))
            | (go_at_call 13; ((with_reducible refine (ks1 A4 c4 _ HT4.out HR4.out).mono ?_); rintro e w5 ⟨rfl, hb5⟩; have HB5 := Lib.hid (below_up HB4.out hb5); clear hb5))
            | (go_at_call 9; ((with_reducible refine (kx _ (rda_up HR.out HB5.out) (tab_below HT.out HB5.out)).mono ?_); rintro e w6 ⟨rfl, hb6⟩; have HB6 := Lib.hid (below_up HB5.out hb6); clear hb6))
            | (go_at_call 6; ((with_reducible refine (kt2 _).mono ?_); rintro e w7 ⟨A7, c7, rfl, ht7⟩; have HT7 := Lib.hid (rda_tb ht7); have HB7 := Lib.hid (below_up HB6.out ht7.2.1); clear ht7))
            | (go_at_call 13; ((with_reducible refine (ks2 A7 c7 _ HT7.out (rda_up HR.out HB7.out)).mono ?_); rintro e w8 ⟨rfl, hb8⟩; have HB8 := Lib.hid (below_up HB7.out hb8); clear hb8)))
          go_ret
          exact ⟨rfl, HB8.out⟩
        · clear hsame1
          go_wp2_with (first
            | (go_at_call 9; ((with_reducible refine (kx1 _ HRr.out (tab_below HT.out HBr.out)).mono ?_); rintro e w3 ⟨rfl, hb3⟩; have HB3 := Lib.hid (below_up HBr.out hb3); have HR3 := Lib.hid (rda_up HRr.out hb3); clear hb3))
            | (go_at_call 6; ((with_reducible refine (kt1 _).mono ?_); rintro e w4 ⟨A4, c4, rfl, ht4⟩; have HT4 := Lib.hid (rda_tb ht4); have HB5 := Lib.hid (below_up HB3.out ht4.2.1); clear ht4))
            | (go_at_call 9; ((with_reducible refine (kx _ (rda_up HR.out HB5.out) (tab_below HT.out HB5.out)).mono ?_); rintro e w6 ⟨rfl, hb6⟩; have HB6 := Lib.hid (below_up HB5.out hb6); clear hb6))
            | (go_at_call 6; ((with_reducible refine (kt2 _).mono ?_); rintro e w7 ⟨A7, c7, rfl, ht7⟩; have HT7 := Lib.hid (rda_tb ht7); have HB7 := Lib.hid (below_up HB6.out ht7.2.1); clear ht7))
            | (go_at_call 13; ((with_reducible refine (ks2 A7 c7 _ HT7.out (rda_up HR.out HB7.out)).mono ?_); rintro e w8 ⟨rfl, hb8⟩; have HB8 := Lib.hid (below_up HB7.out hb8); clear hb8)))
          go_ret
          exact ⟨rfl, HB8.out⟩
      · have hj' : (j != 0) = true := by rw [bne_iff_ne]; exact hj
        have hv0 : v = ⟨#[]⟩ := by
          rw [← hv]
          rcases hu with ⟨_, e, _⟩ | ⟨_, _, e, _⟩ | ⟨_, _, _, e, _⟩ | ⟨_, _, _, _, e⟩
          · rw [e]; rfl
          · rw [e]; rfl
          · rw [e]; rfl
          · exact absurd e hj
        subst hv0
        clear hv1 hv hr1 hu1 hu hk1 HIN HRIN HRMAY HAT H kt hj
        rcases hk1' with rfl | rfl
        · have ks1 := fun A2 c2 W h1 h2 => same_yes r1 R A2 A1 c2 c1 W h1 h2 (hsame1 rfl) hrl1
          clear hsame1
          go_wp2_with (first
            | (go_at_call 9; ((with_reducible refine (kx1 _ HRr.out (tab_below HT.out HBr.out)).mono ?_); rintro e w3 ⟨rfl, hb3⟩; have HB3 := Lib.hid (below_up HBr.out hb3); have HR3 := Lib.hid (rda_up HRr.out hb3); clear hb3))
            | (go_at_call 6; ((with_reducible refine (kt1 _).mono ?_); rintro e w4 ⟨A4, c4, rfl, ht4⟩; have HT4 := Lib.hid (rda_tb ht4); have HB4 := Lib.hid (below_up HB3.out ht4.2.1); have HR4 := Lib.hid (rda_up HR3.out ht4.2.1); clear ht4))
            | (go_at_call 13; ((with_reducible refine (ks1 A4 c4 _ HT4.out HR4.out).mono ?_); rintro e w5 ⟨rfl, hb5⟩; have HB5 := Lib.hid (below_up HB4.out hb5); clear hb5))
            | (go_at_call 9; ((with_reducible refine (kx _ (rda_up HR.out HB5.out) (tab_below HT.out HB5.out)).mono ?_); rintro e w6 ⟨rfl, hb6⟩; have HB6 := Lib.hid (below_up HB5.out hb6); clear hb6)))
          go_ret
          exact ⟨rfl, HB6.out⟩
        · clear hsame1
          go_wp2_with (first
            | (go_at_call 9; ((with_reducible refine (kx1 _ HRr.out (tab_below HT.out HBr.out)).mono ?_); rintro e w3 ⟨rfl, hb3⟩; have HB3 := Lib.hid (below_up HBr.out hb3); have HR3 := Lib.hid (rda_up HRr.out hb3); clear hb3))
            | (go_at_call 6; ((with_reducible refine (kt1 _).mono ?_); rintro e w4 ⟨A4, c4, rfl, ht4⟩; have HT4 := Lib.hid (rda_tb ht4); have HB5 := Lib.hid (below_up HB3.out ht4.2.1); clear ht4))
            | (go_at_call 9; ((with_reducible refine (kx _ (rda_up HR.out HB5.out) (tab_below HT.out HB5.out)).mono ?_); rintro e w6 ⟨rfl, hb6⟩; have HB6 := Lib.hid (below_up HB5.out hb6); clear hb6)))
          go_ret
          exact ⟨rfl, HB6.out⟩
end Go.Proofs.YtgjpcoplnpkmoaaDoor.S
