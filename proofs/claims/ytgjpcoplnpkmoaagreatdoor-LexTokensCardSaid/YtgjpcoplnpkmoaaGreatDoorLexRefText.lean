/-
  Tokens written as a text: the document's own Text: walk.
-/
import Derived.Test.YtgjpcoplnpkmoaaGreatDoorLexCheckR
namespace Go.Proofs.YtgjpcoplnpkmoaaGreatDoor.S
open Go.RowKit Fl

/-- how the document writes one token: by which call -/
theorem ref_num {t : Tk} (h : OneP t) (hk : t.kind = 3) (y : ByteArray) (hy : mkB (writL t) = y) (w : World) : Calls Tryz.prog 35 #[.float .f64 t.num] w fun e w' => e = .returned (.string y) ∧ Below w.heap.size w w' := by
  rcases h.1 with ⟨q, _⟩ | ⟨_, hs, m, hm, hn⟩ | ⟨q, _⟩ | ⟨q, _⟩
  · omega
  · have hsf : SafeN (m : Int) := by unfold SafeN; omega
    have hw : writL t = Lib.itoa (m : Int) := by unfold writL; rw [if_pos hk, hn, numN_F hsf]
    refine (refText_cls (c := .ours (m : Int)) ⟨hn, hsf⟩ w).mono fun e w' ⟨u, hu, he, hb⟩ => ⟨?_, hb⟩
    rw [he, ← hy, hw]
    exact ret_str (str_ext hu)
  · omega
  · omega
theorem ref_quo {t : Tk} (h : OneP t) (hk : t.kind = 4) (y : ByteArray) (hy : mkB (writL t) = y) (w : World) : Calls Tryz.prog 36 #[.string t.text] w fun e w' => e = .returned (.string y) ∧ Below w.heap.size w w' := by
  rcases h.1 with ⟨q, _⟩ | ⟨q, _⟩ | ⟨_, hs, _⟩ | ⟨q, _⟩
  · omega
  · omega
  · have hw : writL t = quoteL t.text.data.toList := by unfold writL; rw [if_neg (by omega), if_pos hk]
    rw [← hy, hw]
    exact refQuote_any t.text w (by omega)
  · omega
theorem ref_txt {t : Tk} (hk : ¬ (t.kind = 3 ∨ t.kind = 4)) : mkB (writL t) = t.text := by
  have : writL t = t.text.data.toList := by unfold writL; rw [if_neg (by omega), if_neg (by omega)]
  rw [this]; exact mkB_of _

set_option maxHeartbeats 8000000 in
set_option maxRecDepth 1000000 in
theorem RefText_any (l : List Tk) (A : Option Addr) (cap : Nat) (w : World) (hr : RdA w A l) (hin : ∀ t ∈ l, TkIn t) (hl : l.length ≤ 100000) (s : List UInt8) (k : Int) (h : TextR l s k) :
    Calls Tryz.prog 11 #[.slice A l.length cap] w (TextTo' s k w) := by
  rcases h with ⟨h1, rfl, rfl⟩ | ⟨h1, h2, rfl, rfl⟩ | h
  · have km := check_many l A cap w h1 hl
    clear hr hin
    go_enter Tryz.func11, Tryz.ntmps11
    go_wp2_with (go_at_call 34; refine km.mono ?_; rintro e w1 ⟨rfl, h3⟩; have H3 := Lib.hid h3; clear h3)
    go_ret2
    exact ⟨rfl, H3.out⟩
  · have km := check_any l A cap w hr hin h1 5 (Or.inr ⟨h2, rfl⟩)
    clear hr hin h2
    go_enter Tryz.func11, Tryz.ntmps11
    go_wp2_with (go_at_call 34; refine km.mono ?_; rintro e w1 ⟨rfl, h3⟩; have H3 := Lib.hid h3; clear h3)
    go_ret2
    exact ⟨rfl, H3.out⟩
  · have h1 : l.length ≤ 16385 := by rcases h with h | h <;> exact h.1
    have h2 : MayP l := by rcases h with h | h <;> exact h.2.1
    have km := check_any l A cap w hr hin h1 0 (Or.inl ⟨h2, rfl⟩)
    have hpos : 0 < l.length := List.length_pos_iff.2 h2.1
    have HR := Lib.hid hr
    have HM := Lib.hid h2
    have HH := Lib.hid h
    clear hr hin h2 h hl
    go_enter Tryz.func11, Tryz.ntmps11
    go_wp2_with (go_at_call 34; refine km.mono ?_; rintro e w1 ⟨rfl, h3⟩; have H3 := Lib.hid h3; clear h3)
    have hr1 := rda_up HR.out H3.out
    have HR1 := Lib.hid hr1
    have H4 := Lib.hid (sb_nil w1)
    clear hr1 HR km
    go_loopw [5, 6] (fun v i wr => ∃ j : Nat, j + 1 ≤ l.length ∧ i = .int .i64 j ∧ Hid (SB w1.heap.size v (joinL (l.take j)) w1 wr ∧ (joinL (l.take j)).length ≤ 65536)) (fun _ i _ => l.length - (intOf i).toNat)
    case atStart => exact ⟨0, hpos, rfl, Lib.hid ⟨H4.out, by simp [joinL]⟩⟩
    case round =>
      obtain ⟨j, hj, rfl, H⟩ := hrel
      obtain ⟨A5, c5, hv5⟩ := sb_slice H.out.1
      subst hv5
      clear H4
      by_cases hlt : j + 1 < l.length
      · have hjl : j < l.length := by omega
        have hlt' : (j : Int) < (l.length : Int) - 1 := by omega
        obtain ⟨a, rfl, hab, a0, a1, a2, a3⟩ := rda_cells (rda_up HR1.out H.out.1.2.1) j hjl
        have hcell : ∀ wx, Below w1.heap.size w1 wx → wx.cell? (a.add (j * 4)) = some (.int .u8 (l[j].kind : Int)) ∧ wx.cell? ⟨(a.add (j * 4)).block, (a.add (j * 4)).off + 2, none⟩ = some (.string l[j].text) ∧ wx.cell? ⟨(a.add (j * 4)).block, (a.add (j * 4)).off + 3, none⟩ = some (.float .f64 l[j].num) := fun wx hb => by
          obtain ⟨b, hb1, _, b0, _, b2, b3⟩ := rda_cells (rda_up HR1.out hb) j hjl
          injection hb1 with hb1; subst hb1
          exact ⟨b0, b2, b3⟩
        have ho := may_one HM.out j hlt
        have hjt := join_take l j hjl
        have hpre := join_pre l.dropLast (j + 1)
        rw [List.dropLast_eq_take, List.take_take, show min (j + 1) (l.length - 1) = j + 1 by omega, ← List.dropLast_eq_take] at hpre
        have hwl := writ_len ho.1
        obtain ⟨y, hy⟩ : ∃ y, mkB (writL l[j]) = y := ⟨_, rfl⟩
        have kn := fun hk => ref_num ho hk y hy
        have kq := fun hk => ref_quo ho hk y hy
        have kt := fun hk => (ref_txt hk).symm.trans hy
        have hys : y.size ≤ 20000 := by rw [← hy, mkB_size]; exact hwl
        have hyl : y.data.toList = writL l[j] := by rw [← hy, mkB_list]
        rw [← hyl] at hjt
        have hkk : l[j].kind = 3 ∨ l[j].kind = 4 ∨ ¬ (l[j].kind = 3 ∨ l[j].kind = 4) := by omega
        generalize l[j] = t at *
        generalize hQe : joinL (l.take (j + 1)) = Q at *
        have HQE := Lib.hid hQe
        clear hQe
        generalize joinL (l.take j) = P at *
        have H5 := Lib.hid H.out.1
        have HP := Lib.hid hpre
        have HJ := Lib.hid hjt
        have HC := Lib.hid hcell
        have hlen := H.out.2
        have hj01 : j = 0 ∨ ¬ j = 0 := by omega
        clear H ho hpre hjt hcell hy hyl hwl
        rcases hkk with hk3 | hk4 | hkn
        · have kn := kn hk3
          have u3 : ((t.kind : Int) == 3) = true := by rw [hk3]; rfl
          clear kq kt hk3
          rcases hj01 with hj0 | hj0
          · have hj1 : ¬ 0 < (j : Int) := by omega
            have HQ : Hid (P ++ y.data.toList = Q) := Lib.hid (by rw [HJ.out, if_pos hj0, List.append_nil])
            clear HJ hj0
            by_cases hbig : 65536 < Q.length
            · have hbig' : (65536 : Int) < (Q.length : Int) := by omega
              have HE : Hid (s = [] ∧ k = 3) := Lib.hid (by
                have h1 := HH.out
                have h2 := HP.out
                rcases h1 with h1 | h1
                · exact h1.2.2.2
                · have := h1.2.2.1; omega)
              clear hbig HH HP
              go_wp2_with (first
                | (go_at_call 35; refine (kn _).mono ?_; rintro e w7 ⟨rfl, h7⟩; have H7 := Lib.hid (sb_up H5.out h7); clear h7)
                | (at_builtin; refine sb_str rfl _ _ rfl H7.out rfl _ rfl (by omega) ?_; intro v8 w8 h8; rw [HQ.out] at h8; obtain ⟨A8, c8, hv8⟩ := sb_slice h8; subst hv8; have H8 := Lib.hid h8; clear h8))
              go_ret2
              rw [HE.out.1, HE.out.2]
              exact ⟨rfl, below_up H3.out H8.out.2.1⟩
            · have hbig' : ¬ (65536 : Int) < (Q.length : Int) := by omega
              go_wp2_with (first
                | (go_at_call 35; refine (kn _).mono ?_; rintro e w7 ⟨rfl, h7⟩; have H7 := Lib.hid (sb_up H5.out h7); clear h7)
                | (at_builtin; refine sb_str rfl _ _ rfl H7.out rfl _ rfl (by omega) ?_; intro v8 w8 h8; rw [HQ.out] at h8; obtain ⟨A8, c8, hv8⟩ := sb_slice h8; subst hv8; have H8 := Lib.hid h8; clear h8))
              go_roundw
              case rel => exact ⟨j + 1, hlt, by go_num, Lib.hid (by rw [HQE.out]; exact ⟨H8.out, by omega⟩)⟩
              case measure => simp [intOf]; omega
          · have hj1 : 0 < (j : Int) := by omega
            obtain ⟨P2, hP2⟩ : ∃ P2, P ++ [32] = P2 := ⟨_, rfl⟩
            have hlen2 : P2.length = P.length + 1 := by rw [← hP2]; simp
            have hlen3 : P2.length ≤ 65537 := by omega
            have HP2 := Lib.hid hP2
            have HQ : Hid (P2 ++ y.data.toList = Q) := Lib.hid (by rw [HJ.out, if_neg hj0, ← hP2])
            clear hP2 hlen2
            clear HJ hj0
            by_cases hbig : 65536 < Q.length
            · have hbig' : (65536 : Int) < (Q.length : Int) := by omega
              have HE : Hid (s = [] ∧ k = 3) := Lib.hid (by
                have h1 := HH.out
                have h2 := HP.out
                rcases h1 with h1 | h1
                · exact h1.2.2.2
                · have := h1.2.2.1; omega)
              clear hbig HH HP
              go_wp2_with (first
                | (at_builtin; refine sb_app rfl _ _ rfl H5.out rfl _ (32 : UInt8) rfl rfl (by omega) ?_; intro v6 w6 h6; rw [HP2.out] at h6; obtain ⟨A6, c6, hv6⟩ := sb_slice h6; subst hv6; obtain ⟨d0, d2, d3⟩ := HC.out _ h6.2.1; have H6 := Lib.hid h6; clear h6)
                | (go_at_call 35; refine (kn _).mono ?_; rintro e w7 ⟨rfl, h7⟩; have H7 := Lib.hid (sb_up H6.out h7); clear h7)
                | (at_builtin; refine sb_str rfl _ _ rfl H7.out rfl _ rfl (by omega) ?_; intro v8 w8 h8; rw [HQ.out] at h8; obtain ⟨A8, c8, hv8⟩ := sb_slice h8; subst hv8; have H8 := Lib.hid h8; clear h8))
              go_ret2
              rw [HE.out.1, HE.out.2]
              exact ⟨rfl, below_up H3.out H8.out.2.1⟩
            · have hbig' : ¬ (65536 : Int) < (Q.length : Int) := by omega
              go_wp2_with (first
                | (at_builtin; refine sb_app rfl _ _ rfl H5.out rfl _ (32 : UInt8) rfl rfl (by omega) ?_; intro v6 w6 h6; rw [HP2.out] at h6; obtain ⟨A6, c6, hv6⟩ := sb_slice h6; subst hv6; obtain ⟨d0, d2, d3⟩ := HC.out _ h6.2.1; have H6 := Lib.hid h6; clear h6)
                | (go_at_call 35; refine (kn _).mono ?_; rintro e w7 ⟨rfl, h7⟩; have H7 := Lib.hid (sb_up H6.out h7); clear h7)
                | (at_builtin; refine sb_str rfl _ _ rfl H7.out rfl _ rfl (by omega) ?_; intro v8 w8 h8; rw [HQ.out] at h8; obtain ⟨A8, c8, hv8⟩ := sb_slice h8; subst hv8; have H8 := Lib.hid h8; clear h8))
              go_roundw
              case rel => exact ⟨j + 1, hlt, by go_num, Lib.hid (by rw [HQE.out]; exact ⟨H8.out, by omega⟩)⟩
              case measure => simp [intOf]; omega
        · have kq := kq hk4
          have u3 : ((t.kind : Int) == 3) = false := by rw [hk4]; rfl
          have u4 : ((t.kind : Int) == 4) = true := by rw [hk4]; rfl
          clear kn kt hk4
          rcases hj01 with hj0 | hj0
          · have hj1 : ¬ 0 < (j : Int) := by omega
            have HQ : Hid (P ++ y.data.toList = Q) := Lib.hid (by rw [HJ.out, if_pos hj0, List.append_nil])
            clear HJ hj0
            by_cases hbig : 65536 < Q.length
            · have hbig' : (65536 : Int) < (Q.length : Int) := by omega
              have HE : Hid (s = [] ∧ k = 3) := Lib.hid (by
                have h1 := HH.out
                have h2 := HP.out
                rcases h1 with h1 | h1
                · exact h1.2.2.2
                · have := h1.2.2.1; omega)
              clear hbig HH HP
              go_wp2_with (first
                | (go_at_call 36; refine (kq _).mono ?_; rintro e w7 ⟨rfl, h7⟩; have H7 := Lib.hid (sb_up H5.out h7); clear h7)
                | (at_builtin; refine sb_str rfl _ _ rfl H7.out rfl _ rfl (by omega) ?_; intro v8 w8 h8; rw [HQ.out] at h8; obtain ⟨A8, c8, hv8⟩ := sb_slice h8; subst hv8; have H8 := Lib.hid h8; clear h8))
              go_ret2
              rw [HE.out.1, HE.out.2]
              exact ⟨rfl, below_up H3.out H8.out.2.1⟩
            · have hbig' : ¬ (65536 : Int) < (Q.length : Int) := by omega
              go_wp2_with (first
                | (go_at_call 36; refine (kq _).mono ?_; rintro e w7 ⟨rfl, h7⟩; have H7 := Lib.hid (sb_up H5.out h7); clear h7)
                | (at_builtin; refine sb_str rfl _ _ rfl H7.out rfl _ rfl (by omega) ?_; intro v8 w8 h8; rw [HQ.out] at h8; obtain ⟨A8, c8, hv8⟩ := sb_slice h8; subst hv8; have H8 := Lib.hid h8; clear h8))
              go_roundw
              case rel => exact ⟨j + 1, hlt, by go_num, Lib.hid (by rw [HQE.out]; exact ⟨H8.out, by omega⟩)⟩
              case measure => simp [intOf]; omega
          · have hj1 : 0 < (j : Int) := by omega
            obtain ⟨P2, hP2⟩ : ∃ P2, P ++ [32] = P2 := ⟨_, rfl⟩
            have hlen2 : P2.length = P.length + 1 := by rw [← hP2]; simp
            have hlen3 : P2.length ≤ 65537 := by omega
            have HP2 := Lib.hid hP2
            have HQ : Hid (P2 ++ y.data.toList = Q) := Lib.hid (by rw [HJ.out, if_neg hj0, ← hP2])
            clear hP2 hlen2
            clear HJ hj0
            by_cases hbig : 65536 < Q.length
            · have hbig' : (65536 : Int) < (Q.length : Int) := by omega
              have HE : Hid (s = [] ∧ k = 3) := Lib.hid (by
                have h1 := HH.out
                have h2 := HP.out
                rcases h1 with h1 | h1
                · exact h1.2.2.2
                · have := h1.2.2.1; omega)
              clear hbig HH HP
              go_wp2_with (first
                | (at_builtin; refine sb_app rfl _ _ rfl H5.out rfl _ (32 : UInt8) rfl rfl (by omega) ?_; intro v6 w6 h6; rw [HP2.out] at h6; obtain ⟨A6, c6, hv6⟩ := sb_slice h6; subst hv6; obtain ⟨d0, d2, d3⟩ := HC.out _ h6.2.1; have H6 := Lib.hid h6; clear h6)
                | (go_at_call 36; refine (kq _).mono ?_; rintro e w7 ⟨rfl, h7⟩; have H7 := Lib.hid (sb_up H6.out h7); clear h7)
                | (at_builtin; refine sb_str rfl _ _ rfl H7.out rfl _ rfl (by omega) ?_; intro v8 w8 h8; rw [HQ.out] at h8; obtain ⟨A8, c8, hv8⟩ := sb_slice h8; subst hv8; have H8 := Lib.hid h8; clear h8))
              go_ret2
              rw [HE.out.1, HE.out.2]
              exact ⟨rfl, below_up H3.out H8.out.2.1⟩
            · have hbig' : ¬ (65536 : Int) < (Q.length : Int) := by omega
              go_wp2_with (first
                | (at_builtin; refine sb_app rfl _ _ rfl H5.out rfl _ (32 : UInt8) rfl rfl (by omega) ?_; intro v6 w6 h6; rw [HP2.out] at h6; obtain ⟨A6, c6, hv6⟩ := sb_slice h6; subst hv6; obtain ⟨d0, d2, d3⟩ := HC.out _ h6.2.1; have H6 := Lib.hid h6; clear h6)
                | (go_at_call 36; refine (kq _).mono ?_; rintro e w7 ⟨rfl, h7⟩; have H7 := Lib.hid (sb_up H6.out h7); clear h7)
                | (at_builtin; refine sb_str rfl _ _ rfl H7.out rfl _ rfl (by omega) ?_; intro v8 w8 h8; rw [HQ.out] at h8; obtain ⟨A8, c8, hv8⟩ := sb_slice h8; subst hv8; have H8 := Lib.hid h8; clear h8))
              go_roundw
              case rel => exact ⟨j + 1, hlt, by go_num, Lib.hid (by rw [HQE.out]; exact ⟨H8.out, by omega⟩)⟩
              case measure => simp [intOf]; omega
        · have hty := kt hkn
          have u3 : ((t.kind : Int) == 3) = false := by rw [beq_eq_false_iff_ne]; omega
          have u4 : ((t.kind : Int) == 4) = false := by rw [beq_eq_false_iff_ne]; omega
          rw [hty] at a2
          have HC2 := Lib.hid (fun wx hb => (by have := HC.out wx hb; rw [hty] at this; exact this) : ∀ wx, Below w1.heap.size w1 wx → wx.cell? (a.add (j * 4)) = some (.int .u8 (t.kind : Int)) ∧ wx.cell? ⟨(a.add (j * 4)).block, (a.add (j * 4)).off + 2, none⟩ = some (.string y) ∧ wx.cell? ⟨(a.add (j * 4)).block, (a.add (j * 4)).off + 3, none⟩ = some (.float .f64 t.num))
          clear HC
          have HC := HC2
          clear HC2 kn kq kt hkn hty
          rcases hj01 with hj0 | hj0
          · have hj1 : ¬ 0 < (j : Int) := by omega
            have HQ : Hid (P ++ y.data.toList = Q) := Lib.hid (by rw [HJ.out, if_pos hj0, List.append_nil])
            clear HJ hj0
            by_cases hbig : 65536 < Q.length
            · have hbig' : (65536 : Int) < (Q.length : Int) := by omega
              have HE : Hid (s = [] ∧ k = 3) := Lib.hid (by
                have h1 := HH.out
                have h2 := HP.out
                rcases h1 with h1 | h1
                · exact h1.2.2.2
                · have := h1.2.2.1; omega)
              clear hbig HH HP
              go_wp2_with (first
                | (at_builtin; refine sb_str rfl _ _ rfl H5.out rfl _ rfl (by omega) ?_; intro v8 w8 h8; rw [HQ.out] at h8; obtain ⟨A8, c8, hv8⟩ := sb_slice h8; subst hv8; have H8 := Lib.hid h8; clear h8))
              go_ret2
              rw [HE.out.1, HE.out.2]
              exact ⟨rfl, below_up H3.out H8.out.2.1⟩
            · have hbig' : ¬ (65536 : Int) < (Q.length : Int) := by omega
              go_wp2_with (first
                | (at_builtin; refine sb_str rfl _ _ rfl H5.out rfl _ rfl (by omega) ?_; intro v8 w8 h8; rw [HQ.out] at h8; obtain ⟨A8, c8, hv8⟩ := sb_slice h8; subst hv8; have H8 := Lib.hid h8; clear h8))
              go_roundw
              case rel => exact ⟨j + 1, hlt, by go_num, Lib.hid (by rw [HQE.out]; exact ⟨H8.out, by omega⟩)⟩
              case measure => simp [intOf]; omega
          · have hj1 : 0 < (j : Int) := by omega
            obtain ⟨P2, hP2⟩ : ∃ P2, P ++ [32] = P2 := ⟨_, rfl⟩
            have hlen2 : P2.length = P.length + 1 := by rw [← hP2]; simp
            have hlen3 : P2.length ≤ 65537 := by omega
            have HP2 := Lib.hid hP2
            have HQ : Hid (P2 ++ y.data.toList = Q) := Lib.hid (by rw [HJ.out, if_neg hj0, ← hP2])
            clear hP2 hlen2
            clear HJ hj0
            by_cases hbig : 65536 < Q.length
            · have hbig' : (65536 : Int) < (Q.length : Int) := by omega
              have HE : Hid (s = [] ∧ k = 3) := Lib.hid (by
                have h1 := HH.out
                have h2 := HP.out
                rcases h1 with h1 | h1
                · exact h1.2.2.2
                · have := h1.2.2.1; omega)
              clear hbig HH HP
              go_wp2_with (first
                | (at_builtin; refine sb_app rfl _ _ rfl H5.out rfl _ (32 : UInt8) rfl rfl (by omega) ?_; intro v6 w6 h6; rw [HP2.out] at h6; obtain ⟨A6, c6, hv6⟩ := sb_slice h6; subst hv6; obtain ⟨d0, d2, d3⟩ := HC.out _ h6.2.1; have H6 := Lib.hid h6; clear h6)
                | (at_builtin; refine sb_str rfl _ _ rfl H6.out rfl _ rfl (by omega) ?_; intro v8 w8 h8; rw [HQ.out] at h8; obtain ⟨A8, c8, hv8⟩ := sb_slice h8; subst hv8; have H8 := Lib.hid h8; clear h8))
              go_ret2
              rw [HE.out.1, HE.out.2]
              exact ⟨rfl, below_up H3.out H8.out.2.1⟩
            · have hbig' : ¬ (65536 : Int) < (Q.length : Int) := by omega
              go_wp2_with (first
                | (at_builtin; refine sb_app rfl _ _ rfl H5.out rfl _ (32 : UInt8) rfl rfl (by omega) ?_; intro v6 w6 h6; rw [HP2.out] at h6; obtain ⟨A6, c6, hv6⟩ := sb_slice h6; subst hv6; obtain ⟨d0, d2, d3⟩ := HC.out _ h6.2.1; have H6 := Lib.hid h6; clear h6)
                | (at_builtin; refine sb_str rfl _ _ rfl H6.out rfl _ rfl (by omega) ?_; intro v8 w8 h8; rw [HQ.out] at h8; obtain ⟨A8, c8, hv8⟩ := sb_slice h8; subst hv8; have H8 := Lib.hid h8; clear h8))
              go_roundw
              case rel => exact ⟨j + 1, hlt, by go_num, Lib.hid (by rw [HQE.out]; exact ⟨H8.out, by omega⟩)⟩
              case measure => simp [intOf]; omega
      · have hjl : j + 1 = l.length := by omega
        have HE : Hid (s = joinL (l.take j) ∧ k = 0) := Lib.hid (by
          have h1 := HH.out
          have h2 := H.out.2
          have e : l.dropLast = l.take j := by rw [List.dropLast_eq_take, show l.length - 1 = j by omega]
          rw [e] at h1
          rcases h1 with h1 | h1
          · have := h1.2.2.1; omega
          · exact h1.2.2.2)
        have hlt' : ¬ (j : Int) < (l.length : Int) - 1 := by omega
        have H5 := Lib.hid H.out.1
        clear H HH
        generalize joinL (l.take j) = P at *
        rcases sb_shape H5.out with ⟨hv, rfl⟩ | ⟨g, cap', hv, hcells⟩
        · injection hv with hA _ hc
          subst hA hc
          have hconv := conv_nil wr
          go_wp2
          go_ret2
          rw [HE.out.1, HE.out.2]
          exact ⟨rfl, below_up H3.out H5.out.2.1⟩
        · injection hv with hA _ hc
          subst hA hc
          have hconv := run_convert_bytes_back (P := Tryz.prog) wr 31 9 5 ⟨g, 0, none⟩ c5 P Tryz.underlying31 Tryz.underlying5 Tryz.underlying9 hcells
          clear hcells
          go_wp2
          go_ret2
          rw [HE.out.1, HE.out.2]
          exact ⟨rfl, below_up H3.out H5.out.2.1⟩
end Go.Proofs.YtgjpcoplnpkmoaaGreatDoor.S
