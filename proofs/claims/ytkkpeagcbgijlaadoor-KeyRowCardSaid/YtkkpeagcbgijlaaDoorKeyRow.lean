/-
  KeyRow: what its loops keep; the walk.
-/
import Derived.Test.YtkkpeagcbgijlaaDoorKeyTimes
namespace Go.Proofs.YtkkpeagcbgijlaaDoor.S
open Go.RowKit Fl

def one1 (X : List Ky) : List Ky := X.filter fun k => thK k == 1
theorem th_rank (k : Ky) : (thK k == 1) = (rkKy k == 1024) := by
  unfold thK thR
  by_cases c : rkKy k < 1024
  · rw [if_pos c]
    have : (rkKy k == 1024) = false := by rw [beq_eq_false_iff_ne]; omega
    rw [this]; rfl
  · rw [if_neg c]
    by_cases d : rkKy k = 1024
    · rw [if_pos d, d]; rfl
    · rw [if_neg d]
      have : (rkKy k == 1024) = false := by rw [beq_eq_false_iff_ne]; exact d
      rw [this]; rfl
theorem one_ord {L M : List Ky} (h : OrdOf L M) : one1 M = one1 L := by
  unfold one1
  have e : (fun k => thK k == 1) = fun k => rkKy k == 1024 := funext th_rank
  rw [e]
  exact h.fil 1024
theorem one_skip {X : List Ky} {i : Nat} (h : i < X.length) (hn : thK X[i] ≠ 1) : one1 (X.drop i) = one1 (X.drop (i + 1)) := by
  rw [List.drop_eq_getElem_cons h]
  unfold one1
  rw [List.filter_cons_of_neg (by simpa using hn)]
theorem one_take {X : List Ky} {i : Nat} (h : i < X.length) (hn : thK X[i] = 1) : one1 (X.drop i) = X[i] :: one1 (X.drop (i + 1)) := by
  rw [List.drop_eq_getElem_cons h]
  unfold one1
  rw [List.filter_cons_of_pos (by simpa using hn)]
theorem one_end {X : List Ky} {i : Nat} (h : X.length ≤ i) : one1 (X.drop i) = [] := by
  rw [List.drop_eq_nil_of_le h]; rfl
theorem th_mono {a b : Ky} (h : rkKy a ≤ rkKy b) : thK a ≤ thK b := by
  unfold thK thR
  by_cases c : rkKy a < 1024
  · rw [if_pos c]; exact Nat.zero_le _
  · rw [if_neg c, if_neg (show ¬ rkKy b < 1024 by omega)]
    by_cases d : rkKy a = 1024
    · rw [if_pos d]; split <;> omega
    · rw [if_neg d, if_neg (show ¬ rkKy b = 1024 by omega)]; exact Nat.le_refl _
theorem th_zero {k : Ky} (h : thK k = 0) : ixN k = rkKy k := by
  unfold ixN
  cases e : ixK k.str k.sym with
  | some n => rw [(th_some e).2]; rfl
  | none =>
    have := th_none e
    rw [h] at this
    split at this <;> omega
theorem ord_self {L M : List Ky} (h : OrdOf L M) : OrdOf M M := ⟨h.sorted, fun _ => rfl, rfl⟩
theorem ord_again {L M M' : List Ky} (h : OrdOf L M) (h' : OrdOf M M') : M' = M := ord_eq h' (ord_self h)
theorem ord_in {L M : List Ky} (h : OrdOf L M) (hin : ∀ k ∈ L, KyIn k) : ∀ k ∈ M, KyIn k := fun k hk => hin k ((ord_mem h k).1 hk)
theorem ord_step {L M : List Ky} (h : OrdOf L M) (i : Nat) (hi : i + 1 < M.length) : rkKy M[i] ≤ rkKy M[i + 1] := List.pairwise_iff_getElem.1 h.sorted i (i + 1) (by omega) hi (by omega)

theorem times_keep (A : Option Addr) (L : List Ky) (cap : Nat) (k : Ky) (g1 g2 : Nat) (w0 W : World) (hl : L.length < 1000000000000) (hL : RK w0 A L) (h1 : g1 < w0.heap.size) (h2 : g2 < w0.heap.size) (hb : Below w0.heap.size w0 W) :
    Calls Tryd.prog 9 #[.slice A L.length cap, .agg #[.string k.str, .int .i64 k.sym]] W fun e w' => e = .returned (.int .i64 (timesL L k : Nat)) ∧ Below w0.heap.size w0 w' ∧ (∀ o, w'.cell? ⟨g1, o, none⟩ = W.cell? ⟨g1, o, none⟩) ∧ ∀ o, w'.cell? ⟨g2, o, none⟩ = W.cell? ⟨g2, o, none⟩ :=
  (times_k A L cap k W hl (rk_up hL hb)).mono fun _ _ ⟨he, h⟩ => ⟨he, vb hb h, fun o => h.cell (p := ⟨g1, o, none⟩) (Nat.lt_of_lt_of_le h1 hb.size), fun o => h.cell (p := ⟨g2, o, none⟩) (Nat.lt_of_lt_of_le h2 hb.size)⟩
/-- what all of KeyRow keeps -/
structure Kept (w : World) (O1 O2 : Nat) (M : List Ky) (wr : World) : Prop where
  below : Below w.heap.size w wr
  m : wr.heap[O1]? = some (.cells (kyCells M).toArray 24 (0, 0))
  again : wr.heap[O2]? = some (.cells (kyCells M).toArray 24 (0, 0))
theorem Kept.up {w wr w2 : World} {O1 O2 : Nat} {M : List Ky} (h : Kept w O1 O2 M wr) (hb : Below wr.heap.size wr w2) : Kept w O1 O2 M w2 := ⟨vb h.below hb, vblkn hb h.m, vblkn hb h.again⟩
theorem kcells {w : World} {O : Nat} {M : List Ky} (h : w.heap[O]? = some (.cells (kyCells M).toArray 24 (0, 0))) (i : Nat) (hi : i < M.length) : w.cell? ⟨O, i * 2, none⟩ = some (.string M[i].str) ∧ w.cell? ⟨O, i * 2 + 1, none⟩ = some (.int .i64 M[i].sym) := by
  obtain ⟨k1, k2⟩ := kyCells_at M i hi
  exact ⟨(vcells h _).trans (by simpa using k1), (vcells h _).trans (by simpa using k2)⟩
theorem below_drew (w : World) : Below w.heap.size w w.drew := ⟨rfl, rfl, rfl, Nat.le_refl _, fun _ _ => rfl⟩

set_option maxHeartbeats 4000000 in
set_option maxRecDepth 1000000 in
theorem KeyRow_walk (A : Option Addr) (L : List Ky) (cap : Nat) (w : World) (hin : ∀ k ∈ L, KyIn k) (hl : L.length ≤ maxLen) (hL : RK w A L) (htab : TabHere w) : Calls Tryd.prog 4 #[.slice A L.length cap] w fun e w' => e = .returned (.bool true) ∧ Below w.heap.size w w' := by
  have HTAB := Lib.hid htab
  have kA := fun w ht => keyalive_any w ht
  have hl2 : L.length < 9223372036854775808 := by unfold maxLen at hl; omega
  clear htab hl
  by_cases h200 : 200 < L.length
  · have hz : (200 : Int) < (L.length : Int) := by omega
    go_enter Tryd.func4, Tryd.ntmps4
    go_wp2_with (go_at_call 8; refine (kA _ HTAB.out).mono ?_; rintro e w1 ⟨rfl, h1⟩; have H1 := Lib.hid h1; clear h1)
    go_ret
    exact ⟨rfl, H1.out⟩
  · have hz : decide ((200 : Int) < (L.length : Int)) = false := by simp; omega
    go_enter Tryd.func4, Tryd.ntmps4
    go_wp2_with (go_at_call 8; refine (kA _ HTAB.out).mono ?_; rintro e w1 ⟨rfl, h1⟩; have H1 := Lib.hid h1; clear h1)
    go_at_call 5
    refine (Order_k A L cap w1 hin (by omega) (rk_up hL H1.out) (tab_up HTAB.out H1.out)).mono ?_
    rintro e w2 ⟨M, O1, rfl, hO, _, hb2, h2⟩
    have hML := hO.len
    have HO := Lib.hid hO
    have H2 := Lib.hid (vb H1.out h2)
    clear h2 hO
    go_wp2_with (fail)
    go_at_call 5
    rw [show ((L.length : Nat)) = M.length from hML.symm]
    refine (Order_k (some ⟨O1, 0, none⟩) M M.length w2 (ord_in HO.out hin) (by omega) (rk_blk hb2) (tab_up HTAB.out H2.out)).mono ?_
    rintro e w3 ⟨M2, O2, rfl, hO2, hz2, hb3, h3⟩
    obtain rfl := ord_again HO.out hO2
    have K0 : Hid (Kept w O1 O2 M2 w3) := Lib.hid ⟨vb H2.out h3, vblkn h3 hb2, hb3⟩
    have HIN := Lib.hid (ord_in HO.out hin)
    have hn : M2.length ≤ 200 := by omega
    have HML := Lib.hid hML
    clear hO2 hz2 hb3 h3 hb2 hML h200 hz hl2
    go_wp2_with (fail)
    go_loopg [6] M2.length (fun kx s6 wr => ∃ i : Nat, s6 = .int .i64 i ∧ i + kx = M2.length ∧ Hid (Kept w O1 O2 M2 wr))
    case atStart => exact ⟨0, rfl, by omega, K0⟩
    case round =>
      clear K0
      obtain ⟨i, rfl, hik, H⟩ := hrel
      cases gk with
      | zero =>
        obtain rfl : i = M2.length := by omega
        have P0 : Hid (one1 (M2.drop 0) = one1 (L.drop 0) ∧ Kept w O1 O2 M2 wr) := Lib.hid ⟨one_ord HO.out, H.out⟩
        clear H
        go_wp2_with (fail)
        go_loopg [13, 14] M2.length (fun kx s13 s14 wr => ∃ (p i : Nat), s13 = .int .i64 p ∧ s14 = .int .i64 i ∧ i + kx = M2.length ∧ p ≤ M2.length ∧ Hid (one1 (M2.drop p) = one1 (L.drop i) ∧ Kept w O1 O2 M2 wr))
        case atStart => exact ⟨0, 0, rfl, rfl, by omega, Nat.zero_le _, P0⟩
        case round =>
          clear P0 hik
          obtain ⟨p, i, rfl, rfl, hik, hp, H⟩ := hrel
          cases gk with
          | zero =>
            obtain rfl : i = M2.length := by omega
            go_wp2_with (fail)
            go_ret
            exact ⟨rfl, H.out.2.below⟩
          | succ kx =>
            have hlt : i < M2.length := by omega
            have hlz : (i : Int) < (M2.length : Int) := by omega
            have hiL : i < L.length := by have := HML.out; omega
            obtain ⟨a, rfl, ha, hcs⟩ := rk_up hL H.out.2.below (by omega)
            obtain ⟨c0, c1⟩ := hcs i hiL
            have hab : ∀ j, (a.add j).block < wr.heap.size := fun j => by
              have : (a.add j).block = a.block := by unfold Addr.add; split <;> rfl
              rw [this]; exact ha
            have hi1 := hin L[i] (List.getElem_mem hiL)
            have th1 := fun W ht => third_k L[i].str L[i].sym W hi1.1 hi1.2 ht
            rw [show (⟨L[i].str, L[i].sym⟩ : Ky) = L[i] from rfl] at th1
            have hskip := fun h => one_skip (X := L) hiL h
            have htake := fun h => one_take (X := L) hiL h
            have HST := Lib.hid (And.intro hskip htake)
            clear hskip htake hi1
            obtain ⟨t, ht⟩ : ∃ t, t = thK L[i] := ⟨_, rfl⟩
            rw [← ht] at th1
            have HT := Lib.hid ht
            by_cases h1 : t = 1
            · have hin2 := HIN.out
              have hE := H.out.1.trans (HST.out.2 (by rw [← ht]; exact h1))
              have HE := Lib.hid hE
              subst h1
              obtain ⟨K0, hK0⟩ : ∃ K0, K0 = kx := ⟨kx, rfl⟩
              subst hK0
              clear ht hE hin2
              go_wp2_with (go_at_call 10; ((with_reducible refine (th1 _ ?_).mono ?_); exact tab_up HTAB.out H.out.2.below; rintro e v1 ⟨rfl, h1⟩; have KK := Lib.hid (H.out.2.up h1); clear h1))
              go_loopg [13] (M2.length - p) (fun k2 s13 wr2 => ∃ q : Nat, s13 = .int .i64 q ∧ q + k2 = M2.length ∧ Hid (one1 (M2.drop q) = L[i] :: one1 (L.drop (i + 1)) ∧ Kept w O1 O2 M2 wr2))
              case atStart => exact ⟨p, rfl, by omega, Lib.hid ⟨HE.out, KK.out⟩⟩
              case round =>
                clear KK HE c0 c1 hab
                obtain ⟨q, rfl, hqk, HQ⟩ := hrel
                cases gk with
                | zero =>
                  exfalso
                  have := HQ.out.1
                  rw [one_end (by omega)] at this
                  cases this
                | succ k2 =>
                  have hq : q < M2.length := by omega
                  have hqz : (q : Int) < (M2.length : Int) := by omega
                  obtain ⟨c0, c1⟩ := kcells HQ.out.2.m q hq
                  have o1 := lt_blk HQ.out.2.m
                  have hi2 := HIN.out M2[q] (List.getElem_mem hq)
                  have th2 := fun W ht => third_k M2[q].str M2[q].sym W hi2.1 hi2.2 ht
                  rw [show (⟨M2[q].str, M2[q].sym⟩ : Ky) = M2[q] from rfl] at th2
                  obtain ⟨t2, ht2⟩ : ∃ t2, t2 = thK M2[q] := ⟨_, rfl⟩
                  rw [← ht2] at th2
                  have HT2 := Lib.hid ht2
                  clear ht2 hi2
                  by_cases h2 : t2 = 1
                  · subst h2
                    have hE2 := HQ.out.1
                    rw [one_take hq HT2.out.symm] at hE2
                    injection hE2 with e1 e2
                    obtain ⟨b, hb0, hb, hcs2⟩ := rk_up hL HQ.out.2.below (by omega)
                    obtain rfl := Option.some.inj hb0
                    obtain ⟨l0, l1⟩ := hcs2 i hiL
                    have hab : ∀ j, (a.add j).block < wr.heap.size := fun j => by
                      have : (a.add j).block = a.block := by unfold Addr.add; split <;> rfl
                      rw [this]; exact hb
                    rw [← e1] at l0 l1
                    have qe := key_eq 9998 M2[q].str M2[q].str M2[q].sym M2[q].sym
                    rw [show (M2[q].str == M2[q].str && M2[q].sym == M2[q].sym) = eqK M2[q] M2[q] from rfl, eqK_iff.2 rfl] at qe
                    have HE2 := Lib.hid e2
                    clear e1 e2 hcs2 hb0 th1
                    generalize M2[q].str = s at *
                    generalize M2[q].sym = y at *
                    go_wp2_with (fail)
                    go_at_call 10
                    refine (th2 _ (tab_up HTAB.out HQ.out.2.below)).mono ?_
                    rintro e v2 ⟨rfl, h2⟩
                    have e1 := vcell h2
                    replace c0 := (e1.1 O1 (q * 2) o1).trans c0
                    replace c1 := (e1.1 O1 (q * 2 + 1) o1).trans c1
                    replace l0 := (h2.cell (p := a.add (i * 2)) (hab _)).trans l0
                    replace l1 := (h2.cell (p := ⟨(a.add (i * 2)).block, (a.add (i * 2)).off + 1, none⟩) (hab (i * 2))).trans l1
                    have KK := Lib.hid (HQ.out.2.up h2)
                    replace o1 := lt_blk KK.out.m
                    replace hab := fun j => vltn h2 (hab j)
                    clear h2 e1
                    go_wp2_with (fail)
                    go_quiet (fail)
                    go_wp2_with (fail)
                    go_roundg K0
                    case measure => omega
                    case rel => exact ⟨q + 1, i + 1, by congr 1, by congr 1, by omega, by omega, Lib.hid ⟨HE2.out, KK.out.up ⟨rfl, rfl, rfl, Nat.le_refl _, fun _ _ => rfl⟩⟩⟩
                  · have h2z : ¬ ((t2 : Int) = 1) := by omega
                    go_wp2_with (go_at_call 10; ((with_reducible refine (th2 _ ?_).mono ?_); exact tab_up HTAB.out HQ.out.2.below; rintro e v2 ⟨rfl, h2⟩; have KK := Lib.hid (HQ.out.2.up h2); clear h2))
                    go_roundg k2
                    case measure => omega
                    case rel => exact ⟨q + 1, by congr 1, by omega, Lib.hid ⟨by rw [← one_skip hq (by rw [← HT2.out]; exact h2)]; exact HQ.out.1, KK.out⟩⟩
            · clear ht hcs
              go_wp2_with (go_at_call 10; ((with_reducible refine (th1 _ ?_).mono ?_); exact tab_up HTAB.out H.out.2.below; rintro e v1 ⟨rfl, h1⟩; have KK := Lib.hid (H.out.2.up h1); clear h1))
              go_roundg kx
              case measure => omega
              case rel => exact ⟨p, i + 1, rfl, by congr 1, by omega, hp, Lib.hid ⟨H.out.1.trans (HST.out.1 (by rw [← HT.out]; exact h1)), KK.out⟩⟩
      | succ kx =>
        have hlt : i < M2.length := by omega
        have hlz : (i : Int) < (M2.length : Int) := by omega
        obtain ⟨c0, c1⟩ := kcells H.out.m i hlt
        obtain ⟨d0, d1⟩ := kcells H.out.again i hlt
        have g1 := lt_blk H.out.m
        have g2 := lt_blk H.out.again
        have hb := below_drew wr
        have qe := key_eq 9998 M2[i].str M2[i].str M2[i].sym M2[i].sym
        rw [show (M2[i].str == M2[i].str && M2[i].sym == M2[i].sym) = eqK M2[i] M2[i] from rfl, eqK_iff.2 rfl] at qe
        have t1 := fun W hb => times_keep A L cap M2[i] O1 O2 wr W (by have := HML.out; omega) (rk_up hL H.out.below) g1 g2 hb
        have t2 := fun W hb => times_keep (some ⟨O1, 0, none⟩) M2 M2.length M2[i] O1 O2 wr W (by omega) (rk_blk H.out.m) g1 g2 hb
        rw [HML.out.symm] at t1
        rw [times_ord HO.out] at t2
        have hT : timesL L M2[i] ≤ 200 := by have := times_le L M2[i] L.length; rw [List.take_length] at this; have := HML.out; omega
        have hT2 : ((timesL L M2[i] : Nat) : Int) ≤ 200 := by omega
        generalize timesL L M2[i] = n at *
        have HI1 := Lib.hid (HIN.out M2[i] (List.getElem_mem hlt))
        generalize hs : M2[i].str = s at *
        generalize hy : M2[i].sym = y at *
        go_wp2
        have hwl : Below wr.heap.size wr wr.drew ∧ O1 < wr.heap.size := ⟨hb, g1⟩
        go_region_held3 (fun w' => Below wr.heap.size wr w' ∧ w'.cell? ⟨O1, i * 2, none⟩ = some (.string s) ∧ w'.cell? ⟨O1, i * 2 + 1, none⟩ = some (.int .i64 y) ∧ w'.cell? ⟨O2, i * 2, none⟩ = some (.string s) ∧ w'.cell? ⟨O2, i * 2 + 1, none⟩ = some (.int .i64 y)) (first | exact ⟨hb, c0, c1, d0, d1⟩ | go_keep)
          (first | (go_at_call 9; first | ((with_reducible refine (t1 _ ?_).mono ?_); (simp [*]); rintro e w' ⟨rfl, hb1, hb2, hb3⟩) | ((with_reducible refine (t2 _ ?_).mono ?_); (simp [*]); rintro e w' ⟨rfl, hb1, hb2, hb3⟩)))
        have KK : Hid (Kept w O1 O2 M2 w') := Lib.hid (H.out.up (by assumption))
        clear hwl hb c0 c1 d0 d1 qe t1 t2 hT hT2 H g1 g2 hb2 hb3
        cases i with
        | zero =>
          go_wp2
          go_roundg kx
          case measure => omega
          case rel => exact ⟨1, by simp, by omega, KK⟩
        | succ j =>
          have hj : j < M2.length := by omega
          obtain ⟨c0, c1⟩ := kcells KK.out.m j hj
          obtain ⟨d0, d1⟩ := kcells KK.out.m (j + 1) hlt
          have hi1 := HIN.out M2[j] (List.getElem_mem hj)
          have hi2 := HIN.out M2[j + 1] (List.getElem_mem hlt)
          have th1 := fun W ht => third_k M2[j].str M2[j].sym W hi1.1 hi1.2 ht
          have th2 := fun W ht => third_k M2[j + 1].str M2[j + 1].sym W hi2.1 hi2.2 ht
          have ix1 := fun W ht => Index_k M2[j].str M2[j].sym W hi1.1 hi1.2 ht
          have ix2 := fun W ht => Index_k M2[j + 1].str M2[j + 1].sym W hi2.1 hi2.2 ht
          have hr := ord_step HO.out j hlt
          have hab := th_mono hr
          have hxy : thK M2[j] = 0 → thK M2[j + 1] = 0 → ixN M2[j] ≤ ixN M2[j + 1] := fun e1 e2 => by rw [th_zero e1, th_zero e2]; exact hr
          rw [show (⟨M2[j].str, M2[j].sym⟩ : Ky) = M2[j] from rfl] at th1
          rw [show (⟨M2[j + 1].str, M2[j + 1].sym⟩ : Ky) = M2[j + 1] from rfl] at th2
          unfold IdxTo at ix1 ix2
          rw [show (ixK M2[j].str M2[j].sym).getD 0 = ixN M2[j] from rfl] at ix1
          rw [show (ixK M2[j + 1].str M2[j + 1].sym).getD 0 = ixN M2[j + 1] from rfl] at ix2
          generalize (ixK M2[j].str M2[j].sym).isSome = p1 at *
          generalize (ixK M2[j + 1].str M2[j + 1].sym).isSome = p2 at *
          generalize thK M2[j] = ta at *
          generalize thK M2[j + 1] = tb at *
          generalize ixN M2[j] = xa at *
          generalize ixN M2[j + 1] = xb at *
          generalize M2[j].str = s1 at *
          generalize M2[j].sym = y1 at *
          generalize M2[j + 1].str = s2 at *
          generalize M2[j + 1].sym = y2 at *
          have habz : ¬ tb < ta := by omega
          have fin : ¬ ta = 0 ∨ ¬ tb = 0 ∨ ¬ xb < xa := by
            by_cases e1 : ta = 0
            · by_cases e2 : tb = 0
              · right; right
                have := hxy e1 e2
                omega
              · right; left; exact e2
            · left; exact e1
          clear hr hab hxy hi1 hi2 hs hy
          have o1 := lt_blk KK.out.m
          rcases fin with fin | fin | fin
          all_goals
            go_wp2_with (first
              | (go_at_call 10; first
                | ((with_reducible refine (th1 _ ?_).mono ?_); exact tab_up HTAB.out KK.out.below; rintro e v1 ⟨rfl, h1⟩; have e1 := vcell h1; have c0 := (e1.1 O1 (j * 2) o1).trans c0; have c1 := (e1.1 O1 (j * 2 + 1) o1).trans c1; have d0 := (e1.1 O1 ((j + 1) * 2) o1).trans d0; have d1 := (e1.1 O1 ((j + 1) * 2 + 1) o1).trans d1; have KK := Lib.hid (KK.out.up h1); have o1 := lt_blk KK.out.m; clear h1 e1)
                | ((with_reducible refine (th2 _ ?_).mono ?_); exact tab_up HTAB.out KK.out.below; rintro e v2 ⟨rfl, h2⟩; have e1 := vcell h2; have c0 := (e1.1 O1 (j * 2) o1).trans c0; have c1 := (e1.1 O1 (j * 2 + 1) o1).trans c1; have d0 := (e1.1 O1 ((j + 1) * 2) o1).trans d0; have d1 := (e1.1 O1 ((j + 1) * 2 + 1) o1).trans d1; have KK := Lib.hid (KK.out.up h2); have o1 := lt_blk KK.out.m; clear h2 e1))
              | (go_at_call 11; first
                | ((with_reducible refine (ix1 _ ?_).mono ?_); exact tab_up HTAB.out KK.out.below; rintro e v3 ⟨rfl, h3⟩; have e1 := vcell h3; have c0 := (e1.1 O1 (j * 2) o1).trans c0; have c1 := (e1.1 O1 (j * 2 + 1) o1).trans c1; have d0 := (e1.1 O1 ((j + 1) * 2) o1).trans d0; have d1 := (e1.1 O1 ((j + 1) * 2 + 1) o1).trans d1; have KK := Lib.hid (KK.out.up h3); have o1 := lt_blk KK.out.m; clear h3 e1)
                | ((with_reducible refine (ix2 _ ?_).mono ?_); exact tab_up HTAB.out KK.out.below; rintro e v4 ⟨rfl, h4⟩; have e1 := vcell h4; have c0 := (e1.1 O1 (j * 2) o1).trans c0; have c1 := (e1.1 O1 (j * 2 + 1) o1).trans c1; have d0 := (e1.1 O1 ((j + 1) * 2) o1).trans d0; have d1 := (e1.1 O1 ((j + 1) * 2 + 1) o1).trans d1; have KK := Lib.hid (KK.out.up h4); have o1 := lt_blk KK.out.m; clear h4 e1)))
          all_goals
            go_roundg kx
            case measure => omega
            case rel => exact ⟨j + 2, by congr 1, by omega, KK⟩
end Go.Proofs.YtkkpeagcbgijlaaDoor.S
