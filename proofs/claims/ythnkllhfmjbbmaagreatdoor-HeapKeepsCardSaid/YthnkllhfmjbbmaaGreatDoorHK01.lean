/-
  HeapKeeps' reaches: from what one comes to one comes to nothing else.
-/
import Derived.Test.YthnkllhfmjbbmaaGreatDoorHM45
import Derived.Test.YthnkllhfmjbbmaaGreatDoorHM39
import Derived.Test.YthnkllhfmjbbmaaGreatDoorHM41
import Derived.Test.YthnkllhfmjbbmaaGreatDoorHM44
import Derived.Test.YthnkllhfmjbbmaaGreatDoorHM25
import Derived.Test.YthnkllhfmjbbmaaGreatDoorHM43
namespace Go.Proofs.YthnkllhfmjbbmaaGreatDoor.S
open Go.RowKit Go.Lib Fl
open Classical

theorem nats_up (L : List Nat) : nats (upZ L) = L := by
  unfold nats upZ
  rw [List.map_map]
  exact (List.map_congr_left fun x _ => by simp).trans (List.map_id L)
theorem irow_own {W : World} {base g cap : Nat} {L : List Nat} (h : W.ownsRow base 3 1 (.slice (some ⟨g, 0, none⟩) L.length cap) L.length (wkv L)) (_ : 0 < L.length) : IRow W (some ⟨g, 0, none⟩) (upZ L) := fun _ => by
  refine ⟨_, rfl, ?_, fun i hi => ?_⟩
  · exact (h.lt g rfl).2
  · have hi2 : i < L.length := by rw [upZ_len] at hi; exact hi
    have := own_cell h i hi2
    rw [show (⟨g, 0, none⟩ : Addr).add i = ⟨g, i, none⟩ by unfold Addr.add; split <;> simp_all, this]
    simp [upZ]
/-- the loop's world -/
structure Mq (w : World) (g1 g2 : Nat) (L : List Nat) (W : World) : Prop where
  below : Below w.heap.size w W
  l : ∀ i (h : i < L.length), W.cell? ⟨g1, i, none⟩ = some (.int .i64 (L[i] : Int))
  m : ∀ i (h : i < L.length), W.cell? ⟨g2, i, none⟩ = some (.int .i64 (L[i] : Int))
theorem Mq.drew {w : World} {g1 g2 : Nat} {L : List Nat} {W : World} (h : Mq w g1 g2 L W) : Mq w g1 g2 L W.drew := ⟨h.below.trans ((Below.refl _ _).drew), h.l, h.m⟩
set_option maxHeartbeats 8000000 in
set_option maxRecDepth 1000000 in
theorem reaches_h (A : Option Addr) (H : List Ob) (cap : Nat) (n : Int) (w : World) (hI : HIn w A H cap) (hmay : mayH H = true) (htab : TabHere w) : Calls Tryz.prog 24 #[.agg #[.slice A H.length cap], .int .i64 n] w fun e w' => e = .returned (.bool true) ∧ Below w.heap.size w w' := by
  have HQ := Lib.hid (Aq.mk (A := A) (n := H.length) (cap := cap) (vzero w _) (heap_alloc_new w _))
  have hq := HQ.out.q
  have hR1 : ∀ W, Below w.heap.size w W → Calls Tryz.prog 16 #[.agg #[.slice A H.length cap], .slice (some ⟨W.heap.size, 0, none⟩) 1 1] (W.alloc (.cells #[.int .i64 n] 3)) (ReachTo H [n] (W.alloc (.cells #[.int .i64 n] 3))) := fun W hb => Reach_h A (some ⟨W.heap.size, 0, none⟩) H [n] cap 1 (W.alloc (.cells #[.int .i64 n] 3)) (hI.up (vb hb (vzero _ _))) (irow_one W n) (by simp) (by simp) (tab_up htab (vb hb (vzero _ _)))
  by_cases hin : inZ H n
  · have h1n : reachE H [n] = 0 := reach_ok (chk_ok hmay) (by simp) fun z hz => by simp at hz; rw [hz]; exact hin
    have cR1 := fun W hb => (hR1 W hb).mono fun e w' h => reach_fine h h1n
    unfold inZ at hin
    obtain ⟨k, rfl⟩ := Int.eq_ofNat_of_zero_le hin.1
    have hkl : k < H.length := by omega
    have hnk : nats [(k : Int)] = [k] := by simp [nats]
    rw [hnk] at cR1
    unfold R0 at cR1
    have hkk : ∀ x ∈ [k], x < H.length := fun x hx => by simp at hx; omega
    have hag := reachL_again hmay hkk
    have hup := reachL_up H [k]
    have hlt := fun x (hx : x ∈ reachL H [k]) => reachL_lt hx
    have hkm : k ∈ reachL H [k] := (reachL_mem hmay hkk k).2 (.start (by simp))
    have hm4 := (mayH_iff.1 hmay).1
    have hL1 := nodup_len (hup.imp Nat.ne_of_lt) hlt
    have hR2 : ∀ W g1 c1 base, Below w.heap.size w W → W.ownsRow base 3 1 (.slice (some ⟨g1, 0, none⟩) (reachL H [k]).length c1) (reachL H [k]).length (wkv (reachL H [k])) → Calls Tryz.prog 16 #[.agg #[.slice A H.length cap], .slice (some ⟨g1, 0, none⟩) (reachL H [k]).length c1] W (R0 (reachL H [k]) W) := fun W g1 c1 base hb ho => by
      have hz0 : reachE H (upZ (reachL H [k])) = 0 := reach_ok (chk_ok hmay) (by rw [upZ_len]; omega) fun z hz => by
        obtain ⟨x, hx, rfl⟩ := List.mem_map.1 hz
        have := hlt x hx
        exact ⟨by omega, by omega⟩
      have := Reach_h A (some ⟨g1, 0, none⟩) H (upZ (reachL H [k])) cap c1 W (hI.up hb) (irow_own ho (List.length_pos_of_mem hkm)) (by rw [upZ_len]; exact List.length_pos_of_mem hkm) (by rw [upZ_len]; omega) (tab_up htab hb)
      rw [upZ_len] at this
      refine this.mono fun e w' h => ?_
      have h2 := reach_fine h hz0
      rw [nats_up, hag] at h2
      exact h2
    unfold R0 at hR2
    have hL2 : (reachL H [k]).length ≤ 1000000 := by omega
    clear hR1 h1n hin hnk hkk hag hlt hL1 hmay
    generalize reachL H [k] = L at *
    have HUP := Lib.hid hup
    have HKM := Lib.hid hkm
    clear hup hkm
    have cR0 := cR1 _ HQ.out.below
    rw [show (w.alloc (.cells #[.slice A H.length cap] 24)).heap.size = w.heap.size + 1 by simp] at cR0
    go_enter Tryz.func24, Tryz.ntmps24
    go_wp2_with (first
      | (go_at_call 16; (with_reducible refine cR0.mono ?_); rintro e w3 ⟨g1, c1, rfl, hown1, h9⟩; have HQ := Lib.hid (HQ.out.up (vb (vzero _ _) h9)); have hq := HQ.out.q; have HO1 := Lib.hid hown1; clear hown1 h9)
      | (go_at_call 16; (with_reducible refine (hR2 _ _ _ _ HQ.out.below HO1.out).mono ?_); rintro e w4 ⟨g2, c2, rfl, hown2, h9⟩; have HO1 := Lib.hid (own_upi HO1.out h9); have HQ := Lib.hid (HQ.out.up h9); have hq := HQ.out.q; have HO2 := Lib.hid hown2; clear hown2 h9))
    have HMO : Hid (Mq w g1 g2 L w4) := Lib.hid ⟨HQ.out.below, own_cell HO1.out, own_cell HO2.out⟩
    clear HO1 HO2 hq HQ cR1 cR0 hR2
    go_loopg [9, 10] L.length (fun kx s9 s10 wr => ∃ i : Nat, s9 = .bool (anyR L i (k : Int)) ∧ s10 = .int .i64 i ∧ i + kx = L.length ∧ Hid (Mq w g1 g2 L wr))
    case atStart => exact ⟨0, by rw [any_zero], rfl, by omega, HMO⟩
    case round =>
      obtain ⟨i, rfl, rfl, hik, HR⟩ := hrel
      cases gk with
      | zero =>
        obtain rfl : i = L.length := by omega
        rw [any_all ⟨_, HKM.out, rfl⟩]
        go_wp2
        go_ret
        exact ⟨rfl, HR.out.below⟩
      | succ kx =>
        have hlt : i < L.length := by omega
        have hlz : (i : Int) < (L.length : Int) := by omega
        have hl0 : (0 : Int) ≤ (i : Int) := by omega
        have HT := Lib.hid (any_succ L i hlt (k : Int))
        have hS : Mq w g1 g2 L wr.drew := HR.out.drew
        have hxx : ((L[i] : Int) != (L[i] : Int)) = false := by simp
        generalize hb : anyR L i (k : Int) = b
        have HB := Lib.hid hb
        clear hb
        by_cases h0 : i = 0
        · subst h0
          cases b
          all_goals
            go_wp2_with (fail)
            refine wp_region_held_drew (S := Mq w g1 g2 L) (by kernel_rfl) hS (fun hHeld => ?_)
            refine hH_take (i := 0) (v := ?_) (d := 50) (l2 := #[true, false, false, false, false, false, false, false, false, false, false, false, false, false, false, false, false, false, false, false, false, false, false, false, false]) rfl (by kernel_rfl) (by kernel_rfl) (by kernel_rfl) (fun _ _ _ h => h) (by kernel_rfl) ?_ (by assumption) rfl (by kernel_rfl) ?_
            rotate_left
            · intro w hSw; (try dsimp only at hSw); go_simp; (try with_reducible rfl)
            simp only [List.set]
            refine hH_take (i := 1) (v := ?_) (d := 51) (l2 := #[true, true, false, false, false, false, false, false, false, false, false, false, false, false, false, false, false, false, false, false, false, false, false, false, false]) rfl (by kernel_rfl) (by kernel_rfl) (by kernel_rfl) (fun _ _ _ h => h) (by kernel_rfl) ?_ (by assumption) rfl (by kernel_rfl) ?_
            rotate_left
            · intro w hSw; (try dsimp only at hSw); go_simp; (try with_reducible rfl)
            simp only [List.set]
            refine hH_take (i := 2) (v := ?_) (d := 52) (l2 := #[true, true, true, false, false, false, false, false, false, false, false, false, false, false, false, false, false, false, false, false, false, false, false, false, false]) rfl (by kernel_rfl) (by kernel_rfl) (by kernel_rfl) (fun _ _ _ h => h) (by kernel_rfl) ?_ (by assumption) rfl (by kernel_rfl) ?_
            rotate_left
            · intro w hSw; (try dsimp only at hSw); go_simp; (try with_reducible rfl)
            simp only [List.set]
            refine hH_take (i := 3) (v := ?_) (d := 53) (l2 := #[true, true, true, true, false, false, false, false, false, false, false, false, false, false, false, false, false, false, false, false, false, false, false, false, false]) rfl (by kernel_rfl) (by kernel_rfl) (by kernel_rfl) (fun _ _ _ h => h) (by kernel_rfl) ?_ (by assumption) rfl (by kernel_rfl) ?_
            rotate_left
            · intro w hSw; have q := hSw.m 0 hlt; go_simp; (try with_reducible rfl)
            simp only [List.set]
            refine hH_take (i := 4) (v := ?_) (d := 54) (l2 := #[true, true, true, true, true, false, false, false, false, false, false, false, false, false, false, false, false, false, false, false, false, false, false, false, false]) rfl (by kernel_rfl) (by kernel_rfl) (by kernel_rfl) (fun _ _ _ h => h) (by kernel_rfl) ?_ (by assumption) rfl (by kernel_rfl) ?_
            rotate_left
            · intro w hSw; (try dsimp only at hSw); go_simp; (try with_reducible rfl)
            simp only [List.set]
            refine hH_take (i := 5) (v := ?_) (d := 55) (l2 := #[true, true, true, true, true, true, false, false, false, false, false, false, false, false, false, false, false, false, false, false, false, false, false, false, false]) rfl (by kernel_rfl) (by kernel_rfl) (by kernel_rfl) (fun _ _ _ h => h) (by kernel_rfl) ?_ (by assumption) rfl (by kernel_rfl) ?_
            rotate_left
            · intro w hSw; (try dsimp only at hSw); go_simp; (try with_reducible rfl)
            simp only [List.set]
            refine hH_take (i := 6) (v := ?_) (d := 56) (l2 := #[true, true, true, true, true, true, true, false, false, false, false, false, false, false, false, false, false, false, false, false, false, false, false, false, false]) rfl (by kernel_rfl) (by kernel_rfl) (by kernel_rfl) (fun _ _ _ h => h) (by kernel_rfl) ?_ (by assumption) rfl (by kernel_rfl) ?_
            rotate_left
            · intro w hSw; (try dsimp only at hSw); go_simp; (try with_reducible rfl)
            simp only [List.set]
            refine hH_take (i := 7) (v := ?_) (d := 57) (l2 := #[true, true, true, true, true, true, true, true, false, false, false, false, false, false, false, false, false, false, false, false, false, false, false, false, false]) rfl (by kernel_rfl) (by kernel_rfl) (by kernel_rfl) (fun _ _ _ h => h) (by kernel_rfl) ?_ (by assumption) rfl (by kernel_rfl) ?_
            rotate_left
            · intro w hSw; have q := hSw.l 0 hlt; go_simp; (try with_reducible rfl)
            simp only [List.set]
            refine hH_take (i := 8) (v := .bool false) (d := 58) (l2 := #[true, true, true, true, true, true, true, true, true, false, false, false, false, false, false, false, false, false, false, false, false, false, false, false, false]) rfl (by kernel_rfl) (by kernel_rfl) (by kernel_rfl) (fun _ _ _ h => h) (by kernel_rfl) ?_ (by assumption) rfl (by kernel_rfl) ?_
            · intro w hSw; go_simp; (try simp)
            simp only [List.set]
            refine hH_take (i := 9) (v := ?_) (d := 59) (l2 := #[true, true, true, true, true, true, true, true, true, true, false, false, false, false, false, false, false, false, false, false, false, false, false, false, false]) rfl (by kernel_rfl) (by kernel_rfl) (by kernel_rfl) (fun _ _ _ h => h) (by kernel_rfl) ?_ (by assumption) rfl (by kernel_rfl) ?_
            rotate_left
            · intro w hSw; (try dsimp only at hSw); go_simp; (try with_reducible rfl)
            simp only [List.set]
            refine hH_take (i := 10) (v := ?_) (d := 60) (l2 := #[true, true, true, true, true, true, true, true, true, true, true, false, false, false, false, false, false, false, false, false, false, false, false, false, false]) rfl (by kernel_rfl) (by kernel_rfl) (by kernel_rfl) (fun _ _ _ h => h) (by kernel_rfl) ?_ (by assumption) rfl (by kernel_rfl) ?_
            rotate_left
            · intro w hSw; (try dsimp only at hSw); go_simp; (try with_reducible rfl)
            simp only [List.set]
            refine hH_take (i := 11) (v := .bool false) (d := 61) (l2 := #[true, true, true, true, true, true, true, true, true, true, true, true, false, false, false, false, false, false, false, false, false, false, false, false, false]) rfl (by kernel_rfl) (by kernel_rfl) (by kernel_rfl) (fun _ _ _ h => h) (by kernel_rfl) ?_ (by assumption) rfl (by kernel_rfl) ?_
            · intro w hSw; go_simp; (try simp); (try omega)
            simp only [List.set]
            refine hH_take (i := 12) (v := ?_) (d := 62) (l2 := #[true, true, true, true, true, true, true, true, true, true, true, true, true, false, false, false, false, false, false, false, false, false, false, false, false]) rfl (by kernel_rfl) (by kernel_rfl) (by kernel_rfl) (fun _ _ _ h => h) (by kernel_rfl) ?_ (by assumption) rfl (by kernel_rfl) ?_
            rotate_left
            · intro w hSw; (try dsimp only at hSw); go_simp; (try with_reducible rfl)
            simp only [List.set]
            refine hH_drop (i := 13) (d := 63) (l2 := #[true, true, true, true, true, true, true, true, true, true, true, true, true, true, false, false, false, false, false, false, false, false, false, false, false]) rfl (by kernel_rfl) (by kernel_rfl) (by kernel_rfl) (fun _ _ _ h => h) (by kernel_rfl) (by assumption) rfl (by kernel_rfl) ?_
            simp only [List.set]
            refine hH_drop (i := 14) (d := 64) (l2 := #[true, true, true, true, true, true, true, true, true, true, true, true, true, true, true, false, false, false, false, false, false, false, false, false, false]) rfl (by kernel_rfl) (by kernel_rfl) (by kernel_rfl) (fun _ _ _ h => h) (by kernel_rfl) (by assumption) rfl (by kernel_rfl) ?_
            simp only [List.set]
            refine hH_drop (i := 15) (d := 65) (l2 := #[true, true, true, true, true, true, true, true, true, true, true, true, true, true, true, true, false, false, false, false, false, false, false, false, false]) rfl (by kernel_rfl) (by kernel_rfl) (by kernel_rfl) (fun _ _ _ h => h) (by kernel_rfl) (by assumption) rfl (by kernel_rfl) ?_
            simp only [List.set]
            refine hH_drop (i := 16) (d := 66) (l2 := #[true, true, true, true, true, true, true, true, true, true, true, true, true, true, true, true, true, false, false, false, false, false, false, false, false]) rfl (by kernel_rfl) (by kernel_rfl) (by kernel_rfl) (fun _ _ _ h => h) (by kernel_rfl) (by assumption) rfl (by kernel_rfl) ?_
            simp only [List.set]
            refine hH_drop (i := 17) (d := 67) (l2 := #[true, true, true, true, true, true, true, true, true, true, true, true, true, true, true, true, true, true, false, false, false, false, false, false, false]) rfl (by kernel_rfl) (by kernel_rfl) (by kernel_rfl) (fun _ _ _ h => h) (by kernel_rfl) (by assumption) rfl (by kernel_rfl) ?_
            simp only [List.set]
            refine hH_drop (i := 18) (d := 68) (l2 := #[true, true, true, true, true, true, true, true, true, true, true, true, true, true, true, true, true, true, true, false, false, false, false, false, false]) rfl (by kernel_rfl) (by kernel_rfl) (by kernel_rfl) (fun _ _ _ h => h) (by kernel_rfl) (by assumption) rfl (by kernel_rfl) ?_
            simp only [List.set]
            refine hH_drop (i := 19) (d := 69) (l2 := #[true, true, true, true, true, true, true, true, true, true, true, true, true, true, true, true, true, true, true, true, false, false, false, false, false]) rfl (by kernel_rfl) (by kernel_rfl) (by kernel_rfl) (fun _ _ _ h => h) (by kernel_rfl) (by assumption) rfl (by kernel_rfl) ?_
            simp only [List.set]
            refine hH_drop (i := 20) (d := 70) (l2 := #[true, true, true, true, true, true, true, true, true, true, true, true, true, true, true, true, true, true, true, true, true, false, false, false, false]) rfl (by kernel_rfl) (by kernel_rfl) (by kernel_rfl) (fun _ _ _ h => h) (by kernel_rfl) (by assumption) rfl (by kernel_rfl) ?_
            simp only [List.set]
            refine hH_drop (i := 21) (d := 71) (l2 := #[true, true, true, true, true, true, true, true, true, true, true, true, true, true, true, true, true, true, true, true, true, true, false, false, false]) rfl (by kernel_rfl) (by kernel_rfl) (by kernel_rfl) (fun _ _ _ h => h) (by kernel_rfl) (by assumption) rfl (by kernel_rfl) ?_
            simp only [List.set]
            refine hH_drop (i := 22) (d := 72) (l2 := #[true, true, true, true, true, true, true, true, true, true, true, true, true, true, true, true, true, true, true, true, true, true, true, false, false]) rfl (by kernel_rfl) (by kernel_rfl) (by kernel_rfl) (fun _ _ _ h => h) (by kernel_rfl) (by assumption) rfl (by kernel_rfl) ?_
            simp only [List.set]
            refine hH_take (i := 23) (v := ?_) (d := 73) (l2 := #[true, true, true, true, true, true, true, true, true, true, true, true, true, true, true, true, true, true, true, true, true, true, true, true, false]) rfl (by kernel_rfl) (by kernel_rfl) (by kernel_rfl) (fun _ _ _ h => h) (by kernel_rfl) ?_ (by assumption) rfl (by kernel_rfl) ?_
            rotate_left
            · intro w hSw; (try dsimp only at hSw); go_simp; (try with_reducible rfl)
            simp only [List.set]
            refine hH_take (i := 24) (v := ?_) (d := 74) (l2 := #[true, true, true, true, true, true, true, true, true, true, true, true, true, true, true, true, true, true, true, true, true, true, true, true, true]) rfl (by kernel_rfl) (by kernel_rfl) (by kernel_rfl) (fun _ _ _ h => h) (by kernel_rfl) ?_ (by assumption) rfl (by kernel_rfl) ?_
            rotate_left
            · intro w hSw; (try dsimp only at hSw); go_simp; (try with_reducible rfl)
            simp only [List.set]
            refine wpAnyH_done (by kernel_rfl) ?_ _
            have q1 := hS.l 0 hlt
            go_wp2_with (fail)
            go_roundg kx
            case measure => omega
            case rel => exact ⟨0 + 1, by rw [HT.out, HB.out]; simp, by congr 1, by omega, Lib.hid hS⟩
        · have hp : (0 : Int) < (i : Int) := by omega
          have hp1 : i - 1 < L.length := by omega
          have hpe : (i : Int) - 1 = ((i - 1 : Nat) : Int) := by omega
          have hpz : ((i - 1 : Nat) : Int) < (L.length : Int) := by omega
          have hp0 : (0 : Int) ≤ ((i - 1 : Nat) : Int) := by omega
          have hle : ¬ ((L[i] : Int) ≤ (L[i - 1] : Int)) := by
            have := List.pairwise_iff_getElem.1 HUP.out (i - 1) i hp1 hlt (by omega)
            omega
          cases b
          all_goals
            go_wp2_with (fail)
            refine wp_region_held_drew (S := Mq w g1 g2 L) (by kernel_rfl) hS (fun hHeld => ?_)
            refine hH_take (i := 0) (v := ?_) (d := 50) (l2 := #[true, false, false, false, false, false, false, false, false, false, false, false, false, false, false, false, false, false, false, false, false, false, false, false, false]) rfl (by kernel_rfl) (by kernel_rfl) (by kernel_rfl) (fun _ _ _ h => h) (by kernel_rfl) ?_ (by assumption) rfl (by kernel_rfl) ?_
            rotate_left
            · intro w hSw; (try dsimp only at hSw); go_simp; (try with_reducible rfl)
            simp only [List.set]
            refine hH_take (i := 1) (v := ?_) (d := 51) (l2 := #[true, true, false, false, false, false, false, false, false, false, false, false, false, false, false, false, false, false, false, false, false, false, false, false, false]) rfl (by kernel_rfl) (by kernel_rfl) (by kernel_rfl) (fun _ _ _ h => h) (by kernel_rfl) ?_ (by assumption) rfl (by kernel_rfl) ?_
            rotate_left
            · intro w hSw; (try dsimp only at hSw); go_simp; (try with_reducible rfl)
            simp only [List.set]
            refine hH_take (i := 2) (v := ?_) (d := 52) (l2 := #[true, true, true, false, false, false, false, false, false, false, false, false, false, false, false, false, false, false, false, false, false, false, false, false, false]) rfl (by kernel_rfl) (by kernel_rfl) (by kernel_rfl) (fun _ _ _ h => h) (by kernel_rfl) ?_ (by assumption) rfl (by kernel_rfl) ?_
            rotate_left
            · intro w hSw; (try dsimp only at hSw); go_simp; (try with_reducible rfl)
            simp only [List.set]
            refine hH_take (i := 3) (v := ?_) (d := 53) (l2 := #[true, true, true, true, false, false, false, false, false, false, false, false, false, false, false, false, false, false, false, false, false, false, false, false, false]) rfl (by kernel_rfl) (by kernel_rfl) (by kernel_rfl) (fun _ _ _ h => h) (by kernel_rfl) ?_ (by assumption) rfl (by kernel_rfl) ?_
            rotate_left
            · intro w hSw; have q := hSw.m i hlt; go_simp; (try with_reducible rfl)
            simp only [List.set]
            refine hH_take (i := 4) (v := ?_) (d := 54) (l2 := #[true, true, true, true, true, false, false, false, false, false, false, false, false, false, false, false, false, false, false, false, false, false, false, false, false]) rfl (by kernel_rfl) (by kernel_rfl) (by kernel_rfl) (fun _ _ _ h => h) (by kernel_rfl) ?_ (by assumption) rfl (by kernel_rfl) ?_
            rotate_left
            · intro w hSw; (try dsimp only at hSw); go_simp; (try with_reducible rfl)
            simp only [List.set]
            refine hH_take (i := 5) (v := ?_) (d := 55) (l2 := #[true, true, true, true, true, true, false, false, false, false, false, false, false, false, false, false, false, false, false, false, false, false, false, false, false]) rfl (by kernel_rfl) (by kernel_rfl) (by kernel_rfl) (fun _ _ _ h => h) (by kernel_rfl) ?_ (by assumption) rfl (by kernel_rfl) ?_
            rotate_left
            · intro w hSw; (try dsimp only at hSw); go_simp; (try with_reducible rfl)
            simp only [List.set]
            refine hH_take (i := 6) (v := ?_) (d := 56) (l2 := #[true, true, true, true, true, true, true, false, false, false, false, false, false, false, false, false, false, false, false, false, false, false, false, false, false]) rfl (by kernel_rfl) (by kernel_rfl) (by kernel_rfl) (fun _ _ _ h => h) (by kernel_rfl) ?_ (by assumption) rfl (by kernel_rfl) ?_
            rotate_left
            · intro w hSw; (try dsimp only at hSw); go_simp; (try with_reducible rfl)
            simp only [List.set]
            refine hH_take (i := 7) (v := ?_) (d := 57) (l2 := #[true, true, true, true, true, true, true, true, false, false, false, false, false, false, false, false, false, false, false, false, false, false, false, false, false]) rfl (by kernel_rfl) (by kernel_rfl) (by kernel_rfl) (fun _ _ _ h => h) (by kernel_rfl) ?_ (by assumption) rfl (by kernel_rfl) ?_
            rotate_left
            · intro w hSw; have q := hSw.l i hlt; go_simp; (try with_reducible rfl)
            simp only [List.set]
            refine hH_take (i := 8) (v := .bool false) (d := 58) (l2 := #[true, true, true, true, true, true, true, true, true, false, false, false, false, false, false, false, false, false, false, false, false, false, false, false, false]) rfl (by kernel_rfl) (by kernel_rfl) (by kernel_rfl) (fun _ _ _ h => h) (by kernel_rfl) ?_ (by assumption) rfl (by kernel_rfl) ?_
            · intro w hSw; go_simp; (try simp)
            simp only [List.set]
            refine hH_take (i := 9) (v := ?_) (d := 59) (l2 := #[true, true, true, true, true, true, true, true, true, true, false, false, false, false, false, false, false, false, false, false, false, false, false, false, false]) rfl (by kernel_rfl) (by kernel_rfl) (by kernel_rfl) (fun _ _ _ h => h) (by kernel_rfl) ?_ (by assumption) rfl (by kernel_rfl) ?_
            rotate_left
            · intro w hSw; (try dsimp only at hSw); go_simp; (try with_reducible rfl)
            simp only [List.set]
            refine hH_take (i := 10) (v := ?_) (d := 60) (l2 := #[true, true, true, true, true, true, true, true, true, true, true, false, false, false, false, false, false, false, false, false, false, false, false, false, false]) rfl (by kernel_rfl) (by kernel_rfl) (by kernel_rfl) (fun _ _ _ h => h) (by kernel_rfl) ?_ (by assumption) rfl (by kernel_rfl) ?_
            rotate_left
            · intro w hSw; (try dsimp only at hSw); go_simp; (try with_reducible rfl)
            simp only [List.set]
            refine hH_take (i := 11) (v := .bool true) (d := 61) (l2 := #[true, true, true, true, true, true, true, true, true, true, true, true, false, false, false, false, false, false, false, false, false, false, false, false, false]) rfl (by kernel_rfl) (by kernel_rfl) (by kernel_rfl) (fun _ _ _ h => h) (by kernel_rfl) ?_ (by assumption) rfl (by kernel_rfl) ?_
            · intro w hSw; go_simp; (try simp); (try omega)
            simp only [List.set]
            refine hH_take (i := 12) (v := ?_) (d := 62) (l2 := #[true, true, true, true, true, true, true, true, true, true, true, true, true, false, false, false, false, false, false, false, false, false, false, false, false]) rfl (by kernel_rfl) (by kernel_rfl) (by kernel_rfl) (fun _ _ _ h => h) (by kernel_rfl) ?_ (by assumption) rfl (by kernel_rfl) ?_
            rotate_left
            · intro w hSw; (try dsimp only at hSw); go_simp; (try with_reducible rfl)
            simp only [List.set]
            refine hH_take (i := 13) (v := ?_) (d := 63) (l2 := #[true, true, true, true, true, true, true, true, true, true, true, true, true, true, false, false, false, false, false, false, false, false, false, false, false]) rfl (by kernel_rfl) (by kernel_rfl) (by kernel_rfl) (fun _ _ _ h => h) (by kernel_rfl) ?_ (by assumption) rfl (by kernel_rfl) ?_
            rotate_left
            · intro w hSw; (try dsimp only at hSw); go_simp; (try with_reducible rfl)
            simp only [List.set]
            refine hH_take (i := 14) (v := ?_) (d := 64) (l2 := #[true, true, true, true, true, true, true, true, true, true, true, true, true, true, true, false, false, false, false, false, false, false, false, false, false]) rfl (by kernel_rfl) (by kernel_rfl) (by kernel_rfl) (fun _ _ _ h => h) (by kernel_rfl) ?_ (by assumption) rfl (by kernel_rfl) ?_
            rotate_left
            · intro w hSw; (try dsimp only at hSw); go_simp; (try with_reducible rfl)
            simp only [List.set]
            refine hH_take (i := 15) (v := ?_) (d := 65) (l2 := #[true, true, true, true, true, true, true, true, true, true, true, true, true, true, true, true, false, false, false, false, false, false, false, false, false]) rfl (by kernel_rfl) (by kernel_rfl) (by kernel_rfl) (fun _ _ _ h => h) (by kernel_rfl) ?_ (by assumption) rfl (by kernel_rfl) ?_
            rotate_left
            · intro w hSw; (try dsimp only at hSw); go_simp; (try with_reducible rfl)
            simp only [List.set]
            refine hH_take (i := 16) (v := ?_) (d := 66) (l2 := #[true, true, true, true, true, true, true, true, true, true, true, true, true, true, true, true, true, false, false, false, false, false, false, false, false]) rfl (by kernel_rfl) (by kernel_rfl) (by kernel_rfl) (fun _ _ _ h => h) (by kernel_rfl) ?_ (by assumption) rfl (by kernel_rfl) ?_
            rotate_left
            · intro w hSw; have q := hSw.l i hlt; go_simp; (try with_reducible rfl)
            simp only [List.set]
            refine hH_take (i := 17) (v := ?_) (d := 67) (l2 := #[true, true, true, true, true, true, true, true, true, true, true, true, true, true, true, true, true, true, false, false, false, false, false, false, false]) rfl (by kernel_rfl) (by kernel_rfl) (by kernel_rfl) (fun _ _ _ h => h) (by kernel_rfl) ?_ (by assumption) rfl (by kernel_rfl) ?_
            rotate_left
            · intro w hSw; (try dsimp only at hSw); go_simp; (try with_reducible rfl)
            simp only [List.set]
            refine hH_take (i := 18) (v := ?_) (d := 68) (l2 := #[true, true, true, true, true, true, true, true, true, true, true, true, true, true, true, true, true, true, true, false, false, false, false, false, false]) rfl (by kernel_rfl) (by kernel_rfl) (by kernel_rfl) (fun _ _ _ h => h) (by kernel_rfl) ?_ (by assumption) rfl (by kernel_rfl) ?_
            rotate_left
            · intro w hSw; (try dsimp only at hSw); go_simp; (try with_reducible rfl)
            simp only [List.set]
            refine hH_take (i := 19) (v := .int .i64 ((i - 1 : Nat) : Int)) (d := 69) (l2 := #[true, true, true, true, true, true, true, true, true, true, true, true, true, true, true, true, true, true, true, true, false, false, false, false, false]) rfl (by kernel_rfl) (by kernel_rfl) (by kernel_rfl) (fun _ _ _ h => h) (by kernel_rfl) ?_ (by assumption) rfl (by kernel_rfl) ?_
            · intro w hSw; go_simp; (try rw [hpe]); exact Go.IntWalk.i64_in _ (by omega)
            simp only [List.set]
            refine hH_take (i := 20) (v := ?_) (d := 70) (l2 := #[true, true, true, true, true, true, true, true, true, true, true, true, true, true, true, true, true, true, true, true, true, false, false, false, false]) rfl (by kernel_rfl) (by kernel_rfl) (by kernel_rfl) (fun _ _ _ h => h) (by kernel_rfl) ?_ (by assumption) rfl (by kernel_rfl) ?_
            rotate_left
            · intro w hSw; (try dsimp only at hSw); go_simp; (try with_reducible rfl)
            simp only [List.set]
            refine hH_take (i := 21) (v := ?_) (d := 71) (l2 := #[true, true, true, true, true, true, true, true, true, true, true, true, true, true, true, true, true, true, true, true, true, true, false, false, false]) rfl (by kernel_rfl) (by kernel_rfl) (by kernel_rfl) (fun _ _ _ h => h) (by kernel_rfl) ?_ (by assumption) rfl (by kernel_rfl) ?_
            rotate_left
            · intro w hSw; have q := hSw.l (i - 1) hp1; go_simp; (try with_reducible rfl)
            simp only [List.set]
            refine hH_take (i := 22) (v := ?_) (d := 72) (l2 := #[true, true, true, true, true, true, true, true, true, true, true, true, true, true, true, true, true, true, true, true, true, true, true, false, false]) rfl (by kernel_rfl) (by kernel_rfl) (by kernel_rfl) (fun _ _ _ h => h) (by kernel_rfl) ?_ (by assumption) rfl (by kernel_rfl) ?_
            rotate_left
            · intro w hSw; (try dsimp only at hSw); go_simp; (try with_reducible rfl)
            simp only [List.set]
            refine hH_take (i := 23) (v := ?_) (d := 73) (l2 := #[true, true, true, true, true, true, true, true, true, true, true, true, true, true, true, true, true, true, true, true, true, true, true, true, false]) rfl (by kernel_rfl) (by kernel_rfl) (by kernel_rfl) (fun _ _ _ h => h) (by kernel_rfl) ?_ (by assumption) rfl (by kernel_rfl) ?_
            rotate_left
            · intro w hSw; (try dsimp only at hSw); go_simp; (try with_reducible rfl)
            simp only [List.set]
            refine hH_take (i := 24) (v := ?_) (d := 74) (l2 := #[true, true, true, true, true, true, true, true, true, true, true, true, true, true, true, true, true, true, true, true, true, true, true, true, true]) rfl (by kernel_rfl) (by kernel_rfl) (by kernel_rfl) (fun _ _ _ h => h) (by kernel_rfl) ?_ (by assumption) rfl (by kernel_rfl) ?_
            rotate_left
            · intro w hSw; (try dsimp only at hSw); go_simp; (try with_reducible rfl)
            simp only [List.set]
            refine wpAnyH_done (by kernel_rfl) ?_ _
            have q1 := hS.l i hlt
            go_wp2_with (fail)
            go_roundg kx
            case measure => omega
            case rel => exact ⟨i + 1, by rw [HT.out, HB.out]; simp, by congr 1, by omega, Lib.hid hS⟩
  · have h1n : reachE H [n] = 2 := reach_arg (chk_ok hmay) (by simp) (z := n) (by simp) hin
    have cR1 := fun W hb => (hR1 W hb).mono fun e w' h => reach_err h (by rw [h1n]; decide)
    rw [h1n] at cR1
    unfold E0 at cR1
    have hfew := hI.few
    unfold inZ at hin
    clear hR1 h1n hI htab hmay
    have cR0 := cR1 _ HQ.out.below
    rw [show (w.alloc (.cells #[.slice A H.length cap] 24)).heap.size = w.heap.size + 1 by simp] at cR0
    rcases (show n < 0 ∨ (¬ n < 0 ∧ (H.length : Int) ≤ n) by omega) with hneg | ⟨hneg, hge⟩
    all_goals
      go_enter Tryz.func24, Tryz.ntmps24
      go_wp2_with (go_at_call 16; (with_reducible refine cR0.mono ?_); rintro e w3 ⟨rfl, h9⟩; have HQ := Lib.hid (HQ.out.up (vb (vzero _ _) h9)); have hq := HQ.out.q; clear h9)
      go_ret
      exact ⟨rfl, HQ.out.below⟩
end Go.Proofs.YthnkllhfmjbbmaaGreatDoor.S
/-
  heap.Put.
-/
namespace Go.Proofs.YthnkllhfmjbbmaaGreatDoor.S
open Go.RowKit Go.Lib Fl
open Classical

def thE (H : List Ob) (n : Int) : Int := if n < 0 ∨ (H.length : Int) ≤ n then 2 else 0
theorem th_zero {H : List Ob} {n : Int} (h : thE H n = 0) : inZ H n := by
  unfold thE at h
  unfold inZ
  split at h
  · exact absurd h (by decide)
  · omega
theorem orE_zero {x y : Int} (h : orE x y = 0) : x = 0 ∧ y = 0 := by
  unfold orE at h
  split at h
  · exact ⟨by assumption, h⟩
  · contradiction
/-- Put's error -/
noncomputable def hpE (H : List Ob) (n : Int) (o : Ob) : Int := if orE (chkH H) (thE H n) = 0 then chkH (hput H n.toNat o) else orE (chkH H) (thE H n)
def HputTo (H : List Ob) (n : Int) (o : Ob) (w : World) (e : Ending) (w' : World) : Prop := Below w.heap.size w w' ∧ ((hpE H n o ≠ 0 ∧ e = .returned (.tuple #[.agg #[.slice none 0 0], .int .i64 (hpE H n o)])) ∨
  (hpE H n o = 0 ∧ ∃ B M, e = .returned (.tuple #[.agg #[.slice (some ⟨B, 0, none⟩) H.length H.length], .int .i64 0]) ∧ Tw w.heap.size B (hput H n.toNat o) M w'))
theorem hput_end {f : Func} {i j : Nat} {t : TypeId} {Q : Ending → World → Prop} {tmps : Array Value} {W : World} {g : Nat} {v : Value} {y : Int} (hf : f.results = #[.cell i 24, .tmp j])
    (h2 : tmps[i]?.getD undef = .pointer (some ⟨g, 0, none⟩)) (h3 : tmps[j]?.getD undef = .int .i64 y) (hb : W.heap[g]? = some (.cells #[v] t (0, 0))) (hQ : Q (.returned (.tuple #[.agg #[v], .int .i64 y])) W) :
    bodyPost Tryz.prog f Q .ret { tmps := tmps, defers := [] } W := by
  have hl := run_loadVar_row (P := Tryz.prog) W g t 24 #[v] (0, 0) _ hb Tryz.underlying24 rfl hsz
  refine bodyPost_ret (v := .tuple #[.agg #[v], .int .i64 y]) ?_ rfl hQ
  simp [h2, h3, results, hf, hl, asAddr]
section
variable {ops : Array Oper} {rest : List Oper} {o : Oper} {a : Act} {w : World} {Q : Exit → Act → World → Prop} {x : Operand} {g : Nat}
theorem h1_ld {v : Value} (hw : Region.wanted o (yielded ops a.tmps) = true) (ho : o.op = .load 24 x) (hx : a.eval x = .pointer (some ⟨g, 0, none⟩)) (hg : w.heap[g]? = some (.cells #[v] 24 (0, 0)))
    (h : wpList Tryz.prog ops Q rest (a.put o.dst (.agg #[v])) w) : wpList Tryz.prog ops Q (o :: rest) a w :=
  wpList_wanted hw fun _ hK => wp_load_row 24 x ho g hx 24 _ (0, 0) _ hg Tryz.underlying24 rfl hsz (hK _ _ h)
end
set_option maxHeartbeats 4000000 in
set_option maxRecDepth 1000000 in
theorem Put_h (A : Option Addr) (H : List Ob) (cap : Nat) (n : Int) (o : Ob) (w : World) (hH : HIn w A H cap) (hp : ∀ o ∈ H, o.props.length ≤ 100000) (ho : PR w o.pa o.props) (hoi : o.In) (hop : o.props.length ≤ 100000) (htab : TabHere w) :
    Calls Tryz.prog 14 #[.agg #[.slice A H.length cap], .int .i64 n, .agg (obA o)] w (HputTo H n o w) := by
  have HN := Lib.hid (nw_start w A H.length cap o)
  have cC := fun W (hb : Below w.heap.size w W) => Check_h A H cap W (hH.up hb) (tab_up htab hb)
  have cT : ∀ W, Calls Tryz.prog 47 #[.agg #[.slice A H.length cap], .int .i64 n] W fun e w' => e = .returned (.int .i64 (thE H n)) ∧ Below W.heap.size W w' := fun W => there_h H A cap n W
  have hi1 : ∀ v : Value, (Tryz.prog.info? 24).map (·.size) = some (#[v] : Array Value).size := fun v => hsz
  have hc1 : ∀ v : Value, v.oneCell' = true → (#[v] : Array Value).all (·.oneCell') = true := fun v h => cells_one (l := [v]) (by simpa using h)
  have hpe1 : orE (chkH H) (thE H n) ≠ 0 → hpE H n o = orE (chkH H) (thE H n) := fun h => if_neg h
  have hpe2 : orE (chkH H) (thE H n) = 0 → hpE H n o = chkH (hput H n.toNat o) := fun h => if_pos h
  have hthz := fun h => th_zero (H := H) (n := n) h
  have HH := Lib.hid hH
  have HO := Lib.hid ho
  clear hH ho
  have HCZ := Lib.hid (@chk_zero H)
  generalize hx : chkH H = x at *
  generalize thE H n = y at *
  go_enter Tryz.func14, Tryz.ntmps14
  go_upto_region 1 with (fail)
  have hS : Nw w A H.length cap o _ := HN.out.up (Below.refl _ _).drew
  refine wp_region_held_drew (S := Nw w A H.length cap o) (by kernel_rfl) hS (fun hHeld => ?_)
  refine hH_take (i := 0) (v := .agg #[.slice A H.length cap]) (d := 11) (l2 := #[true, false, false, false, false, false, false, false]) rfl (by kernel_rfl) (by kernel_rfl) (by kernel_rfl) (fun _ _ _ h => h) (by kernel_rfl) (fun w hSw => ?_) (by assumption) rfl (by kernel_rfl) ?_
  · exact ex_load_at (h1_load hSw.h) rfl rfl
  simp only [List.set]
  refine hH_take (i := 2) (v := .agg #[.slice A H.length cap]) (d := 13) (l2 := #[true, false, true, false, false, false, false, false]) rfl (by kernel_rfl) (by kernel_rfl) (by kernel_rfl) (fun _ _ _ h => h) (by kernel_rfl) (fun w hSw => ?_) (by assumption) rfl (by kernel_rfl) ?_
  · exact ex_load_at (h1_load hSw.h) rfl rfl
  simp only [List.set]
  refine hH_take (i := 3) (v := .int .i64 n) (d := 14) (l2 := #[true, false, true, true, false, false, false, false]) rfl (by kernel_rfl) (by kernel_rfl) (by kernel_rfl) (fun _ _ _ h => h) (by kernel_rfl) (fun w hSw => ?_) (by assumption) rfl (by kernel_rfl) ?_
  · go_simp
  simp only [List.set]
  refine wpAnyH_ready (rs := [1]) (by kernel_rfl) (by simp) ?_
  refine AllReadyH.cons rfl (fun K hK => ?_) AllReadyH.nil
  go_simp
  go_at_call 20
  (with_reducible refine (cC _ hS.below).mono ?_)
  rintro e w1 ⟨rfl, h1⟩
  have hS := hS.up h1
  clear h1
  refine hK.out _ _ hS (fun hHeld => ?_)
  clear hK K
  refine wpAnyH_ready (rs := [4]) (by kernel_rfl) (by simp) ?_
  refine AllReadyH.cons rfl (fun K hK => ?_) AllReadyH.nil
  go_simp
  go_at_call 47
  (with_reducible refine (cT _).mono ?_)
  rintro e w1 ⟨rfl, h1⟩
  have hS := hS.up h1
  clear h1
  refine hK.out _ _ hS (fun hHeld => ?_)
  clear hK K
  refine wpAnyH_ready (rs := [5]) (by kernel_rfl) (by simp) ?_
  refine AllReadyH.cons rfl (fun K hK => ?_) AllReadyH.nil
  go_simp
  have hS := hS.up (vzero _ (.cells #[.int .i64 x, .int .i64 y] 25))
  have hO := orS_new w1 x y
  refine hK.out _ _ hS (fun hHeld => ?_)
  clear hK K
  refine wpAnyH_ready (rs := [6]) (by kernel_rfl) (by simp) ?_
  refine AllReadyH.cons rfl (fun K hK => ?_) AllReadyH.nil
  go_simp
  go_at_call 46
  (with_reducible refine (Or_2 _ x y _ hO.1 hO.2).mono ?_)
  rintro e w2 ⟨rfl, rfl⟩
  refine hK.out _ _ hS (fun hHeld => ?_)
  clear hK K
  refine hH_take (i := 7) (v := .int .i64 (orE x y)) (d := 8) (l2 := #[true, true, true, true, true, true, true, true]) rfl (by kernel_rfl) (by kernel_rfl) (by kernel_rfl) (fun _ _ _ h => h) (by kernel_rfl) (fun w hSw => ?_) (by assumption) rfl (by kernel_rfl) ?_
  · go_simp
  simp only [List.set]
  refine wpAnyH_done (by kernel_rfl) ?_ _
  have HN := Lib.hid hS
  by_cases h0 : orE x y = 0
  · obtain ⟨hx0, hy0⟩ := orE_zero h0
    have hin := hthz hy0
    obtain ⟨k, rfl⟩ := Int.eq_ofNat_of_zero_le hin.1
    have hkl : k < H.length := by have := hin.2; omega
    have hm : mayH H = true := HCZ.out.1 hx0
    have hpe := hpe2 h0
    rw [Int.toNat_natCast] at hpe
    rw [h0]
    obtain ⟨N, hN⟩ : ∃ N, N = hput H k o := ⟨_, rfl⟩
    obtain ⟨d, hd⟩ : ∃ d, d = H.length := ⟨_, rfl⟩
    have hNl : N.length = d := by rw [hN, hput_len H k o hkl, hd]
    have hf4 := (mayH_iff.1 hm).1
    have hNin : ∀ x ∈ N, x.In := fun x hx => by rw [hN, hput_old H k o hkl] at hx; rcases List.mem_or_eq_of_mem_set hx with h | h; exact HH.out.inn x h; rw [h]; exact hoi
    have hNp : ∀ x ∈ N, x.props.length ≤ 100000 := fun x hx => by rw [hN, hput_old H k o hkl] at hx; rcases List.mem_or_eq_of_mem_set hx with h | h; exact hp x h; rw [h]; exact hop
    have cW : ∀ W, Below w.heap.size w W → Calls Tryz.prog 43 #[.agg #[.slice A H.length cap], .int .i64 (k : Int), .agg (obA o)] W fun e w' => ∃ B M, e = .returned (.agg #[.slice (some ⟨B, 0, none⟩) d d]) ∧ Tw W.heap.size B N M w' ∧ Below W.heap.size W w' := fun W hb => by
      refine (with_h A H cap k o W (HH.out.up hb) hp (pr_up HO.out hb) hop (Nat.le_of_lt hkl)).mono ?_
      rintro e w1 ⟨B, M, rfl, hT, h9⟩
      rw [← hN] at hT ⊢
      exact ⟨B, M, by rw [hNl], hT, h9⟩
    have cK : ∀ W B M, Tw w.heap.size B N M W → Below w.heap.size w W → Calls Tryz.prog 20 #[.agg #[.slice (some ⟨B, 0, none⟩) d d]] W fun e w' => e = .returned (.int .i64 (chkH N)) ∧ Below W.heap.size W w' := fun W B M hT hb => by
      have hl : M.length = d := by rw [hT.len, hNl]
      have hi := hT.inn hNin (by omega) hNp
      have hm := Check_h _ M M.length W hi (tab_up htab hb)
      rw [chkH_like hT.like, hl] at hm
      exact hm
    rw [← hN] at hpe
    have HPE := Lib.hid hpe
    have HD := Lib.hid hd
    have HNN := Lib.hid hN
    clear hd hpe hpe1 hpe2 hN hNl hNin hNp hx0 hy0 hin hthz hm h0 cT cC
    by_cases hz : chkH N = 0
    · rw [hz] at cK
      go_wp2_with (first
        | ((with_reducible refine ob_load ?_ rfl rfl HN.out.o ?_); (rfl))
        | ((with_reducible refine h1_ld ?_ rfl rfl HN.out.h ?_); (rfl))
        | (go_at_call 43; (with_reducible refine (cW _ HN.out.below).mono ?_); rintro e w2 ⟨B, M, rfl, hT, h9⟩; have hle := Nat.lt_of_lt_of_le (lt_blk HN.out.r) hT.le; have hT := hT.mono HN.out.below.size; have HN := Lib.hid (HN.out.up h9); have HT := Lib.hid hT; clear h9 hT)
        | (go_at_call 20; (with_reducible refine (cK _ _ _ (HT.out.up (vzero _ _)) (vb HN.out.below (vzero _ _))).mono ?_); rintro e w3 ⟨rfl, h9⟩; have HN := Lib.hid (HN.out.up (vafter h9)); have HT := Lib.hid (HT.out.up (vafter h9)); have hr := HN.out.r; have hB := HN.out.below; have b4 := vblkn h9 (heap_alloc_new w2 _); have q5 : w3.cell? ⟨w2.heap.size, 0, none⟩ = some (.slice (some ⟨B, 0, none⟩) d d) := (vcells b4 0).trans rfl; clear h9)
        | ((with_reducible refine t_store rfl rfl rfl rfl hr (hi1 _) ?_ (hc1 _ rfl) hB (by omega) ?_); (rfl); intro W6 hb6 hW6 hO6 _))
      exact hput_end Tryz.results14 rfl rfl hW6 ⟨hb6, .inr ⟨by rw [HPE.out]; exact hz, B, M, by rw [← HD.out], by rw [Int.toNat_natCast, ← HNN.out]; exact HT.out.other hO6 hle⟩⟩
    · have hzb : (chkH N != 0) = true := by unfold bne; rw [beq_eq_false_iff_ne.2 hz]; rfl
      have HZ := Lib.hid hz
      clear hz
      obtain ⟨E, hE⟩ : ∃ E, E = chkH N := ⟨_, rfl⟩
      rw [← hE] at cK hzb
      have HE := Lib.hid hE
      clear hE
      go_wp2_with (first
        | ((with_reducible refine ob_load ?_ rfl rfl HN.out.o ?_); (rfl))
        | ((with_reducible refine h1_ld ?_ rfl rfl HN.out.h ?_); (rfl))
        | (go_at_call 43; (with_reducible refine (cW _ HN.out.below).mono ?_); rintro e w2 ⟨B, M, rfl, hT, h9⟩; have hle := Nat.lt_of_lt_of_le (lt_blk HN.out.r) hT.le; have hT := hT.mono HN.out.below.size; have HN := Lib.hid (HN.out.up h9); have HT := Lib.hid hT; clear h9 hT)
        | (go_at_call 20; (with_reducible refine (cK _ _ _ (HT.out.up (vzero _ _)) (vb HN.out.below (vzero _ _))).mono ?_); rintro e w3 ⟨rfl, h9⟩; have HN := Lib.hid (HN.out.up (vafter h9)); have hr := HN.out.r; have hB := HN.out.below; clear h9)
        | ((with_reducible refine t_store rfl rfl rfl rfl hr (hi1 _) ?_ (hc1 _ rfl) hB (by omega) ?_); (rfl); intro W6 hb6 hW6 hO6 _))
      exact hput_end Tryz.results14 rfl rfl hW6 ⟨hb6, .inl ⟨by rw [HPE.out]; exact HZ.out, by rw [HPE.out, ← HE.out]⟩⟩
  · have hzb : (orE x y != 0) = true := by unfold bne; rw [beq_eq_false_iff_ne.2 h0]; rfl
    have HPE := Lib.hid (hpe1 h0)
    have HZ := Lib.hid h0
    have hr := HN.out.r
    have hB := HN.out.below
    clear h0 cT cC hpe1 hpe2
    generalize orE x y = E at *
    go_wp2_with ((with_reducible refine t_store rfl rfl rfl rfl hr (hi1 _) ?_ (hc1 _ rfl) hB (by omega) ?_); (rfl); intro W6 hb6 hW6 hO6 _)
    exact hput_end Tryz.results14 rfl rfl hW6 ⟨hb6, .inl ⟨by rw [HPE.out]; exact HZ.out, by rw [HPE.out]⟩⟩
end Go.Proofs.YthnkllhfmjbbmaaGreatDoor.S
/-
  heap.Of.
-/
namespace Go.Proofs.YthnkllhfmjbbmaaGreatDoor.S
open Go.RowKit Go.Lib Fl
open Classical

/-- no object -/
def oZ : Ob := ⟨0, v0, false, none, 0, [], v0, v0, ⟨#[]⟩, false, false⟩
abbrev ozA : Array Value := #[.int .u8 0, .int .u8 0, .float .f64 0, .string ⟨#[]⟩, .int .i64 0, .bool false, .slice none 0 0, .int .u8 0, .float .f64 0, .string ⟨#[]⟩, .int .i64 0, .int .u8 0, .float .f64 0, .string ⟨#[]⟩, .int .i64 0, .string ⟨#[]⟩, .bool false, .bool false]
/-- Of's own blocks -/
structure Ow (w : World) (A : Option Addr) (n cap : Nat) (W : World) : Prop where
  below : Below w.heap.size w W
  h : W.heap[w.heap.size]? = some (.cells #[.slice A n cap] 24 (0, 0))
  r : W.heap[w.heap.size + 1]? = some (.cells ozA 34 (0, 0))
theorem Ow.up {w : World} {A : Option Addr} {n cap : Nat} {W W' : World} (h : Ow w A n cap W) (hb : Below W.heap.size W W') : Ow w A n cap W' := ⟨vb h.below hb, vblkn hb h.h, vblkn hb h.r⟩
theorem ow_start (w : World) (A : Option Addr) (n cap : Nat) : Ow w A n cap ((w.alloc (.cells #[.slice A n cap] 24)).alloc (.cells ozA 34)) := by
  obtain ⟨b1, b2⟩ := vblk2 (w := w) (Below.refl _ ((w.alloc (.cells #[.slice A n cap] 24)).alloc (.cells ozA 34)))
  exact ⟨vafter (vzero _ _), b1, b2⟩
noncomputable def ofE (H : List Ob) (n : Int) : Int := orE (chkH H) (thE H n)
/-- an object with its properties in block g -/
def Ob.at (o : Ob) (g : Nat) : Ob := { o with pa := some ⟨g, 0, none⟩, pc := o.props.length }
def OfTo (H : List Ob) (n : Int) (w : World) (e : Ending) (w' : World) : Prop := Below w.heap.size w w' ∧ ((ofE H n ≠ 0 ∧ e = .returned (.tuple #[.agg (obA oZ), .int .i64 (ofE H n)])) ∨
  (ofE H n = 0 ∧ ∃ (h : n.toNat < H.length) (g : Nat), e = .returned (.tuple #[.agg (obA (H[n.toNat].at g)), .int .i64 0]) ∧ w'.heap[g]? = some (.cells (prCells H[n.toNat].props).toArray 93 (0, 0))))
theorem of_end {f : Func} {i j : Nat} {t : TypeId} {Q : Ending → World → Prop} {tmps : Array Value} {W : World} {g : Nat} {o : Ob} {y : Int} (hf : f.results = #[.cell i 34, .tmp j])
    (h2 : tmps[i]?.getD undef = .pointer (some ⟨g, 0, none⟩)) (h3 : tmps[j]?.getD undef = .int .i64 y) (hb : W.heap[g]? = some (.cells (obA o) t (0, 0))) (hQ : Q (.returned (.tuple #[.agg (obA o), .int .i64 y])) W) :
    bodyPost Tryz.prog f Q .ret { tmps := tmps, defers := [] } W := by
  have hl := run_loadVar_row (P := Tryz.prog) W g t 34 (obA o) (0, 0) _ hb Tryz.underlying34 rfl osz
  refine bodyPost_ret (v := .tuple #[.agg (obA o), .int .i64 y]) ?_ rfl hQ
  simp [h2, h3, results, hf, hl, asAddr]
theorem obA_at (o : Ob) (g : Nat) : (obA o).setIfInBounds 6 (.slice (some ⟨g, 0, none⟩) o.props.length o.props.length) = obA (o.at g) := rfl
section
variable {ops : Array Oper} {rest : List Oper} {o : Oper} {a : Act} {w : World} {Q : Exit → Act → World → Prop} {x y : Operand} {t : TypeId}
theorem sl_store {cs : Array Value} {P : Option Addr} {B g m n c : Nat} {w0 : World} (hgd : o.guard = none) (ho : o.op = .store 32 x y) (hx : a.eval x = .pointer (some ⟨g, m, none⟩)) (hy : a.eval y = .slice P n c) (hg : w.heap[g]? = some (.cells cs t (0, 0))) (hm : m < cs.size) (hB : Below B w0 w) (hBg : B ≤ g)
    (h : ∀ W : World, Below B w0 W → W.heap[g]? = some (.cells (cs.setIfInBounds m (.slice P n c)) t (0, 0)) → (∀ j, j ≠ g → W.heap[j]? = w.heap[j]?) → W.heap.size = w.heap.size → wpList Tryz.prog ops Q rest (a.put o.dst undef) W) : wpList Tryz.prog ops Q (o :: rest) a w := by
  have hc : w.cell? ⟨g, m, none⟩ = some cs[m] := by rw [vcells hg m]; simp [hm]
  have hf : w.frozen? ⟨g, m, none⟩ = false := by simp [World.frozen?, hg]
  refine wpList_plain hgd fun K hK => ?_
  have hr : (Instr.storeAt 32 (.pointer (some ⟨g, m, none⟩)) (.slice P n c)).run Tryz.prog w = .ok () (w.setCell ⟨g, m, none⟩ (.slice P n c)) := by simp [go_sem, hc, hf]
  unfold Oper.wp execOp
  simp only [ho, hx, hy, hr, Sem.run_bind, Sem.run_pure, Result.andThen_ok]
  refine hK _ _ (h _ (hB.setCell (p := ⟨g, m, none⟩) hBg _) (vset1 hg m _) (fun j hj => ?_) (by simp))
  exact Below.heap_setCell w ⟨g, m, none⟩ _ j hj
end
set_option maxHeartbeats 4000000 in
set_option maxRecDepth 1000000 in
theorem Of_h (A : Option Addr) (H : List Ob) (cap : Nat) (n : Int) (w : World) (hH : HIn w A H cap) (hp : ∀ o ∈ H, o.props.length ≤ 100000) (htab : TabHere w) :
    Calls Tryz.prog 15 #[.agg #[.slice A H.length cap], .int .i64 n] w (OfTo H n w) := by
  have HN := Lib.hid (ow_start w A H.length cap)
  have cC := fun W (hb : Below w.heap.size w W) => Check_h A H cap W (hH.up hb) (tab_up htab hb)
  have cT : ∀ W, Calls Tryz.prog 47 #[.agg #[.slice A H.length cap], .int .i64 n] W fun e w' => e = .returned (.int .i64 (thE H n)) ∧ Below W.heap.size W w' := fun W => there_h H A cap n W
  have hi1 : ∀ o : Ob, (Tryz.prog.info? 34).map (·.size) = some (obA o).size := fun _ => osz
  have hofe : ofE H n = orE (chkH H) (thE H n) := rfl
  have hthz := fun h => th_zero (H := H) (n := n) h
  have HH := Lib.hid hH
  clear hH
  generalize hx : chkH H = x at *
  generalize thE H n = y at *
  go_enter Tryz.func15, Tryz.ntmps15
  go_upto_region 1 with (fail)
  have hS : Ow w A H.length cap _ := HN.out.up (Below.refl _ _).drew
  refine wp_region_held_drew (S := Ow w A H.length cap) (by kernel_rfl) hS (fun hHeld => ?_)
  refine hH_take (i := 0) (v := .agg #[.slice A H.length cap]) (d := 8) (l2 := #[true, false, false, false, false, false, false, false]) rfl (by kernel_rfl) (by kernel_rfl) (by kernel_rfl) (fun _ _ _ h => h) (by kernel_rfl) (fun w hSw => ?_) (by assumption) rfl (by kernel_rfl) ?_
  · exact ex_load_at (h1_load hSw.h) rfl rfl
  simp only [List.set]
  refine hH_take (i := 2) (v := .agg #[.slice A H.length cap]) (d := 10) (l2 := #[true, false, true, false, false, false, false, false]) rfl (by kernel_rfl) (by kernel_rfl) (by kernel_rfl) (fun _ _ _ h => h) (by kernel_rfl) (fun w hSw => ?_) (by assumption) rfl (by kernel_rfl) ?_
  · exact ex_load_at (h1_load hSw.h) rfl rfl
  simp only [List.set]
  refine hH_take (i := 3) (v := .int .i64 n) (d := 11) (l2 := #[true, false, true, true, false, false, false, false]) rfl (by kernel_rfl) (by kernel_rfl) (by kernel_rfl) (fun _ _ _ h => h) (by kernel_rfl) (fun w hSw => ?_) (by assumption) rfl (by kernel_rfl) ?_
  · go_simp
  simp only [List.set]
  refine wpAnyH_ready (rs := [1]) (by kernel_rfl) (by simp) ?_
  refine AllReadyH.cons rfl (fun K hK => ?_) AllReadyH.nil
  go_simp
  go_at_call 20
  (with_reducible refine (cC _ hS.below).mono ?_)
  rintro e w1 ⟨rfl, h1⟩
  have hS := hS.up h1
  clear h1
  refine hK.out _ _ hS (fun hHeld => ?_)
  clear hK K
  refine wpAnyH_ready (rs := [4]) (by kernel_rfl) (by simp) ?_
  refine AllReadyH.cons rfl (fun K hK => ?_) AllReadyH.nil
  go_simp
  go_at_call 47
  (with_reducible refine (cT _).mono ?_)
  rintro e w1 ⟨rfl, h1⟩
  have hS := hS.up h1
  clear h1
  refine hK.out _ _ hS (fun hHeld => ?_)
  clear hK K
  refine wpAnyH_ready (rs := [5]) (by kernel_rfl) (by simp) ?_
  refine AllReadyH.cons rfl (fun K hK => ?_) AllReadyH.nil
  go_simp
  have hS := hS.up (vzero _ (.cells #[.int .i64 x, .int .i64 y] 25))
  have hO := orS_new w1 x y
  refine hK.out _ _ hS (fun hHeld => ?_)
  clear hK K
  refine wpAnyH_ready (rs := [6]) (by kernel_rfl) (by simp) ?_
  refine AllReadyH.cons rfl (fun K hK => ?_) AllReadyH.nil
  go_simp
  go_at_call 46
  (with_reducible refine (Or_2 _ x y _ hO.1 hO.2).mono ?_)
  rintro e w2 ⟨rfl, rfl⟩
  refine hK.out _ _ hS (fun hHeld => ?_)
  clear hK K
  refine hH_take (i := 7) (v := .int .i64 (orE x y)) (d := 6) (l2 := #[true, true, true, true, true, true, true, true]) rfl (by kernel_rfl) (by kernel_rfl) (by kernel_rfl) (fun _ _ _ h => h) (by kernel_rfl) (fun w hSw => ?_) (by assumption) rfl (by kernel_rfl) ?_
  · go_simp
  simp only [List.set]
  refine wpAnyH_done (by kernel_rfl) ?_ _
  clear hO
  have HN := Lib.hid hS
  clear hS hHeld
  generalize w1.alloc (.cells #[.int .i64 x, .int .i64 y] 25) = W0 at *
  have HE := Lib.hid hofe
  clear hofe
  by_cases h0 : orE x y = 0
  · obtain ⟨hx0, hy0⟩ := orE_zero h0
    have hin := hthz hy0
    obtain ⟨k, rfl⟩ := Int.eq_ofNat_of_zero_le hin.1
    have hkz : (k : Int) < (H.length : Int) := hin.2
    have hk0 : (0 : Int) ≤ (k : Int) := hin.1
    have hkl : k < H.length := by omega
    rw [h0] at HE ⊢
    have hkn : ((k : Int)).toNat = k := Int.toNat_natCast k
    have hpk := hp H[k] (List.getElem_mem hkl)
    obtain ⟨a, rfl, hab, hof, hP⟩ := HH.out.at hkl
    have hoc := of_back hof
    have HOQ := Lib.hid (show ∃ o, o = H[k] from ⟨_, rfl⟩)
    obtain ⟨q, hq⟩ : ∃ q, q = H[k] := ⟨_, rfl⟩
    rw [← hq] at hof hP hpk hoc
    have HQ := Lib.hid hq
    have cP := fun W (hb : Below w.heap.size w W) => copiedP_h q.pa q.props.length q.pc (prCells q.props) W (pr_r18 (pr_up hP hb)) (by omega)
    clear hq hin hthz hx0 hy0 h0 cT cC HOQ hp
    have hq0 : W0.cell? ⟨w.heap.size, 0, none⟩ = some (.slice (some a) H.length cap) := (vcells HN.out.h 0).trans rfl
    have hcl := fun W (hb : Below w.heap.size w W) j u hu => (hb.cell (p := (a.add (k * 18)).add j) (by rw [add_blk]; exact hab)).trans (hoc j u hu)
    have hc5 := hcl _ HN.out.below
    go_wp2_with (first
      | ((with_reducible refine oa_load ?_ rfl rfl hc5 ?_); (rfl))
      | ((with_reducible refine t_store rfl rfl rfl rfl (heap_alloc_new W0 _) (hi1 q) ?_ (obA_one q) (vzero W0 _) (Nat.le_refl _) ?_); (rfl); intro W1 hb1 hW1 _ _; have HN1 := Lib.hid (HN.out.up hb1); have q6 : W1.cell? ⟨W0.heap.size, 6, none⟩ = some (.slice q.pa q.props.length q.pc) := (vcells hW1 6).trans rfl; have HB1 := Lib.hid hb1; clear hb1)
      | (go_at_call 48; (with_reducible refine (cP _ HN1.out.below).mono ?_); rintro e W2 ⟨g, rfl, hg1, hg2, h9⟩; have HN2 := Lib.hid (HN1.out.up h9); have hB2 := HN2.out.below; have hw7 := vblkn h9 hW1; have hlt7 := lt_blk hW1; have hle0 := HN.out.below.size; have HG2 := Lib.hid hg2; clear h9)
      | ((with_reducible refine sl_store rfl rfl rfl rfl hw7 (by rw [obA_size]; omega) hB2 hle0 ?_); intro W3 hb3 hW3 hO3 _; have hW3b := (obA_at q g) ▸ hW3; have hr3 := (hO3 _ (by have := lt_blk HN.out.r; omega)).trans HN2.out.r; have hg3 := (hO3 g (by omega)).trans HG2.out)
      | ((with_reducible refine ob_load ?_ rfl rfl hW3b ?_); (rfl))
      | ((with_reducible refine t_store rfl rfl rfl rfl hr3 (hi1 _) ?_ (obA_one (q.at g)) hb3 (by omega) ?_); (rfl); intro W6 hb6 hW6 hO6 _))
    refine of_end Tryz.results15 rfl rfl hW6 ⟨hb6, .inr ⟨HE.out, by rw [hkn]; exact hkl, g, ?_, ?_⟩⟩
    · simp only [hkn, ← HQ.out]
    · simp only [hkn, ← HQ.out]
      exact (hO6 g (by have := lt_blk HN.out.r; omega)).trans hg3
  · have hzb : (orE x y != 0) = true := by unfold bne; rw [beq_eq_false_iff_ne.2 h0]; rfl
    have HZ := Lib.hid h0
    have hr := HN.out.r
    have hB := HN.out.below
    clear h0 cT cC
    generalize orE x y = E at *
    have hoz : Value.agg (obA oZ) = Value.agg (obA oZ) := rfl
    go_wp2_with ((with_reducible refine t_store rfl rfl rfl rfl hr (hi1 oZ) ?_ (obA_one oZ) hB (by omega) ?_); (rfl); intro W6 hb6 hW6 hO6 _)
    exact of_end Tryz.results15 rfl rfl hW6 ⟨hb6, .inl ⟨by rw [HE.out]; exact HZ.out, by rw [HE.out]⟩⟩
end Go.Proofs.YthnkllhfmjbbmaaGreatDoor.S
