/-
  OrdinaryShuts: the walk.
-/
import Derived.Test.YtpeegmpfkongeaaGreatDoorSX03
namespace Go.Proofs.YtpeegmpfkongeaaGreatDoor.S
open Go.RowKit Go.Lib Fl
open Classical

set_option maxHeartbeats 16000000 in
set_option maxRecDepth 1000000 in
theorem OrdinaryShuts_walk (A : Option Addr) (H : List Ob) (cap : Nat) (n : Int) (ky : Ky) (w : World) (hH : HIn0 w A H cap) (hky : KyIn ky) (htab : TabHere w) :
    Calls Tryz.prog 7 #[.agg #[.slice A H.length cap], .int .i64 n, .agg #[.string ky.str, .int .i64 ky.sym]] w fun e w' => e = .returned (.bool true) ∧ Below w.heap.size w w' := by
  have HQ := Lib.hid (s1_start w A H.length cap ky)
  have hq := HQ.out.q
  have cA := fun W (hb : Below w.heap.size w W) => alive12 W (tab_up htab hb)
  have hi1 : ∀ v : Value, (Tryz.prog.info? 24).map (·.size) = some (#[v] : Array Value).size := fun v => hsz
  have hc1 : ∀ v : Value, v.oneCell' = true → (#[v] : Array Value).all (·.oneCell') = true := fun v h => cells_one (l := [v]) (by simpa using h)
  by_cases hm : (60 < H.length ∧ H.length ≤ 4096) ∨ 5000 < H.length
  · have cL := fun W (_ : Below w.heap.size w W) => lg12_many A H.length cap W hm
    clear hH htab hm hky
    go_enter Tryz.func7, Tryz.ntmps7
    go_wp2_with (first
      | (go_at_call 26; (with_reducible refine (cA _ HQ.out.below).mono ?_); rintro e w1 ⟨rfl, h9⟩; have HQ := Lib.hid (HQ.out.up h9); have hq := HQ.out.q; clear h9)
      | ((with_reducible refine h1_ld ?_ rfl rfl HQ.out.h ?_); (rfl))
      | (go_at_call 27; (with_reducible refine (cL _ HQ.out.below).mono ?_); rintro e w2 ⟨rfl, h9⟩; have HQ := Lib.hid (HQ.out.up h9); have hq := HQ.out.q; clear h9))
    go_ret
    exact ⟨rfl, HQ.out.below⟩
  · have cL := fun W (hb : Below w.heap.size w W) => lg12_few A H cap W (hrow_up hH.row hb) hm
    cases hl : lg12 H with
    | true =>
      rw [hl] at cL
      clear hH htab hm hl hky
      go_enter Tryz.func7, Tryz.ntmps7
      go_wp2_with (first
        | (go_at_call 26; (with_reducible refine (cA _ HQ.out.below).mono ?_); rintro e w1 ⟨rfl, h9⟩; have HQ := Lib.hid (HQ.out.up h9); have hq := HQ.out.q; clear h9)
        | ((with_reducible refine h1_ld ?_ rfl rfl HQ.out.h ?_); (rfl))
        | (go_at_call 27; (with_reducible refine (cL _ HQ.out.below).mono ?_); rintro e w2 ⟨rfl, h9⟩; have HQ := Lib.hid (HQ.out.up h9); have hq := HQ.out.q; clear h9))
      go_ret
      exact ⟨rfl, HQ.out.below⟩
    | false =>
      rw [hl] at cL
      have hI := hH.few12 (by omega) hl
      have hsm : ∀ o ∈ H, o.props.length ≤ 100000 := fun o ho => by have := small_12 hl o ho; omega
      by_cases hE : doE H (akq 4 n kz (dz 0) v0) = 0
      · obtain ⟨hmay, k, hA⟩ := do_ask hE
        obtain rfl : n = (k : Int) := hA.n
        have hk := hA.lt
        have hpl := hA.plain
        have cD := fun W (hb : Below w.heap.size w W) => shut_do (hI.up hb) hsm (tab_up htab hb) hE
        unfold ShTo at cD
        have cX := fun W B M2 (hb : Below w.heap.size w W) (hL : LeftH H B M2 W) (hS : ShutIs H M2 k) => shut_ext hL hS (fun _ => hpl) (tab_up htab hb)
        obtain ⟨D, was, f, cO, hwf⟩ : ∃ (D : Dq) (was : Bool) (f : Int), (∀ W, Below w.heap.size w W → Calls Tryz.prog 33 #[.agg #[.slice A H.length cap], .int .i64 (k : Int), .agg #[.string ky.str, .int .i64 ky.sym]] W fun e w' => e = .returned (.tuple #[.agg D.cells, .bool was, .int .i64 f]) ∧ Below W.heap.size W w') ∧ (f = 0 → was = (findT H[k].props ky).isSome) := by
          by_cases hmk : mayKy ky
          · exact ⟨_, _, 0, fun W hb => Own_ok A H cap ky k W (hI.up hb) hsm (tab_up htab hb) hmay hk hmk, fun _ => rfl⟩
          · exact ⟨dz 0, false, 9, fun W hb => Own_key A H cap ky k W (hI.up hb) hsm (tab_up htab hb) hmay hk hmk, fun h => absurd h (by decide)⟩
        have HP : Hid (∀ (B : Nat) (M2 : List Ob), ShutIs H M2 k → ∀ V : World, Below w.heap.size w V → LeftH H B M2 V → Calls Tryz.prog 24 #[.agg #[.slice (some ⟨B, 0, none⟩) H.length H.length], .agg (akA (akq 6 k ky (dN 4619567317775286272) v0))] V fun e w' => ∃ v q E, v.oneCell' = true ∧ e = .returned (.tuple #[.agg #[v], .agg (oqA q), .int .i64 E]) ∧ (f = 0 → E = 0 → was = false → q = yesO false) ∧ Below V.heap.size V w') := Lib.hid fun B M2 hS V hb hL =>
          (shut_put hL hS hky p7_in.2 (tab_up htab hb)).mono fun e w' ⟨v, q, E, h1, h2, h3, h4⟩ => ⟨v, q, E, h1, h2, fun hf hz hw => h3 hk hz (by rw [← hwf hf]; exact hw), h4⟩
        obtain ⟨n1, hn1⟩ : ∃ n1, n1 = H[k].props.length := ⟨_, rfl⟩
        have HK1 : Hid (∀ V : World, Below w.heap.size w V → Calls Tryz.prog 37 #[.agg #[.slice A H.length cap], .int .i64 (k : Int)] V fun e w' => ∃ O : Nat, e = .returned (.tuple #[.slice (some ⟨O, 0, none⟩) n1 n1, .int .i64 0]) ∧ Below V.heap.size V w') := Lib.hid fun V hb =>
          (Keys_ok A H cap k V (hI.up hb) hsm (tab_up htab hb) hmay hk).mono fun e w' ⟨M, O, h1, _, _, h4⟩ => ⟨O, by rw [h1, hn1], h4⟩
        have HK2 : Hid (∀ (B : Nat) (M2 : List Ob), ShutIs H M2 k → ∀ V : World, Below w.heap.size w V → LeftH H B M2 V → Calls Tryz.prog 37 #[.agg #[.slice (some ⟨B, 0, none⟩) H.length H.length], .int .i64 (k : Int)] V fun e w' => ∃ O : Nat, e = .returned (.tuple #[.slice (some ⟨O, 0, none⟩) n1 n1, .int .i64 0]) ∧ Below V.heap.size V w') := Lib.hid fun B M2 hS V hb hL => by
          obtain ⟨h1, h2, _, _, h5⟩ := hS
          have := Keys_ok (some ⟨B, 0, none⟩) M2 M2.length k V hL.inn hL.small (tab_up htab hb) hL.may h1
          rw [hL.len, h5, ← hn1] at this
          exact this.mono fun e w' ⟨M, O, g1, _, _, g4⟩ => ⟨O, g1, g4⟩
        obtain ⟨ad, rfl⟩ : ∃ ad, A = some ad := ⟨_, (hI.at hk).choose_spec.1⟩
        have hdi := dc_size D
        have hd1 := dc_one D
        clear hH hm hl hI hsm hE hmay hA hk hpl htab hky hwf hn1
        generalize hn0 : H.length = d at *
        have HN0 := Lib.hid hn0
        clear hn0
        go_enter Tryz.func7, Tryz.ntmps7
        go_upto_region 10 with (first
          | ((with_reducible refine h1_ld ?_ rfl rfl HX.out.x ?_); (rfl))
          | ((with_reducible refine h1_ld ?_ rfl rfl HQ.out.h ?_); (rfl))
          | (refine w_run ?_ (ea_akm4 (n := (k : Int)) rfl rfl) ?_; (rfl))
          | (refine w_run ?_ (ea_akm3 (n := (k : Int)) rfl rfl) ?_; (rfl))
          | (go_at_call 26; (with_reducible refine (cA _ HQ.out.below).mono ?_); rintro e w1 ⟨rfl, h9⟩; have HQ := Lib.hid (HQ.out.up h9); have hq := HQ.out.q; clear h9)
          | (go_at_call 27; (with_reducible refine (cL _ HQ.out.below).mono ?_); rintro e w2 ⟨rfl, h9⟩; have HQ := Lib.hid (HQ.out.up h9); have hq := HQ.out.q; clear h9)
          | (go_at_call 24; (with_reducible refine (cD _ HQ.out.below).mono ?_); rintro e w3 ⟨B, M2, rfl, hD, h9⟩; have HD := Lib.hid hD; have HQ := Lib.hid (HQ.out.up h9); obtain ⟨g1, g2⟩ := vblk2 (w := w3) (Below.refl _ ((w3.alloc (.cells #[.slice none 0 0] 24)).alloc (.cells oz26 52))); have gB : Below w3.heap.size w3 ((w3.alloc (.cells #[.slice none 0 0] 24)).alloc (.cells oz26 52)) := vafter (vzero _ _); clear h9 hD)
          | ((with_reducible refine t_store (cs := #[.slice (some ⟨B, 0, none⟩) d d]) rfl rfl rfl rfl g1 (hi1 _) ?_ (hc1 _ rfl) gB (Nat.le_refl _) ?_); (rfl); intro W4 hb4 hW4 hO4 hz4; have g3 := (hO4 (w3.heap.size + 1) (by omega)).trans g2; clear hO4 hz4)
          | ((with_reducible refine oq_store (q := yesO true) rfl rfl rfl rfl g3 rfl hb4 (Nat.le_succ _) ?_); intro W5 hb5 hW5 hO5 hz5; have HX : Hid (S2 w (some ad) d cap ky w3.heap.size (w3.heap.size + 1) B H M2 W5) := Lib.hid ⟨HQ.out.up hb5, (hO5 w3.heap.size (by omega)).trans hW4, hW5, HD.out.1.up hb5⟩; have HSI := Lib.hid HD.out.2; clear hW5 hO5 hz5 g3 hb4 g1 g2 gB hb5 hW4 HQ HD)
          | (go_at_call 19; (with_reducible refine (cX _ _ _ HX.out.s.below HX.out.l HSI.out).mono ?_); rintro e w6 ⟨B2, rfl, h9⟩; have HX := Lib.hid (HX.out.up h9); obtain ⟨g1, g2⟩ := vblk2 (w := w6) (Below.refl _ ((w6.alloc (.cells #[.slice none 0 0] 24)).alloc (.cells oz26 52))); have gB : Below w6.heap.size w6 ((w6.alloc (.cells #[.slice none 0 0] 24)).alloc (.cells oz26 52)) := vafter (vzero _ _); clear h9)
          | ((with_reducible refine t_store (cs := #[.slice (some ⟨B2, 0, none⟩) d d]) rfl rfl rfl rfl g1 (hi1 _) ?_ (hc1 _ rfl) gB (Nat.le_refl _) ?_); (rfl); intro W7 hb7 hW7 hO7 hz7; have g3 := (hO7 (w6.heap.size + 1) (by omega)).trans g2; clear hO7 hz7 hW7)
          | ((with_reducible refine oq_store (q := yesO false) rfl rfl rfl rfl g3 rfl hb7 (Nat.le_succ _) ?_); intro W8 hb8 hW8 hO8 hz8; have HY : Hid (S3 w (some ad) d cap ky w3.heap.size (w3.heap.size + 1) (w6.heap.size + 1) B H M2 W8) := Lib.hid ⟨HX.out.up hb8, hW8⟩; clear hW8 hO8 hz8 g3 hb7 g1 g2 gB hb8 HX))
        generalize w3.heap.size + 1 = go at *
        generalize w3.heap.size = gx at *
        generalize w6.heap.size + 1 = gy at *
        clear cA cL cD cX
        dsimp only [Act.put]
        go_cut [13, 14, 15] from 16 (fun _ qa ra wx => qa = .bool was ∧ ra = .int .i64 f ∧ Hid (S3 w (some ad) d cap ky gx go gy B H M2 wx))
        case first =>
          go_wp2_with (first
            | ((with_reducible refine h1_ld ?_ rfl rfl HY.out.s.s.h ?_); (rfl))
            | ((with_reducible refine kk_load ?_ rfl rfl HY.out.s.s.k ?_); (rfl))
            | (go_at_call 33; (with_reducible refine (cO _ HY.out.s.s.below).mono ?_); rintro e w9 ⟨rfl, h9⟩; have HY := Lib.hid (HY.out.up h9); clear h9)
            | (refine t_store (cs := D.cells) rfl rfl rfl rfl (heap_alloc_new w9 _) hdi rfl hd1 (vzero w9 _) (Nat.le_refl _) ?_; intro W10 hb10 hW10 hO10 hz10; have HY := Lib.hid (HY.out.up hb10); clear hb10 hW10 hO10 hz10))
          go_meet
          case rel => exact ⟨rfl, rfl, HY⟩
        case rest =>
          obtain ⟨rfl, rfl, HZ⟩ := hcut
          rename ∀ (a : Act) (w : World), Code.wp Tryz.prog _ _ a w → _ => hK
          exact hK _ _ (ST8 HZ.out (HP.out B M2 HSI.out) HK1.out (HK2.out B M2 HSI.out))
      · have cD := fun W (hb : Below w.heap.size w W) => ring_bad (hI.up hb) hsm (akq_in kz_in dz0_in (ok_in v0_ok)) (tab_up htab hb) hE
        have hzb : (doE H (akq 4 n kz (dz 0) v0) != 0) = true := by unfold bne; rw [beq_eq_false_iff_ne.2 hE]; rfl
        generalize doE H (akq 4 n kz (dz 0) v0) = E at *
        clear hH htab hm hl hI hsm hE hky
        go_enter Tryz.func7, Tryz.ntmps7
        go_wp2_with (first
          | (go_at_call 26; (with_reducible refine (cA _ HQ.out.below).mono ?_); rintro e w1 ⟨rfl, h9⟩; have HQ := Lib.hid (HQ.out.up h9); have hq := HQ.out.q; clear h9)
          | ((with_reducible refine h1_ld ?_ rfl rfl HQ.out.h ?_); (rfl))
          | (refine w_run ?_ (ea_akm4 (n := n) rfl rfl) ?_; (rfl))
          | (go_at_call 27; (with_reducible refine (cL _ HQ.out.below).mono ?_); rintro e w2 ⟨rfl, h9⟩; have HQ := Lib.hid (HQ.out.up h9); have hq := HQ.out.q; clear h9)
          | (go_at_call 24; (with_reducible refine (cD _ HQ.out.below).mono ?_); rintro e w3 ⟨rfl, h9⟩; have HQ := Lib.hid (HQ.out.up h9); obtain ⟨g1, g2⟩ := vblk2 (w := w3) (Below.refl _ ((w3.alloc (.cells #[.slice none 0 0] 24)).alloc (.cells oz26 52))); have gB : Below w3.heap.size w3 ((w3.alloc (.cells #[.slice none 0 0] 24)).alloc (.cells oz26 52)) := vafter (vzero _ _); clear h9)
          | ((with_reducible refine t_store (cs := #[.slice none 0 0]) rfl rfl rfl rfl g1 (hi1 _) ?_ (hc1 _ rfl) gB (Nat.le_refl _) ?_); (rfl); intro W4 hb4 hW4 hO4 hz4; have g3 := (hO4 (w3.heap.size + 1) (by omega)).trans g2; clear hO4 hz4 hW4)
          | ((with_reducible refine oq_store (q := ozero) rfl rfl rfl rfl g3 rfl hb4 (Nat.le_succ _) ?_); intro W5 hb5 hW5 hO5 hz5; have HQ := Lib.hid (HQ.out.up hb5); clear hW5 hO5 hz5 g3 hb4 g1 g2 gB hb5))
        go_ret
        exact ⟨rfl, HQ.out.below⟩
end Go.Proofs.YtpeegmpfkongeaaGreatDoor.S
namespace Go.Proofs.YtpeegmpfkongeaaGreatDoor.S
open Go.ChangeShapes Go.WideShapes Go.Deep Go.RowKit Fl

end Go.Proofs.YtpeegmpfkongeaaGreatDoor.S
namespace Go.Proofs.YtpeegmpfkongeaaGreatDoor.S
open Go.ChangeShapes Go.WideShapes Go.Deep Go.RowKit Fl

end Go.Proofs.YtpeegmpfkongeaaGreatDoor.S
namespace Go.Proofs.YtpeegmpfkongeaaGreatDoor.S
open Go.ChangeShapes Go.WideShapes Go.Deep Go.RowKit Fl

end Go.Proofs.YtpeegmpfkongeaaGreatDoor.S
namespace Go.Proofs.YtpeegmpfkongeaaGreatDoor.S
open Go.ChangeShapes Go.WideShapes Go.Deep Go.RowKit Fl

end Go.Proofs.YtpeegmpfkongeaaGreatDoor.S
namespace Go.Proofs.YtpeegmpfkongeaaGreatDoor.S
open Go.ChangeShapes Go.WideShapes Go.Deep Go.RowKit Fl

end Go.Proofs.YtpeegmpfkongeaaGreatDoor.S
