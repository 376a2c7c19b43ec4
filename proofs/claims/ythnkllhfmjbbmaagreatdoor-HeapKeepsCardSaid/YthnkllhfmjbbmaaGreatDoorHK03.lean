/-
  HeapKeeps: the walk.
-/
import Derived.Test.YthnkllhfmjbbmaaGreatDoorHK02
namespace Go.Proofs.YthnkllhfmjbbmaaGreatDoor.S
open Go.RowKit Go.Lib Fl
open Classical

set_option maxHeartbeats 16000000 in
set_option maxRecDepth 1000000 in
theorem HeapKeeps_walk (A : Option Addr) (H : List Ob) (cap : Nat) (o : Ob) (n : Int) (w : World) (hH : HIn0 w A H cap) (ho : PR w o.pa o.props) (hoi : o.In) (htab : TabHere w) :
    Calls Tryz.prog 4 #[.agg #[.slice A H.length cap], .agg (obA o), .int .i64 n] w fun e w' => e = .returned (.bool true) ∧ Below w.heap.size w w' := by
  have HQ := Lib.hid (k1_start w A H.length cap o)
  have hq := HQ.out.q
  have hq6 := HQ.out.q6
  have cA := fun W (hb : Below w.heap.size w W) => hpalive_any W (tab_up htab hb)
  by_cases hm : (60 < H.length ∧ H.length ≤ 4096) ∨ 5000 < H.length
  · have cL := fun W (_ : Below w.heap.size w W) => large_many A H.length cap W hm
    clear hH htab hm ho hoi
    go_enter Tryz.func4, Tryz.ntmps4
    go_wp2_with (first
      | (go_at_call 19; (with_reducible refine (cA _ HQ.out.below).mono ?_); rintro e w1 ⟨rfl, h9⟩; have HQ := Lib.hid (HQ.out.up h9); have hq := HQ.out.q; have hq6 := HQ.out.q6; clear h9)
      | (go_at_call 21; (with_reducible refine (cL _ HQ.out.below).mono ?_); rintro e w2 ⟨rfl, h9⟩; have HQ := Lib.hid (HQ.out.up h9); have hq := HQ.out.q; have hq6 := HQ.out.q6; clear h9))
    go_ret
    exact ⟨rfl, HQ.out.below⟩
  · have cL := fun W (hb : Below w.heap.size w W) => large_few A H cap W (hrow_up hH.row hb) hm
    cases hl : largeB H with
    | true =>
      rw [hl] at cL
      clear hH htab hm hl ho hoi
      go_enter Tryz.func4, Tryz.ntmps4
      go_wp2_with (first
        | (go_at_call 19; (with_reducible refine (cA _ HQ.out.below).mono ?_); rintro e w1 ⟨rfl, h9⟩; have HQ := Lib.hid (HQ.out.up h9); have hq := HQ.out.q; have hq6 := HQ.out.q6; clear h9)
        | (go_at_call 21; (with_reducible refine (cL _ HQ.out.below).mono ?_); rintro e w2 ⟨rfl, h9⟩; have HQ := Lib.hid (HQ.out.up h9); have hq := HQ.out.q; have hq6 := HQ.out.q6; clear h9))
      go_ret
      exact ⟨rfl, HQ.out.below⟩
    | false =>
      rw [hl] at cL
      by_cases hop : 100 < o.props.length
      · have hopz : (100 : Int) < (o.props.length : Int) := by omega
        clear hH htab hm hl ho hoi
        go_enter Tryz.func4, Tryz.ntmps4
        go_wp2_with (first
          | (go_at_call 19; (with_reducible refine (cA _ HQ.out.below).mono ?_); rintro e w1 ⟨rfl, h9⟩; have HQ := Lib.hid (HQ.out.up h9); have hq := HQ.out.q; have hq6 := HQ.out.q6; clear h9)
          | (go_at_call 21; (with_reducible refine (cL _ HQ.out.below).mono ?_); rintro e w2 ⟨rfl, h9⟩; have HQ := Lib.hid (HQ.out.up h9); have hq := HQ.out.q; have hq6 := HQ.out.q6; clear h9))
        go_ret
        exact ⟨rfl, HQ.out.below⟩
      · have hopz : ¬ (100 : Int) < (o.props.length : Int) := by omega
        have hI := hH.few (by omega) hl
        have hsm := small_p hl
        have hsm2 : ∀ o ∈ H, o.props.length ≤ 100000 := fun o ho => by have := hsm o ho; omega
        have cC := fun W (hb : Below w.heap.size w W) => Check_h A H cap W (hI.up hb) (tab_up htab hb)
        cases hmay : mayH H with
        | false =>
          have hk : chkH H = 9 := by unfold chkH; rw [hmay]; rfl
          rw [hk] at cC
          have cO : ∀ W, Below w.heap.size w W → Calls Tryz.prog 15 #[.agg #[.slice A H.length cap], .int .i64 n] W fun e w' => e = .returned (.tuple #[.agg (obA oZ), .int .i64 9]) ∧ Below W.heap.size W w' := fun W hb => by
            have he : ofE H n = 9 := by unfold ofE orE; rw [hk]; rfl
            refine (Of_h A H cap n W (hI.up hb) hsm2 (tab_up htab hb)).mono ?_
            rintro e w' ⟨h9, ⟨_, hx⟩ | ⟨h0, _⟩⟩
            · rw [he] at hx; exact ⟨hx, h9⟩
            · rw [he] at h0; exact absurd h0 (by decide)
          have hi1 : ∀ o : Ob, (Tryz.prog.info? 34).map (·.size) = some (obA o).size := fun _ => osz
          clear hH htab hm hl ho hoi hI hmay hk hsm hsm2
          go_enter Tryz.func4, Tryz.ntmps4
          go_wp2_with (first
            | (go_at_call 19; (with_reducible refine (cA _ HQ.out.below).mono ?_); rintro e w1 ⟨rfl, h9⟩; have HQ := Lib.hid (HQ.out.up h9); have hq := HQ.out.q; have hq6 := HQ.out.q6; clear h9)
            | (go_at_call 21; (with_reducible refine (cL _ HQ.out.below).mono ?_); rintro e w2 ⟨rfl, h9⟩; have HQ := Lib.hid (HQ.out.up h9); have hq := HQ.out.q; have hq6 := HQ.out.q6; clear h9)
            | (go_at_call 20; (with_reducible refine (cC _ HQ.out.below).mono ?_); rintro e w3 ⟨rfl, h9⟩; have HQ := Lib.hid (HQ.out.up h9); have hq := HQ.out.q; clear h9)
            | (go_at_call 15; (with_reducible refine (cO _ HQ.out.below).mono ?_); rintro e w4 ⟨rfl, h9⟩; have HQ := Lib.hid (HQ.out.up h9); have hq := HQ.out.q; clear h9)
            | ((with_reducible refine t_store rfl rfl rfl rfl (heap_alloc_new _ _) (hi1 oZ) ?_ (obA_one oZ) (vzero w4 _) (Nat.le_refl _) ?_); (rfl); intro W5 hb5 _ _ _; have HQ := Lib.hid (HQ.out.up hb5); clear hb5))
          go_ret
          exact ⟨rfl, HQ.out.below⟩
        | true =>
          have hk : chkH H = 0 := chk_ok hmay
          rw [hk] at cC
          have hf4 := (mayH_iff.1 hmay).1
          obtain ⟨d, hd⟩ : ∃ d, d = H.length := ⟨_, rfl⟩
          have cT : ∀ W, Below w.heap.size w W → Calls Tryz.prog 22 #[.agg #[.slice A H.length cap]] W fun e w' => ∃ B M, e = .returned (.agg #[.slice (some ⟨B, 0, none⟩) H.length H.length]) ∧ Tw W.heap.size B H M w' ∧ Below W.heap.size W w' := fun W hb => Twin_h A H cap W (hI.up hb) hsm2
          have cS1 : ∀ W B M nx, Tw nx B H M W → Below w.heap.size w W → Calls Tryz.prog 23 #[.agg #[.slice (some ⟨B, 0, none⟩) H.length H.length], .agg #[.slice A H.length cap]] W fun e w' => e = .returned (.bool true) ∧ Below W.heap.size W w' := fun W B M nx hT hb =>
            same_hl H.length _ A _ _ W (hl_tw hT hsm2) ((hl_in hI hsm2).up hb) hT.like hT.len (by omega)
          have cK1 : ∀ W B M nx, Tw nx B H M W → Below w.heap.size w W → Calls Tryz.prog 20 #[.agg #[.slice (some ⟨B, 0, none⟩) H.length H.length]] W fun e w' => e = .returned (.int .i64 0) ∧ Below W.heap.size W w' := fun W B M nx hT hb => by
            have := Check_h _ M M.length W (hT.inn hI.inn hI.few hsm2) (tab_up htab hb)
            rw [chkH_like hT.like, hk, hT.len] at this
            exact this
          have cN := fun W (hb : Below w.heap.size w W) => New_h A H cap o W (hI.up hb) hsm2 (pr_up ho hb) hoi (by omega) (tab_up htab hb)
          have cR := fun W (hb : Below w.heap.size w W) => reaches_h A H cap n W (hI.up hb) hmay (tab_up htab hb)
          have HI := Lib.hid (And.intro hI (And.intro hsm2 (And.intro hmay (And.intro ho (And.intro hoi (And.intro htab (And.intro hk hf4)))))))
          clear hH hm hl ho hoi hI hmay hk hsm hsm2 htab hf4 hd
          have cN0 : newE H o ≠ 0 → ∀ W, Below w.heap.size w W → Calls Tryz.prog 11 #[.agg #[.slice A H.length cap], .agg (obA o)] W fun e w' => e = .returned (.tuple #[.agg #[.slice none 0 0], .int .i64 0, .int .i64 (newE H o)]) ∧ Below W.heap.size W w' := fun hE W hb => by
            refine (cN W hb).mono ?_
            rintro e w' ⟨h9, ⟨_, hx⟩ | ⟨h0, _⟩⟩
            · exact ⟨hx, h9⟩
            · exact absurd h0 hE
          have cN1 : newE H o = 0 → ∀ W, Below w.heap.size w W → Calls Tryz.prog 11 #[.agg #[.slice A H.length cap], .agg (obA o)] W fun e w' => ∃ B M, e = .returned (.tuple #[.agg #[.slice (some ⟨B, 0, none⟩) (H.length + 1) (H.length + 1)], .int .i64 H.length, .int .i64 0]) ∧ Tw W.heap.size B (H ++ [o]) M w' ∧ Below W.heap.size W w' := fun hE W hb => by
            refine (cN W hb).mono ?_
            rintro e w' ⟨h9, ⟨h0, _⟩ | ⟨_, B, M, hx, hT⟩⟩
            · exact absurd hE h0
            · exact ⟨B, M, hx, hT, h9⟩
          have cPP := fun W (hb : Below w.heap.size w W) => Put_h A H cap n o W (HI.out.1.up hb) HI.out.2.1 (pr_up HI.out.2.2.2.1 hb) HI.out.2.2.2.2.1 (by omega) (tab_up HI.out.2.2.2.2.2.1 hb)
          have cP0 : hpE H n o ≠ 0 → ∀ W, Below w.heap.size w W → Calls Tryz.prog 14 #[.agg #[.slice A H.length cap], .int .i64 n, .agg (obA o)] W fun e w' => e = .returned (.tuple #[.agg #[.slice none 0 0], .int .i64 (hpE H n o)]) ∧ Below W.heap.size W w' := fun hE W hb => by
            refine (cPP W hb).mono ?_
            rintro e w' ⟨h9, ⟨_, hx⟩ | ⟨h0, _⟩⟩
            · exact ⟨hx, h9⟩
            · exact absurd h0 hE
          have cP1 : hpE H n o = 0 → ∀ W, Below w.heap.size w W → Calls Tryz.prog 14 #[.agg #[.slice A H.length cap], .int .i64 n, .agg (obA o)] W fun e w' => ∃ B M, e = .returned (.tuple #[.agg #[.slice (some ⟨B, 0, none⟩) H.length H.length], .int .i64 0]) ∧ Tw W.heap.size B (hput H n.toNat o) M w' ∧ Below W.heap.size W w' := fun hE W hb => by
            refine (cPP W hb).mono ?_
            rintro e w' ⟨h9, ⟨h0, _⟩ | ⟨_, B, M, hx, hT⟩⟩
            · exact absurd hE h0
            · exact ⟨B, M, hx, hT, h9⟩
          clear cN cPP
          cases hnb : (newE H o == 0) with
          | false =>
            have cN2 := cN0 (by rw [← beq_eq_false_iff_ne]; exact hnb)
            clear cN0 cN1
            generalize newE H o = EN at *
            cases hpb : (hpE H n o == 0) with
            | false =>
              have cP2 := cP0 (by rw [← beq_eq_false_iff_ne]; exact hpb)
              clear cP0 cP1
              generalize hpE H n o = EP at *
              go_enter Tryz.func4, Tryz.ntmps4
              go_wp2_with (first
                | (go_at_call 19; (with_reducible refine (cA _ HQ.out.below).mono ?_); rintro e w1 ⟨rfl, h9⟩; have HQ := Lib.hid (HQ.out.up h9); have hq := HQ.out.q; have hq6 := HQ.out.q6; clear h9)
                | (go_at_call 21; (with_reducible refine (cL _ HQ.out.below).mono ?_); rintro e w2 ⟨rfl, h9⟩; have HQ := Lib.hid (HQ.out.up h9); have hq := HQ.out.q; have hq6 := HQ.out.q6; clear h9)
                | (go_at_call 20; (with_reducible refine (cC _ HQ.out.below).mono ?_); rintro e w3 ⟨rfl, h9⟩; have HQ := Lib.hid (HQ.out.up h9); have hq := HQ.out.q; clear h9)
                | (go_at_call 22; (with_reducible refine (cT _ HQ.out.below).mono ?_); rintro e w4 ⟨Bt, T, rfl, hT, h9⟩; have HT := Lib.hid (hT.mono HQ.out.below.size); have HQ := Lib.hid (HQ.out.up h9); have hq := HQ.out.q; clear h9 hT)
                | ((with_reducible refine h1_ld ?_ rfl rfl (HQ.out.up (vzero _ _)).h ?_); (rfl))
                | (go_at_call 23; (with_reducible refine (cS1 _ _ _ _ (HT.out.up (vzero _ _)) (vb HQ.out.below (vzero _ _))).mono ?_); rintro e w5 ⟨rfl, h9⟩; have H2 : Hid (K2 w A H.length cap o H w4.heap.size Bt T w5) := Lib.hid ⟨HQ.out.up (vb (vzero _ _) h9), (hv_box HT.out).up h9⟩; have hq := H2.out.k.q; have hqt := H2.out.t.q; clear h9)
                | (go_at_call 20; (with_reducible refine (cK1 _ _ _ _ H2.out.t.t H2.out.k.below).mono ?_); rintro e w6 ⟨rfl, h9⟩; have H2 := Lib.hid (H2.out.up h9); have hq := H2.out.k.q; have hqt := H2.out.t.q; clear h9)
                | ((with_reducible refine h1_ld ?_ rfl rfl H2.out.k.h ?_); (rfl))
                | ((with_reducible refine h1_ld ?_ rfl rfl H2.out.t.b ?_); (rfl))
                | ((with_reducible refine ob_load ?_ rfl rfl H2.out.k.o ?_); (rfl))
                | (go_at_call 11; (with_reducible refine (cN2 _ H2.out.k.below).mono ?_); rintro e w7 ⟨rfl, h9⟩; have H2 := Lib.hid (H2.out.up (vb h9 (vzero _ (.cells #[.slice none 0 0] 24)))); have hq := H2.out.k.q; have hqt := H2.out.t.q; clear h9)
                | (go_at_call 14; (with_reducible refine (cP2 _ H2.out.k.below).mono ?_); rintro e w8 ⟨rfl, h9⟩; have H2 := Lib.hid (H2.out.up (vb h9 (vzero _ (.cells #[.slice none 0 0] 24)))); have hq := H2.out.k.q; have hqt := H2.out.t.q; clear h9)
                | (go_at_call 24; (with_reducible refine (cR _ H2.out.k.below).mono ?_); rintro e w9 ⟨rfl, h9⟩; have H2 := Lib.hid (H2.out.up h9); clear h9))
              go_ret
              exact ⟨rfl, H2.out.k.below⟩
            | true =>
              have hpe : hpE H n o = 0 := by rw [← beq_iff_eq]; exact hpb
              have cP2 := cP1 hpe
              obtain ⟨hin, hcN⟩ := hpe_zero hpe
              obtain ⟨k, rfl⟩ := Int.eq_ofNat_of_zero_le hin.1
              have hkz : (k : Int) < (H.length : Int) := hin.2
              have hk0 : (0 : Int) ≤ (k : Int) := hin.1
              have hkl : k < H.length := by omega
              rw [Int.toNat_natCast] at cP2 hcN
              have hf4 := HI.out.2.2.2.2.2.2.2
              obtain ⟨N, hN⟩ : ∃ N, N = hput H k o := ⟨_, rfl⟩
              have hNl : N.length = H.length := by rw [hN, hput_len H k o hkl]
              have hNin : ∀ x ∈ N, x.In := fun x hx => by rw [hN, hput_old H k o hkl] at hx; rcases List.mem_or_eq_of_mem_set hx with h | h; exact HI.out.1.inn x h; rw [h]; exact HI.out.2.2.2.2.1
              have hNp : ∀ x ∈ N, x.props.length ≤ 100000 := fun x hx => by rw [hN, hput_old H k o hkl] at hx; rcases List.mem_or_eq_of_mem_set hx with h | h; exact HI.out.2.1 x h; rw [h]; omega
              have hNk : ∀ h : k < N.length, N[k] = o := fun h => by subst hN; exact hput_k hkl h
              rw [← hN] at cP2 hcN
              have cO : ∀ W B M nx, Tw nx B N M W → Below w.heap.size w W → Calls Tryz.prog 15 #[.agg #[.slice (some ⟨B, 0, none⟩) H.length H.length], .int .i64 (k : Int)] W fun e w' => ∃ gq q, (Ob.bare q = o.bare ∧ q.props.length ≤ 100000) ∧ e = .returned (.tuple #[.agg (obA (q.at gq)), .int .i64 0]) ∧ w'.heap[gq]? = some (.cells (prCells q.props).toArray 93 (0, 0)) ∧ Below W.heap.size W w' := fun W B M nx hT hb => by
                have hl : M.length = H.length := by rw [hT.len, hNl]
                have hc : chkH M = 0 := by rw [chkH_like hT.like]; exact hcN
                have hz := of_zero hc (show k < M.length by omega)
                have := Of_h _ M M.length k W (hT.inn hNin (by omega) hNp) (tw_small hT hNp) (tab_up HI.out.2.2.2.2.2.1 hb)
                rw [hl] at this
                refine this.mono ?_
                rintro e w' ⟨h9, ⟨h0, _⟩ | ⟨_, hk2, gq, hx, hy⟩⟩
                · exact absurd hz h0
                · have hk3 : k < M.length := by omega
                  have e1 : M[((k : Int)).toNat]'hk2 = M[k] := by simp
                  rw [e1] at hx hy
                  refine ⟨gq, M[k], ⟨?_, tw_small hT hNp _ (List.getElem_mem _)⟩, hx, hy, h9⟩
                  rw [bare_at hT.like k hk3 (by omega), hNk]
              have cP3 : ∀ W B M nx Bt T nt, Tw nx B N M W → Tw nt Bt H T W → ∀ hk : k < T.length, Below w.heap.size w W → Calls Tryz.prog 14 #[.agg #[.slice (some ⟨B, 0, none⟩) H.length H.length], .int .i64 (k : Int), .agg (obA T[k])] W fun e w' => ∃ B2 N2 M2, (N2.map Ob.bare = H.map Ob.bare ∧ ∀ o ∈ N2, o.props.length ≤ 100000) ∧ e = .returned (.tuple #[.agg #[.slice (some ⟨B2, 0, none⟩) H.length H.length], .int .i64 0]) ∧ Tw W.heap.size B2 N2 M2 w' ∧ Below W.heap.size W w' := fun W B M nx Bt T nt hT hU hk hb => by
                have hl : M.length = H.length := by rw [hT.len, hNl]
                have hkM : k < M.length := by omega
                have hc : chkH M = 0 := by rw [chkH_like hT.like]; exact hcN
                have hUs := tw_small hU HI.out.2.1
                have hMs := tw_small hT hNp
                have hbk : (hput M k T[k]).map Ob.bare = H.map Ob.bare := by
                  rw [hput_bare (H := N) (p := T[k]) hT.like rfl (by omega), hN]
                  exact hput_back hkl (bare_at hU.like k hk hkl)
                have hz := hpe_ok (o := T[k]) hc hkM (by rw [chkH_like hbk]; exact HI.out.2.2.2.2.2.2.1)
                have hUI := hU.inn HI.out.1.inn HI.out.1.few HI.out.2.1
                have := Put_h _ M M.length k T[k] W (hT.inn hNin (by omega) hNp) hMs ((hl_tw hU HI.out.2.1).pr _ (List.getElem_mem hk)) (hUI.inn _ (List.getElem_mem hk)) (hUs _ (List.getElem_mem hk)) (tab_up HI.out.2.2.2.2.2.1 hb)
                rw [hl] at this
                refine this.mono ?_
                rintro e w' ⟨h9, ⟨h0, _⟩ | ⟨_, B2, M2, hx, hT2⟩⟩
                · exact absurd hz h0
                · rw [Int.toNat_natCast] at hT2
                  refine ⟨B2, _, M2, ⟨hbk, fun x hx => ?_⟩, by rw [hl] at hx; exact hx, hT2, h9⟩
                  rw [hput_old M k _ hkM] at hx
                  rcases List.mem_or_eq_of_mem_set hx with h | h
                  · exact hMs x h
                  · rw [h]; exact hUs _ (List.getElem_mem hk)
              have cS4 : ∀ W b1 b2 (q : Ob) gq, W.heap[b1]? = some (.cells (obA (q.at gq)) 34 (0, 0)) → W.heap[b2]? = some (.cells (obA o) 34 (0, 0)) → q.bare = o.bare → q.props.length ≤ 100000 → W.heap[gq]? = some (.cells (prCells q.props).toArray 93 (0, 0)) → Below w.heap.size w W → Calls Tryz.prog 23 #[.agg #[.slice (some ⟨b1, 0, none⟩) 1 1], .agg #[.slice (some ⟨b2, 0, none⟩) 1 1]] W fun e w' => e = .returned (.bool true) ∧ Below W.heap.size W w' := fun W b1 b2 q gq h1 h2 hq hqs hy hb =>
                same_hl 1 _ _ 1 1 W (hl_one h1 (pr_blk hy) hqs) (hl_one h2 (pr_up HI.out.2.2.2.1 hb) (by omega)) (by simp only [List.map_cons, List.map_nil, at_bare, hq]) rfl (by omega)
              have cS5 : ∀ W B N2 M2 nx, Tw nx B N2 M2 W → N2.map Ob.bare = H.map Ob.bare → (∀ o ∈ N2, o.props.length ≤ 100000) → Below w.heap.size w W → Calls Tryz.prog 23 #[.agg #[.slice (some ⟨B, 0, none⟩) H.length H.length], .agg #[.slice A H.length cap]] W fun e w' => e = .returned (.bool true) ∧ Below W.heap.size W w' := fun W B N2 M2 nx hT h2 h3 hb =>
                same_hl H.length _ A _ _ W (hl_tw hT h3) ((hl_in HI.out.1 HI.out.2.1).up hb) (hT.like.trans h2) (by have := congrArg List.length h2; rw [List.length_map, List.length_map] at this; rw [hT.len, this]) (by omega)
              have hi1 : ∀ o : Ob, (Tryz.prog.info? 34).map (·.size) = some (obA o).size := fun _ => osz
              have hiH : ∀ v : Value, (Tryz.prog.info? 24).map (·.size) = some (#[v] : Array Value).size := fun v => hsz
              have hcH : ∀ v : Value, v.oneCell' = true → (#[v] : Array Value).all (·.oneCell') = true := fun v h => cells_one (l := [v]) (by simpa using h)
              clear cP0 cP1 hpe hpb hin hcN hN hNl hNin hNp hNk hf4

              go_enter Tryz.func4, Tryz.ntmps4
              go_wp2_with (first
                | (go_at_call 19; (with_reducible refine (cA _ HQ.out.below).mono ?_); rintro e w1 ⟨rfl, h9⟩; have HQ := Lib.hid (HQ.out.up h9); have hq := HQ.out.q; have hq6 := HQ.out.q6; clear h9)
                | (go_at_call 21; (with_reducible refine (cL _ HQ.out.below).mono ?_); rintro e w2 ⟨rfl, h9⟩; have HQ := Lib.hid (HQ.out.up h9); have hq := HQ.out.q; have hq6 := HQ.out.q6; clear h9)
                | (go_at_call 20; (with_reducible refine (cC _ HQ.out.below).mono ?_); rintro e w3 ⟨rfl, h9⟩; have HQ := Lib.hid (HQ.out.up h9); have hq := HQ.out.q; clear h9)
                | (go_at_call 22; (with_reducible refine (cT _ HQ.out.below).mono ?_); rintro e w4 ⟨Bt, T, rfl, hT, h9⟩; have HT := Lib.hid (hT.mono HQ.out.below.size); have HQ := Lib.hid (HQ.out.up h9); have hq := HQ.out.q; clear h9 hT)
                | ((with_reducible refine h1_ld ?_ rfl rfl (HQ.out.up (vzero _ _)).h ?_); (rfl))
                | (go_at_call 23; (with_reducible refine (cS1 _ _ _ _ (HT.out.up (vzero _ _)) (vb HQ.out.below (vzero _ _))).mono ?_); rintro e w5 ⟨rfl, h9⟩; have H2 : Hid (K2 w A H.length cap o H w4.heap.size Bt T w5) := Lib.hid ⟨HQ.out.up (vb (vzero _ _) h9), (hv_box HT.out).up h9⟩; have hq := H2.out.k.q; have hqt := H2.out.t.q; clear h9)
                | (go_at_call 20; (with_reducible refine (cK1 _ _ _ _ H2.out.t.t H2.out.k.below).mono ?_); rintro e w6 ⟨rfl, h9⟩; have H2 := Lib.hid (H2.out.up h9); have hq := H2.out.k.q; have hqt := H2.out.t.q; clear h9)
                | ((with_reducible refine h1_ld ?_ rfl rfl H2.out.k.h ?_); (rfl))
                | ((with_reducible refine h1_ld ?_ rfl rfl H2.out.t.b ?_); (rfl))
                | ((with_reducible refine ob_load ?_ rfl rfl H2.out.k.o ?_); (rfl))
                | (go_at_call 11; (with_reducible refine (cN2 _ H2.out.k.below).mono ?_); rintro e w7 ⟨rfl, h9⟩; have H2 := Lib.hid (H2.out.up (vb h9 (vzero _ (.cells #[.slice none 0 0] 24)))); have hq := H2.out.k.q; have hqt := H2.out.t.q; clear h9)
                | (go_at_call 14; (with_reducible refine (cP2 _ H2.out.k.below).mono ?_); rintro e w8 ⟨Bp, Mp, rfl, hT, h9⟩; have H4 : Hid (K4 w A H.length cap o H w4.heap.size Bt T N w8.heap.size Bp Mp (w8.alloc (.cells #[.slice (some ⟨Bp, 0, none⟩) H.length H.length] 24))) := Lib.hid ⟨H2.out.up (vb h9 (vzero _ _)), hv_box ((hT.mono H2.out.k.below.size))⟩; have hq := H4.out.k.k.q; have hqp := H4.out.p.q; clear h9 hT)
                | ((with_reducible refine h1_ld ?_ rfl rfl H4.out.p.b ?_); (rfl))
                | (go_at_call 15; (with_reducible refine (cO _ _ _ _ H4.out.p.t H4.out.k.k.below).mono ?_); rintro e w10 ⟨gq, q, hqb, rfl, hy, h9⟩; have H4 := Lib.hid (H4.out.up h9); have hq := H4.out.k.k.q; have hqp := H4.out.p.q; have HY := Lib.hid hy; have HQB := Lib.hid hqb; clear hqb hy h9)
                | ((with_reducible refine t_store rfl rfl rfl rfl (heap_alloc_new w10 _) (hi1 _) ?_ (obA_one _) (vzero w10 _) (Nat.le_refl _) ?_); (rfl); intro W11 hb11 hW11 _ _; have H5 : Hid (K5 w A H.length cap o H w4.heap.size Bt T N w8.heap.size Bp Mp w10.heap.size gq q W11) := Lib.hid ⟨H4.out.up hb11, hW11, vblkn hb11 HY.out⟩; have hq := H5.out.k.k.k.q; have hqp := H5.out.k.p.q; clear hb11 hW11))
              go_cut [18, 19] from 106 (fun qa ra wx => ∃ gb Bb N2 Mb, qa = .pointer (some ⟨gb, 0, none⟩) ∧ ra = .int .i64 0 ∧ Hid ((N2.map Ob.bare = H.map Ob.bare ∧ ∀ o ∈ N2, o.props.length ≤ 100000) ∧ K6 w A H.length cap o H w4.heap.size Bt T N w8.heap.size Bp Mp w10.heap.size gq q N2 gb Bb Mb wx))
              case first =>
                have hkT : k < T.length := by rw [H5.out.k.k.t.t.len]; exact hkl
                have hS : K5 w A H.length cap o H w4.heap.size Bt T N w8.heap.size Bp Mp w10.heap.size gq q W11.drew := H5.out.up (Below.refl _ _).drew
                refine wp_region_held_drew (S := K5 w A H.length cap o H w4.heap.size Bt T N w8.heap.size Bp Mp w10.heap.size gq q) (by kernel_rfl) hS (fun hHeld => ?_)
                generalize W11.drew = W0 at *
                refine hH_take (i := 0) (v := .agg #[.slice (some ⟨Bp, 0, none⟩) H.length H.length]) (d := 122) (l2 := #[true, false, false, false, false, false, false, false, false, false, false, false, false, false]) rfl (by kernel_rfl) (by kernel_rfl) (by kernel_rfl) (fun _ _ _ h => h) (by kernel_rfl) (fun w' hSw => ex_load_at (h1_load hSw.k.p.b) rfl rfl) (by assumption) rfl (by kernel_rfl) ?_
                simp only [List.set]
                refine hH_take (i := 1) (v := .int .i64 (k : Int)) (d := 123) (l2 := #[true, true, false, false, false, false, false, false, false, false, false, false, false, false]) rfl (by kernel_rfl) (by kernel_rfl) (by kernel_rfl) (fun _ _ _ h => h) (by kernel_rfl) (fun w' hSw => by go_simp) (by assumption) rfl (by kernel_rfl) ?_
                simp only [List.set]
                refine hH_take (i := 2) (v := .pointer (some ⟨w4.heap.size, 0, none⟩)) (d := 124) (l2 := #[true, true, true, false, false, false, false, false, false, false, false, false, false, false]) rfl (by kernel_rfl) (by kernel_rfl) (by kernel_rfl) (fun _ _ _ h => h) (by kernel_rfl) (fun w' hSw => by go_simp) (by assumption) rfl (by kernel_rfl) ?_
                simp only [List.set]
                refine hH_take (i := 3) (v := .slice (some ⟨Bt, 0, none⟩) H.length H.length) (d := 125) (l2 := #[true, true, true, true, false, false, false, false, false, false, false, false, false, false]) rfl (by kernel_rfl) (by kernel_rfl) (by kernel_rfl) (fun _ _ _ h => h) (by kernel_rfl) (fun w' hSw => by have qt := hSw.k.k.t.q; go_simp) (by assumption) rfl (by kernel_rfl) ?_
                simp only [List.set]
                refine hH_take (i := 4) (v := .int .i64 (k : Int)) (d := 126) (l2 := #[true, true, true, true, true, false, false, false, false, false, false, false, false, false]) rfl (by kernel_rfl) (by kernel_rfl) (by kernel_rfl) (fun _ _ _ h => h) (by kernel_rfl) (fun w' hSw => by go_simp) (by assumption) rfl (by kernel_rfl) ?_
                simp only [List.set]
                refine hH_take (i := 5) (v := .pointer (some ⟨Bt, k * 18, none⟩)) (d := 127) (l2 := #[true, true, true, true, true, true, false, false, false, false, false, false, false, false]) rfl (by kernel_rfl) (by kernel_rfl) (by kernel_rfl) (fun _ _ _ h => h) (by kernel_rfl) (fun w' hSw => by go_simp) (by assumption) rfl (by kernel_rfl) ?_
                simp only [List.set]
                refine hH_take (i := 6) (v := .agg (obA T[k])) (d := 128) (l2 := #[true, true, true, true, true, true, true, false, false, false, false, false, false, false]) rfl (by kernel_rfl) (by kernel_rfl) (by kernel_rfl) (fun _ _ _ h => h) (by kernel_rfl) (fun w' hSw => ex_load_at (t_loadAt hSw.k.k.t.t.b hkT) rfl rfl) (by assumption) rfl (by kernel_rfl) ?_
                simp only [List.set]
                refine wpAnyH_ready (rs := [7, 11]) (by kernel_rfl) (by simp) ?_
                refine (AllReadyH.cons rfl (fun K hK => ?_) (AllReadyH.cons rfl (fun K hK => ?_) AllReadyH.nil))
                · skip
                  go_simp
                  go_at_call 14
                  (with_reducible refine (cP3 _ _ _ _ _ _ _ hS.k.p.t hS.k.k.t.t hkT hS.k.k.k.below).mono ?_)
                  rintro e w12 ⟨B2, N2, M2, hN2, rfl, hT2, h9⟩
                  have hT3 := hT2.mono hS.k.k.k.below.size
                  have hS := hS.up h9
                  refine hK.out _ _ hS (fun hHeld => ?_)
                  clear hK K
                  refine hH_take (i := 8) (v := .tuple #[.agg #[.slice (some ⟨B2, 0, none⟩) H.length H.length], .int .i64 0]) (d := 121) (l2 := #[true, true, true, true, true, true, true, true, true, false, false, false, false, false]) rfl (by kernel_rfl) (by kernel_rfl) (by kernel_rfl) (fun _ _ _ h => h) (by kernel_rfl) (fun w' hSw => by go_simp) (by assumption) rfl (by kernel_rfl) ?_
                  simp only [List.set]
                  refine hH_take (i := 9) (v := .agg #[.slice (some ⟨B2, 0, none⟩) H.length H.length]) (d := 130) (l2 := #[true, true, true, true, true, true, true, true, true, true, false, false, false, false]) rfl (by kernel_rfl) (by kernel_rfl) (by kernel_rfl) (fun _ _ _ h => h) (by kernel_rfl) (fun w' hSw => by go_simp) (by assumption) rfl (by kernel_rfl) ?_
                  simp only [List.set]
                  refine hH_take (i := 10) (v := .int .i64 0) (d := 131) (l2 := #[true, true, true, true, true, true, true, true, true, true, true, false, false, false]) rfl (by kernel_rfl) (by kernel_rfl) (by kernel_rfl) (fun _ _ _ h => h) (by kernel_rfl) (fun w' hSw => by go_simp) (by assumption) rfl (by kernel_rfl) ?_
                  simp only [List.set]
                  refine wpAnyH_ready (rs := [11]) (by kernel_rfl) (by simp) ?_
                  refine (AllReadyH.cons rfl (fun K hK => ?_) AllReadyH.nil)
                  refine r_val (by kernel_rfl) (ea_h rfl) rfl ?_
                  simp only [List.set]
                  have h18 := heap_alloc_new w12 (.cells #[.slice none 0 0] 24)
                  have hS2 := hS.up (vzero w12 (.cells #[.slice none 0 0] 24))
                  refine hK.out _ _ hS2 (fun hHeld => ?_)
                  clear hK K
                  refine wpAnyH_ready (rs := [12]) (by kernel_rfl) (by simp) ?_
                  refine (AllReadyH.cons rfl (fun K hK => ?_) AllReadyH.nil)
                  refine r_store (by kernel_rfl) rfl rfl rfl h18 (hiH _) rfl (hcH _ rfl) rfl ?_
                  have hbs : Below w12.heap.size w12 ((w12.alloc (.cells #[.slice none 0 0] 24)).setRow w12.heap.size #[.slice (some ⟨B2, 0, none⟩) H.length H.length]) := below_row (vzero w12 (.cells #[.slice none 0 0] 24)) (Nat.le_refl _) _
                  have hS3 := hS.up hbs
                  have h18b : ((w12.alloc (.cells #[.slice none 0 0] 24)).setRow w12.heap.size #[.slice (some ⟨B2, 0, none⟩) H.length H.length]).heap[w12.heap.size]? = some (.cells #[.slice (some ⟨B2, 0, none⟩) H.length H.length] 24 (0, 0)) := setRow_heap _ _ _ _ _ _ h18
                  have hT4 := hT3.up hbs
                  refine hK.out _ _ hS3 (fun hHeld => ?_)
                  clear hK K
                  refine hH_take (i := 13) (v := .int .i64 0) (d := 19) (l2 := #[true, true, true, true, true, true, true, true, true, true, true, true, true, true]) rfl (by kernel_rfl) (by kernel_rfl) (by kernel_rfl) (fun _ _ _ h => h) (by kernel_rfl) (fun w' hSw => by go_simp) (by assumption) rfl (by kernel_rfl) ?_
                  simp only [List.set]
                  refine wpAnyH_done (by kernel_rfl) ?_ _
                  go_wp2_with (fail)
                  go_meet
                  case rel => exact ⟨_, B2, N2, M2, rfl, rfl, Lib.hid ⟨hN2, hS3, ⟨hT4, h18b⟩⟩⟩
                · skip
                  refine r_val (by kernel_rfl) (ea_h rfl) rfl ?_
                  simp only [List.set]
                  have h18 := heap_alloc_new W0 (.cells #[.slice none 0 0] 24)
                  have hSa := hS.up (vzero W0 (.cells #[.slice none 0 0] 24))
                  refine hK.out _ _ hSa (fun hHeld => ?_)
                  clear hK K
                  refine wpAnyH_ready (rs := [7]) (by kernel_rfl) (by simp) ?_
                  refine (AllReadyH.cons rfl (fun K hK => ?_) AllReadyH.nil)
                  go_simp
                  go_at_call 14
                  (with_reducible refine (cP3 _ _ _ _ _ _ _ hSa.k.p.t hSa.k.k.t.t hkT hSa.k.k.k.below).mono ?_)
                  rintro e w12 ⟨B2, N2, M2, hN2, rfl, hT2, h9⟩
                  have hT3 := hT2.mono hSa.k.k.k.below.size
                  have hle := hT2.le
                  have hSb := hSa.up h9
                  have h18b := vblkn h9 h18
                  refine hK.out _ _ hSb (fun hHeld => ?_)
                  clear hK K
                  refine hH_take (i := 8) (v := .tuple #[.agg #[.slice (some ⟨B2, 0, none⟩) H.length H.length], .int .i64 0]) (d := 121) (l2 := #[true, true, true, true, true, true, true, true, true, false, false, true, false, false]) rfl (by kernel_rfl) (by kernel_rfl) (by kernel_rfl) (fun _ _ _ h => h) (by kernel_rfl) (fun w' hSw => by go_simp) (by assumption) rfl (by kernel_rfl) ?_
                  simp only [List.set]
                  refine hH_take (i := 9) (v := .agg #[.slice (some ⟨B2, 0, none⟩) H.length H.length]) (d := 130) (l2 := #[true, true, true, true, true, true, true, true, true, true, false, true, false, false]) rfl (by kernel_rfl) (by kernel_rfl) (by kernel_rfl) (fun _ _ _ h => h) (by kernel_rfl) (fun w' hSw => by go_simp) (by assumption) rfl (by kernel_rfl) ?_
                  simp only [List.set]
                  refine hH_take (i := 10) (v := .int .i64 0) (d := 131) (l2 := #[true, true, true, true, true, true, true, true, true, true, true, true, false, false]) rfl (by kernel_rfl) (by kernel_rfl) (by kernel_rfl) (fun _ _ _ h => h) (by kernel_rfl) (fun w' hSw => by go_simp) (by assumption) rfl (by kernel_rfl) ?_
                  simp only [List.set]
                  refine wpAnyH_ready (rs := [12]) (by kernel_rfl) (by simp) ?_
                  refine (AllReadyH.cons rfl (fun K hK => ?_) AllReadyH.nil)
                  refine r_store (by kernel_rfl) rfl rfl rfl h18b (hiH _) rfl (hcH _ rfl) rfl ?_
                  have hbs : Below W0.heap.size W0 (w12.setRow W0.heap.size #[.slice (some ⟨B2, 0, none⟩) H.length H.length]) := below_row (vafter h9) (Nat.le_refl _) _
                  have hS3 := hS.up hbs
                  have h18c : (w12.setRow W0.heap.size #[.slice (some ⟨B2, 0, none⟩) H.length H.length]).heap[W0.heap.size]? = some (.cells #[.slice (some ⟨B2, 0, none⟩) H.length H.length] 24 (0, 0)) := setRow_heap _ _ _ _ _ _ h18b
                  have hT4 := hT3.other (W' := w12.setRow W0.heap.size #[.slice (some ⟨B2, 0, none⟩) H.length H.length]) (fun j hj => setRow_other w12 _ j _ hj) (by rw [World.size_alloc] at hle; omega)
                  refine hK.out _ _ hS3 (fun hHeld => ?_)
                  clear hK K
                  refine hH_take (i := 13) (v := .int .i64 0) (d := 19) (l2 := #[true, true, true, true, true, true, true, true, true, true, true, true, true, true]) rfl (by kernel_rfl) (by kernel_rfl) (by kernel_rfl) (fun _ _ _ h => h) (by kernel_rfl) (fun w' hSw => by go_simp) (by assumption) rfl (by kernel_rfl) ?_
                  simp only [List.set]
                  refine wpAnyH_done (by kernel_rfl) ?_ _
                  go_wp2_with (fail)
                  go_meet
                  case rel => exact ⟨_, B2, N2, M2, rfl, rfl, Lib.hid ⟨hN2, hS3, ⟨hT4, h18c⟩⟩⟩
              case rest =>
                obtain ⟨gb, Bb, N2, Mb, rfl, rfl, HK6⟩ := hcut
                have HN2 := Lib.hid HK6.out.1
                have H6 := Lib.hid HK6.out.2
                have hq := H6.out.k.k.k.k.q
                have hqp := H6.out.k.k.p.q
                go_wp2_with (first
                  | ((with_reducible refine ob_load ?_ rfl rfl H6.out.k.x ?_); (rfl))
                  | ((with_reducible refine ob_load ?_ rfl rfl H6.out.k.k.k.k.o ?_); (rfl))
                  | ((with_reducible refine o_slice2 (ob := q.at gq) ?_ rfl rfl ?_); (rfl); intro W13 hb13 hW13; have H6 := Lib.hid (H6.out.up hb13); have HB1 := Lib.hid hW13; clear hb13 hW13)
                  | ((with_reducible refine o_slice2 (ob := o) ?_ rfl rfl ?_); (rfl); intro W14 hb14 hW14; have H6 := Lib.hid (H6.out.up hb14); have HB1 := Lib.hid (vblkn hb14 HB1.out); have HB2 := Lib.hid hW14; clear hb14 hW14)
                  | (go_at_call 23; (with_reducible refine (cS4 _ _ _ _ _ HB1.out HB2.out HQB.out.1 HQB.out.2 H6.out.k.y H6.out.k.k.k.k.below).mono ?_); rintro e w15 ⟨rfl, h9⟩; have H6 := Lib.hid (H6.out.up h9); have hq := H6.out.k.k.k.k.q; have hqp := H6.out.k.k.p.q; clear h9)
                  | ((with_reducible refine h1_ld ?_ rfl rfl H6.out.b.b ?_); (rfl))
                  | ((with_reducible refine h1_ld ?_ rfl rfl H6.out.k.k.k.k.h ?_); (rfl))
                  | (go_at_call 23; (with_reducible refine (cS5 _ _ _ _ _ H6.out.b.t HN2.out.1 HN2.out.2 H6.out.k.k.k.k.below).mono ?_); rintro e w16 ⟨rfl, h9⟩; have H6 := Lib.hid (H6.out.up h9); have hq := H6.out.k.k.k.k.q; have hqp := H6.out.k.k.p.q; clear h9)
                  | (go_at_call 24; (with_reducible refine (cR _ H6.out.k.k.k.k.below).mono ?_); rintro e w17 ⟨rfl, h9⟩; have H6 := Lib.hid (H6.out.up h9); clear h9))
                go_ret
                exact ⟨rfl, H6.out.k.k.k.k.below⟩
          | true =>
            have hne : newE H o = 0 := by rw [← beq_iff_eq]; exact hnb
            have cN2 := cN1 hne
            have hmN := (new_ok hne).2.2
            have hsN : ∀ x ∈ H ++ [o], x.props.length ≤ 100000 := fun x hx => by rcases List.mem_append.1 hx with h | h; exact HI.out.2.1 x h; rw [List.mem_singleton.1 h]; omega
            have hiN : ∀ x ∈ H ++ [o], x.In := fun x hx => by rcases List.mem_append.1 hx with h | h; exact HI.out.1.inn x h; rw [List.mem_singleton.1 h]; exact HI.out.2.2.2.2.1
            have hfN := HI.out.2.2.2.2.2.2.2
            have cK3 : ∀ W B M nx, Tw nx B (H ++ [o]) M W → Below w.heap.size w W → Calls Tryz.prog 20 #[.agg #[.slice (some ⟨B, 0, none⟩) (H.length + 1) (H.length + 1)]] W fun e w' => e = .returned (.int .i64 0) ∧ Below W.heap.size W w' := fun W B M nx hT hb => by
              have hl : M.length = H.length + 1 := by rw [hT.len, List.length_append]; rfl
              have := Check_h _ M M.length W (hT.inn hiN (by rw [List.length_append]; simp; omega) hsN) (tab_up HI.out.2.2.2.2.2.1 hb)
              rw [chkH_like hT.like, chk_ok hmN, hl] at this
              exact this
            have cS2 : ∀ W B M nx, Tw nx B (H ++ [o]) M W → Below w.heap.size w W → Calls Tryz.prog 23 #[.agg #[.slice (some ⟨B, 0, none⟩) H.length (H.length + 1)], .agg #[.slice A H.length cap]] W fun e w' => e = .returned (.bool true) ∧ Below W.heap.size W w' := fun W B M nx hT hb =>
              same_hl H.length _ A _ _ W ((hl_tw hT hsN).take H.length) ((hl_in HI.out.1 HI.out.2.1).up hb) (take_bare hT.like) (by rw [List.length_take, hT.len, List.length_append]; simp) (by omega)
            have cS3 : ∀ W B M nx b, Tw nx B (H ++ [o]) M W → W.heap[b]? = some (.cells (obA o) 34 (0, 0)) → Below w.heap.size w W → Calls Tryz.prog 23 #[.agg #[.slice (some ⟨B, H.length * 18, none⟩) 1 1], .agg #[.slice (some ⟨b, 0, none⟩) 1 1]] W fun e w' => e = .returned (.bool true) ∧ Below W.heap.size W w' := fun W B M nx b hT hb2 hb =>
              same_hl 1 _ _ 1 1 W ((hl_tw hT hsN).drop H.length) (hl_one hb2 (pr_up HI.out.2.2.2.1 hb) (by omega)) (drop_bare hT.like) (by rw [List.length_drop, hT.len, List.length_append]; simp) (by omega)
            clear cN0 cN1 hne hnb hmN hsN hiN
            cases hpb : (hpE H n o == 0) with
            | false =>
              have cP2 := cP0 (by rw [← beq_eq_false_iff_ne]; exact hpb)
              clear cP0 cP1
              generalize hpE H n o = EP at *
              go_enter Tryz.func4, Tryz.ntmps4
              go_wp2_with (first
                | (go_at_call 19; (with_reducible refine (cA _ HQ.out.below).mono ?_); rintro e w1 ⟨rfl, h9⟩; have HQ := Lib.hid (HQ.out.up h9); have hq := HQ.out.q; have hq6 := HQ.out.q6; clear h9)
                | (go_at_call 21; (with_reducible refine (cL _ HQ.out.below).mono ?_); rintro e w2 ⟨rfl, h9⟩; have HQ := Lib.hid (HQ.out.up h9); have hq := HQ.out.q; have hq6 := HQ.out.q6; clear h9)
                | (go_at_call 20; (with_reducible refine (cC _ HQ.out.below).mono ?_); rintro e w3 ⟨rfl, h9⟩; have HQ := Lib.hid (HQ.out.up h9); have hq := HQ.out.q; clear h9)
                | (go_at_call 22; (with_reducible refine (cT _ HQ.out.below).mono ?_); rintro e w4 ⟨Bt, T, rfl, hT, h9⟩; have HT := Lib.hid (hT.mono HQ.out.below.size); have HQ := Lib.hid (HQ.out.up h9); have hq := HQ.out.q; clear h9 hT)
                | ((with_reducible refine h1_ld ?_ rfl rfl (HQ.out.up (vzero _ _)).h ?_); (rfl))
                | (go_at_call 23; (with_reducible refine (cS1 _ _ _ _ (HT.out.up (vzero _ _)) (vb HQ.out.below (vzero _ _))).mono ?_); rintro e w5 ⟨rfl, h9⟩; have H2 : Hid (K2 w A H.length cap o H w4.heap.size Bt T w5) := Lib.hid ⟨HQ.out.up (vb (vzero _ _) h9), (hv_box HT.out).up h9⟩; have hq := H2.out.k.q; have hqt := H2.out.t.q; clear h9)
                | (go_at_call 20; (with_reducible refine (cK1 _ _ _ _ H2.out.t.t H2.out.k.below).mono ?_); rintro e w6 ⟨rfl, h9⟩; have H2 := Lib.hid (H2.out.up h9); have hq := H2.out.k.q; have hqt := H2.out.t.q; clear h9)
                | ((with_reducible refine h1_ld ?_ rfl rfl H2.out.k.h ?_); (rfl))
                | ((with_reducible refine h1_ld ?_ rfl rfl H2.out.t.b ?_); (rfl))
                | ((with_reducible refine ob_load ?_ rfl rfl H2.out.k.o ?_); (rfl))
                | (go_at_call 11; (with_reducible refine (cN2 _ H2.out.k.below).mono ?_); rintro e w7 ⟨Ba, Ma, rfl, hT, h9⟩; have H3 : Hid (K3 w A H.length cap o H w4.heap.size Bt T w7.heap.size Ba Ma (w7.alloc (.cells #[.slice (some ⟨Ba, 0, none⟩) (H.length + 1) (H.length + 1)] 24))) := Lib.hid ⟨H2.out.up (vb h9 (vzero _ _)), hv_box (hT.mono H2.out.k.below.size)⟩; have hq := H3.out.k.k.q; clear h9 hT))
              go_cut [105] from 57 (fun qa wx => qa = .bool false ∧ Hid (K3 w A H.length cap o H w4.heap.size Bt T w7.heap.size Ba Ma wx))
              case first =>
                have hS : K3 w A H.length cap o H w4.heap.size Bt T w7.heap.size Ba Ma (World.drew _) := H3.out.up (Below.refl _ _).drew
                refine wp_region_held_drew (S := K3 w A H.length cap o H w4.heap.size Bt T w7.heap.size Ba Ma) (by kernel_rfl) hS (fun hHeld => ?_)
                refine hH_take (i := 0) (v := .int .i64 (H.length : Int)) (d := 66) (l2 := #[true, false, false, false, false, false, false, false, false, false, false, false, false, false, false, false, false, false, false, false, false, false, false, false, false, false, false, false, false, false, false, false, false, false, false, false, false, false, false, false]) rfl (by kernel_rfl) (by kernel_rfl) (by kernel_rfl) (fun _ _ _ h => h) (by kernel_rfl) (fun w' hSw => by go_simp) (by assumption) rfl (by kernel_rfl) ?_
                simp only [List.set]
                refine hH_take (i := 1) (v := .pointer (some ⟨w.heap.size, 0, none⟩)) (d := 67) (l2 := #[true, true, false, false, false, false, false, false, false, false, false, false, false, false, false, false, false, false, false, false, false, false, false, false, false, false, false, false, false, false, false, false, false, false, false, false, false, false, false, false]) rfl (by kernel_rfl) (by kernel_rfl) (by kernel_rfl) (fun _ _ _ h => h) (by kernel_rfl) (fun w' hSw => by go_simp) (by assumption) rfl (by kernel_rfl) ?_
                simp only [List.set]
                refine hH_take (i := 2) (v := .slice A H.length cap) (d := 68) (l2 := #[true, true, true, false, false, false, false, false, false, false, false, false, false, false, false, false, false, false, false, false, false, false, false, false, false, false, false, false, false, false, false, false, false, false, false, false, false, false, false, false]) rfl (by kernel_rfl) (by kernel_rfl) (by kernel_rfl) (fun _ _ _ h => h) (by kernel_rfl) (fun w' hSw => by have qt := hSw.k.k.q; go_simp) (by assumption) rfl (by kernel_rfl) ?_
                simp only [List.set]
                refine hH_take (i := 3) (v := .int .i64 (H.length : Int)) (d := 69) (l2 := #[true, true, true, true, false, false, false, false, false, false, false, false, false, false, false, false, false, false, false, false, false, false, false, false, false, false, false, false, false, false, false, false, false, false, false, false, false, false, false, false]) rfl (by kernel_rfl) (by kernel_rfl) (by kernel_rfl) (fun _ _ _ h => h) (by kernel_rfl) (fun w' hSw => by go_simp) (by assumption) rfl (by kernel_rfl) ?_
                simp only [List.set]
                refine hH_take (i := 4) (v := .bool false) (d := 70) (l2 := #[true, true, true, true, true, false, false, false, false, false, false, false, false, false, false, false, false, false, false, false, false, false, false, false, false, false, false, false, false, false, false, false, false, false, false, false, false, false, false, false]) rfl (by kernel_rfl) (by kernel_rfl) (by kernel_rfl) (fun _ _ _ h => h) (by kernel_rfl) (fun w' hSw => by go_simp; (try simp)) (by assumption) rfl (by kernel_rfl) ?_
                simp only [List.set]
                refine hH_take (i := 5) (v := .bool false) (d := 71) (l2 := #[true, true, true, true, true, true, false, false, false, false, false, false, false, false, false, false, false, false, false, false, false, false, false, false, false, false, false, false, false, false, false, false, false, false, false, false, false, false, false, false]) rfl (by kernel_rfl) (by kernel_rfl) (by kernel_rfl) (fun _ _ _ h => h) (by kernel_rfl) (fun w' hSw => by go_simp) (by assumption) rfl (by kernel_rfl) ?_
                simp only [List.set]
                refine hH_take (i := 6) (v := .pointer (some ⟨w7.heap.size, 0, none⟩)) (d := 72) (l2 := #[true, true, true, true, true, true, true, false, false, false, false, false, false, false, false, false, false, false, false, false, false, false, false, false, false, false, false, false, false, false, false, false, false, false, false, false, false, false, false, false]) rfl (by kernel_rfl) (by kernel_rfl) (by kernel_rfl) (fun _ _ _ h => h) (by kernel_rfl) (fun w' hSw => by go_simp) (by assumption) rfl (by kernel_rfl) ?_
                simp only [List.set]
                refine hH_take (i := 7) (v := .slice (some ⟨Ba, 0, none⟩) (H.length + 1) (H.length + 1)) (d := 73) (l2 := #[true, true, true, true, true, true, true, true, false, false, false, false, false, false, false, false, false, false, false, false, false, false, false, false, false, false, false, false, false, false, false, false, false, false, false, false, false, false, false, false]) rfl (by kernel_rfl) (by kernel_rfl) (by kernel_rfl) (fun _ _ _ h => h) (by kernel_rfl) (fun w' hSw => by have qt := hSw.a.q; go_simp) (by assumption) rfl (by kernel_rfl) ?_
                simp only [List.set]
                refine hH_take (i := 8) (v := .int .i64 ((H.length + 1 : Nat) : Int)) (d := 74) (l2 := #[true, true, true, true, true, true, true, true, true, false, false, false, false, false, false, false, false, false, false, false, false, false, false, false, false, false, false, false, false, false, false, false, false, false, false, false, false, false, false, false]) rfl (by kernel_rfl) (by kernel_rfl) (by kernel_rfl) (fun _ _ _ h => h) (by kernel_rfl) (fun w' hSw => by go_simp) (by assumption) rfl (by kernel_rfl) ?_
                simp only [List.set]
                refine hH_take (i := 9) (v := .int .i64 (H.length : Int)) (d := 75) (l2 := #[true, true, true, true, true, true, true, true, true, true, false, false, false, false, false, false, false, false, false, false, false, false, false, false, false, false, false, false, false, false, false, false, false, false, false, false, false, false, false, false]) rfl (by kernel_rfl) (by kernel_rfl) (by kernel_rfl) (fun _ _ _ h => h) (by kernel_rfl) (fun w' hSw => by go_simp) (by assumption) rfl (by kernel_rfl) ?_
                simp only [List.set]
                refine hH_take (i := 10) (v := .int .i64 ((H.length : Int) + 1)) (d := 76) (l2 := #[true, true, true, true, true, true, true, true, true, true, true, false, false, false, false, false, false, false, false, false, false, false, false, false, false, false, false, false, false, false, false, false, false, false, false, false, false, false, false, false]) rfl (by kernel_rfl) (by kernel_rfl) (by kernel_rfl) (fun _ _ _ h => h) (by kernel_rfl) (fun w' hSw => by go_simp; exact Go.IntWalk.i64_in _ (by omega)) (by assumption) rfl (by kernel_rfl) ?_
                simp only [List.set]
                refine hH_take (i := 11) (v := .bool false) (d := 77) (l2 := #[true, true, true, true, true, true, true, true, true, true, true, true, false, false, false, false, false, false, false, false, false, false, false, false, false, false, false, false, false, false, false, false, false, false, false, false, false, false, false, false]) rfl (by kernel_rfl) (by kernel_rfl) (by kernel_rfl) (fun _ _ _ h => h) (by kernel_rfl) (fun w' hSw => by go_simp; (try simp)) (by assumption) rfl (by kernel_rfl) ?_
                simp only [List.set]
                refine hH_take (i := 12) (v := .bool false) (d := 78) (l2 := #[true, true, true, true, true, true, true, true, true, true, true, true, true, false, false, false, false, false, false, false, false, false, false, false, false, false, false, false, false, false, false, false, false, false, false, false, false, false, false, false]) rfl (by kernel_rfl) (by kernel_rfl) (by kernel_rfl) (fun _ _ _ h => h) (by kernel_rfl) (fun w' hSw => by go_simp) (by assumption) rfl (by kernel_rfl) ?_
                simp only [List.set]
                refine hH_take (i := 13) (v := .bool false) (d := 79) (l2 := #[true, true, true, true, true, true, true, true, true, true, true, true, true, true, false, false, false, false, false, false, false, false, false, false, false, false, false, false, false, false, false, false, false, false, false, false, false, false, false, false]) rfl (by kernel_rfl) (by kernel_rfl) (by kernel_rfl) (fun _ _ _ h => h) (by kernel_rfl) (fun w' hSw => by go_simp) (by assumption) rfl (by kernel_rfl) ?_
                simp only [List.set]
                refine hH_take (i := 14) (v := .agg #[.slice (some ⟨Ba, 0, none⟩) (H.length + 1) (H.length + 1)]) (d := 80) (l2 := #[true, true, true, true, true, true, true, true, true, true, true, true, true, true, true, false, false, false, false, false, false, false, false, false, false, false, false, false, false, false, false, false, false, false, false, false, false, false, false, false]) rfl (by kernel_rfl) (by kernel_rfl) (by kernel_rfl) (fun _ _ _ h => h) (by kernel_rfl) (fun w' hSw => ex_load_at (h1_load hSw.a.b) rfl rfl) (by assumption) rfl (by kernel_rfl) ?_
                simp only [List.set]
                refine wpAnyH_ready (rs := [15]) (by kernel_rfl) (by simp) ?_
                refine (AllReadyH.cons rfl (fun K hK => ?_) AllReadyH.nil)
                go_simp
                go_at_call 20
                (with_reducible refine (cK3 _ _ _ _ hS.a.t hS.k.k.below).mono ?_)
                rintro e wz ⟨rfl, h9⟩
                have hS := hS.up h9
                clear h9
                refine hK.out _ _ hS (fun hHeld => ?_)
                clear hK K
                refine hH_take (i := 16) (v := .bool false) (d := 82) (l2 := #[true, true, true, true, true, true, true, true, true, true, true, true, true, true, true, true, true, false, false, false, false, false, false, false, false, false, false, false, false, false, false, false, false, false, false, false, false, false, false, false]) rfl (by kernel_rfl) (by kernel_rfl) (by kernel_rfl) (fun _ _ _ h => h) (by kernel_rfl) (fun w' hSw => by go_simp) (by assumption) rfl (by kernel_rfl) ?_
                simp only [List.set]
                refine hH_take (i := 17) (v := .bool false) (d := 83) (l2 := #[true, true, true, true, true, true, true, true, true, true, true, true, true, true, true, true, true, true, false, false, false, false, false, false, false, false, false, false, false, false, false, false, false, false, false, false, false, false, false, false]) rfl (by kernel_rfl) (by kernel_rfl) (by kernel_rfl) (fun _ _ _ h => h) (by kernel_rfl) (fun w' hSw => by go_simp) (by assumption) rfl (by kernel_rfl) ?_
                simp only [List.set]
                refine hH_take (i := 18) (v := .bool false) (d := 84) (l2 := #[true, true, true, true, true, true, true, true, true, true, true, true, true, true, true, true, true, true, true, false, false, false, false, false, false, false, false, false, false, false, false, false, false, false, false, false, false, false, false, false]) rfl (by kernel_rfl) (by kernel_rfl) (by kernel_rfl) (fun _ _ _ h => h) (by kernel_rfl) (fun w' hSw => by go_simp) (by assumption) rfl (by kernel_rfl) ?_
                simp only [List.set]
                refine hH_take (i := 19) (v := .pointer (some ⟨w7.heap.size, 0, none⟩)) (d := 85) (l2 := #[true, true, true, true, true, true, true, true, true, true, true, true, true, true, true, true, true, true, true, true, false, false, false, false, false, false, false, false, false, false, false, false, false, false, false, false, false, false, false, false]) rfl (by kernel_rfl) (by kernel_rfl) (by kernel_rfl) (fun _ _ _ h => h) (by kernel_rfl) (fun w' hSw => by go_simp) (by assumption) rfl (by kernel_rfl) ?_
                simp only [List.set]
                refine hH_take (i := 20) (v := .slice (some ⟨Ba, 0, none⟩) (H.length + 1) (H.length + 1)) (d := 86) (l2 := #[true, true, true, true, true, true, true, true, true, true, true, true, true, true, true, true, true, true, true, true, true, false, false, false, false, false, false, false, false, false, false, false, false, false, false, false, false, false, false, false]) rfl (by kernel_rfl) (by kernel_rfl) (by kernel_rfl) (fun _ _ _ h => h) (by kernel_rfl) (fun w' hSw => by have qt := hSw.a.q; go_simp) (by assumption) rfl (by kernel_rfl) ?_
                simp only [List.set]
                refine hH_take (i := 21) (v := .int .i64 (H.length : Int)) (d := 87) (l2 := #[true, true, true, true, true, true, true, true, true, true, true, true, true, true, true, true, true, true, true, true, true, true, false, false, false, false, false, false, false, false, false, false, false, false, false, false, false, false, false, false]) rfl (by kernel_rfl) (by kernel_rfl) (by kernel_rfl) (fun _ _ _ h => h) (by kernel_rfl) (fun w' hSw => by go_simp) (by assumption) rfl (by kernel_rfl) ?_
                simp only [List.set]
                refine hH_take (i := 22) (v := .slice (some ⟨Ba, 0, none⟩) H.length (H.length + 1)) (d := 88) (l2 := #[true, true, true, true, true, true, true, true, true, true, true, true, true, true, true, true, true, true, true, true, true, true, true, false, false, false, false, false, false, false, false, false, false, false, false, false, false, false, false, false]) rfl (by kernel_rfl) (by kernel_rfl) (by kernel_rfl) (fun _ _ _ h => h) (by kernel_rfl) (fun w' hSw => by go_simp; (try (intro hh; omega))) (by assumption) rfl (by kernel_rfl) ?_
                simp only [List.set]
                refine hH_take (i := 23) (v := .agg #[.slice (some ⟨Ba, 0, none⟩) H.length (H.length + 1)]) (d := 89) (l2 := #[true, true, true, true, true, true, true, true, true, true, true, true, true, true, true, true, true, true, true, true, true, true, true, true, false, false, false, false, false, false, false, false, false, false, false, false, false, false, false, false]) rfl (by kernel_rfl) (by kernel_rfl) (by kernel_rfl) (fun _ _ _ h => h) (by kernel_rfl) (fun w' hSw => by go_simp) (by assumption) rfl (by kernel_rfl) ?_
                simp only [List.set]
                refine hH_take (i := 24) (v := .agg #[.slice A H.length cap]) (d := 90) (l2 := #[true, true, true, true, true, true, true, true, true, true, true, true, true, true, true, true, true, true, true, true, true, true, true, true, true, false, false, false, false, false, false, false, false, false, false, false, false, false, false, false]) rfl (by kernel_rfl) (by kernel_rfl) (by kernel_rfl) (fun _ _ _ h => h) (by kernel_rfl) (fun w' hSw => ex_load_at (h1_load hSw.k.k.h) rfl rfl) (by assumption) rfl (by kernel_rfl) ?_
                simp only [List.set]
                refine wpAnyH_ready (rs := [25]) (by kernel_rfl) (by simp) ?_
                refine (AllReadyH.cons rfl (fun K hK => ?_) AllReadyH.nil)
                go_simp
                go_at_call 23
                (with_reducible refine (cS2 _ _ _ _ hS.a.t hS.k.k.below).mono ?_)
                rintro e wz ⟨rfl, h9⟩
                have hS := hS.up h9
                clear h9
                refine hK.out _ _ hS (fun hHeld => ?_)
                clear hK K
                refine hH_take (i := 26) (v := .bool false) (d := 92) (l2 := #[true, true, true, true, true, true, true, true, true, true, true, true, true, true, true, true, true, true, true, true, true, true, true, true, true, true, true, false, false, false, false, false, false, false, false, false, false, false, false, false]) rfl (by kernel_rfl) (by kernel_rfl) (by kernel_rfl) (fun _ _ _ h => h) (by kernel_rfl) (fun w' hSw => by go_simp) (by assumption) rfl (by kernel_rfl) ?_
                simp only [List.set]
                refine hH_take (i := 27) (v := .bool false) (d := 93) (l2 := #[true, true, true, true, true, true, true, true, true, true, true, true, true, true, true, true, true, true, true, true, true, true, true, true, true, true, true, true, false, false, false, false, false, false, false, false, false, false, false, false]) rfl (by kernel_rfl) (by kernel_rfl) (by kernel_rfl) (fun _ _ _ h => h) (by kernel_rfl) (fun w' hSw => by go_simp) (by assumption) rfl (by kernel_rfl) ?_
                simp only [List.set]
                refine hH_take (i := 28) (v := .bool false) (d := 94) (l2 := #[true, true, true, true, true, true, true, true, true, true, true, true, true, true, true, true, true, true, true, true, true, true, true, true, true, true, true, true, true, false, false, false, false, false, false, false, false, false, false, false]) rfl (by kernel_rfl) (by kernel_rfl) (by kernel_rfl) (fun _ _ _ h => h) (by kernel_rfl) (fun w' hSw => by go_simp) (by assumption) rfl (by kernel_rfl) ?_
                simp only [List.set]
                refine hH_take (i := 29) (v := .pointer (some ⟨w7.heap.size, 0, none⟩)) (d := 95) (l2 := #[true, true, true, true, true, true, true, true, true, true, true, true, true, true, true, true, true, true, true, true, true, true, true, true, true, true, true, true, true, true, false, false, false, false, false, false, false, false, false, false]) rfl (by kernel_rfl) (by kernel_rfl) (by kernel_rfl) (fun _ _ _ h => h) (by kernel_rfl) (fun w' hSw => by go_simp) (by assumption) rfl (by kernel_rfl) ?_
                simp only [List.set]
                refine hH_take (i := 30) (v := .slice (some ⟨Ba, 0, none⟩) (H.length + 1) (H.length + 1)) (d := 96) (l2 := #[true, true, true, true, true, true, true, true, true, true, true, true, true, true, true, true, true, true, true, true, true, true, true, true, true, true, true, true, true, true, true, false, false, false, false, false, false, false, false, false]) rfl (by kernel_rfl) (by kernel_rfl) (by kernel_rfl) (fun _ _ _ h => h) (by kernel_rfl) (fun w' hSw => by have qt := hSw.a.q; go_simp) (by assumption) rfl (by kernel_rfl) ?_
                simp only [List.set]
                refine hH_take (i := 31) (v := .int .i64 (H.length : Int)) (d := 97) (l2 := #[true, true, true, true, true, true, true, true, true, true, true, true, true, true, true, true, true, true, true, true, true, true, true, true, true, true, true, true, true, true, true, true, false, false, false, false, false, false, false, false]) rfl (by kernel_rfl) (by kernel_rfl) (by kernel_rfl) (fun _ _ _ h => h) (by kernel_rfl) (fun w' hSw => by go_simp) (by assumption) rfl (by kernel_rfl) ?_
                simp only [List.set]
                refine hH_take (i := 32) (v := .slice (some ⟨Ba, H.length * 18, none⟩) 1 1) (d := 98) (l2 := #[true, true, true, true, true, true, true, true, true, true, true, true, true, true, true, true, true, true, true, true, true, true, true, true, true, true, true, true, true, true, true, true, true, false, false, false, false, false, false, false]) rfl (by kernel_rfl) (by kernel_rfl) (by kernel_rfl) (fun _ _ _ h => h) (by kernel_rfl) (fun w' hSw => by go_simp; (try (intro hh; omega))) (by assumption) rfl (by kernel_rfl) ?_
                simp only [List.set]
                refine hH_take (i := 33) (v := .agg #[.slice (some ⟨Ba, H.length * 18, none⟩) 1 1]) (d := 99) (l2 := #[true, true, true, true, true, true, true, true, true, true, true, true, true, true, true, true, true, true, true, true, true, true, true, true, true, true, true, true, true, true, true, true, true, true, false, false, false, false, false, false]) rfl (by kernel_rfl) (by kernel_rfl) (by kernel_rfl) (fun _ _ _ h => h) (by kernel_rfl) (fun w' hSw => by go_simp) (by assumption) rfl (by kernel_rfl) ?_
                simp only [List.set]
                refine hH_take (i := 34) (v := .agg (obA o)) (d := 100) (l2 := #[true, true, true, true, true, true, true, true, true, true, true, true, true, true, true, true, true, true, true, true, true, true, true, true, true, true, true, true, true, true, true, true, true, true, true, false, false, false, false, false]) rfl (by kernel_rfl) (by kernel_rfl) (by kernel_rfl) (fun _ _ _ h => h) (by kernel_rfl) (fun w' hSw => ex_load_at (o_loadAt hSw.k.k.o) rfl rfl) (by assumption) rfl (by kernel_rfl) ?_
                simp only [List.set]
                refine wpAnyH_ready (rs := [35]) (by kernel_rfl) (by simp) ?_
                refine (AllReadyH.cons rfl (fun K hK => ?_) AllReadyH.nil)
                refine r_val (by kernel_rfl) (eb_o rfl rfl) rfl ?_
                simp only [List.set]
                have hbo := heap_alloc_new wz (.cells (obA o) 34)
                have hS := hS.up (vzero wz (.cells (obA o) 34))
                refine hK.out _ _ hS (fun hHeld => ?_)
                clear hK K
                refine hH_take (i := 36) (v := .agg #[.slice (some ⟨wz.heap.size, 0, none⟩) 1 1]) (d := 102) (l2 := #[true, true, true, true, true, true, true, true, true, true, true, true, true, true, true, true, true, true, true, true, true, true, true, true, true, true, true, true, true, true, true, true, true, true, true, true, true, false, false, false]) rfl (by kernel_rfl) (by kernel_rfl) (by kernel_rfl) (fun _ _ _ h => h) (by kernel_rfl) (fun w' hSw => by go_simp) (by assumption) rfl (by kernel_rfl) ?_
                simp only [List.set]
                refine wpAnyH_ready (rs := [37]) (by kernel_rfl) (by simp) ?_
                refine (AllReadyH.cons rfl (fun K hK => ?_) AllReadyH.nil)
                go_simp
                go_at_call 23
                (with_reducible refine (cS3 _ _ _ _ _ hS.a.t hbo hS.k.k.below).mono ?_)
                rintro e wz ⟨rfl, h9⟩
                have hS := hS.up h9
                clear h9
                refine hK.out _ _ hS (fun hHeld => ?_)
                clear hK K
                refine hH_take (i := 38) (v := .bool false) (d := 104) (l2 := #[true, true, true, true, true, true, true, true, true, true, true, true, true, true, true, true, true, true, true, true, true, true, true, true, true, true, true, true, true, true, true, true, true, true, true, true, true, true, true, false]) rfl (by kernel_rfl) (by kernel_rfl) (by kernel_rfl) (fun _ _ _ h => h) (by kernel_rfl) (fun w' hSw => by go_simp) (by assumption) rfl (by kernel_rfl) ?_
                simp only [List.set]
                refine hH_take (i := 39) (v := .bool false) (d := 105) (l2 := #[true, true, true, true, true, true, true, true, true, true, true, true, true, true, true, true, true, true, true, true, true, true, true, true, true, true, true, true, true, true, true, true, true, true, true, true, true, true, true, true]) rfl (by kernel_rfl) (by kernel_rfl) (by kernel_rfl) (fun _ _ _ h => h) (by kernel_rfl) (fun w' hSw => by go_simp) (by assumption) rfl (by kernel_rfl) ?_
                simp only [List.set]
                refine wpAnyH_done (by kernel_rfl) ?_ _
                go_wp2_with (fail)
                go_meet
                case rel => exact ⟨rfl, Lib.hid hS⟩
              case rest =>
                obtain ⟨rfl, HK3⟩ := hcut
                have H2 := Lib.hid HK3.out.k
                have hq := H2.out.k.q
                have hqt := H2.out.t.q
                go_wp2_with (first
                  | ((with_reducible refine ob_load ?_ rfl rfl H2.out.k.o ?_); (rfl))
                  | ((with_reducible refine h1_ld ?_ rfl rfl H2.out.k.h ?_); (rfl))
                  | (go_at_call 14; (with_reducible refine (cP2 _ H2.out.k.below).mono ?_); rintro e w8 ⟨rfl, h9⟩; have H2 := Lib.hid (H2.out.up (vb h9 (vzero _ (.cells #[.slice none 0 0] 24)))); have hq := H2.out.k.q; have hqt := H2.out.t.q; clear h9)
                  | (go_at_call 24; (with_reducible refine (cR _ H2.out.k.below).mono ?_); rintro e w9 ⟨rfl, h9⟩; have H2 := Lib.hid (H2.out.up h9); clear h9))
                go_ret
                exact ⟨rfl, H2.out.k.below⟩
            | true =>
              have hpe : hpE H n o = 0 := by rw [← beq_iff_eq]; exact hpb
              have cP2 := cP1 hpe
              obtain ⟨hin, hcN⟩ := hpe_zero hpe
              obtain ⟨k, rfl⟩ := Int.eq_ofNat_of_zero_le hin.1
              have hkz : (k : Int) < (H.length : Int) := hin.2
              have hk0 : (0 : Int) ≤ (k : Int) := hin.1
              have hkl : k < H.length := by omega
              rw [Int.toNat_natCast] at cP2 hcN
              have hf4 := HI.out.2.2.2.2.2.2.2
              obtain ⟨N, hN⟩ : ∃ N, N = hput H k o := ⟨_, rfl⟩
              have hNl : N.length = H.length := by rw [hN, hput_len H k o hkl]
              have hNin : ∀ x ∈ N, x.In := fun x hx => by rw [hN, hput_old H k o hkl] at hx; rcases List.mem_or_eq_of_mem_set hx with h | h; exact HI.out.1.inn x h; rw [h]; exact HI.out.2.2.2.2.1
              have hNp : ∀ x ∈ N, x.props.length ≤ 100000 := fun x hx => by rw [hN, hput_old H k o hkl] at hx; rcases List.mem_or_eq_of_mem_set hx with h | h; exact HI.out.2.1 x h; rw [h]; omega
              have hNk : ∀ h : k < N.length, N[k] = o := fun h => by subst hN; exact hput_k hkl h
              rw [← hN] at cP2 hcN
              have cO : ∀ W B M nx, Tw nx B N M W → Below w.heap.size w W → Calls Tryz.prog 15 #[.agg #[.slice (some ⟨B, 0, none⟩) H.length H.length], .int .i64 (k : Int)] W fun e w' => ∃ gq q, (Ob.bare q = o.bare ∧ q.props.length ≤ 100000) ∧ e = .returned (.tuple #[.agg (obA (q.at gq)), .int .i64 0]) ∧ w'.heap[gq]? = some (.cells (prCells q.props).toArray 93 (0, 0)) ∧ Below W.heap.size W w' := fun W B M nx hT hb => by
                have hl : M.length = H.length := by rw [hT.len, hNl]
                have hc : chkH M = 0 := by rw [chkH_like hT.like]; exact hcN
                have hz := of_zero hc (show k < M.length by omega)
                have := Of_h _ M M.length k W (hT.inn hNin (by omega) hNp) (tw_small hT hNp) (tab_up HI.out.2.2.2.2.2.1 hb)
                rw [hl] at this
                refine this.mono ?_
                rintro e w' ⟨h9, ⟨h0, _⟩ | ⟨_, hk2, gq, hx, hy⟩⟩
                · exact absurd hz h0
                · have hk3 : k < M.length := by omega
                  have e1 : M[((k : Int)).toNat]'hk2 = M[k] := by simp
                  rw [e1] at hx hy
                  refine ⟨gq, M[k], ⟨?_, tw_small hT hNp _ (List.getElem_mem _)⟩, hx, hy, h9⟩
                  rw [bare_at hT.like k hk3 (by omega), hNk]
              have cP3 : ∀ W B M nx Bt T nt, Tw nx B N M W → Tw nt Bt H T W → ∀ hk : k < T.length, Below w.heap.size w W → Calls Tryz.prog 14 #[.agg #[.slice (some ⟨B, 0, none⟩) H.length H.length], .int .i64 (k : Int), .agg (obA T[k])] W fun e w' => ∃ B2 N2 M2, (N2.map Ob.bare = H.map Ob.bare ∧ ∀ o ∈ N2, o.props.length ≤ 100000) ∧ e = .returned (.tuple #[.agg #[.slice (some ⟨B2, 0, none⟩) H.length H.length], .int .i64 0]) ∧ Tw W.heap.size B2 N2 M2 w' ∧ Below W.heap.size W w' := fun W B M nx Bt T nt hT hU hk hb => by
                have hl : M.length = H.length := by rw [hT.len, hNl]
                have hkM : k < M.length := by omega
                have hc : chkH M = 0 := by rw [chkH_like hT.like]; exact hcN
                have hUs := tw_small hU HI.out.2.1
                have hMs := tw_small hT hNp
                have hbk : (hput M k T[k]).map Ob.bare = H.map Ob.bare := by
                  rw [hput_bare (H := N) (p := T[k]) hT.like rfl (by omega), hN]
                  exact hput_back hkl (bare_at hU.like k hk hkl)
                have hz := hpe_ok (o := T[k]) hc hkM (by rw [chkH_like hbk]; exact HI.out.2.2.2.2.2.2.1)
                have hUI := hU.inn HI.out.1.inn HI.out.1.few HI.out.2.1
                have := Put_h _ M M.length k T[k] W (hT.inn hNin (by omega) hNp) hMs ((hl_tw hU HI.out.2.1).pr _ (List.getElem_mem hk)) (hUI.inn _ (List.getElem_mem hk)) (hUs _ (List.getElem_mem hk)) (tab_up HI.out.2.2.2.2.2.1 hb)
                rw [hl] at this
                refine this.mono ?_
                rintro e w' ⟨h9, ⟨h0, _⟩ | ⟨_, B2, M2, hx, hT2⟩⟩
                · exact absurd hz h0
                · rw [Int.toNat_natCast] at hT2
                  refine ⟨B2, _, M2, ⟨hbk, fun x hx => ?_⟩, by rw [hl] at hx; exact hx, hT2, h9⟩
                  rw [hput_old M k _ hkM] at hx
                  rcases List.mem_or_eq_of_mem_set hx with h | h
                  · exact hMs x h
                  · rw [h]; exact hUs _ (List.getElem_mem hk)
              have cS4 : ∀ W b1 b2 (q : Ob) gq, W.heap[b1]? = some (.cells (obA (q.at gq)) 34 (0, 0)) → W.heap[b2]? = some (.cells (obA o) 34 (0, 0)) → q.bare = o.bare → q.props.length ≤ 100000 → W.heap[gq]? = some (.cells (prCells q.props).toArray 93 (0, 0)) → Below w.heap.size w W → Calls Tryz.prog 23 #[.agg #[.slice (some ⟨b1, 0, none⟩) 1 1], .agg #[.slice (some ⟨b2, 0, none⟩) 1 1]] W fun e w' => e = .returned (.bool true) ∧ Below W.heap.size W w' := fun W b1 b2 q gq h1 h2 hq hqs hy hb =>
                same_hl 1 _ _ 1 1 W (hl_one h1 (pr_blk hy) hqs) (hl_one h2 (pr_up HI.out.2.2.2.1 hb) (by omega)) (by simp only [List.map_cons, List.map_nil, at_bare, hq]) rfl (by omega)
              have cS5 : ∀ W B N2 M2 nx, Tw nx B N2 M2 W → N2.map Ob.bare = H.map Ob.bare → (∀ o ∈ N2, o.props.length ≤ 100000) → Below w.heap.size w W → Calls Tryz.prog 23 #[.agg #[.slice (some ⟨B, 0, none⟩) H.length H.length], .agg #[.slice A H.length cap]] W fun e w' => e = .returned (.bool true) ∧ Below W.heap.size W w' := fun W B N2 M2 nx hT h2 h3 hb =>
                same_hl H.length _ A _ _ W (hl_tw hT h3) ((hl_in HI.out.1 HI.out.2.1).up hb) (hT.like.trans h2) (by have := congrArg List.length h2; rw [List.length_map, List.length_map] at this; rw [hT.len, this]) (by omega)
              have hi1 : ∀ o : Ob, (Tryz.prog.info? 34).map (·.size) = some (obA o).size := fun _ => osz
              have hiH : ∀ v : Value, (Tryz.prog.info? 24).map (·.size) = some (#[v] : Array Value).size := fun v => hsz
              have hcH : ∀ v : Value, v.oneCell' = true → (#[v] : Array Value).all (·.oneCell') = true := fun v h => cells_one (l := [v]) (by simpa using h)
              clear cP0 cP1 hpe hpb hin hcN hN hNl hNin hNp hNk hf4

              go_enter Tryz.func4, Tryz.ntmps4
              go_wp2_with (first
                | (go_at_call 19; (with_reducible refine (cA _ HQ.out.below).mono ?_); rintro e w1 ⟨rfl, h9⟩; have HQ := Lib.hid (HQ.out.up h9); have hq := HQ.out.q; have hq6 := HQ.out.q6; clear h9)
                | (go_at_call 21; (with_reducible refine (cL _ HQ.out.below).mono ?_); rintro e w2 ⟨rfl, h9⟩; have HQ := Lib.hid (HQ.out.up h9); have hq := HQ.out.q; have hq6 := HQ.out.q6; clear h9)
                | (go_at_call 20; (with_reducible refine (cC _ HQ.out.below).mono ?_); rintro e w3 ⟨rfl, h9⟩; have HQ := Lib.hid (HQ.out.up h9); have hq := HQ.out.q; clear h9)
                | (go_at_call 22; (with_reducible refine (cT _ HQ.out.below).mono ?_); rintro e w4 ⟨Bt, T, rfl, hT, h9⟩; have HT := Lib.hid (hT.mono HQ.out.below.size); have HQ := Lib.hid (HQ.out.up h9); have hq := HQ.out.q; clear h9 hT)
                | ((with_reducible refine h1_ld ?_ rfl rfl (HQ.out.up (vzero _ _)).h ?_); (rfl))
                | (go_at_call 23; (with_reducible refine (cS1 _ _ _ _ (HT.out.up (vzero _ _)) (vb HQ.out.below (vzero _ _))).mono ?_); rintro e w5 ⟨rfl, h9⟩; have H2 : Hid (K2 w A H.length cap o H w4.heap.size Bt T w5) := Lib.hid ⟨HQ.out.up (vb (vzero _ _) h9), (hv_box HT.out).up h9⟩; have hq := H2.out.k.q; have hqt := H2.out.t.q; clear h9)
                | (go_at_call 20; (with_reducible refine (cK1 _ _ _ _ H2.out.t.t H2.out.k.below).mono ?_); rintro e w6 ⟨rfl, h9⟩; have H2 := Lib.hid (H2.out.up h9); have hq := H2.out.k.q; have hqt := H2.out.t.q; clear h9)
                | ((with_reducible refine h1_ld ?_ rfl rfl H2.out.k.h ?_); (rfl))
                | ((with_reducible refine h1_ld ?_ rfl rfl H2.out.t.b ?_); (rfl))
                | ((with_reducible refine ob_load ?_ rfl rfl H2.out.k.o ?_); (rfl))
                | (go_at_call 11; (with_reducible refine (cN2 _ H2.out.k.below).mono ?_); rintro e w7 ⟨Ba, Ma, rfl, hT, h9⟩; have H3 : Hid (K3 w A H.length cap o H w4.heap.size Bt T w7.heap.size Ba Ma (w7.alloc (.cells #[.slice (some ⟨Ba, 0, none⟩) (H.length + 1) (H.length + 1)] 24))) := Lib.hid ⟨H2.out.up (vb h9 (vzero _ _)), hv_box (hT.mono H2.out.k.below.size)⟩; have hq := H3.out.k.k.q; clear h9 hT))
              go_cut [105] from 57 (fun qa wx => qa = .bool false ∧ Hid (K3 w A H.length cap o H w4.heap.size Bt T w7.heap.size Ba Ma wx))
              case first =>
                have hS : K3 w A H.length cap o H w4.heap.size Bt T w7.heap.size Ba Ma (World.drew _) := H3.out.up (Below.refl _ _).drew
                refine wp_region_held_drew (S := K3 w A H.length cap o H w4.heap.size Bt T w7.heap.size Ba Ma) (by kernel_rfl) hS (fun hHeld => ?_)
                refine hH_take (i := 0) (v := .int .i64 (H.length : Int)) (d := 66) (l2 := #[true, false, false, false, false, false, false, false, false, false, false, false, false, false, false, false, false, false, false, false, false, false, false, false, false, false, false, false, false, false, false, false, false, false, false, false, false, false, false, false]) rfl (by kernel_rfl) (by kernel_rfl) (by kernel_rfl) (fun _ _ _ h => h) (by kernel_rfl) (fun w' hSw => by go_simp) (by assumption) rfl (by kernel_rfl) ?_
                simp only [List.set]
                refine hH_take (i := 1) (v := .pointer (some ⟨w.heap.size, 0, none⟩)) (d := 67) (l2 := #[true, true, false, false, false, false, false, false, false, false, false, false, false, false, false, false, false, false, false, false, false, false, false, false, false, false, false, false, false, false, false, false, false, false, false, false, false, false, false, false]) rfl (by kernel_rfl) (by kernel_rfl) (by kernel_rfl) (fun _ _ _ h => h) (by kernel_rfl) (fun w' hSw => by go_simp) (by assumption) rfl (by kernel_rfl) ?_
                simp only [List.set]
                refine hH_take (i := 2) (v := .slice A H.length cap) (d := 68) (l2 := #[true, true, true, false, false, false, false, false, false, false, false, false, false, false, false, false, false, false, false, false, false, false, false, false, false, false, false, false, false, false, false, false, false, false, false, false, false, false, false, false]) rfl (by kernel_rfl) (by kernel_rfl) (by kernel_rfl) (fun _ _ _ h => h) (by kernel_rfl) (fun w' hSw => by have qt := hSw.k.k.q; go_simp) (by assumption) rfl (by kernel_rfl) ?_
                simp only [List.set]
                refine hH_take (i := 3) (v := .int .i64 (H.length : Int)) (d := 69) (l2 := #[true, true, true, true, false, false, false, false, false, false, false, false, false, false, false, false, false, false, false, false, false, false, false, false, false, false, false, false, false, false, false, false, false, false, false, false, false, false, false, false]) rfl (by kernel_rfl) (by kernel_rfl) (by kernel_rfl) (fun _ _ _ h => h) (by kernel_rfl) (fun w' hSw => by go_simp) (by assumption) rfl (by kernel_rfl) ?_
                simp only [List.set]
                refine hH_take (i := 4) (v := .bool false) (d := 70) (l2 := #[true, true, true, true, true, false, false, false, false, false, false, false, false, false, false, false, false, false, false, false, false, false, false, false, false, false, false, false, false, false, false, false, false, false, false, false, false, false, false, false]) rfl (by kernel_rfl) (by kernel_rfl) (by kernel_rfl) (fun _ _ _ h => h) (by kernel_rfl) (fun w' hSw => by go_simp; (try simp)) (by assumption) rfl (by kernel_rfl) ?_
                simp only [List.set]
                refine hH_take (i := 5) (v := .bool false) (d := 71) (l2 := #[true, true, true, true, true, true, false, false, false, false, false, false, false, false, false, false, false, false, false, false, false, false, false, false, false, false, false, false, false, false, false, false, false, false, false, false, false, false, false, false]) rfl (by kernel_rfl) (by kernel_rfl) (by kernel_rfl) (fun _ _ _ h => h) (by kernel_rfl) (fun w' hSw => by go_simp) (by assumption) rfl (by kernel_rfl) ?_
                simp only [List.set]
                refine hH_take (i := 6) (v := .pointer (some ⟨w7.heap.size, 0, none⟩)) (d := 72) (l2 := #[true, true, true, true, true, true, true, false, false, false, false, false, false, false, false, false, false, false, false, false, false, false, false, false, false, false, false, false, false, false, false, false, false, false, false, false, false, false, false, false]) rfl (by kernel_rfl) (by kernel_rfl) (by kernel_rfl) (fun _ _ _ h => h) (by kernel_rfl) (fun w' hSw => by go_simp) (by assumption) rfl (by kernel_rfl) ?_
                simp only [List.set]
                refine hH_take (i := 7) (v := .slice (some ⟨Ba, 0, none⟩) (H.length + 1) (H.length + 1)) (d := 73) (l2 := #[true, true, true, true, true, true, true, true, false, false, false, false, false, false, false, false, false, false, false, false, false, false, false, false, false, false, false, false, false, false, false, false, false, false, false, false, false, false, false, false]) rfl (by kernel_rfl) (by kernel_rfl) (by kernel_rfl) (fun _ _ _ h => h) (by kernel_rfl) (fun w' hSw => by have qt := hSw.a.q; go_simp) (by assumption) rfl (by kernel_rfl) ?_
                simp only [List.set]
                refine hH_take (i := 8) (v := .int .i64 ((H.length + 1 : Nat) : Int)) (d := 74) (l2 := #[true, true, true, true, true, true, true, true, true, false, false, false, false, false, false, false, false, false, false, false, false, false, false, false, false, false, false, false, false, false, false, false, false, false, false, false, false, false, false, false]) rfl (by kernel_rfl) (by kernel_rfl) (by kernel_rfl) (fun _ _ _ h => h) (by kernel_rfl) (fun w' hSw => by go_simp) (by assumption) rfl (by kernel_rfl) ?_
                simp only [List.set]
                refine hH_take (i := 9) (v := .int .i64 (H.length : Int)) (d := 75) (l2 := #[true, true, true, true, true, true, true, true, true, true, false, false, false, false, false, false, false, false, false, false, false, false, false, false, false, false, false, false, false, false, false, false, false, false, false, false, false, false, false, false]) rfl (by kernel_rfl) (by kernel_rfl) (by kernel_rfl) (fun _ _ _ h => h) (by kernel_rfl) (fun w' hSw => by go_simp) (by assumption) rfl (by kernel_rfl) ?_
                simp only [List.set]
                refine hH_take (i := 10) (v := .int .i64 ((H.length : Int) + 1)) (d := 76) (l2 := #[true, true, true, true, true, true, true, true, true, true, true, false, false, false, false, false, false, false, false, false, false, false, false, false, false, false, false, false, false, false, false, false, false, false, false, false, false, false, false, false]) rfl (by kernel_rfl) (by kernel_rfl) (by kernel_rfl) (fun _ _ _ h => h) (by kernel_rfl) (fun w' hSw => by go_simp; exact Go.IntWalk.i64_in _ (by omega)) (by assumption) rfl (by kernel_rfl) ?_
                simp only [List.set]
                refine hH_take (i := 11) (v := .bool false) (d := 77) (l2 := #[true, true, true, true, true, true, true, true, true, true, true, true, false, false, false, false, false, false, false, false, false, false, false, false, false, false, false, false, false, false, false, false, false, false, false, false, false, false, false, false]) rfl (by kernel_rfl) (by kernel_rfl) (by kernel_rfl) (fun _ _ _ h => h) (by kernel_rfl) (fun w' hSw => by go_simp; (try simp)) (by assumption) rfl (by kernel_rfl) ?_
                simp only [List.set]
                refine hH_take (i := 12) (v := .bool false) (d := 78) (l2 := #[true, true, true, true, true, true, true, true, true, true, true, true, true, false, false, false, false, false, false, false, false, false, false, false, false, false, false, false, false, false, false, false, false, false, false, false, false, false, false, false]) rfl (by kernel_rfl) (by kernel_rfl) (by kernel_rfl) (fun _ _ _ h => h) (by kernel_rfl) (fun w' hSw => by go_simp) (by assumption) rfl (by kernel_rfl) ?_
                simp only [List.set]
                refine hH_take (i := 13) (v := .bool false) (d := 79) (l2 := #[true, true, true, true, true, true, true, true, true, true, true, true, true, true, false, false, false, false, false, false, false, false, false, false, false, false, false, false, false, false, false, false, false, false, false, false, false, false, false, false]) rfl (by kernel_rfl) (by kernel_rfl) (by kernel_rfl) (fun _ _ _ h => h) (by kernel_rfl) (fun w' hSw => by go_simp) (by assumption) rfl (by kernel_rfl) ?_
                simp only [List.set]
                refine hH_take (i := 14) (v := .agg #[.slice (some ⟨Ba, 0, none⟩) (H.length + 1) (H.length + 1)]) (d := 80) (l2 := #[true, true, true, true, true, true, true, true, true, true, true, true, true, true, true, false, false, false, false, false, false, false, false, false, false, false, false, false, false, false, false, false, false, false, false, false, false, false, false, false]) rfl (by kernel_rfl) (by kernel_rfl) (by kernel_rfl) (fun _ _ _ h => h) (by kernel_rfl) (fun w' hSw => ex_load_at (h1_load hSw.a.b) rfl rfl) (by assumption) rfl (by kernel_rfl) ?_
                simp only [List.set]
                refine wpAnyH_ready (rs := [15]) (by kernel_rfl) (by simp) ?_
                refine (AllReadyH.cons rfl (fun K hK => ?_) AllReadyH.nil)
                go_simp
                go_at_call 20
                (with_reducible refine (cK3 _ _ _ _ hS.a.t hS.k.k.below).mono ?_)
                rintro e wz ⟨rfl, h9⟩
                have hS := hS.up h9
                clear h9
                refine hK.out _ _ hS (fun hHeld => ?_)
                clear hK K
                refine hH_take (i := 16) (v := .bool false) (d := 82) (l2 := #[true, true, true, true, true, true, true, true, true, true, true, true, true, true, true, true, true, false, false, false, false, false, false, false, false, false, false, false, false, false, false, false, false, false, false, false, false, false, false, false]) rfl (by kernel_rfl) (by kernel_rfl) (by kernel_rfl) (fun _ _ _ h => h) (by kernel_rfl) (fun w' hSw => by go_simp) (by assumption) rfl (by kernel_rfl) ?_
                simp only [List.set]
                refine hH_take (i := 17) (v := .bool false) (d := 83) (l2 := #[true, true, true, true, true, true, true, true, true, true, true, true, true, true, true, true, true, true, false, false, false, false, false, false, false, false, false, false, false, false, false, false, false, false, false, false, false, false, false, false]) rfl (by kernel_rfl) (by kernel_rfl) (by kernel_rfl) (fun _ _ _ h => h) (by kernel_rfl) (fun w' hSw => by go_simp) (by assumption) rfl (by kernel_rfl) ?_
                simp only [List.set]
                refine hH_take (i := 18) (v := .bool false) (d := 84) (l2 := #[true, true, true, true, true, true, true, true, true, true, true, true, true, true, true, true, true, true, true, false, false, false, false, false, false, false, false, false, false, false, false, false, false, false, false, false, false, false, false, false]) rfl (by kernel_rfl) (by kernel_rfl) (by kernel_rfl) (fun _ _ _ h => h) (by kernel_rfl) (fun w' hSw => by go_simp) (by assumption) rfl (by kernel_rfl) ?_
                simp only [List.set]
                refine hH_take (i := 19) (v := .pointer (some ⟨w7.heap.size, 0, none⟩)) (d := 85) (l2 := #[true, true, true, true, true, true, true, true, true, true, true, true, true, true, true, true, true, true, true, true, false, false, false, false, false, false, false, false, false, false, false, false, false, false, false, false, false, false, false, false]) rfl (by kernel_rfl) (by kernel_rfl) (by kernel_rfl) (fun _ _ _ h => h) (by kernel_rfl) (fun w' hSw => by go_simp) (by assumption) rfl (by kernel_rfl) ?_
                simp only [List.set]
                refine hH_take (i := 20) (v := .slice (some ⟨Ba, 0, none⟩) (H.length + 1) (H.length + 1)) (d := 86) (l2 := #[true, true, true, true, true, true, true, true, true, true, true, true, true, true, true, true, true, true, true, true, true, false, false, false, false, false, false, false, false, false, false, false, false, false, false, false, false, false, false, false]) rfl (by kernel_rfl) (by kernel_rfl) (by kernel_rfl) (fun _ _ _ h => h) (by kernel_rfl) (fun w' hSw => by have qt := hSw.a.q; go_simp) (by assumption) rfl (by kernel_rfl) ?_
                simp only [List.set]
                refine hH_take (i := 21) (v := .int .i64 (H.length : Int)) (d := 87) (l2 := #[true, true, true, true, true, true, true, true, true, true, true, true, true, true, true, true, true, true, true, true, true, true, false, false, false, false, false, false, false, false, false, false, false, false, false, false, false, false, false, false]) rfl (by kernel_rfl) (by kernel_rfl) (by kernel_rfl) (fun _ _ _ h => h) (by kernel_rfl) (fun w' hSw => by go_simp) (by assumption) rfl (by kernel_rfl) ?_
                simp only [List.set]
                refine hH_take (i := 22) (v := .slice (some ⟨Ba, 0, none⟩) H.length (H.length + 1)) (d := 88) (l2 := #[true, true, true, true, true, true, true, true, true, true, true, true, true, true, true, true, true, true, true, true, true, true, true, false, false, false, false, false, false, false, false, false, false, false, false, false, false, false, false, false]) rfl (by kernel_rfl) (by kernel_rfl) (by kernel_rfl) (fun _ _ _ h => h) (by kernel_rfl) (fun w' hSw => by go_simp; (try (intro hh; omega))) (by assumption) rfl (by kernel_rfl) ?_
                simp only [List.set]
                refine hH_take (i := 23) (v := .agg #[.slice (some ⟨Ba, 0, none⟩) H.length (H.length + 1)]) (d := 89) (l2 := #[true, true, true, true, true, true, true, true, true, true, true, true, true, true, true, true, true, true, true, true, true, true, true, true, false, false, false, false, false, false, false, false, false, false, false, false, false, false, false, false]) rfl (by kernel_rfl) (by kernel_rfl) (by kernel_rfl) (fun _ _ _ h => h) (by kernel_rfl) (fun w' hSw => by go_simp) (by assumption) rfl (by kernel_rfl) ?_
                simp only [List.set]
                refine hH_take (i := 24) (v := .agg #[.slice A H.length cap]) (d := 90) (l2 := #[true, true, true, true, true, true, true, true, true, true, true, true, true, true, true, true, true, true, true, true, true, true, true, true, true, false, false, false, false, false, false, false, false, false, false, false, false, false, false, false]) rfl (by kernel_rfl) (by kernel_rfl) (by kernel_rfl) (fun _ _ _ h => h) (by kernel_rfl) (fun w' hSw => ex_load_at (h1_load hSw.k.k.h) rfl rfl) (by assumption) rfl (by kernel_rfl) ?_
                simp only [List.set]
                refine wpAnyH_ready (rs := [25]) (by kernel_rfl) (by simp) ?_
                refine (AllReadyH.cons rfl (fun K hK => ?_) AllReadyH.nil)
                go_simp
                go_at_call 23
                (with_reducible refine (cS2 _ _ _ _ hS.a.t hS.k.k.below).mono ?_)
                rintro e wz ⟨rfl, h9⟩
                have hS := hS.up h9
                clear h9
                refine hK.out _ _ hS (fun hHeld => ?_)
                clear hK K
                refine hH_take (i := 26) (v := .bool false) (d := 92) (l2 := #[true, true, true, true, true, true, true, true, true, true, true, true, true, true, true, true, true, true, true, true, true, true, true, true, true, true, true, false, false, false, false, false, false, false, false, false, false, false, false, false]) rfl (by kernel_rfl) (by kernel_rfl) (by kernel_rfl) (fun _ _ _ h => h) (by kernel_rfl) (fun w' hSw => by go_simp) (by assumption) rfl (by kernel_rfl) ?_
                simp only [List.set]
                refine hH_take (i := 27) (v := .bool false) (d := 93) (l2 := #[true, true, true, true, true, true, true, true, true, true, true, true, true, true, true, true, true, true, true, true, true, true, true, true, true, true, true, true, false, false, false, false, false, false, false, false, false, false, false, false]) rfl (by kernel_rfl) (by kernel_rfl) (by kernel_rfl) (fun _ _ _ h => h) (by kernel_rfl) (fun w' hSw => by go_simp) (by assumption) rfl (by kernel_rfl) ?_
                simp only [List.set]
                refine hH_take (i := 28) (v := .bool false) (d := 94) (l2 := #[true, true, true, true, true, true, true, true, true, true, true, true, true, true, true, true, true, true, true, true, true, true, true, true, true, true, true, true, true, false, false, false, false, false, false, false, false, false, false, false]) rfl (by kernel_rfl) (by kernel_rfl) (by kernel_rfl) (fun _ _ _ h => h) (by kernel_rfl) (fun w' hSw => by go_simp) (by assumption) rfl (by kernel_rfl) ?_
                simp only [List.set]
                refine hH_take (i := 29) (v := .pointer (some ⟨w7.heap.size, 0, none⟩)) (d := 95) (l2 := #[true, true, true, true, true, true, true, true, true, true, true, true, true, true, true, true, true, true, true, true, true, true, true, true, true, true, true, true, true, true, false, false, false, false, false, false, false, false, false, false]) rfl (by kernel_rfl) (by kernel_rfl) (by kernel_rfl) (fun _ _ _ h => h) (by kernel_rfl) (fun w' hSw => by go_simp) (by assumption) rfl (by kernel_rfl) ?_
                simp only [List.set]
                refine hH_take (i := 30) (v := .slice (some ⟨Ba, 0, none⟩) (H.length + 1) (H.length + 1)) (d := 96) (l2 := #[true, true, true, true, true, true, true, true, true, true, true, true, true, true, true, true, true, true, true, true, true, true, true, true, true, true, true, true, true, true, true, false, false, false, false, false, false, false, false, false]) rfl (by kernel_rfl) (by kernel_rfl) (by kernel_rfl) (fun _ _ _ h => h) (by kernel_rfl) (fun w' hSw => by have qt := hSw.a.q; go_simp) (by assumption) rfl (by kernel_rfl) ?_
                simp only [List.set]
                refine hH_take (i := 31) (v := .int .i64 (H.length : Int)) (d := 97) (l2 := #[true, true, true, true, true, true, true, true, true, true, true, true, true, true, true, true, true, true, true, true, true, true, true, true, true, true, true, true, true, true, true, true, false, false, false, false, false, false, false, false]) rfl (by kernel_rfl) (by kernel_rfl) (by kernel_rfl) (fun _ _ _ h => h) (by kernel_rfl) (fun w' hSw => by go_simp) (by assumption) rfl (by kernel_rfl) ?_
                simp only [List.set]
                refine hH_take (i := 32) (v := .slice (some ⟨Ba, H.length * 18, none⟩) 1 1) (d := 98) (l2 := #[true, true, true, true, true, true, true, true, true, true, true, true, true, true, true, true, true, true, true, true, true, true, true, true, true, true, true, true, true, true, true, true, true, false, false, false, false, false, false, false]) rfl (by kernel_rfl) (by kernel_rfl) (by kernel_rfl) (fun _ _ _ h => h) (by kernel_rfl) (fun w' hSw => by go_simp; (try (intro hh; omega))) (by assumption) rfl (by kernel_rfl) ?_
                simp only [List.set]
                refine hH_take (i := 33) (v := .agg #[.slice (some ⟨Ba, H.length * 18, none⟩) 1 1]) (d := 99) (l2 := #[true, true, true, true, true, true, true, true, true, true, true, true, true, true, true, true, true, true, true, true, true, true, true, true, true, true, true, true, true, true, true, true, true, true, false, false, false, false, false, false]) rfl (by kernel_rfl) (by kernel_rfl) (by kernel_rfl) (fun _ _ _ h => h) (by kernel_rfl) (fun w' hSw => by go_simp) (by assumption) rfl (by kernel_rfl) ?_
                simp only [List.set]
                refine hH_take (i := 34) (v := .agg (obA o)) (d := 100) (l2 := #[true, true, true, true, true, true, true, true, true, true, true, true, true, true, true, true, true, true, true, true, true, true, true, true, true, true, true, true, true, true, true, true, true, true, true, false, false, false, false, false]) rfl (by kernel_rfl) (by kernel_rfl) (by kernel_rfl) (fun _ _ _ h => h) (by kernel_rfl) (fun w' hSw => ex_load_at (o_loadAt hSw.k.k.o) rfl rfl) (by assumption) rfl (by kernel_rfl) ?_
                simp only [List.set]
                refine wpAnyH_ready (rs := [35]) (by kernel_rfl) (by simp) ?_
                refine (AllReadyH.cons rfl (fun K hK => ?_) AllReadyH.nil)
                refine r_val (by kernel_rfl) (eb_o rfl rfl) rfl ?_
                simp only [List.set]
                have hbo := heap_alloc_new wz (.cells (obA o) 34)
                have hS := hS.up (vzero wz (.cells (obA o) 34))
                refine hK.out _ _ hS (fun hHeld => ?_)
                clear hK K
                refine hH_take (i := 36) (v := .agg #[.slice (some ⟨wz.heap.size, 0, none⟩) 1 1]) (d := 102) (l2 := #[true, true, true, true, true, true, true, true, true, true, true, true, true, true, true, true, true, true, true, true, true, true, true, true, true, true, true, true, true, true, true, true, true, true, true, true, true, false, false, false]) rfl (by kernel_rfl) (by kernel_rfl) (by kernel_rfl) (fun _ _ _ h => h) (by kernel_rfl) (fun w' hSw => by go_simp) (by assumption) rfl (by kernel_rfl) ?_
                simp only [List.set]
                refine wpAnyH_ready (rs := [37]) (by kernel_rfl) (by simp) ?_
                refine (AllReadyH.cons rfl (fun K hK => ?_) AllReadyH.nil)
                go_simp
                go_at_call 23
                (with_reducible refine (cS3 _ _ _ _ _ hS.a.t hbo hS.k.k.below).mono ?_)
                rintro e wz ⟨rfl, h9⟩
                have hS := hS.up h9
                clear h9
                refine hK.out _ _ hS (fun hHeld => ?_)
                clear hK K
                refine hH_take (i := 38) (v := .bool false) (d := 104) (l2 := #[true, true, true, true, true, true, true, true, true, true, true, true, true, true, true, true, true, true, true, true, true, true, true, true, true, true, true, true, true, true, true, true, true, true, true, true, true, true, true, false]) rfl (by kernel_rfl) (by kernel_rfl) (by kernel_rfl) (fun _ _ _ h => h) (by kernel_rfl) (fun w' hSw => by go_simp) (by assumption) rfl (by kernel_rfl) ?_
                simp only [List.set]
                refine hH_take (i := 39) (v := .bool false) (d := 105) (l2 := #[true, true, true, true, true, true, true, true, true, true, true, true, true, true, true, true, true, true, true, true, true, true, true, true, true, true, true, true, true, true, true, true, true, true, true, true, true, true, true, true]) rfl (by kernel_rfl) (by kernel_rfl) (by kernel_rfl) (fun _ _ _ h => h) (by kernel_rfl) (fun w' hSw => by go_simp) (by assumption) rfl (by kernel_rfl) ?_
                simp only [List.set]
                refine wpAnyH_done (by kernel_rfl) ?_ _
                go_wp2_with (fail)
                go_meet
                case rel => exact ⟨rfl, Lib.hid hS⟩
              case rest =>
                obtain ⟨rfl, HK3⟩ := hcut
                have H2 := Lib.hid HK3.out.k
                have hq := H2.out.k.q
                have hqt := H2.out.t.q
                go_wp2_with (first
                  | ((with_reducible refine ob_load ?_ rfl rfl H2.out.k.o ?_); (rfl))
                  | ((with_reducible refine h1_ld ?_ rfl rfl H2.out.k.h ?_); (rfl))
                  | (go_at_call 14; (with_reducible refine (cP2 _ H2.out.k.below).mono ?_); rintro e w8 ⟨Bp, Mp, rfl, hT, h9⟩; have H4 : Hid (K4 w A H.length cap o H w4.heap.size Bt T N w8.heap.size Bp Mp (w8.alloc (.cells #[.slice (some ⟨Bp, 0, none⟩) H.length H.length] 24))) := Lib.hid ⟨H2.out.up (vb h9 (vzero _ _)), hv_box ((hT.mono H2.out.k.below.size))⟩; have hq := H4.out.k.k.q; have hqp := H4.out.p.q; clear h9 hT)
                  | ((with_reducible refine h1_ld ?_ rfl rfl H4.out.p.b ?_); (rfl))
                  | (go_at_call 15; (with_reducible refine (cO _ _ _ _ H4.out.p.t H4.out.k.k.below).mono ?_); rintro e w10 ⟨gq, q, hqb, rfl, hy, h9⟩; have H4 := Lib.hid (H4.out.up h9); have hq := H4.out.k.k.q; have hqp := H4.out.p.q; have HY := Lib.hid hy; have HQB := Lib.hid hqb; clear hqb hy h9)
                  | ((with_reducible refine t_store rfl rfl rfl rfl (heap_alloc_new w10 _) (hi1 _) ?_ (obA_one _) (vzero w10 _) (Nat.le_refl _) ?_); (rfl); intro W11 hb11 hW11 _ _; have H5 : Hid (K5 w A H.length cap o H w4.heap.size Bt T N w8.heap.size Bp Mp w10.heap.size gq q W11) := Lib.hid ⟨H4.out.up hb11, hW11, vblkn hb11 HY.out⟩; have hq := H5.out.k.k.k.q; have hqp := H5.out.k.p.q; clear hb11 hW11))
                go_cut [18, 19] from 106 (fun qa ra wx => ∃ gb Bb N2 Mb, qa = .pointer (some ⟨gb, 0, none⟩) ∧ ra = .int .i64 0 ∧ Hid ((N2.map Ob.bare = H.map Ob.bare ∧ ∀ o ∈ N2, o.props.length ≤ 100000) ∧ K6 w A H.length cap o H w4.heap.size Bt T N w8.heap.size Bp Mp w10.heap.size gq q N2 gb Bb Mb wx))
                case first =>
                  have hkT : k < T.length := by rw [H5.out.k.k.t.t.len]; exact hkl
                  have hS : K5 w A H.length cap o H w4.heap.size Bt T N w8.heap.size Bp Mp w10.heap.size gq q W11.drew := H5.out.up (Below.refl _ _).drew
                  refine wp_region_held_drew (S := K5 w A H.length cap o H w4.heap.size Bt T N w8.heap.size Bp Mp w10.heap.size gq q) (by kernel_rfl) hS (fun hHeld => ?_)
                  generalize W11.drew = W0 at *
                  refine hH_take (i := 0) (v := .agg #[.slice (some ⟨Bp, 0, none⟩) H.length H.length]) (d := 122) (l2 := #[true, false, false, false, false, false, false, false, false, false, false, false, false, false]) rfl (by kernel_rfl) (by kernel_rfl) (by kernel_rfl) (fun _ _ _ h => h) (by kernel_rfl) (fun w' hSw => ex_load_at (h1_load hSw.k.p.b) rfl rfl) (by assumption) rfl (by kernel_rfl) ?_
                  simp only [List.set]
                  refine hH_take (i := 1) (v := .int .i64 (k : Int)) (d := 123) (l2 := #[true, true, false, false, false, false, false, false, false, false, false, false, false, false]) rfl (by kernel_rfl) (by kernel_rfl) (by kernel_rfl) (fun _ _ _ h => h) (by kernel_rfl) (fun w' hSw => by go_simp) (by assumption) rfl (by kernel_rfl) ?_
                  simp only [List.set]
                  refine hH_take (i := 2) (v := .pointer (some ⟨w4.heap.size, 0, none⟩)) (d := 124) (l2 := #[true, true, true, false, false, false, false, false, false, false, false, false, false, false]) rfl (by kernel_rfl) (by kernel_rfl) (by kernel_rfl) (fun _ _ _ h => h) (by kernel_rfl) (fun w' hSw => by go_simp) (by assumption) rfl (by kernel_rfl) ?_
                  simp only [List.set]
                  refine hH_take (i := 3) (v := .slice (some ⟨Bt, 0, none⟩) H.length H.length) (d := 125) (l2 := #[true, true, true, true, false, false, false, false, false, false, false, false, false, false]) rfl (by kernel_rfl) (by kernel_rfl) (by kernel_rfl) (fun _ _ _ h => h) (by kernel_rfl) (fun w' hSw => by have qt := hSw.k.k.t.q; go_simp) (by assumption) rfl (by kernel_rfl) ?_
                  simp only [List.set]
                  refine hH_take (i := 4) (v := .int .i64 (k : Int)) (d := 126) (l2 := #[true, true, true, true, true, false, false, false, false, false, false, false, false, false]) rfl (by kernel_rfl) (by kernel_rfl) (by kernel_rfl) (fun _ _ _ h => h) (by kernel_rfl) (fun w' hSw => by go_simp) (by assumption) rfl (by kernel_rfl) ?_
                  simp only [List.set]
                  refine hH_take (i := 5) (v := .pointer (some ⟨Bt, k * 18, none⟩)) (d := 127) (l2 := #[true, true, true, true, true, true, false, false, false, false, false, false, false, false]) rfl (by kernel_rfl) (by kernel_rfl) (by kernel_rfl) (fun _ _ _ h => h) (by kernel_rfl) (fun w' hSw => by go_simp) (by assumption) rfl (by kernel_rfl) ?_
                  simp only [List.set]
                  refine hH_take (i := 6) (v := .agg (obA T[k])) (d := 128) (l2 := #[true, true, true, true, true, true, true, false, false, false, false, false, false, false]) rfl (by kernel_rfl) (by kernel_rfl) (by kernel_rfl) (fun _ _ _ h => h) (by kernel_rfl) (fun w' hSw => ex_load_at (t_loadAt hSw.k.k.t.t.b hkT) rfl rfl) (by assumption) rfl (by kernel_rfl) ?_
                  simp only [List.set]
                  refine wpAnyH_ready (rs := [7, 11]) (by kernel_rfl) (by simp) ?_
                  refine (AllReadyH.cons rfl (fun K hK => ?_) (AllReadyH.cons rfl (fun K hK => ?_) AllReadyH.nil))
                  · skip
                    go_simp
                    go_at_call 14
                    (with_reducible refine (cP3 _ _ _ _ _ _ _ hS.k.p.t hS.k.k.t.t hkT hS.k.k.k.below).mono ?_)
                    rintro e w12 ⟨B2, N2, M2, hN2, rfl, hT2, h9⟩
                    have hT3 := hT2.mono hS.k.k.k.below.size
                    have hS := hS.up h9
                    refine hK.out _ _ hS (fun hHeld => ?_)
                    clear hK K
                    refine hH_take (i := 8) (v := .tuple #[.agg #[.slice (some ⟨B2, 0, none⟩) H.length H.length], .int .i64 0]) (d := 121) (l2 := #[true, true, true, true, true, true, true, true, true, false, false, false, false, false]) rfl (by kernel_rfl) (by kernel_rfl) (by kernel_rfl) (fun _ _ _ h => h) (by kernel_rfl) (fun w' hSw => by go_simp) (by assumption) rfl (by kernel_rfl) ?_
                    simp only [List.set]
                    refine hH_take (i := 9) (v := .agg #[.slice (some ⟨B2, 0, none⟩) H.length H.length]) (d := 130) (l2 := #[true, true, true, true, true, true, true, true, true, true, false, false, false, false]) rfl (by kernel_rfl) (by kernel_rfl) (by kernel_rfl) (fun _ _ _ h => h) (by kernel_rfl) (fun w' hSw => by go_simp) (by assumption) rfl (by kernel_rfl) ?_
                    simp only [List.set]
                    refine hH_take (i := 10) (v := .int .i64 0) (d := 131) (l2 := #[true, true, true, true, true, true, true, true, true, true, true, false, false, false]) rfl (by kernel_rfl) (by kernel_rfl) (by kernel_rfl) (fun _ _ _ h => h) (by kernel_rfl) (fun w' hSw => by go_simp) (by assumption) rfl (by kernel_rfl) ?_
                    simp only [List.set]
                    refine wpAnyH_ready (rs := [11]) (by kernel_rfl) (by simp) ?_
                    refine (AllReadyH.cons rfl (fun K hK => ?_) AllReadyH.nil)
                    refine r_val (by kernel_rfl) (ea_h rfl) rfl ?_
                    simp only [List.set]
                    have h18 := heap_alloc_new w12 (.cells #[.slice none 0 0] 24)
                    have hS2 := hS.up (vzero w12 (.cells #[.slice none 0 0] 24))
                    refine hK.out _ _ hS2 (fun hHeld => ?_)
                    clear hK K
                    refine wpAnyH_ready (rs := [12]) (by kernel_rfl) (by simp) ?_
                    refine (AllReadyH.cons rfl (fun K hK => ?_) AllReadyH.nil)
                    refine r_store (by kernel_rfl) rfl rfl rfl h18 (hiH _) rfl (hcH _ rfl) rfl ?_
                    have hbs : Below w12.heap.size w12 ((w12.alloc (.cells #[.slice none 0 0] 24)).setRow w12.heap.size #[.slice (some ⟨B2, 0, none⟩) H.length H.length]) := below_row (vzero w12 (.cells #[.slice none 0 0] 24)) (Nat.le_refl _) _
                    have hS3 := hS.up hbs
                    have h18b : ((w12.alloc (.cells #[.slice none 0 0] 24)).setRow w12.heap.size #[.slice (some ⟨B2, 0, none⟩) H.length H.length]).heap[w12.heap.size]? = some (.cells #[.slice (some ⟨B2, 0, none⟩) H.length H.length] 24 (0, 0)) := setRow_heap _ _ _ _ _ _ h18
                    have hT4 := hT3.up hbs
                    refine hK.out _ _ hS3 (fun hHeld => ?_)
                    clear hK K
                    refine hH_take (i := 13) (v := .int .i64 0) (d := 19) (l2 := #[true, true, true, true, true, true, true, true, true, true, true, true, true, true]) rfl (by kernel_rfl) (by kernel_rfl) (by kernel_rfl) (fun _ _ _ h => h) (by kernel_rfl) (fun w' hSw => by go_simp) (by assumption) rfl (by kernel_rfl) ?_
                    simp only [List.set]
                    refine wpAnyH_done (by kernel_rfl) ?_ _
                    go_wp2_with (fail)
                    go_meet
                    case rel => exact ⟨_, B2, N2, M2, rfl, rfl, Lib.hid ⟨hN2, hS3, ⟨hT4, h18b⟩⟩⟩
                  · skip
                    refine r_val (by kernel_rfl) (ea_h rfl) rfl ?_
                    simp only [List.set]
                    have h18 := heap_alloc_new W0 (.cells #[.slice none 0 0] 24)
                    have hSa := hS.up (vzero W0 (.cells #[.slice none 0 0] 24))
                    refine hK.out _ _ hSa (fun hHeld => ?_)
                    clear hK K
                    refine wpAnyH_ready (rs := [7]) (by kernel_rfl) (by simp) ?_
                    refine (AllReadyH.cons rfl (fun K hK => ?_) AllReadyH.nil)
                    go_simp
                    go_at_call 14
                    (with_reducible refine (cP3 _ _ _ _ _ _ _ hSa.k.p.t hSa.k.k.t.t hkT hSa.k.k.k.below).mono ?_)
                    rintro e w12 ⟨B2, N2, M2, hN2, rfl, hT2, h9⟩
                    have hT3 := hT2.mono hSa.k.k.k.below.size
                    have hle := hT2.le
                    have hSb := hSa.up h9
                    have h18b := vblkn h9 h18
                    refine hK.out _ _ hSb (fun hHeld => ?_)
                    clear hK K
                    refine hH_take (i := 8) (v := .tuple #[.agg #[.slice (some ⟨B2, 0, none⟩) H.length H.length], .int .i64 0]) (d := 121) (l2 := #[true, true, true, true, true, true, true, true, true, false, false, true, false, false]) rfl (by kernel_rfl) (by kernel_rfl) (by kernel_rfl) (fun _ _ _ h => h) (by kernel_rfl) (fun w' hSw => by go_simp) (by assumption) rfl (by kernel_rfl) ?_
                    simp only [List.set]
                    refine hH_take (i := 9) (v := .agg #[.slice (some ⟨B2, 0, none⟩) H.length H.length]) (d := 130) (l2 := #[true, true, true, true, true, true, true, true, true, true, false, true, false, false]) rfl (by kernel_rfl) (by kernel_rfl) (by kernel_rfl) (fun _ _ _ h => h) (by kernel_rfl) (fun w' hSw => by go_simp) (by assumption) rfl (by kernel_rfl) ?_
                    simp only [List.set]
                    refine hH_take (i := 10) (v := .int .i64 0) (d := 131) (l2 := #[true, true, true, true, true, true, true, true, true, true, true, true, false, false]) rfl (by kernel_rfl) (by kernel_rfl) (by kernel_rfl) (fun _ _ _ h => h) (by kernel_rfl) (fun w' hSw => by go_simp) (by assumption) rfl (by kernel_rfl) ?_
                    simp only [List.set]
                    refine wpAnyH_ready (rs := [12]) (by kernel_rfl) (by simp) ?_
                    refine (AllReadyH.cons rfl (fun K hK => ?_) AllReadyH.nil)
                    refine r_store (by kernel_rfl) rfl rfl rfl h18b (hiH _) rfl (hcH _ rfl) rfl ?_
                    have hbs : Below W0.heap.size W0 (w12.setRow W0.heap.size #[.slice (some ⟨B2, 0, none⟩) H.length H.length]) := below_row (vafter h9) (Nat.le_refl _) _
                    have hS3 := hS.up hbs
                    have h18c : (w12.setRow W0.heap.size #[.slice (some ⟨B2, 0, none⟩) H.length H.length]).heap[W0.heap.size]? = some (.cells #[.slice (some ⟨B2, 0, none⟩) H.length H.length] 24 (0, 0)) := setRow_heap _ _ _ _ _ _ h18b
                    have hT4 := hT3.other (W' := w12.setRow W0.heap.size #[.slice (some ⟨B2, 0, none⟩) H.length H.length]) (fun j hj => setRow_other w12 _ j _ hj) (by rw [World.size_alloc] at hle; omega)
                    refine hK.out _ _ hS3 (fun hHeld => ?_)
                    clear hK K
                    refine hH_take (i := 13) (v := .int .i64 0) (d := 19) (l2 := #[true, true, true, true, true, true, true, true, true, true, true, true, true, true]) rfl (by kernel_rfl) (by kernel_rfl) (by kernel_rfl) (fun _ _ _ h => h) (by kernel_rfl) (fun w' hSw => by go_simp) (by assumption) rfl (by kernel_rfl) ?_
                    simp only [List.set]
                    refine wpAnyH_done (by kernel_rfl) ?_ _
                    go_wp2_with (fail)
                    go_meet
                    case rel => exact ⟨_, B2, N2, M2, rfl, rfl, Lib.hid ⟨hN2, hS3, ⟨hT4, h18c⟩⟩⟩
                case rest =>
                  obtain ⟨gb, Bb, N2, Mb, rfl, rfl, HK6⟩ := hcut
                  have HN2 := Lib.hid HK6.out.1
                  have H6 := Lib.hid HK6.out.2
                  have hq := H6.out.k.k.k.k.q
                  have hqp := H6.out.k.k.p.q
                  go_wp2_with (first
                    | ((with_reducible refine ob_load ?_ rfl rfl H6.out.k.x ?_); (rfl))
                    | ((with_reducible refine ob_load ?_ rfl rfl H6.out.k.k.k.k.o ?_); (rfl))
                    | ((with_reducible refine o_slice2 (ob := q.at gq) ?_ rfl rfl ?_); (rfl); intro W13 hb13 hW13; have H6 := Lib.hid (H6.out.up hb13); have HB1 := Lib.hid hW13; clear hb13 hW13)
                    | ((with_reducible refine o_slice2 (ob := o) ?_ rfl rfl ?_); (rfl); intro W14 hb14 hW14; have H6 := Lib.hid (H6.out.up hb14); have HB1 := Lib.hid (vblkn hb14 HB1.out); have HB2 := Lib.hid hW14; clear hb14 hW14)
                    | (go_at_call 23; (with_reducible refine (cS4 _ _ _ _ _ HB1.out HB2.out HQB.out.1 HQB.out.2 H6.out.k.y H6.out.k.k.k.k.below).mono ?_); rintro e w15 ⟨rfl, h9⟩; have H6 := Lib.hid (H6.out.up h9); have hq := H6.out.k.k.k.k.q; have hqp := H6.out.k.k.p.q; clear h9)
                    | ((with_reducible refine h1_ld ?_ rfl rfl H6.out.b.b ?_); (rfl))
                    | ((with_reducible refine h1_ld ?_ rfl rfl H6.out.k.k.k.k.h ?_); (rfl))
                    | (go_at_call 23; (with_reducible refine (cS5 _ _ _ _ _ H6.out.b.t HN2.out.1 HN2.out.2 H6.out.k.k.k.k.below).mono ?_); rintro e w16 ⟨rfl, h9⟩; have H6 := Lib.hid (H6.out.up h9); have hq := H6.out.k.k.k.k.q; have hqp := H6.out.k.k.p.q; clear h9)
                    | (go_at_call 24; (with_reducible refine (cR _ H6.out.k.k.k.k.below).mono ?_); rintro e w17 ⟨rfl, h9⟩; have H6 := Lib.hid (H6.out.up h9); clear h9))
                  go_ret
                  exact ⟨rfl, H6.out.k.k.k.k.below⟩

end Go.Proofs.YthnkllhfmjbbmaaGreatDoor.S
