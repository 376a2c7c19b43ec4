/-
  HeapMore: from more objects one comes to all that one comes to from fewer.
-/
import Derived.Test.YthnkllhfmjbbmaaGreatDoorHM39
import Derived.Test.YthnkllhfmjbbmaaGreatDoorHM44
import Derived.Test.YthnkllhfmjbbmaaGreatDoorHM42
namespace Go.Proofs.YthnkllhfmjbbmaaGreatDoor.S
open Go.RowKit Go.Lib Fl
open Classical

theorem irow_one (W : World) (n : Int) : IRow (W.alloc (.cells #[.int .i64 n] 3)) (some ⟨W.heap.size, 0, none⟩) [n] := fun _ => by
  refine ⟨_, rfl, by simp, fun i hi => ?_⟩
  obtain rfl : i = 0 := by simp at hi; omega
  exact (vcells (heap_alloc_new W _) 0).trans rfl
theorem irow_two (W : World) (n m : Int) : IRow (W.alloc (.cells #[.int .i64 n, .int .i64 m] 3)) (some ⟨W.heap.size, 0, none⟩) [n, m] := fun _ => by
  refine ⟨_, rfl, by simp, fun i hi => ?_⟩
  have h2 : i < 2 := hi
  rcases (show i = 0 ∨ i = 1 by omega) with rfl | rfl
  · exact (vcells (heap_alloc_new W _) 0).trans rfl
  · exact (vcells (heap_alloc_new W _) 1).trans rfl
theorem own_cell {W : World} {base g cap : Nat} {L : List Nat} (h : W.ownsRow base 3 1 (.slice (some ⟨g, 0, none⟩) L.length cap) L.length (wkv L)) : ∀ i (hi : i < L.length), W.cell? ⟨g, i, none⟩ = some (.int .i64 (L[i] : Int)) := fun i hi => by
  have := h.cells (g := g) rfl i (.int .i64 (L[i] : Int)) (by simp [wkv, upZ, hi])
  rwa [show (⟨g, 0, none⟩ : Addr).add i = ⟨g, i, none⟩ by unfold Addr.add; split <;> simp_all] at this
theorem own_upi {W W' : World} {base : Nat} {e : TypeId} {n : Nat} {v : Value} {xs : List Value} (h : W.ownsRow base e 1 v n xs) (hb : Below W.heap.size W W') : W'.ownsRow base e 1 v n xs :=
  h.kept (bgrown hb) (by rcases h.2 with ⟨e, _⟩ | ⟨g, cp, cur, e, _⟩; exact .inl (by rw [e]; rfl); exact .inr (by rw [e]; simp [Value.ownBlock]))
def E0 (k : Int) (w : World) (e : Ending) (w' : World) : Prop := e = .returned (.tuple #[.slice none 0 0, .int .i64 k]) ∧ Below w.heap.size w w'
def R0 (L : List Nat) (w : World) (e : Ending) (w' : World) : Prop := ∃ g cap, e = .returned (.tuple #[.slice (some ⟨g, 0, none⟩) L.length cap, .int .i64 0]) ∧ (w'.ownsRow w.heap.size 3 1 (.slice (some ⟨g, 0, none⟩) L.length cap) L.length (wkv L) ∧ Below w.heap.size w w')
theorem reach_err {H : List Ob} {Z : List Int} {w w' : World} {e : Ending} (h : ReachTo H Z w e w') (hz : reachE H Z ≠ 0) : E0 (reachE H Z) w e w' := by
  obtain ⟨hb, ⟨_, he⟩ | ⟨h0, _⟩⟩ := h
  · exact ⟨he, hb⟩
  · exact absurd h0 hz
theorem reach_fine {H : List Ob} {Z : List Int} {w w' : World} {e : Ending} (h : ReachTo H Z w e w') (hz : reachE H Z = 0) : R0 (reachL H (nats Z)) w e w' := by
  obtain ⟨hb, ⟨h0, _⟩ | ⟨_, g, cap, he, ho⟩⟩ := h
  · exact absurd hz h0
  · exact ⟨g, cap, he, ho, hb⟩
theorem reach_less {H : List Ob} {n m : Int} (h : reachE H [n, m] = 0) : reachE H [n] = 0 := by
  obtain ⟨h1, h2, h3⟩ := reach_zero h
  exact reach_ok (chk_ok h1) (by simp) fun z hz => h3 z (by simp at hz; simp [hz])
/-- the loops' world -/
structure Mo (w : World) (g1 g2 gp : Nat) (L M : List Nat) (p : Vq) (W : World) : Prop where
  below : Below w.heap.size w W
  l : ∀ i (h : i < L.length), W.cell? ⟨g1, i, none⟩ = some (.int .i64 (L[i] : Int))
  m : ∀ i (h : i < M.length), W.cell? ⟨g2, i, none⟩ = some (.int .i64 (M[i] : Int))
  p : W.heap[gp]? = some (.cells #[.int .u8 p.k, .float .f64 p.x, .string p.s, .int .i64 p.r] 31 (0, 0))
theorem Mo.drew {w : World} {g1 g2 gp : Nat} {L M : List Nat} {p : Vq} {W : World} (h : Mo w g1 g2 gp L M p W) : Mo w g1 g2 gp L M p W.drew := ⟨h.below.trans ((Below.refl _ _).drew), h.l, h.m, h.p⟩
theorem Mo.c {w : World} {g1 g2 gp : Nat} {L M : List Nat} {p : Vq} {W : World} (h : Mo w g1 g2 gp L M p W) : W.cell? ⟨gp, 3, none⟩ = some (.int .i64 p.r) := (vcells h.p 3).trans rfl
def anyR (L : List Nat) (i : Nat) (r : Int) : Bool := (L.take i).any fun x => ((x : Int) == r)
theorem any_succ (L : List Nat) (i : Nat) (h : i < L.length) (r : Int) : anyR L (i + 1) r = (anyR L i r || ((L[i] : Int) == r)) := by
  unfold anyR
  rw [List.take_add_one, List.getElem?_eq_getElem h, List.any_append]
  simp
theorem any_zero (L : List Nat) (r : Int) : anyR L 0 r = false := rfl
theorem any_all {L : List Nat} {r : Int} (h : ∃ x ∈ L, (x : Int) = r) : anyR L L.length r = true := by
  unfold anyR
  rw [List.take_length, List.any_eq_true]
  obtain ⟨x, h1, h2⟩ := h
  exact ⟨x, h1, by rw [h2]; simp⟩
theorem nats_one (n : Int) : nats [n] = [n.toNat] := rfl
/-- what HeapMore asks -/
theorem more_in {H : List Ob} {n m : Int} (h : reachE H [n, m] = 0) : ∀ x ∈ reachL H (nats [n]), x ∈ reachL H (nats [n, m]) := fun x hx => by
  obtain ⟨h1, _, h3⟩ := reach_zero h
  obtain ⟨h4, _, h5⟩ := reach_zero (reach_less h)
  rw [reachL_mem h1 (nats_lt h3)]
  refine RH.more (fun y hy => .start ?_) ((reachL_mem h1 (nats_lt h5) x).1 hx)
  simp only [nats, List.map_cons, List.map_nil, List.mem_singleton] at hy
  simp [nats, hy]
theorem proto_in {H : List Ob} {k : Nat} (hm : mayH H = true) (hk : k < H.length) (h1 : (H[k].proto.k == 1) = false) : ∃ x ∈ reachL H [k], (x : Int) = H[k].proto.r := by
  have hb := (mayH_iff.1 hm).2.1 k hk
  have hh := may_holds hb (v := H[k].proto) (vm_p _)
  unfold mayB at hb
  simp only [Bool.and_eq_true, h1, Bool.or_false] at hb
  have ho := hb.2.1
  obtain ⟨r, hr⟩ := Int.eq_ofNat_of_zero_le (holds_ref hh ho)
  refine ⟨r, ?_, hr.symm⟩
  rw [reachL_mem hm (fun x hx => by simp at hx; omega)]
  have := RH.ref (F := [k]) (.start (by simp)) (List.getElem?_eq_getElem hk) (vm_p _) ho
  rw [hr, Int.toNat_natCast] at this
  exact this
set_option maxHeartbeats 8000000 in
set_option maxRecDepth 1000000 in
theorem HeapMore_walk (A : Option Addr) (H : List Ob) (cap : Nat) (n m : Int) (w : World) (hH : HIn0 w A H cap) (htab : TabHere w) : Calls Tryz.prog 5 #[.agg #[.slice A H.length cap], .int .i64 n, .int .i64 m] w fun e w' => e = .returned (.bool true) ∧ Below w.heap.size w w' := by
  have HQ := Lib.hid (Aq.mk (A := A) (n := H.length) (cap := cap) (vzero w _) (heap_alloc_new w _))
  have hq := HQ.out.q
  have cA := fun W (hb : Below w.heap.size w W) => hpalive_any W (tab_up htab hb)
  by_cases hm : (60 < H.length ∧ H.length ≤ 4096) ∨ 5000 < H.length
  · have cL := fun W => large_many A H.length cap W hm
    clear hH htab hm
    go_enter Tryz.func5, Tryz.ntmps5
    go_wp2_with (first
      | (go_at_call 19; (with_reducible refine (cA _ HQ.out.below).mono ?_); rintro e w1 ⟨rfl, h9⟩; have HQ := Lib.hid (HQ.out.up h9); have hq := HQ.out.q; clear h9)
      | (go_at_call 21; (with_reducible refine (cL _).mono ?_); rintro e w2 ⟨rfl, h9⟩; have HQ := Lib.hid (HQ.out.up h9); have hq := HQ.out.q; clear h9))
    go_ret
    exact ⟨rfl, HQ.out.below⟩
  · have cL := fun W (hb : Below w.heap.size w W) => large_few A H cap W (hrow_up hH.row hb) hm
    cases hl : largeB H with
    | true =>
      rw [hl] at cL
      clear hH htab hm hl
      go_enter Tryz.func5, Tryz.ntmps5
      go_wp2_with (first
        | (go_at_call 19; (with_reducible refine (cA _ HQ.out.below).mono ?_); rintro e w1 ⟨rfl, h9⟩; have HQ := Lib.hid (HQ.out.up h9); have hq := HQ.out.q; clear h9)
        | (go_at_call 21; (with_reducible refine (cL _ HQ.out.below).mono ?_); rintro e w2 ⟨rfl, h9⟩; have HQ := Lib.hid (HQ.out.up h9); have hq := HQ.out.q; clear h9))
      go_ret
      exact ⟨rfl, HQ.out.below⟩
    | false =>
      rw [hl] at cL
      have hI := hH.few (by omega) hl
      have hR1 : ∀ W, Below w.heap.size w W → Calls Tryz.prog 16 #[.agg #[.slice A H.length cap], .slice (some ⟨W.heap.size, 0, none⟩) 1 1] (W.alloc (.cells #[.int .i64 n] 3)) (ReachTo H [n] (W.alloc (.cells #[.int .i64 n] 3))) := fun W hb => Reach_h A (some ⟨W.heap.size, 0, none⟩) H [n] cap 1 (W.alloc (.cells #[.int .i64 n] 3)) (hI.up (vb hb (vzero _ _))) (irow_one W n) (by simp) (by simp) (tab_up htab (vb hb (vzero _ _)))
      have hR2 : ∀ W, Below w.heap.size w W → Calls Tryz.prog 16 #[.agg #[.slice A H.length cap], .slice (some ⟨W.heap.size, 0, none⟩) 2 2] (W.alloc (.cells #[.int .i64 n, .int .i64 m] 3)) (ReachTo H [n, m] (W.alloc (.cells #[.int .i64 n, .int .i64 m] 3))) := fun W hb => Reach_h A (some ⟨W.heap.size, 0, none⟩) H [n, m] cap 2 (W.alloc (.cells #[.int .i64 n, .int .i64 m] 3)) (hI.up (vb hb (vzero _ _))) (irow_two W n m) (by simp) (by simp) (tab_up htab (vb hb (vzero _ _)))
      have HI := Lib.hid hI
      clear hH htab hm hl hI
      cases h2 : reachE H [n, m] == 0 with
      | false =>
        have h2n : reachE H [n, m] ≠ 0 := by rw [← beq_eq_false_iff_ne]; exact h2
        have h2b : (reachE H [n, m] != 0) = true := by unfold bne; rw [h2]; rfl
        have cR2 := fun W hb => (hR2 W hb).mono fun e w' h => reach_err h h2n
        clear hR2 h2n
        unfold E0 at cR2
        generalize reachE H [n, m] = E2 at *
        cases h1 : reachE H [n] == 0 with
        | false =>
          have h1n : reachE H [n] ≠ 0 := by rw [← beq_eq_false_iff_ne]; exact h1
          have h1b : (reachE H [n] != 0) = true := by unfold bne; rw [h1]; rfl
          have cR1 := fun W hb => (hR1 W hb).mono fun e w' h => reach_err h h1n
          clear hR1 h1n
          unfold E0 at cR1
          generalize reachE H [n] = E1 at *
          go_enter Tryz.func5, Tryz.ntmps5
          go_wp2_with (first
            | (go_at_call 19; (with_reducible refine (cA _ HQ.out.below).mono ?_); rintro e w1 ⟨rfl, h9⟩; have HQ := Lib.hid (HQ.out.up h9); have hq := HQ.out.q; clear h9)
            | (go_at_call 21; (with_reducible refine (cL _ HQ.out.below).mono ?_); rintro e w2 ⟨rfl, h9⟩; have HQ := Lib.hid (HQ.out.up h9); have hq := HQ.out.q; clear h9)
            | (go_at_call 16; (with_reducible refine (cR1 _ HQ.out.below).mono ?_); rintro e w3 ⟨rfl, h9⟩; have HQ := Lib.hid (HQ.out.up (vb (vzero _ _) h9)); have hq := HQ.out.q; clear h9)
            | (go_at_call 16; (with_reducible refine (cR2 _ HQ.out.below).mono ?_); rintro e w4 ⟨rfl, h9⟩; have HQ := Lib.hid (HQ.out.up (vb (vzero _ _) h9)); have hq := HQ.out.q; clear h9))
          go_ret
          exact ⟨rfl, HQ.out.below⟩
        | true =>
          have h1n : reachE H [n] = 0 := by rw [← beq_iff_eq]; exact h1
          have cR1 := fun W hb => (hR1 W hb).mono fun e w' h => reach_fine h h1n
          clear hR1 h1n
          unfold R0 at cR1
          go_enter Tryz.func5, Tryz.ntmps5
          go_wp2_with (first
            | (go_at_call 19; (with_reducible refine (cA _ HQ.out.below).mono ?_); rintro e w1 ⟨rfl, h9⟩; have HQ := Lib.hid (HQ.out.up h9); have hq := HQ.out.q; clear h9)
            | (go_at_call 21; (with_reducible refine (cL _ HQ.out.below).mono ?_); rintro e w2 ⟨rfl, h9⟩; have HQ := Lib.hid (HQ.out.up h9); have hq := HQ.out.q; clear h9)
            | (go_at_call 16; (with_reducible refine (cR1 _ HQ.out.below).mono ?_); rintro e w3 ⟨g1, c1, rfl, _, h9⟩; have HQ := Lib.hid (HQ.out.up (vb (vzero _ _) h9)); have hq := HQ.out.q; clear h9)
            | (go_at_call 16; (with_reducible refine (cR2 _ HQ.out.below).mono ?_); rintro e w4 ⟨rfl, h9⟩; have HQ := Lib.hid (HQ.out.up (vb (vzero _ _) h9)); have hq := HQ.out.q; clear h9))
          all_goals
            go_ret
            exact ⟨rfl, HQ.out.below⟩
      | true =>
        have h2n : reachE H [n, m] = 0 := by rw [← beq_iff_eq]; exact h2
        have h1n := reach_less h2n
        have cR1 := fun W hb => (hR1 W hb).mono fun e w' h => reach_fine h h1n
        have cR2 := fun W hb => (hR2 W hb).mono fun e w' h => reach_fine h h2n
        have hsub := more_in h2n
        obtain ⟨hmay, _, hin⟩ := reach_zero h2n
        have hn := hin n (by simp)
        unfold inZ at hn
        obtain ⟨k, rfl⟩ := Int.eq_ofNat_of_zero_le hn.1
        have hkl : k < H.length := by omega
        have hkz : (k : Int) < (H.length : Int) := hn.2
        have hk0 : (0 : Int) ≤ (k : Int) := hn.1
        have hp := fun h1 => proto_in hmay hkl h1
        have hnk : nats [(k : Int)] = [k] := by simp [nats]
        rw [hnk] at cR1 hsub
        unfold R0 at cR1 cR2
        have hl1 := fun x (hx : x ∈ reachL H [k]) => reachL_lt hx
        have hL1 : (reachL H [k]).length ≤ 1000000 := by have := nodup_len ((reachL_up H [k]).imp Nat.ne_of_lt) hl1; have := HI.out.few; omega
        have hL2 : (reachL H (nats [(k : Int), m])).length ≤ 1000000 := by have := nodup_len ((reachL_up H (nats [(k : Int), m])).imp Nat.ne_of_lt) (fun x hx => reachL_lt hx); have := HI.out.few; omega
        clear hR1 hR2 h2 h2n h1n hin hn hmay hl1
        generalize reachL H [k] = L at *
        generalize reachL H (nats [(k : Int), m]) = M at *
        obtain ⟨a, rfl, hab, hof, _⟩ := HI.out.at hkl
        generalize H[k] = o at *
        have hc1 := vq_one o.proto.k o.proto.x o.proto.s o.proto.r
        have hi1 : (Tryz.prog.info? 31).map (·.size) = some (#[Value.int .u8 o.proto.k, .float .f64 o.proto.x, .string o.proto.s, .int .i64 o.proto.r] : Array Value).size := vsz4
        have HSUB := Lib.hid hsub
        have HP := Lib.hid hp
        clear hsub hp
        cases e1 : (o.proto.k == 1) <;> cases e2 : (o.kind == 6)
        all_goals
          go_enter Tryz.func5, Tryz.ntmps5
          go_wp2_with (first
            | (go_at_call 19; (with_reducible refine (cA _ HQ.out.below).mono ?_); rintro e w1 ⟨rfl, h9⟩; have HQ := Lib.hid (HQ.out.up h9); have hq := HQ.out.q; clear h9)
            | (go_at_call 21; (with_reducible refine (cL _ HQ.out.below).mono ?_); rintro e w2 ⟨rfl, h9⟩; have HQ := Lib.hid (HQ.out.up h9); have hq := HQ.out.q; clear h9)
            | (go_at_call 16; (with_reducible refine (cR1 _ HQ.out.below).mono ?_); rintro e w3 ⟨g1, c1, rfl, hown1, h9⟩; have HQ := Lib.hid (HQ.out.up (vb (vzero _ _) h9)); have hq := HQ.out.q; have HO1 := Lib.hid hown1; clear hown1 h9)
            | (go_at_call 16; (with_reducible refine (cR2 _ HQ.out.below).mono ?_); rintro e w4 ⟨g2, c2, rfl, hown2, h9⟩; have HO1b := Lib.hid (own_upi HO1.out (vb (vzero _ _) h9)); have HQ := Lib.hid (HQ.out.up (vb (vzero _ _) h9)); have hq := HQ.out.q; have HO2 := Lib.hid hown2; have hof4 := hof.up HQ.out.below; have hp4 := hof4.proto; have q1 := hof4.kind; have hlt4 := hof4.lt; clear hown2 h9 hof4)
            | ((with_reducible refine va_load ?_ rfl rfl hp4 ?_); (rfl))
            | ((with_reducible refine t_store rfl rfl rfl rfl (heap_alloc_new _ _) hi1 ?_ hc1 (vzero w4 _) (Nat.le_refl _) ?_); (rfl); intro W5 hBW hW5 _ _; have HW5 := Lib.hid hBW; have hB5 := HW5.out; have hof5 := hof.up (vb HQ.out.below hB5); have q1 := hof5.kind; have hlt5 := hof5.lt; have q2 := (vcells hW5 0).trans rfl; have HQ5 := Lib.hid (HQ.out.up hB5); have hq := HQ5.out.q; clear hBW hB5 hof5))
          have hMO : Mo w g1 g2 w4.heap.size L M o.proto W5 := ⟨HQ5.out.below, own_cell (own_upi HO1b.out HW5.out), own_cell (own_upi HO2.out HW5.out), hW5⟩
          have HMO := Lib.hid hMO
          generalize w4.heap.size = gp at *
          clear hMO HQ5 HQ HO1 HO1b HO2 hq q1 q2 hp4 hlt4 hlt5 hof hW5 cA cL cR1 cR2 HW5
          go_loopg [13, 14] L.length (fun kx s13 s14 wr => ∃ i : Nat, s13 = .bool ((o.proto.k == 1 || o.kind == 6) || anyR L i o.proto.r) ∧ s14 = .int .i64 i ∧ i + kx = L.length ∧ Hid (Mo w g1 g2 gp L M o.proto wr))
          case atStart => exact ⟨0, by rw [e1, e2, any_zero]; rfl, rfl, by omega, HMO⟩
          case round =>
            obtain ⟨i, rfl, rfl, hik, HR⟩ := hrel
            cases gk with
            | zero =>
              obtain rfl : i = L.length := by omega
              have hT : ((o.proto.k == 1 || o.kind == 6) || anyR L L.length o.proto.r) = true := by
                cases e1c : (o.proto.k == 1) with
                | true => rfl
                | false => rw [any_all (HP.out e1c), Bool.or_true]
              rw [hT]
              go_wp2
              go_ret
              exact ⟨rfl, HR.out.below⟩
            | succ kx =>
              have hlt : i < L.length := by omega
              have hlz : (i : Int) < (L.length : Int) := by omega
              have hl0 : (0 : Int) ≤ (i : Int) := by omega
              have HT := Lib.hid (any_succ L i hlt o.proto.r)
              have hmem := Lib.hid (HSUB.out L[i] (List.getElem_mem hlt))
              have hS : Mo w g1 g2 gp L M o.proto wr.drew := HR.out.drew
              generalize hb : ((o.proto.k == 1 || o.kind == 6) || anyR L i o.proto.r) = b
              have HB := Lib.hid hb
              clear hb
              cases b with
              | false =>
                go_wp2_with (fail)
                refine wp_region_held_drew (S := Mo w g1 g2 gp L M o.proto) (by kernel_rfl) hS (fun hHeld => ?_)
                refine hH_take (i := 0) (v := ?_) (d := 83) (l2 := #[true, false, false, false, false, false, false, false, false, false, false]) rfl (by kernel_rfl) (by kernel_rfl) (by kernel_rfl) (fun _ _ _ h => h) (by kernel_rfl) ?_ (by assumption) rfl (by kernel_rfl) ?_
                rotate_left
                · intro w hSw; (try dsimp only at hSw); go_simp; (try with_reducible rfl)
                simp only [List.set]
                refine hH_take (i := 1) (v := ?_) (d := 84) (l2 := #[true, true, false, false, false, false, false, false, false, false, false]) rfl (by kernel_rfl) (by kernel_rfl) (by kernel_rfl) (fun _ _ _ h => h) (by kernel_rfl) ?_ (by assumption) rfl (by kernel_rfl) ?_
                rotate_left
                · intro w hSw; (try dsimp only at hSw); go_simp; (try with_reducible rfl)
                simp only [List.set]
                refine hH_take (i := 2) (v := ?_) (d := 85) (l2 := #[true, true, true, false, false, false, false, false, false, false, false]) rfl (by kernel_rfl) (by kernel_rfl) (by kernel_rfl) (fun _ _ _ h => h) (by kernel_rfl) ?_ (by assumption) rfl (by kernel_rfl) ?_
                rotate_left
                · intro w hSw; (try dsimp only at hSw); go_simp; (try with_reducible rfl)
                simp only [List.set]
                refine hH_take (i := 3) (v := ?_) (d := 86) (l2 := #[true, true, true, true, false, false, false, false, false, false, false]) rfl (by kernel_rfl) (by kernel_rfl) (by kernel_rfl) (fun _ _ _ h => h) (by kernel_rfl) ?_ (by assumption) rfl (by kernel_rfl) ?_
                rotate_left
                · intro w hSw; (try dsimp only at hSw); go_simp; (try with_reducible rfl)
                simp only [List.set]
                refine hH_take (i := 4) (v := ?_) (d := 87) (l2 := #[true, true, true, true, true, false, false, false, false, false, false]) rfl (by kernel_rfl) (by kernel_rfl) (by kernel_rfl) (fun _ _ _ h => h) (by kernel_rfl) ?_ (by assumption) rfl (by kernel_rfl) ?_
                rotate_left
                · intro w hSw; (try dsimp only at hSw); go_simp; (try with_reducible rfl)
                simp only [List.set]
                refine hH_take (i := 5) (v := ?_) (d := 88) (l2 := #[true, true, true, true, true, true, false, false, false, false, false]) rfl (by kernel_rfl) (by kernel_rfl) (by kernel_rfl) (fun _ _ _ h => h) (by kernel_rfl) ?_ (by assumption) rfl (by kernel_rfl) ?_
                rotate_left
                · intro w hSw; have q := hSw.l i hlt; go_simp; (try with_reducible rfl)
                simp only [List.set]
                refine hH_take (i := 6) (v := ?_) (d := 89) (l2 := #[true, true, true, true, true, true, true, false, false, false, false]) rfl (by kernel_rfl) (by kernel_rfl) (by kernel_rfl) (fun _ _ _ h => h) (by kernel_rfl) ?_ (by assumption) rfl (by kernel_rfl) ?_
                rotate_left
                · intro w hSw; (try dsimp only at hSw); go_simp; (try with_reducible rfl)
                simp only [List.set]
                refine hH_take (i := 7) (v := ?_) (d := 90) (l2 := #[true, true, true, true, true, true, true, true, false, false, false]) rfl (by kernel_rfl) (by kernel_rfl) (by kernel_rfl) (fun _ _ _ h => h) (by kernel_rfl) ?_ (by assumption) rfl (by kernel_rfl) ?_
                rotate_left
                · intro w hSw; have q := hSw.c; go_simp; (try with_reducible rfl)
                simp only [List.set]
                refine hH_take (i := 8) (v := ?_) (d := 91) (l2 := #[true, true, true, true, true, true, true, true, true, false, false]) rfl (by kernel_rfl) (by kernel_rfl) (by kernel_rfl) (fun _ _ _ h => h) (by kernel_rfl) ?_ (by assumption) rfl (by kernel_rfl) ?_
                rotate_left
                · intro w hSw; (try dsimp only at hSw); go_simp; (try with_reducible rfl)
                simp only [List.set]
                refine hH_take (i := 9) (v := ?_) (d := 92) (l2 := #[true, true, true, true, true, true, true, true, true, true, false]) rfl (by kernel_rfl) (by kernel_rfl) (by kernel_rfl) (fun _ _ _ h => h) (by kernel_rfl) ?_ (by assumption) rfl (by kernel_rfl) ?_
                rotate_left
                · intro w hSw; (try dsimp only at hSw); go_simp; (try with_reducible rfl)
                simp only [List.set]
                refine hH_take (i := 10) (v := ?_) (d := 13) (l2 := #[true, true, true, true, true, true, true, true, true, true, true]) rfl (by kernel_rfl) (by kernel_rfl) (by kernel_rfl) (fun _ _ _ h => h) (by kernel_rfl) ?_ (by assumption) rfl (by kernel_rfl) ?_
                rotate_left
                · intro w hSw; (try dsimp only at hSw); go_simp; (try with_reducible rfl)
                simp only [List.set]
                refine wpAnyH_done (by kernel_rfl) ?_ _
                go_wp2_with (fail)
                go_loopg [15, 16] M.length (fun ky s15 s16 wx => ∃ k2 : Nat, s15 = .bool (anyR M k2 (L[i] : Int)) ∧ s16 = .int .i64 k2 ∧ k2 + ky = M.length ∧ Hid (Mo w g1 g2 gp L M o.proto wx))
                case atStart => exact ⟨0, by rw [any_zero], rfl, by omega, Lib.hid hS⟩
                case round =>
                  obtain ⟨k2, rfl, rfl, hkk, HX⟩ := hrel
                  cases gk with
                  | zero =>
                    obtain rfl : k2 = M.length := by omega
                    rw [any_all ⟨_, hmem.out, rfl⟩]
                    go_wp2_with (fail)
                    go_roundg kx
                    case measure => omega
                    case rel => exact ⟨i + 1, by rw [HT.out, ← Bool.or_assoc, HB.out, Bool.false_or], by congr 1, by omega, HX⟩
                  | succ ky =>
                    have hlt2 : k2 < M.length := by omega
                    have hlz2 : (k2 : Int) < (M.length : Int) := by omega
                    have hl02 : (0 : Int) ≤ (k2 : Int) := by omega
                    have HT2 := Lib.hid (any_succ M k2 hlt2 (L[i] : Int))
                    have hS2 : Mo w g1 g2 gp L M o.proto wr.drew := HX.out.drew
                    generalize hc : anyR M k2 (L[i] : Int) = c
                    have HC := Lib.hid hc
                    clear hc
                    cases c with
                    | false =>
                      go_wp2_with (fail)
                      refine wp_region_held_drew (S := Mo w g1 g2 gp L M o.proto) (by kernel_rfl) hS2 (fun hHeld => ?_)
                      refine hH_take (i := 0) (v := ?_) (d := 99) (l2 := #[true, false, false, false, false, false, false, false, false, false, false, false, false]) rfl (by kernel_rfl) (by kernel_rfl) (by kernel_rfl) (fun _ _ _ h => h) (by kernel_rfl) ?_ (by assumption) rfl (by kernel_rfl) ?_
                      rotate_left
                      · intro w hSw; (try dsimp only at hSw); go_simp; (try with_reducible rfl)
                      simp only [List.set]
                      refine hH_take (i := 1) (v := ?_) (d := 100) (l2 := #[true, true, false, false, false, false, false, false, false, false, false, false, false]) rfl (by kernel_rfl) (by kernel_rfl) (by kernel_rfl) (fun _ _ _ h => h) (by kernel_rfl) ?_ (by assumption) rfl (by kernel_rfl) ?_
                      rotate_left
                      · intro w hSw; (try dsimp only at hSw); go_simp; (try with_reducible rfl)
                      simp only [List.set]
                      refine hH_take (i := 2) (v := ?_) (d := 101) (l2 := #[true, true, true, false, false, false, false, false, false, false, false, false, false]) rfl (by kernel_rfl) (by kernel_rfl) (by kernel_rfl) (fun _ _ _ h => h) (by kernel_rfl) ?_ (by assumption) rfl (by kernel_rfl) ?_
                      rotate_left
                      · intro w hSw; (try dsimp only at hSw); go_simp; (try with_reducible rfl)
                      simp only [List.set]
                      refine hH_take (i := 3) (v := ?_) (d := 102) (l2 := #[true, true, true, true, false, false, false, false, false, false, false, false, false]) rfl (by kernel_rfl) (by kernel_rfl) (by kernel_rfl) (fun _ _ _ h => h) (by kernel_rfl) ?_ (by assumption) rfl (by kernel_rfl) ?_
                      rotate_left
                      · intro w hSw; (try dsimp only at hSw); go_simp; (try with_reducible rfl)
                      simp only [List.set]
                      refine hH_take (i := 4) (v := ?_) (d := 103) (l2 := #[true, true, true, true, true, false, false, false, false, false, false, false, false]) rfl (by kernel_rfl) (by kernel_rfl) (by kernel_rfl) (fun _ _ _ h => h) (by kernel_rfl) ?_ (by assumption) rfl (by kernel_rfl) ?_
                      rotate_left
                      · intro w hSw; (try dsimp only at hSw); go_simp; (try with_reducible rfl)
                      simp only [List.set]
                      refine hH_take (i := 5) (v := ?_) (d := 104) (l2 := #[true, true, true, true, true, true, false, false, false, false, false, false, false]) rfl (by kernel_rfl) (by kernel_rfl) (by kernel_rfl) (fun _ _ _ h => h) (by kernel_rfl) ?_ (by assumption) rfl (by kernel_rfl) ?_
                      rotate_left
                      · intro w hSw; have q := hSw.m k2 hlt2; go_simp; (try with_reducible rfl)
                      simp only [List.set]
                      refine hH_take (i := 6) (v := ?_) (d := 105) (l2 := #[true, true, true, true, true, true, true, false, false, false, false, false, false]) rfl (by kernel_rfl) (by kernel_rfl) (by kernel_rfl) (fun _ _ _ h => h) (by kernel_rfl) ?_ (by assumption) rfl (by kernel_rfl) ?_
                      rotate_left
                      · intro w hSw; (try dsimp only at hSw); go_simp; (try with_reducible rfl)
                      simp only [List.set]
                      refine hH_take (i := 7) (v := ?_) (d := 106) (l2 := #[true, true, true, true, true, true, true, true, false, false, false, false, false]) rfl (by kernel_rfl) (by kernel_rfl) (by kernel_rfl) (fun _ _ _ h => h) (by kernel_rfl) ?_ (by assumption) rfl (by kernel_rfl) ?_
                      rotate_left
                      · intro w hSw; (try dsimp only at hSw); go_simp; (try with_reducible rfl)
                      simp only [List.set]
                      refine hH_take (i := 8) (v := ?_) (d := 107) (l2 := #[true, true, true, true, true, true, true, true, true, false, false, false, false]) rfl (by kernel_rfl) (by kernel_rfl) (by kernel_rfl) (fun _ _ _ h => h) (by kernel_rfl) ?_ (by assumption) rfl (by kernel_rfl) ?_
                      rotate_left
                      · intro w hSw; (try dsimp only at hSw); go_simp; (try with_reducible rfl)
                      simp only [List.set]
                      refine hH_take (i := 9) (v := ?_) (d := 108) (l2 := #[true, true, true, true, true, true, true, true, true, true, false, false, false]) rfl (by kernel_rfl) (by kernel_rfl) (by kernel_rfl) (fun _ _ _ h => h) (by kernel_rfl) ?_ (by assumption) rfl (by kernel_rfl) ?_
                      rotate_left
                      · intro w hSw; have q := hSw.l i hlt; go_simp; (try with_reducible rfl)
                      simp only [List.set]
                      refine hH_take (i := 10) (v := ?_) (d := 109) (l2 := #[true, true, true, true, true, true, true, true, true, true, true, false, false]) rfl (by kernel_rfl) (by kernel_rfl) (by kernel_rfl) (fun _ _ _ h => h) (by kernel_rfl) ?_ (by assumption) rfl (by kernel_rfl) ?_
                      rotate_left
                      · intro w hSw; (try dsimp only at hSw); go_simp; (try with_reducible rfl)
                      simp only [List.set]
                      refine hH_take (i := 11) (v := ?_) (d := 110) (l2 := #[true, true, true, true, true, true, true, true, true, true, true, true, false]) rfl (by kernel_rfl) (by kernel_rfl) (by kernel_rfl) (fun _ _ _ h => h) (by kernel_rfl) ?_ (by assumption) rfl (by kernel_rfl) ?_
                      rotate_left
                      · intro w hSw; (try dsimp only at hSw); go_simp; (try with_reducible rfl)
                      simp only [List.set]
                      refine hH_take (i := 12) (v := ?_) (d := 15) (l2 := #[true, true, true, true, true, true, true, true, true, true, true, true, true]) rfl (by kernel_rfl) (by kernel_rfl) (by kernel_rfl) (fun _ _ _ h => h) (by kernel_rfl) ?_ (by assumption) rfl (by kernel_rfl) ?_
                      rotate_left
                      · intro w hSw; (try dsimp only at hSw); go_simp; (try with_reducible rfl)
                      simp only [List.set]
                      refine wpAnyH_done (by kernel_rfl) ?_ _
                      go_wp2_with (fail)
                      go_roundg ky
                      case measure => omega
                      case rel => exact ⟨k2 + 1, by rw [HT2.out, HC.out, Bool.false_or], by congr 1, by omega, Lib.hid hS2⟩
                    | true =>
                      go_wp2_with (fail)
                      refine wp_region_held_drew (S := Mo w g1 g2 gp L M o.proto) (by kernel_rfl) hS2 (fun hHeld => ?_)
                      refine hH_take (i := 0) (v := ?_) (d := 99) (l2 := #[true, false, false, false, false, false, false, false, false, false, false, false, false]) rfl (by kernel_rfl) (by kernel_rfl) (by kernel_rfl) (fun _ _ _ h => h) (by kernel_rfl) ?_ (by assumption) rfl (by kernel_rfl) ?_
                      rotate_left
                      · intro w hSw; (try dsimp only at hSw); go_simp; (try with_reducible rfl)
                      simp only [List.set]
                      refine hH_take (i := 1) (v := ?_) (d := 100) (l2 := #[true, true, false, false, false, false, false, false, false, false, false, false, false]) rfl (by kernel_rfl) (by kernel_rfl) (by kernel_rfl) (fun _ _ _ h => h) (by kernel_rfl) ?_ (by assumption) rfl (by kernel_rfl) ?_
                      rotate_left
                      · intro w hSw; (try dsimp only at hSw); go_simp; (try with_reducible rfl)
                      simp only [List.set]
                      refine hH_drop (i := 2) (d := 101) (l2 := #[true, true, true, false, false, false, false, false, false, false, false, false, false]) rfl (by kernel_rfl) (by kernel_rfl) (by kernel_rfl) (fun _ _ _ h => h) (by kernel_rfl) (by assumption) rfl (by kernel_rfl) ?_
                      simp only [List.set]
                      refine hH_drop (i := 3) (d := 102) (l2 := #[true, true, true, true, false, false, false, false, false, false, false, false, false]) rfl (by kernel_rfl) (by kernel_rfl) (by kernel_rfl) (fun _ _ _ h => h) (by kernel_rfl) (by assumption) rfl (by kernel_rfl) ?_
                      simp only [List.set]
                      refine hH_drop (i := 4) (d := 103) (l2 := #[true, true, true, true, true, false, false, false, false, false, false, false, false]) rfl (by kernel_rfl) (by kernel_rfl) (by kernel_rfl) (fun _ _ _ h => h) (by kernel_rfl) (by assumption) rfl (by kernel_rfl) ?_
                      simp only [List.set]
                      refine hH_drop (i := 5) (d := 104) (l2 := #[true, true, true, true, true, true, false, false, false, false, false, false, false]) rfl (by kernel_rfl) (by kernel_rfl) (by kernel_rfl) (fun _ _ _ h => h) (by kernel_rfl) (by assumption) rfl (by kernel_rfl) ?_
                      simp only [List.set]
                      refine hH_drop (i := 6) (d := 105) (l2 := #[true, true, true, true, true, true, true, false, false, false, false, false, false]) rfl (by kernel_rfl) (by kernel_rfl) (by kernel_rfl) (fun _ _ _ h => h) (by kernel_rfl) (by assumption) rfl (by kernel_rfl) ?_
                      simp only [List.set]
                      refine hH_drop (i := 7) (d := 106) (l2 := #[true, true, true, true, true, true, true, true, false, false, false, false, false]) rfl (by kernel_rfl) (by kernel_rfl) (by kernel_rfl) (fun _ _ _ h => h) (by kernel_rfl) (by assumption) rfl (by kernel_rfl) ?_
                      simp only [List.set]
                      refine hH_drop (i := 8) (d := 107) (l2 := #[true, true, true, true, true, true, true, true, true, false, false, false, false]) rfl (by kernel_rfl) (by kernel_rfl) (by kernel_rfl) (fun _ _ _ h => h) (by kernel_rfl) (by assumption) rfl (by kernel_rfl) ?_
                      simp only [List.set]
                      refine hH_drop (i := 9) (d := 108) (l2 := #[true, true, true, true, true, true, true, true, true, true, false, false, false]) rfl (by kernel_rfl) (by kernel_rfl) (by kernel_rfl) (fun _ _ _ h => h) (by kernel_rfl) (by assumption) rfl (by kernel_rfl) ?_
                      simp only [List.set]
                      refine hH_drop (i := 10) (d := 109) (l2 := #[true, true, true, true, true, true, true, true, true, true, true, false, false]) rfl (by kernel_rfl) (by kernel_rfl) (by kernel_rfl) (fun _ _ _ h => h) (by kernel_rfl) (by assumption) rfl (by kernel_rfl) ?_
                      simp only [List.set]
                      refine hH_take (i := 11) (v := ?_) (d := 110) (l2 := #[true, true, true, true, true, true, true, true, true, true, true, true, false]) rfl (by kernel_rfl) (by kernel_rfl) (by kernel_rfl) (fun _ _ _ h => h) (by kernel_rfl) ?_ (by assumption) rfl (by kernel_rfl) ?_
                      rotate_left
                      · intro w hSw; (try dsimp only at hSw); go_simp; (try with_reducible rfl)
                      simp only [List.set]
                      refine hH_take (i := 12) (v := ?_) (d := 15) (l2 := #[true, true, true, true, true, true, true, true, true, true, true, true, true]) rfl (by kernel_rfl) (by kernel_rfl) (by kernel_rfl) (fun _ _ _ h => h) (by kernel_rfl) ?_ (by assumption) rfl (by kernel_rfl) ?_
                      rotate_left
                      · intro w hSw; (try dsimp only at hSw); go_simp; (try with_reducible rfl)
                      simp only [List.set]
                      refine wpAnyH_done (by kernel_rfl) ?_ _
                      go_wp2_with (fail)
                      go_roundg ky
                      case measure => omega
                      case rel => exact ⟨k2 + 1, by rw [HT2.out, HC.out, Bool.true_or], by congr 1, by omega, Lib.hid hS2⟩
              | true =>
                go_wp2_with (fail)
                refine wp_region_held_drew (S := Mo w g1 g2 gp L M o.proto) (by kernel_rfl) hS (fun hHeld => ?_)
                refine hH_take (i := 0) (v := ?_) (d := 83) (l2 := #[true, false, false, false, false, false, false, false, false, false, false]) rfl (by kernel_rfl) (by kernel_rfl) (by kernel_rfl) (fun _ _ _ h => h) (by kernel_rfl) ?_ (by assumption) rfl (by kernel_rfl) ?_
                rotate_left
                · intro w hSw; (try dsimp only at hSw); go_simp; (try with_reducible rfl)
                simp only [List.set]
                refine hH_take (i := 1) (v := ?_) (d := 84) (l2 := #[true, true, false, false, false, false, false, false, false, false, false]) rfl (by kernel_rfl) (by kernel_rfl) (by kernel_rfl) (fun _ _ _ h => h) (by kernel_rfl) ?_ (by assumption) rfl (by kernel_rfl) ?_
                rotate_left
                · intro w hSw; (try dsimp only at hSw); go_simp; (try with_reducible rfl)
                simp only [List.set]
                refine hH_drop (i := 2) (d := 85) (l2 := #[true, true, true, false, false, false, false, false, false, false, false]) rfl (by kernel_rfl) (by kernel_rfl) (by kernel_rfl) (fun _ _ _ h => h) (by kernel_rfl) (by assumption) rfl (by kernel_rfl) ?_
                simp only [List.set]
                refine hH_drop (i := 3) (d := 86) (l2 := #[true, true, true, true, false, false, false, false, false, false, false]) rfl (by kernel_rfl) (by kernel_rfl) (by kernel_rfl) (fun _ _ _ h => h) (by kernel_rfl) (by assumption) rfl (by kernel_rfl) ?_
                simp only [List.set]
                refine hH_drop (i := 4) (d := 87) (l2 := #[true, true, true, true, true, false, false, false, false, false, false]) rfl (by kernel_rfl) (by kernel_rfl) (by kernel_rfl) (fun _ _ _ h => h) (by kernel_rfl) (by assumption) rfl (by kernel_rfl) ?_
                simp only [List.set]
                refine hH_drop (i := 5) (d := 88) (l2 := #[true, true, true, true, true, true, false, false, false, false, false]) rfl (by kernel_rfl) (by kernel_rfl) (by kernel_rfl) (fun _ _ _ h => h) (by kernel_rfl) (by assumption) rfl (by kernel_rfl) ?_
                simp only [List.set]
                refine hH_drop (i := 6) (d := 89) (l2 := #[true, true, true, true, true, true, true, false, false, false, false]) rfl (by kernel_rfl) (by kernel_rfl) (by kernel_rfl) (fun _ _ _ h => h) (by kernel_rfl) (by assumption) rfl (by kernel_rfl) ?_
                simp only [List.set]
                refine hH_drop (i := 7) (d := 90) (l2 := #[true, true, true, true, true, true, true, true, false, false, false]) rfl (by kernel_rfl) (by kernel_rfl) (by kernel_rfl) (fun _ _ _ h => h) (by kernel_rfl) (by assumption) rfl (by kernel_rfl) ?_
                simp only [List.set]
                refine hH_drop (i := 8) (d := 91) (l2 := #[true, true, true, true, true, true, true, true, true, false, false]) rfl (by kernel_rfl) (by kernel_rfl) (by kernel_rfl) (fun _ _ _ h => h) (by kernel_rfl) (by assumption) rfl (by kernel_rfl) ?_
                simp only [List.set]
                refine hH_take (i := 9) (v := ?_) (d := 92) (l2 := #[true, true, true, true, true, true, true, true, true, true, false]) rfl (by kernel_rfl) (by kernel_rfl) (by kernel_rfl) (fun _ _ _ h => h) (by kernel_rfl) ?_ (by assumption) rfl (by kernel_rfl) ?_
                rotate_left
                · intro w hSw; (try dsimp only at hSw); go_simp; (try with_reducible rfl)
                simp only [List.set]
                refine hH_take (i := 10) (v := ?_) (d := 13) (l2 := #[true, true, true, true, true, true, true, true, true, true, true]) rfl (by kernel_rfl) (by kernel_rfl) (by kernel_rfl) (fun _ _ _ h => h) (by kernel_rfl) ?_ (by assumption) rfl (by kernel_rfl) ?_
                rotate_left
                · intro w hSw; (try dsimp only at hSw); go_simp; (try with_reducible rfl)
                simp only [List.set]
                refine wpAnyH_done (by kernel_rfl) ?_ _
                go_wp2_with (fail)
                go_loopg [15, 16] M.length (fun ky s15 s16 wx => ∃ k2 : Nat, s15 = .bool (anyR M k2 (L[i] : Int)) ∧ s16 = .int .i64 k2 ∧ k2 + ky = M.length ∧ Hid (Mo w g1 g2 gp L M o.proto wx))
                case atStart => exact ⟨0, by rw [any_zero], rfl, by omega, Lib.hid hS⟩
                case round =>
                  obtain ⟨k2, rfl, rfl, hkk, HX⟩ := hrel
                  cases gk with
                  | zero =>
                    obtain rfl : k2 = M.length := by omega
                    rw [any_all ⟨_, hmem.out, rfl⟩]
                    go_wp2_with (fail)
                    go_roundg kx
                    case measure => omega
                    case rel => exact ⟨i + 1, by rw [HT.out, ← Bool.or_assoc, HB.out, Bool.true_or], by congr 1, by omega, HX⟩
                  | succ ky =>
                    have hlt2 : k2 < M.length := by omega
                    have hlz2 : (k2 : Int) < (M.length : Int) := by omega
                    have hl02 : (0 : Int) ≤ (k2 : Int) := by omega
                    have HT2 := Lib.hid (any_succ M k2 hlt2 (L[i] : Int))
                    have hS2 : Mo w g1 g2 gp L M o.proto wr.drew := HX.out.drew
                    generalize hc : anyR M k2 (L[i] : Int) = c
                    have HC := Lib.hid hc
                    clear hc
                    cases c with
                    | false =>
                      go_wp2_with (fail)
                      refine wp_region_held_drew (S := Mo w g1 g2 gp L M o.proto) (by kernel_rfl) hS2 (fun hHeld => ?_)
                      refine hH_take (i := 0) (v := ?_) (d := 99) (l2 := #[true, false, false, false, false, false, false, false, false, false, false, false, false]) rfl (by kernel_rfl) (by kernel_rfl) (by kernel_rfl) (fun _ _ _ h => h) (by kernel_rfl) ?_ (by assumption) rfl (by kernel_rfl) ?_
                      rotate_left
                      · intro w hSw; (try dsimp only at hSw); go_simp; (try with_reducible rfl)
                      simp only [List.set]
                      refine hH_take (i := 1) (v := ?_) (d := 100) (l2 := #[true, true, false, false, false, false, false, false, false, false, false, false, false]) rfl (by kernel_rfl) (by kernel_rfl) (by kernel_rfl) (fun _ _ _ h => h) (by kernel_rfl) ?_ (by assumption) rfl (by kernel_rfl) ?_
                      rotate_left
                      · intro w hSw; (try dsimp only at hSw); go_simp; (try with_reducible rfl)
                      simp only [List.set]
                      refine hH_take (i := 2) (v := ?_) (d := 101) (l2 := #[true, true, true, false, false, false, false, false, false, false, false, false, false]) rfl (by kernel_rfl) (by kernel_rfl) (by kernel_rfl) (fun _ _ _ h => h) (by kernel_rfl) ?_ (by assumption) rfl (by kernel_rfl) ?_
                      rotate_left
                      · intro w hSw; (try dsimp only at hSw); go_simp; (try with_reducible rfl)
                      simp only [List.set]
                      refine hH_take (i := 3) (v := ?_) (d := 102) (l2 := #[true, true, true, true, false, false, false, false, false, false, false, false, false]) rfl (by kernel_rfl) (by kernel_rfl) (by kernel_rfl) (fun _ _ _ h => h) (by kernel_rfl) ?_ (by assumption) rfl (by kernel_rfl) ?_
                      rotate_left
                      · intro w hSw; (try dsimp only at hSw); go_simp; (try with_reducible rfl)
                      simp only [List.set]
                      refine hH_take (i := 4) (v := ?_) (d := 103) (l2 := #[true, true, true, true, true, false, false, false, false, false, false, false, false]) rfl (by kernel_rfl) (by kernel_rfl) (by kernel_rfl) (fun _ _ _ h => h) (by kernel_rfl) ?_ (by assumption) rfl (by kernel_rfl) ?_
                      rotate_left
                      · intro w hSw; (try dsimp only at hSw); go_simp; (try with_reducible rfl)
                      simp only [List.set]
                      refine hH_take (i := 5) (v := ?_) (d := 104) (l2 := #[true, true, true, true, true, true, false, false, false, false, false, false, false]) rfl (by kernel_rfl) (by kernel_rfl) (by kernel_rfl) (fun _ _ _ h => h) (by kernel_rfl) ?_ (by assumption) rfl (by kernel_rfl) ?_
                      rotate_left
                      · intro w hSw; have q := hSw.m k2 hlt2; go_simp; (try with_reducible rfl)
                      simp only [List.set]
                      refine hH_take (i := 6) (v := ?_) (d := 105) (l2 := #[true, true, true, true, true, true, true, false, false, false, false, false, false]) rfl (by kernel_rfl) (by kernel_rfl) (by kernel_rfl) (fun _ _ _ h => h) (by kernel_rfl) ?_ (by assumption) rfl (by kernel_rfl) ?_
                      rotate_left
                      · intro w hSw; (try dsimp only at hSw); go_simp; (try with_reducible rfl)
                      simp only [List.set]
                      refine hH_take (i := 7) (v := ?_) (d := 106) (l2 := #[true, true, true, true, true, true, true, true, false, false, false, false, false]) rfl (by kernel_rfl) (by kernel_rfl) (by kernel_rfl) (fun _ _ _ h => h) (by kernel_rfl) ?_ (by assumption) rfl (by kernel_rfl) ?_
                      rotate_left
                      · intro w hSw; (try dsimp only at hSw); go_simp; (try with_reducible rfl)
                      simp only [List.set]
                      refine hH_take (i := 8) (v := ?_) (d := 107) (l2 := #[true, true, true, true, true, true, true, true, true, false, false, false, false]) rfl (by kernel_rfl) (by kernel_rfl) (by kernel_rfl) (fun _ _ _ h => h) (by kernel_rfl) ?_ (by assumption) rfl (by kernel_rfl) ?_
                      rotate_left
                      · intro w hSw; (try dsimp only at hSw); go_simp; (try with_reducible rfl)
                      simp only [List.set]
                      refine hH_take (i := 9) (v := ?_) (d := 108) (l2 := #[true, true, true, true, true, true, true, true, true, true, false, false, false]) rfl (by kernel_rfl) (by kernel_rfl) (by kernel_rfl) (fun _ _ _ h => h) (by kernel_rfl) ?_ (by assumption) rfl (by kernel_rfl) ?_
                      rotate_left
                      · intro w hSw; have q := hSw.l i hlt; go_simp; (try with_reducible rfl)
                      simp only [List.set]
                      refine hH_take (i := 10) (v := ?_) (d := 109) (l2 := #[true, true, true, true, true, true, true, true, true, true, true, false, false]) rfl (by kernel_rfl) (by kernel_rfl) (by kernel_rfl) (fun _ _ _ h => h) (by kernel_rfl) ?_ (by assumption) rfl (by kernel_rfl) ?_
                      rotate_left
                      · intro w hSw; (try dsimp only at hSw); go_simp; (try with_reducible rfl)
                      simp only [List.set]
                      refine hH_take (i := 11) (v := ?_) (d := 110) (l2 := #[true, true, true, true, true, true, true, true, true, true, true, true, false]) rfl (by kernel_rfl) (by kernel_rfl) (by kernel_rfl) (fun _ _ _ h => h) (by kernel_rfl) ?_ (by assumption) rfl (by kernel_rfl) ?_
                      rotate_left
                      · intro w hSw; (try dsimp only at hSw); go_simp; (try with_reducible rfl)
                      simp only [List.set]
                      refine hH_take (i := 12) (v := ?_) (d := 15) (l2 := #[true, true, true, true, true, true, true, true, true, true, true, true, true]) rfl (by kernel_rfl) (by kernel_rfl) (by kernel_rfl) (fun _ _ _ h => h) (by kernel_rfl) ?_ (by assumption) rfl (by kernel_rfl) ?_
                      rotate_left
                      · intro w hSw; (try dsimp only at hSw); go_simp; (try with_reducible rfl)
                      simp only [List.set]
                      refine wpAnyH_done (by kernel_rfl) ?_ _
                      go_wp2_with (fail)
                      go_roundg ky
                      case measure => omega
                      case rel => exact ⟨k2 + 1, by rw [HT2.out, HC.out, Bool.false_or], by congr 1, by omega, Lib.hid hS2⟩
                    | true =>
                      go_wp2_with (fail)
                      refine wp_region_held_drew (S := Mo w g1 g2 gp L M o.proto) (by kernel_rfl) hS2 (fun hHeld => ?_)
                      refine hH_take (i := 0) (v := ?_) (d := 99) (l2 := #[true, false, false, false, false, false, false, false, false, false, false, false, false]) rfl (by kernel_rfl) (by kernel_rfl) (by kernel_rfl) (fun _ _ _ h => h) (by kernel_rfl) ?_ (by assumption) rfl (by kernel_rfl) ?_
                      rotate_left
                      · intro w hSw; (try dsimp only at hSw); go_simp; (try with_reducible rfl)
                      simp only [List.set]
                      refine hH_take (i := 1) (v := ?_) (d := 100) (l2 := #[true, true, false, false, false, false, false, false, false, false, false, false, false]) rfl (by kernel_rfl) (by kernel_rfl) (by kernel_rfl) (fun _ _ _ h => h) (by kernel_rfl) ?_ (by assumption) rfl (by kernel_rfl) ?_
                      rotate_left
                      · intro w hSw; (try dsimp only at hSw); go_simp; (try with_reducible rfl)
                      simp only [List.set]
                      refine hH_drop (i := 2) (d := 101) (l2 := #[true, true, true, false, false, false, false, false, false, false, false, false, false]) rfl (by kernel_rfl) (by kernel_rfl) (by kernel_rfl) (fun _ _ _ h => h) (by kernel_rfl) (by assumption) rfl (by kernel_rfl) ?_
                      simp only [List.set]
                      refine hH_drop (i := 3) (d := 102) (l2 := #[true, true, true, true, false, false, false, false, false, false, false, false, false]) rfl (by kernel_rfl) (by kernel_rfl) (by kernel_rfl) (fun _ _ _ h => h) (by kernel_rfl) (by assumption) rfl (by kernel_rfl) ?_
                      simp only [List.set]
                      refine hH_drop (i := 4) (d := 103) (l2 := #[true, true, true, true, true, false, false, false, false, false, false, false, false]) rfl (by kernel_rfl) (by kernel_rfl) (by kernel_rfl) (fun _ _ _ h => h) (by kernel_rfl) (by assumption) rfl (by kernel_rfl) ?_
                      simp only [List.set]
                      refine hH_drop (i := 5) (d := 104) (l2 := #[true, true, true, true, true, true, false, false, false, false, false, false, false]) rfl (by kernel_rfl) (by kernel_rfl) (by kernel_rfl) (fun _ _ _ h => h) (by kernel_rfl) (by assumption) rfl (by kernel_rfl) ?_
                      simp only [List.set]
                      refine hH_drop (i := 6) (d := 105) (l2 := #[true, true, true, true, true, true, true, false, false, false, false, false, false]) rfl (by kernel_rfl) (by kernel_rfl) (by kernel_rfl) (fun _ _ _ h => h) (by kernel_rfl) (by assumption) rfl (by kernel_rfl) ?_
                      simp only [List.set]
                      refine hH_drop (i := 7) (d := 106) (l2 := #[true, true, true, true, true, true, true, true, false, false, false, false, false]) rfl (by kernel_rfl) (by kernel_rfl) (by kernel_rfl) (fun _ _ _ h => h) (by kernel_rfl) (by assumption) rfl (by kernel_rfl) ?_
                      simp only [List.set]
                      refine hH_drop (i := 8) (d := 107) (l2 := #[true, true, true, true, true, true, true, true, true, false, false, false, false]) rfl (by kernel_rfl) (by kernel_rfl) (by kernel_rfl) (fun _ _ _ h => h) (by kernel_rfl) (by assumption) rfl (by kernel_rfl) ?_
                      simp only [List.set]
                      refine hH_drop (i := 9) (d := 108) (l2 := #[true, true, true, true, true, true, true, true, true, true, false, false, false]) rfl (by kernel_rfl) (by kernel_rfl) (by kernel_rfl) (fun _ _ _ h => h) (by kernel_rfl) (by assumption) rfl (by kernel_rfl) ?_
                      simp only [List.set]
                      refine hH_drop (i := 10) (d := 109) (l2 := #[true, true, true, true, true, true, true, true, true, true, true, false, false]) rfl (by kernel_rfl) (by kernel_rfl) (by kernel_rfl) (fun _ _ _ h => h) (by kernel_rfl) (by assumption) rfl (by kernel_rfl) ?_
                      simp only [List.set]
                      refine hH_take (i := 11) (v := ?_) (d := 110) (l2 := #[true, true, true, true, true, true, true, true, true, true, true, true, false]) rfl (by kernel_rfl) (by kernel_rfl) (by kernel_rfl) (fun _ _ _ h => h) (by kernel_rfl) ?_ (by assumption) rfl (by kernel_rfl) ?_
                      rotate_left
                      · intro w hSw; (try dsimp only at hSw); go_simp; (try with_reducible rfl)
                      simp only [List.set]
                      refine hH_take (i := 12) (v := ?_) (d := 15) (l2 := #[true, true, true, true, true, true, true, true, true, true, true, true, true]) rfl (by kernel_rfl) (by kernel_rfl) (by kernel_rfl) (fun _ _ _ h => h) (by kernel_rfl) ?_ (by assumption) rfl (by kernel_rfl) ?_
                      rotate_left
                      · intro w hSw; (try dsimp only at hSw); go_simp; (try with_reducible rfl)
                      simp only [List.set]
                      refine wpAnyH_done (by kernel_rfl) ?_ _
                      go_wp2_with (fail)
                      go_roundg ky
                      case measure => omega
                      case rel => exact ⟨k2 + 1, by rw [HT2.out, HC.out, Bool.true_or], by congr 1, by omega, Lib.hid hS2⟩
end Go.Proofs.YthnkllhfmjbbmaaGreatDoor.S
