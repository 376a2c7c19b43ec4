/-
  ordinary: kind, plain, eight, there.
-/
import Derived.Test.YtkcikdggfbjedaaGreatDoorOD20
import Derived.Test.YtkcikdggfbjedaaGreatDoorOD23
namespace Go.Proofs.YtkcikdggfbjedaaGreatDoor.S
open Go.RowKit Go.Lib Fl
open Classical

def kindP (o : Ob) : Int := bif o.makes then 8 else bif o.calls then 7 else 6
theorem kind_o (o : Ob) (w : World) : Calls Tryz.prog 117 #[.agg (obA o)] w fun e w' => e = .returned (.int .u8 (kindP o)) ∧ Below w.heap.size w w' := by
  have hb := heap_alloc_new w (.cells (obA o) 64)
  have h1 : (w.alloc (.cells (obA o) 64)).cell? ⟨w.heap.size, 17, none⟩ = some (.bool o.makes) := (vcells hb 17).trans rfl
  have h2 : (w.alloc (.cells (obA o) 64)).cell? ⟨w.heap.size, 16, none⟩ = some (.bool o.calls) := (vcells hb 16).trans rfl
  have hB := vzero w (.cells (obA o) 64)
  unfold kindP
  cases e1 : o.makes <;> cases e2 : o.calls
  all_goals
    rw [e1] at h1
    rw [e2] at h2
    go_enter Tryz.func117, Tryz.ntmps117
    go_wp2
    go_ret
    exact ⟨rfl, hB⟩
def plainK (k : Int) : Bool := k == 1 || (k == 4 || k == 5)
theorem plain_o (o : Ob) (w : World) : Calls Tryz.prog 80 #[.agg (obA o)] w fun e w' => e = .returned (.bool (plainK o.kind)) ∧ Below w.heap.size w w' := by
  have hb := heap_alloc_new w (.cells (obA o) 64)
  have h1 : (w.alloc (.cells (obA o) 64)).cell? ⟨w.heap.size, 0, none⟩ = some (.int .u8 o.kind) := (vcells hb 0).trans rfl
  have hB := vzero w (.cells (obA o) 64)
  unfold plainK
  cases e1 : (o.kind == 1) <;> cases e2 : (o.kind == 4) <;> cases e3 : (o.kind == 5)
  all_goals
    go_enter Tryz.func80, Tryz.ntmps80
    go_wp2
    go_ret
    exact ⟨rfl, hB⟩
def eightM (m : Int) : Bool := m == 1 || (m == 2 || (m == 3 || (m == 4 || (m == 5 || (m == 6 || (m == 10 || m == 11))))))
theorem eight_o (m : Int) (w : World) : Calls Tryz.prog 79 #[.int .u8 m] w fun e w' => e = .returned (.bool (eightM m)) ∧ w' = w := by
  unfold eightM
  cases e1 : (m == 1)
  · cases e2 : (m == 2)
    · cases e3 : (m == 3)
      · cases e4 : (m == 4)
        · cases e5 : (m == 5)
          · cases e6 : (m == 6)
            · cases e7 : (m == 10)
              · cases e8 : (m == 11)
                all_goals
                  go_enter Tryz.func79, Tryz.ntmps79
                  go_wp2
                  go_ret
                  exact ⟨rfl, rfl⟩
              · go_enter Tryz.func79, Tryz.ntmps79
                go_wp2
                go_ret
                exact ⟨rfl, rfl⟩
            · go_enter Tryz.func79, Tryz.ntmps79
              go_wp2
              go_ret
              exact ⟨rfl, rfl⟩
          · go_enter Tryz.func79, Tryz.ntmps79
            go_wp2
            go_ret
            exact ⟨rfl, rfl⟩
        · go_enter Tryz.func79, Tryz.ntmps79
          go_wp2
          go_ret
          exact ⟨rfl, rfl⟩
      · go_enter Tryz.func79, Tryz.ntmps79
        go_wp2
        go_ret
        exact ⟨rfl, rfl⟩
    · go_enter Tryz.func79, Tryz.ntmps79
      go_wp2
      go_ret
      exact ⟨rfl, rfl⟩
  · go_enter Tryz.func79, Tryz.ntmps79
    go_wp2
    go_ret
    exact ⟨rfl, rfl⟩
noncomputable def inB (H : List Ob) (n : Int) : Bool := decide (0 ≤ n ∧ n < (H.length : Int))
theorem there_o (H : List Ob) (A : Option Addr) (cap : Nat) (n : Int) (w : World) : Calls Tryz.prog 66 #[.agg #[.slice A H.length cap], .int .i64 n] w fun e w' => e = .returned (.bool (inB H n)) ∧ Below w.heap.size w w' := by
  have hb := heap_alloc_new w (.cells #[.slice A H.length cap] 24)
  have q0 : (w.alloc (.cells #[.slice A H.length cap] 24)).cell? ⟨w.heap.size, 0, none⟩ = some (.slice A H.length cap) := (vcells hb 0).trans rfl
  have hB := vzero w (.cells #[.slice A H.length cap] 24)
  unfold inB
  by_cases c : 0 ≤ n
  · by_cases d : n < (H.length : Int)
    · rw [decide_eq_true ⟨c, d⟩]
      go_enter Tryz.func66, Tryz.ntmps66
      go_wp2
      go_ret
      exact ⟨rfl, hB⟩
    · rw [decide_eq_false (fun h => d h.2)]
      go_enter Tryz.func66, Tryz.ntmps66
      go_wp2
      go_ret
      exact ⟨rfl, hB⟩
  · rw [decide_eq_false (fun h => c h.1)]
    go_enter Tryz.func66, Tryz.ntmps66
    go_wp2
    go_ret
    exact ⟨rfl, hB⟩
theorem kind_eq {H : List Ob} {o : Ob} {n : Nat} (h : mayB H o n = true) : kindP o = kindO o := by
  unfold mayB at h
  simp only [Bool.and_eq_true] at h
  have hf := h.2.2.2
  unfold fitsB at hf
  unfold kindP kindO
  cases e1 : o.calls <;> cases e2 : o.makes
  · rfl
  · exfalso
    have hk : kindO o = 0 := by unfold kindO; rw [e1, e2]; rfl
    rw [hk, e1] at hf
    cases k1 : o.kind == 1 <;> rw [k1] at hf
    · cases k2 : o.kind == 2 <;> rw [k2] at hf
      · cases k3 : o.kind == 3 <;> rw [k3] at hf
        · cases k4 : o.kind == 4 <;> rw [k4] at hf
          · cases k5 : o.kind == 5 <;> rw [k5] at hf
            · cases k6 : o.kind == 6 <;> rw [k6] at hf
              · exact absurd hf (by simp)
              · simp only [cond_true, cond_false, Bool.and_eq_true] at hf
                have hl := hf.2.2.2.2
                unfold leadsB at hl
                rw [hk] at hl
                cases c : (o.target.k == 1 && o.handler.k == 1) with
                | true => rw [c] at hl; exact absurd hl (by simp)
                | false =>
                  rw [c] at hl
                  simp only [cond_false, Bool.and_eq_true, beq_iff_eq] at hl
                  have ha := hl.1
                  unfold aheadB objQ at ha
                  rw [← hl.2.2] at ha
                  exact absurd ha (by simp)
            · exact absurd hf (by simp)
          · exact absurd hf (by simp)
        · exact absurd hf (by simp)
      · exact absurd hf (by simp)
    · exact absurd hf (by simp)
  · rfl
  · rfl
end Go.Proofs.YtkcikdggfbjedaaGreatDoor.S
/-
  ordinary: holds.
-/
namespace Go.Proofs.YtkcikdggfbjedaaGreatDoor.S
open Go.RowKit Go.Lib Fl
open Classical

theorem h1_load2 {W : World} {v : Value} {g : Nat} (h : W.cell? ⟨g, 0, none⟩ = some v) : (Instr.loadAt 24 (.pointer (some ⟨g, 0, none⟩))).run Tryz.prog W = .ok (.agg #[v]) W :=
  run_loadAt_at (A := ⟨g, 0, none⟩) (cs := [v]) (fun j u hu => by
    match j, hu with
    | 0, hu => rw [Addr.add_mid]; cases hu; exact h
    | j + 1, hu => cases hu) Tryz.underlying24 rfl hsz
theorem oa_at {W : World} {A : Addr} {o : Ob} (h : ∀ j u, (ocl o)[j]? = some u → W.cell? (A.add j) = some u) : (Instr.loadAt 64 (.pointer (some A))).run Tryz.prog W = .ok (.agg (obA o)) W :=
  run_loadAt_at (cs := ocl o) h Tryz.underlying64 rfl osz
set_option maxHeartbeats 4000000 in
set_option maxRecDepth 1000000 in
theorem holds_o (A : Option Addr) (H : List Ob) (cap : Nat) (v : Vq) (w : World) (hH : HIn w A H cap) (hmH : mayH H = true) (hv : v.In) : Calls Tryz.prog 99 #[.agg #[.slice A H.length cap], .agg #[.int .u8 v.k, .float .f64 v.x, .string v.s, .int .i64 v.r]] w fun e w' => e = .returned (.bool (holdsB H v)) ∧ Below w.heap.size w w' := by
  have c1 := fun w => may_i (sa := v.s) hv w
  have c2 := fun w => IsObject_q v hv.1 w
  have HS := Lib.hid (hh_start w A H.length cap v.k v.x v.s v.r)
  have hmay : v.may = mayI v.k v.x v.s v.r := rfl
  rw [← hmay] at c1
  unfold holdsB
  obtain ⟨q0, q1, q2, q3, _⟩ := vc4 HS.out.v
  cases hm : v.may with
  | false =>
    rw [hm] at c1
    go_enter Tryz.func99, Tryz.ntmps99
    go_wp2_with (go_at_call 102; (with_reducible refine (c1 _).mono ?_); rintro e w1 ⟨rfl, h9⟩; have HS := Lib.hid (HS.out.up h9); obtain ⟨q0, q1, q2, q3, _⟩ := vc4 HS.out.v; clear h9)
    go_ret
    exact ⟨rfl, HS.out.below⟩
  | true =>
    rw [hm] at c1
    have hr0 := fun ho => ok_ref (may_ok hm) ho
    cases ho : objQ v with
    | false =>
      rw [ho] at c2
      go_enter Tryz.func99, Tryz.ntmps99
      go_wp2_with (first
        | (go_at_call 102; (with_reducible refine (c1 _).mono ?_); rintro e w1 ⟨rfl, h9⟩; have HS := Lib.hid (HS.out.up h9); obtain ⟨q0, q1, q2, q3, _⟩ := vc4 HS.out.v; clear h9)
        | (go_at_call 62; (with_reducible refine (c2 _).mono ?_); rintro e w2 ⟨rfl, h9⟩; have HS := Lib.hid (HS.out.up h9); obtain ⟨q0, q1, q2, q3, _⟩ := vc4 HS.out.v; clear h9))
      go_ret
      exact ⟨rfl, HS.out.below⟩
    | true =>
      rw [ho] at c2
      obtain ⟨n, hn⟩ := Int.eq_ofNat_of_zero_le (hr0 ho)
      have cT := fun W => there_o H A cap (n : Int) W
      by_cases hlt : n < H.length
      · rw [holds_at hlt hn]
        have hin : inB H (n : Int) = true := decide_eq_true ⟨by omega, by omega⟩
        rw [hin] at cT
        have cKd : ∀ W, Calls Tryz.prog 117 #[.agg (obA H[n])] W fun e w' => e = .returned (.int .u8 (kindO H[n])) ∧ Below W.heap.size W w' := fun W => by
          have := kind_o H[n] W
          rwa [kind_eq ((mayH_iff.1 hmH).2.1 n hlt)] at this
        obtain ⟨a, rfl, hab, hof, _⟩ := hH.at hlt
        have hoc := of_back hof
        generalize H[n] = o at *
        have hcl := fun W (hb : Below w.heap.size w W) j u hu => (hb.cell (p := (a.add (n * 18)).add j) (by rw [add_blk]; exact hab)).trans (hoc j u hu)
        obtain ⟨k, x, s, r⟩ := v
        dsimp only at *
        subst hn
        have hlz : (n : Int) < (H.length : Int) := by omega
        have hl0 : (0 : Int) ≤ (n : Int) := by omega
        clear hr0 hm ho hmay hin hof hoc hab hH hmH
        go_enter Tryz.func99, Tryz.ntmps99
        go_wp2_with (first
          | (go_at_call 102; (with_reducible refine (c1 _).mono ?_); rintro e w1 ⟨rfl, h9⟩; have HS := Lib.hid (HS.out.up h9); obtain ⟨q0, q1, q2, q3, _⟩ := vc4 HS.out.v; clear h9)
          | (go_at_call 62; (with_reducible refine (c2 _).mono ?_); rintro e w2 ⟨rfl, h9⟩; have HS := Lib.hid (HS.out.up h9); obtain ⟨q0, q1, q2, q3, _⟩ := vc4 HS.out.v; clear h9))
        have hS : Hh w (some a) H.length cap k x s (n : Int) (World.drew _) := HS.out.up (Below.refl _ _).drew
        refine wp_region_held_drew (S := Hh w (some a) H.length cap k x s (n : Int)) (by kernel_rfl) hS (fun hHeld => ?_)
        refine hH_take (i := 0) (v := .agg #[.slice (some a) H.length cap]) (d := 12) (l2 := #[true, false, false, false, false, false, false, false, false, false, false, false, false, false, false, false, false]) rfl (by kernel_rfl) (by kernel_rfl) (by kernel_rfl) (fun _ _ _ h => h) (by kernel_rfl) ?_ (by assumption) rfl (by kernel_rfl) ?_
        · intro w hSw; exact ex_load_at (h1_load2 hSw.h) rfl rfl
        simp only [List.set]
        refine hH_take (i := 1) (v := ?_) (d := 13) (l2 := #[true, true, false, false, false, false, false, false, false, false, false, false, false, false, false, false, false]) rfl (by kernel_rfl) (by kernel_rfl) (by kernel_rfl) (fun _ _ _ h => h) (by kernel_rfl) ?_ (by assumption) rfl (by kernel_rfl) ?_
        rotate_left
        · intro w hSw; (try dsimp only at hSw); go_simp; (try with_reducible rfl)
        simp only [List.set]
        refine hH_take (i := 2) (v := ?_) (d := 14) (l2 := #[true, true, true, false, false, false, false, false, false, false, false, false, false, false, false, false, false]) rfl (by kernel_rfl) (by kernel_rfl) (by kernel_rfl) (fun _ _ _ h => h) (by kernel_rfl) ?_ (by assumption) rfl (by kernel_rfl) ?_
        rotate_left
        · intro w hSw; have q := (vc4 hSw.v).2.2.2.1; go_simp; (try with_reducible rfl)
        simp only [List.set]
        refine wpAnyH_ready (rs := [3]) (by kernel_rfl) (by simp) ?_
        refine AllReadyH.cons rfl (fun K hK => ?_) AllReadyH.nil
        go_simp
        (go_at_call 66; (with_reducible refine (cT _).mono ?_); rintro e wt ⟨rfl, h9⟩; have hS := hS.up h9; clear h9)
        refine hK.out _ _ hS (fun hHeld => ?_)
        clear hK K
        refine hH_take (i := 4) (v := ?_) (d := 16) (l2 := #[true, true, true, true, true, false, false, false, false, false, false, false, false, false, false, false, false]) rfl (by kernel_rfl) (by kernel_rfl) (by kernel_rfl) (fun _ _ _ h => h) (by kernel_rfl) ?_ (by assumption) rfl (by kernel_rfl) ?_
        rotate_left
        · intro w hSw; (try dsimp only at hSw); go_simp; (try with_reducible rfl)
        simp only [List.set]
        refine hH_take (i := 5) (v := ?_) (d := 17) (l2 := #[true, true, true, true, true, true, false, false, false, false, false, false, false, false, false, false, false]) rfl (by kernel_rfl) (by kernel_rfl) (by kernel_rfl) (fun _ _ _ h => h) (by kernel_rfl) ?_ (by assumption) rfl (by kernel_rfl) ?_
        rotate_left
        · intro w hSw; (try dsimp only at hSw); go_simp; (try with_reducible rfl)
        simp only [List.set]
        refine hH_take (i := 6) (v := ?_) (d := 18) (l2 := #[true, true, true, true, true, true, true, false, false, false, false, false, false, false, false, false, false]) rfl (by kernel_rfl) (by kernel_rfl) (by kernel_rfl) (fun _ _ _ h => h) (by kernel_rfl) ?_ (by assumption) rfl (by kernel_rfl) ?_
        rotate_left
        · intro w hSw; have q := (vc4 hSw.v).1; go_simp; (try with_reducible rfl)
        simp only [List.set]
        refine hH_take (i := 7) (v := ?_) (d := 19) (l2 := #[true, true, true, true, true, true, true, true, false, false, false, false, false, false, false, false, false]) rfl (by kernel_rfl) (by kernel_rfl) (by kernel_rfl) (fun _ _ _ h => h) (by kernel_rfl) ?_ (by assumption) rfl (by kernel_rfl) ?_
        rotate_left
        · intro w hSw; (try dsimp only at hSw); go_simp; (try with_reducible rfl)
        simp only [List.set]
        refine hH_take (i := 8) (v := ?_) (d := 20) (l2 := #[true, true, true, true, true, true, true, true, true, false, false, false, false, false, false, false, false]) rfl (by kernel_rfl) (by kernel_rfl) (by kernel_rfl) (fun _ _ _ h => h) (by kernel_rfl) ?_ (by assumption) rfl (by kernel_rfl) ?_
        rotate_left
        · intro w hSw; have q := hSw.h; go_simp; (try with_reducible rfl)
        simp only [List.set]
        refine hH_take (i := 9) (v := ?_) (d := 21) (l2 := #[true, true, true, true, true, true, true, true, true, true, false, false, false, false, false, false, false]) rfl (by kernel_rfl) (by kernel_rfl) (by kernel_rfl) (fun _ _ _ h => h) (by kernel_rfl) ?_ (by assumption) rfl (by kernel_rfl) ?_
        rotate_left
        · intro w hSw; (try dsimp only at hSw); go_simp; (try with_reducible rfl)
        simp only [List.set]
        refine hH_take (i := 10) (v := ?_) (d := 22) (l2 := #[true, true, true, true, true, true, true, true, true, true, true, false, false, false, false, false, false]) rfl (by kernel_rfl) (by kernel_rfl) (by kernel_rfl) (fun _ _ _ h => h) (by kernel_rfl) ?_ (by assumption) rfl (by kernel_rfl) ?_
        rotate_left
        · intro w hSw; have q := (vc4 hSw.v).2.2.2.1; go_simp; (try with_reducible rfl)
        simp only [List.set]
        refine hH_take (i := 11) (v := ?_) (d := 23) (l2 := #[true, true, true, true, true, true, true, true, true, true, true, true, false, false, false, false, false]) rfl (by kernel_rfl) (by kernel_rfl) (by kernel_rfl) (fun _ _ _ h => h) (by kernel_rfl) ?_ (by assumption) rfl (by kernel_rfl) ?_
        rotate_left
        · intro w hSw; (try dsimp only at hSw); go_simp; (try with_reducible rfl)
        simp only [List.set]
        refine hH_take (i := 12) (v := .agg (obA o)) (d := 24) (l2 := #[true, true, true, true, true, true, true, true, true, true, true, true, true, false, false, false, false]) rfl (by kernel_rfl) (by kernel_rfl) (by kernel_rfl) (fun _ _ _ h => h) (by kernel_rfl) ?_ (by assumption) rfl (by kernel_rfl) ?_
        · intro w hSw; exact ex_load_at (oa_at (hcl _ hSw.below)) rfl rfl
        simp only [List.set]
        refine wpAnyH_ready (rs := [13]) (by kernel_rfl) (by simp) ?_
        refine AllReadyH.cons rfl (fun K hK => ?_) AllReadyH.nil
        go_simp
        (go_at_call 117; (with_reducible refine (cKd _).mono ?_); rintro e wk ⟨rfl, h9⟩; have hS := hS.up h9; clear h9)
        refine hK.out _ _ hS (fun hHeld => ?_)
        clear hK K
        refine hH_take (i := 14) (v := ?_) (d := 26) (l2 := #[true, true, true, true, true, true, true, true, true, true, true, true, true, true, true, false, false]) rfl (by kernel_rfl) (by kernel_rfl) (by kernel_rfl) (fun _ _ _ h => h) (by kernel_rfl) ?_ (by assumption) rfl (by kernel_rfl) ?_
        rotate_left
        · intro w hSw; (try dsimp only at hSw); go_simp; (try with_reducible rfl)
        simp only [List.set]
        refine hH_take (i := 15) (v := ?_) (d := 27) (l2 := #[true, true, true, true, true, true, true, true, true, true, true, true, true, true, true, true, false]) rfl (by kernel_rfl) (by kernel_rfl) (by kernel_rfl) (fun _ _ _ h => h) (by kernel_rfl) ?_ (by assumption) rfl (by kernel_rfl) ?_
        rotate_left
        · intro w hSw; (try dsimp only at hSw); go_simp; (try with_reducible rfl)
        simp only [List.set]
        refine hH_take (i := 16) (v := ?_) (d := 4) (l2 := #[true, true, true, true, true, true, true, true, true, true, true, true, true, true, true, true, true]) rfl (by kernel_rfl) (by kernel_rfl) (by kernel_rfl) (fun _ _ _ h => h) (by kernel_rfl) ?_ (by assumption) rfl (by kernel_rfl) ?_
        rotate_left
        · intro w hSw; (try dsimp only at hSw); go_simp; (try with_reducible rfl)
        simp only [List.set]
        refine wpAnyH_done (by kernel_rfl) ?_ _
        go_wp2_with (fail)
        go_ret
        exact ⟨rfl, hS.below⟩
      · rw [holds_out hlt hn]
        have hin : inB H (n : Int) = false := decide_eq_false (fun h => hlt (by omega))
        rw [hin] at cT
        obtain ⟨k, x, s, r⟩ := v
        dsimp only at *
        subst hn
        clear hr0 hm ho hmay hin hH hmH hlt
        go_enter Tryz.func99, Tryz.ntmps99
        go_wp2_with (first
          | (go_at_call 102; (with_reducible refine (c1 _).mono ?_); rintro e w1 ⟨rfl, h9⟩; have HS := Lib.hid (HS.out.up h9); obtain ⟨q0, q1, q2, q3, _⟩ := vc4 HS.out.v; clear h9)
          | (go_at_call 62; (with_reducible refine (c2 _).mono ?_); rintro e w2 ⟨rfl, h9⟩; have HS := Lib.hid (HS.out.up h9); obtain ⟨q0, q1, q2, q3, _⟩ := vc4 HS.out.v; clear h9))
        have hS : Hh w A H.length cap k x s (n : Int) (World.drew _) := HS.out.up (Below.refl _ _).drew
        refine wp_region_held_drew (S := Hh w A H.length cap k x s (n : Int)) (by kernel_rfl) hS (fun hHeld => ?_)
        refine hH_take (i := 0) (v := .agg #[.slice A H.length cap]) (d := 12) (l2 := #[true, false, false, false, false, false, false, false, false, false, false, false, false, false, false, false, false]) rfl (by kernel_rfl) (by kernel_rfl) (by kernel_rfl) (fun _ _ _ h => h) (by kernel_rfl) ?_ (by assumption) rfl (by kernel_rfl) ?_
        · intro w hSw; exact ex_load_at (h1_load2 hSw.h) rfl rfl
        simp only [List.set]
        refine hH_take (i := 1) (v := ?_) (d := 13) (l2 := #[true, true, false, false, false, false, false, false, false, false, false, false, false, false, false, false, false]) rfl (by kernel_rfl) (by kernel_rfl) (by kernel_rfl) (fun _ _ _ h => h) (by kernel_rfl) ?_ (by assumption) rfl (by kernel_rfl) ?_
        rotate_left
        · intro w hSw; (try dsimp only at hSw); go_simp; (try with_reducible rfl)
        simp only [List.set]
        refine hH_take (i := 2) (v := ?_) (d := 14) (l2 := #[true, true, true, false, false, false, false, false, false, false, false, false, false, false, false, false, false]) rfl (by kernel_rfl) (by kernel_rfl) (by kernel_rfl) (fun _ _ _ h => h) (by kernel_rfl) ?_ (by assumption) rfl (by kernel_rfl) ?_
        rotate_left
        · intro w hSw; have q := (vc4 hSw.v).2.2.2.1; go_simp; (try with_reducible rfl)
        simp only [List.set]
        refine wpAnyH_ready (rs := [3]) (by kernel_rfl) (by simp) ?_
        refine AllReadyH.cons rfl (fun K hK => ?_) AllReadyH.nil
        go_simp
        (go_at_call 66; (with_reducible refine (cT _).mono ?_); rintro e wt ⟨rfl, h9⟩; have hS := hS.up h9; clear h9)
        refine hK.out _ _ hS (fun hHeld => ?_)
        clear hK K
        refine hH_take (i := 4) (v := ?_) (d := 16) (l2 := #[true, true, true, true, true, false, false, false, false, false, false, false, false, false, false, false, false]) rfl (by kernel_rfl) (by kernel_rfl) (by kernel_rfl) (fun _ _ _ h => h) (by kernel_rfl) ?_ (by assumption) rfl (by kernel_rfl) ?_
        rotate_left
        · intro w hSw; (try dsimp only at hSw); go_simp; (try with_reducible rfl)
        simp only [List.set]
        refine hH_drop (i := 5) (d := 17) (l2 := #[true, true, true, true, true, true, false, false, false, false, false, false, false, false, false, false, false]) rfl (by kernel_rfl) (by kernel_rfl) (by kernel_rfl) (fun _ _ _ h => h) (by kernel_rfl) (by assumption) rfl (by kernel_rfl) ?_
        simp only [List.set]
        refine hH_drop (i := 6) (d := 18) (l2 := #[true, true, true, true, true, true, true, false, false, false, false, false, false, false, false, false, false]) rfl (by kernel_rfl) (by kernel_rfl) (by kernel_rfl) (fun _ _ _ h => h) (by kernel_rfl) (by assumption) rfl (by kernel_rfl) ?_
        simp only [List.set]
        refine hH_drop (i := 7) (d := 19) (l2 := #[true, true, true, true, true, true, true, true, false, false, false, false, false, false, false, false, false]) rfl (by kernel_rfl) (by kernel_rfl) (by kernel_rfl) (fun _ _ _ h => h) (by kernel_rfl) (by assumption) rfl (by kernel_rfl) ?_
        simp only [List.set]
        refine hH_drop (i := 8) (d := 20) (l2 := #[true, true, true, true, true, true, true, true, true, false, false, false, false, false, false, false, false]) rfl (by kernel_rfl) (by kernel_rfl) (by kernel_rfl) (fun _ _ _ h => h) (by kernel_rfl) (by assumption) rfl (by kernel_rfl) ?_
        simp only [List.set]
        refine hH_drop (i := 9) (d := 21) (l2 := #[true, true, true, true, true, true, true, true, true, true, false, false, false, false, false, false, false]) rfl (by kernel_rfl) (by kernel_rfl) (by kernel_rfl) (fun _ _ _ h => h) (by kernel_rfl) (by assumption) rfl (by kernel_rfl) ?_
        simp only [List.set]
        refine hH_drop (i := 10) (d := 22) (l2 := #[true, true, true, true, true, true, true, true, true, true, true, false, false, false, false, false, false]) rfl (by kernel_rfl) (by kernel_rfl) (by kernel_rfl) (fun _ _ _ h => h) (by kernel_rfl) (by assumption) rfl (by kernel_rfl) ?_
        simp only [List.set]
        refine hH_drop (i := 11) (d := 23) (l2 := #[true, true, true, true, true, true, true, true, true, true, true, true, false, false, false, false, false]) rfl (by kernel_rfl) (by kernel_rfl) (by kernel_rfl) (fun _ _ _ h => h) (by kernel_rfl) (by assumption) rfl (by kernel_rfl) ?_
        simp only [List.set]
        refine hH_drop (i := 12) (d := 24) (l2 := #[true, true, true, true, true, true, true, true, true, true, true, true, true, false, false, false, false]) rfl (by kernel_rfl) (by kernel_rfl) (by kernel_rfl) (fun _ _ _ h => h) (by kernel_rfl) (by assumption) rfl (by kernel_rfl) ?_
        simp only [List.set]
        refine hH_drop (i := 13) (d := 25) (l2 := #[true, true, true, true, true, true, true, true, true, true, true, true, true, true, false, false, false]) rfl (by kernel_rfl) (by kernel_rfl) (by kernel_rfl) (fun _ _ _ h => h) (by kernel_rfl) (by assumption) rfl (by kernel_rfl) ?_
        simp only [List.set]
        refine hH_drop (i := 14) (d := 26) (l2 := #[true, true, true, true, true, true, true, true, true, true, true, true, true, true, true, false, false]) rfl (by kernel_rfl) (by kernel_rfl) (by kernel_rfl) (fun _ _ _ h => h) (by kernel_rfl) (by assumption) rfl (by kernel_rfl) ?_
        simp only [List.set]
        refine hH_take (i := 15) (v := ?_) (d := 27) (l2 := #[true, true, true, true, true, true, true, true, true, true, true, true, true, true, true, true, false]) rfl (by kernel_rfl) (by kernel_rfl) (by kernel_rfl) (fun _ _ _ h => h) (by kernel_rfl) ?_ (by assumption) rfl (by kernel_rfl) ?_
        rotate_left
        · intro w hSw; (try dsimp only at hSw); go_simp; (try with_reducible rfl)
        simp only [List.set]
        refine hH_take (i := 16) (v := ?_) (d := 4) (l2 := #[true, true, true, true, true, true, true, true, true, true, true, true, true, true, true, true, true]) rfl (by kernel_rfl) (by kernel_rfl) (by kernel_rfl) (fun _ _ _ h => h) (by kernel_rfl) ?_ (by assumption) rfl (by kernel_rfl) ?_
        rotate_left
        · intro w hSw; (try dsimp only at hSw); go_simp; (try with_reducible rfl)
        simp only [List.set]
        refine wpAnyH_done (by kernel_rfl) ?_ _
        go_wp2_with (fail)
        go_ret
        exact ⟨rfl, hS.below⟩
end Go.Proofs.YtkcikdggfbjedaaGreatDoor.S
/-
  ordinary: leads, behind, Loops.
-/
namespace Go.Proofs.YtkcikdggfbjedaaGreatDoor.S
open Go.RowKit Go.Lib Fl
open Classical

noncomputable def leadsV (H : List Ob) (v : Vq) : Bool := (v.k == 1 || objQ v) && holdsB H v
set_option maxHeartbeats 4000000 in
set_option maxRecDepth 1000000 in
theorem leads_o (A : Option Addr) (H : List Ob) (cap : Nat) (v : Vq) (w : World) (hH : HIn w A H cap) (hmH : mayH H = true) (hv : v.In) : Calls Tryz.prog 67 #[.agg #[.slice A H.length cap], .agg #[.int .u8 v.k, .float .f64 v.x, .string v.s, .int .i64 v.r]] w fun e w' => e = .returned (.bool (leadsV H v)) ∧ Below w.heap.size w w' := by
  have c2 := fun w => IsObject_q v hv.1 w
  have cH := fun W (hb : Below w.heap.size w W) => holds_o A H cap v W (hH.up hb) hmH hv
  have HS := Lib.hid (hh_start w A H.length cap v.k v.x v.s v.r)
  have q4 := HS.out.h
  obtain ⟨q0, q1, q2, q3, _⟩ := vc4 HS.out.v
  unfold leadsV
  clear hH
  generalize holdsB H v = b at *
  cases e1 : (v.k == 1) <;> cases e2 : objQ v
  all_goals
    rw [e2] at c2
    go_enter Tryz.func67, Tryz.ntmps67
    go_wp2_with (first
      | (go_at_call 62; (with_reducible refine (c2 _).mono ?_); rintro e w2 ⟨rfl, h9⟩; have HS := Lib.hid (HS.out.up h9); have q4 := HS.out.h; obtain ⟨q0, q1, q2, q3, _⟩ := vc4 HS.out.v; clear h9)
      | (go_at_call 99; (with_reducible refine (cH _ HS.out.below).mono ?_); rintro e w3 ⟨rfl, h9⟩; have HS := Lib.hid (HS.out.up h9); clear h9))
    go_ret
    exact ⟨rfl, HS.out.below⟩
/-- the object n stands behind a value -/
inductive Bhd (H : List Ob) (n : Int) : Vq → Prop where
  | here {v : Vq} : objQ v = true → v.r = n → Bhd H n v
  | next {v : Vq} {o : Ob} : objQ v = true → H[v.r.toNat]? = some o → Bhd H n o.proto → Bhd H n v
/-- a line ends within f steps -/
def Fu (H : List Ob) : Nat → Vq → Prop
  | 0, v => objQ v = false
  | f + 1, v => objQ v = true → ∀ o, H[v.r.toNat]? = some o → Fu H f o.proto
theorem dep_fu {H : List Ob} {p d : Nat} (h : Dep H p d) : ∀ v : Vq, v.r.toNat = p → Fu H (d + 1) v := by
  induction h with
  | @zero p e =>
    intro v hv _ o ho
    rw [hv] at ho
    unfold nextO at e
    rw [ho] at e
    dsimp only at e
    show objQ o.proto = false
    cases c : objQ o.proto with
    | false => rfl
    | true => rw [c] at e; cases e
  | @succ p q d e _ ih =>
    intro v hv _ o ho
    rw [hv] at ho
    unfold nextO at e
    rw [ho] at e
    dsimp only at e
    cases c : objQ o.proto with
    | false => rw [c] at e; cases e
    | true =>
      rw [c] at e
      exact ih o.proto (Option.some.inj e)
theorem fu_some {H : List Ob} (hm : mayH H = true) (v : Vq) : ∃ f, Fu H f v := by
  obtain ⟨d, hd⟩ := (ends_all (mayH_iff.1 hm).2.2 v.r.toNat).dep
  exact ⟨d + 1, dep_fu hd v rfl⟩
theorem bhd_no {H : List Ob} {n : Int} {v : Vq} (h : objQ v = false) : ¬ Bhd H n v := fun hb => by
  cases hb with
  | here e _ => rw [h] at e; cases e
  | next e _ _ => rw [h] at e; cases e
theorem bhd_next {H : List Ob} {n : Int} {v : Vq} {o : Ob} (hq : objQ v = true) (hn : ¬ v.r = n) (ho : H[v.r.toNat]? = some o) : Bhd H n v ↔ Bhd H n o.proto := by
  refine ⟨fun hb => ?_, fun hb => .next hq ho hb⟩
  cases hb with
  | here _ e => exact absurd e hn
  | next _ e h => rw [ho] at e; obtain rfl := Option.some.inj e; exact h
/-- a value that may be asked about -/
def OkV (H : List Ob) (v : Vq) : Prop := objQ v = true → ∃ m : Nat, v.r = m ∧ m < H.length
theorem vok_holds {H : List Ob} {v : Vq} (h : holdsB H v = true) : OkV H v := fun ho => by
  obtain ⟨m, hm⟩ := Int.eq_ofNat_of_zero_le (holds_ref h ho)
  refine ⟨m, hm, ?_⟩
  unfold holdsB at h
  rw [Bool.and_eq_true, ho, Bool.not_true, Bool.false_or] at h
  have hr := h.2
  unfold refB at hr
  rw [hm, Int.toNat_natCast] at hr
  cases e2 : H[m]? with
  | none => rw [e2] at hr; cases hr
  | some u => exact (List.getElem?_eq_some_iff.1 e2).1
theorem vok_proto {H : List Ob} (hm : mayH H = true) {m : Nat} (h : m < H.length) : OkV H H[m].proto := vok_holds (may_holds ((mayH_iff.1 hm).2.1 m h) (vm_p _))
set_option maxHeartbeats 4000000 in
set_option maxRecDepth 1000000 in
theorem behind_o (A : Option Addr) (H : List Ob) (cap : Nat) (n : Int) (v : Vq) (w : World) (hH : HIn w A H cap) (hmH : mayH H = true) (hv : 0 ≤ v.k) (hok : OkV H v) :
    Calls Tryz.prog 68 #[.agg #[.slice A H.length cap], .int .i64 n, .agg #[.int .u8 v.k, .float .f64 v.x, .string v.s, .int .i64 v.r]] w fun e w' => e = .returned (.bool (decide (Bhd H n v))) ∧ Below w.heap.size w w' := by
  obtain ⟨f, hf⟩ := fu_some hmH v
  obtain ⟨R, hR⟩ : ∃ R, R = decide (Bhd H n v) := ⟨_, rfl⟩
  have HS := Lib.hid (hh_start w A H.length cap v.k v.x v.s v.r)
  have hst : Hid (∃ u : Vq, Hh w A H.length cap u.k u.x u.s u.r ((w.alloc (.cells #[.slice A H.length cap] 24)).alloc (.cells #[.int .u8 v.k, .float .f64 v.x, .string v.s, .int .i64 v.r] 48)) ∧ 0 ≤ u.k ∧ OkV H u ∧ Fu H f u ∧ R = decide (Bhd H n u)) := Lib.hid ⟨v, HS.out, hv, hok, hf, hR⟩
  rw [← hR]
  have HH := Lib.hid hH
  have hfew := hH.few
  clear hH hf hR hv hok HS
  go_enter Tryz.func68, Tryz.ntmps68
  go_wp2
  go_loopg [8] f (fun kx s8 wr => Hid (∃ u : Vq, Hh w A H.length cap u.k u.x u.s u.r wr ∧ 0 ≤ u.k ∧ OkV H u ∧ Fu H kx u ∧ R = decide (Bhd H n u)))
  case atStart => exact hst
  case round =>
    obtain ⟨u, hS, hu0, huk, huf, huR⟩ := hrel.out
    have HS := Lib.hid hS
    have q4 := hS.h
    obtain ⟨q0, q1, q2, q3, _⟩ := vc4 hS.v
    have c2 := fun w => IsObject_q u hu0 w
    clear hrel hS hst
    cases ho : objQ u with
    | false =>
      rw [ho] at c2
      obtain rfl : R = false := by rw [huR]; exact decide_eq_false (bhd_no ho)
      clear huR huf huk
      go_wp2_with (go_at_call 62; (with_reducible refine (c2 _).mono ?_); rintro e w2 ⟨rfl, h9⟩; have HS := Lib.hid (HS.out.up h9); clear h9)
      go_ret
      exact ⟨rfl, HS.out.below⟩
    | true =>
      rw [ho] at c2
      obtain ⟨m, hm, hml⟩ := huk ho
      cases gk with
      | zero => exact absurd huf (by unfold Fu; rw [ho]; simp)
      | succ kx =>
        by_cases hn : u.r = n
        · obtain rfl : R = true := by rw [huR]; exact decide_eq_true (.here ho hn)
          clear huR huf huk hml hm
          have hnb : (u.r == n) = true := beq_iff_eq.2 hn
          clear hn
          go_wp2_with (go_at_call 62; (with_reducible refine (c2 _).mono ?_); rintro e w2 ⟨rfl, h9⟩; have HS := Lib.hid (HS.out.up h9); have q4 := HS.out.h; obtain ⟨q0, q1, q2, q3, _⟩ := vc4 HS.out.v; clear h9)
          go_ret
          exact ⟨rfl, HS.out.below⟩
        · have hnb : (u.r == n) = false := beq_eq_false_iff_ne.2 hn
          have hHm : H[u.r.toNat]? = some H[m] := by rw [hm, Int.toNat_natCast, List.getElem?_eq_getElem hml]
          have hnext : Hid (OkV H H[m].proto ∧ Fu H kx H[m].proto ∧ R = decide (Bhd H n H[m].proto)) := Lib.hid ⟨vok_proto hmH hml, huf ho _ hHm, by rw [huR]; exact decide_eq_decide.2 (bhd_next ho hn hHm)⟩
          obtain ⟨a, rfl, hab, hof, _⟩ := HH.out.at hml
          have hp0 := (HH.out.inn H[m] (List.getElem_mem hml)).proto.1
          generalize H[m] = o at *
          obtain ⟨uk, ux, us, ur⟩ := u
          dsimp only at *
          subst hm
          have hmz : (m : Int) < (H.length : Int) := by omega
          have hm0 : (0 : Int) ≤ (m : Int) := by omega
          have hc1 := vq_one o.proto.k o.proto.x o.proto.s o.proto.r
          have hi1 : (Tryz.prog.info? 48).map (·.size) = some (#[Value.int .u8 o.proto.k, .float .f64 o.proto.x, .string o.proto.s, .int .i64 o.proto.r] : Array Value).size := vsz4
          clear huR huf huk hHm hu0 ho hn
          go_wp2_with (first
            | (go_at_call 62; (with_reducible refine (c2 _).mono ?_); rintro e w2 ⟨rfl, h9⟩; have HS := Lib.hid (HS.out.up h9); have q4 := HS.out.h; obtain ⟨q0, q1, q2, q3, _⟩ := vc4 HS.out.v; have hpp := (hof.up HS.out.below).proto; have hb1 := HS.out.v; have hB1 := HS.out.below; clear h9)
            | ((with_reducible refine va_load ?_ rfl rfl hpp ?_); (rfl))
            | ((with_reducible refine t_store rfl rfl rfl rfl hb1 hi1 ?_ hc1 hB1 (by omega) ?_); (rfl); intro W3 hb3 hW3 hO3 hz3))
          go_roundg kx
          case measure => omega
          case rel =>
            refine Lib.hid ⟨o.proto, ⟨hb3, ?_, hW3, by rw [hz3]; exact HS.out.lt⟩, hp0, hnext.out⟩
            exact (World.cell?_of_block (hO3 w.heap.size (by omega))).trans HS.out.h
def LoopsTo (H : List Ob) (n : Int) (v : Vq) (w : World) (e : Ending) (w' : World) : Prop := Below w.heap.size w w' ∧ e = .returned (.tuple #[.bool (bif chkH H == 0 && (inB H n && leadsV H v) then decide (Bhd H n v) else false), .int .i64 (bif chkH H == 0 then (bif inB H n then (bif leadsV H v then 0 else 9) else 2) else chkH H)])
set_option maxHeartbeats 4000000 in
set_option maxRecDepth 1000000 in
theorem Loops_o (A : Option Addr) (H : List Ob) (cap : Nat) (n : Int) (v : Vq) (w : World) (hH : HIn w A H cap) (hv : v.In) (htab : TabHere w) :
    Calls Tryz.prog 38 #[.agg #[.slice A H.length cap], .int .i64 n, .agg #[.int .u8 v.k, .float .f64 v.x, .string v.s, .int .i64 v.r]] w (LoopsTo H n v w) := by
  have cC := fun W (hb : Below w.heap.size w W) => Check_h A H cap W (hH.up hb) (tab_up htab hb)
  have cT := fun W => there_o H A cap n W
  have cL := fun hmH W (hb : Below w.heap.size w W) => leads_o A H cap v W (hH.up hb) hmH hv
  have cB := fun hmH hok W (hb : Below w.heap.size w W) => behind_o A H cap n v W (hH.up hb) hmH hv.1 hok
  have HS := Lib.hid (hh_start w A H.length cap v.k v.x v.s v.r)
  have q4 := HS.out.h
  obtain ⟨q0, q1, q2, q3, _⟩ := vc4 HS.out.v
  have hcz := @chk_zero H
  unfold LoopsTo
  clear hH htab
  cases e1 : (chkH H == 0) with
  | false =>
    have e1b : (chkH H != 0) = true := by unfold bne; rw [e1]; rfl
    clear cL cB cT hcz
    generalize chkH H = E at *
    go_enter Tryz.func38, Tryz.ntmps38
    go_wp2_with (go_at_call 19; (with_reducible refine (cC _ HS.out.below).mono ?_); rintro e w2 ⟨rfl, h9⟩; have HS := Lib.hid (HS.out.up h9); clear h9)
    exact rr_end Tryz.results38 rfl rfl ⟨HS.out.below, rfl⟩
  | true =>
    have h0 : chkH H = 0 := beq_iff_eq.1 e1
    have hmH := hcz.1 h0
    rw [h0] at cC
    have cL := cL hmH
    have cB := cB hmH
    cases e2 : inB H n with
    | false =>
      rw [e2] at cT
      clear cL cB
      go_enter Tryz.func38, Tryz.ntmps38
      go_wp2_with (first
        | (go_at_call 19; (with_reducible refine (cC _ HS.out.below).mono ?_); rintro e w2 ⟨rfl, h9⟩; have HS := Lib.hid (HS.out.up h9); have q4 := HS.out.h; clear h9)
        | (go_at_call 66; (with_reducible refine (cT _).mono ?_); rintro e w3 ⟨rfl, h9⟩; have HS := Lib.hid (HS.out.up h9); have q4 := HS.out.h; clear h9))
      exact rr_end Tryz.results38 rfl rfl ⟨HS.out.below, rfl⟩
    | true =>
      rw [e2] at cT
      cases e3 : leadsV H v with
      | false =>
        rw [e3] at cL
        clear cB
        go_enter Tryz.func38, Tryz.ntmps38
        go_wp2_with (first
          | (go_at_call 19; (with_reducible refine (cC _ HS.out.below).mono ?_); rintro e w2 ⟨rfl, h9⟩; have HS := Lib.hid (HS.out.up h9); have q4 := HS.out.h; clear h9)
          | (go_at_call 66; (with_reducible refine (cT _).mono ?_); rintro e w3 ⟨rfl, h9⟩; have HS := Lib.hid (HS.out.up h9); have q4 := HS.out.h; obtain ⟨q0, q1, q2, q3, _⟩ := vc4 HS.out.v; clear h9)
          | (go_at_call 67; (with_reducible refine (cL _ HS.out.below).mono ?_); rintro e w4 ⟨rfl, h9⟩; have HS := Lib.hid (HS.out.up h9); have q4 := HS.out.h; obtain ⟨q0, q1, q2, q3, _⟩ := vc4 HS.out.v; clear h9))
        exact rr_end Tryz.results38 rfl rfl ⟨HS.out.below, rfl⟩
      | true =>
        have hok : OkV H v := by
          unfold leadsV at e3
          rw [Bool.and_eq_true] at e3
          exact vok_holds e3.2
        rw [e3] at cL
        have cB := cB hok
        generalize decide (Bhd H n v) = R at *
        go_enter Tryz.func38, Tryz.ntmps38
        go_wp2_with (first
          | (go_at_call 19; (with_reducible refine (cC _ HS.out.below).mono ?_); rintro e w2 ⟨rfl, h9⟩; have HS := Lib.hid (HS.out.up h9); have q4 := HS.out.h; clear h9)
          | (go_at_call 66; (with_reducible refine (cT _).mono ?_); rintro e w3 ⟨rfl, h9⟩; have HS := Lib.hid (HS.out.up h9); have q4 := HS.out.h; obtain ⟨q0, q1, q2, q3, _⟩ := vc4 HS.out.v; clear h9)
          | (go_at_call 67; (with_reducible refine (cL _ HS.out.below).mono ?_); rintro e w4 ⟨rfl, h9⟩; have HS := Lib.hid (HS.out.up h9); have q4 := HS.out.h; obtain ⟨q0, q1, q2, q3, _⟩ := vc4 HS.out.v; clear h9)
          | (go_at_call 68; (with_reducible refine (cB _ HS.out.below).mono ?_); rintro e w5 ⟨rfl, h9⟩; have HS := Lib.hid (HS.out.up h9); clear h9))
        exact rr_end Tryz.results38 rfl rfl ⟨HS.out.below, rfl⟩
end Go.Proofs.YtkcikdggfbjedaaGreatDoor.S
/-
  ordinary: asks, what comes of them, and an object that is asked.
-/
namespace Go.Proofs.YtkcikdggfbjedaaGreatDoor.S
open Go.RowKit Go.Lib Fl
open Classical

/-- an ask; where its args lie counts for nothing -/
structure Ak where
  m : Int
  n : Int
  k : Ky
  d : Dq
  v : Vq
  rv : Vq
  aa : Option Addr
  an : Nat
  ac : Nat
def akl (a : Ak) : List Value := [.int .u8 a.m, .int .i64 a.n, .string a.k.str, .int .i64 a.k.sym, .int .u8 a.d.h, .int .u8 a.d.a.k, .float .f64 a.d.a.x, .string a.d.a.s, .int .i64 a.d.a.r, .int .u8 a.d.b.k, .float .f64 a.d.b.x, .string a.d.b.s, .int .i64 a.d.b.r, .int .u8 a.d.c.k, .float .f64 a.d.c.x, .string a.d.c.s, .int .i64 a.d.c.r, .bool a.d.p, .bool a.d.q, .bool a.d.z,
  .int .u8 a.v.k, .float .f64 a.v.x, .string a.v.s, .int .i64 a.v.r, .int .u8 a.rv.k, .float .f64 a.rv.x, .string a.rv.s, .int .i64 a.rv.r, .slice a.aa a.an a.ac]
def akA (a : Ak) : Array Value := (akl a).toArray
theorem ask_sz : (Tryz.prog.info? 60).map (·.size) = some 29 := by kernel_rfl
/-- what came of an ask -/
structure Oq where
  kind : Int
  v : Vq
  b : Bool
  found : Bool
  d : Dq
  ka : Option Addr
  kn : Nat
  kc : Nat
  err : Int
  text : ByteArray
def oql (o : Oq) : List Value := [.int .u8 o.kind, .int .u8 o.v.k, .float .f64 o.v.x, .string o.v.s, .int .i64 o.v.r, .bool o.b, .bool o.found, .int .u8 o.d.h, .int .u8 o.d.a.k, .float .f64 o.d.a.x, .string o.d.a.s, .int .i64 o.d.a.r, .int .u8 o.d.b.k, .float .f64 o.d.b.x, .string o.d.b.s, .int .i64 o.d.b.r, .int .u8 o.d.c.k, .float .f64 o.d.c.x, .string o.d.c.s, .int .i64 o.d.c.r, .bool o.d.p, .bool o.d.q, .bool o.d.z,
  .slice o.ka o.kn o.kc, .int .u8 o.err, .string o.text]
def oqA (o : Oq) : Array Value := (oql o).toArray
theorem out_sz : (Tryz.prog.info? 55).map (·.size) = some 26 := by kernel_rfl
theorem oqA_one (o : Oq) : (oqA o).all (·.oneCell') = true := cells_one (l := oql o) rfl
theorem oq_info (o : Oq) : (Tryz.prog.info? 55).map (·.size) = some (oqA o).size := out_sz
def yesO (b : Bool) : Oq := ⟨1, v0, b, false, dz 0, none, 0, 0, 0, ⟨#[]⟩⟩
/-- an object that is asked: its heap, where it lies, the ask -/
def asl (B m : Nat) (p : Addr) (a : Ak) : List Value := [.slice (some ⟨B, 0, none⟩) m m, .pointer (some p)] ++ akl a
def asA (B m : Nat) (p : Addr) (a : Ak) : Array Value := (asl B m p a).toArray
theorem as_sz : (Tryz.prog.info? 103).map (·.size) = some 31 := by kernel_rfl
theorem oq_end {f : Func} {i : Nat} {t : TypeId} {Q : Ending → World → Prop} {tmps : Array Value} {W : World} {g : Nat} {o : Oq} (hf : f.results = #[.cell i 55]) (h2 : tmps.getD i undef = .pointer (some ⟨g, 0, none⟩)) (hb : W.heap[g]? = some (.cells (oqA o) t (0, 0)))
    (hQ : Q (.returned (.agg (oqA o))) W) : bodyPost Tryz.prog f Q .ret { tmps := tmps, defers := [] } W :=
  bodyPost_ret (results_cell_row hf tmps W g t _ (0, 0) _ h2 hb Tryz.underlying55 rfl out_sz) rfl hQ
set_option maxHeartbeats 4000000 in
set_option maxRecDepth 1000000 in
theorem answer_o (b : Bool) (w : World) : Calls Tryz.prog 112 #[.bool b] w fun e w' => e = .returned (.agg (oqA (yesO b))) ∧ Below w.heap.size w w' := by
  go_enter Tryz.func112, Tryz.ntmps112
  go_wp2_with (refine t_store (cs := oqA (yesO b)) rfl rfl rfl rfl (heap_alloc_new w _) (oq_info _) rfl (oqA_one _) (vzero w _) (Nat.le_refl _) ?_; intro W1 hb1 hW1 _ _)
  exact oq_end Tryz.results112 rfl hW1 ⟨rfl, hb1⟩
abbrev oz26 : Array Value := #[.int .u8 0, .int .u8 0, .float .f64 0, .string ⟨#[]⟩, .int .i64 0, .bool false, .bool false, .int .u8 0, .int .u8 0, .float .f64 0, .string ⟨#[]⟩, .int .i64 0, .int .u8 0, .float .f64 0, .string ⟨#[]⟩, .int .i64 0, .int .u8 0, .float .f64 0, .string ⟨#[]⟩, .int .i64 0, .bool false, .bool false, .bool false, .slice none 0 0, .int .u8 0, .string ⟨#[]⟩]
/-- a method's own blocks: the object that is asked by value, its result -/
structure Mw (w : World) (B m : Nat) (p : Addr) (a : Ak) (W : World) : Prop where
  below : Below w.heap.size w W
  a : W.heap[w.heap.size]? = some (.cells (asA B m p a) 103 (0, 0))
  r : W.heap[w.heap.size + 1]? = some (.cells oz26 55 (0, 0))
theorem Mw.up {w : World} {B m : Nat} {p : Addr} {a : Ak} {W W' : World} (h : Mw w B m p a W) (hb : Below W.heap.size W W') : Mw w B m p a W' := ⟨vb h.below hb, vblkn hb h.a, vblkn hb h.r⟩
theorem mw_start (w : World) (B m : Nat) (p : Addr) (a : Ak) : Mw w B m p a ((w.alloc (.cells (asA B m p a) 103)).alloc (.cells oz26 55)) := by
  obtain ⟨b1, b2⟩ := vblk2 (w := w) (Below.refl _ ((w.alloc (.cells (asA B m p a) 103)).alloc (.cells oz26 55)))
  exact ⟨vafter (vzero _ _), b1, b2⟩
theorem Mw.p {w : World} {B m : Nat} {p : Addr} {a : Ak} {W : World} (h : Mw w B m p a W) : W.cell? ⟨w.heap.size, 1, none⟩ = some (.pointer (some p)) := (vcells h.a 1).trans rfl
theorem Mw.h {w : World} {B m : Nat} {p : Addr} {a : Ak} {W : World} (h : Mw w B m p a W) : W.cell? ⟨w.heap.size, 0, none⟩ = some (.slice (some ⟨B, 0, none⟩) m m) := (vcells h.a 0).trans rfl
set_option maxHeartbeats 4000000 in
set_option maxRecDepth 1000000 in
theorem isExt_o (B m k : Nat) (a : Ak) (o : Ob) (w : World) (ho : OF w ⟨B, k * 18, none⟩ o) : Calls Tryz.prog 87 #[.agg (asA B m ⟨B, k * 18, none⟩ a)] w fun e w' => e = .returned (.agg (oqA (yesO o.ext))) ∧ Below w.heap.size w w' := by
  have HS := Lib.hid (mw_start w B m ⟨B, k * 18, none⟩ a)
  have h1 := HS.out.p
  have h2 := (ho.up HS.out.below).ext
  have hl := (ho.up HS.out.below).lt
  dsimp only at h2 hl
  have cA := fun W => answer_o o.ext W
  clear ho
  go_enter Tryz.func87, Tryz.ntmps87
  go_wp2_with (first
    | (go_at_call 112; (with_reducible refine (cA _).mono ?_); rintro e w1 ⟨rfl, h9⟩; have HS := Lib.hid (HS.out.up h9); have hr := HS.out.r; have hB := HS.out.below; clear h9)
    | (refine t_store (cs := oqA (yesO o.ext)) rfl rfl rfl rfl hr (oq_info _) rfl (oqA_one _) hB (by omega) ?_; intro W1 hb1 hW1 _ _))
  exact oq_end Tryz.results87 rfl hW1 ⟨rfl, hb1⟩
def protoO (o : Ob) : Oq := ⟨1, o.proto, false, false, dz 0, none, 0, 0, 0, ⟨#[]⟩⟩
set_option maxHeartbeats 4000000 in
set_option maxRecDepth 1000000 in
theorem getProto_o (B m k : Nat) (a : Ak) (o : Ob) (w : World) (ho : OF w ⟨B, k * 18, none⟩ o) : Calls Tryz.prog 85 #[.agg (asA B m ⟨B, k * 18, none⟩ a)] w fun e w' => e = .returned (.agg (oqA (protoO o))) ∧ Below w.heap.size w w' := by
  have HS := Lib.hid (mw_start w B m ⟨B, k * 18, none⟩ a)
  have h1 := HS.out.p
  have h2 := (ho.up HS.out.below).proto
  have hl := (ho.up HS.out.below).lt
  dsimp only at h2 hl
  have hr := HS.out.r
  have hB := HS.out.below
  clear ho
  go_enter Tryz.func85, Tryz.ntmps85
  go_wp2_with (first
    | ((with_reducible refine va_load ?_ rfl rfl h2 ?_); (rfl))
    | (refine t_store (cs := oqA (protoO o)) rfl rfl rfl rfl hr (oq_info _) rfl (oqA_one _) hB (by omega) ?_; intro W1 hb1 hW1 _ _))
  exact oq_end Tryz.results85 rfl hW1 ⟨rfl, hb1⟩
end Go.Proofs.YtkcikdggfbjedaaGreatDoor.S
/-
  ordinary: what a method changes: a field of an object among others.
-/
namespace Go.Proofs.YtkcikdggfbjedaaGreatDoor.S
open Go.RowKit Go.Lib Fl
open Classical

theorem hcl_parts (M : List Ob) (k : Nat) (h : k < M.length) : hcl M = (hcl M).take (k * 18) ++ ocl M[k] ++ (hcl M).drop (k * 18 + 18) := by
  have := hcl_put M k M[k] h
  rw [List.set_getElem_self] at this
  exact this.symm
theorem hcl_patch {M : List Ob} {k j : Nat} {l : List Value} {o : Ob} (h : k < M.length) (hj : j + l.length ≤ 18) (ho : (ocl M[k]).take j ++ l ++ (ocl M[k]).drop (j + l.length) = ocl o) :
    (hcl M).take (k * 18 + j) ++ l ++ (hcl M).drop (k * 18 + j + l.length) = hcl (M.set k o) := by
  have hA : ((hcl M).take (k * 18)).length = k * 18 := by rw [List.length_take, hcl_len]; omega
  have hB := ocl_len M[k]
  rw [← hcl_put M k o h, ← ho]
  have hp := hcl_parts M k h
  generalize (hcl M).take (k * 18) = A at *
  generalize (hcl M).drop (k * 18 + 18) = C at *
  generalize ocl M[k] = B at *
  have e1 : (hcl M).take (k * 18 + j) = A ++ B.take j := by
    rw [hp, List.append_assoc, List.take_append, hA, List.take_of_length_le (by omega), show k * 18 + j - k * 18 = j by omega, List.take_append_of_le_length (by omega)]
  have e2 : (hcl M).drop (k * 18 + j + l.length) = B.drop (j + l.length) ++ C := by
    rw [hp, List.append_assoc, List.drop_append, hA, List.drop_of_length_le (by omega), List.nil_append, show k * 18 + j + l.length - k * 18 = j + l.length by omega, List.drop_append_of_le_length (by omega)]
  rw [e1, e2]
  simp only [List.append_assoc]
/-- the objects in block B are M now, all else that lay is as it was -/
structure Chg (w : World) (B : Nat) (M : List Ob) (W : World) : Prop where
  g : w.grownBy W (some B)
  b : W.heap[B]? = some (.cells (hcl M).toArray 64 (0, 0))
theorem Chg.up {w : World} {B : Nat} {M : List Ob} {W W' : World} (h : Chg w B M W) (hw : w.heap.size ≤ W.heap.size) (hb : Below W.heap.size W W') : Chg w B M W' :=
  ⟨⟨hb.os.trans h.g.os, hb.tape.trans h.g.tape, hb.output.trans h.g.output, Nat.le_trans h.g.size hb.size, fun k hk hn => (hb.block k (by omega)).trans (h.g.block k hk hn)⟩, vblkn hb h.b⟩
theorem of_hcl {W : World} {B k : Nat} {M : List Ob} {t : TypeId} (h : W.heap[B]? = some (.cells (hcl M).toArray t (0, 0))) (hk : k < M.length) : OF W ⟨B, k * 18, none⟩ M[k] := by
  obtain ⟨a, h1, h2, h3⟩ := orow_b h (by omega)
  obtain rfl := Option.some.inj h1
  have e : (⟨B, 0, none⟩ : Addr).add (k * 18) = ⟨B, k * 18, none⟩ := by rw [Addr.add_mid, Nat.zero_add]
  exact of_cells (lt_blk h) fun j u hu => by have := h3 k hk j u hu; rwa [e] at this
section
variable {ops : Array Oper} {rest : List Oper} {o : Oper} {a : Act} {w : World} {Q : Exit → Act → World → Prop} {x y : Operand} {t : TypeId}
/-- a bool stored into a row -/
theorem bl_store {cs : List Value} {g m : Nat} {b : Bool} (hgd : o.guard = none) (ho : o.op = .store 4 x y) (hx : a.eval x = .pointer (some ⟨g, m, none⟩)) (hy : a.eval y = .bool b) (hg : w.heap[g]? = some (.cells cs.toArray t (0, 0))) (hm : m < cs.length)
    (h : ∀ W : World, W.heap[g]? = some (.cells (cs.take m ++ ([.bool b] : List Value) ++ cs.drop (m + 1)).toArray t (0, 0)) → w.grownBy W (some g) → W.heap.size = w.heap.size → wpList Tryz.prog ops Q rest (a.put o.dst undef) W) : wpList Tryz.prog ops Q (o :: rest) a w := by
  have hc : w.cell? ⟨g, m, none⟩ = some cs[m] := by rw [vcells hg m]; simp [hm]
  have hf : w.frozen? ⟨g, m, none⟩ = false := by simp [World.frozen?, hg]
  refine wpList_plain hgd fun K hK => ?_
  have hr : (Instr.storeAt 4 (.pointer (some ⟨g, m, none⟩)) (.bool b)).run Tryz.prog w = .ok () (w.setCell ⟨g, m, none⟩ (.bool b)) := by simp [go_sem, hc, hf]
  unfold Oper.wp execOp
  simp only [ho, hx, hy, hr, Sem.run_bind, Sem.run_pure, Result.andThen_ok]
  have e : cs.toArray.setIfInBounds m (.bool b) = (cs.take m ++ ([.bool b] : List Value) ++ cs.drop (m + 1)).toArray := by
    rw [List.setIfInBounds_toArray, List.set_eq_take_append_cons_drop, if_pos hm]
    simp
  refine hK _ _ (h _ (e ▸ vset1 hg m _) ⟨rfl, rfl, rfl, by simp, fun k _ hk => Below.heap_setCell w ⟨g, m, none⟩ _ k (fun e => hk (by rw [e]))⟩ (by simp))
/-- a value stored into a row -/
theorem vl_store {v : Vq} {g k : Nat} {cur : List Value} (hgd : o.guard = none) (ho : o.op = .store 48 x y) (hx : a.eval x = .pointer (some ⟨g, k, none⟩)) (hy : a.eval y = .agg #[.int .u8 v.k, .float .f64 v.x, .string v.s, .int .i64 v.r]) (hg : w.heap[g]? = some (.cells cur.toArray t (0, 0))) (hk : k + 4 ≤ cur.length)
    (h : ∀ W : World, W.heap[g]? = some (.cells (cur.take k ++ ([.int .u8 v.k, .float .f64 v.x, .string v.s, .int .i64 v.r] : List Value) ++ cur.drop (k + 4)).toArray t (0, 0)) → w.grownBy W (some g) → W.heap.size = w.heap.size → wpList Tryz.prog ops Q rest (a.put o.dst undef) W) : wpList Tryz.prog ops Q (o :: rest) a w := by
  refine wpList_plain hgd fun K hK => ?_
  have hst := run_storeCells_at Tryz.prog g k t ([.int .u8 v.k, .float .f64 v.x, .string v.s, .int .i64 v.r] : List Value) 0 cur.toArray w hg (by simpa using hk) (fun u hu => by have := vq_one v.k v.x v.s v.r; rw [Array.all_eq_true'] at this; exact this u (by simpa using hu))
  rw [Nat.add_zero] at hst
  have e := h (w.setRow g (cur.take k ++ ([.int .u8 v.k, .float .f64 v.x, .string v.s, .int .i64 v.r] : List Value) ++ cur.drop (k + 4)).toArray) (setRow_heap _ _ _ _ _ _ hg) ⟨rfl, rfl, rfl, by simp [World.setRow], fun j _ hj => setRow_other w g j _ (fun e => hj (by rw [e]))⟩ (by simp [World.setRow])
  have hrun : (storeVar 48 ⟨g, k, none⟩ (.agg #[.int .u8 v.k, .float .f64 v.x, .string v.s, .int .i64 v.r])).run Tryz.prog w = .ok () (w.setRow g (cur.take k ++ ([.int .u8 v.k, .float .f64 v.x, .string v.s, .int .i64 v.r] : List Value) ++ cur.drop (k + 4)).toArray) := by
    have hq := vsz4
    cases hq2 : Tryz.prog.info? 48 with
    | none => rw [hq2] at hq; simp at hq
    | some i =>
      have hs : 4 = i.size := by rw [hq2] at hq; simp at hq; omega
      simp [storeVar, sizeOf, typeInfo, hq2, Value.cells, ← hs]
      simpa using hst
  unfold Oper.wp execOp
  simp only [ho, hx, hy, Instr.storeAt, Instr.sureAddr, Sem.run_bind, Sem.run_pure, Result.andThen_ok, hrun]
  exact hK _ _ e
end
/-- an object that is closed; with another prototype -/
def Ob.shut (o : Ob) : Ob := { o with ext := false }
def Ob.under (o : Ob) (v : Vq) : Ob := { o with proto := v }
set_option maxHeartbeats 4000000 in
set_option maxRecDepth 1000000 in
theorem prevExt_o (B m k : Nat) (a : Ak) (M : List Ob) (w : World) (hB : w.heap[B]? = some (.cells (hcl M).toArray 64 (0, 0))) (hk : k < M.length) : Calls Tryz.prog 88 #[.agg (asA B m ⟨B, k * 18, none⟩ a)] w fun e w' => e = .returned (.agg (oqA (yesO true))) ∧ Chg w B (M.set k M[k].shut) w' := by
  have HS := Lib.hid (mw_start w B m ⟨B, k * 18, none⟩ a)
  have h1 := HS.out.p
  have hBl := lt_blk hB
  have hb0 := (HS.out.below.block B hBl).trans hB
  have cA := fun W => answer_o true W
  have hlen : k * 18 + 5 < (hcl M).length := by rw [hcl_len]; omega
  have hpat := hcl_patch (j := 5) (l := [.bool false]) (o := M[k].shut) hk (by simp) rfl
  go_enter Tryz.func88, Tryz.ntmps88
  go_wp2_with (first
    | ((with_reducible refine bl_store rfl rfl rfl rfl hb0 hlen ?_); intro W1 hW1 hG1 hz1; have HW1 := Lib.hid hW1; have HG1 := Lib.hid hG1; have HZ1 := Lib.hid hz1; clear hW1 hG1 hz1)
    | (go_at_call 112; (with_reducible refine (cA _).mono ?_); rintro e w2 ⟨rfl, h9⟩; have H9 := Lib.hid h9; have hr := vblkn h9 ((HG1.out.block (w.heap.size + 1) (lt_blk HS.out.r) (fun e => by have := Option.some.inj e; omega)).trans HS.out.r); clear h9)
    | (refine t_store (cs := oqA (yesO true)) rfl rfl rfl rfl hr (oq_info _) rfl (oqA_one _) (Below.refl (w.heap.size + 1) w2) (Nat.le_refl _) ?_; intro W3 hb3 hW3 hO3 hz3))
  refine oq_end Tryz.results88 rfl hW3 ⟨rfl, ⟨?_, ?_⟩⟩
  · have hb := HS.out.below
    have g1 := HG1.out
    have b2 := H9.out
    have hz1 : W1.heap.size = w.heap.size + 2 := HZ1.out.trans (by simp)
    have hs2 := b2.size
    have hs3 := hb3.size
    refine ⟨hb3.os.trans (b2.os.trans (g1.os.trans hb.os)), hb3.tape.trans (b2.tape.trans (g1.tape.trans hb.tape)), hb3.output.trans (b2.output.trans (g1.output.trans hb.output)), by have := b2.size; omega, fun j hj hn => ?_⟩
    exact (hO3 j (by omega)).trans ((b2.block j (by omega)).trans ((g1.block j (by simp; omega) hn).trans (hb.block j hj)))
  · rw [← hpat]
    exact (hO3 B (by omega)).trans (vblkn H9.out HW1.out)
end Go.Proofs.YtkcikdggfbjedaaGreatDoor.S
