/-
  post: what counts of a claim may be.
-/
import Derived.Test.YtkmgdaagannhkaaPT11
namespace Go.Proofs.Ytkmgdaagannhkaa.S
open Go.RowKit Go.Lib Fl
open Classical

noncomputable def orE (x y : Int) : Int := if x = 0 then y else x
set_option maxRecDepth 100000 in
theorem Or_2 (g : Nat) (x y : Int) (w : World) (h0 : w.cell? ⟨g, 0, none⟩ = some (.int .i64 x)) (h1 : w.cell? ⟨g, 1, none⟩ = some (.int .i64 y)) : Calls Try.prog 27 #[.slice (some ⟨g, 0, none⟩) 2 2] w fun e w' => e = .returned (.int .i64 (orE x y)) ∧ w' = w := by
  go_enter Try.func27, Try.ntmps27
  go_wp2
  go_loopg [8] 2 (fun kx s8 wr => ∃ i : Nat, s8 = .int .i64 i ∧ i + kx = 2 ∧ Hid ((0 < i → x = 0) ∧ (1 < i → y = 0)) ∧ wr = w)
  case atStart => exact ⟨0, rfl, rfl, Lib.hid ⟨fun h => absurd h (by decide), fun h => absurd h (by decide)⟩, rfl⟩
  case round =>
    obtain ⟨i, rfl, hik, H, rfl⟩ := hrel
    cases gk with
    | zero =>
      obtain rfl : i = 2 := by omega
      have hx := H.out.1 (by decide)
      have hy := H.out.2 (by decide)
      clear H
      subst hx hy
      go_wp2
      go_ret
      exact ⟨by unfold orE; rfl, rfl⟩
    | succ kx =>
      have hi : i = 0 ∨ i = 1 := by omega
      rcases hi with rfl | rfl
      · by_cases hx : x = 0
        · go_wp2
          go_roundg kx
          case measure => omega
          case rel => exact ⟨1, rfl, by omega, Lib.hid ⟨fun _ => hx, fun h => absurd h (by decide)⟩, rfl⟩
        · go_wp2
          go_ret
          exact ⟨by unfold orE; rw [if_neg hx]; rfl, rfl⟩
      · have hx := H.out.1 (by decide)
        by_cases hy : y = 0
        · go_wp2
          go_roundg kx
          case measure => omega
          case rel => exact ⟨2, rfl, by omega, Lib.hid ⟨fun _ => hx, fun _ => hy⟩, rfl⟩
        · clear H
          subst hx
          go_wp2
          go_ret
          exact ⟨by unfold orE; rfl, rfl⟩
theorem orS_new (w : World) (x y : Int) : (w.alloc (.cells #[.int .i64 x, .int .i64 y] 34)).cell? ⟨w.heap.size, 0, none⟩ = some (.int .i64 x) ∧ (w.alloc (.cells #[.int .i64 x, .int .i64 y] 34)).cell? ⟨w.heap.size, 1, none⟩ = some (.int .i64 y) :=
  ⟨vcells (heap_alloc_new w _) 0, vcells (heap_alloc_new w _) 1⟩
/-- what may come in -/
structure CIn (w : World) (a : Ak) (q : Oq) (f : Fq) (K L : List Ky) (D : List Dq) : Prop where
  qv : q.v.In
  qd : q.d.In
  av : a.v.In
  ad : a.d.In
  fp : f.proto.In
  fd : f.d.In
  kn : q.kn = K.length
  kl : K.length < 1000000000000
  k : RK w q.ka K
  kc : K.length ≤ q.kc
  knil : q.ka = none → q.kc = 0
  fk : f.kn = L.length
  ll : L.length < 1000000000000
  l : RK w f.ka L
  lc : L.length ≤ f.kc
  fn : f.on = D.length
  dl : D.length < 1000000000000
  d : RD w f.oa D
  di : ∀ d ∈ D, d.In
/-- the error of what counts of a claim -/
noncomputable def mayE (a : Ak) (q : Oq) (f : Fq) (K L : List Ky) (D : List Dq) : Int :=
  if q.kind ≠ 1 then 2 else if a.m = 1 then orE (whatE q.v) (parE f.proto) else if a.m = 2 then orE (parE a.v) (parE f.proto) else if a.m = 3 ∨ a.m = 4 then 0
  else if a.m = 5 then orE (descE q) (thereE f) else if a.m = 6 then orE (errI (chkQ a.d)) (thereE f) else if a.m = 7 ∨ a.m = 10 then thereE f else if a.m = 8 then orE (whatE q.v) (thereE f)
  else if a.m = 9 then orE (whatE a.v) (thereE f) else if a.m = 11 then orE (keysE K) (ownedE L D) else if a.m = 12 ∨ a.m = 13 then whatE q.v else 2
set_option maxHeartbeats 8000000 in
set_option maxRecDepth 1000000 in
theorem may_1 (w : World) (a : Ak) (q : Oq) (f : Fq) (K L : List Ky) (D : List Dq) (h : CIn w a q f K L D) (hk : q.kind = 1) (hm : a.m = 1) : Calls Try.prog 21 #[.agg (clA a q f)] w fun e w' => e = .returned (.int .i64 (mayE a q f K L D)) ∧ Below w.heap.size w w' := by
  have HS := Lib.hid (ow_start w (clA a q f) 59)
  have cA := fun W => what_p h.qv W
  have cB := fun W => parent_p h.fp W
  have hE : mayE a q f K L D = orE (whatE q.v) (parE f.proto) := by unfold mayE; rw [hk, hm]; simp
  rw [hE]
  clear hE h
  generalize whatE q.v = x1 at *
  generalize parE f.proto = x2 at *
  go_enter Try.func21, Try.ntmps21
  go_upto_region 5 with (((with_reducible refine lu_l2 (all := cll a q f) ?_ rfl rfl HS.out.c ?_); (rfl); refine ⟨_, rfl, ?_⟩))
  have hS := HS.out.up (Below.refl _ _).drew
  refine wp_region_held_drew (S := Ow w (clA a q f) 59) (by kernel_rfl) hS (fun hHeld => ?_)
  clear HS
  refine hH_take (i := 0) (v := .pointer (some ⟨w.heap.size, 29, none⟩)) (d := 12) (l2 := #[true, false, false, false, false, false, false, false, false, false, false]) rfl (by kernel_rfl) (by kernel_rfl) (by kernel_rfl) (fun _ _ _ h => h) (by kernel_rfl) (fun w hSw => ?_) (by assumption) rfl (by kernel_rfl) ?_
  · go_simp; (try with_reducible rfl)
  simp only [List.set]
  refine hH_take (i := 1) (v := .pointer (some ⟨w.heap.size, 30, none⟩)) (d := 13) (l2 := #[true, true, false, false, false, false, false, false, false, false, false]) rfl (by kernel_rfl) (by kernel_rfl) (by kernel_rfl) (fun _ _ _ h => h) (by kernel_rfl) (fun w hSw => ?_) (by assumption) rfl (by kernel_rfl) ?_
  · go_simp; (try with_reducible rfl)
  simp only [List.set]
  refine hH_take (i := 2) (v := .agg #[.int .u8 q.v.k, .float .f64 q.v.x, .string q.v.s, .int .i64 q.v.r]) (d := 14) (l2 := #[true, true, true, false, false, false, false, false, false, false, false]) rfl (by kernel_rfl) (by kernel_rfl) (by kernel_rfl) (fun _ _ _ h => h) (by kernel_rfl) (fun w hSw => ?_) (by assumption) rfl (by kernel_rfl) ?_
  · exact ex_load_at (sub_run (cs := [.int .u8 q.v.k, .float .f64 q.v.x, .string q.v.s, .int .i64 q.v.r]) (all := cll a q f) hSw.c rfl Try.underlying24 rfl vsz) rfl rfl
  simp only [List.set]
  refine hH_take (i := 4) (v := .pointer (some ⟨w.heap.size, 55, none⟩)) (d := 16) (l2 := #[true, true, true, false, true, false, false, false, false, false, false]) rfl (by kernel_rfl) (by kernel_rfl) (by kernel_rfl) (fun _ _ _ h => h) (by kernel_rfl) (fun w hSw => ?_) (by assumption) rfl (by kernel_rfl) ?_
  · go_simp; (try with_reducible rfl)
  simp only [List.set]
  refine hH_take (i := 5) (v := .pointer (some ⟨w.heap.size, 56, none⟩)) (d := 17) (l2 := #[true, true, true, false, true, true, false, false, false, false, false]) rfl (by kernel_rfl) (by kernel_rfl) (by kernel_rfl) (fun _ _ _ h => h) (by kernel_rfl) (fun w hSw => ?_) (by assumption) rfl (by kernel_rfl) ?_
  · go_simp; (try with_reducible rfl)
  simp only [List.set]
  refine hH_take (i := 6) (v := .agg #[.int .u8 f.proto.k, .float .f64 f.proto.x, .string f.proto.s, .int .i64 f.proto.r]) (d := 18) (l2 := #[true, true, true, false, true, true, true, false, false, false, false]) rfl (by kernel_rfl) (by kernel_rfl) (by kernel_rfl) (fun _ _ _ h => h) (by kernel_rfl) (fun w hSw => ?_) (by assumption) rfl (by kernel_rfl) ?_
  · exact ex_load_at (sub_run (cs := [.int .u8 f.proto.k, .float .f64 f.proto.x, .string f.proto.s, .int .i64 f.proto.r]) (all := cll a q f) hSw.c rfl Try.underlying24 rfl vsz) rfl rfl
  simp only [List.set]
  refine wpAnyH_ready (rs := [3]) (by kernel_rfl) (by simp) ?_
  refine AllReadyH.cons rfl (fun K hK => ?_) AllReadyH.nil
  go_simp
  go_at_call 28
  (with_reducible refine (cA _).mono ?_)
  rintro e w1 ⟨rfl, h1⟩
  have hS := hS.up h1
  clear h1
  refine hK.out _ _ hS (fun hHeld => ?_)
  clear hK K
  refine wpAnyH_ready (rs := [7]) (by kernel_rfl) (by simp) ?_
  refine AllReadyH.cons rfl (fun K hK => ?_) AllReadyH.nil
  go_simp
  go_at_call 29
  (with_reducible refine (cB _).mono ?_)
  rintro e w1 ⟨rfl, h1⟩
  have hS := hS.up h1
  clear h1
  refine hK.out _ _ hS (fun hHeld => ?_)
  clear hK K
  refine wpAnyH_ready (rs := [8]) (by kernel_rfl) (by simp) ?_
  refine AllReadyH.cons rfl (fun K hK => ?_) AllReadyH.nil
  go_simp
  have hS := hS.up (vzero _ (.cells #[.int .i64 x1, .int .i64 x2] 34))
  have hO := orS_new w1 x1 x2
  refine hK.out _ _ hS (fun hHeld => ?_)
  clear hK K
  refine wpAnyH_ready (rs := [9]) (by kernel_rfl) (by simp) ?_
  refine AllReadyH.cons rfl (fun K hK => ?_) AllReadyH.nil
  go_simp
  go_at_call 27
  (with_reducible refine (Or_2 _ x1 x2 _ hO.1 hO.2).mono ?_)
  rintro e w2 ⟨rfl, rfl⟩
  refine hK.out _ _ hS (fun hHeld => ?_)
  clear hK K
  refine hH_take (i := 10) (v := .int .i64 (orE x1 x2)) (d := 2) (l2 := #[true, true, true, true, true, true, true, true, true, true, true]) rfl (by kernel_rfl) (by kernel_rfl) (by kernel_rfl) (fun _ _ _ h => h) (by kernel_rfl) (fun w hSw => ?_) (by assumption) rfl (by kernel_rfl) ?_
  · go_simp
  simp only [List.set]
  refine wpAnyH_done (by kernel_rfl) ?_ _
  have HS := Lib.hid hS
  go_wp2
  go_ret
  exact ⟨rfl, HS.out.below⟩
set_option maxHeartbeats 8000000 in
set_option maxRecDepth 1000000 in
theorem may_2 (w : World) (a : Ak) (q : Oq) (f : Fq) (K L : List Ky) (D : List Dq) (h : CIn w a q f K L D) (hk : q.kind = 1) (hm : a.m = 2) : Calls Try.prog 21 #[.agg (clA a q f)] w fun e w' => e = .returned (.int .i64 (mayE a q f K L D)) ∧ Below w.heap.size w w' := by
  have HS := Lib.hid (ow_start w (clA a q f) 59)
  have cA := fun W => parent_p h.av W
  have cB := fun W => parent_p h.fp W
  have hE : mayE a q f K L D = orE (parE a.v) (parE f.proto) := by unfold mayE; rw [hk, hm]; simp
  rw [hE]
  clear hE h
  generalize parE a.v = x1 at *
  generalize parE f.proto = x2 at *
  go_enter Try.func21, Try.ntmps21
  go_upto_region 7 with (((with_reducible refine lu_l2 (all := cll a q f) ?_ rfl rfl HS.out.c ?_); (rfl); refine ⟨_, rfl, ?_⟩))
  have hS := HS.out.up (Below.refl _ _).drew
  refine wp_region_held_drew (S := Ow w (clA a q f) 59) (by kernel_rfl) hS (fun hHeld => ?_)
  clear HS
  refine hH_take (i := 0) (v := .pointer (some ⟨w.heap.size, 0, none⟩)) (d := 24) (l2 := #[true, false, false, false, false, false, false, false, false, false, false]) rfl (by kernel_rfl) (by kernel_rfl) (by kernel_rfl) (fun _ _ _ h => h) (by kernel_rfl) (fun w hSw => ?_) (by assumption) rfl (by kernel_rfl) ?_
  · go_simp; (try with_reducible rfl)
  simp only [List.set]
  refine hH_take (i := 1) (v := .pointer (some ⟨w.heap.size, 20, none⟩)) (d := 25) (l2 := #[true, true, false, false, false, false, false, false, false, false, false]) rfl (by kernel_rfl) (by kernel_rfl) (by kernel_rfl) (fun _ _ _ h => h) (by kernel_rfl) (fun w hSw => ?_) (by assumption) rfl (by kernel_rfl) ?_
  · go_simp; (try with_reducible rfl)
  simp only [List.set]
  refine hH_take (i := 2) (v := .agg #[.int .u8 a.v.k, .float .f64 a.v.x, .string a.v.s, .int .i64 a.v.r]) (d := 26) (l2 := #[true, true, true, false, false, false, false, false, false, false, false]) rfl (by kernel_rfl) (by kernel_rfl) (by kernel_rfl) (fun _ _ _ h => h) (by kernel_rfl) (fun w hSw => ?_) (by assumption) rfl (by kernel_rfl) ?_
  · exact ex_load_at (sub_run (cs := [.int .u8 a.v.k, .float .f64 a.v.x, .string a.v.s, .int .i64 a.v.r]) (all := cll a q f) hSw.c rfl Try.underlying24 rfl vsz) rfl rfl
  simp only [List.set]
  refine hH_take (i := 4) (v := .pointer (some ⟨w.heap.size, 55, none⟩)) (d := 28) (l2 := #[true, true, true, false, true, false, false, false, false, false, false]) rfl (by kernel_rfl) (by kernel_rfl) (by kernel_rfl) (fun _ _ _ h => h) (by kernel_rfl) (fun w hSw => ?_) (by assumption) rfl (by kernel_rfl) ?_
  · go_simp; (try with_reducible rfl)
  simp only [List.set]
  refine hH_take (i := 5) (v := .pointer (some ⟨w.heap.size, 56, none⟩)) (d := 29) (l2 := #[true, true, true, false, true, true, false, false, false, false, false]) rfl (by kernel_rfl) (by kernel_rfl) (by kernel_rfl) (fun _ _ _ h => h) (by kernel_rfl) (fun w hSw => ?_) (by assumption) rfl (by kernel_rfl) ?_
  · go_simp; (try with_reducible rfl)
  simp only [List.set]
  refine hH_take (i := 6) (v := .agg #[.int .u8 f.proto.k, .float .f64 f.proto.x, .string f.proto.s, .int .i64 f.proto.r]) (d := 30) (l2 := #[true, true, true, false, true, true, true, false, false, false, false]) rfl (by kernel_rfl) (by kernel_rfl) (by kernel_rfl) (fun _ _ _ h => h) (by kernel_rfl) (fun w hSw => ?_) (by assumption) rfl (by kernel_rfl) ?_
  · exact ex_load_at (sub_run (cs := [.int .u8 f.proto.k, .float .f64 f.proto.x, .string f.proto.s, .int .i64 f.proto.r]) (all := cll a q f) hSw.c rfl Try.underlying24 rfl vsz) rfl rfl
  simp only [List.set]
  refine wpAnyH_ready (rs := [3]) (by kernel_rfl) (by simp) ?_
  refine AllReadyH.cons rfl (fun K hK => ?_) AllReadyH.nil
  go_simp
  go_at_call 29
  (with_reducible refine (cA _).mono ?_)
  rintro e w1 ⟨rfl, h1⟩
  have hS := hS.up h1
  clear h1
  refine hK.out _ _ hS (fun hHeld => ?_)
  clear hK K
  refine wpAnyH_ready (rs := [7]) (by kernel_rfl) (by simp) ?_
  refine AllReadyH.cons rfl (fun K hK => ?_) AllReadyH.nil
  go_simp
  go_at_call 29
  (with_reducible refine (cB _).mono ?_)
  rintro e w1 ⟨rfl, h1⟩
  have hS := hS.up h1
  clear h1
  refine hK.out _ _ hS (fun hHeld => ?_)
  clear hK K
  refine wpAnyH_ready (rs := [8]) (by kernel_rfl) (by simp) ?_
  refine AllReadyH.cons rfl (fun K hK => ?_) AllReadyH.nil
  go_simp
  have hS := hS.up (vzero _ (.cells #[.int .i64 x1, .int .i64 x2] 34))
  have hO := orS_new w1 x1 x2
  refine hK.out _ _ hS (fun hHeld => ?_)
  clear hK K
  refine wpAnyH_ready (rs := [9]) (by kernel_rfl) (by simp) ?_
  refine AllReadyH.cons rfl (fun K hK => ?_) AllReadyH.nil
  go_simp
  go_at_call 27
  (with_reducible refine (Or_2 _ x1 x2 _ hO.1 hO.2).mono ?_)
  rintro e w2 ⟨rfl, rfl⟩
  refine hK.out _ _ hS (fun hHeld => ?_)
  clear hK K
  refine hH_take (i := 10) (v := .int .i64 (orE x1 x2)) (d := 2) (l2 := #[true, true, true, true, true, true, true, true, true, true, true]) rfl (by kernel_rfl) (by kernel_rfl) (by kernel_rfl) (fun _ _ _ h => h) (by kernel_rfl) (fun w hSw => ?_) (by assumption) rfl (by kernel_rfl) ?_
  · go_simp
  simp only [List.set]
  refine wpAnyH_done (by kernel_rfl) ?_ _
  have HS := Lib.hid hS
  go_wp2
  go_ret
  exact ⟨rfl, HS.out.below⟩
set_option maxHeartbeats 8000000 in
set_option maxRecDepth 1000000 in
theorem may_3 (w : World) (a : Ak) (q : Oq) (f : Fq) (K L : List Ky) (D : List Dq) (_h : CIn w a q f K L D) (hk : q.kind = 1) (hm : a.m = 3) : Calls Try.prog 21 #[.agg (clA a q f)] w fun e w' => e = .returned (.int .i64 (mayE a q f K L D)) ∧ Below w.heap.size w w' := by
  have HS := Lib.hid (ow_start w (clA a q f) 59)
  have hE : mayE a q f K L D = 0 := by unfold mayE; rw [hk, hm]; simp
  rw [hE]
  clear hE
  go_enter Try.func21, Try.ntmps21
  go_wp2_with (first
    | ((with_reducible refine lu_l2 (all := cll a q f) ?_ rfl rfl HS.out.c ?_); (rfl); refine ⟨_, rfl, ?_⟩)
    | (fail))
  go_ret
  exact ⟨rfl, HS.out.below⟩
set_option maxHeartbeats 8000000 in
set_option maxRecDepth 1000000 in
theorem may_4 (w : World) (a : Ak) (q : Oq) (f : Fq) (K L : List Ky) (D : List Dq) (_h : CIn w a q f K L D) (hk : q.kind = 1) (hm : a.m = 4) : Calls Try.prog 21 #[.agg (clA a q f)] w fun e w' => e = .returned (.int .i64 (mayE a q f K L D)) ∧ Below w.heap.size w w' := by
  have HS := Lib.hid (ow_start w (clA a q f) 59)
  have hE : mayE a q f K L D = 0 := by unfold mayE; rw [hk, hm]; simp
  rw [hE]
  clear hE
  go_enter Try.func21, Try.ntmps21
  go_wp2_with (first
    | ((with_reducible refine lu_l2 (all := cll a q f) ?_ rfl rfl HS.out.c ?_); (rfl); refine ⟨_, rfl, ?_⟩)
    | (fail))
  go_ret
  exact ⟨rfl, HS.out.below⟩
set_option maxHeartbeats 8000000 in
set_option maxRecDepth 1000000 in
theorem may_5 (w : World) (a : Ak) (q : Oq) (f : Fq) (K L : List Ky) (D : List Dq) (h : CIn w a q f K L D) (hk : q.kind = 1) (hm : a.m = 5) : Calls Try.prog 21 #[.agg (clA a q f)] w fun e w' => e = .returned (.int .i64 (mayE a q f K L D)) ∧ Below w.heap.size w w' := by
  have HS := Lib.hid (ow_start w (clA a q f) 59)
  have cA := fun W => described_p h.qd W
  have cB := fun W => there_p h.fd W
  have hE : mayE a q f K L D = orE (descE q) (thereE f) := by unfold mayE; rw [hk, hm]; simp
  rw [hE]
  clear hE h
  generalize descE q = x1 at *
  generalize thereE f = x2 at *
  go_enter Try.func21, Try.ntmps21
  go_upto_region 12 with (((with_reducible refine lu_l2 (all := cll a q f) ?_ rfl rfl HS.out.c ?_); (rfl); refine ⟨_, rfl, ?_⟩))
  have hS := HS.out.up (Below.refl _ _).drew
  refine wp_region_held_drew (S := Ow w (clA a q f) 59) (by kernel_rfl) hS (fun hHeld => ?_)
  clear HS
  refine hH_take (i := 0) (v := .pointer (some ⟨w.heap.size, 29, none⟩)) (d := 39) (l2 := #[true, false, false, false, false, false, false, false, false]) rfl (by kernel_rfl) (by kernel_rfl) (by kernel_rfl) (fun _ _ _ h => h) (by kernel_rfl) (fun w hSw => ?_) (by assumption) rfl (by kernel_rfl) ?_
  · go_simp; (try with_reducible rfl)
  simp only [List.set]
  refine hH_take (i := 1) (v := .agg (oqA q)) (d := 40) (l2 := #[true, true, false, false, false, false, false, false, false]) rfl (by kernel_rfl) (by kernel_rfl) (by kernel_rfl) (fun _ _ _ h => h) (by kernel_rfl) (fun w hSw => ?_) (by assumption) rfl (by kernel_rfl) ?_
  · exact ex_load_at (sub_run (cs := oql q) (all := cll a q f) hSw.c rfl Try.underlying33 rfl out_sz) rfl rfl
  simp only [List.set]
  refine hH_take (i := 3) (v := .pointer (some ⟨w.heap.size, 55, none⟩)) (d := 42) (l2 := #[true, true, false, true, false, false, false, false, false]) rfl (by kernel_rfl) (by kernel_rfl) (by kernel_rfl) (fun _ _ _ h => h) (by kernel_rfl) (fun w hSw => ?_) (by assumption) rfl (by kernel_rfl) ?_
  · go_simp; (try with_reducible rfl)
  simp only [List.set]
  refine hH_take (i := 4) (v := .agg (fqA f)) (d := 43) (l2 := #[true, true, false, true, true, false, false, false, false]) rfl (by kernel_rfl) (by kernel_rfl) (by kernel_rfl) (fun _ _ _ h => h) (by kernel_rfl) (fun w hSw => ?_) (by assumption) rfl (by kernel_rfl) ?_
  · exact ex_load_at (sub_run (cs := fql f) (all := cll a q f) hSw.c rfl Try.underlying43 rfl fq_sz) rfl rfl
  simp only [List.set]
  refine wpAnyH_ready (rs := [2]) (by kernel_rfl) (by simp) ?_
  refine AllReadyH.cons rfl (fun K hK => ?_) AllReadyH.nil
  go_simp
  go_at_call 30
  (with_reducible refine (cA _).mono ?_)
  rintro e w1 ⟨rfl, h1⟩
  have hS := hS.up h1
  clear h1
  refine hK.out _ _ hS (fun hHeld => ?_)
  clear hK K
  refine wpAnyH_ready (rs := [5]) (by kernel_rfl) (by simp) ?_
  refine AllReadyH.cons rfl (fun K hK => ?_) AllReadyH.nil
  go_simp
  go_at_call 31
  (with_reducible refine (cB _).mono ?_)
  rintro e w1 ⟨rfl, h1⟩
  have hS := hS.up h1
  clear h1
  refine hK.out _ _ hS (fun hHeld => ?_)
  clear hK K
  refine wpAnyH_ready (rs := [6]) (by kernel_rfl) (by simp) ?_
  refine AllReadyH.cons rfl (fun K hK => ?_) AllReadyH.nil
  go_simp
  have hS := hS.up (vzero _ (.cells #[.int .i64 x1, .int .i64 x2] 34))
  have hO := orS_new w1 x1 x2
  refine hK.out _ _ hS (fun hHeld => ?_)
  clear hK K
  refine wpAnyH_ready (rs := [7]) (by kernel_rfl) (by simp) ?_
  refine AllReadyH.cons rfl (fun K hK => ?_) AllReadyH.nil
  go_simp
  go_at_call 27
  (with_reducible refine (Or_2 _ x1 x2 _ hO.1 hO.2).mono ?_)
  rintro e w2 ⟨rfl, rfl⟩
  refine hK.out _ _ hS (fun hHeld => ?_)
  clear hK K
  refine hH_take (i := 8) (v := .int .i64 (orE x1 x2)) (d := 2) (l2 := #[true, true, true, true, true, true, true, true, true]) rfl (by kernel_rfl) (by kernel_rfl) (by kernel_rfl) (fun _ _ _ h => h) (by kernel_rfl) (fun w hSw => ?_) (by assumption) rfl (by kernel_rfl) ?_
  · go_simp
  simp only [List.set]
  refine wpAnyH_done (by kernel_rfl) ?_ _
  have HS := Lib.hid hS
  go_wp2
  go_ret
  exact ⟨rfl, HS.out.below⟩
set_option maxHeartbeats 8000000 in
set_option maxRecDepth 1000000 in
theorem may_6 (w : World) (a : Ak) (q : Oq) (f : Fq) (K L : List Ky) (D : List Dq) (h : CIn w a q f K L D) (hk : q.kind = 1) (hm : a.m = 6) : Calls Try.prog 21 #[.agg (clA a q f)] w fun e w' => e = .returned (.int .i64 (mayE a q f K L D)) ∧ Below w.heap.size w w' := by
  have HS := Lib.hid (ow_start w (clA a q f) 59)
  have cA := fun W => chkd h.ad W
  have cB := fun W => there_p h.fd W
  have hE : mayE a q f K L D = orE (errI (chkQ a.d)) (thereE f) := by unfold mayE; rw [hk, hm]; simp
  rw [hE]
  clear hE h
  generalize errI (chkQ a.d) = x1 at *
  generalize thereE f = x2 at *
  go_enter Try.func21, Try.ntmps21
  go_upto_region 14 with (((with_reducible refine lu_l2 (all := cll a q f) ?_ rfl rfl HS.out.c ?_); (rfl); refine ⟨_, rfl, ?_⟩))
  have hS := HS.out.up (Below.refl _ _).drew
  refine wp_region_held_drew (S := Ow w (clA a q f) 59) (by kernel_rfl) hS (fun hHeld => ?_)
  clear HS
  refine hH_take (i := 0) (v := .pointer (some ⟨w.heap.size, 0, none⟩)) (d := 49) (l2 := #[true, false, false, false, false, false, false, false, false, false]) rfl (by kernel_rfl) (by kernel_rfl) (by kernel_rfl) (fun _ _ _ h => h) (by kernel_rfl) (fun w hSw => ?_) (by assumption) rfl (by kernel_rfl) ?_
  · go_simp; (try with_reducible rfl)
  simp only [List.set]
  refine hH_take (i := 1) (v := .pointer (some ⟨w.heap.size, 4, none⟩)) (d := 50) (l2 := #[true, true, false, false, false, false, false, false, false, false]) rfl (by kernel_rfl) (by kernel_rfl) (by kernel_rfl) (fun _ _ _ h => h) (by kernel_rfl) (fun w hSw => ?_) (by assumption) rfl (by kernel_rfl) ?_
  · go_simp; (try with_reducible rfl)
  simp only [List.set]
  refine hH_take (i := 2) (v := .agg a.d.cells) (d := 51) (l2 := #[true, true, true, false, false, false, false, false, false, false]) rfl (by kernel_rfl) (by kernel_rfl) (by kernel_rfl) (fun _ _ _ h => h) (by kernel_rfl) (fun w hSw => ?_) (by assumption) rfl (by kernel_rfl) ?_
  · exact ex_load_at (sub_run (cs := a.d.cells.toList) (all := cll a q f) hSw.c rfl Try.underlying27 rfl dsz) rfl rfl
  simp only [List.set]
  refine hH_take (i := 4) (v := .pointer (some ⟨w.heap.size, 55, none⟩)) (d := 53) (l2 := #[true, true, true, false, true, false, false, false, false, false]) rfl (by kernel_rfl) (by kernel_rfl) (by kernel_rfl) (fun _ _ _ h => h) (by kernel_rfl) (fun w hSw => ?_) (by assumption) rfl (by kernel_rfl) ?_
  · go_simp; (try with_reducible rfl)
  simp only [List.set]
  refine hH_take (i := 5) (v := .agg (fqA f)) (d := 54) (l2 := #[true, true, true, false, true, true, false, false, false, false]) rfl (by kernel_rfl) (by kernel_rfl) (by kernel_rfl) (fun _ _ _ h => h) (by kernel_rfl) (fun w hSw => ?_) (by assumption) rfl (by kernel_rfl) ?_
  · exact ex_load_at (sub_run (cs := fql f) (all := cll a q f) hSw.c rfl Try.underlying43 rfl fq_sz) rfl rfl
  simp only [List.set]
  refine wpAnyH_ready (rs := [3]) (by kernel_rfl) (by simp) ?_
  refine AllReadyH.cons rfl (fun K hK => ?_) AllReadyH.nil
  go_simp
  go_at_call 32
  (with_reducible refine (cA _).mono ?_)
  rintro e w1 ⟨rfl, h1⟩
  have hS := hS.up h1
  clear h1
  refine hK.out _ _ hS (fun hHeld => ?_)
  clear hK K
  refine wpAnyH_ready (rs := [6]) (by kernel_rfl) (by simp) ?_
  refine AllReadyH.cons rfl (fun K hK => ?_) AllReadyH.nil
  go_simp
  go_at_call 31
  (with_reducible refine (cB _).mono ?_)
  rintro e w1 ⟨rfl, h1⟩
  have hS := hS.up h1
  clear h1
  refine hK.out _ _ hS (fun hHeld => ?_)
  clear hK K
  refine wpAnyH_ready (rs := [7]) (by kernel_rfl) (by simp) ?_
  refine AllReadyH.cons rfl (fun K hK => ?_) AllReadyH.nil
  go_simp
  have hS := hS.up (vzero _ (.cells #[.int .i64 x1, .int .i64 x2] 34))
  have hO := orS_new w1 x1 x2
  refine hK.out _ _ hS (fun hHeld => ?_)
  clear hK K
  refine wpAnyH_ready (rs := [8]) (by kernel_rfl) (by simp) ?_
  refine AllReadyH.cons rfl (fun K hK => ?_) AllReadyH.nil
  go_simp
  go_at_call 27
  (with_reducible refine (Or_2 _ x1 x2 _ hO.1 hO.2).mono ?_)
  rintro e w2 ⟨rfl, rfl⟩
  refine hK.out _ _ hS (fun hHeld => ?_)
  clear hK K
  refine hH_take (i := 9) (v := .int .i64 (orE x1 x2)) (d := 2) (l2 := #[true, true, true, true, true, true, true, true, true, true]) rfl (by kernel_rfl) (by kernel_rfl) (by kernel_rfl) (fun _ _ _ h => h) (by kernel_rfl) (fun w hSw => ?_) (by assumption) rfl (by kernel_rfl) ?_
  · go_simp
  simp only [List.set]
  refine wpAnyH_done (by kernel_rfl) ?_ _
  have HS := Lib.hid hS
  go_wp2
  go_ret
  exact ⟨rfl, HS.out.below⟩
set_option maxHeartbeats 8000000 in
set_option maxRecDepth 1000000 in
theorem may_7 (w : World) (a : Ak) (q : Oq) (f : Fq) (K L : List Ky) (D : List Dq) (h : CIn w a q f K L D) (hk : q.kind = 1) (hm : a.m = 7) : Calls Try.prog 21 #[.agg (clA a q f)] w fun e w' => e = .returned (.int .i64 (mayE a q f K L D)) ∧ Below w.heap.size w w' := by
  have HS := Lib.hid (ow_start w (clA a q f) 59)
  have cA := fun W => there_p h.fd W
  have hE : mayE a q f K L D = thereE f := by unfold mayE; rw [hk, hm]; simp
  rw [hE]
  clear hE h
  generalize thereE f = x1 at *
  go_enter Try.func21, Try.ntmps21
  go_wp2_with (first
    | ((with_reducible refine lu_l2 (all := cll a q f) ?_ rfl rfl HS.out.c ?_); (rfl); refine ⟨_, rfl, ?_⟩)
    | ((with_reducible refine cf_ld (f := f) (all := cll a q f) ?_ rfl rfl HS.out.c ?_ ?_); (rfl); (rfl))
    | ((with_reducible refine cv_ld (v := q.v) (all := cll a q f) ?_ rfl rfl HS.out.c ?_ ?_); (rfl); (rfl))
    | (go_at_call 31; (with_reducible refine (cA _).mono ?_); rintro e w1 ⟨rfl, h9⟩; have HS := Lib.hid (HS.out.up h9); clear h9)
    | (fail))
  go_ret
  exact ⟨rfl, HS.out.below⟩
set_option maxHeartbeats 8000000 in
set_option maxRecDepth 1000000 in
theorem may_8 (w : World) (a : Ak) (q : Oq) (f : Fq) (K L : List Ky) (D : List Dq) (h : CIn w a q f K L D) (hk : q.kind = 1) (hm : a.m = 8) : Calls Try.prog 21 #[.agg (clA a q f)] w fun e w' => e = .returned (.int .i64 (mayE a q f K L D)) ∧ Below w.heap.size w w' := by
  have HS := Lib.hid (ow_start w (clA a q f) 59)
  have cA := fun W => what_p h.qv W
  have cB := fun W => there_p h.fd W
  have hE : mayE a q f K L D = orE (whatE q.v) (thereE f) := by unfold mayE; rw [hk, hm]; simp
  rw [hE]
  clear hE h
  generalize whatE q.v = x1 at *
  generalize thereE f = x2 at *
  go_enter Try.func21, Try.ntmps21
  go_upto_region 19 with (((with_reducible refine lu_l2 (all := cll a q f) ?_ rfl rfl HS.out.c ?_); (rfl); refine ⟨_, rfl, ?_⟩))
  have hS := HS.out.up (Below.refl _ _).drew
  refine wp_region_held_drew (S := Ow w (clA a q f) 59) (by kernel_rfl) hS (fun hHeld => ?_)
  clear HS
  refine hH_take (i := 0) (v := .pointer (some ⟨w.heap.size, 29, none⟩)) (d := 66) (l2 := #[true, false, false, false, false, false, false, false, false, false]) rfl (by kernel_rfl) (by kernel_rfl) (by kernel_rfl) (fun _ _ _ h => h) (by kernel_rfl) (fun w hSw => ?_) (by assumption) rfl (by kernel_rfl) ?_
  · go_simp; (try with_reducible rfl)
  simp only [List.set]
  refine hH_take (i := 1) (v := .pointer (some ⟨w.heap.size, 30, none⟩)) (d := 67) (l2 := #[true, true, false, false, false, false, false, false, false, false]) rfl (by kernel_rfl) (by kernel_rfl) (by kernel_rfl) (fun _ _ _ h => h) (by kernel_rfl) (fun w hSw => ?_) (by assumption) rfl (by kernel_rfl) ?_
  · go_simp; (try with_reducible rfl)
  simp only [List.set]
  refine hH_take (i := 2) (v := .agg #[.int .u8 q.v.k, .float .f64 q.v.x, .string q.v.s, .int .i64 q.v.r]) (d := 68) (l2 := #[true, true, true, false, false, false, false, false, false, false]) rfl (by kernel_rfl) (by kernel_rfl) (by kernel_rfl) (fun _ _ _ h => h) (by kernel_rfl) (fun w hSw => ?_) (by assumption) rfl (by kernel_rfl) ?_
  · exact ex_load_at (sub_run (cs := [.int .u8 q.v.k, .float .f64 q.v.x, .string q.v.s, .int .i64 q.v.r]) (all := cll a q f) hSw.c rfl Try.underlying24 rfl vsz) rfl rfl
  simp only [List.set]
  refine hH_take (i := 4) (v := .pointer (some ⟨w.heap.size, 55, none⟩)) (d := 70) (l2 := #[true, true, true, false, true, false, false, false, false, false]) rfl (by kernel_rfl) (by kernel_rfl) (by kernel_rfl) (fun _ _ _ h => h) (by kernel_rfl) (fun w hSw => ?_) (by assumption) rfl (by kernel_rfl) ?_
  · go_simp; (try with_reducible rfl)
  simp only [List.set]
  refine hH_take (i := 5) (v := .agg (fqA f)) (d := 71) (l2 := #[true, true, true, false, true, true, false, false, false, false]) rfl (by kernel_rfl) (by kernel_rfl) (by kernel_rfl) (fun _ _ _ h => h) (by kernel_rfl) (fun w hSw => ?_) (by assumption) rfl (by kernel_rfl) ?_
  · exact ex_load_at (sub_run (cs := fql f) (all := cll a q f) hSw.c rfl Try.underlying43 rfl fq_sz) rfl rfl
  simp only [List.set]
  refine wpAnyH_ready (rs := [3]) (by kernel_rfl) (by simp) ?_
  refine AllReadyH.cons rfl (fun K hK => ?_) AllReadyH.nil
  go_simp
  go_at_call 28
  (with_reducible refine (cA _).mono ?_)
  rintro e w1 ⟨rfl, h1⟩
  have hS := hS.up h1
  clear h1
  refine hK.out _ _ hS (fun hHeld => ?_)
  clear hK K
  refine wpAnyH_ready (rs := [6]) (by kernel_rfl) (by simp) ?_
  refine AllReadyH.cons rfl (fun K hK => ?_) AllReadyH.nil
  go_simp
  go_at_call 31
  (with_reducible refine (cB _).mono ?_)
  rintro e w1 ⟨rfl, h1⟩
  have hS := hS.up h1
  clear h1
  refine hK.out _ _ hS (fun hHeld => ?_)
  clear hK K
  refine wpAnyH_ready (rs := [7]) (by kernel_rfl) (by simp) ?_
  refine AllReadyH.cons rfl (fun K hK => ?_) AllReadyH.nil
  go_simp
  have hS := hS.up (vzero _ (.cells #[.int .i64 x1, .int .i64 x2] 34))
  have hO := orS_new w1 x1 x2
  refine hK.out _ _ hS (fun hHeld => ?_)
  clear hK K
  refine wpAnyH_ready (rs := [8]) (by kernel_rfl) (by simp) ?_
  refine AllReadyH.cons rfl (fun K hK => ?_) AllReadyH.nil
  go_simp
  go_at_call 27
  (with_reducible refine (Or_2 _ x1 x2 _ hO.1 hO.2).mono ?_)
  rintro e w2 ⟨rfl, rfl⟩
  refine hK.out _ _ hS (fun hHeld => ?_)
  clear hK K
  refine hH_take (i := 9) (v := .int .i64 (orE x1 x2)) (d := 2) (l2 := #[true, true, true, true, true, true, true, true, true, true]) rfl (by kernel_rfl) (by kernel_rfl) (by kernel_rfl) (fun _ _ _ h => h) (by kernel_rfl) (fun w hSw => ?_) (by assumption) rfl (by kernel_rfl) ?_
  · go_simp
  simp only [List.set]
  refine wpAnyH_done (by kernel_rfl) ?_ _
  have HS := Lib.hid hS
  go_wp2
  go_ret
  exact ⟨rfl, HS.out.below⟩
set_option maxHeartbeats 8000000 in
set_option maxRecDepth 1000000 in
theorem may_9 (w : World) (a : Ak) (q : Oq) (f : Fq) (K L : List Ky) (D : List Dq) (h : CIn w a q f K L D) (hk : q.kind = 1) (hm : a.m = 9) : Calls Try.prog 21 #[.agg (clA a q f)] w fun e w' => e = .returned (.int .i64 (mayE a q f K L D)) ∧ Below w.heap.size w w' := by
  have HS := Lib.hid (ow_start w (clA a q f) 59)
  have cA := fun W => what_p h.av W
  have cB := fun W => there_p h.fd W
  have hE : mayE a q f K L D = orE (whatE a.v) (thereE f) := by unfold mayE; rw [hk, hm]; simp
  rw [hE]
  clear hE h
  generalize whatE a.v = x1 at *
  generalize thereE f = x2 at *
  go_enter Try.func21, Try.ntmps21
  go_upto_region 21 with (((with_reducible refine lu_l2 (all := cll a q f) ?_ rfl rfl HS.out.c ?_); (rfl); refine ⟨_, rfl, ?_⟩))
  have hS := HS.out.up (Below.refl _ _).drew
  refine wp_region_held_drew (S := Ow w (clA a q f) 59) (by kernel_rfl) hS (fun hHeld => ?_)
  clear HS
  refine hH_take (i := 0) (v := .pointer (some ⟨w.heap.size, 0, none⟩)) (d := 77) (l2 := #[true, false, false, false, false, false, false, false, false, false]) rfl (by kernel_rfl) (by kernel_rfl) (by kernel_rfl) (fun _ _ _ h => h) (by kernel_rfl) (fun w hSw => ?_) (by assumption) rfl (by kernel_rfl) ?_
  · go_simp; (try with_reducible rfl)
  simp only [List.set]
  refine hH_take (i := 1) (v := .pointer (some ⟨w.heap.size, 20, none⟩)) (d := 78) (l2 := #[true, true, false, false, false, false, false, false, false, false]) rfl (by kernel_rfl) (by kernel_rfl) (by kernel_rfl) (fun _ _ _ h => h) (by kernel_rfl) (fun w hSw => ?_) (by assumption) rfl (by kernel_rfl) ?_
  · go_simp; (try with_reducible rfl)
  simp only [List.set]
  refine hH_take (i := 2) (v := .agg #[.int .u8 a.v.k, .float .f64 a.v.x, .string a.v.s, .int .i64 a.v.r]) (d := 79) (l2 := #[true, true, true, false, false, false, false, false, false, false]) rfl (by kernel_rfl) (by kernel_rfl) (by kernel_rfl) (fun _ _ _ h => h) (by kernel_rfl) (fun w hSw => ?_) (by assumption) rfl (by kernel_rfl) ?_
  · exact ex_load_at (sub_run (cs := [.int .u8 a.v.k, .float .f64 a.v.x, .string a.v.s, .int .i64 a.v.r]) (all := cll a q f) hSw.c rfl Try.underlying24 rfl vsz) rfl rfl
  simp only [List.set]
  refine hH_take (i := 4) (v := .pointer (some ⟨w.heap.size, 55, none⟩)) (d := 81) (l2 := #[true, true, true, false, true, false, false, false, false, false]) rfl (by kernel_rfl) (by kernel_rfl) (by kernel_rfl) (fun _ _ _ h => h) (by kernel_rfl) (fun w hSw => ?_) (by assumption) rfl (by kernel_rfl) ?_
  · go_simp; (try with_reducible rfl)
  simp only [List.set]
  refine hH_take (i := 5) (v := .agg (fqA f)) (d := 82) (l2 := #[true, true, true, false, true, true, false, false, false, false]) rfl (by kernel_rfl) (by kernel_rfl) (by kernel_rfl) (fun _ _ _ h => h) (by kernel_rfl) (fun w hSw => ?_) (by assumption) rfl (by kernel_rfl) ?_
  · exact ex_load_at (sub_run (cs := fql f) (all := cll a q f) hSw.c rfl Try.underlying43 rfl fq_sz) rfl rfl
  simp only [List.set]
  refine wpAnyH_ready (rs := [3]) (by kernel_rfl) (by simp) ?_
  refine AllReadyH.cons rfl (fun K hK => ?_) AllReadyH.nil
  go_simp
  go_at_call 28
  (with_reducible refine (cA _).mono ?_)
  rintro e w1 ⟨rfl, h1⟩
  have hS := hS.up h1
  clear h1
  refine hK.out _ _ hS (fun hHeld => ?_)
  clear hK K
  refine wpAnyH_ready (rs := [6]) (by kernel_rfl) (by simp) ?_
  refine AllReadyH.cons rfl (fun K hK => ?_) AllReadyH.nil
  go_simp
  go_at_call 31
  (with_reducible refine (cB _).mono ?_)
  rintro e w1 ⟨rfl, h1⟩
  have hS := hS.up h1
  clear h1
  refine hK.out _ _ hS (fun hHeld => ?_)
  clear hK K
  refine wpAnyH_ready (rs := [7]) (by kernel_rfl) (by simp) ?_
  refine AllReadyH.cons rfl (fun K hK => ?_) AllReadyH.nil
  go_simp
  have hS := hS.up (vzero _ (.cells #[.int .i64 x1, .int .i64 x2] 34))
  have hO := orS_new w1 x1 x2
  refine hK.out _ _ hS (fun hHeld => ?_)
  clear hK K
  refine wpAnyH_ready (rs := [8]) (by kernel_rfl) (by simp) ?_
  refine AllReadyH.cons rfl (fun K hK => ?_) AllReadyH.nil
  go_simp
  go_at_call 27
  (with_reducible refine (Or_2 _ x1 x2 _ hO.1 hO.2).mono ?_)
  rintro e w2 ⟨rfl, rfl⟩
  refine hK.out _ _ hS (fun hHeld => ?_)
  clear hK K
  refine hH_take (i := 9) (v := .int .i64 (orE x1 x2)) (d := 2) (l2 := #[true, true, true, true, true, true, true, true, true, true]) rfl (by kernel_rfl) (by kernel_rfl) (by kernel_rfl) (fun _ _ _ h => h) (by kernel_rfl) (fun w hSw => ?_) (by assumption) rfl (by kernel_rfl) ?_
  · go_simp
  simp only [List.set]
  refine wpAnyH_done (by kernel_rfl) ?_ _
  have HS := Lib.hid hS
  go_wp2
  go_ret
  exact ⟨rfl, HS.out.below⟩
set_option maxHeartbeats 8000000 in
set_option maxRecDepth 1000000 in
theorem may_10 (w : World) (a : Ak) (q : Oq) (f : Fq) (K L : List Ky) (D : List Dq) (h : CIn w a q f K L D) (hk : q.kind = 1) (hm : a.m = 10) : Calls Try.prog 21 #[.agg (clA a q f)] w fun e w' => e = .returned (.int .i64 (mayE a q f K L D)) ∧ Below w.heap.size w w' := by
  have HS := Lib.hid (ow_start w (clA a q f) 59)
  have cA := fun W => there_p h.fd W
  have hE : mayE a q f K L D = thereE f := by unfold mayE; rw [hk, hm]; simp
  rw [hE]
  clear hE h
  generalize thereE f = x1 at *
  go_enter Try.func21, Try.ntmps21
  go_wp2_with (first
    | ((with_reducible refine lu_l2 (all := cll a q f) ?_ rfl rfl HS.out.c ?_); (rfl); refine ⟨_, rfl, ?_⟩)
    | ((with_reducible refine cf_ld (f := f) (all := cll a q f) ?_ rfl rfl HS.out.c ?_ ?_); (rfl); (rfl))
    | ((with_reducible refine cv_ld (v := q.v) (all := cll a q f) ?_ rfl rfl HS.out.c ?_ ?_); (rfl); (rfl))
    | (go_at_call 31; (with_reducible refine (cA _).mono ?_); rintro e w1 ⟨rfl, h9⟩; have HS := Lib.hid (HS.out.up h9); clear h9)
    | (fail))
  go_ret
  exact ⟨rfl, HS.out.below⟩
set_option maxHeartbeats 8000000 in
set_option maxRecDepth 1000000 in
theorem may_11 (w : World) (a : Ak) (q : Oq) (f : Fq) (K L : List Ky) (D : List Dq) (h : CIn w a q f K L D) (hk : q.kind = 1) (hm : a.m = 11) : Calls Try.prog 21 #[.agg (clA a q f)] w fun e w' => e = .returned (.int .i64 (mayE a q f K L D)) ∧ Below w.heap.size w w' := by
  have HS := Lib.hid (ow_start w (clA a q f) 59)
  have cK : ∀ W, Below w.heap.size w W → Calls Try.prog 33 #[.slice q.ka q.kn q.kc] W fun e w' => e = .returned (.int .i64 (keysE K)) ∧ Below W.heap.size W w' := fun W hb => by
    have h2 := keys_p q.ka K q.kc W h.kl (rk_up h.k hb)
    rw [← h.kn] at h2
    exact h2
  have cO : ∀ W, Below w.heap.size w W → Calls Try.prog 34 #[.agg (fqA f)] W fun e w' => e = .returned (.int .i64 (ownedE L D)) ∧ Below W.heap.size W w' := fun W hb => by
    have h2 := owned_p f f.ka L f.kc f.oa D f.oc W h.ll (rk_up h.l hb) h.lc h.dl (rd_up h.d hb) h.di
    rw [← h.fk, ← h.fn] at h2
    exact h2
  have hE : mayE a q f K L D = orE (keysE K) (ownedE L D) := by unfold mayE; rw [hk, hm]; simp
  rw [hE]
  clear hE h
  generalize keysE K = x1 at *
  generalize ownedE L D = x2 at *
  go_enter Try.func21, Try.ntmps21
  go_upto_region 23 with (((with_reducible refine lu_l2 (all := cll a q f) ?_ rfl rfl HS.out.c ?_); (rfl); refine ⟨_, rfl, ?_⟩))
  have hS := HS.out.up (Below.refl _ _).drew
  refine wp_region_held_drew (S := Ow w (clA a q f) 59) (by kernel_rfl) hS (fun hHeld => ?_)
  clear HS
  refine hH_take (i := 0) (v := .pointer (some ⟨w.heap.size, 29, none⟩)) (d := 88) (l2 := #[true, false, false, false, false, false, false, false, false, false]) rfl (by kernel_rfl) (by kernel_rfl) (by kernel_rfl) (fun _ _ _ h => h) (by kernel_rfl) (fun w hSw => ?_) (by assumption) rfl (by kernel_rfl) ?_
  · go_simp; (try with_reducible rfl)
  simp only [List.set]
  refine hH_take (i := 1) (v := .pointer (some ⟨w.heap.size, 52, none⟩)) (d := 89) (l2 := #[true, true, false, false, false, false, false, false, false, false]) rfl (by kernel_rfl) (by kernel_rfl) (by kernel_rfl) (fun _ _ _ h => h) (by kernel_rfl) (fun w hSw => ?_) (by assumption) rfl (by kernel_rfl) ?_
  · go_simp; (try with_reducible rfl)
  simp only [List.set]
  refine hH_take (i := 2) (v := .slice q.ka q.kn q.kc) (d := 90) (l2 := #[true, true, true, false, false, false, false, false, false, false]) rfl (by kernel_rfl) (by kernel_rfl) (by kernel_rfl) (fun _ _ _ h => h) (by kernel_rfl) (fun w hSw => ?_) (by assumption) rfl (by kernel_rfl) ?_
  · exact ex_load_at (n_ks ((vcells hSw.c 52).trans rfl)) rfl rfl
  simp only [List.set]
  refine hH_take (i := 4) (v := .pointer (some ⟨w.heap.size, 55, none⟩)) (d := 92) (l2 := #[true, true, true, false, true, false, false, false, false, false]) rfl (by kernel_rfl) (by kernel_rfl) (by kernel_rfl) (fun _ _ _ h => h) (by kernel_rfl) (fun w hSw => ?_) (by assumption) rfl (by kernel_rfl) ?_
  · go_simp; (try with_reducible rfl)
  simp only [List.set]
  refine hH_take (i := 5) (v := .agg (fqA f)) (d := 93) (l2 := #[true, true, true, false, true, true, false, false, false, false]) rfl (by kernel_rfl) (by kernel_rfl) (by kernel_rfl) (fun _ _ _ h => h) (by kernel_rfl) (fun w hSw => ?_) (by assumption) rfl (by kernel_rfl) ?_
  · exact ex_load_at (sub_run (cs := fql f) (all := cll a q f) hSw.c rfl Try.underlying43 rfl fq_sz) rfl rfl
  simp only [List.set]
  refine wpAnyH_ready (rs := [3]) (by kernel_rfl) (by simp) ?_
  refine AllReadyH.cons rfl (fun K hK => ?_) AllReadyH.nil
  go_simp
  go_at_call 33
  (with_reducible refine (cK _ hS.below).mono ?_)
  rintro e w1 ⟨rfl, h1⟩
  have hS := hS.up h1
  clear h1
  refine hK.out _ _ hS (fun hHeld => ?_)
  clear hK K
  refine wpAnyH_ready (rs := [6]) (by kernel_rfl) (by simp) ?_
  refine AllReadyH.cons rfl (fun K hK => ?_) AllReadyH.nil
  go_simp
  go_at_call 34
  (with_reducible refine (cO _ hS.below).mono ?_)
  rintro e w1 ⟨rfl, h1⟩
  have hS := hS.up h1
  clear h1
  refine hK.out _ _ hS (fun hHeld => ?_)
  clear hK K
  refine wpAnyH_ready (rs := [7]) (by kernel_rfl) (by simp) ?_
  refine AllReadyH.cons rfl (fun K hK => ?_) AllReadyH.nil
  go_simp
  have hS := hS.up (vzero _ (.cells #[.int .i64 x1, .int .i64 x2] 34))
  have hO := orS_new w1 x1 x2
  refine hK.out _ _ hS (fun hHeld => ?_)
  clear hK K
  refine wpAnyH_ready (rs := [8]) (by kernel_rfl) (by simp) ?_
  refine AllReadyH.cons rfl (fun K hK => ?_) AllReadyH.nil
  go_simp
  go_at_call 27
  (with_reducible refine (Or_2 _ x1 x2 _ hO.1 hO.2).mono ?_)
  rintro e w2 ⟨rfl, rfl⟩
  refine hK.out _ _ hS (fun hHeld => ?_)
  clear hK K
  refine hH_take (i := 9) (v := .int .i64 (orE x1 x2)) (d := 2) (l2 := #[true, true, true, true, true, true, true, true, true, true]) rfl (by kernel_rfl) (by kernel_rfl) (by kernel_rfl) (fun _ _ _ h => h) (by kernel_rfl) (fun w hSw => ?_) (by assumption) rfl (by kernel_rfl) ?_
  · go_simp
  simp only [List.set]
  refine wpAnyH_done (by kernel_rfl) ?_ _
  have HS := Lib.hid hS
  go_wp2
  go_ret
  exact ⟨rfl, HS.out.below⟩
set_option maxHeartbeats 8000000 in
set_option maxRecDepth 1000000 in
theorem may_12 (w : World) (a : Ak) (q : Oq) (f : Fq) (K L : List Ky) (D : List Dq) (h : CIn w a q f K L D) (hk : q.kind = 1) (hm : a.m = 12) : Calls Try.prog 21 #[.agg (clA a q f)] w fun e w' => e = .returned (.int .i64 (mayE a q f K L D)) ∧ Below w.heap.size w w' := by
  have HS := Lib.hid (ow_start w (clA a q f) 59)
  have cA := fun W => what_p h.qv W
  have hE : mayE a q f K L D = whatE q.v := by unfold mayE; rw [hk, hm]; simp
  rw [hE]
  clear hE h
  generalize whatE q.v = x1 at *
  go_enter Try.func21, Try.ntmps21
  go_wp2_with (first
    | ((with_reducible refine lu_l2 (all := cll a q f) ?_ rfl rfl HS.out.c ?_); (rfl); refine ⟨_, rfl, ?_⟩)
    | ((with_reducible refine cf_ld (f := f) (all := cll a q f) ?_ rfl rfl HS.out.c ?_ ?_); (rfl); (rfl))
    | ((with_reducible refine cv_ld (v := q.v) (all := cll a q f) ?_ rfl rfl HS.out.c ?_ ?_); (rfl); (rfl))
    | (go_at_call 28; (with_reducible refine (cA _).mono ?_); rintro e w1 ⟨rfl, h9⟩; have HS := Lib.hid (HS.out.up h9); clear h9)
    | (fail))
  go_ret
  exact ⟨rfl, HS.out.below⟩
set_option maxHeartbeats 8000000 in
set_option maxRecDepth 1000000 in
theorem may_13 (w : World) (a : Ak) (q : Oq) (f : Fq) (K L : List Ky) (D : List Dq) (h : CIn w a q f K L D) (hk : q.kind = 1) (hm : a.m = 13) : Calls Try.prog 21 #[.agg (clA a q f)] w fun e w' => e = .returned (.int .i64 (mayE a q f K L D)) ∧ Below w.heap.size w w' := by
  have HS := Lib.hid (ow_start w (clA a q f) 59)
  have cA := fun W => what_p h.qv W
  have hE : mayE a q f K L D = whatE q.v := by unfold mayE; rw [hk, hm]; simp
  rw [hE]
  clear hE h
  generalize whatE q.v = x1 at *
  go_enter Try.func21, Try.ntmps21
  go_wp2_with (first
    | ((with_reducible refine lu_l2 (all := cll a q f) ?_ rfl rfl HS.out.c ?_); (rfl); refine ⟨_, rfl, ?_⟩)
    | ((with_reducible refine cf_ld (f := f) (all := cll a q f) ?_ rfl rfl HS.out.c ?_ ?_); (rfl); (rfl))
    | ((with_reducible refine cv_ld (v := q.v) (all := cll a q f) ?_ rfl rfl HS.out.c ?_ ?_); (rfl); (rfl))
    | (go_at_call 28; (with_reducible refine (cA _).mono ?_); rintro e w1 ⟨rfl, h9⟩; have HS := Lib.hid (HS.out.up h9); clear h9)
    | (fail))
  go_ret
  exact ⟨rfl, HS.out.below⟩
end Go.Proofs.Ytkmgdaagannhkaa.S
