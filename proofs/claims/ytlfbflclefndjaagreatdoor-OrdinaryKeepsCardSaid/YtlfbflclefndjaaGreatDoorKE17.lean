/-
  heap.measured: an array's properties. Generated: gen_heapmeas.py.
-/
import Derived.Test.YtlfbflclefndjaaGreatDoorKE16
import Derived.Test.YtlfbflclefndjaaGreatDoorKE12
namespace Go.Proofs.YtlfbflclefndjaaGreatDoor.S
open Go.RowKit Go.Lib Fl
open Classical

theorem F_inj {a b : Int} (ha : a.natAbs < 2 ^ 53) (hb : b.natAbs < 2 ^ 53) (h : F a = F b) : a = b := by
  have h1 := order_F a b ha hb
  rw [h, order_F b b hb hb] at h1
  injection h1 with h1
  have h2 : compare b b = .eq := Int.compare_eq_eq.2 rfl
  rw [h2] at h1
  exact Int.compare_eq_eq.1 h1.symm
theorem small_at {n : Nat} (h : n ≤ 1024) : smallN (F n) = some n := by
  have hex : ∃ m : Nat, m ≤ 1024 ∧ F (n : Int) = F m := ⟨n, h, rfl⟩
  unfold smallN
  rw [dif_pos hex]
  have hs := Classical.choose_spec hex
  have := F_inj (a := (n : Int)) (b := ((Classical.choose hex : Nat) : Int)) (by omega) (by omega) hs.2
  congr 1
  omega
theorem small_no {x : Nat} (h : ∀ n : Nat, n ≤ 1024 → x ≠ F n) : smallN x = none := by
  unfold smallN
  rw [dif_neg]
  rintro ⟨n, h1, h2⟩
  exact h n h1 h2
theorem f1024 : (4652218415073722368 : Nat) = F 1024 := by kernel_rfl
/-- a number that may be, held against 0 and 1024 -/
theorem meas_ways {v : Vq} (h : v.Ok) (hk : v.k = 3) : (∃ n : Nat, n ≤ 1024 ∧ v.x = F n ∧ (FloatKind.f64.format.order 0 v.x == some .lt || FloatKind.f64.format.order 0 v.x == some .eq) = true ∧ (FloatKind.f64.format.order v.x 4652218415073722368 == some .lt || FloatKind.f64.format.order v.x 4652218415073722368 == some .eq) = true)
    ∨ (smallN v.x = none ∧ ((FloatKind.f64.format.order 0 v.x == some .lt || FloatKind.f64.format.order 0 v.x == some .eq) = false ∨ ((FloatKind.f64.format.order 0 v.x == some .lt || FloatKind.f64.format.order 0 v.x == some .eq) = true ∧ (FloatKind.f64.format.order v.x 4652218415073722368 == some .lt || FloatKind.f64.format.order v.x 4652218415073722368 == some .eq) = false))) := by
  obtain ⟨u, ok, e1, e2, _, _⟩ := h
  cases u with
  | num x =>
    simp only [Vl.fl] at e2
    obtain ⟨c, hc, hm⟩ := ok
    rw [e2] at hc
    clear e2
    cases c with
    | nan =>
      refine .inr ⟨small_no fun n hn e => ?_, .inl ?_⟩
      · exact not_nan_F (n : Int) (by omega) (by rw [← e]; exact hc.2)
      · have : FloatKind.f64.format.order 0 v.x = none := order_nan_r 0 hc.2
        rw [this]; rfl
    | other => cases hm
    | ours n =>
      obtain ⟨hx, hs⟩ := hc
      have hs1 := hs.abs
      rw [hx]
      have q1 : FloatKind.f64.format.order 0 (F n) = some (compare 0 n) := by have := order_F 0 n (by decide) hs1; rw [F_zero] at this; exact this
      have q2 : FloatKind.f64.format.order (F n) 4652218415073722368 = some (compare n 1024) := by rw [f1024]; exact order_F n 1024 hs1 (by decide)
      rw [q1, q2]
      by_cases h0 : n < 0
      · have e0 : compare (0 : Int) n = .gt := Int.compare_eq_gt.2 h0
        refine .inr ⟨small_no fun m hm e => ?_, .inl (by rw [e0]; rfl)⟩
        have := F_inj hs1 (by omega) e; omega
      · have e0 : compare (0 : Int) n = .lt ∨ compare (0 : Int) n = .eq := by
          by_cases z : n = 0
          · exact .inr (by rw [z]; rfl)
          · exact .inl (Int.compare_eq_lt.2 (by omega))
        have e0' : (some (compare (0 : Int) n) == some Ordering.lt || some (compare (0 : Int) n) == some Ordering.eq) = true := by rcases e0 with e | e <;> rw [e] <;> rfl
        by_cases h1 : n ≤ 1024
        · have e3 : compare n (1024 : Int) = .lt ∨ compare n (1024 : Int) = .eq := by
            by_cases z : n = 1024
            · exact .inr (by rw [z]; rfl)
            · exact .inl (Int.compare_eq_lt.2 (by omega))
          obtain ⟨m, rfl⟩ := Int.eq_ofNat_of_zero_le (show 0 ≤ n by omega)
          exact .inl ⟨m, by omega, rfl, e0', by rcases e3 with e | e <;> rw [e] <;> rfl⟩
        · have e3 : compare n (1024 : Int) = .gt := Int.compare_eq_gt.2 (by omega)
          refine .inr ⟨small_no fun m hm e => ?_, .inr ⟨e0', by rw [e3]; rfl⟩⟩
          have := F_inj hs1 (by omega) e; omega
  | obj k r => exact absurd (e1.trans hk) (by simp only [Vl.kd]; have := ok.1; omega)
  | _ => exact absurd (e1.trans hk) (by simp only [Vl.kd]; omega)
section
variable {ops : Array Oper} {rest : List Oper} {o : Oper} {a : Act} {w : World} {Q : Exit → Act → World → Prop} {x y : Operand}
theorem ex_kneq {p q : Ky} (ho : o.op = .binOp .neq 26 x y 26) (hx : a.eval x = .agg #[.string p.str, .int .i64 p.sym]) (hy : a.eval y = .agg #[.string q.str, .int .i64 q.sym]) :
    (execOp a.eval o).run Tryz.prog w = .ok (.value (.bool (!eqK p q))) w := by
  have he : (Op.equalIn (9998 + 2) 26 (.agg #[.string p.str, .int .i64 p.sym]) (.agg #[.string q.str, .int .i64 q.sym])).run Tryz.prog w = .ok (eqK p q) w := key_eq 9998 p.str q.str p.sym q.sym w
  unfold execOp
  simp only [ho, hx, hy, Sem.run_bind, Sem.run_pure, run_eqGuard_agg w _ _ _ _ _ _ (show Tryz.prog.eqGuardType Tryz.prog.depth 26 = false by kernel_rfl), run_neq_struct, he, Result.andThen_ok]
/-- a descriptor out of a row of properties -/
theorem d_row {A : Addr} {p : Pq} (hw : Region.wanted o (yielded ops a.tmps) = true) (ho : o.op = .load 41 x) (hx : a.eval x = .pointer (some ⟨A.block, A.off + 2, none⟩)) (hc : ∀ j u, (pcl p)[j]? = some u → w.cell? (A.add j) = some u)
    (h : wpList Tryz.prog ops Q rest (a.put o.dst (.agg p.d.cells)) w) : wpList Tryz.prog ops Q (o :: rest) a w :=
  wpList_wanted hw fun _ hK => wp_load_at (cs := p.d.cells.toList) ho hx (fun j v hv => by
    have hj : j < 16 := by have := (List.getElem?_eq_some_iff.1 hv).1; exact this
    have e : (⟨A.block, A.off + 2, none⟩ : Addr).add j = A.add (2 + j) := by
      unfold Addr.add
      rw [if_neg (show ¬ 2 + j = 0 by omega)]
      by_cases z : j = 0
      · subst z; rfl
      · rw [if_neg z]; simp [Nat.add_assoc]
    rw [e]
    refine hc (2 + j) v ?_
    rw [show 2 + j = j + 1 + 1 by omega]
    exact hv) Tryz.underlying41 rfl dsz (hK _ _ h)
end
theorem pr_key0 {w : World} {a : Addr} {P : Pq} {r : List Pq} (h : PR w (some a) (P :: r)) : (Instr.loadAt 26 (.pointer (some a))).run Tryz.prog w = .ok (.agg #[.string P.k.str, .int .i64 P.k.sym]) w :=
  k2_at (pr_key h (i := 0) (by simp)).2.1 (pr_key h (i := 0) (by simp)).2.2
theorem meas_f1 {P : Pq} {r : List Pq} (h : eqK P.k lenK = false) : measuredB (P :: r) = false := by unfold measuredB; dsimp only; rw [h]; rfl
theorem meas_f2 {P : Pq} {r : List Pq} (h : (P.d.a.k == 3) = false) : measuredB (P :: r) = false := by unfold measuredB; dsimp only; rw [h, Bool.false_and, Bool.and_false]
theorem meas_f3 {P : Pq} {r : List Pq} (h : smallN P.d.a.x = none) : measuredB (P :: r) = false := by unfold measuredB; dsimp only; rw [h, Bool.and_false, Bool.and_false]
theorem meas_f4 {P : Pq} {r : List Pq} (h : P.d.q = true) : measuredB (P :: r) = false := by
  unfold measuredB
  dsimp only
  rw [h]
  cases smallN P.d.a.x <;> simp
theorem meas_f5 {P : Pq} {r : List Pq} (h : P.d.z = true) : measuredB (P :: r) = false := by
  unfold measuredB
  dsimp only
  rw [h]
  cases smallN P.d.a.x <;> simp
theorem meas_ok {P : Pq} {r : List Pq} {n : Nat} (h : eqK P.k lenK = true) (hk : (P.d.a.k == 3) = true) (hs : smallN P.d.a.x = some n) (hq : P.d.q = false) (hz : P.d.z = false) : measuredB (P :: r) = idxs (P :: r) fun i => decide (i < n) := by
  unfold measuredB
  dsimp only
  rw [h, hk, hs, hq, hz]; rfl
theorem box_at {w1 W : World} {o : Obj} {v : Value} {t : TypeId} (h : W.heap.size = (w1.alloc o).heap.size) : (W.alloc (.cells #[v] t)).cell? ⟨w1.heap.size + 1, 0, none⟩ = some v ∧ w1.heap.size + 1 < (W.alloc (.cells #[v] t)).heap.size := by
  have e : W.heap.size = w1.heap.size + 1 := by rw [h]; simp
  rw [← e]
  exact ⟨(vcells (heap_alloc_new W _) 0).trans rfl, by simp⟩
theorem dq16 (d : Dq) : d.cells.all (·.oneCell') = true := cells_one (l := d.cells.toList) rfl
theorem dc_at {w : World} {g : Nat} {t : TypeId} {d : Dq} (h : w.heap[g]? = some (.cells d.cells t (0, 0))) : w.cell? ⟨g, 1, none⟩ = some (.int .u8 d.a.k) ∧ w.cell? ⟨g, 2, none⟩ = some (.float .f64 d.a.x) ∧ w.cell? ⟨g, 14, none⟩ = some (.bool d.q) ∧ w.cell? ⟨g, 15, none⟩ = some (.bool d.z) ∧ g < w.heap.size :=
  ⟨(vcells h 1).trans rfl, (vcells h 2).trans rfl, (vcells h 14).trans rfl, (vcells h 15).trans rfl, lt_blk h⟩
set_option maxHeartbeats 4000000 in
set_option maxRecDepth 100000 in
theorem measured_h (A : Option Addr) (L : List Pq) (cap : Nat) (w : World) (ok : TabOk L) (hin : ∀ p ∈ L, p.In) (hL : PR w A L) (htab : TabHere w) : Calls Tryz.prog 60 #[.slice A L.length cap] w fun e w' => e = .returned (.bool (measuredB L)) ∧ Below w.heap.size w w' := by
  cases L with
  | nil =>
    go_enter Tryz.func60, Tryz.ntmps60
    go_wp2
    go_quiet (fail)
    all_goals go_wp2
    all_goals go_ret
    all_goals exact ⟨rfl, tdrewN (Below.refl _ _) _⟩
  | cons P r =>
    obtain ⟨a, rfl, hab, hrow⟩ := id hL (by simp)
    have hlen : ((P :: r).length : Int) = (r.length : Int) + 1 := by simp
    have hnl : 0 < (P :: r).length := by simp
    have hlz : (0 : Int) < ((P :: r).length : Int) := by omega
    have hln : (((P :: r).length : Int) == 0) = false := by rw [beq_eq_false_iff_ne]; omega
    have hPok := ok.all P (by simp)
    have hPin := hin P (by simp)
    have hfew : (P :: r).length < 1000000000000 := by have := ok.len; omega
    have hc0 : ∀ j u, (pcl P)[j]? = some u → w.cell? (a.add j) = some u := fun j u hu => by have := hrow 0 (by simp) j u hu; simpa using this
    have hgood := ((whole_iff hPin.2).1 hPok.2).1
    have hi1 : (Tryz.prog.info? 41).map (·.size) = some P.d.cells.size := dsz
    have hst := vstore
    have HTB := Lib.hid htab
    clear htab hrow hPok ok
    have hK0 := fun W (hb : Below w.heap.size w W) => pr_key0 (pr_up hL hb)
    have hAok : P.d.a.Ok := hgood.a
    have HLE := Lib.hid (And.intro hlen hfew)
    have HIN := Lib.hid hin
    clear hgood hlen hfew hin
    cases he : eqK P.k lenK with
    | false =>
      rw [meas_f1 he]
      generalize hLL : P :: r = LL at *
      go_enter Tryz.func60, Tryz.ntmps60
      go_wp2
      have hS : Below w.heap.size w w.drew := (Below.refl w.heap.size w).drew
      refine wp_region_held_drew (S := fun wx => Below w.heap.size w wx) (by kernel_rfl) hS (fun hHeld => ?_)
      refine hH_take (i := 0) (v := ?_) (d := 5) (l2 := #[true, false, false, false, false, false, false, false, false, false, false]) rfl (by kernel_rfl) (by kernel_rfl) (by kernel_rfl) (fun _ _ _ h => h) (by kernel_rfl) ?_ (by assumption) rfl (by kernel_rfl) ?_
      rotate_left
      · intro w hSw; (try dsimp only at hSw); go_simp; (try with_reducible rfl)
      simp only [List.set]
      refine hH_take (i := 1) (v := ?_) (d := 6) (l2 := #[true, true, false, false, false, false, false, false, false, false, false]) rfl (by kernel_rfl) (by kernel_rfl) (by kernel_rfl) (fun _ _ _ h => h) (by kernel_rfl) ?_ (by assumption) rfl (by kernel_rfl) ?_
      rotate_left
      · intro w hSw; (try dsimp only at hSw); go_simp; (try with_reducible rfl)
      simp only [List.set]
      refine hH_take (i := 2) (v := ?_) (d := 7) (l2 := #[true, true, true, false, false, false, false, false, false, false, false]) rfl (by kernel_rfl) (by kernel_rfl) (by kernel_rfl) (fun _ _ _ h => h) (by kernel_rfl) ?_ (by assumption) rfl (by kernel_rfl) ?_
      rotate_left
      · intro w hSw; (try dsimp only at hSw); go_simp; (try with_reducible rfl)
      simp only [List.set]
      refine hH_take (i := 3) (v := ?_) (d := 8) (l2 := #[true, true, true, true, false, false, false, false, false, false, false]) rfl (by kernel_rfl) (by kernel_rfl) (by kernel_rfl) (fun _ _ _ h => h) (by kernel_rfl) ?_ (by assumption) rfl (by kernel_rfl) ?_
      rotate_left
      · intro w hSw; (try dsimp only at hSw); go_simp; (try with_reducible rfl)
      simp only [List.set]
      refine hH_take (i := 4) (v := ?_) (d := 9) (l2 := #[true, true, true, true, true, false, false, false, false, false, false]) rfl (by kernel_rfl) (by kernel_rfl) (by kernel_rfl) (fun _ _ _ h => h) (by kernel_rfl) ?_ (by assumption) rfl (by kernel_rfl) ?_
      rotate_left
      · intro w hSw; (try dsimp only at hSw); go_simp; (try with_reducible rfl)
      simp only [List.set]
      refine hH_take (i := 5) (v := ?_) (d := 10) (l2 := #[true, true, true, true, true, true, false, false, false, false, false]) rfl (by kernel_rfl) (by kernel_rfl) (by kernel_rfl) (fun _ _ _ h => h) (by kernel_rfl) ?_ (by assumption) rfl (by kernel_rfl) ?_
      rotate_left
      · intro w hSw; (try dsimp only at hSw); go_simp; (try with_reducible rfl)
      simp only [List.set]
      refine hH_take (i := 6) (v := ?_) (d := 11) (l2 := #[true, true, true, true, true, true, true, false, false, false, false]) rfl (by kernel_rfl) (by kernel_rfl) (by kernel_rfl) (fun _ _ _ h => h) (by kernel_rfl) ?_ (by assumption) rfl (by kernel_rfl) ?_
      rotate_left
      · intro w hSw; (try dsimp only at hSw); go_simp; (try with_reducible rfl)
      simp only [List.set]
      refine hH_take (i := 7) (v := ?_) (d := 12) (l2 := #[true, true, true, true, true, true, true, true, false, false, false]) rfl (by kernel_rfl) (by kernel_rfl) (by kernel_rfl) (fun _ _ _ h => h) (by kernel_rfl) ?_ (by assumption) rfl (by kernel_rfl) ?_
      rotate_left
      · intro w hSw; refine (ex_load_at (hK0 _ hSw) rfl rfl).trans ?_; with_reducible rfl
      simp only [List.set]
      refine wpAnyH_ready (rs := [8]) (by kernel_rfl) (by simp) ?_
      refine AllReadyH.cons rfl (fun K hK => ?_) AllReadyH.nil
      go_simp
      (go_at_call 81; (with_reducible refine (keyOf_k (⟨#[108, 101, 110, 103, 116, 104]⟩ : ByteArray) _).mono ?_); rintro e w1 ⟨rfl, h1⟩; have hS : Below w.heap.size w w1 := vb hS h1; clear h1)
      refine hK.out _ _ hS (fun hHeld => ?_)
      clear hK K
      refine hH_take (i := 9) (v := ?_) (d := 14) (l2 := #[true, true, true, true, true, true, true, true, true, true, false]) rfl (by kernel_rfl) (by kernel_rfl) (by kernel_rfl) (fun _ _ _ h => h) (by kernel_rfl) ?_ (by assumption) rfl (by kernel_rfl) ?_
      rotate_left
      · intro w hSw; refine (ex_kneq (p := P.k) (q := lenK) rfl rfl rfl).trans ?_; rw [he]
      simp only [List.set]
      refine hH_take (i := 10) (v := ?_) (d := 15) (l2 := #[true, true, true, true, true, true, true, true, true, true, true]) rfl (by kernel_rfl) (by kernel_rfl) (by kernel_rfl) (fun _ _ _ h => h) (by kernel_rfl) ?_ (by assumption) rfl (by kernel_rfl) ?_
      rotate_left
      · intro w hSw; (try dsimp only at hSw); go_simp; (try with_reducible rfl)
      simp only [List.set]
      refine wpAnyH_done (by kernel_rfl) ?_ _
      go_wp2_with (fail)
      go_ret
      exact ⟨rfl, hS⟩
    | true =>
      have HC := fun W (hb : Below w.heap.size w W) => (fun j u hu => (hb.cell (p := a.add j) (by rw [add_blk]; exact hab)).trans (hc0 j u hu) : ∀ j u, (pcl P)[j]? = some u → W.cell? (a.add j) = some u)
      have hways : measuredB (P :: r) = false ∧ ((P.d.a.k == 3) = false ∨ ((P.d.a.k == 3) = true ∧ ((FloatKind.f64.format.order 0 P.d.a.x == some .lt || FloatKind.f64.format.order 0 P.d.a.x == some .eq) = false ∨ ((FloatKind.f64.format.order 0 P.d.a.x == some .lt || FloatKind.f64.format.order 0 P.d.a.x == some .eq) = true ∧ ((FloatKind.f64.format.order P.d.a.x 4652218415073722368 == some .lt || FloatKind.f64.format.order P.d.a.x 4652218415073722368 == some .eq) = false ∨ ((FloatKind.f64.format.order P.d.a.x 4652218415073722368 == some .lt || FloatKind.f64.format.order P.d.a.x 4652218415073722368 == some .eq) = true ∧ (P.d.q = true ∨ (P.d.q = false ∧ P.d.z = true))))))))
          ∨ ∃ n : Nat, n ≤ 1024 ∧ P.d.a.x = F n ∧ (P.d.a.k == 3) = true ∧ (FloatKind.f64.format.order 0 P.d.a.x == some .lt || FloatKind.f64.format.order 0 P.d.a.x == some .eq) = true ∧ (FloatKind.f64.format.order P.d.a.x 4652218415073722368 == some .lt || FloatKind.f64.format.order P.d.a.x 4652218415073722368 == some .eq) = true ∧ P.d.q = false ∧ P.d.z = false ∧ measuredB (P :: r) = idxs (P :: r) fun i => decide (i < n) := by
        cases hk : (P.d.a.k == 3) with
        | false => exact .inl ⟨meas_f2 hk, .inl rfl⟩
        | true =>
          rcases meas_ways hAok (by simpa using hk) with ⟨n, hn, hx, g0, g1⟩ | ⟨hs, g0 | ⟨g0, g1⟩⟩
          · cases hq : P.d.q with
            | true => exact .inl ⟨meas_f4 hq, .inr ⟨rfl, .inr ⟨g0, .inr ⟨g1, .inl rfl⟩⟩⟩⟩
            | false =>
              cases hz : P.d.z with
              | true => exact .inl ⟨meas_f5 hz, .inr ⟨rfl, .inr ⟨g0, .inr ⟨g1, .inr ⟨rfl, rfl⟩⟩⟩⟩⟩
              | false => exact .inr ⟨n, hn, hx, rfl, g0, g1, rfl, rfl, meas_ok he hk (by rw [hx]; exact small_at hn) hq hz⟩
          · exact .inl ⟨meas_f3 hs, .inr ⟨rfl, .inl g0⟩⟩
          · exact .inl ⟨meas_f3 hs, .inr ⟨rfl, .inr ⟨g0, .inl g1⟩⟩⟩


      clear hAok
      rcases hways with ⟨hM, hw⟩ | ⟨n, hn, hx, g3, g0, g1, gq, gz, hM⟩
      · rw [hM]
        clear hM
        generalize hLL : P :: r = LL at *
        rcases hw with g3 | ⟨g3, g0 | ⟨g0, g1 | ⟨g1, gq | ⟨gq, gz⟩⟩⟩⟩
        all_goals
          have g4 : (P.d.a.k != 3) = !(P.d.a.k == 3) := rfl
          rw [g3] at g4
          replace g4 : (P.d.a.k != 3) = _ := g4
          go_enter Tryz.func60, Tryz.ntmps60
          go_wp2
          have hS : Below w.heap.size w w.drew := (Below.refl w.heap.size w).drew
          refine wp_region_held_drew (S := fun wx => Below w.heap.size w wx) (by kernel_rfl) hS (fun hHeld => ?_)
          refine hH_take (i := 0) (v := ?_) (d := 5) (l2 := #[true, false, false, false, false, false, false, false, false, false, false]) rfl (by kernel_rfl) (by kernel_rfl) (by kernel_rfl) (fun _ _ _ h => h) (by kernel_rfl) ?_ (by assumption) rfl (by kernel_rfl) ?_
          rotate_left
          · intro w hSw; (try dsimp only at hSw); go_simp; (try with_reducible rfl)
          simp only [List.set]
          refine hH_take (i := 1) (v := ?_) (d := 6) (l2 := #[true, true, false, false, false, false, false, false, false, false, false]) rfl (by kernel_rfl) (by kernel_rfl) (by kernel_rfl) (fun _ _ _ h => h) (by kernel_rfl) ?_ (by assumption) rfl (by kernel_rfl) ?_
          rotate_left
          · intro w hSw; (try dsimp only at hSw); go_simp; (try with_reducible rfl)
          simp only [List.set]
          refine hH_take (i := 2) (v := ?_) (d := 7) (l2 := #[true, true, true, false, false, false, false, false, false, false, false]) rfl (by kernel_rfl) (by kernel_rfl) (by kernel_rfl) (fun _ _ _ h => h) (by kernel_rfl) ?_ (by assumption) rfl (by kernel_rfl) ?_
          rotate_left
          · intro w hSw; (try dsimp only at hSw); go_simp; (try with_reducible rfl)
          simp only [List.set]
          refine hH_take (i := 3) (v := ?_) (d := 8) (l2 := #[true, true, true, true, false, false, false, false, false, false, false]) rfl (by kernel_rfl) (by kernel_rfl) (by kernel_rfl) (fun _ _ _ h => h) (by kernel_rfl) ?_ (by assumption) rfl (by kernel_rfl) ?_
          rotate_left
          · intro w hSw; (try dsimp only at hSw); go_simp; (try with_reducible rfl)
          simp only [List.set]
          refine hH_take (i := 4) (v := ?_) (d := 9) (l2 := #[true, true, true, true, true, false, false, false, false, false, false]) rfl (by kernel_rfl) (by kernel_rfl) (by kernel_rfl) (fun _ _ _ h => h) (by kernel_rfl) ?_ (by assumption) rfl (by kernel_rfl) ?_
          rotate_left
          · intro w hSw; (try dsimp only at hSw); go_simp; (try with_reducible rfl)
          simp only [List.set]
          refine hH_take (i := 5) (v := ?_) (d := 10) (l2 := #[true, true, true, true, true, true, false, false, false, false, false]) rfl (by kernel_rfl) (by kernel_rfl) (by kernel_rfl) (fun _ _ _ h => h) (by kernel_rfl) ?_ (by assumption) rfl (by kernel_rfl) ?_
          rotate_left
          · intro w hSw; (try dsimp only at hSw); go_simp; (try with_reducible rfl)
          simp only [List.set]
          refine hH_take (i := 6) (v := ?_) (d := 11) (l2 := #[true, true, true, true, true, true, true, false, false, false, false]) rfl (by kernel_rfl) (by kernel_rfl) (by kernel_rfl) (fun _ _ _ h => h) (by kernel_rfl) ?_ (by assumption) rfl (by kernel_rfl) ?_
          rotate_left
          · intro w hSw; (try dsimp only at hSw); go_simp; (try with_reducible rfl)
          simp only [List.set]
          refine hH_take (i := 7) (v := ?_) (d := 12) (l2 := #[true, true, true, true, true, true, true, true, false, false, false]) rfl (by kernel_rfl) (by kernel_rfl) (by kernel_rfl) (fun _ _ _ h => h) (by kernel_rfl) ?_ (by assumption) rfl (by kernel_rfl) ?_
          rotate_left
          · intro w hSw; refine (ex_load_at (hK0 _ hSw) rfl rfl).trans ?_; with_reducible rfl
          simp only [List.set]
          refine wpAnyH_ready (rs := [8]) (by kernel_rfl) (by simp) ?_
          refine AllReadyH.cons rfl (fun K hK => ?_) AllReadyH.nil
          go_simp
          (go_at_call 81; (with_reducible refine (keyOf_k (⟨#[108, 101, 110, 103, 116, 104]⟩ : ByteArray) _).mono ?_); rintro e w1 ⟨rfl, h1⟩; have hS : Below w.heap.size w w1 := vb hS h1; clear h1)
          refine hK.out _ _ hS (fun hHeld => ?_)
          clear hK K
          refine hH_take (i := 9) (v := ?_) (d := 14) (l2 := #[true, true, true, true, true, true, true, true, true, true, false]) rfl (by kernel_rfl) (by kernel_rfl) (by kernel_rfl) (fun _ _ _ h => h) (by kernel_rfl) ?_ (by assumption) rfl (by kernel_rfl) ?_
          rotate_left
          · intro w hSw; refine (ex_kneq (p := P.k) (q := lenK) rfl rfl rfl).trans ?_; rw [he]
          simp only [List.set]
          refine hH_take (i := 10) (v := ?_) (d := 15) (l2 := #[true, true, true, true, true, true, true, true, true, true, true]) rfl (by kernel_rfl) (by kernel_rfl) (by kernel_rfl) (fun _ _ _ h => h) (by kernel_rfl) ?_ (by assumption) rfl (by kernel_rfl) ?_
          rotate_left
          · intro w hSw; (try dsimp only at hSw); go_simp; (try with_reducible rfl)
          simp only [List.set]
          refine wpAnyH_done (by kernel_rfl) ?_ _
          have hc := HC _ hS
          have HB := Lib.hid hS
          go_wp2_with (first
            | ((with_reducible refine d_row (A := a) (p := P) ?_ rfl rfl hc ?_); (rfl))
            | ((with_reducible refine t_store rfl rfl rfl rfl (heap_alloc_new _ _) hi1 ?_ (dq16 P.d) (vzero _ _) (Nat.le_refl _) ?_); (rfl); intro W hBW hW _ hz2; obtain ⟨d0, d1, d5, d6, df⟩ := dc_at hW; have HB := Lib.hid (vb HB.out hBW)))
          go_ret
          exact ⟨rfl, HB.out.alloc HB.out.size _⟩
      · rw [hM]
        have hK : P.d.a.k = 3 := by simpa using g3
        have hIx := fun V (hb : Below w.heap.size w V) (g : Nat) (hg : g < V.heap.size) (hcl : V.cell? ⟨g, 0, none⟩ = some (.float .f64 (F n))) => indices_m (some a) (P :: r) cap g n V (tab_up HTB.out hb) HIN.out HLE.out.2 (pr_up hL hb) hn hg hcl
        generalize hLL : P :: r = LL at *
        generalize hpx : P.d.a.x = px at *
        subst hx
        go_enter Tryz.func60, Tryz.ntmps60
        go_wp2
        have hS : Below w.heap.size w w.drew := (Below.refl w.heap.size w).drew
        refine wp_region_held_drew (S := fun wx => Below w.heap.size w wx) (by kernel_rfl) hS (fun hHeld => ?_)
        refine hH_take (i := 0) (v := ?_) (d := 5) (l2 := #[true, false, false, false, false, false, false, false, false, false, false]) rfl (by kernel_rfl) (by kernel_rfl) (by kernel_rfl) (fun _ _ _ h => h) (by kernel_rfl) ?_ (by assumption) rfl (by kernel_rfl) ?_
        rotate_left
        · intro w hSw; (try dsimp only at hSw); go_simp; (try with_reducible rfl)
        simp only [List.set]
        refine hH_take (i := 1) (v := ?_) (d := 6) (l2 := #[true, true, false, false, false, false, false, false, false, false, false]) rfl (by kernel_rfl) (by kernel_rfl) (by kernel_rfl) (fun _ _ _ h => h) (by kernel_rfl) ?_ (by assumption) rfl (by kernel_rfl) ?_
        rotate_left
        · intro w hSw; (try dsimp only at hSw); go_simp; (try with_reducible rfl)
        simp only [List.set]
        refine hH_take (i := 2) (v := ?_) (d := 7) (l2 := #[true, true, true, false, false, false, false, false, false, false, false]) rfl (by kernel_rfl) (by kernel_rfl) (by kernel_rfl) (fun _ _ _ h => h) (by kernel_rfl) ?_ (by assumption) rfl (by kernel_rfl) ?_
        rotate_left
        · intro w hSw; (try dsimp only at hSw); go_simp; (try with_reducible rfl)
        simp only [List.set]
        refine hH_take (i := 3) (v := ?_) (d := 8) (l2 := #[true, true, true, true, false, false, false, false, false, false, false]) rfl (by kernel_rfl) (by kernel_rfl) (by kernel_rfl) (fun _ _ _ h => h) (by kernel_rfl) ?_ (by assumption) rfl (by kernel_rfl) ?_
        rotate_left
        · intro w hSw; (try dsimp only at hSw); go_simp; (try with_reducible rfl)
        simp only [List.set]
        refine hH_take (i := 4) (v := ?_) (d := 9) (l2 := #[true, true, true, true, true, false, false, false, false, false, false]) rfl (by kernel_rfl) (by kernel_rfl) (by kernel_rfl) (fun _ _ _ h => h) (by kernel_rfl) ?_ (by assumption) rfl (by kernel_rfl) ?_
        rotate_left
        · intro w hSw; (try dsimp only at hSw); go_simp; (try with_reducible rfl)
        simp only [List.set]
        refine hH_take (i := 5) (v := ?_) (d := 10) (l2 := #[true, true, true, true, true, true, false, false, false, false, false]) rfl (by kernel_rfl) (by kernel_rfl) (by kernel_rfl) (fun _ _ _ h => h) (by kernel_rfl) ?_ (by assumption) rfl (by kernel_rfl) ?_
        rotate_left
        · intro w hSw; (try dsimp only at hSw); go_simp; (try with_reducible rfl)
        simp only [List.set]
        refine hH_take (i := 6) (v := ?_) (d := 11) (l2 := #[true, true, true, true, true, true, true, false, false, false, false]) rfl (by kernel_rfl) (by kernel_rfl) (by kernel_rfl) (fun _ _ _ h => h) (by kernel_rfl) ?_ (by assumption) rfl (by kernel_rfl) ?_
        rotate_left
        · intro w hSw; (try dsimp only at hSw); go_simp; (try with_reducible rfl)
        simp only [List.set]
        refine hH_take (i := 7) (v := ?_) (d := 12) (l2 := #[true, true, true, true, true, true, true, true, false, false, false]) rfl (by kernel_rfl) (by kernel_rfl) (by kernel_rfl) (fun _ _ _ h => h) (by kernel_rfl) ?_ (by assumption) rfl (by kernel_rfl) ?_
        rotate_left
        · intro w hSw; refine (ex_load_at (hK0 _ hSw) rfl rfl).trans ?_; with_reducible rfl
        simp only [List.set]
        refine wpAnyH_ready (rs := [8]) (by kernel_rfl) (by simp) ?_
        refine AllReadyH.cons rfl (fun K hK => ?_) AllReadyH.nil
        go_simp
        (go_at_call 81; (with_reducible refine (keyOf_k (⟨#[108, 101, 110, 103, 116, 104]⟩ : ByteArray) _).mono ?_); rintro e w1 ⟨rfl, h1⟩; have hS : Below w.heap.size w w1 := vb hS h1; clear h1)
        refine hK.out _ _ hS (fun hHeld => ?_)
        clear hK K
        refine hH_take (i := 9) (v := ?_) (d := 14) (l2 := #[true, true, true, true, true, true, true, true, true, true, false]) rfl (by kernel_rfl) (by kernel_rfl) (by kernel_rfl) (fun _ _ _ h => h) (by kernel_rfl) ?_ (by assumption) rfl (by kernel_rfl) ?_
        rotate_left
        · intro w hSw; refine (ex_kneq (p := P.k) (q := lenK) rfl rfl rfl).trans ?_; rw [he]
        simp only [List.set]
        refine hH_take (i := 10) (v := ?_) (d := 15) (l2 := #[true, true, true, true, true, true, true, true, true, true, true]) rfl (by kernel_rfl) (by kernel_rfl) (by kernel_rfl) (fun _ _ _ h => h) (by kernel_rfl) ?_ (by assumption) rfl (by kernel_rfl) ?_
        rotate_left
        · intro w hSw; (try dsimp only at hSw); go_simp; (try with_reducible rfl)
        simp only [List.set]
        refine wpAnyH_done (by kernel_rfl) ?_ _
        have hc := HC _ hS
        have HB := Lib.hid hS
        go_wp2_with (first
          | ((with_reducible refine d_row (A := a) (p := P) ?_ rfl rfl hc ?_); (rfl))
          | ((with_reducible refine t_store rfl rfl rfl rfl (heap_alloc_new _ _) hi1 ?_ (dq16 P.d) (vzero _ _) (Nat.le_refl _) ?_); (rfl); intro W hBW hW _ hz2; obtain ⟨d0, d1, d5, d6, df⟩ := dc_at hW; have HB := Lib.hid (vb HB.out hBW))
          | (go_at_call 82; (with_reducible refine (hIx _ (HB.out.alloc HB.out.size _) _ (box_at hz2).2 (box_at hz2).1).mono ?_); rintro e w1 ⟨rfl, h9⟩; have HB := Lib.hid (vb (HB.out.alloc HB.out.size _) h9); clear h9))
        go_ret
        exact ⟨rfl, HB.out⟩

end Go.Proofs.YtlfbflclefndjaaGreatDoor.S
