/-
  heap.measured: an array's properties. Generated: gen_heapmeas.py.
-/
import Derived.Test.YtbeggameiedjgaaGreatDoorHA01
import Derived.Test.YtbeggameiedjgaaGreatDoorTN23
import Derived.Test.YtbeggameiedjgaaGreatDoorTN33
namespace Go.Proofs.YtbeggameiedjgaaGreatDoor.S
open Go.RowKit Go.Lib Fl
open Classical

theorem F_inj {a b : Int} (ha : a.natAbs < 2 ^ 53) (hb : b.natAbs < 2 ^ 53) (h : F a = F b) : a = b := by
  have h1 := order_F a b ha hb
  rw [h, order_F b b hb hb] at h1
  injection h1 with h1
  have h2 : compare b b = .eq := Int.compare_eq_eq.2 rfl
  rw [h2] at h1
  exact Int.compare_eq_eq.1 h1.symm
theorem small_at {n : Nat} (h : n ≤ 1024) : smallN (F n) = some n := by
  have hex : ∃ m : Nat, m ≤ 1024 ∧ F (n : Int) = F m := ⟨n, h, rfl⟩
  unfold smallN
  rw [dif_pos hex]
  have hs := Classical.choose_spec hex
  have := F_inj (a := (n : Int)) (b := ((Classical.choose hex : Nat) : Int)) (by omega) (by omega) hs.2
  congr 1
  omega
theorem small_no {x : Nat} (h : ∀ n : Nat, n ≤ 1024 → x ≠ F n) : smallN x = none := by
  unfold smallN
  rw [dif_neg]
  rintro ⟨n, h1, h2⟩
  exact h n h1 h2
theorem f1024 : (4652218415073722368 : Nat) = F 1024 := by kernel_rfl
/-- a number that may be, held against 0 and 1024 -/
theorem meas_ways {v : Vq} (h : v.Ok) (hk : v.k = 3) : (∃ n : Nat, n ≤ 1024 ∧ v.x = F n ∧ (FloatKind.f64.format.order 0 v.x == some .lt || FloatKind.f64.format.order 0 v.x == some .eq) = true ∧ (FloatKind.f64.format.order v.x 4652218415073722368 == some .lt || FloatKind.f64.format.order v.x 4652218415073722368 == some .eq) = true)
    ∨ (smallN v.x = none ∧ ((FloatKind.f64.format.order 0 v.x == some .lt || FloatKind.f64.format.order 0 v.x == some .eq) = false ∨ ((FloatKind.f64.format.order 0 v.x == some .lt || FloatKind.f64.format.order 0 v.x == some .eq) = true ∧ (FloatKind.f64.format.order v.x 4652218415073722368 == some .lt || FloatKind.f64.format.order v.x 4652218415073722368 == some .eq) = false))) := by
  obtain ⟨u, ok, e1, e2, _, _⟩ := h
  cases u with
  | num x =>
    simp only [Vl.fl] at e2
    obtain ⟨c, hc, hm⟩ := ok
    rw [e2] at hc
    clear e2
    cases c with
    | nan =>
      refine .inr ⟨small_no fun n hn e => ?_, .inl ?_⟩
      · exact not_nan_F (n : Int) (by omega) (by rw [← e]; exact hc.2)
      · have : FloatKind.f64.format.order 0 v.x = none := order_nan_r 0 hc.2
        rw [this]; rfl
    | other => cases hm
    | ours n =>
      obtain ⟨hx, hs⟩ := hc
      have hs1 := hs.abs
      rw [hx]
      have q1 : FloatKind.f64.format.order 0 (F n) = some (compare 0 n) := by have := order_F 0 n (by decide) hs1; rw [F_zero] at this; exact this
      have q2 : FloatKind.f64.format.order (F n) 4652218415073722368 = some (compare n 1024) := by rw [f1024]; exact order_F n 1024 hs1 (by decide)
      rw [q1, q2]
      by_cases h0 : n < 0
      · have e0 : compare (0 : Int) n = .gt := Int.compare_eq_gt.2 h0
        refine .inr ⟨small_no fun m hm e => ?_, .inl (by rw [e0]; rfl)⟩
        have := F_inj hs1 (by omega) e; omega
      · have e0 : compare (0 : Int) n = .lt ∨ compare (0 : Int) n = .eq := by
          by_cases z : n = 0
          · exact .inr (by rw [z]; rfl)
          · exact .inl (Int.compare_eq_lt.2 (by omega))
        have e0' : (some (compare (0 : Int) n) == some Ordering.lt || some (compare (0 : Int) n) == some Ordering.eq) = true := by rcases e0 with e | e <;> rw [e] <;> rfl
        by_cases h1 : n ≤ 1024
        · have e3 : compare n (1024 : Int) = .lt ∨ compare n (1024 : Int) = .eq := by
            by_cases z : n = 1024
            · exact .inr (by rw [z]; rfl)
            · exact .inl (Int.compare_eq_lt.2 (by omega))
          obtain ⟨m, rfl⟩ := Int.eq_ofNat_of_zero_le (show 0 ≤ n by omega)
          exact .inl ⟨m, by omega, rfl, e0', by rcases e3 with e | e <;> rw [e] <;> rfl⟩
        · have e3 : compare n (1024 : Int) = .gt := Int.compare_eq_gt.2 (by omega)
          refine .inr ⟨small_no fun m hm e => ?_, .inr ⟨e0', by rw [e3]; rfl⟩⟩
          have := F_inj hs1 (by omega) e; omega
  | obj k r => exact absurd (e1.trans hk) (by simp only [Vl.kd]; have := ok.1; omega)
  | _ => exact absurd (e1.trans hk) (by simp only [Vl.kd]; omega)
section
variable {ops : Array Oper} {rest : List Oper} {o : Oper} {a : Act} {w : World} {Q : Exit → Act → World → Prop} {x y : Operand}
theorem ex_kneq {p q : Ky} (ho : o.op = .binOp .neq 23 x y 23) (hx : a.eval x = .agg #[.string p.str, .int .i64 p.sym]) (hy : a.eval y = .agg #[.string q.str, .int .i64 q.sym]) :
    (execOp a.eval o).run Tryz.prog w = .ok (.value (.bool (!eqK p q))) w := by
  have he : (Op.equalIn (9998 + 2) 23 (.agg #[.string p.str, .int .i64 p.sym]) (.agg #[.string q.str, .int .i64 q.sym])).run Tryz.prog w = .ok (eqK p q) w := key_eq 9998 p.str q.str p.sym q.sym w
  unfold execOp
  simp only [ho, hx, hy, Sem.run_bind, Sem.run_pure, run_eqGuard_agg w _ _ _ _ _ _ (show Tryz.prog.eqGuardType Tryz.prog.depth 23 = false by kernel_rfl), run_neq_struct, he, Result.andThen_ok]
/-- a descriptor out of a row of properties -/
theorem d_row {A : Addr} {p : Pq} (hw : Region.wanted o (yielded ops a.tmps) = true) (ho : o.op = .load 28 x) (hx : a.eval x = .pointer (some ⟨A.block, A.off + 2, none⟩)) (hc : ∀ j u, (pcl p)[j]? = some u → w.cell? (A.add j) = some u)
    (h : wpList Tryz.prog ops Q rest (a.put o.dst (.agg p.d.cells)) w) : wpList Tryz.prog ops Q (o :: rest) a w :=
  wpList_wanted hw fun _ hK => wp_load_at (cs := p.d.cells.toList) ho hx (fun j v hv => by
    have hj : j < 16 := by have := (List.getElem?_eq_some_iff.1 hv).1; exact this
    have e : (⟨A.block, A.off + 2, none⟩ : Addr).add j = A.add (2 + j) := by
      unfold Addr.add
      rw [if_neg (show ¬ 2 + j = 0 by omega)]
      by_cases z : j = 0
      · subst z; rfl
      · rw [if_neg z]; simp [Nat.add_assoc]
    rw [e]
    refine hc (2 + j) v ?_
    rw [show 2 + j = j + 1 + 1 by omega]
    exact hv) Tryz.underlying28 rfl dsz (hK _ _ h)
end
theorem pr_key0 {w : World} {a : Addr} {P : Pq} {r : List Pq} (h : PR w (some a) (P :: r)) : (Instr.loadAt 23 (.pointer (some a))).run Tryz.prog w = .ok (.agg #[.string P.k.str, .int .i64 P.k.sym]) w :=
  k2_at (pr_key h (i := 0) (by simp)).2.1 (pr_key h (i := 0) (by simp)).2.2
theorem meas_f1 {P : Pq} {r : List Pq} (h : eqK P.k lenK = false) : measuredB (P :: r) = false := by unfold measuredB; dsimp only; rw [h]; rfl
theorem meas_f2 {P : Pq} {r : List Pq} (h : (P.d.a.k == 3) = false) : measuredB (P :: r) = false := by unfold measuredB; dsimp only; rw [h, Bool.false_and, Bool.and_false]
theorem meas_f3 {P : Pq} {r : List Pq} (h : smallN P.d.a.x = none) : measuredB (P :: r) = false := by unfold measuredB; dsimp only; rw [h, Bool.and_false, Bool.and_false]
theorem meas_f4 {P : Pq} {r : List Pq} (h : P.d.q = true) : measuredB (P :: r) = false := by
  unfold measuredB
  dsimp only
  rw [h]
  cases smallN P.d.a.x <;> simp
theorem meas_f5 {P : Pq} {r : List Pq} (h : P.d.z = true) : measuredB (P :: r) = false := by
  unfold measuredB
  dsimp only
  rw [h]
  cases smallN P.d.a.x <;> simp
theorem meas_ok {P : Pq} {r : List Pq} {n : Nat} (h : eqK P.k lenK = true) (hk : (P.d.a.k == 3) = true) (hs : smallN P.d.a.x = some n) (hq : P.d.q = false) (hz : P.d.z = false) : measuredB (P :: r) = idxs (P :: r) fun i => decide (i < n) := by
  unfold measuredB
  dsimp only
  rw [h, hk, hs, hq, hz]; rfl
theorem box_at {w1 W : World} {o : Obj} {v : Value} {t : TypeId} (h : W.heap.size = (w1.alloc o).heap.size) : (W.alloc (.cells #[v] t)).cell? ⟨w1.heap.size + 1, 0, none⟩ = some v ∧ w1.heap.size + 1 < (W.alloc (.cells #[v] t)).heap.size := by
  have e : W.heap.size = w1.heap.size + 1 := by rw [h]; simp
  rw [← e]
  exact ⟨(vcells (heap_alloc_new W _) 0).trans rfl, by simp⟩
theorem dq16 (d : Dq) : d.cells.all (·.oneCell') = true := cells_one (l := d.cells.toList) rfl
theorem dc_at {w : World} {g : Nat} {t : TypeId} {d : Dq} (h : w.heap[g]? = some (.cells d.cells t (0, 0))) : w.cell? ⟨g, 1, none⟩ = some (.int .u8 d.a.k) ∧ w.cell? ⟨g, 2, none⟩ = some (.float .f64 d.a.x) ∧ w.cell? ⟨g, 14, none⟩ = some (.bool d.q) ∧ w.cell? ⟨g, 15, none⟩ = some (.bool d.z) ∧ g < w.heap.size :=
  ⟨(vcells h 1).trans rfl, (vcells h 2).trans rfl, (vcells h 14).trans rfl, (vcells h 15).trans rfl, lt_blk h⟩
set_option maxHeartbeats 4000000 in
set_option maxRecDepth 100000 in
theorem measured_h (A : Option Addr) (L : List Pq) (cap : Nat) (w : World) (ok : TabOk L) (hin : ∀ p ∈ L, p.In) (hL : PR w A L) (htab : TabHere w) : Calls Tryz.prog 92 #[.slice A L.length cap] w fun e w' => e = .returned (.bool (measuredB L)) ∧ Below w.heap.size w w' := by
  cases L with
  | nil =>
    go_enter Tryz.func92, Tryz.ntmps92
    go_wp2
    go_quiet (fail)
    all_goals go_wp2
    all_goals go_ret
    all_goals exact ⟨rfl, tdrewN (Below.refl _ _) _⟩
  | cons P r =>
    obtain ⟨a, rfl, hab, hrow⟩ := id hL (by simp)
    have hlen : ((P :: r).length : Int) = (r.length : Int) + 1 := by simp
    have hnl : 0 < (P :: r).length := by simp
    have hlz : (0 : Int) < ((P :: r).length : Int) := by omega
    have hln : (((P :: r).length : Int) == 0) = false := by rw [beq_eq_false_iff_ne]; omega
    have hPok := ok.all P (by simp)
    have hPin := hin P (by simp)
    have hfew : (P :: r).length < 1000000000000 := by have := ok.len; omega
    have hc0 : ∀ j u, (pcl P)[j]? = some u → w.cell? (a.add j) = some u := fun j u hu => by have := hrow 0 (by simp) j u hu; simpa using this
    have hgood := ((whole_iff hPin.2).1 hPok.2).1
    have hi1 : (Tryz.prog.info? 28).map (·.size) = some P.d.cells.size := dsz
    have hst := vstore
    have HTB := Lib.hid htab
    clear htab hrow hPok ok
    have hK0 := fun W (hb : Below w.heap.size w W) => pr_key0 (pr_up hL hb)
    have hAok : P.d.a.Ok := hgood.a
    have HLE := Lib.hid (And.intro hlen hfew)
    have HIN := Lib.hid hin
    clear hgood hlen hfew hin
    cases he : eqK P.k lenK with
    | false =>
      rw [meas_f1 he]
      generalize hLL : P :: r = LL at *
      go_enter Tryz.func92, Tryz.ntmps92
      go_wp2
      have hS : Below w.heap.size w w.drew := (Below.refl w.heap.size w).drew
      refine wp_region_held_drew (S := fun wx => Below w.heap.size w wx) (by kernel_rfl) hS (fun hHeld => ?_)
      refine hH_take (i := 0) (v := ?_) (d := 5) (l2 := #[true, false, false, false, false, false, false, false, false, false, false]) rfl (by kernel_rfl) (by kernel_rfl) (by kernel_rfl) (fun _ _ _ h => h) (by kernel_rfl) ?_ (by assumption) rfl (by kernel_rfl) ?_
      rotate_left
      · intro w hSw; (try dsimp only at hSw); go_simp; (try with_reducible rfl)
      simp only [List.set]
      refine hH_take (i := 1) (v := ?_) (d := 6) (l2 := #[true, true, false, false, false, false, false, false, false, false, false]) rfl (by kernel_rfl) (by kernel_rfl) (by kernel_rfl) (fun _ _ _ h => h) (by kernel_rfl) ?_ (by assumption) rfl (by kernel_rfl) ?_
      rotate_left
      · intro w hSw; (try dsimp only at hSw); go_simp; (try with_reducible rfl)
      simp only [List.set]
      refine hH_take (i := 2) (v := ?_) (d := 7) (l2 := #[true, true, true, false, false, false, false, false, false, false, false]) rfl (by kernel_rfl) (by kernel_rfl) (by kernel_rfl) (fun _ _ _ h => h) (by kernel_rfl) ?_ (by assumption) rfl (by kernel_rfl) ?_
      rotate_left
      · intro w hSw; (try dsimp only at hSw); go_simp; (try with_reducible rfl)
      simp only [List.set]
      refine hH_take (i := 3) (v := ?_) (d := 8) (l2 := #[true, true, true, true, false, false, false, false, false, false, false]) rfl (by kernel_rfl) (by kernel_rfl) (by kernel_rfl) (fun _ _ _ h => h) (by kernel_rfl) ?_ (by assumption) rfl (by kernel_rfl) ?_
      rotate_left
      · intro w hSw; (try dsimp only at hSw); go_simp; (try with_reducible rfl)
      simp only [List.set]
      refine hH_take (i := 4) (v := ?_) (d := 9) (l2 := #[true, true, true, true, true, false, false, false, false, false, false]) rfl (by kernel_rfl) (by kernel_rfl) (by kernel_rfl) (fun _ _ _ h => h) (by kernel_rfl) ?_ (by assumption) rfl (by kernel_rfl) ?_
      rotate_left
      · intro w hSw; (try dsimp only at hSw); go_simp; (try with_reducible rfl)
      simp only [List.set]
      refine hH_take (i := 5) (v := ?_) (d := 10) (l2 := #[true, true, true, true, true, true, false, false, false, false, false]) rfl (by kernel_rfl) (by kernel_rfl) (by kernel_rfl) (fun _ _ _ h => h) (by kernel_rfl) ?_ (by assumption) rfl (by kernel_rfl) ?_
      rotate_left
      · intro w hSw; (try dsimp only at hSw); go_simp; (try with_reducible rfl)
      simp only [List.set]
      refine hH_take (i := 6) (v := ?_) (d := 11) (l2 := #[true, true, true, true, true, true, true, false, false, false, false]) rfl (by kernel_rfl) (by kernel_rfl) (by kernel_rfl) (fun _ _ _ h => h) (by kernel_rfl) ?_ (by assumption) rfl (by kernel_rfl) ?_
      rotate_left
      · intro w hSw; (try dsimp only at hSw); go_simp; (try with_reducible rfl)
      simp only [List.set]
      refine hH_take (i := 7) (v := ?_) (d := 12) (l2 := #[true, true, true, true, true, true, true, true, false, false, false]) rfl (by kernel_rfl) (by kernel_rfl) (by kernel_rfl) (fun _ _ _ h => h) (by kernel_rfl) ?_ (by assumption) rfl (by kernel_rfl) ?_
      rotate_left
      · intro w hSw; refine (ex_load_at (hK0 _ hSw) rfl rfl).trans ?_; with_reducible rfl
      simp only [List.set]
      refine wpAnyH_ready (rs := [8]) (by kernel_rfl) (by simp) ?_
      refine AllReadyH.cons rfl (fun K hK => ?_) AllReadyH.nil
      go_simp
      (go_at_call 13; (with_reducible refine (keyOf_k (⟨#[108, 101, 110, 103, 116, 104]⟩ : ByteArray) _).mono ?_); rintro e w1 ⟨rfl, h1⟩; have hS : Below w.heap.size w w1 := vb hS h1; clear h1)
      refine hK.out _ _ hS (fun hHeld => ?_)
      clear hK K
      refine hH_take (i := 9) (v := ?_) (d := 14) (l2 := #[true, true, true, true, true, true, true, true, true, true, false]) rfl (by kernel_rfl) (by kernel_rfl) (by kernel_rfl) (fun _ _ _ h => h) (by kernel_rfl) ?_ (by assumption) rfl (by kernel_rfl) ?_
      rotate_left
      · intro w hSw; refine (ex_kneq (p := P.k) (q := lenK) rfl rfl rfl).trans ?_; rw [he]
      simp only [List.set]
      refine hH_take (i := 10) (v := ?_) (d := 15) (l2 := #[true, true, true, true, true, true, true, true, true, true, true]) rfl (by kernel_rfl) (by kernel_rfl) (by kernel_rfl) (fun _ _ _ h => h) (by kernel_rfl) ?_ (by assumption) rfl (by kernel_rfl) ?_
      rotate_left
      · intro w hSw; (try dsimp only at hSw); go_simp; (try with_reducible rfl)
      simp only [List.set]
      refine wpAnyH_done (by kernel_rfl) ?_ _
      go_wp2_with (fail)
      go_ret
      exact ⟨rfl, hS⟩
    | true =>
      have HC := fun W (hb : Below w.heap.size w W) => (fun j u hu => (hb.cell (p := a.add j) (by rw [add_blk]; exact hab)).trans (hc0 j u hu) : ∀ j u, (pcl P)[j]? = some u → W.cell? (a.add j) = some u)
      have hways : measuredB (P :: r) = false ∧ ((P.d.a.k == 3) = false ∨ ((P.d.a.k == 3) = true ∧ ((FloatKind.f64.format.order 0 P.d.a.x == some .lt || FloatKind.f64.format.order 0 P.d.a.x == some .eq) = false ∨ ((FloatKind.f64.format.order 0 P.d.a.x == some .lt || FloatKind.f64.format.order 0 P.d.a.x == some .eq) = true ∧ ((FloatKind.f64.format.order P.d.a.x 4652218415073722368 == some .lt || FloatKind.f64.format.order P.d.a.x 4652218415073722368 == some .eq) = false ∨ ((FloatKind.f64.format.order P.d.a.x 4652218415073722368 == some .lt || FloatKind.f64.format.order P.d.a.x 4652218415073722368 == some .eq) = true ∧ (P.d.q = true ∨ (P.d.q = false ∧ P.d.z = true))))))))
          ∨ ∃ n : Nat, n ≤ 1024 ∧ P.d.a.x = F n ∧ (P.d.a.k == 3) = true ∧ (FloatKind.f64.format.order 0 P.d.a.x == some .lt || FloatKind.f64.format.order 0 P.d.a.x == some .eq) = true ∧ (FloatKind.f64.format.order P.d.a.x 4652218415073722368 == some .lt || FloatKind.f64.format.order P.d.a.x 4652218415073722368 == some .eq) = true ∧ P.d.q = false ∧ P.d.z = false ∧ measuredB (P :: r) = idxs (P :: r) fun i => decide (i < n) := by
        cases hk : (P.d.a.k == 3) with
        | false => exact .inl ⟨meas_f2 hk, .inl rfl⟩
        | true =>
          rcases meas_ways hAok (by simpa using hk) with ⟨n, hn, hx, g0, g1⟩ | ⟨hs, g0 | ⟨g0, g1⟩⟩
          · cases hq : P.d.q with
            | true => exact .inl ⟨meas_f4 hq, .inr ⟨rfl, .inr ⟨g0, .inr ⟨g1, .inl rfl⟩⟩⟩⟩
            | false =>
              cases hz : P.d.z with
              | true => exact .inl ⟨meas_f5 hz, .inr ⟨rfl, .inr ⟨g0, .inr ⟨g1, .inr ⟨rfl, rfl⟩⟩⟩⟩⟩
              | false => exact .inr ⟨n, hn, hx, rfl, g0, g1, rfl, rfl, meas_ok he hk (by rw [hx]; exact small_at hn) hq hz⟩
          · exact .inl ⟨meas_f3 hs, .inr ⟨rfl, .inl g0⟩⟩
          · exact .inl ⟨meas_f3 hs, .inr ⟨rfl, .inr ⟨g0, .inl g1⟩⟩⟩


      clear hAok
      rcases hways with ⟨hM, hw⟩ | ⟨n, hn, hx, g3, g0, g1, gq, gz, hM⟩
      · rw [hM]
        clear hM
        generalize hLL : P :: r = LL at *
        rcases hw with g3 | ⟨g3, g0 | ⟨g0, g1 | ⟨g1, gq | ⟨gq, gz⟩⟩⟩⟩
        all_goals
          have g4 : (P.d.a.k != 3) = !(P.d.a.k == 3) := rfl
          rw [g3] at g4
          replace g4 : (P.d.a.k != 3) = _ := g4
          go_enter Tryz.func92, Tryz.ntmps92
          go_wp2
          have hS : Below w.heap.size w w.drew := (Below.refl w.heap.size w).drew
          refine wp_region_held_drew (S := fun wx => Below w.heap.size w wx) (by kernel_rfl) hS (fun hHeld => ?_)
          refine hH_take (i := 0) (v := ?_) (d := 5) (l2 := #[true, false, false, false, false, false, false, false, false, false, false]) rfl (by kernel_rfl) (by kernel_rfl) (by kernel_rfl) (fun _ _ _ h => h) (by kernel_rfl) ?_ (by assumption) rfl (by kernel_rfl) ?_
          rotate_left
          · intro w hSw; (try dsimp only at hSw); go_simp; (try with_reducible rfl)
          simp only [List.set]
          refine hH_take (i := 1) (v := ?_) (d := 6) (l2 := #[true, true, false, false, false, false, false, false, false, false, false]) rfl (by kernel_rfl) (by kernel_rfl) (by kernel_rfl) (fun _ _ _ h => h) (by kernel_rfl) ?_ (by assumption) rfl (by kernel_rfl) ?_
          rotate_left
          · intro w hSw; (try dsimp only at hSw); go_simp; (try with_reducible rfl)
          simp only [List.set]
          refine hH_take (i := 2) (v := ?_) (d := 7) (l2 := #[true, true, true, false, false, false, false, false, false, false, false]) rfl (by kernel_rfl) (by kernel_rfl) (by kernel_rfl) (fun _ _ _ h => h) (by kernel_rfl) ?_ (by assumption) rfl (by kernel_rfl) ?_
          rotate_left
          · intro w hSw; (try dsimp only at hSw); go_simp; (try with_reducible rfl)
          simp only [List.set]
          refine hH_take (i := 3) (v := ?_) (d := 8) (l2 := #[true, true, true, true, false, false, false, false, false, false, false]) rfl (by kernel_rfl) (by kernel_rfl) (by kernel_rfl) (fun _ _ _ h => h) (by kernel_rfl) ?_ (by assumption) rfl (by kernel_rfl) ?_
          rotate_left
          · intro w hSw; (try dsimp only at hSw); go_simp; (try with_reducible rfl)
          simp only [List.set]
          refine hH_take (i := 4) (v := ?_) (d := 9) (l2 := #[true, true, true, true, true, false, false, false, false, false, false]) rfl (by kernel_rfl) (by kernel_rfl) (by kernel_rfl) (fun _ _ _ h => h) (by kernel_rfl) ?_ (by assumption) rfl (by kernel_rfl) ?_
          rotate_left
          · intro w hSw; (try dsimp only at hSw); go_simp; (try with_reducible rfl)
          simp only [List.set]
          refine hH_take (i := 5) (v := ?_) (d := 10) (l2 := #[true, true, true, true, true, true, false, false, false, false, false]) rfl (by kernel_rfl) (by kernel_rfl) (by kernel_rfl) (fun _ _ _ h => h) (by kernel_rfl) ?_ (by assumption) rfl (by kernel_rfl) ?_
          rotate_left
          · intro w hSw; (try dsimp only at hSw); go_simp; (try with_reducible rfl)
          simp only [List.set]
          refine hH_take (i := 6) (v := ?_) (d := 11) (l2 := #[true, true, true, true, true, true, true, false, false, false, false]) rfl (by kernel_rfl) (by kernel_rfl) (by kernel_rfl) (fun _ _ _ h => h) (by kernel_rfl) ?_ (by assumption) rfl (by kernel_rfl) ?_
          rotate_left
          · intro w hSw; (try dsimp only at hSw); go_simp; (try with_reducible rfl)
          simp only [List.set]
          refine hH_take (i := 7) (v := ?_) (d := 12) (l2 := #[true, true, true, true, true, true, true, true, false, false, false]) rfl (by kernel_rfl) (by kernel_rfl) (by kernel_rfl) (fun _ _ _ h => h) (by kernel_rfl) ?_ (by assumption) rfl (by kernel_rfl) ?_
          rotate_left
          · intro w hSw; refine (ex_load_at (hK0 _ hSw) rfl rfl).trans ?_; with_reducible rfl
          simp only [List.set]
          refine wpAnyH_ready (rs := [8]) (by kernel_rfl) (by simp) ?_
          refine AllReadyH.cons rfl (fun K hK => ?_) AllReadyH.nil
          go_simp
          (go_at_call 13; (with_reducible refine (keyOf_k (⟨#[108, 101, 110, 103, 116, 104]⟩ : ByteArray) _).mono ?_); rintro e w1 ⟨rfl, h1⟩; have hS : Below w.heap.size w w1 := vb hS h1; clear h1)
          refine hK.out _ _ hS (fun hHeld => ?_)
          clear hK K
          refine hH_take (i := 9) (v := ?_) (d := 14) (l2 := #[true, true, true, true, true, true, true, true, true, true, false]) rfl (by kernel_rfl) (by kernel_rfl) (by kernel_rfl) (fun _ _ _ h => h) (by kernel_rfl) ?_ (by assumption) rfl (by kernel_rfl) ?_
          rotate_left
          · intro w hSw; refine (ex_kneq (p := P.k) (q := lenK) rfl rfl rfl).trans ?_; rw [he]
          simp only [List.set]
          refine hH_take (i := 10) (v := ?_) (d := 15) (l2 := #[true, true, true, true, true, true, true, true, true, true, true]) rfl (by kernel_rfl) (by kernel_rfl) (by kernel_rfl) (fun _ _ _ h => h) (by kernel_rfl) ?_ (by assumption) rfl (by kernel_rfl) ?_
          rotate_left
          · intro w hSw; (try dsimp only at hSw); go_simp; (try with_reducible rfl)
          simp only [List.set]
          refine wpAnyH_done (by kernel_rfl) ?_ _
          have hc := HC _ hS
          have HB := Lib.hid hS
          go_wp2_with (first
            | ((with_reducible refine d_row (A := a) (p := P) ?_ rfl rfl hc ?_); (rfl))
            | ((with_reducible refine t_store rfl rfl rfl rfl (heap_alloc_new _ _) hi1 ?_ (dq16 P.d) (vzero _ _) (Nat.le_refl _) ?_); (rfl); intro W hBW hW _ hz2; obtain ⟨d0, d1, d5, d6, df⟩ := dc_at hW; have HB := Lib.hid (vb HB.out hBW)))
          go_ret
          exact ⟨rfl, HB.out.alloc HB.out.size _⟩
      · rw [hM]
        have hK : P.d.a.k = 3 := by simpa using g3
        have hIx := fun V (hb : Below w.heap.size w V) (g : Nat) (hg : g < V.heap.size) (hcl : V.cell? ⟨g, 0, none⟩ = some (.float .f64 (F n))) => indices_m (some a) (P :: r) cap g n V (tab_up HTB.out hb) HIN.out HLE.out.2 (pr_up hL hb) hn hg hcl
        generalize hLL : P :: r = LL at *
        generalize hpx : P.d.a.x = px at *
        subst hx
        go_enter Tryz.func92, Tryz.ntmps92
        go_wp2
        have hS : Below w.heap.size w w.drew := (Below.refl w.heap.size w).drew
        refine wp_region_held_drew (S := fun wx => Below w.heap.size w wx) (by kernel_rfl) hS (fun hHeld => ?_)
        refine hH_take (i := 0) (v := ?_) (d := 5) (l2 := #[true, false, false, false, false, false, false, false, false, false, false]) rfl (by kernel_rfl) (by kernel_rfl) (by kernel_rfl) (fun _ _ _ h => h) (by kernel_rfl) ?_ (by assumption) rfl (by kernel_rfl) ?_
        rotate_left
        · intro w hSw; (try dsimp only at hSw); go_simp; (try with_reducible rfl)
        simp only [List.set]
        refine hH_take (i := 1) (v := ?_) (d := 6) (l2 := #[true, true, false, false, false, false, false, false, false, false, false]) rfl (by kernel_rfl) (by kernel_rfl) (by kernel_rfl) (fun _ _ _ h => h) (by kernel_rfl) ?_ (by assumption) rfl (by kernel_rfl) ?_
        rotate_left
        · intro w hSw; (try dsimp only at hSw); go_simp; (try with_reducible rfl)
        simp only [List.set]
        refine hH_take (i := 2) (v := ?_) (d := 7) (l2 := #[true, true, true, false, false, false, false, false, false, false, false]) rfl (by kernel_rfl) (by kernel_rfl) (by kernel_rfl) (fun _ _ _ h => h) (by kernel_rfl) ?_ (by assumption) rfl (by kernel_rfl) ?_
        rotate_left
        · intro w hSw; (try dsimp only at hSw); go_simp; (try with_reducible rfl)
        simp only [List.set]
        refine hH_take (i := 3) (v := ?_) (d := 8) (l2 := #[true, true, true, true, false, false, false, false, false, false, false]) rfl (by kernel_rfl) (by kernel_rfl) (by kernel_rfl) (fun _ _ _ h => h) (by kernel_rfl) ?_ (by assumption) rfl (by kernel_rfl) ?_
        rotate_left
        · intro w hSw; (try dsimp only at hSw); go_simp; (try with_reducible rfl)
        simp only [List.set]
        refine hH_take (i := 4) (v := ?_) (d := 9) (l2 := #[true, true, true, true, true, false, false, false, false, false, false]) rfl (by kernel_rfl) (by kernel_rfl) (by kernel_rfl) (fun _ _ _ h => h) (by kernel_rfl) ?_ (by assumption) rfl (by kernel_rfl) ?_
        rotate_left
        · intro w hSw; (try dsimp only at hSw); go_simp; (try with_reducible rfl)
        simp only [List.set]
        refine hH_take (i := 5) (v := ?_) (d := 10) (l2 := #[true, true, true, true, true, true, false, false, false, false, false]) rfl (by kernel_rfl) (by kernel_rfl) (by kernel_rfl) (fun _ _ _ h => h) (by kernel_rfl) ?_ (by assumption) rfl (by kernel_rfl) ?_
        rotate_left
        · intro w hSw; (try dsimp only at hSw); go_simp; (try with_reducible rfl)
        simp only [List.set]
        refine hH_take (i := 6) (v := ?_) (d := 11) (l2 := #[true, true, true, true, true, true, true, false, false, false, false]) rfl (by kernel_rfl) (by kernel_rfl) (by kernel_rfl) (fun _ _ _ h => h) (by kernel_rfl) ?_ (by assumption) rfl (by kernel_rfl) ?_
        rotate_left
        · intro w hSw; (try dsimp only at hSw); go_simp; (try with_reducible rfl)
        simp only [List.set]
        refine hH_take (i := 7) (v := ?_) (d := 12) (l2 := #[true, true, true, true, true, true, true, true, false, false, false]) rfl (by kernel_rfl) (by kernel_rfl) (by kernel_rfl) (fun _ _ _ h => h) (by kernel_rfl) ?_ (by assumption) rfl (by kernel_rfl) ?_
        rotate_left
        · intro w hSw; refine (ex_load_at (hK0 _ hSw) rfl rfl).trans ?_; with_reducible rfl
        simp only [List.set]
        refine wpAnyH_ready (rs := [8]) (by kernel_rfl) (by simp) ?_
        refine AllReadyH.cons rfl (fun K hK => ?_) AllReadyH.nil
        go_simp
        (go_at_call 13; (with_reducible refine (keyOf_k (⟨#[108, 101, 110, 103, 116, 104]⟩ : ByteArray) _).mono ?_); rintro e w1 ⟨rfl, h1⟩; have hS : Below w.heap.size w w1 := vb hS h1; clear h1)
        refine hK.out _ _ hS (fun hHeld => ?_)
        clear hK K
        refine hH_take (i := 9) (v := ?_) (d := 14) (l2 := #[true, true, true, true, true, true, true, true, true, true, false]) rfl (by kernel_rfl) (by kernel_rfl) (by kernel_rfl) (fun _ _ _ h => h) (by kernel_rfl) ?_ (by assumption) rfl (by kernel_rfl) ?_
        rotate_left
        · intro w hSw; refine (ex_kneq (p := P.k) (q := lenK) rfl rfl rfl).trans ?_; rw [he]
        simp only [List.set]
        refine hH_take (i := 10) (v := ?_) (d := 15) (l2 := #[true, true, true, true, true, true, true, true, true, true, true]) rfl (by kernel_rfl) (by kernel_rfl) (by kernel_rfl) (fun _ _ _ h => h) (by kernel_rfl) ?_ (by assumption) rfl (by kernel_rfl) ?_
        rotate_left
        · intro w hSw; (try dsimp only at hSw); go_simp; (try with_reducible rfl)
        simp only [List.set]
        refine wpAnyH_done (by kernel_rfl) ?_ _
        have hc := HC _ hS
        have HB := Lib.hid hS
        go_wp2_with (first
          | ((with_reducible refine d_row (A := a) (p := P) ?_ rfl rfl hc ?_); (rfl))
          | ((with_reducible refine t_store rfl rfl rfl rfl (heap_alloc_new _ _) hi1 ?_ (dq16 P.d) (vzero _ _) (Nat.le_refl _) ?_); (rfl); intro W hBW hW _ hz2; obtain ⟨d0, d1, d5, d6, df⟩ := dc_at hW; have HB := Lib.hid (vb HB.out hBW))
          | (go_at_call 130; (with_reducible refine (hIx _ (HB.out.alloc HB.out.size _) _ (box_at hz2).2 (box_at hz2).1).mono ?_); rintro e w1 ⟨rfl, h9⟩; have HB := Lib.hid (vb (HB.out.alloc HB.out.size _) h9); clear h9))
        go_ret
        exact ⟨rfl, HB.out⟩

end Go.Proofs.YtbeggameiedjgaaGreatDoor.S
/-
  heap.revokes, heap.leads. Generated: gen_heapleads.py.
-/
namespace Go.Proofs.YtbeggameiedjgaaGreatDoor.S
open Go.RowKit Go.Lib Fl
open Classical

theorem va_at {w : World} {A : Addr} {v : Vq} (h : VAt w A v) : (Instr.loadAt 26 (.pointer (some A))).run Tryz.prog w = .ok (.agg #[.int .u8 v.k, .float .f64 v.x, .string v.s, .int .i64 v.r]) w :=
  run_loadAt_at (cs := [.int .u8 v.k, .float .f64 v.x, .string v.s, .int .i64 v.r]) (fun j u hu => by
    match j, hu with
    | 0, hu => cases hu; exact h.k
    | 1, hu => cases hu; exact h.x
    | 2, hu => cases hu; exact h.s
    | 3, hu => cases hu; exact h.r
    | n + 4, hu => cases hu) Tryz.underlying26 rfl vsz4
/-- the heap's box -/
structure Hb (w : World) (A : Option Addr) (n cap : Nat) (W : World) : Prop where
  below : Below w.heap.size w W
  h : W.cell? ⟨w.heap.size, 0, none⟩ = some (.slice A n cap)
  lt : w.heap.size < W.heap.size
theorem hb_start (w : World) (A : Option Addr) (n cap : Nat) : Hb w A n cap (w.alloc (.cells #[.slice A n cap] 49)) :=
  ⟨vzero _ _, (vcells (heap_alloc_new w _) 0).trans rfl, by simp⟩
theorem hb_of {w W : World} {A : Option Addr} {n cap : Nat} {t : TypeId} (hb : Below w.heap.size w W) (h : W.heap[w.heap.size]? = some (.cells #[.slice A n cap] t (0, 0))) : Hb w A n cap W := ⟨hb, (vcells h 0).trans rfl, lt_blk h⟩
theorem Hb.up {w W W' : World} {A : Option Addr} {n cap : Nat} (h : Hb w A n cap W) (hb : Below W.heap.size W W') : Hb w A n cap W' :=
  ⟨vb h.below hb, (hb.cell (p := ⟨w.heap.size, 0, none⟩) h.lt).trans h.h, Nat.lt_of_lt_of_le h.lt hb.size⟩
theorem kind_at {H : List Ob} {t : Vq} {m : Nat} (h : m < H.length) (e : t.r = m) : proxB H t = (H[m].kind == 6) := by
  unfold proxB
  rw [e, Int.toNat_natCast, List.getElem?_eq_getElem h]
set_option maxHeartbeats 4000000 in
set_option maxRecDepth 100000 in
theorem revokes_h (A : Option Addr) (H : List Ob) (cap n : Nat) (w : World) (hH : HIn w A H cap) (hn : n < H.length) (h0 : objQ H[n].target = true → 0 ≤ H[n].target.r) : Calls Tryz.prog 95 #[.agg #[.slice A H.length cap], .int .i64 (n : Int)] w fun e w' => e = .returned (.bool (revokesB H H[n].target n)) ∧ Below w.heap.size w w' := by
  obtain ⟨a, rfl, hab, hof, _⟩ := hH.at hn
  have hin := (hH.inn H[n] (List.getElem_mem hn)).target
  have HS := Lib.hid (hb_start w (some a) H.length cap)
  have hp := hof.target
  generalize hT : H[n].target = t at *
  have hp1 := hp.up (vzero w (.cells #[.slice (some a) H.length cap] 49))
  have hnz : (n : Int) < (H.length : Int) := by omega
  have hn0 : (0 : Int) ≤ (n : Int) := by omega
  have q4 := HS.out.h
  have cA := fun W => ahead_h t hin.1 n W
  have hi1 : (Tryz.prog.info? 26).map (·.size) = some (#[Value.int .u8 t.k, .float .f64 t.x, .string t.s, .int .i64 t.r] : Array Value).size := vsz4
  have hc1 : (#[Value.int .u8 t.k, .float .f64 t.x, .string t.s, .int .i64 t.r] : Array Value).all (·.oneCell') = true := cells_one (l := [.int .u8 t.k, .float .f64 t.x, .string t.s, .int .i64 t.r]) rfl
  have hoff : (a.add (n * 18)).block < (w.alloc (.cells #[.slice (some a) H.length cap] 49)).heap.size := Nat.lt_of_lt_of_le hab (by simp)
  obtain ⟨b1, b2⟩ := vblk2 (w := w) (Below.refl _ ((w.alloc (.cells #[.slice (some a) H.length cap] 49)).alloc (.cells #[.int .u8 0, .float .f64 0, .string ⟨#[]⟩, .int .i64 0] 26)))
  have hB0 : Below w.heap.size w ((w.alloc (.cells #[.slice (some a) H.length cap] 49)).alloc (.cells #[.int .u8 0, .float .f64 0, .string ⟨#[]⟩, .int .i64 0] 26)) := vafter (vzero _ _)
  unfold revokesB
  cases hz : t.z with
  | true =>
    go_enter Tryz.func95, Tryz.ntmps95
    go_wp2_with (first
      | ((with_reducible refine va_load ?_ rfl rfl hp1 ?_); (rfl))
      | ((with_reducible refine t_store rfl rfl rfl rfl b2 hi1 ?_ hc1 hB0 (Nat.le_succ _) ?_); (rfl); intro W hBW hW hO _; have HS := Lib.hid (hb_of hBW ((hO _ (by omega)).trans b1)); obtain ⟨q0, q1, q2, q3, _⟩ := vc4 hW; have q4 := HS.out.h)
      | ((with_reducible refine vz_eq (v := t) ?_ rfl rfl rfl ?_); (rfl); rw [hz]))
    go_ret
    exact ⟨rfl, HS.out.below⟩
  | false =>
    cases ha : aheadB t n with
    | false =>
      rw [ha] at cA
      go_enter Tryz.func95, Tryz.ntmps95
      go_wp2_with (first
        | ((with_reducible refine va_load ?_ rfl rfl hp1 ?_); (rfl))
        | ((with_reducible refine t_store rfl rfl rfl rfl b2 hi1 ?_ hc1 hB0 (Nat.le_succ _) ?_); (rfl); intro W hBW hW hO _; have HS := Lib.hid (hb_of hBW ((hO _ (by omega)).trans b1)); obtain ⟨q0, q1, q2, q3, _⟩ := vc4 hW; have q4 := HS.out.h)
        | ((with_reducible refine vz_eq (v := t) ?_ rfl rfl rfl ?_); (rfl); rw [hz])
        | (go_at_call 134; (with_reducible refine (cA _).mono ?_); rintro e w1 ⟨rfl, h9⟩; have HS := Lib.hid (HS.out.up h9); clear h9))
      go_ret
      exact ⟨rfl, HS.out.below⟩
    | true =>
      rw [ha] at cA
      unfold aheadB at ha
      rw [Bool.and_eq_true, decide_eq_true_eq] at ha
      obtain ⟨m, hm⟩ := Int.eq_ofNat_of_zero_le (h0 ha.1)
      have hmn : m < H.length := by have := ha.2; omega
      rw [kind_at hmn hm]
      obtain ⟨a2, e2, hab2, hof2, _⟩ := hH.at hmn
      obtain rfl := Option.some.inj e2
      have HK := Lib.hid hof2
      obtain ⟨k, x, s, r⟩ := t
      dsimp only at *
      subst hm
      have hmz : (m : Int) < (H.length : Int) := by omega
      have hm0 : (0 : Int) ≤ (m : Int) := by omega
      clear hof2 ha e2 hT hof
      go_enter Tryz.func95, Tryz.ntmps95
      go_wp2_with (first
        | ((with_reducible refine va_load ?_ rfl rfl hp1 ?_); (rfl))
        | ((with_reducible refine t_store rfl rfl rfl rfl b2 hi1 ?_ hc1 hB0 (Nat.le_succ _) ?_); (rfl); intro W hBW hW hO _; have HS := Lib.hid (hb_of hBW ((hO _ (by omega)).trans b1)); obtain ⟨q0, q1, q2, q3, _⟩ := vc4 hW; have q4 := HS.out.h)
        | ((with_reducible refine vz_eq (v := ⟨k, x, s, (m : Int)⟩) ?_ rfl rfl rfl ?_); (rfl); rw [hz])
        | (go_at_call 134; (with_reducible refine (cA _).mono ?_); rintro e w1 ⟨rfl, h9⟩; have HS := Lib.hid (HS.out.up h9); have hW := vblkn h9 hW; obtain ⟨q0, q1, q2, q3, _⟩ := vc4 hW; have q4 := HS.out.h; have hk2 := (HK.out.up HS.out.below).kind; have hl2 := (HK.out.up HS.out.below).lt; clear h9))
      go_ret
      exact ⟨by simp, HS.out.below⟩
/-- what leads holds on to -/
structure LdS (w : World) (B : Addr) (o : Ob) (W : World) : Prop where
  below : Below w.heap.size w W
  of : OF W B o
theorem LdS.up {w W W' : World} {B : Addr} {o : Ob} (h : LdS w B o W) (hb : Below W.heap.size W W') : LdS w B o W' := ⟨vb h.below hb, h.of.up hb⟩
theorem LdS.drew {w W : World} {B : Addr} {o : Ob} (h : LdS w B o W) : LdS w B o W.drew := ⟨h.below.drew, h.of.up (Below.refl _ W).drew⟩
set_option maxHeartbeats 4000000 in
set_option maxRecDepth 100000 in
theorem leads_h (A : Option Addr) (H : List Ob) (cap n : Nat) (w : World) (hH : HIn w A H cap) (hn : n < H.length) : Calls Tryz.prog 96 #[.agg #[.slice A H.length cap], .int .i64 (n : Int)] w fun e w' => e = .returned (.bool (leadsB H[n] n)) ∧ Below w.heap.size w w' := by
  obtain ⟨a, rfl, hab, hof, _⟩ := hH.at hn
  have hin := hH.inn H[n] (List.getElem_mem hn)
  have HS := Lib.hid (hb_start w (some a) H.length cap)
  have hnz : (n : Int) < (H.length : Int) := by omega
  have hn0 : (0 : Int) ≤ (n : Int) := by omega
  have q4 := HS.out.h
  generalize H[n] = o at *
  have cT := fun W => ahead_h o.target hin.target.1 n W
  have cH := fun W => ahead_h o.handler hin.handler.1 n W
  have ho1 := hof.up (vzero w (.cells #[.slice (some a) H.length cap] 49))
  have hoff := ho1.lt
  have ht1 := ho1.target.k
  have hh1 := ho1.handler.k
  have cK := kind_h _ _ _ ho1
  have HLD := Lib.hid (show LdS w (a.add (n * 18)) o (w.alloc (.cells #[.slice (some a) H.length cap] 49)) from ⟨vzero _ _, ho1⟩)
  unfold leadsB
  cases h1 : (o.target.k == 1 && o.handler.k == 1) with
  | true =>
    have h2 := Bool.and_eq_true_iff.1 h1
    have h3 := h2.1
    have h4 := h2.2
    clear h1 h2
    go_enter Tryz.func96, Tryz.ntmps96
    go_wp2_with (go_at_call 90; (with_reducible refine cK.mono ?_); rintro e w1 ⟨rfl, rfl⟩)
    go_ret
    exact ⟨by first | rfl | simp [bne], HS.out.below⟩
  | false =>
    have hsplit : (o.target.k == 1) = false ∨ ((o.target.k == 1) = true ∧ (o.handler.k == 1) = false) := by
      cases e1 : o.target.k == 1 with
      | false => exact .inl rfl
      | true => rw [e1, Bool.true_and] at h1; exact .inr ⟨rfl, h1⟩
    clear h1
    cases ht : aheadB o.target n with
    | false =>
      rw [ht] at cT
      rcases hsplit with h3 | ⟨h3, h4⟩
      all_goals
        go_enter Tryz.func96, Tryz.ntmps96
        go_wp2
        have hS := HLD.out.drew
        refine wp_region_held_drew (S := LdS w (a.add (n * 18)) o) (by kernel_rfl) hS (fun hHeld => ?_)
        refine hH_take (i := 0) (v := ?_) (d := 27) (l2 := #[true, false, false, false, false, false, false, false, false, false, false, false, false, false, false, false, false, false, false, false, false, false, false, false, false]) rfl (by kernel_rfl) (by kernel_rfl) (by kernel_rfl) (fun _ _ _ h => h) (by kernel_rfl) ?_ (by assumption) rfl (by kernel_rfl) ?_
        rotate_left
        · intro w hSw; (try dsimp only at hSw); go_simp; (try with_reducible rfl)
        simp only [List.set]
        refine hH_take (i := 1) (v := ?_) (d := 28) (l2 := #[true, true, false, false, false, false, false, false, false, false, false, false, false, false, false, false, false, false, false, false, false, false, false, false, false]) rfl (by kernel_rfl) (by kernel_rfl) (by kernel_rfl) (fun _ _ _ h => h) (by kernel_rfl) ?_ (by assumption) rfl (by kernel_rfl) ?_
        rotate_left
        · intro w hSw; (try dsimp only at hSw); go_simp; (try with_reducible rfl)
        simp only [List.set]
        refine hH_take (i := 2) (v := ?_) (d := 29) (l2 := #[true, true, true, false, false, false, false, false, false, false, false, false, false, false, false, false, false, false, false, false, false, false, false, false, false]) rfl (by kernel_rfl) (by kernel_rfl) (by kernel_rfl) (fun _ _ _ h => h) (by kernel_rfl) ?_ (by assumption) rfl (by kernel_rfl) ?_
        rotate_left
        · intro w hSw; (try dsimp only at hSw); go_simp; (try with_reducible rfl)
        simp only [List.set]
        refine hH_take (i := 3) (v := ?_) (d := 30) (l2 := #[true, true, true, true, false, false, false, false, false, false, false, false, false, false, false, false, false, false, false, false, false, false, false, false, false]) rfl (by kernel_rfl) (by kernel_rfl) (by kernel_rfl) (fun _ _ _ h => h) (by kernel_rfl) ?_ (by assumption) rfl (by kernel_rfl) ?_
        rotate_left
        · intro w hSw; refine (ex_load_at (va_at hSw.of.target) rfl rfl).trans ?_; with_reducible rfl
        simp only [List.set]
        refine hH_take (i := 4) (v := ?_) (d := 31) (l2 := #[true, true, true, true, true, false, false, false, false, false, false, false, false, false, false, false, false, false, false, false, false, false, false, false, false]) rfl (by kernel_rfl) (by kernel_rfl) (by kernel_rfl) (fun _ _ _ h => h) (by kernel_rfl) ?_ (by assumption) rfl (by kernel_rfl) ?_
        rotate_left
        · intro w hSw; (try dsimp only at hSw); go_simp; (try with_reducible rfl)
        simp only [List.set]
        refine wpAnyH_ready (rs := [5]) (by kernel_rfl) (by simp) ?_
        refine AllReadyH.cons rfl (fun K hK => ?_) AllReadyH.nil
        go_simp
        (go_at_call 134; (with_reducible refine (cT _).mono ?_); rintro e w1 ⟨rfl, h1⟩; have hS := hS.up h1; clear h1)
        refine hK.out _ _ hS (fun hHeld => ?_)
        clear hK K
        refine hH_take (i := 6) (v := ?_) (d := 33) (l2 := #[true, true, true, true, true, true, true, false, false, false, false, false, false, false, false, false, false, false, false, false, false, false, false, false, false]) rfl (by kernel_rfl) (by kernel_rfl) (by kernel_rfl) (fun _ _ _ h => h) (by kernel_rfl) ?_ (by assumption) rfl (by kernel_rfl) ?_
        rotate_left
        · intro w hSw; (try dsimp only at hSw); go_simp; (try with_reducible rfl)
        simp only [List.set]
        refine hH_drop (i := 7) (d := 34) (l2 := #[true, true, true, true, true, true, true, true, false, false, false, false, false, false, false, false, false, false, false, false, false, false, false, false, false]) rfl (by kernel_rfl) (by kernel_rfl) (by kernel_rfl) (fun _ _ _ h => h) (by kernel_rfl) (by assumption) rfl (by kernel_rfl) ?_
        simp only [List.set]
        refine hH_drop (i := 8) (d := 35) (l2 := #[true, true, true, true, true, true, true, true, true, false, false, false, false, false, false, false, false, false, false, false, false, false, false, false, false]) rfl (by kernel_rfl) (by kernel_rfl) (by kernel_rfl) (fun _ _ _ h => h) (by kernel_rfl) (by assumption) rfl (by kernel_rfl) ?_
        simp only [List.set]
        refine hH_drop (i := 9) (d := 36) (l2 := #[true, true, true, true, true, true, true, true, true, true, false, false, false, false, false, false, false, false, false, false, false, false, false, false, false]) rfl (by kernel_rfl) (by kernel_rfl) (by kernel_rfl) (fun _ _ _ h => h) (by kernel_rfl) (by assumption) rfl (by kernel_rfl) ?_
        simp only [List.set]
        refine hH_drop (i := 10) (d := 37) (l2 := #[true, true, true, true, true, true, true, true, true, true, true, false, false, false, false, false, false, false, false, false, false, false, false, false, false]) rfl (by kernel_rfl) (by kernel_rfl) (by kernel_rfl) (fun _ _ _ h => h) (by kernel_rfl) (by assumption) rfl (by kernel_rfl) ?_
        simp only [List.set]
        refine hH_drop (i := 11) (d := 38) (l2 := #[true, true, true, true, true, true, true, true, true, true, true, true, false, false, false, false, false, false, false, false, false, false, false, false, false]) rfl (by kernel_rfl) (by kernel_rfl) (by kernel_rfl) (fun _ _ _ h => h) (by kernel_rfl) (by assumption) rfl (by kernel_rfl) ?_
        simp only [List.set]
        refine hH_drop (i := 12) (d := 39) (l2 := #[true, true, true, true, true, true, true, true, true, true, true, true, true, false, false, false, false, false, false, false, false, false, false, false, false]) rfl (by kernel_rfl) (by kernel_rfl) (by kernel_rfl) (fun _ _ _ h => h) (by kernel_rfl) (by assumption) rfl (by kernel_rfl) ?_
        simp only [List.set]
        refine hH_take (i := 13) (v := ?_) (d := 40) (l2 := #[true, true, true, true, true, true, true, true, true, true, true, true, true, true, false, false, false, false, false, false, false, false, false, false, false]) rfl (by kernel_rfl) (by kernel_rfl) (by kernel_rfl) (fun _ _ _ h => h) (by kernel_rfl) ?_ (by assumption) rfl (by kernel_rfl) ?_
        rotate_left
        · intro w hSw; (try dsimp only at hSw); go_simp; (try with_reducible rfl)
        simp only [List.set]
        refine hH_take (i := 14) (v := ?_) (d := 41) (l2 := #[true, true, true, true, true, true, true, true, true, true, true, true, true, true, true, false, false, false, false, false, false, false, false, false, false]) rfl (by kernel_rfl) (by kernel_rfl) (by kernel_rfl) (fun _ _ _ h => h) (by kernel_rfl) ?_ (by assumption) rfl (by kernel_rfl) ?_
        rotate_left
        · intro w hSw; (try dsimp only at hSw); go_simp; (try with_reducible rfl)
        simp only [List.set]
        refine hH_drop (i := 15) (d := 42) (l2 := #[true, true, true, true, true, true, true, true, true, true, true, true, true, true, true, true, false, false, false, false, false, false, false, false, false]) rfl (by kernel_rfl) (by kernel_rfl) (by kernel_rfl) (fun _ _ _ h => h) (by kernel_rfl) (by assumption) rfl (by kernel_rfl) ?_
        simp only [List.set]
        refine hH_drop (i := 16) (d := 43) (l2 := #[true, true, true, true, true, true, true, true, true, true, true, true, true, true, true, true, true, false, false, false, false, false, false, false, false]) rfl (by kernel_rfl) (by kernel_rfl) (by kernel_rfl) (fun _ _ _ h => h) (by kernel_rfl) (by assumption) rfl (by kernel_rfl) ?_
        simp only [List.set]
        refine hH_drop (i := 17) (d := 44) (l2 := #[true, true, true, true, true, true, true, true, true, true, true, true, true, true, true, true, true, true, false, false, false, false, false, false, false]) rfl (by kernel_rfl) (by kernel_rfl) (by kernel_rfl) (fun _ _ _ h => h) (by kernel_rfl) (by assumption) rfl (by kernel_rfl) ?_
        simp only [List.set]
        refine hH_drop (i := 18) (d := 45) (l2 := #[true, true, true, true, true, true, true, true, true, true, true, true, true, true, true, true, true, true, true, false, false, false, false, false, false]) rfl (by kernel_rfl) (by kernel_rfl) (by kernel_rfl) (fun _ _ _ h => h) (by kernel_rfl) (by assumption) rfl (by kernel_rfl) ?_
        simp only [List.set]
        refine hH_drop (i := 19) (d := 46) (l2 := #[true, true, true, true, true, true, true, true, true, true, true, true, true, true, true, true, true, true, true, true, false, false, false, false, false]) rfl (by kernel_rfl) (by kernel_rfl) (by kernel_rfl) (fun _ _ _ h => h) (by kernel_rfl) (by assumption) rfl (by kernel_rfl) ?_
        simp only [List.set]
        refine hH_drop (i := 20) (d := 47) (l2 := #[true, true, true, true, true, true, true, true, true, true, true, true, true, true, true, true, true, true, true, true, true, false, false, false, false]) rfl (by kernel_rfl) (by kernel_rfl) (by kernel_rfl) (fun _ _ _ h => h) (by kernel_rfl) (by assumption) rfl (by kernel_rfl) ?_
        simp only [List.set]
        refine hH_drop (i := 21) (d := 48) (l2 := #[true, true, true, true, true, true, true, true, true, true, true, true, true, true, true, true, true, true, true, true, true, true, false, false, false]) rfl (by kernel_rfl) (by kernel_rfl) (by kernel_rfl) (fun _ _ _ h => h) (by kernel_rfl) (by assumption) rfl (by kernel_rfl) ?_
        simp only [List.set]
        refine hH_drop (i := 22) (d := 49) (l2 := #[true, true, true, true, true, true, true, true, true, true, true, true, true, true, true, true, true, true, true, true, true, true, true, false, false]) rfl (by kernel_rfl) (by kernel_rfl) (by kernel_rfl) (fun _ _ _ h => h) (by kernel_rfl) (by assumption) rfl (by kernel_rfl) ?_
        simp only [List.set]
        refine hH_take (i := 23) (v := ?_) (d := 50) (l2 := #[true, true, true, true, true, true, true, true, true, true, true, true, true, true, true, true, true, true, true, true, true, true, true, true, false]) rfl (by kernel_rfl) (by kernel_rfl) (by kernel_rfl) (fun _ _ _ h => h) (by kernel_rfl) ?_ (by assumption) rfl (by kernel_rfl) ?_
        rotate_left
        · intro w hSw; (try dsimp only at hSw); go_simp; (try with_reducible rfl)
        simp only [List.set]
        refine hH_take (i := 24) (v := ?_) (d := 4) (l2 := #[true, true, true, true, true, true, true, true, true, true, true, true, true, true, true, true, true, true, true, true, true, true, true, true, true]) rfl (by kernel_rfl) (by kernel_rfl) (by kernel_rfl) (fun _ _ _ h => h) (by kernel_rfl) ?_ (by assumption) rfl (by kernel_rfl) ?_
        rotate_left
        · intro w hSw; (try dsimp only at hSw); go_simp; (try with_reducible rfl)
        simp only [List.set]
        refine wpAnyH_done (by kernel_rfl) ?_ _
        go_wp2_with (fail)
        go_ret
        exact ⟨by first | rfl | simp, hS.below⟩
    | true =>
      rw [ht] at cT
      cases hh : aheadB o.handler n with
      | false =>
        rw [hh] at cH
        rcases hsplit with h3 | ⟨h3, h4⟩
        all_goals
          go_enter Tryz.func96, Tryz.ntmps96
          go_wp2
          have hS := HLD.out.drew
          refine wp_region_held_drew (S := LdS w (a.add (n * 18)) o) (by kernel_rfl) hS (fun hHeld => ?_)
          refine hH_take (i := 0) (v := ?_) (d := 27) (l2 := #[true, false, false, false, false, false, false, false, false, false, false, false, false, false, false, false, false, false, false, false, false, false, false, false, false]) rfl (by kernel_rfl) (by kernel_rfl) (by kernel_rfl) (fun _ _ _ h => h) (by kernel_rfl) ?_ (by assumption) rfl (by kernel_rfl) ?_
          rotate_left
          · intro w hSw; (try dsimp only at hSw); go_simp; (try with_reducible rfl)
          simp only [List.set]
          refine hH_take (i := 1) (v := ?_) (d := 28) (l2 := #[true, true, false, false, false, false, false, false, false, false, false, false, false, false, false, false, false, false, false, false, false, false, false, false, false]) rfl (by kernel_rfl) (by kernel_rfl) (by kernel_rfl) (fun _ _ _ h => h) (by kernel_rfl) ?_ (by assumption) rfl (by kernel_rfl) ?_
          rotate_left
          · intro w hSw; (try dsimp only at hSw); go_simp; (try with_reducible rfl)
          simp only [List.set]
          refine hH_take (i := 2) (v := ?_) (d := 29) (l2 := #[true, true, true, false, false, false, false, false, false, false, false, false, false, false, false, false, false, false, false, false, false, false, false, false, false]) rfl (by kernel_rfl) (by kernel_rfl) (by kernel_rfl) (fun _ _ _ h => h) (by kernel_rfl) ?_ (by assumption) rfl (by kernel_rfl) ?_
          rotate_left
          · intro w hSw; (try dsimp only at hSw); go_simp; (try with_reducible rfl)
          simp only [List.set]
          refine hH_take (i := 3) (v := ?_) (d := 30) (l2 := #[true, true, true, true, false, false, false, false, false, false, false, false, false, false, false, false, false, false, false, false, false, false, false, false, false]) rfl (by kernel_rfl) (by kernel_rfl) (by kernel_rfl) (fun _ _ _ h => h) (by kernel_rfl) ?_ (by assumption) rfl (by kernel_rfl) ?_
          rotate_left
          · intro w hSw; refine (ex_load_at (va_at hSw.of.target) rfl rfl).trans ?_; with_reducible rfl
          simp only [List.set]
          refine hH_take (i := 4) (v := ?_) (d := 31) (l2 := #[true, true, true, true, true, false, false, false, false, false, false, false, false, false, false, false, false, false, false, false, false, false, false, false, false]) rfl (by kernel_rfl) (by kernel_rfl) (by kernel_rfl) (fun _ _ _ h => h) (by kernel_rfl) ?_ (by assumption) rfl (by kernel_rfl) ?_
          rotate_left
          · intro w hSw; (try dsimp only at hSw); go_simp; (try with_reducible rfl)
          simp only [List.set]
          refine wpAnyH_ready (rs := [5]) (by kernel_rfl) (by simp) ?_
          refine AllReadyH.cons rfl (fun K hK => ?_) AllReadyH.nil
          go_simp
          (go_at_call 134; (with_reducible refine (cT _).mono ?_); rintro e w1 ⟨rfl, h1⟩; have hS := hS.up h1; clear h1)
          refine hK.out _ _ hS (fun hHeld => ?_)
          clear hK K
          refine hH_take (i := 6) (v := ?_) (d := 33) (l2 := #[true, true, true, true, true, true, true, false, false, false, false, false, false, false, false, false, false, false, false, false, false, false, false, false, false]) rfl (by kernel_rfl) (by kernel_rfl) (by kernel_rfl) (fun _ _ _ h => h) (by kernel_rfl) ?_ (by assumption) rfl (by kernel_rfl) ?_
          rotate_left
          · intro w hSw; (try dsimp only at hSw); go_simp; (try with_reducible rfl)
          simp only [List.set]
          refine hH_take (i := 7) (v := ?_) (d := 34) (l2 := #[true, true, true, true, true, true, true, true, false, false, false, false, false, false, false, false, false, false, false, false, false, false, false, false, false]) rfl (by kernel_rfl) (by kernel_rfl) (by kernel_rfl) (fun _ _ _ h => h) (by kernel_rfl) ?_ (by assumption) rfl (by kernel_rfl) ?_
          rotate_left
          · intro w hSw; (try dsimp only at hSw); go_simp; (try with_reducible rfl)
          simp only [List.set]
          refine hH_take (i := 8) (v := ?_) (d := 35) (l2 := #[true, true, true, true, true, true, true, true, true, false, false, false, false, false, false, false, false, false, false, false, false, false, false, false, false]) rfl (by kernel_rfl) (by kernel_rfl) (by kernel_rfl) (fun _ _ _ h => h) (by kernel_rfl) ?_ (by assumption) rfl (by kernel_rfl) ?_
          rotate_left
          · intro w hSw; (try dsimp only at hSw); go_simp; (try with_reducible rfl)
          simp only [List.set]
          refine hH_take (i := 9) (v := ?_) (d := 36) (l2 := #[true, true, true, true, true, true, true, true, true, true, false, false, false, false, false, false, false, false, false, false, false, false, false, false, false]) rfl (by kernel_rfl) (by kernel_rfl) (by kernel_rfl) (fun _ _ _ h => h) (by kernel_rfl) ?_ (by assumption) rfl (by kernel_rfl) ?_
          rotate_left
          · intro w hSw; (try dsimp only at hSw); go_simp; (try with_reducible rfl)
          simp only [List.set]
          refine hH_take (i := 10) (v := ?_) (d := 37) (l2 := #[true, true, true, true, true, true, true, true, true, true, true, false, false, false, false, false, false, false, false, false, false, false, false, false, false]) rfl (by kernel_rfl) (by kernel_rfl) (by kernel_rfl) (fun _ _ _ h => h) (by kernel_rfl) ?_ (by assumption) rfl (by kernel_rfl) ?_
          rotate_left
          · intro w hSw; refine (ex_load_at (va_at hSw.of.handler) rfl rfl).trans ?_; with_reducible rfl
          simp only [List.set]
          refine hH_take (i := 11) (v := ?_) (d := 38) (l2 := #[true, true, true, true, true, true, true, true, true, true, true, true, false, false, false, false, false, false, false, false, false, false, false, false, false]) rfl (by kernel_rfl) (by kernel_rfl) (by kernel_rfl) (fun _ _ _ h => h) (by kernel_rfl) ?_ (by assumption) rfl (by kernel_rfl) ?_
          rotate_left
          · intro w hSw; (try dsimp only at hSw); go_simp; (try with_reducible rfl)
          simp only [List.set]
          refine wpAnyH_ready (rs := [12]) (by kernel_rfl) (by simp) ?_
          refine AllReadyH.cons rfl (fun K hK => ?_) AllReadyH.nil
          go_simp
          (go_at_call 134; (with_reducible refine (cH _).mono ?_); rintro e w1 ⟨rfl, h1⟩; have hS := hS.up h1; clear h1)
          refine hK.out _ _ hS (fun hHeld => ?_)
          clear hK K
          refine hH_take (i := 13) (v := ?_) (d := 40) (l2 := #[true, true, true, true, true, true, true, true, true, true, true, true, true, true, false, false, false, false, false, false, false, false, false, false, false]) rfl (by kernel_rfl) (by kernel_rfl) (by kernel_rfl) (fun _ _ _ h => h) (by kernel_rfl) ?_ (by assumption) rfl (by kernel_rfl) ?_
          rotate_left
          · intro w hSw; (try dsimp only at hSw); go_simp; (try with_reducible rfl)
          simp only [List.set]
          refine hH_take (i := 14) (v := ?_) (d := 41) (l2 := #[true, true, true, true, true, true, true, true, true, true, true, true, true, true, true, false, false, false, false, false, false, false, false, false, false]) rfl (by kernel_rfl) (by kernel_rfl) (by kernel_rfl) (fun _ _ _ h => h) (by kernel_rfl) ?_ (by assumption) rfl (by kernel_rfl) ?_
          rotate_left
          · intro w hSw; (try dsimp only at hSw); go_simp; (try with_reducible rfl)
          simp only [List.set]
          refine hH_drop (i := 15) (d := 42) (l2 := #[true, true, true, true, true, true, true, true, true, true, true, true, true, true, true, true, false, false, false, false, false, false, false, false, false]) rfl (by kernel_rfl) (by kernel_rfl) (by kernel_rfl) (fun _ _ _ h => h) (by kernel_rfl) (by assumption) rfl (by kernel_rfl) ?_
          simp only [List.set]
          refine hH_drop (i := 16) (d := 43) (l2 := #[true, true, true, true, true, true, true, true, true, true, true, true, true, true, true, true, true, false, false, false, false, false, false, false, false]) rfl (by kernel_rfl) (by kernel_rfl) (by kernel_rfl) (fun _ _ _ h => h) (by kernel_rfl) (by assumption) rfl (by kernel_rfl) ?_
          simp only [List.set]
          refine hH_drop (i := 17) (d := 44) (l2 := #[true, true, true, true, true, true, true, true, true, true, true, true, true, true, true, true, true, true, false, false, false, false, false, false, false]) rfl (by kernel_rfl) (by kernel_rfl) (by kernel_rfl) (fun _ _ _ h => h) (by kernel_rfl) (by assumption) rfl (by kernel_rfl) ?_
          simp only [List.set]
          refine hH_drop (i := 18) (d := 45) (l2 := #[true, true, true, true, true, true, true, true, true, true, true, true, true, true, true, true, true, true, true, false, false, false, false, false, false]) rfl (by kernel_rfl) (by kernel_rfl) (by kernel_rfl) (fun _ _ _ h => h) (by kernel_rfl) (by assumption) rfl (by kernel_rfl) ?_
          simp only [List.set]
          refine hH_drop (i := 19) (d := 46) (l2 := #[true, true, true, true, true, true, true, true, true, true, true, true, true, true, true, true, true, true, true, true, false, false, false, false, false]) rfl (by kernel_rfl) (by kernel_rfl) (by kernel_rfl) (fun _ _ _ h => h) (by kernel_rfl) (by assumption) rfl (by kernel_rfl) ?_
          simp only [List.set]
          refine hH_drop (i := 20) (d := 47) (l2 := #[true, true, true, true, true, true, true, true, true, true, true, true, true, true, true, true, true, true, true, true, true, false, false, false, false]) rfl (by kernel_rfl) (by kernel_rfl) (by kernel_rfl) (fun _ _ _ h => h) (by kernel_rfl) (by assumption) rfl (by kernel_rfl) ?_
          simp only [List.set]
          refine hH_drop (i := 21) (d := 48) (l2 := #[true, true, true, true, true, true, true, true, true, true, true, true, true, true, true, true, true, true, true, true, true, true, false, false, false]) rfl (by kernel_rfl) (by kernel_rfl) (by kernel_rfl) (fun _ _ _ h => h) (by kernel_rfl) (by assumption) rfl (by kernel_rfl) ?_
          simp only [List.set]
          refine hH_drop (i := 22) (d := 49) (l2 := #[true, true, true, true, true, true, true, true, true, true, true, true, true, true, true, true, true, true, true, true, true, true, true, false, false]) rfl (by kernel_rfl) (by kernel_rfl) (by kernel_rfl) (fun _ _ _ h => h) (by kernel_rfl) (by assumption) rfl (by kernel_rfl) ?_
          simp only [List.set]
          refine hH_take (i := 23) (v := ?_) (d := 50) (l2 := #[true, true, true, true, true, true, true, true, true, true, true, true, true, true, true, true, true, true, true, true, true, true, true, true, false]) rfl (by kernel_rfl) (by kernel_rfl) (by kernel_rfl) (fun _ _ _ h => h) (by kernel_rfl) ?_ (by assumption) rfl (by kernel_rfl) ?_
          rotate_left
          · intro w hSw; (try dsimp only at hSw); go_simp; (try with_reducible rfl)
          simp only [List.set]
          refine hH_take (i := 24) (v := ?_) (d := 4) (l2 := #[true, true, true, true, true, true, true, true, true, true, true, true, true, true, true, true, true, true, true, true, true, true, true, true, true]) rfl (by kernel_rfl) (by kernel_rfl) (by kernel_rfl) (fun _ _ _ h => h) (by kernel_rfl) ?_ (by assumption) rfl (by kernel_rfl) ?_
          rotate_left
          · intro w hSw; (try dsimp only at hSw); go_simp; (try with_reducible rfl)
          simp only [List.set]
          refine wpAnyH_done (by kernel_rfl) ?_ _
          go_wp2_with (fail)
          go_ret
          exact ⟨by first | rfl | simp, hS.below⟩
      | true =>
        rw [hh] at cH
        rcases hsplit with h3 | ⟨h3, h4⟩
        all_goals
          go_enter Tryz.func96, Tryz.ntmps96
          go_wp2
          have hS := HLD.out.drew
          refine wp_region_held_drew (S := LdS w (a.add (n * 18)) o) (by kernel_rfl) hS (fun hHeld => ?_)
          refine hH_take (i := 0) (v := ?_) (d := 27) (l2 := #[true, false, false, false, false, false, false, false, false, false, false, false, false, false, false, false, false, false, false, false, false, false, false, false, false]) rfl (by kernel_rfl) (by kernel_rfl) (by kernel_rfl) (fun _ _ _ h => h) (by kernel_rfl) ?_ (by assumption) rfl (by kernel_rfl) ?_
          rotate_left
          · intro w hSw; (try dsimp only at hSw); go_simp; (try with_reducible rfl)
          simp only [List.set]
          refine hH_take (i := 1) (v := ?_) (d := 28) (l2 := #[true, true, false, false, false, false, false, false, false, false, false, false, false, false, false, false, false, false, false, false, false, false, false, false, false]) rfl (by kernel_rfl) (by kernel_rfl) (by kernel_rfl) (fun _ _ _ h => h) (by kernel_rfl) ?_ (by assumption) rfl (by kernel_rfl) ?_
          rotate_left
          · intro w hSw; (try dsimp only at hSw); go_simp; (try with_reducible rfl)
          simp only [List.set]
          refine hH_take (i := 2) (v := ?_) (d := 29) (l2 := #[true, true, true, false, false, false, false, false, false, false, false, false, false, false, false, false, false, false, false, false, false, false, false, false, false]) rfl (by kernel_rfl) (by kernel_rfl) (by kernel_rfl) (fun _ _ _ h => h) (by kernel_rfl) ?_ (by assumption) rfl (by kernel_rfl) ?_
          rotate_left
          · intro w hSw; (try dsimp only at hSw); go_simp; (try with_reducible rfl)
          simp only [List.set]
          refine hH_take (i := 3) (v := ?_) (d := 30) (l2 := #[true, true, true, true, false, false, false, false, false, false, false, false, false, false, false, false, false, false, false, false, false, false, false, false, false]) rfl (by kernel_rfl) (by kernel_rfl) (by kernel_rfl) (fun _ _ _ h => h) (by kernel_rfl) ?_ (by assumption) rfl (by kernel_rfl) ?_
          rotate_left
          · intro w hSw; refine (ex_load_at (va_at hSw.of.target) rfl rfl).trans ?_; with_reducible rfl
          simp only [List.set]
          refine hH_take (i := 4) (v := ?_) (d := 31) (l2 := #[true, true, true, true, true, false, false, false, false, false, false, false, false, false, false, false, false, false, false, false, false, false, false, false, false]) rfl (by kernel_rfl) (by kernel_rfl) (by kernel_rfl) (fun _ _ _ h => h) (by kernel_rfl) ?_ (by assumption) rfl (by kernel_rfl) ?_
          rotate_left
          · intro w hSw; (try dsimp only at hSw); go_simp; (try with_reducible rfl)
          simp only [List.set]
          refine wpAnyH_ready (rs := [5]) (by kernel_rfl) (by simp) ?_
          refine AllReadyH.cons rfl (fun K hK => ?_) AllReadyH.nil
          go_simp
          (go_at_call 134; (with_reducible refine (cT _).mono ?_); rintro e w1 ⟨rfl, h1⟩; have hS := hS.up h1; clear h1)
          refine hK.out _ _ hS (fun hHeld => ?_)
          clear hK K
          refine hH_take (i := 6) (v := ?_) (d := 33) (l2 := #[true, true, true, true, true, true, true, false, false, false, false, false, false, false, false, false, false, false, false, false, false, false, false, false, false]) rfl (by kernel_rfl) (by kernel_rfl) (by kernel_rfl) (fun _ _ _ h => h) (by kernel_rfl) ?_ (by assumption) rfl (by kernel_rfl) ?_
          rotate_left
          · intro w hSw; (try dsimp only at hSw); go_simp; (try with_reducible rfl)
          simp only [List.set]
          refine hH_take (i := 7) (v := ?_) (d := 34) (l2 := #[true, true, true, true, true, true, true, true, false, false, false, false, false, false, false, false, false, false, false, false, false, false, false, false, false]) rfl (by kernel_rfl) (by kernel_rfl) (by kernel_rfl) (fun _ _ _ h => h) (by kernel_rfl) ?_ (by assumption) rfl (by kernel_rfl) ?_
          rotate_left
          · intro w hSw; (try dsimp only at hSw); go_simp; (try with_reducible rfl)
          simp only [List.set]
          refine hH_take (i := 8) (v := ?_) (d := 35) (l2 := #[true, true, true, true, true, true, true, true, true, false, false, false, false, false, false, false, false, false, false, false, false, false, false, false, false]) rfl (by kernel_rfl) (by kernel_rfl) (by kernel_rfl) (fun _ _ _ h => h) (by kernel_rfl) ?_ (by assumption) rfl (by kernel_rfl) ?_
          rotate_left
          · intro w hSw; (try dsimp only at hSw); go_simp; (try with_reducible rfl)
          simp only [List.set]
          refine hH_take (i := 9) (v := ?_) (d := 36) (l2 := #[true, true, true, true, true, true, true, true, true, true, false, false, false, false, false, false, false, false, false, false, false, false, false, false, false]) rfl (by kernel_rfl) (by kernel_rfl) (by kernel_rfl) (fun _ _ _ h => h) (by kernel_rfl) ?_ (by assumption) rfl (by kernel_rfl) ?_
          rotate_left
          · intro w hSw; (try dsimp only at hSw); go_simp; (try with_reducible rfl)
          simp only [List.set]
          refine hH_take (i := 10) (v := ?_) (d := 37) (l2 := #[true, true, true, true, true, true, true, true, true, true, true, false, false, false, false, false, false, false, false, false, false, false, false, false, false]) rfl (by kernel_rfl) (by kernel_rfl) (by kernel_rfl) (fun _ _ _ h => h) (by kernel_rfl) ?_ (by assumption) rfl (by kernel_rfl) ?_
          rotate_left
          · intro w hSw; refine (ex_load_at (va_at hSw.of.handler) rfl rfl).trans ?_; with_reducible rfl
          simp only [List.set]
          refine hH_take (i := 11) (v := ?_) (d := 38) (l2 := #[true, true, true, true, true, true, true, true, true, true, true, true, false, false, false, false, false, false, false, false, false, false, false, false, false]) rfl (by kernel_rfl) (by kernel_rfl) (by kernel_rfl) (fun _ _ _ h => h) (by kernel_rfl) ?_ (by assumption) rfl (by kernel_rfl) ?_
          rotate_left
          · intro w hSw; (try dsimp only at hSw); go_simp; (try with_reducible rfl)
          simp only [List.set]
          refine wpAnyH_ready (rs := [12]) (by kernel_rfl) (by simp) ?_
          refine AllReadyH.cons rfl (fun K hK => ?_) AllReadyH.nil
          go_simp
          (go_at_call 134; (with_reducible refine (cH _).mono ?_); rintro e w1 ⟨rfl, h1⟩; have hS := hS.up h1; clear h1)
          refine hK.out _ _ hS (fun hHeld => ?_)
          clear hK K
          refine hH_take (i := 13) (v := ?_) (d := 40) (l2 := #[true, true, true, true, true, true, true, true, true, true, true, true, true, true, false, false, false, false, false, false, false, false, false, false, false]) rfl (by kernel_rfl) (by kernel_rfl) (by kernel_rfl) (fun _ _ _ h => h) (by kernel_rfl) ?_ (by assumption) rfl (by kernel_rfl) ?_
          rotate_left
          · intro w hSw; (try dsimp only at hSw); go_simp; (try with_reducible rfl)
          simp only [List.set]
          refine hH_take (i := 14) (v := ?_) (d := 41) (l2 := #[true, true, true, true, true, true, true, true, true, true, true, true, true, true, true, false, false, false, false, false, false, false, false, false, false]) rfl (by kernel_rfl) (by kernel_rfl) (by kernel_rfl) (fun _ _ _ h => h) (by kernel_rfl) ?_ (by assumption) rfl (by kernel_rfl) ?_
          rotate_left
          · intro w hSw; (try dsimp only at hSw); go_simp; (try with_reducible rfl)
          simp only [List.set]
          refine hH_take (i := 15) (v := ?_) (d := 42) (l2 := #[true, true, true, true, true, true, true, true, true, true, true, true, true, true, true, true, false, false, false, false, false, false, false, false, false]) rfl (by kernel_rfl) (by kernel_rfl) (by kernel_rfl) (fun _ _ _ h => h) (by kernel_rfl) ?_ (by assumption) rfl (by kernel_rfl) ?_
          rotate_left
          · intro w hSw; (try dsimp only at hSw); go_simp; (try with_reducible rfl)
          simp only [List.set]
          refine hH_take (i := 17) (v := ?_) (d := 44) (l2 := #[true, true, true, true, true, true, true, true, true, true, true, true, true, true, true, true, false, true, false, false, false, false, false, false, false]) rfl (by kernel_rfl) (by kernel_rfl) (by kernel_rfl) (fun _ _ _ h => h) (by kernel_rfl) ?_ (by assumption) rfl (by kernel_rfl) ?_
          rotate_left
          · intro w hSw; (try dsimp only at hSw); go_simp; (try with_reducible rfl)
          simp only [List.set]
          refine hH_take (i := 18) (v := ?_) (d := 45) (l2 := #[true, true, true, true, true, true, true, true, true, true, true, true, true, true, true, true, false, true, true, false, false, false, false, false, false]) rfl (by kernel_rfl) (by kernel_rfl) (by kernel_rfl) (fun _ _ _ h => h) (by kernel_rfl) ?_ (by assumption) rfl (by kernel_rfl) ?_
          rotate_left
          · intro w hSw; (try dsimp only at hSw); go_simp; (try with_reducible rfl)
          simp only [List.set]
          refine hH_take (i := 19) (v := ?_) (d := 46) (l2 := #[true, true, true, true, true, true, true, true, true, true, true, true, true, true, true, true, false, true, true, true, false, false, false, false, false]) rfl (by kernel_rfl) (by kernel_rfl) (by kernel_rfl) (fun _ _ _ h => h) (by kernel_rfl) ?_ (by assumption) rfl (by kernel_rfl) ?_
          rotate_left
          · intro w hSw; (try dsimp only at hSw); go_simp; (try with_reducible rfl)
          simp only [List.set]
          refine hH_take (i := 20) (v := ?_) (d := 47) (l2 := #[true, true, true, true, true, true, true, true, true, true, true, true, true, true, true, true, false, true, true, true, true, false, false, false, false]) rfl (by kernel_rfl) (by kernel_rfl) (by kernel_rfl) (fun _ _ _ h => h) (by kernel_rfl) ?_ (by assumption) rfl (by kernel_rfl) ?_
          rotate_left
          · intro w hSw; (try dsimp only at hSw); go_simp; (try with_reducible rfl)
          simp only [List.set]
          refine hH_take (i := 21) (v := ?_) (d := 48) (l2 := #[true, true, true, true, true, true, true, true, true, true, true, true, true, true, true, true, false, true, true, true, true, true, false, false, false]) rfl (by kernel_rfl) (by kernel_rfl) (by kernel_rfl) (fun _ _ _ h => h) (by kernel_rfl) ?_ (by assumption) rfl (by kernel_rfl) ?_
          rotate_left
          · intro w hSw; have hk := hSw.of.target.k; (try dsimp only at hk); go_simp; (try with_reducible rfl)
          simp only [List.set]
          refine wpAnyH_ready (rs := [16]) (by kernel_rfl) (by simp) ?_
          refine AllReadyH.cons rfl (fun K hK => ?_) AllReadyH.nil
          go_simp
          (go_at_call 90; (with_reducible refine (kind_h _ _ _ hS.of).mono ?_); rintro e w1 ⟨rfl, rfl⟩)
          refine hK.out _ _ hS (fun hHeld => ?_)
          clear hK K
          refine hH_take (i := 22) (v := ?_) (d := 49) (l2 := #[true, true, true, true, true, true, true, true, true, true, true, true, true, true, true, true, true, true, true, true, true, true, true, false, false]) rfl (by kernel_rfl) (by kernel_rfl) (by kernel_rfl) (fun _ _ _ h => h) (by kernel_rfl) ?_ (by assumption) rfl (by kernel_rfl) ?_
          rotate_left
          · intro w hSw; (try dsimp only at hSw); go_simp; (try with_reducible rfl)
          simp only [List.set]
          refine hH_take (i := 23) (v := ?_) (d := 50) (l2 := #[true, true, true, true, true, true, true, true, true, true, true, true, true, true, true, true, true, true, true, true, true, true, true, true, false]) rfl (by kernel_rfl) (by kernel_rfl) (by kernel_rfl) (fun _ _ _ h => h) (by kernel_rfl) ?_ (by assumption) rfl (by kernel_rfl) ?_
          rotate_left
          · intro w hSw; (try dsimp only at hSw); go_simp; (try with_reducible rfl)
          simp only [List.set]
          refine hH_take (i := 24) (v := ?_) (d := 4) (l2 := #[true, true, true, true, true, true, true, true, true, true, true, true, true, true, true, true, true, true, true, true, true, true, true, true, true]) rfl (by kernel_rfl) (by kernel_rfl) (by kernel_rfl) (fun _ _ _ h => h) (by kernel_rfl) ?_ (by assumption) rfl (by kernel_rfl) ?_
          rotate_left
          · intro w hSw; (try dsimp only at hSw); go_simp; (try with_reducible rfl)
          simp only [List.set]
          refine wpAnyH_done (by kernel_rfl) ?_ _
          go_wp2_with (fail)
          go_ret
          exact ⟨by first | rfl | simp, hS.below⟩
end Go.Proofs.YtbeggameiedjgaaGreatDoor.S
