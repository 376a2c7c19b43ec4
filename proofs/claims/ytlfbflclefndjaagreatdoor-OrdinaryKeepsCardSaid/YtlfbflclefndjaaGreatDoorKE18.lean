/-
  heap.revokes, heap.leads. Generated: gen_heapleads.py.
-/
import Derived.Test.YtlfbflclefndjaaGreatDoorKE16
import Derived.Test.YtlfbflclefndjaaGreatDoorKE12
namespace Go.Proofs.YtlfbflclefndjaaGreatDoor.S
open Go.RowKit Go.Lib Fl
open Classical

theorem va_at {w : World} {A : Addr} {v : Vq} (h : VAt w A v) : (Instr.loadAt 34 (.pointer (some A))).run Tryz.prog w = .ok (.agg #[.int .u8 v.k, .float .f64 v.x, .string v.s, .int .i64 v.r]) w :=
  run_loadAt_at (cs := [.int .u8 v.k, .float .f64 v.x, .string v.s, .int .i64 v.r]) (fun j u hu => by
    match j, hu with
    | 0, hu => cases hu; exact h.k
    | 1, hu => cases hu; exact h.x
    | 2, hu => cases hu; exact h.s
    | 3, hu => cases hu; exact h.r
    | n + 4, hu => cases hu) Tryz.underlying34 rfl vsz4
/-- the heap's box -/
structure Hb (w : World) (A : Option Addr) (n cap : Nat) (W : World) : Prop where
  below : Below w.heap.size w W
  h : W.cell? ⟨w.heap.size, 0, none⟩ = some (.slice A n cap)
  lt : w.heap.size < W.heap.size
theorem hb_start (w : World) (A : Option Addr) (n cap : Nat) : Hb w A n cap (w.alloc (.cells #[.slice A n cap] 24)) :=
  ⟨vzero _ _, (vcells (heap_alloc_new w _) 0).trans rfl, by simp⟩
theorem hb_of {w W : World} {A : Option Addr} {n cap : Nat} {t : TypeId} (hb : Below w.heap.size w W) (h : W.heap[w.heap.size]? = some (.cells #[.slice A n cap] t (0, 0))) : Hb w A n cap W := ⟨hb, (vcells h 0).trans rfl, lt_blk h⟩
theorem Hb.up {w W W' : World} {A : Option Addr} {n cap : Nat} (h : Hb w A n cap W) (hb : Below W.heap.size W W') : Hb w A n cap W' :=
  ⟨vb h.below hb, (hb.cell (p := ⟨w.heap.size, 0, none⟩) h.lt).trans h.h, Nat.lt_of_lt_of_le h.lt hb.size⟩
theorem kind_at {H : List Ob} {t : Vq} {m : Nat} (h : m < H.length) (e : t.r = m) : proxB H t = (H[m].kind == 6) := by
  unfold proxB
  rw [e, Int.toNat_natCast, List.getElem?_eq_getElem h]
set_option maxHeartbeats 4000000 in
set_option maxRecDepth 100000 in
theorem revokes_h (A : Option Addr) (H : List Ob) (cap n : Nat) (w : World) (hH : HIn w A H cap) (hn : n < H.length) (h0 : objQ H[n].target = true → 0 ≤ H[n].target.r) : Calls Tryz.prog 63 #[.agg #[.slice A H.length cap], .int .i64 (n : Int)] w fun e w' => e = .returned (.bool (revokesB H H[n].target n)) ∧ Below w.heap.size w w' := by
  obtain ⟨a, rfl, hab, hof, _⟩ := hH.at hn
  have hin := (hH.inn H[n] (List.getElem_mem hn)).target
  have HS := Lib.hid (hb_start w (some a) H.length cap)
  have hp := hof.target
  generalize hT : H[n].target = t at *
  have hp1 := hp.up (vzero w (.cells #[.slice (some a) H.length cap] 24))
  have hnz : (n : Int) < (H.length : Int) := by omega
  have hn0 : (0 : Int) ≤ (n : Int) := by omega
  have q4 := HS.out.h
  have cA := fun W => ahead_h t hin.1 n W
  have hi1 : (Tryz.prog.info? 34).map (·.size) = some (#[Value.int .u8 t.k, .float .f64 t.x, .string t.s, .int .i64 t.r] : Array Value).size := vsz4
  have hc1 : (#[Value.int .u8 t.k, .float .f64 t.x, .string t.s, .int .i64 t.r] : Array Value).all (·.oneCell') = true := cells_one (l := [.int .u8 t.k, .float .f64 t.x, .string t.s, .int .i64 t.r]) rfl
  have hoff : (a.add (n * 18)).block < (w.alloc (.cells #[.slice (some a) H.length cap] 24)).heap.size := Nat.lt_of_lt_of_le hab (by simp)
  obtain ⟨b1, b2⟩ := vblk2 (w := w) (Below.refl _ ((w.alloc (.cells #[.slice (some a) H.length cap] 24)).alloc (.cells #[.int .u8 0, .float .f64 0, .string ⟨#[]⟩, .int .i64 0] 34)))
  have hB0 : Below w.heap.size w ((w.alloc (.cells #[.slice (some a) H.length cap] 24)).alloc (.cells #[.int .u8 0, .float .f64 0, .string ⟨#[]⟩, .int .i64 0] 34)) := vafter (vzero _ _)
  unfold revokesB
  cases hz : t.z with
  | true =>
    go_enter Tryz.func63, Tryz.ntmps63
    go_wp2_with (first
      | ((with_reducible refine va_load ?_ rfl rfl hp1 ?_); (rfl))
      | ((with_reducible refine t_store rfl rfl rfl rfl b2 hi1 ?_ hc1 hB0 (Nat.le_succ _) ?_); (rfl); intro W hBW hW hO _; have HS := Lib.hid (hb_of hBW ((hO _ (by omega)).trans b1)); obtain ⟨q0, q1, q2, q3, _⟩ := vc4 hW; have q4 := HS.out.h)
      | ((with_reducible refine vz_eq (v := t) ?_ rfl rfl rfl ?_); (rfl); rw [hz]))
    go_ret
    exact ⟨rfl, HS.out.below⟩
  | false =>
    cases ha : aheadB t n with
    | false =>
      rw [ha] at cA
      go_enter Tryz.func63, Tryz.ntmps63
      go_wp2_with (first
        | ((with_reducible refine va_load ?_ rfl rfl hp1 ?_); (rfl))
        | ((with_reducible refine t_store rfl rfl rfl rfl b2 hi1 ?_ hc1 hB0 (Nat.le_succ _) ?_); (rfl); intro W hBW hW hO _; have HS := Lib.hid (hb_of hBW ((hO _ (by omega)).trans b1)); obtain ⟨q0, q1, q2, q3, _⟩ := vc4 hW; have q4 := HS.out.h)
        | ((with_reducible refine vz_eq (v := t) ?_ rfl rfl rfl ?_); (rfl); rw [hz])
        | (go_at_call 87; (with_reducible refine (cA _).mono ?_); rintro e w1 ⟨rfl, h9⟩; have HS := Lib.hid (HS.out.up h9); clear h9))
      go_ret
      exact ⟨rfl, HS.out.below⟩
    | true =>
      rw [ha] at cA
      unfold aheadB at ha
      rw [Bool.and_eq_true, decide_eq_true_eq] at ha
      obtain ⟨m, hm⟩ := Int.eq_ofNat_of_zero_le (h0 ha.1)
      have hmn : m < H.length := by have := ha.2; omega
      rw [kind_at hmn hm]
      obtain ⟨a2, e2, hab2, hof2, _⟩ := hH.at hmn
      obtain rfl := Option.some.inj e2
      have HK := Lib.hid hof2
      obtain ⟨k, x, s, r⟩ := t
      dsimp only at *
      subst hm
      have hmz : (m : Int) < (H.length : Int) := by omega
      have hm0 : (0 : Int) ≤ (m : Int) := by omega
      clear hof2 ha e2 hT hof
      go_enter Tryz.func63, Tryz.ntmps63
      go_wp2_with (first
        | ((with_reducible refine va_load ?_ rfl rfl hp1 ?_); (rfl))
        | ((with_reducible refine t_store rfl rfl rfl rfl b2 hi1 ?_ hc1 hB0 (Nat.le_succ _) ?_); (rfl); intro W hBW hW hO _; have HS := Lib.hid (hb_of hBW ((hO _ (by omega)).trans b1)); obtain ⟨q0, q1, q2, q3, _⟩ := vc4 hW; have q4 := HS.out.h)
        | ((with_reducible refine vz_eq (v := ⟨k, x, s, (m : Int)⟩) ?_ rfl rfl rfl ?_); (rfl); rw [hz])
        | (go_at_call 87; (with_reducible refine (cA _).mono ?_); rintro e w1 ⟨rfl, h9⟩; have HS := Lib.hid (HS.out.up h9); have hW := vblkn h9 hW; obtain ⟨q0, q1, q2, q3, _⟩ := vc4 hW; have q4 := HS.out.h; have hk2 := (HK.out.up HS.out.below).kind; have hl2 := (HK.out.up HS.out.below).lt; clear h9))
      go_ret
      exact ⟨by simp, HS.out.below⟩
/-- what leads holds on to -/
structure LdS (w : World) (B : Addr) (o : Ob) (W : World) : Prop where
  below : Below w.heap.size w W
  of : OF W B o
theorem LdS.up {w W W' : World} {B : Addr} {o : Ob} (h : LdS w B o W) (hb : Below W.heap.size W W') : LdS w B o W' := ⟨vb h.below hb, h.of.up hb⟩
theorem LdS.drew {w W : World} {B : Addr} {o : Ob} (h : LdS w B o W) : LdS w B o W.drew := ⟨h.below.drew, h.of.up (Below.refl _ W).drew⟩
set_option maxHeartbeats 4000000 in
set_option maxRecDepth 100000 in
theorem leads_h (A : Option Addr) (H : List Ob) (cap n : Nat) (w : World) (hH : HIn w A H cap) (hn : n < H.length) : Calls Tryz.prog 64 #[.agg #[.slice A H.length cap], .int .i64 (n : Int)] w fun e w' => e = .returned (.bool (leadsB H[n] n)) ∧ Below w.heap.size w w' := by
  obtain ⟨a, rfl, hab, hof, _⟩ := hH.at hn
  have hin := hH.inn H[n] (List.getElem_mem hn)
  have HS := Lib.hid (hb_start w (some a) H.length cap)
  have hnz : (n : Int) < (H.length : Int) := by omega
  have hn0 : (0 : Int) ≤ (n : Int) := by omega
  have q4 := HS.out.h
  generalize H[n] = o at *
  have cT := fun W => ahead_h o.target hin.target.1 n W
  have cH := fun W => ahead_h o.handler hin.handler.1 n W
  have ho1 := hof.up (vzero w (.cells #[.slice (some a) H.length cap] 24))
  have hoff := ho1.lt
  have ht1 := ho1.target.k
  have hh1 := ho1.handler.k
  have cK := kind_h _ _ _ ho1
  have HLD := Lib.hid (show LdS w (a.add (n * 18)) o (w.alloc (.cells #[.slice (some a) H.length cap] 24)) from ⟨vzero _ _, ho1⟩)
  unfold leadsB
  cases h1 : (o.target.k == 1 && o.handler.k == 1) with
  | true =>
    have h2 := Bool.and_eq_true_iff.1 h1
    have h3 := h2.1
    have h4 := h2.2
    clear h1 h2
    go_enter Tryz.func64, Tryz.ntmps64
    go_wp2_with (go_at_call 58; (with_reducible refine cK.mono ?_); rintro e w1 ⟨rfl, rfl⟩)
    go_ret
    exact ⟨by first | rfl | simp [bne], HS.out.below⟩
  | false =>
    have hsplit : (o.target.k == 1) = false ∨ ((o.target.k == 1) = true ∧ (o.handler.k == 1) = false) := by
      cases e1 : o.target.k == 1 with
      | false => exact .inl rfl
      | true => rw [e1, Bool.true_and] at h1; exact .inr ⟨rfl, h1⟩
    clear h1
    cases ht : aheadB o.target n with
    | false =>
      rw [ht] at cT
      rcases hsplit with h3 | ⟨h3, h4⟩
      all_goals
        go_enter Tryz.func64, Tryz.ntmps64
        go_wp2
        have hS := HLD.out.drew
        refine wp_region_held_drew (S := LdS w (a.add (n * 18)) o) (by kernel_rfl) hS (fun hHeld => ?_)
        refine hH_take (i := 0) (v := ?_) (d := 27) (l2 := #[true, false, false, false, false, false, false, false, false, false, false, false, false, false, false, false, false, false, false, false, false, false, false, false, false]) rfl (by kernel_rfl) (by kernel_rfl) (by kernel_rfl) (fun _ _ _ h => h) (by kernel_rfl) ?_ (by assumption) rfl (by kernel_rfl) ?_
        rotate_left
        · intro w hSw; (try dsimp only at hSw); go_simp; (try with_reducible rfl)
        simp only [List.set]
        refine hH_take (i := 1) (v := ?_) (d := 28) (l2 := #[true, true, false, false, false, false, false, false, false, false, false, false, false, false, false, false, false, false, false, false, false, false, false, false, false]) rfl (by kernel_rfl) (by kernel_rfl) (by kernel_rfl) (fun _ _ _ h => h) (by kernel_rfl) ?_ (by assumption) rfl (by kernel_rfl) ?_
        rotate_left
        · intro w hSw; (try dsimp only at hSw); go_simp; (try with_reducible rfl)
        simp only [List.set]
        refine hH_take (i := 2) (v := ?_) (d := 29) (l2 := #[true, true, true, false, false, false, false, false, false, false, false, false, false, false, false, false, false, false, false, false, false, false, false, false, false]) rfl (by kernel_rfl) (by kernel_rfl) (by kernel_rfl) (fun _ _ _ h => h) (by kernel_rfl) ?_ (by assumption) rfl (by kernel_rfl) ?_
        rotate_left
        · intro w hSw; (try dsimp only at hSw); go_simp; (try with_reducible rfl)
        simp only [List.set]
        refine hH_take (i := 3) (v := ?_) (d := 30) (l2 := #[true, true, true, true, false, false, false, false, false, false, false, false, false, false, false, false, false, false, false, false, false, false, false, false, false]) rfl (by kernel_rfl) (by kernel_rfl) (by kernel_rfl) (fun _ _ _ h => h) (by kernel_rfl) ?_ (by assumption) rfl (by kernel_rfl) ?_
        rotate_left
        · intro w hSw; refine (ex_load_at (va_at hSw.of.target) rfl rfl).trans ?_; with_reducible rfl
        simp only [List.set]
        refine hH_take (i := 4) (v := ?_) (d := 31) (l2 := #[true, true, true, true, true, false, false, false, false, false, false, false, false, false, false, false, false, false, false, false, false, false, false, false, false]) rfl (by kernel_rfl) (by kernel_rfl) (by kernel_rfl) (fun _ _ _ h => h) (by kernel_rfl) ?_ (by assumption) rfl (by kernel_rfl) ?_
        rotate_left
        · intro w hSw; (try dsimp only at hSw); go_simp; (try with_reducible rfl)
        simp only [List.set]
        refine wpAnyH_ready (rs := [5]) (by kernel_rfl) (by simp) ?_
        refine AllReadyH.cons rfl (fun K hK => ?_) AllReadyH.nil
        go_simp
        (go_at_call 87; (with_reducible refine (cT _).mono ?_); rintro e w1 ⟨rfl, h1⟩; have hS := hS.up h1; clear h1)
        refine hK.out _ _ hS (fun hHeld => ?_)
        clear hK K
        refine hH_take (i := 6) (v := ?_) (d := 33) (l2 := #[true, true, true, true, true, true, true, false, false, false, false, false, false, false, false, false, false, false, false, false, false, false, false, false, false]) rfl (by kernel_rfl) (by kernel_rfl) (by kernel_rfl) (fun _ _ _ h => h) (by kernel_rfl) ?_ (by assumption) rfl (by kernel_rfl) ?_
        rotate_left
        · intro w hSw; (try dsimp only at hSw); go_simp; (try with_reducible rfl)
        simp only [List.set]
        refine hH_drop (i := 7) (d := 34) (l2 := #[true, true, true, true, true, true, true, true, false, false, false, false, false, false, false, false, false, false, false, false, false, false, false, false, false]) rfl (by kernel_rfl) (by kernel_rfl) (by kernel_rfl) (fun _ _ _ h => h) (by kernel_rfl) (by assumption) rfl (by kernel_rfl) ?_
        simp only [List.set]
        refine hH_drop (i := 8) (d := 35) (l2 := #[true, true, true, true, true, true, true, true, true, false, false, false, false, false, false, false, false, false, false, false, false, false, false, false, false]) rfl (by kernel_rfl) (by kernel_rfl) (by kernel_rfl) (fun _ _ _ h => h) (by kernel_rfl) (by assumption) rfl (by kernel_rfl) ?_
        simp only [List.set]
        refine hH_drop (i := 9) (d := 36) (l2 := #[true, true, true, true, true, true, true, true, true, true, false, false, false, false, false, false, false, false, false, false, false, false, false, false, false]) rfl (by kernel_rfl) (by kernel_rfl) (by kernel_rfl) (fun _ _ _ h => h) (by kernel_rfl) (by assumption) rfl (by kernel_rfl) ?_
        simp only [List.set]
        refine hH_drop (i := 10) (d := 37) (l2 := #[true, true, true, true, true, true, true, true, true, true, true, false, false, false, false, false, false, false, false, false, false, false, false, false, false]) rfl (by kernel_rfl) (by kernel_rfl) (by kernel_rfl) (fun _ _ _ h => h) (by kernel_rfl) (by assumption) rfl (by kernel_rfl) ?_
        simp only [List.set]
        refine hH_drop (i := 11) (d := 38) (l2 := #[true, true, true, true, true, true, true, true, true, true, true, true, false, false, false, false, false, false, false, false, false, false, false, false, false]) rfl (by kernel_rfl) (by kernel_rfl) (by kernel_rfl) (fun _ _ _ h => h) (by kernel_rfl) (by assumption) rfl (by kernel_rfl) ?_
        simp only [List.set]
        refine hH_drop (i := 12) (d := 39) (l2 := #[true, true, true, true, true, true, true, true, true, true, true, true, true, false, false, false, false, false, false, false, false, false, false, false, false]) rfl (by kernel_rfl) (by kernel_rfl) (by kernel_rfl) (fun _ _ _ h => h) (by kernel_rfl) (by assumption) rfl (by kernel_rfl) ?_
        simp only [List.set]
        refine hH_take (i := 13) (v := ?_) (d := 40) (l2 := #[true, true, true, true, true, true, true, true, true, true, true, true, true, true, false, false, false, false, false, false, false, false, false, false, false]) rfl (by kernel_rfl) (by kernel_rfl) (by kernel_rfl) (fun _ _ _ h => h) (by kernel_rfl) ?_ (by assumption) rfl (by kernel_rfl) ?_
        rotate_left
        · intro w hSw; (try dsimp only at hSw); go_simp; (try with_reducible rfl)
        simp only [List.set]
        refine hH_take (i := 14) (v := ?_) (d := 41) (l2 := #[true, true, true, true, true, true, true, true, true, true, true, true, true, true, true, false, false, false, false, false, false, false, false, false, false]) rfl (by kernel_rfl) (by kernel_rfl) (by kernel_rfl) (fun _ _ _ h => h) (by kernel_rfl) ?_ (by assumption) rfl (by kernel_rfl) ?_
        rotate_left
        · intro w hSw; (try dsimp only at hSw); go_simp; (try with_reducible rfl)
        simp only [List.set]
        refine hH_drop (i := 15) (d := 42) (l2 := #[true, true, true, true, true, true, true, true, true, true, true, true, true, true, true, true, false, false, false, false, false, false, false, false, false]) rfl (by kernel_rfl) (by kernel_rfl) (by kernel_rfl) (fun _ _ _ h => h) (by kernel_rfl) (by assumption) rfl (by kernel_rfl) ?_
        simp only [List.set]
        refine hH_drop (i := 16) (d := 43) (l2 := #[true, true, true, true, true, true, true, true, true, true, true, true, true, true, true, true, true, false, false, false, false, false, false, false, false]) rfl (by kernel_rfl) (by kernel_rfl) (by kernel_rfl) (fun _ _ _ h => h) (by kernel_rfl) (by assumption) rfl (by kernel_rfl) ?_
        simp only [List.set]
        refine hH_drop (i := 17) (d := 44) (l2 := #[true, true, true, true, true, true, true, true, true, true, true, true, true, true, true, true, true, true, false, false, false, false, false, false, false]) rfl (by kernel_rfl) (by kernel_rfl) (by kernel_rfl) (fun _ _ _ h => h) (by kernel_rfl) (by assumption) rfl (by kernel_rfl) ?_
        simp only [List.set]
        refine hH_drop (i := 18) (d := 45) (l2 := #[true, true, true, true, true, true, true, true, true, true, true, true, true, true, true, true, true, true, true, false, false, false, false, false, false]) rfl (by kernel_rfl) (by kernel_rfl) (by kernel_rfl) (fun _ _ _ h => h) (by kernel_rfl) (by assumption) rfl (by kernel_rfl) ?_
        simp only [List.set]
        refine hH_drop (i := 19) (d := 46) (l2 := #[true, true, true, true, true, true, true, true, true, true, true, true, true, true, true, true, true, true, true, true, false, false, false, false, false]) rfl (by kernel_rfl) (by kernel_rfl) (by kernel_rfl) (fun _ _ _ h => h) (by kernel_rfl) (by assumption) rfl (by kernel_rfl) ?_
        simp only [List.set]
        refine hH_drop (i := 20) (d := 47) (l2 := #[true, true, true, true, true, true, true, true, true, true, true, true, true, true, true, true, true, true, true, true, true, false, false, false, false]) rfl (by kernel_rfl) (by kernel_rfl) (by kernel_rfl) (fun _ _ _ h => h) (by kernel_rfl) (by assumption) rfl (by kernel_rfl) ?_
        simp only [List.set]
        refine hH_drop (i := 21) (d := 48) (l2 := #[true, true, true, true, true, true, true, true, true, true, true, true, true, true, true, true, true, true, true, true, true, true, false, false, false]) rfl (by kernel_rfl) (by kernel_rfl) (by kernel_rfl) (fun _ _ _ h => h) (by kernel_rfl) (by assumption) rfl (by kernel_rfl) ?_
        simp only [List.set]
        refine hH_drop (i := 22) (d := 49) (l2 := #[true, true, true, true, true, true, true, true, true, true, true, true, true, true, true, true, true, true, true, true, true, true, true, false, false]) rfl (by kernel_rfl) (by kernel_rfl) (by kernel_rfl) (fun _ _ _ h => h) (by kernel_rfl) (by assumption) rfl (by kernel_rfl) ?_
        simp only [List.set]
        refine hH_take (i := 23) (v := ?_) (d := 50) (l2 := #[true, true, true, true, true, true, true, true, true, true, true, true, true, true, true, true, true, true, true, true, true, true, true, true, false]) rfl (by kernel_rfl) (by kernel_rfl) (by kernel_rfl) (fun _ _ _ h => h) (by kernel_rfl) ?_ (by assumption) rfl (by kernel_rfl) ?_
        rotate_left
        · intro w hSw; (try dsimp only at hSw); go_simp; (try with_reducible rfl)
        simp only [List.set]
        refine hH_take (i := 24) (v := ?_) (d := 4) (l2 := #[true, true, true, true, true, true, true, true, true, true, true, true, true, true, true, true, true, true, true, true, true, true, true, true, true]) rfl (by kernel_rfl) (by kernel_rfl) (by kernel_rfl) (fun _ _ _ h => h) (by kernel_rfl) ?_ (by assumption) rfl (by kernel_rfl) ?_
        rotate_left
        · intro w hSw; (try dsimp only at hSw); go_simp; (try with_reducible rfl)
        simp only [List.set]
        refine wpAnyH_done (by kernel_rfl) ?_ _
        go_wp2_with (fail)
        go_ret
        exact ⟨by first | rfl | simp, hS.below⟩
    | true =>
      rw [ht] at cT
      cases hh : aheadB o.handler n with
      | false =>
        rw [hh] at cH
        rcases hsplit with h3 | ⟨h3, h4⟩
        all_goals
          go_enter Tryz.func64, Tryz.ntmps64
          go_wp2
          have hS := HLD.out.drew
          refine wp_region_held_drew (S := LdS w (a.add (n * 18)) o) (by kernel_rfl) hS (fun hHeld => ?_)
          refine hH_take (i := 0) (v := ?_) (d := 27) (l2 := #[true, false, false, false, false, false, false, false, false, false, false, false, false, false, false, false, false, false, false, false, false, false, false, false, false]) rfl (by kernel_rfl) (by kernel_rfl) (by kernel_rfl) (fun _ _ _ h => h) (by kernel_rfl) ?_ (by assumption) rfl (by kernel_rfl) ?_
          rotate_left
          · intro w hSw; (try dsimp only at hSw); go_simp; (try with_reducible rfl)
          simp only [List.set]
          refine hH_take (i := 1) (v := ?_) (d := 28) (l2 := #[true, true, false, false, false, false, false, false, false, false, false, false, false, false, false, false, false, false, false, false, false, false, false, false, false]) rfl (by kernel_rfl) (by kernel_rfl) (by kernel_rfl) (fun _ _ _ h => h) (by kernel_rfl) ?_ (by assumption) rfl (by kernel_rfl) ?_
          rotate_left
          · intro w hSw; (try dsimp only at hSw); go_simp; (try with_reducible rfl)
          simp only [List.set]
          refine hH_take (i := 2) (v := ?_) (d := 29) (l2 := #[true, true, true, false, false, false, false, false, false, false, false, false, false, false, false, false, false, false, false, false, false, false, false, false, false]) rfl (by kernel_rfl) (by kernel_rfl) (by kernel_rfl) (fun _ _ _ h => h) (by kernel_rfl) ?_ (by assumption) rfl (by kernel_rfl) ?_
          rotate_left
          · intro w hSw; (try dsimp only at hSw); go_simp; (try with_reducible rfl)
          simp only [List.set]
          refine hH_take (i := 3) (v := ?_) (d := 30) (l2 := #[true, true, true, true, false, false, false, false, false, false, false, false, false, false, false, false, false, false, false, false, false, false, false, false, false]) rfl (by kernel_rfl) (by kernel_rfl) (by kernel_rfl) (fun _ _ _ h => h) (by kernel_rfl) ?_ (by assumption) rfl (by kernel_rfl) ?_
          rotate_left
          · intro w hSw; refine (ex_load_at (va_at hSw.of.target) rfl rfl).trans ?_; with_reducible rfl
          simp only [List.set]
          refine hH_take (i := 4) (v := ?_) (d := 31) (l2 := #[true, true, true, true, true, false, false, false, false, false, false, false, false, false, false, false, false, false, false, false, false, false, false, false, false]) rfl (by kernel_rfl) (by kernel_rfl) (by kernel_rfl) (fun _ _ _ h => h) (by kernel_rfl) ?_ (by assumption) rfl (by kernel_rfl) ?_
          rotate_left
          · intro w hSw; (try dsimp only at hSw); go_simp; (try with_reducible rfl)
          simp only [List.set]
          refine wpAnyH_ready (rs := [5]) (by kernel_rfl) (by simp) ?_
          refine AllReadyH.cons rfl (fun K hK => ?_) AllReadyH.nil
          go_simp
          (go_at_call 87; (with_reducible refine (cT _).mono ?_); rintro e w1 ⟨rfl, h1⟩; have hS := hS.up h1; clear h1)
          refine hK.out _ _ hS (fun hHeld => ?_)
          clear hK K
          refine hH_take (i := 6) (v := ?_) (d := 33) (l2 := #[true, true, true, true, true, true, true, false, false, false, false, false, false, false, false, false, false, false, false, false, false, false, false, false, false]) rfl (by kernel_rfl) (by kernel_rfl) (by kernel_rfl) (fun _ _ _ h => h) (by kernel_rfl) ?_ (by assumption) rfl (by kernel_rfl) ?_
          rotate_left
          · intro w hSw; (try dsimp only at hSw); go_simp; (try with_reducible rfl)
          simp only [List.set]
          refine hH_take (i := 7) (v := ?_) (d := 34) (l2 := #[true, true, true, true, true, true, true, true, false, false, false, false, false, false, false, false, false, false, false, false, false, false, false, false, false]) rfl (by kernel_rfl) (by kernel_rfl) (by kernel_rfl) (fun _ _ _ h => h) (by kernel_rfl) ?_ (by assumption) rfl (by kernel_rfl) ?_
          rotate_left
          · intro w hSw; (try dsimp only at hSw); go_simp; (try with_reducible rfl)
          simp only [List.set]
          refine hH_take (i := 8) (v := ?_) (d := 35) (l2 := #[true, true, true, true, true, true, true, true, true, false, false, false, false, false, false, false, false, false, false, false, false, false, false, false, false]) rfl (by kernel_rfl) (by kernel_rfl) (by kernel_rfl) (fun _ _ _ h => h) (by kernel_rfl) ?_ (by assumption) rfl (by kernel_rfl) ?_
          rotate_left
          · intro w hSw; (try dsimp only at hSw); go_simp; (try with_reducible rfl)
          simp only [List.set]
          refine hH_take (i := 9) (v := ?_) (d := 36) (l2 := #[true, true, true, true, true, true, true, true, true, true, false, false, false, false, false, false, false, false, false, false, false, false, false, false, false]) rfl (by kernel_rfl) (by kernel_rfl) (by kernel_rfl) (fun _ _ _ h => h) (by kernel_rfl) ?_ (by assumption) rfl (by kernel_rfl) ?_
          rotate_left
          · intro w hSw; (try dsimp only at hSw); go_simp; (try with_reducible rfl)
          simp only [List.set]
          refine hH_take (i := 10) (v := ?_) (d := 37) (l2 := #[true, true, true, true, true, true, true, true, true, true, true, false, false, false, false, false, false, false, false, false, false, false, false, false, false]) rfl (by kernel_rfl) (by kernel_rfl) (by kernel_rfl) (fun _ _ _ h => h) (by kernel_rfl) ?_ (by assumption) rfl (by kernel_rfl) ?_
          rotate_left
          · intro w hSw; refine (ex_load_at (va_at hSw.of.handler) rfl rfl).trans ?_; with_reducible rfl
          simp only [List.set]
          refine hH_take (i := 11) (v := ?_) (d := 38) (l2 := #[true, true, true, true, true, true, true, true, true, true, true, true, false, false, false, false, false, false, false, false, false, false, false, false, false]) rfl (by kernel_rfl) (by kernel_rfl) (by kernel_rfl) (fun _ _ _ h => h) (by kernel_rfl) ?_ (by assumption) rfl (by kernel_rfl) ?_
          rotate_left
          · intro w hSw; (try dsimp only at hSw); go_simp; (try with_reducible rfl)
          simp only [List.set]
          refine wpAnyH_ready (rs := [12]) (by kernel_rfl) (by simp) ?_
          refine AllReadyH.cons rfl (fun K hK => ?_) AllReadyH.nil
          go_simp
          (go_at_call 87; (with_reducible refine (cH _).mono ?_); rintro e w1 ⟨rfl, h1⟩; have hS := hS.up h1; clear h1)
          refine hK.out _ _ hS (fun hHeld => ?_)
          clear hK K
          refine hH_take (i := 13) (v := ?_) (d := 40) (l2 := #[true, true, true, true, true, true, true, true, true, true, true, true, true, true, false, false, false, false, false, false, false, false, false, false, false]) rfl (by kernel_rfl) (by kernel_rfl) (by kernel_rfl) (fun _ _ _ h => h) (by kernel_rfl) ?_ (by assumption) rfl (by kernel_rfl) ?_
          rotate_left
          · intro w hSw; (try dsimp only at hSw); go_simp; (try with_reducible rfl)
          simp only [List.set]
          refine hH_take (i := 14) (v := ?_) (d := 41) (l2 := #[true, true, true, true, true, true, true, true, true, true, true, true, true, true, true, false, false, false, false, false, false, false, false, false, false]) rfl (by kernel_rfl) (by kernel_rfl) (by kernel_rfl) (fun _ _ _ h => h) (by kernel_rfl) ?_ (by assumption) rfl (by kernel_rfl) ?_
          rotate_left
          · intro w hSw; (try dsimp only at hSw); go_simp; (try with_reducible rfl)
          simp only [List.set]
          refine hH_drop (i := 15) (d := 42) (l2 := #[true, true, true, true, true, true, true, true, true, true, true, true, true, true, true, true, false, false, false, false, false, false, false, false, false]) rfl (by kernel_rfl) (by kernel_rfl) (by kernel_rfl) (fun _ _ _ h => h) (by kernel_rfl) (by assumption) rfl (by kernel_rfl) ?_
          simp only [List.set]
          refine hH_drop (i := 16) (d := 43) (l2 := #[true, true, true, true, true, true, true, true, true, true, true, true, true, true, true, true, true, false, false, false, false, false, false, false, false]) rfl (by kernel_rfl) (by kernel_rfl) (by kernel_rfl) (fun _ _ _ h => h) (by kernel_rfl) (by assumption) rfl (by kernel_rfl) ?_
          simp only [List.set]
          refine hH_drop (i := 17) (d := 44) (l2 := #[true, true, true, true, true, true, true, true, true, true, true, true, true, true, true, true, true, true, false, false, false, false, false, false, false]) rfl (by kernel_rfl) (by kernel_rfl) (by kernel_rfl) (fun _ _ _ h => h) (by kernel_rfl) (by assumption) rfl (by kernel_rfl) ?_
          simp only [List.set]
          refine hH_drop (i := 18) (d := 45) (l2 := #[true, true, true, true, true, true, true, true, true, true, true, true, true, true, true, true, true, true, true, false, false, false, false, false, false]) rfl (by kernel_rfl) (by kernel_rfl) (by kernel_rfl) (fun _ _ _ h => h) (by kernel_rfl) (by assumption) rfl (by kernel_rfl) ?_
          simp only [List.set]
          refine hH_drop (i := 19) (d := 46) (l2 := #[true, true, true, true, true, true, true, true, true, true, true, true, true, true, true, true, true, true, true, true, false, false, false, false, false]) rfl (by kernel_rfl) (by kernel_rfl) (by kernel_rfl) (fun _ _ _ h => h) (by kernel_rfl) (by assumption) rfl (by kernel_rfl) ?_
          simp only [List.set]
          refine hH_drop (i := 20) (d := 47) (l2 := #[true, true, true, true, true, true, true, true, true, true, true, true, true, true, true, true, true, true, true, true, true, false, false, false, false]) rfl (by kernel_rfl) (by kernel_rfl) (by kernel_rfl) (fun _ _ _ h => h) (by kernel_rfl) (by assumption) rfl (by kernel_rfl) ?_
          simp only [List.set]
          refine hH_drop (i := 21) (d := 48) (l2 := #[true, true, true, true, true, true, true, true, true, true, true, true, true, true, true, true, true, true, true, true, true, true, false, false, false]) rfl (by kernel_rfl) (by kernel_rfl) (by kernel_rfl) (fun _ _ _ h => h) (by kernel_rfl) (by assumption) rfl (by kernel_rfl) ?_
          simp only [List.set]
          refine hH_drop (i := 22) (d := 49) (l2 := #[true, true, true, true, true, true, true, true, true, true, true, true, true, true, true, true, true, true, true, true, true, true, true, false, false]) rfl (by kernel_rfl) (by kernel_rfl) (by kernel_rfl) (fun _ _ _ h => h) (by kernel_rfl) (by assumption) rfl (by kernel_rfl) ?_
          simp only [List.set]
          refine hH_take (i := 23) (v := ?_) (d := 50) (l2 := #[true, true, true, true, true, true, true, true, true, true, true, true, true, true, true, true, true, true, true, true, true, true, true, true, false]) rfl (by kernel_rfl) (by kernel_rfl) (by kernel_rfl) (fun _ _ _ h => h) (by kernel_rfl) ?_ (by assumption) rfl (by kernel_rfl) ?_
          rotate_left
          · intro w hSw; (try dsimp only at hSw); go_simp; (try with_reducible rfl)
          simp only [List.set]
          refine hH_take (i := 24) (v := ?_) (d := 4) (l2 := #[true, true, true, true, true, true, true, true, true, true, true, true, true, true, true, true, true, true, true, true, true, true, true, true, true]) rfl (by kernel_rfl) (by kernel_rfl) (by kernel_rfl) (fun _ _ _ h => h) (by kernel_rfl) ?_ (by assumption) rfl (by kernel_rfl) ?_
          rotate_left
          · intro w hSw; (try dsimp only at hSw); go_simp; (try with_reducible rfl)
          simp only [List.set]
          refine wpAnyH_done (by kernel_rfl) ?_ _
          go_wp2_with (fail)
          go_ret
          exact ⟨by first | rfl | simp, hS.below⟩
      | true =>
        rw [hh] at cH
        rcases hsplit with h3 | ⟨h3, h4⟩
        all_goals
          go_enter Tryz.func64, Tryz.ntmps64
          go_wp2
          have hS := HLD.out.drew
          refine wp_region_held_drew (S := LdS w (a.add (n * 18)) o) (by kernel_rfl) hS (fun hHeld => ?_)
          refine hH_take (i := 0) (v := ?_) (d := 27) (l2 := #[true, false, false, false, false, false, false, false, false, false, false, false, false, false, false, false, false, false, false, false, false, false, false, false, false]) rfl (by kernel_rfl) (by kernel_rfl) (by kernel_rfl) (fun _ _ _ h => h) (by kernel_rfl) ?_ (by assumption) rfl (by kernel_rfl) ?_
          rotate_left
          · intro w hSw; (try dsimp only at hSw); go_simp; (try with_reducible rfl)
          simp only [List.set]
          refine hH_take (i := 1) (v := ?_) (d := 28) (l2 := #[true, true, false, false, false, false, false, false, false, false, false, false, false, false, false, false, false, false, false, false, false, false, false, false, false]) rfl (by kernel_rfl) (by kernel_rfl) (by kernel_rfl) (fun _ _ _ h => h) (by kernel_rfl) ?_ (by assumption) rfl (by kernel_rfl) ?_
          rotate_left
          · intro w hSw; (try dsimp only at hSw); go_simp; (try with_reducible rfl)
          simp only [List.set]
          refine hH_take (i := 2) (v := ?_) (d := 29) (l2 := #[true, true, true, false, false, false, false, false, false, false, false, false, false, false, false, false, false, false, false, false, false, false, false, false, false]) rfl (by kernel_rfl) (by kernel_rfl) (by kernel_rfl) (fun _ _ _ h => h) (by kernel_rfl) ?_ (by assumption) rfl (by kernel_rfl) ?_
          rotate_left
          · intro w hSw; (try dsimp only at hSw); go_simp; (try with_reducible rfl)
          simp only [List.set]
          refine hH_take (i := 3) (v := ?_) (d := 30) (l2 := #[true, true, true, true, false, false, false, false, false, false, false, false, false, false, false, false, false, false, false, false, false, false, false, false, false]) rfl (by kernel_rfl) (by kernel_rfl) (by kernel_rfl) (fun _ _ _ h => h) (by kernel_rfl) ?_ (by assumption) rfl (by kernel_rfl) ?_
          rotate_left
          · intro w hSw; refine (ex_load_at (va_at hSw.of.target) rfl rfl).trans ?_; with_reducible rfl
          simp only [List.set]
          refine hH_take (i := 4) (v := ?_) (d := 31) (l2 := #[true, true, true, true, true, false, false, false, false, false, false, false, false, false, false, false, false, false, false, false, false, false, false, false, false]) rfl (by kernel_rfl) (by kernel_rfl) (by kernel_rfl) (fun _ _ _ h => h) (by kernel_rfl) ?_ (by assumption) rfl (by kernel_rfl) ?_
          rotate_left
          · intro w hSw; (try dsimp only at hSw); go_simp; (try with_reducible rfl)
          simp only [List.set]
          refine wpAnyH_ready (rs := [5]) (by kernel_rfl) (by simp) ?_
          refine AllReadyH.cons rfl (fun K hK => ?_) AllReadyH.nil
          go_simp
          (go_at_call 87; (with_reducible refine (cT _).mono ?_); rintro e w1 ⟨rfl, h1⟩; have hS := hS.up h1; clear h1)
          refine hK.out _ _ hS (fun hHeld => ?_)
          clear hK K
          refine hH_take (i := 6) (v := ?_) (d := 33) (l2 := #[true, true, true, true, true, true, true, false, false, false, false, false, false, false, false, false, false, false, false, false, false, false, false, false, false]) rfl (by kernel_rfl) (by kernel_rfl) (by kernel_rfl) (fun _ _ _ h => h) (by kernel_rfl) ?_ (by assumption) rfl (by kernel_rfl) ?_
          rotate_left
          · intro w hSw; (try dsimp only at hSw); go_simp; (try with_reducible rfl)
          simp only [List.set]
          refine hH_take (i := 7) (v := ?_) (d := 34) (l2 := #[true, true, true, true, true, true, true, true, false, false, false, false, false, false, false, false, false, false, false, false, false, false, false, false, false]) rfl (by kernel_rfl) (by kernel_rfl) (by kernel_rfl) (fun _ _ _ h => h) (by kernel_rfl) ?_ (by assumption) rfl (by kernel_rfl) ?_
          rotate_left
          · intro w hSw; (try dsimp only at hSw); go_simp; (try with_reducible rfl)
          simp only [List.set]
          refine hH_take (i := 8) (v := ?_) (d := 35) (l2 := #[true, true, true, true, true, true, true, true, true, false, false, false, false, false, false, false, false, false, false, false, false, false, false, false, false]) rfl (by kernel_rfl) (by kernel_rfl) (by kernel_rfl) (fun _ _ _ h => h) (by kernel_rfl) ?_ (by assumption) rfl (by kernel_rfl) ?_
          rotate_left
          · intro w hSw; (try dsimp only at hSw); go_simp; (try with_reducible rfl)
          simp only [List.set]
          refine hH_take (i := 9) (v := ?_) (d := 36) (l2 := #[true, true, true, true, true, true, true, true, true, true, false, false, false, false, false, false, false, false, false, false, false, false, false, false, false]) rfl (by kernel_rfl) (by kernel_rfl) (by kernel_rfl) (fun _ _ _ h => h) (by kernel_rfl) ?_ (by assumption) rfl (by kernel_rfl) ?_
          rotate_left
          · intro w hSw; (try dsimp only at hSw); go_simp; (try with_reducible rfl)
          simp only [List.set]
          refine hH_take (i := 10) (v := ?_) (d := 37) (l2 := #[true, true, true, true, true, true, true, true, true, true, true, false, false, false, false, false, false, false, false, false, false, false, false, false, false]) rfl (by kernel_rfl) (by kernel_rfl) (by kernel_rfl) (fun _ _ _ h => h) (by kernel_rfl) ?_ (by assumption) rfl (by kernel_rfl) ?_
          rotate_left
          · intro w hSw; refine (ex_load_at (va_at hSw.of.handler) rfl rfl).trans ?_; with_reducible rfl
          simp only [List.set]
          refine hH_take (i := 11) (v := ?_) (d := 38) (l2 := #[true, true, true, true, true, true, true, true, true, true, true, true, false, false, false, false, false, false, false, false, false, false, false, false, false]) rfl (by kernel_rfl) (by kernel_rfl) (by kernel_rfl) (fun _ _ _ h => h) (by kernel_rfl) ?_ (by assumption) rfl (by kernel_rfl) ?_
          rotate_left
          · intro w hSw; (try dsimp only at hSw); go_simp; (try with_reducible rfl)
          simp only [List.set]
          refine wpAnyH_ready (rs := [12]) (by kernel_rfl) (by simp) ?_
          refine AllReadyH.cons rfl (fun K hK => ?_) AllReadyH.nil
          go_simp
          (go_at_call 87; (with_reducible refine (cH _).mono ?_); rintro e w1 ⟨rfl, h1⟩; have hS := hS.up h1; clear h1)
          refine hK.out _ _ hS (fun hHeld => ?_)
          clear hK K
          refine hH_take (i := 13) (v := ?_) (d := 40) (l2 := #[true, true, true, true, true, true, true, true, true, true, true, true, true, true, false, false, false, false, false, false, false, false, false, false, false]) rfl (by kernel_rfl) (by kernel_rfl) (by kernel_rfl) (fun _ _ _ h => h) (by kernel_rfl) ?_ (by assumption) rfl (by kernel_rfl) ?_
          rotate_left
          · intro w hSw; (try dsimp only at hSw); go_simp; (try with_reducible rfl)
          simp only [List.set]
          refine hH_take (i := 14) (v := ?_) (d := 41) (l2 := #[true, true, true, true, true, true, true, true, true, true, true, true, true, true, true, false, false, false, false, false, false, false, false, false, false]) rfl (by kernel_rfl) (by kernel_rfl) (by kernel_rfl) (fun _ _ _ h => h) (by kernel_rfl) ?_ (by assumption) rfl (by kernel_rfl) ?_
          rotate_left
          · intro w hSw; (try dsimp only at hSw); go_simp; (try with_reducible rfl)
          simp only [List.set]
          refine hH_take (i := 15) (v := ?_) (d := 42) (l2 := #[true, true, true, true, true, true, true, true, true, true, true, true, true, true, true, true, false, false, false, false, false, false, false, false, false]) rfl (by kernel_rfl) (by kernel_rfl) (by kernel_rfl) (fun _ _ _ h => h) (by kernel_rfl) ?_ (by assumption) rfl (by kernel_rfl) ?_
          rotate_left
          · intro w hSw; (try dsimp only at hSw); go_simp; (try with_reducible rfl)
          simp only [List.set]
          refine hH_take (i := 17) (v := ?_) (d := 44) (l2 := #[true, true, true, true, true, true, true, true, true, true, true, true, true, true, true, true, false, true, false, false, false, false, false, false, false]) rfl (by kernel_rfl) (by kernel_rfl) (by kernel_rfl) (fun _ _ _ h => h) (by kernel_rfl) ?_ (by assumption) rfl (by kernel_rfl) ?_
          rotate_left
          · intro w hSw; (try dsimp only at hSw); go_simp; (try with_reducible rfl)
          simp only [List.set]
          refine hH_take (i := 18) (v := ?_) (d := 45) (l2 := #[true, true, true, true, true, true, true, true, true, true, true, true, true, true, true, true, false, true, true, false, false, false, false, false, false]) rfl (by kernel_rfl) (by kernel_rfl) (by kernel_rfl) (fun _ _ _ h => h) (by kernel_rfl) ?_ (by assumption) rfl (by kernel_rfl) ?_
          rotate_left
          · intro w hSw; (try dsimp only at hSw); go_simp; (try with_reducible rfl)
          simp only [List.set]
          refine hH_take (i := 19) (v := ?_) (d := 46) (l2 := #[true, true, true, true, true, true, true, true, true, true, true, true, true, true, true, true, false, true, true, true, false, false, false, false, false]) rfl (by kernel_rfl) (by kernel_rfl) (by kernel_rfl) (fun _ _ _ h => h) (by kernel_rfl) ?_ (by assumption) rfl (by kernel_rfl) ?_
          rotate_left
          · intro w hSw; (try dsimp only at hSw); go_simp; (try with_reducible rfl)
          simp only [List.set]
          refine hH_take (i := 20) (v := ?_) (d := 47) (l2 := #[true, true, true, true, true, true, true, true, true, true, true, true, true, true, true, true, false, true, true, true, true, false, false, false, false]) rfl (by kernel_rfl) (by kernel_rfl) (by kernel_rfl) (fun _ _ _ h => h) (by kernel_rfl) ?_ (by assumption) rfl (by kernel_rfl) ?_
          rotate_left
          · intro w hSw; (try dsimp only at hSw); go_simp; (try with_reducible rfl)
          simp only [List.set]
          refine hH_take (i := 21) (v := ?_) (d := 48) (l2 := #[true, true, true, true, true, true, true, true, true, true, true, true, true, true, true, true, false, true, true, true, true, true, false, false, false]) rfl (by kernel_rfl) (by kernel_rfl) (by kernel_rfl) (fun _ _ _ h => h) (by kernel_rfl) ?_ (by assumption) rfl (by kernel_rfl) ?_
          rotate_left
          · intro w hSw; have hk := hSw.of.target.k; (try dsimp only at hk); go_simp; (try with_reducible rfl)
          simp only [List.set]
          refine wpAnyH_ready (rs := [16]) (by kernel_rfl) (by simp) ?_
          refine AllReadyH.cons rfl (fun K hK => ?_) AllReadyH.nil
          go_simp
          (go_at_call 58; (with_reducible refine (kind_h _ _ _ hS.of).mono ?_); rintro e w1 ⟨rfl, rfl⟩)
          refine hK.out _ _ hS (fun hHeld => ?_)
          clear hK K
          refine hH_take (i := 22) (v := ?_) (d := 49) (l2 := #[true, true, true, true, true, true, true, true, true, true, true, true, true, true, true, true, true, true, true, true, true, true, true, false, false]) rfl (by kernel_rfl) (by kernel_rfl) (by kernel_rfl) (fun _ _ _ h => h) (by kernel_rfl) ?_ (by assumption) rfl (by kernel_rfl) ?_
          rotate_left
          · intro w hSw; (try dsimp only at hSw); go_simp; (try with_reducible rfl)
          simp only [List.set]
          refine hH_take (i := 23) (v := ?_) (d := 50) (l2 := #[true, true, true, true, true, true, true, true, true, true, true, true, true, true, true, true, true, true, true, true, true, true, true, true, false]) rfl (by kernel_rfl) (by kernel_rfl) (by kernel_rfl) (fun _ _ _ h => h) (by kernel_rfl) ?_ (by assumption) rfl (by kernel_rfl) ?_
          rotate_left
          · intro w hSw; (try dsimp only at hSw); go_simp; (try with_reducible rfl)
          simp only [List.set]
          refine hH_take (i := 24) (v := ?_) (d := 4) (l2 := #[true, true, true, true, true, true, true, true, true, true, true, true, true, true, true, true, true, true, true, true, true, true, true, true, true]) rfl (by kernel_rfl) (by kernel_rfl) (by kernel_rfl) (fun _ _ _ h => h) (by kernel_rfl) ?_ (by assumption) rfl (by kernel_rfl) ?_
          rotate_left
          · intro w hSw; (try dsimp only at hSw); go_simp; (try with_reducible rfl)
          simp only [List.set]
          refine wpAnyH_done (by kernel_rfl) ?_ _
          go_wp2_with (fail)
          go_ret
          exact ⟨by first | rfl | simp, hS.below⟩
end Go.Proofs.YtlfbflclefndjaaGreatDoor.S
