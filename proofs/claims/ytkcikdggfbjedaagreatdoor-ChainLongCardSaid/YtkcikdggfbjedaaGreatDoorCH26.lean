/-
  chain: Down, Deep, IsArray, Live.
-/
import Derived.Test.YtkcikdggfbjedaaGreatDoorCH25
namespace Go.Proofs.YtkcikdggfbjedaaGreatDoor.S
open Go.RowKit Go.Lib Fl
open Classical

set_option maxRecDepth 100000 in
theorem run_field1 (v : Value) (c : Int) (o : Ob) (w : World) : (Instr.field 87 (.agg (chP v c o)) 1).run Tryz.prog w = .ok (.int .i64 c) w := by kernel_rfl
section
variable {o : Oper} {a : Act} {w : World} {x : Operand}
theorem ef_1 {v : Value} {c : Int} {q : Ob} (ho : o.op = .field 87 x 1) (hx : a.eval x = .agg (chP v c q)) : (execOp a.eval o).run Tryz.prog w = .ok (.value (.int .i64 c)) w := by
  unfold execOp
  simp only [ho, hx, run_field1, Sem.run_bind, Sem.run_pure, Result.andThen_ok]
end
theorem chEnd_none {H : List Ob} : ∀ n : Nat, chNext H (chEnd H n) = none := fun n => by
  induction n using Nat.strongRecOn with
  | ind n ih =>
    cases e : chNext H n with
    | none => rw [chEnd_end e]; exact e
    | some t => rw [chEnd_next e]; exact ih t (chNext_lt e)
theorem chGone_end {H : List Ob} (hm : mayH H = true) {n : Nat} (h : chEnd H n < H.length) : chGone H[chEnd H n] = chCut H n := by
  have hc : chCut H n = (H[chEnd H n].kind == 6) := by unfold chCut; rw [List.getElem?_eq_getElem h]
  rw [hc]
  unfold chGone
  cases hk : H[chEnd H n].kind == 6 with
  | false => rfl
  | true =>
    rcases ch_proxy hm h (beq_iff_eq.1 hk) with ⟨h1, _⟩ | ⟨_, t, _, _, h4⟩
    · rw [h1]; rfl
    · rw [chEnd_none n] at h4; cases h4
theorem ch3_end {f : Func} {i j k : Nat} {Q : Ending → World → Prop} {tmps : Array Value} {W : World} {x y z : Value} (hf : f.results = #[.tmp i, .tmp j, .tmp k])
    (h1 : tmps[i]?.getD undef = x) (h2 : tmps[j]?.getD undef = y) (h3 : tmps[k]?.getD undef = z) (hQ : Q (.returned (.tuple #[x, y, z])) W) : bodyPost Tryz.prog f Q .ret { tmps := tmps, defers := [] } W := by
  refine bodyPost_ret (v := .tuple #[x, y, z]) ?_ rfl hQ
  simp [h1, h2, h3, results, hf]
/-- is an object a live proxy; an array -/
def liveN (H : List Ob) (n : Nat) : Bool := match H[n]? with | some o => chLive o | none => false
def arrN (H : List Ob) (n : Nat) : Bool := match H[n]? with | some o => o.kind == 2 | none => false
set_option maxHeartbeats 4000000 in
set_option maxRecDepth 1000000 in
theorem Deep_c (A : Option Addr) (H : List Ob) (cap : Nat) (n : Nat) (w : World) (hH : HIn w A H cap) (htab : TabHere w) (hm : mayH H = true) (hn : n < H.length) :
    Calls Tryz.prog 16 #[.agg #[.slice A H.length cap], .int .i64 (n : Int)] w fun e w' => e = .returned (.tuple #[.int .i64 (chDeep H n : Int), .int .i64 0]) ∧ Below w.heap.size w w' := by
  have HC := Lib.hid (cw_start w A H.length cap)
  have cK : ∀ W, Below w.heap.size w W → Calls Tryz.prog 39 #[.agg #[.slice A H.length cap], .int .i64 (n : Int)] W fun e w' => e = .returned (.int .i64 0) ∧ Below W.heap.size W w' := fun W hb => by
    have := check_c A H cap n W (hH.up hb) (tab_up htab hb)
    rw [ck_ok hm hn] at this
    exact this
  have cF := fun W (hb : Below w.heap.size w W) => follow_c A H cap n W (hH.up hb) hm hn
  have hfew := hH.few
  unfold FollowTo at cF
  generalize chDeep H n = d at *
  clear hH htab hm hn
  go_enter Tryz.func16, Tryz.ntmps16
  go_wp2_with (first
    | ((with_reducible refine h1_ld ?_ rfl rfl HC.out.h ?_); (rfl))
    | (go_at_call 39; (with_reducible refine (cK _ HC.out.below).mono ?_); rintro e w1 ⟨rfl, h9⟩; have HC := Lib.hid (HC.out.up h9); have hq := HC.out.q; clear h9)
    | ((with_reducible refine w_run ?_ (ef_1 rfl rfl) ?_); (rfl))
    | (go_at_call 41; (with_reducible refine (cF _ HC.out.below).mono ?_); rintro e w2 ⟨h9, P, pc, hel, rfl, hI⟩; have HC := Lib.hid (HC.out.up h9); have HI := Lib.hid hI; clear h9 hI))
  refine rr_end Tryz.results16 rfl rfl (?_); exact ⟨rfl, HC.out.below⟩
/-- with a path in a block g of its own -/
structure Pw (w : World) (A : Option Addr) (n cap g : Nat) (v : Value) (c : Int) (o : Ob) (W : World) : Prop where
  cw : Cw w A n cap W
  p : W.heap[g]? = some (.cells (chP v c o) 87 (0, 0))
theorem Pw.up {w : World} {A : Option Addr} {n cap g : Nat} {v : Value} {c : Int} {o : Ob} {W W' : World} (h : Pw w A n cap g v c o W) (hb : Below W.heap.size W W') : Pw w A n cap g v c o W' := ⟨h.cw.up hb, vblkn hb h.p⟩
theorem chP_run {W : World} {g : Nat} {v : Value} {c : Int} {o : Ob} {t : TypeId} (hb : W.heap[g]? = some (.cells (chP v c o) t (0, 0))) : (Instr.loadAt 64 (.pointer (some ⟨g, 2, none⟩))).run Tryz.prog W = .ok (.agg (obA o)) W :=
  run_loadAt_at (A := ⟨g, 2, none⟩) (cs := ocl o) (of_chP hb) Tryz.underlying64 rfl osz
set_option maxHeartbeats 4000000 in
set_option maxRecDepth 1000000 in
theorem Down_c (A : Option Addr) (H : List Ob) (cap : Nat) (n : Nat) (w : World) (hH : HIn w A H cap) (htab : TabHere w) (hm : mayH H = true) (hn : n < H.length) :
    Calls Tryz.prog 11 #[.agg #[.slice A H.length cap], .int .i64 (n : Int)] w fun e w' => ∃ (P : Option Addr) (pc : Nat), e = .returned (.tuple #[.slice P (chDn H n).length pc, .bool (chCut H n), .int .i64 0]) ∧ IRow w' P (upZ (chDn H n)) ∧ Below w.heap.size w w' := by
  have HC := Lib.hid (cw_start w A H.length cap)
  have cK : ∀ W, Below w.heap.size w W → Calls Tryz.prog 39 #[.agg #[.slice A H.length cap], .int .i64 (n : Int)] W fun e w' => e = .returned (.int .i64 0) ∧ Below W.heap.size W w' := fun W hb => by
    have := check_c A H cap n W (hH.up hb) (tab_up htab hb)
    rw [ck_ok hm hn] at this
    exact this
  have cF := fun W (hb : Below w.heap.size w W) => follow_c A H cap n W (hH.up hb) hm hn
  have hfew := hH.few
  have hel := Nat.lt_of_le_of_lt (chEnd_le (H := H) n) hn
  obtain ⟨q, hq0⟩ : ∃ q, q = H[chEnd H n] := ⟨_, rfl⟩
  have hqk : 0 ≤ q.target.k := by rw [hq0]; exact (hH.inn _ (List.getElem_mem hel)).target.1
  have hgo : chGone q = chCut H n := by rw [hq0]; exact chGone_end hm hel
  have cR : ∀ W, Calls Tryz.prog 42 #[.agg (obA q)] W fun e w' => e = .returned (.bool (chCut H n)) ∧ Below W.heap.size W w' := fun W => by
    have := revoked_c q hqk W
    rw [hgo] at this
    exact this
  have cF : ∀ W, Below w.heap.size w W → Calls Tryz.prog 41 #[.agg #[.slice A H.length cap], .int .i64 (n : Int)] W fun e w' => Below W.heap.size W w' ∧ ∃ (P : Option Addr) (pc : Nat), e = .returned (.agg (chP (.slice P (chDn H n).length pc) (chDeep H n) q)) ∧ IRow w' P (upZ (chDn H n)) := fun W hb =>
    (cF W hb).mono fun e w' ⟨h1, P, pc, _, h3, h4⟩ => ⟨h1, P, pc, by rw [hq0]; exact h3, h4⟩
  generalize chDeep H n = d at *
  generalize chDn H n = L at *
  generalize chCut H n = b at *
  clear hH htab hm hn hel hq0 hqk hgo
  go_enter Tryz.func11, Tryz.ntmps11
  go_upto_region 5 with (first
    | ((with_reducible refine h1_ld ?_ rfl rfl HC.out.h ?_); (rfl))
    | (go_at_call 39; (with_reducible refine (cK _ HC.out.below).mono ?_); rintro e w1 ⟨rfl, h9⟩; have HC := Lib.hid (HC.out.up h9); have hq := HC.out.q; clear h9)
    | (go_at_call 41; (with_reducible refine (cF _ HC.out.below).mono ?_); rintro e w2 ⟨h9, P, pc, rfl, hI⟩; have HC := Lib.hid (HC.out.up h9); have HI := Lib.hid hI; clear h9 hI)
    | ((with_reducible refine t_store (cs := chP (.slice P L.length pc) d q) rfl rfl rfl rfl (heap_alloc_new w2 _) (psz20c _ _ _) ?_ (chP_one _ _ _ _ _) (vzero w2 _) (Nat.le_refl _) ?_); (rfl); intro W3 hb3 hW3 hO3 hz3; have HP : Hid (Pw w A H.length cap w2.heap.size (.slice P L.length pc) d q W3) := Lib.hid ⟨HC.out.up hb3, hW3⟩; have HI := Lib.hid (irow_up HI.out hb3); clear hb3 hW3 hO3 hz3))
  have HI := Lib.hid (irow_up HI.out (Below.refl W3.heap.size W3).drew)
  have hS : Pw w A H.length cap w2.heap.size (.slice P L.length pc) d q W3.drew := HP.out.up (Below.refl _ _).drew
  clear HP
  refine wp_region_held_drew (S := Pw w A H.length cap w2.heap.size (.slice P L.length pc) d q) (by kernel_rfl) hS (fun hHeld => ?_)
  generalize W3.drew = W4 at *
  generalize w2.heap.size = g at *
  refine hH_take (i := 0) (v := .pointer (some ⟨g, 0, none⟩)) (d := 18) (l2 := #[true, false, false, false, false, false, false, false]) rfl (by kernel_rfl) (by kernel_rfl) (by kernel_rfl) (fun _ _ _ h => h) (by kernel_rfl) ?_ (by assumption) rfl (by kernel_rfl) ?_
  · intro w hSw; go_simp; (try with_reducible rfl)
  simp only [List.set]
  refine hH_take (i := 1) (v := .slice P L.length pc) (d := 19) (l2 := #[true, true, false, false, false, false, false, false]) rfl (by kernel_rfl) (by kernel_rfl) (by kernel_rfl) (fun _ _ _ h => h) (by kernel_rfl) ?_ (by assumption) rfl (by kernel_rfl) ?_
  · intro w hSw; have q := (vcells hSw.p 0).trans rfl; go_simp; (try with_reducible rfl)
  simp only [List.set]
  refine hH_take (i := 2) (v := .pointer (some ⟨g, 2, none⟩)) (d := 20) (l2 := #[true, true, true, false, false, false, false, false]) rfl (by kernel_rfl) (by kernel_rfl) (by kernel_rfl) (fun _ _ _ h => h) (by kernel_rfl) ?_ (by assumption) rfl (by kernel_rfl) ?_
  · intro w hSw; go_simp; (try with_reducible rfl)
  simp only [List.set]
  refine hH_take (i := 3) (v := .agg (obA q)) (d := 21) (l2 := #[true, true, true, true, false, false, false, false]) rfl (by kernel_rfl) (by kernel_rfl) (by kernel_rfl) (fun _ _ _ h => h) (by kernel_rfl) ?_ (by assumption) rfl (by kernel_rfl) ?_
  · intro w hSw; exact ex_load_at (chP_run hSw.p) rfl rfl
  simp only [List.set]
  refine wpAnyH_ready (rs := [4]) (by kernel_rfl) (by simp) ?_
  refine AllReadyH.cons rfl (fun K hK => ?_) AllReadyH.nil
  go_simp
  go_at_call 42
  (with_reducible refine (cR _).mono ?_)
  rintro e w5 ⟨rfl, h1⟩
  have hS := hS.up h1
  have HI := Lib.hid (irow_up HI.out h1)
  clear h1
  refine hK.out _ _ hS (fun hHeld => ?_)
  clear hK K
  refine hH_take (i := 5) (v := .slice P L.length pc) (d := 4) (l2 := #[true, true, true, true, true, true, false, false]) rfl (by kernel_rfl) (by kernel_rfl) (by kernel_rfl) (fun _ _ _ h => h) (by kernel_rfl) ?_ (by assumption) rfl (by kernel_rfl) ?_
  · intro w hSw; go_simp; (try with_reducible rfl)
  simp only [List.set]
  refine hH_take (i := 6) (v := .bool b) (d := 5) (l2 := #[true, true, true, true, true, true, true, false]) rfl (by kernel_rfl) (by kernel_rfl) (by kernel_rfl) (fun _ _ _ h => h) (by kernel_rfl) ?_ (by assumption) rfl (by kernel_rfl) ?_
  · intro w hSw; go_simp; (try with_reducible rfl)
  simp only [List.set]
  refine hH_take (i := 7) (v := .int .i64 0) (d := 6) (l2 := #[true, true, true, true, true, true, true, true]) rfl (by kernel_rfl) (by kernel_rfl) (by kernel_rfl) (fun _ _ _ h => h) (by kernel_rfl) ?_ (by assumption) rfl (by kernel_rfl) ?_
  · intro w hSw; go_simp; (try with_reducible rfl)
  simp only [List.set]
  refine wpAnyH_done (by kernel_rfl) ?_ _
  go_wp2_with (fail)
  refine ch3_end Tryz.results11 rfl rfl rfl ?_; exact ⟨P, pc, rfl, HI.out, hS.cw.below⟩
set_option maxHeartbeats 4000000 in
set_option maxRecDepth 1000000 in
theorem IsArray_c (A : Option Addr) (H : List Ob) (cap : Nat) (n : Nat) (w : World) (hH : HIn w A H cap) (htab : TabHere w) (hm : mayH H = true) (hn : n < H.length) :
    Calls Tryz.prog 12 #[.agg #[.slice A H.length cap], .int .i64 (n : Int)] w fun e w' => e = .returned (.tuple #[.bool (if chCut H n = true ∨ 64 < chDeep H n then false else arrN H (chEnd H n)), .int .i64 (if chCut H n = true ∨ 64 < chDeep H n then 140 else 0)]) ∧ Below w.heap.size w w' := by
  have HC := Lib.hid (cw_start w A H.length cap)
  have cK : ∀ W, Below w.heap.size w W → Calls Tryz.prog 39 #[.agg #[.slice A H.length cap], .int .i64 (n : Int)] W fun e w' => e = .returned (.int .i64 0) ∧ Below W.heap.size W w' := fun W hb => by
    have := check_c A H cap n W (hH.up hb) (tab_up htab hb)
    rw [ck_ok hm hn] at this
    exact this
  have cF := fun W (hb : Below w.heap.size w W) => follow_c A H cap n W (hH.up hb) hm hn
  have hfew := hH.few
  have hel := Nat.lt_of_le_of_lt (chEnd_le (H := H) n) hn
  obtain ⟨q, hq0⟩ : ∃ q, q = H[chEnd H n] := ⟨_, rfl⟩
  have hqk : 0 ≤ q.target.k := by rw [hq0]; exact (hH.inn _ (List.getElem_mem hel)).target.1
  have hgo : chGone q = chCut H n := by rw [hq0]; exact chGone_end hm hel
  have cR : ∀ W, Calls Tryz.prog 42 #[.agg (obA q)] W fun e w' => e = .returned (.bool (chCut H n)) ∧ Below W.heap.size W w' := fun W => by
    have := revoked_c q hqk W
    rw [hgo] at this
    exact this
  have cF : ∀ W, Below w.heap.size w W → Calls Tryz.prog 41 #[.agg #[.slice A H.length cap], .int .i64 (n : Int)] W fun e w' => Below W.heap.size W w' ∧ ∃ (P : Option Addr) (pc : Nat), e = .returned (.agg (chP (.slice P (chDn H n).length pc) (chDeep H n) q)) ∧ IRow w' P (upZ (chDn H n)) := fun W hb =>
    (cF W hb).mono fun e w' ⟨h1, P, pc, _, h3, h4⟩ => ⟨h1, P, pc, by rw [hq0]; exact h3, h4⟩
  have harr : arrN H (chEnd H n) = (q.kind == 2) := by unfold arrN; rw [List.getElem?_eq_getElem hel, ← hq0]
  rw [harr]
  clear harr
  generalize chDeep H n = d at *
  generalize chDn H n = L at *
  generalize chCut H n = b at *
  clear hH htab hm hn hel hq0 hqk hgo
  have hcs : b = true ∨ (b = false ∧ (64 : Int) < (d : Int)) ∨ (b = false ∧ (d : Int) ≤ 64) := by cases b <;> simp; omega
  rcases hcs with rfl | ⟨rfl, hd⟩ | ⟨rfl, hd⟩
  · rw [if_pos (.inl rfl), if_pos (.inl rfl)]
    go_enter Tryz.func12, Tryz.ntmps12
    go_wp2_with (first
      | ((with_reducible refine h1_ld ?_ rfl rfl HC.out.h ?_); (rfl))
      | (go_at_call 39; (with_reducible refine (cK _ HC.out.below).mono ?_); rintro e w1 ⟨rfl, h9⟩; have HC := Lib.hid (HC.out.up h9); have hq := HC.out.q; clear h9)
      | (go_at_call 41; (with_reducible refine (cF _ HC.out.below).mono ?_); rintro e w2 ⟨h9, P, pc, rfl, hI⟩; have HC := Lib.hid (HC.out.up h9); have HI := Lib.hid hI; clear h9 hI)
      | ((with_reducible refine t_store (cs := chP (.slice P L.length pc) d q) rfl rfl rfl rfl (heap_alloc_new w2 _) (psz20c _ _ _) ?_ (chP_one _ _ _ _ _) (vzero w2 _) (Nat.le_refl _) ?_); (rfl); intro W3 hb3 hW3 hO3 hz3; have HP : Hid (Pw w A H.length cap w2.heap.size (.slice P L.length pc) d q W3) := Lib.hid ⟨HC.out.up hb3, hW3⟩; have hcp := of_chP hW3; clear hb3 hW3 hO3 hz3)
      | ((with_reducible refine oa_load ?_ rfl rfl hcp ?_); (rfl))
      | (go_at_call 42; (with_reducible refine (cR _).mono ?_); rintro e w5 ⟨rfl, h9⟩; have HP := Lib.hid (HP.out.up h9); have qd : w5.cell? ⟨w2.heap.size, 1, none⟩ = some (.int .i64 d) := (vcells HP.out.p 1).trans rfl; have qk : w5.cell? ⟨w2.heap.size, 2, none⟩ = some (.int .u8 q.kind) := (vcells HP.out.p 2).trans rfl; clear h9))
    refine rr_end Tryz.results12 rfl rfl (?_); exact ⟨rfl, HP.out.cw.below⟩
  · rw [if_pos (.inr (by omega)), if_pos (.inr (by omega))]
    go_enter Tryz.func12, Tryz.ntmps12
    go_wp2_with (first
      | ((with_reducible refine h1_ld ?_ rfl rfl HC.out.h ?_); (rfl))
      | (go_at_call 39; (with_reducible refine (cK _ HC.out.below).mono ?_); rintro e w1 ⟨rfl, h9⟩; have HC := Lib.hid (HC.out.up h9); have hq := HC.out.q; clear h9)
      | (go_at_call 41; (with_reducible refine (cF _ HC.out.below).mono ?_); rintro e w2 ⟨h9, P, pc, rfl, hI⟩; have HC := Lib.hid (HC.out.up h9); have HI := Lib.hid hI; clear h9 hI)
      | ((with_reducible refine t_store (cs := chP (.slice P L.length pc) d q) rfl rfl rfl rfl (heap_alloc_new w2 _) (psz20c _ _ _) ?_ (chP_one _ _ _ _ _) (vzero w2 _) (Nat.le_refl _) ?_); (rfl); intro W3 hb3 hW3 hO3 hz3; have HP : Hid (Pw w A H.length cap w2.heap.size (.slice P L.length pc) d q W3) := Lib.hid ⟨HC.out.up hb3, hW3⟩; have hcp := of_chP hW3; clear hb3 hW3 hO3 hz3)
      | ((with_reducible refine oa_load ?_ rfl rfl hcp ?_); (rfl))
      | (go_at_call 42; (with_reducible refine (cR _).mono ?_); rintro e w5 ⟨rfl, h9⟩; have HP := Lib.hid (HP.out.up h9); have qd : w5.cell? ⟨w2.heap.size, 1, none⟩ = some (.int .i64 d) := (vcells HP.out.p 1).trans rfl; have qk : w5.cell? ⟨w2.heap.size, 2, none⟩ = some (.int .u8 q.kind) := (vcells HP.out.p 2).trans rfl; clear h9))
    refine rr_end Tryz.results12 rfl rfl (?_); exact ⟨rfl, HP.out.cw.below⟩
  · rw [if_neg (by simp; omega), if_neg (by simp; omega)]
    go_enter Tryz.func12, Tryz.ntmps12
    go_wp2_with (first
      | ((with_reducible refine h1_ld ?_ rfl rfl HC.out.h ?_); (rfl))
      | (go_at_call 39; (with_reducible refine (cK _ HC.out.below).mono ?_); rintro e w1 ⟨rfl, h9⟩; have HC := Lib.hid (HC.out.up h9); have hq := HC.out.q; clear h9)
      | (go_at_call 41; (with_reducible refine (cF _ HC.out.below).mono ?_); rintro e w2 ⟨h9, P, pc, rfl, hI⟩; have HC := Lib.hid (HC.out.up h9); have HI := Lib.hid hI; clear h9 hI)
      | ((with_reducible refine t_store (cs := chP (.slice P L.length pc) d q) rfl rfl rfl rfl (heap_alloc_new w2 _) (psz20c _ _ _) ?_ (chP_one _ _ _ _ _) (vzero w2 _) (Nat.le_refl _) ?_); (rfl); intro W3 hb3 hW3 hO3 hz3; have HP : Hid (Pw w A H.length cap w2.heap.size (.slice P L.length pc) d q W3) := Lib.hid ⟨HC.out.up hb3, hW3⟩; have hcp := of_chP hW3; clear hb3 hW3 hO3 hz3)
      | ((with_reducible refine oa_load ?_ rfl rfl hcp ?_); (rfl))
      | (go_at_call 42; (with_reducible refine (cR _).mono ?_); rintro e w5 ⟨rfl, h9⟩; have HP := Lib.hid (HP.out.up h9); have qd : w5.cell? ⟨w2.heap.size, 1, none⟩ = some (.int .i64 d) := (vcells HP.out.p 1).trans rfl; have qk : w5.cell? ⟨w2.heap.size, 2, none⟩ = some (.int .u8 q.kind) := (vcells HP.out.p 2).trans rfl; clear h9))
    refine rr_end Tryz.results12 rfl rfl (?_); exact ⟨rfl, HP.out.cw.below⟩
set_option maxHeartbeats 4000000 in
set_option maxRecDepth 1000000 in
theorem Live_c (A : Option Addr) (H : List Ob) (cap : Nat) (n : Nat) (w : World) (hH : HIn w A H cap) (htab : TabHere w) (hm : mayH H = true) (hn : n < H.length) :
    Calls Tryz.prog 13 #[.agg #[.slice A H.length cap], .int .i64 (n : Int)] w fun e w' => e = .returned (.tuple #[.bool (liveN H n), .int .i64 0]) ∧ Below w.heap.size w w' := by
  have HC := Lib.hid (cw_start w A H.length cap)
  have cK : ∀ W, Below w.heap.size w W → Calls Tryz.prog 39 #[.agg #[.slice A H.length cap], .int .i64 (n : Int)] W fun e w' => e = .returned (.int .i64 0) ∧ Below W.heap.size W w' := fun W hb => by
    have := check_c A H cap n W (hH.up hb) (tab_up htab hb)
    rw [ck_ok hm hn] at this
    exact this
  have cF := fun W (hb : Below w.heap.size w W) => follow_c A H cap n W (hH.up hb) hm hn
  have hfew := hH.few
  clear cF
  have hliv : liveN H n = chLive H[n] := by unfold liveN; rw [List.getElem?_eq_getElem hn]
  rw [hliv]
  clear hliv
  have hca : ∃ a, A = some a ∧ ∀ W, Below w.heap.size w W → ∀ j u, (ocl H[n])[j]? = some u → W.cell? ((a.add (n * 18)).add j) = some u := by
    obtain ⟨a, h1, h2, h3, _⟩ := hH.at hn
    exact ⟨a, h1, fun W hb j u hu => (hb.cell (p := (a.add (n * 18)).add j) (by rw [add_blk]; exact h2)).trans (of_back h3 j u hu)⟩
  obtain ⟨a, rfl, hcl⟩ := hca
  have hqk : 0 ≤ H[n].target.k := (hH.inn _ (List.getElem_mem hn)).target.1
  have cR := fun W => live_c H[n] hqk W
  have hnz : (n : Int) < (H.length : Int) := by omega
  have hn0 : (0 : Int) ≤ (n : Int) := by omega
  generalize H[n] = q at *
  clear hH htab hm hqk
  go_enter Tryz.func13, Tryz.ntmps13
  go_wp2_with (first
    | ((with_reducible refine h1_ld ?_ rfl rfl HC.out.h ?_); (rfl))
    | (go_at_call 39; (with_reducible refine (cK _ HC.out.below).mono ?_); rintro e w1 ⟨rfl, h9⟩; have HC := Lib.hid (HC.out.up h9); have hq := HC.out.q; have hc := hcl _ HC.out.below; clear h9)
    | ((with_reducible refine oa_load ?_ rfl rfl hc ?_); (rfl))
    | (go_at_call 43; (with_reducible refine (cR _).mono ?_); rintro e w5 ⟨rfl, h9⟩; have HC := Lib.hid (HC.out.up h9); clear h9))
  refine rr_end Tryz.results13 rfl rfl (?_); exact ⟨rfl, HC.out.below⟩
end Go.Proofs.YtkcikdggfbjedaaGreatDoor.S
