/-
  ordinary: what a method changes: a field of an object among others.
-/
import Derived.Test.YtkcikdggfbjedaaGreatDoorCH27
import Derived.Test.YtkcikdggfbjedaaGreatDoorCH23
namespace Go.Proofs.YtkcikdggfbjedaaGreatDoor.S
open Go.RowKit Go.Lib Fl
open Classical

/-- the objects in block B are M now, all else that lay is as it was -/
structure Chg (w : World) (B : Nat) (M : List Ob) (W : World) : Prop where
  g : w.grownBy W (some B)
  b : W.heap[B]? = some (.cells (hcl M).toArray 64 (0, 0))
theorem Chg.up {w : World} {B : Nat} {M : List Ob} {W W' : World} (h : Chg w B M W) (hw : w.heap.size ≤ W.heap.size) (hb : Below W.heap.size W W') : Chg w B M W' :=
  ⟨⟨hb.os.trans h.g.os, hb.tape.trans h.g.tape, hb.output.trans h.g.output, Nat.le_trans h.g.size hb.size, fun k hk hn => (hb.block k (by omega)).trans (h.g.block k hk hn)⟩, vblkn hb h.b⟩
theorem of_hcl {W : World} {B k : Nat} {M : List Ob} {t : TypeId} (h : W.heap[B]? = some (.cells (hcl M).toArray t (0, 0))) (hk : k < M.length) : OF W ⟨B, k * 18, none⟩ M[k] := by
  obtain ⟨a, h1, h2, h3⟩ := orow_b h (by omega)
  obtain rfl := Option.some.inj h1
  have e : (⟨B, 0, none⟩ : Addr).add (k * 18) = ⟨B, k * 18, none⟩ := by rw [Addr.add_mid, Nat.zero_add]
  exact of_cells (lt_blk h) fun j u hu => by have := h3 k hk j u hu; rwa [e] at this
section
variable {ops : Array Oper} {rest : List Oper} {o : Oper} {a : Act} {w : World} {Q : Exit → Act → World → Prop} {x y : Operand} {t : TypeId}
/-- a value stored into a row -/
theorem vl_store {v : Vq} {g k : Nat} {cur : List Value} (hgd : o.guard = none) (ho : o.op = .store 48 x y) (hx : a.eval x = .pointer (some ⟨g, k, none⟩)) (hy : a.eval y = .agg #[.int .u8 v.k, .float .f64 v.x, .string v.s, .int .i64 v.r]) (hg : w.heap[g]? = some (.cells cur.toArray t (0, 0))) (hk : k + 4 ≤ cur.length)
    (h : ∀ W : World, W.heap[g]? = some (.cells (cur.take k ++ ([.int .u8 v.k, .float .f64 v.x, .string v.s, .int .i64 v.r] : List Value) ++ cur.drop (k + 4)).toArray t (0, 0)) → w.grownBy W (some g) → W.heap.size = w.heap.size → wpList Tryz.prog ops Q rest (a.put o.dst undef) W) : wpList Tryz.prog ops Q (o :: rest) a w := by
  refine wpList_plain hgd fun K hK => ?_
  have hst := run_storeCells_at Tryz.prog g k t ([.int .u8 v.k, .float .f64 v.x, .string v.s, .int .i64 v.r] : List Value) 0 cur.toArray w hg (by simpa using hk) (fun u hu => by have := vq_one v.k v.x v.s v.r; rw [Array.all_eq_true'] at this; exact this u (by simpa using hu))
  rw [Nat.add_zero] at hst
  have e := h (w.setRow g (cur.take k ++ ([.int .u8 v.k, .float .f64 v.x, .string v.s, .int .i64 v.r] : List Value) ++ cur.drop (k + 4)).toArray) (setRow_heap _ _ _ _ _ _ hg) ⟨rfl, rfl, rfl, by simp [World.setRow], fun j _ hj => setRow_other w g j _ (fun e => hj (by rw [e]))⟩ (by simp [World.setRow])
  have hrun : (storeVar 48 ⟨g, k, none⟩ (.agg #[.int .u8 v.k, .float .f64 v.x, .string v.s, .int .i64 v.r])).run Tryz.prog w = .ok () (w.setRow g (cur.take k ++ ([.int .u8 v.k, .float .f64 v.x, .string v.s, .int .i64 v.r] : List Value) ++ cur.drop (k + 4)).toArray) := by
    have hq := vsz4
    cases hq2 : Tryz.prog.info? 48 with
    | none => rw [hq2] at hq; simp at hq
    | some i =>
      have hs : 4 = i.size := by rw [hq2] at hq; simp at hq; omega
      simp [storeVar, sizeOf, typeInfo, hq2, Value.cells, ← hs]
      simpa using hst
  unfold Oper.wp execOp
  simp only [ho, hx, hy, Instr.storeAt, Instr.sureAddr, Sem.run_bind, Sem.run_pure, Result.andThen_ok, hrun]
  exact hK _ _ e
end
/-- an object that is closed; with another prototype -/
def Ob.shut (o : Ob) : Ob := { o with ext := false }
def Ob.under (o : Ob) (v : Vq) : Ob := { o with proto := v }
end Go.Proofs.YtkcikdggfbjedaaGreatDoor.S
/-
  chain: Revoke.
-/
namespace Go.Proofs.YtkcikdggfbjedaaGreatDoor.S
open Go.RowKit Go.Lib Fl
open Classical

theorem oszc (o : Ob) : (Tryz.prog.info? 64).map (·.size) = some (obA o).size := osz
theorem Mk.grow {w : World} {A : Option Addr} {n cap : Nat} {W W' : World} {g : Nat} (h : Mk w A n cap W) (hg : W.grownBy W' (some g)) (hl : w.heap.size + 2 ≤ g) : Mk w A n cap W' :=
  ⟨below_grow h.below hg (by omega) h.below.size, (hg.block _ (by have := h.size; omega) (by simp; omega)).trans h.h, h.r.imp fun _ e => (hg.block _ (by have := h.size; omega) (by simp; omega)).trans e⟩
theorem rv_set7 (o : Ob) : (ocl o).take 7 ++ ([.int .u8 vN.k, .float .f64 vN.x, .string vN.s, .int .i64 vN.r] : List Value) ++ (ocl o).drop (7 + 4) = ocl { o with target := vN } := rfl
theorem rv_set11 (o : Ob) : (ocl { o with target := vN }).take 11 ++ ([.int .u8 vN.k, .float .f64 vN.x, .string vN.s, .int .i64 vN.r] : List Value) ++ (ocl { o with target := vN }).drop (11 + 4) = ocl (chRv o) := rfl
theorem chRv_in {o : Ob} (h : o.In) : (chRv o).In := ⟨h.k0, h.k1, h.proto, ok_in2 vN_ok, ok_in2 vN_ok, h.text, h.props, h.room, h.cap63, h.nil⟩
set_option maxHeartbeats 8000000 in
set_option maxRecDepth 1000000 in
theorem Revoke_c (A : Option Addr) (H : List Ob) (cap n : Nat) (w : World) (hH : HIn w A H cap) (hp : ∀ o ∈ H, o.props.length ≤ 100000) (htab : TabHere w) (hm : mayH H = true) (hn : n < H.length) :
    Calls Tryz.prog 9 #[.agg #[.slice A H.length cap], .int .i64 (n : Int)] w fun e w' => Below w.heap.size w w' ∧ ((¬ H[n].kind = 6 ∧ e = .returned (.tuple #[.agg #[.slice none 0 0], .int .i64 2])) ∨
      (H[n].kind = 6 ∧ ∃ B M, e = .returned (.tuple #[.agg #[.slice (some ⟨B, 0, none⟩) H.length H.length], .int .i64 0]) ∧ Tw w.heap.size B (H.set n (chRv H[n])) M w')) := by
  have HN := Lib.hid (mk_start w A H.length cap)
  have hq := (vcells HN.out.h 0).trans rfl
  have cK : ∀ W, Below w.heap.size w W → Calls Tryz.prog 39 #[.agg #[.slice A H.length cap], .int .i64 (n : Int)] W fun e w' => e = .returned (.int .i64 0) ∧ Below W.heap.size W w' := fun W hb => by
    have := check_c A H cap n W (hH.up hb) (tab_up htab hb)
    rw [ck_ok hm hn] at this
    exact this
  have hi1 : ∀ v : Value, (Tryz.prog.info? 24).map (·.size) = some (#[v] : Array Value).size := fun v => hsz
  have hc1 : ∀ v : Value, v.oneCell' = true → (#[v] : Array Value).all (·.oneCell') = true := fun v h => cells_one (l := [v]) (by simpa using h)
  have hfew := hH.few
  have hnz : (n : Int) < (H.length : Int) := by omega
  have hn0 : (0 : Int) ≤ (n : Int) := by omega
  obtain ⟨q, hq0⟩ : ∃ q, q = H[n] := ⟨_, rfl⟩
  have hca : ∃ a, A = some a ∧ ∀ W, Below w.heap.size w W → ∀ j u, (ocl q)[j]? = some u → W.cell? ((a.add (n * 18)).add j) = some u := by
    obtain ⟨a, h1, h2, h3, _⟩ := hH.at hn
    rw [← hq0] at h3
    exact ⟨a, h1, fun W hb j u hu => (hb.cell (p := (a.add (n * 18)).add j) (by rw [add_blk]; exact h2)).trans (of_back h3 j u hu)⟩
  have cP : q.kind = 6 → ∀ W, Below w.heap.size w W → Calls Tryz.prog 40 #[.agg #[.slice A H.length cap], .int .i64 (n : Int), .agg (obA (chRv q))] W fun e w' => ∃ B M, e = .returned (.tuple #[.agg #[.slice (some ⟨B, 0, none⟩) H.length H.length], .int .i64 0]) ∧ Tw W.heap.size B (H.set n (chRv q)) M w' ∧ Below W.heap.size W w' := fun hk W hb => by
    have hqm : q ∈ H := by rw [hq0]; exact List.getElem_mem hn
    refine (Put_h A H cap n (chRv q) W (hH.up hb) hp (pr_up (by rw [hq0]; exact (hH.at hn).choose_spec.2.2.2) hb) (chRv_in (hH.inn q hqm)) (hp q hqm) (tab_up htab hb)).mono fun e w' ⟨h1, h2⟩ => ?_
    have hz : hpE H (n : Int) (chRv q) = 0 := by
      unfold hpE
      have h0 : orE (chkH H) (thE H (n : Int)) = 0 := ck_ok hm hn
      rw [if_pos h0, Int.toNat_natCast, hput_old H n _ hn]
      have := chRv_may hm hn (by rw [← hq0]; exact hk)
      rw [← hq0] at this
      exact chk_ok this
    rcases h2 with ⟨h3, _⟩ | ⟨_, B, M, h4, h5⟩
    · exact absurd hz h3
    · rw [Int.toNat_natCast, hput_old H n _ hn] at h5
      exact ⟨B, M, h4, h5, h1⟩
  have hl7 : 7 + 4 ≤ (ocl q).length := by show 7 + 4 ≤ 18; omega
  have hl11 : 11 + 4 ≤ (ocl { q with target := vN }).length := by show 11 + 4 ≤ 18; omega
  obtain ⟨a, rfl, hcl⟩ := hca
  rw [← hq0]
  clear hH hp htab hm hn hq0
  by_cases hk : q.kind = 6
  · have cP := cP hk
    have hkb : (q.kind != 6) = false := by rw [hk]; rfl
    have HK := Lib.hid hk
    clear hk
    go_enter Tryz.func9, Tryz.ntmps9
    go_wp2_with (first
      | (go_at_call 39; (with_reducible refine (cK _ HN.out.below).mono ?_); rintro e w1 ⟨rfl, h9⟩; have HN := Lib.hid (HN.out.up h9); have hq := (vcells HN.out.h 0).trans rfl; have hc := hcl _ HN.out.below; clear h9)
      | ((with_reducible refine h1_ld ?_ rfl rfl HN.out.h ?_); (rfl))
      | ((with_reducible refine oa_load ?_ rfl rfl hc ?_); (rfl))
      | ((with_reducible refine t_store (cs := obA q) rfl rfl rfl rfl (heap_alloc_new w1 _) (oszc q) ?_ (obA_one q) (vzero w1 _) (Nat.le_refl _) ?_); (rfl); intro W2 hb2 hW2 hO2 hz2; have hg := HN.out.size; have HN := Lib.hid (HN.out.up hb2); have qk : W2.cell? ⟨w1.heap.size, 0, none⟩ = some (.int .u8 q.kind) := (vcells hW2 0).trans rfl; clear hb2 hO2 hz2 hc)
      | ((with_reducible refine w_run ?_ (eb_n rfl) ?_); (rfl))
      | ((with_reducible refine vl_store (v := vN) (cur := ocl q) rfl rfl rfl rfl hW2 hl7 ?_); intro W3 hW3 hG3 hz3; rw [rv_set7] at hW3; have HN := Lib.hid (HN.out.grow hG3 hg))
      | ((with_reducible refine vl_store (v := vN) (cur := ocl { q with target := vN }) rfl rfl rfl rfl hW3 hl11 ?_); intro W4 hW4 hG4 hz4; rw [rv_set11] at hW4; have HN := Lib.hid (HN.out.grow hG4 hg))
      | ((with_reducible refine ob_load (ob := chRv q) ?_ rfl rfl hW4 ?_); (rfl))
      | (go_at_call 40; (with_reducible refine (cP _ HN.out.below).mono ?_); rintro e w5 ⟨B, M, rfl, hT, h9⟩; have hlt : w.heap.size + 1 < B := (by have := hT.le; have := HN.out.size; omega); have HT := Lib.hid (hT.mono HN.out.below.size); have HN := Lib.hid (HN.out.up h9); clear h9 hT)
      | ((with_reducible refine t_store rfl rfl rfl rfl HN.out.r.choose_spec (hi1 _) ?_ (hc1 _ rfl) HN.out.below (by omega) ?_); (rfl); intro W6 hb6 hW6 hO6 _))
    exact hput_end Tryz.results9 rfl rfl hW6 ⟨hb6, .inr ⟨HK.out, B, M, rfl, HT.out.other hO6 hlt⟩⟩
  · have hkb : (q.kind != 6) = true := by unfold bne; rw [beq_eq_false_iff_ne.2 hk]; rfl
    have HK := Lib.hid hk
    clear hk cP
    go_enter Tryz.func9, Tryz.ntmps9
    go_wp2_with (first
      | (go_at_call 39; (with_reducible refine (cK _ HN.out.below).mono ?_); rintro e w1 ⟨rfl, h9⟩; have HN := Lib.hid (HN.out.up h9); have hq := (vcells HN.out.h 0).trans rfl; have hc := hcl _ HN.out.below; clear h9)
      | ((with_reducible refine h1_ld ?_ rfl rfl HN.out.h ?_); (rfl))
      | ((with_reducible refine oa_load ?_ rfl rfl hc ?_); (rfl))
      | ((with_reducible refine t_store (cs := obA q) rfl rfl rfl rfl (heap_alloc_new w1 _) (oszc q) ?_ (obA_one q) (vzero w1 _) (Nat.le_refl _) ?_); (rfl); intro W2 hb2 hW2 hO2 hz2; have hg := HN.out.size; have HN := Lib.hid (HN.out.up hb2); have qk : W2.cell? ⟨w1.heap.size, 0, none⟩ = some (.int .u8 q.kind) := (vcells hW2 0).trans rfl; clear hb2 hO2 hz2 hc)
      | ((with_reducible refine t_store rfl rfl rfl rfl HN.out.r.choose_spec (hi1 _) ?_ (hc1 _ rfl) HN.out.below (by omega) ?_); (rfl); intro W6 hb6 hW6 hO6 _))
    exact hput_end Tryz.results9 rfl rfl hW6 ⟨hb6, .inl ⟨HK.out, rfl⟩⟩
end Go.Proofs.YtkcikdggfbjedaaGreatDoor.S
/-
  chain's functions, of a heap that lies somewhere, told but for where its properties lie.
-/
namespace Go.Proofs.YtkcikdggfbjedaaGreatDoor.S
open Go.RowKit Go.Lib Fl
open Classical

theorem thE_bare {H M : List Ob} (h : M.map Ob.bare = H.map Ob.bare) (n : Int) : thE M n = thE H n := by unfold thE; rw [len_bare h]
theorem ckE_bare {H M : List Ob} (h : M.map Ob.bare = H.map Ob.bare) (n : Int) : ckE M n = ckE H n := by unfold ckE; rw [chkH_like h, thE_bare h]
theorem get_bare {H M : List Ob} (h : M.map Ob.bare = H.map Ob.bare) (n : Nat) : (M[n]? = none ∧ H[n]? = none) ∨ ∃ p o, M[n]? = some p ∧ H[n]? = some o ∧ p.bare = o.bare := by
  have := congrArg (fun l => l[n]?) h
  (try dsimp only at this)
  rw [getB, getB] at this
  cases e1 : M[n]? with
  | none =>
    cases e2 : H[n]? with
    | none => exact .inl ⟨rfl, rfl⟩
    | some o => rw [e1, e2] at this; cases this
  | some p =>
    cases e2 : H[n]? with
    | none => rw [e1, e2] at this; cases this
    | some o =>
      rw [e1, e2] at this
      exact .inr ⟨p, o, rfl, rfl, Option.some.inj this⟩
theorem goneN_bare {H M : List Ob} (h : M.map Ob.bare = H.map Ob.bare) (n : Int) : goneN M n = goneN H n := by
  unfold goneN
  rcases get_bare h n.toNat with ⟨e1, e2⟩ | ⟨p, o, e1, e2, e⟩
  · rw [e1, e2]
  · rw [e1, e2]; exact (gone_bare e).1
theorem liveN_bare {H M : List Ob} (h : M.map Ob.bare = H.map Ob.bare) (n : Nat) : liveN M n = liveN H n := by
  unfold liveN
  rcases get_bare h n with ⟨e1, e2⟩ | ⟨p, o, e1, e2, e⟩
  · rw [e1, e2]
  · rw [e1, e2]; exact (gone_bare e).2.1
theorem arrN_bare {H M : List Ob} (h : M.map Ob.bare = H.map Ob.bare) (n : Nat) : arrN M n = arrN H n := by
  unfold arrN
  rcases get_bare h n with ⟨e1, e2⟩ | ⟨p, o, e1, e2, e⟩
  · rw [e1, e2]
  · rw [e1, e2]; show (p.kind == 2) = (o.kind == 2); rw [(gone_bare e).2.2]
theorem mkE_bare {H M : List Ob} (h : M.map Ob.bare = H.map Ob.bare) (t g : Int) : mkE M t g = mkE H t g := by
  unfold mkE
  rw [ckE_bare h, thE_bare h, goneN_bare h, goneN_bare h, len_bare h]
theorem mk_zero {H : List Ob} {t g : Int} (h : mkE H t g = 0) : mayH H = true ∧ inZ H t ∧ inZ H g ∧ goneN H t = false ∧ goneN H g = false ∧ H.length ≠ 4096 := by
  unfold mkE at h
  by_cases c : orE (ckE H t) (thE H g) = 0
  · rw [if_pos c] at h
    obtain ⟨h1, h2⟩ := orE_zero c
    obtain ⟨h3, h4⟩ := ck_zero h1
    by_cases d : goneN H t = true ∨ goneN H g = true
    · rw [if_pos d] at h; exact absurd h (by decide)
    · rw [if_neg d] at h
      by_cases e : H.length = 4096
      · rw [if_pos e] at h; exact absurd h (by decide)
      · refine ⟨h3, h4, th_zero h2, ?_, ?_, e⟩
        · cases x : goneN H t with | false => rfl | true => exact absurd (.inl x) d
        · cases x : goneN H g with | false => rfl | true => exact absurd (.inr x) d
  · rw [if_neg c] at h; exact absurd h c
theorem mk_ok {H : List Ob} {t g : Nat} (hm : mayH H = true) (ht : t < H.length) (hg : g < H.length) (h1 : goneN H t = false) (h2 : goneN H g = false) : mkE H (t : Int) (g : Int) = if H.length = 4096 then 4 else 0 := by
  unfold mkE
  rw [ck_ok hm ht, th_ok hg, if_pos (by unfold orE; rfl), if_neg (by rw [h1, h2]; simp)]
theorem Make_p {A : Option Addr} {H : List Ob} {cap : Nat} (t g : Int) {w : World} (hH : Hp w A H cap) (hf : H.length < 5000) (htab : TabHere w) :
    Calls Tryz.prog 14 #[.agg #[.slice A H.length cap], .int .i64 t, .int .i64 g] w fun e w' => Below w.heap.size w w' ∧ ((mkE H t g ≠ 0 ∧ e = .returned (.tuple #[.agg #[.slice none 0 0], .int .i64 0, .int .i64 (mkE H t g)])) ∨
      (mkE H t g = 0 ∧ ∃ B, e = .returned (.tuple #[.agg #[.slice (some ⟨B, 0, none⟩) (H.length + 1) (H.length + 1)], .int .i64 H.length, .int .i64 0]) ∧ w.heap.size ≤ B ∧ Ht B (H ++ [chObj H t.toNat g.toNat]) (H.length + 1) w')) := by
  obtain ⟨M, h1, h2, h3⟩ := hH.m
  have := Make_c A M cap t g w h2 h3 htab
  rw [len_bare h1] at this
  refine this.mono fun e w' ⟨hb, h⟩ => ⟨hb, ?_⟩
  rw [mkE_bare h1, len_bare h1] at h
  rcases h with h | ⟨hz, B, M2, he, hT⟩
  · exact .inl h
  · obtain ⟨_, ht, hg, _⟩ := mk_zero hz
    unfold inZ at ht hg
    have hlen := len_bare h1
    refine .inr ⟨hz, B, he, hT.le, ⟨_, _, _, hT, ?_, ?_, ?_, ?_, by rw [List.length_append]; rfl⟩⟩
    · rw [List.map_append, List.map_append, h1]
      simp only [List.map_cons, List.map_nil]
      rw [chObj_bare h1]
    · intro o ho
      rcases List.mem_append.1 ho with ho | ho
      · exact h2.inn o ho
      · rw [List.mem_singleton.1 ho]; exact chObj_in M (by omega) (by omega)
    · rw [List.length_append]; simp; omega
    · intro o ho
      rcases List.mem_append.1 ho with ho | ho
      · exact h3 o ho
      · rw [List.mem_singleton.1 ho]; exact Nat.zero_le _
theorem Revoke_p {A : Option Addr} {H : List Ob} {cap : Nat} (n : Nat) {w : World} (hH : Hp w A H cap) (htab : TabHere w) (hm : mayH H = true) (hn : n < H.length) :
    Calls Tryz.prog 9 #[.agg #[.slice A H.length cap], .int .i64 (n : Int)] w fun e w' => Below w.heap.size w w' ∧ ((¬ H[n].kind = 6 ∧ e = .returned (.tuple #[.agg #[.slice none 0 0], .int .i64 2])) ∨
      (H[n].kind = 6 ∧ ∃ B, e = .returned (.tuple #[.agg #[.slice (some ⟨B, 0, none⟩) H.length H.length], .int .i64 0]) ∧ w.heap.size ≤ B ∧ Ht B (H.set n (chRv H[n])) H.length w')) := by
  obtain ⟨M, h1, h2, h3⟩ := hH.m
  have hlen := len_bare h1
  have hnM : n < M.length := by omega
  have e := bare_at h1 n hnM hn
  have hk : M[n].kind = H[n].kind := (gone_bare e).2.2
  have := Revoke_c A M cap n w h2 h3 htab (by rw [mayH_like h1]; exact hm) hnM
  rw [hlen] at this
  refine this.mono fun e9 w' ⟨hb, h⟩ => ⟨hb, ?_⟩
  rw [hk] at h
  rcases h with h | ⟨hz, B, M2, he, hT⟩
  · exact .inl h
  · refine .inr ⟨hz, B, he, hT.le, ⟨_, _, _, hT, ?_, ?_, ?_, ?_, by rw [List.length_set]⟩⟩
    · rw [List.map_set, List.map_set, h1]
      congr 1
      have k1 := congrArg chRv e
      exact k1
    · intro o ho
      rcases List.mem_or_eq_of_mem_set ho with ho | ho
      · exact h2.inn o ho
      · rw [ho]; exact chRv_in (h2.inn _ (List.getElem_mem hnM))
    · rw [List.length_set]; exact h2.few
    · intro o ho
      rcases List.mem_or_eq_of_mem_set ho with ho | ho
      · exact h3 o ho
      · rw [ho]; exact h3 M[n] (List.getElem_mem hnM)
theorem Deep_p {A : Option Addr} {H : List Ob} {cap : Nat} (n : Nat) {w : World} (hH : Hp w A H cap) (htab : TabHere w) (hm : mayH H = true) (hn : n < H.length) :
    Calls Tryz.prog 16 #[.agg #[.slice A H.length cap], .int .i64 (n : Int)] w fun e w' => e = .returned (.tuple #[.int .i64 (chDeep H n : Int), .int .i64 0]) ∧ Below w.heap.size w w' := by
  obtain ⟨M, h1, h2, _⟩ := hH.m
  have := Deep_c A M cap n w h2 htab (by rw [mayH_like h1]; exact hm) (by rw [len_bare h1]; exact hn)
  rw [len_bare h1, chDeep_bare h1] at this
  exact this
theorem Down_p {A : Option Addr} {H : List Ob} {cap : Nat} (n : Nat) {w : World} (hH : Hp w A H cap) (htab : TabHere w) (hm : mayH H = true) (hn : n < H.length) :
    Calls Tryz.prog 11 #[.agg #[.slice A H.length cap], .int .i64 (n : Int)] w fun e w' => ∃ (P : Option Addr) (pc : Nat), e = .returned (.tuple #[.slice P (chDn H n).length pc, .bool (chCut H n), .int .i64 0]) ∧ IRow w' P (upZ (chDn H n)) ∧ Below w.heap.size w w' := by
  obtain ⟨M, h1, h2, _⟩ := hH.m
  have := Down_c A M cap n w h2 htab (by rw [mayH_like h1]; exact hm) (by rw [len_bare h1]; exact hn)
  rw [len_bare h1, chDn_like (chNext_like h1), chCut_bare h1] at this
  exact this
theorem IsArray_p {A : Option Addr} {H : List Ob} {cap : Nat} (n : Nat) {w : World} (hH : Hp w A H cap) (htab : TabHere w) (hm : mayH H = true) (hn : n < H.length) :
    Calls Tryz.prog 12 #[.agg #[.slice A H.length cap], .int .i64 (n : Int)] w fun e w' => e = .returned (.tuple #[.bool (if chCut H n = true ∨ 64 < chDeep H n then false else arrN H (chEnd H n)), .int .i64 (if chCut H n = true ∨ 64 < chDeep H n then 140 else 0)]) ∧ Below w.heap.size w w' := by
  obtain ⟨M, h1, h2, _⟩ := hH.m
  have := IsArray_c A M cap n w h2 htab (by rw [mayH_like h1]; exact hm) (by rw [len_bare h1]; exact hn)
  rw [len_bare h1, chDeep_bare h1, chCut_bare h1, chEnd_like (chNext_like h1), arrN_bare h1] at this
  exact this
theorem Live_p {A : Option Addr} {H : List Ob} {cap : Nat} (n : Nat) {w : World} (hH : Hp w A H cap) (htab : TabHere w) (hm : mayH H = true) (hn : n < H.length) :
    Calls Tryz.prog 13 #[.agg #[.slice A H.length cap], .int .i64 (n : Int)] w fun e w' => e = .returned (.tuple #[.bool (liveN H n), .int .i64 0]) ∧ Below w.heap.size w w' := by
  obtain ⟨M, h1, h2, _⟩ := hH.m
  have := Live_c A M cap n w h2 htab (by rw [mayH_like h1]; exact hm) (by rw [len_bare h1]; exact hn)
  rw [len_bare h1, liveN_bare h1] at this
  exact this
/-- two plain objects, and proxies of them -/
def oC : Ob := ⟨1, vN, true, none, 0, [], v0, v0, ⟨#[]⟩, false, false⟩
def C2 : List Ob := [oC, oC]
def C3 : List Ob := C2 ++ [chObj C2 0 1]
def C4 : List Ob := C3 ++ [chObj C3 2 0]
theorem oC_in : oC.In := ⟨(by show (0 : Int) ≤ 1; decide), (by show (1 : Int) < 256; decide), ok_in2 vN_ok, ok_in2 v0_ok, ok_in2 v0_ok, (by show 0 ≤ maxLen; unfold maxLen; omega), (fun p hp => by cases hp), Nat.le_refl _, (by show 0 < 9223372036854775808; decide), fun _ => rfl⟩
theorem may_oC (n : Nat) : mayB C2 oC n = true := by
  unfold mayB
  have h1 : chkT oC.props = 0 := chkT_ok.2 ⟨(by show 0 ≤ 1024; omega), (fun _ h => by cases h), List.Pairwise.nil⟩
  have h2 : (valsO oC).all (holdsB C2) = true := by
    rw [List.all_eq_true]
    intro v hv
    have : v = vN ∨ v = v0 := by
      simp [valsO, oC] at hv
      rcases hv with h | h <;> simp [h]
    rcases this with rfl | rfl
    · exact hold_n vN_ok rfl
    · exact hold_n v0_ok rfl
  have h3 : fitsB C2 oC n = true := by kernel_rfl
  rw [h1, h2, h3]; rfl
theorem mayC2 : mayH C2 = true := mayH_iff.2 ⟨(by show 2 ≤ 4096; decide), fun i hi => by
  match i, hi with
  | 0, _ => exact may_oC 0
  | 1, _ => exact may_oC 1
  | n + 2, h => exact absurd h (by simp [C2]), by kernel_rfl⟩
theorem mayC3 : mayH C3 = true := chMake_may mayC2 (by decide) (by decide) (by decide)
theorem mayC4 : mayH C4 = true := chMake_may mayC3 (by decide) (by decide) (by decide)
end Go.Proofs.YtkcikdggfbjedaaGreatDoor.S
/-
  The law's own (14): two, four, alive.
-/
namespace Go.Proofs.YtkcikdggfbjedaaGreatDoor.S
open Go.RowKit Go.Lib Fl
open Classical

set_option maxRecDepth 100000 in
theorem rb_c (w : World) : (Instr.build 64 #[(0, .int .u8 1), (1, vN.val), (2, .bool true)]).run Tryz.prog w = .ok (.agg (obA oC)) w := by kernel_rfl
set_option maxRecDepth 100000 in
theorem rb_s2 (w : World) : (Instr.buildSlice 22 2 #[(0, .agg (obA oC)), (1, .agg (obA oC))]).run Tryz.prog w = .ok (.slice (some ⟨w.heap.size, 0, none⟩) 2 2) (w.alloc (.cells (hcl C2).toArray 64)) := by kernel_rfl
section
variable {ops : Array Oper} {o : Oper} {a : Act} {w : World} {x y : Operand}
theorem eb_c (ho : o.op = .build 64 #[(0, .const (.int .u8 1)), (1, x), (2, .const (.bool true))]) (hx : a.eval x = vN.val) : (execOp a.eval o).run Tryz.prog w = .ok (.value (.agg (obA oC))) w := by
  unfold execOp
  have hc : ∀ v, a.eval (.const v) = v := fun _ => rfl
  simp only [ho, List.map_toArray, List.map_cons, List.map_nil, hc, hx, rb_c, Sem.run_bind, Sem.run_pure, Result.andThen_ok]
theorem eb_s2 (ho : o.op = .buildSlice 22 2 #[(0, x), (1, y)]) (hx : a.eval x = .agg (obA oC)) (hy : a.eval y = .agg (obA oC)) : (execOp a.eval o).run Tryz.prog w = .ok (.value (.slice (some ⟨w.heap.size, 0, none⟩) 2 2)) (w.alloc (.cells (hcl C2).toArray 64)) := by
  unfold execOp
  simp only [ho, List.map_toArray, List.map_cons, List.map_nil, hx, hy, rb_s2, Sem.run_bind, Sem.run_pure, Result.andThen_ok]
end
theorem hp_two {w : World} {B : Nat} (hb : w.heap[B]? = some (.cells (hcl C2).toArray 64 (0, 0))) : Hp w (some ⟨B, 0, none⟩) C2 2 := by
  have hin : ∀ o ∈ C2, o = oC := fun o ho => by simp [C2] at ho; exact ho
  refine ⟨C2, rfl, ⟨fun o ho => by rw [hin o ho]; exact oC_in, fun _ => ⟨_, rfl, lt_blk hb, fun i hi => ⟨?_, by rw [hin _ (List.getElem_mem hi)]; exact pr_nil⟩⟩, by show 2 ≤ 5000; omega, fun o ho => by rw [hin o ho]; show 0 < 1000000000000; omega, by show 2 ≤ 2; omega, by omega, fun h => by cases h⟩, fun o ho => by rw [hin o ho]; exact Nat.zero_le _⟩
  have := of_hcl hb hi
  rw [show (⟨B, 0, none⟩ : Addr).add (i * 18) = ⟨B, i * 18, none⟩ from by rw [Addr.add_mid, Nat.zero_add]]
  exact this
def LeftC (H : List Ob) (n : Nat) (w : World) (e : Ending) (w' : World) : Prop := ∃ B, e = .returned (.agg #[.slice (some ⟨B, 0, none⟩) n n]) ∧ Hp w' (some ⟨B, 0, none⟩) H n ∧ Below w.heap.size w w'
set_option maxHeartbeats 1000000 in
set_option maxRecDepth 100000 in
theorem two_c (w : World) : Calls Tryz.prog 15 #[] w (LeftC C2 2 w) := by
  have hsz1 : ∀ v : Value, (Tryz.prog.info? 24).map (·.size) = some (#[v] : Array Value).size := fun v => hsz
  obtain ⟨b1, b2⟩ := vblk2 (w := w) (Below.refl _ ((w.alloc (.cells #[.slice none 0 0] 24)).alloc (.cells ozA 64)))
  have hB : Below w.heap.size w ((w.alloc (.cells #[.slice none 0 0] 24)).alloc (.cells ozA 64)) := vafter (vzero _ _)
  go_enter Tryz.func15, Tryz.ntmps15
  go_wp2_with (first
    | ((with_reducible refine w_run ?_ (eb_n rfl) ?_); (rfl))
    | ((with_reducible refine w_run ?_ (eb_c rfl rfl) ?_); (rfl))
    | ((with_reducible refine t_store (cs := obA oC) rfl rfl rfl rfl b2 (oszc oC) ?_ (obA_one oC) hB (by omega) ?_); (rfl); intro W1 hb1 hW1 hO1 hz1; have hr := (hO1 w.heap.size (by omega)).trans b1; clear hO1 hz1)
    | ((with_reducible refine ob_load ?_ rfl rfl hW1 ?_); (rfl))
    | ((with_reducible refine w_run ?_ (eb_s2 rfl rfl rfl) ?_); (rfl))
    | ((with_reducible refine w_run ?_ (eb_h rfl rfl) ?_); (rfl))
    | (refine t_store (cs := #[.slice (some ⟨W1.heap.size, 0, none⟩) 2 2]) rfl rfl rfl rfl (vblkn (vzero W1 _) hr) (hsz1 _) rfl (cells_one (l := [.slice (some ⟨W1.heap.size, 0, none⟩) 2 2]) rfl) (vb hb1 (vzero _ _)) (Nat.le_refl _) ?_; intro W5 hb5 hW5 hO5 hz5))
  have hlt := lt_blk hr
  exact h_end Tryz.results15 rfl hW5 ⟨_, rfl, hp_two ((hO5 W1.heap.size (by omega)).trans (heap_alloc_new W1 _)), hb5⟩
theorem Make_y {A : Option Addr} {H : List Ob} (t g : Nat) {n : Nat} {w : World} (hH : Hp w A H n) (hn : H.length = n) (htab : TabHere w) (hm : mayH H = true) (ht : t < H.length) (hg : g < H.length) (h1 : goneN H t = false) (h2 : goneN H g = false) (hf : H.length < 4096) :
    Calls Tryz.prog 14 #[.agg #[.slice A n n], .int .i64 (t : Int), .int .i64 (g : Int)] w fun e w' => ∃ B, e = .returned (.tuple #[.agg #[.slice (some ⟨B, 0, none⟩) (n + 1) (n + 1)], .int .i64 (n : Int), .int .i64 0]) ∧ w.heap.size ≤ B ∧ Ht B (H ++ [chObj H t g]) (n + 1) w' ∧ Below w.heap.size w w' := by
  have hz := mk_ok hm ht hg h1 h2
  rw [if_neg (by omega)] at hz
  have := Make_p (t : Int) (g : Int) hH (by omega) htab
  rw [hn] at this
  refine this.mono fun e w' ⟨hb, h⟩ => ?_
  rcases h with ⟨h, _⟩ | ⟨_, B, h3, h4, h5⟩
  · exact absurd hz h
  · rw [Int.toNat_natCast, Int.toNat_natCast] at h5
    exact ⟨B, h3, h4, h5, hb⟩
set_option maxHeartbeats 1000000 in
set_option maxRecDepth 100000 in
theorem four_c (w : World) (htab : TabHere w) : Calls Tryz.prog 10 #[] w (LeftC C4 4 w) := by
  have hsz1 : ∀ v : Value, (Tryz.prog.info? 24).map (·.size) = some (#[v] : Array Value).size := fun v => hsz
  have hc1 : ∀ v : Value, v.oneCell' = true → (#[v] : Array Value).all (·.oneCell') = true := fun v h => cells_one (l := [v]) (by simpa using h)
  have hr := heap_alloc_new w (.cells #[.slice none 0 0] 24)
  have hB := vzero w (.cells #[.slice none 0 0] 24)
  have c2 := fun W => two_c W
  have cM3 : ∀ W B, Below w.heap.size w W → Hp W (some ⟨B, 0, none⟩) C2 2 → Calls Tryz.prog 14 #[.agg #[.slice (some ⟨B, 0, none⟩) 2 2], .int .i64 0, .int .i64 1] W fun e w' => ∃ B, e = .returned (.tuple #[.agg #[.slice (some ⟨B, 0, none⟩) 3 3], .int .i64 2, .int .i64 0]) ∧ W.heap.size ≤ B ∧ Ht B C3 3 w' ∧ Below W.heap.size W w' := fun W B hb hH => Make_y 0 1 hH rfl (tab_up htab hb) mayC2 (by decide) (by decide) rfl rfl (by decide)
  have cM4 : ∀ W B, Below w.heap.size w W → Hp W (some ⟨B, 0, none⟩) C3 3 → Calls Tryz.prog 14 #[.agg #[.slice (some ⟨B, 0, none⟩) 3 3], .int .i64 2, .int .i64 0] W fun e w' => ∃ B, e = .returned (.tuple #[.agg #[.slice (some ⟨B, 0, none⟩) 4 4], .int .i64 3, .int .i64 0]) ∧ W.heap.size ≤ B ∧ Ht B C4 4 w' ∧ Below W.heap.size W w' := fun W B hb hH => Make_y 2 0 hH rfl (tab_up htab hb) mayC3 (by decide) (by decide) rfl rfl (by decide)
  go_enter Tryz.func10, Tryz.ntmps10
  go_wp2_with (first
    | (go_at_call 15; (with_reducible refine (c2 _).mono ?_); rintro e w1 ⟨B, rfl, hH, h9⟩; have hr := vblkn h9 hr; have hB := vb hB h9; have HH := Lib.hid hH; clear h9 hH)
    | (go_at_call 14; (with_reducible refine (cM3 _ _ hB HH.out).mono ?_); rintro e w2 ⟨B3, rfl, _, hH, h9⟩; have hr := vblkn h9 hr; have hB := vb hB h9; have H3 := Lib.hid hH; clear h9 hH HH)
    | ((with_reducible refine t_store (cs := #[.slice (some ⟨B3, 0, none⟩) 3 3]) rfl rfl rfl rfl (heap_alloc_new w2 _) (hsz1 _) ?_ (hc1 _ rfl) (vzero w2 _) (Nat.le_refl _) ?_); (rfl); intro W3 hb3 hW3 hO3 hz3; have hg2 := hB.size; have hlt0 := lt_blk hr; have hr := vblkn hb3 hr; have hB := vb hB hb3; have H3 := Lib.hid (H3.out.up hb3); clear hb3 hO3 hz3)
    | ((with_reducible refine h1_ld ?_ rfl rfl hW3 ?_); (rfl))
    | (go_at_call 14; (with_reducible refine (cM4 _ _ hB H3.out.hp).mono ?_); rintro e w4 ⟨B4, rfl, hle, hH, h9⟩; have hr := vblkn h9 hr; have hB := vb hB h9; have H4 := Lib.hid hH; have hlt := lt_blk hW3; have hW4 := vblkn h9 hW3; clear h9 hH H3)
    | ((with_reducible refine t_store (cs := #[.slice (some ⟨B4, 0, none⟩) 4 4]) rfl rfl rfl rfl hW4 (hsz1 _) ?_ (hc1 _ rfl) hB hg2 ?_); (rfl); intro W5 hb5 hW5 hO5 hz5; have hr := (hO5 w.heap.size (by omega)).trans hr; have H4 := Lib.hid (H4.out.other hO5 (by omega)); clear hO5 hz5)
    | ((with_reducible refine h1_ld ?_ rfl rfl hW5 ?_); (rfl))
    | ((with_reducible refine t_store (cs := #[.slice (some ⟨B4, 0, none⟩) 4 4]) rfl rfl rfl rfl hr (hsz1 _) ?_ (hc1 _ rfl) hb5 (Nat.le_refl _) ?_); (rfl); intro W6 hb6 hW6 hO6 hz6))
  exact h_end Tryz.results10 rfl hW6 ⟨_, rfl, (H4.out.other hO6 (by omega)).hp, hb6⟩
theorem addr_zero (a : Addr) : a.add 0 = a := by simp [Addr.add]
theorem addr_one (a : Addr) : a.add 1 = ⟨a.block, a.off + 1, none⟩ := by simp [Addr.add]
theorem dn4 : chDn C4 3 = [2, 0] := by kernel_rfl
theorem cut4 : chCut C4 3 = false := by kernel_rfl
theorem deep4 : chDeep C4 3 = 2 := by kernel_rfl
set_option maxHeartbeats 1000000 in
set_option maxRecDepth 100000 in
theorem chalive_any (w : World) (htab : TabHere w) : Calls Tryz.prog 17 #[] w fun e w' => e = .returned (.bool true) ∧ Below w.heap.size w w' := by
  have c4 := fun W (hb : Below w.heap.size w W) => four_c W (tab_up htab hb)
  have cD : ∀ W B, Below w.heap.size w W → Hp W (some ⟨B, 0, none⟩) C4 4 → Calls Tryz.prog 11 #[.agg #[.slice (some ⟨B, 0, none⟩) 4 4], .int .i64 3] W fun e w' => ∃ (P : Option Addr) (pc : Nat), e = .returned (.tuple #[.slice P 2 pc, .bool false, .int .i64 0]) ∧ IRow w' P [2, 0] ∧ Below W.heap.size W w' := fun W B hb hH => by
    have := Down_p 3 hH (tab_up htab hb) mayC4 (by decide)
    rw [dn4, cut4] at this
    exact this
  have cE : ∀ W B, Below w.heap.size w W → Hp W (some ⟨B, 0, none⟩) C4 4 → Calls Tryz.prog 16 #[.agg #[.slice (some ⟨B, 0, none⟩) 4 4], .int .i64 3] W fun e w' => e = .returned (.tuple #[.int .i64 2, .int .i64 0]) ∧ Below W.heap.size W w' := fun W B hb hH => by
    have := Deep_p 3 hH (tab_up htab hb) mayC4 (by decide)
    rw [deep4] at this
    exact this
  have hB := Below.refl w.heap.size w
  clear htab
  go_enter Tryz.func17, Tryz.ntmps17
  go_upto_region 2 with (first
    | (go_at_call 10; (with_reducible refine (c4 _ hB).mono ?_); rintro e w1 ⟨B, rfl, hH, h9⟩; have hB := vb hB h9; have HH := Lib.hid hH; clear h9 hH)
    | (go_at_call 11; (with_reducible refine (cD _ _ hB HH.out).mono ?_); rintro e w2 ⟨P, pc, rfl, hI, h9⟩; have hB := vb hB h9; have HI := Lib.hid hI; clear h9 hI HH))
  go_wp2_with (first
    | (go_at_call 10; (with_reducible refine (c4 _ hB).mono ?_); rintro e w3 ⟨B, rfl, hH, h9⟩; have hB := vb hB h9; have HH := Lib.hid hH; have HI := Lib.hid (irow_up HI.out h9); clear h9 hH)
    | (go_at_call 16; (with_reducible refine (cE _ _ hB HH.out).mono ?_); rintro e w4 ⟨rfl, h9⟩; have hB := vb hB h9; obtain ⟨a, rfl, hab, hcl⟩ := irow_up HI.out h9 (by decide); have q0 : w4.cell? (a.add 0) = some (.int .i64 2) := hcl 0 (by decide); have q1 : w4.cell? (a.add 1) = some (.int .i64 0) := hcl 1 (by decide); have q2 := q0; rw [addr_zero] at q2; rw [addr_one] at q1; clear h9 HH hcl))
  go_ret
  exact ⟨rfl, hB⟩
end Go.Proofs.YtkcikdggfbjedaaGreatDoor.S
/-
  The law's own (14): large.
-/
namespace Go.Proofs.YtkcikdggfbjedaaGreatDoor.S
open Go.RowKit Go.Lib Fl
open Classical


set_option maxRecDepth 100000 in
theorem ch_many (A : Option Addr) (n cap : Nat) (w : World) (h : (120 < n ∧ n ≤ 4096) ∨ 5000 < n) : Calls Tryz.prog 18 #[.agg #[.slice A n cap]] w fun e w' => e = .returned (.bool true) ∧ Below w.heap.size w w' := by
  have q0 : (w.alloc (.cells #[.slice A n cap] 24)).cell? ⟨w.heap.size, 0, none⟩ = some (.slice A n cap) := (vcells (heap_alloc_new w _) 0).trans rfl
  have h60 : (120 : Int) < (n : Int) := by omega
  by_cases c : (n : Int) ≤ 4096
  · go_enter Tryz.func18, Tryz.ntmps18
    go_wp2
    go_ret
    exact ⟨rfl, vzero _ _⟩
  · have h5 : (5000 : Int) < (n : Int) := by omega
    go_enter Tryz.func18, Tryz.ntmps18
    go_wp2
    go_ret
    exact ⟨rfl, vzero _ _⟩
set_option maxHeartbeats 4000000 in
set_option maxRecDepth 100000 in
theorem ch_few (A : Option Addr) (H : List Ob) (cap : Nat) (w : World) (hH : HRow w A H) (h : ¬ ((120 < H.length ∧ H.length ≤ 4096) ∨ 5000 < H.length)) : Calls Tryz.prog 18 #[.agg #[.slice A H.length cap]] w fun e w' => e = .returned (.bool (largeB H)) ∧ Below w.heap.size w w' := by
  have q0 : (w.alloc (.cells #[.slice A H.length cap] 24)).cell? ⟨w.heap.size, 0, none⟩ = some (.slice A H.length cap) := (vcells (heap_alloc_new w _) 0).trans rfl
  have HS := Lib.hid (Lg.mk (A := A) (n := H.length) (cap := cap) (vzero w _) (heap_alloc_new w _))
  have hcase : (H.length : Int) ≤ 120 ∨ (120 < (H.length : Int) ∧ 4096 < (H.length : Int) ∧ (H.length : Int) ≤ 5000) := by omega
  have HH := Lib.hid hH
  clear hH h
  rcases hcase with c1 | ⟨c1, c2, c3⟩
  all_goals
    go_enter Tryz.func18, Tryz.ntmps18
    go_wp2
    go_loopg [3] H.length (fun kx s3 wr => ∃ i : Nat, s3 = .int .i64 i ∧ i + kx = H.length ∧ Hid (Lg w A H.length cap wr ∧ ∀ j (hj : j < H.length), j < i → ¬ 100 < H[j].props.length))
    case atStart => exact ⟨0, rfl, by omega, Lib.hid ⟨HS.out, fun j _ h => absurd h (Nat.not_lt_zero j)⟩⟩
    case round =>
      obtain ⟨i, rfl, hik, HR⟩ := hrel
      have q5 : wr.cell? ⟨w.heap.size, 0, none⟩ = some (.slice A H.length cap) := (vcells HR.out.1.h 0).trans rfl
      have HY := Lib.hid HR.out.1
      cases gk with
      | zero =>
        obtain rfl : i = H.length := by omega
        have hno := large_no fun j hj => HR.out.2 j hj hj
        go_wp2
        go_ret
        exact ⟨by rw [hno]; rfl, HY.out.below⟩
      | succ kx =>
        have hlt : i < H.length := by omega
        have hlz : (i : Int) < (H.length : Int) := by omega
        have hl0 : (0 : Int) ≤ (i : Int) := by omega
        obtain ⟨a, rfl, hab, hall⟩ := hrow_up HH.out HY.out.below (by omega)
        have hof := (hall i hlt).1
        clear hall
        have hc := hof.props
        have HL : Hid (∀ n, n = H[i].props.length → (100 < n → largeB H = true) ∧ (¬ 100 < n → ∀ j (hj : j < H.length), j < i + 1 → ¬ 100 < H[j].props.length)) := Lib.hid fun n hn => ⟨fun e => large_at hlt (hn ▸ e), fun e j hj hji => by
          by_cases c : j < i
          · exact HR.out.2 j hj c
          · obtain rfl : j = i := by omega
            rw [← hn]; exact e⟩
        clear hof
        generalize hN : H[i].props.length = N at *
        by_cases hb : (100 : Int) < (N : Int)
        · go_wp2
          go_ret
          exact ⟨by rw [(HL.out N rfl).1 (by omega)] <;> rfl, HY.out.below⟩
        · go_wp2
          go_roundg kx
          case measure => omega
          case rel => exact ⟨i + 1, by congr 1, by omega, Lib.hid ⟨HY.out, (HL.out N rfl).2 (by omega)⟩⟩
end Go.Proofs.YtkcikdggfbjedaaGreatDoor.S
