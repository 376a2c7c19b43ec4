/-
  ordinary: delete.
-/
import Derived.Test.YtlfbflclefndjaaGreatDoorKE25
import Derived.Test.YtlfbflclefndjaaGreatDoorKE27
import Derived.Test.YtlfbflclefndjaaGreatDoorKE26
namespace Go.Proofs.YtlfbflclefndjaaGreatDoor.S
open Go.RowKit Go.Lib Fl
open Classical

section
variable {ops : Array Oper} {o : Oper} {w : World} {Q : Exit → Act → World → Prop} {K : Act → World → Prop} {x y : Operand} {xs : List Value} {ds : List Deferred} {g : Nat} {t : TypeId}
theorem r_sl {cur : List Value} {m n c : Nat} {A : Option Addr} (hw : Region.wanted o (yielded ops (Act.mk xs.toArray ds).tmps) = true) (ho : o.op = .store 35 x y) (hx : (Act.mk xs.toArray ds).eval x = .pointer (some ⟨g, m, none⟩)) (hy : (Act.mk xs.toArray ds).eval y = .slice A n c) (hg : w.heap[g]? = some (.cells cur.toArray t (0, 0))) (hm : m < cur.length) (hd : o.dst = none)
    (h : ∀ W : World, W.heap[g]? = some (.cells (cur.take m ++ ([.slice A n c] : List Value) ++ cur.drop (m + 1)).toArray t (0, 0)) → w.grownBy W (some g) → W.heap.size = w.heap.size → K ⟨xs.toArray, ds⟩ W) :
    if Region.wanted o (yielded ops (Act.mk xs.toArray ds).tmps) = true then Oper.wp Tryz.prog o ⟨xs.toArray, ds⟩ w K Q else K ((Act.mk xs.toArray ds).put o.dst undef) w := by
  rw [if_pos hw]
  have hc : w.cell? ⟨g, m, none⟩ = some cur[m] := by rw [vcells hg m]; simp [hm]
  have hf : w.frozen? ⟨g, m, none⟩ = false := by simp [World.frozen?, hg]
  have hr : (Instr.storeAt 35 (.pointer (some ⟨g, m, none⟩)) (.slice A n c)).run Tryz.prog w = .ok () (w.setCell ⟨g, m, none⟩ (.slice A n c)) := by simp [go_sem, hc, hf]
  unfold Oper.wp execOp
  simp only [ho, hx, hy, hr, Sem.run_bind, Sem.run_pure, Result.andThen_ok]
  have e : cur.toArray.setIfInBounds m (.slice A n c) = (cur.take m ++ ([.slice A n c] : List Value) ++ cur.drop (m + 1)).toArray := by
    rw [List.setIfInBounds_toArray, List.set_eq_take_append_cons_drop, if_pos hm]
    simp
  show K ((Act.mk xs.toArray ds).put o.dst undef) _
  rw [hd]
  exact h _ (e ▸ vset1 hg m _) ⟨rfl, rfl, rfl, by simp, fun k _ hk => Below.heap_setCell w ⟨g, m, none⟩ _ k (fun e => hk (by rw [e]))⟩ (by simp)
end
/-- what comes of delete, in memory -/
def DelPost (B k : Nat) (a : Ak) (o : Ob) (M : List Ob) (w : World) (e : Ending) (w' : World) : Prop := ∃ q p, e = .returned (.agg (oqA q)) ∧ DelTo o a q p ∧ Chg w B (M.set k p) w' ∧ HRest (M.set k p) w'
/-- what a deletion's way hangs on -/
structure DelF (w : World) (B m k : Nat) (a : Ak) (o : Ob) (M : List Ob) (R : Bool) (D : Dq) (L2 : List Pq) : Prop where
  own : ∀ W, Below w.heap.size w W → Calls Tryz.prog 72 #[.agg (asA B m ⟨B, k * 18, none⟩ a)] W fun e w' => e = .returned (.tuple #[.agg D.cells, .bool R]) ∧ Below W.heap.size W w'
  no : R = true → D.z = false → ∀ w', Chg w B M w' → HRest M w' → DelPost B k a o M w (.returned (.agg (oqA (yesO false)))) w'
  yes : (R = false ∨ D.z = true) → ∀ A c w', Cap A L2.length c → Chg w B (M.set k (o.as o.proto o.ext A c L2)) w' → HRest (M.set k (o.as o.proto o.ext A c L2)) w' → DelPost B k a o M w (.returned (.agg (oqA (yesO true)))) w'
  drop : ∀ W, Below w.heap.size w W → Calls Tryz.prog 75 #[.slice o.pa o.props.length o.pc, .agg #[.string a.k.str, .int .i64 a.k.sym]] W fun e w' => ∃ A c, e = .returned (.tuple #[.slice A L2.length c, .int .i64 0]) ∧ (Cap A L2.length c ∧ PR w' A L2 ∧ ∀ a, A = some a → ∃ cs, w'.heap[a.block]? = some (.cells cs 68 (0, 0))) ∧ Below W.heap.size W w'
theorem del_facts (B m k : Nat) (a : Ak) (o : Ob) (M : List Ob) (w : World) (hof : OF w ⟨B, k * 18, none⟩ o) (hk : k < M.length) (ho : M[k] = o) (hT : TabIn w o.pa o.props o.pc) (hky : mayKy a.k) : ∃ R D L2, DelF w B m k a o M R D L2 := by
  have hsame : M.set k o = M := set_self hk ho.symm
  refine ⟨(findT o.props a.k).isSome, fndD o.props a.k, dropT o.props a.k, ?_⟩
  refine ⟨fun W hb => own_o B m k a o W (hof.up hb) (hT.up hb) hky, fun h1 h2 w' hC hR => ⟨yesO false, o, rfl, ⟨fun _ _ => ⟨rfl, rfl⟩, fun g => ?_⟩, by rw [hsame]; exact hC, by rw [hsame]; exact hR⟩, fun h A c w' hc hC hR => ⟨yesO true, _, rfl, ⟨fun g1 g2 => ?_, fun _ => ⟨rfl, A, c, hc, rfl⟩⟩, hC, hR⟩, fun W hb => ?_⟩
  · rw [h1, h2] at g; simp at g
  · rw [g1, g2] at h; simp at h
  · refine (Drop_t o.pa o.props o.pc a.k W (hT.up hb) hky).mono fun e w' ⟨v, he, h, hb⟩ => ?_
    obtain ⟨A2, c, rfl, h1, h2, h3, h4⟩ := h.out
    exact ⟨A2, c, he, ⟨⟨h2, by unfold maxLen at h3; omega, h4⟩, h1, fun a ha => h.blk a _ c (by rw [ha])⟩, hb⟩
set_option maxHeartbeats 8000000 in
set_option maxRecDepth 1000000 in
theorem delete_o (B m k : Nat) (a : Ak) (o : Ob) (M : List Ob) (w : World) (hB : w.heap[B]? = some (.cells (hcl M).toArray 37 (0, 0))) (hk : k < M.length) (ho : M[k] = o) (hR : HRest M w) (hT : TabIn w o.pa o.props o.pc) (hky : mayKy a.k) :
    Calls Tryz.prog 51 #[.agg (asA B m ⟨B, k * 18, none⟩ a)] w (DelPost B k a o M w) := by
  have HS := Lib.hid (mw_start w B m ⟨B, k * 18, none⟩ a)
  have hofw : OF w ⟨B, k * 18, none⟩ o := ho ▸ of_hcl hB hk
  obtain ⟨R, D, L2, F⟩ := del_facts B m k a o M w hofw hk ho hT hky
  have cO := F.own
  have cP := F.drop
  have HF := Lib.hid F
  have cA := fun b W => answer_o b W
  have hdi := dc_size
  have hlen : k * 18 + 6 < (hcl M).length := by rw [hcl_len]; omega
  have HP := Lib.hid (fun (A : Option Addr) (c : Nat) => hcl_patch (j := 6) (l := [.slice A L2.length c]) (o := o.as o.proto o.ext A c L2) hk (by simp) (by rw [ho]; rfl))
  have HB := Lib.hid hB
  have HR := Lib.hid hR
  have HO := Lib.hid hofw
  have HBL := Lib.hid (lt_blk hB)
  clear F hB hR hofw hT hky hk ho
  go_enter Tryz.func51, Tryz.ntmps51
  go_upto_region 2 with (first
    | ((with_reducible refine as_ld ?_ rfl rfl HS.out.a ?_); (rfl))
    | (go_at_call 72; (with_reducible refine (cO _ HS.out.below).mono ?_); rintro e w1 ⟨rfl, h9⟩; have HS := Lib.hid (HS.out.up h9); clear h9)
    | (refine t_store (cs := D.cells) rfl rfl rfl rfl (heap_alloc_new w1 _) (hdi D) rfl (dc_one D) (vzero w1 _) (Nat.le_refl _) ?_; intro W2 hb2 hW2 hO2 hz2; have HD : Hid (Md w B m k w1.heap.size a o D W2) := Lib.hid ⟨HS.out.up hb2, hW2, HO.out.up (HS.out.up hb2).below⟩; clear hb2 hW2 hO2 hz2))
  generalize w1.heap.size = g3 at *
  have q15 : W2.cell? ⟨g3, 15, none⟩ = some (.bool D.z) := (vcells HD.out.v 15).trans rfl
  have hgl := lt_blk HD.out.v
  cases R with
  | false =>
    have HX := Lib.hid (HF.out.yes (.inl rfl))
    go_upto_region 4 with (fail)
    have HM := Lib.hid (HD.out.up (Below.refl _ _).drew)
    have hS := HM.out.mw.a
    refine wp_region_held_drew (S := fun W : World => W.heap[w.heap.size]? = some (.cells (asA B m ⟨B, k * 18, none⟩ a) 75 (0, 0))) (by kernel_rfl) hS (fun hHeld => ?_)
    generalize World.drew _ = W0 at *
    have hpq := HM.out.of.props
    dsimp only at hpq
    have hld : (Instr.loadAt 35 (.pointer (some ⟨B, k * 18 + 6, none⟩))).run Tryz.prog W0 = .ok (.slice o.pa o.props.length o.pc) W0 := by simp [go_sem, hpq]
    refine hH_take (i := 0) (v := .pointer (some ⟨w.heap.size, 1, none⟩)) (d := 18) (l2 := #[true, false, false, false, false, false, false, false, false, false, false, false, false, false, false, false, false]) rfl (by kernel_rfl) (by kernel_rfl) (by kernel_rfl) (fun _ _ _ h => h) (by kernel_rfl) ?_ (by assumption) rfl (by kernel_rfl) ?_
    · intro w hSw; go_simp; (try with_reducible rfl)
    simp only [List.set]
    refine hH_take (i := 1) (v := .pointer (some ⟨B, k * 18, none⟩)) (d := 19) (l2 := #[true, true, false, false, false, false, false, false, false, false, false, false, false, false, false, false, false]) rfl (by kernel_rfl) (by kernel_rfl) (by kernel_rfl) (fun _ _ _ h => h) (by kernel_rfl) ?_ (by assumption) rfl (by kernel_rfl) ?_
    · intro w hSw; have q : w.cell? _ = some (.pointer (some ⟨B, k * 18, none⟩)) := (vcells hSw 1).trans rfl; go_simp; (try with_reducible rfl)
    simp only [List.set]
    refine hH_take (i := 2) (v := .pointer (some ⟨w.heap.size, 1, none⟩)) (d := 20) (l2 := #[true, true, true, false, false, false, false, false, false, false, false, false, false, false, false, false, false]) rfl (by kernel_rfl) (by kernel_rfl) (by kernel_rfl) (fun _ _ _ h => h) (by kernel_rfl) ?_ (by assumption) rfl (by kernel_rfl) ?_
    · intro w hSw; go_simp; (try with_reducible rfl)
    simp only [List.set]
    refine hH_take (i := 3) (v := .pointer (some ⟨B, k * 18, none⟩)) (d := 21) (l2 := #[true, true, true, true, false, false, false, false, false, false, false, false, false, false, false, false, false]) rfl (by kernel_rfl) (by kernel_rfl) (by kernel_rfl) (fun _ _ _ h => h) (by kernel_rfl) ?_ (by assumption) rfl (by kernel_rfl) ?_
    · intro w hSw; have q : w.cell? _ = some (.pointer (some ⟨B, k * 18, none⟩)) := (vcells hSw 1).trans rfl; go_simp; (try with_reducible rfl)
    simp only [List.set]
    refine hH_take (i := 4) (v := ?_) (d := 22) (l2 := #[true, true, true, true, true, false, false, false, false, false, false, false, false, false, false, false, false]) rfl (by kernel_rfl) (by kernel_rfl) (by kernel_rfl) (fun _ _ _ h => h) (by kernel_rfl) ?_ (by assumption) rfl (by kernel_rfl) ?_
    rotate_left
    · intro w hSw; (try dsimp only at hSw); go_simp; (try with_reducible rfl)
    simp only [List.set]
    refine hH_take (i := 5) (v := .pointer (some ⟨B, k * 18 + 6, none⟩)) (d := 23) (l2 := #[true, true, true, true, true, true, false, false, false, false, false, false, false, false, false, false, false]) rfl (by kernel_rfl) (by kernel_rfl) (by kernel_rfl) (fun _ _ _ h => h) (by kernel_rfl) ?_ (by assumption) rfl (by kernel_rfl) ?_
    · intro w hSw; go_simp; (try with_reducible rfl)
    simp only [List.set]
    refine hH_take (i := 7) (v := .pointer (some ⟨w.heap.size, 2, none⟩)) (d := 25) (l2 := #[true, true, true, true, true, true, false, true, false, false, false, false, false, false, false, false, false]) rfl (by kernel_rfl) (by kernel_rfl) (by kernel_rfl) (fun _ _ _ h => h) (by kernel_rfl) ?_ (by assumption) rfl (by kernel_rfl) ?_
    · intro w hSw; go_simp; (try with_reducible rfl)
    simp only [List.set]
    refine hH_take (i := 8) (v := .pointer (some ⟨w.heap.size, 4, none⟩)) (d := 26) (l2 := #[true, true, true, true, true, true, false, true, true, false, false, false, false, false, false, false, false]) rfl (by kernel_rfl) (by kernel_rfl) (by kernel_rfl) (fun _ _ _ h => h) (by kernel_rfl) ?_ (by assumption) rfl (by kernel_rfl) ?_
    · intro w hSw; go_simp; (try with_reducible rfl)
    simp only [List.set]
    refine hH_take (i := 9) (v := .agg #[.string a.k.str, .int .i64 a.k.sym]) (d := 27) (l2 := #[true, true, true, true, true, true, false, true, true, true, false, false, false, false, false, false, false]) rfl (by kernel_rfl) (by kernel_rfl) (by kernel_rfl) (fun _ _ _ h => h) (by kernel_rfl) ?_ (by assumption) rfl (by kernel_rfl) ?_
    · intro w hSw; exact ex_load_at (ak_key hSw) rfl rfl
    simp only [List.set]
    refine wpAnyH_ready (rs := [6]) (by kernel_rfl) (by simp) ?_
    refine AllReadyH.cons rfl (fun K hK => ?_) AllReadyH.nil
    refine r_val (by kernel_rfl) (ex_load_at hld rfl rfl) rfl ?_
    simp only [List.set]
    refine hK.out _ _ HM.out.mw.a (fun hHeld => ?_)
    clear hK K
    refine wpAnyH_ready (rs := [10]) (by kernel_rfl) (by simp) ?_
    refine AllReadyH.cons rfl (fun K hK => ?_) AllReadyH.nil
    go_simp
    go_at_call 75
    (with_reducible refine (cP _ HM.out.mw.below).mono ?_)
    rintro e w13 ⟨A, c, rfl, hP, h9⟩
    have HM := Lib.hid (HM.out.up h9)
    clear h9
    have HPR := Lib.hid hP
    clear hP
    refine hK.out _ _ HM.out.mw.a (fun hHeld => ?_)
    clear hK K
    refine hH_take (i := 11) (v := .tuple #[.slice A L2.length c, .int .i64 0]) (d := 17) (l2 := #[true, true, true, true, true, true, true, true, true, true, true, true, false, false, false, false, false]) rfl (by kernel_rfl) (by kernel_rfl) (by kernel_rfl) (fun _ _ _ h => h) (by kernel_rfl) ?_ (by assumption) rfl (by kernel_rfl) ?_
    · intro w hSw; go_simp; (try with_reducible rfl)
    simp only [List.set]
    refine hH_take (i := 12) (v := .slice A L2.length c) (d := 29) (l2 := #[true, true, true, true, true, true, true, true, true, true, true, true, true, false, false, false, false]) rfl (by kernel_rfl) (by kernel_rfl) (by kernel_rfl) (fun _ _ _ h => h) (by kernel_rfl) ?_ (by assumption) rfl (by kernel_rfl) ?_
    · intro w hSw; go_simp; (try with_reducible rfl)
    simp only [List.set]
    refine hH_take (i := 13) (v := .int .i64 0) (d := 30) (l2 := #[true, true, true, true, true, true, true, true, true, true, true, true, true, true, false, false, false]) rfl (by kernel_rfl) (by kernel_rfl) (by kernel_rfl) (fun _ _ _ h => h) (by kernel_rfl) ?_ (by assumption) rfl (by kernel_rfl) ?_
    · intro w hSw; go_simp; (try with_reducible rfl)
    simp only [List.set]
    refine hH_take (i := 14) (v := ?_) (d := 31) (l2 := #[true, true, true, true, true, true, true, true, true, true, true, true, true, true, true, false, false]) rfl (by kernel_rfl) (by kernel_rfl) (by kernel_rfl) (fun _ _ _ h => h) (by kernel_rfl) ?_ (by assumption) rfl (by kernel_rfl) ?_
    rotate_left
    · intro w hSw; (try dsimp only at hSw); go_simp; (try with_reducible rfl)
    simp only [List.set]
    refine hH_take (i := 15) (v := .pointer (some ⟨B, k * 18 + 6, none⟩)) (d := 32) (l2 := #[true, true, true, true, true, true, true, true, true, true, true, true, true, true, true, true, false]) rfl (by kernel_rfl) (by kernel_rfl) (by kernel_rfl) (fun _ _ _ h => h) (by kernel_rfl) ?_ (by assumption) rfl (by kernel_rfl) ?_
    · intro w hSw; go_simp; (try with_reducible rfl)
    simp only [List.set]
    refine wpAnyH_ready (rs := [16]) (by kernel_rfl) (by simp) ?_
    refine AllReadyH.cons rfl (fun K hK => ?_) AllReadyH.nil
    have hb0 := (HM.out.mw.below.block B HBL.out).trans HB.out
    refine r_sl (by kernel_rfl) rfl rfl rfl hb0 hlen rfl ?_
    intro W8 hW8 hG8 hz8
    have hS8 := (hG8.block w.heap.size (lt_blk HM.out.mw.a) (fun e => by have := Option.some.inj e; have := HBL.out; omega)).trans HM.out.mw.a
    have hr := (hG8.block (w.heap.size + 1) (lt_blk HM.out.mw.r) (fun e => by have := Option.some.inj e; have := HBL.out; omega)).trans HM.out.mw.r
    refine hK.out _ _ hS8 (fun hHeld => ?_)
    clear hK K
    have HW8 := Lib.hid hW8
    have HG8 := Lib.hid hG8
    have HZ8 := Lib.hid hz8
    clear hW8 hG8 hz8
    refine wpAnyH_done (by kernel_rfl) ?_ _
    go_wp2_with (first
      | (go_at_call 70; (with_reducible refine (cA _ _).mono ?_); rintro e w4 ⟨rfl, h9⟩; have hr := vblkn h9 hr; have H9 := Lib.hid h9; clear h9)
      | (refine t_store (cs := oqA (yesO true)) rfl rfl rfl rfl hr (oq_info _) rfl (oqA_one _) (Below.refl (w.heap.size + 1) w4) (Nat.le_refl _) ?_; intro W6 hb6 hW6 hO6 hz6))
    refine oq_end Tryz.results51 rfl hW6 (HX.out A c _ HPR.out.1 ⟨?_, ?_⟩ ?_)
    · have g1 := HG8.out
      have b2 := H9.out
      have hz1 := HZ8.out
      have hbw := HM.out.mw.below
      have hs1 := hbw.size
      have hs2 := b2.size
      have hs3 := hb6.size
      have hs4 := HM.out.mw.size2
      refine ⟨hb6.os.trans (b2.os.trans (g1.os.trans hbw.os)), hb6.tape.trans (b2.tape.trans (g1.tape.trans hbw.tape)), hb6.output.trans (b2.output.trans (g1.output.trans hbw.output)), by omega, fun j hj hn => ?_⟩
      exact (hO6 j (by omega)).trans ((b2.block j (by omega)).trans ((g1.block j (by omega) hn).trans (hbw.block j hj)))
    · rw [← HP.out A c]
      exact (hO6 B (by have := HBL.out; omega)).trans (vblkn H9.out HW8.out)
    · have h1 := (HR.out.up HM.out.mw.below).set (k := k) (o := o.as o.proto o.ext A c L2) HPR.out.2.1 HPR.out.2.2
      have h2 := (h1.keep (fun g2 cs hg => HG8.out.block g2 (lt_blk hg) (fun e => by obtain rfl := Option.some.inj e; rw [hg] at hb0; cases hb0))).up H9.out
      exact h2.keep fun g2 cs hg => hO6 g2 (fun e => by rw [e, hr] at hg; cases hg)
  | true =>
    cases hz : D.z with
    | true =>
      rw [hz] at q15
      have HX := Lib.hid (HF.out.yes (.inr hz))
      clear hz
      go_upto_region 4 with (fail)
      have HM := Lib.hid (HD.out.up (Below.refl _ _).drew)
      have hS := HM.out.mw.a
      refine wp_region_held_drew (S := fun W : World => W.heap[w.heap.size]? = some (.cells (asA B m ⟨B, k * 18, none⟩ a) 75 (0, 0))) (by kernel_rfl) hS (fun hHeld => ?_)
      generalize World.drew _ = W0 at *
      have hpq := HM.out.of.props
      dsimp only at hpq
      have hld : (Instr.loadAt 35 (.pointer (some ⟨B, k * 18 + 6, none⟩))).run Tryz.prog W0 = .ok (.slice o.pa o.props.length o.pc) W0 := by simp [go_sem, hpq]
      refine hH_take (i := 0) (v := .pointer (some ⟨w.heap.size, 1, none⟩)) (d := 18) (l2 := #[true, false, false, false, false, false, false, false, false, false, false, false, false, false, false, false, false]) rfl (by kernel_rfl) (by kernel_rfl) (by kernel_rfl) (fun _ _ _ h => h) (by kernel_rfl) ?_ (by assumption) rfl (by kernel_rfl) ?_
      · intro w hSw; go_simp; (try with_reducible rfl)
      simp only [List.set]
      refine hH_take (i := 1) (v := .pointer (some ⟨B, k * 18, none⟩)) (d := 19) (l2 := #[true, true, false, false, false, false, false, false, false, false, false, false, false, false, false, false, false]) rfl (by kernel_rfl) (by kernel_rfl) (by kernel_rfl) (fun _ _ _ h => h) (by kernel_rfl) ?_ (by assumption) rfl (by kernel_rfl) ?_
      · intro w hSw; have q : w.cell? _ = some (.pointer (some ⟨B, k * 18, none⟩)) := (vcells hSw 1).trans rfl; go_simp; (try with_reducible rfl)
      simp only [List.set]
      refine hH_take (i := 2) (v := .pointer (some ⟨w.heap.size, 1, none⟩)) (d := 20) (l2 := #[true, true, true, false, false, false, false, false, false, false, false, false, false, false, false, false, false]) rfl (by kernel_rfl) (by kernel_rfl) (by kernel_rfl) (fun _ _ _ h => h) (by kernel_rfl) ?_ (by assumption) rfl (by kernel_rfl) ?_
      · intro w hSw; go_simp; (try with_reducible rfl)
      simp only [List.set]
      refine hH_take (i := 3) (v := .pointer (some ⟨B, k * 18, none⟩)) (d := 21) (l2 := #[true, true, true, true, false, false, false, false, false, false, false, false, false, false, false, false, false]) rfl (by kernel_rfl) (by kernel_rfl) (by kernel_rfl) (fun _ _ _ h => h) (by kernel_rfl) ?_ (by assumption) rfl (by kernel_rfl) ?_
      · intro w hSw; have q : w.cell? _ = some (.pointer (some ⟨B, k * 18, none⟩)) := (vcells hSw 1).trans rfl; go_simp; (try with_reducible rfl)
      simp only [List.set]
      refine hH_take (i := 4) (v := ?_) (d := 22) (l2 := #[true, true, true, true, true, false, false, false, false, false, false, false, false, false, false, false, false]) rfl (by kernel_rfl) (by kernel_rfl) (by kernel_rfl) (fun _ _ _ h => h) (by kernel_rfl) ?_ (by assumption) rfl (by kernel_rfl) ?_
      rotate_left
      · intro w hSw; (try dsimp only at hSw); go_simp; (try with_reducible rfl)
      simp only [List.set]
      refine hH_take (i := 5) (v := .pointer (some ⟨B, k * 18 + 6, none⟩)) (d := 23) (l2 := #[true, true, true, true, true, true, false, false, false, false, false, false, false, false, false, false, false]) rfl (by kernel_rfl) (by kernel_rfl) (by kernel_rfl) (fun _ _ _ h => h) (by kernel_rfl) ?_ (by assumption) rfl (by kernel_rfl) ?_
      · intro w hSw; go_simp; (try with_reducible rfl)
      simp only [List.set]
      refine hH_take (i := 7) (v := .pointer (some ⟨w.heap.size, 2, none⟩)) (d := 25) (l2 := #[true, true, true, true, true, true, false, true, false, false, false, false, false, false, false, false, false]) rfl (by kernel_rfl) (by kernel_rfl) (by kernel_rfl) (fun _ _ _ h => h) (by kernel_rfl) ?_ (by assumption) rfl (by kernel_rfl) ?_
      · intro w hSw; go_simp; (try with_reducible rfl)
      simp only [List.set]
      refine hH_take (i := 8) (v := .pointer (some ⟨w.heap.size, 4, none⟩)) (d := 26) (l2 := #[true, true, true, true, true, true, false, true, true, false, false, false, false, false, false, false, false]) rfl (by kernel_rfl) (by kernel_rfl) (by kernel_rfl) (fun _ _ _ h => h) (by kernel_rfl) ?_ (by assumption) rfl (by kernel_rfl) ?_
      · intro w hSw; go_simp; (try with_reducible rfl)
      simp only [List.set]
      refine hH_take (i := 9) (v := .agg #[.string a.k.str, .int .i64 a.k.sym]) (d := 27) (l2 := #[true, true, true, true, true, true, false, true, true, true, false, false, false, false, false, false, false]) rfl (by kernel_rfl) (by kernel_rfl) (by kernel_rfl) (fun _ _ _ h => h) (by kernel_rfl) ?_ (by assumption) rfl (by kernel_rfl) ?_
      · intro w hSw; exact ex_load_at (ak_key hSw) rfl rfl
      simp only [List.set]
      refine wpAnyH_ready (rs := [6]) (by kernel_rfl) (by simp) ?_
      refine AllReadyH.cons rfl (fun K hK => ?_) AllReadyH.nil
      refine r_val (by kernel_rfl) (ex_load_at hld rfl rfl) rfl ?_
      simp only [List.set]
      refine hK.out _ _ HM.out.mw.a (fun hHeld => ?_)
      clear hK K
      refine wpAnyH_ready (rs := [10]) (by kernel_rfl) (by simp) ?_
      refine AllReadyH.cons rfl (fun K hK => ?_) AllReadyH.nil
      go_simp
      go_at_call 75
      (with_reducible refine (cP _ HM.out.mw.below).mono ?_)
      rintro e w13 ⟨A, c, rfl, hP, h9⟩
      have HM := Lib.hid (HM.out.up h9)
      clear h9
      have HPR := Lib.hid hP
      clear hP
      refine hK.out _ _ HM.out.mw.a (fun hHeld => ?_)
      clear hK K
      refine hH_take (i := 11) (v := .tuple #[.slice A L2.length c, .int .i64 0]) (d := 17) (l2 := #[true, true, true, true, true, true, true, true, true, true, true, true, false, false, false, false, false]) rfl (by kernel_rfl) (by kernel_rfl) (by kernel_rfl) (fun _ _ _ h => h) (by kernel_rfl) ?_ (by assumption) rfl (by kernel_rfl) ?_
      · intro w hSw; go_simp; (try with_reducible rfl)
      simp only [List.set]
      refine hH_take (i := 12) (v := .slice A L2.length c) (d := 29) (l2 := #[true, true, true, true, true, true, true, true, true, true, true, true, true, false, false, false, false]) rfl (by kernel_rfl) (by kernel_rfl) (by kernel_rfl) (fun _ _ _ h => h) (by kernel_rfl) ?_ (by assumption) rfl (by kernel_rfl) ?_
      · intro w hSw; go_simp; (try with_reducible rfl)
      simp only [List.set]
      refine hH_take (i := 13) (v := .int .i64 0) (d := 30) (l2 := #[true, true, true, true, true, true, true, true, true, true, true, true, true, true, false, false, false]) rfl (by kernel_rfl) (by kernel_rfl) (by kernel_rfl) (fun _ _ _ h => h) (by kernel_rfl) ?_ (by assumption) rfl (by kernel_rfl) ?_
      · intro w hSw; go_simp; (try with_reducible rfl)
      simp only [List.set]
      refine hH_take (i := 14) (v := ?_) (d := 31) (l2 := #[true, true, true, true, true, true, true, true, true, true, true, true, true, true, true, false, false]) rfl (by kernel_rfl) (by kernel_rfl) (by kernel_rfl) (fun _ _ _ h => h) (by kernel_rfl) ?_ (by assumption) rfl (by kernel_rfl) ?_
      rotate_left
      · intro w hSw; (try dsimp only at hSw); go_simp; (try with_reducible rfl)
      simp only [List.set]
      refine hH_take (i := 15) (v := .pointer (some ⟨B, k * 18 + 6, none⟩)) (d := 32) (l2 := #[true, true, true, true, true, true, true, true, true, true, true, true, true, true, true, true, false]) rfl (by kernel_rfl) (by kernel_rfl) (by kernel_rfl) (fun _ _ _ h => h) (by kernel_rfl) ?_ (by assumption) rfl (by kernel_rfl) ?_
      · intro w hSw; go_simp; (try with_reducible rfl)
      simp only [List.set]
      refine wpAnyH_ready (rs := [16]) (by kernel_rfl) (by simp) ?_
      refine AllReadyH.cons rfl (fun K hK => ?_) AllReadyH.nil
      have hb0 := (HM.out.mw.below.block B HBL.out).trans HB.out
      refine r_sl (by kernel_rfl) rfl rfl rfl hb0 hlen rfl ?_
      intro W8 hW8 hG8 hz8
      have hS8 := (hG8.block w.heap.size (lt_blk HM.out.mw.a) (fun e => by have := Option.some.inj e; have := HBL.out; omega)).trans HM.out.mw.a
      have hr := (hG8.block (w.heap.size + 1) (lt_blk HM.out.mw.r) (fun e => by have := Option.some.inj e; have := HBL.out; omega)).trans HM.out.mw.r
      refine hK.out _ _ hS8 (fun hHeld => ?_)
      clear hK K
      have HW8 := Lib.hid hW8
      have HG8 := Lib.hid hG8
      have HZ8 := Lib.hid hz8
      clear hW8 hG8 hz8
      refine wpAnyH_done (by kernel_rfl) ?_ _
      go_wp2_with (first
        | (go_at_call 70; (with_reducible refine (cA _ _).mono ?_); rintro e w4 ⟨rfl, h9⟩; have hr := vblkn h9 hr; have H9 := Lib.hid h9; clear h9)
        | (refine t_store (cs := oqA (yesO true)) rfl rfl rfl rfl hr (oq_info _) rfl (oqA_one _) (Below.refl (w.heap.size + 1) w4) (Nat.le_refl _) ?_; intro W6 hb6 hW6 hO6 hz6))
      refine oq_end Tryz.results51 rfl hW6 (HX.out A c _ HPR.out.1 ⟨?_, ?_⟩ ?_)
      · have g1 := HG8.out
        have b2 := H9.out
        have hz1 := HZ8.out
        have hbw := HM.out.mw.below
        have hs1 := hbw.size
        have hs2 := b2.size
        have hs3 := hb6.size
        have hs4 := HM.out.mw.size2
        refine ⟨hb6.os.trans (b2.os.trans (g1.os.trans hbw.os)), hb6.tape.trans (b2.tape.trans (g1.tape.trans hbw.tape)), hb6.output.trans (b2.output.trans (g1.output.trans hbw.output)), by omega, fun j hj hn => ?_⟩
        exact (hO6 j (by omega)).trans ((b2.block j (by omega)).trans ((g1.block j (by omega) hn).trans (hbw.block j hj)))
      · rw [← HP.out A c]
        exact (hO6 B (by have := HBL.out; omega)).trans (vblkn H9.out HW8.out)
      · have h1 := (HR.out.up HM.out.mw.below).set (k := k) (o := o.as o.proto o.ext A c L2) HPR.out.2.1 HPR.out.2.2
        have h2 := (h1.keep (fun g2 cs hg => HG8.out.block g2 (lt_blk hg) (fun e => by obtain rfl := Option.some.inj e; rw [hg] at hb0; cases hb0))).up H9.out
        exact h2.keep fun g2 cs hg => hO6 g2 (fun e => by rw [e, hr] at hg; cases hg)
    | false =>
      rw [hz] at q15
      have HX := Lib.hid (HF.out.no rfl hz)
      have hr := HD.out.mw.r
      have hbw := HD.out.mw.below
      clear hz
      go_wp2_with (first
        | (go_at_call 70; (with_reducible refine (cA _ _).mono ?_); rintro e w4 ⟨rfl, h9⟩; have hr := vblkn h9 hr; have hbw := vb hbw h9; clear h9)
        | (refine oq_store (q := yesO false) rfl rfl rfl rfl hr rfl hbw (Nat.le_add_right _ 1) ?_; intro W6 hb6 hW6 hO6 hz6))
      exact oq_end Tryz.results51 rfl hW6 (HX.out _ (chg_same hb6 HB.out) (HR.out.up hb6))
end Go.Proofs.YtlfbflclefndjaaGreatDoor.S
/-
  ordinary: may, of a definition.
-/
namespace Go.Proofs.YtlfbflclefndjaaGreatDoor.S
open Go.RowKit Go.Lib Fl
open Classical

set_option maxRecDepth 100000 in
theorem Or_3 (g : Nat) (x y z : Int) (w : World) (h0 : w.cell? ⟨g, 0, none⟩ = some (.int .i64 x)) (h1 : w.cell? ⟨g, 1, none⟩ = some (.int .i64 y)) (h2 : w.cell? ⟨g, 2, none⟩ = some (.int .i64 z)) : Calls Tryz.prog 20 #[.slice (some ⟨g, 0, none⟩) 3 3] w fun e w' => e = .returned (.int .i64 (orE x (orE y z))) ∧ w' = w := by
  go_enter Tryz.func20, Tryz.ntmps20
  go_wp2
  go_loopg [8] 3 (fun kx s8 wr => ∃ i : Nat, s8 = .int .i64 i ∧ i + kx = 3 ∧ Hid ((0 < i → x = 0) ∧ (1 < i → y = 0) ∧ (2 < i → z = 0)) ∧ wr = w)
  case atStart => exact ⟨0, rfl, rfl, Lib.hid ⟨fun h => absurd h (by decide), fun h => absurd h (by decide), fun h => absurd h (by decide)⟩, rfl⟩
  case round =>
    obtain ⟨i, rfl, hik, H, rfl⟩ := hrel
    cases gk with
    | zero =>
      obtain rfl : i = 3 := by omega
      have hx := H.out.1 (by decide)
      have hy := H.out.2.1 (by decide)
      have hz := H.out.2.2 (by decide)
      clear H
      subst hx hy hz
      go_wp2
      go_ret
      exact ⟨by unfold orE; rfl, rfl⟩
    | succ kx =>
      have hi : i = 0 ∨ i = 1 ∨ i = 2 := by omega
      rcases hi with rfl | rfl | rfl
      · by_cases hx : x = 0
        · go_wp2
          go_roundg kx
          case measure => omega
          case rel => exact ⟨1, rfl, by omega, Lib.hid ⟨fun _ => hx, fun h => absurd h (by decide), fun h => absurd h (by decide)⟩, rfl⟩
        · go_wp2
          go_ret
          exact ⟨by unfold orE; rw [if_neg hx]; rfl, rfl⟩
      · have hx := H.out.1 (by decide)
        by_cases hy : y = 0
        · go_wp2
          go_roundg kx
          case measure => omega
          case rel => exact ⟨2, rfl, by omega, Lib.hid ⟨fun _ => hx, fun _ => hy, fun h => absurd h (by decide)⟩, rfl⟩
        · clear H
          subst hx
          go_wp2
          go_ret
          exact ⟨by unfold orE; rw [if_pos rfl, if_neg hy]; rfl, rfl⟩
      · have hx := H.out.1 (by decide)
        have hy := H.out.2.1 (by decide)
        by_cases hz : z = 0
        · go_wp2
          go_roundg kx
          case measure => omega
          case rel => exact ⟨3, rfl, by omega, Lib.hid ⟨fun _ => hx, fun _ => hy, fun _ => hz⟩, rfl⟩
        · clear H
          subst hx hy
          go_wp2
          go_ret
          exact ⟨by unfold orE; rfl, rfl⟩
/-- within's blocks -/
structure Wn (w : World) (A : Option Addr) (n cap : Nat) (d : Dq) (W : World) : Prop where
  below : Below w.heap.size w W
  h : W.heap[w.heap.size]? = some (.cells #[.slice A n cap] 24 (0, 0))
  d : W.heap[w.heap.size + 1]? = some (.cells d.cells 41 (0, 0))
theorem Wn.up {w : World} {A : Option Addr} {n cap : Nat} {d : Dq} {W W' : World} (h : Wn w A n cap d W) (hb : Below W.heap.size W W') : Wn w A n cap d W' := ⟨vb h.below hb, vblkn hb h.h, vblkn hb h.d⟩
theorem wn_start (w : World) (A : Option Addr) (n cap : Nat) (d : Dq) : Wn w A n cap d ((w.alloc (.cells #[.slice A n cap] 24)).alloc (.cells d.cells 41)) := by
  obtain ⟨b1, b2⟩ := vblk2 (w := w) (Below.refl _ ((w.alloc (.cells #[.slice A n cap] 24)).alloc (.cells d.cells 41)))
  exact ⟨vafter (vzero _ _), b1, b2⟩
abbrev vA (v : Vq) : Array Value := #[.int .u8 v.k, .float .f64 v.x, .string v.s, .int .i64 v.r]
abbrev v3A (a b c : Vq) : Array Value := #[.int .u8 a.k, .float .f64 a.x, .string a.s, .int .i64 a.r, .int .u8 b.k, .float .f64 b.x, .string b.s, .int .i64 b.r, .int .u8 c.k, .float .f64 c.x, .string c.s, .int .i64 c.r]
theorem run_build_3 (a b c : Vq) (w : World) : (Instr.build 106 #[(0, .agg (vA a)), (1, .agg (vA b)), (2, .agg (vA c))]).run Tryz.prog w = .ok (.agg (v3A a b c)) w := by kernel_rfl
section
variable {o : Oper} {a : Act} {w : World} {x y z : Operand}
theorem eb_3 {u v t : Vq} (ho : o.op = .build 106 #[(0, x), (1, y), (2, z)]) (hx : a.eval x = .agg (vA u)) (hy : a.eval y = .agg (vA v)) (hz : a.eval z = .agg (vA t)) : (execOp a.eval o).run Tryz.prog w = .ok (.value (.agg (v3A u v t))) w := by
  unfold execOp
  simp only [ho, List.map_toArray, List.map_cons, List.map_nil, hx, hy, hz, run_build_3, Sem.run_bind, Sem.run_pure, Result.andThen_ok]
theorem ei_0 {u v t : Vq} (ho : o.op = .index 106 x y) (hx : a.eval x = .agg (v3A u v t)) (hy : a.eval y = .int .i64 0) : (execOp a.eval o).run Tryz.prog w = .ok (.value (.agg (vA u))) w := by
  unfold execOp
  simp only [ho, hx, hy]
  kernel_rfl
theorem ei_1 {u v t : Vq} (ho : o.op = .index 106 x y) (hx : a.eval x = .agg (v3A u v t)) (hy : a.eval y = .int .i64 1) : (execOp a.eval o).run Tryz.prog w = .ok (.value (.agg (vA v))) w := by
  unfold execOp
  simp only [ho, hx, hy]
  kernel_rfl
theorem ei_2 {u v t : Vq} (ho : o.op = .index 106 x y) (hx : a.eval x = .agg (v3A u v t)) (hy : a.eval y = .int .i64 2) : (execOp a.eval o).run Tryz.prog w = .ok (.value (.agg (vA t))) w := by
  unfold execOp
  simp only [ho, hx, hy]
  kernel_rfl
end
set_option maxHeartbeats 8000000 in
set_option maxRecDepth 1000000 in
theorem within_o (A : Option Addr) (H : List Ob) (cap : Nat) (d : Dq) (w : World) (hH : HIn w A H cap) (hmH : mayH H = true) (hd : d.In) : Calls Tryz.prog 41 #[.agg #[.slice A H.length cap], .agg d.cells] w fun e w' => e = .returned (.int .i64 (bif withinB H d then 0 else 9)) ∧ Below w.heap.size w w' := by
  have HS := Lib.hid (wn_start w A H.length cap d)
  have va1 : VAt _ ⟨w.heap.size + 1, 1, none⟩ d.a := ⟨lt_blk HS.out.d, (vcells HS.out.d 1).trans rfl, (vcells HS.out.d 2).trans rfl, (vcells HS.out.d 3).trans rfl, (vcells HS.out.d 4).trans rfl⟩
  have va2 : VAt _ ⟨w.heap.size + 1, 5, none⟩ d.b := ⟨lt_blk HS.out.d, (vcells HS.out.d 5).trans rfl, (vcells HS.out.d 6).trans rfl, (vcells HS.out.d 7).trans rfl, (vcells HS.out.d 8).trans rfl⟩
  have va3 : VAt _ ⟨w.heap.size + 1, 9, none⟩ d.c := ⟨lt_blk HS.out.d, (vcells HS.out.d 9).trans rfl, (vcells HS.out.d 10).trans rfl, (vcells HS.out.d 11).trans rfl, (vcells HS.out.d 12).trans rfl⟩
  have c1 := fun W (hb : Below w.heap.size w W) => holds_o A H cap d.a W (hH.up hb) hmH hd.a
  have c2 := fun W (hb : Below w.heap.size w W) => holds_o A H cap d.b W (hH.up hb) hmH hd.b
  have c3 := fun W (hb : Below w.heap.size w W) => holds_o A H cap d.c W (hH.up hb) hmH hd.c
  have hiv : ∀ v : Vq, (Tryz.prog.info? 34).map (·.size) = some (vA v).size := fun _ => vsz4
  have hcv : ∀ v : Vq, (vA v).all (·.oneCell') = true := fun v => vq_one v.k v.x v.s v.r
  unfold withinB
  generalize holdsB H d.a = h1 at *
  generalize holdsB H d.b = h2 at *
  generalize holdsB H d.c = h3 at *
  clear hH hmH hd
  go_enter Tryz.func41, Tryz.ntmps41
  go_wp2_with (first
    | ((with_reducible refine va_load ?_ rfl rfl va1 ?_); (rfl))
    | ((with_reducible refine va_load ?_ rfl rfl va2 ?_); (rfl))
    | ((with_reducible refine va_load ?_ rfl rfl va3 ?_); (rfl))
    | (refine w_run ?_ (eb_3 (u := d.a) (v := d.b) (t := d.c) rfl rfl rfl rfl) ?_; (rfl)))
  clear va1 va2 va3
  go_loopg [14] 3 (fun kx s14 wr => Hid (Wn w A H.length cap d wr) ∧ ((s14 = .int .i64 0 ∧ kx = 3) ∨ (s14 = .int .i64 1 ∧ kx = 2 ∧ h1 = true) ∨ (s14 = .int .i64 2 ∧ kx = 1 ∧ h1 = true ∧ h2 = true) ∨ (s14 = .int .i64 3 ∧ kx = 0 ∧ h1 = true ∧ h2 = true ∧ h3 = true)))
  case atStart => exact ⟨HS, .inl ⟨rfl, rfl⟩⟩
  case round =>
    obtain ⟨HW, hw⟩ := hrel
    clear HS
    rcases hw with ⟨rfl, hk⟩ | ⟨rfl, hk, rfl⟩ | ⟨rfl, hk, rfl, rfl⟩ | ⟨rfl, hk, rfl, rfl, rfl⟩
    · cases h1 with
      | false =>
        go_wp2_with (first
          | (refine w_run ?_ (ei_0 (u := d.a) (v := d.b) (t := d.c) rfl rfl rfl) ?_; (rfl))
          | (refine t_store (cs := vA d.a) rfl rfl rfl rfl (heap_alloc_new wr _) (hiv _) rfl (hcv _) (vzero wr _) (Nat.le_refl _) ?_; intro W2 hb2 hW2 hO2 hz2; have HW := Lib.hid (HW.out.up hb2); have va : VAt W2 ⟨wr.heap.size, 0, none⟩ d.a := ⟨lt_blk hW2, (vcells hW2 0).trans rfl, (vcells hW2 1).trans rfl, (vcells hW2 2).trans rfl, (vcells hW2 3).trans rfl⟩)
          | ((with_reducible refine h1_ld ?_ rfl rfl HW.out.h ?_); (rfl))
          | ((with_reducible refine va_load ?_ rfl rfl va ?_); (rfl))
          | (go_at_call 69; (with_reducible refine (c1 _ HW.out.below).mono ?_); rintro e w3 ⟨rfl, h9⟩; have HW := Lib.hid (HW.out.up h9); clear h9))
        go_ret
        exact ⟨rfl, HW.out.below⟩
      | true =>
        go_wp2_with (first
          | (refine w_run ?_ (ei_0 (u := d.a) (v := d.b) (t := d.c) rfl rfl rfl) ?_; (rfl))
          | (refine t_store (cs := vA d.a) rfl rfl rfl rfl (heap_alloc_new wr _) (hiv _) rfl (hcv _) (vzero wr _) (Nat.le_refl _) ?_; intro W2 hb2 hW2 hO2 hz2; have HW := Lib.hid (HW.out.up hb2); have va : VAt W2 ⟨wr.heap.size, 0, none⟩ d.a := ⟨lt_blk hW2, (vcells hW2 0).trans rfl, (vcells hW2 1).trans rfl, (vcells hW2 2).trans rfl, (vcells hW2 3).trans rfl⟩)
          | ((with_reducible refine h1_ld ?_ rfl rfl HW.out.h ?_); (rfl))
          | ((with_reducible refine va_load ?_ rfl rfl va ?_); (rfl))
          | (go_at_call 69; (with_reducible refine (c1 _ HW.out.below).mono ?_); rintro e w3 ⟨rfl, h9⟩; have HW := Lib.hid (HW.out.up h9); clear h9))
        go_roundg (gk - 1)
        case measure => omega
        case rel => exact ⟨HW, .inr (.inl ⟨rfl, by omega, trivial⟩)⟩
    · cases h2 with
      | false =>
        go_wp2_with (first
          | (refine w_run ?_ (ei_1 (u := d.a) (v := d.b) (t := d.c) rfl rfl rfl) ?_; (rfl))
          | (refine t_store (cs := vA d.b) rfl rfl rfl rfl (heap_alloc_new wr _) (hiv _) rfl (hcv _) (vzero wr _) (Nat.le_refl _) ?_; intro W2 hb2 hW2 hO2 hz2; have HW := Lib.hid (HW.out.up hb2); have va : VAt W2 ⟨wr.heap.size, 0, none⟩ d.b := ⟨lt_blk hW2, (vcells hW2 0).trans rfl, (vcells hW2 1).trans rfl, (vcells hW2 2).trans rfl, (vcells hW2 3).trans rfl⟩)
          | ((with_reducible refine h1_ld ?_ rfl rfl HW.out.h ?_); (rfl))
          | ((with_reducible refine va_load ?_ rfl rfl va ?_); (rfl))
          | (go_at_call 69; (with_reducible refine (c2 _ HW.out.below).mono ?_); rintro e w3 ⟨rfl, h9⟩; have HW := Lib.hid (HW.out.up h9); clear h9))
        go_ret
        exact ⟨rfl, HW.out.below⟩
      | true =>
        go_wp2_with (first
          | (refine w_run ?_ (ei_1 (u := d.a) (v := d.b) (t := d.c) rfl rfl rfl) ?_; (rfl))
          | (refine t_store (cs := vA d.b) rfl rfl rfl rfl (heap_alloc_new wr _) (hiv _) rfl (hcv _) (vzero wr _) (Nat.le_refl _) ?_; intro W2 hb2 hW2 hO2 hz2; have HW := Lib.hid (HW.out.up hb2); have va : VAt W2 ⟨wr.heap.size, 0, none⟩ d.b := ⟨lt_blk hW2, (vcells hW2 0).trans rfl, (vcells hW2 1).trans rfl, (vcells hW2 2).trans rfl, (vcells hW2 3).trans rfl⟩)
          | ((with_reducible refine h1_ld ?_ rfl rfl HW.out.h ?_); (rfl))
          | ((with_reducible refine va_load ?_ rfl rfl va ?_); (rfl))
          | (go_at_call 69; (with_reducible refine (c2 _ HW.out.below).mono ?_); rintro e w3 ⟨rfl, h9⟩; have HW := Lib.hid (HW.out.up h9); clear h9))
        go_roundg (gk - 1)
        case measure => omega
        case rel => exact ⟨HW, .inr (.inr (.inl ⟨rfl, by omega, trivial, trivial⟩))⟩
    · cases h3 with
      | false =>
        go_wp2_with (first
          | (refine w_run ?_ (ei_2 (u := d.a) (v := d.b) (t := d.c) rfl rfl rfl) ?_; (rfl))
          | (refine t_store (cs := vA d.c) rfl rfl rfl rfl (heap_alloc_new wr _) (hiv _) rfl (hcv _) (vzero wr _) (Nat.le_refl _) ?_; intro W2 hb2 hW2 hO2 hz2; have HW := Lib.hid (HW.out.up hb2); have va : VAt W2 ⟨wr.heap.size, 0, none⟩ d.c := ⟨lt_blk hW2, (vcells hW2 0).trans rfl, (vcells hW2 1).trans rfl, (vcells hW2 2).trans rfl, (vcells hW2 3).trans rfl⟩)
          | ((with_reducible refine h1_ld ?_ rfl rfl HW.out.h ?_); (rfl))
          | ((with_reducible refine va_load ?_ rfl rfl va ?_); (rfl))
          | (go_at_call 69; (with_reducible refine (c3 _ HW.out.below).mono ?_); rintro e w3 ⟨rfl, h9⟩; have HW := Lib.hid (HW.out.up h9); clear h9))
        go_ret
        exact ⟨rfl, HW.out.below⟩
      | true =>
        go_wp2_with (first
          | (refine w_run ?_ (ei_2 (u := d.a) (v := d.b) (t := d.c) rfl rfl rfl) ?_; (rfl))
          | (refine t_store (cs := vA d.c) rfl rfl rfl rfl (heap_alloc_new wr _) (hiv _) rfl (hcv _) (vzero wr _) (Nat.le_refl _) ?_; intro W2 hb2 hW2 hO2 hz2; have HW := Lib.hid (HW.out.up hb2); have va : VAt W2 ⟨wr.heap.size, 0, none⟩ d.c := ⟨lt_blk hW2, (vcells hW2 0).trans rfl, (vcells hW2 1).trans rfl, (vcells hW2 2).trans rfl, (vcells hW2 3).trans rfl⟩)
          | ((with_reducible refine h1_ld ?_ rfl rfl HW.out.h ?_); (rfl))
          | ((with_reducible refine va_load ?_ rfl rfl va ?_); (rfl))
          | (go_at_call 69; (with_reducible refine (c3 _ HW.out.below).mono ?_); rintro e w3 ⟨rfl, h9⟩; have HW := Lib.hid (HW.out.up h9); clear h9))
        go_roundg (gk - 1)
        case measure => omega
        case rel => exact ⟨HW, .inr (.inr (.inr ⟨rfl, by omega, trivial, trivial, trivial⟩))⟩
    · go_wp2
      go_ret
      exact ⟨rfl, HW.out.below⟩
theorem three_new (w : World) (t : TypeId) (x y z : Value) : (w.alloc (.cells #[x, y, z] t)).cell? ⟨w.heap.size, 0, none⟩ = some x ∧ (w.alloc (.cells #[x, y, z] t)).cell? ⟨w.heap.size, 1, none⟩ = some y ∧ (w.alloc (.cells #[x, y, z] t)).cell? ⟨w.heap.size, 2, none⟩ = some z := ⟨vcells (heap_alloc_new w _) 0, vcells (heap_alloc_new w _) 1, vcells (heap_alloc_new w _) 2⟩
theorem ma_key {W : World} {g : Nat} {a : Ak} {t : TypeId} (h : W.heap[g]? = some (.cells (akA a) t (0, 0))) : (Instr.loadAt 26 (.pointer (some ⟨g, 2, none⟩))).run Tryz.prog W = .ok (.agg #[.string a.k.str, .int .i64 a.k.sym]) W :=
  run_loadAt_at (A := ⟨g, 2, none⟩) (cs := [.string a.k.str, .int .i64 a.k.sym]) (fun j u hu => by
    rw [Addr.add_mid, vcells h (2 + j)]
    match j, hu with
    | 0, hu => cases hu; rfl
    | 1, hu => cases hu; rfl
    | n + 2, hu => cases hu) Tryz.underlying26 rfl ksz
theorem ma_desc {W : World} {g : Nat} {a : Ak} {t : TypeId} (h : W.heap[g]? = some (.cells (akA a) t (0, 0))) : (Instr.loadAt 41 (.pointer (some ⟨g, 4, none⟩))).run Tryz.prog W = .ok (.agg a.d.cells) W :=
  run_loadAt_at (A := ⟨g, 4, none⟩) (cs := a.d.cells.toList) (fun j u hu => by
    rw [Addr.add_mid, vcells h (4 + j)]
    have hj : j < 16 := (List.getElem?_eq_some_iff.1 hu).1
    match j, hj, hu with
    | 0, _, hu => cases hu; rfl
    | 1, _, hu => cases hu; rfl
    | 2, _, hu => cases hu; rfl
    | 3, _, hu => cases hu; rfl
    | 4, _, hu => cases hu; rfl
    | 5, _, hu => cases hu; rfl
    | 6, _, hu => cases hu; rfl
    | 7, _, hu => cases hu; rfl
    | 8, _, hu => cases hu; rfl
    | 9, _, hu => cases hu; rfl
    | 10, _, hu => cases hu; rfl
    | 11, _, hu => cases hu; rfl
    | 12, _, hu => cases hu; rfl
    | 13, _, hu => cases hu; rfl
    | 14, _, hu => cases hu; rfl
    | 15, _, hu => cases hu; rfl
    | n + 16, h, _ => exact absurd h (by omega)) Tryz.underlying41 rfl dsz
set_option maxHeartbeats 8000000 in
set_option maxRecDepth 1000000 in
theorem may_d (A : Option Addr) (H : List Ob) (cap : Nat) (a : Ak) (w : World) (hH : HIn w A H cap) (hmH : mayH H = true) (hd : a.d.In) (h6 : a.m = 6) :
    Calls Tryz.prog 23 #[.agg #[.slice A H.length cap], .agg (akA a)] w fun e w' => e = .returned (.int .i64 (bif inB H a.n && askK H a.n then mayD H a else 2)) ∧ Below w.heap.size w w' := by
  have HS := Lib.hid (ma_start w A H.length cap a)
  obtain ⟨q0, q1, q2, q3, q4, q5, q6, q7, q8⟩ := HS.out.q
  have c8 := fun W => eight_o a.m W
  have cT := fun W => there_o H A cap a.n W
  have cW := fun W (hb : Below w.heap.size w W) => within_o A H cap a.d W (hH.up hb) hmH hd
  have cK := fun W => keyCheck_t a.k W
  have cD : ∀ W, Calls Tryz.prog 40 #[.agg a.d.cells] W fun e w' => e = .returned (.int .i64 (errI (chkQ a.d))) ∧ Below W.heap.size W w' := fun W => Check_q hd W
  unfold mayD
  generalize errI (chkQ a.d) = DE at *
  generalize (bif withinB H a.d then 0 else 9 : Int) = WE at *
  generalize keyE a.k = KE at *
  rw [eight_six h6] at c8
  have h65 : (a.m == 5) = false := by rw [h6]; rfl
  have h610 : (a.m == 10) = false := by rw [h6]; rfl
  have h66 : (a.m == 6) = true := by rw [h6]; rfl
  clear h6
  cases ei : inB H a.n with
  | false =>
    rw [ei] at cT
    clear hH cW cK cD
    go_enter Tryz.func23, Tryz.ntmps23
    go_wp2_with (first
      | (go_at_call 36; (with_reducible refine (c8 _).mono ?_); rintro e w1 ⟨rfl, rfl⟩)
      | (go_at_call 37; (with_reducible refine (cT _).mono ?_); rintro e w2 ⟨rfl, h9⟩; have HS := Lib.hid (HS.out.up h9); obtain ⟨q0, q1, q2, q3, q4, q5, q6, q7, q8⟩ := HS.out.q; clear h9))
    go_ret
    exact ⟨rfl, HS.out.below⟩
  | true =>
    rw [ei] at cT
    have hin := of_decide_eq_true (show decide (0 ≤ a.n ∧ a.n < (H.length : Int)) = true from ei)
    obtain ⟨k, hk⟩ := Int.eq_ofNat_of_zero_le hin.1
    have hkl : k < H.length := by have := hin.2; omega
    have eA : askK H a.n = plainK H[k].kind := by unfold askK; rw [hk, Int.toNat_natCast, List.getElem?_eq_getElem hkl]
    rw [eA]
    have cP := fun W => plain_o H[k] W
    obtain ⟨ad, rfl, hab, hof, _⟩ := hH.at hkl
    have hoc := of_back hof
    generalize H[k] = o at *
    have hcl := fun W (hb : Below w.heap.size w W) j u hu => (hb.cell (p := (ad.add (k * 18)).add j) (by rw [add_blk]; exact hab)).trans (hoc j u hu)
    have hkz : (k : Int) < (H.length : Int) := by omega
    have hk0 : (0 : Int) ≤ (k : Int) := by omega
    rw [hk] at q2 cT
    have HK := Lib.hid hk
    clear hk
    clear hH hin eA ei hof hoc hab
    cases ep : plainK o.kind with
    | false =>
      rw [ep] at cP
      clear cW cK cD
      go_enter Tryz.func23, Tryz.ntmps23
      go_wp2_with (first
        | (go_at_call 36; (with_reducible refine (c8 _).mono ?_); rintro e w1 ⟨rfl, rfl⟩)
        | (go_at_call 37; (with_reducible refine (cT _).mono ?_); rintro e w2 ⟨rfl, h9⟩; have HS := Lib.hid (HS.out.up h9); obtain ⟨q0, q1, q2, q3, q4, q5, q6, q7, q8⟩ := HS.out.q; rw [HK.out] at q2; have hc5 := hcl _ HS.out.below; clear h9)
        | ((with_reducible refine oa_load ?_ rfl rfl hc5 ?_); (rfl))
        | (go_at_call 38; (with_reducible refine (cP _).mono ?_); rintro e w3 ⟨rfl, h9⟩; have HS := Lib.hid (HS.out.up h9); obtain ⟨q0, q1, q2, q3, q4, q5, q6, q7, q8⟩ := HS.out.q; rw [HK.out] at q2; clear h9))
      go_ret
      exact ⟨rfl, HS.out.below⟩
    | true =>
      rw [ep] at cP
      go_enter Tryz.func23, Tryz.ntmps23
      go_upto_region 8 with (first
        | (go_at_call 36; (with_reducible refine (c8 _).mono ?_); rintro e w1 ⟨rfl, rfl⟩)
        | (go_at_call 37; (with_reducible refine (cT _).mono ?_); rintro e w2 ⟨rfl, h9⟩; have HS := Lib.hid (HS.out.up h9); obtain ⟨q0, q1, q2, q3, q4, q5, q6, q7, q8⟩ := HS.out.q; rw [HK.out] at q2; have hc5 := hcl _ HS.out.below; clear h9)
        | ((with_reducible refine oa_load ?_ rfl rfl hc5 ?_); (rfl))
        | (go_at_call 38; (with_reducible refine (cP _).mono ?_); rintro e w3 ⟨rfl, h9⟩; have HS := Lib.hid (HS.out.up h9); obtain ⟨q0, q1, q2, q3, q4, q5, q6, q7, q8⟩ := HS.out.q; rw [HK.out] at q2; clear h9))
      have hS := HS.out.up (Below.refl _ _).drew
      refine wp_region_held_drew (S := Ma w (some ad) H.length cap a) (by kernel_rfl) hS (fun hHeld => ?_)
      generalize World.drew _ = W0 at *
      refine hH_take (i := 0) (v := .pointer (some ⟨w.heap.size + 1, 2, none⟩)) (d := 36) (l2 := #[true, false, false, false, false, false, false, false, false, false, false, false, false]) rfl (by kernel_rfl) (by kernel_rfl) (by kernel_rfl) (fun _ _ _ h => h) (by kernel_rfl) ?_ (by assumption) rfl (by kernel_rfl) ?_
      · intro w hSw; go_simp; (try with_reducible rfl)
      simp only [List.set]
      refine hH_take (i := 1) (v := .agg #[.string a.k.str, .int .i64 a.k.sym]) (d := 37) (l2 := #[true, true, false, false, false, false, false, false, false, false, false, false, false]) rfl (by kernel_rfl) (by kernel_rfl) (by kernel_rfl) (fun _ _ _ h => h) (by kernel_rfl) ?_ (by assumption) rfl (by kernel_rfl) ?_
      · intro w hSw; exact ex_load_at (ma_key hSw.a) rfl rfl
      simp only [List.set]
      refine hH_take (i := 3) (v := .pointer (some ⟨w.heap.size + 1, 4, none⟩)) (d := 39) (l2 := #[true, true, false, true, false, false, false, false, false, false, false, false, false]) rfl (by kernel_rfl) (by kernel_rfl) (by kernel_rfl) (fun _ _ _ h => h) (by kernel_rfl) ?_ (by assumption) rfl (by kernel_rfl) ?_
      · intro w hSw; go_simp; (try with_reducible rfl)
      simp only [List.set]
      refine hH_take (i := 4) (v := .agg a.d.cells) (d := 40) (l2 := #[true, true, false, true, true, false, false, false, false, false, false, false, false]) rfl (by kernel_rfl) (by kernel_rfl) (by kernel_rfl) (fun _ _ _ h => h) (by kernel_rfl) ?_ (by assumption) rfl (by kernel_rfl) ?_
      · intro w hSw; exact ex_load_at (ma_desc hSw.a) rfl rfl
      simp only [List.set]
      refine hH_take (i := 6) (v := .agg #[.slice (some ad) H.length cap]) (d := 42) (l2 := #[true, true, false, true, true, false, true, false, false, false, false, false, false]) rfl (by kernel_rfl) (by kernel_rfl) (by kernel_rfl) (fun _ _ _ h => h) (by kernel_rfl) ?_ (by assumption) rfl (by kernel_rfl) ?_
      · intro w hSw; exact ex_load_at (h1_load hSw.h) rfl rfl
      simp only [List.set]
      refine hH_take (i := 7) (v := .pointer (some ⟨w.heap.size + 1, 4, none⟩)) (d := 43) (l2 := #[true, true, false, true, true, false, true, true, false, false, false, false, false]) rfl (by kernel_rfl) (by kernel_rfl) (by kernel_rfl) (fun _ _ _ h => h) (by kernel_rfl) ?_ (by assumption) rfl (by kernel_rfl) ?_
      · intro w hSw; go_simp; (try with_reducible rfl)
      simp only [List.set]
      refine hH_take (i := 8) (v := .agg a.d.cells) (d := 44) (l2 := #[true, true, false, true, true, false, true, true, true, false, false, false, false]) rfl (by kernel_rfl) (by kernel_rfl) (by kernel_rfl) (fun _ _ _ h => h) (by kernel_rfl) ?_ (by assumption) rfl (by kernel_rfl) ?_
      · intro w hSw; exact ex_load_at (ma_desc hSw.a) rfl rfl
      simp only [List.set]
      refine wpAnyH_ready (rs := [2]) (by kernel_rfl) (by simp) ?_
      refine AllReadyH.cons rfl (fun K hK => ?_) AllReadyH.nil
      go_simp
      go_at_call 39
      (with_reducible refine (cK _).mono ?_)
      rintro e w12 ⟨rfl, h9⟩
      have hS := hS.up h9
      clear h9
      refine hK.out _ _ hS (fun hHeld => ?_)
      clear hK K
      refine wpAnyH_ready (rs := [5]) (by kernel_rfl) (by simp) ?_
      refine AllReadyH.cons rfl (fun K hK => ?_) AllReadyH.nil
      go_simp
      go_at_call 40
      (with_reducible refine (cD _).mono ?_)
      rintro e w15 ⟨rfl, h9⟩
      have hS := hS.up h9
      clear h9
      refine hK.out _ _ hS (fun hHeld => ?_)
      clear hK K
      refine wpAnyH_ready (rs := [9]) (by kernel_rfl) (by simp) ?_
      refine AllReadyH.cons rfl (fun K hK => ?_) AllReadyH.nil
      go_simp
      go_at_call 41
      (with_reducible refine (cW _ hS.below).mono ?_)
      rintro e w19 ⟨rfl, h9⟩
      have hS := hS.up h9
      clear h9
      refine hK.out _ _ hS (fun hHeld => ?_)
      clear hK K
      refine wpAnyH_ready (rs := [10]) (by kernel_rfl) (by simp) ?_
      refine AllReadyH.cons rfl (fun K hK => ?_) AllReadyH.nil
      go_simp
      have hS := hS.up (vzero _ (.cells #[.int .i64 KE, .int .i64 DE, .int .i64 WE] 30))
      have hO := three_new w19 30 (.int .i64 KE) (.int .i64 DE) (.int .i64 WE)
      refine hK.out _ _ hS (fun hHeld => ?_)
      clear hK K
      refine wpAnyH_ready (rs := [11]) (by kernel_rfl) (by simp) ?_
      refine AllReadyH.cons rfl (fun K hK => ?_) AllReadyH.nil
      go_simp
      go_at_call 20
      (with_reducible refine (Or_3 _ KE DE WE _ hO.1 hO.2.1 hO.2.2).mono ?_)
      rintro e w2 ⟨rfl, rfl⟩
      refine hK.out _ _ hS (fun hHeld => ?_)
      clear hK K
      refine hH_take (i := 12) (v := .int .i64 (orE KE (orE DE WE))) (d := 4) (l2 := #[true, true, true, true, true, true, true, true, true, true, true, true, true]) rfl (by kernel_rfl) (by kernel_rfl) (by kernel_rfl) (fun _ _ _ h => h) (by kernel_rfl) ?_ (by assumption) rfl (by kernel_rfl) ?_
      · intro w hSw; go_simp; (try with_reducible rfl)
      simp only [List.set]
      refine wpAnyH_done (by kernel_rfl) ?_ _
      go_wp2_with (fail)
      go_ret
      exact ⟨rfl, hS.below⟩
/-- may, whatever is asked -/
theorem may_any12 (A : Option Addr) (H : List Ob) (cap : Nat) (a : Ak) (w : World) (hH : HIn w A H cap) (hmH : mayH H = true) (hv : a.v.In) (hd : a.d.In) :
    Calls Tryz.prog 23 #[.agg #[.slice A H.length cap], .agg (akA a)] w fun e w' => e = .returned (.int .i64 (mayA H a)) ∧ Below w.heap.size w w' := by
  by_cases c : a.m = 6
  · have e : mayA H a = bif inB H a.n && askK H a.n then mayD H a else 2 := by unfold mayA; rw [beq_iff_eq.2 c]; rfl
    rw [e]
    exact may_d A H cap a w hH hmH hd c
  · have e : mayA H a = mayE H a := by unfold mayA; rw [beq_eq_false_iff_ne.2 c]; rfl
    rw [e]
    exact may_o A H cap a w hH hmH hv (beq_eq_false_iff_ne.2 c)
end Go.Proofs.YtlfbflclefndjaaGreatDoor.S
