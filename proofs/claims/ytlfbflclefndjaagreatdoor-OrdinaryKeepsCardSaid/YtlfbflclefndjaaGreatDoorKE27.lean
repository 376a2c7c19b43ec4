/-
  ordinary: defineOwnProperty.
-/
import Derived.Test.YtlfbflclefndjaaGreatDoorKE26
import Derived.Test.YtlfbflclefndjaaGreatDoorKE22
namespace Go.Proofs.YtlfbflclefndjaaGreatDoor.S
open Go.RowKit Go.Lib Fl
open Classical

theorem ak_desc {W : World} {B m g : Nat} {p : Addr} {a : Ak} {t : TypeId} (h : W.heap[g]? = some (.cells (asA B m p a) t (0, 0))) : (Instr.loadAt 41 (.pointer (some ⟨g, 6, none⟩))).run Tryz.prog W = .ok (.agg a.d.cells) W :=
  run_loadAt_at (A := ⟨g, 6, none⟩) (cs := a.d.cells.toList) (fun j u hu => by
    rw [Addr.add_mid, vcells h (6 + j)]
    have hj : j < 16 := (List.getElem?_eq_some_iff.1 hu).1
    match j, hj, hu with
    | 0, _, hu => cases hu; rfl
    | 1, _, hu => cases hu; rfl
    | 2, _, hu => cases hu; rfl
    | 3, _, hu => cases hu; rfl
    | 4, _, hu => cases hu; rfl
    | 5, _, hu => cases hu; rfl
    | 6, _, hu => cases hu; rfl
    | 7, _, hu => cases hu; rfl
    | 8, _, hu => cases hu; rfl
    | 9, _, hu => cases hu; rfl
    | 10, _, hu => cases hu; rfl
    | 11, _, hu => cases hu; rfl
    | 12, _, hu => cases hu; rfl
    | 13, _, hu => cases hu; rfl
    | 14, _, hu => cases hu; rfl
    | 15, _, hu => cases hu; rfl
    | n + 16, h, _ => exact absurd h (by omega)) Tryz.underlying41 rfl dsz
section
variable {ops : Array Oper} {rest : List Oper} {o : Oper} {a : Act} {w : World} {Q : Exit → Act → World → Prop} {x y : Operand} {t : TypeId}
/-- a slice of properties stored into a row -/
theorem sp_store {cs : List Value} {g m n c : Nat} {A : Option Addr} (hgd : o.guard = none) (ho : o.op = .store 35 x y) (hx : a.eval x = .pointer (some ⟨g, m, none⟩)) (hy : a.eval y = .slice A n c) (hg : w.heap[g]? = some (.cells cs.toArray t (0, 0))) (hm : m < cs.length)
    (h : ∀ W : World, W.heap[g]? = some (.cells (cs.take m ++ ([.slice A n c] : List Value) ++ cs.drop (m + 1)).toArray t (0, 0)) → w.grownBy W (some g) → W.heap.size = w.heap.size → wpList Tryz.prog ops Q rest (a.put o.dst undef) W) : wpList Tryz.prog ops Q (o :: rest) a w := by
  have hc : w.cell? ⟨g, m, none⟩ = some cs[m] := by rw [vcells hg m]; simp [hm]
  have hf : w.frozen? ⟨g, m, none⟩ = false := by simp [World.frozen?, hg]
  refine wpList_plain hgd fun K hK => ?_
  have hr : (Instr.storeAt 35 (.pointer (some ⟨g, m, none⟩)) (.slice A n c)).run Tryz.prog w = .ok () (w.setCell ⟨g, m, none⟩ (.slice A n c)) := by simp [go_sem, hc, hf]
  unfold Oper.wp execOp
  simp only [ho, hx, hy, hr, Sem.run_bind, Sem.run_pure, Result.andThen_ok]
  have e : cs.toArray.setIfInBounds m (.slice A n c) = (cs.take m ++ ([.slice A n c] : List Value) ++ cs.drop (m + 1)).toArray := by
    rw [List.setIfInBounds_toArray, List.set_eq_take_append_cons_drop, if_pos hm]
    simp
  refine hK _ _ (h _ (e ▸ vset1 hg m _) ⟨rfl, rfl, rfl, by simp, fun k _ hk => Below.heap_setCell w ⟨g, m, none⟩ _ k (fun e => hk (by rw [e]))⟩ (by simp))
theorem run_build_fail (w : World) : (Instr.build 44 #[(0, .int .u8 3), (6, .int .u8 2), (7, .string (⟨#[116, 111, 111, 32, 109, 97, 110, 121]⟩ : ByteArray))]).run Tryz.prog w = .ok (.agg (oqA failO)) w := by kernel_rfl
theorem eb_fail (ho : o.op = .build 44 #[(0, .const (.int .u8 3)), (6, .const (.int .u8 2)), (7, .const (.string (⟨#[116, 111, 111, 32, 109, 97, 110, 121]⟩ : ByteArray)))]) : (execOp a.eval o).run Tryz.prog w = .ok (.value (.agg (oqA failO))) w := by
  unfold execOp
  simp only [ho, List.map_toArray, List.map_cons, List.map_nil, Act.eval, run_build_fail, Sem.run_bind, Sem.run_pure, Result.andThen_ok]
end
/-- with a block g of its own that holds a descriptor -/
structure Md (w : World) (B m k g : Nat) (a : Ak) (o : Ob) (D : Dq) (W : World) : Prop where
  mw : Mw w B m ⟨B, k * 18, none⟩ a W
  v : W.heap[g]? = some (.cells D.cells 41 (0, 0))
  of : OF W ⟨B, k * 18, none⟩ o
theorem Md.up {w : World} {B m k g : Nat} {a : Ak} {o : Ob} {D : Dq} {W W' : World} (h : Md w B m k g a o D W) (hb : Below W.heap.size W W') : Md w B m k g a o D W' := ⟨h.mw.up hb, vblkn hb h.v, h.of.up hb⟩
/-- what comes of defineOwnProperty, in memory -/
def DefPost (B k : Nat) (a : Ak) (o : Ob) (M : List Ob) (w : World) (e : Ending) (w' : World) : Prop := ∃ q p, e = .returned (.agg (oqA q)) ∧ DefTo o a q p ∧ Chg w B (M.set k p) w' ∧ HRest (M.set k p) w'
def PutOk (L : List Pq) (p : Pq) (w : World) (e : Ending) (w' : World) : Prop := ∃ A c, e = .returned (.tuple #[.slice A (putT L p).length c, .int .i64 0]) ∧ (Cap A (putT L p).length c ∧ PR w' A (putT L p) ∧ ∀ a, A = some a → ∃ cs, w'.heap[a.block]? = some (.cells cs 68 (0, 0))) ∧ Below w.heap.size w w'
theorem put_yes {A : Option Addr} {L : List Pq} {cap : Nat} {p : Pq} {w : World} (hT : TabIn w A L cap) (hp : p.In) (hok : p.Ok) (hn : cutN L p.k ≠ 1024) : Calls Tryz.prog 74 #[.slice A L.length cap, .agg #[.string p.k.str, .int .i64 p.k.sym], .agg p.d.cells] w (PutOk L p w) := by
  have hz : putE L p = 0 := by unfold putE; rw [if_pos (mayT_ok.2 hok), if_neg hn]
  refine (Put_t A L cap p w hT hp).mono fun e w' ⟨v, he, hO, hb⟩ => ?_
  rw [hz] at he
  have h := hO hz
  obtain ⟨A2, c, rfl, h1, h2, h3, h4⟩ := h.out
  exact ⟨A2, c, he, ⟨⟨h2, by unfold maxLen at h3; omega, h4⟩, h1, fun a ha => h.blk a _ c (by rw [ha])⟩, hb⟩
theorem put_many {A : Option Addr} {L : List Pq} {cap : Nat} {p : Pq} {w : World} (hT : TabIn w A L cap) (hp : p.In) (hok : p.Ok) (hn : cutN L p.k = 1024) : Calls Tryz.prog 74 #[.slice A L.length cap, .agg #[.string p.k.str, .int .i64 p.k.sym], .agg p.d.cells] w fun e w' => ∃ v, e = .returned (.tuple #[v, .int .i64 100]) ∧ Below w.heap.size w w' := by
  have hz : putE L p = 100 := by unfold putE; rw [if_pos (mayT_ok.2 hok), if_pos hn]
  refine (Put_t A L cap p w hT hp).mono fun e w' ⟨v, he, hO, hb⟩ => ?_
  rw [hz] at he
  exact ⟨v, he, hb⟩
/-- what a definition's way hangs on -/
structure DefF (w : World) (B m k : Nat) (a : Ak) (o : Ob) (M : List Ob) (R C : Bool) (D X : Dq) (E : Int) (L2 : List Pq) : Prop where
  own : ∀ W, Below w.heap.size w W → Calls Tryz.prog 72 #[.agg (asA B m ⟨B, k * 18, none⟩ a)] W fun e w' => e = .returned (.tuple #[.agg D.cells, .bool R]) ∧ Below W.heap.size W w'
  app : ∀ W, Calls Tryz.prog 73 #[.bool o.ext, .agg a.d.cells, .bool R, .agg D.cells] W fun e w' => e = .returned (.tuple #[.agg X.cells, .bool C, .int .i64 E]) ∧ Below W.heap.size W w'
  no : C = false → ∀ w', Chg w B M w' → HRest M w' → DefPost B k a o M w (.returned (.agg (oqA (yesO false)))) w'
  many : C = true → cutN o.props a.k = 1024 → ∀ w', Chg w B M w' → HRest M w' → DefPost B k a o M w (.returned (.agg (oqA failO))) w'
  putm : C = true → cutN o.props a.k = 1024 → ∀ W, Below w.heap.size w W → Calls Tryz.prog 74 #[.slice o.pa o.props.length o.pc, .agg #[.string a.k.str, .int .i64 a.k.sym], .agg X.cells] W fun e w' => ∃ v, e = .returned (.tuple #[v, .int .i64 100]) ∧ Below W.heap.size W w'
  yes : C = true → cutN o.props a.k ≠ 1024 → ∀ A c w', Cap A L2.length c → Chg w B (M.set k (o.as o.proto o.ext A c L2)) w' → HRest (M.set k (o.as o.proto o.ext A c L2)) w' → DefPost B k a o M w (.returned (.agg (oqA (yesO true)))) w'
  puty : C = true → cutN o.props a.k ≠ 1024 → ∀ W, Below w.heap.size w W → Calls Tryz.prog 74 #[.slice o.pa o.props.length o.pc, .agg #[.string a.k.str, .int .i64 a.k.sym], .agg X.cells] W fun e w' => ∃ A c, e = .returned (.tuple #[.slice A L2.length c, .int .i64 0]) ∧ (Cap A L2.length c ∧ PR w' A L2 ∧ ∀ a, A = some a → ∃ cs, w'.heap[a.block]? = some (.cells cs 68 (0, 0))) ∧ Below W.heap.size W w'
theorem def_facts (B m k : Nat) (a : Ak) (o : Ob) (M : List Ob) (w : World) (hof : OF w ⟨B, k * 18, none⟩ o) (hk : k < M.length) (ho : M[k] = o) (hT : TabIn w o.pa o.props o.pc) (hky : mayKy a.k) (hki : KyIn a.k) (hd : a.d.In) : ∃ R C D X E L2, DefF w B m k a o M R C D X E L2 := by
  have hni : (fndD o.props a.k).In := fnd_in hT.inn a.k
  have hsame : M.set k o = M := set_self hk ho.symm
  refine ⟨(findT o.props a.k).isSome, (compatQ o.ext a.d (findT o.props a.k).isSome (fndD o.props a.k)).1, fndD o.props a.k, applyQ o.ext a.d (findT o.props a.k).isSome (fndD o.props a.k), (compatQ o.ext a.d (findT o.props a.k).isSome (fndD o.props a.k)).2, putT o.props ⟨a.k, applyQ o.ext a.d (findT o.props a.k).isSome (fndD o.props a.k)⟩, ?_⟩
  refine ⟨fun W hb => own_o B m k a o W (hof.up hb) (hT.up hb) hky, fun W => apply_q hd hni W, fun h w' hC hR => ⟨yesO false, o, rfl, ⟨fun _ => ⟨rfl, rfl⟩, fun g => ?_, fun g => ?_⟩, by rw [hsame]; exact hC, by rw [hsame]; exact hR⟩, fun h h2 w' hC hR => ⟨failO, o, rfl, ⟨fun g => ?_, fun _ _ => ⟨rfl, rfl⟩, fun _ g => absurd h2 g⟩, by rw [hsame]; exact hC, by rw [hsame]; exact hR⟩, fun h h2 W hb => ?_, fun h h2 A c w' hc hC hR => ⟨yesO true, _, rfl, ⟨fun g => ?_, fun _ g => absurd g h2, fun _ _ => ⟨rfl, A, c, hc, rfl⟩⟩, hC, hR⟩, fun h h2 W hb => ?_⟩
  · rw [h] at g; cases g
  · rw [h] at g; cases g
  · rw [h] at g; cases g
  · obtain ⟨g1, g2⟩ := def_ok hd hni hky h
    have := put_many (p := ⟨a.k, applyQ o.ext a.d (findT o.props a.k).isSome (fndD o.props a.k)⟩) (hT.up hb) ⟨hki, g2⟩ g1 h2
    exact this
  · rw [h] at g; cases g
  · obtain ⟨g1, g2⟩ := def_ok hd hni hky h
    have := put_yes (p := ⟨a.k, applyQ o.ext a.d (findT o.props a.k).isSome (fndD o.props a.k)⟩) (hT.up hb) ⟨hki, g2⟩ g1 h2
    exact this
set_option maxHeartbeats 8000000 in
set_option maxRecDepth 1000000 in
theorem define_o (B m k : Nat) (a : Ak) (o : Ob) (M : List Ob) (w : World) (hB : w.heap[B]? = some (.cells (hcl M).toArray 37 (0, 0))) (hk : k < M.length) (ho : M[k] = o) (hR : HRest M w) (hT : TabIn w o.pa o.props o.pc) (hky : mayKy a.k) (hki : KyIn a.k) (hd : a.d.In) :
    Calls Tryz.prog 50 #[.agg (asA B m ⟨B, k * 18, none⟩ a)] w (DefPost B k a o M w) := by
  have HS := Lib.hid (mw_start w B m ⟨B, k * 18, none⟩ a)
  have hofw : OF w ⟨B, k * 18, none⟩ o := ho ▸ of_hcl hB hk
  obtain ⟨R, C, D, X, E, L2, F⟩ := def_facts B m k a o M w hofw hk ho hT hky hki hd
  have cO := F.own
  have cAp := F.app
  have HF := Lib.hid F
  have cA := fun b W => answer_o b W
  have hdi := dc_size
  have hlen : k * 18 + 6 < (hcl M).length := by rw [hcl_len]; omega
  have HP := Lib.hid (fun (A : Option Addr) (c : Nat) => hcl_patch (j := 6) (l := [.slice A L2.length c]) (o := o.as o.proto o.ext A c L2) hk (by simp) (by rw [ho]; rfl))
  have HB := Lib.hid hB
  have HR := Lib.hid hR
  have HO := Lib.hid hofw
  have HBL := Lib.hid (lt_blk hB)
  clear F hB hR hofw hT hky hki hd hk ho
  go_enter Tryz.func50, Tryz.ntmps50
  go_upto_region 2 with (first
    | ((with_reducible refine as_ld ?_ rfl rfl HS.out.a ?_); (rfl))
    | (go_at_call 72; (with_reducible refine (cO _ HS.out.below).mono ?_); rintro e w1 ⟨rfl, h9⟩; have HS := Lib.hid (HS.out.up h9); clear h9)
    | (refine t_store (cs := D.cells) rfl rfl rfl rfl (heap_alloc_new w1 _) (hdi D) rfl (dc_one D) (vzero w1 _) (Nat.le_refl _) ?_; intro W2 hb2 hW2 hO2 hz2; have HD : Hid (Md w B m k w1.heap.size a o D W2) := Lib.hid ⟨HS.out.up hb2, hW2, HO.out.up (HS.out.up hb2).below⟩; clear hb2 hW2 hO2 hz2))
  generalize w1.heap.size = g3 at *
  go_cut [5, 6] from 7 (fun qa ra wx => ∃ g : Nat, qa = .pointer (some ⟨g, 0, none⟩) ∧ ra = .bool C ∧ Hid (Md w B m k g a o X wx))
  case first =>
    have hS : Md w B m k g3 a o D (World.drew _) := HD.out.up (Below.refl _ _).drew
    refine wp_region_held_drew (S := Md w B m k g3 a o D) (by kernel_rfl) hS (fun hHeld => ?_)
    generalize World.drew W2 = W0 at *
    refine hH_take (i := 0) (v := .pointer (some ⟨w.heap.size, 1, none⟩)) (d := 16) (l2 := #[true, false, false, false, false, false, false, false, false, false, false, false, false, false, false, false, false, false, false]) rfl (by kernel_rfl) (by kernel_rfl) (by kernel_rfl) (fun _ _ _ h => h) (by kernel_rfl) ?_ (by assumption) rfl (by kernel_rfl) ?_
    · intro w hSw; go_simp; (try with_reducible rfl)
    simp only [List.set]
    refine hH_take (i := 1) (v := .pointer (some ⟨B, k * 18, none⟩)) (d := 17) (l2 := #[true, true, false, false, false, false, false, false, false, false, false, false, false, false, false, false, false, false, false]) rfl (by kernel_rfl) (by kernel_rfl) (by kernel_rfl) (fun _ _ _ h => h) (by kernel_rfl) ?_ (by assumption) rfl (by kernel_rfl) ?_
    · intro w hSw; have q := hSw.mw.p; go_simp; (try with_reducible rfl)
    simp only [List.set]
    refine hH_take (i := 2) (v := ?_) (d := 18) (l2 := #[true, true, true, false, false, false, false, false, false, false, false, false, false, false, false, false, false, false, false]) rfl (by kernel_rfl) (by kernel_rfl) (by kernel_rfl) (fun _ _ _ h => h) (by kernel_rfl) ?_ (by assumption) rfl (by kernel_rfl) ?_
    rotate_left
    · intro w hSw; (try dsimp only at hSw); go_simp; (try with_reducible rfl)
    simp only [List.set]
    refine hH_take (i := 3) (v := ?_) (d := 19) (l2 := #[true, true, true, true, false, false, false, false, false, false, false, false, false, false, false, false, false, false, false]) rfl (by kernel_rfl) (by kernel_rfl) (by kernel_rfl) (fun _ _ _ h => h) (by kernel_rfl) ?_ (by assumption) rfl (by kernel_rfl) ?_
    rotate_left
    · intro w hSw; (try dsimp only at hSw); go_simp; (try with_reducible rfl)
    simp only [List.set]
    refine hH_take (i := 4) (v := .bool o.ext) (d := 20) (l2 := #[true, true, true, true, true, false, false, false, false, false, false, false, false, false, false, false, false, false, false]) rfl (by kernel_rfl) (by kernel_rfl) (by kernel_rfl) (fun _ _ _ h => h) (by kernel_rfl) ?_ (by assumption) rfl (by kernel_rfl) ?_
    · intro w hSw; have q := hSw.of.ext; dsimp only at q; go_simp; (try with_reducible rfl)
    simp only [List.set]
    refine hH_take (i := 5) (v := .pointer (some ⟨w.heap.size, 2, none⟩)) (d := 21) (l2 := #[true, true, true, true, true, true, false, false, false, false, false, false, false, false, false, false, false, false, false]) rfl (by kernel_rfl) (by kernel_rfl) (by kernel_rfl) (fun _ _ _ h => h) (by kernel_rfl) ?_ (by assumption) rfl (by kernel_rfl) ?_
    · intro w hSw; go_simp; (try with_reducible rfl)
    simp only [List.set]
    refine hH_take (i := 6) (v := .pointer (some ⟨w.heap.size, 6, none⟩)) (d := 22) (l2 := #[true, true, true, true, true, true, true, false, false, false, false, false, false, false, false, false, false, false, false]) rfl (by kernel_rfl) (by kernel_rfl) (by kernel_rfl) (fun _ _ _ h => h) (by kernel_rfl) ?_ (by assumption) rfl (by kernel_rfl) ?_
    · intro w hSw; go_simp; (try with_reducible rfl)
    simp only [List.set]
    refine hH_take (i := 7) (v := .agg a.d.cells) (d := 23) (l2 := #[true, true, true, true, true, true, true, true, false, false, false, false, false, false, false, false, false, false, false]) rfl (by kernel_rfl) (by kernel_rfl) (by kernel_rfl) (fun _ _ _ h => h) (by kernel_rfl) ?_ (by assumption) rfl (by kernel_rfl) ?_
    · intro w hSw; exact ex_load_at (ak_desc hSw.mw.a) rfl rfl
    simp only [List.set]
    refine hH_take (i := 8) (v := .bool R) (d := 24) (l2 := #[true, true, true, true, true, true, true, true, true, false, false, false, false, false, false, false, false, false, false]) rfl (by kernel_rfl) (by kernel_rfl) (by kernel_rfl) (fun _ _ _ h => h) (by kernel_rfl) ?_ (by assumption) rfl (by kernel_rfl) ?_
    · intro w hSw; go_simp; (try with_reducible rfl)
    simp only [List.set]
    refine hH_take (i := 9) (v := .agg D.cells) (d := 25) (l2 := #[true, true, true, true, true, true, true, true, true, true, false, false, false, false, false, false, false, false, false]) rfl (by kernel_rfl) (by kernel_rfl) (by kernel_rfl) (fun _ _ _ h => h) (by kernel_rfl) ?_ (by assumption) rfl (by kernel_rfl) ?_
    · intro w hSw; exact ex_load_at (d2_load hSw.v) rfl rfl
    simp only [List.set]
    refine wpAnyH_ready (rs := [10, 15]) (by kernel_rfl) (by simp) ?_
    refine (AllReadyH.cons rfl (fun K hK => ?_) (AllReadyH.cons rfl (fun K hK => ?_) AllReadyH.nil))
    · skip
      go_simp
      go_at_call 73
      (with_reducible refine (cAp _).mono ?_)
      rintro e w12 ⟨rfl, h9⟩
      have hS := hS.up h9
      refine hK.out _ _ hS (fun hHeld => ?_)
      clear hK K
      refine hH_take (i := 11) (v := .tuple #[.agg X.cells, .bool C, .int .i64 E]) (d := 15) (l2 := #[true, true, true, true, true, true, true, true, true, true, true, true, false, false, false, false, false, false, false]) rfl (by kernel_rfl) (by kernel_rfl) (by kernel_rfl) (fun _ _ _ h => h) (by kernel_rfl) ?_ (by assumption) rfl (by kernel_rfl) ?_
      · intro w hSw; go_simp; (try with_reducible rfl)
      simp only [List.set]
      refine hH_take (i := 12) (v := .agg X.cells) (d := 27) (l2 := #[true, true, true, true, true, true, true, true, true, true, true, true, true, false, false, false, false, false, false]) rfl (by kernel_rfl) (by kernel_rfl) (by kernel_rfl) (fun _ _ _ h => h) (by kernel_rfl) ?_ (by assumption) rfl (by kernel_rfl) ?_
      · intro w hSw; go_simp; (try with_reducible rfl)
      simp only [List.set]
      refine hH_take (i := 13) (v := .bool C) (d := 28) (l2 := #[true, true, true, true, true, true, true, true, true, true, true, true, true, true, false, false, false, false, false]) rfl (by kernel_rfl) (by kernel_rfl) (by kernel_rfl) (fun _ _ _ h => h) (by kernel_rfl) ?_ (by assumption) rfl (by kernel_rfl) ?_
      · intro w hSw; go_simp; (try with_reducible rfl)
      simp only [List.set]
      refine hH_take (i := 14) (v := .int .i64 E) (d := 29) (l2 := #[true, true, true, true, true, true, true, true, true, true, true, true, true, true, true, false, false, false, false]) rfl (by kernel_rfl) (by kernel_rfl) (by kernel_rfl) (fun _ _ _ h => h) (by kernel_rfl) ?_ (by assumption) rfl (by kernel_rfl) ?_
      · intro w hSw; go_simp; (try with_reducible rfl)
      simp only [List.set]
      refine wpAnyH_ready (rs := [15]) (by kernel_rfl) (by simp) ?_
      refine AllReadyH.cons rfl (fun K hK => ?_) AllReadyH.nil
      refine r_val (by kernel_rfl) (ea_d rfl) rfl ?_
      simp only [List.set]
      have h18 := heap_alloc_new w12 (.cells (dz 0).cells 41)
      have hS2 := hS.up (vzero w12 (.cells (dz 0).cells 41))
      refine hK.out _ _ hS2 (fun hHeld => ?_)
      clear hK K
      refine wpAnyH_ready (rs := [16]) (by kernel_rfl) (by simp) ?_
      refine AllReadyH.cons rfl (fun K hK => ?_) AllReadyH.nil
      refine r_store (by kernel_rfl) rfl rfl rfl h18 (hdi X) rfl (dc_one X) rfl ?_
      have hbs : Below w12.heap.size w12 ((w12.alloc (.cells (dz 0).cells 41)).setRow w12.heap.size X.cells) := below_row (vzero w12 (.cells (dz 0).cells 41)) (Nat.le_refl _) _
      have hS3 := hS.up hbs
      have h18b : ((w12.alloc (.cells (dz 0).cells 41)).setRow w12.heap.size X.cells).heap[w12.heap.size]? = some (.cells X.cells 41 (0, 0)) := setRow_heap _ _ _ _ _ _ h18
      refine hK.out _ _ hS3 (fun hHeld => ?_)
      clear hK K
      refine hH_take (i := 17) (v := .bool C) (d := 6) (l2 := #[true, true, true, true, true, true, true, true, true, true, true, true, true, true, true, true, true, true, false]) rfl (by kernel_rfl) (by kernel_rfl) (by kernel_rfl) (fun _ _ _ h => h) (by kernel_rfl) ?_ (by assumption) rfl (by kernel_rfl) ?_
      · intro w hSw; go_simp; (try with_reducible rfl)
      simp only [List.set]
      refine hH_take (i := 18) (v := .int .i64 E) (d := 7) (l2 := #[true, true, true, true, true, true, true, true, true, true, true, true, true, true, true, true, true, true, true]) rfl (by kernel_rfl) (by kernel_rfl) (by kernel_rfl) (fun _ _ _ h => h) (by kernel_rfl) ?_ (by assumption) rfl (by kernel_rfl) ?_
      · intro w hSw; go_simp; (try with_reducible rfl)
      simp only [List.set]
      refine wpAnyH_done (by kernel_rfl) ?_ _
      go_wp2_with (fail)
      go_meet
      case rel => exact ⟨_, rfl, rfl, Lib.hid ⟨hS3.mw, h18b, hS3.of⟩⟩
    · skip
      refine r_val (by kernel_rfl) (ea_d rfl) rfl ?_
      simp only [List.set]
      have h18 := heap_alloc_new W0 (.cells (dz 0).cells 41)
      have hSa := hS.up (vzero W0 (.cells (dz 0).cells 41))
      refine hK.out _ _ hSa (fun hHeld => ?_)
      clear hK K
      refine wpAnyH_ready (rs := [10]) (by kernel_rfl) (by simp) ?_
      refine AllReadyH.cons rfl (fun K hK => ?_) AllReadyH.nil
      go_simp
      go_at_call 73
      (with_reducible refine (cAp _).mono ?_)
      rintro e w12 ⟨rfl, h9⟩
      have hSb := hSa.up h9
      have h18b := vblkn h9 h18
      refine hK.out _ _ hSb (fun hHeld => ?_)
      clear hK K
      refine hH_take (i := 11) (v := .tuple #[.agg X.cells, .bool C, .int .i64 E]) (d := 15) (l2 := #[true, true, true, true, true, true, true, true, true, true, true, true, false, false, false, true, false, false, false]) rfl (by kernel_rfl) (by kernel_rfl) (by kernel_rfl) (fun _ _ _ h => h) (by kernel_rfl) ?_ (by assumption) rfl (by kernel_rfl) ?_
      · intro w hSw; go_simp; (try with_reducible rfl)
      simp only [List.set]
      refine hH_take (i := 12) (v := .agg X.cells) (d := 27) (l2 := #[true, true, true, true, true, true, true, true, true, true, true, true, true, false, false, true, false, false, false]) rfl (by kernel_rfl) (by kernel_rfl) (by kernel_rfl) (fun _ _ _ h => h) (by kernel_rfl) ?_ (by assumption) rfl (by kernel_rfl) ?_
      · intro w hSw; go_simp; (try with_reducible rfl)
      simp only [List.set]
      refine hH_take (i := 13) (v := .bool C) (d := 28) (l2 := #[true, true, true, true, true, true, true, true, true, true, true, true, true, true, false, true, false, false, false]) rfl (by kernel_rfl) (by kernel_rfl) (by kernel_rfl) (fun _ _ _ h => h) (by kernel_rfl) ?_ (by assumption) rfl (by kernel_rfl) ?_
      · intro w hSw; go_simp; (try with_reducible rfl)
      simp only [List.set]
      refine hH_take (i := 14) (v := .int .i64 E) (d := 29) (l2 := #[true, true, true, true, true, true, true, true, true, true, true, true, true, true, true, true, false, false, false]) rfl (by kernel_rfl) (by kernel_rfl) (by kernel_rfl) (fun _ _ _ h => h) (by kernel_rfl) ?_ (by assumption) rfl (by kernel_rfl) ?_
      · intro w hSw; go_simp; (try with_reducible rfl)
      simp only [List.set]
      refine wpAnyH_ready (rs := [16]) (by kernel_rfl) (by simp) ?_
      refine AllReadyH.cons rfl (fun K hK => ?_) AllReadyH.nil
      refine r_store (by kernel_rfl) rfl rfl rfl h18b (hdi X) rfl (dc_one X) rfl ?_
      have hbs : Below W0.heap.size W0 (w12.setRow W0.heap.size X.cells) := below_row (vafter h9) (Nat.le_refl _) _
      have hS3 := hS.up hbs
      have h18c : (w12.setRow W0.heap.size X.cells).heap[W0.heap.size]? = some (.cells X.cells 41 (0, 0)) := setRow_heap _ _ _ _ _ _ h18b
      refine hK.out _ _ hS3 (fun hHeld => ?_)
      clear hK K
      refine hH_take (i := 17) (v := .bool C) (d := 6) (l2 := #[true, true, true, true, true, true, true, true, true, true, true, true, true, true, true, true, true, true, false]) rfl (by kernel_rfl) (by kernel_rfl) (by kernel_rfl) (fun _ _ _ h => h) (by kernel_rfl) ?_ (by assumption) rfl (by kernel_rfl) ?_
      · intro w hSw; go_simp; (try with_reducible rfl)
      simp only [List.set]
      refine hH_take (i := 18) (v := .int .i64 E) (d := 7) (l2 := #[true, true, true, true, true, true, true, true, true, true, true, true, true, true, true, true, true, true, true]) rfl (by kernel_rfl) (by kernel_rfl) (by kernel_rfl) (fun _ _ _ h => h) (by kernel_rfl) ?_ (by assumption) rfl (by kernel_rfl) ?_
      · intro w hSw; go_simp; (try with_reducible rfl)
      simp only [List.set]
      refine wpAnyH_done (by kernel_rfl) ?_ _
      go_wp2_with (fail)
      go_meet
      case rel => exact ⟨_, rfl, rfl, Lib.hid ⟨hS3.mw, h18c, hS3.of⟩⟩
  case rest =>
    obtain ⟨g, rfl, rfl, HK⟩ := hcut
    have hr := HK.out.mw.r
    have hbw := HK.out.mw.below
    cases C with
    | false =>
      go_wp2_with (first
        | (go_at_call 70; (with_reducible refine (cA _ _).mono ?_); rintro e w4 ⟨rfl, h9⟩; have hr := vblkn h9 hr; have hbw := vb hbw h9; clear h9)
        | (refine oq_store (q := yesO false) rfl rfl rfl rfl hr rfl hbw (Nat.le_add_right _ 1) ?_; intro W6 hb6 hW6 hO6 hz6))
      exact oq_end Tryz.results50 rfl hW6 (HF.out.no rfl _ (chg_same hb6 HB.out) (HR.out.up hb6))
    | true =>
      by_cases hc : cutN o.props a.k = 1024
      · have cP := HF.out.putm rfl hc
        have HX := Lib.hid (HF.out.many rfl hc)
        clear hc
        go_upto_region 5 with (fail)
        have hS := HK.out.up (Below.refl _ _).drew
        refine wp_region_held_drew (S := Md w B m k g a o X) (by kernel_rfl) hS (fun hHeld => ?_)
        generalize World.drew _ = W0 at *
        refine hH_take (i := 0) (v := .pointer (some ⟨w.heap.size, 1, none⟩)) (d := 34) (l2 := #[true, false, false, false, false, false, false, false, false, false, false, false, false, false, false]) rfl (by kernel_rfl) (by kernel_rfl) (by kernel_rfl) (fun _ _ _ h => h) (by kernel_rfl) ?_ (by assumption) rfl (by kernel_rfl) ?_
        · intro w hSw; go_simp; (try with_reducible rfl)
        simp only [List.set]
        refine hH_take (i := 1) (v := .pointer (some ⟨B, k * 18, none⟩)) (d := 35) (l2 := #[true, true, false, false, false, false, false, false, false, false, false, false, false, false, false]) rfl (by kernel_rfl) (by kernel_rfl) (by kernel_rfl) (fun _ _ _ h => h) (by kernel_rfl) ?_ (by assumption) rfl (by kernel_rfl) ?_
        · intro w hSw; have q := hSw.mw.p; go_simp; (try with_reducible rfl)
        simp only [List.set]
        refine hH_take (i := 2) (v := ?_) (d := 36) (l2 := #[true, true, true, false, false, false, false, false, false, false, false, false, false, false, false]) rfl (by kernel_rfl) (by kernel_rfl) (by kernel_rfl) (fun _ _ _ h => h) (by kernel_rfl) ?_ (by assumption) rfl (by kernel_rfl) ?_
        rotate_left
        · intro w hSw; (try dsimp only at hSw); go_simp; (try with_reducible rfl)
        simp only [List.set]
        refine hH_take (i := 3) (v := .pointer (some ⟨B, k * 18 + 6, none⟩)) (d := 37) (l2 := #[true, true, true, true, false, false, false, false, false, false, false, false, false, false, false]) rfl (by kernel_rfl) (by kernel_rfl) (by kernel_rfl) (fun _ _ _ h => h) (by kernel_rfl) ?_ (by assumption) rfl (by kernel_rfl) ?_
        · intro w hSw; go_simp; (try with_reducible rfl)
        simp only [List.set]
        refine hH_take (i := 4) (v := .slice o.pa o.props.length o.pc) (d := 38) (l2 := #[true, true, true, true, true, false, false, false, false, false, false, false, false, false, false]) rfl (by kernel_rfl) (by kernel_rfl) (by kernel_rfl) (fun _ _ _ h => h) (by kernel_rfl) ?_ (by assumption) rfl (by kernel_rfl) ?_
        · intro w hSw; have q := hSw.of.props; dsimp only at q; go_simp; (try with_reducible rfl)
        simp only [List.set]
        refine hH_take (i := 5) (v := .pointer (some ⟨w.heap.size, 2, none⟩)) (d := 39) (l2 := #[true, true, true, true, true, true, false, false, false, false, false, false, false, false, false]) rfl (by kernel_rfl) (by kernel_rfl) (by kernel_rfl) (fun _ _ _ h => h) (by kernel_rfl) ?_ (by assumption) rfl (by kernel_rfl) ?_
        · intro w hSw; go_simp; (try with_reducible rfl)
        simp only [List.set]
        refine hH_take (i := 6) (v := .pointer (some ⟨w.heap.size, 4, none⟩)) (d := 40) (l2 := #[true, true, true, true, true, true, true, false, false, false, false, false, false, false, false]) rfl (by kernel_rfl) (by kernel_rfl) (by kernel_rfl) (fun _ _ _ h => h) (by kernel_rfl) ?_ (by assumption) rfl (by kernel_rfl) ?_
        · intro w hSw; go_simp; (try with_reducible rfl)
        simp only [List.set]
        refine hH_take (i := 7) (v := .agg #[.string a.k.str, .int .i64 a.k.sym]) (d := 41) (l2 := #[true, true, true, true, true, true, true, true, false, false, false, false, false, false, false]) rfl (by kernel_rfl) (by kernel_rfl) (by kernel_rfl) (fun _ _ _ h => h) (by kernel_rfl) ?_ (by assumption) rfl (by kernel_rfl) ?_
        · intro w hSw; exact ex_load_at (ak_key hSw.mw.a) rfl rfl
        simp only [List.set]
        refine hH_take (i := 8) (v := .agg X.cells) (d := 42) (l2 := #[true, true, true, true, true, true, true, true, true, false, false, false, false, false, false]) rfl (by kernel_rfl) (by kernel_rfl) (by kernel_rfl) (fun _ _ _ h => h) (by kernel_rfl) ?_ (by assumption) rfl (by kernel_rfl) ?_
        · intro w hSw; exact ex_load_at (d2_load hSw.v) rfl rfl
        simp only [List.set]
        refine wpAnyH_ready (rs := [9]) (by kernel_rfl) (by simp) ?_
        refine AllReadyH.cons rfl (fun K hK => ?_) AllReadyH.nil
        go_simp
        go_at_call 74
        (with_reducible refine (cP _ hS.mw.below).mono ?_)
        rintro e w13 ⟨v, rfl, h9⟩
        have hS := hS.up h9
        clear h9
        refine hK.out _ _ hS (fun hHeld => ?_)
        clear hK K
        refine hH_take (i := 10) (v := .tuple #[v, .int .i64 100]) (d := 33) (l2 := #[true, true, true, true, true, true, true, true, true, true, true, false, false, false, false]) rfl (by kernel_rfl) (by kernel_rfl) (by kernel_rfl) (fun _ _ _ h => h) (by kernel_rfl) ?_ (by assumption) rfl (by kernel_rfl) ?_
        · intro w hSw; go_simp; (try with_reducible rfl)
        simp only [List.set]
        refine hH_take (i := 11) (v := v) (d := 44) (l2 := #[true, true, true, true, true, true, true, true, true, true, true, true, false, false, false]) rfl (by kernel_rfl) (by kernel_rfl) (by kernel_rfl) (fun _ _ _ h => h) (by kernel_rfl) ?_ (by assumption) rfl (by kernel_rfl) ?_
        · intro w hSw; go_simp; (try with_reducible rfl)
        simp only [List.set]
        refine hH_take (i := 12) (v := .int .i64 100) (d := 45) (l2 := #[true, true, true, true, true, true, true, true, true, true, true, true, true, false, false]) rfl (by kernel_rfl) (by kernel_rfl) (by kernel_rfl) (fun _ _ _ h => h) (by kernel_rfl) ?_ (by assumption) rfl (by kernel_rfl) ?_
        · intro w hSw; go_simp; (try with_reducible rfl)
        simp only [List.set]
        refine hH_take (i := 13) (v := v) (d := 8) (l2 := #[true, true, true, true, true, true, true, true, true, true, true, true, true, true, false]) rfl (by kernel_rfl) (by kernel_rfl) (by kernel_rfl) (fun _ _ _ h => h) (by kernel_rfl) ?_ (by assumption) rfl (by kernel_rfl) ?_
        · intro w hSw; go_simp; (try with_reducible rfl)
        simp only [List.set]
        refine hH_take (i := 14) (v := .int .i64 100) (d := 9) (l2 := #[true, true, true, true, true, true, true, true, true, true, true, true, true, true, true]) rfl (by kernel_rfl) (by kernel_rfl) (by kernel_rfl) (fun _ _ _ h => h) (by kernel_rfl) ?_ (by assumption) rfl (by kernel_rfl) ?_
        · intro w hSw; go_simp; (try with_reducible rfl)
        simp only [List.set]
        refine wpAnyH_done (by kernel_rfl) ?_ _
        have hr := hS.mw.r
        have hbw := hS.mw.below
        go_wp2_with (first
          | ((with_reducible refine w_run ?_ (eb_fail rfl) ?_); (rfl))
          | (refine oq_store (q := failO) rfl rfl rfl rfl hr rfl hbw (Nat.le_add_right _ 1) ?_; intro W6 hb6 hW6 hO6 hz6))
        exact oq_end Tryz.results50 rfl hW6 (HX.out _ (chg_same hb6 HB.out) (HR.out.up hb6))
      · have cP := HF.out.puty rfl hc
        have HX := Lib.hid (HF.out.yes rfl hc)
        clear hc
        go_upto_region 5 with (fail)
        have hS := HK.out.up (Below.refl _ _).drew
        refine wp_region_held_drew (S := Md w B m k g a o X) (by kernel_rfl) hS (fun hHeld => ?_)
        generalize World.drew _ = W0 at *
        refine hH_take (i := 0) (v := .pointer (some ⟨w.heap.size, 1, none⟩)) (d := 34) (l2 := #[true, false, false, false, false, false, false, false, false, false, false, false, false, false, false]) rfl (by kernel_rfl) (by kernel_rfl) (by kernel_rfl) (fun _ _ _ h => h) (by kernel_rfl) ?_ (by assumption) rfl (by kernel_rfl) ?_
        · intro w hSw; go_simp; (try with_reducible rfl)
        simp only [List.set]
        refine hH_take (i := 1) (v := .pointer (some ⟨B, k * 18, none⟩)) (d := 35) (l2 := #[true, true, false, false, false, false, false, false, false, false, false, false, false, false, false]) rfl (by kernel_rfl) (by kernel_rfl) (by kernel_rfl) (fun _ _ _ h => h) (by kernel_rfl) ?_ (by assumption) rfl (by kernel_rfl) ?_
        · intro w hSw; have q := hSw.mw.p; go_simp; (try with_reducible rfl)
        simp only [List.set]
        refine hH_take (i := 2) (v := ?_) (d := 36) (l2 := #[true, true, true, false, false, false, false, false, false, false, false, false, false, false, false]) rfl (by kernel_rfl) (by kernel_rfl) (by kernel_rfl) (fun _ _ _ h => h) (by kernel_rfl) ?_ (by assumption) rfl (by kernel_rfl) ?_
        rotate_left
        · intro w hSw; (try dsimp only at hSw); go_simp; (try with_reducible rfl)
        simp only [List.set]
        refine hH_take (i := 3) (v := .pointer (some ⟨B, k * 18 + 6, none⟩)) (d := 37) (l2 := #[true, true, true, true, false, false, false, false, false, false, false, false, false, false, false]) rfl (by kernel_rfl) (by kernel_rfl) (by kernel_rfl) (fun _ _ _ h => h) (by kernel_rfl) ?_ (by assumption) rfl (by kernel_rfl) ?_
        · intro w hSw; go_simp; (try with_reducible rfl)
        simp only [List.set]
        refine hH_take (i := 4) (v := .slice o.pa o.props.length o.pc) (d := 38) (l2 := #[true, true, true, true, true, false, false, false, false, false, false, false, false, false, false]) rfl (by kernel_rfl) (by kernel_rfl) (by kernel_rfl) (fun _ _ _ h => h) (by kernel_rfl) ?_ (by assumption) rfl (by kernel_rfl) ?_
        · intro w hSw; have q := hSw.of.props; dsimp only at q; go_simp; (try with_reducible rfl)
        simp only [List.set]
        refine hH_take (i := 5) (v := .pointer (some ⟨w.heap.size, 2, none⟩)) (d := 39) (l2 := #[true, true, true, true, true, true, false, false, false, false, false, false, false, false, false]) rfl (by kernel_rfl) (by kernel_rfl) (by kernel_rfl) (fun _ _ _ h => h) (by kernel_rfl) ?_ (by assumption) rfl (by kernel_rfl) ?_
        · intro w hSw; go_simp; (try with_reducible rfl)
        simp only [List.set]
        refine hH_take (i := 6) (v := .pointer (some ⟨w.heap.size, 4, none⟩)) (d := 40) (l2 := #[true, true, true, true, true, true, true, false, false, false, false, false, false, false, false]) rfl (by kernel_rfl) (by kernel_rfl) (by kernel_rfl) (fun _ _ _ h => h) (by kernel_rfl) ?_ (by assumption) rfl (by kernel_rfl) ?_
        · intro w hSw; go_simp; (try with_reducible rfl)
        simp only [List.set]
        refine hH_take (i := 7) (v := .agg #[.string a.k.str, .int .i64 a.k.sym]) (d := 41) (l2 := #[true, true, true, true, true, true, true, true, false, false, false, false, false, false, false]) rfl (by kernel_rfl) (by kernel_rfl) (by kernel_rfl) (fun _ _ _ h => h) (by kernel_rfl) ?_ (by assumption) rfl (by kernel_rfl) ?_
        · intro w hSw; exact ex_load_at (ak_key hSw.mw.a) rfl rfl
        simp only [List.set]
        refine hH_take (i := 8) (v := .agg X.cells) (d := 42) (l2 := #[true, true, true, true, true, true, true, true, true, false, false, false, false, false, false]) rfl (by kernel_rfl) (by kernel_rfl) (by kernel_rfl) (fun _ _ _ h => h) (by kernel_rfl) ?_ (by assumption) rfl (by kernel_rfl) ?_
        · intro w hSw; exact ex_load_at (d2_load hSw.v) rfl rfl
        simp only [List.set]
        refine wpAnyH_ready (rs := [9]) (by kernel_rfl) (by simp) ?_
        refine AllReadyH.cons rfl (fun K hK => ?_) AllReadyH.nil
        go_simp
        go_at_call 74
        (with_reducible refine (cP _ hS.mw.below).mono ?_)
        rintro e w13 ⟨A, c, rfl, hP, h9⟩
        have hS := hS.up h9
        clear h9
        refine hK.out _ _ hS (fun hHeld => ?_)
        clear hK K
        refine hH_take (i := 10) (v := .tuple #[.slice A L2.length c, .int .i64 0]) (d := 33) (l2 := #[true, true, true, true, true, true, true, true, true, true, true, false, false, false, false]) rfl (by kernel_rfl) (by kernel_rfl) (by kernel_rfl) (fun _ _ _ h => h) (by kernel_rfl) ?_ (by assumption) rfl (by kernel_rfl) ?_
        · intro w hSw; go_simp; (try with_reducible rfl)
        simp only [List.set]
        refine hH_take (i := 11) (v := .slice A L2.length c) (d := 44) (l2 := #[true, true, true, true, true, true, true, true, true, true, true, true, false, false, false]) rfl (by kernel_rfl) (by kernel_rfl) (by kernel_rfl) (fun _ _ _ h => h) (by kernel_rfl) ?_ (by assumption) rfl (by kernel_rfl) ?_
        · intro w hSw; go_simp; (try with_reducible rfl)
        simp only [List.set]
        refine hH_take (i := 12) (v := .int .i64 0) (d := 45) (l2 := #[true, true, true, true, true, true, true, true, true, true, true, true, true, false, false]) rfl (by kernel_rfl) (by kernel_rfl) (by kernel_rfl) (fun _ _ _ h => h) (by kernel_rfl) ?_ (by assumption) rfl (by kernel_rfl) ?_
        · intro w hSw; go_simp; (try with_reducible rfl)
        simp only [List.set]
        refine hH_take (i := 13) (v := .slice A L2.length c) (d := 8) (l2 := #[true, true, true, true, true, true, true, true, true, true, true, true, true, true, false]) rfl (by kernel_rfl) (by kernel_rfl) (by kernel_rfl) (fun _ _ _ h => h) (by kernel_rfl) ?_ (by assumption) rfl (by kernel_rfl) ?_
        · intro w hSw; go_simp; (try with_reducible rfl)
        simp only [List.set]
        refine hH_take (i := 14) (v := .int .i64 0) (d := 9) (l2 := #[true, true, true, true, true, true, true, true, true, true, true, true, true, true, true]) rfl (by kernel_rfl) (by kernel_rfl) (by kernel_rfl) (fun _ _ _ h => h) (by kernel_rfl) ?_ (by assumption) rfl (by kernel_rfl) ?_
        · intro w hSw; go_simp; (try with_reducible rfl)
        simp only [List.set]
        refine wpAnyH_done (by kernel_rfl) ?_ _
        have HS := Lib.hid hS.mw
        have HPR := Lib.hid hP
        have q1 := HS.out.p
        have hr := HS.out.r
        have hb0 := (HS.out.below.block B HBL.out).trans HB.out
        clear hS hP
        go_wp2_with (first
          | ((with_reducible refine sp_store rfl rfl rfl rfl hb0 hlen ?_); intro W8 hW8 hG8 hz8; have hr := (hG8.block (w.heap.size + 1) (lt_blk hr) (fun e => by have := Option.some.inj e; have := HBL.out; omega)).trans hr; have HW8 := Lib.hid hW8; have HG8 := Lib.hid hG8; have HZ8 := Lib.hid hz8; clear hW8 hG8 hz8)
          | (go_at_call 70; (with_reducible refine (cA _ _).mono ?_); rintro e w4 ⟨rfl, h9⟩; have hr := vblkn h9 hr; have H9 := Lib.hid h9; clear h9)
          | (refine t_store (cs := oqA (yesO true)) rfl rfl rfl rfl hr (oq_info _) rfl (oqA_one _) (Below.refl (w.heap.size + 1) w4) (Nat.le_refl _) ?_; intro W6 hb6 hW6 hO6 hz6))
        refine oq_end Tryz.results50 rfl hW6 (HX.out A c _ HPR.out.1 ⟨?_, ?_⟩ ?_)
        · have g1 := HG8.out
          have b2 := H9.out
          have hz1 := HZ8.out
          have hbw := HS.out.below
          have hs1 := hbw.size
          have hs2 := b2.size
          have hs3 := hb6.size
          have hs4 := HS.out.size2
          refine ⟨hb6.os.trans (b2.os.trans (g1.os.trans hbw.os)), hb6.tape.trans (b2.tape.trans (g1.tape.trans hbw.tape)), hb6.output.trans (b2.output.trans (g1.output.trans hbw.output)), by omega, fun j hj hn => ?_⟩
          exact (hO6 j (by omega)).trans ((b2.block j (by omega)).trans ((g1.block j (by omega) hn).trans (hbw.block j hj)))
        · rw [← HP.out A c]
          exact (hO6 B (by have := HBL.out; omega)).trans (vblkn H9.out HW8.out)
        · have h1 := (HR.out.up HS.out.below).set (k := k) (o := o.as o.proto o.ext A c L2) HPR.out.2.1 HPR.out.2.2
          have h2 := (h1.keep (fun g2 cs hg => HG8.out.block g2 (lt_blk hg) (fun e => by obtain rfl := Option.some.inj e; rw [hg] at hb0; cases hb0))).up H9.out
          exact h2.keep fun g2 cs hg => hO6 g2 (fun e => by rw [e, hr] at hg; cases hg)
end Go.Proofs.YtlfbflclefndjaaGreatDoor.S
