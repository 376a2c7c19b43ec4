/-
  heap.behind's own closure: a number more on the worklist.
-/
import Derived.Test.YthnkllhfmjbbmaaGreatDoorHM28
import Derived.Test.YthnkllhfmjbbmaaGreatDoorHM29
import Derived.Test.YthnkllhfmjbbmaaGreatDoorHM30
import Derived.Maps.AppendAt
import Derived.Deep.LoopGhost
namespace Go.Proofs.YthnkllhfmjbbmaaGreatDoor.S
open Go.RowKit Go.Lib Fl
open Classical

def bks (m : Nat) (L : List Nat) : Array Value := ((List.range m).map fun i => Value.bool (decide (i ∈ L))).toArray
theorem bks_size (m : Nat) (L : List Nat) : (bks m L).size = m := by simp [bks]
theorem bks_at {m k : Nat} (L : List Nat) (h : k < m) : (bks m L)[k]? = some (.bool (decide (k ∈ L))) := by simp [bks, h]
theorem bks_set {m k : Nat} {L : List Nat} (hk : k ∉ L) : (bks m L).setIfInBounds k (.bool true) = bks m (addW L k) := by
  unfold addW
  rw [if_neg hk]
  apply Array.ext
  · simp [bks]
  · intro i h1 h2
    by_cases c : k = i
    · subst c
      simp [bks]
    · rw [Array.getElem_setIfInBounds_ne (by simpa [bks] using h1) c]
      simp [bks, show ¬ i = k from fun e => c e.symm]
theorem made_bools (n : Nat) : madeCells (Value.bool false).cells (n * 1) = bks n [] := by
  apply Array.ext
  · simp [madeCells, bks]
  · intro i h1 h2
    have e : i % 1 = 0 := Nat.mod_one i
    simp [madeCells, bks, Value.cells, e]
/-- a worklist's cells -/
def wkv (L : List Nat) : List Value := (upZ L).map (Value.int .i64)
theorem wkv_snoc (L : List Nat) (k : Nat) : wkv (L ++ [k]) = wkv L ++ [.int .i64 (k : Int)] := by simp [wkv, upZ]
def addF (n0 : Nat) : Value := .func (.func 78) #[] #[.pointer (some ⟨n0 + 3, 0, none⟩), .pointer (some ⟨n0 + 1, 0, none⟩)]
/-- the worklist in its block -/
structure Wv (n0 X : Nat) (L : List Nat) (v : Value) (W : World) : Prop where
  b : W.heap[n0 + 1]? = some (.cells #[v] 40 (0, 0))
  own : W.ownsRow (n0 + 5) 3 1 v L.length (wkv L)
  apart : v.ownBlock ≠ some X
/-- what behind holds on to -/
structure Bw (w : World) (A : Option Addr) (m cap X : Nat) (L : List Nat) (W : World) : Prop where
  below : Below w.heap.size w W
  h : W.heap[w.heap.size]? = some (.cells #[.slice A m cap] 24 (0, 0))
  f : W.heap[w.heap.size + 4]? = some (.cells #[addF w.heap.size] 138 (0, 0))
  sv : W.heap[w.heap.size + 3]? = some (.cells #[.slice (some ⟨w.heap.size + 2, 0, none⟩) m m] 137 (0, 0))
  s : W.heap[w.heap.size + 2]? = some (.cells (bks m L) 4 (0, 0))
  wv : ∃ v, Wv w.heap.size X L v W
theorem own_shape {W : World} {base : Nat} {e : TypeId} {n : Nat} {v : Value} {xs : List Value} (h : W.ownsRow base e 1 v n xs) : ∃ A cap, v = .slice A n cap := by
  rcases h.2 with ⟨rfl, h2⟩ | ⟨g, cap, cur, rfl, _⟩
  · exact ⟨none, 0, by rw [h2]⟩
  · exact ⟨_, cap, rfl⟩
theorem own_lt {W : World} {base : Nat} {e : TypeId} {n : Nat} {v : Value} {xs : List Value} (h : W.ownsRow base e 1 v n xs) {g : Nat} (hg : v.ownBlock = some g) : base ≤ g ∧ g < W.heap.size := h.lt g hg
/-- where nothing that lay is touched -/
theorem bgrown {W W' : World} (hb : Below W.heap.size W W') : W.grownBy W' none := ⟨hb.os, hb.tape, hb.output, hb.size, fun k hk _ => hb.block k hk⟩
theorem Bw.up {w W W' : World} {A : Option Addr} {m cap X : Nat} {L : List Nat} (h : Bw w A m cap X L W) (hb : Below W.heap.size W W') : Bw w A m cap X L W' := by
  have hg := bgrown hb
  obtain ⟨v, hv⟩ := h.wv
  exact ⟨vb h.below hb, vblkn hb h.h, vblkn hb h.f, vblkn hb h.sv, vblkn hb h.s, v, vblkn hb hv.b, hv.own.kept hg (by cases hv.own.2 with | inl e => exact .inl (by rw [e.1]; rfl) | inr e => exact .inr (by obtain ⟨g, cp, cur, rfl, _⟩ := e; simp [Value.ownBlock])), hv.apart⟩
theorem Bw.to {w W : World} {A : Option Addr} {m cap X Y : Nat} {L : List Nat} (h : Bw w A m cap X L W) (hY : W.heap.size ≤ Y) : Bw w A m cap Y L W := by
  obtain ⟨v, hv⟩ := h.wv
  exact ⟨h.below, h.h, h.f, h.sv, h.s, v, hv.b, hv.own, fun e => by have := (own_lt hv.own e).2; omega⟩
theorem Bw.dummy {w W : World} {A : Option Addr} {m cap X : Nat} {L : List Nat} (h : Bw w A m cap X L W) : Bw w A m cap w.heap.size L W := by
  obtain ⟨v, hv⟩ := h.wv
  exact ⟨h.below, h.h, h.f, h.sv, h.s, v, hv.b, hv.own, fun e => by have := (own_lt hv.own e).1; omega⟩
theorem Bw.lt {w W : World} {A : Option Addr} {m cap X : Nat} {L : List Nat} (h : Bw w A m cap X L W) : w.heap.size + 4 < W.heap.size := lt_blk h.f
section
variable {ops : Array Oper} {rest : List Oper} {o : Oper} {a : Act} {w : World} {Q : Exit → Act → World → Prop} {x y : Operand} {t : TypeId}
/-- bools made -/
theorem bools_make {l c : Operand} {n : Nat} (hgd : o.guard = none) (ho : o.op = .makeSlice 137 l c) (hl : a.eval l = .int .i64 (n : Int)) (hc : a.eval c = .int .i64 (n : Int)) (hn : n ≤ 1000000)
    (h : wpList Tryz.prog ops Q rest (a.put o.dst (.slice (some ⟨w.heap.size, 0, none⟩) n n)) (w.alloc (.cells (bks n []) 4))) : wpList Tryz.prog ops Q (o :: rest) a w := by
  obtain ⟨i0, hi, hz0, hz1, hz2⟩ := info_parts (P := Tryz.prog) (e := 4) (z := .bool false) (size := 1) (bytes := 1) (by kernel_rfl)
  refine wpList_plain hgd fun K hK => ?_
  have hr := run_makeSlice (P := Tryz.prog) w 137 4 i0 (.bool false) Tryz.underlying137 hi hz0 .i64 .i64 (n : Int) (n : Int) (by omega) (by omega) (by rw [hz1]; omega) (by rw [hz2]; omega) (by omega)
  rw [hz1, Int.toNat_natCast, made_bools] at hr
  unfold Oper.wp execOp
  simp only [ho, hl, hc, hr, Sem.run_bind, Sem.run_pure, Result.andThen_ok]
  exact hK _ _ h
/-- one of them stored -/
theorem bk_store {cs : Array Value} {g m : Nat} (hgd : o.guard = none) (ho : o.op = .store 4 x y) (hx : a.eval x = .pointer (some ⟨g, m, none⟩)) (hy : a.eval y = .bool true) (hg : w.heap[g]? = some (.cells cs t (0, 0))) (hm : m < cs.size)
    (h : ∀ W : World, W.heap[g]? = some (.cells (cs.setIfInBounds m (.bool true)) t (0, 0)) → w.grownBy W (some g) → W.heap.size = w.heap.size → wpList Tryz.prog ops Q rest (a.put o.dst undef) W) : wpList Tryz.prog ops Q (o :: rest) a w := by
  have hc : w.cell? ⟨g, m, none⟩ = some cs[m] := by rw [vcells hg m]; simp [hm]
  have hf : w.frozen? ⟨g, m, none⟩ = false := by simp [World.frozen?, hg]
  refine wpList_plain hgd fun K hK => ?_
  have hr : (Instr.storeAt 4 (.pointer (some ⟨g, m, none⟩)) (.bool true)).run Tryz.prog w = .ok () (w.setCell ⟨g, m, none⟩ (.bool true)) := by simp [go_sem, hc, hf]
  unfold Oper.wp execOp
  simp only [ho, hx, hy, hr, Sem.run_bind, Sem.run_pure, Result.andThen_ok]
  refine hK _ _ (h _ (vset1 hg m _) ⟨rfl, rfl, rfl, by simp, fun k _ hk => Below.heap_setCell w ⟨g, m, none⟩ _ k (fun e => hk (by rw [e]))⟩ (by simp))
/-- a number more on a worklist -/
theorem wl_app {wr : World} {B n k : Nat} {v : Value} {xs : List Value} (hgd : o.guard = none) (s z : Operand) (ho : o.op = .call { callee := .builtin .append, args := #[s, z], argTypes := #[40, 40] })
    (h : wr.ownsRow B 3 1 v n xs) (hs : a.eval s = v) (hx : a.eval z = .slice (some ⟨wr.heap.size, 0, none⟩) 1 1) (hn : n ≤ 100000) (hB : B ≤ wr.heap.size)
    (kk : ∀ v' w', w'.ownsRow B 3 1 v' (n + 1) (xs ++ [.int .i64 (k : Int)]) → wr.grownBy w' v.ownBlock → (v'.ownBlock = v.ownBlock ∨ v'.ownBlock = some (wr.heap.size + 1)) → wpList Tryz.prog ops Q rest (a.put o.dst v') w') :
    wpList Tryz.prog ops Q (o :: rest) a (wr.alloc (.cells #[.int .i64 (k : Int)] 3)) := by
  obtain ⟨i0, hi, hz0, hz1, hz2⟩ := info_parts (P := Tryz.prog) (e := 3) (z := .int .i64 0) (size := 1) (bytes := 8) (by kernel_rfl)
  refine wpList_append_own_at _ hgd s z 40 ho B 3 i0 (.int .i64 0) 1 8 Tryz.underlying40 hi hz0 hz1 hz2 rfl (by decide) v n xs hs (h.alloc _) ⟨wr.heap.size, 0, none⟩ 1 1 [.int .i64 (k : Int)] hx rfl (cell_one_new _ _ _) ?_ ?_ ?_ ?_ ?_
  · intro u hu; simp at hu; subst hu; rfl
  · unfold maxLen; omega
  · omega
  · simp; omega
  · intro v' w' hown hgrow _ hat
    exact kk v' w' hown ((World.grownBy_alloc _ _ _).trans hgrow) (hat.imp id fun e => by rw [e]; simp)
end
def AddTo (w : World) (A : Option Addr) (m cap X : Nat) (L : List Nat) (k : Nat) (W : World) (e : Ending) (W' : World) : Prop :=
  e = .returned (.tuple #[]) ∧ Bw w A m cap X (addW L k) W' ∧ KB w.heap.size X W W' ∧ ∀ (b : Nat) (o : Obj), W.heap[b]? = some o → o.isCells = false → W'.heap[b]? = some o
set_option maxHeartbeats 4000000 in
set_option maxRecDepth 1000000 in
theorem add_h {w : World} {A : Option Addr} {m cap X : Nat} {L : List Nat} {W : World} (k : Nat) (h : Bw w A m cap X L W) (hk : k < m) (hm : m ≤ 5000) (hL : L.length ≤ m) (hX : X = w.heap.size ∨ w.heap.size + 4 < X) (hXl : X < W.heap.size) :
    Calls Tryz.prog 78 #[.int .i64 (k : Int), .pointer (some ⟨w.heap.size + 3, 0, none⟩), .pointer (some ⟨w.heap.size + 1, 0, none⟩)] W (AddTo w A m cap X L k W) := by
  have q3 : W.cell? ⟨w.heap.size + 3, 0, none⟩ = some (.slice (some ⟨w.heap.size + 2, 0, none⟩) m m) := (vcells h.sv 0).trans rfl
  have q2 : W.cell? ⟨w.heap.size + 2, k, none⟩ = some (.bool (decide (k ∈ L))) := (vcells h.s k).trans (bks_at L hk)
  have hkz : (k : Int) < (m : Int) := by omega
  have hk0 : (0 : Int) ≤ (k : Int) := by omega
  have hlt := h.lt
  by_cases c : k ∈ L
  · rw [decide_eq_true c] at q2
    have hw : addW L k = L := by unfold addW; rw [if_pos c]
    unfold AddTo
    rw [hw]
    have HH := Lib.hid h
    clear h
    go_enter Tryz.func78, Tryz.ntmps78
    go_wp2
    go_end0
    exact ⟨rfl, HH.out, ⟨Nat.le_refl _, fun _ _ _ => rfl⟩, fun _ _ h _ => h⟩
  · rw [decide_eq_false c] at q2
    unfold AddTo
    obtain ⟨v, hv⟩ := h.wv
    have q1 : W.cell? ⟨w.heap.size + 1, 0, none⟩ = some v := (vcells hv.b 0).trans rfl
    have hsz := bks_size m L
    have hs := h.s
    have hb1 := hv.b
    have hsv := h.sv
    have hvo := hv.own
    have hvb := fun g (e : v.ownBlock = some g) => own_lt hvo e
    have HH := Lib.hid h
    have HV := Lib.hid hv
    clear h hv
    go_enter Tryz.func78, Tryz.ntmps78
    go_wp2_with (first
      | ((with_reducible refine bk_store rfl rfl rfl rfl hs ?_ ?_); (omega); intro W1 hW1 hG1 hz1; have q1 : W1.cell? ⟨w.heap.size + 1, 0, none⟩ = some v := (World.cell?_of_block (hG1.block (w.heap.size + 1) (by omega) (by simp))).trans q1; have hO1 := hvo.kept hG1 (by cases e : v.ownBlock with | none => exact .inl rfl | some g => exact .inr (by have := hvb g e; simp; omega)); have HZ := Lib.hid hz1; clear hz1)
      | (at_builtin; refine wl_app (k := k) rfl _ _ rfl hO1 rfl ?_ (by omega) (by have := HZ.out; omega) ?_; (rfl); intro v' W2 hO2 hG2 hat; obtain ⟨A', cp', hv'⟩ := own_shape hO2; subst hv'; have hb2 : W2.heap[w.heap.size + 1]? = some (.cells #[v] 40 (0, 0)) := (hG2.block _ (by have := HZ.out; omega) (fun e => by have := hvb _ e.symm; omega)).trans ((hG1.block _ (by omega) (by simp)).trans hb1); have q1 : W2.cell? ⟨w.heap.size + 1, 0, none⟩ = some v := (vcells hb2 0).trans rfl; have q5 : W2.frozen? ⟨w.heap.size + 1, 0, none⟩ = false := (by simp [World.frozen?, hb2])))
    go_end0
    have hG3 := grownBy_setCell' W2 (w.heap.size + 1) (.slice A' (L.length + 1) cp')
    have hz1 := HZ.out
    have hs1 : W.heap.size ≤ W2.heap.size := by have := hG2.size; omega
    have hkeep : ∀ b, b < W.heap.size → b ≠ w.heap.size + 1 → b ≠ w.heap.size + 2 → v.ownBlock ≠ some b → (W2.setCell ⟨w.heap.size + 1, 0, none⟩ (.slice A' (L.length + 1) cp')).heap[b]? = W.heap[b]? := fun b h1 h2 h3 h4 =>
      (hG3.block b (by omega) (fun e => h2 (Option.some.inj e))).trans ((hG2.block b (by omega) (fun e => h4 e.symm)).trans (hG1.block b h1 (fun e => h3 (Option.some.inj e))))
    have hown5 : ∀ b, b < w.heap.size + 5 → v.ownBlock ≠ some b := fun b h1 e => by have := hvb b e; omega
    have hs3 : W.heap.size ≤ (W2.setCell ⟨w.heap.size + 1, 0, none⟩ (.slice A' (L.length + 1) cp')).heap.size := Nat.le_trans hs1 hG3.size
    have hat2 : ∀ g, Value.ownBlock (.slice A' (L.length + 1) cp') = some g → v.ownBlock = some g ∨ g = W.heap.size + 1 := fun g e => by
      rcases hat with e2 | e2
      · exact .inl (e2.symm.trans e)
      · rw [e] at e2; have := Option.some.inj e2; exact .inr (by omega)
    have hBel := HH.out.below
    have hadd : addW L k = L ++ [k] := by unfold addW; rw [if_neg c]
    refine ⟨rfl, ⟨?_, (hkeep _ (by omega) (by omega) (by omega) (hown5 _ (by omega))).trans HH.out.h, (hkeep _ (by omega) (by omega) (by omega) (hown5 _ (by omega))).trans HH.out.f, (hkeep _ (by omega) (by omega) (by omega) (hown5 _ (by omega))).trans HH.out.sv, ?_, _, vset1 hb2 0 _, ?_, ?_⟩, ⟨hs3, fun b hb hl => ?_⟩, fun b o hb ho => ?_⟩
    · exact ⟨hG3.os.trans (hG2.os.trans (hG1.os.trans hBel.os)), hG3.tape.trans (hG2.tape.trans (hG1.tape.trans hBel.tape)), hG3.output.trans (hG2.output.trans (hG1.output.trans hBel.output)), Nat.le_trans hBel.size hs3, fun b hb => (hkeep b (by omega) (by omega) (by omega) (hown5 _ (by omega))).trans (hBel.block b hb)⟩
    · rw [← bks_set c]
      exact (hG3.block _ (by omega) (fun e => by have := Option.some.inj e; omega)).trans ((hG2.block _ (by omega) (fun e => hown5 _ (by omega) e.symm)).trans hW1)
    · rw [hadd, List.length_append, wkv_snoc]
      exact hO2.kept hG3 (by cases e : Value.ownBlock (.slice A' (L.length + 1) cp') with | none => exact .inl rfl | some g => exact .inr (fun e2 => by have e3 := Option.some.inj e2; exact (hat2 g e).elim (fun e4 => hown5 _ (by omega) e4) (fun e4 => by omega)))
    · intro e
      rcases hat2 X e with e4 | e4
      · exact HV.out.apart e4
      · omega
    · have hne : v.ownBlock ≠ some b := hb.elim (fun hb => hown5 _ (by omega)) (fun hb => by rw [hb]; exact HV.out.apart)
      exact hkeep b hl (by omega) (by omega) hne
    · have hl := lt_blk hb
      refine (hkeep b hl (fun e => ?_) (fun e => ?_) (fun e => ?_)).trans hb
      · subst e; rw [hb1] at hb; cases hb; cases ho
      · subst e; rw [hs] at hb; cases hb; cases ho
      · rcases hvo.2 with ⟨e2, _⟩ | ⟨g, cp, cur, rfl, _, hg, _⟩
        · rw [e2] at e; cases e
        · have e3 : g = b := Option.some.inj e
          subst e3; rw [hg] at hb; cases hb; cases ho
end Go.Proofs.YthnkllhfmjbbmaaGreatDoor.S
/-
  heap.indices with either closure; which properties are called length. Generated: gen_heapidx.py.
-/
namespace Go.Proofs.YthnkllhfmjbbmaaGreatDoor.S
open Go.RowKit Go.Lib Fl
open Classical

theorem ix_lt {s : ByteArray} {y : Int} {m : Nat} (h : ixK s y = some m) : m < 1024 := by
  unfold ixK at h
  by_cases c : y ≤ 0
  · rw [if_pos c] at h
    unfold idxO at h
    cases hR : readR s.data.toList with
    | ok n =>
      rw [hR] at h
      dsimp only at h
      by_cases d : 0 ≤ n ∧ n < 1024 ∧ s.data.toList = Lib.itoa n
      · rw [if_pos d] at h; injection h with h; omega
      · rw [if_neg d] at h; cases h
    | _ => rw [hR] at h; cases h
  · rw [if_neg c] at h; cases h
theorem dec_lt (i n : Nat) : decide ((i : Int) < (n : Int)) = decide (i < n) := by simp
theorem dec_ge (i n : Nat) : decide ((n : Int) ≤ (i : Int)) = decide (n ≤ i) := by simp
theorem lessF (g n i : Nat) (w : World) (hn : n ≤ 1024) (hc : w.cell? ⟨g, 0, none⟩ = some (.float .f64 (F n))) : Calls Tryz.prog 158 #[.int .i64 (i : Int), .pointer (some ⟨g, 0, none⟩)] w fun e w' => e = .returned (.bool (decide (i < n))) ∧ w' = w := by
  have hv := fun w => conv_run_int (floatToIntVal_F n (by omega)) w
  go_enter Tryz.func158, Tryz.ntmps158
  go_wp2
  go_ret
  exact ⟨by rw [← dec_lt]; rfl, rfl⟩
theorem geF (g i : Nat) (A : Addr) (o : Ob) (w : World) (hc : w.cell? ⟨g, 0, none⟩ = some (.pointer (some A))) (h : OF w A o) : Calls Tryz.prog 161 #[.int .i64 (i : Int), .pointer (some ⟨g, 0, none⟩)] w fun e w' => e = .returned (.bool (decide (o.text.size ≤ i))) ∧ w' = w := by
  have h1 := h.text
  have h0 := h.lt
  clear h
  go_enter Tryz.func161, Tryz.ntmps161
  go_wp2
  go_ret
  exact ⟨by rw [← dec_ge]; rfl, rfl⟩
theorem idxs_step {L : List Pq} {such : Nat → Bool} {i : Nat} (h : i < L.length) : idxs (L.drop i) such = ((match ixK L[i].k.str L[i].k.sym with | some m => such m | none => true) && idxs (L.drop (i + 1)) such) := by
  rw [List.drop_eq_getElem_cons h]; rfl
set_option maxHeartbeats 2000000 in
set_option maxRecDepth 100000 in
theorem indices_m (A : Option Addr) (L : List Pq) (cap : Nat) (g n : Nat) (w : World) (htab : TabHere w) (hin : ∀ p ∈ L, p.In) (hl : L.length < 1000000000000) (hL : PR w A L) (hn : n ≤ 1024) (hg : g < w.heap.size) (hcl : w.cell? ⟨g, 0, none⟩ = some (.float .f64 (F n))) : Calls Tryz.prog 157 #[.slice A L.length cap, .func (.func 158) #[] #[.pointer (some ⟨g, 0, none⟩)]] w fun e w' => e = .returned (.bool (idxs L (fun i => decide (i < n)))) ∧ Below w.heap.size w w' := by
  have hF := fun (i : Nat) W (hb : Below w.heap.size w W) => lessF g n i W hn ((hb.cell (p := ⟨g, 0, none⟩) hg).trans hcl)
  have HTB := Lib.hid htab
  have HF := Lib.hid hF
  clear hF
  go_enter Tryz.func157, Tryz.ntmps157
  go_wp2
  go_loopg [11] L.length (fun kx s11 wr => ∃ i : Nat, s11 = .int .i64 i ∧ i + kx = L.length ∧ Hid (idxs L (fun i => decide (i < n)) = idxs (L.drop i) (fun i => decide (i < n)) ∧ Below w.heap.size w wr))
  case atStart => exact ⟨0, rfl, by omega, Lib.hid ⟨by simp, Below.refl _ _⟩⟩
  case round =>
    obtain ⟨i, rfl, hik, H⟩ := hrel
    cases gk with
    | zero =>
      obtain rfl : i = L.length := by omega
      go_wp2
      go_ret
      refine ⟨?_, H.out.2⟩
      rw [H.out.1, List.drop_length]; rfl
    | succ kx =>
      have hlt : i < L.length := by omega
      have hlz : (i : Int) < (L.length : Int) := by omega
      obtain ⟨a, rfl, hab, hrow⟩ := pr_up hL H.out.2 (by omega)
      have hc : ∀ j u, (pcl L[i])[j]? = some u → wr.cell? ((a.add (i * 18)).add j) = some u := fun j u hu => by rw [add_add]; exact hrow i hlt j u hu
      have hst := idxs_step (such := (fun i => decide (i < n))) hlt
      have hpi := hin L[i] (List.getElem_mem hlt)
      obtain ⟨P, hP⟩ : ∃ P, P = L[i] := ⟨_, rfl⟩
      rw [← hP] at hc hst hpi
      have HS := Lib.hid (H.out.1.trans hst)
      have HB := Lib.hid H.out.2
      have hI := fun W (hb : Below w.heap.size w W) => Index_k P.k.str P.k.sym W hpi.1.1 hpi.1.2 (tab_up htab hb)
      have hi1 : (Tryz.prog.info? 93).map (·.size) = some (prA P).size := psz
      clear hP hrow hst hpi htab
      cases ho : ixK P.k.str P.k.sym with
      | none =>
        have hI2 : ∀ W (_ : Below w.heap.size w W), Calls Tryz.prog 182 #[.agg #[.string P.k.str, .int .i64 P.k.sym]] W fun e w' => e = .returned (.tuple #[.int .i64 0, .bool false]) ∧ Below W.heap.size W w' := fun W hb => by have := hI W hb; rw [ho] at this; exact this
        clear hI
        go_wp2_with (first
          | ((with_reducible refine p_load ?_ rfl rfl hc ?_); (rfl))
          | ((with_reducible refine t_store rfl rfl rfl rfl (heap_alloc_new _ _) hi1 ?_ (prA_one P) (vzero wr _) (Nat.le_refl _) ?_); (rfl); intro W hBW hW _ _; have HB := Lib.hid (vb HB.out hBW))
          | ((with_reducible refine pk_load ?_ rfl rfl hW ?_); (rfl))
          | (go_at_call 182; (with_reducible refine (hI2 _ HB.out).mono ?_); rintro e w1 ⟨rfl, h9⟩; have HB := Lib.hid (vb HB.out h9); clear h9))
        go_roundg kx
        case measure => omega
        case rel => exact ⟨i + 1, by congr 1, by omega, Lib.hid ⟨by rw [HS.out, ho]; rfl, HB.out⟩⟩
      | some m =>
        have hI2 : ∀ W (_ : Below w.heap.size w W), Calls Tryz.prog 182 #[.agg #[.string P.k.str, .int .i64 P.k.sym]] W fun e w' => e = .returned (.tuple #[.int .i64 (m : Int), .bool true]) ∧ Below W.heap.size W w' := fun W hb => by have := hI W hb; rw [ho] at this; exact this
        clear hI
        have hm : m < 1024 := ix_lt ho
        cases hq : decide (m < n) with
        | true =>
          go_wp2_with (first
            | ((with_reducible refine p_load ?_ rfl rfl hc ?_); (rfl))
            | ((with_reducible refine t_store rfl rfl rfl rfl (heap_alloc_new _ _) hi1 ?_ (prA_one P) (vzero wr _) (Nat.le_refl _) ?_); (rfl); intro W hBW hW _ _; have HB := Lib.hid (vb HB.out hBW))
            | ((with_reducible refine pk_load ?_ rfl rfl hW ?_); (rfl))
            | (go_at_call 182; (with_reducible refine (hI2 _ HB.out).mono ?_); rintro e w1 ⟨rfl, h9⟩; have HB := Lib.hid (vb HB.out h9); clear h9))
          refine (HF.out m _ HB.out).mono ?_
          rintro e w2 ⟨rfl, rfl⟩
          rw [hq]
          dsimp only
          go_wp2_with (fail)
          go_roundg kx
          case measure => omega
          case rel => exact ⟨i + 1, by congr 1, by omega, Lib.hid ⟨by rw [HS.out, ho]; exact (congrArg (· && _) (hq)).trans (Bool.true_and _), HB.out⟩⟩
        | false =>
          go_wp2_with (first
            | ((with_reducible refine p_load ?_ rfl rfl hc ?_); (rfl))
            | ((with_reducible refine t_store rfl rfl rfl rfl (heap_alloc_new _ _) hi1 ?_ (prA_one P) (vzero wr _) (Nat.le_refl _) ?_); (rfl); intro W hBW hW _ _; have HB := Lib.hid (vb HB.out hBW))
            | ((with_reducible refine pk_load ?_ rfl rfl hW ?_); (rfl))
            | (go_at_call 182; (with_reducible refine (hI2 _ HB.out).mono ?_); rintro e w1 ⟨rfl, h9⟩; have HB := Lib.hid (vb HB.out h9); clear h9))
          refine (HF.out m _ HB.out).mono ?_
          rintro e w2 ⟨rfl, rfl⟩
          rw [hq]
          dsimp only
          go_wp2_with (fail)
          go_ret
          refine ⟨?_, HB.out⟩
          rw [HS.out, ho, show (match (some m : Option Nat) with | some m => ((fun i => decide (i < n))) m | none => true) = false from hq]; rfl
set_option maxHeartbeats 2000000 in
set_option maxRecDepth 100000 in
theorem indices_b (A : Option Addr) (L : List Pq) (cap : Nat) (g : Nat) (B : Addr) (o : Ob) (w : World) (htab : TabHere w) (hin : ∀ p ∈ L, p.In) (hl : L.length < 1000000000000) (hL : PR w A L) (hg : g < w.heap.size) (hcl : w.cell? ⟨g, 0, none⟩ = some (.pointer (some B))) (hO : OF w B o) : Calls Tryz.prog 157 #[.slice A L.length cap, .func (.func 161) #[] #[.pointer (some ⟨g, 0, none⟩)]] w fun e w' => e = .returned (.bool (idxs L (fun i => decide (o.text.size ≤ i)))) ∧ Below w.heap.size w w' := by
  have hF := fun (i : Nat) W (hb : Below w.heap.size w W) => geF g i B o W ((hb.cell (p := ⟨g, 0, none⟩) hg).trans hcl) (hO.up hb)
  have HTB := Lib.hid htab
  have HF := Lib.hid hF
  clear hF
  go_enter Tryz.func157, Tryz.ntmps157
  go_wp2
  go_loopg [11] L.length (fun kx s11 wr => ∃ i : Nat, s11 = .int .i64 i ∧ i + kx = L.length ∧ Hid (idxs L (fun i => decide (o.text.size ≤ i)) = idxs (L.drop i) (fun i => decide (o.text.size ≤ i)) ∧ Below w.heap.size w wr))
  case atStart => exact ⟨0, rfl, by omega, Lib.hid ⟨by simp, Below.refl _ _⟩⟩
  case round =>
    obtain ⟨i, rfl, hik, H⟩ := hrel
    cases gk with
    | zero =>
      obtain rfl : i = L.length := by omega
      go_wp2
      go_ret
      refine ⟨?_, H.out.2⟩
      rw [H.out.1, List.drop_length]; rfl
    | succ kx =>
      have hlt : i < L.length := by omega
      have hlz : (i : Int) < (L.length : Int) := by omega
      obtain ⟨a, rfl, hab, hrow⟩ := pr_up hL H.out.2 (by omega)
      have hc : ∀ j u, (pcl L[i])[j]? = some u → wr.cell? ((a.add (i * 18)).add j) = some u := fun j u hu => by rw [add_add]; exact hrow i hlt j u hu
      have hst := idxs_step (such := (fun i => decide (o.text.size ≤ i))) hlt
      have hpi := hin L[i] (List.getElem_mem hlt)
      obtain ⟨P, hP⟩ : ∃ P, P = L[i] := ⟨_, rfl⟩
      rw [← hP] at hc hst hpi
      have HS := Lib.hid (H.out.1.trans hst)
      have HB := Lib.hid H.out.2
      have hI := fun W (hb : Below w.heap.size w W) => Index_k P.k.str P.k.sym W hpi.1.1 hpi.1.2 (tab_up htab hb)
      have hi1 : (Tryz.prog.info? 93).map (·.size) = some (prA P).size := psz
      clear hP hrow hst hpi htab
      cases ho : ixK P.k.str P.k.sym with
      | none =>
        have hI2 : ∀ W (_ : Below w.heap.size w W), Calls Tryz.prog 182 #[.agg #[.string P.k.str, .int .i64 P.k.sym]] W fun e w' => e = .returned (.tuple #[.int .i64 0, .bool false]) ∧ Below W.heap.size W w' := fun W hb => by have := hI W hb; rw [ho] at this; exact this
        clear hI
        go_wp2_with (first
          | ((with_reducible refine p_load ?_ rfl rfl hc ?_); (rfl))
          | ((with_reducible refine t_store rfl rfl rfl rfl (heap_alloc_new _ _) hi1 ?_ (prA_one P) (vzero wr _) (Nat.le_refl _) ?_); (rfl); intro W hBW hW _ _; have HB := Lib.hid (vb HB.out hBW))
          | ((with_reducible refine pk_load ?_ rfl rfl hW ?_); (rfl))
          | (go_at_call 182; (with_reducible refine (hI2 _ HB.out).mono ?_); rintro e w1 ⟨rfl, h9⟩; have HB := Lib.hid (vb HB.out h9); clear h9))
        go_roundg kx
        case measure => omega
        case rel => exact ⟨i + 1, by congr 1, by omega, Lib.hid ⟨by rw [HS.out, ho]; rfl, HB.out⟩⟩
      | some m =>
        have hI2 : ∀ W (_ : Below w.heap.size w W), Calls Tryz.prog 182 #[.agg #[.string P.k.str, .int .i64 P.k.sym]] W fun e w' => e = .returned (.tuple #[.int .i64 (m : Int), .bool true]) ∧ Below W.heap.size W w' := fun W hb => by have := hI W hb; rw [ho] at this; exact this
        clear hI
        have hm : m < 1024 := ix_lt ho
        cases hq : decide (o.text.size ≤ m) with
        | true =>
          go_wp2_with (first
            | ((with_reducible refine p_load ?_ rfl rfl hc ?_); (rfl))
            | ((with_reducible refine t_store rfl rfl rfl rfl (heap_alloc_new _ _) hi1 ?_ (prA_one P) (vzero wr _) (Nat.le_refl _) ?_); (rfl); intro W hBW hW _ _; have HB := Lib.hid (vb HB.out hBW))
            | ((with_reducible refine pk_load ?_ rfl rfl hW ?_); (rfl))
            | (go_at_call 182; (with_reducible refine (hI2 _ HB.out).mono ?_); rintro e w1 ⟨rfl, h9⟩; have HB := Lib.hid (vb HB.out h9); clear h9))
          refine (HF.out m _ HB.out).mono ?_
          rintro e w2 ⟨rfl, rfl⟩
          rw [hq]
          dsimp only
          go_wp2_with (fail)
          go_roundg kx
          case measure => omega
          case rel => exact ⟨i + 1, by congr 1, by omega, Lib.hid ⟨by rw [HS.out, ho]; exact (congrArg (· && _) (hq)).trans (Bool.true_and _), HB.out⟩⟩
        | false =>
          go_wp2_with (first
            | ((with_reducible refine p_load ?_ rfl rfl hc ?_); (rfl))
            | ((with_reducible refine t_store rfl rfl rfl rfl (heap_alloc_new _ _) hi1 ?_ (prA_one P) (vzero wr _) (Nat.le_refl _) ?_); (rfl); intro W hBW hW _ _; have HB := Lib.hid (vb HB.out hBW))
            | ((with_reducible refine pk_load ?_ rfl rfl hW ?_); (rfl))
            | (go_at_call 182; (with_reducible refine (hI2 _ HB.out).mono ?_); rintro e w1 ⟨rfl, h9⟩; have HB := Lib.hid (vb HB.out h9); clear h9))
          refine (HF.out m _ HB.out).mono ?_
          rintro e w2 ⟨rfl, rfl⟩
          rw [hq]
          dsimp only
          go_wp2_with (fail)
          go_ret
          refine ⟨?_, HB.out⟩
          rw [HS.out, ho, show (match (some m : Option Nat) with | some m => ((fun i => decide (o.text.size ≤ i))) m | none => true) = false from hq]; rfl
end Go.Proofs.YthnkllhfmjbbmaaGreatDoor.S
