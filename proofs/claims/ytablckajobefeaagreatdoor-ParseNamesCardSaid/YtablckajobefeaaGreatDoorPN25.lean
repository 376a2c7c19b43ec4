/-
  Package parse's Tree: a row of tokens that may be.
-/
import Derived.Test.YtablckajobefeaaGreatDoorPN23
import Derived.Test.YtablckajobefeaaGreatDoorPN24
import Derived.Deep.QuietTactic
import Derived.BigQuiet
import Derived.Test.YtablckajobefeaaGreatDoorPN08
import Derived.Maps.AppendAt
import Derived.Test.YtablckajobefeaaGreatDoorPN05
import Derived.Test.YtablckajobefeaaGreatDoorPN09
namespace Go.Proofs.YtablckajobefeaaGreatDoor.S
open Go.RowKit Fl

/-- what Tree and Parse come to -/
def PTo (w : World) (r : PT) (e : Ending) (w' : World) : Prop :=
  match r with
  | .ok l => ∃ v, e = .returned (.tuple #[v, .int .i64 0, .int .i64 0]) ∧ TreeAt w.heap.size l v w' ∧ Below w.heap.size w w'
  | .err p k => e = .returned (.tuple #[.agg #[.slice none 0 0], .int .i64 p, .int .i64 k]) ∧ Below w.heap.size w w'
theorem pto_ok {w w' : World} {r : PT} {l : List Nd} {v : Value} (h : r = .ok l) (h1 : TreeAt w.heap.size l v w') (h2 : Below w.heap.size w w') : PTo w r (.returned (.tuple #[v, .int .i64 0, .int .i64 0])) w' := by rw [h]; exact ⟨v, rfl, h1, h2⟩
theorem pto_err {w w' : World} {r : PT} {p k : Int} (h : r = .err p k) (h2 : Below w.heap.size w w') : PTo w r (.returned (.tuple #[.agg #[.slice none 0 0], .int .i64 p, .int .i64 k])) w' := by rw [h]; exact ⟨rfl, h2⟩
theorem part_any {w : World} {ok : Nat → Prop} {t : Tr} {v : Value} (h : PartAt w ok t v) : PartAt w (fun j => j < w.heap.size) t v := part_up (Nat.le_refl _) (fun _ _ hlt => ⟨hlt, rfl⟩) t v h
/-- what caught comes to behind the parser's making -/
def CtR (w1 : World) (T : List Tk) (r : Rs Tr) (e : Ending) (w' : World) : Prop :=
  match r with
  | .ok t s => e = .returned (.agg #[.int .i64 0, .int .i64 0]) ∧ ∃ g A cap, PartAt w' (fun j => j < w'.heap.size) t (.pointer (some ⟨g, 0, none⟩)) ∧
      w'.heap[w1.heap.size]? = some (.cells #[.slice A T.length cap, .int .i64 (s.next : Int), .int .i64 s.level, .int .i64 s.parts] 64 (0, 0)) ∧
      w'.heap[w1.heap.size + 1]? = some (.cells #[.pointer (some ⟨w1.heap.size, 0, none⟩)] 62 (0, 0)) ∧ w'.heap[w1.heap.size + 1 + 1]? = some (.cells #[.pointer (some ⟨g, 0, none⟩)] 65 (0, 0)) ∧ Below w1.heap.size w1 w'
  | .bad p k => e = .returned (.agg #[.int .i64 p, .int .i64 k]) ∧ Below w1.heap.size w1 w'
  | .out => False
theorem caught_pre {T : List Tk} {A : Option Addr} {cap : Nat} {w1 : World} (hr : RdA w1 A T) (hm : MayP T) (hl : T.length ≤ 16385) :
    Calls Tryz.prog 24 #[.func (.func 25) #[] #[.pointer (some ⟨w1.heap.size + 1, 0, none⟩), .pointer (some ⟨w1.heap.size + 1 + 1, 0, none⟩)]]
      (((w1.alloc (.cells #[.slice A T.length cap, .int .i64 0, .int .i64 0, .int .i64 0] 64)).alloc (.cells #[.pointer (some ⟨w1.heap.size, 0, none⟩)] 62)).alloc (.cells #[.pointer none] 65))
      (CtR w1 T (scriptR T (depthOf T) ⟨0, 0, 0⟩)) := by
  have hT0 : 0 < T.length := by
    cases T with
    | nil => exact absurd rfl hm.1
    | cons a l => simp
  generalize ho0 : (Obj.cells #[.slice A T.length cap, .int .i64 0, .int .i64 0, .int .i64 0] 64) = o0
  generalize ho1 : (Obj.cells #[.pointer (some ⟨w1.heap.size, 0, none⟩)] 62) = o1
  generalize ho2 : (Obj.cells #[.pointer none] 65) = o2
  have s1 : (w1.alloc o0).heap.size = w1.heap.size + 1 := by simp
  have s2 : ((w1.alloc o0).alloc o1).heap.size = w1.heap.size + 1 + 1 := by simp
  have s3 : (((w1.alloc o0).alloc o1).alloc o2).heap.size = w1.heap.size + 1 + 1 + 1 := by simp
  have k3 : ∀ k, k < w1.heap.size + 1 + 1 → (((w1.alloc o0).alloc o1).alloc o2).heap[k]? = ((w1.alloc o0).alloc o1).heap[k]? := fun k hk => (World.grownBy_alloc _ o2 none).block k (by omega) (by simp)
  have k2 : ∀ k, k < w1.heap.size + 1 → ((w1.alloc o0).alloc o1).heap[k]? = (w1.alloc o0).heap[k]? := fun k hk => (World.grownBy_alloc _ o1 none).block k (by omega) (by simp)
  have b0 : (((w1.alloc o0).alloc o1).alloc o2).heap[w1.heap.size]? = some o0 := (k3 _ (by omega)).trans ((k2 _ (by omega)).trans (alloc_at rfl))
  have b1 : (((w1.alloc o0).alloc o1).alloc o2).heap[w1.heap.size + 1]? = some o1 := (k3 _ (by omega)).trans (alloc_at s1.symm)
  have b2 : (((w1.alloc o0).alloc o1).alloc o2).heap[w1.heap.size + 1 + 1]? = some o2 := alloc_at s2.symm
  have low : ∀ k, k < w1.heap.size → (((w1.alloc o0).alloc o1).alloc o2).heap[k]? = w1.heap[k]? := fun k hk => (k3 _ (by omega)).trans ((k2 _ (by omega)).trans ((World.grownBy_alloc _ o0 none).block k hk (by simp)))
  have hb : Below w1.heap.size w1 (((w1.alloc o0).alloc o1).alloc o2) := ⟨rfl, rfl, rfl, by omega, low⟩
  subst ho0 ho1 ho2
  obtain ⟨a, hA, hal, _⟩ := hr hT0
  have hat : At ⟨w1.heap.size, A, cap, T⟩ ⟨0, 0, 0⟩ (((w1.alloc (.cells #[.slice A T.length cap, .int .i64 0, .int .i64 0, .int .i64 0] 64)).alloc (.cells #[.pointer (some ⟨w1.heap.size, 0, none⟩)] 62)).alloc (.cells #[.pointer none] 65)) :=
    ⟨b0, rda_up hr hb, fun a' e => by have e : A = some a' := e; rw [hA] at e; cases e; show a.block ≠ w1.heap.size; omega, by show T.length ≤ 70000; omega, hT0, hm⟩
  refine (caught_tree hat b1 b2 (by show w1.heap.size + 1 + 1 ≠ w1.heap.size; omega) (fun a' e => by have e : A = some a' := e; rw [hA] at e; cases e; show a.block ≠ w1.heap.size + 1 + 1; omega)).mono ?_
  rintro e w' hr
  change CtTo _ _ _ (scriptR T (depthOf T) ⟨0, 0, 0⟩) e w' at hr
  cases hR : scriptR T (depthOf T) ⟨0, 0, 0⟩ with
  | out => exact absurd hR (gd_not_out (script_gd hm))
  | bad p q =>
    rw [hR] at hr
    obtain ⟨rfl, g⟩ := hr
    exact ⟨rfl, g.os.trans hb.os, g.tape.trans hb.tape, g.output.trans hb.output, Nat.le_trans hb.size g.size, fun k hk => (g.block k (Nat.lt_of_lt_of_le hk hb.size) (fun e => by have e : w1.heap.size = k := (Option.some.inj e).symm; omega)).trans (hb.block k hk)⟩
  | ok t s =>
    rw [hR] at hr
    obtain ⟨rfl, g, h1, h2, h3, h4⟩ := hr
    refine ⟨rfl, g, A, cap, part_any h1, h2.blk, (h4.block _ (by omega) (by show w1.heap.size + 1 ≠ w1.heap.size; omega) (by omega)).trans b1, h3, h4.os.trans hb.os, h4.tape.trans hb.tape, h4.output.trans hb.output, Nat.le_trans hb.size h4.size, fun k hk => (h4.block k (Nat.lt_of_lt_of_le hk hb.size) (by show k ≠ w1.heap.size; omega) (by omega)).trans (hb.block k hk)⟩
theorem tok_small {T : List Tk} (hm : MayP T) (i : Nat) : (tkAt T i).text.size ≤ 281474976710656 := by
  unfold tkAt
  rw [List.getD_eq_getElem?_getD]
  cases h : T[i]? with
  | none => exact (by decide : noTk.text.size ≤ 281474976710656)
  | some t => exact Nat.le_trans (tok_text (hm.2 i t h).1) (by decide)
theorem tree_ret {Q : Ending → World → Prop} {tmps : Array Value} {W : World} {g : Nat} {sl : Value} {p k : Int} (h2 : tmps[2]?.getD undef = .pointer (some ⟨g, 0, none⟩)) (h3 : tmps[3]?.getD undef = .int .i64 p) (h4 : tmps[4]?.getD undef = .int .i64 k)
    (hb : W.heap[g]? = some (.cells #[sl] 32 (0, 0))) (hQ : Q (.returned (.tuple #[.agg #[sl], .int .i64 p, .int .i64 k])) W) : bodyPost Tryz.prog Tryz.f17 Q .ret { tmps := tmps, defers := [] } W := by
  have c0 : W.cell? ⟨g, 0, none⟩ = some sl := blk_cell hb 0
  clear hb
  refine bodyPost_ret (v := .tuple #[.agg #[sl], .int .i64 p, .int .i64 k]) ?_ rfl hQ
  simp [h2, h3, h4, c0, results, Tryz.results17, go_sem]
theorem below_set {w W : World} (h : Below w.heap.size w W) {g : Nat} (hg : w.heap.size ≤ g) (i : Nat) (v : Value) : Below w.heap.size w (W.setCell ⟨g, i, none⟩ v) :=
  ⟨h.os, h.tape, h.output, by simpa using h.size, fun k hk => (Go.Deep.blk_setCell_other _ _ _ _ (by show k ≠ g; omega)).trans (h.block k hk)⟩
theorem blk_alloc {w : World} {g : Nat} {o1 : Obj} (h : w.heap[g]? = some o1) (o : Obj) : (w.alloc o).heap[g]? = some o1 := ((World.grownBy_alloc w o none).block g (lt_of_blk h) (by simp)).trans h
theorem treeAt_up {n0 : Nat} {l : List Nd} {v : Value} {w w' : World} {n : Nat} (h : TreeAt n l v w) (hn : n0 ≤ n) (hs : w.heap.size ≤ w'.heap.size) (hk : ∀ k, n ≤ k → k < w.heap.size → w'.heap[k]? = w.heap[k]?) : TreeAt n0 l v w' := by
  obtain ⟨A, cap, cs, rfl, h1, h2⟩ := h
  refine ⟨A, cap, cs, rfl, ⟨h1.1, ?_⟩, nds_up hs (fun k k1 k2 => ⟨⟨by have := k1.1; omega, k1.2⟩, hk k k1.1 k2⟩) _ _ h2⟩
  rcases h1.2 with h3 | ⟨g, c, cur, h3, h4, h5, h6⟩
  · exact Or.inl h3
  · exact Or.inr ⟨g, c, cur, h3, by omega, (hk g h4 (lt_of_blk h5)).trans h5, h6⟩
set_option maxHeartbeats 4000000 in
set_option maxRecDepth 100000 in
theorem tree_any {T : List Tk} {A : Option Addr} {cap : Nat} {w : World} (hr : RdA w A T) (hin : ∀ t ∈ T, TkIn t) (hm : MayP T) (hl : T.length ≤ 16385) (hcap : T.length ≤ cap) (htab : TabHere w) :
    Calls Tryz.prog 17 #[.slice A T.length cap] w (PTo w (treeP T)) := by
  obtain ⟨s, k, hT⟩ := textR_any T
  have hk : k = 0 ∨ k = 3 := by
    rcases hT with ⟨h1, _, _⟩ | ⟨_, h1, _, _⟩ | ⟨_, _, _, _, h1⟩ | ⟨_, _, _, _, h1⟩
    · omega
    · exact absurd hm h1
    · exact Or.inr h1
    · exact Or.inl h1
  have kt := fun W (h : Below w.heap.size w W) => Text_any T A cap W (rda_up hr h) hin (by omega) hcap (tab_below htab h) s k hT
  have hmf : ∀ (fn : Fn) (first cap : Array Value) (w : World), (Instr.makeFunc fn first cap).run Tryz.prog w = .ok (.func fn first cap) w := fun _ _ _ _ => rfl
  have hTs : ∀ t s, scriptR T (depthOf T) ⟨0, 0, 0⟩ = .ok t s → t.size ≤ 200000 ∧ t.all fun c => c.size ≤ 281474976710656 := fun t s h => by
    have h1 := size_tree hm (by omega) h
    refine ⟨by omega, tx_tree ⟨by decide, fun s => tok_small hm _⟩ h⟩
  generalize hP : treeP T = P
  unfold treeP at hP
  have E := Lib.hid hP
  clear hP
  rcases hk with rfl | rfl
  · go_enter Tryz.func17, Tryz.ntmps17
    go_wp2_with (go_at_call 19; refine (kt _ ((Below.refl _ _).alloc (Nat.le_refl _) _)).mono ?_; rintro e w1 ⟨rfl, hb⟩)
    go_at_call 24
    obtain ⟨hD, hDs, G1⟩ := num_a hb
    rw [heap_alloc_new] at hD
    have hB1 : Below w.heap.size w w1 := ⟨G1.os, G1.tape, G1.output, G1.size, fun k hk => G1.block k hk (by simp)⟩
    refine (caught_pre (rda_up hr hB1) hm hl).mono ?_
    rintro e w2 hr2
    cases hS : scriptR T (depthOf T) ⟨0, 0, 0⟩ with
    | out => exact absurd hS (gd_not_out (script_gd hm))
    | bad p q =>
      have E := Lib.hid (by have := E.out; rw [hS] at this; exact this)
      rw [hS] at hr2
      obtain ⟨rfl, hB2⟩ := hr2
      have hD2 := (hB2.block w.heap.size hDs).trans hD
      have hB := below_up hB1 hB2
      have d0 := blk_cell hD2 0
      have dz := fun i => fz_blk hD2 i
      have dl := lt_of_blk hD2
      have hq0 : (q != 0) = true := by rw [bne_iff_ne]; exact nb_tree hS
      go_wp2_with (fail)
      go_region
      go_wp2_with (fail)
      exact tree_ret rfl rfl rfl (blk_alloc (set_blk hD2 0 (.slice none 0 0)) _) (pto_err E.out.symm ((below_set hB (Nat.le_refl _) 0 _).alloc (by simpa using hB.size) _).drew)
    | ok t s =>
      have E := Lib.hid (by have := E.out; rw [hS] at this; exact this)
      obtain ⟨hz, hq⟩ := hTs t s hS
      rw [hS] at hr2
      obtain ⟨rfl, g, A2, cap2, hpt, hpb, hpv, hpw, hB2⟩ := hr2
      have hD2 := (hB2.block w.heap.size hDs).trans hD
      have hB := below_up hB1 hB2
      have d0 := blk_cell hD2 0
      have dz := fun i => fz_blk hD2 i
      have dl := lt_of_blk hD2
      have b3 := blk_cell hpb 3
      have bl := lt_of_blk hpb
      have v0 := blk_cell hpv 0
      have vl := lt_of_blk hpv
      have g0 := blk_cell hpw 0
      have gl := lt_of_blk hpw
      by_cases hpp : 16384 < s.parts
      · go_wp2_with (fail)
        exact tree_ret rfl rfl rfl (blk_alloc (set_blk hD2 0 (.slice none 0 0)) _) (pto_err (E.out.symm.trans (if_pos hpp)) ((below_set hB (Nat.le_refl _) 0 _).alloc (by simpa using hB.size) _))
      · have hcall := numbered_any (ok := fun j => j < (w2.alloc (.cells #[.int .i64 0, .int .i64 0] 67)).heap.size) (part_up (w := w2) (by simp) (fun k _ h2 => ⟨by simp; omega, (World.grownBy_alloc w2 _ none).block k h2 (by simp)⟩) t _ hpt) (fun j hj => hj) hq hz
        go_wp2_with (fail)
        go_at_call 27
        refine hcall.mono ?_
        rintro e w3 ⟨v3, rfl, hT3, hB3⟩
        obtain ⟨A3, cap3, cs3, rfl, hO3, hN3⟩ := hT3
        have hsz : (w2.alloc (.cells #[.int .i64 0, .int .i64 0] 67)).heap.size = w2.heap.size + 1 := by simp
        have hD3 := (hB3.block w.heap.size (by omega)).trans (blk_alloc hD2 _)
        have d0 := blk_cell hD3 0
        have dz := fun i => fz_blk hD3 i
        have dl := lt_of_blk hD3
        go_wp2_with (fail)
        refine tree_ret rfl rfl rfl (set_blk hD3 0 (.slice A3 (flatT 0 t).length cap3)) (pto_ok (E.out.symm.trans (if_neg (show ¬ 16384 < s.parts by omega))) (treeAt_up (w := w3) ⟨A3, cap3, cs3, rfl, hO3, hN3⟩ (by omega) (by simp) fun k k1 k2 => Go.Deep.blk_setCell_other _ _ _ _ (by show k ≠ w.heap.size; omega)) (below_set ?_ (Nat.le_refl _) 0 _))
        exact below_up (hB.alloc hB.size _) hB3
  · go_enter Tryz.func17, Tryz.ntmps17
    go_wp2_with (go_at_call 19; refine (kt _ ((Below.refl _ _).alloc (Nat.le_refl _) _)).mono ?_; rintro e w1 ⟨rfl, hb⟩)
    go_at_call 24
    obtain ⟨hD, hDs, G1⟩ := num_a hb
    rw [heap_alloc_new] at hD
    have hB1 : Below w.heap.size w w1 := ⟨G1.os, G1.tape, G1.output, G1.size, fun k hk => G1.block k hk (by simp)⟩
    refine (caught_pre (rda_up hr hB1) hm hl).mono ?_
    rintro e w2 hr2
    cases hS : scriptR T (depthOf T) ⟨0, 0, 0⟩ with
    | out => exact absurd hS (gd_not_out (script_gd hm))
    | bad p q =>
      have E := Lib.hid (by have := E.out; rw [hS] at this; exact this)
      rw [hS] at hr2
      obtain ⟨rfl, hB2⟩ := hr2
      have hD2 := (hB2.block w.heap.size hDs).trans hD
      have hB := below_up hB1 hB2
      have d0 := blk_cell hD2 0
      have dz := fun i => fz_blk hD2 i
      have dl := lt_of_blk hD2
      have hq0 : (q != 0) = true := by rw [bne_iff_ne]; exact nb_tree hS
      go_wp2_with (fail)
      go_region
      go_wp2_with (fail)
      exact tree_ret rfl rfl rfl (blk_alloc (set_blk hD2 0 (.slice none 0 0)) _) (pto_err E.out.symm ((below_set hB (Nat.le_refl _) 0 _).alloc (by simpa using hB.size) _).drew)
    | ok t s =>
      have E := Lib.hid (by have := E.out; rw [hS] at this; exact this)
      obtain ⟨hz, hq⟩ := hTs t s hS
      rw [hS] at hr2
      obtain ⟨rfl, g, A2, cap2, hpt, hpb, hpv, hpw, hB2⟩ := hr2
      have hD2 := (hB2.block w.heap.size hDs).trans hD
      have hB := below_up hB1 hB2
      have d0 := blk_cell hD2 0
      have dz := fun i => fz_blk hD2 i
      have dl := lt_of_blk hD2
      have b3 := blk_cell hpb 3
      have bl := lt_of_blk hpb
      have v0 := blk_cell hpv 0
      have vl := lt_of_blk hpv
      have g0 := blk_cell hpw 0
      have gl := lt_of_blk hpw
      by_cases hpp : 16384 < s.parts
      · go_wp2_with (fail)
        exact tree_ret rfl rfl rfl (blk_alloc (set_blk hD2 0 (.slice none 0 0)) _) (pto_err (E.out.symm.trans (if_pos hpp)) ((below_set hB (Nat.le_refl _) 0 _).alloc (by simpa using hB.size) _))
      · have hcall := numbered_any (ok := fun j => j < (w2.alloc (.cells #[.int .i64 0, .int .i64 0] 67)).heap.size) (part_up (w := w2) (by simp) (fun k _ h2 => ⟨by simp; omega, (World.grownBy_alloc w2 _ none).block k h2 (by simp)⟩) t _ hpt) (fun j hj => hj) hq hz
        go_wp2_with (fail)
        go_at_call 27
        refine hcall.mono ?_
        rintro e w3 ⟨v3, rfl, hT3, hB3⟩
        obtain ⟨A3, cap3, cs3, rfl, hO3, hN3⟩ := hT3
        have hsz : (w2.alloc (.cells #[.int .i64 0, .int .i64 0] 67)).heap.size = w2.heap.size + 1 := by simp
        have hD3 := (hB3.block w.heap.size (by omega)).trans (blk_alloc hD2 _)
        have d0 := blk_cell hD3 0
        have dz := fun i => fz_blk hD3 i
        have dl := lt_of_blk hD3
        go_wp2_with (fail)
        refine tree_ret rfl rfl rfl (set_blk hD3 0 (.slice A3 (flatT 0 t).length cap3)) (pto_ok (E.out.symm.trans (if_neg (show ¬ 16384 < s.parts by omega))) (treeAt_up (w := w3) ⟨A3, cap3, cs3, rfl, hO3, hN3⟩ (by omega) (by simp) fun k k1 k2 => Go.Deep.blk_setCell_other _ _ _ _ (by show k ≠ w.heap.size; omega)) (below_set ?_ (Nat.le_refl _) 0 _))
        exact below_up (hB.alloc hB.size _) hB3
end Go.Proofs.YtablckajobefeaaGreatDoor.S
/-
  Package parse's Parse: any text that is not too long.
-/
namespace Go.Proofs.YtablckajobefeaaGreatDoor.S
open Go.RowKit Fl

theorem tb_cap {B : Nat} {A : Option Addr} {n cap : Nat} {l : List Tk} {w0 w : World} (h : TB B (.slice A n cap) l w0 w) : l.length ≤ cap := by
  rcases h.1.2 with ⟨e, h1⟩ | ⟨g, c, cur, e, _, _, h2, _⟩
  · omega
  · injection e with e1 e2 e3
    omega
/-- what a text is parsed to -/
def parseP (s : List UInt8) : PT :=
  match toks s with
  | .ok T => treeP T
  | .err a k => .err a k
theorem parse_ret {Q : Ending → World → Prop} {tmps : Array Value} {W : World} {g : Nat} {sl : Value} {p k : Int} (h2 : tmps[2]?.getD undef = .pointer (some ⟨g, 0, none⟩)) (h3 : tmps[3]?.getD undef = .int .i64 p) (h4 : tmps[4]?.getD undef = .int .i64 k)
    (hb : W.heap[g]? = some (.cells #[sl] 32 (0, 0))) (hQ : Q (.returned (.tuple #[.agg #[sl], .int .i64 p, .int .i64 k])) W) : bodyPost Tryz.prog Tryz.f11 Q .ret { tmps := tmps, defers := [] } W := by
  have c0 : W.cell? ⟨g, 0, none⟩ = some sl := blk_cell hb 0
  clear hb
  refine bodyPost_ret (v := .tuple #[.agg #[sl], .int .i64 p, .int .i64 k]) ?_ rfl hQ
  simp [h2, h3, h4, c0, results, Tryz.results11, go_sem]
set_option maxHeartbeats 4000000 in
set_option maxRecDepth 100000 in
theorem parse_any (s : ByteArray) (hs : s.size ≤ 70000) (w : World) (htab : TabHere w) : Calls Tryz.prog 11 #[.string s] w (PTo w (parseP s.data.toList)) := by
  have kt := fun W => Tokens_any s hs W
  generalize hP : parseP s.data.toList = P
  unfold parseP at hP
  have E := Lib.hid hP
  clear hP
  go_enter Tryz.func11, Tryz.ntmps11
  go_wp2_with (fail)
  go_at_call 16
  refine (kt _).mono ?_
  rintro e w1 hr
  cases hT : toks s.data.toList with
  | err a k =>
    have E := Lib.hid (by have := E.out; rw [hT] at this; exact this)
    rw [hT] at hr
    obtain ⟨rfl, hb⟩ := hr
    obtain ⟨hD, hDs, G1⟩ := num_a hb
    rw [heap_alloc_new] at hD
    have hB1 : Below w.heap.size w w1 := ⟨G1.os, G1.tape, G1.output, G1.size, fun k hk => G1.block k hk (by simp)⟩
    have hk0 : (k != 0) = true := by rw [bne_iff_ne]; exact toks_err hT
    have d0 := blk_cell hD 0
    have dz := fun i => fz_blk hD i
    go_wp2_with (fail)
    exact parse_ret rfl rfl rfl (set_blk hD 0 (.slice none 0 0)) (pto_err E.out.symm (below_set hB1 (Nat.le_refl _) 0 _))
  | ok T =>
    have E := Lib.hid (by have := E.out; rw [hT] at this; exact this)
    obtain ⟨hin, hm, hl⟩ := told_in hT
    rw [hT] at hr
    obtain ⟨v, rfl, hb⟩ := hr
    obtain ⟨hD, hDs, G1⟩ := num_a hb.2.1
    rw [heap_alloc_new] at hD
    have hB1 : Below w.heap.size w w1 := ⟨G1.os, G1.tape, G1.output, G1.size, fun k hk => G1.block k hk (by simp)⟩
    obtain ⟨A, cap, rfl⟩ := tb_shape hb
    have hrd := rda_tb hb
    have hcap := tb_cap hb
    go_wp2_with (fail)
    go_at_call 17
    refine (tree_any hrd hin hm hl hcap (tab_below htab hB1)).mono ?_
    rintro e w2 hr2
    cases hP : treeP T with
    | err p q =>
      have E := Lib.hid (hP.symm.trans E.out)
      rw [hP] at hr2
      obtain ⟨rfl, hB2⟩ := hr2
      have hD2 := (hB2.block w.heap.size hDs).trans hD
      have d0 := blk_cell hD2 0
      have dz := fun i => fz_blk hD2 i
      go_wp2_with (fail)
      exact parse_ret rfl rfl rfl (set_blk hD2 0 (.slice none 0 0)) (pto_err E.out.symm (below_set (below_up hB1 hB2) (Nat.le_refl _) 0 _))
    | ok l =>
      have E := Lib.hid (hP.symm.trans E.out)
      rw [hP] at hr2
      obtain ⟨v3, rfl, ⟨A3, cap3, cs3, rfl, hO3, hN3⟩, hB2⟩ := hr2
      have hD2 := (hB2.block w.heap.size hDs).trans hD
      have d0 := blk_cell hD2 0
      have dz := fun i => fz_blk hD2 i
      go_wp2_with (fail)
      exact parse_ret rfl rfl rfl (set_blk hD2 0 (.slice A3 l.length cap3)) (pto_ok E.out.symm (treeAt_up (w := w2) ⟨A3, cap3, cs3, rfl, hO3, hN3⟩ hB1.size (by simp) fun k k1 k2 => Go.Deep.blk_setCell_other _ _ _ _ (by show k ≠ w.heap.size; omega)) (below_set (below_up hB1 hB2) (Nat.le_refl _) 0 _))
end Go.Proofs.YtablckajobefeaaGreatDoor.S
/-
  What the laws of parse use: a tree's cells, many, kinds.
-/
namespace Go.Proofs.YtablckajobefeaaGreatDoor.S
open Go.RowKit Fl

theorem nds_get {w : World} {ok : Nat → Prop} : ∀ (l : List Nd) (cs : List Value), NdsAt w ok l cs → ∀ i (h : i < l.length), ∃ A cap, (∀ j, j < 5 → cs[i * 5 + j]? = (ndC l[i] A cap)[j]?) ∧ l[i].kids.length ≤ cap ∧ RowV w ok A (intsV l[i].kids)
  | [], _, _, i, h => by simp at h
  | c :: l, cs, ⟨a, b, h1, ⟨A, cap, h2, hcp, h3⟩, h4⟩, i, h => by
    have ha : a.length = 5 := by rw [h2]; rfl
    cases i with
    | zero =>
      refine ⟨A, cap, fun j hj => ?_, hcp, h3⟩
      rw [h1, List.getElem?_append_left (by omega), h2]
      simp
    | succ i =>
      obtain ⟨A2, cap2, k1, kc, k2⟩ := nds_get l b h4 i (by simpa using h)
      refine ⟨A2, cap2, fun j hj => ?_, kc, k2⟩
      rw [h1, List.getElem?_append_right (by omega), ha, show (i + 1) * 5 + j - 5 = i * 5 + j by omega]
      exact k1 j hj
theorem tree_cells2 {n0 : Nat} {l : List Nd} {A : Option Addr} {cap : Nat} {w : World} (h : TreeAt n0 l (.agg #[.slice A l.length cap]) w) (hl : 0 < l.length) : ∃ g, A = some ⟨g, 0, none⟩ ∧ n0 ≤ g ∧ g < w.heap.size ∧ ∀ i (hi : i < l.length),
    w.cell? ⟨g, i * 5, none⟩ = some (.int .u8 (l[i].kind : Int)) ∧ w.cell? ⟨g, i * 5 + 1, none⟩ = some (.int .i64 l[i].p) ∧ w.cell? ⟨g, i * 5 + 2, none⟩ = some (.string l[i].text) ∧ w.cell? ⟨g, i * 5 + 3, none⟩ = some (.float .f64 l[i].num) ∧
      ∃ K ck, w.cell? ⟨g, i * 5 + 4, none⟩ = some (.slice K l[i].kids.length ck) ∧ l[i].kids.length ≤ ck ∧ RowV w (fun k => n0 ≤ k) K (intsV l[i].kids) := by
  obtain ⟨A', cap', cs, h0, h1, h2⟩ := h
  injection h0 with h0
  injection h0 with h0
  injection h0 with h0
  injection h0 with e1 _ e3
  subst e1 e3
  rcases h1.2 with ⟨_, h3⟩ | ⟨g, c, cur, h3, h4, h5, h6⟩
  · omega
  · injection h3 with e1 _ e3
    subst e1 e3
    refine ⟨g, rfl, h4, lt_of_blk h5, fun i hi => ?_⟩
    have cell : ∀ j u, cs[j]? = some u → w.cell? ⟨g, j, none⟩ = some u := fun j u hu => by
      have := h1.cells (g := g) rfl j u hu
      rwa [show (⟨g, 0, none⟩ : Addr).add j = ⟨g, j, none⟩ by unfold Addr.add; split <;> simp_all] at this
    obtain ⟨K, ck, k1, kc, k2⟩ := nds_get l cs h2 i hi
    refine ⟨cell _ _ (k1 0 (by omega)), cell _ _ (k1 1 (by omega)), cell _ _ (k1 2 (by omega)), cell _ _ (k1 3 (by omega)), K, ck, cell _ _ (k1 4 (by omega)), kc, rowv_up k2 (Nat.le_refl _) fun k h _ => ⟨h.1, rfl⟩⟩
theorem tree_cells {n0 : Nat} {l : List Nd} {A : Option Addr} {cap : Nat} {w : World} (h : TreeAt n0 l (.agg #[.slice A l.length cap]) w) (hl : 0 < l.length) : ∃ g, A = some ⟨g, 0, none⟩ ∧ n0 ≤ g ∧ g < w.heap.size ∧ ∀ i (hi : i < l.length),
    w.cell? ⟨g, i * 5, none⟩ = some (.int .u8 (l[i].kind : Int)) ∧ w.cell? ⟨g, i * 5 + 1, none⟩ = some (.int .i64 l[i].p) ∧ w.cell? ⟨g, i * 5 + 2, none⟩ = some (.string l[i].text) ∧ w.cell? ⟨g, i * 5 + 3, none⟩ = some (.float .f64 l[i].num) ∧
      ∃ K ck, w.cell? ⟨g, i * 5 + 4, none⟩ = some (.slice K l[i].kids.length ck) ∧ RowV w (fun k => n0 ≤ k) K (intsV l[i].kids) := by
  obtain ⟨g, h1, h2, h3, h4⟩ := tree_cells2 h hl
  exact ⟨g, h1, h2, h3, fun i hi => by obtain ⟨a0, a1, a2, a3, K, ck, a4, _, a5⟩ := h4 i hi; exact ⟨a0, a1, a2, a3, K, ck, a4, a5⟩⟩
/-- a text so many times -/
def manyL (s : List UInt8) : Nat → List UInt8
  | 0 => []
  | n + 1 => manyL s n ++ s
theorem manyL_len (s : List UInt8) (n : Nat) : (manyL s n).length = n * s.length := by
  induction n with
  | zero => simp [manyL]
  | succ n ih => simp [manyL, ih, Nat.succ_mul]
theorem mkB_append (a b : List UInt8) : mkB a ++ mkB b = mkB (a ++ b) := by
  apply str_ext
  simp [mkB]
set_option maxHeartbeats 1000000 in
theorem many_any (s : List UInt8) (n : Nat) (w : World) (hs : s.length ≤ 10) (hn : n ≤ 100000) : Calls Tryz.prog 8 #[.string (mkB s), .int .i64 (n : Int)] w fun e w' => e = .returned (.string (mkB (manyL s n))) ∧ Below w.heap.size w w' := by
  go_enter Tryz.func8, Tryz.ntmps8
  go_wp2_with (fail)
  go_loopw [5, 6] (fun o i wr => ∃ k : Nat, i = .int .i64 (k : Int) ∧ o = .string (mkB (manyL s k)) ∧ k ≤ n ∧ Hid (Below w.heap.size w wr)) (fun _ i _ => n - (intOf i).toNat)
  case atStart => exact ⟨0, rfl, rfl, Nat.zero_le _, Lib.hid (Below.refl _ _)⟩
  case round =>
    obtain ⟨k, rfl, rfl, hk, H⟩ := hrel
    by_cases hlt : (k : Int) < (n : Int)
    · have hz := Lib.hid (show (mkB (manyL s k)).size + (mkB s).size ≤ 9223372036854775807 by
        have h1 := manyL_len s k
        have h2 : k * s.length ≤ 100000 * 10 := Nat.mul_le_mul (by omega) hs
        simp [mkB, size_len, h1]
        omega)
      go_wp2_with (fail)
      all_goals first
        | (exfalso; have := hz.out; omega)
        | (refine ⟨⟨k + 1, rfl, ?_, by omega, H⟩, by simp [intOf]; omega⟩; rw [mkB_append]; rfl)
    · go_wp2_with (fail)
      go_ret
      have : k = n := by omega
      subst this
      exact ⟨rfl, H.out⟩
theorem parse_tree {s : List UInt8} {l : List Nd} (h : parseP s = .ok l) : ∃ T t s1, toks s = .ok T ∧ scriptR T (depthOf T) ⟨0, 0, 0⟩ = .ok t s1 ∧ l = flatT 0 t ∧ t.size ≤ 16384 := by
  unfold parseP at h
  cases hT : toks s with
  | err a k' => rw [hT] at h; cases h
  | ok T =>
    rw [hT] at h
    have h : treeP T = .ok l := h
    unfold treeP at h
    obtain ⟨hin, hm, hl⟩ := told_in hT
    cases hS : scriptR T (depthOf T) ⟨0, 0, 0⟩ with
    | out => rw [hS] at h; cases h
    | bad q j => rw [hS] at h; cases h
    | ok t s1 =>
      rw [hS] at h
      have h : (if s1.parts > 16384 then PT.err 0 4 else PT.ok (flatT 0 t)) = .ok l := h
      split at h
      · cases h
      · injection h with h
        have := size_tree hm (by omega) hS
        exact ⟨T, t, s1, rfl, hS, h.symm, by omega⟩
theorem parse_pos {s : List UInt8} {l : List Nd} (h : parseP s = .ok l) : 0 < l.length := by
  obtain ⟨T, t, s1, _, _, rfl, _⟩ := parse_tree h
  rw [flatT_len]
  exact Tr.size_pos t
theorem parse_few {s : List UInt8} {l : List Nd} (h : parseP s = .ok l) : l.length ≤ 100000 := by
  obtain ⟨T, t, s1, _, _, rfl, h2⟩ := parse_tree h
  rw [flatT_len]
  omega
/-- has what is parsed just these kinds? -/
def kindsP (r : PT) (ks : List Nat) : Bool :=
  match r with
  | .ok l => l.map Nd.kind == ks
  | .err _ _ => false
theorem parse_err {s : List UInt8} {p k : Int} (h : parseP s = .err p k) : k ≠ 0 := by
  unfold parseP at h
  cases hT : toks s with
  | err a k' =>
    rw [hT] at h
    injection h with _ h2
    subst h2
    exact toks_err hT
  | ok T =>
    rw [hT] at h
    have h : treeP T = .err p k := h
    unfold treeP at h
    cases hS : scriptR T (depthOf T) ⟨0, 0, 0⟩ with
    | out => exact absurd hS (gd_not_out (script_gd (told_in hT).2.1))
    | bad q j =>
      rw [hS] at h
      injection h with _ h2
      subst h2
      exact nb_tree hS
    | ok t s1 =>
      rw [hS] at h
      have h : (if s1.parts > 16384 then PT.err 0 4 else PT.ok (flatT 0 t)) = .err p k := h
      split at h
      · injection h with _ h2
        subst h2
        decide
      · cases h
theorem below_drewN {n : Nat} {w w' : World} (h : Below n w w') (q : Nat) : Below n w (w'.drewN q) := ⟨h.os, h.tape, h.output, h.size, h.block⟩
theorem kinds_below {w w1 wr : World} {o : Obj} (h1 : Below w.heap.size w w1) (h2 : Below (w1.heap.size + 1) (w1.alloc o) wr) : Below w.heap.size w wr :=
  ⟨h2.os.trans h1.os, h2.tape.trans h1.tape, h2.output.trans h1.output, by have := h2.size; have := h1.size; simp at *; omega, fun k hk => (h2.block k (by have := h1.size; omega)).trans (((World.grownBy_alloc w1 o none).block k (by have := h1.size; omega) (by simp)).trans (h1.block k hk))⟩
set_option maxHeartbeats 4000000 in
set_option maxRecDepth 100000 in
theorem kinds_any (s : ByteArray) (hs : s.size ≤ 70000) (ks : List Nat) (b : Nat) (w : World) (htab : TabHere w) (hb : b < w.heap.size) (hk : ∀ i (h : i < ks.length), w.cell? ⟨b, i, none⟩ = some (.int .u8 (ks[i] : Int))) (hl : ks.length ≤ 100000) :
    Calls Tryz.prog 5 #[.string s, .slice (some ⟨b, 0, none⟩) ks.length ks.length] w fun e w' => e = .returned (.bool (kindsP (parseP s.data.toList) ks)) ∧ Below w.heap.size w w' := by
  have kp := parse_any s hs w htab
  cases hP : parseP s.data.toList with
  | err p k =>
    rw [hP] at kp
    have hk0 : (k != 0) = true := by rw [bne_iff_ne]; exact parse_err hP
    go_enter Tryz.func5, Tryz.ntmps5
    go_wp2_with (go_at_call 11; refine kp.mono ?_; rintro e w1 ⟨rfl, h1⟩)
    go_ret
    exact ⟨rfl, h1.alloc h1.size _⟩
  | ok l =>
    rw [hP] at kp
    have hn0 : 0 < l.length := parse_pos hP
    have nl : l.length ≤ 100000 := parse_few hP
    by_cases hlen : l.length = ks.length
    · have hle : ((l.length : Int) != (ks.length : Int)) = false := by rw [hlen]; simp
      have HL := Lib.hid hlen
      clear hlen
      go_enter Tryz.func5, Tryz.ntmps5
      go_wp2_with (go_at_call 11; refine kp.mono ?_; rintro e w1 ⟨v, rfl, hT, h1⟩; obtain ⟨A, cap, cs, rfl, hT2⟩ := hT; obtain ⟨g, hA, hg, hgl, hc⟩ := tree_cells (A := A) (cap := cap) ⟨A, cap, cs, rfl, hT2⟩ hn0; subst hA)
      have hW0 : ∀ k, k < w1.heap.size → (w1.alloc (.cells #[.slice (some ⟨g, 0, none⟩) l.length cap] 32)).heap[k]? = w1.heap[k]? := fun k hk => (World.grownBy_alloc w1 _ none).block k hk (by simp)
      go_loopw [8] (fun i wr => ∃ k : Nat, i = .int .i64 (k : Int) ∧ k ≤ l.length ∧ (∀ j (h1 : j < l.length) (h2 : j < ks.length), j < k → l[j].kind = ks[j]) ∧ Hid (Below (w1.heap.size + 1) (w1.alloc (.cells #[.slice (some ⟨g, 0, none⟩) l.length cap] 32)) wr)) (fun i _ => l.length - (intOf i).toNat)
      case atStart => exact ⟨0, rfl, Nat.zero_le _, fun j _ _ h => absurd h (by omega), Lib.hid (Below.refl _ _)⟩
      case round =>
        obtain ⟨k, rfl, hkl, hsame, H⟩ := hrel
        have hb2 := H.out
        have r0 : wr.cell? ⟨w1.heap.size, 0, none⟩ = some (.slice (some ⟨g, 0, none⟩) l.length cap) := blk_cell ((hb2.block _ (by omega)).trans (heap_alloc_new w1 _)) 0
        have hs1 := h1.size
        by_cases hlt : (k : Int) < (ks.length : Int)
        · have hk2 : k < ks.length := by omega
          have hk1 : k < l.length := by have := HL.out; omega
          have cg : wr.cell? ⟨g, k * 5, none⟩ = some (.int .u8 (l[k].kind : Int)) := by
            rw [World.cell?_of_block (w := w1) ((hb2.block g (by omega)).trans (hW0 g hgl))]
            exact (hc k hk1).1
          have ck : wr.cell? ⟨b, k, none⟩ = some (.int .u8 (ks[k] : Int)) := by
            rw [World.cell?_of_block (w := w) ((hb2.block b (by omega)).trans ((hW0 b (by omega)).trans (h1.block b hb)))]
            exact hk k hk2
          have hi1 : (k : Int) < (l.length : Int) := by omega
          have hi0 : (0 : Int) ≤ (k : Int) := by omega
          have hsk : ∀ (q : l[k].kind = ks[k]) j (h1 : j < l.length) (h2 : j < ks.length), j < k + 1 → l[j].kind = ks[j] := fun q j h1 h2 h3 => by
            by_cases hj : j = k
            · subst hj; exact q
            · exact hsame j h1 h2 (by omega)
          have HS := Lib.hid hsk
          clear hc hk hsame hb2 hsk
          by_cases hq : l[k].kind = ks[k]
          · have hqb : ((l[k].kind : Int) != (ks[k] : Int)) = false := by rw [hq]; simp
            go_wp2_with (fail)
            go_quiet (fail)
            go_wp2_with (fail)
            refine ⟨⟨k + 1, rfl, hk1, HS.out hq, Lib.hid (below_drewN H.out nq)⟩, by simp [intOf]; omega⟩
          · have hqb : ((l[k].kind : Int) != (ks[k] : Int)) = true := by rw [bne_iff_ne]; omega
            go_wp2_with (fail)
            go_quiet (fail)
            go_wp2_with (fail)
            go_ret
            refine ⟨?_, kinds_below h1 (below_drewN H.out nq)⟩
            have : (l.map Nd.kind == ks) = false := by
              rw [beq_eq_false_iff_ne]
              intro e
              apply hq
              have := congrArg (fun x => x[k]?) e
              simp only [List.getElem?_map, List.getElem?_eq_getElem hk1, List.getElem?_eq_getElem hk2, Option.map_some] at this
              exact Option.some.inj this
            show Ending.returned (.bool false) = Ending.returned (.bool (l.map Nd.kind == ks))
            rw [this]
        · have hlen := HL.out
          go_wp2_with (fail)
          go_ret
          refine ⟨?_, kinds_below h1 H.out⟩
          have : (l.map Nd.kind == ks) = true := by
            rw [beq_iff_eq]
            refine List.ext_getElem (by simpa using hlen) fun i a1 a2 => ?_
            rw [List.getElem_map]
            exact hsame i (by simpa using a1) a2 (by have : k = l.length := by omega
                                                     simp at a1
                                                     omega)
          show Ending.returned (.bool true) = Ending.returned (.bool (l.map Nd.kind == ks))
          rw [this]
    · have hle : ((l.length : Int) != (ks.length : Int)) = true := by rw [bne_iff_ne]; omega
      go_enter Tryz.func5, Tryz.ntmps5
      go_wp2_with (go_at_call 11; refine kp.mono ?_; rintro e w1 ⟨v, rfl, hT, h1⟩; obtain ⟨A, cap, cs, rfl, hT2⟩ := hT)
      go_ret
      refine ⟨?_, h1.alloc h1.size _⟩
      have : (l.map Nd.kind == ks) = false := by
        rw [beq_eq_false_iff_ne]
        intro e
        apply hlen
        rw [← e]
        simp
      show Ending.returned (.bool false) = Ending.returned (.bool (l.map Nd.kind == ks))
      rw [this]
end Go.Proofs.YtablckajobefeaaGreatDoor.S
/-
  Same, of nodes that differ by their places alone. (What the laws of parse use.)
-/
namespace Go.Proofs.YtablckajobefeaaGreatDoor.S
open Go.RowKit Fl

theorem isnan_yes (x : Nat) (w : World) (hn : IsNaN x) : Calls Tryz.prog 36 #[.float .f64 x] w fun e w' => e = .returned (.bool true) ∧ w = w' := by
  have h1 : FloatKind.f64.format.order x x = none := order_nan_l x hn
  go_enter Tryz.func36, Tryz.ntmps36
  go_wp2_with (fail)
  go_ret
  exact ⟨rfl, rfl⟩
set_option maxHeartbeats 4000000 in
set_option maxRecDepth 100000 in
theorem equal_ints (l : List Nat) (A B : Option Addr) (ca cb : Nat) (ok : Nat → Prop) (w : World) (hA : RowV w ok A (intsV l)) (hB : RowV w ok B (intsV l)) (hl : l.length ≤ 100000) :
    Calls Tryz.prog 37 #[.slice A l.length ca, .slice B l.length cb] w fun e w' => e = .returned (.bool true) ∧ Below w.heap.size w w' := by
  have hle : ((l.length : Int) != (l.length : Int)) = false := by simp
  have HA := Lib.hid hA
  have HB := Lib.hid hB
  clear hA hB
  go_enter Tryz.func37, Tryz.ntmps37
  go_wp2_with (fail)
  go_loopw [13] (fun i wr => ∃ k : Nat, i = .int .i64 (k : Int) ∧ k ≤ l.length ∧ Hid (Below w.heap.size w wr)) (fun i _ => l.length - (intOf i).toNat)
  case atStart => exact ⟨0, rfl, Nat.zero_le _, Lib.hid (Below.refl _ _)⟩
  case round =>
    obtain ⟨k, rfl, hkl, H⟩ := hrel
    by_cases hlt : (k : Int) < (l.length : Int)
    · have hk1 : k < l.length := by omega
      have hz : 0 < (intsV l).length := by simp [intsV]; omega
      obtain ⟨a, rfl, _, hal, hac⟩ := HA.out hz
      obtain ⟨b, rfl, _, hbl, hbc⟩ := HB.out hz
      have hv : (intsV l)[k]? = some (.int .i64 (l[k] : Int)) := by simp [intsV, hk1]
      have ra : wr.cell? ⟨a, k, none⟩ = some (.int .i64 (l[k] : Int)) := (World.cell?_of_block (a := ⟨a, k, none⟩) (H.out.block a hal)).trans (hac k _ hv)
      have rb : wr.cell? ⟨b, k, none⟩ = some (.int .i64 (l[k] : Int)) := (World.cell?_of_block (a := ⟨b, k, none⟩) (H.out.block b hbl)).trans (hbc k _ hv)
      have hi0 : (0 : Int) ≤ (k : Int) := by omega
      have hqb : ((l[k] : Int) != (l[k] : Int)) = false := by simp
      clear hac hbc hv
      go_wp2_with (fail)
      go_quiet (fail)
      go_wp2_with (fail)
      refine ⟨⟨k + 1, rfl, hk1, Lib.hid (below_drewN H.out nq)⟩, by simp [intOf]; omega⟩
    · go_wp2_with (fail)
      go_ret
      exact ⟨rfl, H.out⟩
theorem below_two {w : World} (o1 o2 : Obj) : Below w.heap.size w ((w.alloc o1).alloc o2) := ((Below.refl _ _).alloc (Nat.le_refl _) _).alloc (by simp) _
theorem rowv_two {w : World} {o1 o2 : Obj} {A : Option Addr} {vs : List Value} (h : RowV w (fun _ => True) A vs) : RowV ((w.alloc o1).alloc o2) (fun _ => True) A vs := rowv_up h (below_two _ _).size fun k _ hk => ⟨trivial, (below_two _ _).block k hk⟩
set_option maxHeartbeats 4000000 in
set_option maxRecDepth 100000 in
theorem alike_any (c : Nd) (p q : Int) (A B : Option Addr) (ca cb : Nat) (ok : Nat → Prop) (w : World) (hA : RowV w ok A (intsV c.kids)) (hB : RowV w ok B (intsV c.kids)) (hl : c.kids.length ≤ 100000) :
    Calls Tryz.prog 21 #[.agg #[.int .u8 (c.kind : Int), .int .i64 p, .string c.text, .float .f64 c.num, .slice A c.kids.length ca], .agg #[.int .u8 (c.kind : Int), .int .i64 q, .string c.text, .float .f64 c.num, .slice B c.kids.length cb]] w fun e w' => e = .returned (.bool true) ∧ Below w.heap.size w w' := by
  have up : ∀ W, Below w.heap.size w W → ∀ {D}, RowV w ok D (intsV c.kids) → RowV W (fun _ => True) D (intsV c.kids) := fun W hW D h => rowv_up h hW.size fun k _ hk => ⟨trivial, hW.block k hk⟩
  have HA := Lib.hid hA
  have HB := Lib.hid hB
  clear hA hB
  by_cases hn : IsNaN c.num
  · have h1 : FloatKind.f64.format.order c.num c.num = none := order_nan_l c.num hn
    go_enter Tryz.func21, Tryz.ntmps21
    go_wp2_with (first | (go_at_call 36; refine (isnan_yes _ _ hn).mono ?_; rintro e w1 ⟨rfl, rfl⟩) | (go_at_call 37; go_loud (refine (equal_ints c.kids A B ca cb (fun _ => True) _ (up _ (below_two _ _) HA.out) (up _ (below_two _ _) HB.out) hl).mono ?_; rintro e w2 ⟨rfl, b2⟩)))
    go_ret
    exact ⟨rfl, below_up (below_two _ _) b2⟩
  · have h1 : FloatKind.f64.format.order c.num c.num = some .eq := order_self hn
    go_enter Tryz.func21, Tryz.ntmps21
    go_wp2_with (first | (go_at_call 37; go_loud (refine (equal_ints c.kids A B ca cb (fun _ => True) _ (up _ (below_two _ _) HA.out) (up _ (below_two _ _) HB.out) hl).mono ?_; rintro e w2 ⟨rfl, b2⟩)))
    go_ret
    exact ⟨rfl, below_up (below_two _ _) b2⟩
/-- a tree's nodes stand in a block: cell by cell -/
def Cs5 (w : World) (g : Nat) (l : List Nd) : Prop := g < w.heap.size ∧ ∀ i (hi : i < l.length),
    w.cell? ⟨g, i * 5, none⟩ = some (.int .u8 (l[i].kind : Int)) ∧ w.cell? ⟨g, i * 5 + 1, none⟩ = some (.int .i64 l[i].p) ∧ w.cell? ⟨g, i * 5 + 2, none⟩ = some (.string l[i].text) ∧ w.cell? ⟨g, i * 5 + 3, none⟩ = some (.float .f64 l[i].num) ∧
      ∃ K ck, w.cell? ⟨g, i * 5 + 4, none⟩ = some (.slice K l[i].kids.length ck) ∧ RowV w (fun _ => True) K (intsV l[i].kids)
theorem cs5_up {w w' : World} {g : Nat} {l : List Nd} (h : Cs5 w g l) (hb : Below w.heap.size w w') : Cs5 w' g l := by
  obtain ⟨hg, h⟩ := h
  refine ⟨Nat.lt_of_lt_of_le hg hb.size, fun i hi => ?_⟩
  have cell : ∀ j v, w.cell? ⟨g, j, none⟩ = some v → w'.cell? ⟨g, j, none⟩ = some v := fun j v hv => (World.cell?_of_block (a := ⟨g, j, none⟩) (hb.block g hg)).trans hv
  obtain ⟨a0, a1, a2, a3, K, ck, a4, a5⟩ := h i hi
  exact ⟨cell _ _ a0, cell _ _ a1, cell _ _ a2, cell _ _ a3, K, ck, cell _ _ a4, rowv_up a5 hb.size fun k _ hk => ⟨trivial, hb.block k hk⟩⟩
theorem cs5_of {n0 : Nat} {l : List Nd} {A : Option Addr} {cap : Nat} {w : World} (h : TreeAt n0 l (.agg #[.slice A l.length cap]) w) (hl : 0 < l.length) : ∃ g, A = some ⟨g, 0, none⟩ ∧ Cs5 w g l := by
  obtain ⟨g, h1, _, h2, h3⟩ := tree_cells h hl
  refine ⟨g, h1, h2, fun i hi => ?_⟩
  obtain ⟨a0, a1, a2, a3, K, ck, a4, a5⟩ := h3 i hi
  exact ⟨a0, a1, a2, a3, K, ck, a4, rowv_up a5 (Nat.le_refl _) fun k _ _ => ⟨trivial, rfl⟩⟩
/-- nodes that differ by their places alone -/
def NpN (c d : Nd) : Prop := c.kind = d.kind ∧ c.text = d.text ∧ c.num = d.num ∧ c.kids = d.kids
set_option maxHeartbeats 4000000 in
set_option maxRecDepth 100000 in
theorem nodes_any (l m : List Nd) (g h ca cb : Nat) (w : World) (hg : Cs5 w g l) (hh : Cs5 w h m) (hl : l.length ≤ 100000) (hlm : m.length = l.length) (hk : ∀ i (h1 : i < l.length) (h2 : i < m.length), NpN l[i] m[i] ∧ l[i].kids.length ≤ 100000) :
    Calls Tryz.prog 20 #[.slice (some ⟨g, 0, none⟩) l.length ca, .slice (some ⟨h, 0, none⟩) l.length cb, .func (.func 21) #[] #[]] w fun e w' => e = .returned (.bool true) ∧ Below w.heap.size w w' := by
  have hle : ((l.length : Int) != (l.length : Int)) = false := by simp
  have HG := Lib.hid hg
  have HH := Lib.hid hh
  have HM := Lib.hid hlm
  have HK := Lib.hid hk
  clear hg hh hlm hk
  have hst := store_f
  go_enter Tryz.func20, Tryz.ntmps20
  go_wp2_with (fail)
  go_loopw [17] (fun i wr => ∃ k : Nat, i = .int .i64 (k : Int) ∧ k ≤ l.length ∧ Hid (Below w.heap.size w wr)) (fun i _ => l.length - (intOf i).toNat)
  case atStart => exact ⟨0, rfl, Nat.zero_le _, Lib.hid (Below.refl _ _)⟩
  case round =>
    obtain ⟨k, rfl, hkl, H⟩ := hrel
    by_cases hlt : (k : Int) < (l.length : Int)
    · have hk1 : k < l.length := by omega
      have hk2 : k < m.length := by have := HM.out; omega
      obtain ⟨hgl, a0, a1, a2, a3, K, ck, a4, a5⟩ : g < wr.heap.size ∧ _ := ⟨(cs5_up HG.out H.out).1, (cs5_up HG.out H.out).2 k hk1⟩
      obtain ⟨hhl, b0, b1, b2, b3, K2, ck2, b4, b5⟩ : h < wr.heap.size ∧ _ := ⟨(cs5_up HH.out H.out).1, (cs5_up HH.out H.out).2 k hk2⟩
      obtain ⟨⟨n1, n2, n3, n4⟩, n5⟩ := HK.out k hk1 hk2
      rw [← n1] at b0
      rw [← n2] at b2
      rw [← n3] at b3
      rw [← n4] at b4 b5
      clear n1 n2 n3 n4
      generalize m[k].p = q at *
      generalize l[k] = c at *
      have A5 := Lib.hid a5
      have B5 := Lib.hid b5
      clear a5 b5
      have hi0 : (0 : Int) ≤ (k : Int) := by omega
      have kk := fun W h1 h2 => alike_any c c.p q K K2 ck ck2 (fun _ => True) W h1 h2 n5
      go_wp2_with (fail)
      refine (kk _ (rowv_two A5.out) (rowv_two B5.out)).mono ?_
      rintro e w2 ⟨rfl, b2'⟩
      dsimp only
      go_wp2_with (fail)
      refine ⟨⟨k + 1, rfl, hk1, Lib.hid (below_up H.out (below_up (below_two _ _) b2'))⟩, by simp [intOf]; omega⟩
    · go_wp2_with (fail)
      go_ret
      exact ⟨rfl, H.out⟩
theorem same_any (l m : List Nd) (g h ca cb : Nat) (w : World) (hg : Cs5 w g l) (hh : Cs5 w h m) (hl : l.length ≤ 100000) (hlm : m.length = l.length) (hk : ∀ i (h1 : i < l.length) (h2 : i < m.length), NpN l[i] m[i] ∧ l[i].kids.length ≤ 100000) :
    Calls Tryz.prog 15 #[.agg #[.slice (some ⟨g, 0, none⟩) l.length ca], .agg #[.slice (some ⟨h, 0, none⟩) l.length cb]] w fun e w' => e = .returned (.bool true) ∧ Below w.heap.size w w' := by
  have hb : ∀ o1 o2, Below w.heap.size w ((w.alloc o1).alloc o2) := fun o1 o2 => below_two o1 o2
  go_enter Tryz.func15, Tryz.ntmps15
  go_wp2_with (go_at_call 20; refine (nodes_any l m g h ca cb _ (cs5_up hg (hb _ _)) (cs5_up hh (hb _ _)) hl hlm hk).mono ?_; rintro e w2 ⟨rfl, b2⟩)
  go_ret
  exact ⟨rfl, below_up (hb _ _) b2⟩
end Go.Proofs.YtablckajobefeaaGreatDoor.S
/-
  The writer's memory: where it lies, its nodes, its tokens; what stays when it goes on.
-/
namespace Go.Proofs.YtablckajobefeaaGreatDoor.S
open Go.RowKit Fl

/-- a node of any tree: its kids' numbers are any -/
structure Ni where
  kind : Nat
  p : Int
  text : ByteArray
  num : Nat
  kids : List Int
def intsI (l : List Int) : List Value := l.map fun (k : Int) => .int .i64 k
/-- a row of cells that begins anywhere in a block that is ok -/
def RowI (w : World) (ok : Nat → Prop) (K : Option Addr) (vs : List Value) : Prop :=
  0 < vs.length → ∃ a, K = some a ∧ ok a.block ∧ a.block < w.heap.size ∧ ∀ (i : Nat) (v : Value), vs[i]? = some v → w.cell? (a.add i) = some v
theorem rowi_up {w w' : World} {ok ok' : Nat → Prop} {K : Option Addr} {vs : List Value} (h : RowI w ok K vs) (hs : w.heap.size ≤ w'.heap.size) (hk : ∀ k, ok k → k < w.heap.size → ok' k ∧ w'.heap[k]? = w.heap[k]?) : RowI w' ok' K vs := fun hp => by
  obtain ⟨a, h1, h2, h3, h4⟩ := h hp
  obtain ⟨k1, k2⟩ := hk _ h2 h3
  have hb : ∀ i, w'.heap[(a.add i).block]? = w.heap[(a.add i).block]? := fun i => by rw [block_of_add]; exact k2
  exact ⟨a, h1, k1, Nat.lt_of_lt_of_le h3 hs, fun i v hv => (World.cell?_of_block (hb i)).trans (h4 i v hv)⟩
theorem rowi_of {w : World} {ok : Nat → Prop} {K : Option Addr} {vs : List Value} (h : RowV w ok K vs) : RowI w ok K vs := fun hp => by
  obtain ⟨g, h1, h2, h3, h4⟩ := h hp
  exact ⟨_, h1, h2, h3, fun i v hv => by
    rw [show (⟨g, 0, none⟩ : Addr).add i = ⟨g, i, none⟩ by unfold Addr.add; split <;> simp_all]
    exact h4 i v hv⟩
/-- the same, with room for as many at least -/
def KidsI (w : World) (ok : Nat → Prop) (K : Option Addr) (ck : Nat) (vs : List Value) : Prop := vs.length ≤ ck ∧ RowI w ok K vs
theorem kidsi_up {w w' : World} {ok ok' : Nat → Prop} {K : Option Addr} {ck : Nat} {vs : List Value} (h : KidsI w ok K ck vs) (hs : w.heap.size ≤ w'.heap.size) (hk : ∀ k, ok k → k < w.heap.size → ok' k ∧ w'.heap[k]? = w.heap[k]?) : KidsI w' ok' K ck vs := ⟨h.1, rowi_up h.2 hs hk⟩
def KidsT (n : Nat) (l : List Tr) : List Int := (starts n l).map fun (k : Nat) => (k : Int)
theorem kidsT_len (n : Nat) (l : List Tr) : (KidsT n l).length = l.length := by unfold KidsT; rw [List.length_map, starts_len]
/-- nodes lie in memory -/
def NodesA (w : World) (ok : Nat → Prop) (A : Option Addr) (N : List Ni) : Prop :=
  0 < N.length → ∃ a, A = some a ∧ ok a.block ∧ a.block < w.heap.size ∧ ∀ (i : Nat) (hi : i < N.length),
    w.cell? (a.add (i * 5)) = some (.int .u8 (N[i].kind : Int)) ∧ w.cell? ⟨(a.add (i * 5)).block, (a.add (i * 5)).off + 1, none⟩ = some (.int .i64 N[i].p) ∧ w.cell? ⟨(a.add (i * 5)).block, (a.add (i * 5)).off + 2, none⟩ = some (.string N[i].text) ∧
      w.cell? ⟨(a.add (i * 5)).block, (a.add (i * 5)).off + 3, none⟩ = some (.float .f64 N[i].num) ∧ ∃ K ck, w.cell? ⟨(a.add (i * 5)).block, (a.add (i * 5)).off + 4, none⟩ = some (.slice K N[i].kids.length ck) ∧ KidsI w ok K ck (intsI N[i].kids)
theorem nodesA_up {w w' : World} {ok ok' : Nat → Prop} {A : Option Addr} {N : List Ni} (h : NodesA w ok A N) (hs : w.heap.size ≤ w'.heap.size) (hk : ∀ k, ok k → k < w.heap.size → ok' k ∧ w'.heap[k]? = w.heap[k]?) : NodesA w' ok' A N := fun hp => by
  obtain ⟨a, h1, h2, h3, h4⟩ := h hp
  obtain ⟨k1, k2⟩ := hk _ h2 h3
  refine ⟨a, h1, k1, Nat.lt_of_lt_of_le h3 hs, fun i hi => ?_⟩
  have cell : ∀ c : Addr, c.block = a.block → w'.cell? c = w.cell? c := fun c hc => World.cell?_of_block (by rw [hc]; exact k2)
  obtain ⟨a0, a1, a2, a3, K, ck, a4, a5⟩ := h4 i hi
  exact ⟨(cell (a.add (i * 5)) (block_of_add a (i * 5))).trans a0, (cell ⟨(a.add (i * 5)).block, _, none⟩ (block_of_add a (i * 5))).trans a1, (cell ⟨(a.add (i * 5)).block, _, none⟩ (block_of_add a (i * 5))).trans a2, (cell ⟨(a.add (i * 5)).block, _, none⟩ (block_of_add a (i * 5))).trans a3, K, ck, (cell ⟨(a.add (i * 5)).block, _, none⟩ (block_of_add a (i * 5))).trans a4, kidsi_up a5 hs hk⟩
mutual
/-- a tree stands among nodes, from a number on -/
def SubT (N : List Ni) : Nat → Tr → Prop
  | n, .mk k p t x l => N[n]? = some ⟨k, p, t, x, KidsT (n + 1) l⟩ ∧ SubL N (n + 1) l
def SubL (N : List Ni) : Nat → List Tr → Prop
  | _, [] => True
  | n, t :: l => SubT N n t ∧ SubL N (n + t.size) l
end
theorem subT_node {N : List Ni} {n : Nat} {x : Tr} (h : SubT N n x) : N[n]? = some ⟨x.kind, x.pos, x.text, x.num, KidsT (n + 1) x.kids⟩ ∧ SubL N (n + 1) x.kids := by
  cases x
  unfold SubT at h
  exact h
theorem subL_get {N : List Ni} : ∀ (l : List Tr) (n i : Nat) (h : i < l.length) (hs : i < (starts n l).length), SubL N n l → SubT N (starts n l)[i] l[i]
  | [], n, i, h, _, _ => by simp at h
  | t :: l, n, i, h, hs, hl => by
    unfold SubL at hl
    cases i with
    | zero => exact hl.1
    | succ i => exact subL_get l _ i (by simpa using h) (by simpa [starts] using hs) hl.2

/-- where a writer lies: its block; its nodes -/
structure Wz where
  b : Nat
  A : Option Addr
  cap : Nat
  N : List Ni
/-- a writer is so far; its tokens lie in block h (b, if there are none) -/
structure WA (z : Wz) (s : Wr) (h : Nat) (w : World) : Prop where
  blk : ∃ v, w.heap[z.b]? = some (.cells #[.slice z.A z.N.length z.cap, v, .int .i64 s.first] 74 (0, 0)) ∧ w.ownsRow (z.b + 1) 52 4 v s.toks.length (tkCells s.toks) ∧ ∀ k, v.ownBlock = some k → k = h
  nodes : NodesA w (fun k => k < z.b) z.A z.N
  few : z.N.length ≤ 16384
  hz : z.b ≤ h
  hlt : h < w.heap.size
  short : s.toks.length ≤ 16384
/-- what stays: all but the writer's block and that of its tokens -/
structure Fr (b h : Nat) (w w' : World) : Prop where
  os : w'.os = w.os
  tape : w'.tape = w.tape
  output : w'.output = w.output
  size : w.heap.size ≤ w'.heap.size
  block : ∀ k, k < w.heap.size → k ≠ b → k ≠ h → w'.heap[k]? = w.heap[k]?
theorem Fr.refl (b h : Nat) (w : World) : Fr b h w w := ⟨rfl, rfl, rfl, Nat.le_refl _, fun _ _ _ _ => rfl⟩
theorem Fr.trans {b h h1 : Nat} {w w1 w2 : World} (f : Fr b h w w1) (e : h1 = h ∨ w.heap.size ≤ h1) (g : Fr b h1 w1 w2) : Fr b h w w2 :=
  ⟨g.os.trans f.os, g.tape.trans f.tape, g.output.trans f.output, Nat.le_trans f.size g.size, fun k hk hb hh => (g.block k (Nat.lt_of_lt_of_le hk f.size) hb (by rcases e with rfl | e; exact hh; omega)).trans (f.block k hk hb hh)⟩
theorem Fr.below {b h : Nat} {w w' : World} (g : Below w.heap.size w w') : Fr b h w w' := ⟨g.os, g.tape, g.output, g.size, fun k hk _ _ => g.block k hk⟩
theorem hor {w w1 : World} {h h1 h2 : Nat} (e : h1 = h ∨ w.heap.size ≤ h1) (hs : w.heap.size ≤ w1.heap.size) (e2 : h2 = h1 ∨ w1.heap.size ≤ h2) : h2 = h ∨ w.heap.size ≤ h2 := by omega
theorem wa_up {z : Wz} {s : Wr} {h : Nat} {w w' : World} (H : WA z s h w) (g : Below w.heap.size w w') : WA z s h w' := by
  obtain ⟨⟨v, h1, h2, h3⟩, h4, h5, h6, h7, h8⟩ := H
  have hb : z.b < w.heap.size := lt_of_blk h1
  exact ⟨⟨v, (g.block _ hb).trans h1, h2.kept (row := none) ⟨g.os, g.tape, g.output, g.size, fun k hk _ => g.block k hk⟩ (by
    rcases h2.2 with ⟨rfl, _⟩ | ⟨g, cap, cur, rfl, _⟩
    · exact Or.inl rfl
    · exact Or.inr (by simp [Value.ownBlock])), h3⟩, nodesA_up h4 g.size fun k hk hlt => ⟨hk, g.block k hlt⟩, h5, h6, Nat.lt_of_lt_of_le h7 g.size, h8⟩
theorem wa_lt {z : Wz} {s : Wr} {h : Nat} {w : World} (H : WA z s h w) : z.b < w.heap.size := by
  obtain ⟨v, h1, _⟩ := H.blk
  exact lt_of_blk h1
/-- what a method that tells comes to -/
def WRes (z : Wz) (h : Nat) (w : World) (r : WR) (e : Ending) (w' : World) : Prop :=
  match r with
  | .ok s => e = .returned (.tuple #[]) ∧ ∃ h', WA z s h' w' ∧ (h' = h ∨ w.heap.size ≤ h') ∧ Fr z.b h w w'
  | .bad k => e = .panicked [{ v := .iface 67 (.agg #[.int .i64 0, .int .i64 k]), recovered := false }] ∧ Fr z.b h w w'
  | .out => False
theorem wres_ok {z : Wz} {h h' : Nat} {w w' : World} {r : WR} {s : Wr} (hr : r = .ok s) (H : WA z s h' w') (e : h' = h ∨ w.heap.size ≤ h') (g : Fr z.b h w w') : WRes z h w r (.returned (.tuple #[])) w' := by rw [hr]; exact ⟨rfl, h', H, e, g⟩
theorem wres_bad {z : Wz} {h : Nat} {w w' : World} {r : WR} {k : Int} (hr : r = .bad k) (g : Fr z.b h w w') : WRes z h w r (.panicked [{ v := .iface 67 (.agg #[.int .i64 0, .int .i64 k]), recovered := false }]) w' := by rw [hr]; exact ⟨rfl, g⟩
/-- a node's five cells, and its kids -/
theorem node_at {z : Wz} {s : Wr} {h : Nat} {w : World} (H : WA z s h w) {n : Nat} {x : Tr} (hx : SubT z.N n x) : ∃ a K ck, z.A = some a ∧ a.block < w.heap.size ∧ n < z.N.length ∧
    w.cell? (a.add (n * 5)) = some (.int .u8 (x.kind : Int)) ∧ w.cell? ⟨(a.add (n * 5)).block, (a.add (n * 5)).off + 1, none⟩ = some (.int .i64 x.pos) ∧ w.cell? ⟨(a.add (n * 5)).block, (a.add (n * 5)).off + 2, none⟩ = some (.string x.text) ∧
      w.cell? ⟨(a.add (n * 5)).block, (a.add (n * 5)).off + 3, none⟩ = some (.float .f64 x.num) ∧ w.cell? ⟨(a.add (n * 5)).block, (a.add (n * 5)).off + 4, none⟩ = some (.slice K x.kids.length ck) ∧ KidsI w (fun k => k < z.b) K ck (intsI (KidsT (n + 1) x.kids)) := by
  obtain ⟨h1, _⟩ := subT_node hx
  obtain ⟨hn, h1⟩ := List.getElem?_eq_some_iff.1 h1
  obtain ⟨a, e, hok, hlt, hc⟩ := H.nodes (by omega)
  obtain ⟨a0, a1, a2, a3, K, ck, a4, a5⟩ := hc n hn
  rw [h1] at a0 a1 a2 a3 a4 a5
  rw [kidsT_len] at a4
  exact ⟨a, K, ck, e, hlt, hn, a0, a1, a2, a3, a4, a5⟩
/-- one of a node's kids -/
theorem kid_at {z : Wz} {w : World} {n : Nat} {x : Tr} (hx : SubT z.N n x) {K : Option Addr} {ck : Nat} (hk : KidsI w (fun k => k < z.b) K ck (intsI (KidsT (n + 1) x.kids))) {i : Nat} (hi : i < x.kids.length) : ∃ (a : Addr) (m : Nat), K = some a ∧ a.block < w.heap.size ∧ w.cell? (a.add i) = some (.int .i64 (m : Int)) ∧ SubT z.N m (x.kid i) := by
  obtain ⟨_, h2⟩ := subT_node hx
  have hl : (intsI (KidsT (n + 1) x.kids)).length = x.kids.length := by unfold intsI; rw [List.length_map, kidsT_len]
  obtain ⟨a, e, _, hlt, hc⟩ := hk.2 (by omega)
  have hs : i < (starts (n + 1) x.kids).length := by rw [starts_len]; exact hi
  refine ⟨a, (starts (n + 1) x.kids)[i], e, hlt, hc i _ ?_, ?_⟩
  · unfold intsI KidsT
    simp only [List.getElem?_map, List.getElem?_eq_getElem hs, Option.map_some]
  · have := subL_get x.kids (n + 1) i hi hs h2
    unfold Tr.kid
    rw [List.getD_eq_getElem?_getD, List.getElem?_eq_getElem hi]
    exact this
theorem rowk_up {w w' : World} {b : Nat} {K : Option Addr} {vs : List Value} (h : RowI w (fun k => k < b) K vs) {h0 : Nat} (hb : b ≤ h0) (g : Fr b h0 w w') : RowI w' (fun k => k < b) K vs :=
  rowi_up h g.size fun k hk hlt => ⟨hk, g.block k hlt (by omega) (by omega)⟩
theorem kids_up {w w' : World} {b : Nat} {K : Option Addr} {ck : Nat} {vs : List Value} (h : KidsI w (fun k => k < b) K ck vs) {h0 : Nat} (hb : b ≤ h0) (g : Fr b h0 w w') : KidsI w' (fun k => k < b) K ck vs := ⟨h.1, rowk_up h.2 hb g⟩
theorem wa_first {z : Wz} {s : Wr} {h : Nat} {w : World} (H : WA z s h w) (n : Int) : WA z { s with first := n } h (w.setCell ⟨z.b, 2, none⟩ (.int .i64 n)) ∧ Fr z.b h w (w.setCell ⟨z.b, 2, none⟩ (.int .i64 n)) := by
  obtain ⟨⟨v, h1, h2, h3⟩, h4, h5, h6, h7, h8⟩ := H
  have g := grown_set w z.b 2 (.int .i64 n)
  refine ⟨⟨⟨v, set_blk h1 2 _, h2.kept g ?_, h3⟩, nodesA_up h4 g.size fun k hk hlt => ⟨hk, g.block k hlt (fun e => by have := Option.some.inj e; omega)⟩, h5, h6, Nat.lt_of_lt_of_le h7 g.size, h8⟩, ⟨g.os, g.tape, g.output, g.size, fun k hk hb _ => g.block k hk fun e => hb (Option.some.inj e)⟩⟩
  rcases h2.2 with ⟨rfl, _⟩ | ⟨g', cap, cur, rfl, hb, _⟩
  · exact Or.inl rfl
  · refine Or.inr ?_
    simp only [Value.ownBlock]
    intro e
    have := Option.some.inj e
    omega
end Go.Proofs.YtablckajobefeaaGreatDoor.S
/-
  The writer's refuse, put, name, say, word: walks.
-/
namespace Go.Proofs.YtablckajobefeaaGreatDoor.S
open Go.RowKit Fl

theorem wt_app {ops : Array Oper} {rest : List Oper} {o : Oper} {a : Act} {Q : Exit → Act → World → Prop} (hgd : o.guard = none) (s x : Operand)
    (ho : o.op = .call { callee := .builtin .append, args := #[s, x], argTypes := #[46, 46] })
    {B : Nat} {v : Value} {l : List Tk} {wr : World} (h : wr.ownsRow B 52 4 v l.length (tkCells l)) (hB : B ≤ wr.heap.size) (hs : a.eval s = v) (k : Nat) (b : ByteArray) (n : Nat) (hx : a.eval x = .slice (some ⟨wr.heap.size, 0, none⟩) 1 1)
    (hl : l.length ≤ 70000)
    (kk : ∀ v' w', w'.ownsRow B 52 4 v' (l.length + 1) (tkCells (l ++ [⟨k, 0, b, n⟩])) → wr.grownBy w' v.ownBlock → (v'.ownBlock = v.ownBlock ∨ ∀ k, v'.ownBlock = some k → wr.heap.size ≤ k) → wpList Tryz.prog ops Q rest (a.put o.dst v') w') :
    wpList Tryz.prog ops Q (o :: rest) a (wr.alloc (.cells #[.int .u8 (k : Int), .int .i64 0, .string b, .float .f64 n] 52)) := by
  obtain ⟨i0, hi, hz0, hz1, hz2⟩ := info_parts tk_info
  refine wpList_append_own_at _ hgd s x 46 ho B 52 i0 (.agg #[.int .u8 0, .int .i64 0, .string ⟨#[]⟩, .float .f64 0]) 4 40 Tryz.underlying46 hi hz0 hz1 hz2 rfl (by decide) v l.length (tkCells l) hs (h.alloc _) ⟨wr.heap.size, 0, none⟩ 1 1 (tkC ⟨k, 0, b, n⟩) hx rfl ?_ ?_ ?_ ?_ ?_ ?_
  · intro j u hj
    have hblk : (wr.alloc (.cells #[.int .u8 (k : Int), .int .i64 0, .string b, .float .f64 n] 52)).heap[wr.heap.size]? = some (.cells #[.int .u8 (k : Int), .int .i64 0, .string b, .float .f64 n] 52 (0, 0)) := heap_alloc_new wr _
    have := blk_cell hblk j
    have e : (⟨wr.heap.size, 0, none⟩ : Addr).add j = ⟨wr.heap.size, j, none⟩ := by unfold Addr.add; split <;> simp_all
    rw [e, this, ← hj]
    match j with
    | 0 => rfl
    | 1 => rfl
    | 2 => rfl
    | 3 => rfl
    | j + 4 => rfl
  · intro u hu; simp [tkC] at hu; rcases hu with rfl | rfl | rfl | rfl <;> rfl
  · unfold maxLen; omega
  · omega
  · simp; omega
  · intro v' w' hown hgrow _ hat
    refine kk v' w' (by rw [tkCells_snoc]; exact hown) ((World.grownBy_alloc _ _ _).trans hgrow) ?_
    rcases hat with e | e
    · exact .inl e
    · refine .inr fun j hj => ?_
      rw [e] at hj
      have := Option.some.inj hj
      simp at this
      omega
theorem wown_shape {B n : Nat} {v : Value} {cs : List Value} {w : World} (h : w.ownsRow B 52 4 v n cs) : ∃ A cap, v = .slice A n cap := by
  rcases h.2 with ⟨rfl, h1⟩ | ⟨g, cap, cur, rfl, _⟩
  · exact ⟨none, 0, by rw [h1]⟩
  · exact ⟨_, cap, rfl⟩
theorem refuse_w (z : Wz) (w : World) : Calls Tryz.prog 83 #[.pointer (some ⟨z.b, 0, none⟩)] w fun e w' => e = .panicked [{ v := .iface 67 (.agg #[.int .i64 0, .int .i64 5]), recovered := false }] ∧ Below w.heap.size w w' := by
  go_enter Tryz.func83, Tryz.ntmps83
  go_wp2_with (fail)
  exact ⟨rfl, rfl, Below.refl _ _⟩
theorem put_fin {z : Wz} {s : Wr} {h : Nat} {w w1 : World} {v v' : Value} (H : WA z s h w) (hb : w.heap[z.b]? = some (.cells #[.slice z.A z.N.length z.cap, v, .int .i64 s.first] 74 (0, 0))) (hv : w.ownsRow (z.b + 1) 52 4 v s.toks.length (tkCells s.toks)) (hh : ∀ k, v.ownBlock = some k → k = h)
    (t : Tk) (hv' : w1.ownsRow (z.b + 1) 52 4 v' (s.toks.length + 1) (tkCells (s.toks ++ [t]))) (g1 : w.grownBy w1 v.ownBlock) (hat : v'.ownBlock = v.ownBlock ∨ ∀ k, v'.ownBlock = some k → w.heap.size ≤ k) (hl : s.toks.length < 16384) :
    ∃ h', WA z { s with toks := s.toks ++ [t] } h' (w1.setCell ⟨z.b, 1, none⟩ v') ∧ (h' = h ∨ w.heap.size ≤ h') ∧ Fr z.b h w (w1.setCell ⟨z.b, 1, none⟩ v') := by
  have hbl := lt_of_blk hb
  have hlt := hv.lt
  have hbn : some z.b ≠ v.ownBlock := fun e => by have := (hlt _ e.symm).1; omega
  have hb1 := (g1.block z.b hbl hbn).trans hb
  have gs := grown_set w1 z.b 1 v'
  rcases hv'.2 with ⟨_, e⟩ | ⟨g, cap, cur, rfl, hg, _⟩
  · omega
  · have hgl := (hv'.lt g rfl).2
    refine ⟨g, ⟨⟨_, set_blk hb1 1 _, ?_, fun k hk => (Option.some.inj hk).symm⟩, ?_, H.few, by omega, by simpa using hgl, by simp; omega⟩, ?_, ⟨gs.os.trans g1.os, gs.tape.trans g1.tape, gs.output.trans g1.output, Nat.le_trans g1.size gs.size, fun k hk hkb hkh => (gs.block k (Nat.lt_of_lt_of_le hk g1.size) (fun e => hkb (Option.some.inj e))).trans (g1.block k hk fun e => hkh (hh k e.symm))⟩⟩
    · rw [List.length_append]
      exact hv'.kept gs (Or.inr (fun e => by have := Option.some.inj e; simp at this; omega))
    · exact nodesA_up H.nodes (Nat.le_trans g1.size gs.size) fun k hk hlt2 => ⟨hk, (gs.block k (Nat.lt_of_lt_of_le hlt2 g1.size) (fun e => by have := Option.some.inj e; omega)).trans (g1.block k hlt2 fun e => by have := (hlt _ e.symm).1; omega)⟩
    · rcases hat with e | e
      · exact .inl (hh g e.symm)
      · exact .inr (e g rfl)
set_option maxHeartbeats 2000000 in
theorem put_p {z : Wz} {s : Wr} {h : Nat} {w : World} (H : WA z s h w) (k : Nat) (t : ByteArray) (x : Nat) :
    Calls Tryz.prog 111 #[.pointer (some ⟨z.b, 0, none⟩), .int .u8 (k : Int), .string t, .float .f64 x] w (WRes z h w (putW k t x s)) := by
  obtain ⟨v, hb, hv, hh⟩ := H.blk
  have hbl := lt_of_blk hb
  obtain ⟨A, cap, rfl⟩ := wown_shape hv
  have c1 : w.cell? ⟨z.b, 1, none⟩ = some (.slice A s.toks.length cap) := blk_cell hb 1
  have fz : ∀ i, w.frozen? ⟨z.b, i, none⟩ = false := fun i => fz_blk hb i
  by_cases hl : s.toks.length = 16384
  · have t1 : ((s.toks.length : Int) == 16384) = true := by rw [hl]; rfl
    have E : putW k t x s = .bad 4 := by unfold putW; rw [if_pos hl]
    clear hv
    go_enter Tryz.func111, Tryz.ntmps111
    go_wp2_with (fail)
    exact ⟨rfl, wres_bad (by first | exact E | rfl) (Fr.refl _ _ _)⟩
  · have t1 : ((s.toks.length : Int) == 16384) = false := by rw [beq_eq_false_iff_ne]; omega
    have E : putW k t x s = .ok { s with toks := s.toks ++ [⟨k, 0, t, x⟩] } := by unfold putW; rw [if_neg hl]
    have HV := Lib.hid hv
    have HF := Lib.hid (fun v' w1 a1 a2 a3 => put_fin (v' := v') (w1 := w1) H hb hv hh ⟨k, 0, t, x⟩ a1 a2 a3 (by have := H.short; omega))
    have hs7 : s.toks.length ≤ 70000 := by have := H.short; omega
    have hbn : some z.b ≠ (Value.slice A s.toks.length cap).ownBlock := fun e => by have := (hv.lt _ e.symm).1; omega
    clear hv H hh
    go_enter Tryz.func111, Tryz.ntmps111
    go_wp2_with (at_builtin; refine wt_app rfl _ _ rfl HV.out hbl rfl k t x rfl hs7 ?_; intro v' w1 hv' g1 hat; obtain ⟨A', cap', rfl⟩ := wown_shape hv'; have hb1 := (g1.block z.b hbl hbn).trans hb; have fz1 : ∀ i, w1.frozen? ⟨z.b, i, none⟩ = false := fun i => fz_blk hb1 i; have d1 : w1.cell? ⟨z.b, 1, none⟩ = some (.slice A s.toks.length cap) := blk_cell hb1 1)
    go_end0
    obtain ⟨h', H1, e1, F1⟩ := HF.out _ w1 hv' g1 hat
    exact wres_ok (by first | exact E | rfl) H1 e1 F1
end Go.Proofs.YtablckajobefeaaGreatDoor.S
/-
  The writer's name, say, word, kid: walks.
-/
namespace Go.Proofs.YtablckajobefeaaGreatDoor.S
open Go.RowKit Fl

theorem rows_fr {w w' : World} {g b h : Nat} {cs : List ByteArray} (k : RowS w g cs) (f : Fr b h w w') (hb : g ≠ b) (hh : g ≠ h) : RowS w' g cs :=
  ⟨Nat.lt_of_lt_of_le k.1 f.size, fun i c hc => by rw [World.cell?_of_block (w := w) (a := ⟨g, i, none⟩) (f.block g k.1 hb hh)]; exact k.2 i c hc⟩
theorem says_drop {cs : List ByteArray} {i : Nat} (hi : i < cs.length) (s : Wr) : saysW (cs.drop i) s = (sayW cs[i] s).bind (saysW (cs.drop (i + 1))) := by
  rw [List.drop_eq_getElem_cons hi]; rfl
theorem wres_up {z : Wz} {h : Nat} {w w1 w' : World} {r : WR} {e : Ending} (g : Below w.heap.size w w1) (k : WRes z h w1 r e w') : WRes z h w r e w' := by
  cases r with
  | ok s =>
    obtain ⟨h1, h', H, e1, f⟩ := k
    exact ⟨h1, h', H, hor (w := w) (h := h) (h1 := h) (.inl rfl) g.size e1, (Fr.below g).trans (.inl rfl) f⟩
  | bad q => exact ⟨k.1, (Fr.below g).trans (.inl rfl) k.2⟩
  | out => exact k
set_option maxHeartbeats 2000000 in
theorem name_w {z : Wz} {s : Wr} {h : Nat} {w : World} (H : WA z s h w) (t : ByteArray) : Calls Tryz.prog 75 #[.pointer (some ⟨z.b, 0, none⟩), .string t] w (WRes z h w (nameW t s)) := by
  have ky := put_p H 1 t 0
  generalize hR : nameW t s = R
  have hR : putW 1 t 0 s = R := hR
  rw [hR] at ky
  go_enter Tryz.func75, Tryz.ntmps75
  go_wp2_with (fail)
  go_at_call 111
  refine ky.mono ?_
  rintro e w1 hr
  cases R with
  | out => exact hr.elim
  | bad q => obtain ⟨rfl, g⟩ := hr; exact ⟨rfl, wres_bad rfl g⟩
  | ok s1 =>
    obtain ⟨rfl, h1, H1, e1, g1⟩ := hr
    go_wp2_with (fail)
    go_end0
    exact wres_ok rfl H1 e1 g1
set_option maxHeartbeats 2000000 in
theorem say_p {z : Wz} {s : Wr} {h : Nat} {w : World} (H : WA z s h w) (g cap : Nat) (cs : List ByteArray) (hr : RowS w g cs) (hg : g ≠ z.b) (hgh : g ≠ h) (hfew : cs.length ≤ 10) :
    Calls Tryz.prog 73 #[.pointer (some ⟨z.b, 0, none⟩), .slice (some ⟨g, 0, none⟩) cs.length cap] w (WRes z h w (saysW cs s)) := by
  generalize hR : saysW cs s = R
  have HR := Lib.hid hR
  have hgl := hr.1
  clear hR
  go_enter Tryz.func73, Tryz.ntmps73
  go_wp2_with (fail)
  go_loopw [8] (fun i wr => ∃ (k : Nat) (s1 : Wr) (h1 : Nat), i = .int .i64 k ∧ k ≤ cs.length ∧ Hid (WA z s1 h1 wr ∧ (h1 = h ∨ w.heap.size ≤ h1) ∧ Fr z.b h w wr ∧ RowS wr g cs ∧ saysW (cs.drop k) s1 = R)) (fun i _ => cs.length - (intOf i).toNat)
  case atStart => exact ⟨0, s, h, rfl, Nat.zero_le _, Lib.hid ⟨H, .inl rfl, Fr.refl _ _ _, hr, HR.out⟩⟩
  case round =>
    clear HR H hr
    obtain ⟨k, s1, h1, rfl, hk, HH⟩ := hrel
    obtain ⟨H1, e1, G1, r1, E⟩ := HH.out
    clear HH
    by_cases hlt : k < cs.length
    · have hc := r1.2 k cs[k] (List.getElem?_eq_getElem hlt)
      have hgl1 := r1.1
      have E := Lib.hid ((says_drop hlt s1).symm.trans E)
      generalize cs[k] = c at *
      cases hw : wordB c.data.toList with
      | true =>
        have kw : Calls Tryz.prog 63 #[.string c] wr fun e w' => e = .returned (.bool true) ∧ wr = w' := by rw [← hw]; exact lexWord_any c wr
        have ky : Calls Tryz.prog 111 #[.pointer (some ⟨z.b, 0, none⟩), .int .u8 2, .string c, .float .f64 0] wr (WRes z h1 wr (sayW c s1)) := by
          have : sayW c s1 = putW 2 c 0 s1 := by unfold sayW sayK; rw [if_pos hw]
          rw [this]; exact put_p H1 2 c 0
        clear H1 hw
        go_wp2_with (go_at_call 63; refine kw.mono ?_; rintro e w2 ⟨rfl, rfl⟩)
        go_at_call 111
        refine ky.mono ?_
        rintro e w2 hr2
        cases hm : sayW c s1 with
        | out => rw [hm] at hr2; exact hr2.elim
        | bad q => rw [hm] at hr2; obtain ⟨rfl, g2⟩ := hr2; exact ⟨rfl, wres_bad (E.out.symm.trans (WR.bind_bad hm _)) (G1.trans e1 g2)⟩
        | ok s2 =>
          rw [hm] at hr2
          obtain ⟨rfl, h2, H2, e2, g2⟩ := hr2
          have E2 := Lib.hid ((WR.bind_ok hm _).symm.trans E.out)
          clear E hm ky kw
          go_wp2_with (fail)
          go_roundw
          case rel => exact ⟨k + 1, s2, h2, by go_num, by omega, Lib.hid ⟨H2, hor e1 G1.size e2, G1.trans e1 g2, rows_fr r1 g2 hg (by omega), E2.out⟩⟩
          case measure => simp [intOf]; omega
      | false =>
        have kw : Calls Tryz.prog 63 #[.string c] wr fun e w' => e = .returned (.bool false) ∧ wr = w' := by rw [← hw]; exact lexWord_any c wr
        have ky : Calls Tryz.prog 111 #[.pointer (some ⟨z.b, 0, none⟩), .int .u8 5, .string c, .float .f64 0] wr (WRes z h1 wr (sayW c s1)) := by
          have : sayW c s1 = putW 5 c 0 s1 := by unfold sayW sayK; rw [if_neg (by rw [hw]; decide)]
          rw [this]; exact put_p H1 5 c 0
        clear H1 hw
        go_wp2_with (go_at_call 63; refine kw.mono ?_; rintro e w2 ⟨rfl, rfl⟩)
        go_at_call 111
        refine ky.mono ?_
        rintro e w2 hr2
        cases hm : sayW c s1 with
        | out => rw [hm] at hr2; exact hr2.elim
        | bad q => rw [hm] at hr2; obtain ⟨rfl, g2⟩ := hr2; exact ⟨rfl, wres_bad (E.out.symm.trans (WR.bind_bad hm _)) (G1.trans e1 g2)⟩
        | ok s2 =>
          rw [hm] at hr2
          obtain ⟨rfl, h2, H2, e2, g2⟩ := hr2
          have E2 := Lib.hid ((WR.bind_ok hm _).symm.trans E.out)
          clear E hm ky kw
          go_wp2_with (fail)
          go_roundw
          case rel => exact ⟨k + 1, s2, h2, by go_num, by omega, Lib.hid ⟨H2, hor e1 G1.size e2, G1.trans e1 g2, rows_fr r1 g2 hg (by omega), E2.out⟩⟩
          case measure => simp [intOf]; omega
    · have hkl : k = cs.length := by omega
      subst hkl
      have E2 : R = .ok s1 := by rw [← E, List.drop_length]; rfl
      have H2 := Lib.hid (And.intro H1 G1)
      clear E r1 H1 G1
      go_wp2_with (fail)
      go_end0
      exact wres_ok E2 H2.out.1 e1 H2.out.2
theorem say_one {z : Wz} {s : Wr} {h : Nat} {w : World} (H : WA z s h w) (c : ByteArray) (t : TypeId) :
    Calls Tryz.prog 73 #[.pointer (some ⟨z.b, 0, none⟩), .slice (some ⟨w.heap.size, 0, none⟩) 1 1] (w.alloc (.cells #[.string c] t)) (WRes z h w (saysW [c] s)) := by
  have hl := wa_lt H
  have h2 := H.hlt
  exact (say_p (wa_up H (zero_alloc _ _)) w.heap.size 1 [c] (rows_one w c t) (by omega) (by omega) (by simp)).mono fun e w' hr => wres_up (zero_alloc _ _) hr
theorem say_two {z : Wz} {s : Wr} {h : Nat} {w : World} (H : WA z s h w) (c d : ByteArray) (t : TypeId) :
    Calls Tryz.prog 73 #[.pointer (some ⟨z.b, 0, none⟩), .slice (some ⟨w.heap.size, 0, none⟩) 2 2] (w.alloc (.cells #[.string c, .string d] t)) (WRes z h w (saysW [c, d] s)) := by
  have hl := wa_lt H
  have h2 := H.hlt
  exact (say_p (wa_up H (zero_alloc _ _)) w.heap.size 2 [c, d] (rows_two w c d t) (by omega) (by omega) (by simp)).mono fun e w' hr => wres_up (zero_alloc _ _) hr
set_option maxHeartbeats 2000000 in
theorem word_w {z : Wz} {s : Wr} {h : Nat} {w : World} (H : WA z s h w) (c : ByteArray) : Calls Tryz.prog 176 #[.pointer (some ⟨z.b, 0, none⟩), .string c] w (WRes z h w (wordW c s)) := by
  cases hw : wordB c.data.toList with
  | true =>
    have kw : Calls Tryz.prog 63 #[.string c] w fun e w' => e = .returned (.bool true) ∧ w = w' := by rw [← hw]; exact lexWord_any c w
    have ky := fun t => say_one H c t
    have hE : saysW [c] s = wordW c s := by
      unfold wordW; rw [if_pos hw]; unfold saysW
      cases sayW c s <;> rfl
    rw [hE] at ky
    generalize wordW c s = R at ky ⊢
    clear hw
    go_enter Tryz.func176, Tryz.ntmps176
    go_wp2_with (go_at_call 63; refine kw.mono ?_; rintro e w2 ⟨rfl, rfl⟩)
    go_at_call 73
    refine (ky _).mono ?_
    rintro e w1 hr
    cases R with
    | out => exact hr.elim
    | bad q => obtain ⟨rfl, g⟩ := hr; exact ⟨rfl, wres_bad rfl g⟩
    | ok s1 =>
      obtain ⟨rfl, h1, H1, e1, g1⟩ := hr
      go_wp2_with (fail)
      go_end0
      exact wres_ok rfl H1 e1 g1
  | false =>
    have kw : Calls Tryz.prog 63 #[.string c] w fun e w' => e = .returned (.bool false) ∧ w = w' := by rw [← hw]; exact lexWord_any c w
    have ky := name_w H c
    have hE : nameW c s = wordW c s := by unfold wordW; rw [if_neg (by rw [hw]; decide)]
    rw [hE] at ky
    generalize wordW c s = R at ky ⊢
    clear hw
    go_enter Tryz.func176, Tryz.ntmps176
    go_wp2_with (go_at_call 63; refine kw.mono ?_; rintro e w2 ⟨rfl, rfl⟩)
    go_at_call 75
    refine ky.mono ?_
    rintro e w1 hr
    cases R with
    | out => exact hr.elim
    | bad q => obtain ⟨rfl, g⟩ := hr; exact ⟨rfl, wres_bad rfl g⟩
    | ok s1 =>
      obtain ⟨rfl, h1, H1, e1, g1⟩ := hr
      go_wp2_with (fail)
      go_end0
      exact wres_ok rfl H1 e1 g1
end Go.Proofs.YtablckajobefeaaGreatDoor.S
/-
  parse.kids: how many kids a node of a kind has: walks. Generated: gen_writkind.py.
-/
namespace Go.Proofs.YtablckajobefeaaGreatDoor.S
open Go.RowKit Fl

def leastI (k : Nat) : Int := ([0, 0, 0, 0, 0, 1, 1, 2, 2, 3, 3, 0, 1, 0, 0, 0, 2, 1, 1, 0, 0, 0, 0, 0, 0, 0, 0, 1, 0, 2, 2, 2, 1, 0, 1, 2, 1, 1, 1, 2, 2, 2, 3, 2] : List Int).getD k 0
def mostI (k : Nat) : Int := ([-1, 16384, 16384, 1, 1, 16384, 1, 3, 2, 3, 3, 1, 1, 0, 0, 0, 3, 1, 1, -1, 0, 0, 0, 0, 0, 0, 0, 16384, 16384, 2, 2, 2, 1, 16384, 1, 2, 16384, 16384, 1, 2, 2, 2, 3, 2] : List Int).getD k (-1)
/-- no kind of node -/
structure NoNode (k : Nat) : Prop where
  n0 : ((k : Int) == 0) = false
  n1 : ((k : Int) == 1) = false
  n2 : ((k : Int) == 2) = false
  n3 : ((k : Int) == 3) = false
  n4 : ((k : Int) == 4) = false
  n5 : ((k : Int) == 5) = false
  n6 : ((k : Int) == 6) = false
  n7 : ((k : Int) == 7) = false
  n8 : ((k : Int) == 8) = false
  n9 : ((k : Int) == 9) = false
  n10 : ((k : Int) == 10) = false
  n11 : ((k : Int) == 11) = false
  n12 : ((k : Int) == 12) = false
  n13 : ((k : Int) == 13) = false
  n14 : ((k : Int) == 14) = false
  n15 : ((k : Int) == 15) = false
  n16 : ((k : Int) == 16) = false
  n17 : ((k : Int) == 17) = false
  n18 : ((k : Int) == 18) = false
  n19 : ((k : Int) == 19) = false
  n20 : ((k : Int) == 20) = false
  n21 : ((k : Int) == 21) = false
  n22 : ((k : Int) == 22) = false
  n23 : ((k : Int) == 23) = false
  n24 : ((k : Int) == 24) = false
  n25 : ((k : Int) == 25) = false
  n26 : ((k : Int) == 26) = false
  n27 : ((k : Int) == 27) = false
  n28 : ((k : Int) == 28) = false
  n29 : ((k : Int) == 29) = false
  n30 : ((k : Int) == 30) = false
  n31 : ((k : Int) == 31) = false
  n32 : ((k : Int) == 32) = false
  n33 : ((k : Int) == 33) = false
  n34 : ((k : Int) == 34) = false
  n35 : ((k : Int) == 35) = false
  n36 : ((k : Int) == 36) = false
  n37 : ((k : Int) == 37) = false
  n38 : ((k : Int) == 38) = false
  n39 : ((k : Int) == 39) = false
  n40 : ((k : Int) == 40) = false
  n41 : ((k : Int) == 41) = false
  n42 : ((k : Int) == 42) = false
  n43 : ((k : Int) == 43) = false
theorem node_kinds (k : Nat) : k = 0 ∨ k = 1 ∨ k = 2 ∨ k = 3 ∨ k = 4 ∨ k = 5 ∨ k = 6 ∨ k = 7 ∨ k = 8 ∨ k = 9 ∨ k = 10 ∨ k = 11 ∨ k = 12 ∨ k = 13 ∨ k = 14 ∨ k = 15 ∨ k = 16 ∨ k = 17 ∨ k = 18 ∨ k = 19 ∨ k = 20 ∨ k = 21 ∨ k = 22 ∨ k = 23 ∨ k = 24 ∨ k = 25 ∨ k = 26 ∨ k = 27 ∨ k = 28 ∨ k = 29 ∨ k = 30 ∨ k = 31 ∨ k = 32 ∨ k = 33 ∨ k = 34 ∨ k = 35 ∨ k = 36 ∨ k = 37 ∨ k = 38 ∨ k = 39 ∨ k = 40 ∨ k = 41 ∨ k = 42 ∨ k = 43 ∨ NoNode k := by
  by_cases h : k ≤ 43
  · omega
  · have : NoNode k := by constructor <;> (rw [beq_eq_false_iff_ne]; omega)
    simp [this]
set_option maxHeartbeats 4000000 in
theorem kids_w (k : Nat) (w : World) : Calls Tryz.prog 71 #[.int .u8 (k : Int)] w fun e w' => e = .returned (.tuple #[.int .i64 (leastI k), .int .i64 (mostI k)]) ∧ w = w' := by
  rcases node_kinds k with rfl | rfl | rfl | rfl | rfl | rfl | rfl | rfl | rfl | rfl | rfl | rfl | rfl | rfl | rfl | rfl | rfl | rfl | rfl | rfl | rfl | rfl | rfl | rfl | rfl | rfl | rfl | rfl | rfl | rfl | rfl | rfl | rfl | rfl | rfl | rfl | rfl | rfl | rfl | rfl | rfl | rfl | rfl | rfl | h
  all_goals first
    | (obtain ⟨h0, h1, h2, h3, h4, h5, h6, h7, h8, h9, h10, h11, h12, h13, h14, h15, h16, h17, h18, h19, h20, h21, h22, h23, h24, h25, h26, h27, h28, h29, h30, h31, h32, h33, h34, h35, h36, h37, h38, h39, h40, h41, h42, h43⟩ := h
       have l1 : leastI k = 0 := by
         unfold leastI
         rw [List.getD_eq_getElem?_getD, List.getElem?_eq_none (by
           have := h0
           simp only [beq_eq_false_iff_ne, ne_eq] at *
           show 44 ≤ k
           omega)]
         rfl
       have l2 : mostI k = -1 := by
         unfold mostI
         rw [List.getD_eq_getElem?_getD, List.getElem?_eq_none (by
           simp only [beq_eq_false_iff_ne, ne_eq] at *
           show 44 ≤ k
           omega)]
         rfl
       rw [l1, l2]
       clear l1 l2
       go_enter Tryz.func71, Tryz.ntmps71
       go_wp2_with (fail)
       go_ret2
       exact ⟨rfl, rfl⟩)
    | (go_enter Tryz.func71, Tryz.ntmps71
       go_wp2_with (fail)
       go_ret2
       exact ⟨rfl, rfl⟩)
end Go.Proofs.YtablckajobefeaaGreatDoor.S
