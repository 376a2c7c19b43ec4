/-
  Package parse's Tree: a row of tokens that may be.
-/
import Derived.Test.YtjapainhlfedgaaGreatDoorB23
import Derived.Test.YtjapainhlfedgaaGreatDoorB24
import Derived.Deep.QuietTactic
import Derived.BigQuiet
import Derived.Test.YtjapainhlfedgaaGreatDoorB06
namespace Go.Proofs.YtjapainhlfedgaaGreatDoor.S
open Go.RowKit Fl

/-- what Tree and Parse come to -/
def PTo (w : World) (r : PT) (e : Ending) (w' : World) : Prop :=
  match r with
  | .ok l => ∃ v, e = .returned (.tuple #[v, .int .i64 0, .int .i64 0]) ∧ TreeAt w.heap.size l v w' ∧ Below w.heap.size w w'
  | .err p k => e = .returned (.tuple #[.agg #[.slice none 0 0], .int .i64 p, .int .i64 k]) ∧ Below w.heap.size w w'
theorem pto_ok {w w' : World} {r : PT} {l : List Nd} {v : Value} (h : r = .ok l) (h1 : TreeAt w.heap.size l v w') (h2 : Below w.heap.size w w') : PTo w r (.returned (.tuple #[v, .int .i64 0, .int .i64 0])) w' := by rw [h]; exact ⟨v, rfl, h1, h2⟩
theorem pto_err {w w' : World} {r : PT} {p k : Int} (h : r = .err p k) (h2 : Below w.heap.size w w') : PTo w r (.returned (.tuple #[.agg #[.slice none 0 0], .int .i64 p, .int .i64 k])) w' := by rw [h]; exact ⟨rfl, h2⟩
theorem part_any {w : World} {ok : Nat → Prop} {t : Tr} {v : Value} (h : PartAt w ok t v) : PartAt w (fun j => j < w.heap.size) t v := part_up (Nat.le_refl _) (fun _ _ hlt => ⟨hlt, rfl⟩) t v h
/-- what caught comes to behind the parser's making -/
def CtR (w1 : World) (T : List Tk) (r : Rs Tr) (e : Ending) (w' : World) : Prop :=
  match r with
  | .ok t s => e = .returned (.agg #[.int .i64 0, .int .i64 0]) ∧ ∃ g A cap, PartAt w' (fun j => j < w'.heap.size) t (.pointer (some ⟨g, 0, none⟩)) ∧
      w'.heap[w1.heap.size]? = some (.cells #[.slice A T.length cap, .int .i64 (s.next : Int), .int .i64 s.level, .int .i64 s.parts] 68 (0, 0)) ∧
      w'.heap[w1.heap.size + 1]? = some (.cells #[.pointer (some ⟨w1.heap.size, 0, none⟩)] 66 (0, 0)) ∧ w'.heap[w1.heap.size + 1 + 1]? = some (.cells #[.pointer (some ⟨g, 0, none⟩)] 69 (0, 0)) ∧ Below w1.heap.size w1 w'
  | .bad p k => e = .returned (.agg #[.int .i64 p, .int .i64 k]) ∧ Below w1.heap.size w1 w'
  | .out => False
theorem caught_pre {T : List Tk} {A : Option Addr} {cap : Nat} {w1 : World} (hr : RdA w1 A T) (hm : MayP T) (hl : T.length ≤ 16385) :
    Calls Tryz.prog 27 #[.func (.func 28) #[] #[.pointer (some ⟨w1.heap.size + 1, 0, none⟩), .pointer (some ⟨w1.heap.size + 1 + 1, 0, none⟩)]]
      (((w1.alloc (.cells #[.slice A T.length cap, .int .i64 0, .int .i64 0, .int .i64 0] 68)).alloc (.cells #[.pointer (some ⟨w1.heap.size, 0, none⟩)] 66)).alloc (.cells #[.pointer none] 69))
      (CtR w1 T (scriptR T (depthOf T) ⟨0, 0, 0⟩)) := by
  have hT0 : 0 < T.length := by
    cases T with
    | nil => exact absurd rfl hm.1
    | cons a l => simp
  generalize ho0 : (Obj.cells #[.slice A T.length cap, .int .i64 0, .int .i64 0, .int .i64 0] 68) = o0
  generalize ho1 : (Obj.cells #[.pointer (some ⟨w1.heap.size, 0, none⟩)] 66) = o1
  generalize ho2 : (Obj.cells #[.pointer none] 69) = o2
  have s1 : (w1.alloc o0).heap.size = w1.heap.size + 1 := by simp
  have s2 : ((w1.alloc o0).alloc o1).heap.size = w1.heap.size + 1 + 1 := by simp
  have s3 : (((w1.alloc o0).alloc o1).alloc o2).heap.size = w1.heap.size + 1 + 1 + 1 := by simp
  have k3 : ∀ k, k < w1.heap.size + 1 + 1 → (((w1.alloc o0).alloc o1).alloc o2).heap[k]? = ((w1.alloc o0).alloc o1).heap[k]? := fun k hk => (World.grownBy_alloc _ o2 none).block k (by omega) (by simp)
  have k2 : ∀ k, k < w1.heap.size + 1 → ((w1.alloc o0).alloc o1).heap[k]? = (w1.alloc o0).heap[k]? := fun k hk => (World.grownBy_alloc _ o1 none).block k (by omega) (by simp)
  have b0 : (((w1.alloc o0).alloc o1).alloc o2).heap[w1.heap.size]? = some o0 := (k3 _ (by omega)).trans ((k2 _ (by omega)).trans (alloc_at rfl))
  have b1 : (((w1.alloc o0).alloc o1).alloc o2).heap[w1.heap.size + 1]? = some o1 := (k3 _ (by omega)).trans (alloc_at s1.symm)
  have b2 : (((w1.alloc o0).alloc o1).alloc o2).heap[w1.heap.size + 1 + 1]? = some o2 := alloc_at s2.symm
  have low : ∀ k, k < w1.heap.size → (((w1.alloc o0).alloc o1).alloc o2).heap[k]? = w1.heap[k]? := fun k hk => (k3 _ (by omega)).trans ((k2 _ (by omega)).trans ((World.grownBy_alloc _ o0 none).block k hk (by simp)))
  have hb : Below w1.heap.size w1 (((w1.alloc o0).alloc o1).alloc o2) := ⟨rfl, rfl, rfl, by omega, low⟩
  subst ho0 ho1 ho2
  obtain ⟨a, hA, hal, _⟩ := hr hT0
  have hat : At ⟨w1.heap.size, A, cap, T⟩ ⟨0, 0, 0⟩ (((w1.alloc (.cells #[.slice A T.length cap, .int .i64 0, .int .i64 0, .int .i64 0] 68)).alloc (.cells #[.pointer (some ⟨w1.heap.size, 0, none⟩)] 66)).alloc (.cells #[.pointer none] 69)) :=
    ⟨b0, rda_up hr hb, fun a' e => by have e : A = some a' := e; rw [hA] at e; cases e; show a.block ≠ w1.heap.size; omega, by show T.length ≤ 70000; omega, hT0, hm⟩
  refine (caught_tree hat b1 b2 (by show w1.heap.size + 1 + 1 ≠ w1.heap.size; omega) (fun a' e => by have e : A = some a' := e; rw [hA] at e; cases e; show a.block ≠ w1.heap.size + 1 + 1; omega)).mono ?_
  rintro e w' hr
  change CtTo _ _ _ (scriptR T (depthOf T) ⟨0, 0, 0⟩) e w' at hr
  cases hR : scriptR T (depthOf T) ⟨0, 0, 0⟩ with
  | out => exact absurd hR (gd_not_out (script_gd hm))
  | bad p q =>
    rw [hR] at hr
    obtain ⟨rfl, g⟩ := hr
    exact ⟨rfl, g.os.trans hb.os, g.tape.trans hb.tape, g.output.trans hb.output, Nat.le_trans hb.size g.size, fun k hk => (g.block k (Nat.lt_of_lt_of_le hk hb.size) (fun e => by have e : w1.heap.size = k := (Option.some.inj e).symm; omega)).trans (hb.block k hk)⟩
  | ok t s =>
    rw [hR] at hr
    obtain ⟨rfl, g, h1, h2, h3, h4⟩ := hr
    refine ⟨rfl, g, A, cap, part_any h1, h2.blk, (h4.block _ (by omega) (by show w1.heap.size + 1 ≠ w1.heap.size; omega) (by omega)).trans b1, h3, h4.os.trans hb.os, h4.tape.trans hb.tape, h4.output.trans hb.output, Nat.le_trans hb.size h4.size, fun k hk => (h4.block k (Nat.lt_of_lt_of_le hk hb.size) (by show k ≠ w1.heap.size; omega) (by omega)).trans (hb.block k hk)⟩
theorem tok_small {T : List Tk} (hm : MayP T) (i : Nat) : (tkAt T i).text.size ≤ 281474976710656 := by
  unfold tkAt
  rw [List.getD_eq_getElem?_getD]
  cases h : T[i]? with
  | none => exact (by decide : noTk.text.size ≤ 281474976710656)
  | some t => exact Nat.le_trans (tok_text (hm.2 i t h).1) (by decide)
theorem tree_ret {Q : Ending → World → Prop} {tmps : Array Value} {W : World} {g : Nat} {sl : Value} {p k : Int} (h2 : tmps[2]?.getD undef = .pointer (some ⟨g, 0, none⟩)) (h3 : tmps[3]?.getD undef = .int .i64 p) (h4 : tmps[4]?.getD undef = .int .i64 k)
    (hb : W.heap[g]? = some (.cells #[sl] 32 (0, 0))) (hQ : Q (.returned (.tuple #[.agg #[sl], .int .i64 p, .int .i64 k])) W) : bodyPost Tryz.prog Tryz.f20 Q .ret { tmps := tmps, defers := [] } W := by
  have c0 : W.cell? ⟨g, 0, none⟩ = some sl := blk_cell hb 0
  clear hb
  refine bodyPost_ret (v := .tuple #[.agg #[sl], .int .i64 p, .int .i64 k]) ?_ rfl hQ
  simp [h2, h3, h4, c0, results, Tryz.results20, go_sem]
theorem below_set {w W : World} (h : Below w.heap.size w W) {g : Nat} (hg : w.heap.size ≤ g) (i : Nat) (v : Value) : Below w.heap.size w (W.setCell ⟨g, i, none⟩ v) :=
  ⟨h.os, h.tape, h.output, by simpa using h.size, fun k hk => (Go.Deep.blk_setCell_other _ _ _ _ (by show k ≠ g; omega)).trans (h.block k hk)⟩
theorem blk_alloc {w : World} {g : Nat} {o1 : Obj} (h : w.heap[g]? = some o1) (o : Obj) : (w.alloc o).heap[g]? = some o1 := ((World.grownBy_alloc w o none).block g (lt_of_blk h) (by simp)).trans h
theorem treeAt_up {n0 : Nat} {l : List Nd} {v : Value} {w w' : World} {n : Nat} (h : TreeAt n l v w) (hn : n0 ≤ n) (hs : w.heap.size ≤ w'.heap.size) (hk : ∀ k, n ≤ k → k < w.heap.size → w'.heap[k]? = w.heap[k]?) : TreeAt n0 l v w' := by
  obtain ⟨A, cap, cs, rfl, h1, h2⟩ := h
  refine ⟨A, cap, cs, rfl, ⟨h1.1, ?_⟩, nds_up hs (fun k k1 k2 => ⟨⟨by have := k1.1; omega, k1.2⟩, hk k k1.1 k2⟩) _ _ h2⟩
  rcases h1.2 with h3 | ⟨g, c, cur, h3, h4, h5, h6⟩
  · exact Or.inl h3
  · exact Or.inr ⟨g, c, cur, h3, by omega, (hk g h4 (lt_of_blk h5)).trans h5, h6⟩
set_option maxHeartbeats 4000000 in
set_option maxRecDepth 100000 in
theorem tree_any {T : List Tk} {A : Option Addr} {cap : Nat} {w : World} (hr : RdA w A T) (hin : ∀ t ∈ T, TkIn t) (hm : MayP T) (hl : T.length ≤ 16385) (hcap : T.length ≤ cap) (htab : TabHere w) :
    Calls Tryz.prog 20 #[.slice A T.length cap] w (PTo w (treeP T)) := by
  obtain ⟨s, k, hT⟩ := textR_any T
  have hk : k = 0 ∨ k = 3 := by
    rcases hT with ⟨h1, _, _⟩ | ⟨_, h1, _, _⟩ | ⟨_, _, _, _, h1⟩ | ⟨_, _, _, _, h1⟩
    · omega
    · exact absurd hm h1
    · exact Or.inr h1
    · exact Or.inl h1
  have kt := fun W (h : Below w.heap.size w W) => Text_any T A cap W (rda_up hr h) hin (by omega) hcap (tab_below htab h) s k hT
  have hmf : ∀ (fn : Fn) (first cap : Array Value) (w : World), (Instr.makeFunc fn first cap).run Tryz.prog w = .ok (.func fn first cap) w := fun _ _ _ _ => rfl
  have hTs : ∀ t s, scriptR T (depthOf T) ⟨0, 0, 0⟩ = .ok t s → t.size ≤ 200000 ∧ t.all fun c => c.size ≤ 281474976710656 := fun t s h => by
    have h1 := size_tree hm (by omega) h
    refine ⟨by omega, tx_tree ⟨by decide, fun s => tok_small hm _⟩ h⟩
  generalize hP : treeP T = P
  unfold treeP at hP
  have E := Lib.hid hP
  clear hP
  rcases hk with rfl | rfl
  · go_enter Tryz.func20, Tryz.ntmps20
    go_wp2_with (go_at_call 22; refine (kt _ ((Below.refl _ _).alloc (Nat.le_refl _) _)).mono ?_; rintro e w1 ⟨rfl, hb⟩)
    go_at_call 27
    obtain ⟨hD, hDs, G1⟩ := num_a hb
    rw [heap_alloc_new] at hD
    have hB1 : Below w.heap.size w w1 := ⟨G1.os, G1.tape, G1.output, G1.size, fun k hk => G1.block k hk (by simp)⟩
    refine (caught_pre (rda_up hr hB1) hm hl).mono ?_
    rintro e w2 hr2
    cases hS : scriptR T (depthOf T) ⟨0, 0, 0⟩ with
    | out => exact absurd hS (gd_not_out (script_gd hm))
    | bad p q =>
      have E := Lib.hid (by have := E.out; rw [hS] at this; exact this)
      rw [hS] at hr2
      obtain ⟨rfl, hB2⟩ := hr2
      have hD2 := (hB2.block w.heap.size hDs).trans hD
      have hB := below_up hB1 hB2
      have d0 := blk_cell hD2 0
      have dz := fun i => fz_blk hD2 i
      have dl := lt_of_blk hD2
      have hq0 : (q != 0) = true := by rw [bne_iff_ne]; exact nb_tree hS
      go_wp2_with (fail)
      go_region
      go_wp2_with (fail)
      exact tree_ret rfl rfl rfl (blk_alloc (set_blk hD2 0 (.slice none 0 0)) _) (pto_err E.out.symm ((below_set hB (Nat.le_refl _) 0 _).alloc (by simpa using hB.size) _).drew)
    | ok t s =>
      have E := Lib.hid (by have := E.out; rw [hS] at this; exact this)
      obtain ⟨hz, hq⟩ := hTs t s hS
      rw [hS] at hr2
      obtain ⟨rfl, g, A2, cap2, hpt, hpb, hpv, hpw, hB2⟩ := hr2
      have hD2 := (hB2.block w.heap.size hDs).trans hD
      have hB := below_up hB1 hB2
      have d0 := blk_cell hD2 0
      have dz := fun i => fz_blk hD2 i
      have dl := lt_of_blk hD2
      have b3 := blk_cell hpb 3
      have bl := lt_of_blk hpb
      have v0 := blk_cell hpv 0
      have vl := lt_of_blk hpv
      have g0 := blk_cell hpw 0
      have gl := lt_of_blk hpw
      by_cases hpp : 16384 < s.parts
      · go_wp2_with (fail)
        exact tree_ret rfl rfl rfl (blk_alloc (set_blk hD2 0 (.slice none 0 0)) _) (pto_err (E.out.symm.trans (if_pos hpp)) ((below_set hB (Nat.le_refl _) 0 _).alloc (by simpa using hB.size) _))
      · have hcall := numbered_any (ok := fun j => j < (w2.alloc (.cells #[.int .i64 0, .int .i64 0] 71)).heap.size) (part_up (w := w2) (by simp) (fun k _ h2 => ⟨by simp; omega, (World.grownBy_alloc w2 _ none).block k h2 (by simp)⟩) t _ hpt) (fun j hj => hj) hq hz
        go_wp2_with (fail)
        go_at_call 30
        refine hcall.mono ?_
        rintro e w3 ⟨v3, rfl, hT3, hB3⟩
        obtain ⟨A3, cap3, cs3, rfl, hO3, hN3⟩ := hT3
        have hsz : (w2.alloc (.cells #[.int .i64 0, .int .i64 0] 71)).heap.size = w2.heap.size + 1 := by simp
        have hD3 := (hB3.block w.heap.size (by omega)).trans (blk_alloc hD2 _)
        have d0 := blk_cell hD3 0
        have dz := fun i => fz_blk hD3 i
        have dl := lt_of_blk hD3
        go_wp2_with (fail)
        refine tree_ret rfl rfl rfl (set_blk hD3 0 (.slice A3 (flatT 0 t).length cap3)) (pto_ok (E.out.symm.trans (if_neg (show ¬ 16384 < s.parts by omega))) (treeAt_up (w := w3) ⟨A3, cap3, cs3, rfl, hO3, hN3⟩ (by omega) (by simp) fun k k1 k2 => Go.Deep.blk_setCell_other _ _ _ _ (by show k ≠ w.heap.size; omega)) (below_set ?_ (Nat.le_refl _) 0 _))
        exact below_up (hB.alloc hB.size _) hB3
  · go_enter Tryz.func20, Tryz.ntmps20
    go_wp2_with (go_at_call 22; refine (kt _ ((Below.refl _ _).alloc (Nat.le_refl _) _)).mono ?_; rintro e w1 ⟨rfl, hb⟩)
    go_at_call 27
    obtain ⟨hD, hDs, G1⟩ := num_a hb
    rw [heap_alloc_new] at hD
    have hB1 : Below w.heap.size w w1 := ⟨G1.os, G1.tape, G1.output, G1.size, fun k hk => G1.block k hk (by simp)⟩
    refine (caught_pre (rda_up hr hB1) hm hl).mono ?_
    rintro e w2 hr2
    cases hS : scriptR T (depthOf T) ⟨0, 0, 0⟩ with
    | out => exact absurd hS (gd_not_out (script_gd hm))
    | bad p q =>
      have E := Lib.hid (by have := E.out; rw [hS] at this; exact this)
      rw [hS] at hr2
      obtain ⟨rfl, hB2⟩ := hr2
      have hD2 := (hB2.block w.heap.size hDs).trans hD
      have hB := below_up hB1 hB2
      have d0 := blk_cell hD2 0
      have dz := fun i => fz_blk hD2 i
      have dl := lt_of_blk hD2
      have hq0 : (q != 0) = true := by rw [bne_iff_ne]; exact nb_tree hS
      go_wp2_with (fail)
      go_region
      go_wp2_with (fail)
      exact tree_ret rfl rfl rfl (blk_alloc (set_blk hD2 0 (.slice none 0 0)) _) (pto_err E.out.symm ((below_set hB (Nat.le_refl _) 0 _).alloc (by simpa using hB.size) _).drew)
    | ok t s =>
      have E := Lib.hid (by have := E.out; rw [hS] at this; exact this)
      obtain ⟨hz, hq⟩ := hTs t s hS
      rw [hS] at hr2
      obtain ⟨rfl, g, A2, cap2, hpt, hpb, hpv, hpw, hB2⟩ := hr2
      have hD2 := (hB2.block w.heap.size hDs).trans hD
      have hB := below_up hB1 hB2
      have d0 := blk_cell hD2 0
      have dz := fun i => fz_blk hD2 i
      have dl := lt_of_blk hD2
      have b3 := blk_cell hpb 3
      have bl := lt_of_blk hpb
      have v0 := blk_cell hpv 0
      have vl := lt_of_blk hpv
      have g0 := blk_cell hpw 0
      have gl := lt_of_blk hpw
      by_cases hpp : 16384 < s.parts
      · go_wp2_with (fail)
        exact tree_ret rfl rfl rfl (blk_alloc (set_blk hD2 0 (.slice none 0 0)) _) (pto_err (E.out.symm.trans (if_pos hpp)) ((below_set hB (Nat.le_refl _) 0 _).alloc (by simpa using hB.size) _))
      · have hcall := numbered_any (ok := fun j => j < (w2.alloc (.cells #[.int .i64 0, .int .i64 0] 71)).heap.size) (part_up (w := w2) (by simp) (fun k _ h2 => ⟨by simp; omega, (World.grownBy_alloc w2 _ none).block k h2 (by simp)⟩) t _ hpt) (fun j hj => hj) hq hz
        go_wp2_with (fail)
        go_at_call 30
        refine hcall.mono ?_
        rintro e w3 ⟨v3, rfl, hT3, hB3⟩
        obtain ⟨A3, cap3, cs3, rfl, hO3, hN3⟩ := hT3
        have hsz : (w2.alloc (.cells #[.int .i64 0, .int .i64 0] 71)).heap.size = w2.heap.size + 1 := by simp
        have hD3 := (hB3.block w.heap.size (by omega)).trans (blk_alloc hD2 _)
        have d0 := blk_cell hD3 0
        have dz := fun i => fz_blk hD3 i
        have dl := lt_of_blk hD3
        go_wp2_with (fail)
        refine tree_ret rfl rfl rfl (set_blk hD3 0 (.slice A3 (flatT 0 t).length cap3)) (pto_ok (E.out.symm.trans (if_neg (show ¬ 16384 < s.parts by omega))) (treeAt_up (w := w3) ⟨A3, cap3, cs3, rfl, hO3, hN3⟩ (by omega) (by simp) fun k k1 k2 => Go.Deep.blk_setCell_other _ _ _ _ (by show k ≠ w.heap.size; omega)) (below_set ?_ (Nat.le_refl _) 0 _))
        exact below_up (hB.alloc hB.size _) hB3
end Go.Proofs.YtjapainhlfedgaaGreatDoor.S
/-
  Package parse's Parse: any text that is not too long.
-/
namespace Go.Proofs.YtjapainhlfedgaaGreatDoor.S
open Go.RowKit Fl

theorem tb_cap {B : Nat} {A : Option Addr} {n cap : Nat} {l : List Tk} {w0 w : World} (h : TB B (.slice A n cap) l w0 w) : l.length ≤ cap := by
  rcases h.1.2 with ⟨e, h1⟩ | ⟨g, c, cur, e, _, _, h2, _⟩
  · omega
  · injection e with e1 e2 e3
    omega
/-- what a text is parsed to -/
def parseP (s : List UInt8) : PT :=
  match toks s with
  | .ok T => treeP T
  | .err a k => .err a k
theorem parse_ret {Q : Ending → World → Prop} {tmps : Array Value} {W : World} {g : Nat} {sl : Value} {p k : Int} (h2 : tmps[2]?.getD undef = .pointer (some ⟨g, 0, none⟩)) (h3 : tmps[3]?.getD undef = .int .i64 p) (h4 : tmps[4]?.getD undef = .int .i64 k)
    (hb : W.heap[g]? = some (.cells #[sl] 32 (0, 0))) (hQ : Q (.returned (.tuple #[.agg #[sl], .int .i64 p, .int .i64 k])) W) : bodyPost Tryz.prog Tryz.f14 Q .ret { tmps := tmps, defers := [] } W := by
  have c0 : W.cell? ⟨g, 0, none⟩ = some sl := blk_cell hb 0
  clear hb
  refine bodyPost_ret (v := .tuple #[.agg #[sl], .int .i64 p, .int .i64 k]) ?_ rfl hQ
  simp [h2, h3, h4, c0, results, Tryz.results14, go_sem]
set_option maxHeartbeats 4000000 in
set_option maxRecDepth 100000 in
theorem parse_any (s : ByteArray) (hs : s.size ≤ 70000) (w : World) (htab : TabHere w) : Calls Tryz.prog 14 #[.string s] w (PTo w (parseP s.data.toList)) := by
  have kt := fun W => Tokens_any s hs W
  generalize hP : parseP s.data.toList = P
  unfold parseP at hP
  have E := Lib.hid hP
  clear hP
  go_enter Tryz.func14, Tryz.ntmps14
  go_wp2_with (fail)
  go_at_call 19
  refine (kt _).mono ?_
  rintro e w1 hr
  cases hT : toks s.data.toList with
  | err a k =>
    have E := Lib.hid (by have := E.out; rw [hT] at this; exact this)
    rw [hT] at hr
    obtain ⟨rfl, hb⟩ := hr
    obtain ⟨hD, hDs, G1⟩ := num_a hb
    rw [heap_alloc_new] at hD
    have hB1 : Below w.heap.size w w1 := ⟨G1.os, G1.tape, G1.output, G1.size, fun k hk => G1.block k hk (by simp)⟩
    have hk0 : (k != 0) = true := by rw [bne_iff_ne]; exact toks_err hT
    have d0 := blk_cell hD 0
    have dz := fun i => fz_blk hD i
    go_wp2_with (fail)
    exact parse_ret rfl rfl rfl (set_blk hD 0 (.slice none 0 0)) (pto_err E.out.symm (below_set hB1 (Nat.le_refl _) 0 _))
  | ok T =>
    have E := Lib.hid (by have := E.out; rw [hT] at this; exact this)
    obtain ⟨hin, hm, hl⟩ := told_in hT
    rw [hT] at hr
    obtain ⟨v, rfl, hb⟩ := hr
    obtain ⟨hD, hDs, G1⟩ := num_a hb.2.1
    rw [heap_alloc_new] at hD
    have hB1 : Below w.heap.size w w1 := ⟨G1.os, G1.tape, G1.output, G1.size, fun k hk => G1.block k hk (by simp)⟩
    obtain ⟨A, cap, rfl⟩ := tb_shape hb
    have hrd := rda_tb hb
    have hcap := tb_cap hb
    go_wp2_with (fail)
    go_at_call 20
    refine (tree_any hrd hin hm hl hcap (tab_below htab hB1)).mono ?_
    rintro e w2 hr2
    cases hP : treeP T with
    | err p q =>
      have E := Lib.hid (hP.symm.trans E.out)
      rw [hP] at hr2
      obtain ⟨rfl, hB2⟩ := hr2
      have hD2 := (hB2.block w.heap.size hDs).trans hD
      have d0 := blk_cell hD2 0
      have dz := fun i => fz_blk hD2 i
      go_wp2_with (fail)
      exact parse_ret rfl rfl rfl (set_blk hD2 0 (.slice none 0 0)) (pto_err E.out.symm (below_set (below_up hB1 hB2) (Nat.le_refl _) 0 _))
    | ok l =>
      have E := Lib.hid (hP.symm.trans E.out)
      rw [hP] at hr2
      obtain ⟨v3, rfl, ⟨A3, cap3, cs3, rfl, hO3, hN3⟩, hB2⟩ := hr2
      have hD2 := (hB2.block w.heap.size hDs).trans hD
      have d0 := blk_cell hD2 0
      have dz := fun i => fz_blk hD2 i
      go_wp2_with (fail)
      exact parse_ret rfl rfl rfl (set_blk hD2 0 (.slice A3 l.length cap3)) (pto_ok E.out.symm (treeAt_up (w := w2) ⟨A3, cap3, cs3, rfl, hO3, hN3⟩ hB1.size (by simp) fun k k1 k2 => Go.Deep.blk_setCell_other _ _ _ _ (by show k ≠ w.heap.size; omega)) (below_set (below_up hB1 hB2) (Nat.le_refl _) 0 _))
end Go.Proofs.YtjapainhlfedgaaGreatDoor.S
/-
  What the laws of parse use: a tree's cells, many, kinds.
-/
namespace Go.Proofs.YtjapainhlfedgaaGreatDoor.S
open Go.RowKit Fl

theorem nds_get {w : World} {ok : Nat → Prop} : ∀ (l : List Nd) (cs : List Value), NdsAt w ok l cs → ∀ i (h : i < l.length), ∃ A cap, (∀ j, j < 5 → cs[i * 5 + j]? = (ndC l[i] A cap)[j]?) ∧ RowV w ok A (intsV l[i].kids)
  | [], _, _, i, h => by simp at h
  | c :: l, cs, ⟨a, b, h1, ⟨A, cap, h2, h3⟩, h4⟩, i, h => by
    have ha : a.length = 5 := by rw [h2]; rfl
    cases i with
    | zero =>
      refine ⟨A, cap, fun j hj => ?_, h3⟩
      rw [h1, List.getElem?_append_left (by omega), h2]
      simp
    | succ i =>
      obtain ⟨A2, cap2, k1, k2⟩ := nds_get l b h4 i (by simpa using h)
      refine ⟨A2, cap2, fun j hj => ?_, k2⟩
      rw [h1, List.getElem?_append_right (by omega), ha, show (i + 1) * 5 + j - 5 = i * 5 + j by omega]
      exact k1 j hj
theorem tree_cells {n0 : Nat} {l : List Nd} {A : Option Addr} {cap : Nat} {w : World} (h : TreeAt n0 l (.agg #[.slice A l.length cap]) w) (hl : 0 < l.length) : ∃ g, A = some ⟨g, 0, none⟩ ∧ n0 ≤ g ∧ g < w.heap.size ∧ ∀ i (hi : i < l.length),
    w.cell? ⟨g, i * 5, none⟩ = some (.int .u8 (l[i].kind : Int)) ∧ w.cell? ⟨g, i * 5 + 1, none⟩ = some (.int .i64 l[i].p) ∧ w.cell? ⟨g, i * 5 + 2, none⟩ = some (.string l[i].text) ∧ w.cell? ⟨g, i * 5 + 3, none⟩ = some (.float .f64 l[i].num) ∧
      ∃ K ck, w.cell? ⟨g, i * 5 + 4, none⟩ = some (.slice K l[i].kids.length ck) ∧ RowV w (fun k => n0 ≤ k) K (intsV l[i].kids) := by
  obtain ⟨A', cap', cs, h0, h1, h2⟩ := h
  injection h0 with h0
  injection h0 with h0
  injection h0 with h0
  injection h0 with e1 _ e3
  subst e1 e3
  rcases h1.2 with ⟨_, h3⟩ | ⟨g, c, cur, h3, h4, h5, h6⟩
  · omega
  · injection h3 with e1 _ e3
    subst e1 e3
    refine ⟨g, rfl, h4, lt_of_blk h5, fun i hi => ?_⟩
    have cell : ∀ j u, cs[j]? = some u → w.cell? ⟨g, j, none⟩ = some u := fun j u hu => by
      have := h1.cells (g := g) rfl j u hu
      rwa [show (⟨g, 0, none⟩ : Addr).add j = ⟨g, j, none⟩ by unfold Addr.add; split <;> simp_all] at this
    obtain ⟨K, ck, k1, k2⟩ := nds_get l cs h2 i hi
    refine ⟨cell _ _ (k1 0 (by omega)), cell _ _ (k1 1 (by omega)), cell _ _ (k1 2 (by omega)), cell _ _ (k1 3 (by omega)), K, ck, cell _ _ (k1 4 (by omega)), rowv_up k2 (Nat.le_refl _) fun k h _ => ⟨h.1, rfl⟩⟩
/-- a text so many times -/
def manyL (s : List UInt8) : Nat → List UInt8
  | 0 => []
  | n + 1 => manyL s n ++ s
theorem manyL_len (s : List UInt8) (n : Nat) : (manyL s n).length = n * s.length := by
  induction n with
  | zero => simp [manyL]
  | succ n ih => simp [manyL, ih, Nat.succ_mul]
theorem mkB_append (a b : List UInt8) : mkB a ++ mkB b = mkB (a ++ b) := by
  apply str_ext
  simp [mkB]
set_option maxHeartbeats 1000000 in
theorem many_any (s : List UInt8) (n : Nat) (w : World) (hs : s.length ≤ 10) (hn : n ≤ 100000) : Calls Tryz.prog 11 #[.string (mkB s), .int .i64 (n : Int)] w fun e w' => e = .returned (.string (mkB (manyL s n))) ∧ Below w.heap.size w w' := by
  go_enter Tryz.func11, Tryz.ntmps11
  go_wp2_with (fail)
  go_loopw [5, 6] (fun o i wr => ∃ k : Nat, i = .int .i64 (k : Int) ∧ o = .string (mkB (manyL s k)) ∧ k ≤ n ∧ Hid (Below w.heap.size w wr)) (fun _ i _ => n - (intOf i).toNat)
  case atStart => exact ⟨0, rfl, rfl, Nat.zero_le _, Lib.hid (Below.refl _ _)⟩
  case round =>
    obtain ⟨k, rfl, rfl, hk, H⟩ := hrel
    by_cases hlt : (k : Int) < (n : Int)
    · have hz := Lib.hid (show (mkB (manyL s k)).size + (mkB s).size ≤ 9223372036854775807 by
        have h1 := manyL_len s k
        have h2 : k * s.length ≤ 100000 * 10 := Nat.mul_le_mul (by omega) hs
        simp [mkB, size_len, h1]
        omega)
      go_wp2_with (fail)
      all_goals first
        | (exfalso; have := hz.out; omega)
        | (refine ⟨⟨k + 1, rfl, ?_, by omega, H⟩, by simp [intOf]; omega⟩; rw [mkB_append]; rfl)
    · go_wp2_with (fail)
      go_ret
      have : k = n := by omega
      subst this
      exact ⟨rfl, H.out⟩
theorem parse_tree {s : List UInt8} {l : List Nd} (h : parseP s = .ok l) : ∃ T t s1, toks s = .ok T ∧ scriptR T (depthOf T) ⟨0, 0, 0⟩ = .ok t s1 ∧ l = flatT 0 t ∧ t.size ≤ 16384 := by
  unfold parseP at h
  cases hT : toks s with
  | err a k' => rw [hT] at h; cases h
  | ok T =>
    rw [hT] at h
    have h : treeP T = .ok l := h
    unfold treeP at h
    obtain ⟨hin, hm, hl⟩ := told_in hT
    cases hS : scriptR T (depthOf T) ⟨0, 0, 0⟩ with
    | out => rw [hS] at h; cases h
    | bad q j => rw [hS] at h; cases h
    | ok t s1 =>
      rw [hS] at h
      have h : (if s1.parts > 16384 then PT.err 0 4 else PT.ok (flatT 0 t)) = .ok l := h
      split at h
      · cases h
      · injection h with h
        have := size_tree hm (by omega) hS
        exact ⟨T, t, s1, rfl, hS, h.symm, by omega⟩
theorem parse_pos {s : List UInt8} {l : List Nd} (h : parseP s = .ok l) : 0 < l.length := by
  obtain ⟨T, t, s1, _, _, rfl, _⟩ := parse_tree h
  rw [flatT_len]
  exact Tr.size_pos t
theorem parse_few {s : List UInt8} {l : List Nd} (h : parseP s = .ok l) : l.length ≤ 100000 := by
  obtain ⟨T, t, s1, _, _, rfl, h2⟩ := parse_tree h
  rw [flatT_len]
  omega
/-- has what is parsed just these kinds? -/
def kindsP (r : PT) (ks : List Nat) : Bool :=
  match r with
  | .ok l => l.map Nd.kind == ks
  | .err _ _ => false
theorem parse_err {s : List UInt8} {p k : Int} (h : parseP s = .err p k) : k ≠ 0 := by
  unfold parseP at h
  cases hT : toks s with
  | err a k' =>
    rw [hT] at h
    injection h with _ h2
    subst h2
    exact toks_err hT
  | ok T =>
    rw [hT] at h
    have h : treeP T = .err p k := h
    unfold treeP at h
    cases hS : scriptR T (depthOf T) ⟨0, 0, 0⟩ with
    | out => exact absurd hS (gd_not_out (script_gd (told_in hT).2.1))
    | bad q j =>
      rw [hS] at h
      injection h with _ h2
      subst h2
      exact nb_tree hS
    | ok t s1 =>
      rw [hS] at h
      have h : (if s1.parts > 16384 then PT.err 0 4 else PT.ok (flatT 0 t)) = .err p k := h
      split at h
      · injection h with _ h2
        subst h2
        decide
      · cases h
theorem below_drewN {n : Nat} {w w' : World} (h : Below n w w') (q : Nat) : Below n w (w'.drewN q) := ⟨h.os, h.tape, h.output, h.size, h.block⟩
theorem kinds_below {w w1 wr : World} {o : Obj} (h1 : Below w.heap.size w w1) (h2 : Below (w1.heap.size + 1) (w1.alloc o) wr) : Below w.heap.size w wr :=
  ⟨h2.os.trans h1.os, h2.tape.trans h1.tape, h2.output.trans h1.output, by have := h2.size; have := h1.size; simp at *; omega, fun k hk => (h2.block k (by have := h1.size; omega)).trans (((World.grownBy_alloc w1 o none).block k (by have := h1.size; omega) (by simp)).trans (h1.block k hk))⟩
set_option maxHeartbeats 4000000 in
set_option maxRecDepth 100000 in
theorem kinds_any (s : ByteArray) (hs : s.size ≤ 70000) (ks : List Nat) (b : Nat) (w : World) (htab : TabHere w) (hb : b < w.heap.size) (hk : ∀ i (h : i < ks.length), w.cell? ⟨b, i, none⟩ = some (.int .u8 (ks[i] : Int))) (hl : ks.length ≤ 100000) :
    Calls Tryz.prog 8 #[.string s, .slice (some ⟨b, 0, none⟩) ks.length ks.length] w fun e w' => e = .returned (.bool (kindsP (parseP s.data.toList) ks)) ∧ Below w.heap.size w w' := by
  have kp := parse_any s hs w htab
  cases hP : parseP s.data.toList with
  | err p k =>
    rw [hP] at kp
    have hk0 : (k != 0) = true := by rw [bne_iff_ne]; exact parse_err hP
    go_enter Tryz.func8, Tryz.ntmps8
    go_wp2_with (go_at_call 14; refine kp.mono ?_; rintro e w1 ⟨rfl, h1⟩)
    go_ret
    exact ⟨rfl, h1.alloc h1.size _⟩
  | ok l =>
    rw [hP] at kp
    have hn0 : 0 < l.length := parse_pos hP
    have nl : l.length ≤ 100000 := parse_few hP
    by_cases hlen : l.length = ks.length
    · have hle : ((l.length : Int) != (ks.length : Int)) = false := by rw [hlen]; simp
      have HL := Lib.hid hlen
      clear hlen
      go_enter Tryz.func8, Tryz.ntmps8
      go_wp2_with (go_at_call 14; refine kp.mono ?_; rintro e w1 ⟨v, rfl, hT, h1⟩; obtain ⟨A, cap, cs, rfl, hT2⟩ := hT; obtain ⟨g, hA, hg, hgl, hc⟩ := tree_cells (A := A) (cap := cap) ⟨A, cap, cs, rfl, hT2⟩ hn0; subst hA)
      have hW0 : ∀ k, k < w1.heap.size → (w1.alloc (.cells #[.slice (some ⟨g, 0, none⟩) l.length cap] 32)).heap[k]? = w1.heap[k]? := fun k hk => (World.grownBy_alloc w1 _ none).block k hk (by simp)
      go_loopw [8] (fun i wr => ∃ k : Nat, i = .int .i64 (k : Int) ∧ k ≤ l.length ∧ (∀ j (h1 : j < l.length) (h2 : j < ks.length), j < k → l[j].kind = ks[j]) ∧ Hid (Below (w1.heap.size + 1) (w1.alloc (.cells #[.slice (some ⟨g, 0, none⟩) l.length cap] 32)) wr)) (fun i _ => l.length - (intOf i).toNat)
      case atStart => exact ⟨0, rfl, Nat.zero_le _, fun j _ _ h => absurd h (by omega), Lib.hid (Below.refl _ _)⟩
      case round =>
        obtain ⟨k, rfl, hkl, hsame, H⟩ := hrel
        have hb2 := H.out
        have r0 : wr.cell? ⟨w1.heap.size, 0, none⟩ = some (.slice (some ⟨g, 0, none⟩) l.length cap) := blk_cell ((hb2.block _ (by omega)).trans (heap_alloc_new w1 _)) 0
        have hs1 := h1.size
        by_cases hlt : (k : Int) < (ks.length : Int)
        · have hk2 : k < ks.length := by omega
          have hk1 : k < l.length := by have := HL.out; omega
          have cg : wr.cell? ⟨g, k * 5, none⟩ = some (.int .u8 (l[k].kind : Int)) := by
            rw [World.cell?_of_block (w := w1) ((hb2.block g (by omega)).trans (hW0 g hgl))]
            exact (hc k hk1).1
          have ck : wr.cell? ⟨b, k, none⟩ = some (.int .u8 (ks[k] : Int)) := by
            rw [World.cell?_of_block (w := w) ((hb2.block b (by omega)).trans ((hW0 b (by omega)).trans (h1.block b hb)))]
            exact hk k hk2
          have hi1 : (k : Int) < (l.length : Int) := by omega
          have hi0 : (0 : Int) ≤ (k : Int) := by omega
          have hsk : ∀ (q : l[k].kind = ks[k]) j (h1 : j < l.length) (h2 : j < ks.length), j < k + 1 → l[j].kind = ks[j] := fun q j h1 h2 h3 => by
            by_cases hj : j = k
            · subst hj; exact q
            · exact hsame j h1 h2 (by omega)
          have HS := Lib.hid hsk
          clear hc hk hsame hb2 hsk
          by_cases hq : l[k].kind = ks[k]
          · have hqb : ((l[k].kind : Int) != (ks[k] : Int)) = false := by rw [hq]; simp
            go_wp2_with (fail)
            go_quiet (fail)
            go_wp2_with (fail)
            refine ⟨⟨k + 1, rfl, hk1, HS.out hq, Lib.hid (below_drewN H.out nq)⟩, by simp [intOf]; omega⟩
          · have hqb : ((l[k].kind : Int) != (ks[k] : Int)) = true := by rw [bne_iff_ne]; omega
            go_wp2_with (fail)
            go_quiet (fail)
            go_wp2_with (fail)
            go_ret
            refine ⟨?_, kinds_below h1 (below_drewN H.out nq)⟩
            have : (l.map Nd.kind == ks) = false := by
              rw [beq_eq_false_iff_ne]
              intro e
              apply hq
              have := congrArg (fun x => x[k]?) e
              simp only [List.getElem?_map, List.getElem?_eq_getElem hk1, List.getElem?_eq_getElem hk2, Option.map_some] at this
              exact Option.some.inj this
            show Ending.returned (.bool false) = Ending.returned (.bool (l.map Nd.kind == ks))
            rw [this]
        · have hlen := HL.out
          go_wp2_with (fail)
          go_ret
          refine ⟨?_, kinds_below h1 H.out⟩
          have : (l.map Nd.kind == ks) = true := by
            rw [beq_iff_eq]
            refine List.ext_getElem (by simpa using hlen) fun i a1 a2 => ?_
            rw [List.getElem_map]
            exact hsame i (by simpa using a1) a2 (by have : k = l.length := by omega
                                                     simp at a1
                                                     omega)
          show Ending.returned (.bool true) = Ending.returned (.bool (l.map Nd.kind == ks))
          rw [this]
    · have hle : ((l.length : Int) != (ks.length : Int)) = true := by rw [bne_iff_ne]; omega
      go_enter Tryz.func8, Tryz.ntmps8
      go_wp2_with (go_at_call 14; refine kp.mono ?_; rintro e w1 ⟨v, rfl, hT, h1⟩; obtain ⟨A, cap, cs, rfl, hT2⟩ := hT)
      go_ret
      refine ⟨?_, h1.alloc h1.size _⟩
      have : (l.map Nd.kind == ks) = false := by
        rw [beq_eq_false_iff_ne]
        intro e
        apply hlen
        rw [← e]
        simp
      show Ending.returned (.bool false) = Ending.returned (.bool (l.map Nd.kind == ks))
      rw [this]
end Go.Proofs.YtjapainhlfedgaaGreatDoor.S
/-
  What every statement of the chapter begins with: an assignment of a sum.
-/
namespace Go.Proofs.YtjapainhlfedgaaGreatDoor.S
open Go.RowKit Fl

def alivN : List Nd := [⟨1, 0, ⟨#[]⟩, 0, [1]⟩, ⟨6, 0, ⟨#[]⟩, 0, [2]⟩, ⟨43, 0, (⟨#[61]⟩ : ByteArray), 0, [3, 4]⟩, ⟨26, 0, (⟨#[97]⟩ : ByteArray), 0, []⟩, ⟨39, 4, (⟨#[43]⟩ : ByteArray), 0, [5, 6]⟩, ⟨26, 4, (⟨#[98]⟩ : ByteArray), 0, []⟩, ⟨20, 8, ⟨#[]⟩, 4607182418800017408, []⟩]
set_option maxRecDepth 100000 in
theorem alive_parse : parseP [97, 32, 61, 32, 98, 32, 43, 32, 49, 59] = .ok alivN := by kernel_rfl
/-- the cells of the tree that alive looks at -/
def AliveAt (g cap : Nat) (w : World) : Prop := w.cell? ⟨g, 12, none⟩ = some (.string (⟨#[61]⟩ : ByteArray)) ∧ w.cell? ⟨g, 22, none⟩ = some (.string (⟨#[43]⟩ : ByteArray)) ∧ w.cell? ⟨g, 21, none⟩ = some (.int .i64 4) ∧ w.cell? ⟨g, 33, none⟩ = some (.float .f64 4607182418800017408) ∧ w.cell? ⟨g, 31, none⟩ = some (.int .i64 8) ∧
  ∃ h ck, w.cell? ⟨g, 14, none⟩ = some (.slice (some ⟨h, 0, none⟩) 2 ck) ∧ w.cell? ⟨h, 1, none⟩ = some (.int .i64 4) ∧ h < w.heap.size ∧ g < w.heap.size ∧ cap = cap
theorem aliveAt_up {g cap : Nat} {w w' : World} (h : AliveAt g cap w) (hs : w.heap.size ≤ w'.heap.size) (hb : ∀ k, k < w.heap.size → w'.heap[k]? = w.heap[k]?) : AliveAt g cap w' := by
  obtain ⟨h1, h2, h3, h4, h5, k, ck, h6, h7, h8, h9, _⟩ := h
  have e : ∀ i, w'.cell? ⟨g, i, none⟩ = w.cell? ⟨g, i, none⟩ := fun i => World.cell?_of_block (a := ⟨g, i, none⟩) (hb g h9)
  exact ⟨by rw [e]; exact h1, by rw [e]; exact h2, by rw [e]; exact h3, by rw [e]; exact h4, by rw [e]; exact h5, k, ck, by rw [e]; exact h6, by rw [World.cell?_of_block (a := ⟨k, 1, none⟩) (hb k h8)]; exact h7, by omega, by omega, rfl⟩
theorem alive_parsed (w : World) (htab : TabHere w) : Calls Tryz.prog 14 #[.string (⟨#[97, 32, 61, 32, 98, 32, 43, 32, 49, 59]⟩ : ByteArray)] w fun e w' => ∃ g cap, e = .returned (.tuple #[.agg #[.slice (some ⟨g, 0, none⟩) 7 cap], .int .i64 0, .int .i64 0]) ∧ AliveAt g cap w' ∧ Below w.heap.size w w' := by
  have := parse_any (⟨#[97, 32, 61, 32, 98, 32, 43, 32, 49, 59]⟩ : ByteArray) (by decide) w htab
  rw [show ((⟨#[97, 32, 61, 32, 98, 32, 43, 32, 49, 59]⟩ : ByteArray)).data.toList = [97, 32, 61, 32, 98, 32, 43, 32, 49, 59] from rfl, alive_parse] at this
  refine this.mono ?_
  rintro e w1 ⟨v, rfl, hT, h1⟩
  obtain ⟨A, cap, cs, rfl, hT2⟩ := hT
  obtain ⟨g, hA, hg, hgl, hc⟩ := tree_cells (A := A) (cap := cap) ⟨A, cap, cs, rfl, hT2⟩ (by decide)
  subst hA
  obtain ⟨_, _, a2, _, K, ck, a4, hr⟩ := hc 2 (by decide)
  obtain ⟨_, b1, b2, _⟩ := hc 4 (by decide)
  obtain ⟨_, c1, _, c3, _⟩ := hc 6 (by decide)
  obtain ⟨h, rfl, _, hl, hcell⟩ := hr (by decide)
  exact ⟨g, cap, rfl, ⟨a2, b2, b1, c3, c1, h, ck, a4, hcell 1 _ rfl, hl, hgl, rfl⟩, h1⟩
theorem alive_tab {w w1 : World} (htab : TabHere w) (h1 : Below w.heap.size w w1) (o1 o2 : Obj) : TabHere ((w1.alloc o1).alloc o2) := tab_below htab ((h1.alloc h1.size o1).alloc (by have := h1.size; simp; omega) o2)
theorem alive_arr {W : World} {t : TypeId} {a b c d e f g : Int} {ks : List Nat} {n : Nat} (hz : n = W.heap.size) (hk : ks = [a.toNat, b.toNat, c.toNat, d.toNat, e.toNat, f.toNat, g.toNat]) (hn : 0 ≤ a ∧ 0 ≤ b ∧ 0 ≤ c ∧ 0 ≤ d ∧ 0 ≤ e ∧ 0 ≤ f ∧ 0 ≤ g) : ∀ i (h : i < ks.length), (W.alloc (.cells #[.int .u8 a, .int .u8 b, .int .u8 c, .int .u8 d, .int .u8 e, .int .u8 f, .int .u8 g] t)).cell? ⟨n, i, none⟩ = some (.int .u8 (ks[i] : Int)) := fun i h => by
  subst hk hz
  rw [blk_cell (heap_alloc_new W _) i]
  match i, h with
  | 0, _ => simp; omega
  | 1, _ => simp; omega
  | 2, _ => simp; omega
  | 3, _ => simp; omega
  | 4, _ => simp; omega
  | 5, _ => simp; omega
  | 6, _ => simp; omega
  | i + 7, h => exact absurd h (by simp)
theorem alive_on {w w1 w2 : World} {g cap : Nat} {v : Value} {o2 : Obj} (hA : AliveAt g cap w1) (h1 : Below w.heap.size w w1) (h2 : Below ((w1.alloc (.cells #[v] 32)).alloc o2).heap.size ((w1.alloc (.cells #[v] 32)).alloc o2) w2) :
    w2.cell? ⟨w1.heap.size, 0, none⟩ = some v ∧ AliveAt g cap w2 ∧ Below w.heap.size w w2 := by
  have hs := h2.size
  have hz : ((w1.alloc (.cells #[v] 32)).alloc o2).heap.size = w1.heap.size + 1 + 1 := by simp
  have low : ∀ k, k < w1.heap.size → w2.heap[k]? = w1.heap[k]? := fun k hk => (h2.block k (by omega)).trans (((World.grownBy_alloc _ o2 none).block k (by simp; omega) (by simp)).trans ((World.grownBy_alloc w1 _ none).block k hk (by simp)))
  refine ⟨blk_cell ((h2.block w1.heap.size (by omega)).trans (((World.grownBy_alloc _ o2 none).block w1.heap.size (by simp) (by simp)).trans (heap_alloc_new w1 _))) 0, aliveAt_up hA (by omega) low, h2.os.trans h1.os, h2.tape.trans h1.tape, h2.output.trans h1.output, by have := h1.size; omega, fun k hk => (low k (by have := h1.size; omega)).trans (h1.block k hk)⟩
set_option maxHeartbeats 4000000 in
set_option maxRecDepth 1000000 in
theorem paralive_any (w : World) (htab : TabHere w) : Calls Tryz.prog 13 #[] w fun e w' => e = .returned (.bool true) ∧ Below w.heap.size w w' := by
  have kp := alive_parsed w htab
  have kk : ∀ (W : World) (b : Nat), TabHere W → b < W.heap.size → (∀ i (h : i < 7), W.cell? ⟨b, i, none⟩ = some (.int .u8 (([1, 6, 43, 26, 39, 26, 20] : List Nat)[i] : Int))) →
      Calls Tryz.prog 8 #[.string (⟨#[97, 32, 61, 32, 98, 32, 43, 32, 49, 59]⟩ : ByteArray), .slice (some ⟨b, 0, none⟩) 7 7] W fun e w' => e = .returned (.bool true) ∧ Below W.heap.size W w' := fun W b h1 h2 h3 => by
    have := kinds_any (⟨#[97, 32, 61, 32, 98, 32, 43, 32, 49, 59]⟩ : ByteArray) (by decide) [1, 6, 43, 26, 39, 26, 20] b W h1 h2 h3 (by decide)
    rw [show ((⟨#[97, 32, 61, 32, 98, 32, 43, 32, 49, 59]⟩ : ByteArray)).data.toList = [97, 32, 61, 32, 98, 32, 43, 32, 49, 59] from rfl, alive_parse] at this
    exact this
  have f1 := eq_float1
  go_enter Tryz.func13, Tryz.ntmps13
  go_wp2_with (first
    | (go_at_call 14; refine kp.mono ?_; rintro e w1 ⟨g, cap, rfl, hA, h1⟩)
    | (go_at_call 8; refine (kk _ _ (alive_tab htab h1 _ _) (by simp) (alive_arr (by simp) rfl (by decide))).mono ?_; rintro e w2 ⟨rfl, h2⟩; obtain ⟨r0, hA2, hB2⟩ := alive_on hA h1 h2; obtain ⟨q1, q2, q3, q4, q5, hh, ck, q6, q7, q8, q9, _⟩ := hA2; clear hA h2))
  go_ret
  exact ⟨rfl, hB2⟩
end Go.Proofs.YtjapainhlfedgaaGreatDoor.S
