/-
  OrdinaryKeeps: the walk.
-/
import Derived.Test.YtlfbflclefndjaaGreatDoorKE31
namespace Go.Proofs.YtlfbflclefndjaaGreatDoor.S
open Go.RowKit Go.Lib Fl
open Classical

theorem LeftH.otherP {H : List Ob} {B : Nat} {M2 : List Ob} {W W' : World} {g : Nat} (h : LeftH H B M2 W) (hg : ∃ c, W.heap[g]? = some (.cells c 24 (0, 0))) (hO : ∀ j, j ≠ g → W'.heap[j]? = W.heap[j]?) : LeftH H B M2 W' := by
  obtain ⟨c, hc⟩ := hg
  refine ⟨(hO B fun e => ?_).trans h.b, h.rest.keep fun x cs hx => hO x (fun e => ?_), h.ins, h.len, h.few, h.may⟩
  · subst e; rw [h.b] at hc; cases hc
  · subst e; rw [hx] at hc; cases hc
theorem ak_of {w : World} {g : Nat} {k : Ak} {t : TypeId} (hb : w.heap[g]? = some (.cells (akA k) t (0, 0))) : ∀ j u, (akA k).toList[j]? = some u → w.cell? ((⟨g, 0, none⟩ : Addr).add j) = some u := fun j u hu => by
  rw [Addr.add_mid, Nat.zero_add, vcells hb j]
  simpa using hu
theorem kfields_of {all cs : List Value} {i : Nat} (h : (all.drop i).take cs.length = cs) : ∀ j v, cs[j]? = some v → all[i + j]? = some v := fun j v hv => by
  rw [← h] at hv
  rw [List.getElem?_take] at hv
  split at hv
  · rwa [List.getElem?_drop] at hv
  · cases hv
section
variable {ops : Array Oper} {rest : List Oper} {o : Oper} {a : Act} {w : World} {Q : Exit → Act → World → Prop} {x y : Operand} {g i : Nat} {t : TypeId} {all : List Value}
theorem kp_load {ty : TypeId} {cs : List Value} {d : TypeDesc} (hg : w.heap[g]? = some (.cells all.toArray t (0, 0))) (hs : (all.drop i).take cs.length = cs) (hu : Tryz.prog.underlying ty = some d) (hd : d.isRow = true) (hi : (Tryz.prog.info? ty).map (·.size) = some cs.length) :
    (Instr.loadAt ty (.pointer (some ⟨g, i, none⟩))).run Tryz.prog w = .ok (.agg cs.toArray) w :=
  run_loadAt_at (fun j v hv => by
    rw [Addr.add_mid, vcells hg (i + j), List.getElem?_toArray]
    exact kfields_of hs j v hv) hu hd hi
theorem kp_bool {b : Bool} (hg : w.heap[g]? = some (.cells all.toArray t (0, 0))) (hs : all[i]? = some (.bool b)) : (Instr.loadAt 4 (.pointer (some ⟨g, i, none⟩))).run Tryz.prog w = .ok (.bool b) w := by
  have h : w.cell? ⟨g, i, none⟩ = some (.bool b) := by rw [vcells hg i, List.getElem?_toArray]; exact hs
  simp [go_sem, h]
theorem kp_u8 {b : Int} (hg : w.heap[g]? = some (.cells all.toArray t (0, 0))) (hs : all[i]? = some (.int .u8 b)) : (Instr.loadAt 5 (.pointer (some ⟨g, i, none⟩))).run Tryz.prog w = .ok (.int .u8 b) w := by
  have h : w.cell? ⟨g, i, none⟩ = some (.int .u8 b) := by rw [vcells hg i, List.getElem?_toArray]; exact hs
  simp [go_sem, h]
theorem kp_int {b : Int} (hg : w.heap[g]? = some (.cells all.toArray t (0, 0))) (hs : all[i]? = some (.int .i64 b)) : (Instr.loadAt 3 (.pointer (some ⟨g, i, none⟩))).run Tryz.prog w = .ok (.int .i64 b) w := by
  have h : w.cell? ⟨g, i, none⟩ = some (.int .i64 b) := by rw [vcells hg i, List.getElem?_toArray]; exact hs
  simp [go_sem, h]
theorem kp_keys {A : Option Addr} {l c : Nat} (hg : w.heap[g]? = some (.cells all.toArray t (0, 0))) (hs : all[i]? = some (.slice A l c)) : (Instr.loadAt 42 (.pointer (some ⟨g, i, none⟩))).run Tryz.prog w = .ok (.slice A l c) w := by
  have h : w.cell? ⟨g, i, none⟩ = some (.slice A l c) := by rw [vcells hg i, List.getElem?_toArray]; exact hs
  simp [go_sem, h]
theorem kb_l2 (hw : Region.wanted o (yielded ops a.tmps) = true) (ho : o.op = .load 4 x) (hx : a.eval x = .pointer (some ⟨g, i, none⟩)) (hg : w.heap[g]? = some (.cells all.toArray t (0, 0)))
    (h : ∃ b, all[i]? = some (.bool b) ∧ wpList Tryz.prog ops Q rest (a.put o.dst (.bool b)) w) : wpList Tryz.prog ops Q (o :: rest) a w := by
  obtain ⟨b, hs, h⟩ := h
  exact w_run hw (ex_load_at (kp_bool hg hs) ho hx) h
theorem ku_l2 (hw : Region.wanted o (yielded ops a.tmps) = true) (ho : o.op = .load 5 x) (hx : a.eval x = .pointer (some ⟨g, i, none⟩)) (hg : w.heap[g]? = some (.cells all.toArray t (0, 0)))
    (h : ∃ b, all[i]? = some (.int .u8 b) ∧ wpList Tryz.prog ops Q rest (a.put o.dst (.int .u8 b)) w) : wpList Tryz.prog ops Q (o :: rest) a w := by
  obtain ⟨b, hs, h⟩ := h
  exact w_run hw (ex_load_at (kp_u8 hg hs) ho hx) h
theorem ki_l2 (hw : Region.wanted o (yielded ops a.tmps) = true) (ho : o.op = .load 3 x) (hx : a.eval x = .pointer (some ⟨g, i, none⟩)) (hg : w.heap[g]? = some (.cells all.toArray t (0, 0)))
    (h : ∃ b, all[i]? = some (.int .i64 b) ∧ wpList Tryz.prog ops Q rest (a.put o.dst (.int .i64 b)) w) : wpList Tryz.prog ops Q (o :: rest) a w := by
  obtain ⟨b, hs, h⟩ := h
  exact w_run hw (ex_load_at (kp_int hg hs) ho hx) h
theorem kk_l2 (hw : Region.wanted o (yielded ops a.tmps) = true) (ho : o.op = .load 42 x) (hx : a.eval x = .pointer (some ⟨g, i, none⟩)) (hg : w.heap[g]? = some (.cells all.toArray t (0, 0)))
    (h : ∃ A l c, all[i]? = some (.slice A l c) ∧ wpList Tryz.prog ops Q rest (a.put o.dst (.slice A l c)) w) : wpList Tryz.prog ops Q (o :: rest) a w := by
  obtain ⟨A, l, c, hs, h⟩ := h
  exact w_run hw (ex_load_at (kp_keys hg hs) ho hx) h
theorem kp_arm {ty : TypeId} {v : Value} (hw : Region.wanted o (yielded ops a.tmps) = true) (ho : o.op = .load ty x) (hx : a.eval x = .pointer (some ⟨g, i, none⟩)) (hr : (Instr.loadAt ty (.pointer (some ⟨g, i, none⟩))).run Tryz.prog w = .ok v w)
    (h : wpList Tryz.prog ops Q rest (a.put o.dst v) w) : wpList Tryz.prog ops Q (o :: rest) a w :=
  w_run hw (ex_load_at hr ho hx) h
end
theorem ky_ld {w : World} {g : Nat} {t : TypeId} {k : Ky} (hg : w.heap[g]? = some (.cells #[.string k.str, .int .i64 k.sym] t (0, 0))) : (Instr.loadAt 26 (.pointer (some ⟨g, 0, none⟩))).run Tryz.prog w = .ok (.agg #[.string k.str, .int .i64 k.sym]) w :=
  kp_load (all := [.string k.str, .int .i64 k.sym]) (cs := [.string k.str, .int .i64 k.sym]) hg rfl Tryz.underlying26 rfl ksz
section
variable {sh : Bool} {p : Vq} {A : Option Addr} {n c : Nat} {f : Bool} {d : Dq} {g : Nat} {t : TypeId} {w : World}
theorem td_v (hg : w.heap[g]? = some (.cells (tdl sh p A n c f d).toArray t (0, 0))) : (Instr.loadAt 34 (.pointer (some ⟨g, 1, none⟩))).run Tryz.prog w = .ok (.agg #[.int .u8 p.k, .float .f64 p.x, .string p.s, .int .i64 p.r]) w :=
  kp_load (cs := [.int .u8 p.k, .float .f64 p.x, .string p.s, .int .i64 p.r]) hg rfl Tryz.underlying34 rfl vsz4
theorem td_a (hg : w.heap[g]? = some (.cells (tdl sh p A n c f d).toArray t (0, 0))) : (Instr.loadAt 34 (.pointer (some ⟨g, 8, none⟩))).run Tryz.prog w = .ok (.agg #[.int .u8 d.a.k, .float .f64 d.a.x, .string d.a.s, .int .i64 d.a.r]) w :=
  kp_load (cs := [.int .u8 d.a.k, .float .f64 d.a.x, .string d.a.s, .int .i64 d.a.r]) hg rfl Tryz.underlying34 rfl vsz4
theorem td_d (hg : w.heap[g]? = some (.cells (tdl sh p A n c f d).toArray t (0, 0))) : (Instr.loadAt 41 (.pointer (some ⟨g, 7, none⟩))).run Tryz.prog w = .ok (.agg d.cells) w :=
  kp_load (cs := d.cells.toList) hg rfl Tryz.underlying41 rfl dsz
end
theorem kak_key {a : Ak} {g : Nat} {t : TypeId} {w : World} (hg : w.heap[g]? = some (.cells (akl a).toArray t (0, 0))) : (Instr.loadAt 26 (.pointer (some ⟨g, 2, none⟩))).run Tryz.prog w = .ok (.agg #[.string a.k.str, .int .i64 a.k.sym]) w :=
  kp_load (cs := [.string a.k.str, .int .i64 a.k.sym]) hg rfl Tryz.underlying26 rfl ksz
/-- a round, as it stands once the ask is done and told -/
structure Rd (w : World) (A1 : Option Addr) (H1 : List Ob) (c1 k : Nat) (ky : Ky) (ai : Ak) (q : Oq) (B : Nat) (M2 : List Ob) (g16 g17 g18 g19 g21 : Nat) (s1 : Bool) (p1 : Vq) (O1 : Nat) (L1 : List Ky) (f1 : Bool) (d1 : Dq) (s2 : Bool) (p2 : Vq) (O2 : Nat) (L2 : List Ky) (f2 : Bool) (d2 : Dq) (W : World) : Prop where
  kr : Kr w A1 H1 c1 k ky W
  t1 : W.heap[g16]? = some (.cells (tdl s1 p1 (some ⟨O1, 0, none⟩) L1.length L1.length f1 d1).toArray 51 (0, 0))
  o1 : W.heap[O1]? = some (.cells (kyCells L1).toArray 26 (0, 0))
  ak : W.heap[g17]? = some (.cells (akl ai).toArray 49 (0, 0))
  x : W.heap[g18]? = some (.cells #[.slice (some ⟨B, 0, none⟩) H1.length H1.length] 24 (0, 0))
  out : W.heap[g19]? = some (.cells (oql q).toArray 44 (0, 0))
  l : LeftH H1 B M2 W
  t2 : W.heap[g21]? = some (.cells (tdl s2 p2 (some ⟨O2, 0, none⟩) L2.length L2.length f2 d2).toArray 51 (0, 0))
  o2 : W.heap[O2]? = some (.cells (kyCells L2).toArray 26 (0, 0))
theorem Rd.up {w : World} {A1 : Option Addr} {H1 : List Ob} {c1 k : Nat} {ky : Ky} {ai : Ak} {q : Oq} {B : Nat} {M2 : List Ob} {g16 g17 g18 g19 g21 : Nat} {s1 : Bool} {p1 : Vq} {O1 : Nat} {L1 : List Ky} {f1 : Bool} {d1 : Dq} {s2 : Bool} {p2 : Vq} {O2 : Nat} {L2 : List Ky} {f2 : Bool} {d2 : Dq} {W W' : World} (h : Rd w A1 H1 c1 k ky ai q B M2 g16 g17 g18 g19 g21 s1 p1 O1 L1 f1 d1 s2 p2 O2 L2 f2 d2 W) (hb : Below W.heap.size W W') : Rd w A1 H1 c1 k ky ai q B M2 g16 g17 g18 g19 g21 s1 p1 O1 L1 f1 d1 s2 p2 O2 L2 f2 d2 W' :=
  ⟨h.kr.up hb, vblkn hb h.t1, vblkn hb h.o1, vblkn hb h.ak, vblkn hb h.x, vblkn hb h.out, h.l.up hb, vblkn hb h.t2, vblkn hb h.o2⟩
/-- what holds of the two tellings -/
structure Fx (ky : Ky) (k2 : Nat) (ai : Ak) (q : Oq) (s1 : Bool) (p1 : Vq) (L1 : List Ky) (f1 : Bool) (d1 : Dq) (s2 : Bool) (p2 : Vq) (L2 : List Ky) (f2 : Bool) (d2 : Dq) : Prop where
  shut : s1 = true → s2 = true ∧ p2 = p1 ∧ ∀ x ∈ L2, x ∈ L1
  old : f1 = true → d1.z = false → f2 = true ∧ StaysL d2 d1
  fnd : amongK L2 ky = f2
  kind : q.kind = 1 ∨ q.kind = 3
  does : ai.n = (k2 : Int) → ai.k = ky → q.b = true → (ai.m = 6 → f2 = true) ∧ (ai.m = 10 → f2 = false)
  n1 : L1.length < 1000000000000
  n2 : L2.length < 1000000000000
  g1 : f1 = true → Good d1
  g2 : f2 = true → Good d2
  pk : sameQ p1 p1 = true ∧ 0 ≤ p1.k ∧ p1.k ≤ 8
theorem Rd.key {w : World} {A1 : Option Addr} {H1 : List Ob} {c1 k : Nat} {ky : Ky} {ai : Ak} {q : Oq} {B : Nat} {M2 : List Ob} {g16 g17 g18 g19 g21 : Nat} {s1 : Bool} {p1 : Vq} {O1 : Nat} {L1 : List Ky} {f1 : Bool} {d1 : Dq} {s2 : Bool} {p2 : Vq} {O2 : Nat} {L2 : List Ky} {f2 : Bool} {d2 : Dq} {V : World} (h : Rd w A1 H1 c1 k ky ai q B M2 g16 g17 g18 g19 g21 s1 p1 O1 L1 f1 d1 s2 p2 O2 L2 f2 d2 V) {j : Nat} (hj : j < L2.length) : (Instr.loadAt 26 (.pointer (some ⟨O2, j * 2, none⟩))).run Tryz.prog V = .ok (.agg #[.string L2[j].str, .int .i64 L2[j].sym]) V := by
  obtain ⟨a2, e2, _, h4⟩ := rk_blk h.o2 (Nat.lt_of_le_of_lt (Nat.zero_le _) hj)
  obtain rfl := Option.some.inj e2
  obtain ⟨q0, q1⟩ := h4 j hj
  rw [Addr.add_mid, Nat.zero_add] at q0
  rw [Addr.add_mid, Nat.zero_add] at q1
  exact k2_at (A := ⟨O2, j * 2, none⟩) q0 q1
theorem Rd.old {w : World} {A1 : Option Addr} {H1 : List Ob} {c1 k : Nat} {ky : Ky} {ai : Ak} {q : Oq} {B : Nat} {M2 : List Ob} {g16 g17 g18 g19 g21 : Nat} {s1 : Bool} {p1 : Vq} {O1 : Nat} {L1 : List Ky} {f1 : Bool} {d1 : Dq} {s2 : Bool} {p2 : Vq} {O2 : Nat} {L2 : List Ky} {f2 : Bool} {d2 : Dq} {V : World} (h : Rd w A1 H1 c1 k ky ai q B M2 g16 g17 g18 g19 g21 s1 p1 O1 L1 f1 d1 s2 p2 O2 L2 f2 d2 V) (hF : Fx ky k ai q s1 p1 L1 f1 d1 s2 p2 L2 f2 d2) (hs : s1 = true) {j : Nat} (hj : j < L2.length) : Calls Tryz.prog 10 #[.slice (some ⟨O1, 0, none⟩) L1.length L1.length, .agg #[.string L2[j].str, .int .i64 L2[j].sym]] V fun e w' => e = .returned (.bool true) ∧ Below V.heap.size V w' := by
  have h3 := among_o (some ⟨O1, 0, none⟩) L1 L1.length L2[j] V hF.n1 (rk_blk h.o1)
  rw [among_iff.2 ((hF.shut hs).2.2 _ (List.getElem_mem hj))] at h3
  exact h3
theorem Rd.chk {w : World} {A1 : Option Addr} {H1 : List Ob} {c1 k : Nat} {ky : Ky} {ai : Ak} {q : Oq} {B : Nat} {M2 : List Ob} {g16 g17 g18 g19 g21 : Nat} {s1 : Bool} {p1 : Vq} {O1 : Nat} {L1 : List Ky} {f1 : Bool} {d1 : Dq} {s2 : Bool} {p2 : Vq} {O2 : Nat} {L2 : List Ky} {f2 : Bool} {d2 : Dq} {V : World} (h : Rd w A1 H1 c1 k ky ai q B M2 g16 g17 g18 g19 g21 s1 p1 O1 L1 f1 d1 s2 p2 O2 L2 f2 d2 V) (htab : TabHere w) : Calls Tryz.prog 6 #[.agg #[.slice (some ⟨B, 0, none⟩) H1.length H1.length]] V fun e w' => e = .returned (.int .i64 0) ∧ Below V.heap.size V w' := by
  have h3 := Check_h (some ⟨B, 0, none⟩) M2 M2.length V h.l.inn (tab_up htab h.kr.below)
  rw [h.l.len, chk_ok h.l.may] at h3
  exact h3
theorem Rd.amg {w : World} {A1 : Option Addr} {H1 : List Ob} {c1 k : Nat} {ky : Ky} {ai : Ak} {q : Oq} {B : Nat} {M2 : List Ob} {g16 g17 g18 g19 g21 : Nat} {s1 : Bool} {p1 : Vq} {O1 : Nat} {L1 : List Ky} {f1 : Bool} {d1 : Dq} {s2 : Bool} {p2 : Vq} {O2 : Nat} {L2 : List Ky} {f2 : Bool} {d2 : Dq} {V : World} (h : Rd w A1 H1 c1 k ky ai q B M2 g16 g17 g18 g19 g21 s1 p1 O1 L1 f1 d1 s2 p2 O2 L2 f2 d2 V) (hF : Fx ky k ai q s1 p1 L1 f1 d1 s2 p2 L2 f2 d2) : Calls Tryz.prog 10 #[.slice (some ⟨O2, 0, none⟩) L2.length L2.length, .agg #[.string ky.str, .int .i64 ky.sym]] V fun e w' => e = .returned (.bool f2) ∧ Below V.heap.size V w' := by
  have h3 := among_o (some ⟨O2, 0, none⟩) L2 L2.length ky V hF.n2 (rk_blk h.o2)
  rw [hF.fnd] at h3
  exact h3
theorem Rd.next {w : World} {A1 : Option Addr} {H1 : List Ob} {c1 k : Nat} {ky : Ky} {ai : Ak} {q : Oq} {B : Nat} {M2 : List Ob} {g16 g17 g18 g19 g21 : Nat} {s1 : Bool} {p1 : Vq} {O1 : Nat} {L1 : List Ky} {f1 : Bool} {d1 : Dq} {s2 : Bool} {p2 : Vq} {O2 : Nat} {L2 : List Ky} {f2 : Bool} {d2 : Dq} {V W : World} (h : Rd w A1 H1 c1 k ky ai q B M2 g16 g17 g18 g19 g21 s1 p1 O1 L1 f1 d1 s2 p2 O2 L2 f2 d2 V) (hp : ∃ h : k < M2.length, plainK M2[k].kind = true) (hb : Below w.heap.size w W) (hW : W.heap[w.heap.size]? = some (.cells #[.slice (some ⟨B, 0, none⟩) H1.length H1.length] 24 (0, 0))) (hO : ∀ j, j ≠ w.heap.size → W.heap[j]? = V.heap[j]?) (_ : W.heap.size = V.heap.size) : Kr w (some ⟨B, 0, none⟩) M2 H1.length k ky W := by
  obtain ⟨h1, h2⟩ := hp
  have hl := h.l.otherP ⟨_, h.kr.h⟩ hO
  refine ⟨hb, by rw [h.l.len]; exact hW, (hO _ (by omega)).trans h.kr.kb, ?_, hl.small, hl.may, h1, h2⟩
  have := hl.inn
  rw [h.l.len] at this
  exact this
theorem Fx.dsame {ky : Ky} {k2 : Nat} {ai : Ak} {q : Oq} {s1 : Bool} {p1 : Vq} {L1 : List Ky} {f1 : Bool} {d1 : Dq} {s2 : Bool} {p2 : Vq} {L2 : List Ky} {f2 : Bool} {d2 : Dq} (hF : Fx ky k2 ai q s1 p1 L1 f1 d1 s2 p2 L2 f2 d2) (hf : f1 = true) (hz : d1.z = false) (hD : hasB d1.h 3 = false) (W : World) : Calls Tryz.prog 13 #[.agg d2.cells, .agg d1.cells] W fun e w' => e = .returned (.bool true) ∧ Below W.heap.size W w' := by
  obtain ⟨hf2, hs⟩ := hF.old hf hz
  have k1 := good_kinds (hF.g1 hf)
  have h3 := Same_q (a := d2) (b := d1) (good_kinds (hF.g2 hf2)) ⟨k1.1.1, k1.2.1.1, k1.2.2.1⟩ W
  rw [hs.acc hD] at h3
  exact h3
theorem Fx.vsame {ky : Ky} {k2 : Nat} {ai : Ak} {q : Oq} {s1 : Bool} {p1 : Vq} {L1 : List Ky} {f1 : Bool} {d1 : Dq} {s2 : Bool} {p2 : Vq} {L2 : List Ky} {f2 : Bool} {d2 : Dq} (hF : Fx ky k2 ai q s1 p1 L1 f1 d1 s2 p2 L2 f2 d2) (hf : f1 = true) (hz : d1.z = false) (hD : hasB d1.h 3 = true) (hp : d1.p = false) : d2.p = false ∧ ∀ W, Calls Tryz.prog 11 #[.agg #[.int .u8 d2.a.k, .float .f64 d2.a.x, .string d2.a.s, .int .i64 d2.a.r], .agg #[.int .u8 d1.a.k, .float .f64 d1.a.x, .string d1.a.s, .int .i64 d1.a.r]] W fun e w' => e = .returned (.bool true) ∧ Below W.heap.size W w' := by
  obtain ⟨hf2, hs⟩ := hF.old hf hz
  have k1 := good_kinds (hF.g1 hf)
  have k2 := good_kinds (hF.g2 hf2)
  rcases hs.dat hD with e | ⟨e1, e2⟩
  · rw [hp] at e; cases e
  · refine ⟨e1, fun W => ?_⟩
    have h3 := same_i (ka := d2.a.k) (xa := d2.a.x) (sa := d2.a.s) (ra := d2.a.r) (kb := d1.a.k) (xb := d1.a.x) (sb := d1.a.s) (rb := d1.a.r) k2.1 k1.1.1 W
    have h4 : sameI d2.a.k d2.a.x d2.a.s d2.a.r d1.a.k d1.a.x d1.a.s d1.a.r = true := e2
    rw [h4] at h3
    exact h3
theorem Fx.same {ky : Ky} {k2 : Nat} {ai : Ak} {q : Oq} {s1 : Bool} {p1 : Vq} {L1 : List Ky} {f1 : Bool} {d1 : Dq} {s2 : Bool} {p2 : Vq} {L2 : List Ky} {f2 : Bool} {d2 : Dq} (hF : Fx ky k2 ai q s1 p1 L1 f1 d1 s2 p2 L2 f2 d2) (hs : s1 = true) (W : World) : Calls Tryz.prog 11 #[.agg #[.int .u8 p1.k, .float .f64 p1.x, .string p1.s, .int .i64 p1.r], .agg #[.int .u8 p2.k, .float .f64 p2.x, .string p2.s, .int .i64 p2.r]] W fun e w' => e = .returned (.bool true) ∧ Below W.heap.size W w' := by
  have h3 := same_i (ka := p1.k) (xa := p1.x) (sa := p1.s) (ra := p1.r) (kb := p1.k) (xb := p1.x) (sb := p1.s) (rb := p1.r) hF.pk.2 hF.pk.2.1 W
  have h4 : sameI p1.k p1.x p1.s p1.r p1.k p1.x p1.s p1.r = true := hF.pk.1
  rw [h4] at h3
  rw [(hF.shut hs).2.1]
  exact h3
theorem fx_of {H1 M2 : List Ob} {k2 : Nat} {e1 e2 : Ob} (h1 : k2 < H1.length) (h2 : k2 < M2.length) (he1 : e1 = H1[k2]) (he2 : e2 = M2[k2]) {ky : Ky} {ai : Ak} {q : Oq} {L1 L2 : List Ky} (hm1 : mayH H1 = true) (hm2 : mayH M2 = true) (hi1 : ∀ o ∈ H1, o.In) (hi2 : ∀ o ∈ M2, o.In) (hs1 : ∀ o ∈ H1, o.props.length ≤ 100000) (hs2 : ∀ o ∈ M2, o.props.length ≤ 100000) (hK : KeptL e1 e2 ky) (ho1 : OrdOf (keysL e1.props) L1) (ho2 : OrdOf (keysL e2.props) L2) (hq : q.kind = 1 ∨ q.kind = 3)
    (hd : ai.n = (k2 : Int) → ai.k = ky → q.b = true → (ai.m = 6 → (findT e2.props ky).isSome = true) ∧ (ai.m = 10 → (findT e2.props ky).isSome = false)) :
    Fx ky k2 ai q (!e1.ext) e1.proto L1 (findT e1.props ky).isSome (fndD e1.props ky) (!e2.ext) e2.proto L2 (findT e2.props ky).isSome (fndD e2.props ky) := by
  subst he1 he2
  have t1 := (may_parts hm1 h1).2.1
  have t2 := (may_parts hm2 h2).2.1
  have i1 : ∀ x ∈ H1[k2].props, x.In := (hi1 _ (List.getElem_mem h1)).props
  have i2 : ∀ x ∈ M2[k2].props, x.In := (hi2 _ (List.getElem_mem h2)).props
  have n1 := hs1 _ (List.getElem_mem h1)
  have n2 := hs2 _ (List.getElem_mem h2)
  have e1 : L1.length = H1[k2].props.length := by rw [ho1.len]; unfold keysL; rw [List.length_map]
  have e2 : L2.length = M2[k2].props.length := by rw [ho2.len]; unfold keysL; rw [List.length_map]
  refine ⟨fun h => ?_, fun h1 h2 => hK.old h1 h2, ?_, hq, hd, by omega, by omega, fun h => (fnd_whole t1 i1 h).1, fun h => (fnd_whole t2 i2 h).1, ?_⟩
  · have hx : H1[k2].ext = false := by simpa using h
    obtain ⟨a1, a2, a3⟩ := hK.shut hx
    refine ⟨by rw [a1]; rfl, a2, fun x hx => ?_⟩
    exact (ord_mem ho1 x).2 (a3 x ((ord_mem ho2 x).1 hx))
  · cases hf : (findT M2[k2].props ky).isSome with
    | true => exact among_iff.2 ((ord_mem ho2 ky).2 (found_iff.1 hf))
    | false =>
      cases ha : amongK L2 ky with
      | false => rfl
      | true =>
        rw [found_iff.2 ((ord_mem ho2 ky).1 (among_iff.1 ha))] at hf
        cases hf
  · have hh := (may_parts hm1 h1).2.2.2.1
    unfold holdsB at hh
    rw [Bool.and_eq_true] at hh
    have ok : H1[k2].proto.Ok := mayI_iff.1 hh.1
    exact ⟨same_refl ok, (vok_kind ok).1, (vok_kind ok).2⟩
def ToldO (o : Ob) (ky : Ky) (w : World) (e : Ending) (w' : World) : Prop := ∃ (O : Nat) (L : List Ky), e = .returned (.agg (tdA (!o.ext) o.proto (some ⟨O, 0, none⟩) L.length L.length (findT o.props ky).isSome (fndD o.props ky))) ∧ (OrdOf (keysL o.props) L ∧ w'.heap[O]? = some (.cells (kyCells L).toArray 26 (0, 0))) ∧ Below w.heap.size w w'
set_option maxHeartbeats 16000000 in
set_option maxRecDepth 1000000 in
theorem keeps_main (A : Option Addr) (H : List Ob) (cap k : Nat) (ky : Ky) (A3 : Option Addr) (L : List Ak) (cap3 : Nat) (w : World) (hH : HIn0 w A H cap) (htab : TabHere w) (hky : KyIn ky) (hL : RAk w A3 L) (hLi : ∀ a ∈ L, a.In)
    (hm : ¬ ((60 < H.length ∧ H.length ≤ 4096) ∨ 5000 < H.length)) (hl : lg12 H = false) (hz : chkH H = 0) (hof : ofE H (k : Int) = 0) (hE : doE H (akq 5 k ky (dz 0) v0) = 0) (hL63 : L.length ≤ 9223372036854775807) :
    Calls Tryz.prog 3 #[.agg #[.slice A H.length cap], .int .i64 (k : Int), .agg #[.string ky.str, .int .i64 ky.sym], .slice A3 L.length cap3] w (KeepsTo w) := by
  have HQ := Lib.hid (kp_start w A H.length cap ky)
  have cA := fun W (hb : Below w.heap.size w W) => alive12 W (tab_up htab hb)
  unfold KeepsTo
  have cL := fun W (hb : Below w.heap.size w W) => lg12_few A H cap W (hrow_up hH.row hb) hm
  rw [hl] at cL
  have hI := hH.few12 (by omega) hl
  have hsm : ∀ o ∈ H, o.props.length ≤ 100000 := fun o ho => by have := small_12 hl o ho; omega
  have cC := fun W (hb : Below w.heap.size w W) => Check_h A H cap W (hI.up hb) (tab_up htab hb)
  rw [hz] at cC
  obtain ⟨hmay, k2, hA⟩ := do_ask hE
  obtain rfl : k2 = k := Int.ofNat.inj hA.n.symm
  have hk := hA.lt
  have hpl := hA.plain
  have hmk : mayKy ky := hA.key (.inl rfl)
  have cOf : ∀ W, Below w.heap.size w W → Calls Tryz.prog 7 #[.agg #[.slice A H.length cap], .int .i64 (k2 : Int)] W fun e w' => ∃ o : Ob, e = .returned (.tuple #[.agg (obA o), .int .i64 0]) ∧ Below W.heap.size W w' := fun W hb =>
    (Of_h A H cap k2 W (hI.up hb) hsm (tab_up htab hb)).mono fun e w' ⟨hb2, h⟩ => by
      rcases h with ⟨h0, _⟩ | ⟨_, h1, g, he, _⟩
      · exact absurd hof h0
      · exact ⟨_, he, hb2⟩
  have cD : ∀ W, Below w.heap.size w W → Calls Tryz.prog 8 #[.agg #[.slice A H.length cap], .agg (akA (akq 5 k2 ky (dz 0) v0))] W fun e w' => ∃ v q, v.oneCell' = true ∧ e = .returned (.tuple #[.agg #[v], .agg (oqA q), .int .i64 0]) ∧ Below W.heap.size W w' := fun W hb =>
    (Do_any A H cap _ W (hI.up hb) hsm (akq_in hky dz0_in (ok_in v0_ok)) (tab_up htab hb)).mono fun e w' ⟨hb2, h⟩ => by
      rcases h with ⟨h0, _⟩ | ⟨_, _, k2, B, q, M2, _, he, _, _⟩
      · exact absurd hE h0
      · exact ⟨_, q, rfl, he, hb2⟩
  have hoi : ∀ o : Ob, (Tryz.prog.info? 37).map (·.size) = some (obA o).size := fun _ => osz
  have hi1 : ∀ v : Value, (Tryz.prog.info? 24).map (·.size) = some (#[v] : Array Value).size := fun v => hsz
  have hc1x : ∀ v : Value, v.oneCell' = true → (#[v] : Array Value).all (·.oneCell') = true := fun v h => cells_one (l := [v]) (by simpa using h)
  have HKR : Hid (∀ W, Kp w A H.length cap ky W → Kr w A H cap k2 ky W) := Lib.hid fun W h => ⟨h.below, h.h, h.k, hI.up h.below, hsm, hmay, hk, hpl⟩
  have HLL := Lib.hid (And.intro hL hLi)
  have HTAB := Lib.hid htab
  have HKY := Lib.hid (And.intro hky hmk)
  clear hH htab hm hl hI hz hsm hky hL hLi hof hE hmay hA hk hpl hmk
  go_enter Tryz.func3, Tryz.ntmps3
  go_upto_region 10 with (first
    | (go_at_call 4; (with_reducible refine (cA _ HQ.out.below).mono ?_); rintro e w1 ⟨rfl, h9⟩; have HQ := Lib.hid (HQ.out.up h9); clear h9)
    | ((with_reducible refine h1_ld ?_ rfl rfl HQ.out.h ?_); (rfl))
    | ((with_reducible refine kk_load ?_ rfl rfl HQ.out.k ?_); (rfl))
    | (go_at_call 5; (with_reducible refine (cL _ HQ.out.below).mono ?_); rintro e w2 ⟨rfl, h9⟩; have HQ := Lib.hid (HQ.out.up h9); clear h9)
    | (go_at_call 6; (with_reducible refine (cC _ HQ.out.below).mono ?_); rintro e w3 ⟨rfl, h9⟩; have HQ := Lib.hid (HQ.out.up h9); clear h9)
    | (go_at_call 7; (with_reducible refine (cOf _ HQ.out.below).mono ?_); rintro e w4 ⟨o, rfl, h9⟩; have HQ := Lib.hid (HQ.out.up h9); clear h9)
    | (refine t_store (cs := obA o) rfl rfl rfl rfl (heap_alloc_new w4 _) (hoi o) rfl (obA_one o) (vzero w4 _) (Nat.le_refl _) ?_; intro W5 hb5 hW5 hO5 hz5; have HQ := Lib.hid (HQ.out.up hb5); clear hb5 hW5 hO5 hz5)
    | (refine w_run ?_ (ea_t5 (n := (k2 : Int)) (k := ky) rfl rfl rfl) ?_; (rfl))
    | (go_at_call 8; (with_reducible refine (cD _ HQ.out.below).mono ?_); rintro e w6 ⟨v, q, hv1, rfl, h9⟩; have HQ := Lib.hid (HQ.out.up h9); obtain ⟨g1, g2⟩ := vblk2 (w := w6) (Below.refl _ ((w6.alloc (.cells #[.slice none 0 0] 24)).alloc (.cells oz26 44))); have gB : Below w6.heap.size w6 ((w6.alloc (.cells #[.slice none 0 0] 24)).alloc (.cells oz26 44)) := vafter (vzero _ _); clear h9)
    | ((with_reducible refine t_store (cs := #[v]) rfl rfl rfl rfl g1 (hi1 _) ?_ (hc1x _ hv1) gB (Nat.le_refl _) ?_); (rfl); intro W7 hb7 hW7 hO7 hz7; have g3 := (hO7 (w6.heap.size + 1) (by omega)).trans g2; clear hO7 hz7)
    | ((with_reducible refine oq_store (q := q) rfl rfl rfl rfl g3 rfl hb7 (Nat.le_succ _) ?_); intro W8 hb8 hW8 hO8 hz8; have HQ := Lib.hid (HQ.out.up hb8); clear hW8 hO8 hz8 g3 hb7 g1 g2 gB hb8 hW7))
  have HR := Lib.hid (HKR.out _ HQ.out)
  clear cA cL cC cOf cD HKR HQ
  generalize w6.heap.size = gx at *
  generalize w4.heap.size = gy at *
  obtain ⟨N, hN⟩ : ∃ N, N = min L.length 40 := ⟨_, rfl⟩
  have HN := Lib.hid hN
  have hN1 : N ≤ L.length := by omega
  have hN2 : N ≤ 40 := by omega
  clear hN
  go_wp2
  go_loopg [15] N (fun kx s15 wr => ∃ i : Nat, s15 = .int .i64 i ∧ i + kx = N ∧ Hid (∃ A1 H1 c1, Kr w A1 H1 c1 k2 ky wr))
  case atStart => exact ⟨0, rfl, by omega, Lib.hid ⟨_, _, _, HR.out⟩⟩
  case round =>
    obtain ⟨i, rfl, hik, HC⟩ := hrel
    cases gk with
    | zero =>
      obtain ⟨A1, H1, c1, hK⟩ := HC.out
      have hB := hK.below
      clear HC hK HR
      by_cases hl40 : L.length ≤ 40
      · obtain rfl : i = L.length := by have := HN.out; omega
        clear HN hik hN1 hN2 hl40
        go_wp2
        go_ret
        exact ⟨rfl, hB⟩
      · obtain rfl : i = 40 := by have := HN.out; omega
        have hlz : (40 : Int) < (L.length : Int) := by omega
        clear HN hik hN1 hN2 hl40
        go_wp2
        go_ret
        exact ⟨rfl, hB⟩
    | succ kx =>
      obtain ⟨A1, H1, c1, hK⟩ := HC.out
      have hit : i < L.length := by omega
      have hlz : (i : Int) < (L.length : Int) := by omega
      have h40 : (i : Int) < 40 := by omega
      have hw1 : wrap64 ((i : Int) + 1) = (i : Int) + 1 := by unfold wrap64; omega
      obtain ⟨a3, rfl, hab, hrow⟩ := ra_at HLL.out.1 hit
      have hai := HLL.out.2 _ (List.getElem_mem hit)
      obtain ⟨ai, hai2⟩ : ∃ x, x = L[i] := ⟨_, rfl⟩
      rw [← hai2] at hrow hai
      have HROW : Hid (∀ W, Below w.heap.size w W → ∀ j u, (akA ai).toList[j]? = some u → W.cell? ((a3.add (i * 29)).add j) = some u) := Lib.hid fun W hb j u hu => (hb.cell (by rw [add_blk]; exact hab)).trans (hrow j u hu)
      have cDo := fun W (h : Kr w A1 H1 c1 k2 ky W) => h.dr hai HTAB.out
      have hlt1 := hK.lt
      obtain ⟨e1, he1⟩ : ∃ x, x = H1[k2] := ⟨_, rfl⟩
      have cT : ∀ W, Kr w A1 H1 c1 k2 ky W → Calls Tryz.prog 9 #[.agg #[.slice A1 H1.length c1], .int .i64 (k2 : Int), .agg #[.string ky.str, .int .i64 ky.sym]] W (ToldO e1 ky W) := fun W h => by
        rw [he1]
        exact h.told HKY.out.1 HKY.out.2 HTAB.out
      unfold ToldO at cT
      have HE := Lib.hid he1
      have HK := Lib.hid hK
      have hti : ∀ (sh : Bool) (p : Vq) (A : Option Addr) (n c : Nat) (f : Bool) (d : Dq), (Tryz.prog.info? 51).map (·.size) = some (tdA sh p A n c f d).size := fun _ _ _ _ _ _ _ => td_sz
      have hki : ∀ a : Ak, (Tryz.prog.info? 49).map (·.size) = some (akA a).size := fun _ => ask_sz
      clear hai2 hrow hai hab he1 hK HC HR
      go_upto_region 15 with (first
        | ((with_reducible refine h1_ld ?_ rfl rfl HK.out.h ?_); (rfl))
        | ((with_reducible refine kk_load ?_ rfl rfl HK.out.kb ?_); (rfl))
        | (go_at_call 9; (with_reducible refine (cT _ HK.out).mono ?_); rintro e w11 ⟨O1, L1, rfl, hO1, h9⟩; have HK := Lib.hid (HK.out.up h9); have HO1 := Lib.hid hO1; clear h9 hO1)
        | (refine t_store (cs := tdA (!e1.ext) e1.proto (some ⟨O1, 0, none⟩) L1.length L1.length (findT e1.props ky).isSome (fndD e1.props ky)) rfl rfl rfl rfl (heap_alloc_new w11 _) (hti _ _ _ _ _ _ _) rfl (td_one _ _ _ _ _ _ _) (vzero w11 _) (Nat.le_refl _) ?_; intro W12 hb12 hW12 hO12 hz12; have HK := Lib.hid (HK.out.up hb12); have HT1 := Lib.hid hW12; have HO1 := Lib.hid (And.intro HO1.out.1 (vblkn hb12 HO1.out.2)); clear hb12 hW12 hO12 hz12)
        | (refine aq_load ?_ rfl rfl (HROW.out _ HK.out.below) ?_; (rfl))
        | (refine t_store (cs := akA ai) rfl rfl rfl rfl (heap_alloc_new W12 _) (hki ai) rfl (akA_one ai) (vzero W12 _) (Nat.le_refl _) ?_; intro W13 hb13 hW13 hO13 hz13; have HK := Lib.hid (HK.out.up hb13); have HT1 := Lib.hid (vblkn hb13 HT1.out); have HO1 := Lib.hid (And.intro HO1.out.1 (vblkn hb13 HO1.out.2)); have HAK := Lib.hid hW13; clear hb13 hW13 hO13 hz13))
      generalize w11.heap.size = g16 at *
      generalize W12.heap.size = g17 at *
      go_upto_region 16 with (first
        | ((with_reducible refine h1_ld ?_ rfl rfl HK.out.h ?_); (rfl))
        | (refine aq_load ?_ rfl rfl (ak_of HAK.out) ?_; (rfl))
        | (go_at_call 8; (with_reducible refine (cDo _ HK.out).mono ?_); rintro e w14 ⟨v, q, E, rfl, hdr, h9⟩; have HK := Lib.hid (HK.out.up h9); have HT1 := Lib.hid (vblkn h9 HT1.out); have HO1 := Lib.hid (And.intro HO1.out.1 (vblkn h9 HO1.out.2)); have HAK := Lib.hid (vblkn h9 HAK.out); obtain ⟨g1, g2⟩ := vblk2 (w := w14) (Below.refl _ ((w14.alloc (.cells #[.slice none 0 0] 24)).alloc (.cells oz26 44))); have gB : Below w14.heap.size w14 ((w14.alloc (.cells #[.slice none 0 0] 24)).alloc (.cells oz26 44)) := vafter (vzero _ _); have HDR := Lib.hid hdr; have hv1 := hdr.one; clear h9 hdr)
        | ((with_reducible refine t_store (cs := #[v]) rfl rfl rfl rfl g1 (hi1 _) ?_ (hc1x _ hv1) gB (Nat.le_refl _) ?_); (rfl); intro W15 hb7 hW7 hO7 hz7; have g3 := (hO7 (w14.heap.size + 1) (by omega)).trans g2; clear hO7 hz7)
        | ((with_reducible refine oq_store (q := q) rfl rfl rfl rfl g3 rfl hb7 (Nat.le_succ _) ?_); intro W16 hb8 hW8 hO8 hz8; have HX18 := Lib.hid ((hO8 w14.heap.size (by omega)).trans hW7); have HX19 := Lib.hid hW8; have HK := Lib.hid (HK.out.up hb8); have HT1 := Lib.hid (vblkn hb8 HT1.out); have HO1 := Lib.hid (And.intro HO1.out.1 (vblkn hb8 HO1.out.2)); have HAK := Lib.hid (vblkn hb8 HAK.out); have HDR := Lib.hid (HDR.out.up hb8); clear hW8 hO8 hz8 g3 hb7 g1 g2 gB hb8 hW7))
      generalize w14.heap.size + 1 = g19 at *
      generalize w14.heap.size = g18 at *
      by_cases hE : E = 0
      · subst hE
        obtain ⟨B, M2, rfl, hl, h1, h2, hKe, hqk, hdo⟩ := HDR.out.ok rfl
        obtain ⟨e2, he2⟩ : ∃ x, x = M2[k2] := ⟨_, rfl⟩
        have hpl := HK.out.plain
        have cT2 : ∀ W, LeftH H1 B M2 W → Below w.heap.size w W → Calls Tryz.prog 9 #[.agg #[.slice (some ⟨B, 0, none⟩) H1.length H1.length], .int .i64 (k2 : Int), .agg #[.string ky.str, .int .i64 ky.sym]] W (ToldO e2 ky W) := fun W h hb => by
          have h3 := told_o (some ⟨B, 0, none⟩) M2 M2.length k2 ky W h.inn h.small h.may h2 (by rw [hKe.kind]; exact hpl) HKY.out.1 HKY.out.2 (tab_up HTAB.out hb)
          rw [h.len] at h3
          rw [he2]
          exact h3
        unfold ToldO at cT2
        have HL := Lib.hid hl
        have HKE : Hid (KeptL e1 e2 ky ∧ plainK e2.kind = true) := Lib.hid ⟨by rw [HE.out, he2]; exact hKe, by rw [he2, hKe.kind]; exact hpl⟩
        have HQK := Lib.hid hqk
        have HDO : Hid (ai.n = (k2 : Int) → ai.k = ky → q.b = true → (ai.m = 6 → (findT e2.props ky).isSome = true) ∧ (ai.m = 10 → (findT e2.props ky).isSome = false)) := Lib.hid (by rw [he2]; exact hdo)
        have HE2 := Lib.hid he2
        clear hKe hqk hdo he2 hpl hl HDR cDo cT hv1
        go_upto_region 18 with (first
          | ((with_reducible refine h1_ld ?_ rfl rfl HX18.out ?_); (rfl))
          | ((with_reducible refine kk_load ?_ rfl rfl HK.out.kb ?_); (rfl))
          | (go_at_call 9; (with_reducible refine (cT2 _ HL.out HK.out.below).mono ?_); rintro e w17 ⟨O2, L2, rfl, hO2, h9⟩; have HK := Lib.hid (HK.out.up h9); have HT1 := Lib.hid (vblkn h9 HT1.out); have HO1 := Lib.hid (And.intro HO1.out.1 (vblkn h9 HO1.out.2)); have HAK := Lib.hid (vblkn h9 HAK.out); have HX18 := Lib.hid (vblkn h9 HX18.out); have HX19 := Lib.hid (vblkn h9 HX19.out); have HL := Lib.hid (HL.out.up h9); have HO2 := Lib.hid hO2; clear h9 hO2)
          | (refine t_store (cs := tdA (!e2.ext) e2.proto (some ⟨O2, 0, none⟩) L2.length L2.length (findT e2.props ky).isSome (fndD e2.props ky)) rfl rfl rfl rfl (heap_alloc_new w17 _) (hti _ _ _ _ _ _ _) rfl (td_one _ _ _ _ _ _ _) (vzero w17 _) (Nat.le_refl _) ?_; intro W18 hb12 hW12 hO12 hz12; have HK := Lib.hid (HK.out.up hb12); have HT1 := Lib.hid (vblkn hb12 HT1.out); have HO1 := Lib.hid (And.intro HO1.out.1 (vblkn hb12 HO1.out.2)); have HAK := Lib.hid (vblkn hb12 HAK.out); have HX18 := Lib.hid (vblkn hb12 HX18.out); have HX19 := Lib.hid (vblkn hb12 HX19.out); have HL := Lib.hid (HL.out.up hb12); have HT2 := Lib.hid hW12; have HO2 := Lib.hid (And.intro HO2.out.1 (vblkn hb12 HO2.out.2)); clear hb12 hW12 hO12 hz12))
        generalize w17.heap.size = g21 at *
        have HFX := Lib.hid (fx_of (e1 := e1) (e2 := e2) HK.out.lt h2 HE.out HE2.out HK.out.may HL.out.may HK.out.inn.inn HL.out.inn.inn HK.out.small HL.out.small HKE.out.1 HO1.out.1 HO2.out.1 HQK.out HDO.out)
        have HPL := Lib.hid (show ∃ h : k2 < M2.length, plainK M2[k2].kind = true from ⟨h2, by rw [← HE2.out]; exact HKE.out.2⟩)
        have HR := Lib.hid (show Rd w A1 H1 c1 k2 ky ai q B M2 g16 g17 g18 g19 g21 (!e1.ext) e1.proto O1 L1 (findT e1.props ky).isSome (fndD e1.props ky) (!e2.ext) e2.proto O2 L2 (findT e2.props ky).isSome (fndD e2.props ky) _ from ⟨HK.out, HT1.out, HO1.out.2, HAK.out, HX18.out, HX19.out, HL.out, HT2.out, HO2.out.2⟩)
        clear HK HT1 HO1 HAK HX18 HX19 HL HT2 HO2 HKE HQK HDO HE HE2 cT2
        generalize Value.agg (tdA (!e1.ext) e1.proto (some ⟨O1, 0, none⟩) L1.length L1.length (findT e1.props ky).isSome (fndD e1.props ky)) = Y1 at *
        generalize Value.agg (tdA (!e2.ext) e2.proto (some ⟨O2, 0, none⟩) L2.length L2.length (findT e2.props ky).isSome (fndD e2.props ky)) = Y2 at *
        generalize (!e1.ext) = s1 at *
        generalize e1.proto = p1 at *
        generalize (findT e1.props ky).isSome = f1 at *
        generalize fndD e1.props ky = d1 at *
        generalize (!e2.ext) = s2 at *
        generalize e2.proto = p2 at *
        generalize (findT e2.props ky).isSome = f2 at *
        generalize fndD e2.props ky = d2 at *
        have cCk := fun V (h : Rd w A1 H1 c1 k2 ky ai q B M2 g16 g17 g18 g19 g21 s1 p1 O1 L1 f1 d1 s2 p2 O2 L2 f2 d2 V) => h.chk HTAB.out
        have cA2 := fun V (h : Rd w A1 H1 c1 k2 ky ai q B M2 g16 g17 g18 g19 g21 s1 p1 O1 L1 f1 d1 s2 p2 O2 L2 f2 d2 V) => h.amg HFX.out
        have HCK := Lib.hid cCk
        have HCA := Lib.hid cA2
        clear cCk cA2
        (try dsimp only [Act.put])
        go_cut [109] from 84 to 109 (fun qa wx => qa = .bool false ∧ Hid (Rd w A1 H1 c1 k2 ky ai q B M2 g16 g17 g18 g19 g21 s1 p1 O1 L1 f1 d1 s2 p2 O2 L2 f2 d2 wx))
        case first => as_aux_lemma =>
          have cCk := HCK.out
          have cA2 := HCA.out
          have hS := HR.out.up (Below.refl _ _).drew
          refine wp_region_held_drew (S := Rd w A1 H1 c1 k2 ky ai q B M2 g16 g17 g18 g19 g21 s1 p1 O1 L1 f1 d1 s2 p2 O2 L2 f2 d2) (by as_aux_lemma => kernel_rfl) hS (fun hHeld => ?_)
          clear HR
          rcases HFX.out.kind with hk | hk
          · clear HCK HCA
            refine hH_take (i := 0) (v := .agg #[.slice (some ⟨B, 0, none⟩) H1.length H1.length]) (d := 88) (l2 := #[true, false, false, false, false, false, false, false, false, false, false, false, false, false, false, false, false, false, false, false, false, false]) rfl (by as_aux_lemma => kernel_rfl) (by as_aux_lemma => kernel_rfl) (by as_aux_lemma => kernel_rfl) (fun _ _ _ h => h) (by as_aux_lemma => kernel_rfl) ?_ (by assumption) rfl (by as_aux_lemma => kernel_rfl) ?_
            · intro w hSw; exact ex_load_at (h1_load hSw.x) rfl rfl
            simp only [List.set]
            refine wpAnyH_ready (rs := [1]) (by as_aux_lemma => kernel_rfl) (by simp) ?_
            refine AllReadyH.cons rfl (fun K hK => ?_) AllReadyH.nil
            go_simp
            go_at_call 6
            (with_reducible refine (cCk _ hS).mono ?_)
            rintro e wc ⟨rfl, h1⟩
            have hS := hS.up h1
            clear h1
            refine hK.out _ _ hS (fun hHeld => ?_)
            clear hK K
            refine hH_take (i := 2) (v := .bool false) (d := 90) (l2 := #[true, true, true, false, false, false, false, false, false, false, false, false, false, false, false, false, false, false, false, false, false, false]) rfl (by as_aux_lemma => kernel_rfl) (by as_aux_lemma => kernel_rfl) (by as_aux_lemma => kernel_rfl) (fun _ _ _ h => h) (by as_aux_lemma => kernel_rfl) ?_ (by assumption) rfl (by as_aux_lemma => kernel_rfl) ?_
            · intro w hSw; go_simp; (try with_reducible rfl)
            simp only [List.set]
            refine hH_take (i := 3) (v := .bool false) (d := 91) (l2 := #[true, true, true, true, false, false, false, false, false, false, false, false, false, false, false, false, false, false, false, false, false, false]) rfl (by as_aux_lemma => kernel_rfl) (by as_aux_lemma => kernel_rfl) (by as_aux_lemma => kernel_rfl) (fun _ _ _ h => h) (by as_aux_lemma => kernel_rfl) ?_ (by assumption) rfl (by as_aux_lemma => kernel_rfl) ?_
            · intro w hSw; go_simp; (try with_reducible rfl)
            simp only [List.set]
            refine hH_take (i := 4) (v := .pointer (some ⟨g21, 5, none⟩)) (d := 92) (l2 := #[true, true, true, true, true, false, false, false, false, false, false, false, false, false, false, false, false, false, false, false, false, false]) rfl (by as_aux_lemma => kernel_rfl) (by as_aux_lemma => kernel_rfl) (by as_aux_lemma => kernel_rfl) (fun _ _ _ h => h) (by as_aux_lemma => kernel_rfl) ?_ (by assumption) rfl (by as_aux_lemma => kernel_rfl) ?_
            · intro w hSw; go_simp; (try with_reducible rfl)
            simp only [List.set]
            refine hH_take (i := 5) (v := .slice (some ⟨O2, 0, none⟩) L2.length L2.length) (d := 93) (l2 := #[true, true, true, true, true, true, false, false, false, false, false, false, false, false, false, false, false, false, false, false, false, false]) rfl (by as_aux_lemma => kernel_rfl) (by as_aux_lemma => kernel_rfl) (by as_aux_lemma => kernel_rfl) (fun _ _ _ h => h) (by as_aux_lemma => kernel_rfl) ?_ (by assumption) rfl (by as_aux_lemma => kernel_rfl) ?_
            · intro w hSw; exact ex_load_at (kp_keys hSw.t2 rfl) rfl rfl
            simp only [List.set]
            refine hH_take (i := 6) (v := .agg #[.string ky.str, .int .i64 ky.sym]) (d := 94) (l2 := #[true, true, true, true, true, true, true, false, false, false, false, false, false, false, false, false, false, false, false, false, false, false]) rfl (by as_aux_lemma => kernel_rfl) (by as_aux_lemma => kernel_rfl) (by as_aux_lemma => kernel_rfl) (fun _ _ _ h => h) (by as_aux_lemma => kernel_rfl) ?_ (by assumption) rfl (by as_aux_lemma => kernel_rfl) ?_
            · intro w hSw; exact ex_load_at (ky_ld hSw.kr.kb) rfl rfl
            simp only [List.set]
            refine hH_take (i := 8) (v := .pointer (some ⟨g21, 6, none⟩)) (d := 96) (l2 := #[true, true, true, true, true, true, true, false, true, false, false, false, false, false, false, false, false, false, false, false, false, false]) rfl (by as_aux_lemma => kernel_rfl) (by as_aux_lemma => kernel_rfl) (by as_aux_lemma => kernel_rfl) (fun _ _ _ h => h) (by as_aux_lemma => kernel_rfl) ?_ (by assumption) rfl (by as_aux_lemma => kernel_rfl) ?_
            · intro w hSw; go_simp; (try with_reducible rfl)
            simp only [List.set]
            refine hH_take (i := 9) (v := .bool f2) (d := 97) (l2 := #[true, true, true, true, true, true, true, false, true, true, false, false, false, false, false, false, false, false, false, false, false, false]) rfl (by as_aux_lemma => kernel_rfl) (by as_aux_lemma => kernel_rfl) (by as_aux_lemma => kernel_rfl) (fun _ _ _ h => h) (by as_aux_lemma => kernel_rfl) ?_ (by assumption) rfl (by as_aux_lemma => kernel_rfl) ?_
            · intro w hSw; exact ex_load_at (kp_bool hSw.t2 rfl) rfl rfl
            simp only [List.set]
            refine wpAnyH_ready (rs := [7]) (by as_aux_lemma => kernel_rfl) (by simp) ?_
            refine AllReadyH.cons rfl (fun K hK => ?_) AllReadyH.nil
            go_simp
            go_at_call 10
            (with_reducible refine (cA2 _ hS).mono ?_)
            rintro e wc ⟨rfl, h1⟩
            have hS := hS.up h1
            clear h1
            refine hK.out _ _ hS (fun hHeld => ?_)
            clear hK K
            refine hH_take (i := 10) (v := .bool false) (d := 98) (l2 := #[true, true, true, true, true, true, true, true, true, true, true, false, false, false, false, false, false, false, false, false, false, false]) rfl (by as_aux_lemma => kernel_rfl) (by as_aux_lemma => kernel_rfl) (by as_aux_lemma => kernel_rfl) (fun _ _ _ h => h) (by as_aux_lemma => kernel_rfl) ?_ (by assumption) rfl (by as_aux_lemma => kernel_rfl) ?_
            · intro w hSw; go_simp; (try with_reducible rfl)
            simp only [List.set]
            refine hH_take (i := 11) (v := .bool false) (d := 99) (l2 := #[true, true, true, true, true, true, true, true, true, true, true, true, false, false, false, false, false, false, false, false, false, false]) rfl (by as_aux_lemma => kernel_rfl) (by as_aux_lemma => kernel_rfl) (by as_aux_lemma => kernel_rfl) (fun _ _ _ h => h) (by as_aux_lemma => kernel_rfl) ?_ (by assumption) rfl (by as_aux_lemma => kernel_rfl) ?_
            · intro w hSw; go_simp; (try with_reducible rfl)
            simp only [List.set]
            refine hH_take (i := 12) (v := .bool false) (d := 100) (l2 := #[true, true, true, true, true, true, true, true, true, true, true, true, true, false, false, false, false, false, false, false, false, false]) rfl (by as_aux_lemma => kernel_rfl) (by as_aux_lemma => kernel_rfl) (by as_aux_lemma => kernel_rfl) (fun _ _ _ h => h) (by as_aux_lemma => kernel_rfl) ?_ (by assumption) rfl (by as_aux_lemma => kernel_rfl) ?_
            · intro w hSw; go_simp; (try with_reducible rfl)
            simp only [List.set]
            refine hH_take (i := 13) (v := .pointer (some ⟨g19, 0, none⟩)) (d := 101) (l2 := #[true, true, true, true, true, true, true, true, true, true, true, true, true, true, false, false, false, false, false, false, false, false]) rfl (by as_aux_lemma => kernel_rfl) (by as_aux_lemma => kernel_rfl) (by as_aux_lemma => kernel_rfl) (fun _ _ _ h => h) (by as_aux_lemma => kernel_rfl) ?_ (by assumption) rfl (by as_aux_lemma => kernel_rfl) ?_
            · intro w hSw; go_simp; (try with_reducible rfl)
            simp only [List.set]
            refine hH_take (i := 14) (v := .int .u8 1) (d := 102) (l2 := #[true, true, true, true, true, true, true, true, true, true, true, true, true, true, true, false, false, false, false, false, false, false]) rfl (by as_aux_lemma => kernel_rfl) (by as_aux_lemma => kernel_rfl) (by as_aux_lemma => kernel_rfl) (fun _ _ _ h => h) (by as_aux_lemma => kernel_rfl) ?_ (by assumption) rfl (by as_aux_lemma => kernel_rfl) ?_
            · intro w hSw; exact ex_load_at (kp_u8 hSw.out (by show some (Value.int .u8 q.kind) = _; rw [hk])) rfl rfl
            simp only [List.set]
            refine hH_take (i := 15) (v := .bool false) (d := 103) (l2 := #[true, true, true, true, true, true, true, true, true, true, true, true, true, true, true, true, false, false, false, false, false, false]) rfl (by as_aux_lemma => kernel_rfl) (by as_aux_lemma => kernel_rfl) (by as_aux_lemma => kernel_rfl) (fun _ _ _ h => h) (by as_aux_lemma => kernel_rfl) ?_ (by assumption) rfl (by as_aux_lemma => kernel_rfl) ?_
            · intro w hSw; go_simp; (try with_reducible rfl)
            simp only [List.set]
            refine hH_take (i := 16) (v := .bool false) (d := 104) (l2 := #[true, true, true, true, true, true, true, true, true, true, true, true, true, true, true, true, true, false, false, false, false, false]) rfl (by as_aux_lemma => kernel_rfl) (by as_aux_lemma => kernel_rfl) (by as_aux_lemma => kernel_rfl) (fun _ _ _ h => h) (by as_aux_lemma => kernel_rfl) ?_ (by assumption) rfl (by as_aux_lemma => kernel_rfl) ?_
            · intro w hSw; go_simp; (try with_reducible rfl)
            simp only [List.set]
            refine hH_drop (i := 17) (d := 105) (l2 := #[true, true, true, true, true, true, true, true, true, true, true, true, true, true, true, true, true, true, false, false, false, false]) rfl (by as_aux_lemma => kernel_rfl) (by as_aux_lemma => kernel_rfl) (by as_aux_lemma => kernel_rfl) (fun _ _ _ h => h) (by as_aux_lemma => kernel_rfl) (by assumption) rfl (by as_aux_lemma => kernel_rfl) ?_
            simp only [List.set]
            refine hH_drop (i := 18) (d := 106) (l2 := #[true, true, true, true, true, true, true, true, true, true, true, true, true, true, true, true, true, true, true, false, false, false]) rfl (by as_aux_lemma => kernel_rfl) (by as_aux_lemma => kernel_rfl) (by as_aux_lemma => kernel_rfl) (fun _ _ _ h => h) (by as_aux_lemma => kernel_rfl) (by assumption) rfl (by as_aux_lemma => kernel_rfl) ?_
            simp only [List.set]
            refine hH_drop (i := 19) (d := 107) (l2 := #[true, true, true, true, true, true, true, true, true, true, true, true, true, true, true, true, true, true, true, true, false, false]) rfl (by as_aux_lemma => kernel_rfl) (by as_aux_lemma => kernel_rfl) (by as_aux_lemma => kernel_rfl) (fun _ _ _ h => h) (by as_aux_lemma => kernel_rfl) (by assumption) rfl (by as_aux_lemma => kernel_rfl) ?_
            simp only [List.set]
            refine hH_take (i := 20) (v := .bool false) (d := 108) (l2 := #[true, true, true, true, true, true, true, true, true, true, true, true, true, true, true, true, true, true, true, true, true, false]) rfl (by as_aux_lemma => kernel_rfl) (by as_aux_lemma => kernel_rfl) (by as_aux_lemma => kernel_rfl) (fun _ _ _ h => h) (by as_aux_lemma => kernel_rfl) ?_ (by assumption) rfl (by as_aux_lemma => kernel_rfl) ?_
            · intro w hSw; go_simp; (try with_reducible rfl)
            simp only [List.set]
            refine hH_take (i := 21) (v := .bool false) (d := 109) (l2 := #[true, true, true, true, true, true, true, true, true, true, true, true, true, true, true, true, true, true, true, true, true, true]) rfl (by as_aux_lemma => kernel_rfl) (by as_aux_lemma => kernel_rfl) (by as_aux_lemma => kernel_rfl) (fun _ _ _ h => h) (by as_aux_lemma => kernel_rfl) ?_ (by assumption) rfl (by as_aux_lemma => kernel_rfl) ?_
            · intro w hSw; go_simp; (try with_reducible rfl)
            simp only [List.set]
            refine wpAnyH_done (by as_aux_lemma => kernel_rfl) ?_ _
            have HR := Lib.hid hS
            go_wp2
            go_meet
            exact ⟨rfl, HR⟩
          · clear HCK HCA
            refine hH_take (i := 0) (v := .agg #[.slice (some ⟨B, 0, none⟩) H1.length H1.length]) (d := 88) (l2 := #[true, false, false, false, false, false, false, false, false, false, false, false, false, false, false, false, false, false, false, false, false, false]) rfl (by as_aux_lemma => kernel_rfl) (by as_aux_lemma => kernel_rfl) (by as_aux_lemma => kernel_rfl) (fun _ _ _ h => h) (by as_aux_lemma => kernel_rfl) ?_ (by assumption) rfl (by as_aux_lemma => kernel_rfl) ?_
            · intro w hSw; exact ex_load_at (h1_load hSw.x) rfl rfl
            simp only [List.set]
            refine wpAnyH_ready (rs := [1]) (by as_aux_lemma => kernel_rfl) (by simp) ?_
            refine AllReadyH.cons rfl (fun K hK => ?_) AllReadyH.nil
            go_simp
            go_at_call 6
            (with_reducible refine (cCk _ hS).mono ?_)
            rintro e wc ⟨rfl, h1⟩
            have hS := hS.up h1
            clear h1
            refine hK.out _ _ hS (fun hHeld => ?_)
            clear hK K
            refine hH_take (i := 2) (v := .bool false) (d := 90) (l2 := #[true, true, true, false, false, false, false, false, false, false, false, false, false, false, false, false, false, false, false, false, false, false]) rfl (by as_aux_lemma => kernel_rfl) (by as_aux_lemma => kernel_rfl) (by as_aux_lemma => kernel_rfl) (fun _ _ _ h => h) (by as_aux_lemma => kernel_rfl) ?_ (by assumption) rfl (by as_aux_lemma => kernel_rfl) ?_
            · intro w hSw; go_simp; (try with_reducible rfl)
            simp only [List.set]
            refine hH_take (i := 3) (v := .bool false) (d := 91) (l2 := #[true, true, true, true, false, false, false, false, false, false, false, false, false, false, false, false, false, false, false, false, false, false]) rfl (by as_aux_lemma => kernel_rfl) (by as_aux_lemma => kernel_rfl) (by as_aux_lemma => kernel_rfl) (fun _ _ _ h => h) (by as_aux_lemma => kernel_rfl) ?_ (by assumption) rfl (by as_aux_lemma => kernel_rfl) ?_
            · intro w hSw; go_simp; (try with_reducible rfl)
            simp only [List.set]
            refine hH_take (i := 4) (v := .pointer (some ⟨g21, 5, none⟩)) (d := 92) (l2 := #[true, true, true, true, true, false, false, false, false, false, false, false, false, false, false, false, false, false, false, false, false, false]) rfl (by as_aux_lemma => kernel_rfl) (by as_aux_lemma => kernel_rfl) (by as_aux_lemma => kernel_rfl) (fun _ _ _ h => h) (by as_aux_lemma => kernel_rfl) ?_ (by assumption) rfl (by as_aux_lemma => kernel_rfl) ?_
            · intro w hSw; go_simp; (try with_reducible rfl)
            simp only [List.set]
            refine hH_take (i := 5) (v := .slice (some ⟨O2, 0, none⟩) L2.length L2.length) (d := 93) (l2 := #[true, true, true, true, true, true, false, false, false, false, false, false, false, false, false, false, false, false, false, false, false, false]) rfl (by as_aux_lemma => kernel_rfl) (by as_aux_lemma => kernel_rfl) (by as_aux_lemma => kernel_rfl) (fun _ _ _ h => h) (by as_aux_lemma => kernel_rfl) ?_ (by assumption) rfl (by as_aux_lemma => kernel_rfl) ?_
            · intro w hSw; exact ex_load_at (kp_keys hSw.t2 rfl) rfl rfl
            simp only [List.set]
            refine hH_take (i := 6) (v := .agg #[.string ky.str, .int .i64 ky.sym]) (d := 94) (l2 := #[true, true, true, true, true, true, true, false, false, false, false, false, false, false, false, false, false, false, false, false, false, false]) rfl (by as_aux_lemma => kernel_rfl) (by as_aux_lemma => kernel_rfl) (by as_aux_lemma => kernel_rfl) (fun _ _ _ h => h) (by as_aux_lemma => kernel_rfl) ?_ (by assumption) rfl (by as_aux_lemma => kernel_rfl) ?_
            · intro w hSw; exact ex_load_at (ky_ld hSw.kr.kb) rfl rfl
            simp only [List.set]
            refine hH_take (i := 8) (v := .pointer (some ⟨g21, 6, none⟩)) (d := 96) (l2 := #[true, true, true, true, true, true, true, false, true, false, false, false, false, false, false, false, false, false, false, false, false, false]) rfl (by as_aux_lemma => kernel_rfl) (by as_aux_lemma => kernel_rfl) (by as_aux_lemma => kernel_rfl) (fun _ _ _ h => h) (by as_aux_lemma => kernel_rfl) ?_ (by assumption) rfl (by as_aux_lemma => kernel_rfl) ?_
            · intro w hSw; go_simp; (try with_reducible rfl)
            simp only [List.set]
            refine hH_take (i := 9) (v := .bool f2) (d := 97) (l2 := #[true, true, true, true, true, true, true, false, true, true, false, false, false, false, false, false, false, false, false, false, false, false]) rfl (by as_aux_lemma => kernel_rfl) (by as_aux_lemma => kernel_rfl) (by as_aux_lemma => kernel_rfl) (fun _ _ _ h => h) (by as_aux_lemma => kernel_rfl) ?_ (by assumption) rfl (by as_aux_lemma => kernel_rfl) ?_
            · intro w hSw; exact ex_load_at (kp_bool hSw.t2 rfl) rfl rfl
            simp only [List.set]
            refine wpAnyH_ready (rs := [7]) (by as_aux_lemma => kernel_rfl) (by simp) ?_
            refine AllReadyH.cons rfl (fun K hK => ?_) AllReadyH.nil
            go_simp
            go_at_call 10
            (with_reducible refine (cA2 _ hS).mono ?_)
            rintro e wc ⟨rfl, h1⟩
            have hS := hS.up h1
            clear h1
            refine hK.out _ _ hS (fun hHeld => ?_)
            clear hK K
            refine hH_take (i := 10) (v := .bool false) (d := 98) (l2 := #[true, true, true, true, true, true, true, true, true, true, true, false, false, false, false, false, false, false, false, false, false, false]) rfl (by as_aux_lemma => kernel_rfl) (by as_aux_lemma => kernel_rfl) (by as_aux_lemma => kernel_rfl) (fun _ _ _ h => h) (by as_aux_lemma => kernel_rfl) ?_ (by assumption) rfl (by as_aux_lemma => kernel_rfl) ?_
            · intro w hSw; go_simp; (try with_reducible rfl)
            simp only [List.set]
            refine hH_take (i := 11) (v := .bool false) (d := 99) (l2 := #[true, true, true, true, true, true, true, true, true, true, true, true, false, false, false, false, false, false, false, false, false, false]) rfl (by as_aux_lemma => kernel_rfl) (by as_aux_lemma => kernel_rfl) (by as_aux_lemma => kernel_rfl) (fun _ _ _ h => h) (by as_aux_lemma => kernel_rfl) ?_ (by assumption) rfl (by as_aux_lemma => kernel_rfl) ?_
            · intro w hSw; go_simp; (try with_reducible rfl)
            simp only [List.set]
            refine hH_take (i := 12) (v := .bool false) (d := 100) (l2 := #[true, true, true, true, true, true, true, true, true, true, true, true, true, false, false, false, false, false, false, false, false, false]) rfl (by as_aux_lemma => kernel_rfl) (by as_aux_lemma => kernel_rfl) (by as_aux_lemma => kernel_rfl) (fun _ _ _ h => h) (by as_aux_lemma => kernel_rfl) ?_ (by assumption) rfl (by as_aux_lemma => kernel_rfl) ?_
            · intro w hSw; go_simp; (try with_reducible rfl)
            simp only [List.set]
            refine hH_take (i := 13) (v := .pointer (some ⟨g19, 0, none⟩)) (d := 101) (l2 := #[true, true, true, true, true, true, true, true, true, true, true, true, true, true, false, false, false, false, false, false, false, false]) rfl (by as_aux_lemma => kernel_rfl) (by as_aux_lemma => kernel_rfl) (by as_aux_lemma => kernel_rfl) (fun _ _ _ h => h) (by as_aux_lemma => kernel_rfl) ?_ (by assumption) rfl (by as_aux_lemma => kernel_rfl) ?_
            · intro w hSw; go_simp; (try with_reducible rfl)
            simp only [List.set]
            refine hH_take (i := 14) (v := .int .u8 3) (d := 102) (l2 := #[true, true, true, true, true, true, true, true, true, true, true, true, true, true, true, false, false, false, false, false, false, false]) rfl (by as_aux_lemma => kernel_rfl) (by as_aux_lemma => kernel_rfl) (by as_aux_lemma => kernel_rfl) (fun _ _ _ h => h) (by as_aux_lemma => kernel_rfl) ?_ (by assumption) rfl (by as_aux_lemma => kernel_rfl) ?_
            · intro w hSw; exact ex_load_at (kp_u8 hSw.out (by show some (Value.int .u8 q.kind) = _; rw [hk])) rfl rfl
            simp only [List.set]
            refine hH_take (i := 15) (v := .bool true) (d := 103) (l2 := #[true, true, true, true, true, true, true, true, true, true, true, true, true, true, true, true, false, false, false, false, false, false]) rfl (by as_aux_lemma => kernel_rfl) (by as_aux_lemma => kernel_rfl) (by as_aux_lemma => kernel_rfl) (fun _ _ _ h => h) (by as_aux_lemma => kernel_rfl) ?_ (by assumption) rfl (by as_aux_lemma => kernel_rfl) ?_
            · intro w hSw; go_simp; (try with_reducible rfl)
            simp only [List.set]
            refine hH_take (i := 16) (v := .bool true) (d := 104) (l2 := #[true, true, true, true, true, true, true, true, true, true, true, true, true, true, true, true, true, false, false, false, false, false]) rfl (by as_aux_lemma => kernel_rfl) (by as_aux_lemma => kernel_rfl) (by as_aux_lemma => kernel_rfl) (fun _ _ _ h => h) (by as_aux_lemma => kernel_rfl) ?_ (by assumption) rfl (by as_aux_lemma => kernel_rfl) ?_
            · intro w hSw; go_simp; (try with_reducible rfl)
            simp only [List.set]
            refine hH_take (i := 17) (v := .pointer (some ⟨g19, 0, none⟩)) (d := 105) (l2 := #[true, true, true, true, true, true, true, true, true, true, true, true, true, true, true, true, true, true, false, false, false, false]) rfl (by as_aux_lemma => kernel_rfl) (by as_aux_lemma => kernel_rfl) (by as_aux_lemma => kernel_rfl) (fun _ _ _ h => h) (by as_aux_lemma => kernel_rfl) ?_ (by assumption) rfl (by as_aux_lemma => kernel_rfl) ?_
            · intro w hSw; go_simp; (try with_reducible rfl)
            simp only [List.set]
            refine hH_take (i := 18) (v := .int .u8 3) (d := 106) (l2 := #[true, true, true, true, true, true, true, true, true, true, true, true, true, true, true, true, true, true, true, false, false, false]) rfl (by as_aux_lemma => kernel_rfl) (by as_aux_lemma => kernel_rfl) (by as_aux_lemma => kernel_rfl) (fun _ _ _ h => h) (by as_aux_lemma => kernel_rfl) ?_ (by assumption) rfl (by as_aux_lemma => kernel_rfl) ?_
            · intro w hSw; exact ex_load_at (kp_u8 hSw.out (by show some (Value.int .u8 q.kind) = _; rw [hk])) rfl rfl
            simp only [List.set]
            refine hH_take (i := 19) (v := .bool false) (d := 107) (l2 := #[true, true, true, true, true, true, true, true, true, true, true, true, true, true, true, true, true, true, true, true, false, false]) rfl (by as_aux_lemma => kernel_rfl) (by as_aux_lemma => kernel_rfl) (by as_aux_lemma => kernel_rfl) (fun _ _ _ h => h) (by as_aux_lemma => kernel_rfl) ?_ (by assumption) rfl (by as_aux_lemma => kernel_rfl) ?_
            · intro w hSw; go_simp; (try with_reducible rfl)
            simp only [List.set]
            refine hH_take (i := 20) (v := .bool false) (d := 108) (l2 := #[true, true, true, true, true, true, true, true, true, true, true, true, true, true, true, true, true, true, true, true, true, false]) rfl (by as_aux_lemma => kernel_rfl) (by as_aux_lemma => kernel_rfl) (by as_aux_lemma => kernel_rfl) (fun _ _ _ h => h) (by as_aux_lemma => kernel_rfl) ?_ (by assumption) rfl (by as_aux_lemma => kernel_rfl) ?_
            · intro w hSw; go_simp; (try with_reducible rfl)
            simp only [List.set]
            refine hH_take (i := 21) (v := .bool false) (d := 109) (l2 := #[true, true, true, true, true, true, true, true, true, true, true, true, true, true, true, true, true, true, true, true, true, true]) rfl (by as_aux_lemma => kernel_rfl) (by as_aux_lemma => kernel_rfl) (by as_aux_lemma => kernel_rfl) (fun _ _ _ h => h) (by as_aux_lemma => kernel_rfl) ?_ (by assumption) rfl (by as_aux_lemma => kernel_rfl) ?_
            · intro w hSw; go_simp; (try with_reducible rfl)
            simp only [List.set]
            refine wpAnyH_done (by as_aux_lemma => kernel_rfl) ?_ _
            have HR := Lib.hid hS
            go_wp2
            go_meet
            exact ⟨rfl, HR⟩
        case rest =>
          obtain ⟨rfl, HR⟩ := hcut
          clear HCK HCA
          go_upto_region 20 with (fail)
          (try dsimp only [Act.put])
          go_cut [124] from 110 to 124 (fun qa wx => qa = .bool false ∧ Hid (Rd w A1 H1 c1 k2 ky ai q B M2 g16 g17 g18 g19 g21 s1 p1 O1 L1 f1 d1 s2 p2 O2 L2 f2 d2 wx))
          case first => as_aux_lemma =>
            by_cases hs : s1 = true
            · have hs2 := (HFX.out.shut hs).1
              have cS := fun W => HFX.out.same hs W
              go_wp2_with (first
                | ((with_reducible refine kb_l2 ?_ rfl rfl HR.out.t1 ?_); (rfl); refine ⟨_, rfl, ?_⟩)
                | ((with_reducible refine kb_l2 ?_ rfl rfl HR.out.t2 ?_); (rfl); refine ⟨_, rfl, ?_⟩)
                | ((with_reducible refine kp_arm ?_ rfl rfl (td_v HR.out.t1) ?_); (rfl))
                | ((with_reducible refine kp_arm ?_ rfl rfl (td_v HR.out.t2) ?_); (rfl))
                | (go_at_call 11; (with_reducible refine (cS _).mono ?_); rintro e wd ⟨rfl, h9⟩; have HR := Lib.hid (HR.out.up h9); clear h9))
              go_meet
              exact ⟨rfl, HR⟩
            · have hs : s1 = false := eq_false_of_ne_true hs
              go_wp2_with (first
                | ((with_reducible refine kb_l2 ?_ rfl rfl HR.out.t1 ?_); (rfl); refine ⟨_, rfl, ?_⟩)
                | ((with_reducible refine kb_l2 ?_ rfl rfl HR.out.t2 ?_); (rfl); refine ⟨_, rfl, ?_⟩))
              go_meet
              exact ⟨rfl, HR⟩
          case rest =>
            obtain ⟨rfl, HR⟩ := hcut
            go_wp2
            go_loopg [22] L2.length (fun kj s22 wr => ∃ j : Nat, s22 = .int .i64 j ∧ j + kj = L2.length ∧ Hid (Rd w A1 H1 c1 k2 ky ai q B M2 g16 g17 g18 g19 g21 s1 p1 O1 L1 f1 d1 s2 p2 O2 L2 f2 d2 wr))
            case atStart => exact ⟨0, rfl, by omega, HR⟩
            case round =>
              clear HR
              obtain ⟨j, rfl, hjk, HC⟩ := hrel
              cases gk with
              | succ kj =>
                have hjt : j < L2.length := by omega
                have hjz : (j : Int) < (L2.length : Int) := by omega
                have hj0 : (0 : Int) ≤ (j : Int) := by omega
                have hjw : wrap64 ((j : Int) + 1) = (j : Int) + 1 := by have := HFX.out.n2; unfold wrap64; omega
                have HR := Lib.hid HC.out
                clear HC
                go_upto_region 25 with (((with_reducible refine kk_l2 ?_ rfl rfl HR.out.t2 ?_); (rfl); refine ⟨_, _, _, rfl, ?_⟩))
                (try dsimp only [Act.put])
                by_cases hs : s1 = true
                · have cP := fun V (h : Rd w A1 H1 c1 k2 ky ai q B M2 g16 g17 g18 g19 g21 s1 p1 O1 L1 f1 d1 s2 p2 O2 L2 f2 d2 V) => h.key hjt
                  have cA1 := fun V (h : Rd w A1 H1 c1 k2 ky ai q B M2 g16 g17 g18 g19 g21 s1 p1 O1 L1 f1 d1 s2 p2 O2 L2 f2 d2 V) => h.old HFX.out hs hjt
                  generalize L2[j] = P at *
                  have hS := HR.out.up (Below.refl _ _).drew
                  refine wp_region_held_drew (S := Rd w A1 H1 c1 k2 ky ai q B M2 g16 g17 g18 g19 g21 s1 p1 O1 L1 f1 d1 s2 p2 O2 L2 f2 d2) (by as_aux_lemma => kernel_rfl) hS (fun hHeld => ?_)
                  clear HR
                  refine hH_take (i := 0) (v := .pointer (some ⟨g16, 0, none⟩)) (d := 132) (l2 := #[true, false, false, false, false, false, false, false, false, false, false, false, false]) rfl (by as_aux_lemma => kernel_rfl) (by as_aux_lemma => kernel_rfl) (by as_aux_lemma => kernel_rfl) (fun _ _ _ h => h) (by as_aux_lemma => kernel_rfl) ?_ (by assumption) rfl (by as_aux_lemma => kernel_rfl) ?_
                  · intro w hSw; go_simp; (try with_reducible rfl)
                  simp only [List.set]
                  refine hH_take (i := 1) (v := .bool true) (d := 133) (l2 := #[true, true, false, false, false, false, false, false, false, false, false, false, false]) rfl (by as_aux_lemma => kernel_rfl) (by as_aux_lemma => kernel_rfl) (by as_aux_lemma => kernel_rfl) (fun _ _ _ h => h) (by as_aux_lemma => kernel_rfl) ?_ (by assumption) rfl (by as_aux_lemma => kernel_rfl) ?_
                  · intro w hSw; exact ex_load_at (kp_bool (b := true) hSw.t1 (by show some (Value.bool s1) = _; rw [hs])) rfl rfl
                  simp only [List.set]
                  refine hH_take (i := 2) (v := .bool true) (d := 134) (l2 := #[true, true, true, false, false, false, false, false, false, false, false, false, false]) rfl (by as_aux_lemma => kernel_rfl) (by as_aux_lemma => kernel_rfl) (by as_aux_lemma => kernel_rfl) (fun _ _ _ h => h) (by as_aux_lemma => kernel_rfl) ?_ (by assumption) rfl (by as_aux_lemma => kernel_rfl) ?_
                  · intro w hSw; go_simp; (try with_reducible rfl)
                  simp only [List.set]
                  refine hH_take (i := 3) (v := .pointer (some ⟨g16, 5, none⟩)) (d := 135) (l2 := #[true, true, true, true, false, false, false, false, false, false, false, false, false]) rfl (by as_aux_lemma => kernel_rfl) (by as_aux_lemma => kernel_rfl) (by as_aux_lemma => kernel_rfl) (fun _ _ _ h => h) (by as_aux_lemma => kernel_rfl) ?_ (by assumption) rfl (by as_aux_lemma => kernel_rfl) ?_
                  · intro w hSw; go_simp; (try with_reducible rfl)
                  simp only [List.set]
                  refine hH_take (i := 4) (v := .slice (some ⟨O1, 0, none⟩) L1.length L1.length) (d := 136) (l2 := #[true, true, true, true, true, false, false, false, false, false, false, false, false]) rfl (by as_aux_lemma => kernel_rfl) (by as_aux_lemma => kernel_rfl) (by as_aux_lemma => kernel_rfl) (fun _ _ _ h => h) (by as_aux_lemma => kernel_rfl) ?_ (by assumption) rfl (by as_aux_lemma => kernel_rfl) ?_
                  · intro w hSw; exact ex_load_at (kp_keys hSw.t1 rfl) rfl rfl
                  simp only [List.set]
                  refine hH_take (i := 5) (v := .pointer (some ⟨g21, 5, none⟩)) (d := 137) (l2 := #[true, true, true, true, true, true, false, false, false, false, false, false, false]) rfl (by as_aux_lemma => kernel_rfl) (by as_aux_lemma => kernel_rfl) (by as_aux_lemma => kernel_rfl) (fun _ _ _ h => h) (by as_aux_lemma => kernel_rfl) ?_ (by assumption) rfl (by as_aux_lemma => kernel_rfl) ?_
                  · intro w hSw; go_simp; (try with_reducible rfl)
                  simp only [List.set]
                  refine hH_take (i := 6) (v := .slice (some ⟨O2, 0, none⟩) L2.length L2.length) (d := 138) (l2 := #[true, true, true, true, true, true, true, false, false, false, false, false, false]) rfl (by as_aux_lemma => kernel_rfl) (by as_aux_lemma => kernel_rfl) (by as_aux_lemma => kernel_rfl) (fun _ _ _ h => h) (by as_aux_lemma => kernel_rfl) ?_ (by assumption) rfl (by as_aux_lemma => kernel_rfl) ?_
                  · intro w hSw; exact ex_load_at (kp_keys hSw.t2 rfl) rfl rfl
                  simp only [List.set]
                  refine hH_take (i := 7) (v := .int .i64 (j : Int)) (d := 139) (l2 := #[true, true, true, true, true, true, true, true, false, false, false, false, false]) rfl (by as_aux_lemma => kernel_rfl) (by as_aux_lemma => kernel_rfl) (by as_aux_lemma => kernel_rfl) (fun _ _ _ h => h) (by as_aux_lemma => kernel_rfl) ?_ (by assumption) rfl (by as_aux_lemma => kernel_rfl) ?_
                  · intro w hSw; go_simp; (try with_reducible rfl)
                  simp only [List.set]
                  refine hH_take (i := 8) (v := .pointer (some ⟨O2, j * 2, none⟩)) (d := 140) (l2 := #[true, true, true, true, true, true, true, true, true, false, false, false, false]) rfl (by as_aux_lemma => kernel_rfl) (by as_aux_lemma => kernel_rfl) (by as_aux_lemma => kernel_rfl) (fun _ _ _ h => h) (by as_aux_lemma => kernel_rfl) ?_ (by assumption) rfl (by as_aux_lemma => kernel_rfl) ?_
                  · intro w hSw; go_simp; (try with_reducible rfl)
                  simp only [List.set]
                  refine hH_take (i := 9) (v := .agg #[.string P.str, .int .i64 P.sym]) (d := 141) (l2 := #[true, true, true, true, true, true, true, true, true, true, false, false, false]) rfl (by as_aux_lemma => kernel_rfl) (by as_aux_lemma => kernel_rfl) (by as_aux_lemma => kernel_rfl) (fun _ _ _ h => h) (by as_aux_lemma => kernel_rfl) ?_ (by assumption) rfl (by as_aux_lemma => kernel_rfl) ?_
                  · intro w hSw; exact ex_load_at (cP _ hSw) rfl rfl
                  simp only [List.set]
                  refine wpAnyH_ready (rs := [10]) (by as_aux_lemma => kernel_rfl) (by simp) ?_
                  refine AllReadyH.cons rfl (fun K hK => ?_) AllReadyH.nil
                  go_simp
                  go_at_call 10
                  (with_reducible refine (cA1 _ hS).mono ?_)
                  rintro e wc ⟨rfl, h1⟩
                  have hS := hS.up h1
                  clear h1
                  refine hK.out _ _ hS (fun hHeld => ?_)
                  clear hK K
                  refine hH_take (i := 11) (v := .bool false) (d := 143) (l2 := #[true, true, true, true, true, true, true, true, true, true, true, true, false]) rfl (by as_aux_lemma => kernel_rfl) (by as_aux_lemma => kernel_rfl) (by as_aux_lemma => kernel_rfl) (fun _ _ _ h => h) (by as_aux_lemma => kernel_rfl) ?_ (by assumption) rfl (by as_aux_lemma => kernel_rfl) ?_
                  · intro w hSw; go_simp; (try with_reducible rfl)
                  simp only [List.set]
                  refine hH_take (i := 12) (v := .bool false) (d := 144) (l2 := #[true, true, true, true, true, true, true, true, true, true, true, true, true]) rfl (by as_aux_lemma => kernel_rfl) (by as_aux_lemma => kernel_rfl) (by as_aux_lemma => kernel_rfl) (fun _ _ _ h => h) (by as_aux_lemma => kernel_rfl) ?_ (by assumption) rfl (by as_aux_lemma => kernel_rfl) ?_
                  · intro w hSw; go_simp; (try with_reducible rfl)
                  simp only [List.set]
                  refine wpAnyH_done (by as_aux_lemma => kernel_rfl) ?_ _
                  have HR := Lib.hid hS
                  go_wp2
                  go_roundg kj
                  case measure => omega
                  case rel => exact ⟨j + 1, by congr 1, by omega, HR⟩
                · have hs : s1 = false := eq_false_of_ne_true hs
                  have hS := HR.out.up (Below.refl _ _).drew
                  refine wp_region_held_drew (S := Rd w A1 H1 c1 k2 ky ai q B M2 g16 g17 g18 g19 g21 s1 p1 O1 L1 f1 d1 s2 p2 O2 L2 f2 d2) (by as_aux_lemma => kernel_rfl) hS (fun hHeld => ?_)
                  clear HR
                  refine hH_take (i := 0) (v := .pointer (some ⟨g16, 0, none⟩)) (d := 132) (l2 := #[true, false, false, false, false, false, false, false, false, false, false, false, false]) rfl (by as_aux_lemma => kernel_rfl) (by as_aux_lemma => kernel_rfl) (by as_aux_lemma => kernel_rfl) (fun _ _ _ h => h) (by as_aux_lemma => kernel_rfl) ?_ (by assumption) rfl (by as_aux_lemma => kernel_rfl) ?_
                  · intro w hSw; go_simp; (try with_reducible rfl)
                  simp only [List.set]
                  refine hH_take (i := 1) (v := .bool false) (d := 133) (l2 := #[true, true, false, false, false, false, false, false, false, false, false, false, false]) rfl (by as_aux_lemma => kernel_rfl) (by as_aux_lemma => kernel_rfl) (by as_aux_lemma => kernel_rfl) (fun _ _ _ h => h) (by as_aux_lemma => kernel_rfl) ?_ (by assumption) rfl (by as_aux_lemma => kernel_rfl) ?_
                  · intro w hSw; exact ex_load_at (kp_bool (b := false) hSw.t1 (by show some (Value.bool s1) = _; rw [hs])) rfl rfl
                  simp only [List.set]
                  refine hH_take (i := 2) (v := .bool false) (d := 134) (l2 := #[true, true, true, false, false, false, false, false, false, false, false, false, false]) rfl (by as_aux_lemma => kernel_rfl) (by as_aux_lemma => kernel_rfl) (by as_aux_lemma => kernel_rfl) (fun _ _ _ h => h) (by as_aux_lemma => kernel_rfl) ?_ (by assumption) rfl (by as_aux_lemma => kernel_rfl) ?_
                  · intro w hSw; go_simp; (try with_reducible rfl)
                  simp only [List.set]
                  refine hH_drop (i := 3) (d := 135) (l2 := #[true, true, true, true, false, false, false, false, false, false, false, false, false]) rfl (by as_aux_lemma => kernel_rfl) (by as_aux_lemma => kernel_rfl) (by as_aux_lemma => kernel_rfl) (fun _ _ _ h => h) (by as_aux_lemma => kernel_rfl) (by assumption) rfl (by as_aux_lemma => kernel_rfl) ?_
                  simp only [List.set]
                  refine hH_drop (i := 4) (d := 136) (l2 := #[true, true, true, true, true, false, false, false, false, false, false, false, false]) rfl (by as_aux_lemma => kernel_rfl) (by as_aux_lemma => kernel_rfl) (by as_aux_lemma => kernel_rfl) (fun _ _ _ h => h) (by as_aux_lemma => kernel_rfl) (by assumption) rfl (by as_aux_lemma => kernel_rfl) ?_
                  simp only [List.set]
                  refine hH_drop (i := 5) (d := 137) (l2 := #[true, true, true, true, true, true, false, false, false, false, false, false, false]) rfl (by as_aux_lemma => kernel_rfl) (by as_aux_lemma => kernel_rfl) (by as_aux_lemma => kernel_rfl) (fun _ _ _ h => h) (by as_aux_lemma => kernel_rfl) (by assumption) rfl (by as_aux_lemma => kernel_rfl) ?_
                  simp only [List.set]
                  refine hH_drop (i := 6) (d := 138) (l2 := #[true, true, true, true, true, true, true, false, false, false, false, false, false]) rfl (by as_aux_lemma => kernel_rfl) (by as_aux_lemma => kernel_rfl) (by as_aux_lemma => kernel_rfl) (fun _ _ _ h => h) (by as_aux_lemma => kernel_rfl) (by assumption) rfl (by as_aux_lemma => kernel_rfl) ?_
                  simp only [List.set]
                  refine hH_drop (i := 7) (d := 139) (l2 := #[true, true, true, true, true, true, true, true, false, false, false, false, false]) rfl (by as_aux_lemma => kernel_rfl) (by as_aux_lemma => kernel_rfl) (by as_aux_lemma => kernel_rfl) (fun _ _ _ h => h) (by as_aux_lemma => kernel_rfl) (by assumption) rfl (by as_aux_lemma => kernel_rfl) ?_
                  simp only [List.set]
                  refine hH_drop (i := 8) (d := 140) (l2 := #[true, true, true, true, true, true, true, true, true, false, false, false, false]) rfl (by as_aux_lemma => kernel_rfl) (by as_aux_lemma => kernel_rfl) (by as_aux_lemma => kernel_rfl) (fun _ _ _ h => h) (by as_aux_lemma => kernel_rfl) (by assumption) rfl (by as_aux_lemma => kernel_rfl) ?_
                  simp only [List.set]
                  refine hH_drop (i := 9) (d := 141) (l2 := #[true, true, true, true, true, true, true, true, true, true, false, false, false]) rfl (by as_aux_lemma => kernel_rfl) (by as_aux_lemma => kernel_rfl) (by as_aux_lemma => kernel_rfl) (fun _ _ _ h => h) (by as_aux_lemma => kernel_rfl) (by assumption) rfl (by as_aux_lemma => kernel_rfl) ?_
                  simp only [List.set]
                  refine hH_drop (i := 10) (d := 142) (l2 := #[true, true, true, true, true, true, true, true, true, true, true, false, false]) rfl (by as_aux_lemma => kernel_rfl) (by as_aux_lemma => kernel_rfl) (by as_aux_lemma => kernel_rfl) (fun _ _ _ h => h) (by as_aux_lemma => kernel_rfl) (by assumption) rfl (by as_aux_lemma => kernel_rfl) ?_
                  simp only [List.set]
                  refine hH_drop (i := 11) (d := 143) (l2 := #[true, true, true, true, true, true, true, true, true, true, true, true, false]) rfl (by as_aux_lemma => kernel_rfl) (by as_aux_lemma => kernel_rfl) (by as_aux_lemma => kernel_rfl) (fun _ _ _ h => h) (by as_aux_lemma => kernel_rfl) (by assumption) rfl (by as_aux_lemma => kernel_rfl) ?_
                  simp only [List.set]
                  refine hH_take (i := 12) (v := .bool false) (d := 144) (l2 := #[true, true, true, true, true, true, true, true, true, true, true, true, true]) rfl (by as_aux_lemma => kernel_rfl) (by as_aux_lemma => kernel_rfl) (by as_aux_lemma => kernel_rfl) (fun _ _ _ h => h) (by as_aux_lemma => kernel_rfl) ?_ (by assumption) rfl (by as_aux_lemma => kernel_rfl) ?_
                  · intro w hSw; go_simp; (try with_reducible rfl)
                  simp only [List.set]
                  refine wpAnyH_done (by as_aux_lemma => kernel_rfl) ?_ _
                  have HR := Lib.hid hS
                  go_wp2
                  go_roundg kj
                  case measure => omega
                  case rel => exact ⟨j + 1, by congr 1, by omega, HR⟩
              | zero =>
                obtain rfl : j = L2.length := by omega
                have HR := Lib.hid HC.out
                clear HC hjk
                go_upto_region 27 with (((with_reducible refine kk_l2 ?_ rfl rfl HR.out.t2 ?_); (rfl); refine ⟨_, _, _, rfl, ?_⟩))
                (try dsimp only [Act.put])
                obtain ⟨FZ, hFZ⟩ : ∃ x, x = (f1 && !d1.z) := ⟨_, rfl⟩
                have HFZ := Lib.hid hFZ
                clear hFZ
                go_cut [152] from 145 to 152 (fun qa wx => qa = .bool FZ ∧ Hid (Rd w A1 H1 c1 k2 ky ai q B M2 g16 g17 g18 g19 g21 s1 p1 O1 L1 f1 d1 s2 p2 O2 L2 f2 d2 wx))
                case first => as_aux_lemma =>
                  by_cases hf : f1 = true
                  · by_cases hz : d1.z = true
                    · go_wp2_with (((with_reducible refine kb_l2 ?_ rfl rfl HR.out.t1 ?_); (rfl); refine ⟨_, rfl, ?_⟩))
                      go_meet
                      exact ⟨by rw [HFZ.out, hf, hz]; rfl, HR⟩
                    · have hz := eq_false_of_ne_true hz
                      go_wp2_with (((with_reducible refine kb_l2 ?_ rfl rfl HR.out.t1 ?_); (rfl); refine ⟨_, rfl, ?_⟩))
                      go_meet
                      exact ⟨by rw [HFZ.out, hf, hz]; rfl, HR⟩
                  · have hf := eq_false_of_ne_true hf
                    go_wp2_with (((with_reducible refine kb_l2 ?_ rfl rfl HR.out.t1 ?_); (rfl); refine ⟨_, rfl, ?_⟩))
                    go_meet
                    exact ⟨by rw [HFZ.out, hf]; rfl, HR⟩
                case rest =>
                  obtain ⟨rfl, HR⟩ := hcut
                  go_upto_if 152 with (fail)
                  go_cut [23] from 153 to 215 (fun q23 wx => Hid (Rd w A1 H1 c1 k2 ky ai q B M2 g16 g17 g18 g19 g21 s1 p1 O1 L1 f1 d1 s2 p2 O2 L2 f2 d2 wx))
                  case first => as_aux_lemma =>
                    cases FZ with
                    | true =>
                      have hfz := HFZ.out.symm
                      rw [Bool.and_eq_true, Bool.not_eq_true'] at hfz
                      obtain ⟨hf, hz⟩ := hfz
                      have HFN := Lib.hid (And.intro hf hz)
                      clear hf hz
                      obtain ⟨DD, hDD⟩ : ∃ x, x = hasB d1.h 3 := ⟨_, rfl⟩
                      have cI1 : ∀ W, Calls Tryz.prog 12 #[.agg d1.cells] W fun e w' => e = .returned (.bool DD) ∧ Below W.heap.size W w' := fun W => by
                        rw [hDD]
                        exact IsData_q d1 W
                      have HDD := Lib.hid hDD
                      clear hDD
                      go_upto_region 29 with (first
                        | ((with_reducible refine kb_l2 ?_ rfl rfl HR.out.t1 ?_); (rfl); refine ⟨_, rfl, ?_⟩)
                        | ((with_reducible refine kp_arm ?_ rfl rfl (td_d HR.out.t1) ?_); (rfl))
                        | (go_at_call 12; (with_reducible refine (cI1 _).mono ?_); rintro e wd ⟨rfl, h9⟩; have HR := Lib.hid (HR.out.up h9); clear h9))
                      (try dsimp only [Act.put])
                      go_cut [215] from 156 to 215 (fun qa wx => qa = .bool false ∧ Hid (Rd w A1 H1 c1 k2 ky ai q B M2 g16 g17 g18 g19 g21 s1 p1 O1 L1 f1 d1 s2 p2 O2 L2 f2 d2 wx))
                      case first => as_aux_lemma =>
                        obtain ⟨hf2, hst⟩ := HFX.out.old HFN.out.1 HFN.out.2
                        have cI2 : ∀ W, Calls Tryz.prog 12 #[.agg d2.cells] W fun e w' => e = .returned (.bool DD) ∧ Below W.heap.size W w' := fun W => by
                          have h3 := IsData_q d2 W
                          rw [hst.data, ← HDD.out] at h3
                          exact h3
                        have hz2 := hst.z
                        have hq2 : d2.q = d1.q := hst.q
                        clear hst
                        cases DD with
                        | true =>
                          cases hp : d1.p with
                          | true =>
                            go_wp2_with (first
                              | ((with_reducible refine kb_l2 ?_ rfl rfl HR.out.t1 ?_); (rfl); refine ⟨_, rfl, ?_⟩)
                              | ((with_reducible refine kb_l2 ?_ rfl rfl HR.out.t2 ?_); (rfl); refine ⟨_, rfl, ?_⟩)
                              | ((with_reducible refine kp_arm ?_ rfl rfl (td_d HR.out.t2) ?_); (rfl))
                              | (go_at_call 12; (with_reducible refine (cI2 _).mono ?_); rintro e wd ⟨rfl, h9⟩; have HR := Lib.hid (HR.out.up h9); clear h9))
                            go_meet
                            exact ⟨rfl, HR⟩
                          | false =>
                            obtain ⟨hp2, cV⟩ := HFX.out.vsame HFN.out.1 HFN.out.2 HDD.out.symm hp
                            go_wp2_with (first
                              | ((with_reducible refine kb_l2 ?_ rfl rfl HR.out.t1 ?_); (rfl); refine ⟨_, rfl, ?_⟩)
                              | ((with_reducible refine kb_l2 ?_ rfl rfl HR.out.t2 ?_); (rfl); refine ⟨_, rfl, ?_⟩)
                              | ((with_reducible refine kp_arm ?_ rfl rfl (td_d HR.out.t2) ?_); (rfl))
                              | ((with_reducible refine kp_arm ?_ rfl rfl (td_a HR.out.t1) ?_); (rfl))
                              | ((with_reducible refine kp_arm ?_ rfl rfl (td_a HR.out.t2) ?_); (rfl))
                              | (go_at_call 11; (with_reducible refine (cV _).mono ?_); rintro e we ⟨rfl, h9⟩; have HR := Lib.hid (HR.out.up h9); clear h9)
                              | (go_at_call 12; (with_reducible refine (cI2 _).mono ?_); rintro e wd ⟨rfl, h9⟩; have HR := Lib.hid (HR.out.up h9); clear h9))
                            go_meet
                            exact ⟨rfl, HR⟩
                        | false =>
                          have cE := fun W => HFX.out.dsame HFN.out.1 HFN.out.2 HDD.out.symm W
                          go_wp2_with (first
                            | ((with_reducible refine kb_l2 ?_ rfl rfl HR.out.t1 ?_); (rfl); refine ⟨_, rfl, ?_⟩)
                            | ((with_reducible refine kb_l2 ?_ rfl rfl HR.out.t2 ?_); (rfl); refine ⟨_, rfl, ?_⟩)
                            | ((with_reducible refine kp_arm ?_ rfl rfl (td_d HR.out.t1) ?_); (rfl))
                            | ((with_reducible refine kp_arm ?_ rfl rfl (td_d HR.out.t2) ?_); (rfl))
                            | (go_at_call 13; (with_reducible refine (cE _).mono ?_); rintro e we ⟨rfl, h9⟩; have HR := Lib.hid (HR.out.up h9); clear h9)
                            | (go_at_call 12; (with_reducible refine (cI2 _).mono ?_); rintro e wd ⟨rfl, h9⟩; have HR := Lib.hid (HR.out.up h9); clear h9))
                          go_meet
                          exact ⟨rfl, HR⟩
                      case rest =>
                        obtain ⟨rfl, HR⟩ := hcut
                        go_wp2
                        go_meet
                        exact HR
                    | false =>
                      go_wp2
                      go_meet
                      exact HR
                  case rest =>
                    have HR := hcut
                    go_upto_region 31 with (first | ((with_reducible refine kb_l2 ?_ rfl rfl HR.out.t1 ?_); (rfl); refine ⟨_, rfl, ?_⟩) | (fail))
                    (try dsimp only [Act.put])
                    go_cut [248] from 216 to 248 (fun qa wx => qa = .bool false ∧ Hid (Rd w A1 H1 c1 k2 ky ai q B M2 g16 g17 g18 g19 g21 s1 p1 O1 L1 f1 d1 s2 p2 O2 L2 f2 d2 wx))
                    case first => as_aux_lemma =>
                      have qe : ∀ W : World, (Op.equalIn (9998 + 2) 26 (.agg #[.string ai.k.str, .int .i64 ai.k.sym]) (.agg #[.string ky.str, .int .i64 ky.sym])).run Tryz.prog W = .ok (eqK ai.k ky) W := fun W => key_eq 9998 ai.k.str ky.str ai.k.sym ky.sym W
                      have hnd : (ai.n == (k2 : Int)) = true → ai.n = (k2 : Int) := eq_of_beq
                      have hdo := HFX.out.does
                      have HDO := Lib.hid hdo
                      have HND := Lib.hid hnd
                      clear hdo hnd
                      cases hn : (ai.n == (k2 : Int)) with
                      | false =>
                        clear qe
                        go_wp2_with (first
                          | ((with_reducible refine ki_l2 ?_ rfl rfl HR.out.ak ?_); (rfl); refine ⟨_, rfl, ?_⟩)
                          | ((with_reducible refine kp_arm ?_ rfl rfl (kak_key HR.out.ak) ?_); (rfl))
                          | ((with_reducible refine kp_arm ?_ rfl rfl (ky_ld HR.out.kr.kb) ?_); (rfl))
                          | ((with_reducible refine kb_l2 ?_ rfl rfl HR.out.out ?_); (rfl); refine ⟨_, rfl, ?_⟩)
                          | ((with_reducible refine ku_l2 ?_ rfl rfl HR.out.ak ?_); (rfl); refine ⟨_, rfl, ?_⟩)
                          | ((with_reducible refine kb_l2 ?_ rfl rfl HR.out.t2 ?_); (rfl); refine ⟨_, rfl, ?_⟩)
                          | (fail))
                        go_meet
                        exact ⟨rfl, HR⟩
                      | true =>
                        cases hk : eqK ai.k ky with
                        | false =>
                          rw [hk] at qe
                          go_wp2_with (first
                            | ((with_reducible refine ki_l2 ?_ rfl rfl HR.out.ak ?_); (rfl); refine ⟨_, rfl, ?_⟩)
                            | ((with_reducible refine kp_arm ?_ rfl rfl (kak_key HR.out.ak) ?_); (rfl))
                            | ((with_reducible refine kp_arm ?_ rfl rfl (ky_ld HR.out.kr.kb) ?_); (rfl))
                            | ((with_reducible refine kb_l2 ?_ rfl rfl HR.out.out ?_); (rfl); refine ⟨_, rfl, ?_⟩)
                            | ((with_reducible refine ku_l2 ?_ rfl rfl HR.out.ak ?_); (rfl); refine ⟨_, rfl, ?_⟩)
                            | ((with_reducible refine kb_l2 ?_ rfl rfl HR.out.t2 ?_); (rfl); refine ⟨_, rfl, ?_⟩)
                            | (fail))
                          go_meet
                          exact ⟨rfl, HR⟩
                        | true =>
                          rw [hk] at qe
                          cases hb : q.b with
                          | false =>
                            go_wp2_with (first
                              | ((with_reducible refine ki_l2 ?_ rfl rfl HR.out.ak ?_); (rfl); refine ⟨_, rfl, ?_⟩)
                              | ((with_reducible refine kp_arm ?_ rfl rfl (kak_key HR.out.ak) ?_); (rfl))
                              | ((with_reducible refine kp_arm ?_ rfl rfl (ky_ld HR.out.kr.kb) ?_); (rfl))
                              | ((with_reducible refine kb_l2 ?_ rfl rfl HR.out.out ?_); (rfl); refine ⟨_, rfl, ?_⟩)
                              | ((with_reducible refine ku_l2 ?_ rfl rfl HR.out.ak ?_); (rfl); refine ⟨_, rfl, ?_⟩)
                              | ((with_reducible refine kb_l2 ?_ rfl rfl HR.out.t2 ?_); (rfl); refine ⟨_, rfl, ?_⟩)
                              | (fail))
                            go_meet
                            exact ⟨rfl, HR⟩
                          | true =>
                            obtain ⟨h6, h10⟩ := HDO.out (HND.out hn) (eqK_iff.1 hk) hb
                            cases h6b : (ai.m == 6) with
                            | true =>
                              have hf2 := h6 (eq_of_beq h6b)
                              have h10b : (ai.m == 10) = false := by rw [eq_of_beq h6b]; rfl
                              clear h6 h10
                              go_wp2_with (first
                                | ((with_reducible refine ki_l2 ?_ rfl rfl HR.out.ak ?_); (rfl); refine ⟨_, rfl, ?_⟩)
                                | ((with_reducible refine kp_arm ?_ rfl rfl (kak_key HR.out.ak) ?_); (rfl))
                                | ((with_reducible refine kp_arm ?_ rfl rfl (ky_ld HR.out.kr.kb) ?_); (rfl))
                                | ((with_reducible refine kb_l2 ?_ rfl rfl HR.out.out ?_); (rfl); refine ⟨_, rfl, ?_⟩)
                                | ((with_reducible refine ku_l2 ?_ rfl rfl HR.out.ak ?_); (rfl); refine ⟨_, rfl, ?_⟩)
                                | ((with_reducible refine kb_l2 ?_ rfl rfl HR.out.t2 ?_); (rfl); refine ⟨_, rfl, ?_⟩)
                                | (fail))
                              go_meet
                              exact ⟨rfl, HR⟩
                            | false =>
                              cases h10b : (ai.m == 10) with
                              | true =>
                                have hf2 := h10 (eq_of_beq h10b)
                                clear h6 h10
                                go_wp2_with (first
                                  | ((with_reducible refine ki_l2 ?_ rfl rfl HR.out.ak ?_); (rfl); refine ⟨_, rfl, ?_⟩)
                                  | ((with_reducible refine kp_arm ?_ rfl rfl (kak_key HR.out.ak) ?_); (rfl))
                                  | ((with_reducible refine kp_arm ?_ rfl rfl (ky_ld HR.out.kr.kb) ?_); (rfl))
                                  | ((with_reducible refine kb_l2 ?_ rfl rfl HR.out.out ?_); (rfl); refine ⟨_, rfl, ?_⟩)
                                  | ((with_reducible refine ku_l2 ?_ rfl rfl HR.out.ak ?_); (rfl); refine ⟨_, rfl, ?_⟩)
                                  | ((with_reducible refine kb_l2 ?_ rfl rfl HR.out.t2 ?_); (rfl); refine ⟨_, rfl, ?_⟩)
                                  | (fail))
                                go_meet
                                exact ⟨rfl, HR⟩
                              | false =>
                                clear h6 h10
                                go_wp2_with (first
                                  | ((with_reducible refine ki_l2 ?_ rfl rfl HR.out.ak ?_); (rfl); refine ⟨_, rfl, ?_⟩)
                                  | ((with_reducible refine kp_arm ?_ rfl rfl (kak_key HR.out.ak) ?_); (rfl))
                                  | ((with_reducible refine kp_arm ?_ rfl rfl (ky_ld HR.out.kr.kb) ?_); (rfl))
                                  | ((with_reducible refine kb_l2 ?_ rfl rfl HR.out.out ?_); (rfl); refine ⟨_, rfl, ?_⟩)
                                  | ((with_reducible refine ku_l2 ?_ rfl rfl HR.out.ak ?_); (rfl); refine ⟨_, rfl, ?_⟩)
                                  | ((with_reducible refine kb_l2 ?_ rfl rfl HR.out.t2 ?_); (rfl); refine ⟨_, rfl, ?_⟩)
                                  | (fail))
                                go_meet
                                exact ⟨rfl, HR⟩
                    case rest =>
                      obtain ⟨rfl, HR⟩ := hcut
                      have hi1 : ∀ v : Value, (Tryz.prog.info? 24).map (·.size) = some (#[v] : Array Value).size := fun v => hsz
                      go_wp2_with (first
                        | ((with_reducible refine h1_ld ?_ rfl rfl HR.out.x ?_); (rfl))
                        | ((with_reducible refine t_store (cs := #[.slice (some ⟨B, 0, none⟩) H1.length H1.length]) rfl rfl rfl rfl HR.out.kr.h (hi1 _) ?_ (hc1x _ rfl) HR.out.kr.below (Nat.le_refl _) ?_); (rfl); intro W9 hb9 hW9 hO9 hz9))
                      go_roundg kx
                      case measure => omega
                      case rel => exact ⟨i + 1, by congr 1, by omega, Lib.hid ⟨_, _, _, HR.out.next HPL.out hb9 hW9 hO9 hz9⟩⟩
      · have hEb : (E != 0) = true := by unfold bne; rw [beq_eq_false_iff_ne.2 hE]; rfl
        have hEz : (E == 0) = false := beq_eq_false_iff_ne.2 hE
        clear hE
        go_wp2
        go_roundg kx
        case measure => omega
        case rel => exact ⟨i + 1, by congr 1, by omega, Lib.hid ⟨A1, H1, c1, HK.out⟩⟩
end Go.Proofs.YtlfbflclefndjaaGreatDoor.S
