/-
  Properties in memory: loads and stores of a whole property, of its key, of its descriptor, as laws of one operation; a row of properties wherever it lies.
-/
import Derived.Test.YthnkllhfmjbbmaaGreatDoorHM22
import Derived.Test.YthnkllhfmjbbmaaGreatDoorHM18
import Derived.Deep.RegionHeld3
import Derived.Test.YthnkllhfmjbbmaaGreatDoorHM21
namespace Go.Proofs.YthnkllhfmjbbmaaGreatDoor.S
open Go.RowKit Fl

theorem psz : (Tryz.prog.info? 93).map (·.size) = some 18 := by kernel_rfl
theorem ksz : (Tryz.prog.info? 63).map (·.size) = some 2 := by kernel_rfl
def prA (p : Pq) : Array Value := (pcl p).toArray
theorem pcl_len (p : Pq) : (pcl p).length = 18 := rfl
theorem prA_size (p : Pq) : (prA p).size = 18 := rfl
theorem prA_one (p : Pq) : (prA p).all (·.oneCell') = true := cells_one (l := pcl p) rfl
theorem add_blk (a : Addr) (k : Nat) : (a.add k).block = a.block := by unfold Addr.add; split <;> rfl
theorem add_add (a : Addr) (m j : Nat) : (a.add m).add j = a.add (m + j) := by
  unfold Addr.add
  by_cases h : m = 0
  · subst h; simp
  · by_cases g : j = 0
    · subst g; simp [h]
    · simp [h, g, Nat.add_assoc]
/-- properties in a row, wherever it lies -/
def PR (w : World) (A : Option Addr) (L : List Pq) : Prop := 0 < L.length → ∃ a, A = some a ∧ a.block < w.heap.size ∧ ∀ i (h : i < L.length) j u, (pcl L[i])[j]? = some u → w.cell? (a.add (i * 18 + j)) = some u
theorem pr_up {w wr : World} {A : Option Addr} {L : List Pq} (h : PR w A L) (hb : Below w.heap.size w wr) : PR wr A L := fun hp => by
  obtain ⟨a, h1, h2, h3⟩ := h hp
  refine ⟨a, h1, Nat.lt_of_lt_of_le h2 hb.size, fun i hi j u hu => ?_⟩
  rw [hb.cell (by rw [add_blk]; exact h2)]
  exact h3 i hi j u hu
section
variable {ops : Array Oper} {rest : List Oper} {o : Oper} {a : Act} {w : World} {Q : Exit → Act → World → Prop} {x y : Operand} {g i : Nat} {t : TypeId}
theorem run_loadVar_at {A : Addr} {ty : TypeId} {cs : List Value} {d : TypeDesc} (hc : ∀ j v, cs[j]? = some v → w.cell? (A.add j) = some v) (hu : Tryz.prog.underlying ty = some d) (hd : d.isRow = true) (hi : (Tryz.prog.info? ty).map (·.size) = some cs.length) :
    (loadVar ty A).run Tryz.prog w = .ok (.agg cs.toArray) w := by
  have hl : (loadCells A cs.length).run Tryz.prog w = .ok cs.toArray w := run_loadCells_list (P := Tryz.prog) w A cs hc
  cases hq : Tryz.prog.info? ty with
  | none => simp [hq] at hi
  | some i =>
    have hs : i.size = cs.length := by simpa [hq] using hi
    have hagg : (isAgg ty).run Tryz.prog w = .ok true w := by
      unfold isAgg
      rw [Sem.run_bind, run_underlying hu w]
      cases d <;> simp_all
    simp [loadVar, Sem.run_bind, hagg, sizeOf, typeInfo, hq, hs, hl]
theorem run_loadAt_at {A : Addr} {ty : TypeId} {cs : List Value} {d : TypeDesc} (hc : ∀ j v, cs[j]? = some v → w.cell? (A.add j) = some v) (hu : Tryz.prog.underlying ty = some d) (hd : d.isRow = true) (hi : (Tryz.prog.info? ty).map (·.size) = some cs.length) :
    (Instr.loadAt ty (.pointer (some A))).run Tryz.prog w = .ok (.agg cs.toArray) w := by
  simp only [Instr.loadAt, Instr.sureAddr, Sem.run_bind, Sem.run_pure, Result.andThen_ok, run_loadVar_at hc hu hd hi]
theorem wp_load_at {K : Act → World → Prop} {A : Addr} {ty : TypeId} {cs : List Value} {d : TypeDesc} (ho : o.op = .load ty x) (hx : a.eval x = .pointer (some A)) (hc : ∀ j v, cs[j]? = some v → w.cell? (A.add j) = some v)
    (hu : Tryz.prog.underlying ty = some d) (hd : d.isRow = true) (hi : (Tryz.prog.info? ty).map (·.size) = some cs.length) (h : K (a.put o.dst (.agg cs.toArray)) w) : o.wp Tryz.prog a w K Q := by
  unfold Oper.wp execOp
  simp only [ho, hx, run_loadAt_at hc hu hd hi, Sem.run_bind, Sem.run_pure, Result.andThen_ok]
  exact h
/-- a property out of a row -/
theorem p_load {A : Addr} {p : Pq} (hw : Region.wanted o (yielded ops a.tmps) = true) (ho : o.op = .load 93 x) (hx : a.eval x = .pointer (some A)) (hc : ∀ j u, (pcl p)[j]? = some u → w.cell? (A.add j) = some u)
    (h : wpList Tryz.prog ops Q rest (a.put o.dst (.agg (prA p))) w) : wpList Tryz.prog ops Q (o :: rest) a w :=
  wpList_wanted hw fun _ hK => wp_load_at ho hx hc Tryz.underlying93 rfl psz (hK _ _ h)
theorem pb_cells {p : Pq} (hg : w.heap[g]? = some (.cells (prA p) t (0, 0))) (j : Nat) (u : Value) (hu : (pcl p)[j]? = some u) : w.cell? ⟨g, j, none⟩ = some u := by
  rw [vcells hg j]
  simpa [prA] using hu
/-- the key of a property in a block of its own -/
theorem pk_load {p : Pq} (hw : Region.wanted o (yielded ops a.tmps) = true) (ho : o.op = .load 63 x) (hx : a.eval x = .pointer (some ⟨g, 0, none⟩)) (hg : w.heap[g]? = some (.cells (prA p) t (0, 0)))
    (h : wpList Tryz.prog ops Q rest (a.put o.dst (.agg #[.string p.k.str, .int .i64 p.k.sym])) w) : wpList Tryz.prog ops Q (o :: rest) a w :=
  wpList_wanted hw fun _ hK => wp_load_at (cs := [.string p.k.str, .int .i64 p.k.sym]) ho hx (fun j v hv => by
    rw [show ((⟨g, 0, none⟩ : Addr).add j) = ⟨g, 0 + j, none⟩ from Addr.add_mid g 0 j, Nat.zero_add]
    refine pb_cells hg j v ?_
    match j, hv with
    | 0, hv => exact hv
    | 1, hv => exact hv
    | n + 2, hv => cases hv) Tryz.underlying63 rfl ksz (hK _ _ h)
/-- its descriptor -/
theorem pd_load {p : Pq} (hw : Region.wanted o (yielded ops a.tmps) = true) (ho : o.op = .load 55 x) (hx : a.eval x = .pointer (some ⟨g, 2, none⟩)) (hg : w.heap[g]? = some (.cells (prA p) t (0, 0)))
    (h : wpList Tryz.prog ops Q rest (a.put o.dst (.agg p.d.cells)) w) : wpList Tryz.prog ops Q (o :: rest) a w :=
  wpList_wanted hw fun _ hK => wp_load_at (cs := p.d.cells.toList) ho hx (fun j v hv => by
    rw [show ((⟨g, 2, none⟩ : Addr).add j) = ⟨g, 2 + j, none⟩ from Addr.add_mid g 2 j]
    refine pb_cells hg (2 + j) v ?_
    rw [show 2 + j = j + 1 + 1 by omega]
    exact hv) Tryz.underlying55 rfl dsz (hK _ _ h)
/-- a descriptor in a block of its own -/
theorem dq_load {d : Dq} (hw : Region.wanted o (yielded ops a.tmps) = true) (ho : o.op = .load 55 x) (hx : a.eval x = .pointer (some ⟨g, 0, none⟩)) (hg : w.heap[g]? = some (.cells d.cells t (0, 0)))
    (h : wpList Tryz.prog ops Q rest (a.put o.dst (.agg d.cells)) w) : wpList Tryz.prog ops Q (o :: rest) a w :=
  wpList_wanted hw fun _ hK => wp_load_row 55 x ho g hx t _ (0, 0) _ hg Tryz.underlying55 rfl dsz (hK _ _ h)
/-- a whole thing stored into a block of the call's own -/
theorem t_store {ty : TypeId} {cs old : Array Value} {B : Nat} {w0 : World} (hgd : o.guard = none) (ho : o.op = .store ty x y) (hx : a.eval x = .pointer (some ⟨g, 0, none⟩)) (hy : a.eval y = .agg cs) (hg : w.heap[g]? = some (.cells old t (0, 0))) (hi : (Tryz.prog.info? ty).map (·.size) = some cs.size) (hold : old.size = cs.size)
    (h1 : cs.all (·.oneCell') = true) (hB : Below B w0 w) (hBg : B ≤ g)
    (h : ∀ W : World, Below B w0 W → W.heap[g]? = some (.cells cs t (0, 0)) → (∀ j, j ≠ g → W.heap[j]? = w.heap[j]?) → W.heap.size = w.heap.size → wpList Tryz.prog ops Q rest (a.put o.dst undef) W) : wpList Tryz.prog ops Q (o :: rest) a w :=
  wpList_store_row hgd ty x y ho g cs hx hy t old hg hi hold h1 (h _ (below_row hB hBg cs) (setRow_heap _ _ _ _ _ _ hg) (fun j hj => setRow_other w g j cs hj) (by simp [World.setRow]))
end
end Go.Proofs.YthnkllhfmjbbmaaGreatDoor.S
/-
  Descriptors: complete, become, whole, changes, Compatible, Apply, Complete: walks. Generated: gen_descwalk.py.
-/
namespace Go.Proofs.YthnkllhfmjbbmaaGreatDoor.S
open Go.RowKit Fl

set_option maxRecDepth 1000000 in
set_option maxHeartbeats 4000000 in
theorem complete_x (h n : Int) (ka : Int) (xa : Nat) (sa : ByteArray) (ra : Int) (kb : Int) (xb : Nat) (sb : ByteArray) (rb : Int) (kc : Int) (xc : Nat) (sc : ByteArray) (rc : Int) (kg : Int) (xg : Nat) (sg : ByteArray) (rg : Int) (ki : Int) (xi : Nat) (si : ByteArray) (ri : Int) (kj : Int) (xj : Nat) (sj : ByteArray) (rj : Int) (p q z p1 q1 z1 : Bool) {acc : Bool} (ha : ∀ w, Calls Tryz.prog 109 #[.agg #[.int .u8 h, .int .u8 ka, .float .f64 xa, .string sa, .int .i64 ra, .int .u8 kb, .float .f64 xb, .string sb, .int .i64 rb, .int .u8 kc, .float .f64 xc, .string sc, .int .i64 rc, .bool p, .bool q, .bool z]] w fun e w' => e = .returned (.bool acc) ∧ Below w.heap.size w w') (l1 : acc = true → ∀ w, Calls Tryz.prog 110 #[.agg #[.int .u8 60, .int .u8 0, .float .f64 0, .string ⟨#[]⟩, .int .i64 0, .int .u8 0, .float .f64 0, .string ⟨#[]⟩, .int .i64 0, .int .u8 0, .float .f64 0, .string ⟨#[]⟩, .int .i64 0, .bool false, .bool false, .bool false], .agg #[.int .u8 h, .int .u8 ka, .float .f64 xa, .string sa, .int .i64 ra, .int .u8 kb, .float .f64 xb, .string sb, .int .i64 rb, .int .u8 kc, .float .f64 xc, .string sc, .int .i64 rc, .bool p, .bool q, .bool z]] w fun e w' => e = .returned (.agg #[.int .u8 n, .int .u8 kg, .float .f64 xg, .string sg, .int .i64 rg, .int .u8 ki, .float .f64 xi, .string si, .int .i64 ri, .int .u8 kj, .float .f64 xj, .string sj, .int .i64 rj, .bool p1, .bool q1, .bool z1]) ∧ Below w.heap.size w w') (l2 : acc = false → ∀ w, Calls Tryz.prog 110 #[.agg #[.int .u8 51, .int .u8 0, .float .f64 0, .string ⟨#[]⟩, .int .i64 0, .int .u8 0, .float .f64 0, .string ⟨#[]⟩, .int .i64 0, .int .u8 0, .float .f64 0, .string ⟨#[]⟩, .int .i64 0, .bool false, .bool false, .bool false], .agg #[.int .u8 h, .int .u8 ka, .float .f64 xa, .string sa, .int .i64 ra, .int .u8 kb, .float .f64 xb, .string sb, .int .i64 rb, .int .u8 kc, .float .f64 xc, .string sc, .int .i64 rc, .bool p, .bool q, .bool z]] w fun e w' => e = .returned (.agg #[.int .u8 n, .int .u8 kg, .float .f64 xg, .string sg, .int .i64 rg, .int .u8 ki, .float .f64 xi, .string si, .int .i64 ri, .int .u8 kj, .float .f64 xj, .string sj, .int .i64 rj, .bool p1, .bool q1, .bool z1]) ∧ Below w.heap.size w w') (w : World) : Calls Tryz.prog 71 #[.agg #[.int .u8 h, .int .u8 ka, .float .f64 xa, .string sa, .int .i64 ra, .int .u8 kb, .float .f64 xb, .string sb, .int .i64 rb, .int .u8 kc, .float .f64 xc, .string sc, .int .i64 rc, .bool p, .bool q, .bool z]] w fun e w' => e = .returned (.agg #[.int .u8 n, .int .u8 kg, .float .f64 xg, .string sg, .int .i64 rg, .int .u8 ki, .float .f64 xi, .string si, .int .i64 ri, .int .u8 kj, .float .f64 xj, .string sj, .int .i64 rj, .bool p1, .bool q1, .bool z1]) ∧ Below w.heap.size w w' := by
  have hB0 : Below w.heap.size w ((w.alloc (.cells #[.int .u8 h, .int .u8 ka, .float .f64 xa, .string sa, .int .i64 ra, .int .u8 kb, .float .f64 xb, .string sb, .int .i64 rb, .int .u8 kc, .float .f64 xc, .string sc, .int .i64 rc, .bool p, .bool q, .bool z] 55)).alloc (.cells #[.int .u8 0, .int .u8 0, .float .f64 0, .string ⟨#[]⟩, .int .i64 0, .int .u8 0, .float .f64 0, .string ⟨#[]⟩, .int .i64 0, .int .u8 0, .float .f64 0, .string ⟨#[]⟩, .int .i64 0, .bool false, .bool false, .bool false] 55)) := vafter (vzero _ _)
  obtain ⟨b1, b2⟩ := vblk2 (w := w) (Below.refl _ ((w.alloc (.cells #[.int .u8 h, .int .u8 ka, .float .f64 xa, .string sa, .int .i64 ra, .int .u8 kb, .float .f64 xb, .string sb, .int .i64 rb, .int .u8 kc, .float .f64 xc, .string sc, .int .i64 rc, .bool p, .bool q, .bool z] 55)).alloc (.cells #[.int .u8 0, .int .u8 0, .float .f64 0, .string ⟨#[]⟩, .int .i64 0, .int .u8 0, .float .f64 0, .string ⟨#[]⟩, .int .i64 0, .int .u8 0, .float .f64 0, .string ⟨#[]⟩, .int .i64 0, .bool false, .bool false, .bool false] 55)))
  cases acc
  · have L := l2 rfl
    clear l1 l2
    go_enter Tryz.func71, Tryz.ntmps71
    go_wp2_with (first | ((with_reducible refine d_load ?_ rfl rfl b1 ?_); (rfl)) | (go_at_call 109; (with_reducible refine (ha _).mono ?_); rintro e w1 ⟨rfl, h1⟩; have b1 := vblkn h1 b1; have b2 := vblkn h1 b2; have hB0 := vb hB0 h1) | (go_at_call 110; (with_reducible refine (L _).mono ?_); rintro e w1 ⟨rfl, h1⟩; have b1 := vblkn h1 b1; have b2 := vblkn h1 b2; have hB0 := vb hB0 h1) | ((with_reducible refine d_store rfl rfl rfl rfl b2 ?_ ?_ ?_); (rfl); (rfl)))
    exact d_end Tryz.results71 rfl (setRow_heap _ _ _ _ _ _ b2) ⟨rfl, below_row hB0 (by omega) _⟩
  · have L := l1 rfl
    clear l1 l2
    go_enter Tryz.func71, Tryz.ntmps71
    go_wp2_with (first | ((with_reducible refine d_load ?_ rfl rfl b1 ?_); (rfl)) | (go_at_call 109; (with_reducible refine (ha _).mono ?_); rintro e w1 ⟨rfl, h1⟩; have b1 := vblkn h1 b1; have b2 := vblkn h1 b2; have hB0 := vb hB0 h1) | (go_at_call 110; (with_reducible refine (L _).mono ?_); rintro e w1 ⟨rfl, h1⟩; have b1 := vblkn h1 b1; have b2 := vblkn h1 b2; have hB0 := vb hB0 h1) | ((with_reducible refine d_store rfl rfl rfl rfl b2 ?_ ?_ ?_); (rfl); (rfl)))
    exact d_end Tryz.results71 rfl (setRow_heap _ _ _ _ _ _ b2) ⟨rfl, below_row hB0 (by omega) _⟩
theorem complete_q (d : Dq) (w : World) : Calls Tryz.prog 71 #[d.val] w fun e w' => e = .returned (completeQ d).val ∧ Below w.heap.size w w' := by
  refine complete_x d.h (completeQ d).h d.a.k d.a.x d.a.s d.a.r d.b.k d.b.x d.b.s d.b.r d.c.k d.c.x d.c.s d.c.r (completeQ d).a.k (completeQ d).a.x (completeQ d).a.s (completeQ d).a.r (completeQ d).b.k (completeQ d).b.x (completeQ d).b.s (completeQ d).b.r (completeQ d).c.k (completeQ d).c.x (completeQ d).c.s (completeQ d).c.r d.p d.q d.z (completeQ d).p (completeQ d).q (completeQ d).z (fun w => IsAccess_q d w) (fun hac w => ?_) (fun hac w => ?_) w
  · have e1 : completeQ d = layQ (dz 60) d := by unfold completeQ; rw [hac]; rfl
    have := lay_q (dz 60) d w
    rw [← e1] at this
    exact this
  · have e1 : completeQ d = layQ (dz 51) d := by unfold completeQ; rw [hac]; rfl
    have := lay_q (dz 51) d w
    rw [← e1] at this
    exact this
section
variable {f : Func} {i j k : Nat} {t : TypeId} {Q : Ending → World → Prop} {tmps : Array Value} {W : World} {g : Nat} {c0 c1 c2 c3 c4 c5 c6 c7 c8 c9 c10 c11 c12 c13 c14 c15 v u : Value}
theorem dldv (h : W.heap[g]? = some (.cells #[c0, c1, c2, c3, c4, c5, c6, c7, c8, c9, c10, c11, c12, c13, c14, c15] t (0, 0))) :
    (loadVar 55 ⟨g, 0, none⟩).run Tryz.prog W = .ok (.agg #[c0, c1, c2, c3, c4, c5, c6, c7, c8, c9, c10, c11, c12, c13, c14, c15]) W := run_loadVar_row W g t 55 _ (0, 0) _ h Tryz.underlying55 rfl dsz
theorem d_end2 (hf : f.results = #[.cell i 55, .tmp j]) (h2 : tmps[i]?.getD undef = .pointer (some ⟨g, 0, none⟩)) (h3 : tmps[j]?.getD undef = v) (hb : W.heap[g]? = some (.cells #[c0, c1, c2, c3, c4, c5, c6, c7, c8, c9, c10, c11, c12, c13, c14, c15] t (0, 0)))
    (hQ : Q (.returned (.tuple #[.agg #[c0, c1, c2, c3, c4, c5, c6, c7, c8, c9, c10, c11, c12, c13, c14, c15], v])) W) : bodyPost Tryz.prog f Q .ret { tmps := tmps, defers := [] } W := by
  have e := dldv hb
  refine bodyPost_ret (v := .tuple #[.agg #[c0, c1, c2, c3, c4, c5, c6, c7, c8, c9, c10, c11, c12, c13, c14, c15], v]) ?_ rfl hQ
  simp [results, hf, h2, h3, asAddr, e]
theorem d_end3 (hf : f.results = #[.cell i 55, .tmp j, .tmp k]) (h2 : tmps[i]?.getD undef = .pointer (some ⟨g, 0, none⟩)) (h3 : tmps[j]?.getD undef = v) (h4 : tmps[k]?.getD undef = u) (hb : W.heap[g]? = some (.cells #[c0, c1, c2, c3, c4, c5, c6, c7, c8, c9, c10, c11, c12, c13, c14, c15] t (0, 0)))
    (hQ : Q (.returned (.tuple #[.agg #[c0, c1, c2, c3, c4, c5, c6, c7, c8, c9, c10, c11, c12, c13, c14, c15], v, u])) W) : bodyPost Tryz.prog f Q .ret { tmps := tmps, defers := [] } W := by
  have e := dldv hb
  refine bodyPost_ret (v := .tuple #[.agg #[c0, c1, c2, c3, c4, c5, c6, c7, c8, c9, c10, c11, c12, c13, c14, c15], v, u]) ?_ rfl hQ
  simp [results, hf, h2, h3, h4, asAddr, e]
end
set_option maxRecDepth 1000000 in
set_option maxHeartbeats 4000000 in
theorem become_x (h m m' n n2 : Int) (ka : Int) (xa : Nat) (sa : ByteArray) (ra : Int) (kb : Int) (xb : Nat) (sb : ByteArray) (rb : Int) (kc : Int) (xc : Nat) (sc : ByteArray) (rc : Int) (kd : Int) (xd : Nat) (sd : ByteArray) (rd : Int) (ke : Int) (xe : Nat) (se : ByteArray) (re : Int) (kf : Int) (xf : Nat) (sf : ByteArray) (rf : Int) (kg : Int) (xg : Nat) (sg : ByteArray) (rg : Int) (ki : Int) (xi : Nat) (si : ByteArray) (ri : Int) (kj : Int) (xj : Nat) (sj : ByteArray) (rj : Int) (kl : Int) (xl : Nat) (sl : ByteArray) (rl : Int) (ko : Int) (xo : Nat) (so : ByteArray) (ro : Int) (kt : Int) (xt : Nat) (st : ByteArray) (rt : Int) (p q z p' q' z' p1 q1 z1 p2 q2 z2 : Bool) {bd ba : Bool} (hd : ∀ w, Calls Tryz.prog 37 #[.agg #[.int .u8 h, .int .u8 ka, .float .f64 xa, .string sa, .int .i64 ra, .int .u8 kb, .float .f64 xb, .string sb, .int .i64 rb, .int .u8 kc, .float .f64 xc, .string sc, .int .i64 rc, .bool p, .bool q, .bool z]] w fun e w' => e = .returned (.bool bd) ∧ Below w.heap.size w w') (ha : ∀ w, Calls Tryz.prog 109 #[.agg #[.int .u8 h, .int .u8 ka, .float .f64 xa, .string sa, .int .i64 ra, .int .u8 kb, .float .f64 xb, .string sb, .int .i64 rb, .int .u8 kc, .float .f64 xc, .string sc, .int .i64 rc, .bool p, .bool q, .bool z]] w fun e w' => e = .returned (.bool ba) ∧ Below w.heap.size w w') (hm : m' = bif bd then bits .andNot .u8 m 12 else bif ba then bits .andNot .u8 m 3 else m) (hl : ∀ w, Calls Tryz.prog 110 #[.agg #[.int .u8 m', .int .u8 kd, .float .f64 xd, .string sd, .int .i64 rd, .int .u8 ke, .float .f64 xe, .string se, .int .i64 re, .int .u8 kf, .float .f64 xf, .string sf, .int .i64 rf, .bool p', .bool q', .bool z'], .agg #[.int .u8 h, .int .u8 ka, .float .f64 xa, .string sa, .int .i64 ra, .int .u8 kb, .float .f64 xb, .string sb, .int .i64 rb, .int .u8 kc, .float .f64 xc, .string sc, .int .i64 rc, .bool p, .bool q, .bool z]] w fun e w' => e = .returned (.agg #[.int .u8 n, .int .u8 kg, .float .f64 xg, .string sg, .int .i64 rg, .int .u8 ki, .float .f64 xi, .string si, .int .i64 ri, .int .u8 kj, .float .f64 xj, .string sj, .int .i64 rj, .bool p1, .bool q1, .bool z1]) ∧ Below w.heap.size w w') (hc : ∀ w, Calls Tryz.prog 71 #[.agg #[.int .u8 n, .int .u8 kg, .float .f64 xg, .string sg, .int .i64 rg, .int .u8 ki, .float .f64 xi, .string si, .int .i64 ri, .int .u8 kj, .float .f64 xj, .string sj, .int .i64 rj, .bool p1, .bool q1, .bool z1]] w fun e w' => e = .returned (.agg #[.int .u8 n2, .int .u8 kl, .float .f64 xl, .string sl, .int .i64 rl, .int .u8 ko, .float .f64 xo, .string so, .int .i64 ro, .int .u8 kt, .float .f64 xt, .string st, .int .i64 rt, .bool p2, .bool q2, .bool z2]) ∧ Below w.heap.size w w') (w : World) : Calls Tryz.prog 72 #[.agg #[.int .u8 h, .int .u8 ka, .float .f64 xa, .string sa, .int .i64 ra, .int .u8 kb, .float .f64 xb, .string sb, .int .i64 rb, .int .u8 kc, .float .f64 xc, .string sc, .int .i64 rc, .bool p, .bool q, .bool z], .agg #[.int .u8 m, .int .u8 kd, .float .f64 xd, .string sd, .int .i64 rd, .int .u8 ke, .float .f64 xe, .string se, .int .i64 re, .int .u8 kf, .float .f64 xf, .string sf, .int .i64 rf, .bool p', .bool q', .bool z']] w fun e w' => e = .returned (.agg #[.int .u8 n2, .int .u8 kl, .float .f64 xl, .string sl, .int .i64 rl, .int .u8 ko, .float .f64 xo, .string so, .int .i64 ro, .int .u8 kt, .float .f64 xt, .string st, .int .i64 rt, .bool p2, .bool q2, .bool z2]) ∧ Below w.heap.size w w' := by
  have hB0 : Below w.heap.size w (((w.alloc (.cells #[.int .u8 h, .int .u8 ka, .float .f64 xa, .string sa, .int .i64 ra, .int .u8 kb, .float .f64 xb, .string sb, .int .i64 rb, .int .u8 kc, .float .f64 xc, .string sc, .int .i64 rc, .bool p, .bool q, .bool z] 55)).alloc (.cells #[.int .u8 m, .int .u8 kd, .float .f64 xd, .string sd, .int .i64 rd, .int .u8 ke, .float .f64 xe, .string se, .int .i64 re, .int .u8 kf, .float .f64 xf, .string sf, .int .i64 rf, .bool p', .bool q', .bool z'] 55)).alloc (.cells #[.int .u8 0, .int .u8 0, .float .f64 0, .string ⟨#[]⟩, .int .i64 0, .int .u8 0, .float .f64 0, .string ⟨#[]⟩, .int .i64 0, .int .u8 0, .float .f64 0, .string ⟨#[]⟩, .int .i64 0, .bool false, .bool false, .bool false] 55)) := vafter2 (vzero _ _)
  obtain ⟨b1, b2, b3⟩ := vblk3 (w := w) (Below.refl _ (((w.alloc (.cells #[.int .u8 h, .int .u8 ka, .float .f64 xa, .string sa, .int .i64 ra, .int .u8 kb, .float .f64 xb, .string sb, .int .i64 rb, .int .u8 kc, .float .f64 xc, .string sc, .int .i64 rc, .bool p, .bool q, .bool z] 55)).alloc (.cells #[.int .u8 m, .int .u8 kd, .float .f64 xd, .string sd, .int .i64 rd, .int .u8 ke, .float .f64 xe, .string se, .int .i64 re, .int .u8 kf, .float .f64 xf, .string sf, .int .i64 rf, .bool p', .bool q', .bool z'] 55)).alloc (.cells #[.int .u8 0, .int .u8 0, .float .f64 0, .string ⟨#[]⟩, .int .i64 0, .int .u8 0, .float .f64 0, .string ⟨#[]⟩, .int .i64 0, .int .u8 0, .float .f64 0, .string ⟨#[]⟩, .int .i64 0, .bool false, .bool false, .bool false] 55)))
  cases bd
  · cases ba
    · replace hm : m' = m := hm
      subst hm
      go_enter Tryz.func72, Tryz.ntmps72
      go_upto_region 5 with (first | ((with_reducible refine d_load ?_ rfl rfl b1 ?_); (rfl)) | (go_at_call 37; (with_reducible refine (hd _).mono ?_); rintro e w1 ⟨rfl, h1⟩; have b1 := vblkn h1 b1; have b2 := vblkn h1 b2; have b3 := vblkn h1 b3; have hB0 := vb hB0 h1) | (go_at_call 109; (with_reducible refine (ha _).mono ?_); rintro e w1 ⟨rfl, h1⟩; have b1 := vblkn h1 b1; have b2 := vblkn h1 b2; have b3 := vblkn h1 b3; have hB0 := vb hB0 h1))
      go_wp2_with (first | ((with_reducible refine d_load ?_ rfl rfl b1 ?_); (rfl)) | ((with_reducible refine d_load ?_ rfl rfl b2 ?_); (rfl)) | (go_at_call 110; (with_reducible refine (hl _).mono ?_); rintro e w1 ⟨rfl, h1⟩; have b1 := vblkn h1 b1; have b2 := vblkn h1 b2; have b3 := vblkn h1 b3; have hB0 := vb hB0 h1) | (go_at_call 71; (with_reducible refine (hc _).mono ?_); rintro e w1 ⟨rfl, h1⟩; have b1 := vblkn h1 b1; have b2 := vblkn h1 b2; have b3 := vblkn h1 b3; have hB0 := vb hB0 h1) | ((with_reducible refine d_store rfl rfl rfl rfl b3 ?_ ?_ ?_); (rfl); (rfl)))
      exact d_end Tryz.results72 rfl (setRow_heap _ _ _ _ _ _ b3) ⟨rfl, below_row hB0 (by omega) _⟩
    · replace hm : m' = bits .andNot .u8 m 3 := hm
      subst hm
      have f2 := fun (W : World) (b2 : W.heap[w.heap.size + 1]? = some (.cells #[.int .u8 m, .int .u8 kd, .float .f64 xd, .string sd, .int .i64 rd, .int .u8 ke, .float .f64 xe, .string se, .int .i64 re, .int .u8 kf, .float .f64 xf, .string sf, .int .i64 rf, .bool p', .bool q', .bool z'] 55 (0, 0))) => (⟨vcells b2 0, vfz b2 0⟩ : W.cell? ⟨w.heap.size + 1, 0, none⟩ = _ ∧ W.frozen? ⟨w.heap.size + 1, 0, none⟩ = _)
      go_enter Tryz.func72, Tryz.ntmps72
      go_upto_region 5 with (first | ((with_reducible refine d_load ?_ rfl rfl b1 ?_); (rfl)) | (go_at_call 37; (with_reducible refine (hd _).mono ?_); rintro e w1 ⟨rfl, h1⟩; have b1 := vblkn h1 b1; have b2 := vblkn h1 b2; have b3 := vblkn h1 b3; obtain ⟨e0, e1⟩ := f2 _ b2; have hB0 := vb hB0 h1) | (go_at_call 109; (with_reducible refine (ha _).mono ?_); rintro e w1 ⟨rfl, h1⟩; have b1 := vblkn h1 b1; have b2 := vblkn h1 b2; have b3 := vblkn h1 b3; obtain ⟨e0, e1⟩ := f2 _ b2; have hB0 := vb hB0 h1))
      have b1 := vset1o (j := w.heap.size + 1) b1 (by omega) 0 (.int .u8 (bits .andNot .u8 m 3))
      have b3 := vset1o (j := w.heap.size + 1) b3 (by omega) 0 (.int .u8 (bits .andNot .u8 m 3))
      have hB0 := hB0.setCell (p := ⟨w.heap.size + 1, 0, none⟩) (Nat.le_succ _) (.int .u8 (bits .andNot .u8 m 3))
      have b2 : (World.setCell _ ⟨w.heap.size + 1, 0, none⟩ (.int .u8 (bits .andNot .u8 m 3))).heap[w.heap.size + 1]? = some (.cells #[.int .u8 (bits .andNot .u8 m 3), .int .u8 kd, .float .f64 xd, .string sd, .int .i64 rd, .int .u8 ke, .float .f64 xe, .string se, .int .i64 re, .int .u8 kf, .float .f64 xf, .string sf, .int .i64 rf, .bool p', .bool q', .bool z'] 55 (0, 0)) := vset1 b2 0 _
      go_wp2_with (first | ((with_reducible refine d_load ?_ rfl rfl b1 ?_); (rfl)) | ((with_reducible refine d_load ?_ rfl rfl b2 ?_); (rfl)) | (go_at_call 110; (with_reducible refine (hl _).mono ?_); rintro e w1 ⟨rfl, h1⟩; have b1 := vblkn h1 b1; have b2 := vblkn h1 b2; have b3 := vblkn h1 b3; have hB0 := vb hB0 h1) | (go_at_call 71; (with_reducible refine (hc _).mono ?_); rintro e w1 ⟨rfl, h1⟩; have b1 := vblkn h1 b1; have b2 := vblkn h1 b2; have b3 := vblkn h1 b3; have hB0 := vb hB0 h1) | ((with_reducible refine d_store rfl rfl rfl rfl b3 ?_ ?_ ?_); (rfl); (rfl)))
      exact d_end Tryz.results72 rfl (setRow_heap _ _ _ _ _ _ b3) ⟨rfl, below_row hB0 (by omega) _⟩
  · replace hm : m' = bits .andNot .u8 m 12 := hm
    subst hm
    have f2 := fun (W : World) (b2 : W.heap[w.heap.size + 1]? = some (.cells #[.int .u8 m, .int .u8 kd, .float .f64 xd, .string sd, .int .i64 rd, .int .u8 ke, .float .f64 xe, .string se, .int .i64 re, .int .u8 kf, .float .f64 xf, .string sf, .int .i64 rf, .bool p', .bool q', .bool z'] 55 (0, 0))) => (⟨vcells b2 0, vfz b2 0⟩ : W.cell? ⟨w.heap.size + 1, 0, none⟩ = _ ∧ W.frozen? ⟨w.heap.size + 1, 0, none⟩ = _)
    go_enter Tryz.func72, Tryz.ntmps72
    go_upto_region 5 with (first | ((with_reducible refine d_load ?_ rfl rfl b1 ?_); (rfl)) | (go_at_call 37; (with_reducible refine (hd _).mono ?_); rintro e w1 ⟨rfl, h1⟩; have b1 := vblkn h1 b1; have b2 := vblkn h1 b2; have b3 := vblkn h1 b3; obtain ⟨e0, e1⟩ := f2 _ b2; have hB0 := vb hB0 h1) | (go_at_call 109; (with_reducible refine (ha _).mono ?_); rintro e w1 ⟨rfl, h1⟩; have b1 := vblkn h1 b1; have b2 := vblkn h1 b2; have b3 := vblkn h1 b3; obtain ⟨e0, e1⟩ := f2 _ b2; have hB0 := vb hB0 h1))
    have b1 := vset1o (j := w.heap.size + 1) b1 (by omega) 0 (.int .u8 (bits .andNot .u8 m 12))
    have b3 := vset1o (j := w.heap.size + 1) b3 (by omega) 0 (.int .u8 (bits .andNot .u8 m 12))
    have hB0 := hB0.setCell (p := ⟨w.heap.size + 1, 0, none⟩) (Nat.le_succ _) (.int .u8 (bits .andNot .u8 m 12))
    have b2 : (World.setCell _ ⟨w.heap.size + 1, 0, none⟩ (.int .u8 (bits .andNot .u8 m 12))).heap[w.heap.size + 1]? = some (.cells #[.int .u8 (bits .andNot .u8 m 12), .int .u8 kd, .float .f64 xd, .string sd, .int .i64 rd, .int .u8 ke, .float .f64 xe, .string se, .int .i64 re, .int .u8 kf, .float .f64 xf, .string sf, .int .i64 rf, .bool p', .bool q', .bool z'] 55 (0, 0)) := vset1 b2 0 _
    go_wp2_with (first | ((with_reducible refine d_load ?_ rfl rfl b1 ?_); (rfl)) | ((with_reducible refine d_load ?_ rfl rfl b2 ?_); (rfl)) | (go_at_call 110; (with_reducible refine (hl _).mono ?_); rintro e w1 ⟨rfl, h1⟩; have b1 := vblkn h1 b1; have b2 := vblkn h1 b2; have b3 := vblkn h1 b3; have hB0 := vb hB0 h1) | (go_at_call 71; (with_reducible refine (hc _).mono ?_); rintro e w1 ⟨rfl, h1⟩; have b1 := vblkn h1 b1; have b2 := vblkn h1 b2; have b3 := vblkn h1 b3; have hB0 := vb hB0 h1) | ((with_reducible refine d_store rfl rfl rfl rfl b3 ?_ ?_ ?_); (rfl); (rfl)))
    exact d_end Tryz.results72 rfl (setRow_heap _ _ _ _ _ _ b3) ⟨rfl, below_row hB0 (by omega) _⟩
end Go.Proofs.YthnkllhfmjbbmaaGreatDoor.S
