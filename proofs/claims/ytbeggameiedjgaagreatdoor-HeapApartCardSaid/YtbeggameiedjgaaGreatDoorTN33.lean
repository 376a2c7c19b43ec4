/-
  TableNames: prop: the usual property of a number.
-/
import Derived.Test.YtbeggameiedjgaaGreatDoorTN32
import Derived.Deep.CutRange
import Derived.Deep.CutBlock
namespace Go.Proofs.YtbeggameiedjgaaGreatDoor.S
open Go.RowKit Go.Lib Fl
open Classical

theorem p_end {f : Func} {i : Nat} {t : TypeId} {Q : Ending → World → Prop} {tmps : Array Value} {W : World} {g : Nat} {p : Pq} (hf : f.results = #[.cell i 30]) (h2 : tmps.getD i undef = .pointer (some ⟨g, 0, none⟩)) (hb : W.heap[g]? = some (.cells (prA p) t (0, 0)))
    (hQ : Q (.returned (.agg (prA p))) W) : bodyPost Tryz.prog f Q .ret { tmps := tmps, defers := [] } W :=
  bodyPost_ret (results_cell_row hf tmps W g t _ (0, 0) _ h2 hb Tryz.underlying30 rfl psz) rfl hQ
set_option maxRecDepth 100000 in
theorem prop_any (s : ByteArray) (n : Int) (w : World) : Calls Tryz.prog 8 #[.string s, .int .i64 n] w fun e w' => e = .returned (.agg (prA (pN s 0 (floatOfInt FloatKind.f64 n)))) ∧ Below w.heap.size w w' := by
  have kO := fun W => keyOf_k s W
  have kN := fun W => Num_v (floatOfInt FloatKind.f64 n) W
  have kD := fun W => Data_t 3 (floatOfInt FloatKind.f64 n) ⟨#[]⟩ 0 W
  have hi1 : (Tryz.prog.info? 30).map (·.size) = some (prA (pN s 0 (floatOfInt FloatKind.f64 n))).size := psz
  have hc1 := prA_one (pN s 0 (floatOfInt FloatKind.f64 n))
  have hkk : (.agg #[.string s, .int .i64 0] : Value) = .agg #[.string (pN s 0 (floatOfInt FloatKind.f64 n)).k.str, .int .i64 (pN s 0 (floatOfInt FloatKind.f64 n)).k.sym] := rfl
  go_enter Tryz.func8, Tryz.ntmps8
  go_wp2_with (first
    | (go_at_call 13; (with_reducible refine (kO _).mono ?_); rintro e w1 ⟨rfl, h9⟩; have hb := vblk1 h9; have HB := Lib.hid (vafter h9); clear h9)
    | (go_at_call 11; (with_reducible refine (kN _).mono ?_); rintro e w1 ⟨rfl, h9⟩; have hb := vblkn h9 hb; have HB := Lib.hid (vb HB.out h9); clear h9)
    | (go_at_call 10; (with_reducible refine (kD _).mono ?_); rintro e w1 ⟨rfl, h9⟩; have hb := vblkn h9 hb; have HB := Lib.hid (vb HB.out h9); clear h9)
    | (refine p_build (p := pN s 0 (floatOfInt FloatKind.f64 n)) rfl _ _ rfl rfl rfl ?_)
    | ((with_reducible refine t_store rfl rfl rfl rfl hb hi1 ?_ hc1 HB.out (Nat.le_refl _) ?_); (rfl); intro W hBW hW _ _))
  exact p_end Tryz.results8 rfl hW ⟨rfl, hBW⟩
theorem f_1 : floatOfInt FloatKind.f64 1 = 4607182418800017408 := by kernel_rfl
theorem f_2 : floatOfInt FloatKind.f64 2 = 4611686018427387904 := by kernel_rfl
theorem f_4 : floatOfInt FloatKind.f64 4 = 4616189618054758400 := by kernel_rfl
theorem f_5 : floatOfInt FloatKind.f64 5 = 4617315517961601024 := by kernel_rfl
end Go.Proofs.YtbeggameiedjgaaGreatDoor.S
/-
  TableNames: slices built of properties, properties built of parts.
-/
namespace Go.Proofs.YtbeggameiedjgaaGreatDoor.S
open Go.RowKit Go.Lib Fl
open Classical

set_option maxRecDepth 100000 in
theorem run_slice_5 (a b c d e : Pq) (w : World) : (Instr.buildSlice 35 5 #[(0, .agg (prA a)), (1, .agg (prA b)), (2, .agg (prA c)), (3, .agg (prA d)), (4, .agg (prA e))]).run Tryz.prog w = .ok (.slice (some ⟨w.heap.size, 0, none⟩) 5 5) (w.alloc (.cells (prCells [a, b, c, d, e]).toArray 30)) := by kernel_rfl
set_option maxRecDepth 100000 in
theorem run_slice_2 (a b : Pq) (w : World) : (Instr.buildSlice 35 2 #[(0, .agg (prA a)), (1, .agg (prA b))]).run Tryz.prog w = .ok (.slice (some ⟨w.heap.size, 0, none⟩) 2 2) (w.alloc (.cells (prCells [a, b]).toArray 30)) := by kernel_rfl
set_option maxRecDepth 100000 in
theorem run_build_1 (w : World) : (Instr.build 28 #[(0, .int .u8 1)]).run Tryz.prog w = .ok (.agg (Dq.cells ⟨1, v0, v0, v0, false, false, false⟩)) w := by kernel_rfl
set_option maxRecDepth 100000 in
theorem run_build_k (w : World) : (Instr.build 23 #[(1, .int .i64 (-1))]).run Tryz.prog w = .ok (.agg #[.string ⟨#[]⟩, .int .i64 (-1)]) w := by kernel_rfl
set_option maxRecDepth 100000 in
theorem run_build_n (w : World) : (Instr.build 30 #[(0, .agg #[.string ⟨#[]⟩, .int .i64 (-1)])]).run Tryz.prog w = .ok (.agg (prA ⟨⟨⟨#[]⟩, -1⟩, dz 0⟩)) w := by kernel_rfl
section
variable {ops : Array Oper} {rest : List Oper} {o : Oper} {a : Act} {w : World} {Q : Exit → Act → World → Prop}
theorem p_slice5 {p1 p2 p3 p4 p5 : Pq} (hgd : o.guard = none) (x1 x2 x3 x4 x5 : Operand) (ho : o.op = .buildSlice 35 5 #[(0, x1), (1, x2), (2, x3), (3, x4), (4, x5)]) (h1 : a.eval x1 = .agg (prA p1)) (h2 : a.eval x2 = .agg (prA p2)) (h3 : a.eval x3 = .agg (prA p3)) (h4 : a.eval x4 = .agg (prA p4)) (h5 : a.eval x5 = .agg (prA p5))
    (h : wpList Tryz.prog ops Q rest (a.put o.dst (.slice (some ⟨w.heap.size, 0, none⟩) 5 5)) (w.alloc (.cells (prCells [p1, p2, p3, p4, p5]).toArray 30))) : wpList Tryz.prog ops Q (o :: rest) a w := by
  refine wpList_plain hgd fun _ hK => ?_
  unfold Oper.wp execOp
  simp only [ho, List.map_toArray, List.map_cons, List.map_nil, h1, h2, h3, h4, h5, run_slice_5, Sem.run_bind, Sem.run_pure, Result.andThen_ok]
  exact hK _ _ h
theorem w_run {v : Value} {w2 : World} (hw : Region.wanted o (yielded ops a.tmps) = true) (hr : (execOp a.eval o).run Tryz.prog w = .ok (.value v) w2) (h : wpList Tryz.prog ops Q rest (a.put o.dst v) w2) : wpList Tryz.prog ops Q (o :: rest) a w :=
  wpList_wanted hw fun K hK => by
    unfold Oper.wp
    rw [hr]
    exact hK _ _ h
theorem e_build {p : Pq} {x y : Operand} (ho : o.op = .build 30 #[(0, x), (1, y)]) (hx : a.eval x = .agg #[.string p.k.str, .int .i64 p.k.sym]) (hy : a.eval y = .agg p.d.cells) : (execOp a.eval o).run Tryz.prog w = .ok (.value (.agg (prA p))) w := by
  unfold execOp
  simp only [ho, List.map_toArray, List.map_cons, List.map_nil, hx, hy, run_build_p, Sem.run_bind, Sem.run_pure, Result.andThen_ok]
theorem e_slice1 {p : Pq} {x : Operand} (ho : o.op = .buildSlice 35 1 #[(0, x)]) (hx : a.eval x = .agg (prA p)) : (execOp a.eval o).run Tryz.prog w = .ok (.value (.slice (some ⟨w.heap.size, 0, none⟩) 1 1)) (w.alloc (.cells (prCells [p]).toArray 30)) := by
  unfold execOp
  have e : (prCells [p]).toArray = prA p := by unfold prCells prA; simp
  simp only [ho, List.map_toArray, List.map_cons, List.map_nil, hx, run_slice_p, e, Sem.run_bind, Sem.run_pure, Result.andThen_ok]
theorem e_slice2 {p q : Pq} {x y : Operand} (ho : o.op = .buildSlice 35 2 #[(0, x), (1, y)]) (hx : a.eval x = .agg (prA p)) (hy : a.eval y = .agg (prA q)) : (execOp a.eval o).run Tryz.prog w = .ok (.value (.slice (some ⟨w.heap.size, 0, none⟩) 2 2)) (w.alloc (.cells (prCells [p, q]).toArray 30)) := by
  unfold execOp
  simp only [ho, List.map_toArray, List.map_cons, List.map_nil, hx, hy, run_slice_2, Sem.run_bind, Sem.run_pure, Result.andThen_ok]
theorem e_build1 (ho : o.op = .build 28 #[(0, .const (.int .u8 1))]) : (execOp a.eval o).run Tryz.prog w = .ok (.value (.agg (Dq.cells ⟨1, v0, v0, v0, false, false, false⟩))) w := by
  unfold execOp
  simp only [ho, List.map_toArray, List.map_cons, List.map_nil, Act.eval, run_build_1, Sem.run_bind, Sem.run_pure, Result.andThen_ok]
theorem e_buildk (ho : o.op = .build 23 #[(1, .const (.int .i64 (-1)))]) : (execOp a.eval o).run Tryz.prog w = .ok (.value (.agg #[.string ⟨#[]⟩, .int .i64 (-1)])) w := by
  unfold execOp
  simp only [ho, List.map_toArray, List.map_cons, List.map_nil, Act.eval, run_build_k, Sem.run_bind, Sem.run_pure, Result.andThen_ok]
theorem e_buildn {x : Operand} (ho : o.op = .build 30 #[(0, x)]) (hx : a.eval x = .agg #[.string ⟨#[]⟩, .int .i64 (-1)]) : (execOp a.eval o).run Tryz.prog w = .ok (.value (.agg (prA ⟨⟨⟨#[]⟩, -1⟩, dz 0⟩))) w := by
  unfold execOp
  simp only [ho, List.map_toArray, List.map_cons, List.map_nil, hx, run_build_n, Sem.run_bind, Sem.run_pure, Result.andThen_ok]
end
end Go.Proofs.YtbeggameiedjgaaGreatDoor.S
/-
  What stands behind a body's first n statements.
-/
namespace Go.Proofs.YtbeggameiedjgaaGreatDoor.S
open Go.RowKit
/-- what stands behind a body's first n statements -/
def rgtN : Nat → Code → Code
  | 0, c => c
  | n + 1, .seq _ b => rgtN n b
  | _ + 1, c => c
end Go.Proofs.YtbeggameiedjgaaGreatDoor.S
/-
  The law TableFinds where it asks nothing.
-/
namespace Go.Proofs.YtbeggameiedjgaaGreatDoor.S
open Go.RowKit Go.Lib Fl
/-- the law's own blocks -/
structure Lw (w : World) (k o : Ky) (d : Dq) (W : World) : Prop where
  below : Below w.heap.size w W
  k : W.heap[w.heap.size]? = some (.cells #[.string k.str, .int .i64 k.sym] 23 (0, 0))
  d : W.heap[w.heap.size + 1]? = some (.cells d.cells 28 (0, 0))
  o : W.heap[w.heap.size + 1 + 1]? = some (.cells #[.string o.str, .int .i64 o.sym] 23 (0, 0))
theorem Lw.up {w W W' : World} {k o : Ky} {d : Dq} (h : Lw w k o d W) (hb : Below W.heap.size W W') : Lw w k o d W' := ⟨vb h.below hb, vblkn hb h.k, vblkn hb h.d, vblkn hb h.o⟩
theorem lw_start (w : World) (k o : Ky) (d : Dq) : Lw w k o d (((w.alloc (.cells #[.string k.str, .int .i64 k.sym] 23)).alloc (.cells d.cells 28)).alloc (.cells #[.string o.str, .int .i64 o.sym] 23)) := by
  obtain ⟨h1, h2, h3⟩ := vblk3 (w := w) (Below.refl _ (((w.alloc (.cells #[.string k.str, .int .i64 k.sym] 23)).alloc (.cells d.cells 28)).alloc (.cells #[.string o.str, .int .i64 o.sym] 23)))
  exact ⟨vafter2 (vzero _ _), h1, h2, h3⟩
end Go.Proofs.YtbeggameiedjgaaGreatDoor.S
/-
  The law TableFinds: its last parts, from region 37, 29, 24 on. Generated: gen_tabtail.py.
-/
namespace Go.Proofs.YtbeggameiedjgaaGreatDoor.S
open Go.RowKit Go.Lib Fl
open Classical

theorem off_one (a : Addr) (m : Nat) : a.add (m + 1) = ⟨(a.add m).block, (a.add m).off + 1, none⟩ := by
  unfold Addr.add
  rw [if_neg (Nat.succ_ne_zero m)]
  split
  · rename_i e; rw [e]
  · rfl
theorem pr_key {w : World} {a : Addr} {L : List Pq} (h : PR w (some a) L) {i : Nat} (hi : i < L.length) : (a.add (i * 18)).block < w.heap.size ∧ w.cell? (a.add (i * 18)) = some (.string L[i].k.str) ∧ w.cell? ⟨(a.add (i * 18)).block, (a.add (i * 18)).off + 1, none⟩ = some (.int .i64 L[i].k.sym) := by
  obtain ⟨b, hb, hlt, hc⟩ := h (by omega)
  obtain rfl := Option.some.inj hb
  refine ⟨by rw [add_blk]; exact hlt, ?_, ?_⟩
  · exact hc i hi 0 _ rfl
  · rw [← off_one a (i * 18)]
    exact hc i hi 1 _ rfl
theorem k2_at {W : World} {A : Addr} {s : ByteArray} {y : Int} (h0 : W.cell? A = some (.string s)) (h1 : W.cell? ⟨A.block, A.off + 1, none⟩ = some (.int .i64 y)) : (Instr.loadAt 23 (.pointer (some A))).run Tryz.prog W = .ok (.agg #[.string s, .int .i64 y]) W :=
  run_loadAt_at (cs := [.string s, .int .i64 y]) (fun j v hv => by
    match j, hv with
    | 0, hv => cases hv; exact h0
    | 1, hv => cases hv; exact h1
    | n + 2, hv => cases hv) Tryz.underlying23 rfl ksz
theorem dz_good : Good (dz 0) := ⟨by decide, v0_ok, (fun _ => v0_z), (fun h => absurd h (by decide)), fun _ => v0_z, (fun h => absurd h (by decide)), fun _ => v0_z, (fun _ => rfl), (fun _ => rfl), (fun _ => rfl)⟩
theorem ok_good {p : Pq} (h : p.Ok) (hi : p.In) : Good p.d := ((whole_iff hi.2).1 h.2).1
theorem fnd_good {L : List Pq} {k : Ky} (h : TabOk L) (hi : ∀ p ∈ L, p.In) : Good (fndD L k) := by
  unfold fndD findT
  by_cases c : cutN L k < L.length
  · rw [List.getElem?_eq_getElem c]
    exact ok_good (h.all _ (List.getElem_mem c)) (hi _ (List.getElem_mem c))
  · rw [List.getElem?_eq_none (by omega)]; exact dz_good
theorem fnd_eq {L M : List Pq} {k : Ky} (h : findT M k = findT L k) : fndD M k = fndD L k ∧ (findT M k).isSome = (findT L k).isSome := by unfold fndD; rw [h]; exact ⟨rfl, rfl⟩
theorem put_in {L : List Pq} {p : Pq} (hi : ∀ p ∈ L, p.In) (hp : p.In) : ∀ q ∈ putT L p, q.In := fun q hq => by
  rcases List.mem_append.1 hq with h | h
  · exact hi q (List.mem_of_mem_take h)
  · rcases List.mem_cons.1 h with rfl | h
    · exact hp
    · exact hi q (List.mem_of_mem_drop h)
theorem drop_in {L : List Pq} {k : Ky} (hi : ∀ p ∈ L, p.In) : ∀ q ∈ dropT L k, q.In := fun q hq => by
  rcases List.mem_append.1 hq with h | h
  · exact hi q (List.mem_of_mem_take h)
  · exact hi q (List.mem_of_mem_drop h)
theorem putE_zero {L : List Pq} {p : Pq} (h : putE L p = 0) : p.Ok ∧ cutN L p.k ≠ 1024 := by
  unfold putE at h
  by_cases c : mayT p = 0
  · rw [if_pos c] at h
    by_cases e : cutN L p.k = 1024
    · rw [if_pos e] at h; exact absurd h (by decide)
    · exact ⟨mayT_ok.1 c, e⟩
  · rw [if_neg c] at h; exact absurd h c
set_option maxRecDepth 100000 in
theorem Keys_w (A : Option Addr) (L : List Pq) (cap : Nat) (w : World) (hT : TabIn w A L cap) (htab : TabHere w) : Calls Tryz.prog 12 #[.slice A L.length cap] w (KeysTo L w) := by
  have h := keys_t A L cap w hT htab
  go_enter Tryz.func12, Tryz.ntmps12
  go_wp2_with (go_at_call 34; (with_reducible refine h.mono ?_); rintro e w1 ⟨M, O, rfl, hM, hb, h9⟩)
  go_ret2
  exact ⟨M, O, rfl, hM, hb, h9⟩
/-- how many of the first i stand under other keys -/
def othN (L : List Pq) (k : Ky) (i : Nat) : Nat := ((L.take i).filter fun p => !eqK p.k k).length
theorem oth_zero (L : List Pq) (k : Ky) : othN L k 0 = 0 := rfl
theorem oth_skip {L : List Pq} {k : Ky} {i : Nat} (h : i < L.length) (e : L[i].k = k) : othN L k (i + 1) = othN L k i := by
  unfold othN
  rw [take_snoc h, List.filter_append, List.filter_cons_of_neg (by rw [eqK_iff.2 e]; simp)]; simp
theorem oth_take {L : List Pq} {k : Ky} {i : Nat} (h : i < L.length) (e : L[i].k ≠ k) : othN L k (i + 1) = othN L k i + 1 := by
  unfold othN
  rw [take_snoc h, List.filter_append, List.filter_cons_of_pos (by rw [eqK_no e]; rfl)]; simp
theorem oth_end {L : List Pq} {k : Ky} (h : TabOk L) : othN L k L.length = (dropT L k).length := by
  unfold othN
  rw [List.take_length, (drop_to h).rest]
theorem oth_at {L : List Pq} {k : Ky} {i : Nat} (hL : TabOk L) (h : i < L.length) (e : L[i].k ≠ k) : ∃ hm : othN L k i < (dropT L k).length, (dropT L k)[othN L k i].k = L[i].k := by
  have hr := (drop_to (k := k) hL).rest
  have hs : dropT L k = ((L.take i).filter fun p => !eqK p.k k) ++ (L[i] :: ((L.drop (i + 1)).filter fun p => !eqK p.k k)) := by
    rw [← hr]
    conv => lhs; rw [← List.take_append_drop i L]
    rw [List.filter_append, List.drop_eq_getElem_cons h, List.filter_cons_of_pos (by rw [eqK_no e]; rfl)]
  have hm : othN L k i < (dropT L k).length := by rw [hs, List.length_append]; unfold othN; simp
  refine ⟨hm, ?_⟩
  have : (dropT L k)[othN L k i]? = some L[i] := by rw [hs]; unfold othN; simp
  rw [List.getElem?_eq_getElem hm] at this
  rw [Option.some.inj this]
theorem seal_froz (L : List Pq) : ((!(L.any fun p => p.d.z)) || !(!(L.any fun p => (p.d.z || p.d.p)))) = true := by
  cases h : L.any fun p => p.d.z with
  | false => rfl
  | true =>
    have : (L.any fun p => (p.d.z || p.d.p)) = true := by
      obtain ⟨x, hx, e⟩ := List.any_eq_true.1 h
      exact List.any_eq_true.2 ⟨x, hx, by rw [e]; rfl⟩
    rw [this]; rfl
/-- the law's blocks, and the found one's -/
structure Lx (w : World) (k o : Ky) (d D1 : Dq) (g : Nat) (W : World) : Prop where
  l : Lw w k o d W
  f : W.heap[g]? = some (.cells D1.cells 28 (0, 0))
theorem Lx.up {w W W' : World} {k o : Ky} {d D1 : Dq} {g : Nat} (h : Lx w k o d D1 g W) (hb : Below W.heap.size W W') : Lx w k o d D1 g W' := ⟨h.l.up hb, vblkn hb h.f⟩
end Go.Proofs.YtbeggameiedjgaaGreatDoor.S
