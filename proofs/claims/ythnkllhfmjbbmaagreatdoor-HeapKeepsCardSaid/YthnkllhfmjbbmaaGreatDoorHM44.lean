/-
  The law's own: large.
-/
import Derived.Test.YthnkllhfmjbbmaaGreatDoorHM43
namespace Go.Proofs.YthnkllhfmjbbmaaGreatDoor.S
open Go.RowKit Go.Lib Fl
open Classical

def largeB (H : List Ob) : Bool := H.any fun o => decide (100 < o.props.length)
theorem large_at {H : List Ob} {i : Nat} (h : i < H.length) (e : 100 < H[i].props.length) : largeB H = true := List.any_eq_true.2 ⟨_, List.getElem_mem h, decide_eq_true e⟩
theorem large_no {H : List Ob} (h : ∀ i (h : i < H.length), ¬ 100 < H[i].props.length) : largeB H = false := by
  unfold largeB
  rw [List.any_eq_false]
  intro o ho
  obtain ⟨i, hi, rfl⟩ := List.getElem_of_mem ho
  simpa using h i hi
set_option maxRecDepth 100000 in
theorem large_many (A : Option Addr) (n cap : Nat) (w : World) (h : (60 < n ∧ n ≤ 4096) ∨ 5000 < n) : Calls Tryz.prog 21 #[.agg #[.slice A n cap]] w fun e w' => e = .returned (.bool true) ∧ Below w.heap.size w w' := by
  have q0 : (w.alloc (.cells #[.slice A n cap] 24)).cell? ⟨w.heap.size, 0, none⟩ = some (.slice A n cap) := (vcells (heap_alloc_new w _) 0).trans rfl
  have h60 : (60 : Int) < (n : Int) := by omega
  by_cases c : (n : Int) ≤ 4096
  · go_enter Tryz.func21, Tryz.ntmps21
    go_wp2
    go_ret
    exact ⟨rfl, vzero _ _⟩
  · have h5 : (5000 : Int) < (n : Int) := by omega
    go_enter Tryz.func21, Tryz.ntmps21
    go_wp2
    go_ret
    exact ⟨rfl, vzero _ _⟩
/-- large's own block -/
structure Lg (w : World) (A : Option Addr) (n cap : Nat) (W : World) : Prop where
  below : Below w.heap.size w W
  h : W.heap[w.heap.size]? = some (.cells #[.slice A n cap] 24 (0, 0))
set_option maxHeartbeats 4000000 in
set_option maxRecDepth 100000 in
theorem large_few (A : Option Addr) (H : List Ob) (cap : Nat) (w : World) (hH : HRow w A H) (h : ¬ ((60 < H.length ∧ H.length ≤ 4096) ∨ 5000 < H.length)) : Calls Tryz.prog 21 #[.agg #[.slice A H.length cap]] w fun e w' => e = .returned (.bool (largeB H)) ∧ Below w.heap.size w w' := by
  have q0 : (w.alloc (.cells #[.slice A H.length cap] 24)).cell? ⟨w.heap.size, 0, none⟩ = some (.slice A H.length cap) := (vcells (heap_alloc_new w _) 0).trans rfl
  have HS := Lib.hid (Lg.mk (A := A) (n := H.length) (cap := cap) (vzero w _) (heap_alloc_new w _))
  have hcase : (H.length : Int) ≤ 60 ∨ (60 < (H.length : Int) ∧ 4096 < (H.length : Int) ∧ (H.length : Int) ≤ 5000) := by omega
  have HH := Lib.hid hH
  clear hH h
  rcases hcase with c1 | ⟨c1, c2, c3⟩
  all_goals
    go_enter Tryz.func21, Tryz.ntmps21
    go_wp2
    go_loopg [3] H.length (fun kx s3 wr => ∃ i : Nat, s3 = .int .i64 i ∧ i + kx = H.length ∧ Hid (Lg w A H.length cap wr ∧ ∀ j (hj : j < H.length), j < i → ¬ 100 < H[j].props.length))
    case atStart => exact ⟨0, rfl, by omega, Lib.hid ⟨HS.out, fun j _ h => absurd h (Nat.not_lt_zero j)⟩⟩
    case round =>
      obtain ⟨i, rfl, hik, HR⟩ := hrel
      have q5 : wr.cell? ⟨w.heap.size, 0, none⟩ = some (.slice A H.length cap) := (vcells HR.out.1.h 0).trans rfl
      have HY := Lib.hid HR.out.1
      cases gk with
      | zero =>
        obtain rfl : i = H.length := by omega
        have hno := large_no fun j hj => HR.out.2 j hj hj
        go_wp2
        go_ret
        exact ⟨by rw [hno]; rfl, HY.out.below⟩
      | succ kx =>
        have hlt : i < H.length := by omega
        have hlz : (i : Int) < (H.length : Int) := by omega
        have hl0 : (0 : Int) ≤ (i : Int) := by omega
        obtain ⟨a, rfl, hab, hall⟩ := hrow_up HH.out HY.out.below (by omega)
        have hof := (hall i hlt).1
        clear hall
        have hc := hof.props
        have HL : Hid (∀ n, n = H[i].props.length → (100 < n → largeB H = true) ∧ (¬ 100 < n → ∀ j (hj : j < H.length), j < i + 1 → ¬ 100 < H[j].props.length)) := Lib.hid fun n hn => ⟨fun e => large_at hlt (hn ▸ e), fun e j hj hji => by
          by_cases c : j < i
          · exact HR.out.2 j hj c
          · obtain rfl : j = i := by omega
            rw [← hn]; exact e⟩
        clear hof
        generalize hN : H[i].props.length = N at *
        by_cases hb : (100 : Int) < (N : Int)
        · go_wp2
          go_ret
          exact ⟨by rw [(HL.out N rfl).1 (by omega)] <;> rfl, HY.out.below⟩
        · go_wp2
          go_roundg kx
          case measure => omega
          case rel => exact ⟨i + 1, by congr 1, by omega, Lib.hid ⟨HY.out, (HL.out N rfl).2 (by omega)⟩⟩
end Go.Proofs.YthnkllhfmjbbmaaGreatDoor.S
/-
  The law's own: spoil writes over a twin, and over nothing else.
-/
namespace Go.Proofs.YthnkllhfmjbbmaaGreatDoor.S
open Go.RowKit Go.Lib Fl
open Classical

section
variable {ops : Array Oper} {rest : List Oper} {o : Oper} {a : Act} {w : World} {Q : Exit → Act → World → Prop} {x y : Operand} {g : Nat} {t ty : TypeId}
/-- a whole thing stored into the middle of a row of the call's own -/
theorem mid_store {vs cur : List Value} {k : Nat} (hgd : o.guard = none) (ho : o.op = .store ty x y) (hx : a.eval x = .pointer (some ⟨g, k, none⟩)) (hy : a.eval y = .agg vs.toArray) (hg : w.heap[g]? = some (.cells cur.toArray t (0, 0))) (hi : (Tryz.prog.info? ty).map (·.size) = some vs.length) (hk : k + vs.length ≤ cur.length) (h1 : ∀ v ∈ vs, v.oneCell' = true)
    (h : ∀ W : World, (∀ B w0, Below B w0 w → B ≤ g → Below B w0 W) → W.heap[g]? = some (.cells (cur.take k ++ vs ++ cur.drop (k + vs.length)).toArray t (0, 0)) → (∀ j, j ≠ g → W.heap[j]? = w.heap[j]?) → wpList Tryz.prog ops Q rest (a.put o.dst undef) W) : wpList Tryz.prog ops Q (o :: rest) a w := by
  refine wpList_plain hgd fun K hK => ?_
  have hst := run_storeCells_at Tryz.prog g k t vs 0 cur.toArray w hg (by simpa using hk) h1
  rw [Nat.add_zero] at hst
  have e := h (w.setRow g (cur.take k ++ vs ++ cur.drop (k + vs.length)).toArray) (fun _ _ h1 h2 => below_row h1 h2 _) (setRow_heap _ _ _ _ _ _ hg) (fun j hj => setRow_other w g j _ hj)
  have hrun : (storeVar ty ⟨g, k, none⟩ (.agg vs.toArray)).run Tryz.prog w = .ok () (w.setRow g (cur.take k ++ vs ++ cur.drop (k + vs.length)).toArray) := by
    cases hq2 : Tryz.prog.info? ty with
    | none => rw [hq2] at hi; simp at hi
    | some i =>
      have hs : vs.length = i.size := by rw [hq2] at hi; simp at hi; omega
      simp [storeVar, sizeOf, typeInfo, hq2, Value.cells, hs] at hst ⊢
      exact hst
  unfold Oper.wp execOp
  simp only [ho, hx, hy, Instr.storeAt, Instr.sureAddr, Sem.run_bind, Sem.run_pure, Result.andThen_ok, hrun]
  exact hK _ _ e
end
def pz : Pq := ⟨⟨⟨#[]⟩, 0⟩, dz 0⟩
def o77 : Ob := ⟨77, v0, false, none, 0, [], v0, v0, ⟨#[]⟩, false, false⟩
set_option maxRecDepth 100000 in
theorem rb_pz (w : World) : (Instr.build 93 #[]).run Tryz.prog w = .ok (.agg (pcl pz).toArray) w := by kernel_rfl
set_option maxRecDepth 100000 in
theorem rb_77 (w : World) : (Instr.build 34 #[(0, .int .u8 77)]).run Tryz.prog w = .ok (.agg (ocl o77).toArray) w := by kernel_rfl
section
variable {o : Oper} {a : Act} {w : World}
theorem eb_pz (ho : o.op = .build 93 #[]) : (execOp a.eval o).run Tryz.prog w = .ok (.value (.agg (pcl pz).toArray)) w := by
  unfold execOp
  simp only [ho, List.map_toArray, List.map_nil, rb_pz, Sem.run_bind, Sem.run_pure, Result.andThen_ok]
theorem eb_77 (ho : o.op = .build 34 #[(0, .const (.int .u8 77))]) : (execOp a.eval o).run Tryz.prog w = .ok (.value (.agg (ocl o77).toArray)) w := by
  unfold execOp
  simp only [ho, List.map_toArray, List.map_cons, List.map_nil, Act.eval, rb_77, Sem.run_bind, Sem.run_pure, Result.andThen_ok]
end
/-- how far spoil has come -/
structure Sp (w : World) (n1 B n : Nat) (M : List Ob) (i : Nat) (W : World) : Prop where
  m : ∃ Mi : List Ob, Mi.length = n ∧ (∀ j (h : j < Mi.length) (h' : j < M.length), i ≤ j → Mi[j] = M[j]) ∧ (∀ j (h : j < Mi.length), j < i → Mi[j].kind = 77) ∧ W.heap[B]? = some (.cells (hcl Mi).toArray 34 (0, 0))
  p : ∀ j (h : j < M.length), ∃ (g : Nat) (cur : List Value), M[j].pa = some ⟨g, 0, none⟩ ∧ B < g ∧ g < n1 ∧ M[j].pc = M[j].props.length ∧ W.heap[g]? = some (.cells cur.toArray 93 (0, 0)) ∧ cur.length = M[j].props.length * 18
  box : W.heap[w.heap.size]? = some (.cells #[.slice (some ⟨B, 0, none⟩) n n] 24 (0, 0))
  below : Below B w W
  keep : ∀ j, n1 ≤ j → j < w.heap.size → W.heap[j]? = w.heap[j]?
  lt : B < n1 ∧ n1 ≤ w.heap.size
  len : M.length = n
theorem Sp.put {w W W' : World} {n1 B n i g : Nat} {M : List Ob} {cur cur' : List Value} (h : Sp w n1 B n M i W) (hg : B < g) (hg1 : g < n1) (hb : ∀ B w0, Below B w0 W → B ≤ g → Below B w0 W') (hc : W.heap[g]? = some (.cells cur.toArray 93 (0, 0))) (hc' : W'.heap[g]? = some (.cells cur'.toArray 93 (0, 0))) (hl : cur'.length = cur.length) (hO : ∀ j, j ≠ g → W'.heap[j]? = W.heap[j]?) : Sp w n1 B n M i W' := by
  have hlt := h.lt
  obtain ⟨Mi, m1, m2, m3, m4⟩ := h.m
  refine ⟨⟨Mi, m1, m2, m3, (hO _ (by omega)).trans m4⟩, fun j hj => ?_, (hO _ (by omega)).trans h.box, hb _ _ h.below (by omega), fun j h1 h2 => (hO j (by omega)).trans (h.keep j h1 h2), hlt, h.len⟩
  obtain ⟨g2, c2, p1, p2, p3, p4, p5, p6⟩ := h.p j hj
  by_cases c : g2 = g
  · subst c
    rw [hc] at p5
    have e : cur.toArray = c2.toArray := by simpa using p5
    have e2 : cur = c2 := by simpa using e
    exact ⟨g2, cur', p1, p2, p3, p4, hc', by rw [hl, e2]; exact p6⟩
  · exact ⟨g2, c2, p1, p2, p3, p4, (hO _ c).trans p5, p6⟩
theorem Sp.next {w W W' : World} {n1 B n i : Nat} {M Mi : List Ob} (h : Sp w n1 B n M i W) (hi : i < n) (m1 : Mi.length = n) (m2 : ∀ j (h : j < Mi.length) (h' : j < M.length), i ≤ j → Mi[j] = M[j]) (m3 : ∀ j (h : j < Mi.length), j < i → Mi[j].kind = 77)
    (hb : ∀ B' w0, Below B' w0 W → B' ≤ B → Below B' w0 W') (hc' : W'.heap[B]? = some (.cells ((hcl Mi).take (i * 18) ++ ocl o77 ++ (hcl Mi).drop (i * 18 + 18)).toArray 34 (0, 0))) (hO : ∀ j, j ≠ B → W'.heap[j]? = W.heap[j]?) : Sp w n1 B n M (i + 1) W' := by
  have hlt := h.lt
  rw [hcl_put Mi i o77 (by omega)] at hc'
  refine ⟨⟨Mi.set i o77, by rw [List.length_set]; exact m1, fun j hj h' hij => ?_, fun j hj hji => ?_, hc'⟩, fun j hj => ?_, (hO _ (by omega)).trans h.box, hb _ _ h.below (Nat.le_refl _), fun j h1 h2 => (hO j (by omega)).trans (h.keep j h1 h2), hlt, h.len⟩
  · rw [List.length_set] at hj
    rw [List.getElem_set_ne (by omega)]
    exact m2 j hj h' (by omega)
  · rw [List.length_set] at hj
    by_cases c : j = i
    · subst c; rw [List.getElem_set_self]; rfl
    · rw [List.getElem_set_ne (by omega)]; exact m3 j hj (by omega)
  · obtain ⟨g2, c2, p1, p2, p3, p4, p5, p6⟩ := h.p j hj
    exact ⟨g2, c2, p1, p2, p3, p4, (hO _ (by omega)).trans p5, p6⟩
end Go.Proofs.YthnkllhfmjbbmaaGreatDoor.S
/-
  The law's own: spoil, the walk.
-/
namespace Go.Proofs.YthnkllhfmjbbmaaGreatDoor.S
open Go.RowKit Go.Lib Fl
open Classical

theorem Sp.cell {w W : World} {n1 B n i g N : Nat} {M : List Ob} (h : Sp w n1 B n M i W) (hi : i < M.length) (hg : M[i].pa = some ⟨g, 0, none⟩) (hc : M[i].pc = M[i].props.length) (hN : M[i].props.length = N) : W.cell? ⟨B, i * 18 + 6, none⟩ = some (.slice (some ⟨g, 0, none⟩) N N) := by
  obtain ⟨Mi, m1, m2, _, m4⟩ := h.m
  have hl := h.len
  have := hcl_at Mi i (by omega) 6 (by decide)
  rw [vcells m4 (i * 18 + 6), List.getElem?_toArray, this, m2 i (by omega) hi (Nat.le_refl _)]
  show some (Value.slice M[i].pa M[i].props.length M[i].pc) = _
  rw [hg, hc, hN]
end Go.Proofs.YthnkllhfmjbbmaaGreatDoor.S
/-
  HeapApart: what the law is handed, and what stands ahead of its last statement.
-/
namespace Go.Proofs.YthnkllhfmjbbmaaGreatDoor.S
open Go.RowKit Go.Lib Fl
open Classical

/-- a heap that comes in, however many objects it has -/
structure HIn0 (w : World) (A : Option Addr) (H : List Ob) (cap : Nat) : Prop where
  inn : ∀ o ∈ H, o.In
  row : HRow w A H
  room : H.length ≤ cap
  cap63 : cap < 9223372036854775808
  nil : A = none → cap = 0
theorem kind_77 {H : List Ob} (h : mayH H = true) : ∀ i (hi : i < H.length), H[i].kind ≠ 77 := fun i hi hk => by
  have hb := (mayH_iff.1 h).2.1 i hi
  unfold mayB at hb
  simp only [Bool.and_eq_true] at hb
  have hf := hb.2.2.2
  unfold fitsB at hf
  rw [hk] at hf
  exact absurd (show false = true from hf) (by decide)
theorem small_p {H : List Ob} (h : largeB H = false) : ∀ o ∈ H, o.props.length ≤ 100000 := fun o ho => by
  unfold largeB at h
  rw [List.any_eq_false] at h
  have := h o ho
  simp at this
  omega
theorem HIn0.few {w : World} {A : Option Addr} {H : List Ob} {cap : Nat} (h : HIn0 w A H cap) (hf : H.length ≤ 5000) (hs : largeB H = false) : HIn w A H cap := ⟨h.inn, h.row, hf, fun o ho => by have := small_p hs o ho; omega, h.room, h.cap63, h.nil⟩
theorem Tw.keep {n0 B : Nat} {H M : List Ob} {W W' : World} (h : Tw n0 B H M W) (hO : ∀ j, B ≤ j → j < W.heap.size → W'.heap[j]? = W.heap[j]?) : Tw n0 B H M W' :=
  ⟨h.len, fun j h1 h2 => by obtain ⟨g, g1, g2, g3⟩ := (h.all j h1 h2).out; exact ⟨g, g1, g2, (hO g (by omega) (lt_blk g3)).trans g3⟩, (hO B (Nat.le_refl _) (lt_blk h.b)).trans h.b, h.le⟩
theorem sp_start {W1 Wx : World} {n0 B n : Nat} {H M : List Ob} (hT : Tw n0 B H M W1) (hb : Below W1.heap.size W1 Wx) (hn : H.length = n) : Sp Wx W1.heap.size B n M 0 (Wx.alloc (.cells #[.slice (some ⟨B, 0, none⟩) n n] 24)) := by
  have hB := lt_blk hT.b
  refine ⟨⟨M, by rw [hT.len, hn], fun _ _ _ _ => rfl, fun _ _ h => absurd h (Nat.not_lt_zero _), vblkn (vzero _ _) (vblkn hb hT.b)⟩, fun j hj => ?_, heap_alloc_new _ _, (vzero _ _).mono (by have := hb.size; omega), fun j _ h2 => heap_alloc_old _ _ h2, ⟨hB, hb.size⟩, by rw [hT.len, hn]⟩
  have h2 : j < H.length := by rw [← hT.len]; exact hj
  obtain ⟨g, g1, e, hg⟩ := (hT.all j hj h2).out
  rw [e]
  exact ⟨g, prCells H[j].props, rfl, by omega, lt_blk hg, rfl, vblkn (vzero _ _) (vblkn hb hg), prCells_len _⟩
/-- ahead of the last statement: the heap, the twin that was written over, the other twin -/
structure Ap (w : World) (A : Option Addr) (H : List Ob) (cap n gt gu B1 B2 : Nat) (M2 : List Ob) (W : World) : Prop where
  below : Below w.heap.size w W
  h : W.heap[w.heap.size]? = some (.cells #[.slice A n cap] 24 (0, 0))
  t : W.heap[gt]? = some (.cells #[.slice (some ⟨B1, 0, none⟩) n n] 24 (0, 0))
  u : W.heap[gu]? = some (.cells #[.slice (some ⟨B2, 0, none⟩) n n] 24 (0, 0))
  m : ∃ M1 : List Ob, M1.length = n ∧ (∀ i (h : i < M1.length), M1[i].kind = 77) ∧ W.heap[B1]? = some (.cells (hcl M1).toArray 34 (0, 0))
  tw : Tw 0 B2 H M2 W
theorem Ap.up {w : World} {A : Option Addr} {H : List Ob} {cap n gt gu B1 B2 : Nat} {M2 : List Ob} {W W' : World} (h : Ap w A H cap n gt gu B1 B2 M2 W) (hb : Below W.heap.size W W') : Ap w A H cap n gt gu B1 B2 M2 W' :=
  ⟨vb h.below hb, vblkn hb h.h, vblkn hb h.t, vblkn hb h.u, h.m.imp fun _ g => ⟨g.1, g.2.1, vblkn hb g.2.2⟩, h.tw.up hb⟩
theorem ap_of {w W1 W2 Wx W5 : World} {A : Option Addr} {H M1 M2 : List Ob} {cap n na nb B1 B2 : Nat} (hw : Below w.heap.size w Wx) (hh : Wx.heap[w.heap.size]? = some (.cells #[.slice A n cap] 24 (0, 0))) (hT1 : Tw na B1 H M1 W1) (h1 : w.heap.size < na)
    (ht : Wx.heap[W1.heap.size]? = some (.cells #[.slice (some ⟨B1, 0, none⟩) n n] 24 (0, 0))) (hu : Wx.heap[W2.heap.size]? = some (.cells #[.slice (some ⟨B2, 0, none⟩) n n] 24 (0, 0))) (hT2 : Tw nb B2 H M2 Wx) (h2 : W1.heap.size ≤ nb) (h3 : W1.heap.size ≤ W2.heap.size)
    (hS : Sp Wx W1.heap.size B1 n M1 n W5) : Ap w A H cap n W1.heap.size W2.heap.size B1 B2 M2 W5 := by
  have hle := hT1.le
  have hle2 := hT2.le
  obtain ⟨Mi, m1, _, m3, m4⟩ := hS.m
  exact ⟨hw.trans (hS.below.mono (by omega)), (hS.below.block _ (by omega)).trans hh, (hS.keep _ (Nat.le_refl _) (lt_blk ht)).trans ht, (hS.keep _ h3 (lt_blk hu)).trans hu, ⟨Mi, m1, fun i h => m3 i h (by omega), m4⟩, (hT2.keep fun j hj hj2 => hS.keep j (by omega) hj2).mono (Nat.zero_le _)⟩
end Go.Proofs.YthnkllhfmjbbmaaGreatDoor.S
/-
  HeapApart: the walk.
-/
namespace Go.Proofs.YthnkllhfmjbbmaaGreatDoor.S
open Go.RowKit Go.Lib Fl
open Classical

theorem h1_load {W : World} {v : Value} {g : Nat} (h : W.heap[g]? = some (.cells #[v] 24 (0, 0))) : (Instr.loadAt 24 (.pointer (some ⟨g, 0, none⟩))).run Tryz.prog W = .ok (.agg #[v]) W :=
  run_loadAt_at (A := ⟨g, 0, none⟩) (cs := [v]) (fun j u hu => by
    rw [Addr.add_mid, Nat.zero_add, vcells h j]
    simpa using hu) Tryz.underlying24 rfl hsz
/-- ahead of the twins -/
structure Aq (w : World) (A : Option Addr) (n cap : Nat) (W : World) : Prop where
  below : Below w.heap.size w W
  h : W.heap[w.heap.size]? = some (.cells #[.slice A n cap] 24 (0, 0))
theorem Aq.up {w : World} {A : Option Addr} {n cap : Nat} {W W' : World} (h : Aq w A n cap W) (hb : Below W.heap.size W W') : Aq w A n cap W' := ⟨vb h.below hb, vblkn hb h.h⟩
theorem Aq.q {w : World} {A : Option Addr} {n cap : Nat} {W : World} (h : Aq w A n cap W) : W.cell? ⟨w.heap.size, 0, none⟩ = some (.slice A n cap) := (vcells h.h 0).trans rfl
end Go.Proofs.YthnkllhfmjbbmaaGreatDoor.S
