/-
  heap.values$1: the iterator itself.
-/
import Derived.Test.YtlfbflclefndjaaGreatDoorKE15
import Derived.Deep.LoopGhost
import Derived.Test.YtlfbflclefndjaaGreatDoorKE09
import Derived.Deep.CutRange
import Derived.Deep.CutBlock
namespace Go.Proofs.YtlfbflclefndjaaGreatDoor.S
open Go.RowKit Go.Lib Fl Go.Shelf
open Classical
attribute [local go_sem] Oper.semAt_some

/-- what a round keeps: all that lay when the function began, and the iterator's box -/
structure KB (n0 Bn : Nat) (W W' : World) : Prop where
  size : W.heap.size ≤ W'.heap.size
  blk : ∀ b, (b < n0 ∨ b = Bn) → b < W.heap.size → W'.heap[b]? = W.heap[b]?
theorem KB.trans {n0 Bn : Nat} {X Y Z : World} (h : KB n0 Bn X Y) (g : KB n0 Bn Y Z) : KB n0 Bn X Z := ⟨Nat.le_trans h.size g.size, fun b hb hl => (g.blk b hb (Nat.lt_of_lt_of_le hl h.size)).trans (h.blk b hb hl)⟩
theorem KB.of_below {n0 Bn : Nat} {W W' : World} (h : Below W.heap.size W W') : KB n0 Bn W W' := ⟨h.size, fun b _ hl => h.block b hl⟩
theorem KB.putObj {n0 Bn l : Nat} {W : World} {o' : Obj} (h1 : n0 ≤ l) (h2 : Bn < l) : KB n0 Bn W (W.putObj l o') := ⟨by simp [World.putObj], fun b hb _ => World.putObj_heap_other (by omega)⟩
/-- all that lay when the function began lies as it lay -/
structure Kw (w W : World) : Prop where
  size : w.heap.size ≤ W.heap.size
  blk : ∀ b, b < w.heap.size → W.heap[b]? = w.heap[b]?
theorem Kw.cell {w W : World} (h : Kw w W) {p : Addr} (hp : p.block < w.heap.size) : W.cell? p = w.cell? p := World.cell?_of_block (w := w) (h.blk p.block hp)
theorem Kw.of_below {w W : World} (h : Below w.heap.size w W) : Kw w W := ⟨h.size, fun b hb => h.block b hb⟩
theorem Kw.kb {w W W' : World} {Bn : Nat} (h : Kw w W) (k : KB w.heap.size Bn W W') : Kw w W' := ⟨Nat.le_trans h.size k.size, fun b hb => (k.blk b (.inl hb) (Nat.lt_of_lt_of_le hb h.size)).trans (h.blk b hb)⟩
theorem VAt.kw {w W : World} {A : Addr} {v : Vq} (h : VAt w A v) (hb : Kw w W) : VAt W A v :=
  ⟨Nat.lt_of_lt_of_le h.lt hb.size, (hb.cell (p := A) h.lt).trans h.k, (hb.cell (p := ⟨A.block, A.off + 1, none⟩) h.lt).trans h.x, (hb.cell (p := ⟨A.block, A.off + 2, none⟩) h.lt).trans h.s, (hb.cell (p := ⟨A.block, A.off + 3, none⟩) h.lt).trans h.r⟩
theorem OF.kw {w W : World} {A : Addr} {o : Ob} (h : OF w A o) (hb : Kw w W) : OF W A o :=
  ⟨Nat.lt_of_lt_of_le h.lt hb.size, (hb.cell (p := A) h.lt).trans h.kind, h.proto.kw hb, (hb.cell (p := ⟨A.block, A.off + 5, none⟩) h.lt).trans h.ext, (hb.cell (p := ⟨A.block, A.off + 6, none⟩) h.lt).trans h.props,
   h.target.kw hb, h.handler.kw hb, (hb.cell (p := ⟨A.block, A.off + 15, none⟩) h.lt).trans h.text, (hb.cell (p := ⟨A.block, A.off + 16, none⟩) h.lt).trans h.calls, (hb.cell (p := ⟨A.block, A.off + 17, none⟩) h.lt).trans h.makes⟩
theorem pr_kw {w W : World} {A : Option Addr} {L : List Pq} (h : PR w A L) (hb : Kw w W) : PR W A L := fun hp => by
  obtain ⟨a, h1, h2, h3⟩ := h hp
  refine ⟨a, h1, Nat.lt_of_lt_of_le h2 hb.size, fun i hi j u hu => ?_⟩
  rw [hb.cell (by rw [add_blk]; exact h2)]
  exact h3 i hi j u hu
abbrev Vin := { v : Vq // v.In }
def Vin.out (v : Vin) : Vq := v.1
def encI (v : Vin) : Array Value := encV v.1
/-- the values of a property's descriptor -/
theorem pr_vals {w : World} {a : Addr} {L : List Pq} (h : PR w (some a) L) {i : Nat} (hi : i < L.length) :
    VAt w ⟨(a.add (i * 18)).block, (a.add (i * 18)).off + 3, none⟩ L[i].d.a ∧ VAt w ⟨(a.add (i * 18)).block, (a.add (i * 18)).off + 7, none⟩ L[i].d.b ∧ VAt w ⟨(a.add (i * 18)).block, (a.add (i * 18)).off + 11, none⟩ L[i].d.c := by
  obtain ⟨b, hb, hlt, hc⟩ := h (by omega)
  obtain rfl := Option.some.inj hb
  have hl : (a.add (i * 18)).block < w.heap.size := by rw [add_blk]; exact hlt
  have hcc : ∀ j u, (pcl L[i])[j]? = some u → w.cell? ((a.add (i * 18)).add j) = some u := fun j u hu => by rw [add_add]; exact hc i hi j u hu
  exact ⟨⟨hl, hcc 3 _ rfl, hcc 4 _ rfl, hcc 5 _ rfl, hcc 6 _ rfl⟩, ⟨hl, hcc 7 _ rfl, hcc 8 _ rfl, hcc 9 _ rfl, hcc 10 _ rfl⟩, ⟨hl, hcc 11 _ rfl, hcc 12 _ rfl, hcc 13 _ rfl, hcc 14 _ rfl⟩⟩
/-- what the iterator holds on to -/
structure Is (w : World) (Bn : Nat) (A : Addr) (W : World) : Prop where
  kw : Kw w W
  b : W.heap[Bn]? = some (.cells #[.pointer (some A)] 73 (0, 0))
theorem Is.kb {w W W' : World} {Bn : Nat} {A : Addr} (h : Is w Bn A W) (k : KB w.heap.size Bn W W') : Is w Bn A W' := ⟨h.kw.kb k, (k.blk Bn (.inr rfl) (lt_blk h.b)).trans h.b⟩
theorem Is.c {w W : World} {Bn : Nat} {A : Addr} (h : Is w Bn A W) : W.cell? ⟨Bn, 0, none⟩ = some (.pointer (some A)) := (vcells h.b 0).trans rfl
theorem lt_0 (m : Nat) : 0 < 3 + 3 * m := by omega
theorem lt_1 (m : Nat) : 1 < 3 + 3 * m := by omega
theorem lt_2 (m : Nat) : 2 < 3 + 3 * m := by omega
theorem len_0 {α : Type} {pre : List α} {i m : Nat} (h : pre.length = 3 + 3 * i) (hi : i < m) : pre.length < 3 + 3 * m := by omega
theorem len_1 {α : Type} {pre : List α} {x : α} {i m : Nat} (h : pre.length = 3 + 3 * i) (hi : i < m) : (pre ++ [x]).length < 3 + 3 * m := by rw [List.length_append]; show pre.length + 1 < _; omega
theorem len_2 {α : Type} {pre : List α} {x y : α} {i m : Nat} (h : pre.length = 3 + 3 * i) (hi : i < m) : (pre ++ [x] ++ [y]).length < 3 + 3 * m := by rw [List.length_append, List.length_append]; show pre.length + 1 + 1 < _; omega
theorem pre_1 (o : Ob) : [o.proto] <+: valsO o := ⟨_, rfl⟩
theorem pre_2 (o : Ob) : [o.proto, o.target] <+: valsO o := ⟨_, rfl⟩
theorem pre_3 (o : Ob) : [o.proto, o.target, o.handler] <+: valsO o := ⟨_, rfl⟩
theorem pre_n1 (o : Ob) (i : Nat) (h : i < o.props.length) : valsN o i ++ [o.props[i].d.a] <+: valsO o := List.IsPrefix.trans ⟨[o.props[i].d.b] ++ [o.props[i].d.c], by rw [vals_step o i h]; simp⟩ (vals_pre o (i + 1))
theorem pre_n2 (o : Ob) (i : Nat) (h : i < o.props.length) : valsN o i ++ [o.props[i].d.a] ++ [o.props[i].d.b] <+: valsO o := List.IsPrefix.trans ⟨[o.props[i].d.c], by rw [vals_step o i h]⟩ (vals_pre o (i + 1))
theorem pre_n3 (o : Ob) (i : Nat) (h : i < o.props.length) : valsN o i ++ [o.props[i].d.a] ++ [o.props[i].d.b] ++ [o.props[i].d.c] <+: valsO o := by rw [← vals_step o i h]; exact vals_pre o (i + 1)
set_option maxRecDepth 100000 in
set_option maxHeartbeats 2000000 in
theorem values1_in (F : Fence) (n : Nat) (hf : F.fn 56) (hro : F.round = none) (hn : 1 ≤ n) (l Bn : Nat) (w : World) (A : Addr) (o : Ob) (J Jx : List Vin → World → Prop)
    (hO : OF w A o) (hP : PR w o.pa o.props) (hin : o.In) (hfew : o.props.length < 1000000000000)
    (hY : ∀ (pre : List Vin) (x : Vin) W, J pre W → pre.length < (valsO o).length → YieldAt F (n - 1) Tryz.prog l (encI x) W fun e W' =>
      (e = .returned (.bool true) ∧ J (pre ++ [x]) W' ∧ KB w.heap.size Bn W W') ∨ (e = .returned (.bool false) ∧ Jx (pre ++ [x]) W'))
    (W : World) (hS : Is w Bn A W) (h0 : J [] W) :
    CallsIn F n Tryz.prog 56 #[.func (.yield l) #[] #[], .pointer (some ⟨Bn, 0, none⟩)] W fun e W' => (∃ v, e = .returned v) ∧
      ((∃ ys : List Vin, ys.map Vin.out = valsO o ∧ J ys W') ∨ (∃ pre : List Vin, pre.map Vin.out <+: valsO o ∧ Jx pre W')) := by
  have hlen : (valsO o).length = 3 + 3 * o.props.length := by rw [← vals_all]; exact vals_len o _ (Nat.le_refl _)
  refine callsIn_of_wp Tryz.func56 rfl hf ?_ hro
  simp only [Tryz.ntmps56, List.size_toArray, List.length_cons, List.length_nil, Nat.reduceAdd, Nat.reduceSub, Array.replicate_succ, Array.replicate_zero, List.push_toArray, List.append_toArray, List.nil_append, List.cons_append]
  obtain ⟨f1, t1, a1, b1, hy1, hR1⟩ := hY [] ⟨o.proto, hin.proto⟩ W h0 (by rw [hlen]; exact lt_0 _)
  dsimp only [encI, encV] at hy1
  have q0 := hS.c
  have o1 := hO.kw hS.kw
  have p0 := o1.proto.k
  have p1 := o1.proto.x
  have p2 := o1.proto.s
  have p3 := o1.proto.r
  have hl := o1.lt
  gi_wp2
  refine hR1.mono ?_
  rintro e W1 (⟨rfl, hJ1, hk1⟩ | ⟨rfl, hx1⟩)
  rotate_left
  · gi_wp2
    refine ⟨fun _ h => (by cases h), ?_⟩
    gi_wp2
    refine bodyPost_ret (results_none rfl _ _ _) rfl ?_
    exact ⟨⟨_, rfl⟩, .inr ⟨[⟨o.proto, hin.proto⟩], pre_1 o, hx1⟩⟩
  have hS1 := hS.kb hk1
  clear q0 o1 p0 p1 p2 p3 hl hk1 hy1 hR1
  obtain ⟨f2, t2, a2, b2, hy2, hR2⟩ := hY [⟨o.proto, hin.proto⟩] ⟨o.target, hin.target⟩ W1 hJ1 (by rw [hlen]; exact lt_1 _)
  dsimp only [encI, encV] at hy2
  have q0 := hS1.c
  have o1 := hO.kw hS1.kw
  have p0 := o1.target.k
  have p1 := o1.target.x
  have p2 := o1.target.s
  have p3 := o1.target.r
  have hl := o1.lt
  gi_wp2
  refine hR2.mono ?_
  rintro e W2 (⟨rfl, hJ2, hk2⟩ | ⟨rfl, hx2⟩)
  rotate_left
  · gi_wp2
    refine ⟨fun _ h => (by cases h), ?_⟩
    gi_wp2
    refine bodyPost_ret (results_none rfl _ _ _) rfl ?_
    exact ⟨⟨_, rfl⟩, .inr ⟨[⟨o.proto, hin.proto⟩, ⟨o.target, hin.target⟩], pre_2 o, hx2⟩⟩
  have hS2 := hS1.kb hk2
  clear q0 o1 p0 p1 p2 p3 hl hk2 hy2 hR2
  obtain ⟨f3, t3, a3, b3, hy3, hR3⟩ := hY [⟨o.proto, hin.proto⟩, ⟨o.target, hin.target⟩] ⟨o.handler, hin.handler⟩ W2 hJ2 (by rw [hlen]; exact lt_2 _)
  dsimp only [encI, encV] at hy3
  have q0 := hS2.c
  have o1 := hO.kw hS2.kw
  have p0 := o1.handler.k
  have p1 := o1.handler.x
  have p2 := o1.handler.s
  have p3 := o1.handler.r
  have hl := o1.lt
  gi_wp2
  refine hR3.mono ?_
  rintro e W3 (⟨rfl, hJ3, hk3⟩ | ⟨rfl, hx3⟩)
  rotate_left
  · gi_wp2
    refine bodyPost_ret (results_none rfl _ _ _) rfl ?_
    exact ⟨⟨_, rfl⟩, .inr ⟨[⟨o.proto, hin.proto⟩, ⟨o.target, hin.target⟩, ⟨o.handler, hin.handler⟩], pre_3 o, hx3⟩⟩
  have hS3 := hS2.kb hk3
  clear q0 o1 p0 p1 p2 p3 hl hk3 hy3 hR3
  have q0 := hS3.c
  have o1 := hO.kw hS3.kw
  have p0 := o1.props
  have hl := o1.lt
  gi_wp2
  clear q0 o1 p0 hl
  gi_loopw [35] (fun s wr => ∃ (i : Nat) (pre : List Vin), s = .int .i64 (i : Int) ∧ i ≤ o.props.length ∧ pre.map Vin.out = valsN o i ∧ J pre wr ∧ Is w Bn A wr) (fun s _ => o.props.length - (intOf s).toNat)
  case atStart => exact ⟨0, [⟨o.proto, hin.proto⟩, ⟨o.target, hin.target⟩, ⟨o.handler, hin.handler⟩], rfl, Nat.zero_le _, rfl, hJ3, hS3⟩
  case round =>
    obtain ⟨i, pre, rfl, hi, hm, hJ, hSr⟩ := hrel
    by_cases hlt : i < o.props.length
    · have hlz : (i : Int) < (o.props.length : Int) := by omega
      have hl0 : (0 : Int) ≤ (i : Int) := by omega
      have hpl : pre.length = 3 + 3 * i := by have e := congrArg List.length hm; rw [List.length_map, vals_len o i hi] at e; exact e
      obtain ⟨a, hpa, _, _⟩ := hP (by omega)
      have HPA := Lib.hid hpa
      clear hpa
      have hpin := hin.props o.props[i] (List.getElem_mem hlt)
      obtain ⟨f1, t1, a1, b1, hy1, hR1⟩ := hY (pre) ⟨o.props[i].d.a, hpin.2.a⟩ wr hJ (by rw [hlen]; exact len_0 hpl hlt)
      dsimp only [encI, encV] at hy1
      have q0 := hSr.c
      have o1 := hO.kw hSr.kw
      have p4 := o1.props
      rw [HPA.out] at p4
      have hv := pr_vals (HPA.out ▸ pr_kw hP hSr.kw : PR wr (some a) o.props) hlt
      have p0 := hv.1.k
      have p1 := hv.1.x
      have p2 := hv.1.s
      have p3 := hv.1.r
      have hl := o1.lt
      have hl2 := hv.1.lt
      dsimp only at hl2 p0 p1 p2 p3
      gi_wp2
      refine hR1.mono ?_
      rintro e W4 (⟨rfl, hJ4, hk4⟩ | ⟨rfl, hx4⟩)
      rotate_left
      · gi_wp2
        refine ⟨fun _ h => (by cases h), ?_⟩
        gi_wp2
        refine bodyPost_ret (results_none rfl _ _ _) rfl ?_
        exact ⟨⟨_, rfl⟩, .inr ⟨pre ++ [⟨o.props[i].d.a, hpin.2.a⟩], by simp only [List.map_append, List.map_cons, List.map_nil, hm]; exact pre_n1 o i hlt, hx4⟩⟩
      have hS4 := hSr.kb hk4
      clear q0 o1 p0 p1 p2 p3 p4 hl hl2 hv hk4 hy1 hR1
      obtain ⟨f2, t2, a2, b2, hy2, hR2⟩ := hY (pre ++ [⟨o.props[i].d.a, hpin.2.a⟩]) ⟨o.props[i].d.b, hpin.2.b⟩ W4 hJ4 (by rw [hlen]; exact len_1 hpl hlt)
      dsimp only [encI, encV] at hy2
      have q0 := hS4.c
      have o1 := hO.kw hS4.kw
      have p4 := o1.props
      rw [HPA.out] at p4
      have hv := pr_vals (HPA.out ▸ pr_kw hP hS4.kw : PR W4 (some a) o.props) hlt
      have p0 := hv.2.1.k
      have p1 := hv.2.1.x
      have p2 := hv.2.1.s
      have p3 := hv.2.1.r
      have hl := o1.lt
      have hl2 := hv.1.lt
      dsimp only at hl2 p0 p1 p2 p3
      gi_wp2
      refine hR2.mono ?_
      rintro e W5 (⟨rfl, hJ5, hk5⟩ | ⟨rfl, hx5⟩)
      rotate_left
      · gi_wp2
        refine ⟨fun _ h => (by cases h), ?_⟩
        gi_wp2
        refine bodyPost_ret (results_none rfl _ _ _) rfl ?_
        exact ⟨⟨_, rfl⟩, .inr ⟨pre ++ [⟨o.props[i].d.a, hpin.2.a⟩] ++ [⟨o.props[i].d.b, hpin.2.b⟩], by simp only [List.map_append, List.map_cons, List.map_nil, hm]; exact pre_n2 o i hlt, hx5⟩⟩
      have hS5 := hS4.kb hk5
      clear q0 o1 p0 p1 p2 p3 p4 hl hl2 hv hk5 hy2 hR2
      obtain ⟨f3, t3, a3, b3, hy3, hR3⟩ := hY (pre ++ [⟨o.props[i].d.a, hpin.2.a⟩] ++ [⟨o.props[i].d.b, hpin.2.b⟩]) ⟨o.props[i].d.c, hpin.2.c⟩ W5 hJ5 (by rw [hlen]; exact len_2 hpl hlt)
      dsimp only [encI, encV] at hy3
      have q0 := hS5.c
      have o1 := hO.kw hS5.kw
      have p4 := o1.props
      rw [HPA.out] at p4
      have hv := pr_vals (HPA.out ▸ pr_kw hP hS5.kw : PR W5 (some a) o.props) hlt
      have p0 := hv.2.2.k
      have p1 := hv.2.2.x
      have p2 := hv.2.2.s
      have p3 := hv.2.2.r
      have hl := o1.lt
      have hl2 := hv.1.lt
      dsimp only at hl2 p0 p1 p2 p3
      gi_wp2
      refine hR3.mono ?_
      rintro e W6 (⟨rfl, hJ6, hk6⟩ | ⟨rfl, hx6⟩)
      rotate_left
      · gi_wp2
        refine bodyPost_ret (results_none rfl _ _ _) rfl ?_
        exact ⟨⟨_, rfl⟩, .inr ⟨pre ++ [⟨o.props[i].d.a, hpin.2.a⟩] ++ [⟨o.props[i].d.b, hpin.2.b⟩] ++ [⟨o.props[i].d.c, hpin.2.c⟩], by simp only [List.map_append, List.map_cons, List.map_nil, hm]; exact pre_n3 o i hlt, hx6⟩⟩
      have hS6 := hS5.kb hk6
      clear q0 o1 p0 p1 p2 p3 p4 hl hl2 hv hk6 hy3 hR3
      gi_wp2
      go_roundw
      case rel =>
        exact ⟨i + 1, pre ++ [⟨o.props[i].d.a, hpin.2.a⟩] ++ [⟨o.props[i].d.b, hpin.2.b⟩] ++ [⟨o.props[i].d.c, hpin.2.c⟩], by congr 1, by omega, by simp only [List.map_append, List.map_cons, List.map_nil, hm]; exact (vals_step o i hlt).symm, hJ6, hS6⟩
      case measure => simp [intOf]; omega
    · have hlz : ¬ (i : Int) < (o.props.length : Int) := by omega
      obtain rfl : i = o.props.length := by omega
      gi_wp2
      go_end0
      exact ⟨⟨_, rfl⟩, .inl ⟨pre, by rw [hm, vals_all], hJ⟩⟩
/-- the iterator's contract -/
theorem values_stops (F : Fence) (n : Nat) (hf : F.fn 56) (hro : F.round = none) (hn : 1 ≤ n) (Bn : Nat) (w W0 : World) (A : Addr) (o : Ob) (hO : OF w A o) (hP : PR w o.pa o.props) (hin : o.In) (hfew : o.props.length < 1000000000000) (hS : Is w Bn A W0) :
    SeqStopsK F n Tryz.prog 56 #[.pointer (some ⟨Bn, 0, none⟩)] encI (KB w.heap.size Bn) (fun ys => ys.map Vin.out = valsO o) (fun pre => pre.map Vin.out <+: valsO o) (valsO o).length W0 := fun l J Jx W hW _ _ hY h0 =>
  values1_in F n hf hro hn l Bn w A o J Jx hO hP hin hfew hY W (hS.kb (KB.of_below hW)) h0
end Go.Proofs.YtlfbflclefndjaaGreatDoor.S
/-
  heap.indices with either closure; which properties are called length. Generated: gen_heapidx.py.
-/
namespace Go.Proofs.YtlfbflclefndjaaGreatDoor.S
open Go.RowKit Go.Lib Fl
open Classical

theorem ix_lt {s : ByteArray} {y : Int} {m : Nat} (h : ixK s y = some m) : m < 1024 := by
  unfold ixK at h
  by_cases c : y ≤ 0
  · rw [if_pos c] at h
    unfold idxO at h
    cases hR : readR s.data.toList with
    | ok n =>
      rw [hR] at h
      dsimp only at h
      by_cases d : 0 ≤ n ∧ n < 1024 ∧ s.data.toList = Lib.itoa n
      · rw [if_pos d] at h; injection h with h; omega
      · rw [if_neg d] at h; cases h
    | _ => rw [hR] at h; cases h
  · rw [if_neg c] at h; cases h
theorem dec_lt (i n : Nat) : decide ((i : Int) < (n : Int)) = decide (i < n) := by simp
theorem dec_ge (i n : Nat) : decide ((n : Int) ≤ (i : Int)) = decide (n ≤ i) := by simp
theorem lessF (g n i : Nat) (w : World) (hn : n ≤ 1024) (hc : w.cell? ⟨g, 0, none⟩ = some (.float .f64 (F n))) : Calls Tryz.prog 83 #[.int .i64 (i : Int), .pointer (some ⟨g, 0, none⟩)] w fun e w' => e = .returned (.bool (decide (i < n))) ∧ w' = w := by
  have hv := fun w => conv_run_int (floatToIntVal_F n (by omega)) w
  go_enter Tryz.func83, Tryz.ntmps83
  go_wp2
  go_ret
  exact ⟨by rw [← dec_lt]; rfl, rfl⟩
theorem geF (g i : Nat) (A : Addr) (o : Ob) (w : World) (hc : w.cell? ⟨g, 0, none⟩ = some (.pointer (some A))) (h : OF w A o) : Calls Tryz.prog 86 #[.int .i64 (i : Int), .pointer (some ⟨g, 0, none⟩)] w fun e w' => e = .returned (.bool (decide (o.text.size ≤ i))) ∧ w' = w := by
  have h1 := h.text
  have h0 := h.lt
  clear h
  go_enter Tryz.func86, Tryz.ntmps86
  go_wp2
  go_ret
  exact ⟨by rw [← dec_ge]; rfl, rfl⟩
theorem idxs_step {L : List Pq} {such : Nat → Bool} {i : Nat} (h : i < L.length) : idxs (L.drop i) such = ((match ixK L[i].k.str L[i].k.sym with | some m => such m | none => true) && idxs (L.drop (i + 1)) such) := by
  rw [List.drop_eq_getElem_cons h]; rfl
set_option maxHeartbeats 2000000 in
set_option maxRecDepth 100000 in
theorem indices_m (A : Option Addr) (L : List Pq) (cap : Nat) (g n : Nat) (w : World) (htab : TabHere w) (hin : ∀ p ∈ L, p.In) (hl : L.length < 1000000000000) (hL : PR w A L) (hn : n ≤ 1024) (hg : g < w.heap.size) (hcl : w.cell? ⟨g, 0, none⟩ = some (.float .f64 (F n))) : Calls Tryz.prog 82 #[.slice A L.length cap, .func (.func 83) #[] #[.pointer (some ⟨g, 0, none⟩)]] w fun e w' => e = .returned (.bool (idxs L (fun i => decide (i < n)))) ∧ Below w.heap.size w w' := by
  have hF := fun (i : Nat) W (hb : Below w.heap.size w W) => lessF g n i W hn ((hb.cell (p := ⟨g, 0, none⟩) hg).trans hcl)
  have HTB := Lib.hid htab
  have HF := Lib.hid hF
  clear hF
  go_enter Tryz.func82, Tryz.ntmps82
  go_wp2
  go_loopg [11] L.length (fun kx s11 wr => ∃ i : Nat, s11 = .int .i64 i ∧ i + kx = L.length ∧ Hid (idxs L (fun i => decide (i < n)) = idxs (L.drop i) (fun i => decide (i < n)) ∧ Below w.heap.size w wr))
  case atStart => exact ⟨0, rfl, by omega, Lib.hid ⟨by simp, Below.refl _ _⟩⟩
  case round =>
    obtain ⟨i, rfl, hik, H⟩ := hrel
    cases gk with
    | zero =>
      obtain rfl : i = L.length := by omega
      go_wp2
      go_ret
      refine ⟨?_, H.out.2⟩
      rw [H.out.1, List.drop_length]; rfl
    | succ kx =>
      have hlt : i < L.length := by omega
      have hlz : (i : Int) < (L.length : Int) := by omega
      obtain ⟨a, rfl, hab, hrow⟩ := pr_up hL H.out.2 (by omega)
      have hc : ∀ j u, (pcl L[i])[j]? = some u → wr.cell? ((a.add (i * 18)).add j) = some u := fun j u hu => by rw [add_add]; exact hrow i hlt j u hu
      have hst := idxs_step (such := (fun i => decide (i < n))) hlt
      have hpi := hin L[i] (List.getElem_mem hlt)
      obtain ⟨P, hP⟩ : ∃ P, P = L[i] := ⟨_, rfl⟩
      rw [← hP] at hc hst hpi
      have HS := Lib.hid (H.out.1.trans hst)
      have HB := Lib.hid H.out.2
      have hI := fun W (hb : Below w.heap.size w W) => Index_k P.k.str P.k.sym W hpi.1.1 hpi.1.2 (tab_up htab hb)
      have hi1 : (Tryz.prog.info? 68).map (·.size) = some (prA P).size := psz
      clear hP hrow hst hpi htab
      cases ho : ixK P.k.str P.k.sym with
      | none =>
        have hI2 : ∀ W (_ : Below w.heap.size w W), Calls Tryz.prog 100 #[.agg #[.string P.k.str, .int .i64 P.k.sym]] W fun e w' => e = .returned (.tuple #[.int .i64 0, .bool false]) ∧ Below W.heap.size W w' := fun W hb => by have := hI W hb; rw [ho] at this; exact this
        clear hI
        go_wp2_with (first
          | ((with_reducible refine p_load ?_ rfl rfl hc ?_); (rfl))
          | ((with_reducible refine t_store rfl rfl rfl rfl (heap_alloc_new _ _) hi1 ?_ (prA_one P) (vzero wr _) (Nat.le_refl _) ?_); (rfl); intro W hBW hW _ _; have HB := Lib.hid (vb HB.out hBW))
          | ((with_reducible refine pk_load ?_ rfl rfl hW ?_); (rfl))
          | (go_at_call 100; (with_reducible refine (hI2 _ HB.out).mono ?_); rintro e w1 ⟨rfl, h9⟩; have HB := Lib.hid (vb HB.out h9); clear h9))
        go_roundg kx
        case measure => omega
        case rel => exact ⟨i + 1, by congr 1, by omega, Lib.hid ⟨by rw [HS.out, ho]; rfl, HB.out⟩⟩
      | some m =>
        have hI2 : ∀ W (_ : Below w.heap.size w W), Calls Tryz.prog 100 #[.agg #[.string P.k.str, .int .i64 P.k.sym]] W fun e w' => e = .returned (.tuple #[.int .i64 (m : Int), .bool true]) ∧ Below W.heap.size W w' := fun W hb => by have := hI W hb; rw [ho] at this; exact this
        clear hI
        have hm : m < 1024 := ix_lt ho
        cases hq : decide (m < n) with
        | true =>
          go_wp2_with (first
            | ((with_reducible refine p_load ?_ rfl rfl hc ?_); (rfl))
            | ((with_reducible refine t_store rfl rfl rfl rfl (heap_alloc_new _ _) hi1 ?_ (prA_one P) (vzero wr _) (Nat.le_refl _) ?_); (rfl); intro W hBW hW _ _; have HB := Lib.hid (vb HB.out hBW))
            | ((with_reducible refine pk_load ?_ rfl rfl hW ?_); (rfl))
            | (go_at_call 100; (with_reducible refine (hI2 _ HB.out).mono ?_); rintro e w1 ⟨rfl, h9⟩; have HB := Lib.hid (vb HB.out h9); clear h9))
          refine (HF.out m _ HB.out).mono ?_
          rintro e w2 ⟨rfl, rfl⟩
          rw [hq]
          dsimp only
          go_wp2_with (fail)
          go_roundg kx
          case measure => omega
          case rel => exact ⟨i + 1, by congr 1, by omega, Lib.hid ⟨by rw [HS.out, ho]; exact (congrArg (· && _) (hq)).trans (Bool.true_and _), HB.out⟩⟩
        | false =>
          go_wp2_with (first
            | ((with_reducible refine p_load ?_ rfl rfl hc ?_); (rfl))
            | ((with_reducible refine t_store rfl rfl rfl rfl (heap_alloc_new _ _) hi1 ?_ (prA_one P) (vzero wr _) (Nat.le_refl _) ?_); (rfl); intro W hBW hW _ _; have HB := Lib.hid (vb HB.out hBW))
            | ((with_reducible refine pk_load ?_ rfl rfl hW ?_); (rfl))
            | (go_at_call 100; (with_reducible refine (hI2 _ HB.out).mono ?_); rintro e w1 ⟨rfl, h9⟩; have HB := Lib.hid (vb HB.out h9); clear h9))
          refine (HF.out m _ HB.out).mono ?_
          rintro e w2 ⟨rfl, rfl⟩
          rw [hq]
          dsimp only
          go_wp2_with (fail)
          go_ret
          refine ⟨?_, HB.out⟩
          rw [HS.out, ho, show (match (some m : Option Nat) with | some m => ((fun i => decide (i < n))) m | none => true) = false from hq]; rfl
set_option maxHeartbeats 2000000 in
set_option maxRecDepth 100000 in
theorem indices_b (A : Option Addr) (L : List Pq) (cap : Nat) (g : Nat) (B : Addr) (o : Ob) (w : World) (htab : TabHere w) (hin : ∀ p ∈ L, p.In) (hl : L.length < 1000000000000) (hL : PR w A L) (hg : g < w.heap.size) (hcl : w.cell? ⟨g, 0, none⟩ = some (.pointer (some B))) (hO : OF w B o) : Calls Tryz.prog 82 #[.slice A L.length cap, .func (.func 86) #[] #[.pointer (some ⟨g, 0, none⟩)]] w fun e w' => e = .returned (.bool (idxs L (fun i => decide (o.text.size ≤ i)))) ∧ Below w.heap.size w w' := by
  have hF := fun (i : Nat) W (hb : Below w.heap.size w W) => geF g i B o W ((hb.cell (p := ⟨g, 0, none⟩) hg).trans hcl) (hO.up hb)
  have HTB := Lib.hid htab
  have HF := Lib.hid hF
  clear hF
  go_enter Tryz.func82, Tryz.ntmps82
  go_wp2
  go_loopg [11] L.length (fun kx s11 wr => ∃ i : Nat, s11 = .int .i64 i ∧ i + kx = L.length ∧ Hid (idxs L (fun i => decide (o.text.size ≤ i)) = idxs (L.drop i) (fun i => decide (o.text.size ≤ i)) ∧ Below w.heap.size w wr))
  case atStart => exact ⟨0, rfl, by omega, Lib.hid ⟨by simp, Below.refl _ _⟩⟩
  case round =>
    obtain ⟨i, rfl, hik, H⟩ := hrel
    cases gk with
    | zero =>
      obtain rfl : i = L.length := by omega
      go_wp2
      go_ret
      refine ⟨?_, H.out.2⟩
      rw [H.out.1, List.drop_length]; rfl
    | succ kx =>
      have hlt : i < L.length := by omega
      have hlz : (i : Int) < (L.length : Int) := by omega
      obtain ⟨a, rfl, hab, hrow⟩ := pr_up hL H.out.2 (by omega)
      have hc : ∀ j u, (pcl L[i])[j]? = some u → wr.cell? ((a.add (i * 18)).add j) = some u := fun j u hu => by rw [add_add]; exact hrow i hlt j u hu
      have hst := idxs_step (such := (fun i => decide (o.text.size ≤ i))) hlt
      have hpi := hin L[i] (List.getElem_mem hlt)
      obtain ⟨P, hP⟩ : ∃ P, P = L[i] := ⟨_, rfl⟩
      rw [← hP] at hc hst hpi
      have HS := Lib.hid (H.out.1.trans hst)
      have HB := Lib.hid H.out.2
      have hI := fun W (hb : Below w.heap.size w W) => Index_k P.k.str P.k.sym W hpi.1.1 hpi.1.2 (tab_up htab hb)
      have hi1 : (Tryz.prog.info? 68).map (·.size) = some (prA P).size := psz
      clear hP hrow hst hpi htab
      cases ho : ixK P.k.str P.k.sym with
      | none =>
        have hI2 : ∀ W (_ : Below w.heap.size w W), Calls Tryz.prog 100 #[.agg #[.string P.k.str, .int .i64 P.k.sym]] W fun e w' => e = .returned (.tuple #[.int .i64 0, .bool false]) ∧ Below W.heap.size W w' := fun W hb => by have := hI W hb; rw [ho] at this; exact this
        clear hI
        go_wp2_with (first
          | ((with_reducible refine p_load ?_ rfl rfl hc ?_); (rfl))
          | ((with_reducible refine t_store rfl rfl rfl rfl (heap_alloc_new _ _) hi1 ?_ (prA_one P) (vzero wr _) (Nat.le_refl _) ?_); (rfl); intro W hBW hW _ _; have HB := Lib.hid (vb HB.out hBW))
          | ((with_reducible refine pk_load ?_ rfl rfl hW ?_); (rfl))
          | (go_at_call 100; (with_reducible refine (hI2 _ HB.out).mono ?_); rintro e w1 ⟨rfl, h9⟩; have HB := Lib.hid (vb HB.out h9); clear h9))
        go_roundg kx
        case measure => omega
        case rel => exact ⟨i + 1, by congr 1, by omega, Lib.hid ⟨by rw [HS.out, ho]; rfl, HB.out⟩⟩
      | some m =>
        have hI2 : ∀ W (_ : Below w.heap.size w W), Calls Tryz.prog 100 #[.agg #[.string P.k.str, .int .i64 P.k.sym]] W fun e w' => e = .returned (.tuple #[.int .i64 (m : Int), .bool true]) ∧ Below W.heap.size W w' := fun W hb => by have := hI W hb; rw [ho] at this; exact this
        clear hI
        have hm : m < 1024 := ix_lt ho
        cases hq : decide (o.text.size ≤ m) with
        | true =>
          go_wp2_with (first
            | ((with_reducible refine p_load ?_ rfl rfl hc ?_); (rfl))
            | ((with_reducible refine t_store rfl rfl rfl rfl (heap_alloc_new _ _) hi1 ?_ (prA_one P) (vzero wr _) (Nat.le_refl _) ?_); (rfl); intro W hBW hW _ _; have HB := Lib.hid (vb HB.out hBW))
            | ((with_reducible refine pk_load ?_ rfl rfl hW ?_); (rfl))
            | (go_at_call 100; (with_reducible refine (hI2 _ HB.out).mono ?_); rintro e w1 ⟨rfl, h9⟩; have HB := Lib.hid (vb HB.out h9); clear h9))
          refine (HF.out m _ HB.out).mono ?_
          rintro e w2 ⟨rfl, rfl⟩
          rw [hq]
          dsimp only
          go_wp2_with (fail)
          go_roundg kx
          case measure => omega
          case rel => exact ⟨i + 1, by congr 1, by omega, Lib.hid ⟨by rw [HS.out, ho]; exact (congrArg (· && _) (hq)).trans (Bool.true_and _), HB.out⟩⟩
        | false =>
          go_wp2_with (first
            | ((with_reducible refine p_load ?_ rfl rfl hc ?_); (rfl))
            | ((with_reducible refine t_store rfl rfl rfl rfl (heap_alloc_new _ _) hi1 ?_ (prA_one P) (vzero wr _) (Nat.le_refl _) ?_); (rfl); intro W hBW hW _ _; have HB := Lib.hid (vb HB.out hBW))
            | ((with_reducible refine pk_load ?_ rfl rfl hW ?_); (rfl))
            | (go_at_call 100; (with_reducible refine (hI2 _ HB.out).mono ?_); rintro e w1 ⟨rfl, h9⟩; have HB := Lib.hid (vb HB.out h9); clear h9))
          refine (HF.out m _ HB.out).mono ?_
          rintro e w2 ⟨rfl, rfl⟩
          rw [hq]
          dsimp only
          go_wp2_with (fail)
          go_ret
          refine ⟨?_, HB.out⟩
          rw [HS.out, ho, show (match (some m : Option Nat) with | some m => ((fun i => decide (o.text.size ≤ i))) m | none => true) = false from hq]; rfl
end Go.Proofs.YtlfbflclefndjaaGreatDoor.S
/-
  heap.boxes: a string object's own properties. Generated: gen_heapbox.py.
-/
namespace Go.Proofs.YtlfbflclefndjaaGreatDoor.S
open Go.RowKit Go.Lib Fl
open Classical

set_option maxHeartbeats 2000000 in
set_option maxRecDepth 100000 in
theorem lenF (p : Pq) (w : World) : Calls Tryz.prog 84 #[.agg (prA p)] w fun e w' => e = .returned (.bool (eqK p.k lenK)) ∧ Below w.heap.size w w' := by
  have hb0 := heap_alloc_new w (.cells (prA p) 68)
  have c0 : (w.alloc (.cells (prA p) 68)).cell? ⟨w.heap.size, 0, none⟩ = some (.string p.k.str) := (vcells hb0 0).trans rfl
  have c1 : (w.alloc (.cells (prA p) 68)).cell? ⟨w.heap.size, 1, none⟩ = some (.int .i64 p.k.sym) := (vcells hb0 1).trans rfl
  have q := key_eq 9998 p.k.str (⟨#[108, 101, 110, 103, 116, 104]⟩ : ByteArray) p.k.sym 0
  rw [show (p.k.str == (⟨#[108, 101, 110, 103, 116, 104]⟩ : ByteArray) && p.k.sym == 0) = eqK p.k lenK from rfl] at q
  have ko := fun W hg hb => of_keep (⟨#[108, 101, 110, 103, 116, 104]⟩ : ByteArray) w.heap.size w W hg hb
  have hz5 := new_lt w (.cells (prA p) 68)
  have hd := (vzero w (.cells (prA p) 68)).drew
  generalize eqK p.k lenK = b at *
  generalize hk0 : p.k.str = s at *
  generalize hk1 : p.k.sym = y at *
  clear hb0
  cases b
  all_goals
    go_enter Tryz.func84, Tryz.ntmps84
    go_wp2
    go_region_held3 (fun w' => w.heap.size < w'.heap.size ∧ Below w.heap.size w w' ∧ w'.cell? ⟨w.heap.size, 0, none⟩ = some (.string s) ∧ w'.cell? ⟨w.heap.size, 1, none⟩ = some (.int .i64 y)) (first | exact ⟨hz5, hd, c0, c1⟩ | go_keep)
      (first
        | (go_at_call 81; refine (ko _ ?_ ?_).mono ?_; (simp [*]); (simp [*]); rintro e w' ⟨rfl, hb1, hb2, hb3⟩))
    go_wp2
    go_ret
    exact ⟨rfl, by assumption⟩
set_option maxHeartbeats 2000000 in
set_option maxRecDepth 100000 in
theorem indexL (A : Option Addr) (L : List Pq) (cap : Nat) (w : World) (hl : L.length < 1000000000000) (hL : PR w A L) : Calls Tryz.prog 101 #[.slice A L.length cap, .func (.func 84) #[] #[]] w fun e w' => ∃ n : Int, e = .returned (.int .i64 n) ∧ (decide (0 ≤ n) = L.any fun p => eqK p.k lenK) ∧ Below w.heap.size w w' := by
  go_enter Tryz.func101, Tryz.ntmps101
  go_wp2
  go_loopg [8] L.length (fun kx s8 wr => ∃ i : Nat, s8 = .int .i64 i ∧ i + kx = L.length ∧ Hid ((L.any fun p => eqK p.k lenK) = ((L.drop i).any fun p => eqK p.k lenK) ∧ Below w.heap.size w wr))
  case atStart => exact ⟨0, rfl, by omega, Lib.hid ⟨by simp, Below.refl _ _⟩⟩
  case round =>
    obtain ⟨i, rfl, hik, H⟩ := hrel
    cases gk with
    | zero =>
      obtain rfl : i = L.length := by omega
      go_wp2
      go_ret
      refine ⟨-1, rfl, ?_, H.out.2⟩
      rw [H.out.1, List.drop_length]; rfl
    | succ kx =>
      have hlt : i < L.length := by omega
      have hlz : (i : Int) < (L.length : Int) := by omega
      obtain ⟨a, rfl, hab, hrow⟩ := pr_up hL H.out.2 (by omega)
      have hc : ∀ j u, (pcl L[i])[j]? = some u → wr.cell? ((a.add (i * 18)).add j) = some u := fun j u hu => by rw [add_add]; exact hrow i hlt j u hu
      have hstep : ((L.drop i).any fun p => eqK p.k lenK) = (eqK L[i].k lenK || ((L.drop (i + 1)).any fun p => eqK p.k lenK)) := by rw [List.drop_eq_getElem_cons hlt]; rfl
      have hF := fun W => lenF L[i] W
      obtain ⟨P, hP⟩ : ∃ P, P = L[i] := ⟨_, rfl⟩
      rw [← hP] at hc hstep hF
      have HS := Lib.hid (H.out.1.trans hstep)
      clear hP hrow hstep
      cases hq : eqK P.k lenK with
      | true =>
        rw [hq] at hF
        go_wp2_with ((with_reducible refine p_load ?_ rfl rfl hc ?_); (rfl))
        refine (hF _).mono ?_
        rintro e w1 ⟨rfl, h9⟩
        have HB := Lib.hid (vb H.out.2 h9)
        clear h9
        dsimp only
        go_wp2_with (fail)
        go_ret
        refine ⟨(i : Int), rfl, ?_, HB.out⟩
        rw [HS.out, hq]; simp
      | false =>
        rw [hq] at hF
        go_wp2_with ((with_reducible refine p_load ?_ rfl rfl hc ?_); (rfl))
        refine (hF _).mono ?_
        rintro e w1 ⟨rfl, h9⟩
        have HB := Lib.hid (vb H.out.2 h9)
        clear h9
        dsimp only
        go_wp2_with (fail)
        go_roundg kx
        case measure => omega
        case rel => exact ⟨i + 1, by congr 1, by omega, Lib.hid ⟨by rw [HS.out, hq]; rfl, HB.out⟩⟩
set_option maxRecDepth 100000 in
theorem containsL (A : Option Addr) (L : List Pq) (cap : Nat) (w : World) (hl : L.length < 1000000000000) (hL : PR w A L) : Calls Tryz.prog 85 #[.slice A L.length cap, .func (.func 84) #[] #[]] w fun e w' => e = .returned (.bool (L.any fun p => eqK p.k lenK)) ∧ Below w.heap.size w w' := by
  have hI := indexL A L cap w hl hL
  go_enter Tryz.func85, Tryz.ntmps85
  go_wp2_with (go_at_call 101; (with_reducible refine hI.mono ?_); rintro e w1 ⟨n, rfl, hn, hb⟩)
  go_ret
  exact ⟨by rw [← hn]; rfl, hb⟩
/-- what boxes holds on to -/
structure Bx (w : World) (B : Addr) (o : Ob) (W : World) : Prop where
  below : Below w.heap.size w W
  b : W.heap[w.heap.size]? = some (.cells #[.pointer (some B)] 73 (0, 0))
  of : OF W B o
theorem Bx.up {w W W' : World} {B : Addr} {o : Ob} (h : Bx w B o W) (hb : Below W.heap.size W W') : Bx w B o W' := ⟨vb h.below hb, vblkn hb h.b, h.of.up hb⟩
theorem Bx.c {w W : World} {B : Addr} {o : Ob} (h : Bx w B o W) : W.cell? ⟨w.heap.size, 0, none⟩ = some (.pointer (some B)) := (vcells h.b 0).trans rfl
theorem bx_start {w : World} {B : Addr} {o : Ob} (h : OF w B o) : Bx w B o (w.alloc (.cells #[.pointer (some B)] 73)) := ⟨vzero _ _, heap_alloc_new w _, h.up (vzero _ _)⟩
set_option maxHeartbeats 2000000 in
set_option maxRecDepth 100000 in
theorem boxes_h (B : Addr) (o : Ob) (w : World) (h : OF w B o) (hin : o.In) (hfew : o.props.length < 1000000000000) (hP : PR w o.pa o.props) (htab : TabHere w) : Calls Tryz.prog 62 #[.pointer (some B)] w fun e w' => e = .returned (.bool (boxesB o)) ∧ Below w.heap.size w w' := by
  have HB := Lib.hid (bx_start h)
  have cC := fun W (hb : Below w.heap.size w W) => containsL o.pa o.props o.pc W hfew (pr_up hP hb)
  have cI := fun W (hx : Bx w B o W) => indices_b o.pa o.props o.pc w.heap.size B o W (tab_up htab hx.below) hin.props hfew (pr_up hP hx.below) (lt_blk hx.b) hx.c hx.of
  have q0 := HB.out.c
  have q1 := HB.out.of.text
  have q2 := HB.out.of.props
  have q3 := HB.out.of.lt
  unfold boxesB
  by_cases hs : o.text.size ≤ 4096
  · have hz : ¬ (4096 : Int) < (o.text.size : Int) := by omega
    rw [decide_eq_true hs]
    cases ha : (o.props.any fun p => eqK p.k lenK) with
    | true =>
      rw [ha] at cC
      go_enter Tryz.func62, Tryz.ntmps62
      go_wp2_with (go_at_call 85; (with_reducible refine (cC _ HB.out.below).mono ?_); rintro e w1 ⟨rfl, h9⟩; have HB := Lib.hid (HB.out.up h9); clear h9)
      go_ret
      exact ⟨rfl, HB.out.below⟩
    | false =>
      rw [ha] at cC
      go_enter Tryz.func62, Tryz.ntmps62
      go_wp2_with (first
        | (go_at_call 85; (with_reducible refine (cC _ HB.out.below).mono ?_); rintro e w1 ⟨rfl, h9⟩; have HB := Lib.hid (HB.out.up h9); have q0 := HB.out.c; have q1 := HB.out.of.text; have q2 := HB.out.of.props; have q3 := HB.out.of.lt; clear h9)
        | (go_at_call 82; (with_reducible refine (cI _ HB.out).mono ?_); rintro e w1 ⟨rfl, h9⟩; have HB := Lib.hid (HB.out.up h9); clear h9))
      go_ret
      exact ⟨rfl, HB.out.below⟩
  · have hz : (4096 : Int) < (o.text.size : Int) := by omega
    rw [decide_eq_false hs]
    go_enter Tryz.func62, Tryz.ntmps62
    go_wp2
    go_ret
    exact ⟨rfl, HB.out.below⟩
end Go.Proofs.YtlfbflclefndjaaGreatDoor.S
/-
  heap.holds, revokes, leads.
-/
namespace Go.Proofs.YtlfbflclefndjaaGreatDoor.S
open Go.RowKit Go.Lib Fl
open Classical

theorem ok_ref {v : Vq} (h : v.Ok) (ho : objQ v = true) : 0 ≤ v.r := by
  obtain ⟨u, ok, e1, _, _, e4⟩ := h
  cases u with
  | obj k r => rw [← e4]; exact ok.2.1
  | _ =>
    exfalso
    unfold objQ at ho
    rw [← e1] at ho
    exact absurd ho (by simp only [Vl.kd]; decide)
theorem may_ok {v : Vq} (h : v.may = true) : v.Ok := mayI_iff.1 h
theorem holds_at {H : List Ob} {v : Vq} {n : Nat} (h : n < H.length) (e : v.r = n) : refB H v = (v.k == kindO H[n]) := by
  unfold refB
  rw [e, Int.toNat_natCast, List.getElem?_eq_getElem h]
theorem holds_out {H : List Ob} {v : Vq} {n : Nat} (h : ¬ n < H.length) (e : v.r = n) : refB H v = false := by
  unfold refB
  rw [e, Int.toNat_natCast, List.getElem?_eq_none (by omega)]
/-- what holds holds on to -/
structure Hh (w : World) (A : Option Addr) (n cap : Nat) (k : Int) (x : Nat) (s : ByteArray) (r : Int) (W : World) : Prop where
  below : Below w.heap.size w W
  h : W.cell? ⟨w.heap.size, 0, none⟩ = some (.slice A n cap)
  v : W.heap[w.heap.size + 1]? = some (.cells #[.int .u8 k, .float .f64 x, .string s, .int .i64 r] 34 (0, 0))
  lt : w.heap.size + 1 < W.heap.size
theorem hh_start (w : World) (A : Option Addr) (n cap : Nat) (k : Int) (x : Nat) (s : ByteArray) (r : Int) : Hh w A n cap k x s r ((w.alloc (.cells #[.slice A n cap] 24)).alloc (.cells #[.int .u8 k, .float .f64 x, .string s, .int .i64 r] 34)) := by
  obtain ⟨b1, b2⟩ := vblk2 (w := w) (Below.refl _ ((w.alloc (.cells #[.slice A n cap] 24)).alloc (.cells #[.int .u8 k, .float .f64 x, .string s, .int .i64 r] 34)))
  exact ⟨vafter (vzero _ _), (vcells b1 0).trans rfl, b2, by simp⟩
theorem Hh.up {w W W' : World} {A : Option Addr} {n cap : Nat} {k : Int} {x : Nat} {s : ByteArray} {r : Int} (h : Hh w A n cap k x s r W) (hb : Below W.heap.size W W') : Hh w A n cap k x s r W' :=
  ⟨vb h.below hb, (hb.cell (p := ⟨w.heap.size, 0, none⟩) (by have := h.lt; show w.heap.size < _; omega)).trans h.h, vblkn hb h.v, Nat.lt_of_lt_of_le h.lt hb.size⟩
set_option maxHeartbeats 2000000 in
set_option maxRecDepth 100000 in
theorem holds_h (A : Option Addr) (H : List Ob) (cap : Nat) (v : Vq) (w : World) (hH : HIn w A H cap) (hv : v.In) : Calls Tryz.prog 34 #[.agg #[.slice A H.length cap], .agg #[.int .u8 v.k, .float .f64 v.x, .string v.s, .int .i64 v.r]] w fun e w' => e = .returned (.bool (holdsB H v)) ∧ Below w.heap.size w w' := by
  have c1 := fun w => may_i (sa := v.s) hv w
  have c2 := fun w => IsObject_q v hv.1 w
  have HS := Lib.hid (hh_start w A H.length cap v.k v.x v.s v.r)
  have hmay : v.may = mayI v.k v.x v.s v.r := rfl
  rw [← hmay] at c1
  unfold holdsB
  obtain ⟨q0, q1, q2, q3, _⟩ := vc4 HS.out.v
  cases hm : v.may with
  | false =>
    rw [hm] at c1
    go_enter Tryz.func34, Tryz.ntmps34
    go_wp2_with (go_at_call 57; (with_reducible refine (c1 _).mono ?_); rintro e w1 ⟨rfl, h9⟩; have HS := Lib.hid (HS.out.up h9); clear h9)
    go_ret
    exact ⟨rfl, HS.out.below⟩
  | true =>
    rw [hm] at c1
    have hr0 := fun ho => ok_ref (may_ok hm) ho
    cases ho : objQ v with
    | false =>
      rw [ho] at c2
      go_enter Tryz.func34, Tryz.ntmps34
      go_wp2_with (first
        | (go_at_call 57; (with_reducible refine (c1 _).mono ?_); rintro e w1 ⟨rfl, h9⟩; have HS := Lib.hid (HS.out.up h9); obtain ⟨q0, q1, q2, q3, _⟩ := vc4 HS.out.v; clear h9)
        | (go_at_call 26; (with_reducible refine (c2 _).mono ?_); rintro e w2 ⟨rfl, h9⟩; have HS := Lib.hid (HS.out.up h9); clear h9))
      go_ret
      exact ⟨rfl, HS.out.below⟩
    | true =>
      rw [ho] at c2
      obtain ⟨n, hn⟩ := Int.eq_ofNat_of_zero_le (hr0 ho)
      by_cases hlt : n < H.length
      · rw [holds_at hlt hn]
        obtain ⟨a, rfl, hab, hof, _⟩ := hH.at hlt
        have hK := fun W (hb : Below w.heap.size w W) => kind_h (a.add (n * 18)) H[n] W (hof.up hb)
        generalize H[n] = o at *
        obtain ⟨k, x, s, r⟩ := v
        dsimp only at *
        subst hn
        have hlz : (n : Int) < (H.length : Int) := by omega
        have hl0 : (0 : Int) ≤ (n : Int) := by omega
        go_enter Tryz.func34, Tryz.ntmps34
        go_wp2_with (first
          | (go_at_call 57; (with_reducible refine (c1 _).mono ?_); rintro e w1 ⟨rfl, h9⟩; have HS := Lib.hid (HS.out.up h9); obtain ⟨q0, q1, q2, q3, _⟩ := vc4 HS.out.v; clear h9)
          | (go_at_call 26; (with_reducible refine (c2 _).mono ?_); rintro e w2 ⟨rfl, h9⟩; have HS := Lib.hid (HS.out.up h9); obtain ⟨q0, q1, q2, q3, _⟩ := vc4 HS.out.v; have q4 := HS.out.h; clear h9))
        go_quiet ((go_at_call 58; exact Calls.quiet_of_same (hK _ (tdrewN HS.out.below _))))
        all_goals go_wp2
        all_goals go_ret
        all_goals exact ⟨rfl, tdrewN HS.out.below _⟩
      · rw [holds_out hlt hn]
        obtain ⟨k, x, s, r⟩ := v
        dsimp only at *
        subst hn
        have hlz : ¬ (n : Int) < (H.length : Int) := by omega
        go_enter Tryz.func34, Tryz.ntmps34
        go_wp2_with (first
          | (go_at_call 57; (with_reducible refine (c1 _).mono ?_); rintro e w1 ⟨rfl, h9⟩; have HS := Lib.hid (HS.out.up h9); obtain ⟨q0, q1, q2, q3, _⟩ := vc4 HS.out.v; clear h9)
          | (go_at_call 26; (with_reducible refine (c2 _).mono ?_); rintro e w2 ⟨rfl, h9⟩; have HS := Lib.hid (HS.out.up h9); obtain ⟨q0, q1, q2, q3, _⟩ := vc4 HS.out.v; have q4 := HS.out.h; clear h9))
        go_quiet (fail)
        all_goals go_wp2
        all_goals go_ret
        all_goals exact ⟨rfl, tdrewN HS.out.below _⟩
end Go.Proofs.YtlfbflclefndjaaGreatDoor.S
/-
  The law TableFinds where it asks nothing.
-/
namespace Go.Proofs.YtlfbflclefndjaaGreatDoor.S
open Go.RowKit Go.Lib Fl
/-- the law's own blocks -/
structure Lw (w : World) (k o : Ky) (d : Dq) (W : World) : Prop where
  below : Below w.heap.size w W
  k : W.heap[w.heap.size]? = some (.cells #[.string k.str, .int .i64 k.sym] 26 (0, 0))
  d : W.heap[w.heap.size + 1]? = some (.cells d.cells 41 (0, 0))
  o : W.heap[w.heap.size + 1 + 1]? = some (.cells #[.string o.str, .int .i64 o.sym] 26 (0, 0))
theorem Lw.up {w W W' : World} {k o : Ky} {d : Dq} (h : Lw w k o d W) (hb : Below W.heap.size W W') : Lw w k o d W' := ⟨vb h.below hb, vblkn hb h.k, vblkn hb h.d, vblkn hb h.o⟩
end Go.Proofs.YtlfbflclefndjaaGreatDoor.S
/-
  The law TableFinds: its last parts, from region 37, 29, 24 on. Generated: gen_tabtail.py.
-/
namespace Go.Proofs.YtlfbflclefndjaaGreatDoor.S
open Go.RowKit Go.Lib Fl
open Classical

theorem off_one (a : Addr) (m : Nat) : a.add (m + 1) = ⟨(a.add m).block, (a.add m).off + 1, none⟩ := by
  unfold Addr.add
  rw [if_neg (Nat.succ_ne_zero m)]
  split
  · rename_i e; rw [e]
  · rfl
theorem pr_key {w : World} {a : Addr} {L : List Pq} (h : PR w (some a) L) {i : Nat} (hi : i < L.length) : (a.add (i * 18)).block < w.heap.size ∧ w.cell? (a.add (i * 18)) = some (.string L[i].k.str) ∧ w.cell? ⟨(a.add (i * 18)).block, (a.add (i * 18)).off + 1, none⟩ = some (.int .i64 L[i].k.sym) := by
  obtain ⟨b, hb, hlt, hc⟩ := h (by omega)
  obtain rfl := Option.some.inj hb
  refine ⟨by rw [add_blk]; exact hlt, ?_, ?_⟩
  · exact hc i hi 0 _ rfl
  · rw [← off_one a (i * 18)]
    exact hc i hi 1 _ rfl
theorem k2_at {W : World} {A : Addr} {s : ByteArray} {y : Int} (h0 : W.cell? A = some (.string s)) (h1 : W.cell? ⟨A.block, A.off + 1, none⟩ = some (.int .i64 y)) : (Instr.loadAt 26 (.pointer (some A))).run Tryz.prog W = .ok (.agg #[.string s, .int .i64 y]) W :=
  run_loadAt_at (cs := [.string s, .int .i64 y]) (fun j v hv => by
    match j, hv with
    | 0, hv => cases hv; exact h0
    | 1, hv => cases hv; exact h1
    | n + 2, hv => cases hv) Tryz.underlying26 rfl ksz
theorem same_full {d : Dq} (g : Good d) (w : World) : Calls Tryz.prog 13 #[.agg d.cells, .agg d.cells] w fun e w' => e = .returned (.bool true) ∧ Below w.heap.size w w' := by
  have k := good_kinds g
  have e : sameD d.h d.h (sameQ d.a d.a) (sameQ d.b d.b) (sameQ d.c d.c) d.p d.p d.q d.q d.z d.z = true := sameD_true (fun _ => same_refl g.a) (fun h => same_refl (g.b h).1) (fun h => same_refl (g.c h).1) (fun _ => rfl) (fun _ => rfl) (fun _ => rfl)
  have := Same_q (a := d) (b := d) k ⟨k.1.1, k.2.1.1, k.2.2.1⟩ w
  rw [e] at this
  exact this
theorem ok_good {p : Pq} (h : p.Ok) (hi : p.In) : Good p.d := ((whole_iff hi.2).1 h.2).1
theorem put_in {L : List Pq} {p : Pq} (hi : ∀ p ∈ L, p.In) (hp : p.In) : ∀ q ∈ putT L p, q.In := fun q hq => by
  rcases List.mem_append.1 hq with h | h
  · exact hi q (List.mem_of_mem_take h)
  · rcases List.mem_cons.1 h with rfl | h
    · exact hp
    · exact hi q (List.mem_of_mem_drop h)
theorem drop_in {L : List Pq} {k : Ky} (hi : ∀ p ∈ L, p.In) : ∀ q ∈ dropT L k, q.In := fun q hq => by
  rcases List.mem_append.1 hq with h | h
  · exact hi q (List.mem_of_mem_take h)
  · exact hi q (List.mem_of_mem_drop h)
set_option maxRecDepth 100000 in
theorem Keys_w (A : Option Addr) (L : List Pq) (cap : Nat) (w : World) (hT : TabIn w A L cap) (htab : TabHere w) : Calls Tryz.prog 76 #[.slice A L.length cap] w (KeysTo L w) := by
  have h := keys_t A L cap w hT htab
  go_enter Tryz.func76, Tryz.ntmps76
  go_wp2_with (go_at_call 95; (with_reducible refine h.mono ?_); rintro e w1 ⟨M, O, rfl, hM, hb, h9⟩)
  go_ret2
  exact ⟨M, O, rfl, hM, hb, h9⟩
/-- how many of the first i stand under other keys -/
def othN (L : List Pq) (k : Ky) (i : Nat) : Nat := ((L.take i).filter fun p => !eqK p.k k).length
/-- the law's blocks, and the found one's -/
structure Lx (w : World) (k o : Ky) (d D1 : Dq) (g : Nat) (W : World) : Prop where
  l : Lw w k o d W
  f : W.heap[g]? = some (.cells D1.cells 41 (0, 0))
theorem Lx.up {w W W' : World} {k o : Ky} {d D1 : Dq} {g : Nat} (h : Lx w k o d D1 g W) (hb : Below W.heap.size W W') : Lx w k o d D1 g W' := ⟨h.l.up hb, vblkn hb h.f⟩
end Go.Proofs.YtlfbflclefndjaaGreatDoor.S
