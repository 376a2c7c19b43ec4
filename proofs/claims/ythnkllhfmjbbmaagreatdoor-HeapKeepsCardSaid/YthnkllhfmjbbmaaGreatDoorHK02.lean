/-
  HeapKeeps: heaps that lie somewhere, held against one another.
-/
import Derived.Test.YthnkllhfmjbbmaaGreatDoorHK01
namespace Go.Proofs.YthnkllhfmjbbmaaGreatDoor.S
open Go.RowKit Go.Lib Fl
open Classical

/-- a heap lies there -/
structure HL (w : World) (A : Option Addr) (M : List Ob) : Prop where
  row : ORow w A M
  pr : ∀ o ∈ M, PR w o.pa o.props
  few : ∀ o ∈ M, o.props.length ≤ 100000
theorem HL.up {w W : World} {A : Option Addr} {M : List Ob} (h : HL w A M) (hb : Below w.heap.size w W) : HL W A M := ⟨h.row.up hb, fun o ho => pr_up (h.pr o ho) hb, h.few⟩
theorem hl_in {w : World} {A : Option Addr} {H : List Ob} {cap : Nat} (h : HIn w A H cap) (hp : ∀ o ∈ H, o.props.length ≤ 100000) : HL w A H :=
  ⟨orow_h h.row, fun o ho => by obtain ⟨i, hi, rfl⟩ := List.getElem_of_mem ho; exact (h.at hi).choose_spec.2.2.2, hp⟩
theorem hl_tw {n0 B : Nat} {H M : List Ob} {W : World} (h : Tw n0 B H M W) (hp : ∀ o ∈ H, o.props.length ≤ 100000) : HL W (some ⟨B, 0, none⟩) M := by
  refine ⟨orow_b h.b, fun o ho => ?_, fun o ho => ?_⟩
  all_goals
    obtain ⟨i, hi, rfl⟩ := List.getElem_of_mem ho
    have hiH : i < H.length := by rw [← h.len]; exact hi
    obtain ⟨g, _, e, hg⟩ := (h.all i hi hiH).out
    rw [e]
  · exact pr_blk hg
  · exact hp H[i] (List.getElem_mem hiH)
theorem hl_one {w : World} {B : Nat} {o : Ob} (hb : w.heap[B]? = some (.cells (obA o) 34 (0, 0))) (hp : PR w o.pa o.props) (hl : o.props.length ≤ 100000) : HL w (some ⟨B, 0, none⟩) [o] :=
  ⟨orow_b (M := [o]) (t := 34) (by rw [hb]; simp [hcl, obA]), fun p h => by obtain rfl := List.mem_singleton.1 h; exact hp, fun p h => by obtain rfl := List.mem_singleton.1 h; exact hl⟩
theorem HL.take {w : World} {A : Option Addr} {M : List Ob} (h : HL w A M) (n : Nat) : HL w A (M.take n) := by
  refine ⟨fun hp => ?_, fun o ho => h.pr o (List.mem_of_mem_take ho), fun o ho => h.few o (List.mem_of_mem_take ho)⟩
  rw [List.length_take] at hp
  obtain ⟨a, h1, h2, h3⟩ := h.row (by omega)
  refine ⟨a, h1, h2, fun i hi j u hu => ?_⟩
  rw [List.length_take] at hi
  rw [List.getElem_take] at hu
  exact h3 i (by omega) j u hu
theorem HL.drop {w : World} {B : Nat} {M : List Ob} (h : HL w (some ⟨B, 0, none⟩) M) (n : Nat) : HL w (some ⟨B, n * 18, none⟩) (M.drop n) := by
  refine ⟨fun hp => ?_, fun o ho => h.pr o (List.mem_of_mem_drop ho), fun o ho => h.few o (List.mem_of_mem_drop ho)⟩
  rw [List.length_drop] at hp
  obtain ⟨a, h1, h2, h3⟩ := h.row (by omega)
  obtain rfl := Option.some.inj h1
  refine ⟨_, rfl, h2, fun i hi j u hu => ?_⟩
  rw [List.length_drop] at hi
  rw [List.getElem_drop] at hu
  have := h3 (n + i) (by omega) j u hu
  have e : ((⟨B, 0, none⟩ : Addr).add ((n + i) * 18)).add j = ((⟨B, n * 18, none⟩ : Addr).add (i * 18)).add j := by
    rw [add_add, add_add, Addr.add_mid, Addr.add_mid]
    congr 1
    omega
  rw [← e]
  exact this
theorem bare_eq {X Y : Ob} (h : X.bare = Y.bare) : ({ X with pa := Y.pa, pc := Y.pc } : Ob) = Y := by
  cases X; cases Y
  simp only [Ob.bare, Ob.mk.injEq] at h ⊢
  exact ⟨h.1, h.2.1, h.2.2.1, trivial, trivial, h.2.2.2.2.2.1, h.2.2.2.2.2.2⟩
theorem bare_props {X Y : Ob} (h : X.bare = Y.bare) : X.props = Y.props := by
  have := congrArg Ob.props h
  exact this
theorem bare_at {M H : List Ob} (h : M.map Ob.bare = H.map Ob.bare) (i : Nat) (h1 : i < M.length) (h2 : i < H.length) : M[i].bare = H[i].bare := by
  have := congrArg (fun l => l[i]?) h
  simp only [getB, List.getElem?_eq_getElem h1, List.getElem?_eq_getElem h2, Option.map_some] at this
  exact Option.some.inj this
/-- heaps that differ in where their properties lie alone are the same -/
theorem same_hl {M H : List Ob} (n : Nat) (A B : Option Addr) (ca cb : Nat) (w : World) (hM : HL w A M) (hH : HL w B H) (hb : M.map Ob.bare = H.map Ob.bare) (hl : M.length = n) (hn : n ≤ 1000000) :
    Calls Tryz.prog 23 #[.agg #[.slice A n ca], .agg #[.slice B n cb]] w fun e w' => e = .returned (.bool true) ∧ Below w.heap.size w w' := by
  have hl2 : H.length = n := by have := congrArg List.length hb; rw [List.length_map, List.length_map] at this; omega
  refine Same_h true M H n A B ca cb w hl hl2 hM.row hH.row hn fun i h1 h2 W hW => ?_
  have e := bare_at hb i h1 h2
  have := sameobj_like M[i] H[i].pa H[i].pc W (pr_up (hM.pr _ (List.getElem_mem h1)) hW) (by rw [bare_props e]; exact pr_up (hH.pr _ (List.getElem_mem h2)) hW) (by have := hM.few _ (List.getElem_mem h1); omega)
  rw [bare_eq e] at this
  exact this
theorem hput_bare {H M : List Ob} {k : Nat} {o p : Ob} (h : M.map Ob.bare = H.map Ob.bare) (ho : o.bare = p.bare) (hk : k < H.length) : (hput M k o).map Ob.bare = (hput H k p).map Ob.bare := by
  have hl : M.length = H.length := by have := congrArg List.length h; rwa [List.length_map, List.length_map] at this
  rw [hput_old H k p hk, hput_old M k o (by omega), List.map_set, List.map_set, h, ho]
theorem hput_back {H : List Ob} {k : Nat} {o p : Ob} (hk : k < H.length) (hp : p.bare = H[k].bare) : (hput (hput H k o) k p).map Ob.bare = H.map Ob.bare := by
  rw [hput_old H k o hk, hput_old _ k p (by simpa using hk), List.map_set, List.map_set, hp, List.set_set]
  refine List.ext_getElem (by simp) fun i h1 h2 => ?_
  rw [List.getElem_set]
  split
  · rename_i e; subst e; simp
  · rfl
theorem hput_k {H : List Ob} {k : Nat} {o : Ob} (hk : k < H.length) (h : k < (hput H k o).length) : (hput H k o)[k] = o := by
  simp only [hput_old H k o hk, List.getElem_set_self]
theorem at_bare (o : Ob) (g : Nat) : (o.at g).bare = o.bare := rfl
theorem run_slice_o (o : Ob) (w : World) : (Instr.buildSlice 22 1 #[(0, .agg (obA o))]).run Tryz.prog w = .ok (.slice (some ⟨w.heap.size, 0, none⟩) 1 1) (w.alloc (.cells (obA o) 34)) := by kernel_rfl
section
variable {ops : Array Oper} {rest : List Oper} {o : Oper} {a : Act} {w : World} {Q : Exit → Act → World → Prop} {x y : Operand}
theorem eb_o {ob : Ob} (ho : o.op = .buildSlice 22 1 #[(0, x)]) (hx : a.eval x = .agg (obA ob)) : (execOp a.eval o).run Tryz.prog w = .ok (.value (.slice (some ⟨w.heap.size, 0, none⟩) 1 1)) (w.alloc (.cells (obA ob) 34)) := by
  have he := run_slice_o ob w
  unfold execOp
  simp only [ho, List.map_toArray, List.map_cons, List.map_nil, hx, he, Sem.run_bind, Sem.run_pure, Result.andThen_ok]
theorem o_slice {ob : Ob} (hw : Region.wanted o (yielded ops a.tmps) = true) (ho : o.op = .buildSlice 22 1 #[(0, x)]) (hx : a.eval x = .agg (obA ob))
    (h : wpList Tryz.prog ops Q rest (a.put o.dst (.slice (some ⟨w.heap.size, 0, none⟩) 1 1)) (w.alloc (.cells (obA ob) 34))) : wpList Tryz.prog ops Q (o :: rest) a w :=
  wpList_wanted hw fun K hK => by
    unfold Oper.wp
    rw [eb_o ho hx]
    exact hK _ _ h
end
end Go.Proofs.YthnkllhfmjbbmaaGreatDoor.S
/-
  HeapKeeps: what it holds on to.
-/
namespace Go.Proofs.YthnkllhfmjbbmaaGreatDoor.S
open Go.RowKit Go.Lib Fl
open Classical

structure K1 (w : World) (A : Option Addr) (n cap : Nat) (o : Ob) (W : World) : Prop where
  below : Below w.heap.size w W
  h : W.heap[w.heap.size]? = some (.cells #[.slice A n cap] 24 (0, 0))
  o : W.heap[w.heap.size + 1]? = some (.cells (obA o) 34 (0, 0))
theorem K1.up {w : World} {A : Option Addr} {n cap : Nat} {o : Ob} {W W' : World} (h : K1 w A n cap o W) (hb : Below W.heap.size W W') : K1 w A n cap o W' := ⟨vb h.below hb, vblkn hb h.h, vblkn hb h.o⟩
theorem k1_start (w : World) (A : Option Addr) (n cap : Nat) (o : Ob) : K1 w A n cap o ((w.alloc (.cells #[.slice A n cap] 24)).alloc (.cells (obA o) 34)) := by
  obtain ⟨b1, b2⟩ := vblk2 (w := w) (Below.refl _ ((w.alloc (.cells #[.slice A n cap] 24)).alloc (.cells (obA o) 34)))
  exact ⟨vafter (vzero _ _), b1, b2⟩
theorem K1.q {w : World} {A : Option Addr} {n cap : Nat} {o : Ob} {W : World} (h : K1 w A n cap o W) : W.cell? ⟨w.heap.size, 0, none⟩ = some (.slice A n cap) := (vcells h.h 0).trans rfl
theorem K1.q6 {w : World} {A : Option Addr} {n cap : Nat} {o : Ob} {W : World} (h : K1 w A n cap o W) : W.cell? ⟨w.heap.size + 1, 6, none⟩ = some (.slice o.pa o.props.length o.pc) := (vcells h.o 6).trans rfl
/-- a heap of the law's own -/
structure Hv (w : World) (g B m : Nat) (N M : List Ob) (W : World) : Prop where
  t : Tw w.heap.size B N M W
  b : W.heap[g]? = some (.cells #[.slice (some ⟨B, 0, none⟩) m m] 24 (0, 0))
theorem Hv.up {w : World} {g B m : Nat} {N M : List Ob} {W W' : World} (h : Hv w g B m N M W) (hb : Below W.heap.size W W') : Hv w g B m N M W' := ⟨h.t.up hb, vblkn hb h.b⟩
theorem Hv.q {w : World} {g B m : Nat} {N M : List Ob} {W : World} (h : Hv w g B m N M W) : W.cell? ⟨g, 0, none⟩ = some (.slice (some ⟨B, 0, none⟩) m m) := (vcells h.b 0).trans rfl
theorem Hv.lt {w : World} {g B m : Nat} {N M : List Ob} {W : World} (h : Hv w g B m N M W) : g < W.heap.size := lt_blk h.b
structure K2 (w : World) (A : Option Addr) (n cap : Nat) (o : Ob) (H : List Ob) (gt Bt : Nat) (T : List Ob) (W : World) : Prop where
  k : K1 w A n cap o W
  t : Hv w gt Bt n H T W
theorem K2.up {w : World} {A : Option Addr} {n cap : Nat} {o : Ob} {H : List Ob} {gt Bt : Nat} {T : List Ob} {W W' : World} (h : K2 w A n cap o H gt Bt T W) (hb : Below W.heap.size W W') : K2 w A n cap o H gt Bt T W' := ⟨h.k.up hb, h.t.up hb⟩
structure K3 (w : World) (A : Option Addr) (n cap : Nat) (o : Ob) (H : List Ob) (gt Bt : Nat) (T : List Ob) (ga Ba : Nat) (Ma : List Ob) (W : World) : Prop where
  k : K2 w A n cap o H gt Bt T W
  a : Hv w ga Ba (n + 1) (H ++ [o]) Ma W
theorem K3.up {w : World} {A : Option Addr} {n cap : Nat} {o : Ob} {H : List Ob} {gt Bt : Nat} {T : List Ob} {ga Ba : Nat} {Ma : List Ob} {W W' : World} (h : K3 w A n cap o H gt Bt T ga Ba Ma W) (hb : Below W.heap.size W W') : K3 w A n cap o H gt Bt T ga Ba Ma W' := ⟨h.k.up hb, h.a.up hb⟩
structure K4 (w : World) (A : Option Addr) (n cap : Nat) (o : Ob) (H : List Ob) (gt Bt : Nat) (T : List Ob) (N : List Ob) (gp Bp : Nat) (Mp : List Ob) (W : World) : Prop where
  k : K2 w A n cap o H gt Bt T W
  p : Hv w gp Bp n N Mp W
theorem K4.up {w : World} {A : Option Addr} {n cap : Nat} {o : Ob} {H : List Ob} {gt Bt : Nat} {T N : List Ob} {gp Bp : Nat} {Mp : List Ob} {W W' : World} (h : K4 w A n cap o H gt Bt T N gp Bp Mp W) (hb : Below W.heap.size W W') : K4 w A n cap o H gt Bt T N gp Bp Mp W' := ⟨h.k.up hb, h.p.up hb⟩
structure K5 (w : World) (A : Option Addr) (n cap : Nat) (o : Ob) (H : List Ob) (gt Bt : Nat) (T : List Ob) (N : List Ob) (gp Bp : Nat) (Mp : List Ob) (gx gq : Nat) (q : Ob) (W : World) : Prop where
  k : K4 w A n cap o H gt Bt T N gp Bp Mp W
  x : W.heap[gx]? = some (.cells (obA (q.at gq)) 34 (0, 0))
  y : W.heap[gq]? = some (.cells (prCells q.props).toArray 93 (0, 0))
theorem K5.up {w : World} {A : Option Addr} {n cap : Nat} {o : Ob} {H : List Ob} {gt Bt : Nat} {T N : List Ob} {gp Bp : Nat} {Mp : List Ob} {gx gq : Nat} {q : Ob} {W W' : World} (h : K5 w A n cap o H gt Bt T N gp Bp Mp gx gq q W) (hb : Below W.heap.size W W') : K5 w A n cap o H gt Bt T N gp Bp Mp gx gq q W' := ⟨h.k.up hb, vblkn hb h.x, vblkn hb h.y⟩
structure K6 (w : World) (A : Option Addr) (n cap : Nat) (o : Ob) (H : List Ob) (gt Bt : Nat) (T : List Ob) (N : List Ob) (gp Bp : Nat) (Mp : List Ob) (gx gq : Nat) (q : Ob) (N2 : List Ob) (gb Bb : Nat) (Mb : List Ob) (W : World) : Prop where
  k : K5 w A n cap o H gt Bt T N gp Bp Mp gx gq q W
  b : Hv w gb Bb n N2 Mb W
theorem K6.up {w : World} {A : Option Addr} {n cap : Nat} {o : Ob} {H : List Ob} {gt Bt : Nat} {T N : List Ob} {gp Bp : Nat} {Mp : List Ob} {gx gq : Nat} {q : Ob} {N2 : List Ob} {gb Bb : Nat} {Mb : List Ob} {W W' : World} (h : K6 w A n cap o H gt Bt T N gp Bp Mp gx gq q N2 gb Bb Mb W) (hb : Below W.heap.size W W') : K6 w A n cap o H gt Bt T N gp Bp Mp gx gq q N2 gb Bb Mb W' := ⟨h.k.up hb, h.b.up hb⟩
/-- a fresh heap in its box -/
theorem hv_box {w W2 : World} {B m : Nat} {N M : List Ob} (h : Tw w.heap.size B N M W2) : Hv w W2.heap.size B m N M (W2.alloc (.cells #[.slice (some ⟨B, 0, none⟩) m m] 24)) := ⟨h.up (vzero _ _), heap_alloc_new _ _⟩
theorem hpe_zero {H : List Ob} {n : Int} {o : Ob} (h : hpE H n o = 0) : inZ H n ∧ chkH (hput H n.toNat o) = 0 := by
  unfold hpE at h
  split at h
  · rename_i h1
    exact ⟨th_zero (orE_zero h1).2, h⟩
  · contradiction
theorem the_in {H : List Ob} {k : Nat} (h : k < H.length) : thE H (k : Int) = 0 := if_neg (by omega)
theorem of_zero {M : List Ob} {k : Nat} (hm : chkH M = 0) (h : k < M.length) : ofE M (k : Int) = 0 := by unfold ofE; rw [hm, the_in h]; rfl
theorem hpe_ok {M : List Ob} {k : Nat} {o : Ob} (hm : chkH M = 0) (h : k < M.length) (hc : chkH (hput M k o) = 0) : hpE M (k : Int) o = 0 := by
  unfold hpE
  rw [hm, the_in h, Int.toNat_natCast, show orE 0 0 = 0 from rfl, if_pos rfl, hc]
theorem tw_small {n0 B : Nat} {H M : List Ob} {W : World} (h : Tw n0 B H M W) (hp : ∀ o ∈ H, o.props.length ≤ 100000) : ∀ o ∈ M, o.props.length ≤ 100000 := (hl_tw h hp).few
theorem o_loadAt {W : World} {g : Nat} {o : Ob} (h : W.heap[g]? = some (.cells (obA o) 34 (0, 0))) : (Instr.loadAt 34 (.pointer (some ⟨g, 0, none⟩))).run Tryz.prog W = .ok (.agg (obA o)) W := by
  refine run_loadAt_at (A := ⟨g, 0, none⟩) (cs := ocl o) (fun j u hu => ?_) Tryz.underlying34 rfl osz
  rw [Addr.add_mid, Nat.zero_add, vcells h j, obA, List.getElem?_toArray]
  exact hu
theorem take_bare {M H : List Ob} {o : Ob} (h : M.map Ob.bare = (H ++ [o]).map Ob.bare) : (M.take H.length).map Ob.bare = H.map Ob.bare := by
  rw [List.map_take, h, List.map_append, List.take_append_of_le_length (by simp), List.take_of_length_le (by simp)]
theorem drop_bare {M H : List Ob} {o : Ob} (h : M.map Ob.bare = (H ++ [o]).map Ob.bare) : (M.drop H.length).map Ob.bare = [o].map Ob.bare := by
  rw [List.map_drop, h, List.map_append, List.drop_append_of_le_length (by simp), List.drop_of_length_le (by simp)]
  rfl
theorem ea_h {o : Oper} {a : Act} {w : World} (ho : o.op = .alloc 24) : (execOp a.eval o).run Tryz.prog w = .ok (.value (.pointer (some ⟨w.heap.size, 0, none⟩))) (w.alloc (.cells #[.slice none 0 0] 24)) := by
  unfold execOp
  simp only [ho]
  kernel_rfl
theorem t_loadAt {W : World} {B k : Nat} {T : List Ob} (h : W.heap[B]? = some (.cells (hcl T).toArray 34 (0, 0))) (hk : k < T.length) : (Instr.loadAt 34 (.pointer (some ⟨B, k * 18, none⟩))).run Tryz.prog W = .ok (.agg (obA T[k])) W := by
  obtain ⟨a, h1, _, h3⟩ := orow_b h (by omega)
  obtain rfl := Option.some.inj h1
  refine run_loadAt_at (A := ⟨B, k * 18, none⟩) (cs := ocl T[k]) (fun j u hu => ?_) Tryz.underlying34 rfl osz
  have := h3 k hk j u hu
  rwa [show (⟨B, 0, none⟩ : Addr).add (k * 18) = ⟨B, k * 18, none⟩ by rw [Addr.add_mid, Nat.zero_add]] at this
section
variable {ops : Array Oper} {rest : List Oper} {o : Oper} {a : Act} {w : World} {Q : Exit → Act → World → Prop} {x : Operand}
theorem o_slice2 {ob : Ob} (hw : Region.wanted o (yielded ops a.tmps) = true) (ho : o.op = .buildSlice 22 1 #[(0, x)]) (hx : a.eval x = .agg (obA ob))
    (h : ∀ W : World, Below w.heap.size w W → W.heap[w.heap.size]? = some (.cells (obA ob) 34 (0, 0)) → wpList Tryz.prog ops Q rest (a.put o.dst (.slice (some ⟨w.heap.size, 0, none⟩) 1 1)) W) : wpList Tryz.prog ops Q (o :: rest) a w :=
  o_slice hw ho hx (h _ (vzero _ _) (heap_alloc_new _ _))
end
end Go.Proofs.YthnkllhfmjbbmaaGreatDoor.S
