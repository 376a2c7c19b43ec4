/-
  slices.EqualFunc of properties by heap.sameProp: a row is the same as its like.
-/
import Derived.Test.YtbeggameiedjgaaGreatDoorHA04
import Derived.Test.YtbeggameiedjgaaGreatDoorTN06
import Derived.Deep.Slices
import Derived.Deep.Fields
import Derived.ChangeSame
import Derived.Carry
import Derived.OpenShut
import Derived.Laws.Cover2
import Derived.Test.YtbeggameiedjgaaGreatDoorTN24
import Derived.Test.YtbeggameiedjgaaGreatDoorTN30
import Derived.Test.YtbeggameiedjgaaGreatDoorTN21
import Derived.Test.YtbeggameiedjgaaGreatDoorHA01
namespace Go.Proofs.YtbeggameiedjgaaGreatDoor.S
open Go.RowKit Go.Lib Fl
open Classical

set_option maxHeartbeats 4000000 in
set_option maxRecDepth 100000 in
theorem eqprops (L : List Pq) (A B : Option Addr) (ca cb : Nat) (w : World) (hA : PR w A L) (hB : PR w B L) (hl : L.length ≤ 1000000) :
    Calls Tryz.prog 80 #[.slice A L.length ca, .slice B L.length cb, .func (.func 81) #[] #[]] w fun e w' => e = .returned (.bool true) ∧ Below w.heap.size w w' := by
  have hle : ((L.length : Int) != (L.length : Int)) = false := by simp
  have hHA := Lib.hid hA
  have hHB := Lib.hid hB
  clear hA hB
  go_enter Tryz.func80, Tryz.ntmps80
  go_wp2_with (fail)
  go_loopg [17] L.length (fun kx s17 wr => ∃ i : Nat, s17 = .int .i64 i ∧ i + kx = L.length ∧ Hid (Below w.heap.size w wr))
  case atStart => exact ⟨0, rfl, by omega, Lib.hid (Below.refl _ _)⟩
  case round =>
    obtain ⟨i, rfl, hik, H⟩ := hrel
    cases gk with
    | zero =>
      obtain rfl : i = L.length := by omega
      go_wp2_with (fail)
      go_ret
      exact ⟨rfl, H.out⟩
    | succ kx =>
      have hlt : i < L.length := by omega
      have hlz : (i : Int) < (L.length : Int) := by omega
      have hi0 : (0 : Int) ≤ (i : Int) := by omega
      obtain ⟨a, rfl, hab, hrow⟩ := pr_up hHA.out H.out (by omega)
      obtain ⟨b, rfl, hbb, hrow2⟩ := pr_up hHB.out H.out (by omega)
      have hc : ∀ j u, (pcl L[i])[j]? = some u → wr.cell? ((a.add (i * 18)).add j) = some u := fun j u hu => by rw [add_add]; exact hrow i hlt j u hu
      have hd : ∀ W, Below wr.heap.size wr W → ∀ j u, (pcl L[i])[j]? = some u → W.cell? ((b.add (i * 18)).add j) = some u := fun W hb j u hu => by
        rw [add_add, hb.cell (by rw [add_blk]; exact hbb)]; exact hrow2 i hlt j u hu
      clear hrow hrow2
      generalize L[i] = P at *
      have hi1 : (Tryz.prog.info? 30).map (·.size) = some (prA P).size := psz
      have kk := fun W => sameprop_refl P W
      go_wp2_with (first
        | ((with_reducible refine p_load ?_ rfl rfl hc ?_); (rfl))
        | ((with_reducible refine p_load ?_ rfl rfl (hd _ HB1.out) ?_); (rfl))
        | ((with_reducible refine t_store rfl rfl rfl rfl (heap_alloc_new wr _) hi1 ?_ (prA_one P) (vzero wr _) (Nat.le_refl _) ?_); (rfl); intro W1 hBW1 hW1 hO1 hz1; clear hO1 hz1; have HB1 := Lib.hid hBW1)
        | ((with_reducible refine t_store rfl rfl rfl rfl (heap_alloc_new W1 _) hi1 ?_ (prA_one P) (vzero W1 _) (Nat.le_refl _) ?_); (rfl); intro W2 hBW2 hW2 hO2 hz2; clear hz2; have hW12 := (hO2 _ (by have := lt_blk hW1; omega)).trans (vblkn (vzero _ _) hW1))
        | ((with_reducible refine pw_load ?_ rfl rfl hW12 ?_); (rfl))
        | ((with_reducible refine pw_load ?_ rfl rfl hW2 ?_); (rfl)))
      refine (kk _).mono ?_
      rintro e w5 ⟨rfl, h9⟩
      dsimp only
      go_wp2_with (fail)
      go_roundg kx
      case measure => omega
      case rel => exact ⟨i + 1, by congr 1, by omega, Lib.hid (vb H.out (vb HB1.out (vb hBW2 h9)))⟩
end Go.Proofs.YtbeggameiedjgaaGreatDoor.S
/-
  heap.sameObject: an object is the same as its like in other memory.
-/
namespace Go.Proofs.YtbeggameiedjgaaGreatDoor.S
open Go.RowKit Go.Lib Fl
open Classical

theorem cells_o {W : World} {o : Ob} {g : Nat} {t : TypeId} (h : W.heap[g]? = some (.cells (obA o) t (0, 0))) :
    W.cell? ⟨g, 0, none⟩ = some (.int .u8 o.kind) ∧ VAt W ⟨g, 1, none⟩ o.proto ∧ W.cell? ⟨g, 5, none⟩ = some (.bool o.ext) ∧ W.cell? ⟨g, 6, none⟩ = some (.slice o.pa o.props.length o.pc) ∧ VAt W ⟨g, 7, none⟩ o.target ∧ VAt W ⟨g, 11, none⟩ o.handler ∧ W.cell? ⟨g, 15, none⟩ = some (.string o.text) ∧ W.cell? ⟨g, 16, none⟩ = some (.bool o.calls) ∧ W.cell? ⟨g, 17, none⟩ = some (.bool o.makes) :=
  ⟨vcells h 0, ⟨lt_blk h, vcells h 1, vcells h 2, vcells h 3, vcells h 4⟩, vcells h 5, vcells h 6, ⟨lt_blk h, vcells h 7, vcells h 8, vcells h 9, vcells h 10⟩, ⟨lt_blk h, vcells h 11, vcells h 12, vcells h 13, vcells h 14⟩, vcells h 15, vcells h 16, vcells h 17⟩
/-- the two boxes of two objects -/
structure Oz (w : World) (p q : Ob) (W : World) : Prop where
  a : W.heap[w.heap.size]? = some (.cells (obA p) 54 (0, 0))
  b : W.heap[w.heap.size + 1]? = some (.cells (obA q) 54 (0, 0))
  below : Below w.heap.size w W
theorem Oz.up {w : World} {p q : Ob} {W W' : World} (h : Oz w p q W) (hb : Below W.heap.size W W') : Oz w p q W' := ⟨vblkn hb h.a, vblkn hb h.b, vb h.below hb⟩
set_option maxHeartbeats 4000000 in
set_option maxRecDepth 100000 in
theorem sameobj_like (o : Ob) (a : Option Addr) (c : Nat) (w : World) (hP : PR w o.pa o.props) (hQ : PR w a o.props) (hl : o.props.length ≤ 1000000) : Calls Tryz.prog 60 #[.agg (obA o), .agg (obA { o with pa := a, pc := c })] w fun e w' => e = .returned (.bool true) ∧ Below w.heap.size w w' := by
  have cS := fun W (v : Vq) => hsame_refl v.k v.x v.s v.r W
  have cE := fun W (hb : Below w.heap.size w W) => eqprops o.props o.pa a o.pc c W (pr_up hP hb) (pr_up hQ hb) hl
  have hD := Lib.hid (Oz.mk (vblk2 (Below.refl _ ((w.alloc (.cells (obA o) 54)).alloc (.cells (obA { o with pa := a, pc := c }) 54)))).1 (vblk2 (Below.refl _ ((w.alloc (.cells (obA o) 54)).alloc (.cells (obA { o with pa := a, pc := c }) 54)))).2 (vafter (vzero _ _)))
  obtain ⟨c0, c1, c2, c3, c4, c5, c6, c7, c8⟩ := cells_o hD.out.a
  obtain ⟨d0, d1, d2, d3, d4, d5, d6, d7, d8⟩ := cells_o hD.out.b
  go_enter Tryz.func60, Tryz.ntmps60
  go_wp2_with (first
    | ((with_reducible refine va_load ?_ rfl rfl c1 ?_); (rfl))
    | ((with_reducible refine va_load ?_ rfl rfl c4 ?_); (rfl))
    | ((with_reducible refine va_load ?_ rfl rfl c5 ?_); (rfl))
    | ((with_reducible refine va_load ?_ rfl rfl d1 ?_); (rfl))
    | ((with_reducible refine va_load ?_ rfl rfl d4 ?_); (rfl))
    | ((with_reducible refine va_load ?_ rfl rfl d5 ?_); (rfl))
    | (go_at_call 79; (with_reducible refine (cS _ _).mono ?_); rintro e w1 ⟨rfl, h9⟩; have hD := Lib.hid (hD.out.up h9); clear c0 c1 c2 c3 c4 c5 c6 c7 c8 d0 d1 d2 d3 d4 d5 d6 d7 d8 h9; obtain ⟨c0, c1, c2, c3, c4, c5, c6, c7, c8⟩ := cells_o hD.out.a; obtain ⟨d0, d1, d2, d3, d4, d5, d6, d7, d8⟩ := cells_o hD.out.b)
    | (go_at_call 80; (with_reducible refine (cE _ hD.out.below).mono ?_); rintro e w1 ⟨rfl, h9⟩; have hD := Lib.hid (hD.out.up h9); clear c0 c1 c2 c3 c4 c5 c6 c7 c8 d0 d1 d2 d3 d4 d5 d6 d7 d8 h9))
  go_ret
  exact ⟨rfl, hD.out.below⟩
end Go.Proofs.YtbeggameiedjgaaGreatDoor.S
/-
  slices.EqualFunc of objects by heap.sameObject; heap.Same.
-/
namespace Go.Proofs.YtbeggameiedjgaaGreatDoor.S
open Go.RowKit Go.Lib Fl
open Classical

set_option maxHeartbeats 4000000 in
set_option maxRecDepth 100000 in
theorem sameobj_kind (p q : Ob) (w : World) (hk : p.kind ≠ q.kind) : Calls Tryz.prog 60 #[.agg (obA p), .agg (obA q)] w fun e w' => e = .returned (.bool false) ∧ Below w.heap.size w w' := by
  have hD := Lib.hid (Oz.mk (vblk2 (Below.refl _ ((w.alloc (.cells (obA p) 54)).alloc (.cells (obA q) 54)))).1 (vblk2 (Below.refl _ ((w.alloc (.cells (obA p) 54)).alloc (.cells (obA q) 54)))).2 (vafter (vzero _ _)))
  have c0 := (cells_o hD.out.a).1
  have d0 := (cells_o hD.out.b).1
  have hn : (p.kind != q.kind) = true := by simp [hk]
  clear hk
  go_enter Tryz.func60, Tryz.ntmps60
  go_wp2
  go_ret
  exact ⟨rfl, hD.out.below⟩
/-- objects' cells in a row -/
def ORow (w : World) (A : Option Addr) (M : List Ob) : Prop := 0 < M.length → ∃ a, A = some a ∧ a.block < w.heap.size ∧ ∀ i (h : i < M.length) j u, (ocl M[i])[j]? = some u → w.cell? ((a.add (i * 18)).add j) = some u
theorem ORow.up {w W : World} {A : Option Addr} {M : List Ob} (h : ORow w A M) (hb : Below w.heap.size w W) : ORow W A M := fun hp => by
  obtain ⟨a, h1, h2, h3⟩ := h hp
  exact ⟨a, h1, Nat.lt_of_lt_of_le h2 hb.size, fun i hi j u hu => by rw [hb.cell (by rw [add_blk, add_blk]; exact h2)]; exact h3 i hi j u hu⟩
theorem orow_h {w : World} {A : Option Addr} {H : List Ob} (h : HRow w A H) : ORow w A H := fun hp => by
  obtain ⟨a, h1, h2, h3⟩ := h hp
  exact ⟨a, h1, h2, fun i hi j u hu => of_back (h3 i hi).1 j u hu⟩
theorem orow_b {w : World} {B : Nat} {M : List Ob} {t : TypeId} (h : w.heap[B]? = some (.cells (hcl M).toArray t (0, 0))) : ORow w (some ⟨B, 0, none⟩) M := fun _ => by
  refine ⟨_, rfl, lt_blk h, fun i hi j u hu => ?_⟩
  have hj : j < 18 := by have := (List.getElem?_eq_some_iff.1 hu).1; rw [ocl_len] at this; exact this
  rw [add_add, Addr.add_mid, Nat.zero_add, vcells h (i * 18 + j), List.getElem?_toArray, hcl_at M i hi j hj]
  exact hu
section
variable {ops : Array Oper} {rest : List Oper} {o : Oper} {a : Act} {w : World} {Q : Exit → Act → World → Prop} {x y : Operand} {g : Nat} {t : TypeId}
theorem oa_load {A : Addr} {p : Ob} (hw : Region.wanted o (yielded ops a.tmps) = true) (ho : o.op = .load 54 x) (hx : a.eval x = .pointer (some A)) (hc : ∀ j u, (ocl p)[j]? = some u → w.cell? (A.add j) = some u)
    (h : wpList Tryz.prog ops Q rest (a.put o.dst (.agg (obA p))) w) : wpList Tryz.prog ops Q (o :: rest) a w :=
  wpList_wanted hw fun _ hK => wp_load_at ho hx hc Tryz.underlying54 rfl osz (hK _ _ h)
end
set_option maxHeartbeats 4000000 in
set_option maxRecDepth 100000 in
theorem eqobjs (r : Bool) (M H : List Ob) (n : Nat) (A B : Option Addr) (ca cb : Nat) (w : World) (hM : M.length = n) (hH : H.length = n) (hA : ORow w A M) (hB : ORow w B H) (hl : n ≤ 1000000)
    (hS : ∀ i (h1 : i < M.length) (h2 : i < H.length) W, Below w.heap.size w W → Calls Tryz.prog 60 #[.agg (obA M[i]), .agg (obA H[i])] W fun e w' => e = .returned (.bool r) ∧ Below W.heap.size W w') :
    Calls Tryz.prog 59 #[.slice A n ca, .slice B n cb, .func (.func 60) #[] #[]] w fun e w' => e = .returned (.bool (r || decide (n = 0))) ∧ Below w.heap.size w w' := by
  have hle : ((n : Int) != (n : Int)) = false := by simp
  have hHA := Lib.hid hA
  have hHB := Lib.hid hB
  have HM := Lib.hid (And.intro hM hH)
  have HS := Lib.hid hS
  clear hA hB hM hH hS
  go_enter Tryz.func59, Tryz.ntmps59
  go_wp2_with (fail)
  go_loopg [17] n (fun kx s17 wr => ∃ i : Nat, s17 = .int .i64 i ∧ i + kx = n ∧ Hid (Below w.heap.size w wr) ∧ Hid (0 < i → r = true))
  case atStart => exact ⟨0, rfl, by omega, Lib.hid (Below.refl _ _), Lib.hid fun h => absurd h (Nat.lt_irrefl 0)⟩
  case round =>
    obtain ⟨i, rfl, hik, H0, HR⟩ := hrel
    cases gk with
    | zero =>
      obtain rfl : i = n := by omega
      go_wp2_with (fail)
      go_ret
      refine ⟨?_, H0.out⟩
      rcases Nat.eq_zero_or_pos i with h | h
      · rw [decide_eq_true h, Bool.or_true]; rfl
      · rw [HR.out h]; rfl
    | succ kx =>
      have hlt : i < n := by omega
      have hlz : (i : Int) < (n : Int) := by omega
      have hi0 : (0 : Int) ≤ (i : Int) := by omega
      have hm1 : i < M.length := by rw [HM.out.1]; exact hlt
      have hm2 : i < H.length := by rw [HM.out.2]; exact hlt
      obtain ⟨a, rfl, hab, hrow⟩ := hHA.out.up H0.out (by omega)
      obtain ⟨b, rfl, hbb, hrow2⟩ := hHB.out.up H0.out (by omega)
      have hc := hrow i hm1
      have hd : ∀ W, Below wr.heap.size wr W → ∀ j u, (ocl H[i])[j]? = some u → W.cell? ((b.add (i * 18)).add j) = some u := fun W hb j u hu => by
        rw [hb.cell (by rw [add_blk, add_blk]; exact hbb)]; exact hrow2 i hm2 j u hu
      have kk := HS.out i hm1 hm2
      clear hrow hrow2
      generalize M[i] = P at *
      generalize H[i] = P2 at *
      have hi1 : ∀ P : Ob, (Tryz.prog.info? 54).map (·.size) = some (obA P).size := fun _ => osz
      go_wp2_with (first
        | ((with_reducible refine oa_load ?_ rfl rfl hc ?_); (rfl))
        | ((with_reducible refine oa_load ?_ rfl rfl (hd _ HB1.out) ?_); (rfl))
        | ((with_reducible refine t_store rfl rfl rfl rfl (heap_alloc_new wr _) (hi1 _) ?_ (obA_one P) (vzero wr _) (Nat.le_refl _) ?_); (rfl); intro W1 hBW1 hW1 hO1 hz1; clear hO1 hz1; have HB1 := Lib.hid hBW1)
        | ((with_reducible refine t_store rfl rfl rfl rfl (heap_alloc_new W1 _) (hi1 _) ?_ (obA_one P2) (vzero W1 _) (Nat.le_refl _) ?_); (rfl); intro W2 hBW2 hW2 hO2 hz2; clear hz2; have hW12 := (hO2 _ (by have := lt_blk hW1; omega)).trans (vblkn (vzero _ _) hW1); have HB2 := Lib.hid (vb H0.out (vb HB1.out hBW2)))
        | ((with_reducible refine ob_load ?_ rfl rfl hW12 ?_); (rfl))
        | ((with_reducible refine ob_load ?_ rfl rfl hW2 ?_); (rfl)))
      refine (kk _ HB2.out).mono ?_
      rintro e w5 ⟨rfl, h9⟩
      dsimp only
      have HB5 := Lib.hid (vb HB2.out h9)
      cases r with
      | true =>
        go_wp2_with (fail)
        go_roundg kx
        case measure => omega
        case rel => exact ⟨i + 1, by congr 1, by omega, HB5, Lib.hid fun _ => trivial⟩
      | false =>
        go_wp2_with (fail)
        go_ret
        refine ⟨?_, HB5.out⟩
        rw [decide_eq_false (by omega)]; rfl
set_option maxRecDepth 100000 in
theorem Same_h (r : Bool) (M H : List Ob) (n : Nat) (A B : Option Addr) (ca cb : Nat) (w : World) (hM : M.length = n) (hH : H.length = n) (hA : ORow w A M) (hB : ORow w B H) (hl : n ≤ 1000000)
    (hS : ∀ i (h1 : i < M.length) (h2 : i < H.length) W, Below w.heap.size w W → Calls Tryz.prog 60 #[.agg (obA M[i]), .agg (obA H[i])] W fun e w' => e = .returned (.bool r) ∧ Below W.heap.size W w') :
    Calls Tryz.prog 31 #[.agg #[.slice A n ca], .agg #[.slice B n cb]] w fun e w' => e = .returned (.bool (r || decide (n = 0))) ∧ Below w.heap.size w w' := by
  have cE := fun W (hb : Below w.heap.size w W) => eqobjs r M H n A B ca cb W hM hH (hA.up hb) (hB.up hb) hl (fun i h1 h2 V hV => hS i h1 h2 V (vb hb hV))
  obtain ⟨b1, b2⟩ := vblk2 (Below.refl _ ((w.alloc (.cells #[.slice A n ca] 49)).alloc (.cells #[.slice B n cb] 49)))
  have q1 : ((w.alloc (.cells #[.slice A n ca] 49)).alloc (.cells #[.slice B n cb] 49)).cell? ⟨w.heap.size, 0, none⟩ = some (.slice A n ca) := (vcells b1 0).trans rfl
  have q2 : ((w.alloc (.cells #[.slice A n ca] 49)).alloc (.cells #[.slice B n cb] 49)).cell? ⟨w.heap.size + 1, 0, none⟩ = some (.slice B n cb) := (vcells b2 0).trans rfl
  have hB0 : Below w.heap.size w ((w.alloc (.cells #[.slice A n ca] 49)).alloc (.cells #[.slice B n cb] 49)) := vafter (vzero _ _)
  have HC := Lib.hid (cE _ hB0)
  clear hA hB hM hH hS cE b1 b2
  generalize (r || decide (n = 0)) = z at *
  go_enter Tryz.func31, Tryz.ntmps31
  go_wp2_with (go_at_call 59; (with_reducible refine HC.out.mono ?_); rintro e w1 ⟨rfl, h9⟩)
  go_ret
  exact ⟨rfl, vb hB0 h9⟩
/-- a heap's twin is the same -/
theorem same_twin {n0 B : Nat} {H M : List Ob} (n : Nat) (A : Option Addr) (ca cb : Nat) (w : World) (hT : Tw n0 B H M w) (hH : HRow w A H) (hn : H.length = n) (hl : n ≤ 1000000) (hp : ∀ o ∈ H, o.props.length ≤ 1000000) :
    Calls Tryz.prog 31 #[.agg #[.slice (some ⟨B, 0, none⟩) n ca], .agg #[.slice A n cb]] w fun e w' => e = .returned (.bool true) ∧ Below w.heap.size w w' := by
  refine Same_h true M H n _ A ca cb w (by rw [hT.len, hn]) hn (orow_b hT.b) (orow_h hH) hl fun i h1 h2 W hb => ?_
  obtain ⟨g, _, e, hg⟩ := (hT.all i h1 h2).out
  obtain ⟨a, _, _, h3⟩ := hH (by omega)
  have := sameobj_like M[i] H[i].pa H[i].pc W (by rw [e]; exact pr_up (pr_blk hg) hb) (by rw [e]; exact pr_up (h3 i h2).2 hb) (by rw [e]; exact hp H[i] (List.getElem_mem h2))
  have e2 : ({ M[i] with pa := H[i].pa, pc := H[i].pc } : Ob) = H[i] := by rw [e]; rfl
  rw [e2] at this
  exact this
/-- what was written over is the same as nothing -/
theorem same_spoilt {B : Nat} {H M : List Ob} {t : TypeId} (n : Nat) (A : Option Addr) (ca cb : Nat) (w : World) (hb0 : w.heap[B]? = some (.cells (hcl M).toArray t (0, 0))) (hM : M.length = n) (h77 : ∀ i (h : i < M.length), M[i].kind = 77) (hH : HRow w A H) (hn : H.length = n) (hl : n ≤ 1000000) (hk : ∀ i (h : i < H.length), H[i].kind ≠ 77) :
    Calls Tryz.prog 31 #[.agg #[.slice (some ⟨B, 0, none⟩) n ca], .agg #[.slice A n cb]] w fun e w' => e = .returned (.bool (decide (n = 0))) ∧ Below w.heap.size w w' := by
  have := Same_h false M H n _ A ca cb w hM hn (orow_b hb0) (orow_h hH) hl fun i h1 h2 W hb => sameobj_kind M[i] H[i] W (by rw [h77 i h1]; exact fun h => hk i h2 h.symm)
  rw [Bool.false_or] at this
  exact this
end Go.Proofs.YtbeggameiedjgaaGreatDoor.S
/-
  The law's own: large.
-/
namespace Go.Proofs.YtbeggameiedjgaaGreatDoor.S
open Go.RowKit Go.Lib Fl
open Classical

def largeB (H : List Ob) : Bool := H.any fun o => decide (100 < o.props.length)
theorem large_at {H : List Ob} {i : Nat} (h : i < H.length) (e : 100 < H[i].props.length) : largeB H = true := List.any_eq_true.2 ⟨_, List.getElem_mem h, decide_eq_true e⟩
theorem large_no {H : List Ob} (h : ∀ i (h : i < H.length), ¬ 100 < H[i].props.length) : largeB H = false := by
  unfold largeB
  rw [List.any_eq_false]
  intro o ho
  obtain ⟨i, hi, rfl⟩ := List.getElem_of_mem ho
  simpa using h i hi
set_option maxRecDepth 100000 in
theorem large_many (A : Option Addr) (n cap : Nat) (w : World) (h : (60 < n ∧ n ≤ 4096) ∨ 5000 < n) : Calls Tryz.prog 29 #[.agg #[.slice A n cap]] w fun e w' => e = .returned (.bool true) ∧ Below w.heap.size w w' := by
  have q0 : (w.alloc (.cells #[.slice A n cap] 49)).cell? ⟨w.heap.size, 0, none⟩ = some (.slice A n cap) := (vcells (heap_alloc_new w _) 0).trans rfl
  have h60 : (60 : Int) < (n : Int) := by omega
  by_cases c : (n : Int) ≤ 4096
  · go_enter Tryz.func29, Tryz.ntmps29
    go_wp2
    go_ret
    exact ⟨rfl, vzero _ _⟩
  · have h5 : (5000 : Int) < (n : Int) := by omega
    go_enter Tryz.func29, Tryz.ntmps29
    go_wp2
    go_ret
    exact ⟨rfl, vzero _ _⟩
/-- large's own block -/
structure Lg (w : World) (A : Option Addr) (n cap : Nat) (W : World) : Prop where
  below : Below w.heap.size w W
  h : W.heap[w.heap.size]? = some (.cells #[.slice A n cap] 49 (0, 0))
set_option maxHeartbeats 4000000 in
set_option maxRecDepth 100000 in
theorem large_few (A : Option Addr) (H : List Ob) (cap : Nat) (w : World) (hH : HRow w A H) (h : ¬ ((60 < H.length ∧ H.length ≤ 4096) ∨ 5000 < H.length)) : Calls Tryz.prog 29 #[.agg #[.slice A H.length cap]] w fun e w' => e = .returned (.bool (largeB H)) ∧ Below w.heap.size w w' := by
  have q0 : (w.alloc (.cells #[.slice A H.length cap] 49)).cell? ⟨w.heap.size, 0, none⟩ = some (.slice A H.length cap) := (vcells (heap_alloc_new w _) 0).trans rfl
  have HS := Lib.hid (Lg.mk (A := A) (n := H.length) (cap := cap) (vzero w _) (heap_alloc_new w _))
  have hcase : (H.length : Int) ≤ 60 ∨ (60 < (H.length : Int) ∧ 4096 < (H.length : Int) ∧ (H.length : Int) ≤ 5000) := by omega
  have HH := Lib.hid hH
  clear hH h
  rcases hcase with c1 | ⟨c1, c2, c3⟩
  all_goals
    go_enter Tryz.func29, Tryz.ntmps29
    go_wp2
    go_loopg [3] H.length (fun kx s3 wr => ∃ i : Nat, s3 = .int .i64 i ∧ i + kx = H.length ∧ Hid (Lg w A H.length cap wr ∧ ∀ j (hj : j < H.length), j < i → ¬ 100 < H[j].props.length))
    case atStart => exact ⟨0, rfl, by omega, Lib.hid ⟨HS.out, fun j _ h => absurd h (Nat.not_lt_zero j)⟩⟩
    case round =>
      obtain ⟨i, rfl, hik, HR⟩ := hrel
      have q5 : wr.cell? ⟨w.heap.size, 0, none⟩ = some (.slice A H.length cap) := (vcells HR.out.1.h 0).trans rfl
      have HY := Lib.hid HR.out.1
      cases gk with
      | zero =>
        obtain rfl : i = H.length := by omega
        have hno := large_no fun j hj => HR.out.2 j hj hj
        go_wp2
        go_ret
        exact ⟨by rw [hno]; rfl, HY.out.below⟩
      | succ kx =>
        have hlt : i < H.length := by omega
        have hlz : (i : Int) < (H.length : Int) := by omega
        have hl0 : (0 : Int) ≤ (i : Int) := by omega
        obtain ⟨a, rfl, hab, hall⟩ := hrow_up HH.out HY.out.below (by omega)
        have hof := (hall i hlt).1
        clear hall
        have hc := hof.props
        have HL : Hid (∀ n, n = H[i].props.length → (100 < n → largeB H = true) ∧ (¬ 100 < n → ∀ j (hj : j < H.length), j < i + 1 → ¬ 100 < H[j].props.length)) := Lib.hid fun n hn => ⟨fun e => large_at hlt (hn ▸ e), fun e j hj hji => by
          by_cases c : j < i
          · exact HR.out.2 j hj c
          · obtain rfl : j = i := by omega
            rw [← hn]; exact e⟩
        clear hof
        generalize hN : H[i].props.length = N at *
        by_cases hb : (100 : Int) < (N : Int)
        · go_wp2
          go_ret
          exact ⟨by rw [(HL.out N rfl).1 (by omega)] <;> rfl, HY.out.below⟩
        · go_wp2
          go_roundg kx
          case measure => omega
          case rel => exact ⟨i + 1, by congr 1, by omega, Lib.hid ⟨HY.out, (HL.out N rfl).2 (by omega)⟩⟩
end Go.Proofs.YtbeggameiedjgaaGreatDoor.S
/-
  The law's own: spoil writes over a twin, and over nothing else.
-/
namespace Go.Proofs.YtbeggameiedjgaaGreatDoor.S
open Go.RowKit Go.Lib Fl
open Classical

section
variable {ops : Array Oper} {rest : List Oper} {o : Oper} {a : Act} {w : World} {Q : Exit → Act → World → Prop} {x y : Operand} {g : Nat} {t ty : TypeId}
/-- a whole thing stored into the middle of a row of the call's own -/
theorem mid_store {vs cur : List Value} {k : Nat} (hgd : o.guard = none) (ho : o.op = .store ty x y) (hx : a.eval x = .pointer (some ⟨g, k, none⟩)) (hy : a.eval y = .agg vs.toArray) (hg : w.heap[g]? = some (.cells cur.toArray t (0, 0))) (hi : (Tryz.prog.info? ty).map (·.size) = some vs.length) (hk : k + vs.length ≤ cur.length) (h1 : ∀ v ∈ vs, v.oneCell' = true)
    (h : ∀ W : World, (∀ B w0, Below B w0 w → B ≤ g → Below B w0 W) → W.heap[g]? = some (.cells (cur.take k ++ vs ++ cur.drop (k + vs.length)).toArray t (0, 0)) → (∀ j, j ≠ g → W.heap[j]? = w.heap[j]?) → wpList Tryz.prog ops Q rest (a.put o.dst undef) W) : wpList Tryz.prog ops Q (o :: rest) a w := by
  refine wpList_plain hgd fun K hK => ?_
  have hst := run_storeCells_at Tryz.prog g k t vs 0 cur.toArray w hg (by simpa using hk) h1
  rw [Nat.add_zero] at hst
  have e := h (w.setRow g (cur.take k ++ vs ++ cur.drop (k + vs.length)).toArray) (fun _ _ h1 h2 => below_row h1 h2 _) (setRow_heap _ _ _ _ _ _ hg) (fun j hj => setRow_other w g j _ hj)
  have hrun : (storeVar ty ⟨g, k, none⟩ (.agg vs.toArray)).run Tryz.prog w = .ok () (w.setRow g (cur.take k ++ vs ++ cur.drop (k + vs.length)).toArray) := by
    cases hq2 : Tryz.prog.info? ty with
    | none => rw [hq2] at hi; simp at hi
    | some i =>
      have hs : vs.length = i.size := by rw [hq2] at hi; simp at hi; omega
      simp [storeVar, sizeOf, typeInfo, hq2, Value.cells, hs] at hst ⊢
      exact hst
  unfold Oper.wp execOp
  simp only [ho, hx, hy, Instr.storeAt, Instr.sureAddr, Sem.run_bind, Sem.run_pure, Result.andThen_ok, hrun]
  exact hK _ _ e
end
def pz : Pq := ⟨⟨⟨#[]⟩, 0⟩, dz 0⟩
def o77 : Ob := ⟨77, v0, false, none, 0, [], v0, v0, ⟨#[]⟩, false, false⟩
set_option maxRecDepth 100000 in
theorem rb_pz (w : World) : (Instr.build 30 #[]).run Tryz.prog w = .ok (.agg (pcl pz).toArray) w := by kernel_rfl
set_option maxRecDepth 100000 in
theorem rb_77 (w : World) : (Instr.build 54 #[(0, .int .u8 77)]).run Tryz.prog w = .ok (.agg (ocl o77).toArray) w := by kernel_rfl
section
variable {o : Oper} {a : Act} {w : World}
theorem eb_pz (ho : o.op = .build 30 #[]) : (execOp a.eval o).run Tryz.prog w = .ok (.value (.agg (pcl pz).toArray)) w := by
  unfold execOp
  simp only [ho, List.map_toArray, List.map_nil, rb_pz, Sem.run_bind, Sem.run_pure, Result.andThen_ok]
theorem eb_77 (ho : o.op = .build 54 #[(0, .const (.int .u8 77))]) : (execOp a.eval o).run Tryz.prog w = .ok (.value (.agg (ocl o77).toArray)) w := by
  unfold execOp
  simp only [ho, List.map_toArray, List.map_cons, List.map_nil, Act.eval, rb_77, Sem.run_bind, Sem.run_pure, Result.andThen_ok]
end
/-- how far spoil has come -/
structure Sp (w : World) (n1 B n : Nat) (M : List Ob) (i : Nat) (W : World) : Prop where
  m : ∃ Mi : List Ob, Mi.length = n ∧ (∀ j (h : j < Mi.length) (h' : j < M.length), i ≤ j → Mi[j] = M[j]) ∧ (∀ j (h : j < Mi.length), j < i → Mi[j].kind = 77) ∧ W.heap[B]? = some (.cells (hcl Mi).toArray 54 (0, 0))
  p : ∀ j (h : j < M.length), ∃ (g : Nat) (cur : List Value), M[j].pa = some ⟨g, 0, none⟩ ∧ B < g ∧ g < n1 ∧ M[j].pc = M[j].props.length ∧ W.heap[g]? = some (.cells cur.toArray 30 (0, 0)) ∧ cur.length = M[j].props.length * 18
  box : W.heap[w.heap.size]? = some (.cells #[.slice (some ⟨B, 0, none⟩) n n] 49 (0, 0))
  below : Below B w W
  keep : ∀ j, n1 ≤ j → j < w.heap.size → W.heap[j]? = w.heap[j]?
  lt : B < n1 ∧ n1 ≤ w.heap.size
  len : M.length = n
theorem Sp.put {w W W' : World} {n1 B n i g : Nat} {M : List Ob} {cur cur' : List Value} (h : Sp w n1 B n M i W) (hg : B < g) (hg1 : g < n1) (hb : ∀ B w0, Below B w0 W → B ≤ g → Below B w0 W') (hc : W.heap[g]? = some (.cells cur.toArray 30 (0, 0))) (hc' : W'.heap[g]? = some (.cells cur'.toArray 30 (0, 0))) (hl : cur'.length = cur.length) (hO : ∀ j, j ≠ g → W'.heap[j]? = W.heap[j]?) : Sp w n1 B n M i W' := by
  have hlt := h.lt
  obtain ⟨Mi, m1, m2, m3, m4⟩ := h.m
  refine ⟨⟨Mi, m1, m2, m3, (hO _ (by omega)).trans m4⟩, fun j hj => ?_, (hO _ (by omega)).trans h.box, hb _ _ h.below (by omega), fun j h1 h2 => (hO j (by omega)).trans (h.keep j h1 h2), hlt, h.len⟩
  obtain ⟨g2, c2, p1, p2, p3, p4, p5, p6⟩ := h.p j hj
  by_cases c : g2 = g
  · subst c
    rw [hc] at p5
    have e : cur.toArray = c2.toArray := by simpa using p5
    have e2 : cur = c2 := by simpa using e
    exact ⟨g2, cur', p1, p2, p3, p4, hc', by rw [hl, e2]; exact p6⟩
  · exact ⟨g2, c2, p1, p2, p3, p4, (hO _ c).trans p5, p6⟩
theorem Sp.next {w W W' : World} {n1 B n i : Nat} {M Mi : List Ob} (h : Sp w n1 B n M i W) (hi : i < n) (m1 : Mi.length = n) (m2 : ∀ j (h : j < Mi.length) (h' : j < M.length), i ≤ j → Mi[j] = M[j]) (m3 : ∀ j (h : j < Mi.length), j < i → Mi[j].kind = 77)
    (hb : ∀ B' w0, Below B' w0 W → B' ≤ B → Below B' w0 W') (hc' : W'.heap[B]? = some (.cells ((hcl Mi).take (i * 18) ++ ocl o77 ++ (hcl Mi).drop (i * 18 + 18)).toArray 54 (0, 0))) (hO : ∀ j, j ≠ B → W'.heap[j]? = W.heap[j]?) : Sp w n1 B n M (i + 1) W' := by
  have hlt := h.lt
  rw [hcl_put Mi i o77 (by omega)] at hc'
  refine ⟨⟨Mi.set i o77, by rw [List.length_set]; exact m1, fun j hj h' hij => ?_, fun j hj hji => ?_, hc'⟩, fun j hj => ?_, (hO _ (by omega)).trans h.box, hb _ _ h.below (Nat.le_refl _), fun j h1 h2 => (hO j (by omega)).trans (h.keep j h1 h2), hlt, h.len⟩
  · rw [List.length_set] at hj
    rw [List.getElem_set_ne (by omega)]
    exact m2 j hj h' (by omega)
  · rw [List.length_set] at hj
    by_cases c : j = i
    · subst c; rw [List.getElem_set_self]; rfl
    · rw [List.getElem_set_ne (by omega)]; exact m3 j hj (by omega)
  · obtain ⟨g2, c2, p1, p2, p3, p4, p5, p6⟩ := h.p j hj
    exact ⟨g2, c2, p1, p2, p3, p4, (hO _ (by omega)).trans p5, p6⟩
end Go.Proofs.YtbeggameiedjgaaGreatDoor.S
/-
  The law's own: spoil, the walk.
-/
namespace Go.Proofs.YtbeggameiedjgaaGreatDoor.S
open Go.RowKit Go.Lib Fl
open Classical

theorem Sp.cell {w W : World} {n1 B n i g N : Nat} {M : List Ob} (h : Sp w n1 B n M i W) (hi : i < M.length) (hg : M[i].pa = some ⟨g, 0, none⟩) (hc : M[i].pc = M[i].props.length) (hN : M[i].props.length = N) : W.cell? ⟨B, i * 18 + 6, none⟩ = some (.slice (some ⟨g, 0, none⟩) N N) := by
  obtain ⟨Mi, m1, m2, _, m4⟩ := h.m
  have hl := h.len
  have := hcl_at Mi i (by omega) 6 (by decide)
  rw [vcells m4 (i * 18 + 6), List.getElem?_toArray, this, m2 i (by omega) hi (Nat.le_refl _)]
  show some (Value.slice M[i].pa M[i].props.length M[i].pc) = _
  rw [hg, hc, hN]
set_option maxHeartbeats 4000000 in
set_option maxRecDepth 100000 in
theorem spoil_l (w : World) (n1 B n : Nat) (M : List Ob) (hS : Sp w n1 B n M 0 (w.alloc (.cells #[.slice (some ⟨B, 0, none⟩) n n] 49))) (hf : n ≤ 5000) (hpf : ∀ o ∈ M, o.props.length ≤ 100000) : Calls Tryz.prog 33 #[.agg #[.slice (some ⟨B, 0, none⟩) n n]] w fun e w' => e = .returned (.tuple #[]) ∧ Sp w n1 B n M n w' := by
  have q0 : (w.alloc (.cells #[.slice (some ⟨B, 0, none⟩) n n] 49)).cell? ⟨w.heap.size, 0, none⟩ = some (.slice (some ⟨B, 0, none⟩) n n) := (vcells hS.box 0).trans rfl
  have osz2 : (Tryz.prog.info? 54).map (·.size) = some (ocl o77).length := osz
  have psz2 : (Tryz.prog.info? 30).map (·.size) = some (pcl pz).length := psz
  have ho1 : ∀ v ∈ ocl o77, v.oneCell' = true := fun v hv => by have := obA_one o77; rw [obA, List.all_toArray, List.all_eq_true] at this; exact this v hv
  have hp1 : ∀ v ∈ pcl pz, v.oneCell' = true := fun v hv => by have := prA_one pz; rw [prA, List.all_toArray, List.all_eq_true] at this; exact this v hv
  have HS := Lib.hid hS
  have HF := Lib.hid hpf
  clear hS hpf
  go_enter Tryz.func33, Tryz.ntmps33
  go_wp2
  go_loopg [2] n (fun kx s2 wr => ∃ i : Nat, s2 = .int .i64 i ∧ i + kx = n ∧ Hid (Sp w n1 B n M i wr))
  case atStart => exact ⟨0, rfl, by omega, HS⟩
  case round =>
    obtain ⟨i, rfl, hik, HR⟩ := hrel
    have q5 : wr.cell? ⟨w.heap.size, 0, none⟩ = some (.slice (some ⟨B, 0, none⟩) n n) := (vcells HR.out.box 0).trans rfl
    cases gk with
    | zero =>
      obtain rfl : i = n := by omega
      go_wp2
      go_end0
      exact ⟨rfl, HR.out⟩
    | succ kx =>
      have hlt : i < n := by omega
      have hlz : (i : Int) < (n : Int) := by omega
      have hl0 : (0 : Int) ≤ (i : Int) := by omega
      have hiM : i < M.length := by rw [HR.out.len]; exact hlt
      obtain ⟨g, cur0, p1, p2, p3, p4, _, _⟩ := HR.out.p i hiM
      have hNf := HF.out _ (List.getElem_mem hiM)
      obtain ⟨N, hN⟩ : ∃ N, M[i].props.length = N := ⟨_, rfl⟩
      rw [hN] at hNf
      have HC : Hid (∀ W, Sp w n1 B n M i W → W.cell? ⟨B, i * 18 + 6, none⟩ = some (.slice (some ⟨g, 0, none⟩) N N) ∧ W.cell? ⟨w.heap.size, 0, none⟩ = some (.slice (some ⟨B, 0, none⟩) n n) ∧ ∃ cur : List Value, W.heap[g]? = some (.cells cur.toArray 30 (0, 0)) ∧ cur.length = N * 18) := Lib.hid fun W h => ⟨h.cell hiM p1 p4 hN, (vcells h.box 0).trans rfl, by
        obtain ⟨g2, c2, r1, _, _, _, r5, r6⟩ := h.p i hiM
        rw [p1] at r1
        obtain rfl : g = g2 := by injection r1 with r1; injection r1
        exact ⟨c2, r5, by rw [r6, hN]⟩⟩
      have HG := Lib.hid (And.intro p2 p3)
      clear p1 p2 p3 p4 hN
      go_wp2
      go_loopg [3] N (fun ky s3 wx => ∃ k : Nat, s3 = .int .i64 k ∧ k + ky = N ∧ Hid (Sp w n1 B n M i wx))
      case atStart => exact ⟨0, rfl, by omega, HR⟩
      case round =>
        obtain ⟨k, rfl, hky, HX⟩ := hrel
        obtain ⟨c1, c2, cur, c3, c4⟩ := HC.out _ HX.out
        cases gk with
        | zero =>
          obtain rfl : k = N := by omega
          obtain ⟨Mi, m1, m2, m3, m4⟩ := HX.out.m
          have hk18 : i * 18 + (ocl o77).length ≤ (hcl Mi).length := by rw [hcl_len, ocl_len]; omega
          have HM := Lib.hid (And.intro m1 (And.intro m2 m3))
          clear m1 m2 m3
          go_wp2_with (first
            | ((with_reducible refine w_run ?_ (eb_77 rfl) ?_); (rfl))
            | ((with_reducible refine mid_store rfl rfl rfl rfl m4 osz2 hk18 ho1 ?_); intro W6 hb6 hc6 hO6; have HX6 := Lib.hid (HX.out.next hlt HM.out.1 HM.out.2.1 HM.out.2.2 hb6 hc6 hO6)))
          go_roundg kx
          case measure => omega
          case rel => exact ⟨i + 1, by congr 1, by omega, HX6⟩
        | succ ky =>
          have hkz : (k : Int) < (N : Int) := by omega
          have hk0 : (0 : Int) ≤ (k : Int) := by omega
          have hk18 : k * 18 + (pcl pz).length ≤ cur.length := by rw [c4, pcl_len]; omega
          have HC4 := Lib.hid c4
          clear c4
          go_wp2_with (first
            | ((with_reducible refine w_run ?_ (eb_pz rfl) ?_); (rfl))
            | ((with_reducible refine mid_store rfl rfl rfl rfl c3 psz2 hk18 hp1 ?_); intro W6 hb6 hc6 hO6; have HX6 := Lib.hid (HX.out.put HG.out.1 HG.out.2 hb6 c3 hc6 (by have := HC4.out; have := pcl_len pz; simp only [List.length_append, List.length_take, List.length_drop]; omega) hO6)))
          go_roundg ky
          case measure => omega
          case rel => exact ⟨k + 1, by congr 1, by omega, HX6⟩
end Go.Proofs.YtbeggameiedjgaaGreatDoor.S
/-
  HeapApart: what the law is handed, and what stands ahead of its last statement.
-/
namespace Go.Proofs.YtbeggameiedjgaaGreatDoor.S
open Go.RowKit Go.Lib Fl
open Classical

/-- a heap that comes in, however many objects it has -/
structure HIn0 (w : World) (A : Option Addr) (H : List Ob) (cap : Nat) : Prop where
  inn : ∀ o ∈ H, o.In
  row : HRow w A H
  room : H.length ≤ cap
  cap63 : cap < 9223372036854775808
  nil : A = none → cap = 0
theorem kind_77 {H : List Ob} (h : mayH H = true) : ∀ i (hi : i < H.length), H[i].kind ≠ 77 := fun i hi hk => by
  have hb := (mayH_iff.1 h).2.1 i hi
  unfold mayB at hb
  simp only [Bool.and_eq_true] at hb
  have hf := hb.2.2.2
  unfold fitsB at hf
  rw [hk] at hf
  exact absurd (show false = true from hf) (by decide)
theorem small_p {H : List Ob} (h : largeB H = false) : ∀ o ∈ H, o.props.length ≤ 100000 := fun o ho => by
  unfold largeB at h
  rw [List.any_eq_false] at h
  have := h o ho
  simp at this
  omega
theorem HIn0.few {w : World} {A : Option Addr} {H : List Ob} {cap : Nat} (h : HIn0 w A H cap) (hf : H.length ≤ 5000) (hs : largeB H = false) : HIn w A H cap := ⟨h.inn, h.row, hf, fun o ho => by have := small_p hs o ho; omega, h.room, h.cap63, h.nil⟩
theorem Tw.keep {n0 B : Nat} {H M : List Ob} {W W' : World} (h : Tw n0 B H M W) (hO : ∀ j, B ≤ j → j < W.heap.size → W'.heap[j]? = W.heap[j]?) : Tw n0 B H M W' :=
  ⟨h.len, fun j h1 h2 => by obtain ⟨g, g1, g2, g3⟩ := (h.all j h1 h2).out; exact ⟨g, g1, g2, (hO g (by omega) (lt_blk g3)).trans g3⟩, (hO B (Nat.le_refl _) (lt_blk h.b)).trans h.b, h.le⟩
theorem sp_start {W1 Wx : World} {n0 B n : Nat} {H M : List Ob} (hT : Tw n0 B H M W1) (hb : Below W1.heap.size W1 Wx) (hn : H.length = n) : Sp Wx W1.heap.size B n M 0 (Wx.alloc (.cells #[.slice (some ⟨B, 0, none⟩) n n] 49)) := by
  have hB := lt_blk hT.b
  refine ⟨⟨M, by rw [hT.len, hn], fun _ _ _ _ => rfl, fun _ _ h => absurd h (Nat.not_lt_zero _), vblkn (vzero _ _) (vblkn hb hT.b)⟩, fun j hj => ?_, heap_alloc_new _ _, (vzero _ _).mono (by have := hb.size; omega), fun j _ h2 => heap_alloc_old _ _ h2, ⟨hB, hb.size⟩, by rw [hT.len, hn]⟩
  have h2 : j < H.length := by rw [← hT.len]; exact hj
  obtain ⟨g, g1, e, hg⟩ := (hT.all j hj h2).out
  rw [e]
  exact ⟨g, prCells H[j].props, rfl, by omega, lt_blk hg, rfl, vblkn (vzero _ _) (vblkn hb hg), prCells_len _⟩
/-- ahead of the last statement: the heap, the twin that was written over, the other twin -/
structure Ap (w : World) (A : Option Addr) (H : List Ob) (cap n gt gu B1 B2 : Nat) (M2 : List Ob) (W : World) : Prop where
  below : Below w.heap.size w W
  h : W.heap[w.heap.size]? = some (.cells #[.slice A n cap] 49 (0, 0))
  t : W.heap[gt]? = some (.cells #[.slice (some ⟨B1, 0, none⟩) n n] 49 (0, 0))
  u : W.heap[gu]? = some (.cells #[.slice (some ⟨B2, 0, none⟩) n n] 49 (0, 0))
  m : ∃ M1 : List Ob, M1.length = n ∧ (∀ i (h : i < M1.length), M1[i].kind = 77) ∧ W.heap[B1]? = some (.cells (hcl M1).toArray 54 (0, 0))
  tw : Tw 0 B2 H M2 W
theorem Ap.up {w : World} {A : Option Addr} {H : List Ob} {cap n gt gu B1 B2 : Nat} {M2 : List Ob} {W W' : World} (h : Ap w A H cap n gt gu B1 B2 M2 W) (hb : Below W.heap.size W W') : Ap w A H cap n gt gu B1 B2 M2 W' :=
  ⟨vb h.below hb, vblkn hb h.h, vblkn hb h.t, vblkn hb h.u, h.m.imp fun _ g => ⟨g.1, g.2.1, vblkn hb g.2.2⟩, h.tw.up hb⟩
theorem ap_of {w W1 W2 Wx W5 : World} {A : Option Addr} {H M1 M2 : List Ob} {cap n na nb B1 B2 : Nat} (hw : Below w.heap.size w Wx) (hh : Wx.heap[w.heap.size]? = some (.cells #[.slice A n cap] 49 (0, 0))) (hT1 : Tw na B1 H M1 W1) (h1 : w.heap.size < na)
    (ht : Wx.heap[W1.heap.size]? = some (.cells #[.slice (some ⟨B1, 0, none⟩) n n] 49 (0, 0))) (hu : Wx.heap[W2.heap.size]? = some (.cells #[.slice (some ⟨B2, 0, none⟩) n n] 49 (0, 0))) (hT2 : Tw nb B2 H M2 Wx) (h2 : W1.heap.size ≤ nb) (h3 : W1.heap.size ≤ W2.heap.size)
    (hS : Sp Wx W1.heap.size B1 n M1 n W5) : Ap w A H cap n W1.heap.size W2.heap.size B1 B2 M2 W5 := by
  have hle := hT1.le
  have hle2 := hT2.le
  obtain ⟨Mi, m1, _, m3, m4⟩ := hS.m
  exact ⟨hw.trans (hS.below.mono (by omega)), (hS.below.block _ (by omega)).trans hh, (hS.keep _ (Nat.le_refl _) (lt_blk ht)).trans ht, (hS.keep _ h3 (lt_blk hu)).trans hu, ⟨Mi, m1, fun i h => m3 i h (by omega), m4⟩, (hT2.keep fun j hj hj2 => hS.keep j (by omega) hj2).mono (Nat.zero_le _)⟩
end Go.Proofs.YtbeggameiedjgaaGreatDoor.S
/-
  HeapApart: the walk.
-/
namespace Go.Proofs.YtbeggameiedjgaaGreatDoor.S
open Go.RowKit Go.Lib Fl
open Classical

theorem h1_load {W : World} {v : Value} {g : Nat} (h : W.heap[g]? = some (.cells #[v] 49 (0, 0))) : (Instr.loadAt 49 (.pointer (some ⟨g, 0, none⟩))).run Tryz.prog W = .ok (.agg #[v]) W :=
  run_loadAt_at (A := ⟨g, 0, none⟩) (cs := [v]) (fun j u hu => by
    rw [Addr.add_mid, Nat.zero_add, vcells h j]
    simpa using hu) Tryz.underlying49 rfl hsz
/-- ahead of the twins -/
structure Aq (w : World) (A : Option Addr) (n cap : Nat) (W : World) : Prop where
  below : Below w.heap.size w W
  h : W.heap[w.heap.size]? = some (.cells #[.slice A n cap] 49 (0, 0))
theorem Aq.up {w : World} {A : Option Addr} {n cap : Nat} {W W' : World} (h : Aq w A n cap W) (hb : Below W.heap.size W W') : Aq w A n cap W' := ⟨vb h.below hb, vblkn hb h.h⟩
theorem Aq.q {w : World} {A : Option Addr} {n cap : Nat} {W : World} (h : Aq w A n cap W) : W.cell? ⟨w.heap.size, 0, none⟩ = some (.slice A n cap) := (vcells h.h 0).trans rfl
set_option maxHeartbeats 4000000 in
set_option maxRecDepth 1000000 in
theorem HeapApart_walk (A : Option Addr) (H : List Ob) (cap : Nat) (w : World) (hH : HIn0 w A H cap) (htab : TabHere w) : Calls Tryz.prog 7 #[.agg #[.slice A H.length cap]] w fun e w' => e = .returned (.bool true) ∧ Below w.heap.size w w' := by
  have HQ := Lib.hid (Aq.mk (A := A) (n := H.length) (cap := cap) (vzero w _) (heap_alloc_new w _))
  have hq := HQ.out.q
  have cA := fun W (hb : Below w.heap.size w W) => hpalive_any W (tab_up htab hb)
  by_cases hm : (60 < H.length ∧ H.length ≤ 4096) ∨ 5000 < H.length
  · have cL := fun W => large_many A H.length cap W hm
    clear hH htab hm
    go_enter Tryz.func7, Tryz.ntmps7
    go_wp2_with (first
      | (go_at_call 27; (with_reducible refine (cA _ HQ.out.below).mono ?_); rintro e w1 ⟨rfl, h9⟩; have HQ := Lib.hid (HQ.out.up h9); have hq := HQ.out.q; clear h9)
      | (go_at_call 29; (with_reducible refine (cL _).mono ?_); rintro e w2 ⟨rfl, h9⟩; have HQ := Lib.hid (HQ.out.up h9); have hq := HQ.out.q; clear h9))
    go_ret
    exact ⟨rfl, HQ.out.below⟩
  · have cL := fun W (hb : Below w.heap.size w W) => large_few A H cap W (hrow_up hH.row hb) hm
    cases hl : largeB H with
    | true =>
      rw [hl] at cL
      clear hH htab hm hl
      go_enter Tryz.func7, Tryz.ntmps7
      go_wp2_with (first
        | (go_at_call 27; (with_reducible refine (cA _ HQ.out.below).mono ?_); rintro e w1 ⟨rfl, h9⟩; have HQ := Lib.hid (HQ.out.up h9); have hq := HQ.out.q; clear h9)
        | (go_at_call 29; (with_reducible refine (cL _ HQ.out.below).mono ?_); rintro e w2 ⟨rfl, h9⟩; have HQ := Lib.hid (HQ.out.up h9); have hq := HQ.out.q; clear h9))
      go_ret
      exact ⟨rfl, HQ.out.below⟩
    | false =>
      rw [hl] at cL
      have hI := hH.few (by omega) hl
      have cC := fun W (hb : Below w.heap.size w W) => Check_h A H cap W (hI.up hb) (tab_up htab hb)
      cases hmay : mayH H with
      | false =>
        have hk : chkH H = 9 := by unfold chkH; rw [hmay]; rfl
        rw [hk] at cC
        clear hH htab hm hI hl hmay hk
        go_enter Tryz.func7, Tryz.ntmps7
        go_wp2_with (first
          | (go_at_call 27; (with_reducible refine (cA _ HQ.out.below).mono ?_); rintro e w1 ⟨rfl, h9⟩; have HQ := Lib.hid (HQ.out.up h9); have hq := HQ.out.q; clear h9)
          | (go_at_call 29; (with_reducible refine (cL _ HQ.out.below).mono ?_); rintro e w2 ⟨rfl, h9⟩; have HQ := Lib.hid (HQ.out.up h9); have hq := HQ.out.q; clear h9)
          | (go_at_call 28; (with_reducible refine (cC _ HQ.out.below).mono ?_); rintro e w3 ⟨rfl, h9⟩; have HQ := Lib.hid (HQ.out.up h9); have hq := HQ.out.q; clear h9))
        go_ret
        exact ⟨rfl, HQ.out.below⟩
      | true =>
        have hk : chkH H = 0 := chk_ok hmay
        rw [hk] at cC
        have hsm := small_p hl
        have h77 := kind_77 hmay
        have hfew := hI.few
        obtain ⟨n, hn⟩ : ∃ n, H.length = n := ⟨_, rfl⟩
        have cT : ∀ W, Below w.heap.size w W → Calls Tryz.prog 30 #[.agg #[.slice A n cap]] W fun e w' => ∃ B M, e = .returned (.agg #[.slice (some ⟨B, 0, none⟩) n n]) ∧ Tw W.heap.size B H M w' ∧ Below W.heap.size W w' := fun W hb => by
          have := Twin_h A H cap W (hI.up hb) hsm
          unfold TwTo at this
          rw [hn] at this
          exact this
        have cS : ∀ B1 W1 Wx na M, Tw na B1 H M W1 → Below W1.heap.size W1 Wx → Calls Tryz.prog 33 #[.agg #[.slice (some ⟨B1, 0, none⟩) n n]] Wx fun e w' => e = .returned (.tuple #[]) ∧ Sp Wx W1.heap.size B1 n M n w' := fun B1 W1 Wx na M hT hb =>
          spoil_l Wx W1.heap.size B1 n M (sp_start hT hb hn) (by omega) fun o ho => by
            obtain ⟨j, hj, rfl⟩ := List.getElem_of_mem ho
            have h2 : j < H.length := by rw [← hT.len]; exact hj
            obtain ⟨g, _, e, _⟩ := (hT.all j hj h2).out
            rw [e]
            exact hsm H[j] (List.getElem_mem h2)
        rw [hn] at hq cL cC HQ ⊢
        have HH := Lib.hid (And.intro hI (And.intro hsm (And.intro h77 (And.intro hn hfew))))
        clear hH htab hm hI hl hmay hk hsm h77 hfew hn
        go_enter Tryz.func7, Tryz.ntmps7
        go_upto_region 9 with (first
          | (go_at_call 27; (with_reducible refine (cA _ HQ.out.below).mono ?_); rintro e w1 ⟨rfl, h9⟩; have HQ := Lib.hid (HQ.out.up h9); have hq := HQ.out.q; clear h9)
          | (go_at_call 29; (with_reducible refine (cL _ HQ.out.below).mono ?_); rintro e w2 ⟨rfl, h9⟩; have HQ := Lib.hid (HQ.out.up h9); have hq := HQ.out.q; clear h9)
          | (go_at_call 28; (with_reducible refine (cC _ HQ.out.below).mono ?_); rintro e w3 ⟨rfl, h9⟩; have HQ := Lib.hid (HQ.out.up h9); have hq := HQ.out.q; clear h9)
          | (go_at_call 30; (with_reducible refine (cT _ (vb HQ.out.below (vzero _ _))).mono ?_); rintro e w5 ⟨B2, M2, rfl, hT2, h9⟩; have hb15 := vafter h9; have hx0 := HT1.out.le; have hx1 := vlt1 h9; have hx2 := hT2.le; have ht := vblkn h9 (heap_alloc_new w4 _); have HQ := Lib.hid (HQ.out.up hb15); have HT2 := Lib.hid hT2; have q4 : (w5.alloc (.cells #[.slice (some ⟨B2, 0, none⟩) n n] 49)).cell? ⟨w4.heap.size, 0, none⟩ = some (.slice (some ⟨B1, 0, none⟩) n n) := (vcells (vblkn (vzero _ _) ht) 0).trans rfl; have HT := Lib.hid ht; have HB15 := Lib.hid hb15; clear h9 hT2 hb15 ht)
          | (go_at_call 30; (with_reducible refine (cT _ HQ.out.below).mono ?_); rintro e w4 ⟨B1, M1, rfl, hT1, h9⟩; have hn1 := lt_blk HQ.out.h; have HQ := Lib.hid (HQ.out.up h9); have HT1 := Lib.hid hT1; have hq := cell_old HQ.out.q (.cells #[.slice (some ⟨B1, 0, none⟩) n n] 49); clear h9 hT1)
          | (go_at_call 33; (with_reducible refine (cS _ _ _ _ _ HT1.out (vb HB15.out (vzero _ _))).mono ?_); rintro e w6 ⟨rfl, hSp⟩; have hAp := Lib.hid (ap_of (vb HQ.out.below (vzero _ _)) (vblkn (vzero _ _) HQ.out.h) HT1.out hn1 (vblkn (vzero _ _) HT.out) (heap_alloc_new w5 _) (HT2.out.up (vzero _ _)) (by simp) HB15.out.size hSp); clear hSp))
        have hS : Ap w A H cap n w4.heap.size w5.heap.size B1 B2 M2 w6.drew := hAp.out.up (Below.refl _ _).drew
        have cU := fun W (h : Ap w A H cap n w4.heap.size w5.heap.size B1 B2 M2 W) => same_twin n A n cap W h.tw (HH.out.1.up h.below).row HH.out.2.2.2.1 (by have := HH.out.2.2.2; omega) (fun o ho => by have := HH.out.2.1 o ho; omega)
        have cV := fun W (h : Ap w A H cap n w4.heap.size w5.heap.size B1 B2 M2 W) => same_spoilt n A n cap W h.m.choose_spec.2.2 h.m.choose_spec.1 h.m.choose_spec.2.1 (HH.out.1.up h.below).row HH.out.2.2.2.1 (by have := HH.out.2.2.2; omega) HH.out.2.2.1
        clear hAp hq q4 HT HB15 hx0 hx1 hx2 HQ HT1 HT2 cA cL cC cT cS
        generalize w4.heap.size = gt at *
        generalize w5.heap.size = gu at *
        have hz : ((n : Int) == 0) = decide (n = 0) := by by_cases c : n = 0 <;> simp [c]
        cases hd : decide (n = 0)
        all_goals
          rw [hd] at hz cV
          clear hd
          refine wp_region_held_drew (S := Ap w A H cap n gt gu B1 B2 M2) (by kernel_rfl) hS (fun hHeld => ?_)
          refine hH_take (i := 0) (v := ?_) (d := 23) (l2 := #[true, false, false, false, false, false, false, false, false, false, false, false, false, false, false, false, false]) rfl (by kernel_rfl) (by kernel_rfl) (by kernel_rfl) (fun _ _ _ h => h) (by kernel_rfl) ?_ (by assumption) rfl (by kernel_rfl) ?_
          rotate_left
          · intro w hSw; (try dsimp only at hSw); go_simp; (try with_reducible rfl)
          simp only [List.set]
          refine hH_take (i := 1) (v := ?_) (d := 24) (l2 := #[true, true, false, false, false, false, false, false, false, false, false, false, false, false, false, false, false]) rfl (by kernel_rfl) (by kernel_rfl) (by kernel_rfl) (fun _ _ _ h => h) (by kernel_rfl) ?_ (by assumption) rfl (by kernel_rfl) ?_
          rotate_left
          · intro w hSw; (try dsimp only at hSw); go_simp; (try with_reducible rfl)
          simp only [List.set]
          refine hH_take (i := 2) (v := .agg #[.slice (some ⟨B2, 0, none⟩) n n]) (d := 25) (l2 := #[true, true, true, false, false, false, false, false, false, false, false, false, false, false, false, false, false]) rfl (by kernel_rfl) (by kernel_rfl) (by kernel_rfl) (fun _ _ _ h => h) (by kernel_rfl) ?_ (by assumption) rfl (by kernel_rfl) ?_
          · intro w hSw; exact ex_load_at (h1_load hSw.u) rfl rfl
          simp only [List.set]
          refine hH_take (i := 3) (v := .agg #[.slice A n cap]) (d := 26) (l2 := #[true, true, true, true, false, false, false, false, false, false, false, false, false, false, false, false, false]) rfl (by kernel_rfl) (by kernel_rfl) (by kernel_rfl) (fun _ _ _ h => h) (by kernel_rfl) ?_ (by assumption) rfl (by kernel_rfl) ?_
          · intro w hSw; exact ex_load_at (h1_load hSw.h) rfl rfl
          simp only [List.set]
          refine wpAnyH_ready (rs := [4]) (by kernel_rfl) (by simp) ?_
          refine AllReadyH.cons rfl (fun K hK => ?_) AllReadyH.nil
          go_simp
          (go_at_call 31; (with_reducible refine (cU _ hS).mono ?_); rintro e w7 ⟨rfl, h9⟩; have hS := hS.up h9; clear h9)
          refine hK.out _ _ hS (fun hHeld => ?_)
          clear hK K
          refine hH_take (i := 5) (v := ?_) (d := 28) (l2 := #[true, true, true, true, true, true, false, false, false, false, false, false, false, false, false, false, false]) rfl (by kernel_rfl) (by kernel_rfl) (by kernel_rfl) (fun _ _ _ h => h) (by kernel_rfl) ?_ (by assumption) rfl (by kernel_rfl) ?_
          rotate_left
          · intro w hSw; (try dsimp only at hSw); go_simp; (try with_reducible rfl)
          simp only [List.set]
          refine hH_take (i := 6) (v := ?_) (d := 29) (l2 := #[true, true, true, true, true, true, true, false, false, false, false, false, false, false, false, false, false]) rfl (by kernel_rfl) (by kernel_rfl) (by kernel_rfl) (fun _ _ _ h => h) (by kernel_rfl) ?_ (by assumption) rfl (by kernel_rfl) ?_
          rotate_left
          · intro w hSw; (try dsimp only at hSw); go_simp; (try with_reducible rfl)
          simp only [List.set]
          refine hH_take (i := 7) (v := ?_) (d := 30) (l2 := #[true, true, true, true, true, true, true, true, false, false, false, false, false, false, false, false, false]) rfl (by kernel_rfl) (by kernel_rfl) (by kernel_rfl) (fun _ _ _ h => h) (by kernel_rfl) ?_ (by assumption) rfl (by kernel_rfl) ?_
          rotate_left
          · intro w hSw; (try dsimp only at hSw); go_simp; (try with_reducible rfl)
          simp only [List.set]
          refine hH_take (i := 8) (v := ?_) (d := 31) (l2 := #[true, true, true, true, true, true, true, true, true, false, false, false, false, false, false, false, false]) rfl (by kernel_rfl) (by kernel_rfl) (by kernel_rfl) (fun _ _ _ h => h) (by kernel_rfl) ?_ (by assumption) rfl (by kernel_rfl) ?_
          rotate_left
          · intro w hSw; have q := (vcells hSw.h 0).trans rfl; go_simp; (try with_reducible rfl)
          simp only [List.set]
          refine hH_take (i := 9) (v := ?_) (d := 32) (l2 := #[true, true, true, true, true, true, true, true, true, true, false, false, false, false, false, false, false]) rfl (by kernel_rfl) (by kernel_rfl) (by kernel_rfl) (fun _ _ _ h => h) (by kernel_rfl) ?_ (by assumption) rfl (by kernel_rfl) ?_
          rotate_left
          · intro w hSw; (try dsimp only at hSw); go_simp; (try with_reducible rfl)
          simp only [List.set]
          refine hH_take (i := 10) (v := ?_) (d := 33) (l2 := #[true, true, true, true, true, true, true, true, true, true, true, false, false, false, false, false, false]) rfl (by kernel_rfl) (by kernel_rfl) (by kernel_rfl) (fun _ _ _ h => h) (by kernel_rfl) ?_ (by assumption) rfl (by kernel_rfl) ?_
          rotate_left
          · intro w hSw; (try dsimp only at hSw); go_simp; (try with_reducible rfl)
          simp only [List.set]
          refine hH_take (i := 11) (v := .agg #[.slice (some ⟨B1, 0, none⟩) n n]) (d := 34) (l2 := #[true, true, true, true, true, true, true, true, true, true, true, true, false, false, false, false, false]) rfl (by kernel_rfl) (by kernel_rfl) (by kernel_rfl) (fun _ _ _ h => h) (by kernel_rfl) ?_ (by assumption) rfl (by kernel_rfl) ?_
          · intro w hSw; exact ex_load_at (h1_load hSw.t) rfl rfl
          simp only [List.set]
          refine hH_take (i := 12) (v := .agg #[.slice A n cap]) (d := 35) (l2 := #[true, true, true, true, true, true, true, true, true, true, true, true, true, false, false, false, false]) rfl (by kernel_rfl) (by kernel_rfl) (by kernel_rfl) (fun _ _ _ h => h) (by kernel_rfl) ?_ (by assumption) rfl (by kernel_rfl) ?_
          · intro w hSw; exact ex_load_at (h1_load hSw.h) rfl rfl
          simp only [List.set]
          refine wpAnyH_ready (rs := [13]) (by kernel_rfl) (by simp) ?_
          refine AllReadyH.cons rfl (fun K hK => ?_) AllReadyH.nil
          go_simp
          (go_at_call 31; (with_reducible refine (cV _ hS).mono ?_); rintro e w8 ⟨rfl, h9⟩; have hS := hS.up h9; clear h9)
          refine hK.out _ _ hS (fun hHeld => ?_)
          clear hK K
          refine hH_take (i := 14) (v := ?_) (d := 37) (l2 := #[true, true, true, true, true, true, true, true, true, true, true, true, true, true, true, false, false]) rfl (by kernel_rfl) (by kernel_rfl) (by kernel_rfl) (fun _ _ _ h => h) (by kernel_rfl) ?_ (by assumption) rfl (by kernel_rfl) ?_
          rotate_left
          · intro w hSw; (try dsimp only at hSw); go_simp; (try with_reducible rfl)
          simp only [List.set]
          refine hH_take (i := 15) (v := ?_) (d := 38) (l2 := #[true, true, true, true, true, true, true, true, true, true, true, true, true, true, true, true, false]) rfl (by kernel_rfl) (by kernel_rfl) (by kernel_rfl) (fun _ _ _ h => h) (by kernel_rfl) ?_ (by assumption) rfl (by kernel_rfl) ?_
          rotate_left
          · intro w hSw; (try dsimp only at hSw); go_simp; (try with_reducible rfl)
          simp only [List.set]
          refine hH_take (i := 16) (v := ?_) (d := 2) (l2 := #[true, true, true, true, true, true, true, true, true, true, true, true, true, true, true, true, true]) rfl (by kernel_rfl) (by kernel_rfl) (by kernel_rfl) (fun _ _ _ h => h) (by kernel_rfl) ?_ (by assumption) rfl (by kernel_rfl) ?_
          rotate_left
          · intro w hSw; (try dsimp only at hSw); go_simp; (try with_reducible rfl)
          simp only [List.set]
          refine wpAnyH_done (by kernel_rfl) ?_ _
          go_wp2_with (fail)
          go_ret
          exact ⟨rfl, hS.below⟩
end Go.Proofs.YtbeggameiedjgaaGreatDoor.S
/-
  A value that comes in, opened: a struct of four fields.
-/
namespace Go.Proofs.YtbeggameiedjgaaGreatDoor.S
open Go.ChangeShapes Go.WideShapes Go.Deep Go.RowKit Fl

section
variable {H : Type} {enc : TypeId × Value → H} {w : World} {base : Nat} {spare : Nat → Bool} {held : Bool}
/-- a float, read -/
theorem vread_float {k : FloatKind} {t : TypeId} {fuel : Nat} {cs : List Value} {x : DataW H × List MemPlace} (ht : Tryz.prog.underlying t = some (.float k)) (h : DataW.trod enc Tryz.prog w base spare held fuel t cs = some x) : ∃ b, cs = [.float k b] ∧ (Lit.float k b).wf = true := by
  cases fuel with
  | zero => simp [DataW.trod] at h
  | succ n =>
    unfold DataW.trod at h
    rw [ht] at h
    split at h <;> simp_all
set_option maxRecDepth 100000 in
theorem vopen_cells {n : Nat} {cs : List Value} {y : DataW H × List MemPlace} (hl : cs.length = 4) (ht : DataW.trod enc Tryz.prog w base spare held n 26 cs = some y) :
    ∃ (k x : Nat) (s : ByteArray) (r : Int), cs = [.int .u8 (k : Int), .float .f64 x, .string s, .int .i64 r] ∧ k < 256 ∧ x < 2 ^ 64 ∧ s.size ≤ maxLen ∧ -2 ^ 63 ≤ r ∧ r < 2 ^ 63 := by
  obtain ⟨xs, m, _, _, _, hxl, hf⟩ := DataW.trod_struct Tryz.underlying26 ht
  match cs, hl with
  | [c0, c1, c2, c3], _ =>
    have e5 : Tryz.prog.cellsOf 5 = 1 := by kernel_rfl
    have e3 : Tryz.prog.cellsOf 3 = 1 := by kernel_rfl
    have e9 : Tryz.prog.cellsOf 9 = 1 := by kernel_rfl
    have ef : Tryz.prog.cellsOf 24 = 1 := by kernel_rfl
    match xs, hxl with
    | [y0, y1, y2, y3], _ =>
      have h0 : DataW.trod enc Tryz.prog w base spare held m 5 (([c0, c1, c2, c3].drop 0).take (Tryz.prog.cellsOf 5)) = some y0 := hf 0 _ rfl
      have h1 : DataW.trod enc Tryz.prog w base spare held m 24 (([c0, c1, c2, c3].drop 1).take (Tryz.prog.cellsOf 24)) = some y1 := hf 1 _ rfl
      have h2 : DataW.trod enc Tryz.prog w base spare held m 9 (([c0, c1, c2, c3].drop 2).take (Tryz.prog.cellsOf 9)) = some y2 := hf 2 _ rfl
      have h3 : DataW.trod enc Tryz.prog w base spare held m 3 (([c0, c1, c2, c3].drop 3).take (Tryz.prog.cellsOf 3)) = some y3 := hf 3 _ rfl
      rw [e5] at h0
      rw [ef] at h1
      rw [e9] at h2
      rw [e3] at h3
      obtain ⟨k, k1, _, k2⟩ := DataW.trod_int Tryz.underlying5 h0
      obtain ⟨b, b1, b2⟩ := vread_float Tryz.underlying24 h1
      obtain ⟨s, s1, _, s2⟩ := DataW.trod_string Tryz.underlying9 h2
      obtain ⟨p, p1, _, p2⟩ := DataW.trod_int Tryz.underlying3 h3
      obtain rfl : c0 = .int .u8 k := by simpa using k1
      obtain rfl : c1 = .float .f64 b := by simpa using b1
      obtain rfl : c2 = .string s := by simpa using s1
      obtain rfl : c3 = .int .i64 p := by simpa using p1
      have hk : 0 ≤ k ∧ k ≤ 255 := by
        have h2 : (decide (IntKind.u8.min ≤ k) && decide (k ≤ IntKind.u8.max)) = true := k2
        rw [show IntKind.u8.min = 0 by decide, show IntKind.u8.max = 255 by decide] at h2
        simpa using h2
      have hb : b < 2 ^ 64 := by
        have h2 : decide (b < 2 ^ 64) = true := b2
        simpa using h2
      have hp : -9223372036854775808 ≤ p ∧ p ≤ 9223372036854775807 := by
        have h2 : (decide (IntKind.i64.min ≤ p) && decide (p ≤ IntKind.i64.max)) = true := p2
        rw [show IntKind.i64.min = -9223372036854775808 by decide, show IntKind.i64.max = 9223372036854775807 by decide] at h2
        simpa using h2
      have e : ((k.toNat : Nat) : Int) = k := by omega
      exact ⟨k.toNat, b, s, p, by rw [e], by omega, hb, s2, by omega, by omega⟩
set_option maxRecDepth 100000 in
/-- a value that comes in -/
theorem open_val {v : Value} {d : DataW H} {p : List MemPlace} (hv : Value.okWide Tryz.prog w .any base 26 v) (h : DataW.Trod enc Tryz.prog w 0 (fun _ => true) true 26 v d p) :
    ∃ (k x : Nat) (s : ByteArray) (r : Int), v = .agg #[.int .u8 (k : Int), .float .f64 x, .string s, .int .i64 r] ∧ k < 256 ∧ x < 2 ^ 64 ∧ s.size ≤ maxLen ∧ -2 ^ 63 ≤ r ∧ r < 2 ^ 63 := by
  obtain ⟨cs, rfl, hsz⟩ := okWide_struct Tryz.underlying26 hv
  obtain ⟨fuel, hf⟩ := h
  have hcell : Tryz.prog.cellsOf 26 = 4 := by kernel_rfl
  rw [hcell] at hsz
  have hf : DataW.trod enc Tryz.prog w 0 (fun _ => true) true fuel 26 cs.toList = some (d, p) := hf
  obtain ⟨k, x, s, r, e, h1, h2, h3, h4, h5⟩ := vopen_cells (by simpa using hsz) hf
  exact ⟨k, x, s, r, by rw [← e], h1, h2, h3, h4, h5⟩
end
end Go.Proofs.YtbeggameiedjgaaGreatDoor.S
/-
  A descriptor that comes in, opened: a struct of seven fields, three of them structs.
-/
namespace Go.Proofs.YtbeggameiedjgaaGreatDoor.S
open Go.ChangeShapes Go.WideShapes Go.Deep Go.RowKit Fl

section
variable {H : Type} {enc : TypeId × Value → H} {w : World} {base : Nat} {spare : Nat → Bool} {held : Bool}
theorem dread_bool {t : TypeId} {fuel : Nat} {cs : List Value} {x : DataW H × List MemPlace} (ht : Tryz.prog.underlying t = some .bool) (h : DataW.trod enc Tryz.prog w base spare held fuel t cs = some x) : ∃ b, cs = [.bool b] := by
  cases fuel with
  | zero => simp [DataW.trod] at h
  | succ n =>
    unfold DataW.trod at h
    rw [ht] at h
    split at h <;> simp_all
set_option maxRecDepth 100000 in
theorem open_vq {n : Nat} {cs : List Value} {y : DataW H × List MemPlace} (hl : cs.length = 4) (ht : DataW.trod enc Tryz.prog w base spare held n 26 cs = some y) :
    ∃ v : Vq, cs = [.int .u8 v.k, .float .f64 v.x, .string v.s, .int .i64 v.r] ∧ v.In := by
  obtain ⟨k, x, s, r, e, h1, h2, h3, h4, h5⟩ := vopen_cells hl ht
  exact ⟨⟨(k : Int), x, s, r⟩, e, by dsimp only; omega, by dsimp only; omega, h2, h5⟩
set_option maxRecDepth 100000 in
theorem open_dq {n : Nat} {cs : List Value} {y : DataW H × List MemPlace} (hl : cs.length = 16) (ht : DataW.trod enc Tryz.prog w base spare held n 28 cs = some y) :
    ∃ q : Dq, cs = q.cells.toList ∧ q.In := by
  obtain ⟨xs, m, _, _, _, hxl, hf⟩ := DataW.trod_struct Tryz.underlying28 ht
  match cs, hl with
  | [c0, c1, c2, c3, c4, c5, c6, c7, c8, c9, c10, c11, c12, c13, c14, c15], _ =>
    have e5 : Tryz.prog.cellsOf 5 = 1 := by kernel_rfl
    have eb : Tryz.prog.cellsOf 4 = 1 := by kernel_rfl
    have ev : Tryz.prog.cellsOf 26 = 4 := by kernel_rfl
    match xs, hxl with
    | [y0, y1, y2, y3, y4, y5, y6], _ =>
      have h0 : DataW.trod enc Tryz.prog w base spare held m 5 (([c0, c1, c2, c3, c4, c5, c6, c7, c8, c9, c10, c11, c12, c13, c14, c15].drop 0).take (Tryz.prog.cellsOf 5)) = some y0 := hf 0 _ rfl
      have h1 : DataW.trod enc Tryz.prog w base spare held m 26 (([c0, c1, c2, c3, c4, c5, c6, c7, c8, c9, c10, c11, c12, c13, c14, c15].drop 1).take (Tryz.prog.cellsOf 26)) = some y1 := hf 1 _ rfl
      have h2 : DataW.trod enc Tryz.prog w base spare held m 26 (([c0, c1, c2, c3, c4, c5, c6, c7, c8, c9, c10, c11, c12, c13, c14, c15].drop 5).take (Tryz.prog.cellsOf 26)) = some y2 := hf 2 _ rfl
      have h3 : DataW.trod enc Tryz.prog w base spare held m 26 (([c0, c1, c2, c3, c4, c5, c6, c7, c8, c9, c10, c11, c12, c13, c14, c15].drop 9).take (Tryz.prog.cellsOf 26)) = some y3 := hf 3 _ rfl
      have h4 : DataW.trod enc Tryz.prog w base spare held m 4 (([c0, c1, c2, c3, c4, c5, c6, c7, c8, c9, c10, c11, c12, c13, c14, c15].drop 13).take (Tryz.prog.cellsOf 4)) = some y4 := hf 4 _ rfl
      have h5 : DataW.trod enc Tryz.prog w base spare held m 4 (([c0, c1, c2, c3, c4, c5, c6, c7, c8, c9, c10, c11, c12, c13, c14, c15].drop 14).take (Tryz.prog.cellsOf 4)) = some y5 := hf 5 _ rfl
      have h6 : DataW.trod enc Tryz.prog w base spare held m 4 (([c0, c1, c2, c3, c4, c5, c6, c7, c8, c9, c10, c11, c12, c13, c14, c15].drop 15).take (Tryz.prog.cellsOf 4)) = some y6 := hf 6 _ rfl
      rw [e5] at h0
      rw [ev] at h1 h2 h3
      rw [eb] at h4 h5 h6
      obtain ⟨k, k1, _, k2⟩ := DataW.trod_int Tryz.underlying5 h0
      obtain ⟨a, a1, a2⟩ := open_vq rfl h1
      obtain ⟨b, b1, b2⟩ := open_vq rfl h2
      obtain ⟨c, d1, d2⟩ := open_vq rfl h3
      obtain ⟨p, p1⟩ := dread_bool Tryz.underlying4 h4
      obtain ⟨q, q1⟩ := dread_bool Tryz.underlying4 h5
      obtain ⟨z, z1⟩ := dread_bool Tryz.underlying4 h6
      have hk : 0 ≤ k ∧ k ≤ 255 := by
        have h2 : (decide (IntKind.u8.min ≤ k) && decide (k ≤ IntKind.u8.max)) = true := k2
        rw [show IntKind.u8.min = 0 by decide, show IntKind.u8.max = 255 by decide] at h2
        simpa using h2
      refine ⟨⟨k, a, b, c, p, q, z⟩, ?_, ⟨hk.1, by dsimp only; omega, a2, b2, d2⟩⟩
      simp only [List.drop_succ_cons, List.drop_zero, List.take_succ_cons, List.take_zero, List.cons.injEq, and_true] at k1 a1 b1 d1 p1 q1 z1
      obtain rfl := k1
      obtain ⟨rfl, rfl, rfl, rfl⟩ := a1
      obtain ⟨rfl, rfl, rfl, rfl⟩ := b1
      obtain ⟨rfl, rfl, rfl, rfl⟩ := d1
      obtain rfl := p1
      obtain rfl := q1
      obtain rfl := z1
      rfl
set_option maxRecDepth 100000 in
/-- a descriptor that comes in -/
theorem open_desc {v : Value} {d : DataW H} {p : List MemPlace} (hv : Value.okWide Tryz.prog w .any base 28 v) (h : DataW.Trod enc Tryz.prog w 0 (fun _ => true) true 28 v d p) :
    ∃ q : Dq, v = q.val ∧ q.In := by
  obtain ⟨cs, rfl, hsz⟩ := okWide_struct Tryz.underlying28 hv
  obtain ⟨fuel, hf⟩ := h
  have hcell : Tryz.prog.cellsOf 28 = 16 := by kernel_rfl
  rw [hcell] at hsz
  have hf : DataW.trod enc Tryz.prog w 0 (fun _ => true) true fuel 28 cs.toList = some (d, p) := hf
  obtain ⟨q, e, hq⟩ := open_dq (by simpa using hsz) hf
  exact ⟨q, by unfold Dq.val; congr 1; exact Array.toList_inj.1 e, hq⟩
end
end Go.Proofs.YtbeggameiedjgaaGreatDoor.S
/-
  Properties, and a slice of them, that come in, opened.
-/
namespace Go.Proofs.YtbeggameiedjgaaGreatDoor.S
open Go.ChangeShapes Go.WideShapes Go.Deep Go.RowKit Fl

section
variable {H : Type} {enc : TypeId × Value → H} {w : World} {base : Nat} {spare : Nat → Bool} {held : Bool}
theorem plist_of {n : Nat} {Q : Nat → Pq → Prop} (h : ∀ i, i < n → ∃ t, Q i t) : ∃ l : List Pq, l.length = n ∧ ∀ (i : Nat) (hi : i < l.length), Q i l[i] := by
  induction n with
  | zero => exact ⟨[], rfl, fun i hi => by simp at hi⟩
  | succ n ih =>
    obtain ⟨l, hl, hq⟩ := ih fun i hi => h i (by omega)
    obtain ⟨t, ht⟩ := h n (by omega)
    refine ⟨l ++ [t], by simp [hl], fun i hi => ?_⟩
    by_cases c : i < l.length
    · rw [List.getElem_append_left c]; exact hq i c
    · have e : i = l.length := by simp at hi; omega
      subst e
      rw [List.getElem_append_right (Nat.le_refl _)]
      simp only [Nat.sub_self, List.getElem_singleton]
      rw [hl]; exact ht
set_option maxRecDepth 100000 in
theorem popen_cells {n : Nat} {cs : List Value} {y : DataW H × List MemPlace} (hl : cs.length = 18) (ht : DataW.trod enc Tryz.prog w base spare held n 30 cs = some y) : ∃ p : Pq, cs = pcl p ∧ p.In := by
  obtain ⟨xs, m, _, _, _, hxl, hf⟩ := DataW.trod_struct Tryz.underlying30 ht
  have ek : Tryz.prog.cellsOf 23 = 2 := by kernel_rfl
  have ed : Tryz.prog.cellsOf 28 = 16 := by kernel_rfl
  match xs, hxl with
  | [y0, y1], _ =>
    have h0 : DataW.trod enc Tryz.prog w base spare held m 23 ((cs.drop 0).take (Tryz.prog.cellsOf 23)) = some y0 := hf 0 _ rfl
    have h1 : DataW.trod enc Tryz.prog w base spare held m 28 ((cs.drop 2).take (Tryz.prog.cellsOf 28)) = some y1 := hf 1 _ rfl
    rw [ek] at h0
    rw [ed] at h1
    obtain ⟨k, e1, hk⟩ := kopen_cells (by simp [hl]) h0
    obtain ⟨d, e2, hd⟩ := open_dq (by simp [hl]) h1
    refine ⟨⟨k, d⟩, ?_, hk, hd⟩
    have e3 : cs = (cs.drop 0).take 2 ++ (cs.drop 2).take 16 := by
      rw [List.drop_zero, List.take_of_length_le (by simp [hl] : (cs.drop 2).length ≤ 16), List.take_append_drop]
    rw [e3, e1, e2]
    rfl
set_option maxRecDepth 100000 in
theorem popen_one {a : Addr} {n : Nat} {cs : List Value} {x : DataW H × List MemPlace} (hc : w.cells? base a 18 = some cs) (ht : DataW.trod enc Tryz.prog w base spare held n 30 cs = some x) : ∃ p : Pq, p.In ∧ a.block < w.heap.size ∧ ∀ j u, (pcl p)[j]? = some u → w.cell? (a.add j) = some u := by
  obtain ⟨_, hl, hat⟩ := World.cells?_some hc
  obtain ⟨p, rfl, hp⟩ := popen_cells hl ht
  have h0 := hat 0 (by omega)
  refine ⟨p, hp, ?_, fun j u hu => ?_⟩
  · have := klt_of_cell h0
    rw [kblock_add] at this
    exact this
  · have hj : j < 18 := by have := (List.getElem?_eq_some_iff.1 hu).1; rw [pcl_len] at this; exact this
    rw [hat j hj]
    have := (List.getElem?_eq_some_iff.1 hu).2
    simp [← this]
set_option maxRecDepth 100000 in
/-- a slice of properties that comes in -/
theorem open_props {v : Value} {d : DataW H} {p : List MemPlace} (hv : Value.okWide Tryz.prog w .any base 35 v) (h : DataW.Trod enc Tryz.prog w 0 (fun _ => true) true 35 v d p) :
    ∃ (A : Option Addr) (l : List Pq) (cap : Nat), v = .slice A l.length cap ∧ l.length ≤ cap ∧ cap ≤ maxLen ∧ PR w A l ∧ (∀ k ∈ l, k.In) ∧ (A = none → cap = 0) := by
  obtain ⟨a0, len, cap, rfl⟩ := okWide_slice Tryz.underlying35 hv
  obtain ⟨fuel, hf⟩ := h
  have hcell : Tryz.prog.cellsOf 30 = 18 := by kernel_rfl
  rcases open_slice Tryz.underlying35 hf with ⟨h1, _⟩ | ⟨a, len', cap', m, n, D, Pl, hcs, _, hl, hm, hmm, _, hi⟩
  · have h1 : [Value.slice a0 len cap] = [.slice none 0 0] := h1
    injection h1 with h1
    injection h1 with e1 e2 e3
    subst e1 e2 e3
    exact ⟨none, [], 0, rfl, Nat.le_refl _, Nat.zero_le _, pr_nil, (fun t ht => by cases ht), fun _ => rfl⟩
  · have hcs : [Value.slice a0 len cap] = [.slice (some a) len' cap'] := hcs
    injection hcs with hcs
    injection hcs with e1 e2 e3
    subst e1 e2 e3
    rw [if_pos rfl] at hmm
    subst hmm
    obtain ⟨l, hll, hq⟩ := plist_of (n := len) (Q := fun i k => k.In ∧ (a.add (i * 18)).block < w.heap.size ∧ ∀ j u, (pcl k)[j]? = some u → w.cell? ((a.add (i * 18)).add j) = some u) fun i hilt => by
      obtain ⟨cs', hc, ht⟩ := hi i (by omega)
      rw [hcell] at hc
      exact popen_one hc ht
    refine ⟨some a, l, _, by rw [hll], by omega, by omega, fun hpos => ?_, fun t ht => ?_, fun h => by cases h⟩
    · have hb := (hq 0 hpos).2.1
      rw [kblock_add] at hb
      refine ⟨a, rfl, hb, fun i hi' j u hu => ?_⟩
      rw [← add_add]
      exact (hq i hi').2.2 j u hu
    · obtain ⟨i, hi'⟩ := List.getElem?_of_mem ht
      obtain ⟨hlt, he⟩ := List.getElem?_eq_some_iff.1 hi'
      rw [← he]; exact (hq i hlt).1
end
end Go.Proofs.YtbeggameiedjgaaGreatDoor.S
/-
  A heap that comes in, opened.
-/
namespace Go.Proofs.YtbeggameiedjgaaGreatDoor.S
open Go.ChangeShapes Go.WideShapes Go.Deep Go.RowKit Fl

section
variable {H : Type} {enc : TypeId × Value → H} {w : World} {base : Nat}
set_option maxRecDepth 100000 in
/-- a slice of properties inside of something that comes in -/
theorem iopen_props {v : Value} {fuel : Nat} {y : DataW H × List MemPlace} (hf : DataW.trod enc Tryz.prog w 0 (fun _ => true) true fuel 35 [v] = some y) :
    ∃ (A : Option Addr) (l : List Pq) (cap : Nat), v = .slice A l.length cap ∧ l.length ≤ cap ∧ cap ≤ maxLen ∧ PR w A l ∧ (∀ k ∈ l, k.In) ∧ (A = none → cap = 0) := by
  have hcell : Tryz.prog.cellsOf 30 = 18 := by kernel_rfl
  rcases open_slice Tryz.underlying35 hf with ⟨h1, _⟩ | ⟨a, len', cap', m, n, D, Pl, hcs, _, hl, hm, hmm, _, hi⟩
  · have h1 : [v] = [.slice none 0 0] := h1
    injection h1 with h1
    subst h1
    exact ⟨none, [], 0, rfl, Nat.le_refl _, Nat.zero_le _, pr_nil, (fun t ht => by cases ht), fun _ => rfl⟩
  · have hcs : [v] = [.slice (some a) len' cap'] := hcs
    injection hcs with hcs
    subst hcs
    rw [if_pos rfl] at hmm
    subst hmm
    obtain ⟨l, hll, hq⟩ := plist_of (n := len') (Q := fun i k => k.In ∧ (a.add (i * 18)).block < w.heap.size ∧ ∀ j u, (pcl k)[j]? = some u → w.cell? ((a.add (i * 18)).add j) = some u) fun i hilt => by
      obtain ⟨cs', hc, ht⟩ := hi i (by omega)
      rw [hcell] at hc
      exact popen_one hc ht
    refine ⟨some a, l, _, by rw [hll], by omega, by omega, fun hpos => ?_, fun t ht => ?_, fun h => by cases h⟩
    · have hb := (hq 0 hpos).2.1
      rw [kblock_add] at hb
      refine ⟨a, rfl, hb, fun i hi' j u hu => ?_⟩
      rw [← add_add]
      exact (hq i hi').2.2 j u hu
    · obtain ⟨i, hi'⟩ := List.getElem?_of_mem ht
      obtain ⟨hlt, he⟩ := List.getElem?_eq_some_iff.1 hi'
      rw [← he]; exact (hq i hlt).1
set_option maxRecDepth 100000 in
theorem oopen_cells {n : Nat} {cs : List Value} {y : DataW H × List MemPlace} (hl : cs.length = 18) (ht : DataW.trod enc Tryz.prog w 0 (fun _ => true) true n 54 cs = some y) : ∃ o : Ob, cs = ocl o ∧ o.In ∧ PR w o.pa o.props := by
  obtain ⟨xs, m, _, _, _, hxl, hf⟩ := DataW.trod_struct Tryz.underlying54 ht
  have eb : Tryz.prog.cellsOf 4 = 1 := by kernel_rfl
  have eu : Tryz.prog.cellsOf 5 = 1 := by kernel_rfl
  have es : Tryz.prog.cellsOf 9 = 1 := by kernel_rfl
  have ev : Tryz.prog.cellsOf 26 = 4 := by kernel_rfl
  have ep : Tryz.prog.cellsOf 35 = 1 := by kernel_rfl
  match cs, hl with
  | [c0, c1, c2, c3, c4, c5, c6, c7, c8, c9, c10, c11, c12, c13, c14, c15, c16, c17], _ =>
    match xs, hxl with
    | [y0, y1, y2, y3, y4, y5, y6, y7, y8], _ =>
      have h0 := hf 0 _ rfl
      have h1 := hf 1 _ rfl
      have h2 := hf 2 _ rfl
      have h3 := hf 3 _ rfl
      have h4 := hf 4 _ rfl
      have h5 := hf 5 _ rfl
      have h6 := hf 6 _ rfl
      have h7 := hf 7 _ rfl
      have h8 := hf 8 _ rfl
      replace h0 : DataW.trod enc Tryz.prog w 0 (fun _ => true) true m 5 (([c0, c1, c2, c3, c4, c5, c6, c7, c8, c9, c10, c11, c12, c13, c14, c15, c16, c17].drop 0).take (Tryz.prog.cellsOf 5)) = some y0 := h0
      replace h1 : DataW.trod enc Tryz.prog w 0 (fun _ => true) true m 26 (([c0, c1, c2, c3, c4, c5, c6, c7, c8, c9, c10, c11, c12, c13, c14, c15, c16, c17].drop 1).take (Tryz.prog.cellsOf 26)) = some y1 := h1
      replace h2 : DataW.trod enc Tryz.prog w 0 (fun _ => true) true m 4 (([c0, c1, c2, c3, c4, c5, c6, c7, c8, c9, c10, c11, c12, c13, c14, c15, c16, c17].drop 5).take (Tryz.prog.cellsOf 4)) = some y2 := h2
      replace h3 : DataW.trod enc Tryz.prog w 0 (fun _ => true) true m 35 (([c0, c1, c2, c3, c4, c5, c6, c7, c8, c9, c10, c11, c12, c13, c14, c15, c16, c17].drop 6).take (Tryz.prog.cellsOf 35)) = some y3 := h3
      replace h4 : DataW.trod enc Tryz.prog w 0 (fun _ => true) true m 26 (([c0, c1, c2, c3, c4, c5, c6, c7, c8, c9, c10, c11, c12, c13, c14, c15, c16, c17].drop 7).take (Tryz.prog.cellsOf 26)) = some y4 := h4
      replace h5 : DataW.trod enc Tryz.prog w 0 (fun _ => true) true m 26 (([c0, c1, c2, c3, c4, c5, c6, c7, c8, c9, c10, c11, c12, c13, c14, c15, c16, c17].drop 11).take (Tryz.prog.cellsOf 26)) = some y5 := h5
      replace h6 : DataW.trod enc Tryz.prog w 0 (fun _ => true) true m 9 (([c0, c1, c2, c3, c4, c5, c6, c7, c8, c9, c10, c11, c12, c13, c14, c15, c16, c17].drop 15).take (Tryz.prog.cellsOf 9)) = some y6 := h6
      replace h7 : DataW.trod enc Tryz.prog w 0 (fun _ => true) true m 4 (([c0, c1, c2, c3, c4, c5, c6, c7, c8, c9, c10, c11, c12, c13, c14, c15, c16, c17].drop 16).take (Tryz.prog.cellsOf 4)) = some y7 := h7
      replace h8 : DataW.trod enc Tryz.prog w 0 (fun _ => true) true m 4 (([c0, c1, c2, c3, c4, c5, c6, c7, c8, c9, c10, c11, c12, c13, c14, c15, c16, c17].drop 17).take (Tryz.prog.cellsOf 4)) = some y8 := h8
      rw [eu] at h0
      rw [ev] at h1 h4 h5
      rw [eb] at h2 h7 h8
      rw [ep] at h3
      rw [es] at h6
      obtain ⟨k, k1, _, k2⟩ := DataW.trod_int Tryz.underlying5 h0
      obtain ⟨v1, e1, i1⟩ := open_vq (by rfl) h1
      obtain ⟨b2, e2⟩ := dread_bool Tryz.underlying4 h2
      obtain ⟨A, l, cap, e3, g1, g2, g3, g4, g5⟩ := iopen_props (v := c6) h3
      obtain ⟨v4, e4, i4⟩ := open_vq (by rfl) h4
      obtain ⟨v5, e5, i5⟩ := open_vq (by rfl) h5
      obtain ⟨s, s1, _, s2⟩ := DataW.trod_string Tryz.underlying9 h6
      obtain ⟨b7, e7⟩ := dread_bool Tryz.underlying4 h7
      obtain ⟨b8, e8⟩ := dread_bool Tryz.underlying4 h8
      have hk : 0 ≤ k ∧ k < 256 := by
        have h2 : (decide (IntKind.u8.min ≤ k) && decide (k ≤ IntKind.u8.max)) = true := k2
        rw [show IntKind.u8.min = 0 by decide, show IntKind.u8.max = 255 by decide] at h2
        simp at h2
        omega
      refine ⟨⟨k, v1, b2, A, cap, l, v4, v5, s, b7, b8⟩, ?_, ⟨hk.1, hk.2, i1, i4, i5, s2, g4, g1, by unfold maxLen at g2; show cap < _; omega, g5⟩, g3⟩
      have t1 : [c1, c2, c3, c4] = _ := e1
      have t4 : [c7, c8, c9, c10] = _ := e4
      have t5 : [c11, c12, c13, c14] = _ := e5
      simp only [List.drop, List.take, List.cons.injEq, and_true] at k1 e2 s1 e7 e8
      simp only [List.cons.injEq, and_true] at t1 t4 t5
      obtain ⟨t1a, t1b, t1c, t1d⟩ := t1
      obtain ⟨t4a, t4b, t4c, t4d⟩ := t4
      obtain ⟨t5a, t5b, t5c, t5d⟩ := t5
      subst k1 e2 s1 e7 e8 e3 t1a t1b t1c t1d t4a t4b t4c t4d t5a t5b t5c t5d
      rfl
end
end Go.Proofs.YtbeggameiedjgaaGreatDoor.S
/-
  A heap that comes in, opened: the whole.
-/
namespace Go.Proofs.YtbeggameiedjgaaGreatDoor.S
open Go.ChangeShapes Go.WideShapes Go.Deep Go.RowKit Fl

section
variable {H : Type} {enc : TypeId × Value → H} {w : World} {base : Nat}
theorem oblist_of {n : Nat} {Q : Nat → Ob → Prop} (h : ∀ i, i < n → ∃ t, Q i t) : ∃ l : List Ob, l.length = n ∧ ∀ (i : Nat) (hi : i < l.length), Q i l[i] := by
  induction n with
  | zero => exact ⟨[], rfl, fun i hi => by simp at hi⟩
  | succ n ih =>
    obtain ⟨l, hl, hq⟩ := ih fun i hi => h i (by omega)
    obtain ⟨t, ht⟩ := h n (by omega)
    refine ⟨l ++ [t], by simp [hl], fun i hi => ?_⟩
    by_cases c : i < l.length
    · rw [List.getElem_append_left c]; exact hq i c
    · have e : i = l.length := by simp at hi; omega
      subst e
      rw [List.getElem_append_right (Nat.le_refl _)]
      simp only [Nat.sub_self, List.getElem_singleton]
      rw [hl]; exact ht
set_option maxRecDepth 100000 in
theorem oopen_one {a : Addr} {n : Nat} {cs : List Value} {x : DataW H × List MemPlace} (hc : w.cells? 0 a 18 = some cs) (ht : DataW.trod enc Tryz.prog w 0 (fun _ => true) true n 54 cs = some x) : ∃ o : Ob, o.In ∧ PR w o.pa o.props ∧ OF w a o := by
  obtain ⟨_, hl, hat⟩ := World.cells?_some hc
  obtain ⟨o, rfl, ho, hp⟩ := oopen_cells hl ht
  have h0 := hat 0 (by omega)
  refine ⟨o, ho, hp, of_cells ?_ fun j u hu => ?_⟩
  · have := klt_of_cell h0
    rw [kblock_add] at this
    exact this
  · have hj : j < 18 := by have := (List.getElem?_eq_some_iff.1 hu).1; rw [ocl_len] at this; exact this
    rw [hat j hj]
    have := (List.getElem?_eq_some_iff.1 hu).2
    simp [← this]
set_option maxRecDepth 100000 in
/-- a heap that comes in -/
theorem open_heap {v : Value} {d : DataW H} {p : List MemPlace} (hv : Value.okWide Tryz.prog w .any base 49 v) (h : DataW.Trod enc Tryz.prog w 0 (fun _ => true) true 49 v d p) :
    ∃ (A : Option Addr) (l : List Ob) (cap : Nat), v = .agg #[.slice A l.length cap] ∧ HIn0 w A l cap := by
  obtain ⟨cs, rfl, hsz⟩ := okWide_struct Tryz.underlying49 hv
  obtain ⟨fuel, hf⟩ := h
  have hcell1 : Tryz.prog.cellsOf 49 = 1 := by kernel_rfl
  have hcell2 : Tryz.prog.cellsOf 47 = 1 := by kernel_rfl
  have hcell : Tryz.prog.cellsOf 54 = 18 := by kernel_rfl
  rw [hcell1] at hsz
  have hf : DataW.trod enc Tryz.prog w 0 (fun _ => true) true fuel 49 cs.toList = some (d, p) := hf
  obtain ⟨xs, m0, _, _, _, hxl, hf2⟩ := DataW.trod_struct Tryz.underlying49 hf
  obtain ⟨c0, hc0⟩ : ∃ c0, cs.toList = [c0] := List.length_eq_one_iff.1 (by simpa using hsz)
  have hcs : cs = #[c0] := by apply Array.toList_inj.1; rw [hc0]
  subst hcs
  match xs, hxl with
  | [y0], _ =>
    have h0 : DataW.trod enc Tryz.prog w 0 (fun _ => true) true m0 47 (([c0].drop 0).take (Tryz.prog.cellsOf 47)) = some y0 := hf2 0 _ rfl
    rw [hcell2] at h0
    have h0 : DataW.trod enc Tryz.prog w 0 (fun _ => true) true m0 47 [c0] = some y0 := h0
    rcases open_slice Tryz.underlying47 h0 with ⟨h1, _⟩ | ⟨a, len', cap', m, n, D, Pl, hcs, _, hl, hm, hmm, _, hi⟩
    · have h1 : [c0] = [.slice none 0 0] := h1
      injection h1 with h1
      subst h1
      exact ⟨none, [], 0, rfl, (fun o ho => by cases ho), (fun hp => absurd hp (Nat.lt_irrefl 0)), Nat.le_refl _, (by decide), fun _ => rfl⟩
    · have hcs : [c0] = [.slice (some a) len' cap'] := hcs
      injection hcs with hcs
      subst hcs
      rw [if_pos rfl] at hmm
      subst hmm
      obtain ⟨l, hll, hq⟩ := oblist_of (n := len') (Q := fun i k => k.In ∧ PR w k.pa k.props ∧ OF w (a.add (i * 18)) k) fun i hilt => by
        obtain ⟨cs', hc, ht⟩ := hi i (by omega)
        rw [hcell] at hc
        exact oopen_one hc ht
      refine ⟨some a, l, _, by rw [hll], fun t ht => ?_, fun hpos => ?_, by omega, by unfold maxLen at *; omega, fun h => by cases h⟩
      · obtain ⟨i, hi'⟩ := List.getElem?_of_mem ht
        obtain ⟨hlt, he⟩ := List.getElem?_eq_some_iff.1 hi'
        rw [← he]; exact (hq i hlt).1
      · have hb := (hq 0 hpos).2.2.lt
        rw [kblock_add] at hb
        exact ⟨a, rfl, hb, fun i hi' => ⟨(hq i hi').2.2, (hq i hi').2.1⟩⟩
end
end Go.Proofs.YtbeggameiedjgaaGreatDoor.S
