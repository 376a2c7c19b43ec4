/-
  heap.loops: whether one comes back from an object to it by prototypes.
-/
import Derived.Test.YtbeggameiedjgaaGreatDoorHA01
import Derived.Deep.LoopGhost
import Derived.Test.YtbeggameiedjgaaGreatDoorHA03
import Derived.Test.YtbeggameiedjgaaGreatDoorTN33
namespace Go.Proofs.YtbeggameiedjgaaGreatDoor.S
open Go.RowKit Go.Lib Fl
open Classical

def WK (W : List Nat) : Array Value := (W.map fun (x : Nat) => Value.int .i64 (x : Int)).toArray
theorem WK_size (W : List Nat) : (WK W).size = W.length := by simp [WK]
theorem WK_at {W : List Nat} {i : Nat} (h : i < W.length) : (WK W)[i]? = some (.int .i64 (W[i] : Int)) := by simp [WK, h]
theorem WK_set (W : List Nat) (i k : Nat) : (WK W).setIfInBounds i (.int .i64 (k : Int)) = WK (W.set i k) := by simp [WK, List.map_set]
theorem made_ints (n : Nat) : madeCells (Value.int .i64 0).cells (n * 1) = WK (List.replicate n 0) := by
  apply Array.ext
  · simp [madeCells, WK]
  · intro i h1 h2
    have e : i % 1 = 0 := Nat.mod_one i
    simp [madeCells, WK, Value.cells, e]
/-- what loops holds on to -/
structure Ls (w : World) (A : Option Addr) (n cap : Nat) (K : List Nat) (W : World) : Prop where
  below : Below w.heap.size w W
  h : W.heap[w.heap.size]? = some (.cells #[.slice A n cap] 49 (0, 0))
  k : W.heap[w.heap.size + 1]? = some (.cells (WK K) 3 (0, 0))
theorem Ls.up {w W W' : World} {A : Option Addr} {n cap : Nat} {K : List Nat} (h : Ls w A n cap K W) (hb : Below W.heap.size W W') : Ls w A n cap K W' := ⟨vb h.below hb, vblkn hb h.h, vblkn hb h.k⟩
theorem Ls.other {w W W' : World} {A : Option Addr} {n cap g : Nat} {K : List Nat} (h : Ls w A n cap K W) (hb : Below w.heap.size w W') (hO : ∀ j, j ≠ g → W'.heap[j]? = W.heap[j]?) (hg : w.heap.size + 1 < g) : Ls w A n cap K W' :=
  ⟨hb, (hO _ (by omega)).trans h.h, (hO _ (by omega)).trans h.k⟩
theorem Ls.lt {w W : World} {A : Option Addr} {n cap : Nat} {K : List Nat} (h : Ls w A n cap K W) : w.heap.size + 1 < W.heap.size := lt_blk h.k
theorem ls_start (w : World) (A : Option Addr) (n cap : Nat) (K : List Nat) : Ls w A n cap K ((w.alloc (.cells #[.slice A n cap] 49)).alloc (.cells (WK K) 3)) := by
  obtain ⟨b1, b2⟩ := vblk2 (w := w) (Below.refl _ ((w.alloc (.cells #[.slice A n cap] 49)).alloc (.cells (WK K) 3)))
  exact ⟨vafter (vzero _ _), b1, b2⟩
theorem Ls.fz {w W : World} {A : Option Addr} {n cap : Nat} {K : List Nat} (h : Ls w A n cap K W) (p : Nat) : W.frozen? ⟨w.heap.size + 1, p, none⟩ = false := by simp [World.frozen?, h.k]
theorem Ls.c {w W : World} {A : Option Addr} {n cap : Nat} {K : List Nat} (h : Ls w A n cap K W) : W.cell? ⟨w.heap.size, 0, none⟩ = some (.slice A n cap) := (vcells h.h 0).trans rfl
section
variable {ops : Array Oper} {rest : List Oper} {o : Oper} {a : Act} {w : World} {Q : Exit → Act → World → Prop} {x y : Operand} {t : TypeId}
/-- ints made -/
theorem ints_make {l c : Operand} {n : Nat} (hgd : o.guard = none) (ho : o.op = .makeSlice 60 l c) (hl : a.eval l = .int .i64 (n : Int)) (hc : a.eval c = .int .i64 (n : Int)) (hn : n ≤ 1000000)
    (h : wpList Tryz.prog ops Q rest (a.put o.dst (.slice (some ⟨w.heap.size, 0, none⟩) n n)) (w.alloc (.cells (WK (List.replicate n 0)) 3))) : wpList Tryz.prog ops Q (o :: rest) a w := by
  obtain ⟨i0, hi, hz0, hz1, hz2⟩ := info_parts (P := Tryz.prog) (e := 3) (z := .int .i64 0) (size := 1) (bytes := 8) (by kernel_rfl)
  refine wpList_plain hgd fun K hK => ?_
  have hr := run_makeSlice (P := Tryz.prog) w 60 3 i0 (.int .i64 0) Tryz.underlying60 hi hz0 .i64 .i64 (n : Int) (n : Int) (by omega) (by omega) (by rw [hz1]; omega) (by rw [hz2]; omega) (by omega)
  rw [hz1, Int.toNat_natCast, made_ints] at hr
  unfold Oper.wp execOp
  simp only [ho, hl, hc, hr, Sem.run_bind, Sem.run_pure, Result.andThen_ok]
  exact hK _ _ h
/-- one of a row of the call's own stored -/
theorem ik_store {cs : Array Value} {v : Int} {B g m : Nat} {w0 : World} (hgd : o.guard = none) (ho : o.op = .store 3 x y) (hx : a.eval x = .pointer (some ⟨g, m, none⟩)) (hy : a.eval y = .int .i64 v) (hg : w.heap[g]? = some (.cells cs t (0, 0))) (hm : m < cs.size) (hB : Below B w0 w) (hBg : B ≤ g)
    (h : ∀ W : World, Below B w0 W → W.heap[g]? = some (.cells (cs.setIfInBounds m (.int .i64 v)) t (0, 0)) → (∀ j, j ≠ g → W.heap[j]? = w.heap[j]?) → W.heap.size = w.heap.size → wpList Tryz.prog ops Q rest (a.put o.dst undef) W) : wpList Tryz.prog ops Q (o :: rest) a w := by
  have hc : w.cell? ⟨g, m, none⟩ = some cs[m] := by rw [vcells hg m]; simp [hm]
  have hf : w.frozen? ⟨g, m, none⟩ = false := by simp [World.frozen?, hg]
  refine wpList_plain hgd fun K hK => ?_
  have hr : (Instr.storeAt 3 (.pointer (some ⟨g, m, none⟩)) (.int .i64 v)).run Tryz.prog w = .ok () (w.setCell ⟨g, m, none⟩ (.int .i64 v)) := by simp [go_sem, hc, hf]
  unfold Oper.wp execOp
  simp only [ho, hx, hy, hr, Sem.run_bind, Sem.run_pure, Result.andThen_ok]
  refine hK _ _ (h _ (hB.setCell (p := ⟨g, m, none⟩) hBg _) (vset1 hg m _) (fun j hj => ?_) (by simp))
  exact Below.heap_setCell w ⟨g, m, none⟩ _ j hj
end
/-- where a prototype leads -/
def ProtoOk (H : List Ob) : Prop := ∀ i (h : i < H.length), objQ H[i].proto = true → ∃ m : Nat, H[i].proto.r = m ∧ m < H.length
theorem next_none {H : List Ob} {p : Nat} (h : p < H.length) (e : objQ H[p].proto = false) : nextO H p = none := by
  unfold nextO
  rw [List.getElem?_eq_getElem h]
  dsimp only
  rw [e]; rfl
theorem next_some {H : List Ob} {p m : Nat} (h : p < H.length) (e : objQ H[p].proto = true) (er : H[p].proto.r = m) : nextO H p = some m := by
  unfold nextO
  rw [List.getElem?_eq_getElem h]
  dsimp only
  rw [e, er]; rfl
theorem walk_hit {H : List Ob} {k f p : Nat} {W : List Nat} (h : p < W.length) (e : W[p] = k) : walkF H k (f + 1) p W = none := by
  unfold walkF
  rw [List.getElem?_eq_getElem h]
  dsimp only
  rw [e, beq_self_eq_true]; rfl
theorem walk_old {H : List Ob} {k f p : Nat} {W : List Nat} (h : p < W.length) (e : W[p] ≠ k) (e0 : W[p] ≠ 0) : walkF H k (f + 1) p W = some W := by
  unfold walkF
  rw [List.getElem?_eq_getElem h]
  dsimp only
  rw [beq_eq_false_iff_ne.2 e, beq_eq_false_iff_ne.2 e0]; rfl
theorem walk_on {H : List Ob} {k f p : Nat} {W : List Nat} (h : p < W.length) (e : W[p] ≠ k) (e0 : W[p] = 0) : walkF H k (f + 1) p W = match nextO H p with | none => some (W.set p k) | some q => walkF H k f q (W.set p k) := by
  conv => lhs; unfold walkF
  rw [List.getElem?_eq_getElem h]
  dsimp only
  rw [beq_eq_false_iff_ne.2 e, beq_iff_eq.2 e0]; rfl
theorem count_set {W : List Nat} {p k : Nat} (h : p < W.length) (e0 : W[p] = 0) (hk : k ≠ 0) : (W.set p k).count 0 + 1 = W.count 0 := by
  induction W generalizing p with
  | nil => simp at h
  | cons x r ih =>
    cases p with
    | zero =>
      simp only [List.getElem_cons_zero] at e0
      subst e0
      simp only [List.set_cons_zero, List.count_cons_self]
      rw [List.count_cons_of_ne hk]
    | succ p =>
      simp only [List.getElem_cons_succ] at e0
      have := ih (by simpa using h) e0
      simp only [List.set_cons_succ, List.count_cons]
      omega
/-- how far a walk has come: at an object yet to be asked, or at its end -/
inductive Wst (H : List Ob) (k f : Nat) (R : Option (List Nat)) (K : List Nat) (v : Vq) : Prop where
  | run (p : Nat) : objQ v = true → v.r = p → p < H.length → walkF H k f p K = R → K.count 0 < f → Wst H k f R K v
  | off : objQ v = false → R = some K → Wst H k f R K v
theorem wst_on {H : List Ob} {K : List Nat} {p k f : Nat} {R : Option (List Nat)} (hpK : p < K.length) (hp : p < H.length) (hk : k ≠ 0) (e1 : K[p] ≠ k) (e0 : K[p] = 0) (hw : walkF H k (f + 1) p K = R) (hc : K.count 0 < f + 1) (hN : ProtoOk H) : Wst H k f R (K.set p k) H[p].proto := by
  rw [walk_on hpK e1 e0] at hw
  have hcs := count_set hpK e0 hk
  cases ho : objQ H[p].proto with
  | false => rw [next_none hp ho] at hw; exact .off ho hw.symm
  | true =>
    obtain ⟨m, hm, hlt⟩ := hN p hp ho
    rw [next_some hp ho hm] at hw
    exact .run m ho hm hlt hw (by omega)
theorem ls_next {w V : World} {A : Option Addr} {n cap i p : Nat} {K : List Nat} (h : Ls w A n cap K V) :
    ((V.setCell ⟨w.heap.size + 1, p, none⟩ (.int .i64 ((i : Int) + 1))).alloc (.cells #[.int .u8 0, .float .f64 0, .string ⟨#[]⟩, .int .i64 0] 26)).heap[V.heap.size]? = some (.cells #[.int .u8 0, .float .f64 0, .string ⟨#[]⟩, .int .i64 0] 26 (0, 0)) ∧
    Ls w A n cap (K.set p (i + 1)) ((V.setCell ⟨w.heap.size + 1, p, none⟩ (.int .i64 ((i : Int) + 1))).alloc (.cells #[.int .u8 0, .float .f64 0, .string ⟨#[]⟩, .int .i64 0] 26)) := by
  have hks : (V.setCell ⟨w.heap.size + 1, p, none⟩ (.int .i64 ((i : Int) + 1))).heap[w.heap.size + 1]? = some (.cells (WK (K.set p (i + 1))) 3 (0, 0)) := by
    have := vset1 h.k p (.int .i64 ((i + 1 : Nat) : Int))
    rw [WK_set] at this
    rw [← this]; rfl
  have L4 : Ls w A n cap (K.set p (i + 1)) (V.setCell ⟨w.heap.size + 1, p, none⟩ (.int .i64 ((i : Int) + 1))) :=
    ⟨h.below.setCell (p := ⟨w.heap.size + 1, p, none⟩) (Nat.le_succ _) _, vset1o h.h (by omega) _ _, hks⟩
  have hA := heap_alloc_new (V.setCell ⟨w.heap.size + 1, p, none⟩ (.int .i64 ((i : Int) + 1))) (.cells #[.int .u8 0, .float .f64 0, .string ⟨#[]⟩, .int .i64 0] 26)
  rw [World.size_setCell] at hA
  exact ⟨hA, L4.up (vzero _ _)⟩
/-- the loop's variable in its box -/
structure Lp (w : World) (A : Option Addr) (H : List Ob) (cap k f : Nat) (R : Option (List Nat)) (g : Nat) (W : World) : Prop where
  out : ∃ (v : Vq) (K : List Nat), Ls w A H.length cap K W ∧ K.length = H.length ∧ w.heap.size + 1 < g ∧ W.heap[g]? = some (.cells #[.int .u8 v.k, .float .f64 v.x, .string v.s, .int .i64 v.r] 26 (0, 0)) ∧ 0 ≤ v.k ∧ Wst H k f R K v
theorem vq_one (k : Int) (x : Nat) (s : ByteArray) (r : Int) : (#[Value.int .u8 k, .float .f64 x, .string s, .int .i64 r] : Array Value).all (·.oneCell') = true := cells_one (l := [.int .u8 k, .float .f64 x, .string s, .int .i64 r]) rfl
theorem loops_some {H : List Ob} {kx i : Nat} {K K2 : List Nat} {b : Bool} (hlo : loopsL H (kx + 1) i K = b) (hR : walkF H (i + 1) (H.length + 1) i K = some K2) : loopsL H kx (i + 1) K2 = b := by
  rw [← hlo]
  show _ = (match walkF H (i + 1) (H.length + 1) i K with | none => true | some W' => loopsL H kx (i + 1) W')
  rw [hR]
theorem loops_none {H : List Ob} {kx i : Nat} {K : List Nat} {b : Bool} (hlo : loopsL H (kx + 1) i K = b) (hR : walkF H (i + 1) (H.length + 1) i K = none) : b = true := by
  rw [← hlo]
  show (match walkF H (i + 1) (H.length + 1) i K with | none => true | some W' => loopsL H kx (i + 1) W') = true
  rw [hR]
set_option maxHeartbeats 8000000 in
set_option maxRecDepth 1000000 in
theorem loops_h (A : Option Addr) (H : List Ob) (cap : Nat) (w : World) (hH : HIn w A H cap) (hN : ProtoOk H) : Calls Tryz.prog 48 #[.agg #[.slice A H.length cap]] w fun e w' => e = .returned (.bool (loopsB H)) ∧ Below w.heap.size w w' := by
  have HS := Lib.hid (ls_start w A H.length cap (List.replicate H.length 0))
  have hfew := hH.few
  have q4 := HS.out.c
  have q5 : (w.alloc (.cells #[.slice A H.length cap] 49)).cell? ⟨w.heap.size, 0, none⟩ = some (.slice A H.length cap) := (vcells (heap_alloc_new w _) 0).trans rfl
  have HH := Lib.hid hH
  have HN := Lib.hid hN
  clear hH hN
  go_enter Tryz.func48, Tryz.ntmps48
  go_wp2_with (refine ints_make (n := H.length) rfl rfl rfl rfl (by omega) ?_)
  go_loopg [14] H.length (fun kx s14 wr => ∃ i : Nat, s14 = .int .i64 i ∧ i + kx = H.length ∧ Hid (∃ K : List Nat, K.length = H.length ∧ Ls w A H.length cap K wr ∧ loopsL H kx i K = loopsB H))
  case atStart => exact ⟨0, rfl, by omega, Lib.hid ⟨_, by simp, HS.out, rfl⟩⟩
  case round =>
    obtain ⟨i, rfl, hik, HR⟩ := hrel
    obtain ⟨K, hK, hL, hlo⟩ := HR.out
    cases gk with
    | zero =>
      obtain rfl : i = H.length := by omega
      go_wp2
      go_ret
      exact ⟨by rw [← hlo]; rfl, hL.below⟩
    | succ kx =>
      have hlt : i < H.length := by omega
      have hlz : (i : Int) < (H.length : Int) := by omega
      have hl5 : (H.length : Int) ≤ 5000 := by omega
      have hl0 : (0 : Int) ≤ (i : Int) := by omega
      have HL := Lib.hid hL
      have hc1 := vq_one 6 0 ⟨#[]⟩ (i : Int)
      have hi1 : (Tryz.prog.info? 26).map (·.size) = some (#[Value.int .u8 6, .float .f64 0, .string ⟨#[]⟩, .int .i64 (i : Int)] : Array Value).size := vsz4
      have HLO := Lib.hid hlo
      have HKL := Lib.hid hK
      clear q4 q5 hL hlo hK
      go_wp2_with (first
        | ((with_reducible refine t_store rfl rfl rfl rfl (heap_alloc_new _ _) hi1 ?_ hc1 (vzero wr _) (Nat.le_refl _) ?_); (rfl); intro W hBW hW _ _; have HL2 := Lib.hid (HL.out.up hBW)))
      dsimp only [Act.put]
      go_loopg [6] (H.length + 1) (fun f s6 wx => ∃ g : Nat, s6 = .pointer (some ⟨g, 0, none⟩) ∧ Hid (Lp w A H cap (i + 1) f (walkF H (i + 1) (H.length + 1) i K) g wx))
      case atStart =>
        refine ⟨_, rfl, Lib.hid ⟨⟨⟨6, 0, ⟨#[]⟩, (i : Int)⟩, K, HL2.out, HKL.out, HL.out.lt, hW, (show (0 : Int) ≤ 6 by decide), .run i rfl rfl hlt rfl ?_⟩⟩⟩
        have := List.count_le_length (a := 0) (l := K)
        have := HKL.out
        omega
      case round =>
        obtain ⟨g, rfl, HP⟩ := hrel
        obtain ⟨v, K2, hL2, hK2, hg1, hgb, hv0, hst⟩ := HP.out.out
        have cI := fun V => IsObject_q v hv0 V
        obtain ⟨q0, q1, q2, q3, _⟩ := vc4 hgb
        have HL3 := Lib.hid hL2
        have HKK := Lib.hid hK2
        have HG := Lib.hid hgb
        clear hL2 hgb HL2 hW
        cases hst with
        | off ho hR =>
          rw [ho] at cI
          have HR2 := Lib.hid hR
          clear hR
          go_wp2_with (go_at_call 66; (with_reducible refine (cI _).mono ?_); rintro e w1 ⟨rfl, h9⟩; have HL3 := Lib.hid (HL3.out.up h9); clear h9)
          go_roundg kx
          case measure => omega
          case rel => exact ⟨i + 1, by congr 1, by omega, Lib.hid ⟨K2, HKK.out, HL3.out, loops_some HLO.out HR2.out⟩⟩
        | run p ho hr hp hw hcnt =>
          rw [ho] at cI
          obtain ⟨f, rfl⟩ : ∃ f, gk = f + 1 := ⟨gk - 1, by omega⟩
          obtain ⟨k, x, s, r⟩ := v
          dsimp only at *
          subst hr
          have hpz : (p : Int) < (H.length : Int) := by omega
          have hp0 : (0 : Int) ≤ (p : Int) := by omega
          have hpK : p < K2.length := by rw [hK2]; exact hp
          have HW := Lib.hid hw
          have HC := Lib.hid hcnt
          clear hw hcnt hK2
          by_cases e1 : K2[p] = i + 1
          · have HR2 := Lib.hid ((HW.out.symm.trans (walk_hit hpK e1)))
            go_wp2_with (go_at_call 66; (with_reducible refine (cI _).mono ?_); rintro e w1 ⟨rfl, h9⟩; have HL3 := Lib.hid (HL3.out.up h9); have HG := Lib.hid (vblkn h9 HG.out); obtain ⟨q0, q1, q2, q3, _⟩ := vc4 HG.out; have c0 := (vcells HL3.out.k p).trans (WK_at hpK); clear h9)
            go_ret
            exact ⟨by rw [loops_none HLO.out HR2.out]; rfl, HL3.out.below⟩
          · have b1 : ((K2[p] : Int) == (i : Int) + 1) = false := by rw [beq_eq_false_iff_ne]; omega
            by_cases e0 : K2[p] = 0
            · have b0 : ((K2[p] : Int) != 0) = false := by rw [e0]; rfl
              obtain ⟨a, rfl, hab, hof, _⟩ := HH.out.at hp
              have hpin := (HH.out.inn H[p] (List.getElem_mem hp)).proto.1
              have HWS := Lib.hid (wst_on hpK hp (Nat.succ_ne_zero i) e1 e0 HW.out HC.out HN.out)
              have hlen3 : (K2.set p (i + 1)).length = H.length := by rw [List.length_set]; exact HKK.out
              have HK3 := Lib.hid hlen3
              have HOF := Lib.hid hof
              clear hof hlen3
              have hc2 := vq_one k x s (p : Int)
              have hc3 := vq_one H[p].proto.k H[p].proto.x H[p].proto.s H[p].proto.r
              have hi3 : (Tryz.prog.info? 26).map (·.size) = some (#[Value.int .u8 H[p].proto.k, .float .f64 H[p].proto.x, .string H[p].proto.s, .int .i64 H[p].proto.r] : Array Value).size := vsz4
              have hi2 : (Tryz.prog.info? 26).map (·.size) = some (#[Value.int .u8 k, .float .f64 x, .string s, .int .i64 (p : Int)] : Array Value).size := vsz4
              have HA := Lib.hid (fun (V : World) (hV : Ls w (some a) H.length cap K2 V) => ls_next (i := i) (p := p) hV)
              go_wp2_with (first
                | (go_at_call 66; (with_reducible refine (cI _).mono ?_); rintro e w1 ⟨rfl, h9⟩; have HL3 := Lib.hid (HL3.out.up h9); have HG := Lib.hid (vblkn h9 HG.out); obtain ⟨q0, q1, q2, q3, _⟩ := vc4 HG.out; have c0 := (vcells HL3.out.k p).trans (WK_at hpK); obtain ⟨hA, hLA⟩ := HA.out w1 HL3.out; have hfz := HL3.out.fz p; have hBA := hLA.below; have hLt := HL3.out.lt; have hB1 : w.heap.size ≤ w1.heap.size := (by omega); clear h9)
                | ((with_reducible refine t_store rfl rfl rfl rfl hA hi2 ?_ hc2 hBA hB1 ?_); (rfl); intro W3 hB3 hW3 hO3 _; have HL5 := Lib.hid (hLA.other hB3 hO3 hLt); clear q0 q1 q2 q3 c0; obtain ⟨q0, q1, q2, q3, _⟩ := vc4 hW3; have q4 := HL5.out.c; have hp3 := (HOF.out.up HL5.out.below).proto; have hl3 := (HOF.out.up HL5.out.below).lt)
                | ((with_reducible refine va_load ?_ rfl rfl hp3 ?_); (rfl))
                | ((with_reducible refine t_store rfl rfl rfl rfl hW3 hi3 ?_ hc3 HL5.out.below hB1 ?_); (rfl); intro W4 hB4 hW4 hO4 _))
              go_roundg f
              case measure => omega
              case rel => exact ⟨_, rfl, Lib.hid ⟨⟨H[p].proto, K2.set p (i + 1), HL5.out.other hB4 hO4 hLt, HK3.out, hLt, hW4, hpin, HWS.out⟩⟩⟩
            · have b0 : ((K2[p] : Int) != 0) = true := by unfold bne; rw [beq_eq_false_iff_ne.2 (show ¬ (K2[p] : Int) = 0 by omega)]; rfl
              have HR2 := Lib.hid (HW.out.symm.trans (walk_old hpK e1 e0))
              go_wp2_with (go_at_call 66; (with_reducible refine (cI _).mono ?_); rintro e w1 ⟨rfl, h9⟩; have HL3 := Lib.hid (HL3.out.up h9); have HG := Lib.hid (vblkn h9 HG.out); obtain ⟨q0, q1, q2, q3, _⟩ := vc4 HG.out; have c0 := (vcells HL3.out.k p).trans (WK_at hpK); clear h9)
              go_roundg kx
              case measure => omega
              case rel => exact ⟨i + 1, by congr 1, by omega, Lib.hid ⟨K2, HKK.out, HL3.out, loops_some HLO.out HR2.out⟩⟩
end Go.Proofs.YtbeggameiedjgaaGreatDoor.S
/-
  heap.Check: any heap.
-/
namespace Go.Proofs.YtbeggameiedjgaaGreatDoor.S
open Go.RowKit Go.Lib Fl
open Classical

theorem proto_ok {H : List Ob} (h : ∀ i (hi : i < H.length), mayB H H[i] i = true) : ProtoOk H := fun i hi ho => by
  have hb := h i hi
  unfold mayB at hb
  simp only [Bool.and_eq_true] at hb
  have hh := List.all_eq_true.1 hb.2.2.1 H[i].proto (by unfold valsO; simp)
  have h0 := holds_ref hh ho
  obtain ⟨m, hm⟩ := Int.eq_ofNat_of_zero_le h0
  refine ⟨m, hm, ?_⟩
  unfold holdsB at hh
  rw [Bool.and_eq_true, ho, Bool.not_true, Bool.false_or] at hh
  have hr := hh.2
  unfold refB at hr
  rw [hm, Int.toNat_natCast] at hr
  cases e2 : H[m]? with
  | none => rw [e2] at hr; cases hr
  | some u => exact (List.getElem?_eq_some_iff.1 e2).1
theorem chk_many {H : List Ob} (h : 4096 < H.length) : chkH H = 9 := by
  unfold chkH mayH
  rw [decide_eq_false (by omega)]; rfl
theorem chk_bad {H : List Ob} {i : Nat} (h : i < H.length) (e : mayB H H[i] i = false) : chkH H = 9 := by
  unfold chkH
  cases hm : mayH H with
  | false => rfl
  | true => rw [(mayH_iff.1 hm).2.1 i h] at e; cases e
theorem chk_loop {H : List Ob} (h : loopsB H = true) : chkH H = 9 := by
  unfold chkH
  cases hm : mayH H with
  | false => rfl
  | true => rw [(mayH_iff.1 hm).2.2] at h; cases h
theorem chk_ok {H : List Ob} (h : mayH H = true) : chkH H = 0 := by unfold chkH; rw [h]; rfl
theorem chk_zero {H : List Ob} : chkH H = 0 ↔ mayH H = true := by
  unfold chkH
  cases mayH H with
  | true => exact ⟨fun _ => rfl, fun _ => rfl⟩
  | false => exact ⟨fun h => absurd (show (9 : Int) = 0 from h) (by decide), fun h => by cases h⟩
set_option maxHeartbeats 4000000 in
set_option maxRecDepth 1000000 in
theorem Check_h (A : Option Addr) (H : List Ob) (cap : Nat) (w : World) (hH : HIn w A H cap) (htab : TabHere w) : Calls Tryz.prog 28 #[.agg #[.slice A H.length cap]] w fun e w' => e = .returned (.int .i64 (chkH H)) ∧ Below w.heap.size w w' := by
  have HS := Lib.hid (hb_start w A H.length cap)
  have q4 := HS.out.h
  by_cases hm : 4096 < H.length
  · rw [chk_many hm]
    have hz : (4096 : Int) < (H.length : Int) := by omega
    go_enter Tryz.func28, Tryz.ntmps28
    go_wp2
    go_ret
    exact ⟨rfl, HS.out.below⟩
  · have hz : ¬ (4096 : Int) < (H.length : Int) := by omega
    have cM := fun W (hb : Below w.heap.size w W) i (hi : i < H.length) => may_h A H cap i W (hH.up hb) hi (tab_up htab hb)
    have cL := fun W (hb : Below w.heap.size w W) (hp : ProtoOk H) => loops_h A H cap W (hH.up hb) hp
    clear hH htab
    go_enter Tryz.func28, Tryz.ntmps28
    go_wp2
    go_loopg [11] H.length (fun kx s11 wr => ∃ i : Nat, s11 = .int .i64 i ∧ i + kx = H.length ∧ Hid (Hb w A H.length cap wr ∧ ∀ j (hj : j < H.length), j < i → mayB H H[j] j = true))
    case atStart => exact ⟨0, rfl, by omega, Lib.hid ⟨HS.out, fun j _ h => absurd h (Nat.not_lt_zero j)⟩⟩
    case round =>
      obtain ⟨i, rfl, hik, HR⟩ := hrel
      have HY := Lib.hid HR.out.1
      have q5 := HR.out.1.h
      cases gk with
      | zero =>
        obtain rfl : i = H.length := by omega
        have hall : ∀ j (hj : j < H.length), mayB H H[j] j = true := fun j hj => HR.out.2 j hj hj
        have hp := proto_ok hall
        cases hl : loopsB H with
        | true =>
          rw [hl] at cL
          go_wp2_with (go_at_call 48; (with_reducible refine (cL _ HY.out.below hp).mono ?_); rintro e w1 ⟨rfl, h9⟩; have HY := Lib.hid (HY.out.up h9); clear h9)
          go_ret
          exact ⟨by rw [chk_loop hl] <;> rfl, HY.out.below⟩
        | false =>
          rw [hl] at cL
          go_wp2_with (go_at_call 48; (with_reducible refine (cL _ HY.out.below hp).mono ?_); rintro e w1 ⟨rfl, h9⟩; have HY := Lib.hid (HY.out.up h9); clear h9)
          go_ret
          exact ⟨by rw [chk_ok (mayH_iff.2 ⟨by omega, hall, hl⟩)] <;> rfl, HY.out.below⟩
      | succ kx =>
        have hlt : i < H.length := by omega
        have hlz : (i : Int) < (H.length : Int) := by omega
        have cM2 := fun W hb => cM W hb i hlt
        cases hb : mayB H H[i] i with
        | false =>
          rw [hb] at cM2
          go_wp2_with (go_at_call 47; (with_reducible refine (cM2 _ HY.out.below).mono ?_); rintro e w1 ⟨rfl, h9⟩; have HY := Lib.hid (HY.out.up h9); clear h9)
          go_ret
          exact ⟨by rw [chk_bad hlt hb] <;> rfl, HY.out.below⟩
        | true =>
          rw [hb] at cM2
          have HBT := Lib.hid hb
          go_wp2_with (go_at_call 47; (with_reducible refine (cM2 _ HY.out.below).mono ?_); rintro e w1 ⟨rfl, h9⟩; have HY := Lib.hid (HY.out.up h9); clear h9)
          go_roundg kx
          case measure => omega
          case rel =>
            refine ⟨i + 1, by congr 1, by omega, Lib.hid ⟨HY.out, fun j hj hji => ?_⟩⟩
            by_cases c : j < i
            · exact HR.out.2 j hj c
            · obtain rfl : j = i := by omega
              exact HBT.out
end Go.Proofs.YtbeggameiedjgaaGreatDoor.S
/-
  A heap's objects in other memory: what may be counts the same.
-/
namespace Go.Proofs.YtbeggameiedjgaaGreatDoor.S
open Go.RowKit Go.Lib Fl
open Classical

theorem getB (H : List Ob) (i : Nat) : (H.map Ob.bare)[i]? = H[i]?.map Ob.bare := List.getElem?_map ..
theorem refB_bare (H : List Ob) (v : Vq) : refB (H.map Ob.bare) v = refB H v := by unfold refB; rw [getB]; cases H[v.r.toNat]? <;> rfl
theorem proxB_bare (H : List Ob) (v : Vq) : proxB (H.map Ob.bare) v = proxB H v := by unfold proxB; rw [getB]; cases H[v.r.toNat]? <;> rfl
theorem nextO_bare (H : List Ob) (p : Nat) : nextO (H.map Ob.bare) p = nextO H p := by unfold nextO; rw [getB]; cases H[p]? <;> rfl
theorem holdsB_bare (H : List Ob) : holdsB (H.map Ob.bare) = holdsB H := by funext v; unfold holdsB; rw [refB_bare]
theorem mayB_bare (H : List Ob) (o : Ob) (n : Nat) : mayB (H.map Ob.bare) o.bare n = mayB H o n := by
  show mayB (H.map Ob.bare) o n = mayB H o n
  unfold mayB fitsB revokesB
  rw [holdsB_bare, proxB_bare]
theorem walkF_bare (H : List Ob) (k : Nat) : ∀ (f p : Nat) (W : List Nat), walkF (H.map Ob.bare) k f p W = walkF H k f p W
  | 0, _, _ => rfl
  | f + 1, p, W => by
    unfold walkF
    rw [nextO_bare]
    cases W[p]? with
    | none => rfl
    | some x =>
      dsimp only
      cases nextO H p with
      | none => rfl
      | some q => dsimp only; rw [walkF_bare H k f q]
theorem loopsL_bare (H : List Ob) : ∀ (m n : Nat) (W : List Nat), loopsL (H.map Ob.bare) m n W = loopsL H m n W
  | 0, _, _ => rfl
  | m + 1, n, W => by
    unfold loopsL
    rw [walkF_bare, List.length_map]
    cases walkF H (n + 1) (H.length + 1) n W with
    | none => rfl
    | some W' => exact loopsL_bare H m (n + 1) W'
theorem loopsB_bare (H : List Ob) : loopsB (H.map Ob.bare) = loopsB H := by unfold loopsB; rw [List.length_map, loopsL_bare]
theorem mayH_bare (H : List Ob) : mayH (H.map Ob.bare) = mayH H := by
  rw [Bool.eq_iff_iff, mayH_iff, mayH_iff, loopsB_bare]
  refine and_congr (by rw [List.length_map]) (and_congr_left fun _ => ⟨fun h i hi => ?_, fun h i hi => ?_⟩)
  · have := h i (by simpa using hi)
    rw [List.getElem_map, mayB_bare] at this
    exact this
  · rw [List.getElem_map, mayB_bare]
    exact h i (by simpa using hi)
theorem mayH_like {H M : List Ob} (h : M.map Ob.bare = H.map Ob.bare) : mayH M = mayH H := by rw [← mayH_bare M, h, mayH_bare]
theorem loopsB_like {H M : List Ob} (h : M.map Ob.bare = H.map Ob.bare) : loopsB M = loopsB H := by rw [← loopsB_bare M, h, loopsB_bare]
theorem chkH_like {H M : List Ob} (h : M.map Ob.bare = H.map Ob.bare) : chkH M = chkH H := by unfold chkH; rw [mayH_like h]
theorem mayB_like {H M : List Ob} (h : M.map Ob.bare = H.map Ob.bare) (n : Nat) (hm : n < M.length) (hh : n < H.length) : mayB M M[n] n = mayB H H[n] n := by
  have e : M[n].bare = H[n].bare := by
    have := congrArg (fun l => l[n]?) h
    simp only [getB, List.getElem?_eq_getElem hm, List.getElem?_eq_getElem hh, Option.map_some] at this
    exact Option.some.inj this
  rw [← mayB_bare M, ← mayB_bare H, e, h]
theorem Tw.like {n0 B : Nat} {H M : List Ob} {W : World} (h : Tw n0 B H M W) : M.map Ob.bare = H.map Ob.bare := by
  refine List.ext_getElem? fun i => ?_
  rw [getB, getB]
  by_cases c : i < M.length
  · obtain ⟨g, _, e, _⟩ := (h.all i c (by rw [← h.len]; exact c)).out
    rw [List.getElem?_eq_getElem c, List.getElem?_eq_getElem (by rw [← h.len]; exact c), e]
    rfl
  · rw [List.getElem?_eq_none (by omega), List.getElem?_eq_none (by have := h.len; omega)]
theorem Tw.inn {n0 B : Nat} {H M : List Ob} {W : World} (h : Tw n0 B H M W) (hin : ∀ o ∈ H, o.In) (hf : H.length ≤ 5000) (hp : ∀ o ∈ H, o.props.length ≤ 100000) : HIn W (some ⟨B, 0, none⟩) M M.length := by
  have one : ∀ i (hi : i < M.length), ∃ g, W.heap[g]? = some (.cells (prCells M[i].props).toArray 30 (0, 0)) ∧ M[i].pa = some ⟨g, 0, none⟩ ∧ M[i].pc = M[i].props.length ∧ M[i].In ∧ M[i].props.length ≤ 100000 := fun i hi => by
    have hi2 : i < H.length := by rw [← h.len]; exact hi
    obtain ⟨g, _, e, hg⟩ := (h.all i hi hi2).out
    have hI := hin _ (List.getElem_mem hi2)
    have hP := hp _ (List.getElem_mem hi2)
    rw [e]
    exact ⟨g, hg, rfl, rfl, ⟨hI.k0, hI.k1, hI.proto, hI.target, hI.handler, hI.text, hI.props, Nat.le_refl _, show H[i].props.length < 9223372036854775808 by omega, fun hc => by cases hc⟩, hP⟩
  refine ⟨fun o ho => ?_, fun hpos => ⟨_, rfl, lt_blk h.b, fun i hi => ⟨?_, ?_⟩⟩, by rw [h.len]; exact hf, fun o ho => ?_, Nat.le_refl _, by have := h.len; omega, fun hc => by cases hc⟩
  · obtain ⟨i, hi, rfl⟩ := List.getElem_of_mem ho
    exact (one i hi).choose_spec.2.2.2.1
  · refine of_cells (by rw [add_blk]; exact lt_blk h.b) fun j u hu => ?_
    have hj : j < 18 := by have := (List.getElem?_eq_some_iff.1 hu).1; rw [ocl_len] at this; exact this
    rw [add_add, Addr.add_mid, Nat.zero_add, vcells h.b (i * 18 + j), List.getElem?_toArray, hcl_at M i hi j hj]
    exact hu
  · obtain ⟨g, hg, e, _⟩ := one i hi
    rw [e]
    exact pr_blk hg
  · obtain ⟨i, hi, rfl⟩ := List.getElem_of_mem ho
    have := (one i hi).choose_spec.2.2.2.2
    omega
end Go.Proofs.YtbeggameiedjgaaGreatDoor.S
/-
  heap.New.
-/
namespace Go.Proofs.YtbeggameiedjgaaGreatDoor.S
open Go.RowKit Go.Lib Fl
open Classical

theorem Tw.mono {n0 n1 B : Nat} {H M : List Ob} {W : World} (h : Tw n0 B H M W) (hn : n1 ≤ n0) : Tw n1 B H M W := ⟨h.len, h.all, h.b, Nat.le_trans hn h.le⟩
/-- New's error -/
noncomputable def newE (H : List Ob) (o : Ob) : Int := bif !mayH H then 9 else bif decide (H.length = 4096) then 4 else bif mayB (H ++ [o]) o H.length && !loopsB (H ++ [o]) then 0 else 9
theorem new_ok {H : List Ob} {o : Ob} (h : newE H o = 0) : mayH H = true ∧ H.length ≠ 4096 ∧ mayH (H ++ [o]) = true := by
  unfold newE at h
  cases e1 : mayH H with
  | false => rw [e1] at h; exact absurd (show (9 : Int) = 0 from h) (by decide)
  | true =>
    rw [e1] at h
    by_cases c : H.length = 4096
    · rw [decide_eq_true c] at h; exact absurd (show (4 : Int) = 0 from h) (by decide)
    · rw [decide_eq_false c] at h
      cases e2 : mayB (H ++ [o]) o H.length with
      | false => rw [e2] at h; exact absurd (show (9 : Int) = 0 from h) (by decide)
      | true =>
        cases e3 : loopsB (H ++ [o]) with
        | true => rw [e2, e3] at h; exact absurd (show (9 : Int) = 0 from h) (by decide)
        | false => exact ⟨rfl, c, mayH_new e1 c e2 e3⟩
def NewTo (H : List Ob) (o : Ob) (w : World) (e : Ending) (w' : World) : Prop := Below w.heap.size w w' ∧ ((newE H o ≠ 0 ∧ e = .returned (.tuple #[.agg #[.slice none 0 0], .int .i64 0, .int .i64 (newE H o)])) ∨
  (newE H o = 0 ∧ ∃ B M, e = .returned (.tuple #[.agg #[.slice (some ⟨B, 0, none⟩) (H.length + 1) (H.length + 1)], .int .i64 H.length, .int .i64 0]) ∧ Tw w.heap.size B (H ++ [o]) M w'))
theorem new_end {f : Func} {i j k : Nat} {t : TypeId} {Q : Ending → World → Prop} {tmps : Array Value} {W : World} {g : Nat} {v : Value} {y z : Int} (hf : f.results = #[.cell i 49, .tmp j, .tmp k])
    (h2 : tmps[i]?.getD undef = .pointer (some ⟨g, 0, none⟩)) (h3 : tmps[j]?.getD undef = .int .i64 y) (h4 : tmps[k]?.getD undef = .int .i64 z) (hb : W.heap[g]? = some (.cells #[v] t (0, 0))) (hQ : Q (.returned (.tuple #[.agg #[v], .int .i64 y, .int .i64 z])) W) :
    bodyPost Tryz.prog f Q .ret { tmps := tmps, defers := [] } W := by
  have hl := run_loadVar_row (P := Tryz.prog) W g t 49 #[v] (0, 0) _ hb Tryz.underlying49 rfl hsz
  refine bodyPost_ret (v := .tuple #[.agg #[v], .int .i64 y, .int .i64 z]) ?_ rfl hQ
  simp [h2, h3, h4, results, hf, hl, asAddr]
/-- New's own blocks -/
structure Nw (w : World) (A : Option Addr) (n cap : Nat) (o : Ob) (W : World) : Prop where
  below : Below w.heap.size w W
  h : W.heap[w.heap.size]? = some (.cells #[.slice A n cap] 49 (0, 0))
  o : W.heap[w.heap.size + 1]? = some (.cells (obA o) 54 (0, 0))
  r : W.heap[w.heap.size + 1 + 1]? = some (.cells #[.slice none 0 0] 49 (0, 0))
theorem Nw.up {w : World} {A : Option Addr} {n cap : Nat} {o : Ob} {W W' : World} (h : Nw w A n cap o W) (hb : Below W.heap.size W W') : Nw w A n cap o W' := ⟨vb h.below hb, vblkn hb h.h, vblkn hb h.o, vblkn hb h.r⟩
theorem nw_start (w : World) (A : Option Addr) (n cap : Nat) (o : Ob) : Nw w A n cap o (((w.alloc (.cells #[.slice A n cap] 49)).alloc (.cells (obA o) 54)).alloc (.cells #[.slice none 0 0] 49)) := by
  obtain ⟨b1, b2, b3, _, hB0⟩ := objs_blk (w := w) (.slice A n cap) (obA o) (.slice none 0 0) 49 54 49
  exact ⟨hB0, b1, b2, b3⟩
theorem Nw.q {w : World} {A : Option Addr} {n cap : Nat} {o : Ob} {W : World} (h : Nw w A n cap o W) : W.cell? ⟨w.heap.size, 0, none⟩ = some (.slice A n cap) := (vcells h.h 0).trans rfl
set_option maxHeartbeats 4000000 in
set_option maxRecDepth 1000000 in
theorem New_h (A : Option Addr) (H : List Ob) (cap : Nat) (o : Ob) (w : World) (hH : HIn w A H cap) (hp : ∀ o ∈ H, o.props.length ≤ 100000) (ho : PR w o.pa o.props) (hoi : o.In) (hop : o.props.length ≤ 100000) (htab : TabHere w) :
    Calls Tryz.prog 19 #[.agg #[.slice A H.length cap], .agg (obA o)] w (NewTo H o w) := by
  have HN := Lib.hid (nw_start w A H.length cap o)
  have q0 := HN.out.q
  have cC := fun W (hb : Below w.heap.size w W) => Check_h A H cap W (hH.up hb) (tab_up htab hb)
  have hi1 : ∀ v : Value, (Tryz.prog.info? 49).map (·.size) = some (#[v] : Array Value).size := fun v => hsz
  have hc1 : ∀ v : Value, v.oneCell' = true → (#[v] : Array Value).all (·.oneCell') = true := fun v h => cells_one (l := [v]) (by simpa using h)
  cases e1 : mayH H with
  | false =>
    have hz : newE H o = 9 := by unfold newE; rw [e1]; rfl
    have hk : chkH H = 9 := by unfold chkH; rw [e1]; rfl
    rw [hk] at cC
    unfold NewTo
    rw [hz]
    clear hz hk e1 hH
    go_enter Tryz.func19, Tryz.ntmps19
    go_wp2_with (first
      | (go_at_call 28; (with_reducible refine (cC _ HN.out.below).mono ?_); rintro e w1 ⟨rfl, h9⟩; have HN := Lib.hid (HN.out.up h9); have hr := HN.out.r; have hB := HN.out.below; clear h9)
      | ((with_reducible refine t_store rfl rfl rfl rfl hr (hi1 _) ?_ (hc1 _ rfl) hB (by omega) ?_); (rfl); intro W6 hb6 hW6 hO6 _))
    exact new_end Tryz.results19 rfl rfl rfl hW6 ⟨hb6, .inl ⟨by decide, rfl⟩⟩
  | true =>
    have hk : chkH H = 0 := chk_ok e1
    rw [hk] at cC
    have hfew := hH.few
    by_cases c : H.length = 4096
    · have hz : newE H o = 4 := by unfold newE; rw [e1, decide_eq_true c]; rfl
      unfold NewTo
      rw [hz]
      have hc : (H.length : Int) = 4096 := by omega
      have hcb : ((H.length : Int) == 4096) = true := by rw [hc]; rfl
      clear hz hk e1 hH hc c
      go_enter Tryz.func19, Tryz.ntmps19
      go_wp2_with (first
        | (go_at_call 28; (with_reducible refine (cC _ HN.out.below).mono ?_); rintro e w1 ⟨rfl, h9⟩; have HN := Lib.hid (HN.out.up h9); have hr := HN.out.r; have hB := HN.out.below; have q1 := HN.out.q; clear h9)
        | ((with_reducible refine t_store rfl rfl rfl rfl hr (hi1 _) ?_ (hc1 _ rfl) hB (by omega) ?_); (rfl); intro W6 hb6 hW6 hO6 _))
      exact new_end Tryz.results19 rfl rfl rfl hW6 ⟨hb6, .inl ⟨by decide, rfl⟩⟩
    · obtain ⟨N, hN⟩ : ∃ N, N = H ++ [o] := ⟨_, rfl⟩
      obtain ⟨d, hd⟩ : ∃ d : Nat, d = H.length + 1 := ⟨_, rfl⟩
      have hNl : N.length = d := by rw [hN, List.length_append, hd]; rfl
      have hm4 := (mayH_iff.1 e1).1
      have hNin : ∀ x ∈ N, x.In := fun x hx => by rw [hN] at hx; rcases List.mem_append.1 hx with h | h; exact hH.inn x h; rw [List.mem_singleton.1 h]; exact hoi
      have hNp : ∀ x ∈ N, x.props.length ≤ 100000 := fun x hx => by rw [hN] at hx; rcases List.mem_append.1 hx with h | h; exact hp x h; rw [List.mem_singleton.1 h]; exact hop
      have cW : ∀ W, Below w.heap.size w W → Calls Tryz.prog 46 #[.agg #[.slice A H.length cap], .int .i64 H.length, .agg (obA o)] W fun e w' => ∃ B M, e = .returned (.agg #[.slice (some ⟨B, 0, none⟩) d d]) ∧ Tw W.heap.size B N M w' ∧ Below W.heap.size W w' := fun W hb => by
        refine (with_h A H cap H.length o W (hH.up hb) hp (pr_up ho hb) hop (Nat.le_refl _)).mono ?_
        rintro e w1 ⟨B, M, rfl, hT, h9⟩
        rw [hput_new] at hT ⊢
        exact ⟨B, M, by rw [hd, List.length_append]; rfl, hN ▸ hT, h9⟩
      have hno : ∀ h : H.length < N.length, N[H.length] = o := fun h => by subst hN; simp
      have cM : ∀ W B M, Tw w.heap.size B N M W → Below w.heap.size w W → Calls Tryz.prog 47 #[.agg #[.slice (some ⟨B, 0, none⟩) d d], .int .i64 H.length] W fun e w' => e = .returned (.bool (mayB N o H.length)) ∧ Below W.heap.size W w' := fun W B M hT hb => by
        have hl : M.length = d := by rw [hT.len, hNl]
        have hi := hT.inn hNin (by omega) hNp
        have hm := may_h _ M M.length H.length W hi (by omega) (tab_up htab hb)
        rw [mayB_like hT.like H.length (by omega) (by omega), hno, hl] at hm
        exact hm
      have cL : mayB N o H.length = true → ∀ W B M, Tw w.heap.size B N M W → Calls Tryz.prog 48 #[.agg #[.slice (some ⟨B, 0, none⟩) d d]] W fun e w' => e = .returned (.bool (loopsB N)) ∧ Below W.heap.size W w' := fun hmay W B M hT => by
        have hl : M.length = d := by rw [hT.len, hNl]
        have hi := hT.inn hNin (by omega) hNp
        have hall : ∀ i (hi : i < M.length), mayB M M[i] i = true := fun i hiM => by
          rw [mayB_like hT.like i hiM (by omega)]
          by_cases ci : i < H.length
          · have hx := may_more [o] ((mayH_iff.1 e1).2.1 i ci)
            subst hN
            rw [List.getElem_append_left ci]
            exact hx
          · obtain rfl : i = H.length := by omega
            rw [hno]
            exact hmay
        have hm := loops_h _ M M.length W hi (proto_ok hall)
        rw [loopsB_like hT.like, hl] at hm
        exact hm
      have hcb : ((H.length : Int) == 4096) = false := by rw [beq_eq_false_iff_ne]; omega
      have hz : newE H o = bif mayB N o H.length && !loopsB N then 0 else 9 := by unfold newE; rw [e1, decide_eq_false c, hN]; rfl
      have HD := Lib.hid hd
      have HNN := Lib.hid hN
      unfold NewTo
      rw [← hN, ← hd, hz]
      clear hz hk e1 hH hN hd hno hNl hNin hNp
      cases e2 : mayB N o H.length with
      | false =>
        rw [e2] at cM
        clear cL e2
        go_enter Tryz.func19, Tryz.ntmps19
        go_wp2_with (first
          | (go_at_call 28; (with_reducible refine (cC _ HN.out.below).mono ?_); rintro e w1 ⟨rfl, h9⟩; have HN := Lib.hid (HN.out.up h9); have q1 := HN.out.q; clear h9)
          | ((with_reducible refine ob_load ?_ rfl rfl HN.out.o ?_); (rfl))
          | (go_at_call 46; (with_reducible refine (cW _ HN.out.below).mono ?_); rintro e w2 ⟨B, M, rfl, hT, h9⟩; have hle := Nat.lt_of_lt_of_le (lt_blk HN.out.r) hT.le; have hT := hT.mono HN.out.below.size; have HN := Lib.hid (HN.out.up h9); have HT := Lib.hid hT; clear h9 hT)
          | (go_at_call 47; (with_reducible refine (cM _ _ _ (HT.out.up (vzero _ _)) (vb HN.out.below (vzero _ _))).mono ?_); rintro e w3 ⟨rfl, h9⟩; have HN := Lib.hid (HN.out.up (vafter h9)); have HT := Lib.hid (HT.out.up (vafter h9)); have hr := HN.out.r; have hB := HN.out.below; have b4 := vblkn h9 (heap_alloc_new w2 _); have q4 : w3.cell? ⟨w2.heap.size, 0, none⟩ = some (.slice (some ⟨B, 0, none⟩) d d) := (vcells b4 0).trans rfl; have HB4 := Lib.hid b4; clear h9 b4)
          | ((with_reducible refine t_store rfl rfl rfl rfl hr (hi1 _) ?_ (hc1 _ rfl) hB (by omega) ?_); (rfl); intro W6 hb6 hW6 hO6 _))
        exact new_end Tryz.results19 rfl rfl rfl hW6 ⟨hb6, .inl ⟨by show (9 : Int) ≠ 0; decide, rfl⟩⟩
      | true =>
        rw [e2] at cM
        have cL := cL e2
        clear e2
        cases e3 : loopsB N with
        | true =>
          rw [e3] at cL
          clear e3
          go_enter Tryz.func19, Tryz.ntmps19
          go_wp2_with (first
            | (go_at_call 28; (with_reducible refine (cC _ HN.out.below).mono ?_); rintro e w1 ⟨rfl, h9⟩; have HN := Lib.hid (HN.out.up h9); have q1 := HN.out.q; clear h9)
            | ((with_reducible refine ob_load ?_ rfl rfl HN.out.o ?_); (rfl))
            | (go_at_call 46; (with_reducible refine (cW _ HN.out.below).mono ?_); rintro e w2 ⟨B, M, rfl, hT, h9⟩; have hle := Nat.lt_of_lt_of_le (lt_blk HN.out.r) hT.le; have hT := hT.mono HN.out.below.size; have HN := Lib.hid (HN.out.up h9); have HT := Lib.hid hT; clear h9 hT)
            | (go_at_call 47; (with_reducible refine (cM _ _ _ (HT.out.up (vzero _ _)) (vb HN.out.below (vzero _ _))).mono ?_); rintro e w3 ⟨rfl, h9⟩; have HN := Lib.hid (HN.out.up (vafter h9)); have HT := Lib.hid (HT.out.up (vafter h9)); have hr := HN.out.r; have hB := HN.out.below; have b4 := vblkn h9 (heap_alloc_new w2 _); have q4 : w3.cell? ⟨w2.heap.size, 0, none⟩ = some (.slice (some ⟨B, 0, none⟩) d d) := (vcells b4 0).trans rfl; have HB4 := Lib.hid b4; clear h9 b4)
            | (go_at_call 48; (with_reducible refine (cL _ _ _ HT.out).mono ?_); rintro e w4 ⟨rfl, h9⟩; have HN := Lib.hid (HN.out.up h9); have HT := Lib.hid (HT.out.up h9); have hr := HN.out.r; have hB := HN.out.below; have b4 := vblkn h9 HB4.out; have q5 : w4.cell? ⟨w2.heap.size, 0, none⟩ = some (.slice (some ⟨B, 0, none⟩) d d) := (vcells b4 0).trans rfl; clear h9 b4)
            | ((with_reducible refine t_store rfl rfl rfl rfl hr (hi1 _) ?_ (hc1 _ rfl) hB (by omega) ?_); (rfl); intro W6 hb6 hW6 hO6 _))
          exact new_end Tryz.results19 rfl rfl rfl hW6 ⟨hb6, .inl ⟨by decide, rfl⟩⟩
        | false =>
          rw [e3] at cL
          clear e3
          go_enter Tryz.func19, Tryz.ntmps19
          go_wp2_with (first
            | (go_at_call 28; (with_reducible refine (cC _ HN.out.below).mono ?_); rintro e w1 ⟨rfl, h9⟩; have HN := Lib.hid (HN.out.up h9); have q1 := HN.out.q; clear h9)
            | ((with_reducible refine ob_load ?_ rfl rfl HN.out.o ?_); (rfl))
            | (go_at_call 46; (with_reducible refine (cW _ HN.out.below).mono ?_); rintro e w2 ⟨B, M, rfl, hT, h9⟩; have hle := Nat.lt_of_lt_of_le (lt_blk HN.out.r) hT.le; have hT := hT.mono HN.out.below.size; have HN := Lib.hid (HN.out.up h9); have HT := Lib.hid hT; clear h9 hT)
            | (go_at_call 47; (with_reducible refine (cM _ _ _ (HT.out.up (vzero _ _)) (vb HN.out.below (vzero _ _))).mono ?_); rintro e w3 ⟨rfl, h9⟩; have HN := Lib.hid (HN.out.up (vafter h9)); have HT := Lib.hid (HT.out.up (vafter h9)); have hr := HN.out.r; have hB := HN.out.below; have b4 := vblkn h9 (heap_alloc_new w2 _); have q4 : w3.cell? ⟨w2.heap.size, 0, none⟩ = some (.slice (some ⟨B, 0, none⟩) d d) := (vcells b4 0).trans rfl; have HB4 := Lib.hid b4; clear h9 b4)
            | (go_at_call 48; (with_reducible refine (cL _ _ _ HT.out).mono ?_); rintro e w4 ⟨rfl, h9⟩; have HN := Lib.hid (HN.out.up h9); have HT := Lib.hid (HT.out.up h9); have hr := HN.out.r; have hB := HN.out.below; have b4 := vblkn h9 HB4.out; have q5 : w4.cell? ⟨w2.heap.size, 0, none⟩ = some (.slice (some ⟨B, 0, none⟩) d d) := (vcells b4 0).trans rfl; clear h9 b4)
            | ((with_reducible refine t_store rfl rfl rfl rfl hr (hi1 _) ?_ (hc1 _ rfl) hB (by omega) ?_); (rfl); intro W6 hb6 hW6 hO6 _))
          exact new_end Tryz.results19 rfl rfl rfl hW6 ⟨hb6, .inr ⟨rfl, B, M, rfl, HT.out.other hO6 hle⟩⟩
end Go.Proofs.YtbeggameiedjgaaGreatDoor.S
/-
  The heap of the chapter, and a proxy of its two objects: what may be.
-/
namespace Go.Proofs.YtbeggameiedjgaaGreatDoor.S
open Go.RowKit Go.Lib Fl
open Classical

def p7 : Pq := pN (⟨#[97]⟩ : ByteArray) 0 4619567317775286272
theorem n7_ok : (⟨3, 4619567317775286272, ⟨#[]⟩, 0⟩ : Vq).Ok := ⟨.num 4619567317775286272, ⟨.ours 7, ⟨by decide, by unfold SafeN; omega⟩, rfl⟩, rfl, rfl, rfl, rfl⟩
theorem p7_in : p7.In := pN_in (by decide) (by decide) n7_ok
theorem p7_ok : p7.Ok := pN_ok (by decide) (by decide) (fun h => absurd h (by decide)) n7_ok
def vN : Vq := ⟨1, 0, ⟨#[]⟩, 0⟩
def vT (r : Int) : Vq := ⟨6, 0, ⟨#[]⟩, r⟩
theorem vN_ok : vN.Ok := ⟨.nul, trivial, rfl, rfl, rfl, rfl⟩
theorem vT_ok {r : Int} (h0 : 0 ≤ r) (h1 : r < 100) : (vT r).Ok := ⟨.obj 6 r, by simp [Vl.ok]; omega, rfl, rfl, rfl, rfl⟩
def oA (a : Option Addr) : Ob := ⟨1, vN, true, a, 1, [p7], v0, v0, ⟨#[]⟩, false, false⟩
def oB : Ob := ⟨1, vT 0, true, none, 0, [], v0, v0, ⟨#[]⟩, false, false⟩
def oP (t h : Int) : Ob := ⟨6, vN, false, none, 0, [], vT t, vT h, ⟨#[]⟩, false, false⟩
def H2 (a : Option Addr) : List Ob := [oA a, oB]
theorem ok_may {v : Vq} (h : v.Ok) : v.may = true := mayI_iff.2 h
theorem tab1 : TabOk [p7] := ⟨by decide, fun p hp => by obtain rfl := List.mem_singleton.1 hp; exact p7_ok, List.pairwise_singleton _ _⟩
theorem hold_n {H : List Ob} {v : Vq} (h : v.Ok) (ho : objQ v = false) : holdsB H v = true := by unfold holdsB; rw [ok_may h, ho]; rfl
theorem hold_t {H : List Ob} {r : Int} (h : (vT r).Ok) (hr : refB H (vT r) = true) : holdsB H (vT r) = true := by unfold holdsB; rw [ok_may h, hr]; rfl
theorem may_A (a b : Option Addr) (G : List Ob) : mayB (H2 b ++ G) (oA a) 0 = true := by
  unfold mayB
  have h1 : chkT (oA a).props = 0 := chkT_ok.2 tab1
  have h2 : (valsO (oA a)).all (holdsB (H2 b ++ G)) = true := by
    rw [List.all_eq_true]
    intro v hv
    have : v = vN ∨ v = v0 ∨ v = (⟨3, 4619567317775286272, ⟨#[]⟩, 0⟩ : Vq) := by
      simp [valsO, oA, p7, pN, dN] at hv
      rcases hv with h | h | h | h <;> simp [h]
    rcases this with rfl | rfl | rfl
    · exact hold_n vN_ok rfl
    · exact hold_n v0_ok rfl
    · exact hold_n n7_ok rfl
  have h3 : fitsB (H2 b ++ G) (oA a) 0 = true := by kernel_rfl
  rw [h1, h2, h3]; rfl
theorem may_B (b : Option Addr) (G : List Ob) : mayB (H2 b ++ G) oB 1 = true := by
  unfold mayB
  have h1 : chkT oB.props = 0 := chkT_ok.2 ⟨by decide, (fun _ h => by cases h), List.Pairwise.nil⟩
  have h2 : (valsO oB).all (holdsB (H2 b ++ G)) = true := by
    rw [List.all_eq_true]
    intro v hv
    have : v = vT 0 ∨ v = v0 := by
      simp [valsO, oB] at hv
      exact hv
    rcases this with rfl | rfl
    · exact hold_t (vT_ok (by decide) (by decide)) rfl
    · exact hold_n v0_ok rfl
  have h3 : fitsB (H2 b ++ G) oB 1 = true := by kernel_rfl
  rw [h1, h2, h3]; rfl
theorem may_P (b : Option Addr) : mayB (H2 b ++ [oP 0 1]) (oP 0 1) 2 = true := by
  unfold mayB
  have h1 : chkT (oP 0 1).props = 0 := chkT_ok.2 ⟨by decide, (fun _ h => by cases h), List.Pairwise.nil⟩
  have h2 : (valsO (oP 0 1)).all (holdsB (H2 b ++ [oP 0 1])) = true := by
    rw [List.all_eq_true]
    intro v hv
    have : v = vN ∨ v = vT 0 ∨ v = vT 1 := by
      simp [valsO, oP] at hv
      exact hv
    rcases this with rfl | rfl | rfl
    · exact hold_n vN_ok rfl
    · exact hold_t (vT_ok (by decide) (by decide)) rfl
    · exact hold_t (vT_ok (by decide) (by decide)) rfl
  have h3 : fitsB (H2 b ++ [oP 0 1]) (oP 0 1) 2 = true := by kernel_rfl
  rw [h1, h2, h3]; rfl
theorem loops2 (b : Option Addr) : loopsB (H2 b) = false := by kernel_rfl
theorem loops3 (b : Option Addr) : loopsB (H2 b ++ [oP 0 1]) = false := by kernel_rfl
theorem may2 (b : Option Addr) : mayH (H2 b) = true := mayH_iff.2 ⟨(by show 2 ≤ 4096; decide), fun i hi => by
  have e := List.append_nil (H2 b)
  match i, hi with
  | 0, _ => have := may_A b b []; rw [e] at this; exact this
  | 1, _ => have := may_B b []; rw [e] at this; exact this
  | n + 2, h => exact absurd h (by simp [H2]), loops2 b⟩
theorem new2 (b : Option Addr) : newE (H2 b) (oP 0 1) = 0 := by
  unfold newE
  rw [may2, show decide ((H2 b).length = 4096) = false from rfl, show (H2 b).length = 2 from rfl, may_P, loops3]; rfl
theorem oA_in (g : Nat) : (oA (some ⟨g, 0, none⟩)).In := ⟨(by show (0 : Int) ≤ 1; decide), (by show (1 : Int) < 256; decide), ok_in2 vN_ok, ok_in2 v0_ok, ok_in2 v0_ok, (by show 0 ≤ maxLen; unfold maxLen; omega), (fun p hp => by obtain rfl := List.mem_singleton.1 hp; exact p7_in), (by show 1 ≤ 1; decide), (by show 1 < 9223372036854775808; decide), fun h => by cases h⟩
theorem oB_in : oB.In := ⟨(by show (0 : Int) ≤ 1; decide), (by show (1 : Int) < 256; decide), ok_in2 (vT_ok (by decide) (by decide)), ok_in2 v0_ok, ok_in2 v0_ok, (by show 0 ≤ maxLen; unfold maxLen; omega), (fun p hp => by cases hp), Nat.le_refl _, (by show 0 < 9223372036854775808; decide), fun _ => rfl⟩
theorem oP_in : (oP 0 1).In := ⟨(by show (0 : Int) ≤ 6; decide), (by show (6 : Int) < 256; decide), ok_in2 vN_ok, ok_in2 (vT_ok (by decide) (by decide)), ok_in2 (vT_ok (by decide) (by decide)), (by show 0 ≤ maxLen; unfold maxLen; omega), (fun p hp => by cases hp), Nat.le_refl _, (by show 0 < 9223372036854775808; decide), fun _ => rfl⟩
end Go.Proofs.YtbeggameiedjgaaGreatDoor.S
/-
  The law's own: null, proxied; what is built of parts.
-/
namespace Go.Proofs.YtbeggameiedjgaaGreatDoor.S
open Go.RowKit Go.Lib Fl
open Classical

set_option maxRecDepth 100000 in
theorem rb_n (w : World) : (Instr.build 26 #[(0, .int .u8 1)]).run Tryz.prog w = .ok vN.val w := by kernel_rfl
set_option maxRecDepth 100000 in
theorem rb_t0 (w : World) : (Instr.build 26 #[(0, .int .u8 6)]).run Tryz.prog w = .ok (vT 0).val w := by kernel_rfl
set_option maxRecDepth 100000 in
theorem rb_t (r : Int) (w : World) : (Instr.build 26 #[(0, .int .u8 6), (3, .int .i64 r)]).run Tryz.prog w = .ok (vT r).val w := by kernel_rfl
set_option maxRecDepth 100000 in
theorem rb_7 (w : World) : (Instr.build 26 #[(0, .int .u8 3), (1, .float .f64 4619567317775286272)]).run Tryz.prog w = .ok (Vq.val ⟨3, 4619567317775286272, ⟨#[]⟩, 0⟩) w := by kernel_rfl
set_option maxRecDepth 100000 in
theorem rb_d (w : World) : (Instr.build 28 #[(0, .int .u8 51), (1, Vq.val ⟨3, 4619567317775286272, ⟨#[]⟩, 0⟩), (4, .bool true), (5, .bool true), (6, .bool true)]).run Tryz.prog w = .ok (.agg p7.d.cells) w := by kernel_rfl
set_option maxRecDepth 100000 in
theorem rb_k (w : World) : (Instr.build 23 #[(0, .string (⟨#[97]⟩ : ByteArray))]).run Tryz.prog w = .ok (.agg #[.string p7.k.str, .int .i64 p7.k.sym]) w := by kernel_rfl
set_option maxRecDepth 100000 in
theorem rb_a (a : Option Addr) (w : World) : (Instr.build 54 #[(0, .int .u8 1), (1, vN.val), (2, .bool true), (3, .slice a 1 1)]).run Tryz.prog w = .ok (.agg (obA (oA a))) w := by kernel_rfl
set_option maxRecDepth 100000 in
theorem rb_b (w : World) : (Instr.build 54 #[(0, .int .u8 1), (1, (vT 0).val), (2, .bool true)]).run Tryz.prog w = .ok (.agg (obA oB)) w := by kernel_rfl
set_option maxRecDepth 100000 in
theorem rb_p (t h : Int) (w : World) : (Instr.build 54 #[(0, .int .u8 6), (1, vN.val), (4, (vT t).val), (5, (vT h).val)]).run Tryz.prog w = .ok (.agg (obA (oP t h))) w := by kernel_rfl
set_option maxRecDepth 100000 in
theorem rb_s (a : Option Addr) (w : World) : (Instr.buildSlice 47 2 #[(0, .agg (obA (oA a))), (1, .agg (obA oB))]).run Tryz.prog w = .ok (.slice (some ⟨w.heap.size, 0, none⟩) 2 2) (w.alloc (.cells (hcl (H2 a)).toArray 54)) := by kernel_rfl
set_option maxRecDepth 100000 in
theorem rb_s7 (w : World) : (Instr.buildSlice 35 1 #[(0, .agg (prA p7))]).run Tryz.prog w = .ok (.slice (some ⟨w.heap.size, 0, none⟩) 1 1) (w.alloc (.cells (prCells [p7]).toArray 30)) := by kernel_rfl
set_option maxRecDepth 100000 in
theorem rb_h (v : Option Addr) (w : World) : (Instr.build 49 #[(0, .slice v 2 2)]).run Tryz.prog w = .ok (.agg #[.slice v 2 2]) w := by kernel_rfl
section
variable {ops : Array Oper} {rest : List Oper} {o : Oper} {a : Act} {w : World} {Q : Exit → Act → World → Prop} {x y z : Operand}
theorem eb_n (ho : o.op = .build 26 #[(0, .const (.int .u8 1))]) : (execOp a.eval o).run Tryz.prog w = .ok (.value vN.val) w := by
  unfold execOp
  simp only [ho, List.map_toArray, List.map_cons, List.map_nil, Act.eval, rb_n, Sem.run_bind, Sem.run_pure, Result.andThen_ok]
theorem eb_t0 (ho : o.op = .build 26 #[(0, .const (.int .u8 6))]) : (execOp a.eval o).run Tryz.prog w = .ok (.value (vT 0).val) w := by
  unfold execOp
  simp only [ho, List.map_toArray, List.map_cons, List.map_nil, Act.eval, rb_t0, Sem.run_bind, Sem.run_pure, Result.andThen_ok]
theorem eb_t {r : Int} (ho : o.op = .build 26 #[(0, .const (.int .u8 6)), (3, x)]) (hx : a.eval x = .int .i64 r) : (execOp a.eval o).run Tryz.prog w = .ok (.value (vT r).val) w := by
  unfold execOp
  have hc : ∀ v, a.eval (.const v) = v := fun _ => rfl
  simp only [ho, List.map_toArray, List.map_cons, List.map_nil, hc, hx, rb_t, Sem.run_bind, Sem.run_pure, Result.andThen_ok]
theorem eb_7 (ho : o.op = .build 26 #[(0, .const (.int .u8 3)), (1, .const (.float .f64 4619567317775286272))]) : (execOp a.eval o).run Tryz.prog w = .ok (.value (Vq.val ⟨3, 4619567317775286272, ⟨#[]⟩, 0⟩)) w := by
  unfold execOp
  simp only [ho, List.map_toArray, List.map_cons, List.map_nil, Act.eval, rb_7, Sem.run_bind, Sem.run_pure, Result.andThen_ok]
theorem eb_d (ho : o.op = .build 28 #[(0, .const (.int .u8 51)), (1, x), (4, .const (.bool true)), (5, .const (.bool true)), (6, .const (.bool true))]) (hx : a.eval x = Vq.val ⟨3, 4619567317775286272, ⟨#[]⟩, 0⟩) : (execOp a.eval o).run Tryz.prog w = .ok (.value (.agg p7.d.cells)) w := by
  unfold execOp
  have hc : ∀ v, a.eval (.const v) = v := fun _ => rfl
  simp only [ho, List.map_toArray, List.map_cons, List.map_nil, hc, hx, rb_d, Sem.run_bind, Sem.run_pure, Result.andThen_ok]
theorem eb_k (ho : o.op = .build 23 #[(0, .const (.string (⟨#[97]⟩ : ByteArray)))]) : (execOp a.eval o).run Tryz.prog w = .ok (.value (.agg #[.string p7.k.str, .int .i64 p7.k.sym])) w := by
  unfold execOp
  simp only [ho, List.map_toArray, List.map_cons, List.map_nil, Act.eval, rb_k, Sem.run_bind, Sem.run_pure, Result.andThen_ok]
theorem eb_a {A : Option Addr} (ho : o.op = .build 54 #[(0, .const (.int .u8 1)), (1, x), (2, .const (.bool true)), (3, y)]) (hx : a.eval x = vN.val) (hy : a.eval y = .slice A 1 1) : (execOp a.eval o).run Tryz.prog w = .ok (.value (.agg (obA (oA A)))) w := by
  unfold execOp
  have hc : ∀ v, a.eval (.const v) = v := fun _ => rfl
  simp only [ho, List.map_toArray, List.map_cons, List.map_nil, hc, hx, hy, rb_a, Sem.run_bind, Sem.run_pure, Result.andThen_ok]
theorem eb_b (ho : o.op = .build 54 #[(0, .const (.int .u8 1)), (1, x), (2, .const (.bool true))]) (hx : a.eval x = (vT 0).val) : (execOp a.eval o).run Tryz.prog w = .ok (.value (.agg (obA oB))) w := by
  unfold execOp
  have hc : ∀ v, a.eval (.const v) = v := fun _ => rfl
  simp only [ho, List.map_toArray, List.map_cons, List.map_nil, hc, hx, rb_b, Sem.run_bind, Sem.run_pure, Result.andThen_ok]
theorem eb_p {t h : Int} (ho : o.op = .build 54 #[(0, .const (.int .u8 6)), (1, x), (4, y), (5, z)]) (hx : a.eval x = vN.val) (hy : a.eval y = (vT t).val) (hz : a.eval z = (vT h).val) : (execOp a.eval o).run Tryz.prog w = .ok (.value (.agg (obA (oP t h)))) w := by
  unfold execOp
  have hc : ∀ v, a.eval (.const v) = v := fun _ => rfl
  simp only [ho, List.map_toArray, List.map_cons, List.map_nil, hc, hx, hy, hz, rb_p, Sem.run_bind, Sem.run_pure, Result.andThen_ok]
theorem eb_s {A : Option Addr} (ho : o.op = .buildSlice 47 2 #[(0, x), (1, y)]) (hx : a.eval x = .agg (obA (oA A))) (hy : a.eval y = .agg (obA oB)) : (execOp a.eval o).run Tryz.prog w = .ok (.value (.slice (some ⟨w.heap.size, 0, none⟩) 2 2)) (w.alloc (.cells (hcl (H2 A)).toArray 54)) := by
  unfold execOp
  simp only [ho, List.map_toArray, List.map_cons, List.map_nil, hx, hy, rb_s, Sem.run_bind, Sem.run_pure, Result.andThen_ok]
theorem eb_h {v : Option Addr} (ho : o.op = .build 49 #[(0, x)]) (hx : a.eval x = .slice v 2 2) : (execOp a.eval o).run Tryz.prog w = .ok (.value (.agg #[.slice v 2 2])) w := by
  unfold execOp
  simp only [ho, List.map_toArray, List.map_cons, List.map_nil, hx, rb_h, Sem.run_bind, Sem.run_pure, Result.andThen_ok]
end
theorem vN_one : (#[.int .u8 vN.k, .float .f64 vN.x, .string vN.s, .int .i64 vN.r] : Array Value).all (·.oneCell') = true := cells_one (l := [.int .u8 vN.k, .float .f64 vN.x, .string vN.s, .int .i64 vN.r]) rfl
set_option maxRecDepth 100000 in
theorem null_l (w : World) : Calls Tryz.prog 26 #[] w fun e w' => e = .returned vN.val ∧ Below w.heap.size w w' := by
  have hb : (w.alloc (.cells #[.int .u8 0, .float .f64 0, .string ⟨#[]⟩, .int .i64 0] 26)).heap[w.heap.size]? = some (.cells #[.int .u8 0, .float .f64 0, .string ⟨#[]⟩, .int .i64 0] 26 (0, 0)) := heap_alloc_new _ _
  have hB := vzero w (.cells #[.int .u8 0, .float .f64 0, .string ⟨#[]⟩, .int .i64 0] 26)
  go_enter Tryz.func26, Tryz.ntmps26
  go_wp2_with (first
    | ((with_reducible refine w_run ?_ (eb_n rfl) ?_); (rfl))
    | ((with_reducible refine t_store (cs := #[.int .u8 vN.k, .float .f64 vN.x, .string vN.s, .int .i64 vN.r]) rfl rfl rfl rfl hb ?_ ?_ vN_one hB (Nat.le_refl _) ?_); (exact vsz4); (rfl); intro W hBW hW _ _))
  exact val_end Tryz.results26 rfl hW ⟨rfl, hBW⟩
theorem o_end {f : Func} {i : Nat} {t : TypeId} {Q : Ending → World → Prop} {tmps : Array Value} {W : World} {g : Nat} {p : Ob} (hf : f.results = #[.cell i 54]) (h2 : tmps.getD i undef = .pointer (some ⟨g, 0, none⟩)) (hb : W.heap[g]? = some (.cells (obA p) t (0, 0)))
    (hQ : Q (.returned (.agg (obA p))) W) : bodyPost Tryz.prog f Q .ret { tmps := tmps, defers := [] } W :=
  bodyPost_ret (results_cell_row hf tmps W g t _ (0, 0) _ h2 hb Tryz.underlying54 rfl osz) rfl hQ
set_option maxRecDepth 100000 in
theorem proxied_l (t h : Int) (w : World) : Calls Tryz.prog 21 #[.int .i64 t, .int .i64 h] w fun e w' => e = .returned (.agg (obA (oP t h))) ∧ Below w.heap.size w w' := by
  have cN := fun W => null_l W
  have hc1 := obA_one (oP t h)
  have hi1 : (Tryz.prog.info? 54).map (·.size) = some (obA (oP t h)).size := osz
  go_enter Tryz.func21, Tryz.ntmps21
  go_wp2_with (first
    | (go_at_call 26; (with_reducible refine (cN _).mono ?_); rintro e w1 ⟨rfl, h9⟩; have hb := vblk1 h9; have HB := Lib.hid (vafter h9); clear h9)
    | ((with_reducible refine w_run ?_ (eb_t rfl rfl) ?_); (rfl))
    | ((with_reducible refine w_run ?_ (eb_p rfl rfl rfl rfl) ?_); (rfl))
    | ((with_reducible refine t_store rfl rfl rfl rfl hb hi1 ?_ hc1 HB.out (Nat.le_refl _) ?_); (rfl); intro W hBW hW _ _))
  exact o_end Tryz.results21 rfl hW ⟨rfl, hBW⟩
end Go.Proofs.YtbeggameiedjgaaGreatDoor.S
/-
  The law's own: two.
-/
namespace Go.Proofs.YtbeggameiedjgaaGreatDoor.S
open Go.RowKit Go.Lib Fl
open Classical

theorem wpAnyH_strong {P : Program} {md : Region.Mode} {ops : Array Oper} {Q : Exit → Act → World → Prop} {S S' : World → Prop} (h : ∀ w, S' w → S w) : ∀ (fuel : Nat) (listed : Array Bool) (a : Act) (w : World), wpAnyH P md ops Q S' fuel listed a w → wpAnyH P md ops Q S fuel listed a w
  | 0, _, _, _, g => g
  | fuel + 1, _, _, _, g => ⟨g.1, fun i hi => wpOp_mono (fun a' w' h' => ⟨h _ h'.1, wpAnyH_strong h fuel _ a' w' h'.2⟩) (g.2 i hi)⟩
section
variable {ops : Array Oper} {o : Oper} {w w2 : World} {Q : Exit → Act → World → Prop} {K : Act → World → Prop} {x y : Operand} {xs : List Value} {ds : List Deferred} {d g : Nat} {v : Value} {t ty : TypeId} {cs old : Array Value}
theorem r_val (hw : Region.wanted o (yielded ops (Act.mk xs.toArray ds).tmps) = true) (hr : (execOp (Act.mk xs.toArray ds).eval o).run Tryz.prog w = .ok (.value v) w2) (hd : o.dst = some d) (h : K ⟨(xs.set d v).toArray, ds⟩ w2) :
    if Region.wanted o (yielded ops (Act.mk xs.toArray ds).tmps) = true then Oper.wp Tryz.prog o ⟨xs.toArray, ds⟩ w K Q else K ((Act.mk xs.toArray ds).put o.dst undef) w := by
  rw [if_pos hw]
  unfold Oper.wp
  rw [hr]
  show K ((Act.mk xs.toArray ds).put o.dst v) w2
  rw [hd, hput_some]
  exact h
theorem r_store (hw : Region.wanted o (yielded ops (Act.mk xs.toArray ds).tmps) = true) (ho : o.op = .store ty x y) (hx : (Act.mk xs.toArray ds).eval x = .pointer (some ⟨g, 0, none⟩)) (hy : (Act.mk xs.toArray ds).eval y = .agg cs) (hg : w.heap[g]? = some (.cells old t (0, 0)))
    (hi : (Tryz.prog.info? ty).map (·.size) = some cs.size) (hold : old.size = cs.size) (h1 : cs.all (·.oneCell') = true) (hd : o.dst = none) (h : K ⟨xs.toArray, ds⟩ (w.setRow g cs)) :
    if Region.wanted o (yielded ops (Act.mk xs.toArray ds).tmps) = true then Oper.wp Tryz.prog o ⟨xs.toArray, ds⟩ w K Q else K ((Act.mk xs.toArray ds).put o.dst undef) w := by
  rw [if_pos hw]
  refine wp_store_row ty x y ho g cs hx hy t old hg hi hold h1 ?_
  rw [hd]
  exact h
end
/-- two's own blocks -/
structure Ts (w : World) (W : World) : Prop where
  b : ∃ v, W.heap[w.heap.size]? = some (.cells #[v] 49 (0, 0))
  d : W.heap[w.heap.size + 1]? = some (.cells p7.d.cells 28 (0, 0))
  below : Below w.heap.size w W
theorem Ts.up {w W W' : World} (h : Ts w W) (hb : Below W.heap.size W W') : Ts w W' := ⟨h.b.imp fun _ g => vblkn hb g, vblkn hb h.d, vb h.below hb⟩
structure Tp (w : World) (g : Nat) (W : World) : Prop where
  ts : Ts w W
  p : W.heap[g]? = some (.cells (prCells [p7]).toArray 30 (0, 0))
  le : w.heap.size + 2 ≤ g
theorem Tp.up {w W W' : World} {g : Nat} (h : Tp w g W) (hb : Below W.heap.size W W') : Tp w g W' := ⟨h.ts.up hb, vblkn hb h.p, h.le⟩
theorem Ts.size {w W : World} (h : Ts w W) : w.heap.size + 2 ≤ W.heap.size := lt_blk h.d
theorem Tp.set {w W : World} {g : Nat} (h : Tp w g W) (v : Value) : Tp w g (W.setRow w.heap.size #[v]) :=
  ⟨⟨⟨v, setRow_heap _ _ _ _ _ _ h.ts.b.choose_spec⟩, (setRow_other W _ _ _ (by omega)).trans h.ts.d, below_row h.ts.below (Nat.le_refl _) _⟩, (setRow_other W _ _ _ (by have := h.le; omega)).trans h.p, h.le⟩
def TwoTo (w : World) (e : Ending) (w' : World) : Prop := ∃ B g, e = .returned (.agg #[.slice (some ⟨B, 0, none⟩) 2 2]) ∧ w'.heap[B]? = some (.cells (hcl (H2 (some ⟨g, 0, none⟩))).toArray 54 (0, 0)) ∧ w'.heap[g]? = some (.cells (prCells [p7]).toArray 30 (0, 0)) ∧ Below w.heap.size w w'
set_option maxHeartbeats 4000000 in
set_option maxRecDepth 100000 in
theorem two_l (w : World) : Calls Tryz.prog 20 #[] w (TwoTo w) := by
  have cN := fun W => null_l W
  have hsz1 : ∀ v : Value, (Tryz.prog.info? 49).map (·.size) = some (#[v] : Array Value).size := fun v => hsz
  have hdc : ∀ c : Array Value, (w.alloc (.cells #[.slice none 0 0] 49)).heap.size = w.heap.size + 1 := fun _ => by simp
  have hi1 : (Tryz.prog.info? 28).map (·.size) = some p7.d.cells.size := dsz
  have hc1 : p7.d.cells.all (·.oneCell') = true := cells_one (l := p7.d.cells.toList) rfl
  go_enter Tryz.func20, Tryz.ntmps20
  go_upto_region 2 with (first
    | ((with_reducible refine w_run ?_ (eb_7 rfl) ?_); (rfl))
    | ((with_reducible refine w_run ?_ (eb_d rfl rfl) ?_); (rfl))
    | ((with_reducible refine t_store rfl rfl rfl rfl (vblk2 (Below.refl _ _)).2 hi1 ?_ hc1 (vafter (vzero _ _)) (Nat.le_succ _) ?_); (rfl); intro W hBW hW hO hs))
  have hb0 : W.heap[w.heap.size]? = some (.cells #[.slice none 0 0] 49 (0, 0)) := (hO _ (by omega)).trans (vblk2 (Below.refl _ _)).1
  have hS : Ts w W.drew := (Ts.mk ⟨_, hb0⟩ hW hBW).up (Below.refl _ _).drew
  clear hO hs hBW hW hb0 hdc
  refine wp_region_held_drew (S := Ts w) (by kernel_rfl) hS (fun hHeld => ?_)
  refine hH_take (i := 1) (v := .agg #[.string p7.k.str, .int .i64 p7.k.sym]) (d := 5) (l2 := #[false, true, false, false, false, false, false, false, false, false, false]) rfl (by kernel_rfl) (by kernel_rfl) (by kernel_rfl) (fun _ _ _ h => h) (by kernel_rfl) (fun w hSw => eb_k rfl) (by assumption) rfl (by kernel_rfl) ?_
  simp only [List.set]
  refine hH_take (i := 2) (v := .agg p7.d.cells) (d := 6) (l2 := #[false, true, true, false, false, false, false, false, false, false, false]) rfl (by kernel_rfl) (by kernel_rfl) (by kernel_rfl) (fun _ _ _ h => h) (by kernel_rfl) (fun w hSw => ex_load_at (d2_load hSw.d) rfl rfl) (by assumption) rfl (by kernel_rfl) ?_
  simp only [List.set]
  refine hH_take (i := 3) (v := .agg (prA p7)) (d := 7) (l2 := #[false, true, true, true, false, false, false, false, false, false, false]) rfl (by kernel_rfl) (by kernel_rfl) (by kernel_rfl) (fun _ _ _ h => h) (by kernel_rfl) (fun w hSw => e_build rfl rfl rfl) (by assumption) rfl (by kernel_rfl) ?_
  simp only [List.set]
  refine hH_take (i := 6) (v := (vT 0).val) (d := 10) (l2 := #[false, true, true, true, false, false, true, false, false, false, false]) rfl (by kernel_rfl) (by kernel_rfl) (by kernel_rfl) (fun _ _ _ h => h) (by kernel_rfl) (fun w hSw => eb_t0 rfl) (by assumption) rfl (by kernel_rfl) ?_
  simp only [List.set]
  refine hH_take (i := 7) (v := .agg (obA oB)) (d := 11) (l2 := #[false, true, true, true, false, false, true, true, false, false, false]) rfl (by kernel_rfl) (by kernel_rfl) (by kernel_rfl) (fun _ _ _ h => h) (by kernel_rfl) (fun w hSw => eb_b rfl rfl) (by assumption) rfl (by kernel_rfl) ?_
  simp only [List.set]
  refine wpAnyH_ready (rs := [0, 4]) (by kernel_rfl) (by simp) ?_
  refine AllReadyH.cons rfl (fun K hK => ?_) (AllReadyH.cons rfl (fun K hK => ?_) AllReadyH.nil)
  · go_simp
    go_at_call 26
    (with_reducible refine (cN _).mono ?_)
    rintro e w1 ⟨rfl, h1⟩
    have hS := hS.up h1
    refine hK.out _ _ hS (fun hHeld => ?_)
    clear hK K h1
    refine wpAnyH_ready (rs := [4]) (by kernel_rfl) (by simp) ?_
    refine AllReadyH.cons rfl (fun K hK => ?_) AllReadyH.nil
    refine r_val (by kernel_rfl) (e_slice1 (p := p7) rfl rfl) rfl ?_
    simp only [List.set]
    have hT : Tp w (w1).heap.size ((w1).alloc (.cells (prCells [p7]).toArray 30)) := ⟨hS.up (vzero _ _), heap_alloc_new _ _, hS.size⟩
    refine hK.out _ _ hT.ts (fun hHeld => ?_)
    clear hK K hHeld
    refine wpAnyH_strong (S' := Tp w (w1).heap.size) (fun _ h => h.ts) _ _ _ _ ?_
    refine hH_take (i := 5) (v := .agg (obA (oA (some ⟨(w1).heap.size, 0, none⟩)))) (d := 9) (l2 := #[true, true, true, true, true, true, true, true, false, false, false]) rfl (by kernel_rfl) (by kernel_rfl) (by kernel_rfl) (fun _ _ _ h => h) (by kernel_rfl) (fun w hSw => eb_a rfl rfl rfl) (by assumption) rfl (by kernel_rfl) ?_
    simp only [List.set]
    refine wpAnyH_ready (rs := [8]) (by kernel_rfl) (by simp) ?_
    refine AllReadyH.cons rfl (fun K hK => ?_) AllReadyH.nil
    refine r_val (by kernel_rfl) (eb_s rfl rfl rfl) rfl ?_
    simp only [List.set]
    have hT2 := hT.up (vzero _ (.cells (hcl (H2 (some ⟨(w1).heap.size, 0, none⟩))).toArray 54))
    have hH2 := heap_alloc_new (w1.alloc (.cells (prCells [p7]).toArray 30)) (.cells (hcl (H2 (some ⟨(w1).heap.size, 0, none⟩))).toArray 54)
    have hsz := hT.ts.size
    refine hK.out _ _ hT2 (fun hHeld => ?_)
    clear hK K hHeld
    refine hH_take (i := 9) (v := .agg #[.slice (some ⟨(w1.alloc (.cells (prCells [p7]).toArray 30)).heap.size, 0, none⟩) 2 2]) (d := 13) (l2 := #[true, true, true, true, true, true, true, true, true, true, false]) rfl (by kernel_rfl) (by kernel_rfl) (by kernel_rfl) (fun _ _ _ h => h) (by kernel_rfl) (fun w hSw => eb_h rfl rfl) (by assumption) rfl (by kernel_rfl) ?_
    simp only [List.set]
    refine wpAnyH_ready (rs := [10]) (by kernel_rfl) (by simp) ?_
    refine AllReadyH.cons rfl (fun K hK => ?_) AllReadyH.nil
    refine r_store (by kernel_rfl) rfl rfl rfl hT2.ts.b.choose_spec (hsz1 _) rfl (cells_one (l := [.slice (some ⟨(w1.alloc (.cells (prCells [p7]).toArray 30)).heap.size, 0, none⟩) 2 2]) rfl) rfl ?_
    have hT3 := hT2.set (.slice (some ⟨(w1.alloc (.cells (prCells [p7]).toArray 30)).heap.size, 0, none⟩) 2 2)
    have hH3 := (setRow_other _ w.heap.size _ #[.slice (some ⟨(w1.alloc (.cells (prCells [p7]).toArray 30)).heap.size, 0, none⟩) 2 2] (by omega)).trans hH2
    have hr3 : (World.setRow _ w.heap.size #[Value.slice (some ⟨(w1.alloc (.cells (prCells [p7]).toArray 30)).heap.size, 0, none⟩) 2 2]).heap[w.heap.size]? = some (.cells #[Value.slice (some ⟨(w1.alloc (.cells (prCells [p7]).toArray 30)).heap.size, 0, none⟩) 2 2] 49 (0, 0)) := setRow_heap _ _ _ _ _ _ hT2.ts.b.choose_spec
    refine hK.out _ _ hT3 (fun hHeld => ?_)
    clear hK K hHeld
    refine wpAnyH_done (by kernel_rfl) ?_ _
    go_wp2
    exact h_end Tryz.results20 rfl hr3 ⟨_, _, rfl, hH3, hT3.p, hT3.ts.below⟩
  · skip
    refine r_val (by kernel_rfl) (e_slice1 (p := p7) rfl rfl) rfl ?_
    simp only [List.set]
    have hT : Tp w (W.drew).heap.size ((W.drew).alloc (.cells (prCells [p7]).toArray 30)) := ⟨hS.up (vzero _ _), heap_alloc_new _ _, hS.size⟩
    refine hK.out _ _ hT.ts (fun hHeld => ?_)
    clear hK K hHeld
    refine wpAnyH_strong (S' := Tp w (W.drew).heap.size) (fun _ h => h.ts) _ _ _ _ ?_
    refine wpAnyH_ready (rs := [0]) (by kernel_rfl) (by simp) ?_
    refine AllReadyH.cons rfl (fun K hK => ?_) AllReadyH.nil
    go_simp
    go_at_call 26
    (with_reducible refine (cN _).mono ?_)
    rintro e w1 ⟨rfl, h1⟩
    have hT := hT.up h1
    refine hK.out _ _ hT (fun hHeld => ?_)
    clear hK K h1
    refine hH_take (i := 5) (v := .agg (obA (oA (some ⟨(W.drew).heap.size, 0, none⟩)))) (d := 9) (l2 := #[true, true, true, true, true, true, true, true, false, false, false]) rfl (by kernel_rfl) (by kernel_rfl) (by kernel_rfl) (fun _ _ _ h => h) (by kernel_rfl) (fun w hSw => eb_a rfl rfl rfl) (by assumption) rfl (by kernel_rfl) ?_
    simp only [List.set]
    refine wpAnyH_ready (rs := [8]) (by kernel_rfl) (by simp) ?_
    refine AllReadyH.cons rfl (fun K hK => ?_) AllReadyH.nil
    refine r_val (by kernel_rfl) (eb_s rfl rfl rfl) rfl ?_
    simp only [List.set]
    have hT2 := hT.up (vzero _ (.cells (hcl (H2 (some ⟨(W.drew).heap.size, 0, none⟩))).toArray 54))
    have hH2 := heap_alloc_new w1 (.cells (hcl (H2 (some ⟨(W.drew).heap.size, 0, none⟩))).toArray 54)
    have hsz := hT.ts.size
    refine hK.out _ _ hT2 (fun hHeld => ?_)
    clear hK K hHeld
    refine hH_take (i := 9) (v := .agg #[.slice (some ⟨w1.heap.size, 0, none⟩) 2 2]) (d := 13) (l2 := #[true, true, true, true, true, true, true, true, true, true, false]) rfl (by kernel_rfl) (by kernel_rfl) (by kernel_rfl) (fun _ _ _ h => h) (by kernel_rfl) (fun w hSw => eb_h rfl rfl) (by assumption) rfl (by kernel_rfl) ?_
    simp only [List.set]
    refine wpAnyH_ready (rs := [10]) (by kernel_rfl) (by simp) ?_
    refine AllReadyH.cons rfl (fun K hK => ?_) AllReadyH.nil
    refine r_store (by kernel_rfl) rfl rfl rfl hT2.ts.b.choose_spec (hsz1 _) rfl (cells_one (l := [.slice (some ⟨w1.heap.size, 0, none⟩) 2 2]) rfl) rfl ?_
    have hT3 := hT2.set (.slice (some ⟨w1.heap.size, 0, none⟩) 2 2)
    have hH3 := (setRow_other _ w.heap.size _ #[.slice (some ⟨w1.heap.size, 0, none⟩) 2 2] (by omega)).trans hH2
    have hr3 : (World.setRow _ w.heap.size #[Value.slice (some ⟨w1.heap.size, 0, none⟩) 2 2]).heap[w.heap.size]? = some (.cells #[Value.slice (some ⟨w1.heap.size, 0, none⟩) 2 2] 49 (0, 0)) := setRow_heap _ _ _ _ _ _ hT2.ts.b.choose_spec
    refine hK.out _ _ hT3 (fun hHeld => ?_)
    clear hK K hHeld
    refine wpAnyH_done (by kernel_rfl) ?_ _
    go_wp2
    exact h_end Tryz.results20 rfl hr3 ⟨_, _, rfl, hH3, hT3.p, hT3.ts.below⟩
end Go.Proofs.YtbeggameiedjgaaGreatDoor.S
/-
  The law's own: alive.
-/
namespace Go.Proofs.YtbeggameiedjgaaGreatDoor.S
open Go.RowKit Go.Lib Fl
open Classical

structure TwoAt (B g : Nat) (W : World) : Prop where
  b : W.heap[B]? = some (.cells (hcl (H2 (some ⟨g, 0, none⟩))).toArray 54 (0, 0))
  p : W.heap[g]? = some (.cells (prCells [p7]).toArray 30 (0, 0))
theorem TwoAt.up {B g : Nat} {W W' : World} (h : TwoAt B g W) (hb : Below W.heap.size W W') : TwoAt B g W' := ⟨vblkn hb h.b, vblkn hb h.p⟩
theorem TwoAt.inn {B g : Nat} {W : World} (h : TwoAt B g W) : HIn W (some ⟨B, 0, none⟩) (H2 (some ⟨g, 0, none⟩)) 2 := by
  refine ⟨fun o ho => ?_, fun _ => ⟨_, rfl, lt_blk h.b, fun i hi => ⟨?_, ?_⟩⟩, by show 2 ≤ 5000; decide, fun o ho => ?_, Nat.le_refl _, by decide, fun hc => by cases hc⟩
  · simp only [H2, List.mem_cons, List.not_mem_nil, or_false] at ho
    rcases ho with rfl | rfl
    · exact oA_in g
    · exact oB_in
  · refine of_cells (by rw [add_blk]; exact lt_blk h.b) fun j u hu => ?_
    have hj : j < 18 := by have := (List.getElem?_eq_some_iff.1 hu).1; rw [ocl_len] at this; exact this
    rw [add_add, Addr.add_mid, Nat.zero_add, vcells h.b (i * 18 + j), List.getElem?_toArray, hcl_at _ i hi j hj]
    exact hu
  · match i, hi with
    | 0, _ => exact pr_blk h.p
    | 1, _ => exact pr_nil
    | n + 2, h => exact absurd h (by simp [H2])
  · simp only [H2, List.mem_cons, List.not_mem_nil, or_false] at ho
    rcases ho with rfl | rfl
    · show 1 < 1000000000000; decide
    · show 0 < 1000000000000; decide
theorem two_few {a : Option Addr} : ∀ o ∈ H2 a, o.props.length ≤ 100000 := fun o ho => by
  simp only [H2, List.mem_cons, List.not_mem_nil, or_false] at ho
  rcases ho with rfl | rfl
  · show 1 ≤ 100000; decide
  · show 0 ≤ 100000; decide
theorem new_two {B g : Nat} {W : World} (h : TwoAt B g W) (htab : TabHere W) : Calls Tryz.prog 19 #[.agg #[.slice (some ⟨B, 0, none⟩) 2 2], .agg (obA (oP 0 1))] W fun e w' => ∃ B' : Nat, e = .returned (.tuple #[.agg #[.slice (some ⟨B', 0, none⟩) 3 3], .int .i64 2, .int .i64 0]) ∧ w'.cell? ⟨B', 36, none⟩ = some (.int .u8 6) ∧ Below W.heap.size W w' := by
  refine (New_h (some ⟨B, 0, none⟩) (H2 (some ⟨g, 0, none⟩)) 2 (oP 0 1) W h.inn two_few pr_nil oP_in (by show 0 ≤ 100000; decide) htab).mono ?_
  rintro e w' ⟨hb, ⟨hz, _⟩ | ⟨_, B', M, rfl, hT⟩⟩
  · exact absurd (new2 _) hz
  · refine ⟨B', rfl, ?_, hb⟩
    have hl : M.length = 3 := hT.len
    obtain ⟨g2, _, e2, _⟩ := (hT.all 2 (by omega) (by show 2 < 3; decide)).out
    have h3 := hcl_at M 2 (by omega) 0 (by decide)
    rw [vcells hT.b 36, List.getElem?_toArray]
    refine h3.trans ?_
    rw [e2]
    rfl
theorem chk_two {B g : Nat} {W : World} (h : TwoAt B g W) (htab : TabHere W) : Calls Tryz.prog 28 #[.agg #[.slice (some ⟨B, 0, none⟩) 2 2]] W fun e w' => e = .returned (.int .i64 0) ∧ Below W.heap.size W w' := by
  have := Check_h (some ⟨B, 0, none⟩) (H2 (some ⟨g, 0, none⟩)) 2 W h.inn htab
  rw [chk_ok (may2 _)] at this
  exact this
set_option maxHeartbeats 4000000 in
set_option maxRecDepth 100000 in
theorem hpalive_any (w : World) (htab : TabHere w) : Calls Tryz.prog 27 #[] w fun e w' => e = .returned (.bool true) ∧ Below w.heap.size w w' := by
  have cT := fun W => two_l W
  have cP := fun W => proxied_l 0 1 W
  have cN := fun W B g (hb : Below w.heap.size w W) (h : TwoAt B g W) => new_two h (tab_up htab hb)
  have cC := fun W B g (hb : Below w.heap.size w W) (h : TwoAt B g W) => chk_two h (tab_up htab hb)
  clear htab
  go_enter Tryz.func27, Tryz.ntmps27
  go_wp2_with (first
    | (go_at_call 20; (with_reducible refine (cT _).mono ?_); rintro e w4 ⟨B, g, rfl, t1, t2, h9⟩; have hT : TwoAt B g w4 := ⟨t1, t2⟩; have HB := Lib.hid (vb HB.out (vafter h9)); clear h9 t1 t2)
    | (go_at_call 20; (with_reducible refine (cT _).mono ?_); rintro e w1 ⟨B, g, rfl, t1, t2, h9⟩; have hT : TwoAt B g w1 := ⟨t1, t2⟩; have HB := Lib.hid h9; clear h9 t1 t2)
    | (go_at_call 28; (with_reducible refine (cC _ _ _ HB.out hT).mono ?_); rintro e w5 ⟨rfl, h9⟩; have HB := Lib.hid (vb HB.out h9); clear h9 hT)
    | (go_at_call 21; (with_reducible refine (cP _).mono ?_); rintro e w2 ⟨rfl, h9⟩; have hT := hT.up h9; have HB := Lib.hid (vb HB.out h9); clear h9)
    | (go_at_call 19; (with_reducible refine (cN _ _ _ HB.out hT).mono ?_); rintro e w3 ⟨B3, rfl, hc3, h9⟩; have hc4 := cell_old hc3 (.cells #[.slice (some ⟨B3, 0, none⟩) 3 3] 49); have HB := Lib.hid (vb HB.out h9); clear h9 hT))
  go_ret
  exact ⟨rfl, HB.out⟩
end Go.Proofs.YtbeggameiedjgaaGreatDoor.S
/-
  heap.Same: a heap's twin is the same.
-/
namespace Go.Proofs.YtbeggameiedjgaaGreatDoor.S
open Go.RowKit Go.Lib Fl
open Classical

set_option maxRecDepth 100000 in
theorem hsame_refl (k : Int) (x : Nat) (s : ByteArray) (r : Int) (w : World) : Calls Tryz.prog 79 #[.agg #[.int .u8 k, .float .f64 x, .string s, .int .i64 r], .agg #[.int .u8 k, .float .f64 x, .string s, .int .i64 r]] w fun e w' => e = .returned (.bool true) ∧ Below w.heap.size w w' := by
  have kn := fun w => IsNaN_f x w
  have hB : ∀ o1 o2, Below w.heap.size w ((w.alloc o1).alloc o2) := fun o1 o2 => vafter (vzero _ _)
  cases hf : FloatKind.f64.format.order x x == some .eq
  · have hn : (FloatKind.f64.format.order x x != some .eq) = true := by rw [bne, hf]; rfl
    rw [hn] at kn
    go_enter Tryz.func79, Tryz.ntmps79
    go_wp2_with (go_at_call 119; refine (kn _).mono ?_; rintro e w' ⟨rfl, rfl⟩)
    go_ret
    exact ⟨rfl, hB _ _⟩
  · go_enter Tryz.func79, Tryz.ntmps79
    go_wp2_with (go_at_call 119; refine (kn _).mono ?_; rintro e w' ⟨rfl, rfl⟩)
    go_ret
    exact ⟨rfl, hB _ _⟩
end Go.Proofs.YtbeggameiedjgaaGreatDoor.S
/-
  heap.sameProp: a property is the same as itself. Generated: gen_heapsame2.py.
-/
namespace Go.Proofs.YtbeggameiedjgaaGreatDoor.S
open Go.RowKit Go.Lib Fl
open Classical

theorem pd2_load {W : World} {p : Pq} {g : Nat} (h : W.heap[g]? = some (.cells (prA p) 30 (0, 0))) : (Instr.loadAt 28 (.pointer (some ⟨g, 2, none⟩))).run Tryz.prog W = .ok (.agg p.d.cells) W :=
  run_loadAt_at (A := ⟨g, 2, none⟩) (cs := p.d.cells.toList) (fun j v hv => by
    rw [Addr.add_mid]
    refine pb_cells h (2 + j) v ?_
    rw [show 2 + j = j + 1 + 1 by omega]
    exact hv) Tryz.underlying28 rfl dsz
/-- the two boxes -/
structure Bz (w : World) (p : Pq) (W : World) : Prop where
  a : W.heap[w.heap.size]? = some (.cells (prA p) 30 (0, 0))
  b : W.heap[w.heap.size + 1]? = some (.cells (prA p) 30 (0, 0))
  below : Below w.heap.size w W
theorem Bz.up {w : World} {p : Pq} {W W' : World} (h : Bz w p W) (hb : Below W.heap.size W W') : Bz w p W' := ⟨vblkn hb h.a, vblkn hb h.b, vb h.below hb⟩
theorem Bz.size {w : World} {p : Pq} {W : World} (h : Bz w p W) : w.heap.size + 2 ≤ W.heap.size := lt_blk h.b
theorem Bz.set {w : World} {p : Pq} {W : World} (h : Bz w p W) {g : Nat} (hg : w.heap.size + 2 ≤ g) (cs : Array Value) : Bz w p (W.setRow g cs) :=
  ⟨(setRow_other W _ _ _ (by omega)).trans h.a, (setRow_other W _ _ _ (by omega)).trans h.b, below_row h.below (by omega) _⟩
section
variable {o : Oper} {a : Act} {w : World}
theorem ea_d (ho : o.op = .alloc 28) : (execOp a.eval o).run Tryz.prog w = .ok (.value (.pointer (some ⟨w.heap.size, 0, none⟩))) (w.alloc (.cells (dz 0).cells 28)) := by
  unfold execOp
  simp only [ho]
  kernel_rfl
end
/-- the two descriptors by value -/
structure Dd (w : World) (p : Pq) (g5 g6 : Nat) (W : World) : Prop where
  bx : Bz w p W
  x : W.heap[g5]? = some (.cells p.d.cells 28 (0, 0))
  y : W.heap[g6]? = some (.cells p.d.cells 28 (0, 0))
theorem Dd.up {w : World} {p : Pq} {g5 g6 : Nat} {W W' : World} (h : Dd w p g5 g6 W) (hb : Below W.heap.size W W') : Dd w p g5 g6 W' := ⟨h.bx.up hb, vblkn hb h.x, vblkn hb h.y⟩
theorem cells_d {W : World} {d : Dq} {g : Nat} (h : W.heap[g]? = some (.cells d.cells 28 (0, 0))) :
    W.cell? ⟨g, 0, none⟩ = some (.int .u8 d.h) ∧ VAt W ⟨g, 1, none⟩ d.a ∧ VAt W ⟨g, 5, none⟩ d.b ∧ VAt W ⟨g, 9, none⟩ d.c ∧ W.cell? ⟨g, 13, none⟩ = some (.bool d.p) ∧ W.cell? ⟨g, 14, none⟩ = some (.bool d.q) ∧ W.cell? ⟨g, 15, none⟩ = some (.bool d.z) :=
  ⟨vcells h 0, ⟨lt_blk h, vcells h 1, vcells h 2, vcells h 3, vcells h 4⟩, ⟨lt_blk h, vcells h 5, vcells h 6, vcells h 7, vcells h 8⟩, ⟨lt_blk h, vcells h 9, vcells h 10, vcells h 11, vcells h 12⟩, vcells h 13, vcells h 14, vcells h 15⟩
section
variable {ops : Array Oper} {rest : List Oper} {o : Oper} {a : Act} {w : World} {Q : Exit → Act → World → Prop} {x y : Operand}
theorem k_neq {k : Ky} (hw : Region.wanted o (yielded ops a.tmps) = true) (ho : o.op = .binOp .neq 23 x y 23) (hx : a.eval x = .agg #[.string k.str, .int .i64 k.sym]) (hy : a.eval y = .agg #[.string k.str, .int .i64 k.sym])
    (h : wpList Tryz.prog ops Q rest (a.put o.dst (.bool false)) w) : wpList Tryz.prog ops Q (o :: rest) a w :=
  wpList_wanted hw fun K hK => by
    have he := key_eq 9998 k.str k.str k.sym k.sym w
    have e1 : ((k.str == k.str) && (k.sym == k.sym)) = true := eqK_iff.2 (rfl : k = k)
    rw [e1] at he
    have hr : (execOp a.eval o).run Tryz.prog w = .ok (.value (.bool false)) w := by
      unfold execOp
      simp only [ho, hx, hy, Sem.run_bind, Sem.run_pure, run_eqGuard_agg w _ _ _ _ _ _ (show Tryz.prog.eqGuardType Tryz.prog.depth 23 = false by kernel_rfl), run_neq_struct, he, Result.andThen_ok]
      rfl
    unfold Oper.wp
    rw [hr]
    exact hK _ _ h
end
set_option maxHeartbeats 4000000 in
set_option maxRecDepth 100000 in
theorem sameprop_refl (p : Pq) (w : World) : Calls Tryz.prog 81 #[.agg (prA p), .agg (prA p)] w fun e w' => e = .returned (.bool true) ∧ Below w.heap.size w w' := by
  have cS := fun W (v : Vq) => hsame_refl v.k v.x v.s v.r W
  have hc1 : p.d.cells.all (·.oneCell') = true := cells_one (l := p.d.cells.toList) rfl
  have hi1 : (Tryz.prog.info? 28).map (·.size) = some p.d.cells.size := dsz
  have hS : Bz w p ((w.alloc (.cells (prA p) 30)).alloc (.cells (prA p) 30)).drew := ⟨(vblk2 (Below.refl _ _)).1, (vblk2 (Below.refl _ _)).2, (vafter (vzero _ _)).drew⟩
  go_enter Tryz.func81, Tryz.ntmps81
  go_upto_region 1 with (fail)
  go_cut [5, 6] from 7 (fun q r wx => ∃ g5 g6 : Nat, q = .pointer (some ⟨g5, 0, none⟩) ∧ r = .pointer (some ⟨g6, 0, none⟩) ∧ Hid (Dd w p g5 g6 wx))
  case first =>
    refine wp_region_held_drew (S := Bz w p) (by kernel_rfl) hS (fun hHeld => ?_)
    generalize ((w.alloc (.cells (prA p) 30)).alloc (.cells (prA p) 30)).drew = W0 at *
    refine hH_take (i := 0) (v := .pointer (some ⟨w.heap.size, 2, none⟩)) (d := 7) (l2 := #[true, false, false, false, false, false, false, false]) rfl (by kernel_rfl) (by kernel_rfl) (by kernel_rfl) (fun _ _ _ h => h) (by kernel_rfl) (fun w' hSw => by go_simp) (by assumption) rfl (by kernel_rfl) ?_
    simp only [List.set]
    refine hH_take (i := 1) (v := .agg p.d.cells) (d := 8) (l2 := #[true, true, false, false, false, false, false, false]) rfl (by kernel_rfl) (by kernel_rfl) (by kernel_rfl) (fun _ _ _ h => h) (by kernel_rfl) (fun w' hSw => ex_load_at (pd2_load hSw.a) rfl rfl) (by assumption) rfl (by kernel_rfl) ?_
    simp only [List.set]
    refine hH_take (i := 2) (v := .pointer (some ⟨w.heap.size + 1, 2, none⟩)) (d := 9) (l2 := #[true, true, true, false, false, false, false, false]) rfl (by kernel_rfl) (by kernel_rfl) (by kernel_rfl) (fun _ _ _ h => h) (by kernel_rfl) (fun w' hSw => by go_simp) (by assumption) rfl (by kernel_rfl) ?_
    simp only [List.set]
    refine hH_take (i := 3) (v := .agg p.d.cells) (d := 10) (l2 := #[true, true, true, true, false, false, false, false]) rfl (by kernel_rfl) (by kernel_rfl) (by kernel_rfl) (fun _ _ _ h => h) (by kernel_rfl) (fun w' hSw => ex_load_at (pd2_load hSw.b) rfl rfl) (by assumption) rfl (by kernel_rfl) ?_
    simp only [List.set]
    refine wpAnyH_ready (rs := [4, 5]) (by kernel_rfl) (by simp) ?_
    refine (AllReadyH.cons rfl (fun K hK => ?_) (AllReadyH.cons rfl (fun K hK => ?_) AllReadyH.nil))
    · skip
      refine r_val (by kernel_rfl) (ea_d rfl) rfl ?_
      simp only [List.set]
      have h5 := heap_alloc_new (W0) (.cells (dz 0).cells 28)
      have e5 := hS.size
      have hS := hS.up (vzero _ (.cells (dz 0).cells 28))
      refine hK.out _ _ hS (fun hHeld => ?_)
      clear hK K
      refine wpAnyH_ready (rs := [5]) (by kernel_rfl) (by simp) ?_
      refine (AllReadyH.cons rfl (fun K hK => ?_) AllReadyH.nil)
      refine r_val (by kernel_rfl) (ea_d rfl) rfl ?_
      simp only [List.set]
      have h6 := heap_alloc_new ((W0).alloc (.cells (dz 0).cells 28)) (.cells (dz 0).cells 28)
      have e6 := hS.size
      have hne := lt_blk h5
      have h5 := vblkn (vzero _ (.cells (dz 0).cells 28)) h5
      have hS := hS.up (vzero _ (.cells (dz 0).cells 28))
      refine hK.out _ _ hS (fun hHeld => ?_)
      clear hK K
      refine wpAnyH_ready (rs := [6]) (by kernel_rfl) (by simp) ?_
      refine (AllReadyH.cons rfl (fun K hK => ?_) AllReadyH.nil)
      refine r_store (by kernel_rfl) rfl rfl rfl h5 hi1 rfl hc1 rfl ?_
      have h6 := (setRow_other (((W0).alloc (.cells (dz 0).cells 28)).alloc (.cells (dz 0).cells 28)) ((W0).heap.size) _ p.d.cells (by omega)).trans h6
      have h5 : ((((W0).alloc (.cells (dz 0).cells 28)).alloc (.cells (dz 0).cells 28)).setRow ((W0).heap.size) p.d.cells).heap[(W0).heap.size]? = some (.cells p.d.cells 28 (0, 0)) := setRow_heap _ _ _ _ _ _ h5
      have hS := hS.set e5 p.d.cells
      refine hK.out _ _ hS (fun hHeld => ?_)
      clear hK K
      refine wpAnyH_ready (rs := [7]) (by kernel_rfl) (by simp) ?_
      refine (AllReadyH.cons rfl (fun K hK => ?_) AllReadyH.nil)
      refine r_store (by kernel_rfl) rfl rfl rfl h6 hi1 rfl hc1 rfl ?_
      have h5 := (setRow_other ((((W0).alloc (.cells (dz 0).cells 28)).alloc (.cells (dz 0).cells 28)).setRow ((W0).heap.size) p.d.cells) (((W0).alloc (.cells (dz 0).cells 28)).heap.size) _ p.d.cells (by omega)).trans h5
      have h6 : (((((W0).alloc (.cells (dz 0).cells 28)).alloc (.cells (dz 0).cells 28)).setRow ((W0).heap.size) p.d.cells).setRow (((W0).alloc (.cells (dz 0).cells 28)).heap.size) p.d.cells).heap[((W0).alloc (.cells (dz 0).cells 28)).heap.size]? = some (.cells p.d.cells 28 (0, 0)) := setRow_heap _ _ _ _ _ _ h6
      have hS := hS.set e6 p.d.cells
      refine hK.out _ _ hS (fun hHeld => ?_)
      clear hK K
      refine wpAnyH_done (by kernel_rfl) ?_ _
      go_wp2_with (fail)
      go_meet
      case rel => exact ⟨_, _, rfl, rfl, Lib.hid ⟨hS, h5, h6⟩⟩
    · skip
      refine r_val (by kernel_rfl) (ea_d rfl) rfl ?_
      simp only [List.set]
      have h6 := heap_alloc_new (W0) (.cells (dz 0).cells 28)
      have e6 := hS.size
      have hS := hS.up (vzero _ (.cells (dz 0).cells 28))
      refine hK.out _ _ hS (fun hHeld => ?_)
      clear hK K
      refine wpAnyH_ready (rs := [4]) (by kernel_rfl) (by simp) ?_
      refine (AllReadyH.cons rfl (fun K hK => ?_) AllReadyH.nil)
      refine r_val (by kernel_rfl) (ea_d rfl) rfl ?_
      simp only [List.set]
      have h5 := heap_alloc_new ((W0).alloc (.cells (dz 0).cells 28)) (.cells (dz 0).cells 28)
      have e5 := hS.size
      have hne := lt_blk h6
      have h6 := vblkn (vzero _ (.cells (dz 0).cells 28)) h6
      have hS := hS.up (vzero _ (.cells (dz 0).cells 28))
      refine hK.out _ _ hS (fun hHeld => ?_)
      clear hK K
      refine wpAnyH_ready (rs := [6]) (by kernel_rfl) (by simp) ?_
      refine (AllReadyH.cons rfl (fun K hK => ?_) AllReadyH.nil)
      refine r_store (by kernel_rfl) rfl rfl rfl h5 hi1 rfl hc1 rfl ?_
      have h6 := (setRow_other (((W0).alloc (.cells (dz 0).cells 28)).alloc (.cells (dz 0).cells 28)) (((W0).alloc (.cells (dz 0).cells 28)).heap.size) _ p.d.cells (by omega)).trans h6
      have h5 : ((((W0).alloc (.cells (dz 0).cells 28)).alloc (.cells (dz 0).cells 28)).setRow (((W0).alloc (.cells (dz 0).cells 28)).heap.size) p.d.cells).heap[((W0).alloc (.cells (dz 0).cells 28)).heap.size]? = some (.cells p.d.cells 28 (0, 0)) := setRow_heap _ _ _ _ _ _ h5
      have hS := hS.set e5 p.d.cells
      refine hK.out _ _ hS (fun hHeld => ?_)
      clear hK K
      refine wpAnyH_ready (rs := [7]) (by kernel_rfl) (by simp) ?_
      refine (AllReadyH.cons rfl (fun K hK => ?_) AllReadyH.nil)
      refine r_store (by kernel_rfl) rfl rfl rfl h6 hi1 rfl hc1 rfl ?_
      have h5 := (setRow_other ((((W0).alloc (.cells (dz 0).cells 28)).alloc (.cells (dz 0).cells 28)).setRow (((W0).alloc (.cells (dz 0).cells 28)).heap.size) p.d.cells) ((W0).heap.size) _ p.d.cells (by omega)).trans h5
      have h6 : (((((W0).alloc (.cells (dz 0).cells 28)).alloc (.cells (dz 0).cells 28)).setRow (((W0).alloc (.cells (dz 0).cells 28)).heap.size) p.d.cells).setRow ((W0).heap.size) p.d.cells).heap[(W0).heap.size]? = some (.cells p.d.cells 28 (0, 0)) := setRow_heap _ _ _ _ _ _ h6
      have hS := hS.set e6 p.d.cells
      refine hK.out _ _ hS (fun hHeld => ?_)
      clear hK K
      refine wpAnyH_done (by kernel_rfl) ?_ _
      go_wp2_with (fail)
      go_meet
      case rel => exact ⟨_, _, rfl, rfl, Lib.hid ⟨hS, h5, h6⟩⟩
  case rest =>
    obtain ⟨g5, g6, rfl, rfl, HY⟩ := hcut
    clear hS
    obtain ⟨c0, ca, cb, cc, c1, c2, c3⟩ := cells_d HY.out.x
    obtain ⟨d0, da, db, dc, d1, d2, d3⟩ := cells_d HY.out.y
    have hD := HY
    have ba := hD.out.bx.a
    have bb := hD.out.bx.b
    go_wp2_with (first
      | ((with_reducible refine pk_load ?_ rfl rfl ba ?_); (rfl))
      | ((with_reducible refine pk_load ?_ rfl rfl bb ?_); (rfl))
      | ((with_reducible refine k_neq ?_ rfl rfl rfl ?_); (rfl))
      | ((with_reducible refine va_load ?_ rfl rfl ca ?_); (rfl))
      | ((with_reducible refine va_load ?_ rfl rfl cb ?_); (rfl))
      | ((with_reducible refine va_load ?_ rfl rfl cc ?_); (rfl))
      | ((with_reducible refine va_load ?_ rfl rfl da ?_); (rfl))
      | ((with_reducible refine va_load ?_ rfl rfl db ?_); (rfl))
      | ((with_reducible refine va_load ?_ rfl rfl dc ?_); (rfl))
      | (go_at_call 79; (with_reducible refine (cS _ _).mono ?_); rintro e w1 ⟨rfl, h9⟩; have hD := Lib.hid (hD.out.up h9); clear c0 ca cb cc c1 c2 c3 d0 da db dc d1 d2 d3 h9; obtain ⟨c0, ca, cb, cc, c1, c2, c3⟩ := cells_d hD.out.x; obtain ⟨d0, da, db, dc, d1, d2, d3⟩ := cells_d hD.out.y))
    go_ret
    exact ⟨by simp, hD.out.bx.below⟩
end Go.Proofs.YtbeggameiedjgaaGreatDoor.S
