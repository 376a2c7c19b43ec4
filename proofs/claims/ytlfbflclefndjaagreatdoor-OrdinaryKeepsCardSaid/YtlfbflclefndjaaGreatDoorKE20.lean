/-
  heap.loops: whether one comes back from an object to it by prototypes.
-/
import Derived.Test.YtlfbflclefndjaaGreatDoorKE15
import Derived.Test.YtlfbflclefndjaaGreatDoorKE16
import Derived.Deep.LoopGhost
import Derived.Test.YtlfbflclefndjaaGreatDoorKE19
import Derived.Maps.AppendAt
namespace Go.Proofs.YtlfbflclefndjaaGreatDoor.S
open Go.RowKit Go.Lib Fl
open Classical

def WK (W : List Nat) : Array Value := (W.map fun (x : Nat) => Value.int .i64 (x : Int)).toArray
theorem WK_at {W : List Nat} {i : Nat} (h : i < W.length) : (WK W)[i]? = some (.int .i64 (W[i] : Int)) := by simp [WK, h]
theorem WK_set (W : List Nat) (i k : Nat) : (WK W).setIfInBounds i (.int .i64 (k : Int)) = WK (W.set i k) := by simp [WK, List.map_set]
theorem made_ints (n : Nat) : madeCells (Value.int .i64 0).cells (n * 1) = WK (List.replicate n 0) := by
  apply Array.ext
  · simp [madeCells, WK]
  · intro i h1 h2
    have e : i % 1 = 0 := Nat.mod_one i
    simp [madeCells, WK, Value.cells, e]
/-- what loops holds on to -/
structure Ls (w : World) (A : Option Addr) (n cap : Nat) (K : List Nat) (W : World) : Prop where
  below : Below w.heap.size w W
  h : W.heap[w.heap.size]? = some (.cells #[.slice A n cap] 24 (0, 0))
  k : W.heap[w.heap.size + 1]? = some (.cells (WK K) 3 (0, 0))
theorem Ls.up {w W W' : World} {A : Option Addr} {n cap : Nat} {K : List Nat} (h : Ls w A n cap K W) (hb : Below W.heap.size W W') : Ls w A n cap K W' := ⟨vb h.below hb, vblkn hb h.h, vblkn hb h.k⟩
theorem Ls.other {w W W' : World} {A : Option Addr} {n cap g : Nat} {K : List Nat} (h : Ls w A n cap K W) (hb : Below w.heap.size w W') (hO : ∀ j, j ≠ g → W'.heap[j]? = W.heap[j]?) (hg : w.heap.size + 1 < g) : Ls w A n cap K W' :=
  ⟨hb, (hO _ (by omega)).trans h.h, (hO _ (by omega)).trans h.k⟩
theorem Ls.lt {w W : World} {A : Option Addr} {n cap : Nat} {K : List Nat} (h : Ls w A n cap K W) : w.heap.size + 1 < W.heap.size := lt_blk h.k
theorem ls_start (w : World) (A : Option Addr) (n cap : Nat) (K : List Nat) : Ls w A n cap K ((w.alloc (.cells #[.slice A n cap] 24)).alloc (.cells (WK K) 3)) := by
  obtain ⟨b1, b2⟩ := vblk2 (w := w) (Below.refl _ ((w.alloc (.cells #[.slice A n cap] 24)).alloc (.cells (WK K) 3)))
  exact ⟨vafter (vzero _ _), b1, b2⟩
theorem Ls.fz {w W : World} {A : Option Addr} {n cap : Nat} {K : List Nat} (h : Ls w A n cap K W) (p : Nat) : W.frozen? ⟨w.heap.size + 1, p, none⟩ = false := by simp [World.frozen?, h.k]
theorem Ls.c {w W : World} {A : Option Addr} {n cap : Nat} {K : List Nat} (h : Ls w A n cap K W) : W.cell? ⟨w.heap.size, 0, none⟩ = some (.slice A n cap) := (vcells h.h 0).trans rfl
section
variable {ops : Array Oper} {rest : List Oper} {o : Oper} {a : Act} {w : World} {Q : Exit → Act → World → Prop} {x y : Operand} {t : TypeId}
/-- ints made -/
theorem ints_make {l c : Operand} {n : Nat} (hgd : o.guard = none) (ho : o.op = .makeSlice 86 l c) (hl : a.eval l = .int .i64 (n : Int)) (hc : a.eval c = .int .i64 (n : Int)) (hn : n ≤ 1000000)
    (h : wpList Tryz.prog ops Q rest (a.put o.dst (.slice (some ⟨w.heap.size, 0, none⟩) n n)) (w.alloc (.cells (WK (List.replicate n 0)) 3))) : wpList Tryz.prog ops Q (o :: rest) a w := by
  obtain ⟨i0, hi, hz0, hz1, hz2⟩ := info_parts (P := Tryz.prog) (e := 3) (z := .int .i64 0) (size := 1) (bytes := 8) (by kernel_rfl)
  refine wpList_plain hgd fun K hK => ?_
  have hr := run_makeSlice (P := Tryz.prog) w 86 3 i0 (.int .i64 0) Tryz.underlying86 hi hz0 .i64 .i64 (n : Int) (n : Int) (by omega) (by omega) (by rw [hz1]; omega) (by rw [hz2]; omega) (by omega)
  rw [hz1, Int.toNat_natCast, made_ints] at hr
  unfold Oper.wp execOp
  simp only [ho, hl, hc, hr, Sem.run_bind, Sem.run_pure, Result.andThen_ok]
  exact hK _ _ h
end
/-- where a prototype leads -/
def ProtoOk (H : List Ob) : Prop := ∀ i (h : i < H.length), objQ H[i].proto = true → ∃ m : Nat, H[i].proto.r = m ∧ m < H.length
theorem next_none {H : List Ob} {p : Nat} (h : p < H.length) (e : objQ H[p].proto = false) : nextO H p = none := by
  unfold nextO
  rw [List.getElem?_eq_getElem h]
  dsimp only
  rw [e]; rfl
theorem next_some {H : List Ob} {p m : Nat} (h : p < H.length) (e : objQ H[p].proto = true) (er : H[p].proto.r = m) : nextO H p = some m := by
  unfold nextO
  rw [List.getElem?_eq_getElem h]
  dsimp only
  rw [e, er]; rfl
theorem walk_hit {H : List Ob} {k f p : Nat} {W : List Nat} (h : p < W.length) (e : W[p] = k) : walkF H k (f + 1) p W = none := by
  unfold walkF
  rw [List.getElem?_eq_getElem h]
  dsimp only
  rw [e, beq_self_eq_true]; rfl
theorem walk_old {H : List Ob} {k f p : Nat} {W : List Nat} (h : p < W.length) (e : W[p] ≠ k) (e0 : W[p] ≠ 0) : walkF H k (f + 1) p W = some W := by
  unfold walkF
  rw [List.getElem?_eq_getElem h]
  dsimp only
  rw [beq_eq_false_iff_ne.2 e, beq_eq_false_iff_ne.2 e0]; rfl
theorem walk_on {H : List Ob} {k f p : Nat} {W : List Nat} (h : p < W.length) (e : W[p] ≠ k) (e0 : W[p] = 0) : walkF H k (f + 1) p W = match nextO H p with | none => some (W.set p k) | some q => walkF H k f q (W.set p k) := by
  conv => lhs; unfold walkF
  rw [List.getElem?_eq_getElem h]
  dsimp only
  rw [beq_eq_false_iff_ne.2 e, beq_iff_eq.2 e0]; rfl
theorem count_set {W : List Nat} {p k : Nat} (h : p < W.length) (e0 : W[p] = 0) (hk : k ≠ 0) : (W.set p k).count 0 + 1 = W.count 0 := by
  induction W generalizing p with
  | nil => simp at h
  | cons x r ih =>
    cases p with
    | zero =>
      simp only [List.getElem_cons_zero] at e0
      subst e0
      simp only [List.set_cons_zero, List.count_cons_self]
      rw [List.count_cons_of_ne hk]
    | succ p =>
      simp only [List.getElem_cons_succ] at e0
      have := ih (by simpa using h) e0
      simp only [List.set_cons_succ, List.count_cons]
      omega
/-- how far a walk has come: at an object yet to be asked, or at its end -/
inductive Wst (H : List Ob) (k f : Nat) (R : Option (List Nat)) (K : List Nat) (v : Vq) : Prop where
  | run (p : Nat) : objQ v = true → v.r = p → p < H.length → walkF H k f p K = R → K.count 0 < f → Wst H k f R K v
  | off : objQ v = false → R = some K → Wst H k f R K v
theorem wst_on {H : List Ob} {K : List Nat} {p k f : Nat} {R : Option (List Nat)} (hpK : p < K.length) (hp : p < H.length) (hk : k ≠ 0) (e1 : K[p] ≠ k) (e0 : K[p] = 0) (hw : walkF H k (f + 1) p K = R) (hc : K.count 0 < f + 1) (hN : ProtoOk H) : Wst H k f R (K.set p k) H[p].proto := by
  rw [walk_on hpK e1 e0] at hw
  have hcs := count_set hpK e0 hk
  cases ho : objQ H[p].proto with
  | false => rw [next_none hp ho] at hw; exact .off ho hw.symm
  | true =>
    obtain ⟨m, hm, hlt⟩ := hN p hp ho
    rw [next_some hp ho hm] at hw
    exact .run m ho hm hlt hw (by omega)
theorem ls_next {w V : World} {A : Option Addr} {n cap i p : Nat} {K : List Nat} (h : Ls w A n cap K V) :
    ((V.setCell ⟨w.heap.size + 1, p, none⟩ (.int .i64 ((i : Int) + 1))).alloc (.cells #[.int .u8 0, .float .f64 0, .string ⟨#[]⟩, .int .i64 0] 34)).heap[V.heap.size]? = some (.cells #[.int .u8 0, .float .f64 0, .string ⟨#[]⟩, .int .i64 0] 34 (0, 0)) ∧
    Ls w A n cap (K.set p (i + 1)) ((V.setCell ⟨w.heap.size + 1, p, none⟩ (.int .i64 ((i : Int) + 1))).alloc (.cells #[.int .u8 0, .float .f64 0, .string ⟨#[]⟩, .int .i64 0] 34)) := by
  have hks : (V.setCell ⟨w.heap.size + 1, p, none⟩ (.int .i64 ((i : Int) + 1))).heap[w.heap.size + 1]? = some (.cells (WK (K.set p (i + 1))) 3 (0, 0)) := by
    have := vset1 h.k p (.int .i64 ((i + 1 : Nat) : Int))
    rw [WK_set] at this
    rw [← this]; rfl
  have L4 : Ls w A n cap (K.set p (i + 1)) (V.setCell ⟨w.heap.size + 1, p, none⟩ (.int .i64 ((i : Int) + 1))) :=
    ⟨h.below.setCell (p := ⟨w.heap.size + 1, p, none⟩) (Nat.le_succ _) _, vset1o h.h (by omega) _ _, hks⟩
  have hA := heap_alloc_new (V.setCell ⟨w.heap.size + 1, p, none⟩ (.int .i64 ((i : Int) + 1))) (.cells #[.int .u8 0, .float .f64 0, .string ⟨#[]⟩, .int .i64 0] 34)
  rw [World.size_setCell] at hA
  exact ⟨hA, L4.up (vzero _ _)⟩
/-- the loop's variable in its box -/
structure Lp (w : World) (A : Option Addr) (H : List Ob) (cap k f : Nat) (R : Option (List Nat)) (g : Nat) (W : World) : Prop where
  out : ∃ (v : Vq) (K : List Nat), Ls w A H.length cap K W ∧ K.length = H.length ∧ w.heap.size + 1 < g ∧ W.heap[g]? = some (.cells #[.int .u8 v.k, .float .f64 v.x, .string v.s, .int .i64 v.r] 34 (0, 0)) ∧ 0 ≤ v.k ∧ Wst H k f R K v
theorem vq_one (k : Int) (x : Nat) (s : ByteArray) (r : Int) : (#[Value.int .u8 k, .float .f64 x, .string s, .int .i64 r] : Array Value).all (·.oneCell') = true := cells_one (l := [.int .u8 k, .float .f64 x, .string s, .int .i64 r]) rfl
theorem loops_some {H : List Ob} {kx i : Nat} {K K2 : List Nat} {b : Bool} (hlo : loopsL H (kx + 1) i K = b) (hR : walkF H (i + 1) (H.length + 1) i K = some K2) : loopsL H kx (i + 1) K2 = b := by
  rw [← hlo]
  show _ = (match walkF H (i + 1) (H.length + 1) i K with | none => true | some W' => loopsL H kx (i + 1) W')
  rw [hR]
theorem loops_none {H : List Ob} {kx i : Nat} {K : List Nat} {b : Bool} (hlo : loopsL H (kx + 1) i K = b) (hR : walkF H (i + 1) (H.length + 1) i K = none) : b = true := by
  rw [← hlo]
  show (match walkF H (i + 1) (H.length + 1) i K with | none => true | some W' => loopsL H kx (i + 1) W') = true
  rw [hR]
set_option maxHeartbeats 8000000 in
set_option maxRecDepth 1000000 in
theorem loops_h (A : Option Addr) (H : List Ob) (cap : Nat) (w : World) (hH : HIn w A H cap) (hN : ProtoOk H) : Calls Tryz.prog 19 #[.agg #[.slice A H.length cap]] w fun e w' => e = .returned (.bool (loopsB H)) ∧ Below w.heap.size w w' := by
  have HS := Lib.hid (ls_start w A H.length cap (List.replicate H.length 0))
  have hfew := hH.few
  have q4 := HS.out.c
  have q5 : (w.alloc (.cells #[.slice A H.length cap] 24)).cell? ⟨w.heap.size, 0, none⟩ = some (.slice A H.length cap) := (vcells (heap_alloc_new w _) 0).trans rfl
  have HH := Lib.hid hH
  have HN := Lib.hid hN
  clear hH hN
  go_enter Tryz.func19, Tryz.ntmps19
  go_wp2_with (refine ints_make (n := H.length) rfl rfl rfl rfl (by omega) ?_)
  go_loopg [14] H.length (fun kx s14 wr => ∃ i : Nat, s14 = .int .i64 i ∧ i + kx = H.length ∧ Hid (∃ K : List Nat, K.length = H.length ∧ Ls w A H.length cap K wr ∧ loopsL H kx i K = loopsB H))
  case atStart => exact ⟨0, rfl, by omega, Lib.hid ⟨_, by simp, HS.out, rfl⟩⟩
  case round =>
    obtain ⟨i, rfl, hik, HR⟩ := hrel
    obtain ⟨K, hK, hL, hlo⟩ := HR.out
    cases gk with
    | zero =>
      obtain rfl : i = H.length := by omega
      go_wp2
      go_ret
      exact ⟨by rw [← hlo]; rfl, hL.below⟩
    | succ kx =>
      have hlt : i < H.length := by omega
      have hlz : (i : Int) < (H.length : Int) := by omega
      have hl5 : (H.length : Int) ≤ 5000 := by omega
      have hl0 : (0 : Int) ≤ (i : Int) := by omega
      have HL := Lib.hid hL
      have hc1 := vq_one 6 0 ⟨#[]⟩ (i : Int)
      have hi1 : (Tryz.prog.info? 34).map (·.size) = some (#[Value.int .u8 6, .float .f64 0, .string ⟨#[]⟩, .int .i64 (i : Int)] : Array Value).size := vsz4
      have HLO := Lib.hid hlo
      have HKL := Lib.hid hK
      clear q4 q5 hL hlo hK
      go_wp2_with (first
        | ((with_reducible refine t_store rfl rfl rfl rfl (heap_alloc_new _ _) hi1 ?_ hc1 (vzero wr _) (Nat.le_refl _) ?_); (rfl); intro W hBW hW _ _; have HL2 := Lib.hid (HL.out.up hBW)))
      dsimp only [Act.put]
      go_loopg [6] (H.length + 1) (fun f s6 wx => ∃ g : Nat, s6 = .pointer (some ⟨g, 0, none⟩) ∧ Hid (Lp w A H cap (i + 1) f (walkF H (i + 1) (H.length + 1) i K) g wx))
      case atStart =>
        refine ⟨_, rfl, Lib.hid ⟨⟨⟨6, 0, ⟨#[]⟩, (i : Int)⟩, K, HL2.out, HKL.out, HL.out.lt, hW, (show (0 : Int) ≤ 6 by decide), .run i rfl rfl hlt rfl ?_⟩⟩⟩
        have := List.count_le_length (a := 0) (l := K)
        have := HKL.out
        omega
      case round =>
        obtain ⟨g, rfl, HP⟩ := hrel
        obtain ⟨v, K2, hL2, hK2, hg1, hgb, hv0, hst⟩ := HP.out.out
        have cI := fun V => IsObject_q v hv0 V
        obtain ⟨q0, q1, q2, q3, _⟩ := vc4 hgb
        have HL3 := Lib.hid hL2
        have HKK := Lib.hid hK2
        have HG := Lib.hid hgb
        clear hL2 hgb HL2 hW
        cases hst with
        | off ho hR =>
          rw [ho] at cI
          have HR2 := Lib.hid hR
          clear hR
          go_wp2_with (go_at_call 26; (with_reducible refine (cI _).mono ?_); rintro e w1 ⟨rfl, h9⟩; have HL3 := Lib.hid (HL3.out.up h9); clear h9)
          go_roundg kx
          case measure => omega
          case rel => exact ⟨i + 1, by congr 1, by omega, Lib.hid ⟨K2, HKK.out, HL3.out, loops_some HLO.out HR2.out⟩⟩
        | run p ho hr hp hw hcnt =>
          rw [ho] at cI
          obtain ⟨f, rfl⟩ : ∃ f, gk = f + 1 := ⟨gk - 1, by omega⟩
          obtain ⟨k, x, s, r⟩ := v
          dsimp only at *
          subst hr
          have hpz : (p : Int) < (H.length : Int) := by omega
          have hp0 : (0 : Int) ≤ (p : Int) := by omega
          have hpK : p < K2.length := by rw [hK2]; exact hp
          have HW := Lib.hid hw
          have HC := Lib.hid hcnt
          clear hw hcnt hK2
          by_cases e1 : K2[p] = i + 1
          · have HR2 := Lib.hid ((HW.out.symm.trans (walk_hit hpK e1)))
            go_wp2_with (go_at_call 26; (with_reducible refine (cI _).mono ?_); rintro e w1 ⟨rfl, h9⟩; have HL3 := Lib.hid (HL3.out.up h9); have HG := Lib.hid (vblkn h9 HG.out); obtain ⟨q0, q1, q2, q3, _⟩ := vc4 HG.out; have c0 := (vcells HL3.out.k p).trans (WK_at hpK); clear h9)
            go_ret
            exact ⟨by rw [loops_none HLO.out HR2.out]; rfl, HL3.out.below⟩
          · have b1 : ((K2[p] : Int) == (i : Int) + 1) = false := by rw [beq_eq_false_iff_ne]; omega
            by_cases e0 : K2[p] = 0
            · have b0 : ((K2[p] : Int) != 0) = false := by rw [e0]; rfl
              obtain ⟨a, rfl, hab, hof, _⟩ := HH.out.at hp
              have hpin := (HH.out.inn H[p] (List.getElem_mem hp)).proto.1
              have HWS := Lib.hid (wst_on hpK hp (Nat.succ_ne_zero i) e1 e0 HW.out HC.out HN.out)
              have hlen3 : (K2.set p (i + 1)).length = H.length := by rw [List.length_set]; exact HKK.out
              have HK3 := Lib.hid hlen3
              have HOF := Lib.hid hof
              clear hof hlen3
              have hc2 := vq_one k x s (p : Int)
              have hc3 := vq_one H[p].proto.k H[p].proto.x H[p].proto.s H[p].proto.r
              have hi3 : (Tryz.prog.info? 34).map (·.size) = some (#[Value.int .u8 H[p].proto.k, .float .f64 H[p].proto.x, .string H[p].proto.s, .int .i64 H[p].proto.r] : Array Value).size := vsz4
              have hi2 : (Tryz.prog.info? 34).map (·.size) = some (#[Value.int .u8 k, .float .f64 x, .string s, .int .i64 (p : Int)] : Array Value).size := vsz4
              have HA := Lib.hid (fun (V : World) (hV : Ls w (some a) H.length cap K2 V) => ls_next (i := i) (p := p) hV)
              go_wp2_with (first
                | (go_at_call 26; (with_reducible refine (cI _).mono ?_); rintro e w1 ⟨rfl, h9⟩; have HL3 := Lib.hid (HL3.out.up h9); have HG := Lib.hid (vblkn h9 HG.out); obtain ⟨q0, q1, q2, q3, _⟩ := vc4 HG.out; have c0 := (vcells HL3.out.k p).trans (WK_at hpK); obtain ⟨hA, hLA⟩ := HA.out w1 HL3.out; have hfz := HL3.out.fz p; have hBA := hLA.below; have hLt := HL3.out.lt; have hB1 : w.heap.size ≤ w1.heap.size := (by omega); clear h9)
                | ((with_reducible refine t_store rfl rfl rfl rfl hA hi2 ?_ hc2 hBA hB1 ?_); (rfl); intro W3 hB3 hW3 hO3 _; have HL5 := Lib.hid (hLA.other hB3 hO3 hLt); clear q0 q1 q2 q3 c0; obtain ⟨q0, q1, q2, q3, _⟩ := vc4 hW3; have q4 := HL5.out.c; have hp3 := (HOF.out.up HL5.out.below).proto; have hl3 := (HOF.out.up HL5.out.below).lt)
                | ((with_reducible refine va_load ?_ rfl rfl hp3 ?_); (rfl))
                | ((with_reducible refine t_store rfl rfl rfl rfl hW3 hi3 ?_ hc3 HL5.out.below hB1 ?_); (rfl); intro W4 hB4 hW4 hO4 _))
              go_roundg f
              case measure => omega
              case rel => exact ⟨_, rfl, Lib.hid ⟨⟨H[p].proto, K2.set p (i + 1), HL5.out.other hB4 hO4 hLt, HK3.out, hLt, hW4, hpin, HWS.out⟩⟩⟩
            · have b0 : ((K2[p] : Int) != 0) = true := by unfold bne; rw [beq_eq_false_iff_ne.2 (show ¬ (K2[p] : Int) = 0 by omega)]; rfl
              have HR2 := Lib.hid (HW.out.symm.trans (walk_old hpK e1 e0))
              go_wp2_with (go_at_call 26; (with_reducible refine (cI _).mono ?_); rintro e w1 ⟨rfl, h9⟩; have HL3 := Lib.hid (HL3.out.up h9); have HG := Lib.hid (vblkn h9 HG.out); obtain ⟨q0, q1, q2, q3, _⟩ := vc4 HG.out; have c0 := (vcells HL3.out.k p).trans (WK_at hpK); clear h9)
              go_roundg kx
              case measure => omega
              case rel => exact ⟨i + 1, by congr 1, by omega, Lib.hid ⟨K2, HKK.out, HL3.out, loops_some HLO.out HR2.out⟩⟩
end Go.Proofs.YtlfbflclefndjaaGreatDoor.S
/-
  heap.Check: any heap.
-/
namespace Go.Proofs.YtlfbflclefndjaaGreatDoor.S
open Go.RowKit Go.Lib Fl
open Classical

theorem proto_ok {H : List Ob} (h : ∀ i (hi : i < H.length), mayB H H[i] i = true) : ProtoOk H := fun i hi ho => by
  have hb := h i hi
  unfold mayB at hb
  simp only [Bool.and_eq_true] at hb
  have hh := List.all_eq_true.1 hb.2.2.1 H[i].proto (by unfold valsO; simp)
  have h0 := holds_ref hh ho
  obtain ⟨m, hm⟩ := Int.eq_ofNat_of_zero_le h0
  refine ⟨m, hm, ?_⟩
  unfold holdsB at hh
  rw [Bool.and_eq_true, ho, Bool.not_true, Bool.false_or] at hh
  have hr := hh.2
  unfold refB at hr
  rw [hm, Int.toNat_natCast] at hr
  cases e2 : H[m]? with
  | none => rw [e2] at hr; cases hr
  | some u => exact (List.getElem?_eq_some_iff.1 e2).1
theorem chk_many {H : List Ob} (h : 4096 < H.length) : chkH H = 9 := by
  unfold chkH mayH
  rw [decide_eq_false (by omega)]; rfl
theorem chk_bad {H : List Ob} {i : Nat} (h : i < H.length) (e : mayB H H[i] i = false) : chkH H = 9 := by
  unfold chkH
  cases hm : mayH H with
  | false => rfl
  | true => rw [(mayH_iff.1 hm).2.1 i h] at e; cases e
theorem chk_loop {H : List Ob} (h : loopsB H = true) : chkH H = 9 := by
  unfold chkH
  cases hm : mayH H with
  | false => rfl
  | true => rw [(mayH_iff.1 hm).2.2] at h; cases h
theorem chk_ok {H : List Ob} (h : mayH H = true) : chkH H = 0 := by unfold chkH; rw [h]; rfl
set_option maxHeartbeats 4000000 in
set_option maxRecDepth 1000000 in
theorem Check_h (A : Option Addr) (H : List Ob) (cap : Nat) (w : World) (hH : HIn w A H cap) (htab : TabHere w) : Calls Tryz.prog 6 #[.agg #[.slice A H.length cap]] w fun e w' => e = .returned (.int .i64 (chkH H)) ∧ Below w.heap.size w w' := by
  have HS := Lib.hid (hb_start w A H.length cap)
  have q4 := HS.out.h
  by_cases hm : 4096 < H.length
  · rw [chk_many hm]
    have hz : (4096 : Int) < (H.length : Int) := by omega
    go_enter Tryz.func6, Tryz.ntmps6
    go_wp2
    go_ret
    exact ⟨rfl, HS.out.below⟩
  · have hz : ¬ (4096 : Int) < (H.length : Int) := by omega
    have cM := fun W (hb : Below w.heap.size w W) i (hi : i < H.length) => may_h A H cap i W (hH.up hb) hi (tab_up htab hb)
    have cL := fun W (hb : Below w.heap.size w W) (hp : ProtoOk H) => loops_h A H cap W (hH.up hb) hp
    clear hH htab
    go_enter Tryz.func6, Tryz.ntmps6
    go_wp2
    go_loopg [11] H.length (fun kx s11 wr => ∃ i : Nat, s11 = .int .i64 i ∧ i + kx = H.length ∧ Hid (Hb w A H.length cap wr ∧ ∀ j (hj : j < H.length), j < i → mayB H H[j] j = true))
    case atStart => exact ⟨0, rfl, by omega, Lib.hid ⟨HS.out, fun j _ h => absurd h (Nat.not_lt_zero j)⟩⟩
    case round =>
      obtain ⟨i, rfl, hik, HR⟩ := hrel
      have HY := Lib.hid HR.out.1
      have q5 := HR.out.1.h
      cases gk with
      | zero =>
        obtain rfl : i = H.length := by omega
        have hall : ∀ j (hj : j < H.length), mayB H H[j] j = true := fun j hj => HR.out.2 j hj hj
        have hp := proto_ok hall
        cases hl : loopsB H with
        | true =>
          rw [hl] at cL
          go_wp2_with (go_at_call 19; (with_reducible refine (cL _ HY.out.below hp).mono ?_); rintro e w1 ⟨rfl, h9⟩; have HY := Lib.hid (HY.out.up h9); clear h9)
          go_ret
          exact ⟨by rw [chk_loop hl] <;> rfl, HY.out.below⟩
        | false =>
          rw [hl] at cL
          go_wp2_with (go_at_call 19; (with_reducible refine (cL _ HY.out.below hp).mono ?_); rintro e w1 ⟨rfl, h9⟩; have HY := Lib.hid (HY.out.up h9); clear h9)
          go_ret
          exact ⟨by rw [chk_ok (mayH_iff.2 ⟨by omega, hall, hl⟩)] <;> rfl, HY.out.below⟩
      | succ kx =>
        have hlt : i < H.length := by omega
        have hlz : (i : Int) < (H.length : Int) := by omega
        have cM2 := fun W hb => cM W hb i hlt
        cases hb : mayB H H[i] i with
        | false =>
          rw [hb] at cM2
          go_wp2_with (go_at_call 18; (with_reducible refine (cM2 _ HY.out.below).mono ?_); rintro e w1 ⟨rfl, h9⟩; have HY := Lib.hid (HY.out.up h9); clear h9)
          go_ret
          exact ⟨by rw [chk_bad hlt hb] <;> rfl, HY.out.below⟩
        | true =>
          rw [hb] at cM2
          have HBT := Lib.hid hb
          go_wp2_with (go_at_call 18; (with_reducible refine (cM2 _ HY.out.below).mono ?_); rintro e w1 ⟨rfl, h9⟩; have HY := Lib.hid (HY.out.up h9); clear h9)
          go_roundg kx
          case measure => omega
          case rel =>
            refine ⟨i + 1, by congr 1, by omega, Lib.hid ⟨HY.out, fun j hj hji => ?_⟩⟩
            by_cases c : j < i
            · exact HR.out.2 j hj c
            · obtain rfl : j = i := by omega
              exact HBT.out
end Go.Proofs.YtlfbflclefndjaaGreatDoor.S
/-
  Where prototypes lead: no ring, if and only if each line of them ends.
-/
namespace Go.Proofs.YtlfbflclefndjaaGreatDoor.S
open Go.RowKit Go.Lib Fl
open Classical

/-- a line of prototypes ends -/
inductive Ends (H : List Ob) : Nat → Prop where
  | mk {p : Nat} : (∀ q, nextO H p = some q → Ends H q) → Ends H p
/-- one comes from an object to another by prototypes, in one step or more -/
inductive Leads (H : List Ob) : Nat → Nat → Prop where
  | one {p q : Nat} : nextO H p = some q → Leads H p q
  | more {p q r : Nat} : Leads H p q → nextO H q = some r → Leads H p r
theorem Leads.first {H : List Ob} {p r : Nat} (h : Leads H p r) : ∃ q, nextO H p = some q ∧ (q = r ∨ Leads H q r) := by
  induction h with
  | one e => exact ⟨_, e, .inl rfl⟩
  | more h e ih =>
    obtain ⟨q, e1, e2⟩ := ih
    refine ⟨q, e1, .inr ?_⟩
    rcases e2 with rfl | e2
    · exact .one e
    · exact .more e2 e
theorem Leads.back {H : List Ob} {p q r : Nat} (h : nextO H p = some q) (g : Leads H q r) : Leads H p r := by
  induction g with
  | one e => exact .more (.one h) e
  | more _ e ih => exact .more ih e
theorem Ends.no {H : List Ob} {p : Nat} (h : Ends H p) : ¬ Leads H p p := by
  induction h with
  | @mk p _ ih =>
    intro hp
    obtain ⟨q, e, h2⟩ := hp.first
    rcases h2 with rfl | h2
    · exact ih _ e (.one e)
    · exact ih q e (.more h2 e)
theorem count_set0 {W : List Nat} {p k : Nat} (h : W[p]? = some 0) (hk : k ≠ 0) : (W.set p k).count 0 + 1 = W.count 0 := by
  obtain ⟨hp, e⟩ := List.getElem?_eq_some_iff.1 h
  have h1 := List.count_set (a := k) (b := 0) hp
  have h2 : 0 < W.count 0 := List.count_pos_iff.2 (e ▸ List.getElem_mem hp)
  rw [h1, e]
  simp [hk]
  omega
theorem next_out {H : List Ob} {p : Nat} (h : H[p]? = none) : nextO H p = none := by unfold nextO; rw [h]
theorem walk_ends {H : List Ob} {k : Nat} (hk : k ≠ 0) : ∀ (f p : Nat) (W W' : List Nat), W.length = H.length → W.count 0 < f → (∀ u x : Nat, W[u]? = some x → x ≠ 0 → x ≠ k → Ends H u) → walkF H k f p W = some W' →
    Ends H p ∧ W'.length = H.length ∧ (∀ u x : Nat, W'[u]? = some x → x ≠ 0 → x ≠ k → Ends H u) ∧ (∀ u : Nat, W'[u]? = some k → W[u]? = some k ∨ Ends H u) ∧ (∀ u x : Nat, W[u]? = some x → x ≠ 0 → W'[u]? = some x) ∧ (p < H.length → ∃ x, W'[p]? = some x ∧ x ≠ 0) ∧ W'.count 0 ≤ W.count 0 ∧ (∀ u x : Nat, W'[u]? = some x → x ≠ k → W[u]? = some x)
  | 0, _, W, _, _, hf, _, _ => absurd hf (Nat.not_lt_zero _)
  | f + 1, p, W, W', hl, hf, hW, h => by
    unfold walkF at h
    cases e : W[p]? with
    | none =>
      rw [e] at h
      obtain rfl := Option.some.inj h
      have hp : H.length ≤ p := by rw [← hl]; exact List.getElem?_eq_none_iff.1 e
      refine ⟨.mk fun q hq => ?_, hl, hW, fun u hu => .inl hu, fun u x hu _ => hu, fun hp2 => absurd hp2 (by omega), Nat.le_refl _, fun u x hu _ => hu⟩
      rw [next_out (List.getElem?_eq_none_iff.2 hp)] at hq
      cases hq
    | some x =>
      rw [e] at h
      dsimp only at h
      by_cases c : x = k
      · rw [show (x == k) = true from beq_iff_eq.2 c] at h
        cases h
      · rw [show (x == k) = false from beq_eq_false_iff_ne.2 c] at h
        by_cases c0 : x = 0
        · subst c0
          rw [show (!((0 : Nat) == 0)) = false from rfl] at h
          simp only [cond_false] at h
          obtain ⟨hp, _⟩ := List.getElem?_eq_some_iff.1 e
          have hcs := count_set0 e hk
          have hset : ∀ u x : Nat, (W.set p k)[u]? = some x → x ≠ 0 → x ≠ k → Ends H u := fun u x hu h0 h1 => by
            by_cases hup : p = u
            · subst hup
              rw [List.getElem?_set_self hp] at hu
              exact absurd (Option.some.inj hu).symm h1
            · rw [List.getElem?_set_ne hup] at hu
              exact hW u x hu h0 h1
          have hback : ∀ u x : Nat, (W.set p k)[u]? = some x → x ≠ k → W[u]? = some x := fun u x hu h1 => by
            by_cases hup : p = u
            · subst hup
              rw [List.getElem?_set_self hp] at hu
              exact absurd (Option.some.inj hu).symm h1
            · rw [List.getElem?_set_ne hup] at hu
              exact hu
          cases en : nextO H p with
          | none =>
            rw [en] at h
            obtain rfl := Option.some.inj h
            have hE : Ends H p := .mk fun q hq => by rw [en] at hq; cases hq
            refine ⟨hE, by rw [List.length_set]; exact hl, hset, fun u hu => ?_, fun u x hu h0 => ?_, fun _ => ⟨k, List.getElem?_set_self hp, hk⟩, by omega, hback⟩
            · by_cases hup : p = u
              · subst hup; exact .inr hE
              · rw [List.getElem?_set_ne hup] at hu; exact .inl hu
            · by_cases hup : p = u
              · subst hup; rw [e] at hu; exact absurd (Option.some.inj hu).symm h0
              · rw [List.getElem?_set_ne hup]; exact hu
          | some q =>
            rw [en] at h
            obtain ⟨i1, i2, i3, i4, i5, _, i7, i8⟩ := walk_ends hk f q (W.set p k) W' (by rw [List.length_set]; exact hl) (by omega) hset h
            have hE : Ends H p := .mk fun q' hq => by rw [en] at hq; obtain rfl := Option.some.inj hq; exact i1
            refine ⟨hE, i2, i3, fun u hu => ?_, fun u x hu h0 => ?_, fun _ => ⟨k, i5 p k (List.getElem?_set_self hp) hk, hk⟩, by omega, fun u x hu h1 => hback u x (i8 u x hu h1) h1⟩
            · rcases i4 u hu with h5 | h5
              · by_cases hup : p = u
                · subst hup; exact .inr hE
                · rw [List.getElem?_set_ne hup] at h5; exact .inl h5
              · exact .inr h5
            · by_cases hup : p = u
              · subst hup; rw [e] at hu; exact absurd (Option.some.inj hu).symm h0
              · exact i5 u x (by rw [List.getElem?_set_ne hup]; exact hu) h0
        · rw [show (!(x == 0)) = true from by rw [beq_eq_false_iff_ne.2 c0]; rfl] at h
          simp only [cond_true, cond_false] at h
          obtain rfl := Option.some.inj h
          exact ⟨hW p x e c0 c, hl, hW, fun u hu => .inl hu, fun u x hu _ => hu, fun _ => ⟨x, e, c0⟩, Nat.le_refl _, fun u x hu _ => hu⟩
theorem loopsL_ends {H : List Ob} : ∀ (m n : Nat) (W : List Nat), n + m = H.length → W.length = H.length → (∀ u x : Nat, W[u]? = some x → x ≠ 0 → Ends H u ∧ x ≤ n) → (∀ u, u < n → Ends H u) → loopsL H m n W = false → ∀ u, u < H.length → Ends H u
  | 0, n, _, hn, _, _, hU, _ => fun u hu => hU u (by omega)
  | m + 1, n, W, hn, hl, hW, hU, h => by
    unfold loopsL at h
    cases e : walkF H (n + 1) (H.length + 1) n W with
    | none => rw [e] at h; cases h
    | some W' =>
      rw [e] at h
      have hc : W.count 0 < H.length + 1 := by have := List.count_le_length (a := 0) (l := W); omega
      obtain ⟨i1, i2, i3, i4, _, _, _, i8⟩ := walk_ends (Nat.succ_ne_zero n) _ n W W' hl hc (fun u x hu h0 _ => (hW u x hu h0).1) e
      refine loopsL_ends m (n + 1) W' (by omega) i2 (fun u x hu h0 => ?_) (fun u hu => ?_) h
      · by_cases c : x = n + 1
        · subst c
          rcases i4 u hu with h5 | h5
          · exact absurd (hW u _ h5 h0).2 (by omega)
          · exact ⟨h5, Nat.le_refl _⟩
        · have hE := i3 u x hu h0 c
          exact ⟨hE, by have := (hW u x (i8 u x hu c) h0).2; omega⟩
      · by_cases c : u = n
        · subst c; exact i1
        · exact hU u (by omega)
theorem ends_all {H : List Ob} (h : loopsB H = false) (p : Nat) : Ends H p := by
  by_cases hp : p < H.length
  · refine loopsL_ends H.length 0 (List.replicate H.length 0) (by omega) (by simp) (fun u x hu h0 => ?_) (fun u hu => absurd hu (Nat.not_lt_zero u)) h p hp
    obtain ⟨h1, h2⟩ := List.getElem?_eq_some_iff.1 hu
    rw [List.getElem_replicate] at h2
    exact absurd h2.symm h0
  · exact .mk fun q hq => by rw [next_out (List.getElem?_eq_none_iff.2 (by omega))] at hq; cases hq
/-- where each line ends, no walk comes back -/
theorem walk_some {H : List Ob} {k : Nat} (hk : k ≠ 0) (hE : ∀ p, Ends H p) : ∀ (f p : Nat) (W : List Nat), W.length = H.length → (∀ u : Nat, W[u]? = some k → Leads H u p) → ∃ W', walkF H k f p W = some W' ∧ W'.length = H.length ∧ (∀ u x : Nat, W'[u]? = some x → x ≠ k → W[u]? = some x)
  | 0, _, W, hl, _ => ⟨W, rfl, hl, fun u x hu _ => hu⟩
  | f + 1, p, W, hl, hW => by
    unfold walkF
    cases e : W[p]? with
    | none => exact ⟨W, rfl, hl, fun u x hu _ => hu⟩
    | some x =>
      dsimp only
      by_cases c : x = k
      · subst c
        exact absurd (hW p e) (hE p).no
      · rw [show (x == k) = false from beq_eq_false_iff_ne.2 c]
        by_cases c0 : x = 0
        · subst c0
          rw [show (!((0 : Nat) == 0)) = false from rfl]
          simp only [cond_false]
          obtain ⟨hp, _⟩ := List.getElem?_eq_some_iff.1 e
          have hback : ∀ u x : Nat, (W.set p k)[u]? = some x → x ≠ k → W[u]? = some x := fun u x hu h1 => by
            by_cases hup : p = u
            · subst hup
              rw [List.getElem?_set_self hp] at hu
              exact absurd (Option.some.inj hu).symm h1
            · rw [List.getElem?_set_ne hup] at hu
              exact hu
          cases en : nextO H p with
          | none => exact ⟨_, rfl, by rw [List.length_set]; exact hl, hback⟩
          | some q =>
            obtain ⟨W', h1, h2, h3⟩ := walk_some hk hE f q (W.set p k) (by rw [List.length_set]; exact hl) (fun u hu => by
              by_cases hup : p = u
              · subst hup; exact .one en
              · rw [List.getElem?_set_ne hup] at hu; exact .more (hW u hu) en)
            exact ⟨W', h1, h2, fun u x hu h4 => hback u x (h3 u x hu h4) h4⟩
        · rw [show (!(x == 0)) = true from by rw [beq_eq_false_iff_ne.2 c0]; rfl]
          exact ⟨W, rfl, hl, fun u x hu _ => hu⟩
theorem loopsL_no {H : List Ob} (hE : ∀ p, Ends H p) : ∀ (m n : Nat) (W : List Nat), W.length = H.length → (∀ u x : Nat, W[u]? = some x → x ≤ n) → loopsL H m n W = false
  | 0, _, _, _, _ => rfl
  | m + 1, n, W, hl, hW => by
    unfold loopsL
    obtain ⟨W', h1, h2, h3⟩ := walk_some (k := n + 1) (Nat.succ_ne_zero n) hE (H.length + 1) n W hl (fun u hu => by have := hW u _ hu; omega)
    rw [h1]
    refine loopsL_no hE m (n + 1) W' h2 fun u x hu => ?_
    by_cases c : x = n + 1
    · omega
    · have := hW u x (h3 u x hu c); omega
/-- no ring, if and only if each line ends -/
theorem loops_ends (H : List Ob) : loopsB H = false ↔ ∀ p, Ends H p :=
  ⟨fun h p => ends_all h p, fun h => loopsL_no h H.length 0 _ (by simp) fun u x hu => by
    obtain ⟨h1, h2⟩ := List.getElem?_eq_some_iff.1 hu
    rw [List.getElem_replicate] at h2
    omega⟩
/-- how long a line is -/
inductive Dep (H : List Ob) : Nat → Nat → Prop where
  | zero {p : Nat} : nextO H p = none → Dep H p 0
  | succ {p q d : Nat} : nextO H p = some q → Dep H q d → Dep H p (d + 1)
theorem Ends.dep {H : List Ob} {p : Nat} (h : Ends H p) : ∃ d, Dep H p d := by
  induction h with
  | @mk p _ ih =>
    cases e : nextO H p with
    | none => exact ⟨0, .zero e⟩
    | some q => obtain ⟨d, hd⟩ := ih q e; exact ⟨d + 1, .succ e hd⟩
/-- does the object n stand behind a value? -/
def behindF (H : List Ob) (n : Int) : Nat → Vq → Bool
  | 0, _ => false
  | f + 1, v => bif objQ v then (bif v.r == n then true else match H[v.r.toNat]? with | some o => behindF H n f o.proto | none => false) else false
end Go.Proofs.YtlfbflclefndjaaGreatDoor.S
/-
  What one comes to from some objects: the worklist, and the sorted list of them.
-/
namespace Go.Proofs.YtlfbflclefndjaaGreatDoor.S
open Go.RowKit Go.Lib Fl
open Classical

/-- the worklist with a number more, if it is not there -/
def addW (W : List Nat) (n : Nat) : List Nat := if n ∈ W then W else W ++ [n]
theorem addW_pre (W : List Nat) (n : Nat) : W <+: addW W n := by
  unfold addW
  split
  · exact List.prefix_refl _
  · exact ⟨[n], rfl⟩
theorem addW_in (W : List Nat) (n : Nat) : n ∈ addW W n := by
  unfold addW
  split
  · assumption
  · simp
theorem addW_mem {W : List Nat} {n x : Nat} (h : x ∈ addW W n) : x ∈ W ∨ x = n := by
  unfold addW at h
  split at h
  · exact .inl h
  · rcases List.mem_append.1 h with h | h
    · exact .inl h
    · exact .inr (List.mem_singleton.1 h)
theorem addW_nd {W : List Nat} (n : Nat) (h : W.Nodup) : (addW W n).Nodup := by
  unfold addW
  split
  · exact h
  · rename_i hn
    exact List.nodup_append.2 ⟨h, by simp, fun a ha b hb e => by obtain rfl := List.mem_singleton.1 hb; subst e; exact hn ha⟩
/-- the worklist while it is gone through, i of it done -/
structure Wk (H : List Ob) (F W : List Nat) (i : Nat) : Prop where
  nd : W.Nodup
  st : ∀ x ∈ F, x ∈ W
  rh : ∀ x ∈ W, RH H F x
  cl : ∀ j < i, ∀ x, W[j]? = some x → ∀ o, H[x]? = some o → ∀ y ∈ refsO o, y ∈ W
  le : i ≤ W.length
theorem Wk.all {H : List Ob} {F W : List Nat} (h : Wk H F W W.length) (y : Nat) : y ∈ W ↔ RH H F y := by
  refine ⟨h.rh y, fun hy => ?_⟩
  induction hy with
  | start hx => exact h.st _ hx
  | @step x y o _ e hm ih =>
    obtain ⟨j, hj, hx⟩ := List.mem_iff_getElem.1 ih
    exact h.cl j hj x (by rw [List.getElem?_eq_getElem hj, hx]) o e y hm
/-- the first loop: k of them are in -/
structure Wa (F W : List Nat) (k : Nat) : Prop where
  nd : W.Nodup
  st : ∀ x ∈ F.take k, x ∈ W
  fr : ∀ x ∈ W, x ∈ F
theorem Wa.zero (F : List Nat) : Wa F [] 0 := ⟨List.nodup_nil, by simp, by simp⟩
theorem Wa.step {F W : List Nat} {k : Nat} (h : Wa F W k) (hk : k < F.length) : Wa F (addW W F[k]) (k + 1) := by
  refine ⟨addW_nd _ h.nd, fun x hx => ?_, fun x hx => ?_⟩
  · rw [List.take_add_one, List.getElem?_eq_getElem hk] at hx
    rcases List.mem_append.1 hx with hx | hx
    · exact (addW_pre W _).subset (h.st x hx)
    · obtain rfl := List.mem_singleton.1 hx; exact addW_in _ _
  · rcases addW_mem hx with hx | rfl
    · exact h.fr x hx
    · exact List.getElem_mem hk
theorem Wa.wk {H : List Ob} {F W : List Nat} (h : Wa F W F.length) : Wk H F W 0 :=
  ⟨h.nd, fun x hx => h.st x (by rw [List.take_length]; exact hx), fun x hx => .start (h.fr x hx), fun j hj => absurd hj (Nat.not_lt_zero _), Nat.zero_le _⟩
/-- a round: the values of the object at place i are gone through, 'pre' of them done -/
structure Wr (H : List Ob) (F W0 : List Nat) (pre : List Vq) (W : List Nat) : Prop where
  nd : W.Nodup
  ahead : W0 <+: W
  rh : ∀ x ∈ W, RH H F x
  done : ∀ v ∈ pre, objQ v = true → v.r.toNat ∈ W
theorem Wr.zero {H : List Ob} {F W : List Nat} {i : Nat} (h : Wk H F W i) : Wr H F W [] W := ⟨h.nd, List.prefix_refl _, h.rh, by simp⟩
theorem Wr.skip {H : List Ob} {F W0 W : List Nat} {pre : List Vq} {v : Vq} (h : Wr H F W0 pre W) (hv : objQ v = false) : Wr H F W0 (pre ++ [v]) W :=
  ⟨h.nd, h.ahead, h.rh, fun x hx ho => by
    rcases List.mem_append.1 hx with hx | hx
    · exact h.done x hx ho
    · obtain rfl := List.mem_singleton.1 hx; rw [hv] at ho; cases ho⟩
theorem Wr.add {H : List Ob} {F W0 W : List Nat} {pre : List Vq} {v : Vq} (h : Wr H F W0 pre W) (hr : RH H F v.r.toNat) : Wr H F W0 (pre ++ [v]) (addW W v.r.toNat) :=
  ⟨addW_nd _ h.nd, h.ahead.trans (addW_pre _ _), fun x hx => by
    rcases addW_mem hx with hx | rfl
    · exact h.rh x hx
    · exact hr, fun x hx ho => by
    rcases List.mem_append.1 hx with hx | hx
    · exact (addW_pre W _).subset (h.done x hx ho)
    · obtain rfl := List.mem_singleton.1 hx; exact addW_in _ _⟩
theorem Wk.step {H : List Ob} {F W0 W : List Nat} {i x : Nat} {o : Ob} (h : Wk H F W0 i) (hx : W0[i]? = some x) (ho : H[x]? = some o) (r : Wr H F W0 (valsO o) W) : Wk H F W (i + 1) := by
  have hi : i < W0.length := (List.getElem?_eq_some_iff.1 hx).1
  obtain ⟨T, rfl⟩ := r.ahead
  refine ⟨r.nd, fun x hx => List.mem_append_left _ (h.st x hx), r.rh, fun j hj y hy u hu z hz => ?_, by rw [List.length_append]; omega⟩
  have hj0 : j < W0.length := by omega
  rw [List.getElem?_append_left hj0] at hy
  by_cases c : j < i
  · exact List.mem_append_left _ (h.cl j c y hy u hu z hz)
  · obtain rfl : j = i := by omega
    rw [hx] at hy
    obtain rfl := Option.some.inj hy
    rw [ho] at hu
    obtain rfl := Option.some.inj hu
    obtain ⟨v, hv, hv2⟩ := List.mem_filterMap.1 hz
    cases e : objQ v with
    | false => rw [e] at hv2; cases hv2
    | true =>
      rw [e] at hv2
      obtain rfl : v.r.toNat = z := Option.some.inj hv2
      exact r.done v hv e
/-- the answer: what one comes to, rising -/
noncomputable def reachL (H : List Ob) (F : List Nat) : List Nat := (List.range H.length).filter fun y => decide (RH H F y)
def upZ (L : List Nat) : List Int := L.map fun (n : Nat) => (n : Int)
end Go.Proofs.YtlfbflclefndjaaGreatDoor.S
/-
  heap.behind's own closure: a number more on the worklist.
-/
namespace Go.Proofs.YtlfbflclefndjaaGreatDoor.S
open Go.RowKit Go.Lib Fl
open Classical

def bks (m : Nat) (L : List Nat) : Array Value := ((List.range m).map fun i => Value.bool (decide (i ∈ L))).toArray
/-- a worklist's cells -/
def wkv (L : List Nat) : List Value := (upZ L).map (Value.int .i64)
/-- the worklist in its block -/
structure Wv (n0 X : Nat) (L : List Nat) (v : Value) (W : World) : Prop where
  b : W.heap[n0 + 1]? = some (.cells #[v] 86 (0, 0))
  own : W.ownsRow (n0 + 5) 3 1 v L.length (wkv L)
  apart : v.ownBlock ≠ some X
section
variable {ops : Array Oper} {rest : List Oper} {o : Oper} {a : Act} {w : World} {Q : Exit → Act → World → Prop} {x y : Operand} {t : TypeId}
end
end Go.Proofs.YtlfbflclefndjaaGreatDoor.S
/-
  heap.values$1: the iterator once more, its values told to be the object's own.
-/
namespace Go.Proofs.YtlfbflclefndjaaGreatDoor.S
open Go.RowKit Go.Lib Fl Go.Shelf
open Classical
attribute [local go_sem] Oper.semAt_some

abbrev Vof (o : Ob) := { v : Vq // v.In ∧ v ∈ valsO o }
def Vof.out {o : Ob} (v : Vof o) : Vq := v.1
def encJ {o : Ob} (v : Vof o) : Array Value := encV v.1
theorem vm_p (o : Ob) : o.proto ∈ valsO o := by unfold valsO; simp
theorem vm_t (o : Ob) : o.target ∈ valsO o := by unfold valsO; simp
theorem vm_h (o : Ob) : o.handler ∈ valsO o := by unfold valsO; simp
end Go.Proofs.YtlfbflclefndjaaGreatDoor.S
