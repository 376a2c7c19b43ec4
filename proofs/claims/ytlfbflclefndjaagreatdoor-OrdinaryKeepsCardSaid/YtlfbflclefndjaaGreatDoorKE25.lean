/-
  ordinary.Do's errors.
-/
import Derived.Test.YtlfbflclefndjaaGreatDoorKE24
import Derived.Test.YtlfbflclefndjaaGreatDoorKE15
import Derived.Test.YtlfbflclefndjaaGreatDoorKE22
import Derived.Test.YtlfbflclefndjaaGreatDoorKE23
namespace Go.Proofs.YtlfbflclefndjaaGreatDoor.S
open Go.RowKit Go.Lib Fl
open Classical

def ozero : Oq := ⟨0, v0, false, false, dz 0, none, 0, 0, 0, ⟨#[]⟩⟩
set_option maxHeartbeats 4000000 in
set_option maxRecDepth 1000000 in
theorem Do_bad1 (A : Option Addr) (n cap : Nat) (a : Ak) (w : World) (E : Int) (hE : E ≠ 0)
    (cC : ∀ W, Below w.heap.size w W → Calls Tryz.prog 6 #[.agg #[.slice A n cap]] W fun e w' => e = .returned (.int .i64 E) ∧ Below W.heap.size W w') :
    Calls Tryz.prog 8 #[.agg #[.slice A n cap], .agg (akA a)] w fun e w' => e = .returned (.tuple #[.agg #[.slice none 0 0], .agg (oqA ozero), .int .i64 E]) ∧ Below w.heap.size w w' := by
  have HS := Lib.hid (dx_start w A n cap a)
  have hi1 : ∀ v : Value, (Tryz.prog.info? 24).map (·.size) = some (#[v] : Array Value).size := fun v => hsz
  have hc1 : ∀ v : Value, v.oneCell' = true → (#[v] : Array Value).all (·.oneCell') = true := fun v h => cells_one (l := [v]) (by simpa using h)
  have hzb : (E != 0) = true := by unfold bne; rw [beq_eq_false_iff_ne.2 hE]; rfl
  have HZ := Lib.hid hE
  clear hE
  go_enter Tryz.func8, Tryz.ntmps8
  go_wp2_with (first
    | (go_at_call 6; (with_reducible refine (cC _ HS.out.below).mono ?_); rintro e w1 ⟨rfl, h9⟩; have HS := Lib.hid (HS.out.up h9); clear h9)
    | ((with_reducible refine ak_ld ?_ rfl rfl HS.out.a ?_); (rfl))
    | ((with_reducible refine h1_ld ?_ rfl rfl HS.out.h ?_); (rfl))
    | ((with_reducible refine t_store (cs := #[.slice none 0 0]) rfl rfl rfl rfl HS.out.f (hi1 _) ?_ (hc1 _ rfl) HS.out.below (by omega) ?_); (rfl); intro W4 hb4 hW4 hO4 hz4; have ho4 := (hO4 (w.heap.size + 3) (by omega)).trans HS.out.o)
    | (refine oq_store (q := ozero) rfl rfl rfl rfl ho4 rfl hb4 (by omega) ?_; intro W5 hb5 hW5 hO5 hz5; have hf5 := (hO5 (w.heap.size + 2) (by omega)).trans hW4))
  exact do_end Tryz.results8 rfl rfl rfl hf5 hW5 ⟨rfl, hb5⟩
set_option maxHeartbeats 4000000 in
set_option maxRecDepth 1000000 in
theorem Do_bad2 (A : Option Addr) (n cap : Nat) (a : Ak) (w : World) (E : Int) (hE : E ≠ 0)
    (cC : ∀ W, Below w.heap.size w W → Calls Tryz.prog 6 #[.agg #[.slice A n cap]] W fun e w' => e = .returned (.int .i64 0) ∧ Below W.heap.size W w')
    (cY : ∀ W, Below w.heap.size w W → Calls Tryz.prog 23 #[.agg #[.slice A n cap], .agg (akA a)] W fun e w' => e = .returned (.int .i64 E) ∧ Below W.heap.size W w') :
    Calls Tryz.prog 8 #[.agg #[.slice A n cap], .agg (akA a)] w fun e w' => e = .returned (.tuple #[.agg #[.slice none 0 0], .agg (oqA ozero), .int .i64 E]) ∧ Below w.heap.size w w' := by
  have HS := Lib.hid (dx_start w A n cap a)
  have hi1 : ∀ v : Value, (Tryz.prog.info? 24).map (·.size) = some (#[v] : Array Value).size := fun v => hsz
  have hc1 : ∀ v : Value, v.oneCell' = true → (#[v] : Array Value).all (·.oneCell') = true := fun v h => cells_one (l := [v]) (by simpa using h)
  have hzb : (E != 0) = true := by unfold bne; rw [beq_eq_false_iff_ne.2 hE]; rfl
  have HZ := Lib.hid hE
  clear hE
  go_enter Tryz.func8, Tryz.ntmps8
  go_wp2_with (first
    | (go_at_call 6; (with_reducible refine (cC _ HS.out.below).mono ?_); rintro e w1 ⟨rfl, h9⟩; have HS := Lib.hid (HS.out.up h9); clear h9)
    | (go_at_call 23; (with_reducible refine (cY _ HS.out.below).mono ?_); rintro e w2 ⟨rfl, h9⟩; have HS := Lib.hid (HS.out.up h9); clear h9)
    | ((with_reducible refine ak_ld ?_ rfl rfl HS.out.a ?_); (rfl))
    | ((with_reducible refine h1_ld ?_ rfl rfl HS.out.h ?_); (rfl))
    | ((with_reducible refine t_store (cs := #[.slice none 0 0]) rfl rfl rfl rfl HS.out.f (hi1 _) ?_ (hc1 _ rfl) HS.out.below (by omega) ?_); (rfl); intro W4 hb4 hW4 hO4 hz4; have ho4 := (hO4 (w.heap.size + 3) (by omega)).trans HS.out.o)
    | (refine oq_store (q := ozero) rfl rfl rfl rfl ho4 rfl hb4 (by omega) ?_; intro W5 hb5 hW5 hO5 hz5; have hf5 := (hO5 (w.heap.size + 2) (by omega)).trans hW4))
  exact do_end Tryz.results8 rfl rfl rfl hf5 hW5 ⟨rfl, hb5⟩
end Go.Proofs.YtlfbflclefndjaaGreatDoor.S
/-
  ordinary: setPrototypeOf.
-/
namespace Go.Proofs.YtlfbflclefndjaaGreatDoor.S
open Go.RowKit Go.Lib Fl
open Classical

/-- two values by == -/
def eqV (u v : Vq) : Bool := (u.k == v.k) && (feq u.x v.x && ((u.s.toList == v.s.toList) && (u.r == v.r)))
theorem eq_val2 (d : Nat) (u v : Vq) (w : World) : (Op.equalIn (d + 2) 34 (.agg #[.int .u8 u.k, .float .f64 u.x, .string u.s, .int .i64 u.r]) (.agg #[.int .u8 v.k, .float .f64 v.x, .string v.s, .int .i64 v.r])).run Tryz.prog w = .ok (eqV u v) w := by
  have hv := veq_float d u.x v.x w
  unfold eqV
  by_cases h1 : u.k = v.k <;> cases h2 : feq u.x v.x <;> by_cases h3 : u.s.toList = v.s.toList <;> by_cases h4 : u.r = v.r <;> (rw [h2] at hv; simp [go_sem, run_equalIn_struct, Tryz.underlying34, hv, h1, h3, h4])
section
variable {ops : Array Oper} {rest : List Oper} {o : Oper} {a : Act} {w : World} {Q : Exit → Act → World → Prop} {x y : Operand}
theorem ex_eqv {u v : Vq} (ho : o.op = .binOp .eql 34 x y 34) (hx : a.eval x = .agg #[.int .u8 u.k, .float .f64 u.x, .string u.s, .int .i64 u.r]) (hy : a.eval y = .agg #[.int .u8 v.k, .float .f64 v.x, .string v.s, .int .i64 v.r]) :
    (execOp a.eval o).run Tryz.prog w = .ok (.value (.bool (eqV u v))) w := by
  have he : (Op.equalIn (9998 + 2) 34 (.agg #[.int .u8 u.k, .float .f64 u.x, .string u.s, .int .i64 u.r]) (.agg #[.int .u8 v.k, .float .f64 v.x, .string v.s, .int .i64 v.r])).run Tryz.prog w = .ok (eqV u v) w := eq_val2 9998 u v w
  unfold execOp
  simp only [ho, hx, hy, Sem.run_bind, Sem.run_pure, run_eqGuard_agg w _ _ _ _ _ _ (show Tryz.prog.eqGuardType Tryz.prog.depth 34 = false by kernel_rfl), run_eql_struct, he, Result.andThen_ok]
end
theorem va_ask {W : World} {g B m : Nat} {p : Addr} {a : Ak} (h : W.heap[g]? = some (.cells (asA B m p a) 75 (0, 0))) : VAt W ⟨g, 22, none⟩ a.v := ⟨lt_blk h, (vcells h 22).trans rfl, (vcells h 23).trans rfl, (vcells h 24).trans rfl, (vcells h 25).trans rfl⟩
theorem va_run {W : World} {A : Addr} {v : Vq} (hv : VAt W A v) : (Instr.loadAt 34 (.pointer (some A))).run Tryz.prog W = .ok (.agg #[.int .u8 v.k, .float .f64 v.x, .string v.s, .int .i64 v.r]) W :=
  run_loadAt_at (A := A) (cs := [.int .u8 v.k, .float .f64 v.x, .string v.s, .int .i64 v.r]) (fun j u hu => by
    match j, hu with
    | 0, hu => cases hu; exact hv.k
    | 1, hu => cases hu; exact hv.x
    | 2, hu => cases hu; exact hv.s
    | 3, hu => cases hu; exact hv.r
    | n + 4, hu => cases hu) Tryz.underlying34 rfl vsz4
theorem ea_v {o : Oper} {a : Act} {w : World} (ho : o.op = .alloc 34) : (execOp a.eval o).run Tryz.prog w = .ok (.value (.pointer (some ⟨w.heap.size, 0, none⟩))) (w.alloc (.cells #[.int .u8 0, .float .f64 0, .string ⟨#[]⟩, .int .i64 0] 34)) := by
  unfold execOp
  simp only [ho]
  kernel_rfl
theorem Mw.row {w : World} {B m : Nat} {p : Addr} {a : Ak} {W : World} (h : Mw w B m p a W) {g : Nat} (hg : w.heap.size + 2 ≤ g) (cs : Array Value) : Mw w B m p a (W.setRow g cs) := ⟨below_row h.below (by omega) cs, vset_o h.a (by omega) cs, vset_o h.r (by omega) cs⟩
theorem chg_same {w W : World} {B : Nat} {M : List Ob} (hb : Below w.heap.size w W) (h : w.heap[B]? = some (.cells (hcl M).toArray 37 (0, 0))) : Chg w B M W := ⟨⟨hb.os, hb.tape, hb.output, hb.size, fun k hk _ => hb.block k hk⟩, (hb.block B (lt_blk h)).trans h⟩
section
variable {ops : Array Oper} {rest : List Oper} {o : Oper} {a : Act} {w : World} {Q : Exit → Act → World → Prop} {x y : Operand}
theorem hp_ld {A : Addr} {v : Value} (hw : Region.wanted o (yielded ops a.tmps) = true) (ho : o.op = .load 24 x) (hx : a.eval x = .pointer (some A)) (hc : w.cell? A = some v)
    (h : wpList Tryz.prog ops Q rest (a.put o.dst (.agg #[v])) w) : wpList Tryz.prog ops Q (o :: rest) a w :=
  wpList_wanted hw fun _ hK => wp_load_at (cs := [v]) ho hx (fun j u hu => by
    match j, hu with
    | 0, hu => cases hu; exact hc
    | n + 1, hu => cases hu) Tryz.underlying24 rfl hsz (hK _ _ h)
end
/-- with a block g of its own for the prototype that is asked for -/
structure Mg (w : World) (B m k g : Nat) (a : Ak) (o : Ob) (W : World) : Prop where
  mw : Mw w B m ⟨B, k * 18, none⟩ a W
  v : W.heap[g]? = some (.cells #[.int .u8 a.v.k, .float .f64 a.v.x, .string a.v.s, .int .i64 a.v.r] 34 (0, 0))
  of : OF W ⟨B, k * 18, none⟩ o
theorem Mg.up {w : World} {B m k g : Nat} {a : Ak} {o : Ob} {W W' : World} (h : Mg w B m k g a o W) (hb : Below W.heap.size W W') : Mg w B m k g a o W' := ⟨h.mw.up hb, vblkn hb h.v, h.of.up hb⟩
theorem Mg.va {w : World} {B m k g : Nat} {a : Ak} {o : Ob} {W : World} (h : Mg w B m k g a o W) : VAt W ⟨g, 0, none⟩ a.v := ⟨lt_blk h.v, (vcells h.v 0).trans rfl, (vcells h.v 1).trans rfl, (vcells h.v 2).trans rfl, (vcells h.v 3).trans rfl⟩
theorem Mw.size2 {w : World} {B m : Nat} {p : Addr} {a : Ak} {W : World} (h : Mw w B m p a W) : w.heap.size + 2 ≤ W.heap.size := lt_blk h.r
theorem OF.other {W W' : World} {A : Addr} {o : Ob} {g : Nat} (h : OF W A o) (hO : ∀ j, j ≠ g → W'.heap[j]? = W.heap[j]?) (hg : A.block < g) : OF W' A o :=
  have e := hO A.block (by omega)
  have hc : ∀ n, W'.cell? ⟨A.block, n, none⟩ = W.cell? ⟨A.block, n, none⟩ := fun n => World.cell?_of_block e
  have hl : A.block < W'.heap.size := lt_blk (e.trans (Array.getElem?_eq_getElem h.lt))
  have va : ∀ n v, VAt W ⟨A.block, n, none⟩ v → VAt W' ⟨A.block, n, none⟩ v := fun n v hv => ⟨hl, (hc _).trans hv.k, (hc _).trans hv.x, (hc _).trans hv.s, (hc _).trans hv.r⟩
  ⟨hl, (World.cell?_of_block e).trans h.kind, va _ _ h.proto, (hc _).trans h.ext, (hc _).trans h.props, va _ _ h.target, va _ _ h.handler, (hc _).trans h.text, (hc _).trans h.calls, (hc _).trans h.makes⟩
/-- what comes of setPrototypeOf -/
def SetTo (B k : Nat) (a : Ak) (o : Ob) (M : List Ob) (R : Bool) (w : World) (e : Ending) (w' : World) : Prop := e = .returned (.agg (oqA (yesO (eqV a.v o.proto || (o.ext && !R))))) ∧ Chg w B (if (!eqV a.v o.proto && (o.ext && !R)) = true then M.set k (o.under a.v) else M) w'
section
variable {B k : Nat} {a : Ak} {o : Ob} {M : List Ob} {R : Bool} {w w' : World}
theorem setTo_1 (h : eqV a.v o.proto = true) (hc : Chg w B M w') : SetTo B k a o M R w (.returned (.agg (oqA (yesO true)))) w' := by
  unfold SetTo
  rw [h]
  exact ⟨rfl, by rw [if_neg (by simp)]; exact hc⟩
theorem setTo_2 (h : eqV a.v o.proto = false) (hx : o.ext = false) (hc : Chg w B M w') : SetTo B k a o M R w (.returned (.agg (oqA (yesO false)))) w' := by
  unfold SetTo
  rw [h, hx]
  exact ⟨rfl, by rw [if_neg (by simp)]; exact hc⟩
theorem setTo_3 (h : eqV a.v o.proto = false) (hx : o.ext = true) (hc : Chg w B M w') : SetTo B k a o M true w (.returned (.agg (oqA (yesO false)))) w' := by
  unfold SetTo
  rw [h, hx]
  exact ⟨rfl, by rw [if_neg (by simp)]; exact hc⟩
theorem setTo_4 (h : eqV a.v o.proto = false) (hx : o.ext = true) (hc : Chg w B (M.set k (o.under a.v)) w') : SetTo B k a o M false w (.returned (.agg (oqA (yesO true)))) w' := by
  unfold SetTo
  rw [h, hx]
  exact ⟨rfl, by rw [if_pos (by simp)]; exact hc⟩
end
set_option maxHeartbeats 4000000 in
set_option maxRecDepth 1000000 in
theorem setProto_o (B m k : Nat) (a : Ak) (o : Ob) (M : List Ob) (w : World) (R : Bool) (hB : w.heap[B]? = some (.cells (hcl M).toArray 37 (0, 0))) (hk : k < M.length) (ho : M[k] = o)
    (cB : ∀ W, Below w.heap.size w W → Calls Tryz.prog 71 #[.agg #[.slice (some ⟨B, 0, none⟩) m m], .int .i64 a.n, .agg #[.int .u8 a.v.k, .float .f64 a.v.x, .string a.v.s, .int .i64 a.v.r]] W fun e w' => e = .returned (.bool R) ∧ Below W.heap.size W w') :
    Calls Tryz.prog 46 #[.agg (asA B m ⟨B, k * 18, none⟩ a)] w (SetTo B k a o M R w) := by
  have HS := Lib.hid (mw_start w B m ⟨B, k * 18, none⟩ a)
  have hBl := lt_blk hB
  have hofw : OF w ⟨B, k * 18, none⟩ o := ho ▸ of_hcl hB hk
  have hiv : (Tryz.prog.info? 34).map (·.size) = some (#[.int .u8 a.v.k, .float .f64 a.v.x, .string a.v.s, .int .i64 a.v.r] : Array Value).size := vsz4
  have hcv : (#[.int .u8 a.v.k, .float .f64 a.v.x, .string a.v.s, .int .i64 a.v.r] : Array Value).all (·.oneCell') = true := vq_one a.v.k a.v.x a.v.s a.v.r
  go_enter Tryz.func46, Tryz.ntmps46
  go_upto_region 1 with (fail)
  have hS : Mw w B m ⟨B, k * 18, none⟩ a (World.drew _) := HS.out.up (Below.refl _ _).drew
  refine wp_region_held_drew (S := Mw w B m ⟨B, k * 18, none⟩ a) (by kernel_rfl) hS (fun hHeld => ?_)
  obtain ⟨W0, hW0⟩ : ∃ W0, W0 = ((w.alloc (.cells (asA B m ⟨B, k * 18, none⟩ a) 75)).alloc (.cells oz26 44)).drew := ⟨_, rfl⟩
  rw [← hW0] at hS ⊢
  have hofB := hofw.up hS.below
  have hofW := hofB.lt
  clear hW0
  dsimp only at hofW
  refine hH_take (i := 0) (v := .pointer (some ⟨w.heap.size, 1, none⟩)) (d := 5) (l2 := #[true, false, false, false, false, false, false, false]) rfl (by kernel_rfl) (by kernel_rfl) (by kernel_rfl) (fun _ _ _ h => h) (by kernel_rfl) ?_ (by assumption) rfl (by kernel_rfl) ?_
  · intro w hSw; go_simp; (try with_reducible rfl)
  simp only [List.set]
  refine hH_take (i := 1) (v := .pointer (some ⟨B, k * 18, none⟩)) (d := 6) (l2 := #[true, true, false, false, false, false, false, false]) rfl (by kernel_rfl) (by kernel_rfl) (by kernel_rfl) (fun _ _ _ h => h) (by kernel_rfl) ?_ (by assumption) rfl (by kernel_rfl) ?_
  · intro w hSw; have q := hSw.p; go_simp; (try with_reducible rfl)
  simp only [List.set]
  refine hH_take (i := 2) (v := .pointer (some ⟨w.heap.size, 2, none⟩)) (d := 7) (l2 := #[true, true, true, false, false, false, false, false]) rfl (by kernel_rfl) (by kernel_rfl) (by kernel_rfl) (fun _ _ _ h => h) (by kernel_rfl) ?_ (by assumption) rfl (by kernel_rfl) ?_
  · intro w hSw; go_simp; (try with_reducible rfl)
  simp only [List.set]
  refine hH_take (i := 3) (v := .pointer (some ⟨w.heap.size, 22, none⟩)) (d := 8) (l2 := #[true, true, true, true, false, false, false, false]) rfl (by kernel_rfl) (by kernel_rfl) (by kernel_rfl) (fun _ _ _ h => h) (by kernel_rfl) ?_ (by assumption) rfl (by kernel_rfl) ?_
  · intro w hSw; go_simp; (try with_reducible rfl)
  simp only [List.set]
  refine hH_take (i := 4) (v := .agg #[.int .u8 a.v.k, .float .f64 a.v.x, .string a.v.s, .int .i64 a.v.r]) (d := 9) (l2 := #[true, true, true, true, true, false, false, false]) rfl (by kernel_rfl) (by kernel_rfl) (by kernel_rfl) (fun _ _ _ h => h) (by kernel_rfl) ?_ (by assumption) rfl (by kernel_rfl) ?_
  · intro w hSw; exact ex_load_at (va_run (va_ask hSw.a)) rfl rfl
  simp only [List.set]
  refine wpAnyH_ready (rs := [5]) (by kernel_rfl) (by simp) ?_
  refine AllReadyH.cons rfl (fun K hK => ?_) AllReadyH.nil
  refine r_val (by kernel_rfl) (ea_v rfl) rfl ?_
  simp only [List.set]
  have hg2 := hS.size2
  have hv := heap_alloc_new W0 (.cells #[.int .u8 0, .float .f64 0, .string ⟨#[]⟩, .int .i64 0] 34)
  have hS := hS.up (vzero W0 (.cells #[.int .u8 0, .float .f64 0, .string ⟨#[]⟩, .int .i64 0] 34))
  have hofB := hofB.up (vzero W0 (.cells #[.int .u8 0, .float .f64 0, .string ⟨#[]⟩, .int .i64 0] 34))
  have hBW : B < W0.heap.size := hofW
  generalize W0.alloc (.cells #[.int .u8 0, .float .f64 0, .string ⟨#[]⟩, .int .i64 0] 34) = W1 at *
  generalize W0.heap.size = g at *
  refine hK.out _ _ hS (fun hHeld => ?_)
  clear hK K
  refine hH_take (i := 6) (v := .pointer (some ⟨B, k * 18, none⟩)) (d := 3) (l2 := #[true, true, true, true, true, true, true, false]) rfl (by kernel_rfl) (by kernel_rfl) (by kernel_rfl) (fun _ _ _ h => h) (by kernel_rfl) ?_ (by assumption) rfl (by kernel_rfl) ?_
  · intro w hSw; go_simp; (try with_reducible rfl)
  simp only [List.set]
  refine wpAnyH_ready (rs := [7]) (by kernel_rfl) (by simp) ?_
  refine AllReadyH.cons rfl (fun K hK => ?_) AllReadyH.nil
  refine r_store (by kernel_rfl) rfl rfl rfl hv hiv rfl hcv rfl ?_
  have hG : Mg w B m k g a o (W1.setRow g #[.int .u8 a.v.k, .float .f64 a.v.x, .string a.v.s, .int .i64 a.v.r]) := ⟨hS.row hg2 _, setRow_heap _ _ _ _ _ _ hv, hofB.other (fun j hj => setRow_other W1 g j _ hj) hBW⟩
  generalize W1.setRow g #[.int .u8 a.v.k, .float .f64 a.v.x, .string a.v.s, .int .i64 a.v.r] = W2 at *
  refine hK.out _ _ hG.mw (fun hHeld => ?_)
  clear hK K
  refine wpAnyH_done (by kernel_rfl) ?_ _
  rename ∀ (a : Act) (w : World), Code.wp Tryz.prog _ _ a w → _ => HK9
  refine HK9 _ _ ?_
  clear HK9 hS
  go_upto_region 2 with (fail)
  have hS := hG.up (Below.refl _ _).drew
  refine wp_region_held_drew (S := Mg w B m k g a o) (by kernel_rfl) hS (fun hHeld => ?_)
  clear hG hv
  generalize World.drew W2 = W3 at *
  refine hH_take (i := 0) (v := .agg #[.int .u8 a.v.k, .float .f64 a.v.x, .string a.v.s, .int .i64 a.v.r]) (d := 11) (l2 := #[true, false, false, false, false, false, false]) rfl (by kernel_rfl) (by kernel_rfl) (by kernel_rfl) (fun _ _ _ h => h) (by kernel_rfl) ?_ (by assumption) rfl (by kernel_rfl) ?_
  · intro w hSw; exact ex_load_at (va_run hSw.va) rfl rfl
  simp only [List.set]
  refine hH_take (i := 1) (v := ?_) (d := 12) (l2 := #[true, true, false, false, false, false, false]) rfl (by kernel_rfl) (by kernel_rfl) (by kernel_rfl) (fun _ _ _ h => h) (by kernel_rfl) ?_ (by assumption) rfl (by kernel_rfl) ?_
  rotate_left
  · intro w hSw; (try dsimp only at hSw); go_simp; (try with_reducible rfl)
  simp only [List.set]
  refine hH_take (i := 2) (v := ?_) (d := 13) (l2 := #[true, true, true, false, false, false, false]) rfl (by kernel_rfl) (by kernel_rfl) (by kernel_rfl) (fun _ _ _ h => h) (by kernel_rfl) ?_ (by assumption) rfl (by kernel_rfl) ?_
  rotate_left
  · intro w hSw; (try dsimp only at hSw); go_simp; (try with_reducible rfl)
  simp only [List.set]
  refine hH_take (i := 3) (v := ?_) (d := 14) (l2 := #[true, true, true, true, false, false, false]) rfl (by kernel_rfl) (by kernel_rfl) (by kernel_rfl) (fun _ _ _ h => h) (by kernel_rfl) ?_ (by assumption) rfl (by kernel_rfl) ?_
  rotate_left
  · intro w hSw; (try dsimp only at hSw); go_simp; (try with_reducible rfl)
  simp only [List.set]
  refine hH_take (i := 4) (v := .agg #[.int .u8 o.proto.k, .float .f64 o.proto.x, .string o.proto.s, .int .i64 o.proto.r]) (d := 15) (l2 := #[true, true, true, true, true, false, false]) rfl (by kernel_rfl) (by kernel_rfl) (by kernel_rfl) (fun _ _ _ h => h) (by kernel_rfl) ?_ (by assumption) rfl (by kernel_rfl) ?_
  · intro w hSw; exact ex_load_at (va_run hSw.of.proto) rfl rfl
  simp only [List.set]
  refine hH_take (i := 5) (v := .bool (eqV a.v o.proto)) (d := 16) (l2 := #[true, true, true, true, true, true, false]) rfl (by kernel_rfl) (by kernel_rfl) (by kernel_rfl) (fun _ _ _ h => h) (by kernel_rfl) ?_ (by assumption) rfl (by kernel_rfl) ?_
  · intro w hSw; exact ex_eqv rfl rfl rfl
  simp only [List.set]
  refine hH_take (i := 6) (v := ?_) (d := 10) (l2 := #[true, true, true, true, true, true, true]) rfl (by kernel_rfl) (by kernel_rfl) (by kernel_rfl) (fun _ _ _ h => h) (by kernel_rfl) ?_ (by assumption) rfl (by kernel_rfl) ?_
  rotate_left
  · intro w hSw; (try dsimp only at hSw); go_simp; (try with_reducible rfl)
  simp only [List.set]
  refine wpAnyH_done (by kernel_rfl) ?_ _
  have hb0 := (hS.mw.below.block B hBl).trans hB
  have hx := hS.of.ext
  dsimp only at hx
  have cA := fun b W => answer_o b W
  have HG := Lib.hid hS
  have hr := HG.out.mw.r
  have hbw := HG.out.mw.below
  have hg2 : w.heap.size + 2 ≤ g := hg2
  have hlen : k * 18 + 1 + 4 ≤ (hcl M).length := by rw [hcl_len]; omega
  have hpat := hcl_patch (j := 1) (l := [.int .u8 a.v.k, .float .f64 a.v.x, .string a.v.s, .int .i64 a.v.r]) (o := o.under a.v) hk (by simp) (by rw [ho]; rfl)
  clear hS hHeld
  have q0 : W3.cell? ⟨w.heap.size, 0, none⟩ = some (.slice (some ⟨B, 0, none⟩) m m) := (vcells HG.out.mw.a 0).trans rfl
  have q1 : W3.cell? ⟨w.heap.size, 3, none⟩ = some (.int .i64 a.n) := (vcells HG.out.mw.a 3).trans rfl
  have HB := Lib.hid hB
  have HP := Lib.hid hpat
  have HBL := Lib.hid hBl
  clear hpat hB hBl
  generalize hE : eqV a.v o.proto = E
  have HE := Lib.hid hE
  clear hE
  cases E with
  | true =>
    go_wp2_with (first
        | ((with_reducible refine va_load ?_ rfl rfl HG.out.va ?_); (rfl))
        | ((with_reducible refine hp_ld ?_ rfl rfl q0 ?_); (rfl))
        | (go_at_call 71; (with_reducible refine (cB _ hbw).mono ?_); rintro e w7 ⟨rfl, h9⟩; have HG := Lib.hid (HG.out.up h9); have hr := HG.out.mw.r; have hbw := HG.out.mw.below; clear h9)
        | (go_at_call 70; (with_reducible refine (cA _ _).mono ?_); rintro e w4 ⟨rfl, h9⟩; have hr := vblkn h9 hr; have hbw := vb hbw h9; clear h9)
        | (refine oq_store (q := yesO true) rfl rfl rfl rfl hr rfl hbw (Nat.le_add_right _ 1) ?_; intro W6 hb6 hW6 hO6 hz6))
    exact oq_end Tryz.results46 rfl hW6 (setTo_1 HE.out (chg_same hb6 HB.out))
  | false =>
    cases e : o.ext with
    | false =>
      rw [e] at hx
      have HX := Lib.hid e
      clear e
      go_wp2_with (first
          | ((with_reducible refine va_load ?_ rfl rfl HG.out.va ?_); (rfl))
          | ((with_reducible refine hp_ld ?_ rfl rfl q0 ?_); (rfl))
          | (go_at_call 71; (with_reducible refine (cB _ hbw).mono ?_); rintro e w7 ⟨rfl, h9⟩; have HG := Lib.hid (HG.out.up h9); have hr := HG.out.mw.r; have hbw := HG.out.mw.below; clear h9)
          | (go_at_call 70; (with_reducible refine (cA _ _).mono ?_); rintro e w4 ⟨rfl, h9⟩; have hr := vblkn h9 hr; have hbw := vb hbw h9; clear h9)
          | (refine oq_store (q := yesO false) rfl rfl rfl rfl hr rfl hbw (Nat.le_add_right _ 1) ?_; intro W6 hb6 hW6 hO6 hz6))
      exact oq_end Tryz.results46 rfl hW6 (setTo_2 HE.out HX.out (chg_same hb6 HB.out))
    | true =>
      rw [e] at hx
      have HX := Lib.hid e
      clear e
      cases R with
      | true =>
        go_wp2_with (first
            | ((with_reducible refine va_load ?_ rfl rfl HG.out.va ?_); (rfl))
            | ((with_reducible refine hp_ld ?_ rfl rfl q0 ?_); (rfl))
            | (go_at_call 71; (with_reducible refine (cB _ hbw).mono ?_); rintro e w7 ⟨rfl, h9⟩; have HG := Lib.hid (HG.out.up h9); have hr := HG.out.mw.r; have hbw := HG.out.mw.below; clear h9)
            | (go_at_call 70; (with_reducible refine (cA _ _).mono ?_); rintro e w4 ⟨rfl, h9⟩; have hr := vblkn h9 hr; have hbw := vb hbw h9; clear h9)
            | (refine oq_store (q := yesO false) rfl rfl rfl rfl hr rfl hbw (Nat.le_add_right _ 1) ?_; intro W6 hb6 hW6 hO6 hz6))
        exact oq_end Tryz.results46 rfl hW6 (setTo_3 HE.out HX.out (chg_same hb6 HB.out))
      | false =>
        go_wp2_with (first
            | ((with_reducible refine va_load ?_ rfl rfl HG.out.va ?_); (rfl))
            | ((with_reducible refine hp_ld ?_ rfl rfl q0 ?_); (rfl))
            | (go_at_call 71; (with_reducible refine (cB _ hbw).mono ?_); rintro e w7 ⟨rfl, h9⟩; have HG := Lib.hid (HG.out.up h9); have hr := HG.out.mw.r; have hbw := HG.out.mw.below; clear h9)
            | ((with_reducible refine vl_store rfl rfl rfl rfl ((HG.out.mw.below.block B HBL.out).trans HB.out) hlen ?_); intro W8 hW8 hG8 hz8; have hr := (hG8.block (w.heap.size + 1) (lt_blk hr) (fun e => by have := Option.some.inj e; have := HBL.out; omega)).trans hr; have HW8 := Lib.hid hW8; have HG8 := Lib.hid hG8; have HZ8 := Lib.hid hz8; clear hW8 hG8 hz8)
            | (go_at_call 70; (with_reducible refine (cA _ _).mono ?_); rintro e w4 ⟨rfl, h9⟩; have hr := vblkn h9 hr; have H9 := Lib.hid h9; clear h9)
            | (refine t_store (cs := oqA (yesO true)) rfl rfl rfl rfl hr (oq_info _) rfl (oqA_one _) (Below.refl (w.heap.size + 1) w4) (Nat.le_refl _) ?_; intro W6 hb6 hW6 hO6 hz6))
        refine oq_end Tryz.results46 rfl hW6 (setTo_4 HE.out HX.out ⟨?_, ?_⟩)
        · have g1 := HG8.out
          have b2 := H9.out
          have hz1 := HZ8.out
          have hs1 := hbw.size
          have hs2 := b2.size
          have hs3 := hb6.size
          have hs4 := HG.out.mw.size2
          refine ⟨hb6.os.trans (b2.os.trans (g1.os.trans hbw.os)), hb6.tape.trans (b2.tape.trans (g1.tape.trans hbw.tape)), hb6.output.trans (b2.output.trans (g1.output.trans hbw.output)), by omega, fun j hj hn => ?_⟩
          exact (hO6 j (by omega)).trans ((b2.block j (by omega)).trans ((g1.block j (by omega) hn).trans (hbw.block j hj)))
        · rw [← HP.out]
          exact (hO6 B (by have := HBL.out; omega)).trans (vblkn H9.out HW8.out)
end Go.Proofs.YtlfbflclefndjaaGreatDoor.S
/-
  The law's own (12): large.
-/
namespace Go.Proofs.YtlfbflclefndjaaGreatDoor.S
open Go.RowKit Go.Lib Fl
open Classical

def LgP (n : Nat) : Prop := (100 < n ∧ n < 1020) ∨ 1100 < n
noncomputable def lg12 (H : List Ob) : Bool := H.any fun o => decide (LgP o.props.length)
theorem lg12_at {H : List Ob} {i : Nat} (h : i < H.length) (e : LgP H[i].props.length) : lg12 H = true := List.any_eq_true.2 ⟨_, List.getElem_mem h, decide_eq_true e⟩
theorem lg12_no {H : List Ob} (h : ∀ i (h : i < H.length), ¬ LgP H[i].props.length) : lg12 H = false := by
  unfold lg12
  rw [List.any_eq_false]
  intro o ho
  obtain ⟨i, hi, rfl⟩ := List.getElem_of_mem ho
  simpa using h i hi
set_option maxRecDepth 100000 in
theorem lg12_many (A : Option Addr) (n cap : Nat) (w : World) (h : (60 < n ∧ n ≤ 4096) ∨ 5000 < n) : Calls Tryz.prog 5 #[.agg #[.slice A n cap]] w fun e w' => e = .returned (.bool true) ∧ Below w.heap.size w w' := by
  have q0 : (w.alloc (.cells #[.slice A n cap] 24)).cell? ⟨w.heap.size, 0, none⟩ = some (.slice A n cap) := (vcells (heap_alloc_new w _) 0).trans rfl
  have h60 : (60 : Int) < (n : Int) := by omega
  by_cases c : (n : Int) ≤ 4096
  · go_enter Tryz.func5, Tryz.ntmps5
    go_wp2
    go_ret
    exact ⟨rfl, vzero _ _⟩
  · have h5 : (5000 : Int) < (n : Int) := by omega
    go_enter Tryz.func5, Tryz.ntmps5
    go_wp2
    go_ret
    exact ⟨rfl, vzero _ _⟩
set_option maxHeartbeats 4000000 in
set_option maxRecDepth 100000 in
theorem lg12_few (A : Option Addr) (H : List Ob) (cap : Nat) (w : World) (hH : HRow w A H) (h : ¬ ((60 < H.length ∧ H.length ≤ 4096) ∨ 5000 < H.length)) : Calls Tryz.prog 5 #[.agg #[.slice A H.length cap]] w fun e w' => e = .returned (.bool (lg12 H)) ∧ Below w.heap.size w w' := by
  have q0 : (w.alloc (.cells #[.slice A H.length cap] 24)).cell? ⟨w.heap.size, 0, none⟩ = some (.slice A H.length cap) := (vcells (heap_alloc_new w _) 0).trans rfl
  have HS := Lib.hid (Lg.mk (A := A) (n := H.length) (cap := cap) (vzero w _) (heap_alloc_new w _))
  have hcase : (H.length : Int) ≤ 60 ∨ (60 < (H.length : Int) ∧ 4096 < (H.length : Int) ∧ (H.length : Int) ≤ 5000) := by omega
  have HH := Lib.hid hH
  clear hH h
  rcases hcase with c1 | ⟨c1, c2, c3⟩
  all_goals
    go_enter Tryz.func5, Tryz.ntmps5
    go_wp2
    go_loopg [3] H.length (fun kx s3 wr => ∃ i : Nat, s3 = .int .i64 i ∧ i + kx = H.length ∧ Hid (Lg w A H.length cap wr ∧ ∀ j (hj : j < H.length), j < i → ¬ LgP H[j].props.length))
    case atStart => exact ⟨0, rfl, by omega, Lib.hid ⟨HS.out, fun j _ h => absurd h (Nat.not_lt_zero j)⟩⟩
    case round =>
      obtain ⟨i, rfl, hik, HR⟩ := hrel
      have q5 : wr.cell? ⟨w.heap.size, 0, none⟩ = some (.slice A H.length cap) := (vcells HR.out.1.h 0).trans rfl
      have HY := Lib.hid HR.out.1
      cases gk with
      | zero =>
        obtain rfl : i = H.length := by omega
        have hno := lg12_no fun j hj => HR.out.2 j hj hj
        go_wp2
        go_ret
        exact ⟨by rw [hno]; rfl, HY.out.below⟩
      | succ kx =>
        have hlt : i < H.length := by omega
        have hlz : (i : Int) < (H.length : Int) := by omega
        have hl0 : (0 : Int) ≤ (i : Int) := by omega
        obtain ⟨a, rfl, hab, hall⟩ := hrow_up HH.out HY.out.below (by omega)
        have hof := (hall i hlt).1
        clear hall
        have hc := hof.props
        have HL : Hid (∀ n, n = H[i].props.length → (LgP n → lg12 H = true) ∧ (¬ LgP n → ∀ j (hj : j < H.length), j < i + 1 → ¬ LgP H[j].props.length)) := Lib.hid fun n hn => ⟨fun e => lg12_at hlt (hn ▸ e), fun e j hj hji => by
          by_cases c : j < i
          · exact HR.out.2 j hj c
          · obtain rfl : j = i := by omega
            rw [← hn]; exact e⟩
        clear hof
        generalize hN : H[i].props.length = N at *
        have hcs : (N : Int) ≤ 100 ∨ ((100 : Int) < (N : Int) ∧ (N : Int) < 1020) ∨ ((100 : Int) < (N : Int) ∧ (1020 : Int) ≤ (N : Int) ∧ (N : Int) ≤ 1100) ∨ ((100 : Int) < (N : Int) ∧ (1020 : Int) ≤ (N : Int) ∧ (1100 : Int) < (N : Int)) := by omega
        rcases hcs with b1 | ⟨b1, b2⟩ | ⟨b1, b2, b3⟩ | ⟨b1, b2, b3⟩
        · have b4 : (N : Int) ≤ 1100 := by omega
          go_wp2
          go_roundg kx
          case measure => omega
          case rel => exact ⟨i + 1, by congr 1, by omega, Lib.hid ⟨HY.out, (HL.out N rfl).2 (by unfold LgP; omega)⟩⟩
        · go_wp2
          go_ret
          exact ⟨by rw [(HL.out N rfl).1 (by unfold LgP; omega)] <;> rfl, HY.out.below⟩
        · go_wp2
          go_roundg kx
          case measure => omega
          case rel => exact ⟨i + 1, by congr 1, by omega, Lib.hid ⟨HY.out, (HL.out N rfl).2 (by unfold LgP; omega)⟩⟩
        · go_wp2
          go_ret
          exact ⟨by rw [(HL.out N rfl).1 (by unfold LgP; omega)] <;> rfl, HY.out.below⟩
end Go.Proofs.YtlfbflclefndjaaGreatDoor.S
/-
  ordinary.Keys and ordinary.Own.
-/
namespace Go.Proofs.YtlfbflclefndjaaGreatDoor.S
open Go.RowKit Go.Lib Fl
open Classical

theorem tab_of {H : List Ob} {W : World} {g n : Nat} (hm : mayH H = true) (hn : n < H.length) (hi : ∀ o ∈ H, o.In) (h : W.heap[g]? = some (.cells (prCells H[n].props).toArray 68 (0, 0))) : TabIn W (some ⟨g, 0, none⟩) H[n].props H[n].props.length := by
  have hb := (mayH_iff.1 hm).2.1 n hn
  unfold mayB at hb
  simp only [Bool.and_eq_true, beq_iff_eq] at hb
  have hk := chkT_ok.1 hb.1
  exact ⟨hk, (hi _ (List.getElem_mem hn)).props, pr_blk h, Nat.le_refl _, by have := hk.len; omega, fun e => by cases e⟩
/-- Own's blocks -/
structure Nw3 (w : World) (A : Option Addr) (n cap : Nat) (k : Ky) (W : World) : Prop where
  below : Below w.heap.size w W
  h : W.heap[w.heap.size]? = some (.cells #[.slice A n cap] 24 (0, 0))
  k : W.heap[w.heap.size + 1]? = some (.cells #[.string k.str, .int .i64 k.sym] 26 (0, 0))
  r : W.heap[w.heap.size + 2]? = some (.cells dz16 41 (0, 0))
theorem Nw3.up {w : World} {A : Option Addr} {n cap : Nat} {k : Ky} {W W' : World} (h : Nw3 w A n cap k W) (hb : Below W.heap.size W W') : Nw3 w A n cap k W' := ⟨vb h.below hb, vblkn hb h.h, vblkn hb h.k, vblkn hb h.r⟩
end Go.Proofs.YtlfbflclefndjaaGreatDoor.S
/-
  table.Find and ordinary.Own with a key that may not be.
-/
namespace Go.Proofs.YtlfbflclefndjaaGreatDoor.S
open Go.RowKit Go.Lib Fl
open Classical

end Go.Proofs.YtlfbflclefndjaaGreatDoor.S
/-
  The law's own (12): does.
-/
namespace Go.Proofs.YtlfbflclefndjaaGreatDoor.S
open Go.RowKit Go.Lib Fl
open Classical

theorem hq_end {f : Func} {i j : Nat} {t u : TypeId} {Q : Ending → World → Prop} {tmps : Array Value} {W : World} {g h : Nat} {v : Value} {q : Oq} (hf : f.results = #[.cell i 24, .cell j 44])
    (h2 : tmps[i]?.getD undef = .pointer (some ⟨g, 0, none⟩)) (h3 : tmps[j]?.getD undef = .pointer (some ⟨h, 0, none⟩)) (hb : W.heap[g]? = some (.cells #[v] t (0, 0))) (hc : W.heap[h]? = some (.cells (oqA q) u (0, 0))) (hQ : Q (.returned (.tuple #[.agg #[v], .agg (oqA q)])) W) :
    bodyPost Tryz.prog f Q .ret { tmps := tmps, defers := [] } W := by
  have hl := run_loadVar_row (P := Tryz.prog) W g t 24 #[v] (0, 0) _ hb Tryz.underlying24 rfl hsz
  have hm := run_loadVar_row (P := Tryz.prog) W h u 44 (oqA q) (0, 0) _ hc Tryz.underlying44 rfl out_sz
  refine bodyPost_ret (v := .tuple #[.agg #[v], .agg (oqA q)]) ?_ rfl hQ
  simp [h2, h3, results, hf, hl, hm, asAddr]
section
variable {ops : Array Oper} {rest : List Oper} {o : Oper} {a : Act} {w : World} {Q : Exit → Act → World → Prop} {x y : Operand} {g : Nat} {t : TypeId}
theorem oq_load {W : World} {g : Nat} {q : Oq} (h : W.heap[g]? = some (.cells (oqA q) 44 (0, 0))) : (Instr.loadAt 44 (.pointer (some ⟨g, 0, none⟩))).run Tryz.prog W = .ok (.agg (oqA q)) W :=
  run_loadAt_at (A := ⟨g, 0, none⟩) (cs := oql q) (fun j u hu => by
    rw [Addr.add_mid, Nat.zero_add, vcells h j, oqA, List.getElem?_toArray]
    exact hu) Tryz.underlying44 rfl out_sz
end
set_option maxHeartbeats 4000000 in
set_option maxRecDepth 1000000 in
theorem does_any (A : Option Addr) (n cap : Nat) (a : Ak) (w : World) (P : Value → Oq → World → Prop)
    (cD : ∀ W, Below w.heap.size w W → Calls Tryz.prog 8 #[.agg #[.slice A n cap], .agg (akA a)] W fun e w' => ∃ v q, v.oneCell' = true ∧ e = .returned (.tuple #[.agg #[v], .agg (oqA q), .int .i64 0]) ∧ P v q w' ∧ Below W.heap.size W w')
    (hP : ∀ v q W W', P v q W → (∃ c, W.heap[w.heap.size + 2]? = some (.cells c 24 (0, 0))) → (∃ c, W.heap[w.heap.size + 3]? = some (.cells c 44 (0, 0))) → W.heap.size ≤ W'.heap.size → (∀ j, j < W.heap.size → j ≠ w.heap.size + 2 → j ≠ w.heap.size + 3 → W'.heap[j]? = W.heap[j]?) → P v q W') :
    Calls Tryz.prog 14 #[.agg #[.slice A n cap], .agg (akA a)] w fun e w' => ∃ v q, e = .returned (.tuple #[.agg #[v], .agg (oqA q)]) ∧ P v q w' ∧ Below w.heap.size w w' := by
  have HS := Lib.hid (dx_start w A n cap a)
  have hi1 : ∀ v : Value, (Tryz.prog.info? 24).map (·.size) = some (#[v] : Array Value).size := fun v => hsz
  have hc1 : ∀ v : Value, v.oneCell' = true → (#[v] : Array Value).all (·.oneCell') = true := fun v h => cells_one (l := [v]) (by simpa using h)
  go_enter Tryz.func14, Tryz.ntmps14
  go_wp2_with (first
    | ((with_reducible refine ak_ld ?_ rfl rfl HS.out.a ?_); (rfl))
    | ((with_reducible refine h1_ld ?_ rfl rfl HS.out.h ?_); (rfl))
    | (go_at_call 8; (with_reducible refine (cD _ HS.out.below).mono ?_); rintro e w1 ⟨v, q, hv1, rfl, hPv, h9⟩; have HS := Lib.hid (HS.out.up h9); have HPV := Lib.hid hPv; obtain ⟨g1, g2⟩ := vblk2 (w := w1) (Below.refl _ ((w1.alloc (.cells #[.slice none 0 0] 24)).alloc (.cells oz26 44))); have gB : Below w1.heap.size w1 ((w1.alloc (.cells #[.slice none 0 0] 24)).alloc (.cells oz26 44)) := vafter (vzero _ _); clear h9 hPv)
    | ((with_reducible refine t_store (cs := #[v]) rfl rfl rfl rfl g1 (hi1 _) ?_ (hc1 _ hv1) gB (Nat.le_refl _) ?_); (rfl); intro W4 hb4 hW4 hO4 hz4; have g3 := (hO4 (w1.heap.size + 1) (by omega)).trans g2)
    | (refine oq_store (q := q) rfl rfl rfl rfl g3 rfl hb4 (Nat.le_succ _) ?_; intro W5 hb5 hW5 hO5 hz5; have g4 := (hO5 w1.heap.size (by omega)).trans hW4; have HS5 := Lib.hid (HS.out.up hb5); have hr := HS5.out.f; have hB5 := HS5.out.below))
  have hs1 : w.heap.size + 4 ≤ w1.heap.size := lt_blk HS.out.o
  have g4 := vblkn (Below.refl _ _).drew g4
  have hW5 := vblkn (Below.refl _ _).drew hW5
  have hr := vblkn (Below.refl _ _).drew hr
  have ho5 := vblkn (Below.refl _ _).drew HS5.out.o
  have hB5 := hB5.drew
  have hb5 := hb5.drew
  refine wp_region_held_drew (S := fun W : World => W.heap[w1.heap.size]? = some (.cells #[v] 24 (0, 0)) ∧ W.heap[w1.heap.size + 1]? = some (.cells (oqA q) 44 (0, 0))) (by kernel_rfl) ⟨g4, hW5⟩ (fun hHeld => ?_)
  refine hH_take (i := 0) (v := .agg #[v]) (d := 20) (l2 := #[true, false, false, false]) rfl (by kernel_rfl) (by kernel_rfl) (by kernel_rfl) (fun _ _ _ h => h) (by kernel_rfl) ?_ (by assumption) rfl (by kernel_rfl) ?_
  · intro w hSw; exact ex_load_at (h1_load hSw.1) rfl rfl
  simp only [List.set]
  refine hH_take (i := 1) (v := .agg (oqA q)) (d := 21) (l2 := #[true, true, false, false]) rfl (by kernel_rfl) (by kernel_rfl) (by kernel_rfl) (fun _ _ _ h => h) (by kernel_rfl) ?_ (by assumption) rfl (by kernel_rfl) ?_
  · intro w hSw; exact ex_load_at (oq_load hSw.2) rfl rfl
  simp only [List.set]
  refine wpAnyH_ready (rs := [2]) (by kernel_rfl) (by simp) ?_
  refine AllReadyH.cons rfl (fun K hK => ?_) AllReadyH.nil
  refine r_store (by kernel_rfl) rfl rfl rfl hr (hi1 _) rfl (hc1 _ hv1) rfl ?_
  have hf6 := setRow_heap _ _ _ #[v] _ _ hr
  have hO6 := fun j (hj : j ≠ w.heap.size + 2) => setRow_other W5.drew (w.heap.size + 2) j #[v] hj
  have hb6 := below_row hB5 (Nat.le_add_right _ 2) #[v]
  have hz6 : (W5.drew.setRow (w.heap.size + 2) #[v]).heap.size = W5.drew.heap.size := by simp [World.setRow]
  generalize World.setRow W5.drew (w.heap.size + 2) #[v] = W6 at *
  have ho6 := (hO6 (w.heap.size + 3) (by omega)).trans ho5
  refine hK.out _ _ ⟨(hO6 _ (by omega)).trans g4, (hO6 _ (by omega)).trans hW5⟩ (fun hHeld => ?_)
  clear hK K
  refine wpAnyH_ready (rs := [3]) (by kernel_rfl) (by simp) ?_
  refine AllReadyH.cons rfl (fun K hK => ?_) AllReadyH.nil
  refine r_store (by kernel_rfl) rfl rfl rfl ho6 (oq_info q) rfl (oqA_one q) rfl ?_
  have hf7 := setRow_heap _ _ _ (oqA q) _ _ ho6
  have hO7 := fun j (hj : j ≠ w.heap.size + 3) => setRow_other W6 (w.heap.size + 3) j (oqA q) hj
  have hb7 := below_row hb6 (Nat.le_add_right _ 3) (oqA q)
  have hz7 : (W6.setRow (w.heap.size + 3) (oqA q)).heap.size = W6.heap.size := by simp [World.setRow]
  generalize World.setRow W6 (w.heap.size + 3) (oqA q) = W7 at *
  have hh7 := (hO7 (w.heap.size + 2) (by omega)).trans hf6
  refine hK.out _ _ ⟨(hO7 _ (by omega)).trans ((hO6 _ (by omega)).trans g4), (hO7 _ (by omega)).trans ((hO6 _ (by omega)).trans hW5)⟩ (fun hHeld => ?_)
  clear hK K
  refine wpAnyH_done (by kernel_rfl) ?_ _
  go_wp2_with (fail)
  exact hq_end Tryz.results14 rfl rfl hh7 hf7 ⟨v, q, rfl, hP v q w1 W7 HPV.out ⟨_, HS.out.f⟩ ⟨_, HS.out.o⟩ (by rw [hz7, hz6]; exact hb5.size) (fun j h1 h2 h3 => (hO7 j h3).trans ((hO6 j h2).trans (hb5.block j h1))), hb7⟩
end Go.Proofs.YtlfbflclefndjaaGreatDoor.S
/-
  The law's own (12): key, thing, seven.
-/
namespace Go.Proofs.YtlfbflclefndjaaGreatDoor.S
open Go.RowKit Go.Lib Fl
open Classical

theorem thing12 (n : Int) (w : World) : Calls Tryz.prog 29 #[.int .i64 n] w fun e w' => e = .returned (.agg #[.int .u8 6, .float .f64 0, .string ⟨#[]⟩, .int .i64 n]) ∧ Below w.heap.size w w' := by
  have hst := vstore
  go_enter Tryz.func29, Tryz.ntmps29
  go_wp2
  refine bodyPost_ret (v := .agg #[.int .u8 6, .float .f64 0, .string ⟨#[]⟩, .int .i64 n]) (by simp [results, Tryz.results29, go_sem]) rfl ⟨rfl, ?_⟩
  exact vzero _ _
theorem key12 (s : ByteArray) (w : World) : Calls Tryz.prog 16 #[.string s] w fun e w' => e = .returned (.agg #[.string s, .int .i64 0]) ∧ Below w.heap.size w w' := by
  go_enter Tryz.func16, Tryz.ntmps16
  go_wp2
  refine bodyPost_ret (v := .agg #[.string s, .int .i64 0]) (by simp [results, Tryz.results16, go_sem]) rfl ⟨rfl, ?_⟩
  exact vzero _ _
set_option maxRecDepth 100000 in
theorem seven12 (w : World) : Calls Tryz.prog 17 #[] w fun e w' => e = .returned (.agg (dN 4619567317775286272).cells) ∧ Below w.heap.size w w' := by
  have hb := heap_alloc_new w (.cells dz16 41)
  have hB := vzero w (.cells dz16 41)
  go_enter Tryz.func17, Tryz.ntmps17
  go_wp2_with (first
    | (go_at_call 31; (with_reducible refine (Num_v _ _).mono ?_); rintro e w1 ⟨rfl, h9⟩; have hb := vblkn h9 hb; have hB := vb hB h9; clear h9)
    | (go_at_call 30; (with_reducible refine (Data_t _ _ _ _ _).mono ?_); rintro e w2 ⟨rfl, h9⟩; have hb := vblkn h9 hb; have hB := vb hB h9; clear h9)
    | (refine t_store (cs := (dN 4619567317775286272).cells) rfl rfl rfl rfl hb (dc_size _) rfl (dc_one _) hB (Nat.le_refl _) ?_; intro W3 hb3 hW3 _ _))
  exact d_end Tryz.results17 rfl hW3 ⟨rfl, hb3⟩
set_option maxHeartbeats 1000000 in
set_option maxRecDepth 100000 in
theorem two12 (w : World) : Calls Tryz.prog 15 #[] w (TwoTo w) := by
  have cS := fun W => seven12 W
  have cK := fun W => key12 (⟨#[97]⟩ : ByteArray) W
  have cT := fun W => thing12 0 W
  have hsz1 : ∀ v : Value, (Tryz.prog.info? 24).map (·.size) = some (#[v] : Array Value).size := fun v => hsz
  have hb := heap_alloc_new w (.cells #[.slice none 0 0] 24)
  have hB := vzero w (.cells #[.slice none 0 0] 24)
  go_enter Tryz.func15, Tryz.ntmps15
  go_wp2_with (first
    | ((with_reducible refine w_run ?_ (eb_n rfl) ?_); (rfl))
    | (go_at_call 16; (with_reducible refine (cK _).mono ?_); rintro e w1 ⟨rfl, h9⟩; have hb := vblkn h9 hb; have hB := vb hB h9; clear h9)
    | (go_at_call 17; (with_reducible refine (cS _).mono ?_); rintro e w3 ⟨rfl, h9⟩; have hb := vblkn h9 hb; have hl0 := lt_blk hb; have hB := vb hB h9; clear h9)
    | (refine p_build (p := p7) rfl _ _ rfl rfl rfl ?_)
    | (refine p_slice (p := p7) rfl _ rfl rfl ?_)
    | (refine w_run ?_ (eb_a rfl rfl rfl) ?_; (rfl))
    | (go_at_call 29; (with_reducible refine (cT _).mono ?_); rintro e w4 ⟨rfl, h9⟩; have hP := vblkn h9 (heap_alloc_new w3 (.cells (prA p7) 68)); have hb := vblkn h9 (vblkn (vzero _ _) hb); have hB := vb hB (vafter h9); clear h9)
    | (refine w_run ?_ (eb_b rfl rfl) ?_; (rfl))
    | (refine w_run ?_ (eb_s rfl rfl rfl) ?_; (rfl))
    | (refine w_run ?_ (eb_h rfl rfl) ?_; (rfl))
    | (refine t_store (cs := #[.slice (some ⟨w4.heap.size, 0, none⟩) 2 2]) rfl rfl rfl rfl (vblkn (vzero w4 _) hb) (hsz1 _) rfl (cells_one (l := [.slice (some ⟨w4.heap.size, 0, none⟩) 2 2]) rfl) (vb hB (vzero _ _)) (Nat.le_refl _) ?_; intro W5 hb5 hW5 hO5 hz5))
  have hlt := lt_blk hb
  have hl3 := lt_blk hP
  exact h_end Tryz.results15 rfl hW5 ⟨_, _, rfl, (hO5 w4.heap.size (by omega)).trans (heap_alloc_new w4 _), (hO5 w3.heap.size (by omega)).trans (vblkn (vzero _ _) hP), hb5⟩
end Go.Proofs.YtlfbflclefndjaaGreatDoor.S
/-
  ordinary: delete, of what stays.
-/
namespace Go.Proofs.YtlfbflclefndjaaGreatDoor.S
open Go.RowKit Go.Lib Fl
open Classical

end Go.Proofs.YtlfbflclefndjaaGreatDoor.S
/-
  One object of a heap changed: the heap still may be: the mathematics.
-/
namespace Go.Proofs.YtlfbflclefndjaaGreatDoor.S
open Go.RowKit Go.Lib Fl
open Classical

theorem ref_set {H : List Ob} {k : Nat} {p : Ob} (v : Vq) (hk : k < H.length) (e : kindO p = kindO H[k]) : refB (H.set k p) v = refB H v := by
  unfold refB
  rw [List.getElem?_set]
  by_cases c : k = v.r.toNat
  · rw [if_pos c, if_pos hk, ← c, List.getElem?_eq_getElem hk]
    dsimp only
    rw [e]
  · rw [if_neg c]
theorem holds_set {H : List Ob} {k : Nat} {p : Ob} (hk : k < H.length) (e : kindO p = kindO H[k]) : holdsB (H.set k p) = holdsB H := funext fun v => by
  unfold holdsB
  rw [ref_set v hk e]
theorem prox_set {H : List Ob} {k : Nat} {p : Ob} (v : Vq) (hk : k < H.length) (e : p.kind = H[k].kind) : proxB (H.set k p) v = proxB H v := by
  unfold proxB
  rw [List.getElem?_set]
  by_cases c : k = v.r.toNat
  · rw [if_pos c, if_pos hk, ← c, List.getElem?_eq_getElem hk]
    dsimp only
    rw [e]
  · rw [if_neg c]
theorem may_set {H : List Ob} {k : Nat} {p : Ob} (o : Ob) (n : Nat) (hk : k < H.length) (e : kindO p = kindO H[k]) (f : p.kind = H[k].kind) : mayB (H.set k p) o n = mayB H o n := by
  unfold mayB
  rw [holds_set hk e]
  unfold fitsB revokesB
  rw [prox_set _ hk f]
theorem mayH_set {H : List Ob} {k : Nat} {p : Ob} (h : mayH H = true) (hk : k < H.length) (e : kindO p = kindO H[k]) (f : p.kind = H[k].kind) (hp : mayB H p k = true) (hl : loopsB (H.set k p) = false) : mayH (H.set k p) = true := by
  obtain ⟨a, b, _⟩ := mayH_iff.1 h
  refine mayH_iff.2 ⟨by simpa using a, fun i hi => ?_, hl⟩
  rw [may_set _ _ hk e f]
  have hi2 : i < H.length := by simpa using hi
  by_cases c : k = i
  · subst c
    rw [List.getElem_set_self]
    exact hp
  · rw [List.getElem_set_ne c]
    exact b i hi2
theorem next_set {H : List Ob} {k : Nat} {p : Ob} (q : Nat) (hq : k ≠ q) : nextO (H.set k p) q = nextO H q := by
  unfold nextO
  rw [List.getElem?_set, if_neg hq]
theorem next_at {H : List Ob} {k : Nat} {p : Ob} (hk : k < H.length) : nextO (H.set k p) k = bif objQ p.proto then some p.proto.r.toNat else none := by
  unfold nextO
  rw [List.getElem?_set, if_pos rfl, if_pos hk]
theorem next_same {H : List Ob} {k : Nat} {p : Ob} (hk : k < H.length) (e : p.proto = H[k].proto) (q : Nat) : nextO (H.set k p) q = nextO H q := by
  by_cases c : k = q
  · subst c
    rw [next_at hk, e]
    unfold nextO
    rw [List.getElem?_eq_getElem hk]
  · exact next_set q c
theorem ends_like {H M : List Ob} (h : ∀ q, nextO M q = nextO H q) {p : Nat} (hp : Ends H p) : Ends M p := by
  induction hp with
  | mk _ ih => exact .mk fun q hq => ih q (by rw [← h]; exact hq)
theorem loops_same {H : List Ob} {k : Nat} {p : Ob} (hk : k < H.length) (e : p.proto = H[k].proto) (h : loopsB H = false) : loopsB (H.set k p) = false :=
  (loops_ends _).2 fun q => ends_like (next_same hk e) (ends_all h q)
/-- a line that never comes to k ends as it did -/
theorem ends_far {H : List Ob} (hm : mayH H = true) {k : Nat} {p : Ob} {q : Nat} (h : Ends H q) : ∀ u : Vq, objQ u = true → u.r = q → ¬ Bhd H k u → Ends (H.set k p) q := by
  induction h with
  | @mk q _ ih =>
    intro u hu hr hn
    have hne : k ≠ q := fun e => hn (.here hu (by rw [hr, e]))
    refine .mk fun q2 h2 => ?_
    rw [next_set q hne] at h2
    have h2c := h2
    unfold nextO at h2
    cases e : H[q]? with
    | none => rw [e] at h2; cases h2
    | some o =>
      rw [e] at h2
      dsimp only at h2
      cases c : objQ o.proto with
      | false => rw [c] at h2; cases h2
      | true =>
        rw [c] at h2
        obtain ⟨hi, he⟩ := List.getElem?_eq_some_iff.1 e
        obtain ⟨m, hm1, _⟩ := vok_proto hm hi (by rw [he]; exact c)
        rw [he] at hm1
        have e2 : o.proto.r.toNat = q2 := Option.some.inj h2
        exact ih q2 h2c o.proto c (by rw [← e2, hm1, Int.toNat_natCast]) fun hb => hn (.next hu (by rw [hr, Int.toNat_natCast]; exact e) hb)
theorem loops_under {H : List Ob} (hm : mayH H = true) {k : Nat} {p : Ob} (hk : k < H.length) (hok : OkV H p.proto) (hn : ¬ Bhd H k p.proto) : loopsB (H.set k p) = false := by
  refine (loops_ends _).2 fun q => ?_
  have hl := (mayH_iff.1 hm).2.2
  have hat : Ends (H.set k p) k := .mk fun q2 h2 => by
    rw [next_at hk] at h2
    cases c : objQ p.proto with
    | false => rw [c] at h2; cases h2
    | true =>
      rw [c] at h2
      obtain ⟨m, hm1, _⟩ := hok c
      have e2 : p.proto.r.toNat = q2 := Option.some.inj h2
      exact ends_far hm (ends_all hl q2) p.proto c (by rw [← e2, hm1, Int.toNat_natCast]) hn
  have hE := ends_all hl q
  induction hE with
  | @mk q _ ih =>
    by_cases c : k = q
    · subst c; exact hat
    · exact .mk fun q2 h2 => ih q2 (by rw [← next_set q c]; exact h2)
/-- an object with all that its kind does not ask for changed -/
def Ob.as (o : Ob) (v : Vq) (x : Bool) (a : Option Addr) (c : Nat) (L : List Pq) : Ob := ⟨o.kind, v, x, a, c, L, o.target, o.handler, o.text, o.calls, o.makes⟩
theorem fits_as {H : List Ob} {o : Ob} {n : Nat} (hp : plainK o.kind = true) (v : Vq) (x : Bool) (a : Option Addr) (c : Nat) (L : List Pq) : fitsB H (o.as v x a c L) n = fitsB H o n := by
  obtain ⟨kd, pr, ex, pa, pc, ps, tg, hd, tx, ca, mk⟩ := o
  unfold plainK at hp
  simp only [Bool.or_eq_true, beq_iff_eq] at hp
  rcases hp with rfl | rfl | rfl <;> rfl
theorem may_as {H : List Ob} {o : Ob} {n : Nat} (h : mayB H o n = true) (hp : plainK o.kind = true) {v : Vq} (hv : (objQ v || v.k == 1) = true) (hh : holdsB H v = true) (x : Bool) (a : Option Addr) (c : Nat) {L : List Pq} (hL : chkT L = 0)
    (hv3 : ∀ p ∈ L, holdsB H p.d.a = true ∧ holdsB H p.d.b = true ∧ holdsB H p.d.c = true) : mayB H (o.as v x a c L) n = true := by
  unfold mayB at h ⊢
  simp only [Bool.and_eq_true] at h ⊢
  obtain ⟨_, _, h3, h4⟩ := h
  refine ⟨beq_iff_eq.2 hL, hv, ?_, (fits_as hp v x a c L).trans h4⟩
  rw [List.all_eq_true] at h3 ⊢
  intro u hu
  unfold valsO at hu
  rcases List.mem_append.1 hu with hu | hu
  · simp only [List.mem_cons, List.not_mem_nil, or_false] at hu
    rcases hu with rfl | rfl | rfl
    · exact hh
    · exact h3 _ (vm_t o)
    · exact h3 _ (vm_h o)
  · obtain ⟨p, hp1, hp2⟩ := List.mem_flatMap.1 hu
    obtain ⟨g1, g2, g3⟩ := hv3 p hp1
    simp only [List.mem_cons, List.not_mem_nil, or_false] at hp2
    rcases hp2 with rfl | rfl | rfl
    · exact g1
    · exact g2
    · exact g3
/-- what a heap that may be says of one of its objects -/
theorem may_parts {H : List Ob} {k : Nat} (h : mayH H = true) (hk : k < H.length) : mayB H H[k] k = true ∧ TabOk H[k].props ∧ (objQ H[k].proto || H[k].proto.k == 1) = true ∧ holdsB H H[k].proto = true ∧ ∀ p ∈ H[k].props, holdsB H p.d.a = true ∧ holdsB H p.d.b = true ∧ holdsB H p.d.c = true := by
  have hb := (mayH_iff.1 h).2.1 k hk
  have hb2 := hb
  unfold mayB at hb2
  simp only [Bool.and_eq_true] at hb2
  refine ⟨hb, chkT_ok.1 (beq_iff_eq.1 hb2.1), hb2.2.1, may_holds hb (vm_p _), fun p hp => ?_⟩
  have hm : ∀ v ∈ [p.d.a, p.d.b, p.d.c], v ∈ valsO H[k] := fun v hv => by
    unfold valsO
    exact List.mem_append_right _ (List.mem_flatMap.2 ⟨p, hp, hv⟩)
  exact ⟨may_holds hb (hm _ (by simp)), may_holds hb (hm _ (by simp)), may_holds hb (hm _ (by simp))⟩
theorem mayH_as {H : List Ob} {k : Nat} (h : mayH H = true) (hk : k < H.length) (hp : plainK H[k].kind = true) (x : Bool) (a : Option Addr) (c : Nat) {L : List Pq} (hL : TabOk L)
    (hv3 : ∀ p ∈ L, holdsB H p.d.a = true ∧ holdsB H p.d.b = true ∧ holdsB H p.d.c = true) : mayH (H.set k (H[k].as H[k].proto x a c L)) = true := by
  obtain ⟨h1, _, h3, h4, _⟩ := may_parts h hk
  exact mayH_set h hk rfl rfl (may_as h1 hp h3 h4 x a c (chkT_ok.2 hL) hv3) (loops_same hk rfl (mayH_iff.1 h).2.2)
theorem mayH_under {H : List Ob} {k : Nat} (h : mayH H = true) (hk : k < H.length) (hp : plainK H[k].kind = true) {v : Vq} (hv : leadsV H v = true) (hn : ¬ Bhd H k v) : mayH (H.set k (H[k].as v H[k].ext H[k].pa H[k].pc H[k].props)) = true := by
  obtain ⟨h1, h2, _, _, h5⟩ := may_parts h hk
  unfold leadsV at hv
  rw [Bool.and_eq_true, Bool.or_comm] at hv
  exact mayH_set h hk rfl rfl (may_as h1 hp hv.1 hv.2 _ _ _ (chkT_ok.2 h2) h5) (loops_under h hk (vok_holds hv.2) hn)
theorem bare_k {H M : List Ob} (h : M.map Ob.bare = H.map Ob.bare) {k : Nat} (hk : k < M.length) (hh : k < H.length) : M[k].bare = H[k].bare := by
  have := congrArg (fun l => l[k]?) h
  simp only [List.getElem?_map, List.getElem?_eq_getElem hk, List.getElem?_eq_getElem hh, Option.map_some] at this
  exact Option.some.inj this
theorem bhd_like {H M : List Ob} (h : M.map Ob.bare = H.map Ob.bare) {n : Int} {v : Vq} (hb : Bhd M n v) : Bhd H n v := by
  induction hb with
  | here a b => exact .here a b
  | @next v o a b _ ih =>
    obtain ⟨hi, he⟩ := List.getElem?_eq_some_iff.1 b
    have hl : M.length = H.length := by have := congrArg List.length h; simpa using this
    have hi2 : v.r.toNat < H.length := by omega
    have e := bare_k h hi hi2
    rw [he] at e
    have e3 := congrArg Ob.proto e
    have e4 : o.proto = H[v.r.toNat].proto := e3
    exact .next a (List.getElem?_eq_getElem hi2) (e4 ▸ ih)
theorem bhd_same {H M : List Ob} (h : M.map Ob.bare = H.map Ob.bare) (n : Int) (v : Vq) : Bhd M n v ↔ Bhd H n v := ⟨bhd_like h, bhd_like h.symm⟩
/-- a property put, or dropped -/
theorem v0_holds (H : List Ob) : holdsB H v0 = true := by
  unfold holdsB
  rw [show v0.may = true from mayI_iff.2 v0_ok]
  rfl
theorem mem_put {L : List Pq} {p x : Pq} (h : x ∈ putT L p) : x = p ∨ x ∈ L := by
  unfold putT at h
  rcases List.mem_append.1 h with h | h
  · exact .inr (List.mem_of_mem_take h)
  · rcases List.mem_cons.1 h with h | h
    · exact .inl h
    · exact .inr (List.mem_of_mem_drop h)
theorem mem_drop {L : List Pq} {k : Ky} {x : Pq} (h : x ∈ dropT L k) : x ∈ L := by
  unfold dropT at h
  rcases List.mem_append.1 h with h | h
  · exact List.mem_of_mem_take h
  · exact List.mem_of_mem_drop h
theorem lay_all {P : Vq → Prop} {u d : Dq} (hd : P d.a ∧ P d.b ∧ P d.c) (hu : P u.a ∧ P u.b ∧ P u.c) : P (layQ u d).a ∧ P (layQ u d).b ∧ P (layQ u d).c := by
  unfold layQ
  refine ⟨?_, ?_, ?_⟩
  · dsimp only; cases hasB d.h 1; exact hu.1; exact hd.1
  · dsimp only; cases hasB d.h 4; exact hu.2.1; exact hd.2.1
  · dsimp only; cases hasB d.h 8; exact hu.2.2; exact hd.2.2
theorem complete_all {P : Vq → Prop} (h0 : P v0) {d : Dq} (hd : P d.a ∧ P d.b ∧ P d.c) : P (completeQ d).a ∧ P (completeQ d).b ∧ P (completeQ d).c := by
  unfold completeQ
  cases hasB d.h 12
  · exact lay_all hd ⟨h0, h0, h0⟩
  · exact lay_all hd ⟨h0, h0, h0⟩
theorem apply_all {P : Vq → Prop} (h0 : P v0) {ext found : Bool} {d now : Dq} (hd : P d.a ∧ P d.b ∧ P d.c) (hn : P now.a ∧ P now.b ∧ P now.c) : P (applyQ ext d found now).a ∧ P (applyQ ext d found now).b ∧ P (applyQ ext d found now).c := by
  unfold applyQ
  cases (compatQ ext d found now).1
  · exact ⟨h0, h0, h0⟩
  · cases found
    · exact complete_all h0 hd
    · refine complete_all h0 ?_
      exact lay_all hd hn
end Go.Proofs.YtlfbflclefndjaaGreatDoor.S
