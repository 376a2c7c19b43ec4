/-
  OrdinaryRings: the walk.
-/
import Derived.Test.YtpeegmpfkongeaaGreatDoorRG31
namespace Go.Proofs.YtpeegmpfkongeaaGreatDoor.S
open Go.RowKit Go.Lib Fl
open Classical

theorem rb_ak2 (n : Int) (v : Vq) (w : World) : (Instr.build 60 #[(0, .int .u8 2), (1, .int .i64 n), (4, .agg (vA v))]).run Tryz.prog w = .ok (.agg (akA (akq 2 n kz (dz 0) v))) w := by kernel_rfl
theorem ea_ak2 {o : Oper} {a : Act} {w : World} {x y : Operand} {n : Int} {v : Vq} (ho : o.op = .build 60 #[(0, .const (.int .u8 2)), (1, y), (4, x)]) (hy : a.eval y = .int .i64 n) (hx : a.eval x = .agg (vA v)) : (execOp a.eval o).run Tryz.prog w = .ok (.value (.agg (akA (akq 2 n kz (dz 0) v)))) w := by
  unfold execOp
  have hc : ∀ v, a.eval (.const v) = v := fun _ => rfl
  simp only [ho, List.map_toArray, List.map_cons, List.map_nil, hc, hx, hy, rb_ak2, Sem.run_bind, Sem.run_pure, Result.andThen_ok]
section
variable {ops : Array Oper} {rest : List Oper} {o : Oper} {w : World} {Q : Exit → Act → World → Prop} {xs : List Value} {ds : List Deferred} {d : Nat} {v : Value}
theorem wl_take (hw : Region.wanted o (yielded ops (Act.mk xs.toArray ds).tmps) = true) (hr : (execOp (Act.mk xs.toArray ds).eval o).run Tryz.prog w = .ok (.value v) w) (hd : o.dst = some d) (h : wpList Tryz.prog ops Q rest ⟨(xs.set d v).toArray, ds⟩ w) : wpList Tryz.prog ops Q (o :: rest) ⟨xs.toArray, ds⟩ w :=
  w_run hw hr (by rw [hd, hput_some]; exact h)
theorem bl_run {W : World} {g n : Nat} {b : Bool} (h : W.cell? ⟨g, n, none⟩ = some (.bool b)) : (Instr.loadAt 4 (.pointer (some ⟨g, n, none⟩))).run Tryz.prog W = .ok (.bool b) W := by simp [go_sem, h]
theorem wl_skip (hw : Region.wanted o (yielded ops (Act.mk xs.toArray ds).tmps) = false) (hd : o.dst = some d) (h : wpList Tryz.prog ops Q rest ⟨(xs.set d undef).toArray, ds⟩ w) : wpList Tryz.prog ops Q (o :: rest) ⟨xs.toArray, ds⟩ w :=
  wpList_skip hw (by rw [hd, hput_some]; exact h)
/-- a row of operations to be walked, as a structure: nothing looks into it -/
structure WL (ops : Array Oper) (Q : Exit → Act → World → Prop) (l : List Oper) (a : Act) (w : World) : Prop where
  out : wpList Tryz.prog ops Q l a w
theorem WL.take (hw : Region.wanted o (yielded ops (Act.mk xs.toArray ds).tmps) = true) (hr : (execOp (Act.mk xs.toArray ds).eval o).run Tryz.prog w = .ok (.value v) w) (hd : o.dst = some d) (h : WL ops Q rest ⟨(xs.set d v).toArray, ds⟩ w) : WL ops Q (o :: rest) ⟨xs.toArray, ds⟩ w := ⟨wl_take hw hr hd h.out⟩
theorem WL.skip (hw : Region.wanted o (yielded ops (Act.mk xs.toArray ds).tmps) = false) (hd : o.dst = some d) (h : WL ops Q rest ⟨(xs.set d undef).toArray, ds⟩ w) : WL ops Q (o :: rest) ⟨xs.toArray, ds⟩ w := ⟨wl_skip hw hd h.out⟩
theorem WL.call (hw : Region.wanted o (yielded ops (Act.mk xs.toArray ds).tmps) = true) (h : ∀ K : Act → World → Prop, (∀ a w, WL ops Q rest a w → K a w) → o.wp Tryz.prog ⟨xs.toArray, ds⟩ w K Q) : WL ops Q (o :: rest) ⟨xs.toArray, ds⟩ w := ⟨wpList_wanted hw fun K hK => h K fun a w g => hK a w g.out⟩
theorem WL.none {a : Act} (h : Q .normal a w) : WL ops Q [] a w := ⟨wpList_nil h⟩
end
/-- the law's own blocks -/
structure Rb (w : World) (A : Option Addr) (n cap : Nat) (v : Vq) (W : World) : Prop where
  below : Below w.heap.size w W
  h : W.heap[w.heap.size]? = some (.cells #[.slice A n cap] 24 (0, 0))
  v : W.heap[w.heap.size + 1]? = some (.cells (vA v) 31 (0, 0))
theorem Rb.up {w : World} {A : Option Addr} {n cap : Nat} {v : Vq} {W W' : World} (h : Rb w A n cap v W) (hb : Below W.heap.size W W') : Rb w A n cap v W' := ⟨vb h.below hb, vblkn hb h.h, vblkn hb h.v⟩
theorem rb_start (w : World) (A : Option Addr) (n cap : Nat) (v : Vq) : Rb w A n cap v ((w.alloc (.cells #[.slice A n cap] 24)).alloc (.cells (vA v) 31)) := by
  obtain ⟨b1, b2⟩ := vblk2 (w := w) (Below.refl _ ((w.alloc (.cells #[.slice A n cap] 24)).alloc (.cells (vA v) 31)))
  exact ⟨vafter (vzero _ _), b1, b2⟩
theorem Rb.va {w : World} {A : Option Addr} {n cap : Nat} {v : Vq} {W : World} (h : Rb w A n cap v W) : VAt W ⟨w.heap.size + 1, 0, none⟩ v := ⟨lt_blk h.v, (vcells h.v 0).trans rfl, (vcells h.v 1).trans rfl, (vcells h.v 2).trans rfl, (vcells h.v 3).trans rfl⟩
theorem Rb.q {w : World} {A : Option Addr} {n cap : Nat} {v : Vq} {W : World} (h : Rb w A n cap v W) : W.cell? ⟨w.heap.size, 0, none⟩ = some (.slice A n cap) := (vcells h.h 0).trans rfl
/-- with what Do gave -/
structure Rx (w : World) (A : Option Addr) (n cap : Nat) (v : Vq) (gx go B : Nat) (b : Bool) (H M2 : List Ob) (W : World) : Prop where
  rb : Rb w A n cap v W
  x : W.heap[gx]? = some (.cells #[.slice (some ⟨B, 0, none⟩) n n] 24 (0, 0))
  o : W.heap[go]? = some (.cells (oqA (yesO b)) 52 (0, 0))
  l : LeftH H B M2 W
theorem Rx.up {w : World} {A : Option Addr} {n cap : Nat} {v : Vq} {gx go B : Nat} {b : Bool} {H M2 : List Ob} {W W' : World} (h : Rx w A n cap v gx go B b H M2 W) (hb : Below W.heap.size W W') : Rx w A n cap v gx go B b H M2 W' := ⟨h.rb.up hb, vblkn hb h.x, vblkn hb h.o, h.l.up hb⟩
noncomputable def tailR (n : Nat) : Code := match Tryz.f8.body with | some c => rgtN n c | none => .skip
set_option maxHeartbeats 8000000 in
set_option maxRecDepth 1000000 in
theorem RT9 {w W : World} {ad : Addr} {d cap k gx go B : Nat} {v : Vq} {b : Bool} {H M2 : List Ob} {x0 x2 x4 x6 x10 x11 x12 x13 x14 x15 x16 x17 x18 x19 x20 x21 x22 x23 x24 x25 x26 x27 x28 x29 x30 x31 x32 x33 x34 x35 x36 x37 x38 x39 x40 x41 x42 x43 x44 x45 x46 x47 x48 x49 x50 x51 x52 x53 x54 x55 x56 x57 x58 x59 x60 x61 x62 x63 x64 x65 x66 x67 x68 x69 x70 x71 x72 x73 x74 x75 x76 x77 x78 x79 x80 x81 x82 x83 x84 x85 x86 x87 x88 x89 x90 x91 x92 x93 x94 x95 x96 x97 x98 x99 x100 x101 x102 x103 x104 x105 x106 x107 x108 x109 x110 x111 x112 x113 x114 x115 x116 x117 x118 x119 x120 x121 x122 x123 x124 x125 x126 x127 x128 x129 x130 : Value} (hX : Rx w (some ad) d cap v gx go B b H M2 W) (hkz : (k : Int) < (d : Int)) (hk0 : (0 : Int) ≤ (k : Int)) (hD : (b = false → M2.map Ob.bare = H.map Ob.bare) ∧ ∃ h : k < M2.length, b = true → M2[k].proto.k = v.k ∧ M2[k].proto.r = v.r) (cS : ∀ (W : World) (B : Nat) (M2 : List Ob), Below w.heap.size w W → LeftH H B M2 W → M2.map Ob.bare = H.map Ob.bare → Calls Tryz.prog 36 #[.agg #[.slice (some ⟨B, 0, none⟩) d d], .agg #[.slice (some ad) d cap]] W fun e w' => e = .returned (.bool true) ∧ Below W.heap.size W w') : Code.wp Tryz.prog (tailR 9) (bodyPost Tryz.prog Tryz.f8 (fun e w' => e = .returned (.bool true) ∧ Below w.heap.size w w')) ⟨#[x0, .int .i64 (k : Int), x2, .pointer (some ⟨w.heap.size, 0, none⟩), x4, .pointer (some ⟨w.heap.size + 1, 0, none⟩), x6, .bool true, .pointer (some ⟨gx, 0, none⟩), .pointer (some ⟨go, 0, none⟩), x10, x11, x12, x13, x14, x15, x16, x17, x18, x19, x20, x21, x22, x23, x24, x25, x26, x27, x28, x29, x30, x31, x32, x33, x34, x35, x36, x37, x38, x39, x40, x41, x42, x43, x44, x45, x46, x47, x48, x49, x50, x51, x52, x53, x54, x55, x56, x57, x58, x59, x60, x61, x62, x63, x64, x65, x66, x67, x68, x69, x70, x71, x72, x73, x74, x75, x76, x77, x78, x79, x80, x81, x82, x83, x84, x85, x86, x87, x88, x89, x90, x91, x92, x93, x94, x95, x96, x97, x98, x99, x100, x101, x102, x103, x104, x105, x106, x107, x108, x109, x110, x111, x112, x113, x114, x115, x116, x117, x118, x119, x120, x121, x122, x123, x124, x125, x126, x127, x128, x129, x130], []⟩ W := by
  have hiv : ∀ v : Vq, (Tryz.prog.info? 31).map (·.size) = some (vA v).size := fun _ => vsz4
  have hcv : ∀ v : Vq, (vA v).all (·.oneCell') = true := fun v => vq_one v.k v.x v.s v.r
  have hS := hX
  have hHeld := trivial
  have HD2 := Lib.hid hD
  clear hX hD
  unfold tailR
  dsimp only [Tryz.f8, rgtN]
  cases b with
  | true =>
    have HX := Lib.hid hS
    clear hS hHeld
    obtain ⟨hlike, hk2, hpr⟩ := HD2.out
    have hvp := (of_hcl HX.out.l.b hk2).proto
    have hkz2 : (k : Int) < (d : Int) := hkz
    generalize M2[k].proto = pr at *
    have qx : _ = some (Value.slice (some ⟨B, 0, none⟩) d d) := (vcells HX.out.x 0).trans rfl
    have qo : _ = some (Value.bool true) := (vcells HX.out.o 5).trans rfl
    have qv0 := HX.out.rb.va.k
    have qv3 := HX.out.rb.va.r
    dsimp only at qv0 qv3 hvp
    obtain ⟨e1, e2⟩ := hpr rfl
    have hk1 : (pr.k == v.k) = true := beq_iff_eq.2 e1
    have hk3 : (pr.r == v.r) = true := beq_iff_eq.2 e2
    have HE := Lib.hid (And.intro e1 e2)
    clear e1 e2 hpr hlike HD2
    go_wp2_with (first
      | ((with_reducible refine va_load ?_ rfl rfl hvp ?_); (rfl))
      | (refine t_store (cs := vA pr) rfl rfl rfl rfl (heap_alloc_new _ _) (hiv _) rfl (hcv _) (vzero _ _) (Nat.le_refl _) ?_; intro W9 hb9 hW9 hO9 hz9; have HX := Lib.hid (HX.out.up hb9); have qx : _ = some (Value.slice (some ⟨B, 0, none⟩) d d) := (vcells HX.out.x 0).trans rfl; have qo : _ = some (Value.bool true) := (vcells HX.out.o 5).trans rfl; have qv0 := HX.out.rb.va.k; have qv3 := HX.out.rb.va.r; have qp0 : _ = some (Value.int .u8 pr.k) := (vcells hW9 0).trans rfl; have qp3 : _ = some (Value.int .i64 pr.r) := (vcells hW9 3).trans rfl; dsimp only at qv0 qv3; clear hb9 hO9 hz9))
    go_ret
    exact ⟨rfl, HX.out.rb.below⟩
  | false =>
    have HX := Lib.hid hS
    clear hS hHeld
    obtain ⟨hlike, hk2, hpr⟩ := HD2.out
    have hvp := (of_hcl HX.out.l.b hk2).proto
    have hkz2 : (k : Int) < (d : Int) := hkz
    generalize M2[k].proto = pr at *
    have qx : _ = some (Value.slice (some ⟨B, 0, none⟩) d d) := (vcells HX.out.x 0).trans rfl
    have qo : _ = some (Value.bool false) := (vcells HX.out.o 5).trans rfl
    have qv0 := HX.out.rb.va.k
    have qv3 := HX.out.rb.va.r
    dsimp only at qv0 qv3 hvp
    have HL := Lib.hid (hlike rfl)
    clear hlike hpr HD2
    go_upto_region 14 with (first
      | ((with_reducible refine va_load ?_ rfl rfl hvp ?_); (rfl))
      | (refine t_store (cs := vA pr) rfl rfl rfl rfl (heap_alloc_new _ _) (hiv _) rfl (hcv _) (vzero _ _) (Nat.le_refl _) ?_; intro W9 hb9 hW9 hO9 hz9; have HX := Lib.hid (HX.out.up hb9); have qx : _ = some (Value.slice (some ⟨B, 0, none⟩) d d) := (vcells HX.out.x 0).trans rfl; have qo : _ = some (Value.bool false) := (vcells HX.out.o 5).trans rfl; have qv0 := HX.out.rb.va.k; have qv3 := HX.out.rb.va.r; have qp0 : _ = some (Value.int .u8 pr.k) := (vcells hW9 0).trans rfl; have qp3 : _ = some (Value.int .i64 pr.r) := (vcells hW9 3).trans rfl; dsimp only at qv0 qv3; clear hb9 hO9 hz9))
    clear qx qv0 qv3 qp0 qp3 hW9 hiv hcv
    refine wp_region_lit (WL.out ?_)
    refine WL.take (v := .bool true) (d := 102) (by kernel_rfl) (by kernel_rfl) rfl ?_
    simp only [List.set]
    refine WL.take (v := .bool true) (d := 103) (by kernel_rfl) (by kernel_rfl) rfl ?_
    simp only [List.set]
    refine WL.take (v := .pointer (some ⟨go, 5, none⟩)) (d := 104) (by kernel_rfl) (by kernel_rfl) rfl ?_
    simp only [List.set]
    refine WL.take (v := .bool false) (d := 105) (by kernel_rfl) (by exact ex_load_at (bl_run qo) rfl rfl) rfl ?_
    simp only [List.set]
    refine WL.take (v := .bool true) (d := 106) (by kernel_rfl) (by kernel_rfl) rfl ?_
    simp only [List.set]
    refine WL.take (v := .bool true) (d := 107) (by kernel_rfl) (by kernel_rfl) rfl ?_
    simp only [List.set]
    refine WL.skip (d := 108) (by kernel_rfl) rfl ?_
    simp only [List.set]
    refine WL.skip (d := 109) (by kernel_rfl) rfl ?_
    simp only [List.set]
    refine WL.skip (d := 110) (by kernel_rfl) rfl ?_
    simp only [List.set]
    refine WL.skip (d := 111) (by kernel_rfl) rfl ?_
    simp only [List.set]
    refine WL.skip (d := 112) (by kernel_rfl) rfl ?_
    simp only [List.set]
    refine WL.skip (d := 113) (by kernel_rfl) rfl ?_
    simp only [List.set]
    refine WL.skip (d := 114) (by kernel_rfl) rfl ?_
    simp only [List.set]
    refine WL.skip (d := 115) (by kernel_rfl) rfl ?_
    simp only [List.set]
    refine WL.skip (d := 116) (by kernel_rfl) rfl ?_
    simp only [List.set]
    refine WL.skip (d := 117) (by kernel_rfl) rfl ?_
    simp only [List.set]
    refine WL.skip (d := 118) (by kernel_rfl) rfl ?_
    simp only [List.set]
    refine WL.skip (d := 119) (by kernel_rfl) rfl ?_
    simp only [List.set]
    refine WL.take (v := .bool true) (d := 120) (by kernel_rfl) (by kernel_rfl) rfl ?_
    simp only [List.set]
    refine WL.take (v := .bool true) (d := 121) (by kernel_rfl) (by kernel_rfl) rfl ?_
    simp only [List.set]
    refine WL.take (v := .bool true) (d := 122) (by kernel_rfl) (by kernel_rfl) rfl ?_
    simp only [List.set]
    refine WL.take (v := .pointer (some ⟨go, 5, none⟩)) (d := 123) (by kernel_rfl) (by kernel_rfl) rfl ?_
    simp only [List.set]
    refine WL.take (v := .bool false) (d := 124) (by kernel_rfl) (by exact ex_load_at (bl_run qo) rfl rfl) rfl ?_
    simp only [List.set]
    refine WL.take (v := .bool false) (d := 125) (by kernel_rfl) (by kernel_rfl) rfl ?_
    simp only [List.set]
    refine WL.take (v := .agg #[.slice (some ⟨B, 0, none⟩) d d]) (d := 126) (by kernel_rfl) (by exact ex_load_at (h1_load HX.out.x) rfl rfl) rfl ?_
    simp only [List.set]
    refine WL.take (v := .agg #[.slice (some ad) d cap]) (d := 127) (by kernel_rfl) (by exact ex_load_at (h1_load HX.out.rb.h) rfl rfl) rfl ?_
    simp only [List.set]
    refine WL.call (by kernel_rfl) fun K hK => ?_
    go_simp
    go_at_call 36
    (with_reducible refine (cS _ _ _ HX.out.rb.below HX.out.l HL.out).mono ?_)
    rintro e w10 ⟨rfl, h9⟩
    have HX := Lib.hid (HX.out.up h9)
    clear h9
    refine hK _ _ ?_
    clear hK K
    refine WL.take (v := .bool true) (d := 129) (by kernel_rfl) (by kernel_rfl) rfl ?_
    simp only [List.set]
    refine WL.take (v := .bool true) (d := 130) (by kernel_rfl) (by kernel_rfl) rfl ?_
    simp only [List.set]
    refine WL.take (v := .bool true) (d := 6) (by kernel_rfl) (by kernel_rfl) rfl ?_
    simp only [List.set]
    refine WL.none ?_
    go_wp2_with (fail)
    go_ret
    exact ⟨rfl, HX.out.rb.below⟩
set_option maxHeartbeats 8000000 in
set_option maxRecDepth 1000000 in
theorem RT8 {w W : World} {ad : Addr} {d cap k gx go B : Nat} {v : Vq} {b : Bool} {H M2 : List Ob} {S R : Bool} {o : Ob} {x0 x2 x4 x6 x10 x14 x15 x16 x17 x18 x19 x20 x21 x22 x23 x24 x25 x26 x27 x28 x29 x30 x31 x32 x33 x34 x35 x36 x37 x38 x39 x40 x41 x42 x43 x44 x45 x46 x47 x48 x49 x50 x51 x52 x53 x54 x55 x56 x57 x58 x59 x60 x61 x62 x63 x64 x65 x66 x67 x68 x69 x70 x71 x72 x73 x74 x75 x76 x77 x78 x79 x80 x81 x82 x83 x84 x85 x86 x87 x88 x89 x90 x91 x92 x93 x94 x95 x96 x97 x98 x99 x100 x101 x102 x103 x104 x105 x106 x107 x108 x109 x110 x111 x112 x113 x114 x115 x116 x117 x118 x119 x120 x121 x122 x123 x124 x125 x126 x127 x128 x129 x130 : Value} (hX : Rx w (some ad) d cap v gx go B b H M2 W) (hkz : (k : Int) < (d : Int)) (hk0 : (0 : Int) ≤ (k : Int)) (hD : (b = false → M2.map Ob.bare = H.map Ob.bare) ∧ ∃ h : k < M2.length, b = true → M2[k].proto.k = v.k ∧ M2[k].proto.r = v.r) (hof : ∀ W, Below w.heap.size w W → OF W (ad.add (k * 18)) o) (hab : (ad.add (k * 18)).block < w.heap.size) (hrg : b = (S || (o.ext && !R))) (cC : ∀ (W : World) (B : Nat) (M2 : List Ob), Below w.heap.size w W → LeftH H B M2 W → Calls Tryz.prog 18 #[.agg #[.slice (some ⟨B, 0, none⟩) d d]] W fun e w' => e = .returned (.int .i64 0) ∧ Below W.heap.size W w') (cS : ∀ (W : World) (B : Nat) (M2 : List Ob), Below w.heap.size w W → LeftH H B M2 W → M2.map Ob.bare = H.map Ob.bare → Calls Tryz.prog 36 #[.agg #[.slice (some ⟨B, 0, none⟩) d d], .agg #[.slice (some ad) d cap]] W fun e w' => e = .returned (.bool true) ∧ Below W.heap.size W w') : Code.wp Tryz.prog (tailR 8) (bodyPost Tryz.prog Tryz.f8 (fun e w' => e = .returned (.bool true) ∧ Below w.heap.size w w')) ⟨#[x0, .int .i64 (k : Int), x2, .pointer (some ⟨w.heap.size, 0, none⟩), x4, .pointer (some ⟨w.heap.size + 1, 0, none⟩), x6, .bool true, .pointer (some ⟨gx, 0, none⟩), .pointer (some ⟨go, 0, none⟩), x10, .bool R, .int .i64 0, .bool S, x14, x15, x16, x17, x18, x19, x20, x21, x22, x23, x24, x25, x26, x27, x28, x29, x30, x31, x32, x33, x34, x35, x36, x37, x38, x39, x40, x41, x42, x43, x44, x45, x46, x47, x48, x49, x50, x51, x52, x53, x54, x55, x56, x57, x58, x59, x60, x61, x62, x63, x64, x65, x66, x67, x68, x69, x70, x71, x72, x73, x74, x75, x76, x77, x78, x79, x80, x81, x82, x83, x84, x85, x86, x87, x88, x89, x90, x91, x92, x93, x94, x95, x96, x97, x98, x99, x100, x101, x102, x103, x104, x105, x106, x107, x108, x109, x110, x111, x112, x113, x114, x115, x116, x117, x118, x119, x120, x121, x122, x123, x124, x125, x126, x127, x128, x129, x130], []⟩ W := by
  have HX := Lib.hid hX
  have HRG := Lib.hid hrg
  have hof := Lib.hid hof
  have hab := Lib.hid hab
  clear hX hrg
  unfold tailR
  dsimp only [Tryz.f8, rgtN]
  go_step
  go_step
  go_cut [10] from 11 (fun qa wx => Hid (Rx w (some ad) d cap v gx go B b H M2 wx))
  case first =>
    cases S with
    | true =>
      obtain rfl : b = true := HRG.out
      go_upto_region 11 with (fail)
      have hS := HX.out.up (Below.refl _ _).drew
      refine wp_region_held_drew (S := Rx w (some ad) d cap v gx go B true H M2) (by kernel_rfl) hS (fun hHeld => ?_)
      generalize World.drew _ = W0 at *
      refine hH_take (i := 0) (v := .int .i64 0) (d := 62) (l2 := #[true, false, false, false, false, false, false, false, false, false, false, false, false, false, false, false, false, false, false, false, false, false, false, false, false, false, false, false, false, false, false, false, false, false]) rfl (by kernel_rfl) (by kernel_rfl) (by kernel_rfl) (fun _ _ _ h => h) (by kernel_rfl) ?_ (by assumption) rfl (by kernel_rfl) ?_
      · intro w hSw; go_simp; (try with_reducible rfl)
      simp only [List.set]
      refine hH_take (i := 1) (v := .bool false) (d := 63) (l2 := #[true, true, false, false, false, false, false, false, false, false, false, false, false, false, false, false, false, false, false, false, false, false, false, false, false, false, false, false, false, false, false, false, false, false]) rfl (by kernel_rfl) (by kernel_rfl) (by kernel_rfl) (fun _ _ _ h => h) (by kernel_rfl) ?_ (by assumption) rfl (by kernel_rfl) ?_
      · intro w hSw; go_simp; (try with_reducible rfl)
      simp only [List.set]
      refine hH_take (i := 2) (v := .bool false) (d := 64) (l2 := #[true, true, true, false, false, false, false, false, false, false, false, false, false, false, false, false, false, false, false, false, false, false, false, false, false, false, false, false, false, false, false, false, false, false]) rfl (by kernel_rfl) (by kernel_rfl) (by kernel_rfl) (fun _ _ _ h => h) (by kernel_rfl) ?_ (by assumption) rfl (by kernel_rfl) ?_
      · intro w hSw; go_simp; (try with_reducible rfl)
      simp only [List.set]
      refine hH_take (i := 3) (v := .pointer (some ⟨gx, 0, none⟩)) (d := 65) (l2 := #[true, true, true, true, false, false, false, false, false, false, false, false, false, false, false, false, false, false, false, false, false, false, false, false, false, false, false, false, false, false, false, false, false, false]) rfl (by kernel_rfl) (by kernel_rfl) (by kernel_rfl) (fun _ _ _ h => h) (by kernel_rfl) ?_ (by assumption) rfl (by kernel_rfl) ?_
      · intro w hSw; go_simp; (try with_reducible rfl)
      simp only [List.set]
      refine hH_take (i := 4) (v := .slice (some ⟨B, 0, none⟩) d d) (d := 66) (l2 := #[true, true, true, true, true, false, false, false, false, false, false, false, false, false, false, false, false, false, false, false, false, false, false, false, false, false, false, false, false, false, false, false, false, false]) rfl (by kernel_rfl) (by kernel_rfl) (by kernel_rfl) (fun _ _ _ h => h) (by kernel_rfl) ?_ (by assumption) rfl (by kernel_rfl) ?_
      · intro w hSw; have q : w.cell? _ = some (.slice (some ⟨B, 0, none⟩) d d) := (vcells hSw.x 0).trans rfl; go_simp; (try with_reducible rfl)
      simp only [List.set]
      refine hH_take (i := 5) (v := .int .i64 (d : Int)) (d := 67) (l2 := #[true, true, true, true, true, true, false, false, false, false, false, false, false, false, false, false, false, false, false, false, false, false, false, false, false, false, false, false, false, false, false, false, false, false]) rfl (by kernel_rfl) (by kernel_rfl) (by kernel_rfl) (fun _ _ _ h => h) (by kernel_rfl) ?_ (by assumption) rfl (by kernel_rfl) ?_
      · intro w hSw; go_simp; (try with_reducible rfl)
      simp only [List.set]
      refine hH_take (i := 6) (v := .pointer (some ⟨w.heap.size, 0, none⟩)) (d := 68) (l2 := #[true, true, true, true, true, true, true, false, false, false, false, false, false, false, false, false, false, false, false, false, false, false, false, false, false, false, false, false, false, false, false, false, false, false]) rfl (by kernel_rfl) (by kernel_rfl) (by kernel_rfl) (fun _ _ _ h => h) (by kernel_rfl) ?_ (by assumption) rfl (by kernel_rfl) ?_
      · intro w hSw; go_simp; (try with_reducible rfl)
      simp only [List.set]
      refine hH_take (i := 7) (v := .slice (some ad) d cap) (d := 69) (l2 := #[true, true, true, true, true, true, true, true, false, false, false, false, false, false, false, false, false, false, false, false, false, false, false, false, false, false, false, false, false, false, false, false, false, false]) rfl (by kernel_rfl) (by kernel_rfl) (by kernel_rfl) (fun _ _ _ h => h) (by kernel_rfl) ?_ (by assumption) rfl (by kernel_rfl) ?_
      · intro w hSw; have q := hSw.rb.q; go_simp; (try with_reducible rfl)
      simp only [List.set]
      refine hH_take (i := 8) (v := .int .i64 (d : Int)) (d := 70) (l2 := #[true, true, true, true, true, true, true, true, true, false, false, false, false, false, false, false, false, false, false, false, false, false, false, false, false, false, false, false, false, false, false, false, false, false]) rfl (by kernel_rfl) (by kernel_rfl) (by kernel_rfl) (fun _ _ _ h => h) (by kernel_rfl) ?_ (by assumption) rfl (by kernel_rfl) ?_
      · intro w hSw; go_simp; (try with_reducible rfl)
      simp only [List.set]
      refine hH_take (i := 9) (v := .bool false) (d := 71) (l2 := #[true, true, true, true, true, true, true, true, true, true, false, false, false, false, false, false, false, false, false, false, false, false, false, false, false, false, false, false, false, false, false, false, false, false]) rfl (by kernel_rfl) (by kernel_rfl) (by kernel_rfl) (fun _ _ _ h => h) (by kernel_rfl) ?_ (by assumption) rfl (by kernel_rfl) ?_
      · intro w hSw; go_simp; (try with_reducible rfl)
      simp only [List.set]
      refine hH_take (i := 10) (v := .bool false) (d := 72) (l2 := #[true, true, true, true, true, true, true, true, true, true, true, false, false, false, false, false, false, false, false, false, false, false, false, false, false, false, false, false, false, false, false, false, false, false]) rfl (by kernel_rfl) (by kernel_rfl) (by kernel_rfl) (fun _ _ _ h => h) (by kernel_rfl) ?_ (by assumption) rfl (by kernel_rfl) ?_
      · intro w hSw; go_simp; (try with_reducible rfl)
      simp only [List.set]
      refine hH_take (i := 11) (v := .bool false) (d := 73) (l2 := #[true, true, true, true, true, true, true, true, true, true, true, true, false, false, false, false, false, false, false, false, false, false, false, false, false, false, false, false, false, false, false, false, false, false]) rfl (by kernel_rfl) (by kernel_rfl) (by kernel_rfl) (fun _ _ _ h => h) (by kernel_rfl) ?_ (by assumption) rfl (by kernel_rfl) ?_
      · intro w hSw; go_simp; (try with_reducible rfl)
      simp only [List.set]
      refine hH_take (i := 12) (v := .agg #[.slice (some ⟨B, 0, none⟩) d d]) (d := 74) (l2 := #[true, true, true, true, true, true, true, true, true, true, true, true, true, false, false, false, false, false, false, false, false, false, false, false, false, false, false, false, false, false, false, false, false, false]) rfl (by kernel_rfl) (by kernel_rfl) (by kernel_rfl) (fun _ _ _ h => h) (by kernel_rfl) ?_ (by assumption) rfl (by kernel_rfl) ?_
      · intro w hSw; exact ex_load_at (h1_load hSw.x) rfl rfl
      simp only [List.set]
      refine wpAnyH_ready (rs := [13]) (by kernel_rfl) (by simp) ?_
      refine AllReadyH.cons rfl (fun K hK => ?_) AllReadyH.nil
      go_simp
      go_at_call 18
      (with_reducible refine (cC _ _ _ hS.rb.below hS.l).mono ?_)
      rintro e w8 ⟨rfl, h9⟩
      have hS := hS.up h9
      clear h9
      refine hK.out _ _ hS (fun hHeld => ?_)
      clear hK K
      refine hH_take (i := 14) (v := .bool false) (d := 76) (l2 := #[true, true, true, true, true, true, true, true, true, true, true, true, true, true, true, false, false, false, false, false, false, false, false, false, false, false, false, false, false, false, false, false, false, false]) rfl (by kernel_rfl) (by kernel_rfl) (by kernel_rfl) (fun _ _ _ h => h) (by kernel_rfl) ?_ (by assumption) rfl (by kernel_rfl) ?_
      · intro w hSw; go_simp; (try with_reducible rfl)
      simp only [List.set]
      refine hH_take (i := 15) (v := .bool false) (d := 77) (l2 := #[true, true, true, true, true, true, true, true, true, true, true, true, true, true, true, true, false, false, false, false, false, false, false, false, false, false, false, false, false, false, false, false, false, false]) rfl (by kernel_rfl) (by kernel_rfl) (by kernel_rfl) (fun _ _ _ h => h) (by kernel_rfl) ?_ (by assumption) rfl (by kernel_rfl) ?_
      · intro w hSw; go_simp; (try with_reducible rfl)
      simp only [List.set]
      refine hH_take (i := 16) (v := .bool false) (d := 78) (l2 := #[true, true, true, true, true, true, true, true, true, true, true, true, true, true, true, true, true, false, false, false, false, false, false, false, false, false, false, false, false, false, false, false, false, false]) rfl (by kernel_rfl) (by kernel_rfl) (by kernel_rfl) (fun _ _ _ h => h) (by kernel_rfl) ?_ (by assumption) rfl (by kernel_rfl) ?_
      · intro w hSw; go_simp; (try with_reducible rfl)
      simp only [List.set]
      refine hH_take (i := 17) (v := .pointer (some ⟨go, 5, none⟩)) (d := 79) (l2 := #[true, true, true, true, true, true, true, true, true, true, true, true, true, true, true, true, true, true, false, false, false, false, false, false, false, false, false, false, false, false, false, false, false, false]) rfl (by kernel_rfl) (by kernel_rfl) (by kernel_rfl) (fun _ _ _ h => h) (by kernel_rfl) ?_ (by assumption) rfl (by kernel_rfl) ?_
      · intro w hSw; go_simp; (try with_reducible rfl)
      simp only [List.set]
      refine hH_take (i := 18) (v := .bool true) (d := 80) (l2 := #[true, true, true, true, true, true, true, true, true, true, true, true, true, true, true, true, true, true, true, false, false, false, false, false, false, false, false, false, false, false, false, false, false, false]) rfl (by kernel_rfl) (by kernel_rfl) (by kernel_rfl) (fun _ _ _ h => h) (by kernel_rfl) ?_ (by assumption) rfl (by kernel_rfl) ?_
      · intro w hSw; have q : w.cell? _ = some (.bool true) := (vcells hSw.o 5).trans rfl; go_simp; (try with_reducible rfl)
      simp only [List.set]
      refine hH_take (i := 19) (v := .bool true) (d := 81) (l2 := #[true, true, true, true, true, true, true, true, true, true, true, true, true, true, true, true, true, true, true, true, false, false, false, false, false, false, false, false, false, false, false, false, false, false]) rfl (by kernel_rfl) (by kernel_rfl) (by kernel_rfl) (fun _ _ _ h => h) (by kernel_rfl) ?_ (by assumption) rfl (by kernel_rfl) ?_
      · intro w hSw; go_simp; (try with_reducible rfl)
      simp only [List.set]
      refine hH_take (i := 20) (v := .bool true) (d := 82) (l2 := #[true, true, true, true, true, true, true, true, true, true, true, true, true, true, true, true, true, true, true, true, true, false, false, false, false, false, false, false, false, false, false, false, false, false]) rfl (by kernel_rfl) (by kernel_rfl) (by kernel_rfl) (fun _ _ _ h => h) (by kernel_rfl) ?_ (by assumption) rfl (by kernel_rfl) ?_
      · intro w hSw; go_simp; (try with_reducible rfl)
      simp only [List.set]
      refine hH_drop (i := 21) (d := 83) (l2 := #[true, true, true, true, true, true, true, true, true, true, true, true, true, true, true, true, true, true, true, true, true, true, false, false, false, false, false, false, false, false, false, false, false, false]) rfl (by kernel_rfl) (by kernel_rfl) (by kernel_rfl) (fun _ _ _ h => h) (by kernel_rfl) (by assumption) rfl (by kernel_rfl) ?_
      simp only [List.set]
      refine hH_drop (i := 22) (d := 84) (l2 := #[true, true, true, true, true, true, true, true, true, true, true, true, true, true, true, true, true, true, true, true, true, true, true, false, false, false, false, false, false, false, false, false, false, false]) rfl (by kernel_rfl) (by kernel_rfl) (by kernel_rfl) (fun _ _ _ h => h) (by kernel_rfl) (by assumption) rfl (by kernel_rfl) ?_
      simp only [List.set]
      refine hH_drop (i := 23) (d := 85) (l2 := #[true, true, true, true, true, true, true, true, true, true, true, true, true, true, true, true, true, true, true, true, true, true, true, true, false, false, false, false, false, false, false, false, false, false]) rfl (by kernel_rfl) (by kernel_rfl) (by kernel_rfl) (fun _ _ _ h => h) (by kernel_rfl) (by assumption) rfl (by kernel_rfl) ?_
      simp only [List.set]
      refine hH_drop (i := 24) (d := 86) (l2 := #[true, true, true, true, true, true, true, true, true, true, true, true, true, true, true, true, true, true, true, true, true, true, true, true, true, false, false, false, false, false, false, false, false, false]) rfl (by kernel_rfl) (by kernel_rfl) (by kernel_rfl) (fun _ _ _ h => h) (by kernel_rfl) (by assumption) rfl (by kernel_rfl) ?_
      simp only [List.set]
      refine hH_drop (i := 25) (d := 87) (l2 := #[true, true, true, true, true, true, true, true, true, true, true, true, true, true, true, true, true, true, true, true, true, true, true, true, true, true, false, false, false, false, false, false, false, false]) rfl (by kernel_rfl) (by kernel_rfl) (by kernel_rfl) (fun _ _ _ h => h) (by kernel_rfl) (by assumption) rfl (by kernel_rfl) ?_
      simp only [List.set]
      refine hH_drop (i := 26) (d := 88) (l2 := #[true, true, true, true, true, true, true, true, true, true, true, true, true, true, true, true, true, true, true, true, true, true, true, true, true, true, true, false, false, false, false, false, false, false]) rfl (by kernel_rfl) (by kernel_rfl) (by kernel_rfl) (fun _ _ _ h => h) (by kernel_rfl) (by assumption) rfl (by kernel_rfl) ?_
      simp only [List.set]
      refine hH_drop (i := 27) (d := 89) (l2 := #[true, true, true, true, true, true, true, true, true, true, true, true, true, true, true, true, true, true, true, true, true, true, true, true, true, true, true, true, false, false, false, false, false, false]) rfl (by kernel_rfl) (by kernel_rfl) (by kernel_rfl) (fun _ _ _ h => h) (by kernel_rfl) (by assumption) rfl (by kernel_rfl) ?_
      simp only [List.set]
      refine hH_drop (i := 28) (d := 90) (l2 := #[true, true, true, true, true, true, true, true, true, true, true, true, true, true, true, true, true, true, true, true, true, true, true, true, true, true, true, true, true, false, false, false, false, false]) rfl (by kernel_rfl) (by kernel_rfl) (by kernel_rfl) (fun _ _ _ h => h) (by kernel_rfl) (by assumption) rfl (by kernel_rfl) ?_
      simp only [List.set]
      refine hH_drop (i := 29) (d := 91) (l2 := #[true, true, true, true, true, true, true, true, true, true, true, true, true, true, true, true, true, true, true, true, true, true, true, true, true, true, true, true, true, true, false, false, false, false]) rfl (by kernel_rfl) (by kernel_rfl) (by kernel_rfl) (fun _ _ _ h => h) (by kernel_rfl) (by assumption) rfl (by kernel_rfl) ?_
      simp only [List.set]
      refine hH_drop (i := 30) (d := 92) (l2 := #[true, true, true, true, true, true, true, true, true, true, true, true, true, true, true, true, true, true, true, true, true, true, true, true, true, true, true, true, true, true, true, false, false, false]) rfl (by kernel_rfl) (by kernel_rfl) (by kernel_rfl) (fun _ _ _ h => h) (by kernel_rfl) (by assumption) rfl (by kernel_rfl) ?_
      simp only [List.set]
      refine hH_take (i := 31) (v := .bool true) (d := 93) (l2 := #[true, true, true, true, true, true, true, true, true, true, true, true, true, true, true, true, true, true, true, true, true, true, true, true, true, true, true, true, true, true, true, true, false, false]) rfl (by kernel_rfl) (by kernel_rfl) (by kernel_rfl) (fun _ _ _ h => h) (by kernel_rfl) ?_ (by assumption) rfl (by kernel_rfl) ?_
      · intro w hSw; go_simp; (try with_reducible rfl)
      simp only [List.set]
      refine hH_take (i := 32) (v := .bool false) (d := 94) (l2 := #[true, true, true, true, true, true, true, true, true, true, true, true, true, true, true, true, true, true, true, true, true, true, true, true, true, true, true, true, true, true, true, true, true, false]) rfl (by kernel_rfl) (by kernel_rfl) (by kernel_rfl) (fun _ _ _ h => h) (by kernel_rfl) ?_ (by assumption) rfl (by kernel_rfl) ?_
      · intro w hSw; go_simp; (try with_reducible rfl)
      simp only [List.set]
      refine hH_take (i := 33) (v := .bool false) (d := 95) (l2 := #[true, true, true, true, true, true, true, true, true, true, true, true, true, true, true, true, true, true, true, true, true, true, true, true, true, true, true, true, true, true, true, true, true, true]) rfl (by kernel_rfl) (by kernel_rfl) (by kernel_rfl) (fun _ _ _ h => h) (by kernel_rfl) ?_ (by assumption) rfl (by kernel_rfl) ?_
      · intro w hSw; go_simp; (try with_reducible rfl)
      simp only [List.set]
      refine wpAnyH_done (by kernel_rfl) ?_ _
      go_wp2_with (fail)
      go_meet
      case rel => exact Lib.hid hS
    | false =>
      cases hx : o.ext with
      | false =>
        obtain rfl : b = false := by rw [HRG.out, hx]; rfl
        go_upto_region 11 with (fail)
        have hS := HX.out.up (Below.refl _ _).drew
        refine wp_region_held_drew (S := Rx w (some ad) d cap v gx go B false H M2) (by kernel_rfl) hS (fun hHeld => ?_)
        generalize World.drew _ = W0 at *
        refine hH_take (i := 0) (v := .int .i64 0) (d := 62) (l2 := #[true, false, false, false, false, false, false, false, false, false, false, false, false, false, false, false, false, false, false, false, false, false, false, false, false, false, false, false, false, false, false, false, false, false]) rfl (by kernel_rfl) (by kernel_rfl) (by kernel_rfl) (fun _ _ _ h => h) (by kernel_rfl) ?_ (by assumption) rfl (by kernel_rfl) ?_
        · intro w hSw; go_simp; (try with_reducible rfl)
        simp only [List.set]
        refine hH_take (i := 1) (v := .bool false) (d := 63) (l2 := #[true, true, false, false, false, false, false, false, false, false, false, false, false, false, false, false, false, false, false, false, false, false, false, false, false, false, false, false, false, false, false, false, false, false]) rfl (by kernel_rfl) (by kernel_rfl) (by kernel_rfl) (fun _ _ _ h => h) (by kernel_rfl) ?_ (by assumption) rfl (by kernel_rfl) ?_
        · intro w hSw; go_simp; (try with_reducible rfl)
        simp only [List.set]
        refine hH_take (i := 2) (v := .bool false) (d := 64) (l2 := #[true, true, true, false, false, false, false, false, false, false, false, false, false, false, false, false, false, false, false, false, false, false, false, false, false, false, false, false, false, false, false, false, false, false]) rfl (by kernel_rfl) (by kernel_rfl) (by kernel_rfl) (fun _ _ _ h => h) (by kernel_rfl) ?_ (by assumption) rfl (by kernel_rfl) ?_
        · intro w hSw; go_simp; (try with_reducible rfl)
        simp only [List.set]
        refine hH_take (i := 3) (v := .pointer (some ⟨gx, 0, none⟩)) (d := 65) (l2 := #[true, true, true, true, false, false, false, false, false, false, false, false, false, false, false, false, false, false, false, false, false, false, false, false, false, false, false, false, false, false, false, false, false, false]) rfl (by kernel_rfl) (by kernel_rfl) (by kernel_rfl) (fun _ _ _ h => h) (by kernel_rfl) ?_ (by assumption) rfl (by kernel_rfl) ?_
        · intro w hSw; go_simp; (try with_reducible rfl)
        simp only [List.set]
        refine hH_take (i := 4) (v := .slice (some ⟨B, 0, none⟩) d d) (d := 66) (l2 := #[true, true, true, true, true, false, false, false, false, false, false, false, false, false, false, false, false, false, false, false, false, false, false, false, false, false, false, false, false, false, false, false, false, false]) rfl (by kernel_rfl) (by kernel_rfl) (by kernel_rfl) (fun _ _ _ h => h) (by kernel_rfl) ?_ (by assumption) rfl (by kernel_rfl) ?_
        · intro w hSw; have q : w.cell? _ = some (.slice (some ⟨B, 0, none⟩) d d) := (vcells hSw.x 0).trans rfl; go_simp; (try with_reducible rfl)
        simp only [List.set]
        refine hH_take (i := 5) (v := .int .i64 (d : Int)) (d := 67) (l2 := #[true, true, true, true, true, true, false, false, false, false, false, false, false, false, false, false, false, false, false, false, false, false, false, false, false, false, false, false, false, false, false, false, false, false]) rfl (by kernel_rfl) (by kernel_rfl) (by kernel_rfl) (fun _ _ _ h => h) (by kernel_rfl) ?_ (by assumption) rfl (by kernel_rfl) ?_
        · intro w hSw; go_simp; (try with_reducible rfl)
        simp only [List.set]
        refine hH_take (i := 6) (v := .pointer (some ⟨w.heap.size, 0, none⟩)) (d := 68) (l2 := #[true, true, true, true, true, true, true, false, false, false, false, false, false, false, false, false, false, false, false, false, false, false, false, false, false, false, false, false, false, false, false, false, false, false]) rfl (by kernel_rfl) (by kernel_rfl) (by kernel_rfl) (fun _ _ _ h => h) (by kernel_rfl) ?_ (by assumption) rfl (by kernel_rfl) ?_
        · intro w hSw; go_simp; (try with_reducible rfl)
        simp only [List.set]
        refine hH_take (i := 7) (v := .slice (some ad) d cap) (d := 69) (l2 := #[true, true, true, true, true, true, true, true, false, false, false, false, false, false, false, false, false, false, false, false, false, false, false, false, false, false, false, false, false, false, false, false, false, false]) rfl (by kernel_rfl) (by kernel_rfl) (by kernel_rfl) (fun _ _ _ h => h) (by kernel_rfl) ?_ (by assumption) rfl (by kernel_rfl) ?_
        · intro w hSw; have q := hSw.rb.q; go_simp; (try with_reducible rfl)
        simp only [List.set]
        refine hH_take (i := 8) (v := .int .i64 (d : Int)) (d := 70) (l2 := #[true, true, true, true, true, true, true, true, true, false, false, false, false, false, false, false, false, false, false, false, false, false, false, false, false, false, false, false, false, false, false, false, false, false]) rfl (by kernel_rfl) (by kernel_rfl) (by kernel_rfl) (fun _ _ _ h => h) (by kernel_rfl) ?_ (by assumption) rfl (by kernel_rfl) ?_
        · intro w hSw; go_simp; (try with_reducible rfl)
        simp only [List.set]
        refine hH_take (i := 9) (v := .bool false) (d := 71) (l2 := #[true, true, true, true, true, true, true, true, true, true, false, false, false, false, false, false, false, false, false, false, false, false, false, false, false, false, false, false, false, false, false, false, false, false]) rfl (by kernel_rfl) (by kernel_rfl) (by kernel_rfl) (fun _ _ _ h => h) (by kernel_rfl) ?_ (by assumption) rfl (by kernel_rfl) ?_
        · intro w hSw; go_simp; (try with_reducible rfl)
        simp only [List.set]
        refine hH_take (i := 10) (v := .bool false) (d := 72) (l2 := #[true, true, true, true, true, true, true, true, true, true, true, false, false, false, false, false, false, false, false, false, false, false, false, false, false, false, false, false, false, false, false, false, false, false]) rfl (by kernel_rfl) (by kernel_rfl) (by kernel_rfl) (fun _ _ _ h => h) (by kernel_rfl) ?_ (by assumption) rfl (by kernel_rfl) ?_
        · intro w hSw; go_simp; (try with_reducible rfl)
        simp only [List.set]
        refine hH_take (i := 11) (v := .bool false) (d := 73) (l2 := #[true, true, true, true, true, true, true, true, true, true, true, true, false, false, false, false, false, false, false, false, false, false, false, false, false, false, false, false, false, false, false, false, false, false]) rfl (by kernel_rfl) (by kernel_rfl) (by kernel_rfl) (fun _ _ _ h => h) (by kernel_rfl) ?_ (by assumption) rfl (by kernel_rfl) ?_
        · intro w hSw; go_simp; (try with_reducible rfl)
        simp only [List.set]
        refine hH_take (i := 12) (v := .agg #[.slice (some ⟨B, 0, none⟩) d d]) (d := 74) (l2 := #[true, true, true, true, true, true, true, true, true, true, true, true, true, false, false, false, false, false, false, false, false, false, false, false, false, false, false, false, false, false, false, false, false, false]) rfl (by kernel_rfl) (by kernel_rfl) (by kernel_rfl) (fun _ _ _ h => h) (by kernel_rfl) ?_ (by assumption) rfl (by kernel_rfl) ?_
        · intro w hSw; exact ex_load_at (h1_load hSw.x) rfl rfl
        simp only [List.set]
        refine wpAnyH_ready (rs := [13]) (by kernel_rfl) (by simp) ?_
        refine AllReadyH.cons rfl (fun K hK => ?_) AllReadyH.nil
        go_simp
        go_at_call 18
        (with_reducible refine (cC _ _ _ hS.rb.below hS.l).mono ?_)
        rintro e w8 ⟨rfl, h9⟩
        have hS := hS.up h9
        clear h9
        refine hK.out _ _ hS (fun hHeld => ?_)
        clear hK K
        refine hH_take (i := 14) (v := .bool false) (d := 76) (l2 := #[true, true, true, true, true, true, true, true, true, true, true, true, true, true, true, false, false, false, false, false, false, false, false, false, false, false, false, false, false, false, false, false, false, false]) rfl (by kernel_rfl) (by kernel_rfl) (by kernel_rfl) (fun _ _ _ h => h) (by kernel_rfl) ?_ (by assumption) rfl (by kernel_rfl) ?_
        · intro w hSw; go_simp; (try with_reducible rfl)
        simp only [List.set]
        refine hH_take (i := 15) (v := .bool false) (d := 77) (l2 := #[true, true, true, true, true, true, true, true, true, true, true, true, true, true, true, true, false, false, false, false, false, false, false, false, false, false, false, false, false, false, false, false, false, false]) rfl (by kernel_rfl) (by kernel_rfl) (by kernel_rfl) (fun _ _ _ h => h) (by kernel_rfl) ?_ (by assumption) rfl (by kernel_rfl) ?_
        · intro w hSw; go_simp; (try with_reducible rfl)
        simp only [List.set]
        refine hH_take (i := 16) (v := .bool false) (d := 78) (l2 := #[true, true, true, true, true, true, true, true, true, true, true, true, true, true, true, true, true, false, false, false, false, false, false, false, false, false, false, false, false, false, false, false, false, false]) rfl (by kernel_rfl) (by kernel_rfl) (by kernel_rfl) (fun _ _ _ h => h) (by kernel_rfl) ?_ (by assumption) rfl (by kernel_rfl) ?_
        · intro w hSw; go_simp; (try with_reducible rfl)
        simp only [List.set]
        refine hH_take (i := 17) (v := .pointer (some ⟨go, 5, none⟩)) (d := 79) (l2 := #[true, true, true, true, true, true, true, true, true, true, true, true, true, true, true, true, true, true, false, false, false, false, false, false, false, false, false, false, false, false, false, false, false, false]) rfl (by kernel_rfl) (by kernel_rfl) (by kernel_rfl) (fun _ _ _ h => h) (by kernel_rfl) ?_ (by assumption) rfl (by kernel_rfl) ?_
        · intro w hSw; go_simp; (try with_reducible rfl)
        simp only [List.set]
        refine hH_take (i := 18) (v := .bool false) (d := 80) (l2 := #[true, true, true, true, true, true, true, true, true, true, true, true, true, true, true, true, true, true, true, false, false, false, false, false, false, false, false, false, false, false, false, false, false, false]) rfl (by kernel_rfl) (by kernel_rfl) (by kernel_rfl) (fun _ _ _ h => h) (by kernel_rfl) ?_ (by assumption) rfl (by kernel_rfl) ?_
        · intro w hSw; have q : w.cell? _ = some (.bool false) := (vcells hSw.o 5).trans rfl; go_simp; (try with_reducible rfl)
        simp only [List.set]
        refine hH_take (i := 19) (v := .bool false) (d := 81) (l2 := #[true, true, true, true, true, true, true, true, true, true, true, true, true, true, true, true, true, true, true, true, false, false, false, false, false, false, false, false, false, false, false, false, false, false]) rfl (by kernel_rfl) (by kernel_rfl) (by kernel_rfl) (fun _ _ _ h => h) (by kernel_rfl) ?_ (by assumption) rfl (by kernel_rfl) ?_
        · intro w hSw; go_simp; (try with_reducible rfl)
        simp only [List.set]
        refine hH_take (i := 20) (v := .bool false) (d := 82) (l2 := #[true, true, true, true, true, true, true, true, true, true, true, true, true, true, true, true, true, true, true, true, true, false, false, false, false, false, false, false, false, false, false, false, false, false]) rfl (by kernel_rfl) (by kernel_rfl) (by kernel_rfl) (fun _ _ _ h => h) (by kernel_rfl) ?_ (by assumption) rfl (by kernel_rfl) ?_
        · intro w hSw; go_simp; (try with_reducible rfl)
        simp only [List.set]
        refine hH_take (i := 21) (v := .pointer (some ⟨w.heap.size, 0, none⟩)) (d := 83) (l2 := #[true, true, true, true, true, true, true, true, true, true, true, true, true, true, true, true, true, true, true, true, true, true, false, false, false, false, false, false, false, false, false, false, false, false]) rfl (by kernel_rfl) (by kernel_rfl) (by kernel_rfl) (fun _ _ _ h => h) (by kernel_rfl) ?_ (by assumption) rfl (by kernel_rfl) ?_
        · intro w hSw; go_simp; (try with_reducible rfl)
        simp only [List.set]
        refine hH_take (i := 22) (v := .slice (some ad) d cap) (d := 84) (l2 := #[true, true, true, true, true, true, true, true, true, true, true, true, true, true, true, true, true, true, true, true, true, true, true, false, false, false, false, false, false, false, false, false, false, false]) rfl (by kernel_rfl) (by kernel_rfl) (by kernel_rfl) (fun _ _ _ h => h) (by kernel_rfl) ?_ (by assumption) rfl (by kernel_rfl) ?_
        · intro w hSw; have q := hSw.rb.q; go_simp; (try with_reducible rfl)
        simp only [List.set]
        refine hH_take (i := 23) (v := .int .i64 (k : Int)) (d := 85) (l2 := #[true, true, true, true, true, true, true, true, true, true, true, true, true, true, true, true, true, true, true, true, true, true, true, true, false, false, false, false, false, false, false, false, false, false]) rfl (by kernel_rfl) (by kernel_rfl) (by kernel_rfl) (fun _ _ _ h => h) (by kernel_rfl) ?_ (by assumption) rfl (by kernel_rfl) ?_
        · intro w hSw; go_simp; (try with_reducible rfl)
        simp only [List.set]
        refine hH_take (i := 24) (v := .pointer (some (ad.add (k * 18)))) (d := 86) (l2 := #[true, true, true, true, true, true, true, true, true, true, true, true, true, true, true, true, true, true, true, true, true, true, true, true, true, false, false, false, false, false, false, false, false, false]) rfl (by kernel_rfl) (by kernel_rfl) (by kernel_rfl) (fun _ _ _ h => h) (by kernel_rfl) ?_ (by assumption) rfl (by kernel_rfl) ?_
        · intro w hSw; go_simp; (try with_reducible rfl)
        simp only [List.set]
        refine hH_take (i := 25) (v := ?_) (d := 87) (l2 := #[true, true, true, true, true, true, true, true, true, true, true, true, true, true, true, true, true, true, true, true, true, true, true, true, true, true, false, false, false, false, false, false, false, false]) rfl (by kernel_rfl) (by kernel_rfl) (by kernel_rfl) (fun _ _ _ h => h) (by kernel_rfl) ?_ (by assumption) rfl (by kernel_rfl) ?_
        rotate_left
        · intro w hSw; (try dsimp only at hSw); go_simp; (try with_reducible rfl)
        simp only [List.set]
        refine hH_take (i := 26) (v := .bool false) (d := 88) (l2 := #[true, true, true, true, true, true, true, true, true, true, true, true, true, true, true, true, true, true, true, true, true, true, true, true, true, true, true, false, false, false, false, false, false, false]) rfl (by kernel_rfl) (by kernel_rfl) (by kernel_rfl) (fun _ _ _ h => h) (by kernel_rfl) ?_ (by assumption) rfl (by kernel_rfl) ?_
        · intro w hSw; have q := (hof.out _ hSw.rb.below).ext; rw [hx] at q; (try dsimp only at q); have hab3 := Nat.lt_of_lt_of_le hab.out hSw.rb.below.size; go_simp; (try with_reducible rfl)
        simp only [List.set]
        refine hH_take (i := 27) (v := .bool false) (d := 89) (l2 := #[true, true, true, true, true, true, true, true, true, true, true, true, true, true, true, true, true, true, true, true, true, true, true, true, true, true, true, true, false, false, false, false, false, false]) rfl (by kernel_rfl) (by kernel_rfl) (by kernel_rfl) (fun _ _ _ h => h) (by kernel_rfl) ?_ (by assumption) rfl (by kernel_rfl) ?_
        · intro w hSw; go_simp; (try with_reducible rfl)
        simp only [List.set]
        refine hH_drop (i := 28) (d := 90) (l2 := #[true, true, true, true, true, true, true, true, true, true, true, true, true, true, true, true, true, true, true, true, true, true, true, true, true, true, true, true, true, false, false, false, false, false]) rfl (by kernel_rfl) (by kernel_rfl) (by kernel_rfl) (fun _ _ _ h => h) (by kernel_rfl) (by assumption) rfl (by kernel_rfl) ?_
        simp only [List.set]
        refine hH_drop (i := 29) (d := 91) (l2 := #[true, true, true, true, true, true, true, true, true, true, true, true, true, true, true, true, true, true, true, true, true, true, true, true, true, true, true, true, true, true, false, false, false, false]) rfl (by kernel_rfl) (by kernel_rfl) (by kernel_rfl) (fun _ _ _ h => h) (by kernel_rfl) (by assumption) rfl (by kernel_rfl) ?_
        simp only [List.set]
        refine hH_take (i := 30) (v := .bool false) (d := 92) (l2 := #[true, true, true, true, true, true, true, true, true, true, true, true, true, true, true, true, true, true, true, true, true, true, true, true, true, true, true, true, true, true, true, false, false, false]) rfl (by kernel_rfl) (by kernel_rfl) (by kernel_rfl) (fun _ _ _ h => h) (by kernel_rfl) ?_ (by assumption) rfl (by kernel_rfl) ?_
        · intro w hSw; go_simp; (try with_reducible rfl)
        simp only [List.set]
        refine hH_take (i := 31) (v := .bool false) (d := 93) (l2 := #[true, true, true, true, true, true, true, true, true, true, true, true, true, true, true, true, true, true, true, true, true, true, true, true, true, true, true, true, true, true, true, true, false, false]) rfl (by kernel_rfl) (by kernel_rfl) (by kernel_rfl) (fun _ _ _ h => h) (by kernel_rfl) ?_ (by assumption) rfl (by kernel_rfl) ?_
        · intro w hSw; go_simp; (try with_reducible rfl)
        simp only [List.set]
        refine hH_take (i := 32) (v := .bool false) (d := 94) (l2 := #[true, true, true, true, true, true, true, true, true, true, true, true, true, true, true, true, true, true, true, true, true, true, true, true, true, true, true, true, true, true, true, true, true, false]) rfl (by kernel_rfl) (by kernel_rfl) (by kernel_rfl) (fun _ _ _ h => h) (by kernel_rfl) ?_ (by assumption) rfl (by kernel_rfl) ?_
        · intro w hSw; go_simp; (try with_reducible rfl)
        simp only [List.set]
        refine hH_take (i := 33) (v := .bool false) (d := 95) (l2 := #[true, true, true, true, true, true, true, true, true, true, true, true, true, true, true, true, true, true, true, true, true, true, true, true, true, true, true, true, true, true, true, true, true, true]) rfl (by kernel_rfl) (by kernel_rfl) (by kernel_rfl) (fun _ _ _ h => h) (by kernel_rfl) ?_ (by assumption) rfl (by kernel_rfl) ?_
        · intro w hSw; go_simp; (try with_reducible rfl)
        simp only [List.set]
        refine wpAnyH_done (by kernel_rfl) ?_ _
        go_wp2_with (fail)
        go_meet
        case rel => exact Lib.hid hS
      | true =>
        cases R with
        | true =>
          obtain rfl : b = false := by rw [HRG.out, hx]; rfl
          go_upto_region 11 with (fail)
          have hS := HX.out.up (Below.refl _ _).drew
          refine wp_region_held_drew (S := Rx w (some ad) d cap v gx go B false H M2) (by kernel_rfl) hS (fun hHeld => ?_)
          generalize World.drew _ = W0 at *
          refine hH_take (i := 0) (v := .int .i64 0) (d := 62) (l2 := #[true, false, false, false, false, false, false, false, false, false, false, false, false, false, false, false, false, false, false, false, false, false, false, false, false, false, false, false, false, false, false, false, false, false]) rfl (by kernel_rfl) (by kernel_rfl) (by kernel_rfl) (fun _ _ _ h => h) (by kernel_rfl) ?_ (by assumption) rfl (by kernel_rfl) ?_
          · intro w hSw; go_simp; (try with_reducible rfl)
          simp only [List.set]
          refine hH_take (i := 1) (v := .bool false) (d := 63) (l2 := #[true, true, false, false, false, false, false, false, false, false, false, false, false, false, false, false, false, false, false, false, false, false, false, false, false, false, false, false, false, false, false, false, false, false]) rfl (by kernel_rfl) (by kernel_rfl) (by kernel_rfl) (fun _ _ _ h => h) (by kernel_rfl) ?_ (by assumption) rfl (by kernel_rfl) ?_
          · intro w hSw; go_simp; (try with_reducible rfl)
          simp only [List.set]
          refine hH_take (i := 2) (v := .bool false) (d := 64) (l2 := #[true, true, true, false, false, false, false, false, false, false, false, false, false, false, false, false, false, false, false, false, false, false, false, false, false, false, false, false, false, false, false, false, false, false]) rfl (by kernel_rfl) (by kernel_rfl) (by kernel_rfl) (fun _ _ _ h => h) (by kernel_rfl) ?_ (by assumption) rfl (by kernel_rfl) ?_
          · intro w hSw; go_simp; (try with_reducible rfl)
          simp only [List.set]
          refine hH_take (i := 3) (v := .pointer (some ⟨gx, 0, none⟩)) (d := 65) (l2 := #[true, true, true, true, false, false, false, false, false, false, false, false, false, false, false, false, false, false, false, false, false, false, false, false, false, false, false, false, false, false, false, false, false, false]) rfl (by kernel_rfl) (by kernel_rfl) (by kernel_rfl) (fun _ _ _ h => h) (by kernel_rfl) ?_ (by assumption) rfl (by kernel_rfl) ?_
          · intro w hSw; go_simp; (try with_reducible rfl)
          simp only [List.set]
          refine hH_take (i := 4) (v := .slice (some ⟨B, 0, none⟩) d d) (d := 66) (l2 := #[true, true, true, true, true, false, false, false, false, false, false, false, false, false, false, false, false, false, false, false, false, false, false, false, false, false, false, false, false, false, false, false, false, false]) rfl (by kernel_rfl) (by kernel_rfl) (by kernel_rfl) (fun _ _ _ h => h) (by kernel_rfl) ?_ (by assumption) rfl (by kernel_rfl) ?_
          · intro w hSw; have q : w.cell? _ = some (.slice (some ⟨B, 0, none⟩) d d) := (vcells hSw.x 0).trans rfl; go_simp; (try with_reducible rfl)
          simp only [List.set]
          refine hH_take (i := 5) (v := .int .i64 (d : Int)) (d := 67) (l2 := #[true, true, true, true, true, true, false, false, false, false, false, false, false, false, false, false, false, false, false, false, false, false, false, false, false, false, false, false, false, false, false, false, false, false]) rfl (by kernel_rfl) (by kernel_rfl) (by kernel_rfl) (fun _ _ _ h => h) (by kernel_rfl) ?_ (by assumption) rfl (by kernel_rfl) ?_
          · intro w hSw; go_simp; (try with_reducible rfl)
          simp only [List.set]
          refine hH_take (i := 6) (v := .pointer (some ⟨w.heap.size, 0, none⟩)) (d := 68) (l2 := #[true, true, true, true, true, true, true, false, false, false, false, false, false, false, false, false, false, false, false, false, false, false, false, false, false, false, false, false, false, false, false, false, false, false]) rfl (by kernel_rfl) (by kernel_rfl) (by kernel_rfl) (fun _ _ _ h => h) (by kernel_rfl) ?_ (by assumption) rfl (by kernel_rfl) ?_
          · intro w hSw; go_simp; (try with_reducible rfl)
          simp only [List.set]
          refine hH_take (i := 7) (v := .slice (some ad) d cap) (d := 69) (l2 := #[true, true, true, true, true, true, true, true, false, false, false, false, false, false, false, false, false, false, false, false, false, false, false, false, false, false, false, false, false, false, false, false, false, false]) rfl (by kernel_rfl) (by kernel_rfl) (by kernel_rfl) (fun _ _ _ h => h) (by kernel_rfl) ?_ (by assumption) rfl (by kernel_rfl) ?_
          · intro w hSw; have q := hSw.rb.q; go_simp; (try with_reducible rfl)
          simp only [List.set]
          refine hH_take (i := 8) (v := .int .i64 (d : Int)) (d := 70) (l2 := #[true, true, true, true, true, true, true, true, true, false, false, false, false, false, false, false, false, false, false, false, false, false, false, false, false, false, false, false, false, false, false, false, false, false]) rfl (by kernel_rfl) (by kernel_rfl) (by kernel_rfl) (fun _ _ _ h => h) (by kernel_rfl) ?_ (by assumption) rfl (by kernel_rfl) ?_
          · intro w hSw; go_simp; (try with_reducible rfl)
          simp only [List.set]
          refine hH_take (i := 9) (v := .bool false) (d := 71) (l2 := #[true, true, true, true, true, true, true, true, true, true, false, false, false, false, false, false, false, false, false, false, false, false, false, false, false, false, false, false, false, false, false, false, false, false]) rfl (by kernel_rfl) (by kernel_rfl) (by kernel_rfl) (fun _ _ _ h => h) (by kernel_rfl) ?_ (by assumption) rfl (by kernel_rfl) ?_
          · intro w hSw; go_simp; (try with_reducible rfl)
          simp only [List.set]
          refine hH_take (i := 10) (v := .bool false) (d := 72) (l2 := #[true, true, true, true, true, true, true, true, true, true, true, false, false, false, false, false, false, false, false, false, false, false, false, false, false, false, false, false, false, false, false, false, false, false]) rfl (by kernel_rfl) (by kernel_rfl) (by kernel_rfl) (fun _ _ _ h => h) (by kernel_rfl) ?_ (by assumption) rfl (by kernel_rfl) ?_
          · intro w hSw; go_simp; (try with_reducible rfl)
          simp only [List.set]
          refine hH_take (i := 11) (v := .bool false) (d := 73) (l2 := #[true, true, true, true, true, true, true, true, true, true, true, true, false, false, false, false, false, false, false, false, false, false, false, false, false, false, false, false, false, false, false, false, false, false]) rfl (by kernel_rfl) (by kernel_rfl) (by kernel_rfl) (fun _ _ _ h => h) (by kernel_rfl) ?_ (by assumption) rfl (by kernel_rfl) ?_
          · intro w hSw; go_simp; (try with_reducible rfl)
          simp only [List.set]
          refine hH_take (i := 12) (v := .agg #[.slice (some ⟨B, 0, none⟩) d d]) (d := 74) (l2 := #[true, true, true, true, true, true, true, true, true, true, true, true, true, false, false, false, false, false, false, false, false, false, false, false, false, false, false, false, false, false, false, false, false, false]) rfl (by kernel_rfl) (by kernel_rfl) (by kernel_rfl) (fun _ _ _ h => h) (by kernel_rfl) ?_ (by assumption) rfl (by kernel_rfl) ?_
          · intro w hSw; exact ex_load_at (h1_load hSw.x) rfl rfl
          simp only [List.set]
          refine wpAnyH_ready (rs := [13]) (by kernel_rfl) (by simp) ?_
          refine AllReadyH.cons rfl (fun K hK => ?_) AllReadyH.nil
          go_simp
          go_at_call 18
          (with_reducible refine (cC _ _ _ hS.rb.below hS.l).mono ?_)
          rintro e w8 ⟨rfl, h9⟩
          have hS := hS.up h9
          clear h9
          refine hK.out _ _ hS (fun hHeld => ?_)
          clear hK K
          refine hH_take (i := 14) (v := .bool false) (d := 76) (l2 := #[true, true, true, true, true, true, true, true, true, true, true, true, true, true, true, false, false, false, false, false, false, false, false, false, false, false, false, false, false, false, false, false, false, false]) rfl (by kernel_rfl) (by kernel_rfl) (by kernel_rfl) (fun _ _ _ h => h) (by kernel_rfl) ?_ (by assumption) rfl (by kernel_rfl) ?_
          · intro w hSw; go_simp; (try with_reducible rfl)
          simp only [List.set]
          refine hH_take (i := 15) (v := .bool false) (d := 77) (l2 := #[true, true, true, true, true, true, true, true, true, true, true, true, true, true, true, true, false, false, false, false, false, false, false, false, false, false, false, false, false, false, false, false, false, false]) rfl (by kernel_rfl) (by kernel_rfl) (by kernel_rfl) (fun _ _ _ h => h) (by kernel_rfl) ?_ (by assumption) rfl (by kernel_rfl) ?_
          · intro w hSw; go_simp; (try with_reducible rfl)
          simp only [List.set]
          refine hH_take (i := 16) (v := .bool false) (d := 78) (l2 := #[true, true, true, true, true, true, true, true, true, true, true, true, true, true, true, true, true, false, false, false, false, false, false, false, false, false, false, false, false, false, false, false, false, false]) rfl (by kernel_rfl) (by kernel_rfl) (by kernel_rfl) (fun _ _ _ h => h) (by kernel_rfl) ?_ (by assumption) rfl (by kernel_rfl) ?_
          · intro w hSw; go_simp; (try with_reducible rfl)
          simp only [List.set]
          refine hH_take (i := 17) (v := .pointer (some ⟨go, 5, none⟩)) (d := 79) (l2 := #[true, true, true, true, true, true, true, true, true, true, true, true, true, true, true, true, true, true, false, false, false, false, false, false, false, false, false, false, false, false, false, false, false, false]) rfl (by kernel_rfl) (by kernel_rfl) (by kernel_rfl) (fun _ _ _ h => h) (by kernel_rfl) ?_ (by assumption) rfl (by kernel_rfl) ?_
          · intro w hSw; go_simp; (try with_reducible rfl)
          simp only [List.set]
          refine hH_take (i := 18) (v := .bool false) (d := 80) (l2 := #[true, true, true, true, true, true, true, true, true, true, true, true, true, true, true, true, true, true, true, false, false, false, false, false, false, false, false, false, false, false, false, false, false, false]) rfl (by kernel_rfl) (by kernel_rfl) (by kernel_rfl) (fun _ _ _ h => h) (by kernel_rfl) ?_ (by assumption) rfl (by kernel_rfl) ?_
          · intro w hSw; have q : w.cell? _ = some (.bool false) := (vcells hSw.o 5).trans rfl; go_simp; (try with_reducible rfl)
          simp only [List.set]
          refine hH_take (i := 19) (v := .bool false) (d := 81) (l2 := #[true, true, true, true, true, true, true, true, true, true, true, true, true, true, true, true, true, true, true, true, false, false, false, false, false, false, false, false, false, false, false, false, false, false]) rfl (by kernel_rfl) (by kernel_rfl) (by kernel_rfl) (fun _ _ _ h => h) (by kernel_rfl) ?_ (by assumption) rfl (by kernel_rfl) ?_
          · intro w hSw; go_simp; (try with_reducible rfl)
          simp only [List.set]
          refine hH_take (i := 20) (v := .bool false) (d := 82) (l2 := #[true, true, true, true, true, true, true, true, true, true, true, true, true, true, true, true, true, true, true, true, true, false, false, false, false, false, false, false, false, false, false, false, false, false]) rfl (by kernel_rfl) (by kernel_rfl) (by kernel_rfl) (fun _ _ _ h => h) (by kernel_rfl) ?_ (by assumption) rfl (by kernel_rfl) ?_
          · intro w hSw; go_simp; (try with_reducible rfl)
          simp only [List.set]
          refine hH_take (i := 21) (v := .pointer (some ⟨w.heap.size, 0, none⟩)) (d := 83) (l2 := #[true, true, true, true, true, true, true, true, true, true, true, true, true, true, true, true, true, true, true, true, true, true, false, false, false, false, false, false, false, false, false, false, false, false]) rfl (by kernel_rfl) (by kernel_rfl) (by kernel_rfl) (fun _ _ _ h => h) (by kernel_rfl) ?_ (by assumption) rfl (by kernel_rfl) ?_
          · intro w hSw; go_simp; (try with_reducible rfl)
          simp only [List.set]
          refine hH_take (i := 22) (v := .slice (some ad) d cap) (d := 84) (l2 := #[true, true, true, true, true, true, true, true, true, true, true, true, true, true, true, true, true, true, true, true, true, true, true, false, false, false, false, false, false, false, false, false, false, false]) rfl (by kernel_rfl) (by kernel_rfl) (by kernel_rfl) (fun _ _ _ h => h) (by kernel_rfl) ?_ (by assumption) rfl (by kernel_rfl) ?_
          · intro w hSw; have q := hSw.rb.q; go_simp; (try with_reducible rfl)
          simp only [List.set]
          refine hH_take (i := 23) (v := .int .i64 (k : Int)) (d := 85) (l2 := #[true, true, true, true, true, true, true, true, true, true, true, true, true, true, true, true, true, true, true, true, true, true, true, true, false, false, false, false, false, false, false, false, false, false]) rfl (by kernel_rfl) (by kernel_rfl) (by kernel_rfl) (fun _ _ _ h => h) (by kernel_rfl) ?_ (by assumption) rfl (by kernel_rfl) ?_
          · intro w hSw; go_simp; (try with_reducible rfl)
          simp only [List.set]
          refine hH_take (i := 24) (v := .pointer (some (ad.add (k * 18)))) (d := 86) (l2 := #[true, true, true, true, true, true, true, true, true, true, true, true, true, true, true, true, true, true, true, true, true, true, true, true, true, false, false, false, false, false, false, false, false, false]) rfl (by kernel_rfl) (by kernel_rfl) (by kernel_rfl) (fun _ _ _ h => h) (by kernel_rfl) ?_ (by assumption) rfl (by kernel_rfl) ?_
          · intro w hSw; go_simp; (try with_reducible rfl)
          simp only [List.set]
          refine hH_take (i := 25) (v := ?_) (d := 87) (l2 := #[true, true, true, true, true, true, true, true, true, true, true, true, true, true, true, true, true, true, true, true, true, true, true, true, true, true, false, false, false, false, false, false, false, false]) rfl (by kernel_rfl) (by kernel_rfl) (by kernel_rfl) (fun _ _ _ h => h) (by kernel_rfl) ?_ (by assumption) rfl (by kernel_rfl) ?_
          rotate_left
          · intro w hSw; (try dsimp only at hSw); go_simp; (try with_reducible rfl)
          simp only [List.set]
          refine hH_take (i := 26) (v := .bool true) (d := 88) (l2 := #[true, true, true, true, true, true, true, true, true, true, true, true, true, true, true, true, true, true, true, true, true, true, true, true, true, true, true, false, false, false, false, false, false, false]) rfl (by kernel_rfl) (by kernel_rfl) (by kernel_rfl) (fun _ _ _ h => h) (by kernel_rfl) ?_ (by assumption) rfl (by kernel_rfl) ?_
          · intro w hSw; have q := (hof.out _ hSw.rb.below).ext; rw [hx] at q; (try dsimp only at q); have hab3 := Nat.lt_of_lt_of_le hab.out hSw.rb.below.size; go_simp; (try with_reducible rfl)
          simp only [List.set]
          refine hH_take (i := 27) (v := .bool true) (d := 89) (l2 := #[true, true, true, true, true, true, true, true, true, true, true, true, true, true, true, true, true, true, true, true, true, true, true, true, true, true, true, true, false, false, false, false, false, false]) rfl (by kernel_rfl) (by kernel_rfl) (by kernel_rfl) (fun _ _ _ h => h) (by kernel_rfl) ?_ (by assumption) rfl (by kernel_rfl) ?_
          · intro w hSw; go_simp; (try with_reducible rfl)
          simp only [List.set]
          refine hH_take (i := 28) (v := .bool true) (d := 90) (l2 := #[true, true, true, true, true, true, true, true, true, true, true, true, true, true, true, true, true, true, true, true, true, true, true, true, true, true, true, true, true, false, false, false, false, false]) rfl (by kernel_rfl) (by kernel_rfl) (by kernel_rfl) (fun _ _ _ h => h) (by kernel_rfl) ?_ (by assumption) rfl (by kernel_rfl) ?_
          · intro w hSw; go_simp; (try with_reducible rfl)
          simp only [List.set]
          refine hH_take (i := 29) (v := .bool false) (d := 91) (l2 := #[true, true, true, true, true, true, true, true, true, true, true, true, true, true, true, true, true, true, true, true, true, true, true, true, true, true, true, true, true, true, false, false, false, false]) rfl (by kernel_rfl) (by kernel_rfl) (by kernel_rfl) (fun _ _ _ h => h) (by kernel_rfl) ?_ (by assumption) rfl (by kernel_rfl) ?_
          · intro w hSw; go_simp; (try with_reducible rfl)
          simp only [List.set]
          refine hH_take (i := 30) (v := .bool false) (d := 92) (l2 := #[true, true, true, true, true, true, true, true, true, true, true, true, true, true, true, true, true, true, true, true, true, true, true, true, true, true, true, true, true, true, true, false, false, false]) rfl (by kernel_rfl) (by kernel_rfl) (by kernel_rfl) (fun _ _ _ h => h) (by kernel_rfl) ?_ (by assumption) rfl (by kernel_rfl) ?_
          · intro w hSw; go_simp; (try with_reducible rfl)
          simp only [List.set]
          refine hH_take (i := 31) (v := .bool false) (d := 93) (l2 := #[true, true, true, true, true, true, true, true, true, true, true, true, true, true, true, true, true, true, true, true, true, true, true, true, true, true, true, true, true, true, true, true, false, false]) rfl (by kernel_rfl) (by kernel_rfl) (by kernel_rfl) (fun _ _ _ h => h) (by kernel_rfl) ?_ (by assumption) rfl (by kernel_rfl) ?_
          · intro w hSw; go_simp; (try with_reducible rfl)
          simp only [List.set]
          refine hH_take (i := 32) (v := .bool false) (d := 94) (l2 := #[true, true, true, true, true, true, true, true, true, true, true, true, true, true, true, true, true, true, true, true, true, true, true, true, true, true, true, true, true, true, true, true, true, false]) rfl (by kernel_rfl) (by kernel_rfl) (by kernel_rfl) (fun _ _ _ h => h) (by kernel_rfl) ?_ (by assumption) rfl (by kernel_rfl) ?_
          · intro w hSw; go_simp; (try with_reducible rfl)
          simp only [List.set]
          refine hH_take (i := 33) (v := .bool false) (d := 95) (l2 := #[true, true, true, true, true, true, true, true, true, true, true, true, true, true, true, true, true, true, true, true, true, true, true, true, true, true, true, true, true, true, true, true, true, true]) rfl (by kernel_rfl) (by kernel_rfl) (by kernel_rfl) (fun _ _ _ h => h) (by kernel_rfl) ?_ (by assumption) rfl (by kernel_rfl) ?_
          · intro w hSw; go_simp; (try with_reducible rfl)
          simp only [List.set]
          refine wpAnyH_done (by kernel_rfl) ?_ _
          go_wp2_with (fail)
          go_meet
          case rel => exact Lib.hid hS
        | false =>
          obtain rfl : b = true := by rw [HRG.out, hx]; rfl
          go_upto_region 11 with (fail)
          have hS := HX.out.up (Below.refl _ _).drew
          refine wp_region_held_drew (S := Rx w (some ad) d cap v gx go B true H M2) (by kernel_rfl) hS (fun hHeld => ?_)
          generalize World.drew _ = W0 at *
          refine hH_take (i := 0) (v := .int .i64 0) (d := 62) (l2 := #[true, false, false, false, false, false, false, false, false, false, false, false, false, false, false, false, false, false, false, false, false, false, false, false, false, false, false, false, false, false, false, false, false, false]) rfl (by kernel_rfl) (by kernel_rfl) (by kernel_rfl) (fun _ _ _ h => h) (by kernel_rfl) ?_ (by assumption) rfl (by kernel_rfl) ?_
          · intro w hSw; go_simp; (try with_reducible rfl)
          simp only [List.set]
          refine hH_take (i := 1) (v := .bool false) (d := 63) (l2 := #[true, true, false, false, false, false, false, false, false, false, false, false, false, false, false, false, false, false, false, false, false, false, false, false, false, false, false, false, false, false, false, false, false, false]) rfl (by kernel_rfl) (by kernel_rfl) (by kernel_rfl) (fun _ _ _ h => h) (by kernel_rfl) ?_ (by assumption) rfl (by kernel_rfl) ?_
          · intro w hSw; go_simp; (try with_reducible rfl)
          simp only [List.set]
          refine hH_take (i := 2) (v := .bool false) (d := 64) (l2 := #[true, true, true, false, false, false, false, false, false, false, false, false, false, false, false, false, false, false, false, false, false, false, false, false, false, false, false, false, false, false, false, false, false, false]) rfl (by kernel_rfl) (by kernel_rfl) (by kernel_rfl) (fun _ _ _ h => h) (by kernel_rfl) ?_ (by assumption) rfl (by kernel_rfl) ?_
          · intro w hSw; go_simp; (try with_reducible rfl)
          simp only [List.set]
          refine hH_take (i := 3) (v := .pointer (some ⟨gx, 0, none⟩)) (d := 65) (l2 := #[true, true, true, true, false, false, false, false, false, false, false, false, false, false, false, false, false, false, false, false, false, false, false, false, false, false, false, false, false, false, false, false, false, false]) rfl (by kernel_rfl) (by kernel_rfl) (by kernel_rfl) (fun _ _ _ h => h) (by kernel_rfl) ?_ (by assumption) rfl (by kernel_rfl) ?_
          · intro w hSw; go_simp; (try with_reducible rfl)
          simp only [List.set]
          refine hH_take (i := 4) (v := .slice (some ⟨B, 0, none⟩) d d) (d := 66) (l2 := #[true, true, true, true, true, false, false, false, false, false, false, false, false, false, false, false, false, false, false, false, false, false, false, false, false, false, false, false, false, false, false, false, false, false]) rfl (by kernel_rfl) (by kernel_rfl) (by kernel_rfl) (fun _ _ _ h => h) (by kernel_rfl) ?_ (by assumption) rfl (by kernel_rfl) ?_
          · intro w hSw; have q : w.cell? _ = some (.slice (some ⟨B, 0, none⟩) d d) := (vcells hSw.x 0).trans rfl; go_simp; (try with_reducible rfl)
          simp only [List.set]
          refine hH_take (i := 5) (v := .int .i64 (d : Int)) (d := 67) (l2 := #[true, true, true, true, true, true, false, false, false, false, false, false, false, false, false, false, false, false, false, false, false, false, false, false, false, false, false, false, false, false, false, false, false, false]) rfl (by kernel_rfl) (by kernel_rfl) (by kernel_rfl) (fun _ _ _ h => h) (by kernel_rfl) ?_ (by assumption) rfl (by kernel_rfl) ?_
          · intro w hSw; go_simp; (try with_reducible rfl)
          simp only [List.set]
          refine hH_take (i := 6) (v := .pointer (some ⟨w.heap.size, 0, none⟩)) (d := 68) (l2 := #[true, true, true, true, true, true, true, false, false, false, false, false, false, false, false, false, false, false, false, false, false, false, false, false, false, false, false, false, false, false, false, false, false, false]) rfl (by kernel_rfl) (by kernel_rfl) (by kernel_rfl) (fun _ _ _ h => h) (by kernel_rfl) ?_ (by assumption) rfl (by kernel_rfl) ?_
          · intro w hSw; go_simp; (try with_reducible rfl)
          simp only [List.set]
          refine hH_take (i := 7) (v := .slice (some ad) d cap) (d := 69) (l2 := #[true, true, true, true, true, true, true, true, false, false, false, false, false, false, false, false, false, false, false, false, false, false, false, false, false, false, false, false, false, false, false, false, false, false]) rfl (by kernel_rfl) (by kernel_rfl) (by kernel_rfl) (fun _ _ _ h => h) (by kernel_rfl) ?_ (by assumption) rfl (by kernel_rfl) ?_
          · intro w hSw; have q := hSw.rb.q; go_simp; (try with_reducible rfl)
          simp only [List.set]
          refine hH_take (i := 8) (v := .int .i64 (d : Int)) (d := 70) (l2 := #[true, true, true, true, true, true, true, true, true, false, false, false, false, false, false, false, false, false, false, false, false, false, false, false, false, false, false, false, false, false, false, false, false, false]) rfl (by kernel_rfl) (by kernel_rfl) (by kernel_rfl) (fun _ _ _ h => h) (by kernel_rfl) ?_ (by assumption) rfl (by kernel_rfl) ?_
          · intro w hSw; go_simp; (try with_reducible rfl)
          simp only [List.set]
          refine hH_take (i := 9) (v := .bool false) (d := 71) (l2 := #[true, true, true, true, true, true, true, true, true, true, false, false, false, false, false, false, false, false, false, false, false, false, false, false, false, false, false, false, false, false, false, false, false, false]) rfl (by kernel_rfl) (by kernel_rfl) (by kernel_rfl) (fun _ _ _ h => h) (by kernel_rfl) ?_ (by assumption) rfl (by kernel_rfl) ?_
          · intro w hSw; go_simp; (try with_reducible rfl)
          simp only [List.set]
          refine hH_take (i := 10) (v := .bool false) (d := 72) (l2 := #[true, true, true, true, true, true, true, true, true, true, true, false, false, false, false, false, false, false, false, false, false, false, false, false, false, false, false, false, false, false, false, false, false, false]) rfl (by kernel_rfl) (by kernel_rfl) (by kernel_rfl) (fun _ _ _ h => h) (by kernel_rfl) ?_ (by assumption) rfl (by kernel_rfl) ?_
          · intro w hSw; go_simp; (try with_reducible rfl)
          simp only [List.set]
          refine hH_take (i := 11) (v := .bool false) (d := 73) (l2 := #[true, true, true, true, true, true, true, true, true, true, true, true, false, false, false, false, false, false, false, false, false, false, false, false, false, false, false, false, false, false, false, false, false, false]) rfl (by kernel_rfl) (by kernel_rfl) (by kernel_rfl) (fun _ _ _ h => h) (by kernel_rfl) ?_ (by assumption) rfl (by kernel_rfl) ?_
          · intro w hSw; go_simp; (try with_reducible rfl)
          simp only [List.set]
          refine hH_take (i := 12) (v := .agg #[.slice (some ⟨B, 0, none⟩) d d]) (d := 74) (l2 := #[true, true, true, true, true, true, true, true, true, true, true, true, true, false, false, false, false, false, false, false, false, false, false, false, false, false, false, false, false, false, false, false, false, false]) rfl (by kernel_rfl) (by kernel_rfl) (by kernel_rfl) (fun _ _ _ h => h) (by kernel_rfl) ?_ (by assumption) rfl (by kernel_rfl) ?_
          · intro w hSw; exact ex_load_at (h1_load hSw.x) rfl rfl
          simp only [List.set]
          refine wpAnyH_ready (rs := [13]) (by kernel_rfl) (by simp) ?_
          refine AllReadyH.cons rfl (fun K hK => ?_) AllReadyH.nil
          go_simp
          go_at_call 18
          (with_reducible refine (cC _ _ _ hS.rb.below hS.l).mono ?_)
          rintro e w8 ⟨rfl, h9⟩
          have hS := hS.up h9
          clear h9
          refine hK.out _ _ hS (fun hHeld => ?_)
          clear hK K
          refine hH_take (i := 14) (v := .bool false) (d := 76) (l2 := #[true, true, true, true, true, true, true, true, true, true, true, true, true, true, true, false, false, false, false, false, false, false, false, false, false, false, false, false, false, false, false, false, false, false]) rfl (by kernel_rfl) (by kernel_rfl) (by kernel_rfl) (fun _ _ _ h => h) (by kernel_rfl) ?_ (by assumption) rfl (by kernel_rfl) ?_
          · intro w hSw; go_simp; (try with_reducible rfl)
          simp only [List.set]
          refine hH_take (i := 15) (v := .bool false) (d := 77) (l2 := #[true, true, true, true, true, true, true, true, true, true, true, true, true, true, true, true, false, false, false, false, false, false, false, false, false, false, false, false, false, false, false, false, false, false]) rfl (by kernel_rfl) (by kernel_rfl) (by kernel_rfl) (fun _ _ _ h => h) (by kernel_rfl) ?_ (by assumption) rfl (by kernel_rfl) ?_
          · intro w hSw; go_simp; (try with_reducible rfl)
          simp only [List.set]
          refine hH_take (i := 16) (v := .bool false) (d := 78) (l2 := #[true, true, true, true, true, true, true, true, true, true, true, true, true, true, true, true, true, false, false, false, false, false, false, false, false, false, false, false, false, false, false, false, false, false]) rfl (by kernel_rfl) (by kernel_rfl) (by kernel_rfl) (fun _ _ _ h => h) (by kernel_rfl) ?_ (by assumption) rfl (by kernel_rfl) ?_
          · intro w hSw; go_simp; (try with_reducible rfl)
          simp only [List.set]
          refine hH_take (i := 17) (v := .pointer (some ⟨go, 5, none⟩)) (d := 79) (l2 := #[true, true, true, true, true, true, true, true, true, true, true, true, true, true, true, true, true, true, false, false, false, false, false, false, false, false, false, false, false, false, false, false, false, false]) rfl (by kernel_rfl) (by kernel_rfl) (by kernel_rfl) (fun _ _ _ h => h) (by kernel_rfl) ?_ (by assumption) rfl (by kernel_rfl) ?_
          · intro w hSw; go_simp; (try with_reducible rfl)
          simp only [List.set]
          refine hH_take (i := 18) (v := .bool true) (d := 80) (l2 := #[true, true, true, true, true, true, true, true, true, true, true, true, true, true, true, true, true, true, true, false, false, false, false, false, false, false, false, false, false, false, false, false, false, false]) rfl (by kernel_rfl) (by kernel_rfl) (by kernel_rfl) (fun _ _ _ h => h) (by kernel_rfl) ?_ (by assumption) rfl (by kernel_rfl) ?_
          · intro w hSw; have q : w.cell? _ = some (.bool true) := (vcells hSw.o 5).trans rfl; go_simp; (try with_reducible rfl)
          simp only [List.set]
          refine hH_take (i := 19) (v := .bool false) (d := 81) (l2 := #[true, true, true, true, true, true, true, true, true, true, true, true, true, true, true, true, true, true, true, true, false, false, false, false, false, false, false, false, false, false, false, false, false, false]) rfl (by kernel_rfl) (by kernel_rfl) (by kernel_rfl) (fun _ _ _ h => h) (by kernel_rfl) ?_ (by assumption) rfl (by kernel_rfl) ?_
          · intro w hSw; go_simp; (try with_reducible rfl)
          simp only [List.set]
          refine hH_take (i := 20) (v := .bool false) (d := 82) (l2 := #[true, true, true, true, true, true, true, true, true, true, true, true, true, true, true, true, true, true, true, true, true, false, false, false, false, false, false, false, false, false, false, false, false, false]) rfl (by kernel_rfl) (by kernel_rfl) (by kernel_rfl) (fun _ _ _ h => h) (by kernel_rfl) ?_ (by assumption) rfl (by kernel_rfl) ?_
          · intro w hSw; go_simp; (try with_reducible rfl)
          simp only [List.set]
          refine hH_take (i := 21) (v := .pointer (some ⟨w.heap.size, 0, none⟩)) (d := 83) (l2 := #[true, true, true, true, true, true, true, true, true, true, true, true, true, true, true, true, true, true, true, true, true, true, false, false, false, false, false, false, false, false, false, false, false, false]) rfl (by kernel_rfl) (by kernel_rfl) (by kernel_rfl) (fun _ _ _ h => h) (by kernel_rfl) ?_ (by assumption) rfl (by kernel_rfl) ?_
          · intro w hSw; go_simp; (try with_reducible rfl)
          simp only [List.set]
          refine hH_take (i := 22) (v := .slice (some ad) d cap) (d := 84) (l2 := #[true, true, true, true, true, true, true, true, true, true, true, true, true, true, true, true, true, true, true, true, true, true, true, false, false, false, false, false, false, false, false, false, false, false]) rfl (by kernel_rfl) (by kernel_rfl) (by kernel_rfl) (fun _ _ _ h => h) (by kernel_rfl) ?_ (by assumption) rfl (by kernel_rfl) ?_
          · intro w hSw; have q := hSw.rb.q; go_simp; (try with_reducible rfl)
          simp only [List.set]
          refine hH_take (i := 23) (v := .int .i64 (k : Int)) (d := 85) (l2 := #[true, true, true, true, true, true, true, true, true, true, true, true, true, true, true, true, true, true, true, true, true, true, true, true, false, false, false, false, false, false, false, false, false, false]) rfl (by kernel_rfl) (by kernel_rfl) (by kernel_rfl) (fun _ _ _ h => h) (by kernel_rfl) ?_ (by assumption) rfl (by kernel_rfl) ?_
          · intro w hSw; go_simp; (try with_reducible rfl)
          simp only [List.set]
          refine hH_take (i := 24) (v := .pointer (some (ad.add (k * 18)))) (d := 86) (l2 := #[true, true, true, true, true, true, true, true, true, true, true, true, true, true, true, true, true, true, true, true, true, true, true, true, true, false, false, false, false, false, false, false, false, false]) rfl (by kernel_rfl) (by kernel_rfl) (by kernel_rfl) (fun _ _ _ h => h) (by kernel_rfl) ?_ (by assumption) rfl (by kernel_rfl) ?_
          · intro w hSw; go_simp; (try with_reducible rfl)
          simp only [List.set]
          refine hH_take (i := 25) (v := ?_) (d := 87) (l2 := #[true, true, true, true, true, true, true, true, true, true, true, true, true, true, true, true, true, true, true, true, true, true, true, true, true, true, false, false, false, false, false, false, false, false]) rfl (by kernel_rfl) (by kernel_rfl) (by kernel_rfl) (fun _ _ _ h => h) (by kernel_rfl) ?_ (by assumption) rfl (by kernel_rfl) ?_
          rotate_left
          · intro w hSw; (try dsimp only at hSw); go_simp; (try with_reducible rfl)
          simp only [List.set]
          refine hH_take (i := 26) (v := .bool true) (d := 88) (l2 := #[true, true, true, true, true, true, true, true, true, true, true, true, true, true, true, true, true, true, true, true, true, true, true, true, true, true, true, false, false, false, false, false, false, false]) rfl (by kernel_rfl) (by kernel_rfl) (by kernel_rfl) (fun _ _ _ h => h) (by kernel_rfl) ?_ (by assumption) rfl (by kernel_rfl) ?_
          · intro w hSw; have q := (hof.out _ hSw.rb.below).ext; rw [hx] at q; (try dsimp only at q); have hab3 := Nat.lt_of_lt_of_le hab.out hSw.rb.below.size; go_simp; (try with_reducible rfl)
          simp only [List.set]
          refine hH_take (i := 27) (v := .bool true) (d := 89) (l2 := #[true, true, true, true, true, true, true, true, true, true, true, true, true, true, true, true, true, true, true, true, true, true, true, true, true, true, true, true, false, false, false, false, false, false]) rfl (by kernel_rfl) (by kernel_rfl) (by kernel_rfl) (fun _ _ _ h => h) (by kernel_rfl) ?_ (by assumption) rfl (by kernel_rfl) ?_
          · intro w hSw; go_simp; (try with_reducible rfl)
          simp only [List.set]
          refine hH_take (i := 28) (v := .bool false) (d := 90) (l2 := #[true, true, true, true, true, true, true, true, true, true, true, true, true, true, true, true, true, true, true, true, true, true, true, true, true, true, true, true, true, false, false, false, false, false]) rfl (by kernel_rfl) (by kernel_rfl) (by kernel_rfl) (fun _ _ _ h => h) (by kernel_rfl) ?_ (by assumption) rfl (by kernel_rfl) ?_
          · intro w hSw; go_simp; (try with_reducible rfl)
          simp only [List.set]
          refine hH_take (i := 29) (v := .bool true) (d := 91) (l2 := #[true, true, true, true, true, true, true, true, true, true, true, true, true, true, true, true, true, true, true, true, true, true, true, true, true, true, true, true, true, true, false, false, false, false]) rfl (by kernel_rfl) (by kernel_rfl) (by kernel_rfl) (fun _ _ _ h => h) (by kernel_rfl) ?_ (by assumption) rfl (by kernel_rfl) ?_
          · intro w hSw; go_simp; (try with_reducible rfl)
          simp only [List.set]
          refine hH_take (i := 30) (v := .bool true) (d := 92) (l2 := #[true, true, true, true, true, true, true, true, true, true, true, true, true, true, true, true, true, true, true, true, true, true, true, true, true, true, true, true, true, true, true, false, false, false]) rfl (by kernel_rfl) (by kernel_rfl) (by kernel_rfl) (fun _ _ _ h => h) (by kernel_rfl) ?_ (by assumption) rfl (by kernel_rfl) ?_
          · intro w hSw; go_simp; (try with_reducible rfl)
          simp only [List.set]
          refine hH_take (i := 31) (v := .bool true) (d := 93) (l2 := #[true, true, true, true, true, true, true, true, true, true, true, true, true, true, true, true, true, true, true, true, true, true, true, true, true, true, true, true, true, true, true, true, false, false]) rfl (by kernel_rfl) (by kernel_rfl) (by kernel_rfl) (fun _ _ _ h => h) (by kernel_rfl) ?_ (by assumption) rfl (by kernel_rfl) ?_
          · intro w hSw; go_simp; (try with_reducible rfl)
          simp only [List.set]
          refine hH_take (i := 32) (v := .bool false) (d := 94) (l2 := #[true, true, true, true, true, true, true, true, true, true, true, true, true, true, true, true, true, true, true, true, true, true, true, true, true, true, true, true, true, true, true, true, true, false]) rfl (by kernel_rfl) (by kernel_rfl) (by kernel_rfl) (fun _ _ _ h => h) (by kernel_rfl) ?_ (by assumption) rfl (by kernel_rfl) ?_
          · intro w hSw; go_simp; (try with_reducible rfl)
          simp only [List.set]
          refine hH_take (i := 33) (v := .bool false) (d := 95) (l2 := #[true, true, true, true, true, true, true, true, true, true, true, true, true, true, true, true, true, true, true, true, true, true, true, true, true, true, true, true, true, true, true, true, true, true]) rfl (by kernel_rfl) (by kernel_rfl) (by kernel_rfl) (fun _ _ _ h => h) (by kernel_rfl) ?_ (by assumption) rfl (by kernel_rfl) ?_
          · intro w hSw; go_simp; (try with_reducible rfl)
          simp only [List.set]
          refine wpAnyH_done (by kernel_rfl) ?_ _
          go_wp2_with (fail)
          go_meet
          case rel => exact Lib.hid hS
  case rest =>
    rename ∀ (a : Act) (w : World), Code.wp Tryz.prog _ _ a w → _ => hK
    exact hK _ _ (RT9 hcut.out hkz hk0 hD cS)
set_option maxHeartbeats 16000000 in
set_option maxRecDepth 1000000 in
theorem OrdinaryRings_walk (A : Option Addr) (H : List Ob) (cap : Nat) (n : Int) (v : Vq) (w : World) (hH : HIn0 w A H cap) (hv : v.In) (htab : TabHere w) :
    Calls Tryz.prog 8 #[.agg #[.slice A H.length cap], .int .i64 n, .agg #[.int .u8 v.k, .float .f64 v.x, .string v.s, .int .i64 v.r]] w fun e w' => e = .returned (.bool true) ∧ Below w.heap.size w w' := by
  have HQ := Lib.hid (rb_start w A H.length cap v)
  have hq := HQ.out.q
  have cA := fun W (hb : Below w.heap.size w W) => alive12 W (tab_up htab hb)
  have hi1 : ∀ v : Value, (Tryz.prog.info? 24).map (·.size) = some (#[v] : Array Value).size := fun v => hsz
  have hc1 : ∀ v : Value, v.oneCell' = true → (#[v] : Array Value).all (·.oneCell') = true := fun v h => cells_one (l := [v]) (by simpa using h)
  have hiv : ∀ v : Vq, (Tryz.prog.info? 31).map (·.size) = some (vA v).size := fun _ => vsz4
  have hcv : ∀ v : Vq, (vA v).all (·.oneCell') = true := fun v => vq_one v.k v.x v.s v.r
  by_cases hm : (60 < H.length ∧ H.length ≤ 4096) ∨ 5000 < H.length
  · have cL := fun W (_ : Below w.heap.size w W) => lg12_many A H.length cap W hm
    clear hH htab hm hv
    go_enter Tryz.func8, Tryz.ntmps8
    go_wp2_with (first
      | (go_at_call 26; (with_reducible refine (cA _ HQ.out.below).mono ?_); rintro e w1 ⟨rfl, h9⟩; have HQ := Lib.hid (HQ.out.up h9); have hq := HQ.out.q; clear h9)
      | ((with_reducible refine h1_ld ?_ rfl rfl HQ.out.h ?_); (rfl))
      | (go_at_call 27; (with_reducible refine (cL _ HQ.out.below).mono ?_); rintro e w2 ⟨rfl, h9⟩; have HQ := Lib.hid (HQ.out.up h9); have hq := HQ.out.q; clear h9))
    go_ret
    exact ⟨rfl, HQ.out.below⟩
  · have cL := fun W (hb : Below w.heap.size w W) => lg12_few A H cap W (hrow_up hH.row hb) hm
    cases hl : lg12 H with
    | true =>
      rw [hl] at cL
      clear hH htab hm hl hv
      go_enter Tryz.func8, Tryz.ntmps8
      go_wp2_with (first
        | (go_at_call 26; (with_reducible refine (cA _ HQ.out.below).mono ?_); rintro e w1 ⟨rfl, h9⟩; have HQ := Lib.hid (HQ.out.up h9); have hq := HQ.out.q; clear h9)
        | ((with_reducible refine h1_ld ?_ rfl rfl HQ.out.h ?_); (rfl))
        | (go_at_call 27; (with_reducible refine (cL _ HQ.out.below).mono ?_); rintro e w2 ⟨rfl, h9⟩; have HQ := Lib.hid (HQ.out.up h9); have hq := HQ.out.q; clear h9))
      go_ret
      exact ⟨rfl, HQ.out.below⟩
    | false =>
      rw [hl] at cL
      have hI := hH.few12 (by omega) hl
      have hsm : ∀ o ∈ H, o.props.length ≤ 100000 := fun o ho => by have := small_12 hl o ho; omega
      have hfw : H.length ≤ 1000000 := by omega
      by_cases hE : doE H (akq 2 n kz (dz 0) v) = 0
      · obtain ⟨hmay, k, hA⟩ := do_ask hE
        obtain rfl : n = (k : Int) := hA.n
        have hk := hA.lt
        have cD := fun W (hb : Below w.heap.size w W) => ring_do (hI.up hb) hsm hv (tab_up htab hb) hE hk
        have cR := fun W (hb : Below w.heap.size w W) => ring_loops (hI.up hb) hv (tab_up htab hb) hmay hk (hA.m2 rfl)
        have cC : ∀ (W : World) (B : Nat) (M2 : List Ob), Below w.heap.size w W → LeftH H B M2 W → Calls Tryz.prog 18 #[.agg #[.slice (some ⟨B, 0, none⟩) H.length H.length]] W fun e w' => e = .returned (.int .i64 0) ∧ Below W.heap.size W w' := fun W B M2 hb hL => by
          have := Check_h _ M2 M2.length W hL.inn (tab_up htab hb)
          rw [chk_ok hL.may, hL.len] at this
          exact this
        have cS : ∀ (W : World) (B : Nat) (M2 : List Ob), Below w.heap.size w W → LeftH H B M2 W → M2.map Ob.bare = H.map Ob.bare → Calls Tryz.prog 36 #[.agg #[.slice (some ⟨B, 0, none⟩) H.length H.length], .agg #[.slice A H.length cap]] W fun e w' => e = .returned (.bool true) ∧ Below W.heap.size W w' := fun W B M2 hb hL hlike =>
          same_hl H.length _ A _ _ W (hl_in hL.inn hL.small) ((hl_in hI hsm).up hb) hlike hL.len hfw
        unfold RgTo at cD
        have hring : ringB H H[k] k v = (((H[k].proto.k == v.k) && (H[k].proto.r == v.r)) || (H[k].ext && !decide (Bhd H k v))) := rfl
        generalize ringB H H[k] k v = b at *
        generalize decide (Bhd H (k : Int) v) = R at *
        obtain ⟨ad, rfl, hab, hof0, _⟩ := hI.at hk
        have hof := Lib.hid (fun W (hb : Below w.heap.size w W) => hof0.up hb)
        have hkz : (k : Int) < (H.length : Int) := by omega
        have hk0 : (0 : Int) ≤ (k : Int) := by omega
        have hab := Lib.hid hab
        generalize H[k] = o at *
        have HK := Lib.hid hk
        obtain ⟨S, hS⟩ : ∃ S, S = ((o.proto.k == v.k) && (o.proto.r == v.r)) := ⟨_, rfl⟩
        rw [← hS] at hring
        have HRG := Lib.hid hring
        have HSS := Lib.hid hS
        clear hring hS
        clear hH hm hl hI hsm hfw hE hmay hA hk hof0 htab hv
        generalize hn0 : H.length = d at *
        have HN0 := Lib.hid hn0
        clear hn0
        go_enter Tryz.func8, Tryz.ntmps8
        go_upto_region 10 with (first
          | ((with_reducible refine h1_ld ?_ rfl rfl HX.out.rb.h ?_); (rfl))
          | ((with_reducible refine va_load ?_ rfl rfl HX.out.rb.va ?_); (rfl))
          | ((with_reducible refine h1_ld ?_ rfl rfl HQ.out.h ?_); (rfl))
          | ((with_reducible refine va_load ?_ rfl rfl HQ.out.va ?_); (rfl))
          | (refine w_run ?_ (ea_ak2 (n := (k : Int)) (v := v) rfl rfl rfl) ?_; (rfl))
          | (go_at_call 26; (with_reducible refine (cA _ HQ.out.below).mono ?_); rintro e w1 ⟨rfl, h9⟩; have HQ := Lib.hid (HQ.out.up h9); have hq := HQ.out.q; clear h9)
          | (go_at_call 27; (with_reducible refine (cL _ HQ.out.below).mono ?_); rintro e w2 ⟨rfl, h9⟩; have HQ := Lib.hid (HQ.out.up h9); have hq := HQ.out.q; clear h9)
          | (go_at_call 24; (with_reducible refine (cD _ HQ.out.below).mono ?_); rintro e w3 ⟨B, M2, rfl, hD, h9⟩; have HD := Lib.hid hD; have HQ := Lib.hid (HQ.out.up h9); obtain ⟨g1, g2⟩ := vblk2 (w := w3) (Below.refl _ ((w3.alloc (.cells #[.slice none 0 0] 24)).alloc (.cells oz26 52))); have gB : Below w3.heap.size w3 ((w3.alloc (.cells #[.slice none 0 0] 24)).alloc (.cells oz26 52)) := vafter (vzero _ _); clear h9 hD)
          | ((with_reducible refine t_store (cs := #[.slice (some ⟨B, 0, none⟩) d d]) rfl rfl rfl rfl g1 (hi1 _) ?_ (hc1 _ rfl) gB (Nat.le_refl _) ?_); (rfl); intro W4 hb4 hW4 hO4 hz4; have g3 := (hO4 (w3.heap.size + 1) (by omega)).trans g2; clear hO4 hz4)
          | ((with_reducible refine oq_store (q := yesO b) rfl rfl rfl rfl g3 rfl hb4 (Nat.le_succ _) ?_); intro W5 hb5 hW5 hO5 hz5; have HX : Hid (Rx w (some ad) d cap v w3.heap.size (w3.heap.size + 1) B b H M2 W5) := Lib.hid ⟨HQ.out.up hb5, (hO5 w3.heap.size (by omega)).trans hW4, hW5, HD.out.1.up hb5⟩; have hq := HX.out.rb.q; clear hW5 hO5 hz5 g3 hb4 g1 g2 gB hb5 hW4 HQ)
          | (go_at_call 25; (with_reducible refine (cR _ HX.out.rb.below).mono ?_); rintro e w6 ⟨rfl, h9⟩; have HX := Lib.hid (HX.out.up h9); have hq := HX.out.rb.q; clear h9))
        generalize w3.heap.size + 1 = go at *
        generalize w3.heap.size = gx at *
        have HD2 := Lib.hid HD.out.2
        clear HD cA cL cD cR
        have hS := HSS.out
        go_cut [13] from 14 (fun qa wx => qa = .bool S ∧ Hid (Rx w (some ad) d cap v gx go B b H M2 wx))
        case first =>
          have hp := (hof.out _ HX.out.rb.below).proto
          have p1 := hp.k
          have p2 := hp.r
          have hv1 := HX.out.rb.va.k
          have hv2 := HX.out.rb.va.r
          have hb3 := hab.out
          dsimp only at p1 p2 hv1 hv2
          clear hp
          cases hs1 : (o.proto.k == v.k) with
          | false =>
            rw [hs1, Bool.false_and] at hS
            subst hS
            go_quiet (fail)
            go_wp2
            go_meet
            case rel => exact ⟨rfl, Lib.hid (HX.out.up (tdrewN (Below.refl _ _) _))⟩
          | true =>
            rw [hs1, Bool.true_and] at hS
            subst hS
            go_quiet (fail)
            go_wp2
            go_meet
            case rel => exact ⟨rfl, Lib.hid (HX.out.up (tdrewN (Below.refl _ _) _))⟩
        case rest =>
          obtain ⟨rfl, HX⟩ := hcut
          rename ∀ (a : Act) (w : World), Code.wp Tryz.prog _ _ a w → _ => hK
          exact hK _ _ (RT8 HX.out hkz hk0 HD2.out hof.out hab.out HRG.out cC cS)
      · have cD := fun W (hb : Below w.heap.size w W) => ring_bad (hI.up hb) hsm (akq_in kz_in dz0_in hv) (tab_up htab hb) hE
        have hzb : (doE H (akq 2 n kz (dz 0) v) != 0) = true := by unfold bne; rw [beq_eq_false_iff_ne.2 hE]; rfl
        generalize doE H (akq 2 n kz (dz 0) v) = E at *
        clear hH htab hm hl hI hsm hv hE hfw
        go_enter Tryz.func8, Tryz.ntmps8
        go_wp2_with (first
          | (go_at_call 26; (with_reducible refine (cA _ HQ.out.below).mono ?_); rintro e w1 ⟨rfl, h9⟩; have HQ := Lib.hid (HQ.out.up h9); have hq := HQ.out.q; clear h9)
          | ((with_reducible refine h1_ld ?_ rfl rfl HQ.out.h ?_); (rfl))
          | ((with_reducible refine va_load ?_ rfl rfl HQ.out.va ?_); (rfl))
          | (refine w_run ?_ (ea_ak2 (n := n) (v := v) rfl rfl rfl) ?_; (rfl))
          | (go_at_call 27; (with_reducible refine (cL _ HQ.out.below).mono ?_); rintro e w2 ⟨rfl, h9⟩; have HQ := Lib.hid (HQ.out.up h9); have hq := HQ.out.q; clear h9)
          | (go_at_call 24; (with_reducible refine (cD _ HQ.out.below).mono ?_); rintro e w3 ⟨rfl, h9⟩; have HQ := Lib.hid (HQ.out.up h9); obtain ⟨g1, g2⟩ := vblk2 (w := w3) (Below.refl _ ((w3.alloc (.cells #[.slice none 0 0] 24)).alloc (.cells oz26 52))); have gB : Below w3.heap.size w3 ((w3.alloc (.cells #[.slice none 0 0] 24)).alloc (.cells oz26 52)) := vafter (vzero _ _); clear h9)
          | ((with_reducible refine t_store (cs := #[.slice none 0 0]) rfl rfl rfl rfl g1 (hi1 _) ?_ (hc1 _ rfl) gB (Nat.le_refl _) ?_); (rfl); intro W4 hb4 hW4 hO4 hz4; have g3 := (hO4 (w3.heap.size + 1) (by omega)).trans g2; clear hO4 hz4 hW4)
          | ((with_reducible refine oq_store (q := ozero) rfl rfl rfl rfl g3 rfl hb4 (Nat.le_succ _) ?_); intro W5 hb5 hW5 hO5 hz5; have HQ := Lib.hid (HQ.out.up hb5); clear hW5 hO5 hz5 g3 hb4 g1 g2 gB hb5))
        go_ret
        exact ⟨rfl, HQ.out.below⟩
end Go.Proofs.YtpeegmpfkongeaaGreatDoor.S
