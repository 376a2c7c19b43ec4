/-
  OrdinaryShuts: the walk of its end.
-/
import Derived.Test.YtpeegmpfkongeaaGreatDoorSX02
namespace Go.Proofs.YtpeegmpfkongeaaGreatDoor.S
open Go.RowKit Go.Lib Fl
open Classical

theorem rb_akm4 (n : Int) (w : World) : (Instr.build 60 #[(0, .int .u8 4), (1, .int .i64 n)]).run Tryz.prog w = .ok (.agg (akA (akq 4 n kz (dz 0) v0))) w := by kernel_rfl
theorem rb_akm3 (n : Int) (w : World) : (Instr.build 60 #[(0, .int .u8 3), (1, .int .i64 n)]).run Tryz.prog w = .ok (.agg (akA (akq 3 n kz (dz 0) v0))) w := by kernel_rfl
theorem rb_akm6 (n : Int) (k : Ky) (d : Dq) (w : World) : (Instr.build 60 #[(0, .int .u8 6), (1, .int .i64 n), (2, .agg #[.string k.str, .int .i64 k.sym]), (3, .agg d.cells)]).run Tryz.prog w = .ok (.agg (akA (akq 6 n k d v0))) w := by kernel_rfl
section
variable {o : Oper} {a : Act} {w : World} {x y z : Operand} {n : Int}
theorem ea_akm4 (ho : o.op = .build 60 #[(0, .const (.int .u8 4)), (1, y)]) (hy : a.eval y = .int .i64 n) : (execOp a.eval o).run Tryz.prog w = .ok (.value (.agg (akA (akq 4 n kz (dz 0) v0)))) w := by
  unfold execOp
  have hc : ∀ v, a.eval (.const v) = v := fun _ => rfl
  simp only [ho, List.map_toArray, List.map_cons, List.map_nil, hc, hy, rb_akm4, Sem.run_bind, Sem.run_pure, Result.andThen_ok]
theorem ea_akm3 (ho : o.op = .build 60 #[(0, .const (.int .u8 3)), (1, y)]) (hy : a.eval y = .int .i64 n) : (execOp a.eval o).run Tryz.prog w = .ok (.value (.agg (akA (akq 3 n kz (dz 0) v0)))) w := by
  unfold execOp
  have hc : ∀ v, a.eval (.const v) = v := fun _ => rfl
  simp only [ho, List.map_toArray, List.map_cons, List.map_nil, hc, hy, rb_akm3, Sem.run_bind, Sem.run_pure, Result.andThen_ok]
theorem ea_akm6 {k : Ky} {d : Dq} (ho : o.op = .build 60 #[(0, .const (.int .u8 6)), (1, y), (2, x), (3, z)]) (hy : a.eval y = .int .i64 n) (hx : a.eval x = .agg #[.string k.str, .int .i64 k.sym]) (hz : a.eval z = .agg d.cells) : (execOp a.eval o).run Tryz.prog w = .ok (.value (.agg (akA (akq 6 n k d v0)))) w := by
  unfold execOp
  have hc : ∀ v, a.eval (.const v) = v := fun _ => rfl
  simp only [ho, List.map_toArray, List.map_cons, List.map_nil, hc, hx, hy, hz, rb_akm6, Sem.run_bind, Sem.run_pure, Result.andThen_ok]
theorem ea_oz26 (ho : o.op = .alloc 52) : (execOp a.eval o).run Tryz.prog w = .ok (.value (.pointer (some ⟨w.heap.size, 0, none⟩))) (w.alloc (.cells oz26 52)) := by
  unfold execOp
  simp only [ho]
  kernel_rfl
theorem ea_hp1 (ho : o.op = .alloc 24) : (execOp a.eval o).run Tryz.prog w = .ok (.value (.pointer (some ⟨w.heap.size, 0, none⟩))) (w.alloc (.cells #[.slice none 0 0] 24)) := by
  unfold execOp
  simp only [ho]
  kernel_rfl
end
theorem vbm {B : Nat} {w W W' : World} (h : Below B w W) (hB : B ≤ w.heap.size) (hb : Below W.heap.size W W') : Below B w W' := ⟨hb.os.trans h.os, hb.tape.trans h.tape, hb.output.trans h.output, Nat.le_trans h.size hb.size, fun k hk => (hb.block k (Nat.lt_of_lt_of_le hk (Nat.le_trans hB h.size))).trans (h.block k hk)⟩
theorem u8_run {W : World} {g n : Nat} {b : Int} (h : W.cell? ⟨g, n, none⟩ = some (.int .u8 b)) : (Instr.loadAt 5 (.pointer (some ⟨g, n, none⟩))).run Tryz.prog W = .ok (.int .u8 b) W := by simp [go_sem, h]
/-- the law's own blocks -/
structure S1 (w : World) (A : Option Addr) (n cap : Nat) (ky : Ky) (W : World) : Prop where
  below : Below w.heap.size w W
  h : W.heap[w.heap.size]? = some (.cells #[.slice A n cap] 24 (0, 0))
  k : W.heap[w.heap.size + 1]? = some (.cells #[.string ky.str, .int .i64 ky.sym] 57 (0, 0))
theorem S1.up {w : World} {A : Option Addr} {n cap : Nat} {ky : Ky} {W W' : World} (h : S1 w A n cap ky W) (hb : Below W.heap.size W W') : S1 w A n cap ky W' := ⟨vb h.below hb, vblkn hb h.h, vblkn hb h.k⟩
theorem s1_start (w : World) (A : Option Addr) (n cap : Nat) (ky : Ky) : S1 w A n cap ky ((w.alloc (.cells #[.slice A n cap] 24)).alloc (.cells #[.string ky.str, .int .i64 ky.sym] 57)) := by
  obtain ⟨b1, b2⟩ := vblk2 (w := w) (Below.refl _ ((w.alloc (.cells #[.slice A n cap] 24)).alloc (.cells #[.string ky.str, .int .i64 ky.sym] 57)))
  exact ⟨vafter (vzero _ _), b1, b2⟩
theorem S1.q {w : World} {A : Option Addr} {n cap : Nat} {ky : Ky} {W : World} (h : S1 w A n cap ky W) : W.cell? ⟨w.heap.size, 0, none⟩ = some (.slice A n cap) := (vcells h.h 0).trans rfl
/-- with what Do gave -/
structure S2 (w : World) (A : Option Addr) (n cap : Nat) (ky : Ky) (gx go B : Nat) (H M2 : List Ob) (W : World) : Prop where
  s : S1 w A n cap ky W
  x : W.heap[gx]? = some (.cells #[.slice (some ⟨B, 0, none⟩) n n] 24 (0, 0))
  o : W.heap[go]? = some (.cells (oqA (yesO true)) 52 (0, 0))
  l : LeftH H B M2 W
theorem S2.up {w : World} {A : Option Addr} {n cap : Nat} {ky : Ky} {gx go B : Nat} {H M2 : List Ob} {W W' : World} (h : S2 w A n cap ky gx go B H M2 W) (hb : Below W.heap.size W W') : S2 w A n cap ky gx go B H M2 W' := ⟨h.s.up hb, vblkn hb h.x, vblkn hb h.o, h.l.up hb⟩
/-- with what it tells then -/
structure S3 (w : World) (A : Option Addr) (n cap : Nat) (ky : Ky) (gx go gy B : Nat) (H M2 : List Ob) (W : World) : Prop where
  s : S2 w A n cap ky gx go B H M2 W
  y : W.heap[gy]? = some (.cells (oqA (yesO false)) 52 (0, 0))
theorem S3.up {w : World} {A : Option Addr} {n cap : Nat} {ky : Ky} {gx go gy B : Nat} {H M2 : List Ob} {W W' : World} (h : S3 w A n cap ky gx go gy B H M2 W) (hb : Below W.heap.size W W') : S3 w A n cap ky gx go gy B H M2 W' := ⟨h.s.up hb, vblkn hb h.y⟩
noncomputable def tailS (n : Nat) : Code := match Tryz.f7.body with | some c => rgtN n c | none => .skip
set_option maxHeartbeats 8000000 in
set_option maxRecDepth 1000000 in
theorem ST9 {w W : World} {ad : Addr} {d cap k gx go gy gz B n1 : Nat} {ky : Ky} {was : Bool} {f E : Int} {q : Oq} {H M2 : List Ob} {x0 x2 x4 x6 x10 x11 x13 x16 x19 x20 x21 x22 x23 x24 x25 x26 x27 x28 x29 x30 x31 x32 x33 x34 x35 x36 x37 x38 x39 x40 x41 x42 x43 x44 x45 x46 x47 x48 x49 x50 x51 x52 x53 x54 x55 x56 x57 x58 x59 x60 x61 x62 x63 x64 x65 x66 x67 x68 x69 x70 x71 x72 x73 x74 x75 x76 x77 x78 x79 x80 x81 x82 x83 x84 x85 x86 x87 x88 x89 x90 x91 x92 x93 x94 x95 x96 x97 x98 x99 x100 x101 x102 x103 x104 x105 x106 x107 x108 x109 x110 x111 x112 x113 x114 x115 x116 x117 : Value} (hX : S3 w (some ad) d cap ky gx go gy B H M2 W) (hz : W.heap[gz]? = some (.cells (oqA q) 52 (0, 0))) (hq : f = 0 → E = 0 → was = false → q = yesO false) (cK1 : ∀ V : World, Below w.heap.size w V → Calls Tryz.prog 37 #[.agg #[.slice (some ad) d cap], .int .i64 (k : Int)] V fun e w' => ∃ O : Nat, e = .returned (.tuple #[.slice (some ⟨O, 0, none⟩) n1 n1, .int .i64 0]) ∧ Below V.heap.size V w') (cK2 : ∀ V : World, Below w.heap.size w V → LeftH H B M2 V → Calls Tryz.prog 37 #[.agg #[.slice (some ⟨B, 0, none⟩) d d], .int .i64 (k : Int)] V fun e w' => ∃ O : Nat, e = .returned (.tuple #[.slice (some ⟨O, 0, none⟩) n1 n1, .int .i64 0]) ∧ Below V.heap.size V w') : Code.wp Tryz.prog (tailS 9) (bodyPost Tryz.prog Tryz.f7 (fun e w' => e = .returned (.bool true) ∧ Below w.heap.size w w')) ⟨#[x0, .int .i64 (k : Int), x2, .pointer (some ⟨w.heap.size, 0, none⟩), x4, .pointer (some ⟨w.heap.size + 1, 0, none⟩), x6, .bool true, .pointer (some ⟨gx, 0, none⟩), .pointer (some ⟨go, 0, none⟩), x10, x11, .pointer (some ⟨gy, 0, none⟩), x13, .bool was, .int .i64 f, x16, .pointer (some ⟨gz, 0, none⟩), .int .i64 E, x19, x20, x21, x22, x23, x24, x25, x26, x27, x28, x29, x30, x31, x32, x33, x34, x35, x36, x37, x38, x39, x40, x41, x42, x43, x44, x45, x46, x47, x48, x49, x50, x51, x52, x53, x54, x55, x56, x57, x58, x59, x60, x61, x62, x63, x64, x65, x66, x67, x68, x69, x70, x71, x72, x73, x74, x75, x76, x77, x78, x79, x80, x81, x82, x83, x84, x85, x86, x87, x88, x89, x90, x91, x92, x93, x94, x95, x96, x97, x98, x99, x100, x101, x102, x103, x104, x105, x106, x107, x108, x109, x110, x111, x112, x113, x114, x115, x116, x117], []⟩ W := by
  have HS := Lib.hid hX
  have HZ := Lib.hid hz
  have HQ := Lib.hid hq
  clear hX hz hq
  unfold tailS
  dsimp only [Tryz.f7, rgtN]
  by_cases hf : f = 0
  · subst hf
    by_cases hE : E = 0
    · subst hE
      cases was with
      | true =>
        go_upto_region 16 with (first
          | ((with_reducible refine h1_ld ?_ rfl rfl HS.out.s.s.h ?_); (rfl))
          | ((with_reducible refine h1_ld ?_ rfl rfl HS.out.s.x ?_); (rfl))
          | (go_at_call 37; (with_reducible refine (cK1 _ HS.out.s.s.below).mono ?_); rintro e w1 ⟨O1, rfl, h9⟩; have HS := Lib.hid (HS.out.up h9); have HZ := Lib.hid (vblkn h9 HZ.out); have qo := (vcells HS.out.s.o 5).trans rfl; have qy0 := (vcells HS.out.y 0).trans rfl; have qy5 := (vcells HS.out.y 5).trans rfl; clear h9)
          | (go_at_call 37; (with_reducible refine (cK2 _ HS.out.s.s.below HS.out.s.l).mono ?_); rintro e w2 ⟨O2, rfl, h9⟩; have HS := Lib.hid (HS.out.up h9); have HZ := Lib.hid (vblkn h9 HZ.out); have qo : _ = some (Value.bool true) := (vcells HS.out.s.o 5).trans rfl; have qy0 : _ = some (Value.int .u8 1) := (vcells HS.out.y 0).trans rfl; have qy5 : _ = some (Value.bool false) := (vcells HS.out.y 5).trans rfl; clear h9))
        refine wp_region_lit (WL.out ?_)
        refine WL.take (v := .bool true) (d := 96) (by kernel_rfl) (by kernel_rfl) rfl ?_
        simp only [List.set]
        refine WL.take (v := .bool true) (d := 97) (by kernel_rfl) (by kernel_rfl) rfl ?_
        simp only [List.set]
        refine WL.take (v := .int .i64 0) (d := 98) (by kernel_rfl) (by kernel_rfl) rfl ?_
        simp only [List.set]
        refine WL.take (v := .bool false) (d := 99) (by kernel_rfl) (by kernel_rfl) rfl ?_
        simp only [List.set]
        refine WL.take (v := .bool false) (d := 100) (by kernel_rfl) (by kernel_rfl) rfl ?_
        simp only [List.set]
        refine WL.take (v := .int .i64 0) (d := 101) (by kernel_rfl) (by kernel_rfl) rfl ?_
        simp only [List.set]
        refine WL.take (v := .bool false) (d := 102) (by kernel_rfl) (by kernel_rfl) rfl ?_
        simp only [List.set]
        refine WL.take (v := .bool false) (d := 103) (by kernel_rfl) (by kernel_rfl) rfl ?_
        simp only [List.set]
        refine WL.take (v := .bool false) (d := 104) (by kernel_rfl) (by kernel_rfl) rfl ?_
        simp only [List.set]
        refine WL.take (v := .bool true) (d := 105) (by kernel_rfl) (by kernel_rfl) rfl ?_
        simp only [List.set]
        refine WL.take (v := .bool true) (d := 106) (by kernel_rfl) (by kernel_rfl) rfl ?_
        simp only [List.set]
        refine WL.take (v := .bool true) (d := 107) (by kernel_rfl) (by kernel_rfl) rfl ?_
        simp only [List.set]
        refine WL.skip (d := 108) (by kernel_rfl) rfl ?_
        simp only [List.set]
        refine WL.skip (d := 109) (by kernel_rfl) rfl ?_
        simp only [List.set]
        refine WL.skip (d := 110) (by kernel_rfl) rfl ?_
        simp only [List.set]
        refine WL.skip (d := 111) (by kernel_rfl) rfl ?_
        simp only [List.set]
        refine WL.skip (d := 112) (by kernel_rfl) rfl ?_
        simp only [List.set]
        refine WL.skip (d := 113) (by kernel_rfl) rfl ?_
        simp only [List.set]
        refine WL.skip (d := 114) (by kernel_rfl) rfl ?_
        simp only [List.set]
        refine WL.skip (d := 115) (by kernel_rfl) rfl ?_
        simp only [List.set]
        refine WL.take (v := .bool true) (d := 116) (by kernel_rfl) (by kernel_rfl) rfl ?_
        simp only [List.set]
        refine WL.take (v := .bool true) (d := 117) (by kernel_rfl) (by kernel_rfl) rfl ?_
        simp only [List.set]
        refine WL.take (v := .bool true) (d := 6) (by kernel_rfl) (by kernel_rfl) rfl ?_
        simp only [List.set]
        refine WL.none ?_
        go_wp2_with (fail)
        go_ret
        exact ⟨rfl, HS.out.s.s.below⟩
      | false =>
        obtain rfl : q = yesO false := HQ.out rfl rfl rfl
        go_upto_region 16 with (first
          | ((with_reducible refine h1_ld ?_ rfl rfl HS.out.s.s.h ?_); (rfl))
          | ((with_reducible refine h1_ld ?_ rfl rfl HS.out.s.x ?_); (rfl))
          | (go_at_call 37; (with_reducible refine (cK1 _ HS.out.s.s.below).mono ?_); rintro e w1 ⟨O1, rfl, h9⟩; have HS := Lib.hid (HS.out.up h9); have HZ := Lib.hid (vblkn h9 HZ.out); have qo := (vcells HS.out.s.o 5).trans rfl; have qy0 := (vcells HS.out.y 0).trans rfl; have qy5 := (vcells HS.out.y 5).trans rfl; clear h9)
          | (go_at_call 37; (with_reducible refine (cK2 _ HS.out.s.s.below HS.out.s.l).mono ?_); rintro e w2 ⟨O2, rfl, h9⟩; have HS := Lib.hid (HS.out.up h9); have HZ := Lib.hid (vblkn h9 HZ.out); have qo : _ = some (Value.bool true) := (vcells HS.out.s.o 5).trans rfl; have qy0 : _ = some (Value.int .u8 1) := (vcells HS.out.y 0).trans rfl; have qy5 : _ = some (Value.bool false) := (vcells HS.out.y 5).trans rfl; clear h9))
        have qz0 : _ = some (Value.int .u8 1) := (vcells HZ.out 0).trans rfl
        have qz5 : _ = some (Value.bool false) := (vcells HZ.out 5).trans rfl
        refine wp_region_lit (WL.out ?_)
        refine WL.take (v := .bool true) (d := 96) (by kernel_rfl) (by kernel_rfl) rfl ?_
        simp only [List.set]
        refine WL.take (v := .bool true) (d := 97) (by kernel_rfl) (by kernel_rfl) rfl ?_
        simp only [List.set]
        refine WL.take (v := .int .i64 0) (d := 98) (by kernel_rfl) (by kernel_rfl) rfl ?_
        simp only [List.set]
        refine WL.take (v := .bool false) (d := 99) (by kernel_rfl) (by kernel_rfl) rfl ?_
        simp only [List.set]
        refine WL.take (v := .bool false) (d := 100) (by kernel_rfl) (by kernel_rfl) rfl ?_
        simp only [List.set]
        refine WL.take (v := .int .i64 0) (d := 101) (by kernel_rfl) (by kernel_rfl) rfl ?_
        simp only [List.set]
        refine WL.take (v := .bool false) (d := 102) (by kernel_rfl) (by kernel_rfl) rfl ?_
        simp only [List.set]
        refine WL.take (v := .bool false) (d := 103) (by kernel_rfl) (by kernel_rfl) rfl ?_
        simp only [List.set]
        refine WL.take (v := .bool false) (d := 104) (by kernel_rfl) (by kernel_rfl) rfl ?_
        simp only [List.set]
        refine WL.take (v := .bool false) (d := 105) (by kernel_rfl) (by kernel_rfl) rfl ?_
        simp only [List.set]
        refine WL.take (v := .bool false) (d := 106) (by kernel_rfl) (by kernel_rfl) rfl ?_
        simp only [List.set]
        refine WL.take (v := .bool false) (d := 107) (by kernel_rfl) (by kernel_rfl) rfl ?_
        simp only [List.set]
        refine WL.take (v := .pointer (some ⟨gz, 0, none⟩)) (d := 108) (by kernel_rfl) (by kernel_rfl) rfl ?_
        simp only [List.set]
        refine WL.take (v := .int .u8 1) (d := 109) (by kernel_rfl) (by exact ex_load_at (u8_run qz0) rfl rfl) rfl ?_
        simp only [List.set]
        refine WL.take (v := .bool true) (d := 110) (by kernel_rfl) (by kernel_rfl) rfl ?_
        simp only [List.set]
        refine WL.take (v := .bool true) (d := 111) (by kernel_rfl) (by kernel_rfl) rfl ?_
        simp only [List.set]
        refine WL.take (v := .pointer (some ⟨gz, 5, none⟩)) (d := 112) (by kernel_rfl) (by kernel_rfl) rfl ?_
        simp only [List.set]
        refine WL.take (v := .bool false) (d := 113) (by kernel_rfl) (by exact ex_load_at (bl_run qz5) rfl rfl) rfl ?_
        simp only [List.set]
        refine WL.take (v := .bool true) (d := 114) (by kernel_rfl) (by kernel_rfl) rfl ?_
        simp only [List.set]
        refine WL.take (v := .bool true) (d := 115) (by kernel_rfl) (by kernel_rfl) rfl ?_
        simp only [List.set]
        refine WL.take (v := .bool true) (d := 116) (by kernel_rfl) (by kernel_rfl) rfl ?_
        simp only [List.set]
        refine WL.take (v := .bool true) (d := 117) (by kernel_rfl) (by kernel_rfl) rfl ?_
        simp only [List.set]
        refine WL.take (v := .bool true) (d := 6) (by kernel_rfl) (by kernel_rfl) rfl ?_
        simp only [List.set]
        refine WL.none ?_
        go_wp2_with (fail)
        go_ret
        exact ⟨rfl, HS.out.s.s.below⟩
    · have hEb : (E != 0) = true := by unfold bne; rw [beq_eq_false_iff_ne.2 hE]; rfl
      have hEz : (E == 0) = false := beq_eq_false_iff_ne.2 hE
      clear hE
      go_upto_region 16 with (first
        | ((with_reducible refine h1_ld ?_ rfl rfl HS.out.s.s.h ?_); (rfl))
        | ((with_reducible refine h1_ld ?_ rfl rfl HS.out.s.x ?_); (rfl))
        | (go_at_call 37; (with_reducible refine (cK1 _ HS.out.s.s.below).mono ?_); rintro e w1 ⟨O1, rfl, h9⟩; have HS := Lib.hid (HS.out.up h9); have HZ := Lib.hid (vblkn h9 HZ.out); have qo := (vcells HS.out.s.o 5).trans rfl; have qy0 := (vcells HS.out.y 0).trans rfl; have qy5 := (vcells HS.out.y 5).trans rfl; clear h9)
        | (go_at_call 37; (with_reducible refine (cK2 _ HS.out.s.s.below HS.out.s.l).mono ?_); rintro e w2 ⟨O2, rfl, h9⟩; have HS := Lib.hid (HS.out.up h9); have HZ := Lib.hid (vblkn h9 HZ.out); have qo : _ = some (Value.bool true) := (vcells HS.out.s.o 5).trans rfl; have qy0 : _ = some (Value.int .u8 1) := (vcells HS.out.y 0).trans rfl; have qy5 : _ = some (Value.bool false) := (vcells HS.out.y 5).trans rfl; clear h9))
      refine wp_region_lit (WL.out ?_)
      refine WL.take (v := .bool true) (d := 96) (by kernel_rfl) (by kernel_rfl) rfl ?_
      simp only [List.set]
      refine WL.take (v := .bool true) (d := 97) (by kernel_rfl) (by kernel_rfl) rfl ?_
      simp only [List.set]
      refine WL.take (v := .int .i64 0) (d := 98) (by kernel_rfl) (by kernel_rfl) rfl ?_
      simp only [List.set]
      refine WL.take (v := .bool false) (d := 99) (by kernel_rfl) (by kernel_rfl) rfl ?_
      simp only [List.set]
      refine WL.take (v := .bool false) (d := 100) (by kernel_rfl) (by kernel_rfl) rfl ?_
      simp only [List.set]
      refine WL.take (v := .int .i64 E) (d := 101) (by kernel_rfl) (by kernel_rfl) rfl ?_
      simp only [List.set]
      refine WL.take (v := .bool true) (d := 102) (by kernel_rfl) (by go_simp; (try with_reducible rfl)) rfl ?_
      simp only [List.set]
      refine WL.take (v := .bool true) (d := 103) (by kernel_rfl) (by kernel_rfl) rfl ?_
      simp only [List.set]
      refine WL.take (v := .bool true) (d := 104) (by kernel_rfl) (by kernel_rfl) rfl ?_
      simp only [List.set]
      refine WL.skip (d := 105) (by kernel_rfl) rfl ?_
      simp only [List.set]
      refine WL.take (v := .bool true) (d := 106) (by kernel_rfl) (by kernel_rfl) rfl ?_
      simp only [List.set]
      refine WL.take (v := .bool true) (d := 107) (by kernel_rfl) (by kernel_rfl) rfl ?_
      simp only [List.set]
      refine WL.skip (d := 108) (by kernel_rfl) rfl ?_
      simp only [List.set]
      refine WL.skip (d := 109) (by kernel_rfl) rfl ?_
      simp only [List.set]
      refine WL.skip (d := 110) (by kernel_rfl) rfl ?_
      simp only [List.set]
      refine WL.skip (d := 111) (by kernel_rfl) rfl ?_
      simp only [List.set]
      refine WL.skip (d := 112) (by kernel_rfl) rfl ?_
      simp only [List.set]
      refine WL.skip (d := 113) (by kernel_rfl) rfl ?_
      simp only [List.set]
      refine WL.skip (d := 114) (by kernel_rfl) rfl ?_
      simp only [List.set]
      refine WL.skip (d := 115) (by kernel_rfl) rfl ?_
      simp only [List.set]
      refine WL.take (v := .bool true) (d := 116) (by kernel_rfl) (by kernel_rfl) rfl ?_
      simp only [List.set]
      refine WL.take (v := .bool true) (d := 117) (by kernel_rfl) (by kernel_rfl) rfl ?_
      simp only [List.set]
      refine WL.take (v := .bool true) (d := 6) (by kernel_rfl) (by kernel_rfl) rfl ?_
      simp only [List.set]
      refine WL.none ?_
      go_wp2_with (fail)
      go_ret
      exact ⟨rfl, HS.out.s.s.below⟩
  · have hfb : (f != 0) = true := by unfold bne; rw [beq_eq_false_iff_ne.2 hf]; rfl
    have hfz : (f == 0) = false := beq_eq_false_iff_ne.2 hf
    clear hf
    go_upto_region 16 with (first
      | ((with_reducible refine h1_ld ?_ rfl rfl HS.out.s.s.h ?_); (rfl))
      | ((with_reducible refine h1_ld ?_ rfl rfl HS.out.s.x ?_); (rfl))
      | (go_at_call 37; (with_reducible refine (cK1 _ HS.out.s.s.below).mono ?_); rintro e w1 ⟨O1, rfl, h9⟩; have HS := Lib.hid (HS.out.up h9); have HZ := Lib.hid (vblkn h9 HZ.out); have qo := (vcells HS.out.s.o 5).trans rfl; have qy0 := (vcells HS.out.y 0).trans rfl; have qy5 := (vcells HS.out.y 5).trans rfl; clear h9)
      | (go_at_call 37; (with_reducible refine (cK2 _ HS.out.s.s.below HS.out.s.l).mono ?_); rintro e w2 ⟨O2, rfl, h9⟩; have HS := Lib.hid (HS.out.up h9); have HZ := Lib.hid (vblkn h9 HZ.out); have qo : _ = some (Value.bool true) := (vcells HS.out.s.o 5).trans rfl; have qy0 : _ = some (Value.int .u8 1) := (vcells HS.out.y 0).trans rfl; have qy5 : _ = some (Value.bool false) := (vcells HS.out.y 5).trans rfl; clear h9))
    refine wp_region_lit (WL.out ?_)
    refine WL.take (v := .bool true) (d := 96) (by kernel_rfl) (by kernel_rfl) rfl ?_
    simp only [List.set]
    refine WL.take (v := .bool true) (d := 97) (by kernel_rfl) (by kernel_rfl) rfl ?_
    simp only [List.set]
    refine WL.take (v := .int .i64 f) (d := 98) (by kernel_rfl) (by kernel_rfl) rfl ?_
    simp only [List.set]
    refine WL.take (v := .bool true) (d := 99) (by kernel_rfl) (by go_simp; (try with_reducible rfl)) rfl ?_
    simp only [List.set]
    refine WL.take (v := .bool true) (d := 100) (by kernel_rfl) (by kernel_rfl) rfl ?_
    simp only [List.set]
    refine WL.skip (d := 101) (by kernel_rfl) rfl ?_
    simp only [List.set]
    refine WL.skip (d := 102) (by kernel_rfl) rfl ?_
    simp only [List.set]
    refine WL.take (v := .bool true) (d := 103) (by kernel_rfl) (by kernel_rfl) rfl ?_
    simp only [List.set]
    refine WL.take (v := .bool true) (d := 104) (by kernel_rfl) (by kernel_rfl) rfl ?_
    simp only [List.set]
    refine WL.skip (d := 105) (by kernel_rfl) rfl ?_
    simp only [List.set]
    refine WL.take (v := .bool true) (d := 106) (by kernel_rfl) (by kernel_rfl) rfl ?_
    simp only [List.set]
    refine WL.take (v := .bool true) (d := 107) (by kernel_rfl) (by kernel_rfl) rfl ?_
    simp only [List.set]
    refine WL.skip (d := 108) (by kernel_rfl) rfl ?_
    simp only [List.set]
    refine WL.skip (d := 109) (by kernel_rfl) rfl ?_
    simp only [List.set]
    refine WL.skip (d := 110) (by kernel_rfl) rfl ?_
    simp only [List.set]
    refine WL.skip (d := 111) (by kernel_rfl) rfl ?_
    simp only [List.set]
    refine WL.skip (d := 112) (by kernel_rfl) rfl ?_
    simp only [List.set]
    refine WL.skip (d := 113) (by kernel_rfl) rfl ?_
    simp only [List.set]
    refine WL.skip (d := 114) (by kernel_rfl) rfl ?_
    simp only [List.set]
    refine WL.skip (d := 115) (by kernel_rfl) rfl ?_
    simp only [List.set]
    refine WL.take (v := .bool true) (d := 116) (by kernel_rfl) (by kernel_rfl) rfl ?_
    simp only [List.set]
    refine WL.take (v := .bool true) (d := 117) (by kernel_rfl) (by kernel_rfl) rfl ?_
    simp only [List.set]
    refine WL.take (v := .bool true) (d := 6) (by kernel_rfl) (by kernel_rfl) rfl ?_
    simp only [List.set]
    refine WL.none ?_
    go_wp2_with (fail)
    go_ret
    exact ⟨rfl, HS.out.s.s.below⟩
set_option maxHeartbeats 16000000 in
set_option maxRecDepth 1000000 in
theorem ST8 {w W : World} {ad : Addr} {d cap k gx go gy B n1 : Nat} {ky : Ky} {was : Bool} {f : Int} {H M2 : List Ob} {x0 x2 x4 x6 x10 x11 x13 x16 x17 x18 x19 x20 x21 x22 x23 x24 x25 x26 x27 x28 x29 x30 x31 x32 x33 x34 x35 x36 x37 x38 x39 x40 x41 x42 x43 x44 x45 x46 x47 x48 x49 x50 x51 x52 x53 x54 x55 x56 x57 x58 x59 x60 x61 x62 x63 x64 x65 x66 x67 x68 x69 x70 x71 x72 x73 x74 x75 x76 x77 x78 x79 x80 x81 x82 x83 x84 x85 x86 x87 x88 x89 x90 x91 x92 x93 x94 x95 x96 x97 x98 x99 x100 x101 x102 x103 x104 x105 x106 x107 x108 x109 x110 x111 x112 x113 x114 x115 x116 x117 : Value} (hX : S3 w (some ad) d cap ky gx go gy B H M2 W)
    (cP : ∀ V : World, Below w.heap.size w V → LeftH H B M2 V → Calls Tryz.prog 24 #[.agg #[.slice (some ⟨B, 0, none⟩) d d], .agg (akA (akq 6 k ky (dN 4619567317775286272) v0))] V fun e w' => ∃ v q E, v.oneCell' = true ∧ e = .returned (.tuple #[.agg #[v], .agg (oqA q), .int .i64 E]) ∧ (f = 0 → E = 0 → was = false → q = yesO false) ∧ Below V.heap.size V w') (cK1 : ∀ V : World, Below w.heap.size w V → Calls Tryz.prog 37 #[.agg #[.slice (some ad) d cap], .int .i64 (k : Int)] V fun e w' => ∃ O : Nat, e = .returned (.tuple #[.slice (some ⟨O, 0, none⟩) n1 n1, .int .i64 0]) ∧ Below V.heap.size V w') (cK2 : ∀ V : World, Below w.heap.size w V → LeftH H B M2 V → Calls Tryz.prog 37 #[.agg #[.slice (some ⟨B, 0, none⟩) d d], .int .i64 (k : Int)] V fun e w' => ∃ O : Nat, e = .returned (.tuple #[.slice (some ⟨O, 0, none⟩) n1 n1, .int .i64 0]) ∧ Below V.heap.size V w') : Code.wp Tryz.prog (tailS 8) (bodyPost Tryz.prog Tryz.f7 (fun e w' => e = .returned (.bool true) ∧ Below w.heap.size w w')) ⟨#[x0, .int .i64 (k : Int), x2, .pointer (some ⟨w.heap.size, 0, none⟩), x4, .pointer (some ⟨w.heap.size + 1, 0, none⟩), x6, .bool true, .pointer (some ⟨gx, 0, none⟩), .pointer (some ⟨go, 0, none⟩), x10, x11, .pointer (some ⟨gy, 0, none⟩), x13, .bool was, .int .i64 f, x16, x17, x18, x19, x20, x21, x22, x23, x24, x25, x26, x27, x28, x29, x30, x31, x32, x33, x34, x35, x36, x37, x38, x39, x40, x41, x42, x43, x44, x45, x46, x47, x48, x49, x50, x51, x52, x53, x54, x55, x56, x57, x58, x59, x60, x61, x62, x63, x64, x65, x66, x67, x68, x69, x70, x71, x72, x73, x74, x75, x76, x77, x78, x79, x80, x81, x82, x83, x84, x85, x86, x87, x88, x89, x90, x91, x92, x93, x94, x95, x96, x97, x98, x99, x100, x101, x102, x103, x104, x105, x106, x107, x108, x109, x110, x111, x112, x113, x114, x115, x116, x117], []⟩ W := by
  have c7 := fun V => seven12 V
  have hi1 : ∀ v : Value, (Tryz.prog.info? 24).map (·.size) = some (#[v] : Array Value).size := fun v => hsz
  have hc1 : ∀ v : Value, v.oneCell' = true → (#[v] : Array Value).all (·.oneCell') = true := fun v h => cells_one (l := [v]) (by simpa using h)
  have HX := Lib.hid hX
  clear hX
  unfold tailS
  dsimp only [Tryz.f7, rgtN]
  go_step
  go_step
  go_cut [16, 17, 18] from 19 (fun _ qa ra wx => ∃ (gz : Nat) (q : Oq) (E : Int), qa = .pointer (some ⟨gz, 0, none⟩) ∧ ra = .int .i64 E ∧ Hid (S3 w (some ad) d cap ky gx go gy B H M2 wx ∧ wx.heap[gz]? = some (.cells (oqA q) 52 (0, 0)) ∧ (f = 0 → E = 0 → was = false → q = yesO false)))
  case first =>
    have HX := Lib.hid (HX.out.up (Below.refl _ _).drew)
    have HM : Hid (∀ V : World, Below W.heap.size W.drew V → W.heap.size ≤ V.heap.size) := Lib.hid fun V h => h.size
    have HV : Hid (∀ V V' : World, Below W.heap.size W.drew V → Below V.heap.size V V' → Below W.heap.size W.drew V') := Lib.hid fun V V' h hb => vbm h (Nat.le_refl W.heap.size) hb
    have HUP := Lib.hid (fun (V : World) (hb : Below W.heap.size W.drew V) => HX.out.up hb)
    have hS : Below W.heap.size W.drew W.drew := Below.refl _ _
    clear HX
    refine wp_region_held_drew (S := fun V : World => Below W.heap.size W.drew V) (by kernel_rfl) hS (fun hHeld => ?_)
    generalize World.drew W = W0 at *
    refine hH_take (i := 0) (v := .agg #[.slice (some ⟨B, 0, none⟩) d d]) (d := 56) (l2 := #[true, false, false, false, false, false, false, false, false, false, false, false, false, false, false]) rfl (by kernel_rfl) (by kernel_rfl) (by kernel_rfl) (fun _ _ _ h => h) (by kernel_rfl) ?_ (by assumption) rfl (by kernel_rfl) ?_
    · intro w hSw; exact ex_load_at (h1_load (HUP.out _ hSw).s.x) rfl rfl
    simp only [List.set]
    refine hH_take (i := 1) (v := .int .i64 (k : Int)) (d := 57) (l2 := #[true, true, false, false, false, false, false, false, false, false, false, false, false, false, false]) rfl (by kernel_rfl) (by kernel_rfl) (by kernel_rfl) (fun _ _ _ h => h) (by kernel_rfl) ?_ (by assumption) rfl (by kernel_rfl) ?_
    · intro w hSw; go_simp; (try with_reducible rfl)
    simp only [List.set]
    refine hH_take (i := 2) (v := .agg #[.string ky.str, .int .i64 ky.sym]) (d := 58) (l2 := #[true, true, true, false, false, false, false, false, false, false, false, false, false, false, false]) rfl (by kernel_rfl) (by kernel_rfl) (by kernel_rfl) (fun _ _ _ h => h) (by kernel_rfl) ?_ (by assumption) rfl (by kernel_rfl) ?_
    · intro w hSw; exact ex_load_at (k2_load (HUP.out _ hSw).s.s.k) rfl rfl
    simp only [List.set]
    refine wpAnyH_ready (rs := [3, 10, 11]) (by kernel_rfl) (by simp) ?_
    refine (AllReadyH.cons rfl (fun K hK => ?_) (AllReadyH.cons rfl (fun K hK => ?_) (AllReadyH.cons rfl (fun K hK => ?_) AllReadyH.nil)))
    · skip
      go_simp
      go_at_call 23
      (with_reducible refine (c7 _).mono ?_)
      rintro e wA1 ⟨rfl, h9⟩
      have hS := HV.out _ _ hS h9
      clear h9
      refine hK.out _ _ hS (fun hHeld => ?_)
      clear hK K
      refine hH_take (i := 4) (v := .agg (akA (akq 6 (k : Int) ky (dN 4619567317775286272) v0))) (d := 60) (l2 := #[true, true, true, true, true, false, false, false, false, false, false, false, false, false, false]) rfl (by kernel_rfl) (by kernel_rfl) (by kernel_rfl) (fun _ _ _ h => h) (by kernel_rfl) ?_ (by assumption) rfl (by kernel_rfl) ?_
      · intro w hSw; exact ea_akm6 rfl rfl rfl rfl
      simp only [List.set]
      refine wpAnyH_ready (rs := [5, 10, 11]) (by kernel_rfl) (by simp) ?_
      refine (AllReadyH.cons rfl (fun K hK => ?_) (AllReadyH.cons rfl (fun K hK => ?_) (AllReadyH.cons rfl (fun K hK => ?_) AllReadyH.nil)))
      · skip
        go_simp
        go_at_call 24
        (with_reducible refine (cP _ (HUP.out _ hS).s.s.below (HUP.out _ hS).s.l).mono ?_)
        rintro e wD2 ⟨v, q, E, hv1, rfl, hq, h9⟩
        have hS := HV.out _ _ hS h9
        clear h9
        refine hK.out _ _ hS (fun hHeld => ?_)
        clear hK K
        refine hH_take (i := 6) (v := .tuple #[.agg #[v], .agg (oqA q), .int .i64 E]) (d := 55) (l2 := #[true, true, true, true, true, true, true, false, false, false, false, false, false, false, false]) rfl (by kernel_rfl) (by kernel_rfl) (by kernel_rfl) (fun _ _ _ h => h) (by kernel_rfl) ?_ (by assumption) rfl (by kernel_rfl) ?_
        · intro w hSw; go_simp; (try with_reducible rfl)
        simp only [List.set]
        refine hH_take (i := 7) (v := .agg #[v]) (d := 62) (l2 := #[true, true, true, true, true, true, true, true, false, false, false, false, false, false, false]) rfl (by kernel_rfl) (by kernel_rfl) (by kernel_rfl) (fun _ _ _ h => h) (by kernel_rfl) ?_ (by assumption) rfl (by kernel_rfl) ?_
        · intro w hSw; go_simp; (try with_reducible rfl)
        simp only [List.set]
        refine hH_take (i := 8) (v := .agg (oqA q)) (d := 63) (l2 := #[true, true, true, true, true, true, true, true, true, false, false, false, false, false, false]) rfl (by kernel_rfl) (by kernel_rfl) (by kernel_rfl) (fun _ _ _ h => h) (by kernel_rfl) ?_ (by assumption) rfl (by kernel_rfl) ?_
        · intro w hSw; go_simp; (try with_reducible rfl)
        simp only [List.set]
        refine hH_take (i := 9) (v := .int .i64 E) (d := 64) (l2 := #[true, true, true, true, true, true, true, true, true, true, false, false, false, false, false]) rfl (by kernel_rfl) (by kernel_rfl) (by kernel_rfl) (fun _ _ _ h => h) (by kernel_rfl) ?_ (by assumption) rfl (by kernel_rfl) ?_
        · intro w hSw; go_simp; (try with_reducible rfl)
        simp only [List.set]
        refine wpAnyH_ready (rs := [10, 11]) (by kernel_rfl) (by simp) ?_
        refine (AllReadyH.cons rfl (fun K hK => ?_) (AllReadyH.cons rfl (fun K hK => ?_) AllReadyH.nil))
        · skip
          refine r_val (by kernel_rfl) (ea_hp1 rfl) rfl ?_
          simp only [List.set]
          have hmg16 := HM.out _ hS
          have hx := heap_alloc_new wD2 (.cells #[.slice none 0 0] 24)
          have hS := HV.out _ _ hS (vzero wD2 (.cells #[.slice none 0 0] 24))
          generalize wD2.alloc (.cells #[.slice none 0 0] 24) = Wn3 at *
          generalize wD2.heap.size = g16 at *
          refine hK.out _ _ hS (fun hHeld => ?_)
          clear hK K
          refine wpAnyH_ready (rs := [11]) (by kernel_rfl) (by simp) ?_
          refine (AllReadyH.cons rfl (fun K hK => ?_) AllReadyH.nil)
          · skip
            refine r_val (by kernel_rfl) (ea_oz26 rfl) rfl ?_
            simp only [List.set]
            have hmg17 := HM.out _ hS
            have hx := vblkn (vzero Wn3 (.cells oz26 52)) hx
            have hy := heap_alloc_new Wn3 (.cells oz26 52)
            have hS := HV.out _ _ hS (vzero Wn3 (.cells oz26 52))
            generalize Wn3.alloc (.cells oz26 52) = Wn4 at *
            generalize Wn3.heap.size = g17 at *
            refine hK.out _ _ hS (fun hHeld => ?_)
            clear hK K
            refine wpAnyH_ready (rs := [12]) (by kernel_rfl) (by simp) ?_
            refine AllReadyH.cons rfl (fun K hK => ?_) AllReadyH.nil
            refine r_store (by kernel_rfl) rfl rfl rfl hx (hi1 v) rfl (hc1 v hv1) rfl ?_
            have hne : g17 ≠ g16 := fun e => by rw [e, hx] at hy; cases hy
            have hy := (setRow_other Wn4 g16 g17 #[v] hne).trans hy
            have hS := below_row hS hmg16 #[v]
            generalize Wn4.setRow g16 #[v] = Wp at *
            refine hK.out _ _ hS (fun hHeld => ?_)
            clear hK K
            refine wpAnyH_ready (rs := [13]) (by kernel_rfl) (by simp) ?_
            refine AllReadyH.cons rfl (fun K hK => ?_) AllReadyH.nil
            refine r_store (by kernel_rfl) rfl rfl rfl hy (oq_info q) rfl (oqA_one q) rfl ?_
            have hz := setRow_heap _ _ _ (oqA q) _ _ hy
            have hS := below_row hS hmg17 (oqA q)
            generalize Wp.setRow g17 (oqA q) = Wq at *
            refine hK.out _ _ hS (fun hHeld => ?_)
            clear hK K
            refine hH_take (i := 14) (v := .int .i64 E) (d := 18) (l2 := #[true, true, true, true, true, true, true, true, true, true, true, true, true, true, true]) rfl (by kernel_rfl) (by kernel_rfl) (by kernel_rfl) (fun _ _ _ h => h) (by kernel_rfl) ?_ (by assumption) rfl (by kernel_rfl) ?_
            · intro w hSw; go_simp; (try with_reducible rfl)
            simp only [List.set]
            refine wpAnyH_done (by kernel_rfl) ?_ _
            go_wp2_with (fail)
            go_meet
            case rel => exact ⟨_, q, E, rfl, rfl, Lib.hid ⟨HUP.out _ hS, hz, hq⟩⟩
        · skip
          refine r_val (by kernel_rfl) (ea_oz26 rfl) rfl ?_
          simp only [List.set]
          have hmg17 := HM.out _ hS
          have hy := heap_alloc_new wD2 (.cells oz26 52)
          have hS := HV.out _ _ hS (vzero wD2 (.cells oz26 52))
          generalize wD2.alloc (.cells oz26 52) = Wn5 at *
          generalize wD2.heap.size = g17 at *
          refine hK.out _ _ hS (fun hHeld => ?_)
          clear hK K
          refine wpAnyH_ready (rs := [10]) (by kernel_rfl) (by simp) ?_
          refine (AllReadyH.cons rfl (fun K hK => ?_) AllReadyH.nil)
          · skip
            refine r_val (by kernel_rfl) (ea_hp1 rfl) rfl ?_
            simp only [List.set]
            have hmg16 := HM.out _ hS
            have hy := vblkn (vzero Wn5 (.cells #[.slice none 0 0] 24)) hy
            have hx := heap_alloc_new Wn5 (.cells #[.slice none 0 0] 24)
            have hS := HV.out _ _ hS (vzero Wn5 (.cells #[.slice none 0 0] 24))
            generalize Wn5.alloc (.cells #[.slice none 0 0] 24) = Wn6 at *
            generalize Wn5.heap.size = g16 at *
            refine hK.out _ _ hS (fun hHeld => ?_)
            clear hK K
            refine wpAnyH_ready (rs := [12]) (by kernel_rfl) (by simp) ?_
            refine AllReadyH.cons rfl (fun K hK => ?_) AllReadyH.nil
            refine r_store (by kernel_rfl) rfl rfl rfl hx (hi1 v) rfl (hc1 v hv1) rfl ?_
            have hne : g17 ≠ g16 := fun e => by rw [e, hx] at hy; cases hy
            have hy := (setRow_other Wn6 g16 g17 #[v] hne).trans hy
            have hS := below_row hS hmg16 #[v]
            generalize Wn6.setRow g16 #[v] = Wp at *
            refine hK.out _ _ hS (fun hHeld => ?_)
            clear hK K
            refine wpAnyH_ready (rs := [13]) (by kernel_rfl) (by simp) ?_
            refine AllReadyH.cons rfl (fun K hK => ?_) AllReadyH.nil
            refine r_store (by kernel_rfl) rfl rfl rfl hy (oq_info q) rfl (oqA_one q) rfl ?_
            have hz := setRow_heap _ _ _ (oqA q) _ _ hy
            have hS := below_row hS hmg17 (oqA q)
            generalize Wp.setRow g17 (oqA q) = Wq at *
            refine hK.out _ _ hS (fun hHeld => ?_)
            clear hK K
            refine hH_take (i := 14) (v := .int .i64 E) (d := 18) (l2 := #[true, true, true, true, true, true, true, true, true, true, true, true, true, true, true]) rfl (by kernel_rfl) (by kernel_rfl) (by kernel_rfl) (fun _ _ _ h => h) (by kernel_rfl) ?_ (by assumption) rfl (by kernel_rfl) ?_
            · intro w hSw; go_simp; (try with_reducible rfl)
            simp only [List.set]
            refine wpAnyH_done (by kernel_rfl) ?_ _
            go_wp2_with (fail)
            go_meet
            case rel => exact ⟨_, q, E, rfl, rfl, Lib.hid ⟨HUP.out _ hS, hz, hq⟩⟩
      · skip
        refine r_val (by kernel_rfl) (ea_hp1 rfl) rfl ?_
        simp only [List.set]
        have hmg16 := HM.out _ hS
        have hx := heap_alloc_new wA1 (.cells #[.slice none 0 0] 24)
        have hS := HV.out _ _ hS (vzero wA1 (.cells #[.slice none 0 0] 24))
        generalize wA1.alloc (.cells #[.slice none 0 0] 24) = Wn7 at *
        generalize wA1.heap.size = g16 at *
        refine hK.out _ _ hS (fun hHeld => ?_)
        clear hK K
        refine wpAnyH_ready (rs := [5, 11]) (by kernel_rfl) (by simp) ?_
        refine (AllReadyH.cons rfl (fun K hK => ?_) (AllReadyH.cons rfl (fun K hK => ?_) AllReadyH.nil))
        · skip
          go_simp
          go_at_call 24
          (with_reducible refine (cP _ (HUP.out _ hS).s.s.below (HUP.out _ hS).s.l).mono ?_)
          rintro e wD8 ⟨v, q, E, hv1, rfl, hq, h9⟩
          have hS := HV.out _ _ hS h9
          have hx := vblkn h9 hx
          clear h9
          refine hK.out _ _ hS (fun hHeld => ?_)
          clear hK K
          refine hH_take (i := 6) (v := .tuple #[.agg #[v], .agg (oqA q), .int .i64 E]) (d := 55) (l2 := #[true, true, true, true, true, true, true, false, false, false, true, false, false, false, false]) rfl (by kernel_rfl) (by kernel_rfl) (by kernel_rfl) (fun _ _ _ h => h) (by kernel_rfl) ?_ (by assumption) rfl (by kernel_rfl) ?_
          · intro w hSw; go_simp; (try with_reducible rfl)
          simp only [List.set]
          refine hH_take (i := 7) (v := .agg #[v]) (d := 62) (l2 := #[true, true, true, true, true, true, true, true, false, false, true, false, false, false, false]) rfl (by kernel_rfl) (by kernel_rfl) (by kernel_rfl) (fun _ _ _ h => h) (by kernel_rfl) ?_ (by assumption) rfl (by kernel_rfl) ?_
          · intro w hSw; go_simp; (try with_reducible rfl)
          simp only [List.set]
          refine hH_take (i := 8) (v := .agg (oqA q)) (d := 63) (l2 := #[true, true, true, true, true, true, true, true, true, false, true, false, false, false, false]) rfl (by kernel_rfl) (by kernel_rfl) (by kernel_rfl) (fun _ _ _ h => h) (by kernel_rfl) ?_ (by assumption) rfl (by kernel_rfl) ?_
          · intro w hSw; go_simp; (try with_reducible rfl)
          simp only [List.set]
          refine hH_take (i := 9) (v := .int .i64 E) (d := 64) (l2 := #[true, true, true, true, true, true, true, true, true, true, true, false, false, false, false]) rfl (by kernel_rfl) (by kernel_rfl) (by kernel_rfl) (fun _ _ _ h => h) (by kernel_rfl) ?_ (by assumption) rfl (by kernel_rfl) ?_
          · intro w hSw; go_simp; (try with_reducible rfl)
          simp only [List.set]
          refine wpAnyH_ready (rs := [11]) (by kernel_rfl) (by simp) ?_
          refine (AllReadyH.cons rfl (fun K hK => ?_) AllReadyH.nil)
          · skip
            refine r_val (by kernel_rfl) (ea_oz26 rfl) rfl ?_
            simp only [List.set]
            have hmg17 := HM.out _ hS
            have hx := vblkn (vzero wD8 (.cells oz26 52)) hx
            have hy := heap_alloc_new wD8 (.cells oz26 52)
            have hS := HV.out _ _ hS (vzero wD8 (.cells oz26 52))
            generalize wD8.alloc (.cells oz26 52) = Wn9 at *
            generalize wD8.heap.size = g17 at *
            refine hK.out _ _ hS (fun hHeld => ?_)
            clear hK K
            refine wpAnyH_ready (rs := [12]) (by kernel_rfl) (by simp) ?_
            refine AllReadyH.cons rfl (fun K hK => ?_) AllReadyH.nil
            refine r_store (by kernel_rfl) rfl rfl rfl hx (hi1 v) rfl (hc1 v hv1) rfl ?_
            have hne : g17 ≠ g16 := fun e => by rw [e, hx] at hy; cases hy
            have hy := (setRow_other Wn9 g16 g17 #[v] hne).trans hy
            have hS := below_row hS hmg16 #[v]
            generalize Wn9.setRow g16 #[v] = Wp at *
            refine hK.out _ _ hS (fun hHeld => ?_)
            clear hK K
            refine wpAnyH_ready (rs := [13]) (by kernel_rfl) (by simp) ?_
            refine AllReadyH.cons rfl (fun K hK => ?_) AllReadyH.nil
            refine r_store (by kernel_rfl) rfl rfl rfl hy (oq_info q) rfl (oqA_one q) rfl ?_
            have hz := setRow_heap _ _ _ (oqA q) _ _ hy
            have hS := below_row hS hmg17 (oqA q)
            generalize Wp.setRow g17 (oqA q) = Wq at *
            refine hK.out _ _ hS (fun hHeld => ?_)
            clear hK K
            refine hH_take (i := 14) (v := .int .i64 E) (d := 18) (l2 := #[true, true, true, true, true, true, true, true, true, true, true, true, true, true, true]) rfl (by kernel_rfl) (by kernel_rfl) (by kernel_rfl) (fun _ _ _ h => h) (by kernel_rfl) ?_ (by assumption) rfl (by kernel_rfl) ?_
            · intro w hSw; go_simp; (try with_reducible rfl)
            simp only [List.set]
            refine wpAnyH_done (by kernel_rfl) ?_ _
            go_wp2_with (fail)
            go_meet
            case rel => exact ⟨_, q, E, rfl, rfl, Lib.hid ⟨HUP.out _ hS, hz, hq⟩⟩
        · skip
          refine r_val (by kernel_rfl) (ea_oz26 rfl) rfl ?_
          simp only [List.set]
          have hmg17 := HM.out _ hS
          have hx := vblkn (vzero Wn7 (.cells oz26 52)) hx
          have hy := heap_alloc_new Wn7 (.cells oz26 52)
          have hS := HV.out _ _ hS (vzero Wn7 (.cells oz26 52))
          generalize Wn7.alloc (.cells oz26 52) = Wn10 at *
          generalize Wn7.heap.size = g17 at *
          refine hK.out _ _ hS (fun hHeld => ?_)
          clear hK K
          refine wpAnyH_ready (rs := [5]) (by kernel_rfl) (by simp) ?_
          refine (AllReadyH.cons rfl (fun K hK => ?_) AllReadyH.nil)
          · skip
            go_simp
            go_at_call 24
            (with_reducible refine (cP _ (HUP.out _ hS).s.s.below (HUP.out _ hS).s.l).mono ?_)
            rintro e wD11 ⟨v, q, E, hv1, rfl, hq, h9⟩
            have hS := HV.out _ _ hS h9
            have hx := vblkn h9 hx
            have hy := vblkn h9 hy
            clear h9
            refine hK.out _ _ hS (fun hHeld => ?_)
            clear hK K
            refine hH_take (i := 6) (v := .tuple #[.agg #[v], .agg (oqA q), .int .i64 E]) (d := 55) (l2 := #[true, true, true, true, true, true, true, false, false, false, true, true, false, false, false]) rfl (by kernel_rfl) (by kernel_rfl) (by kernel_rfl) (fun _ _ _ h => h) (by kernel_rfl) ?_ (by assumption) rfl (by kernel_rfl) ?_
            · intro w hSw; go_simp; (try with_reducible rfl)
            simp only [List.set]
            refine hH_take (i := 7) (v := .agg #[v]) (d := 62) (l2 := #[true, true, true, true, true, true, true, true, false, false, true, true, false, false, false]) rfl (by kernel_rfl) (by kernel_rfl) (by kernel_rfl) (fun _ _ _ h => h) (by kernel_rfl) ?_ (by assumption) rfl (by kernel_rfl) ?_
            · intro w hSw; go_simp; (try with_reducible rfl)
            simp only [List.set]
            refine hH_take (i := 8) (v := .agg (oqA q)) (d := 63) (l2 := #[true, true, true, true, true, true, true, true, true, false, true, true, false, false, false]) rfl (by kernel_rfl) (by kernel_rfl) (by kernel_rfl) (fun _ _ _ h => h) (by kernel_rfl) ?_ (by assumption) rfl (by kernel_rfl) ?_
            · intro w hSw; go_simp; (try with_reducible rfl)
            simp only [List.set]
            refine hH_take (i := 9) (v := .int .i64 E) (d := 64) (l2 := #[true, true, true, true, true, true, true, true, true, true, true, true, false, false, false]) rfl (by kernel_rfl) (by kernel_rfl) (by kernel_rfl) (fun _ _ _ h => h) (by kernel_rfl) ?_ (by assumption) rfl (by kernel_rfl) ?_
            · intro w hSw; go_simp; (try with_reducible rfl)
            simp only [List.set]
            refine wpAnyH_ready (rs := [12]) (by kernel_rfl) (by simp) ?_
            refine AllReadyH.cons rfl (fun K hK => ?_) AllReadyH.nil
            refine r_store (by kernel_rfl) rfl rfl rfl hx (hi1 v) rfl (hc1 v hv1) rfl ?_
            have hne : g17 ≠ g16 := fun e => by rw [e, hx] at hy; cases hy
            have hy := (setRow_other wD11 g16 g17 #[v] hne).trans hy
            have hS := below_row hS hmg16 #[v]
            generalize wD11.setRow g16 #[v] = Wp at *
            refine hK.out _ _ hS (fun hHeld => ?_)
            clear hK K
            refine wpAnyH_ready (rs := [13]) (by kernel_rfl) (by simp) ?_
            refine AllReadyH.cons rfl (fun K hK => ?_) AllReadyH.nil
            refine r_store (by kernel_rfl) rfl rfl rfl hy (oq_info q) rfl (oqA_one q) rfl ?_
            have hz := setRow_heap _ _ _ (oqA q) _ _ hy
            have hS := below_row hS hmg17 (oqA q)
            generalize Wp.setRow g17 (oqA q) = Wq at *
            refine hK.out _ _ hS (fun hHeld => ?_)
            clear hK K
            refine hH_take (i := 14) (v := .int .i64 E) (d := 18) (l2 := #[true, true, true, true, true, true, true, true, true, true, true, true, true, true, true]) rfl (by kernel_rfl) (by kernel_rfl) (by kernel_rfl) (fun _ _ _ h => h) (by kernel_rfl) ?_ (by assumption) rfl (by kernel_rfl) ?_
            · intro w hSw; go_simp; (try with_reducible rfl)
            simp only [List.set]
            refine wpAnyH_done (by kernel_rfl) ?_ _
            go_wp2_with (fail)
            go_meet
            case rel => exact ⟨_, q, E, rfl, rfl, Lib.hid ⟨HUP.out _ hS, hz, hq⟩⟩
      · skip
        refine r_val (by kernel_rfl) (ea_oz26 rfl) rfl ?_
        simp only [List.set]
        have hmg17 := HM.out _ hS
        have hy := heap_alloc_new wA1 (.cells oz26 52)
        have hS := HV.out _ _ hS (vzero wA1 (.cells oz26 52))
        generalize wA1.alloc (.cells oz26 52) = Wn12 at *
        generalize wA1.heap.size = g17 at *
        refine hK.out _ _ hS (fun hHeld => ?_)
        clear hK K
        refine wpAnyH_ready (rs := [5, 10]) (by kernel_rfl) (by simp) ?_
        refine (AllReadyH.cons rfl (fun K hK => ?_) (AllReadyH.cons rfl (fun K hK => ?_) AllReadyH.nil))
        · skip
          go_simp
          go_at_call 24
          (with_reducible refine (cP _ (HUP.out _ hS).s.s.below (HUP.out _ hS).s.l).mono ?_)
          rintro e wD13 ⟨v, q, E, hv1, rfl, hq, h9⟩
          have hS := HV.out _ _ hS h9
          have hy := vblkn h9 hy
          clear h9
          refine hK.out _ _ hS (fun hHeld => ?_)
          clear hK K
          refine hH_take (i := 6) (v := .tuple #[.agg #[v], .agg (oqA q), .int .i64 E]) (d := 55) (l2 := #[true, true, true, true, true, true, true, false, false, false, false, true, false, false, false]) rfl (by kernel_rfl) (by kernel_rfl) (by kernel_rfl) (fun _ _ _ h => h) (by kernel_rfl) ?_ (by assumption) rfl (by kernel_rfl) ?_
          · intro w hSw; go_simp; (try with_reducible rfl)
          simp only [List.set]
          refine hH_take (i := 7) (v := .agg #[v]) (d := 62) (l2 := #[true, true, true, true, true, true, true, true, false, false, false, true, false, false, false]) rfl (by kernel_rfl) (by kernel_rfl) (by kernel_rfl) (fun _ _ _ h => h) (by kernel_rfl) ?_ (by assumption) rfl (by kernel_rfl) ?_
          · intro w hSw; go_simp; (try with_reducible rfl)
          simp only [List.set]
          refine hH_take (i := 8) (v := .agg (oqA q)) (d := 63) (l2 := #[true, true, true, true, true, true, true, true, true, false, false, true, false, false, false]) rfl (by kernel_rfl) (by kernel_rfl) (by kernel_rfl) (fun _ _ _ h => h) (by kernel_rfl) ?_ (by assumption) rfl (by kernel_rfl) ?_
          · intro w hSw; go_simp; (try with_reducible rfl)
          simp only [List.set]
          refine hH_take (i := 9) (v := .int .i64 E) (d := 64) (l2 := #[true, true, true, true, true, true, true, true, true, true, false, true, false, false, false]) rfl (by kernel_rfl) (by kernel_rfl) (by kernel_rfl) (fun _ _ _ h => h) (by kernel_rfl) ?_ (by assumption) rfl (by kernel_rfl) ?_
          · intro w hSw; go_simp; (try with_reducible rfl)
          simp only [List.set]
          refine wpAnyH_ready (rs := [10]) (by kernel_rfl) (by simp) ?_
          refine (AllReadyH.cons rfl (fun K hK => ?_) AllReadyH.nil)
          · skip
            refine r_val (by kernel_rfl) (ea_hp1 rfl) rfl ?_
            simp only [List.set]
            have hmg16 := HM.out _ hS
            have hy := vblkn (vzero wD13 (.cells #[.slice none 0 0] 24)) hy
            have hx := heap_alloc_new wD13 (.cells #[.slice none 0 0] 24)
            have hS := HV.out _ _ hS (vzero wD13 (.cells #[.slice none 0 0] 24))
            generalize wD13.alloc (.cells #[.slice none 0 0] 24) = Wn14 at *
            generalize wD13.heap.size = g16 at *
            refine hK.out _ _ hS (fun hHeld => ?_)
            clear hK K
            refine wpAnyH_ready (rs := [12]) (by kernel_rfl) (by simp) ?_
            refine AllReadyH.cons rfl (fun K hK => ?_) AllReadyH.nil
            refine r_store (by kernel_rfl) rfl rfl rfl hx (hi1 v) rfl (hc1 v hv1) rfl ?_
            have hne : g17 ≠ g16 := fun e => by rw [e, hx] at hy; cases hy
            have hy := (setRow_other Wn14 g16 g17 #[v] hne).trans hy
            have hS := below_row hS hmg16 #[v]
            generalize Wn14.setRow g16 #[v] = Wp at *
            refine hK.out _ _ hS (fun hHeld => ?_)
            clear hK K
            refine wpAnyH_ready (rs := [13]) (by kernel_rfl) (by simp) ?_
            refine AllReadyH.cons rfl (fun K hK => ?_) AllReadyH.nil
            refine r_store (by kernel_rfl) rfl rfl rfl hy (oq_info q) rfl (oqA_one q) rfl ?_
            have hz := setRow_heap _ _ _ (oqA q) _ _ hy
            have hS := below_row hS hmg17 (oqA q)
            generalize Wp.setRow g17 (oqA q) = Wq at *
            refine hK.out _ _ hS (fun hHeld => ?_)
            clear hK K
            refine hH_take (i := 14) (v := .int .i64 E) (d := 18) (l2 := #[true, true, true, true, true, true, true, true, true, true, true, true, true, true, true]) rfl (by kernel_rfl) (by kernel_rfl) (by kernel_rfl) (fun _ _ _ h => h) (by kernel_rfl) ?_ (by assumption) rfl (by kernel_rfl) ?_
            · intro w hSw; go_simp; (try with_reducible rfl)
            simp only [List.set]
            refine wpAnyH_done (by kernel_rfl) ?_ _
            go_wp2_with (fail)
            go_meet
            case rel => exact ⟨_, q, E, rfl, rfl, Lib.hid ⟨HUP.out _ hS, hz, hq⟩⟩
        · skip
          refine r_val (by kernel_rfl) (ea_hp1 rfl) rfl ?_
          simp only [List.set]
          have hmg16 := HM.out _ hS
          have hy := vblkn (vzero Wn12 (.cells #[.slice none 0 0] 24)) hy
          have hx := heap_alloc_new Wn12 (.cells #[.slice none 0 0] 24)
          have hS := HV.out _ _ hS (vzero Wn12 (.cells #[.slice none 0 0] 24))
          generalize Wn12.alloc (.cells #[.slice none 0 0] 24) = Wn15 at *
          generalize Wn12.heap.size = g16 at *
          refine hK.out _ _ hS (fun hHeld => ?_)
          clear hK K
          refine wpAnyH_ready (rs := [5]) (by kernel_rfl) (by simp) ?_
          refine (AllReadyH.cons rfl (fun K hK => ?_) AllReadyH.nil)
          · skip
            go_simp
            go_at_call 24
            (with_reducible refine (cP _ (HUP.out _ hS).s.s.below (HUP.out _ hS).s.l).mono ?_)
            rintro e wD16 ⟨v, q, E, hv1, rfl, hq, h9⟩
            have hS := HV.out _ _ hS h9
            have hx := vblkn h9 hx
            have hy := vblkn h9 hy
            clear h9
            refine hK.out _ _ hS (fun hHeld => ?_)
            clear hK K
            refine hH_take (i := 6) (v := .tuple #[.agg #[v], .agg (oqA q), .int .i64 E]) (d := 55) (l2 := #[true, true, true, true, true, true, true, false, false, false, true, true, false, false, false]) rfl (by kernel_rfl) (by kernel_rfl) (by kernel_rfl) (fun _ _ _ h => h) (by kernel_rfl) ?_ (by assumption) rfl (by kernel_rfl) ?_
            · intro w hSw; go_simp; (try with_reducible rfl)
            simp only [List.set]
            refine hH_take (i := 7) (v := .agg #[v]) (d := 62) (l2 := #[true, true, true, true, true, true, true, true, false, false, true, true, false, false, false]) rfl (by kernel_rfl) (by kernel_rfl) (by kernel_rfl) (fun _ _ _ h => h) (by kernel_rfl) ?_ (by assumption) rfl (by kernel_rfl) ?_
            · intro w hSw; go_simp; (try with_reducible rfl)
            simp only [List.set]
            refine hH_take (i := 8) (v := .agg (oqA q)) (d := 63) (l2 := #[true, true, true, true, true, true, true, true, true, false, true, true, false, false, false]) rfl (by kernel_rfl) (by kernel_rfl) (by kernel_rfl) (fun _ _ _ h => h) (by kernel_rfl) ?_ (by assumption) rfl (by kernel_rfl) ?_
            · intro w hSw; go_simp; (try with_reducible rfl)
            simp only [List.set]
            refine hH_take (i := 9) (v := .int .i64 E) (d := 64) (l2 := #[true, true, true, true, true, true, true, true, true, true, true, true, false, false, false]) rfl (by kernel_rfl) (by kernel_rfl) (by kernel_rfl) (fun _ _ _ h => h) (by kernel_rfl) ?_ (by assumption) rfl (by kernel_rfl) ?_
            · intro w hSw; go_simp; (try with_reducible rfl)
            simp only [List.set]
            refine wpAnyH_ready (rs := [12]) (by kernel_rfl) (by simp) ?_
            refine AllReadyH.cons rfl (fun K hK => ?_) AllReadyH.nil
            refine r_store (by kernel_rfl) rfl rfl rfl hx (hi1 v) rfl (hc1 v hv1) rfl ?_
            have hne : g17 ≠ g16 := fun e => by rw [e, hx] at hy; cases hy
            have hy := (setRow_other wD16 g16 g17 #[v] hne).trans hy
            have hS := below_row hS hmg16 #[v]
            generalize wD16.setRow g16 #[v] = Wp at *
            refine hK.out _ _ hS (fun hHeld => ?_)
            clear hK K
            refine wpAnyH_ready (rs := [13]) (by kernel_rfl) (by simp) ?_
            refine AllReadyH.cons rfl (fun K hK => ?_) AllReadyH.nil
            refine r_store (by kernel_rfl) rfl rfl rfl hy (oq_info q) rfl (oqA_one q) rfl ?_
            have hz := setRow_heap _ _ _ (oqA q) _ _ hy
            have hS := below_row hS hmg17 (oqA q)
            generalize Wp.setRow g17 (oqA q) = Wq at *
            refine hK.out _ _ hS (fun hHeld => ?_)
            clear hK K
            refine hH_take (i := 14) (v := .int .i64 E) (d := 18) (l2 := #[true, true, true, true, true, true, true, true, true, true, true, true, true, true, true]) rfl (by kernel_rfl) (by kernel_rfl) (by kernel_rfl) (fun _ _ _ h => h) (by kernel_rfl) ?_ (by assumption) rfl (by kernel_rfl) ?_
            · intro w hSw; go_simp; (try with_reducible rfl)
            simp only [List.set]
            refine wpAnyH_done (by kernel_rfl) ?_ _
            go_wp2_with (fail)
            go_meet
            case rel => exact ⟨_, q, E, rfl, rfl, Lib.hid ⟨HUP.out _ hS, hz, hq⟩⟩
    · skip
      refine r_val (by kernel_rfl) (ea_hp1 rfl) rfl ?_
      simp only [List.set]
      have hmg16 := HM.out _ hS
      have hx := heap_alloc_new W0 (.cells #[.slice none 0 0] 24)
      have hS := HV.out _ _ hS (vzero W0 (.cells #[.slice none 0 0] 24))
      generalize W0.alloc (.cells #[.slice none 0 0] 24) = Wn17 at *
      generalize W0.heap.size = g16 at *
      refine hK.out _ _ hS (fun hHeld => ?_)
      clear hK K
      refine wpAnyH_ready (rs := [3, 11]) (by kernel_rfl) (by simp) ?_
      refine (AllReadyH.cons rfl (fun K hK => ?_) (AllReadyH.cons rfl (fun K hK => ?_) AllReadyH.nil))
      · skip
        go_simp
        go_at_call 23
        (with_reducible refine (c7 _).mono ?_)
        rintro e wA18 ⟨rfl, h9⟩
        have hS := HV.out _ _ hS h9
        have hx := vblkn h9 hx
        clear h9
        refine hK.out _ _ hS (fun hHeld => ?_)
        clear hK K
        refine hH_take (i := 4) (v := .agg (akA (akq 6 (k : Int) ky (dN 4619567317775286272) v0))) (d := 60) (l2 := #[true, true, true, true, true, false, false, false, false, false, true, false, false, false, false]) rfl (by kernel_rfl) (by kernel_rfl) (by kernel_rfl) (fun _ _ _ h => h) (by kernel_rfl) ?_ (by assumption) rfl (by kernel_rfl) ?_
        · intro w hSw; exact ea_akm6 rfl rfl rfl rfl
        simp only [List.set]
        refine wpAnyH_ready (rs := [5, 11]) (by kernel_rfl) (by simp) ?_
        refine (AllReadyH.cons rfl (fun K hK => ?_) (AllReadyH.cons rfl (fun K hK => ?_) AllReadyH.nil))
        · skip
          go_simp
          go_at_call 24
          (with_reducible refine (cP _ (HUP.out _ hS).s.s.below (HUP.out _ hS).s.l).mono ?_)
          rintro e wD19 ⟨v, q, E, hv1, rfl, hq, h9⟩
          have hS := HV.out _ _ hS h9
          have hx := vblkn h9 hx
          clear h9
          refine hK.out _ _ hS (fun hHeld => ?_)
          clear hK K
          refine hH_take (i := 6) (v := .tuple #[.agg #[v], .agg (oqA q), .int .i64 E]) (d := 55) (l2 := #[true, true, true, true, true, true, true, false, false, false, true, false, false, false, false]) rfl (by kernel_rfl) (by kernel_rfl) (by kernel_rfl) (fun _ _ _ h => h) (by kernel_rfl) ?_ (by assumption) rfl (by kernel_rfl) ?_
          · intro w hSw; go_simp; (try with_reducible rfl)
          simp only [List.set]
          refine hH_take (i := 7) (v := .agg #[v]) (d := 62) (l2 := #[true, true, true, true, true, true, true, true, false, false, true, false, false, false, false]) rfl (by kernel_rfl) (by kernel_rfl) (by kernel_rfl) (fun _ _ _ h => h) (by kernel_rfl) ?_ (by assumption) rfl (by kernel_rfl) ?_
          · intro w hSw; go_simp; (try with_reducible rfl)
          simp only [List.set]
          refine hH_take (i := 8) (v := .agg (oqA q)) (d := 63) (l2 := #[true, true, true, true, true, true, true, true, true, false, true, false, false, false, false]) rfl (by kernel_rfl) (by kernel_rfl) (by kernel_rfl) (fun _ _ _ h => h) (by kernel_rfl) ?_ (by assumption) rfl (by kernel_rfl) ?_
          · intro w hSw; go_simp; (try with_reducible rfl)
          simp only [List.set]
          refine hH_take (i := 9) (v := .int .i64 E) (d := 64) (l2 := #[true, true, true, true, true, true, true, true, true, true, true, false, false, false, false]) rfl (by kernel_rfl) (by kernel_rfl) (by kernel_rfl) (fun _ _ _ h => h) (by kernel_rfl) ?_ (by assumption) rfl (by kernel_rfl) ?_
          · intro w hSw; go_simp; (try with_reducible rfl)
          simp only [List.set]
          refine wpAnyH_ready (rs := [11]) (by kernel_rfl) (by simp) ?_
          refine (AllReadyH.cons rfl (fun K hK => ?_) AllReadyH.nil)
          · skip
            refine r_val (by kernel_rfl) (ea_oz26 rfl) rfl ?_
            simp only [List.set]
            have hmg17 := HM.out _ hS
            have hx := vblkn (vzero wD19 (.cells oz26 52)) hx
            have hy := heap_alloc_new wD19 (.cells oz26 52)
            have hS := HV.out _ _ hS (vzero wD19 (.cells oz26 52))
            generalize wD19.alloc (.cells oz26 52) = Wn20 at *
            generalize wD19.heap.size = g17 at *
            refine hK.out _ _ hS (fun hHeld => ?_)
            clear hK K
            refine wpAnyH_ready (rs := [12]) (by kernel_rfl) (by simp) ?_
            refine AllReadyH.cons rfl (fun K hK => ?_) AllReadyH.nil
            refine r_store (by kernel_rfl) rfl rfl rfl hx (hi1 v) rfl (hc1 v hv1) rfl ?_
            have hne : g17 ≠ g16 := fun e => by rw [e, hx] at hy; cases hy
            have hy := (setRow_other Wn20 g16 g17 #[v] hne).trans hy
            have hS := below_row hS hmg16 #[v]
            generalize Wn20.setRow g16 #[v] = Wp at *
            refine hK.out _ _ hS (fun hHeld => ?_)
            clear hK K
            refine wpAnyH_ready (rs := [13]) (by kernel_rfl) (by simp) ?_
            refine AllReadyH.cons rfl (fun K hK => ?_) AllReadyH.nil
            refine r_store (by kernel_rfl) rfl rfl rfl hy (oq_info q) rfl (oqA_one q) rfl ?_
            have hz := setRow_heap _ _ _ (oqA q) _ _ hy
            have hS := below_row hS hmg17 (oqA q)
            generalize Wp.setRow g17 (oqA q) = Wq at *
            refine hK.out _ _ hS (fun hHeld => ?_)
            clear hK K
            refine hH_take (i := 14) (v := .int .i64 E) (d := 18) (l2 := #[true, true, true, true, true, true, true, true, true, true, true, true, true, true, true]) rfl (by kernel_rfl) (by kernel_rfl) (by kernel_rfl) (fun _ _ _ h => h) (by kernel_rfl) ?_ (by assumption) rfl (by kernel_rfl) ?_
            · intro w hSw; go_simp; (try with_reducible rfl)
            simp only [List.set]
            refine wpAnyH_done (by kernel_rfl) ?_ _
            go_wp2_with (fail)
            go_meet
            case rel => exact ⟨_, q, E, rfl, rfl, Lib.hid ⟨HUP.out _ hS, hz, hq⟩⟩
        · skip
          refine r_val (by kernel_rfl) (ea_oz26 rfl) rfl ?_
          simp only [List.set]
          have hmg17 := HM.out _ hS
          have hx := vblkn (vzero wA18 (.cells oz26 52)) hx
          have hy := heap_alloc_new wA18 (.cells oz26 52)
          have hS := HV.out _ _ hS (vzero wA18 (.cells oz26 52))
          generalize wA18.alloc (.cells oz26 52) = Wn21 at *
          generalize wA18.heap.size = g17 at *
          refine hK.out _ _ hS (fun hHeld => ?_)
          clear hK K
          refine wpAnyH_ready (rs := [5]) (by kernel_rfl) (by simp) ?_
          refine (AllReadyH.cons rfl (fun K hK => ?_) AllReadyH.nil)
          · skip
            go_simp
            go_at_call 24
            (with_reducible refine (cP _ (HUP.out _ hS).s.s.below (HUP.out _ hS).s.l).mono ?_)
            rintro e wD22 ⟨v, q, E, hv1, rfl, hq, h9⟩
            have hS := HV.out _ _ hS h9
            have hx := vblkn h9 hx
            have hy := vblkn h9 hy
            clear h9
            refine hK.out _ _ hS (fun hHeld => ?_)
            clear hK K
            refine hH_take (i := 6) (v := .tuple #[.agg #[v], .agg (oqA q), .int .i64 E]) (d := 55) (l2 := #[true, true, true, true, true, true, true, false, false, false, true, true, false, false, false]) rfl (by kernel_rfl) (by kernel_rfl) (by kernel_rfl) (fun _ _ _ h => h) (by kernel_rfl) ?_ (by assumption) rfl (by kernel_rfl) ?_
            · intro w hSw; go_simp; (try with_reducible rfl)
            simp only [List.set]
            refine hH_take (i := 7) (v := .agg #[v]) (d := 62) (l2 := #[true, true, true, true, true, true, true, true, false, false, true, true, false, false, false]) rfl (by kernel_rfl) (by kernel_rfl) (by kernel_rfl) (fun _ _ _ h => h) (by kernel_rfl) ?_ (by assumption) rfl (by kernel_rfl) ?_
            · intro w hSw; go_simp; (try with_reducible rfl)
            simp only [List.set]
            refine hH_take (i := 8) (v := .agg (oqA q)) (d := 63) (l2 := #[true, true, true, true, true, true, true, true, true, false, true, true, false, false, false]) rfl (by kernel_rfl) (by kernel_rfl) (by kernel_rfl) (fun _ _ _ h => h) (by kernel_rfl) ?_ (by assumption) rfl (by kernel_rfl) ?_
            · intro w hSw; go_simp; (try with_reducible rfl)
            simp only [List.set]
            refine hH_take (i := 9) (v := .int .i64 E) (d := 64) (l2 := #[true, true, true, true, true, true, true, true, true, true, true, true, false, false, false]) rfl (by kernel_rfl) (by kernel_rfl) (by kernel_rfl) (fun _ _ _ h => h) (by kernel_rfl) ?_ (by assumption) rfl (by kernel_rfl) ?_
            · intro w hSw; go_simp; (try with_reducible rfl)
            simp only [List.set]
            refine wpAnyH_ready (rs := [12]) (by kernel_rfl) (by simp) ?_
            refine AllReadyH.cons rfl (fun K hK => ?_) AllReadyH.nil
            refine r_store (by kernel_rfl) rfl rfl rfl hx (hi1 v) rfl (hc1 v hv1) rfl ?_
            have hne : g17 ≠ g16 := fun e => by rw [e, hx] at hy; cases hy
            have hy := (setRow_other wD22 g16 g17 #[v] hne).trans hy
            have hS := below_row hS hmg16 #[v]
            generalize wD22.setRow g16 #[v] = Wp at *
            refine hK.out _ _ hS (fun hHeld => ?_)
            clear hK K
            refine wpAnyH_ready (rs := [13]) (by kernel_rfl) (by simp) ?_
            refine AllReadyH.cons rfl (fun K hK => ?_) AllReadyH.nil
            refine r_store (by kernel_rfl) rfl rfl rfl hy (oq_info q) rfl (oqA_one q) rfl ?_
            have hz := setRow_heap _ _ _ (oqA q) _ _ hy
            have hS := below_row hS hmg17 (oqA q)
            generalize Wp.setRow g17 (oqA q) = Wq at *
            refine hK.out _ _ hS (fun hHeld => ?_)
            clear hK K
            refine hH_take (i := 14) (v := .int .i64 E) (d := 18) (l2 := #[true, true, true, true, true, true, true, true, true, true, true, true, true, true, true]) rfl (by kernel_rfl) (by kernel_rfl) (by kernel_rfl) (fun _ _ _ h => h) (by kernel_rfl) ?_ (by assumption) rfl (by kernel_rfl) ?_
            · intro w hSw; go_simp; (try with_reducible rfl)
            simp only [List.set]
            refine wpAnyH_done (by kernel_rfl) ?_ _
            go_wp2_with (fail)
            go_meet
            case rel => exact ⟨_, q, E, rfl, rfl, Lib.hid ⟨HUP.out _ hS, hz, hq⟩⟩
      · skip
        refine r_val (by kernel_rfl) (ea_oz26 rfl) rfl ?_
        simp only [List.set]
        have hmg17 := HM.out _ hS
        have hx := vblkn (vzero Wn17 (.cells oz26 52)) hx
        have hy := heap_alloc_new Wn17 (.cells oz26 52)
        have hS := HV.out _ _ hS (vzero Wn17 (.cells oz26 52))
        generalize Wn17.alloc (.cells oz26 52) = Wn23 at *
        generalize Wn17.heap.size = g17 at *
        refine hK.out _ _ hS (fun hHeld => ?_)
        clear hK K
        refine wpAnyH_ready (rs := [3]) (by kernel_rfl) (by simp) ?_
        refine (AllReadyH.cons rfl (fun K hK => ?_) AllReadyH.nil)
        · skip
          go_simp
          go_at_call 23
          (with_reducible refine (c7 _).mono ?_)
          rintro e wA24 ⟨rfl, h9⟩
          have hS := HV.out _ _ hS h9
          have hx := vblkn h9 hx
          have hy := vblkn h9 hy
          clear h9
          refine hK.out _ _ hS (fun hHeld => ?_)
          clear hK K
          refine hH_take (i := 4) (v := .agg (akA (akq 6 (k : Int) ky (dN 4619567317775286272) v0))) (d := 60) (l2 := #[true, true, true, true, true, false, false, false, false, false, true, true, false, false, false]) rfl (by kernel_rfl) (by kernel_rfl) (by kernel_rfl) (fun _ _ _ h => h) (by kernel_rfl) ?_ (by assumption) rfl (by kernel_rfl) ?_
          · intro w hSw; exact ea_akm6 rfl rfl rfl rfl
          simp only [List.set]
          refine wpAnyH_ready (rs := [5]) (by kernel_rfl) (by simp) ?_
          refine (AllReadyH.cons rfl (fun K hK => ?_) AllReadyH.nil)
          · skip
            go_simp
            go_at_call 24
            (with_reducible refine (cP _ (HUP.out _ hS).s.s.below (HUP.out _ hS).s.l).mono ?_)
            rintro e wD25 ⟨v, q, E, hv1, rfl, hq, h9⟩
            have hS := HV.out _ _ hS h9
            have hx := vblkn h9 hx
            have hy := vblkn h9 hy
            clear h9
            refine hK.out _ _ hS (fun hHeld => ?_)
            clear hK K
            refine hH_take (i := 6) (v := .tuple #[.agg #[v], .agg (oqA q), .int .i64 E]) (d := 55) (l2 := #[true, true, true, true, true, true, true, false, false, false, true, true, false, false, false]) rfl (by kernel_rfl) (by kernel_rfl) (by kernel_rfl) (fun _ _ _ h => h) (by kernel_rfl) ?_ (by assumption) rfl (by kernel_rfl) ?_
            · intro w hSw; go_simp; (try with_reducible rfl)
            simp only [List.set]
            refine hH_take (i := 7) (v := .agg #[v]) (d := 62) (l2 := #[true, true, true, true, true, true, true, true, false, false, true, true, false, false, false]) rfl (by kernel_rfl) (by kernel_rfl) (by kernel_rfl) (fun _ _ _ h => h) (by kernel_rfl) ?_ (by assumption) rfl (by kernel_rfl) ?_
            · intro w hSw; go_simp; (try with_reducible rfl)
            simp only [List.set]
            refine hH_take (i := 8) (v := .agg (oqA q)) (d := 63) (l2 := #[true, true, true, true, true, true, true, true, true, false, true, true, false, false, false]) rfl (by kernel_rfl) (by kernel_rfl) (by kernel_rfl) (fun _ _ _ h => h) (by kernel_rfl) ?_ (by assumption) rfl (by kernel_rfl) ?_
            · intro w hSw; go_simp; (try with_reducible rfl)
            simp only [List.set]
            refine hH_take (i := 9) (v := .int .i64 E) (d := 64) (l2 := #[true, true, true, true, true, true, true, true, true, true, true, true, false, false, false]) rfl (by kernel_rfl) (by kernel_rfl) (by kernel_rfl) (fun _ _ _ h => h) (by kernel_rfl) ?_ (by assumption) rfl (by kernel_rfl) ?_
            · intro w hSw; go_simp; (try with_reducible rfl)
            simp only [List.set]
            refine wpAnyH_ready (rs := [12]) (by kernel_rfl) (by simp) ?_
            refine AllReadyH.cons rfl (fun K hK => ?_) AllReadyH.nil
            refine r_store (by kernel_rfl) rfl rfl rfl hx (hi1 v) rfl (hc1 v hv1) rfl ?_
            have hne : g17 ≠ g16 := fun e => by rw [e, hx] at hy; cases hy
            have hy := (setRow_other wD25 g16 g17 #[v] hne).trans hy
            have hS := below_row hS hmg16 #[v]
            generalize wD25.setRow g16 #[v] = Wp at *
            refine hK.out _ _ hS (fun hHeld => ?_)
            clear hK K
            refine wpAnyH_ready (rs := [13]) (by kernel_rfl) (by simp) ?_
            refine AllReadyH.cons rfl (fun K hK => ?_) AllReadyH.nil
            refine r_store (by kernel_rfl) rfl rfl rfl hy (oq_info q) rfl (oqA_one q) rfl ?_
            have hz := setRow_heap _ _ _ (oqA q) _ _ hy
            have hS := below_row hS hmg17 (oqA q)
            generalize Wp.setRow g17 (oqA q) = Wq at *
            refine hK.out _ _ hS (fun hHeld => ?_)
            clear hK K
            refine hH_take (i := 14) (v := .int .i64 E) (d := 18) (l2 := #[true, true, true, true, true, true, true, true, true, true, true, true, true, true, true]) rfl (by kernel_rfl) (by kernel_rfl) (by kernel_rfl) (fun _ _ _ h => h) (by kernel_rfl) ?_ (by assumption) rfl (by kernel_rfl) ?_
            · intro w hSw; go_simp; (try with_reducible rfl)
            simp only [List.set]
            refine wpAnyH_done (by kernel_rfl) ?_ _
            go_wp2_with (fail)
            go_meet
            case rel => exact ⟨_, q, E, rfl, rfl, Lib.hid ⟨HUP.out _ hS, hz, hq⟩⟩
    · skip
      refine r_val (by kernel_rfl) (ea_oz26 rfl) rfl ?_
      simp only [List.set]
      have hmg17 := HM.out _ hS
      have hy := heap_alloc_new W0 (.cells oz26 52)
      have hS := HV.out _ _ hS (vzero W0 (.cells oz26 52))
      generalize W0.alloc (.cells oz26 52) = Wn26 at *
      generalize W0.heap.size = g17 at *
      refine hK.out _ _ hS (fun hHeld => ?_)
      clear hK K
      refine wpAnyH_ready (rs := [3, 10]) (by kernel_rfl) (by simp) ?_
      refine (AllReadyH.cons rfl (fun K hK => ?_) (AllReadyH.cons rfl (fun K hK => ?_) AllReadyH.nil))
      · skip
        go_simp
        go_at_call 23
        (with_reducible refine (c7 _).mono ?_)
        rintro e wA27 ⟨rfl, h9⟩
        have hS := HV.out _ _ hS h9
        have hy := vblkn h9 hy
        clear h9
        refine hK.out _ _ hS (fun hHeld => ?_)
        clear hK K
        refine hH_take (i := 4) (v := .agg (akA (akq 6 (k : Int) ky (dN 4619567317775286272) v0))) (d := 60) (l2 := #[true, true, true, true, true, false, false, false, false, false, false, true, false, false, false]) rfl (by kernel_rfl) (by kernel_rfl) (by kernel_rfl) (fun _ _ _ h => h) (by kernel_rfl) ?_ (by assumption) rfl (by kernel_rfl) ?_
        · intro w hSw; exact ea_akm6 rfl rfl rfl rfl
        simp only [List.set]
        refine wpAnyH_ready (rs := [5, 10]) (by kernel_rfl) (by simp) ?_
        refine (AllReadyH.cons rfl (fun K hK => ?_) (AllReadyH.cons rfl (fun K hK => ?_) AllReadyH.nil))
        · skip
          go_simp
          go_at_call 24
          (with_reducible refine (cP _ (HUP.out _ hS).s.s.below (HUP.out _ hS).s.l).mono ?_)
          rintro e wD28 ⟨v, q, E, hv1, rfl, hq, h9⟩
          have hS := HV.out _ _ hS h9
          have hy := vblkn h9 hy
          clear h9
          refine hK.out _ _ hS (fun hHeld => ?_)
          clear hK K
          refine hH_take (i := 6) (v := .tuple #[.agg #[v], .agg (oqA q), .int .i64 E]) (d := 55) (l2 := #[true, true, true, true, true, true, true, false, false, false, false, true, false, false, false]) rfl (by kernel_rfl) (by kernel_rfl) (by kernel_rfl) (fun _ _ _ h => h) (by kernel_rfl) ?_ (by assumption) rfl (by kernel_rfl) ?_
          · intro w hSw; go_simp; (try with_reducible rfl)
          simp only [List.set]
          refine hH_take (i := 7) (v := .agg #[v]) (d := 62) (l2 := #[true, true, true, true, true, true, true, true, false, false, false, true, false, false, false]) rfl (by kernel_rfl) (by kernel_rfl) (by kernel_rfl) (fun _ _ _ h => h) (by kernel_rfl) ?_ (by assumption) rfl (by kernel_rfl) ?_
          · intro w hSw; go_simp; (try with_reducible rfl)
          simp only [List.set]
          refine hH_take (i := 8) (v := .agg (oqA q)) (d := 63) (l2 := #[true, true, true, true, true, true, true, true, true, false, false, true, false, false, false]) rfl (by kernel_rfl) (by kernel_rfl) (by kernel_rfl) (fun _ _ _ h => h) (by kernel_rfl) ?_ (by assumption) rfl (by kernel_rfl) ?_
          · intro w hSw; go_simp; (try with_reducible rfl)
          simp only [List.set]
          refine hH_take (i := 9) (v := .int .i64 E) (d := 64) (l2 := #[true, true, true, true, true, true, true, true, true, true, false, true, false, false, false]) rfl (by kernel_rfl) (by kernel_rfl) (by kernel_rfl) (fun _ _ _ h => h) (by kernel_rfl) ?_ (by assumption) rfl (by kernel_rfl) ?_
          · intro w hSw; go_simp; (try with_reducible rfl)
          simp only [List.set]
          refine wpAnyH_ready (rs := [10]) (by kernel_rfl) (by simp) ?_
          refine (AllReadyH.cons rfl (fun K hK => ?_) AllReadyH.nil)
          · skip
            refine r_val (by kernel_rfl) (ea_hp1 rfl) rfl ?_
            simp only [List.set]
            have hmg16 := HM.out _ hS
            have hy := vblkn (vzero wD28 (.cells #[.slice none 0 0] 24)) hy
            have hx := heap_alloc_new wD28 (.cells #[.slice none 0 0] 24)
            have hS := HV.out _ _ hS (vzero wD28 (.cells #[.slice none 0 0] 24))
            generalize wD28.alloc (.cells #[.slice none 0 0] 24) = Wn29 at *
            generalize wD28.heap.size = g16 at *
            refine hK.out _ _ hS (fun hHeld => ?_)
            clear hK K
            refine wpAnyH_ready (rs := [12]) (by kernel_rfl) (by simp) ?_
            refine AllReadyH.cons rfl (fun K hK => ?_) AllReadyH.nil
            refine r_store (by kernel_rfl) rfl rfl rfl hx (hi1 v) rfl (hc1 v hv1) rfl ?_
            have hne : g17 ≠ g16 := fun e => by rw [e, hx] at hy; cases hy
            have hy := (setRow_other Wn29 g16 g17 #[v] hne).trans hy
            have hS := below_row hS hmg16 #[v]
            generalize Wn29.setRow g16 #[v] = Wp at *
            refine hK.out _ _ hS (fun hHeld => ?_)
            clear hK K
            refine wpAnyH_ready (rs := [13]) (by kernel_rfl) (by simp) ?_
            refine AllReadyH.cons rfl (fun K hK => ?_) AllReadyH.nil
            refine r_store (by kernel_rfl) rfl rfl rfl hy (oq_info q) rfl (oqA_one q) rfl ?_
            have hz := setRow_heap _ _ _ (oqA q) _ _ hy
            have hS := below_row hS hmg17 (oqA q)
            generalize Wp.setRow g17 (oqA q) = Wq at *
            refine hK.out _ _ hS (fun hHeld => ?_)
            clear hK K
            refine hH_take (i := 14) (v := .int .i64 E) (d := 18) (l2 := #[true, true, true, true, true, true, true, true, true, true, true, true, true, true, true]) rfl (by kernel_rfl) (by kernel_rfl) (by kernel_rfl) (fun _ _ _ h => h) (by kernel_rfl) ?_ (by assumption) rfl (by kernel_rfl) ?_
            · intro w hSw; go_simp; (try with_reducible rfl)
            simp only [List.set]
            refine wpAnyH_done (by kernel_rfl) ?_ _
            go_wp2_with (fail)
            go_meet
            case rel => exact ⟨_, q, E, rfl, rfl, Lib.hid ⟨HUP.out _ hS, hz, hq⟩⟩
        · skip
          refine r_val (by kernel_rfl) (ea_hp1 rfl) rfl ?_
          simp only [List.set]
          have hmg16 := HM.out _ hS
          have hy := vblkn (vzero wA27 (.cells #[.slice none 0 0] 24)) hy
          have hx := heap_alloc_new wA27 (.cells #[.slice none 0 0] 24)
          have hS := HV.out _ _ hS (vzero wA27 (.cells #[.slice none 0 0] 24))
          generalize wA27.alloc (.cells #[.slice none 0 0] 24) = Wn30 at *
          generalize wA27.heap.size = g16 at *
          refine hK.out _ _ hS (fun hHeld => ?_)
          clear hK K
          refine wpAnyH_ready (rs := [5]) (by kernel_rfl) (by simp) ?_
          refine (AllReadyH.cons rfl (fun K hK => ?_) AllReadyH.nil)
          · skip
            go_simp
            go_at_call 24
            (with_reducible refine (cP _ (HUP.out _ hS).s.s.below (HUP.out _ hS).s.l).mono ?_)
            rintro e wD31 ⟨v, q, E, hv1, rfl, hq, h9⟩
            have hS := HV.out _ _ hS h9
            have hx := vblkn h9 hx
            have hy := vblkn h9 hy
            clear h9
            refine hK.out _ _ hS (fun hHeld => ?_)
            clear hK K
            refine hH_take (i := 6) (v := .tuple #[.agg #[v], .agg (oqA q), .int .i64 E]) (d := 55) (l2 := #[true, true, true, true, true, true, true, false, false, false, true, true, false, false, false]) rfl (by kernel_rfl) (by kernel_rfl) (by kernel_rfl) (fun _ _ _ h => h) (by kernel_rfl) ?_ (by assumption) rfl (by kernel_rfl) ?_
            · intro w hSw; go_simp; (try with_reducible rfl)
            simp only [List.set]
            refine hH_take (i := 7) (v := .agg #[v]) (d := 62) (l2 := #[true, true, true, true, true, true, true, true, false, false, true, true, false, false, false]) rfl (by kernel_rfl) (by kernel_rfl) (by kernel_rfl) (fun _ _ _ h => h) (by kernel_rfl) ?_ (by assumption) rfl (by kernel_rfl) ?_
            · intro w hSw; go_simp; (try with_reducible rfl)
            simp only [List.set]
            refine hH_take (i := 8) (v := .agg (oqA q)) (d := 63) (l2 := #[true, true, true, true, true, true, true, true, true, false, true, true, false, false, false]) rfl (by kernel_rfl) (by kernel_rfl) (by kernel_rfl) (fun _ _ _ h => h) (by kernel_rfl) ?_ (by assumption) rfl (by kernel_rfl) ?_
            · intro w hSw; go_simp; (try with_reducible rfl)
            simp only [List.set]
            refine hH_take (i := 9) (v := .int .i64 E) (d := 64) (l2 := #[true, true, true, true, true, true, true, true, true, true, true, true, false, false, false]) rfl (by kernel_rfl) (by kernel_rfl) (by kernel_rfl) (fun _ _ _ h => h) (by kernel_rfl) ?_ (by assumption) rfl (by kernel_rfl) ?_
            · intro w hSw; go_simp; (try with_reducible rfl)
            simp only [List.set]
            refine wpAnyH_ready (rs := [12]) (by kernel_rfl) (by simp) ?_
            refine AllReadyH.cons rfl (fun K hK => ?_) AllReadyH.nil
            refine r_store (by kernel_rfl) rfl rfl rfl hx (hi1 v) rfl (hc1 v hv1) rfl ?_
            have hne : g17 ≠ g16 := fun e => by rw [e, hx] at hy; cases hy
            have hy := (setRow_other wD31 g16 g17 #[v] hne).trans hy
            have hS := below_row hS hmg16 #[v]
            generalize wD31.setRow g16 #[v] = Wp at *
            refine hK.out _ _ hS (fun hHeld => ?_)
            clear hK K
            refine wpAnyH_ready (rs := [13]) (by kernel_rfl) (by simp) ?_
            refine AllReadyH.cons rfl (fun K hK => ?_) AllReadyH.nil
            refine r_store (by kernel_rfl) rfl rfl rfl hy (oq_info q) rfl (oqA_one q) rfl ?_
            have hz := setRow_heap _ _ _ (oqA q) _ _ hy
            have hS := below_row hS hmg17 (oqA q)
            generalize Wp.setRow g17 (oqA q) = Wq at *
            refine hK.out _ _ hS (fun hHeld => ?_)
            clear hK K
            refine hH_take (i := 14) (v := .int .i64 E) (d := 18) (l2 := #[true, true, true, true, true, true, true, true, true, true, true, true, true, true, true]) rfl (by kernel_rfl) (by kernel_rfl) (by kernel_rfl) (fun _ _ _ h => h) (by kernel_rfl) ?_ (by assumption) rfl (by kernel_rfl) ?_
            · intro w hSw; go_simp; (try with_reducible rfl)
            simp only [List.set]
            refine wpAnyH_done (by kernel_rfl) ?_ _
            go_wp2_with (fail)
            go_meet
            case rel => exact ⟨_, q, E, rfl, rfl, Lib.hid ⟨HUP.out _ hS, hz, hq⟩⟩
      · skip
        refine r_val (by kernel_rfl) (ea_hp1 rfl) rfl ?_
        simp only [List.set]
        have hmg16 := HM.out _ hS
        have hy := vblkn (vzero Wn26 (.cells #[.slice none 0 0] 24)) hy
        have hx := heap_alloc_new Wn26 (.cells #[.slice none 0 0] 24)
        have hS := HV.out _ _ hS (vzero Wn26 (.cells #[.slice none 0 0] 24))
        generalize Wn26.alloc (.cells #[.slice none 0 0] 24) = Wn32 at *
        generalize Wn26.heap.size = g16 at *
        refine hK.out _ _ hS (fun hHeld => ?_)
        clear hK K
        refine wpAnyH_ready (rs := [3]) (by kernel_rfl) (by simp) ?_
        refine (AllReadyH.cons rfl (fun K hK => ?_) AllReadyH.nil)
        · skip
          go_simp
          go_at_call 23
          (with_reducible refine (c7 _).mono ?_)
          rintro e wA33 ⟨rfl, h9⟩
          have hS := HV.out _ _ hS h9
          have hx := vblkn h9 hx
          have hy := vblkn h9 hy
          clear h9
          refine hK.out _ _ hS (fun hHeld => ?_)
          clear hK K
          refine hH_take (i := 4) (v := .agg (akA (akq 6 (k : Int) ky (dN 4619567317775286272) v0))) (d := 60) (l2 := #[true, true, true, true, true, false, false, false, false, false, true, true, false, false, false]) rfl (by kernel_rfl) (by kernel_rfl) (by kernel_rfl) (fun _ _ _ h => h) (by kernel_rfl) ?_ (by assumption) rfl (by kernel_rfl) ?_
          · intro w hSw; exact ea_akm6 rfl rfl rfl rfl
          simp only [List.set]
          refine wpAnyH_ready (rs := [5]) (by kernel_rfl) (by simp) ?_
          refine (AllReadyH.cons rfl (fun K hK => ?_) AllReadyH.nil)
          · skip
            go_simp
            go_at_call 24
            (with_reducible refine (cP _ (HUP.out _ hS).s.s.below (HUP.out _ hS).s.l).mono ?_)
            rintro e wD34 ⟨v, q, E, hv1, rfl, hq, h9⟩
            have hS := HV.out _ _ hS h9
            have hx := vblkn h9 hx
            have hy := vblkn h9 hy
            clear h9
            refine hK.out _ _ hS (fun hHeld => ?_)
            clear hK K
            refine hH_take (i := 6) (v := .tuple #[.agg #[v], .agg (oqA q), .int .i64 E]) (d := 55) (l2 := #[true, true, true, true, true, true, true, false, false, false, true, true, false, false, false]) rfl (by kernel_rfl) (by kernel_rfl) (by kernel_rfl) (fun _ _ _ h => h) (by kernel_rfl) ?_ (by assumption) rfl (by kernel_rfl) ?_
            · intro w hSw; go_simp; (try with_reducible rfl)
            simp only [List.set]
            refine hH_take (i := 7) (v := .agg #[v]) (d := 62) (l2 := #[true, true, true, true, true, true, true, true, false, false, true, true, false, false, false]) rfl (by kernel_rfl) (by kernel_rfl) (by kernel_rfl) (fun _ _ _ h => h) (by kernel_rfl) ?_ (by assumption) rfl (by kernel_rfl) ?_
            · intro w hSw; go_simp; (try with_reducible rfl)
            simp only [List.set]
            refine hH_take (i := 8) (v := .agg (oqA q)) (d := 63) (l2 := #[true, true, true, true, true, true, true, true, true, false, true, true, false, false, false]) rfl (by kernel_rfl) (by kernel_rfl) (by kernel_rfl) (fun _ _ _ h => h) (by kernel_rfl) ?_ (by assumption) rfl (by kernel_rfl) ?_
            · intro w hSw; go_simp; (try with_reducible rfl)
            simp only [List.set]
            refine hH_take (i := 9) (v := .int .i64 E) (d := 64) (l2 := #[true, true, true, true, true, true, true, true, true, true, true, true, false, false, false]) rfl (by kernel_rfl) (by kernel_rfl) (by kernel_rfl) (fun _ _ _ h => h) (by kernel_rfl) ?_ (by assumption) rfl (by kernel_rfl) ?_
            · intro w hSw; go_simp; (try with_reducible rfl)
            simp only [List.set]
            refine wpAnyH_ready (rs := [12]) (by kernel_rfl) (by simp) ?_
            refine AllReadyH.cons rfl (fun K hK => ?_) AllReadyH.nil
            refine r_store (by kernel_rfl) rfl rfl rfl hx (hi1 v) rfl (hc1 v hv1) rfl ?_
            have hne : g17 ≠ g16 := fun e => by rw [e, hx] at hy; cases hy
            have hy := (setRow_other wD34 g16 g17 #[v] hne).trans hy
            have hS := below_row hS hmg16 #[v]
            generalize wD34.setRow g16 #[v] = Wp at *
            refine hK.out _ _ hS (fun hHeld => ?_)
            clear hK K
            refine wpAnyH_ready (rs := [13]) (by kernel_rfl) (by simp) ?_
            refine AllReadyH.cons rfl (fun K hK => ?_) AllReadyH.nil
            refine r_store (by kernel_rfl) rfl rfl rfl hy (oq_info q) rfl (oqA_one q) rfl ?_
            have hz := setRow_heap _ _ _ (oqA q) _ _ hy
            have hS := below_row hS hmg17 (oqA q)
            generalize Wp.setRow g17 (oqA q) = Wq at *
            refine hK.out _ _ hS (fun hHeld => ?_)
            clear hK K
            refine hH_take (i := 14) (v := .int .i64 E) (d := 18) (l2 := #[true, true, true, true, true, true, true, true, true, true, true, true, true, true, true]) rfl (by kernel_rfl) (by kernel_rfl) (by kernel_rfl) (fun _ _ _ h => h) (by kernel_rfl) ?_ (by assumption) rfl (by kernel_rfl) ?_
            · intro w hSw; go_simp; (try with_reducible rfl)
            simp only [List.set]
            refine wpAnyH_done (by kernel_rfl) ?_ _
            go_wp2_with (fail)
            go_meet
            case rel => exact ⟨_, q, E, rfl, rfl, Lib.hid ⟨HUP.out _ hS, hz, hq⟩⟩
  case rest =>
    obtain ⟨gz, q, E, rfl, rfl, HK⟩ := hcut
    rename ∀ (a : Act) (w : World), Code.wp Tryz.prog _ _ a w → _ => hK
    exact hK _ _ (ST9 HK.out.1 HK.out.2.1 HK.out.2.2 cK1 cK2)
end Go.Proofs.YtpeegmpfkongeaaGreatDoor.S
