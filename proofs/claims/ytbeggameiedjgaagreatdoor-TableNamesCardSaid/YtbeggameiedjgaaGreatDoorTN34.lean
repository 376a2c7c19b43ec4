/-
  The law TableNames, in tails. Generated: gen_tabnames5.py.
-/
import Derived.Test.YtbeggameiedjgaaGreatDoorTN33
import Derived.Deep.CutRange
namespace Go.Proofs.YtbeggameiedjgaaGreatDoor.S
open Go.RowKit Go.Lib Fl
open Classical

theorem zz_none : True := trivial
noncomputable def tail3 (n : Nat) : Code := match Tryz.f3.body with | some c => rgtN n c | none => .skip
set_option maxHeartbeats 8000000 in
set_option maxRecDepth 1000000 in
theorem TN8 {A : Option Addr} {c : Nat} {w W : World} {x0 x2 x3 x5 x6 x7 x8 x11 x12 x13 x14 x15 x16 x17 x18 x19 x20 x21 x22 x23 x24 x25 x26 x27 x28 x29 x30 x31 x32 x33 x34 x35 x36 x37 x38 x39 x40 x41 x42 x43 x44 x45 x46 x47 x48 x49 x50 x51 x52 x53 x54 x55 x56 x57 x58 x59 x60 x61 x62 x63 x64 x65 x66 x67 x68 x69 x70 x71 x72 x73 x74 x75 x76 x77 x78 x79 x80 x81 x82 x83 x84 x85 x86 x87 x88 x89 x90 x91 x92 x93 x94 x95 x96 x97 x98 x99 x100 x101 x102 x103 x104 x105 x106 x107 x108 x109 x110 x111 x112 x113 x114 x115 x116 x117 x118 x119 x120 x121 x122 x123 x124 x125 x126 x127 x128 x129 x130 x131 x132 x133 x134 x135 x136 x137 x138 x139 x140 x141 x142 x143 x144 x145 x146 x147 x148 x149 x150 x151 x152 x153 x154 x155 x156 x157 x158 x159 x160 x161 x162 x163 x164 x165 x166 x167 x168 x169 x170 x171 x172 x173 x174 x175 x176 x177 x178 x179 x180 x181 x182 : Value} (hT : TabIn W A L5 c) (hW : Below w.heap.size w W) : Code.wp Tryz.prog (tail3 8) (bodyPost Tryz.prog Tryz.f3 (fun e w' => e = .returned (.bool true) ∧ Below w.heap.size w w')) ⟨#[x0, .slice A 5 c, x2, x3, .bool true, x5, x6, x7, x8, .bool true, .bool true, x11, x12, x13, x14, x15, x16, x17, x18, x19, x20, x21, x22, x23, x24, x25, x26, x27, x28, x29, x30, x31, x32, x33, x34, x35, x36, x37, x38, x39, x40, x41, x42, x43, x44, x45, x46, x47, x48, x49, x50, x51, x52, x53, x54, x55, x56, x57, x58, x59, x60, x61, x62, x63, x64, x65, x66, x67, x68, x69, x70, x71, x72, x73, x74, x75, x76, x77, x78, x79, x80, x81, x82, x83, x84, x85, x86, x87, x88, x89, x90, x91, x92, x93, x94, x95, x96, x97, x98, x99, x100, x101, x102, x103, x104, x105, x106, x107, x108, x109, x110, x111, x112, x113, x114, x115, x116, x117, x118, x119, x120, x121, x122, x123, x124, x125, x126, x127, x128, x129, x130, x131, x132, x133, x134, x135, x136, x137, x138, x139, x140, x141, x142, x143, x144, x145, x146, x147, x148, x149, x150, x151, x152, x153, x154, x155, x156, x157, x158, x159, x160, x161, x162, x163, x164, x165, x166, x167, x168, x169, x170, x171, x172, x173, x174, x175, x176, x177, x178, x179, x180, x181, x182], []⟩ W := by
  have FS : ∀ V, Below W.heap.size W V → Calls Tryz.prog 16 #[.slice A 5 c] V fun e w' => e = .returned (.tuple #[.bool false, .int .i64 0]) ∧ Below V.heap.size V w' := fun V hb => Sealed_t A L5 c V (hT.up hb)
  have F0 : ∀ V, Calls Tryz.prog 16 #[.slice none 0 0] V fun e w' => e = .returned (.tuple #[.bool true, .int .i64 0]) ∧ Below V.heap.size V w' := fun V => Sealed_t none [] 0 V (tab_nil V)
  have F1 : ∀ V, Calls Tryz.prog 17 #[.slice none 0 0] V fun e w' => e = .returned (.tuple #[.bool true, .int .i64 0]) ∧ Below V.heap.size V w' := fun V => Frozen_t none [] 0 V (tab_nil V)
  have HB := Lib.hid (Below.refl W.heap.size W)
  have HW := Lib.hid hW
  clear hT hW
  unfold tail3
  dsimp only [Tryz.f3, rgtN]
  go_wp2_with (first
    | (go_at_call 16; first
      | ((with_reducible refine (F0 _).mono ?_); rintro e w1 ⟨rfl, h9⟩; have HB := Lib.hid (vb HB.out h9); clear h9)
      | ((with_reducible refine (FS _ HB.out).mono ?_); rintro e w2 ⟨rfl, h9⟩; have HB := Lib.hid (vb HB.out h9); clear h9))
    | (go_at_call 17; (with_reducible refine (F1 _).mono ?_); rintro e w3 ⟨rfl, h9⟩; have HB := Lib.hid (vb HB.out h9); clear h9)
    | (go_at_call 18; (with_reducible refine (tabalive_any _).mono ?_); rintro e w4 ⟨rfl, h9⟩; have HB := Lib.hid (vb HB.out h9); clear h9))
  go_ret
  exact ⟨rfl, vb HW.out HB.out⟩
section
variable {o : Oper} {a : Act} {w : World}
theorem e_tw {x y : Operand} (ho : o.op = .buildSlice 35 2 #[(0, x), (1, y)]) (hx : a.eval x = .agg (prA (pN (⟨#[97]⟩ : ByteArray) 0 4607182418800017408))) (hy : a.eval y = .agg (prA (pN (⟨#[97]⟩ : ByteArray) 0 4611686018427387904))) : (execOp a.eval o).run Tryz.prog w = .ok (.value (.slice (some ⟨w.heap.size, 0, none⟩) 2 2)) (w.alloc (.cells (prCells twA).toArray 30)) := e_slice2 ho hx hy
theorem e_on {x : Operand} (ho : o.op = .buildSlice 35 1 #[(0, x)]) (hx : a.eval x = .agg (prA ⟨⟨(⟨#[97]⟩ : ByteArray), 0⟩, ⟨1, v0, v0, v0, false, false, false⟩⟩)) : (execOp a.eval o).run Tryz.prog w = .ok (.value (.slice (some ⟨w.heap.size, 0, none⟩) 1 1)) (w.alloc (.cells (prCells onA).toArray 30)) := e_slice1 ho hx
theorem e_no {x : Operand} (ho : o.op = .buildSlice 35 1 #[(0, x)]) (hx : a.eval x = .agg (prA ⟨⟨⟨#[]⟩, -1⟩, dz 0⟩)) : (execOp a.eval o).run Tryz.prog w = .ok (.value (.slice (some ⟨w.heap.size, 0, none⟩) 1 1)) (w.alloc (.cells (prCells noS).toArray 30)) := e_slice1 ho hx
end
set_option maxHeartbeats 8000000 in
set_option maxRecDepth 1000000 in
theorem TN7 {A : Option Addr} {c : Nat} {w W : World} {x0 x2 x3 x5 x6 x7 x8 x10 x11 x12 x13 x14 x15 x16 x17 x18 x19 x20 x21 x22 x23 x24 x25 x26 x27 x28 x29 x30 x31 x32 x33 x34 x35 x36 x37 x38 x39 x40 x41 x42 x43 x44 x45 x46 x47 x48 x49 x50 x51 x52 x53 x54 x55 x56 x57 x58 x59 x60 x61 x62 x63 x64 x65 x66 x67 x68 x69 x70 x71 x72 x73 x74 x75 x76 x77 x78 x79 x80 x81 x82 x83 x84 x85 x86 x87 x88 x89 x90 x91 x92 x93 x94 x95 x96 x97 x98 x99 x100 x101 x102 x103 x104 x105 x106 x107 x108 x109 x110 x111 x112 x113 x114 x115 x116 x117 x118 x119 x120 x121 x122 x123 x124 x125 x126 x127 x128 x129 x130 x131 x132 x133 x134 x135 x136 x137 x138 x139 x140 x141 x142 x143 x144 x145 x146 x147 x148 x149 x150 x151 x152 x153 x154 x155 x156 x157 x158 x159 x160 x161 x162 x163 x164 x165 x166 x167 x168 x169 x170 x171 x172 x173 x174 x175 x176 x177 x178 x179 x180 x181 x182 : Value} (hT : TabIn W A L5 c) (hW : Below w.heap.size w W) : Code.wp Tryz.prog (tail3 7) (bodyPost Tryz.prog Tryz.f3 (fun e w' => e = .returned (.bool true) ∧ Below w.heap.size w w')) ⟨#[x0, .slice A 5 c, x2, x3, .bool true, x5, x6, x7, x8, .bool true, x10, x11, x12, x13, x14, x15, x16, x17, x18, x19, x20, x21, x22, x23, x24, x25, x26, x27, x28, x29, x30, x31, x32, x33, x34, x35, x36, x37, x38, x39, x40, x41, x42, x43, x44, x45, x46, x47, x48, x49, x50, x51, x52, x53, x54, x55, x56, x57, x58, x59, x60, x61, x62, x63, x64, x65, x66, x67, x68, x69, x70, x71, x72, x73, x74, x75, x76, x77, x78, x79, x80, x81, x82, x83, x84, x85, x86, x87, x88, x89, x90, x91, x92, x93, x94, x95, x96, x97, x98, x99, x100, x101, x102, x103, x104, x105, x106, x107, x108, x109, x110, x111, x112, x113, x114, x115, x116, x117, x118, x119, x120, x121, x122, x123, x124, x125, x126, x127, x128, x129, x130, x131, x132, x133, x134, x135, x136, x137, x138, x139, x140, x141, x142, x143, x144, x145, x146, x147, x148, x149, x150, x151, x152, x153, x154, x155, x156, x157, x158, x159, x160, x161, x162, x163, x164, x165, x166, x167, x168, x169, x170, x171, x172, x173, x174, x175, x176, x177, x178, x179, x180, x181, x182], []⟩ W := by
  have HT := Lib.hid hT
  have HW := Lib.hid hW
  have P1 : ∀ V, Calls Tryz.prog 8 #[.string (⟨#[97]⟩ : ByteArray), .int .i64 1] V fun e w' => e = .returned (.agg (prA (pN (⟨#[97]⟩ : ByteArray) 0 4607182418800017408))) ∧ Below V.heap.size V w' := fun V => by have := prop_any (⟨#[97]⟩ : ByteArray) 1 V; rw [f_1] at this; exact this
  have P2 : ∀ V, Calls Tryz.prog 8 #[.string (⟨#[97]⟩ : ByteArray), .int .i64 2] V fun e w' => e = .returned (.agg (prA (pN (⟨#[97]⟩ : ByteArray) 0 4611686018427387904))) ∧ Below V.heap.size V w' := fun V => by have := prop_any (⟨#[97]⟩ : ByteArray) 2 V; rw [f_2] at this; exact this
  have kO := fun V => keyOf_k (⟨#[97]⟩ : ByteArray) V
  have hin1 : ∀ p ∈ twA, p.In := by
    intro p hp
    simp only [twA, List.mem_cons, List.not_mem_nil, or_false] at hp
    rcases hp with rfl | rfl
    · exact pN_in (by decide) (by decide) one_ok2
    · exact pN_in (by decide) (by decide) n2_ok
  have hin2 : ∀ p ∈ onA, p.In := by
    intro p hp
    obtain rfl := List.mem_singleton.1 hp
    exact ⟨⟨by decide, by decide, by decide⟩, by decide, by decide, ok_in2 v0_ok, ok_in2 v0_ok, ok_in2 v0_ok⟩
  have hin3 : ∀ p ∈ noS, p.In := by
    intro p hp
    obtain rfl := List.mem_singleton.1 hp
    exact ⟨⟨by decide, by decide, by decide⟩, by decide, by decide, ok_in2 v0_ok, ok_in2 v0_ok, ok_in2 v0_ok⟩
  have C1 : ∀ V : World, Calls Tryz.prog 15 #[.slice (some ⟨V.heap.size, 0, none⟩) 2 2] (V.alloc (.cells (prCells twA).toArray 30)) fun e w' => e = .returned (.int .i64 100) ∧ Below (V.alloc (.cells (prCells twA).toArray 30)).heap.size (V.alloc (.cells (prCells twA).toArray 30)) w' := fun V => by
    have := Check_t (some ⟨V.heap.size, 0, none⟩) twA 2 _ hin1 (by decide) (pr_blk (heap_alloc_new V _))
    rw [chk_tw] at this; exact this
  have C2 : ∀ V : World, Calls Tryz.prog 15 #[.slice (some ⟨V.heap.size, 0, none⟩) 1 1] (V.alloc (.cells (prCells onA).toArray 30)) fun e w' => e = .returned (.int .i64 90) ∧ Below (V.alloc (.cells (prCells onA).toArray 30)).heap.size (V.alloc (.cells (prCells onA).toArray 30)) w' := fun V => by
    have := Check_t (some ⟨V.heap.size, 0, none⟩) onA 1 _ hin2 (by decide) (pr_blk (heap_alloc_new V _))
    rw [chk_on] at this; exact this
  have C3 : ∀ V : World, Calls Tryz.prog 15 #[.slice (some ⟨V.heap.size, 0, none⟩) 1 1] (V.alloc (.cells (prCells noS).toArray 30)) fun e w' => e = .returned (.int .i64 9) ∧ Below (V.alloc (.cells (prCells noS).toArray 30)).heap.size (V.alloc (.cells (prCells noS).toArray 30)) w' := fun V => by
    have := Check_t (some ⟨V.heap.size, 0, none⟩) noS 1 _ hin3 (by decide) (pr_blk (heap_alloc_new V _))
    rw [chk_no] at this; exact this
  have HB := Lib.hid (Below.refl W.heap.size W)
  clear hT hW hin1 hin2 hin3
  unfold tail3
  dsimp only [Tryz.f3, rgtN]
  go_upto_region 7 with (fail)
  go_cut [10] from 110 (fun q wx => q = .bool true ∧ Hid (Below W.heap.size W wx))
  case first =>
    go_wp2_with (first
      | (go_at_call 8; first
        | ((with_reducible refine (P1 _).mono ?_); rintro e w1 ⟨rfl, h9⟩; have HB := Lib.hid (vb HB.out h9); clear h9)
        | ((with_reducible refine (P2 _).mono ?_); rintro e w2 ⟨rfl, h9⟩; have HB := Lib.hid (vb HB.out h9); clear h9))
      | (refine w_run ?_ (e_tw rfl rfl rfl) ?_; (rfl); have HB := Lib.hid (vb HB.out (vzero _ (.cells (prCells twA).toArray 30))))
      | (go_at_call 15; first
        | ((with_reducible refine (C1 _).mono ?_); rintro e w3 ⟨rfl, h9⟩; have HB := Lib.hid (vb HB.out h9); clear h9)
        | ((with_reducible refine (C2 _).mono ?_); rintro e w5 ⟨rfl, h9⟩; have HB := Lib.hid (vb HB.out h9); clear h9)
        | ((with_reducible refine (C3 _).mono ?_); rintro e w6 ⟨rfl, h9⟩; have HB := Lib.hid (vb HB.out h9); clear h9))
      | (go_at_call 13; (with_reducible refine (kO _).mono ?_); rintro e w4 ⟨rfl, h9⟩; have HB := Lib.hid (vb HB.out h9); clear h9)
      | (refine w_run ?_ (e_build1 rfl) ?_; (rfl))
      | (refine w_run ?_ (e_buildk rfl) ?_; (rfl))
      | (refine w_run ?_ (e_buildn rfl rfl) ?_; (rfl))
      | (refine w_run ?_ (e_build (p := ⟨⟨(⟨#[97]⟩ : ByteArray), 0⟩, ⟨1, v0, v0, v0, false, false, false⟩⟩) rfl rfl rfl) ?_; (rfl))
      | (refine w_run ?_ (e_on rfl rfl) ?_; (rfl); have HB := Lib.hid (vb HB.out (vzero _ (.cells (prCells onA).toArray 30))))
      | (refine w_run ?_ (e_no rfl rfl) ?_; (rfl); have HB := Lib.hid (vb HB.out (vzero _ (.cells (prCells noS).toArray 30)))))
    go_meet
    case rel => exact ⟨rfl, HB⟩
  case rest =>
    obtain ⟨rfl, HY⟩ := hcut
    rename ∀ (a : Act) (w : World), Code.wp Tryz.prog _ _ a w → _ => hK
    exact hK _ _ (TN8 (HT.out.up HY.out) (vb HW.out HY.out))
end Go.Proofs.YtbeggameiedjgaaGreatDoor.S
