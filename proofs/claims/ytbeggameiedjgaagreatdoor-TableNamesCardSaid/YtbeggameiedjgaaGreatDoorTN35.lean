/-
  The law TableNames, in tails: from its beginning to region 6. Generated: gen_tabnames6.py.
-/
import Derived.Test.YtbeggameiedjgaaGreatDoorTN34
import Derived.Test.YtbeggameiedjgaaGreatDoorTN23
namespace Go.Proofs.YtbeggameiedjgaaGreatDoor.S
open Go.RowKit Go.Lib Fl
open Classical

def M4 : List Pq := [q1, q3, q4, q5]
theorem drop_2 : dropT L5 ⟨(⟨#[50]⟩ : ByteArray), 0⟩ = M4 := rfl
theorem drop_z : dropT L5 ⟨(⟨#[122]⟩ : ByteArray), 0⟩ = L5 := rfl
theorem one4 {W : World} {a : Addr} (h : PR W (some a) M4) : (Instr.loadAt 23 (.pointer (some (a.add (1 * 18))))).run Tryz.prog W = .ok (.agg #[.string ⟨#[]⟩, .int .i64 1]) W :=
  k2_at (pr_key h (i := 1) (by decide)).2.1 (pr_key h (i := 1) (by decide)).2.2
theorem m5_at {W : World} {O : Nat} (h : W.heap[O]? = some (.cells (kyCells M5).toArray 23 (0, 0))) (i : Nat) (hi : i < 5) : (Instr.loadAt 23 (.pointer (some ⟨O, i * 2, none⟩))).run Tryz.prog W = .ok (.agg #[.string (M5.getD i default).str, .int .i64 (M5.getD i default).sym]) W := by
  have e : i = 0 ∨ i = 1 ∨ i = 2 ∨ i = 3 ∨ i = 4 := by omega
  rcases e with rfl | rfl | rfl | rfl | rfl
  all_goals exact k2_at ((vcells h _).trans rfl) ((vcells h _).trans rfl)
theorem kq (s : ByteArray) (m : Int) (W : World) : (Op.equalIn (9998 + 2) 23 (.agg #[.string s, .int .i64 m]) (.agg #[.string s, .int .i64 m])).run Tryz.prog W = .ok true W := by
  have := key_eq 9998 s s m m W
  rw [show (s == s && m == m) = true from eqK_iff.2 (rfl : (⟨s, m⟩ : Ky) = ⟨s, m⟩)] at this
  exact this
section
variable {o : Oper} {a : Act} {w : World} {x y : Operand}
theorem ex_keq {s : ByteArray} {m : Int} (ho : o.op = .binOp .eql 23 x y 23) (hx : a.eval x = .agg #[.string s, .int .i64 m]) (hy : a.eval y = .agg #[.string s, .int .i64 m]) :
    (execOp a.eval o).run Tryz.prog w = .ok (.value (.bool true)) w := by
  have he := kq s m w
  unfold execOp
  simp only [ho, hx, hy, Sem.run_bind, Sem.run_pure, run_eqGuard_agg w _ _ _ _ _ _ (show Tryz.prog.eqGuardType Tryz.prog.depth 23 = false by kernel_rfl), run_eql_struct, he, Result.andThen_ok]
end
set_option maxHeartbeats 8000000 in
set_option maxRecDepth 1000000 in
theorem TN6 {A A2 A3 : Option Addr} {c c2 c3 : Nat} {w W : World} {x0 x2 x3 x9 x10 x11 x12 x13 x14 x15 x16 x17 x18 x19 x20 x21 x22 x23 x24 x25 x26 x27 x28 x29 x30 x31 x32 x33 x34 x35 x36 x37 x38 x39 x40 x41 x42 x43 x44 x45 x46 x47 x48 x49 x50 x51 x52 x53 x54 x55 x56 x57 x58 x59 x60 x61 x62 x63 x64 x65 x66 x67 x68 x69 x70 x71 x72 x73 x74 x75 x76 x77 x78 x79 x80 x81 x82 x83 x84 x85 x86 x87 x88 x89 x90 x91 x92 x93 x94 x95 x96 x97 x98 x99 x100 x101 x102 x103 x104 x105 x106 x107 x108 x109 x110 x111 x112 x113 x114 x115 x116 x117 x118 x119 x120 x121 x122 x123 x124 x125 x126 x127 x128 x129 x130 x131 x132 x133 x134 x135 x136 x137 x138 x139 x140 x141 x142 x143 x144 x145 x146 x147 x148 x149 x150 x151 x152 x153 x154 x155 x156 x157 x158 x159 x160 x161 x162 x163 x164 x165 x166 x167 x168 x169 x170 x171 x172 x173 x174 x175 x176 x177 x178 x179 x180 x181 x182 : Value} (hT : TabIn W A L5 c) (hW : Below w.heap.size w W) (h2 : PR W A2 M4) : Code.wp Tryz.prog (tail3 6) (bodyPost Tryz.prog Tryz.f3 (fun e w' => e = .returned (.bool true) ∧ Below w.heap.size w w')) ⟨#[x0, .slice A 5 c, x2, x3, .bool true, .slice A2 4 c2, .int .i64 0, .slice A3 5 c3, .int .i64 0, x9, x10, x11, x12, x13, x14, x15, x16, x17, x18, x19, x20, x21, x22, x23, x24, x25, x26, x27, x28, x29, x30, x31, x32, x33, x34, x35, x36, x37, x38, x39, x40, x41, x42, x43, x44, x45, x46, x47, x48, x49, x50, x51, x52, x53, x54, x55, x56, x57, x58, x59, x60, x61, x62, x63, x64, x65, x66, x67, x68, x69, x70, x71, x72, x73, x74, x75, x76, x77, x78, x79, x80, x81, x82, x83, x84, x85, x86, x87, x88, x89, x90, x91, x92, x93, x94, x95, x96, x97, x98, x99, x100, x101, x102, x103, x104, x105, x106, x107, x108, x109, x110, x111, x112, x113, x114, x115, x116, x117, x118, x119, x120, x121, x122, x123, x124, x125, x126, x127, x128, x129, x130, x131, x132, x133, x134, x135, x136, x137, x138, x139, x140, x141, x142, x143, x144, x145, x146, x147, x148, x149, x150, x151, x152, x153, x154, x155, x156, x157, x158, x159, x160, x161, x162, x163, x164, x165, x166, x167, x168, x169, x170, x171, x172, x173, x174, x175, x176, x177, x178, x179, x180, x181, x182], []⟩ W := by
  have HT := Lib.hid hT
  have HW := Lib.hid hW
  have kS : ∀ V, Calls Tryz.prog 9 #[.int .i64 0] V fun e w' => e = .returned (.agg #[.string ⟨#[]⟩, .int .i64 1]) ∧ Below V.heap.size V w' := fun V => Sym_k 0 (by decide) (by decide) V
  obtain ⟨a2, rfl, _, _⟩ := id h2 (by decide)
  have hS : Below W.heap.size W W.drew := (Below.refl W.heap.size W).drew
  clear hT hW
  unfold tail3
  dsimp only [Tryz.f3, rgtN]
  go_upto_region 6 with (fail)
  go_cut [9] from 86 (fun q wx => q = .bool true ∧ Hid (Below W.heap.size W wx))
  case first =>
    refine wp_region_held_drew (S := fun wx => Below W.heap.size W wx) (by kernel_rfl) hS (fun hHeld => ?_)
    refine hH_take (i := 0) (v := ?_) (d := 86) (l2 := #[true, false, false, false, false, false, false, false, false, false, false, false, false, false, false, false, false, false, false, false, false, false, false, false, false]) rfl (by kernel_rfl) (by kernel_rfl) (by kernel_rfl) (fun _ _ _ h => h) (by kernel_rfl) ?_ (by assumption) rfl (by kernel_rfl) ?_
    rotate_left
    · intro w hSw; (try dsimp only at hSw); go_simp; (try with_reducible rfl)
    simp only [List.set]
    refine hH_take (i := 1) (v := ?_) (d := 87) (l2 := #[true, true, false, false, false, false, false, false, false, false, false, false, false, false, false, false, false, false, false, false, false, false, false, false, false]) rfl (by kernel_rfl) (by kernel_rfl) (by kernel_rfl) (fun _ _ _ h => h) (by kernel_rfl) ?_ (by assumption) rfl (by kernel_rfl) ?_
    rotate_left
    · intro w hSw; (try dsimp only at hSw); go_simp; (try with_reducible rfl)
    simp only [List.set]
    refine hH_take (i := 2) (v := ?_) (d := 88) (l2 := #[true, true, true, false, false, false, false, false, false, false, false, false, false, false, false, false, false, false, false, false, false, false, false, false, false]) rfl (by kernel_rfl) (by kernel_rfl) (by kernel_rfl) (fun _ _ _ h => h) (by kernel_rfl) ?_ (by assumption) rfl (by kernel_rfl) ?_
    rotate_left
    · intro w hSw; (try dsimp only at hSw); go_simp; (try with_reducible rfl)
    simp only [List.set]
    refine hH_take (i := 3) (v := ?_) (d := 89) (l2 := #[true, true, true, true, false, false, false, false, false, false, false, false, false, false, false, false, false, false, false, false, false, false, false, false, false]) rfl (by kernel_rfl) (by kernel_rfl) (by kernel_rfl) (fun _ _ _ h => h) (by kernel_rfl) ?_ (by assumption) rfl (by kernel_rfl) ?_
    rotate_left
    · intro w hSw; (try dsimp only at hSw); go_simp; (try with_reducible rfl)
    simp only [List.set]
    refine hH_take (i := 4) (v := ?_) (d := 90) (l2 := #[true, true, true, true, true, false, false, false, false, false, false, false, false, false, false, false, false, false, false, false, false, false, false, false, false]) rfl (by kernel_rfl) (by kernel_rfl) (by kernel_rfl) (fun _ _ _ h => h) (by kernel_rfl) ?_ (by assumption) rfl (by kernel_rfl) ?_
    rotate_left
    · intro w hSw; (try dsimp only at hSw); go_simp; (try with_reducible rfl)
    simp only [List.set]
    refine hH_take (i := 5) (v := ?_) (d := 91) (l2 := #[true, true, true, true, true, true, false, false, false, false, false, false, false, false, false, false, false, false, false, false, false, false, false, false, false]) rfl (by kernel_rfl) (by kernel_rfl) (by kernel_rfl) (fun _ _ _ h => h) (by kernel_rfl) ?_ (by assumption) rfl (by kernel_rfl) ?_
    rotate_left
    · intro w hSw; (try dsimp only at hSw); go_simp; (try with_reducible rfl)
    simp only [List.set]
    refine hH_take (i := 6) (v := ?_) (d := 92) (l2 := #[true, true, true, true, true, true, true, false, false, false, false, false, false, false, false, false, false, false, false, false, false, false, false, false, false]) rfl (by kernel_rfl) (by kernel_rfl) (by kernel_rfl) (fun _ _ _ h => h) (by kernel_rfl) ?_ (by assumption) rfl (by kernel_rfl) ?_
    rotate_left
    · intro w hSw; (try dsimp only at hSw); go_simp; (try with_reducible rfl)
    simp only [List.set]
    refine hH_take (i := 7) (v := ?_) (d := 93) (l2 := #[true, true, true, true, true, true, true, true, false, false, false, false, false, false, false, false, false, false, false, false, false, false, false, false, false]) rfl (by kernel_rfl) (by kernel_rfl) (by kernel_rfl) (fun _ _ _ h => h) (by kernel_rfl) ?_ (by assumption) rfl (by kernel_rfl) ?_
    rotate_left
    · intro w hSw; (try dsimp only at hSw); go_simp; (try with_reducible rfl)
    simp only [List.set]
    refine hH_take (i := 8) (v := ?_) (d := 94) (l2 := #[true, true, true, true, true, true, true, true, true, false, false, false, false, false, false, false, false, false, false, false, false, false, false, false, false]) rfl (by kernel_rfl) (by kernel_rfl) (by kernel_rfl) (fun _ _ _ h => h) (by kernel_rfl) ?_ (by assumption) rfl (by kernel_rfl) ?_
    rotate_left
    · intro w hSw; (try dsimp only at hSw); go_simp; (try with_reducible rfl)
    simp only [List.set]
    refine hH_take (i := 9) (v := ?_) (d := 95) (l2 := #[true, true, true, true, true, true, true, true, true, true, false, false, false, false, false, false, false, false, false, false, false, false, false, false, false]) rfl (by kernel_rfl) (by kernel_rfl) (by kernel_rfl) (fun _ _ _ h => h) (by kernel_rfl) ?_ (by assumption) rfl (by kernel_rfl) ?_
    rotate_left
    · intro w hSw; (try dsimp only at hSw); go_simp; (try with_reducible rfl)
    simp only [List.set]
    refine hH_take (i := 10) (v := ?_) (d := 96) (l2 := #[true, true, true, true, true, true, true, true, true, true, true, false, false, false, false, false, false, false, false, false, false, false, false, false, false]) rfl (by kernel_rfl) (by kernel_rfl) (by kernel_rfl) (fun _ _ _ h => h) (by kernel_rfl) ?_ (by assumption) rfl (by kernel_rfl) ?_
    rotate_left
    · intro w hSw; (try dsimp only at hSw); go_simp; (try with_reducible rfl)
    simp only [List.set]
    refine hH_take (i := 11) (v := ?_) (d := 97) (l2 := #[true, true, true, true, true, true, true, true, true, true, true, true, false, false, false, false, false, false, false, false, false, false, false, false, false]) rfl (by kernel_rfl) (by kernel_rfl) (by kernel_rfl) (fun _ _ _ h => h) (by kernel_rfl) ?_ (by assumption) rfl (by kernel_rfl) ?_
    rotate_left
    · intro w hSw; refine (ex_load_at (one4 (pr_up h2 hSw)) rfl rfl).trans ?_; with_reducible rfl
    simp only [List.set]
    refine wpAnyH_ready (rs := [12]) (by kernel_rfl) (by simp) ?_
    refine AllReadyH.cons rfl (fun K hK => ?_) AllReadyH.nil
    go_simp
    (go_at_call 9; (with_reducible refine (kS _).mono ?_); rintro e w1 ⟨rfl, h1⟩; have hS : Below W.heap.size W w1 := vb hS h1; clear h1)
    refine hK.out _ _ hS (fun hHeld => ?_)
    clear hK K
    refine hH_take (i := 13) (v := ?_) (d := 99) (l2 := #[true, true, true, true, true, true, true, true, true, true, true, true, true, true, false, false, false, false, false, false, false, false, false, false, false]) rfl (by kernel_rfl) (by kernel_rfl) (by kernel_rfl) (fun _ _ _ h => h) (by kernel_rfl) ?_ (by assumption) rfl (by kernel_rfl) ?_
    rotate_left
    · intro w hSw; refine (ex_keq rfl rfl rfl).trans ?_; with_reducible rfl
    simp only [List.set]
    refine hH_take (i := 14) (v := ?_) (d := 100) (l2 := #[true, true, true, true, true, true, true, true, true, true, true, true, true, true, true, false, false, false, false, false, false, false, false, false, false]) rfl (by kernel_rfl) (by kernel_rfl) (by kernel_rfl) (fun _ _ _ h => h) (by kernel_rfl) ?_ (by assumption) rfl (by kernel_rfl) ?_
    rotate_left
    · intro w hSw; (try dsimp only at hSw); go_simp; (try with_reducible rfl)
    simp only [List.set]
    refine hH_take (i := 15) (v := ?_) (d := 101) (l2 := #[true, true, true, true, true, true, true, true, true, true, true, true, true, true, true, true, false, false, false, false, false, false, false, false, false]) rfl (by kernel_rfl) (by kernel_rfl) (by kernel_rfl) (fun _ _ _ h => h) (by kernel_rfl) ?_ (by assumption) rfl (by kernel_rfl) ?_
    rotate_left
    · intro w hSw; (try dsimp only at hSw); go_simp; (try with_reducible rfl)
    simp only [List.set]
    refine hH_take (i := 16) (v := ?_) (d := 102) (l2 := #[true, true, true, true, true, true, true, true, true, true, true, true, true, true, true, true, true, false, false, false, false, false, false, false, false]) rfl (by kernel_rfl) (by kernel_rfl) (by kernel_rfl) (fun _ _ _ h => h) (by kernel_rfl) ?_ (by assumption) rfl (by kernel_rfl) ?_
    rotate_left
    · intro w hSw; (try dsimp only at hSw); go_simp; (try with_reducible rfl)
    simp only [List.set]
    refine hH_take (i := 17) (v := ?_) (d := 103) (l2 := #[true, true, true, true, true, true, true, true, true, true, true, true, true, true, true, true, true, true, false, false, false, false, false, false, false]) rfl (by kernel_rfl) (by kernel_rfl) (by kernel_rfl) (fun _ _ _ h => h) (by kernel_rfl) ?_ (by assumption) rfl (by kernel_rfl) ?_
    rotate_left
    · intro w hSw; (try dsimp only at hSw); go_simp; (try with_reducible rfl)
    simp only [List.set]
    refine hH_take (i := 18) (v := ?_) (d := 104) (l2 := #[true, true, true, true, true, true, true, true, true, true, true, true, true, true, true, true, true, true, true, false, false, false, false, false, false]) rfl (by kernel_rfl) (by kernel_rfl) (by kernel_rfl) (fun _ _ _ h => h) (by kernel_rfl) ?_ (by assumption) rfl (by kernel_rfl) ?_
    rotate_left
    · intro w hSw; (try dsimp only at hSw); go_simp; (try with_reducible rfl)
    simp only [List.set]
    refine hH_take (i := 19) (v := ?_) (d := 105) (l2 := #[true, true, true, true, true, true, true, true, true, true, true, true, true, true, true, true, true, true, true, true, false, false, false, false, false]) rfl (by kernel_rfl) (by kernel_rfl) (by kernel_rfl) (fun _ _ _ h => h) (by kernel_rfl) ?_ (by assumption) rfl (by kernel_rfl) ?_
    rotate_left
    · intro w hSw; (try dsimp only at hSw); go_simp; (try with_reducible rfl)
    simp only [List.set]
    refine hH_take (i := 20) (v := ?_) (d := 106) (l2 := #[true, true, true, true, true, true, true, true, true, true, true, true, true, true, true, true, true, true, true, true, true, false, false, false, false]) rfl (by kernel_rfl) (by kernel_rfl) (by kernel_rfl) (fun _ _ _ h => h) (by kernel_rfl) ?_ (by assumption) rfl (by kernel_rfl) ?_
    rotate_left
    · intro w hSw; (try dsimp only at hSw); go_simp; (try with_reducible rfl)
    simp only [List.set]
    refine hH_take (i := 21) (v := ?_) (d := 107) (l2 := #[true, true, true, true, true, true, true, true, true, true, true, true, true, true, true, true, true, true, true, true, true, true, false, false, false]) rfl (by kernel_rfl) (by kernel_rfl) (by kernel_rfl) (fun _ _ _ h => h) (by kernel_rfl) ?_ (by assumption) rfl (by kernel_rfl) ?_
    rotate_left
    · intro w hSw; (try dsimp only at hSw); go_simp; (try with_reducible rfl)
    simp only [List.set]
    refine hH_take (i := 22) (v := ?_) (d := 108) (l2 := #[true, true, true, true, true, true, true, true, true, true, true, true, true, true, true, true, true, true, true, true, true, true, true, false, false]) rfl (by kernel_rfl) (by kernel_rfl) (by kernel_rfl) (fun _ _ _ h => h) (by kernel_rfl) ?_ (by assumption) rfl (by kernel_rfl) ?_
    rotate_left
    · intro w hSw; (try dsimp only at hSw); go_simp; (try with_reducible rfl)
    simp only [List.set]
    refine hH_take (i := 23) (v := ?_) (d := 109) (l2 := #[true, true, true, true, true, true, true, true, true, true, true, true, true, true, true, true, true, true, true, true, true, true, true, true, false]) rfl (by kernel_rfl) (by kernel_rfl) (by kernel_rfl) (fun _ _ _ h => h) (by kernel_rfl) ?_ (by assumption) rfl (by kernel_rfl) ?_
    rotate_left
    · intro w hSw; (try dsimp only at hSw); go_simp; (try with_reducible rfl)
    simp only [List.set]
    refine hH_take (i := 24) (v := ?_) (d := 9) (l2 := #[true, true, true, true, true, true, true, true, true, true, true, true, true, true, true, true, true, true, true, true, true, true, true, true, true]) rfl (by kernel_rfl) (by kernel_rfl) (by kernel_rfl) (fun _ _ _ h => h) (by kernel_rfl) ?_ (by assumption) rfl (by kernel_rfl) ?_
    rotate_left
    · intro w hSw; (try dsimp only at hSw); go_simp; (try with_reducible rfl)
    simp only [List.set]
    refine wpAnyH_done (by kernel_rfl) ?_ _
    go_wp2_with (fail)
    go_meet
    case rel => exact ⟨rfl, Lib.hid hS⟩
  case rest =>
    obtain ⟨rfl, HY⟩ := hcut
    rename ∀ (a : Act) (w : World), Code.wp Tryz.prog _ _ a w → _ => hK
    exact hK _ _ (TN7 (HT.out.up HY.out) (vb HW.out HY.out))
set_option maxHeartbeats 8000000 in
set_option maxRecDepth 1000000 in
theorem TN5 {A A2 : Option Addr} {c c2 : Nat} {w W : World} {x0 x2 x3 x7 x8 x9 x10 x11 x12 x13 x14 x15 x16 x17 x18 x19 x20 x21 x22 x23 x24 x25 x26 x27 x28 x29 x30 x31 x32 x33 x34 x35 x36 x37 x38 x39 x40 x41 x42 x43 x44 x45 x46 x47 x48 x49 x50 x51 x52 x53 x54 x55 x56 x57 x58 x59 x60 x61 x62 x63 x64 x65 x66 x67 x68 x69 x70 x71 x72 x73 x74 x75 x76 x77 x78 x79 x80 x81 x82 x83 x84 x85 x86 x87 x88 x89 x90 x91 x92 x93 x94 x95 x96 x97 x98 x99 x100 x101 x102 x103 x104 x105 x106 x107 x108 x109 x110 x111 x112 x113 x114 x115 x116 x117 x118 x119 x120 x121 x122 x123 x124 x125 x126 x127 x128 x129 x130 x131 x132 x133 x134 x135 x136 x137 x138 x139 x140 x141 x142 x143 x144 x145 x146 x147 x148 x149 x150 x151 x152 x153 x154 x155 x156 x157 x158 x159 x160 x161 x162 x163 x164 x165 x166 x167 x168 x169 x170 x171 x172 x173 x174 x175 x176 x177 x178 x179 x180 x181 x182 : Value} (hT : TabIn W A L5 c) (hW : Below w.heap.size w W) (h2 : PR W A2 M4) : Code.wp Tryz.prog (tail3 5) (bodyPost Tryz.prog Tryz.f3 (fun e w' => e = .returned (.bool true) ∧ Below w.heap.size w w')) ⟨#[x0, .slice A 5 c, x2, x3, .bool true, .slice A2 4 c2, .int .i64 0, x7, x8, x9, x10, x11, x12, x13, x14, x15, x16, x17, x18, x19, x20, x21, x22, x23, x24, x25, x26, x27, x28, x29, x30, x31, x32, x33, x34, x35, x36, x37, x38, x39, x40, x41, x42, x43, x44, x45, x46, x47, x48, x49, x50, x51, x52, x53, x54, x55, x56, x57, x58, x59, x60, x61, x62, x63, x64, x65, x66, x67, x68, x69, x70, x71, x72, x73, x74, x75, x76, x77, x78, x79, x80, x81, x82, x83, x84, x85, x86, x87, x88, x89, x90, x91, x92, x93, x94, x95, x96, x97, x98, x99, x100, x101, x102, x103, x104, x105, x106, x107, x108, x109, x110, x111, x112, x113, x114, x115, x116, x117, x118, x119, x120, x121, x122, x123, x124, x125, x126, x127, x128, x129, x130, x131, x132, x133, x134, x135, x136, x137, x138, x139, x140, x141, x142, x143, x144, x145, x146, x147, x148, x149, x150, x151, x152, x153, x154, x155, x156, x157, x158, x159, x160, x161, x162, x163, x164, x165, x166, x167, x168, x169, x170, x171, x172, x173, x174, x175, x176, x177, x178, x179, x180, x181, x182], []⟩ W := by
  have HT := Lib.hid hT
  have HW := Lib.hid hW
  have H2 := Lib.hid h2
  have kO := fun V => keyOf_k (⟨#[122]⟩ : ByteArray) V
  have kD : ∀ V (hb : Below W.heap.size W V), Calls Tryz.prog 14 #[.slice A 5 c, .agg #[.string (⟨#[122]⟩ : ByteArray), .int .i64 0]] V fun e w' => ∃ B d, e = .returned (.tuple #[.slice B 5 d, .int .i64 0]) ∧ Below V.heap.size V w' := fun V hb =>
    (Drop_t A L5 c ⟨(⟨#[122]⟩ : ByteArray), 0⟩ V (hT.up hb) ⟨by decide, by decide, fun h => absurd h (by decide)⟩).mono fun e w' ⟨v, he, ho, hb⟩ => by
      rw [drop_z] at ho
      obtain ⟨B, d, rfl, _⟩ := ho.out
      exact ⟨B, d, he, hb⟩
  have HB := Lib.hid (Below.refl W.heap.size W)
  clear hT hW h2
  unfold tail3
  dsimp only [Tryz.f3, rgtN]
  go_upto_region 5 with (fail)
  go_cut [7, 8] from 80 (fun q r wx => ∃ A3 c3, q = .slice A3 5 c3 ∧ r = .int .i64 0 ∧ Hid (Below W.heap.size W wx))
  case first =>
    go_wp2_with (first
      | (go_at_call 13; (with_reducible refine (kO _).mono ?_); rintro e w1 ⟨rfl, h9⟩; have HB := Lib.hid (vb HB.out h9); clear h9)
      | (go_at_call 14; (with_reducible refine (kD _ HB.out).mono ?_); rintro e w2 ⟨B, d, rfl, h9⟩; have HB := Lib.hid (vb HB.out h9); clear h9))
    go_meet
    case rel => exact ⟨_, _, rfl, rfl, HB⟩
  case rest =>
    obtain ⟨A3, c3, rfl, rfl, HY⟩ := hcut
    rename ∀ (a : Act) (w : World), Code.wp Tryz.prog _ _ a w → _ => hK
    exact hK _ _ (TN6 (HT.out.up HY.out) (vb HW.out HY.out) (pr_up H2.out HY.out))
set_option maxHeartbeats 8000000 in
set_option maxRecDepth 1000000 in
theorem TN4 {A : Option Addr} {c : Nat} {w W : World} {x0 x2 x3 x5 x6 x7 x8 x9 x10 x11 x12 x13 x14 x15 x16 x17 x18 x19 x20 x21 x22 x23 x24 x25 x26 x27 x28 x29 x30 x31 x32 x33 x34 x35 x36 x37 x38 x39 x40 x41 x42 x43 x44 x45 x46 x47 x48 x49 x50 x51 x52 x53 x54 x55 x56 x57 x58 x59 x60 x61 x62 x63 x64 x65 x66 x67 x68 x69 x70 x71 x72 x73 x74 x75 x76 x77 x78 x79 x80 x81 x82 x83 x84 x85 x86 x87 x88 x89 x90 x91 x92 x93 x94 x95 x96 x97 x98 x99 x100 x101 x102 x103 x104 x105 x106 x107 x108 x109 x110 x111 x112 x113 x114 x115 x116 x117 x118 x119 x120 x121 x122 x123 x124 x125 x126 x127 x128 x129 x130 x131 x132 x133 x134 x135 x136 x137 x138 x139 x140 x141 x142 x143 x144 x145 x146 x147 x148 x149 x150 x151 x152 x153 x154 x155 x156 x157 x158 x159 x160 x161 x162 x163 x164 x165 x166 x167 x168 x169 x170 x171 x172 x173 x174 x175 x176 x177 x178 x179 x180 x181 x182 : Value} (hT : TabIn W A L5 c) (hW : Below w.heap.size w W) : Code.wp Tryz.prog (tail3 4) (bodyPost Tryz.prog Tryz.f3 (fun e w' => e = .returned (.bool true) ∧ Below w.heap.size w w')) ⟨#[x0, .slice A 5 c, x2, x3, .bool true, x5, x6, x7, x8, x9, x10, x11, x12, x13, x14, x15, x16, x17, x18, x19, x20, x21, x22, x23, x24, x25, x26, x27, x28, x29, x30, x31, x32, x33, x34, x35, x36, x37, x38, x39, x40, x41, x42, x43, x44, x45, x46, x47, x48, x49, x50, x51, x52, x53, x54, x55, x56, x57, x58, x59, x60, x61, x62, x63, x64, x65, x66, x67, x68, x69, x70, x71, x72, x73, x74, x75, x76, x77, x78, x79, x80, x81, x82, x83, x84, x85, x86, x87, x88, x89, x90, x91, x92, x93, x94, x95, x96, x97, x98, x99, x100, x101, x102, x103, x104, x105, x106, x107, x108, x109, x110, x111, x112, x113, x114, x115, x116, x117, x118, x119, x120, x121, x122, x123, x124, x125, x126, x127, x128, x129, x130, x131, x132, x133, x134, x135, x136, x137, x138, x139, x140, x141, x142, x143, x144, x145, x146, x147, x148, x149, x150, x151, x152, x153, x154, x155, x156, x157, x158, x159, x160, x161, x162, x163, x164, x165, x166, x167, x168, x169, x170, x171, x172, x173, x174, x175, x176, x177, x178, x179, x180, x181, x182], []⟩ W := by
  have HT := Lib.hid hT
  have HW := Lib.hid hW
  have kO := fun V => keyOf_k (⟨#[50]⟩ : ByteArray) V
  have kD : ∀ V (hb : Below W.heap.size W V), Calls Tryz.prog 14 #[.slice A 5 c, .agg #[.string (⟨#[50]⟩ : ByteArray), .int .i64 0]] V fun e w' => ∃ B d, e = .returned (.tuple #[.slice B 4 d, .int .i64 0]) ∧ PR w' B M4 ∧ Below V.heap.size V w' := fun V hb =>
    (Drop_t A L5 c ⟨(⟨#[50]⟩ : ByteArray), 0⟩ V (hT.up hb) ⟨by decide, by decide, fun h => absurd h (by decide)⟩).mono fun e w' ⟨v, he, ho, hb⟩ => by
      rw [drop_2] at ho
      obtain ⟨B, d, rfl, hp, _⟩ := ho.out
      exact ⟨B, d, he, hp, hb⟩
  have HB := Lib.hid (Below.refl W.heap.size W)
  clear hT hW
  unfold tail3
  dsimp only [Tryz.f3, rgtN]
  go_upto_region 4 with (fail)
  go_cut [5, 6] from 74 (fun q r wx => ∃ A2 c2, q = .slice A2 4 c2 ∧ r = .int .i64 0 ∧ Hid (Below W.heap.size W wx ∧ PR wx A2 M4))
  case first =>
    go_wp2_with (first
      | (go_at_call 13; (with_reducible refine (kO _).mono ?_); rintro e w1 ⟨rfl, h9⟩; have HB := Lib.hid (vb HB.out h9); clear h9)
      | (go_at_call 14; (with_reducible refine (kD _ HB.out).mono ?_); rintro e w2 ⟨B, d, rfl, hp, h9⟩; have HB := Lib.hid (vb HB.out h9); have HP := Lib.hid hp; clear h9 hp))
    go_meet
    case rel => exact ⟨_, _, rfl, rfl, Lib.hid ⟨HB.out, HP.out⟩⟩
  case rest =>
    obtain ⟨A2, c2, rfl, rfl, HY⟩ := hcut
    rename ∀ (a : Act) (w : World), Code.wp Tryz.prog _ _ a w → _ => hK
    exact hK _ _ (TN5 (HT.out.up HY.out.1) (vb HW.out HY.out.1) HY.out.2)
/-- the keys in their order, and all that was there -/
structure S3 (W : World) (O : Nat) (V : World) : Prop where
  below : Below W.heap.size W V
  o : V.heap[O]? = some (.cells (kyCells M5).toArray 23 (0, 0))
theorem S3.up {W V V' : World} {O : Nat} (h : S3 W O V) (hb : Below V.heap.size V V') : S3 W O V' := ⟨vb h.below hb, vblkn hb h.o⟩
set_option maxHeartbeats 8000000 in
set_option maxRecDepth 1000000 in
theorem TN3 {A : Option Addr} {c O : Nat} {w W : World} {x0 x4 x5 x6 x7 x8 x9 x10 x11 x12 x13 x14 x15 x16 x17 x18 x19 x20 x21 x22 x23 x24 x25 x26 x27 x28 x29 x30 x31 x32 x33 x34 x35 x36 x37 x38 x39 x40 x41 x42 x43 x44 x45 x46 x47 x48 x49 x50 x51 x52 x53 x54 x55 x56 x57 x58 x59 x60 x61 x62 x63 x64 x65 x66 x67 x68 x69 x70 x71 x72 x73 x74 x75 x76 x77 x78 x79 x80 x81 x82 x83 x84 x85 x86 x87 x88 x89 x90 x91 x92 x93 x94 x95 x96 x97 x98 x99 x100 x101 x102 x103 x104 x105 x106 x107 x108 x109 x110 x111 x112 x113 x114 x115 x116 x117 x118 x119 x120 x121 x122 x123 x124 x125 x126 x127 x128 x129 x130 x131 x132 x133 x134 x135 x136 x137 x138 x139 x140 x141 x142 x143 x144 x145 x146 x147 x148 x149 x150 x151 x152 x153 x154 x155 x156 x157 x158 x159 x160 x161 x162 x163 x164 x165 x166 x167 x168 x169 x170 x171 x172 x173 x174 x175 x176 x177 x178 x179 x180 x181 x182 : Value} (hT : TabIn W A L5 c) (hW : Below w.heap.size w W) (hO : W.heap[O]? = some (.cells (kyCells M5).toArray 23 (0, 0))) : Code.wp Tryz.prog (tail3 3) (bodyPost Tryz.prog Tryz.f3 (fun e w' => e = .returned (.bool true) ∧ Below w.heap.size w w')) ⟨#[x0, .slice A 5 c, .slice (some ⟨O, 0, none⟩) 5 5, .int .i64 0, x4, x5, x6, x7, x8, x9, x10, x11, x12, x13, x14, x15, x16, x17, x18, x19, x20, x21, x22, x23, x24, x25, x26, x27, x28, x29, x30, x31, x32, x33, x34, x35, x36, x37, x38, x39, x40, x41, x42, x43, x44, x45, x46, x47, x48, x49, x50, x51, x52, x53, x54, x55, x56, x57, x58, x59, x60, x61, x62, x63, x64, x65, x66, x67, x68, x69, x70, x71, x72, x73, x74, x75, x76, x77, x78, x79, x80, x81, x82, x83, x84, x85, x86, x87, x88, x89, x90, x91, x92, x93, x94, x95, x96, x97, x98, x99, x100, x101, x102, x103, x104, x105, x106, x107, x108, x109, x110, x111, x112, x113, x114, x115, x116, x117, x118, x119, x120, x121, x122, x123, x124, x125, x126, x127, x128, x129, x130, x131, x132, x133, x134, x135, x136, x137, x138, x139, x140, x141, x142, x143, x144, x145, x146, x147, x148, x149, x150, x151, x152, x153, x154, x155, x156, x157, x158, x159, x160, x161, x162, x163, x164, x165, x166, x167, x168, x169, x170, x171, x172, x173, x174, x175, x176, x177, x178, x179, x180, x181, x182], []⟩ W := by
  have HT := Lib.hid hT
  have HW := Lib.hid hW
  have kS : ∀ V, Calls Tryz.prog 9 #[.int .i64 0] V fun e w' => e = .returned (.agg #[.string ⟨#[]⟩, .int .i64 1]) ∧ Below V.heap.size V w' := fun V => Sym_k 0 (by decide) (by decide) V
  have hS : S3 W O W.drew := ⟨(Below.refl W.heap.size W).drew, hO⟩
  clear hT hW hO
  unfold tail3
  dsimp only [Tryz.f3, rgtN]
  go_upto_region 3 with (fail)
  go_cut [4] from 32 (fun q wx => q = .bool true ∧ Hid (Below W.heap.size W wx))
  case first =>
    refine wp_region_held_drew (S := S3 W O) (by kernel_rfl) hS (fun hHeld => ?_)
    refine hH_take (i := 0) (v := ?_) (d := 32) (l2 := #[true, false, false, false, false, false, false, false, false, false, false, false, false, false, false, false, false, false, false, false, false, false, false, false, false, false, false, false, false, false, false, false, false, false, false, false, false, false, false, false, false, false, false]) rfl (by kernel_rfl) (by kernel_rfl) (by kernel_rfl) (fun _ _ _ h => h) (by kernel_rfl) ?_ (by assumption) rfl (by kernel_rfl) ?_
    rotate_left
    · intro w hSw; (try dsimp only at hSw); go_simp; (try with_reducible rfl)
    simp only [List.set]
    refine hH_take (i := 1) (v := ?_) (d := 33) (l2 := #[true, true, false, false, false, false, false, false, false, false, false, false, false, false, false, false, false, false, false, false, false, false, false, false, false, false, false, false, false, false, false, false, false, false, false, false, false, false, false, false, false, false, false]) rfl (by kernel_rfl) (by kernel_rfl) (by kernel_rfl) (fun _ _ _ h => h) (by kernel_rfl) ?_ (by assumption) rfl (by kernel_rfl) ?_
    rotate_left
    · intro w hSw; (try dsimp only at hSw); go_simp; (try with_reducible rfl)
    simp only [List.set]
    refine hH_take (i := 2) (v := ?_) (d := 34) (l2 := #[true, true, true, false, false, false, false, false, false, false, false, false, false, false, false, false, false, false, false, false, false, false, false, false, false, false, false, false, false, false, false, false, false, false, false, false, false, false, false, false, false, false, false]) rfl (by kernel_rfl) (by kernel_rfl) (by kernel_rfl) (fun _ _ _ h => h) (by kernel_rfl) ?_ (by assumption) rfl (by kernel_rfl) ?_
    rotate_left
    · intro w hSw; (try dsimp only at hSw); go_simp; (try with_reducible rfl)
    simp only [List.set]
    refine hH_take (i := 3) (v := ?_) (d := 35) (l2 := #[true, true, true, true, false, false, false, false, false, false, false, false, false, false, false, false, false, false, false, false, false, false, false, false, false, false, false, false, false, false, false, false, false, false, false, false, false, false, false, false, false, false, false]) rfl (by kernel_rfl) (by kernel_rfl) (by kernel_rfl) (fun _ _ _ h => h) (by kernel_rfl) ?_ (by assumption) rfl (by kernel_rfl) ?_
    rotate_left
    · intro w hSw; (try dsimp only at hSw); go_simp; (try with_reducible rfl)
    simp only [List.set]
    refine hH_take (i := 4) (v := ?_) (d := 36) (l2 := #[true, true, true, true, true, false, false, false, false, false, false, false, false, false, false, false, false, false, false, false, false, false, false, false, false, false, false, false, false, false, false, false, false, false, false, false, false, false, false, false, false, false, false]) rfl (by kernel_rfl) (by kernel_rfl) (by kernel_rfl) (fun _ _ _ h => h) (by kernel_rfl) ?_ (by assumption) rfl (by kernel_rfl) ?_
    rotate_left
    · intro w hSw; (try dsimp only at hSw); go_simp; (try with_reducible rfl)
    simp only [List.set]
    refine hH_take (i := 5) (v := ?_) (d := 37) (l2 := #[true, true, true, true, true, true, false, false, false, false, false, false, false, false, false, false, false, false, false, false, false, false, false, false, false, false, false, false, false, false, false, false, false, false, false, false, false, false, false, false, false, false, false]) rfl (by kernel_rfl) (by kernel_rfl) (by kernel_rfl) (fun _ _ _ h => h) (by kernel_rfl) ?_ (by assumption) rfl (by kernel_rfl) ?_
    rotate_left
    · intro w hSw; (try dsimp only at hSw); go_simp; (try with_reducible rfl)
    simp only [List.set]
    refine hH_take (i := 6) (v := ?_) (d := 38) (l2 := #[true, true, true, true, true, true, true, false, false, false, false, false, false, false, false, false, false, false, false, false, false, false, false, false, false, false, false, false, false, false, false, false, false, false, false, false, false, false, false, false, false, false, false]) rfl (by kernel_rfl) (by kernel_rfl) (by kernel_rfl) (fun _ _ _ h => h) (by kernel_rfl) ?_ (by assumption) rfl (by kernel_rfl) ?_
    rotate_left
    · intro w hSw; (try dsimp only at hSw); go_simp; (try with_reducible rfl)
    simp only [List.set]
    refine hH_take (i := 7) (v := ?_) (d := 39) (l2 := #[true, true, true, true, true, true, true, true, false, false, false, false, false, false, false, false, false, false, false, false, false, false, false, false, false, false, false, false, false, false, false, false, false, false, false, false, false, false, false, false, false, false, false]) rfl (by kernel_rfl) (by kernel_rfl) (by kernel_rfl) (fun _ _ _ h => h) (by kernel_rfl) ?_ (by assumption) rfl (by kernel_rfl) ?_
    rotate_left
    · intro w hSw; (try dsimp only at hSw); go_simp; (try with_reducible rfl)
    simp only [List.set]
    refine hH_take (i := 8) (v := ?_) (d := 40) (l2 := #[true, true, true, true, true, true, true, true, true, false, false, false, false, false, false, false, false, false, false, false, false, false, false, false, false, false, false, false, false, false, false, false, false, false, false, false, false, false, false, false, false, false, false]) rfl (by kernel_rfl) (by kernel_rfl) (by kernel_rfl) (fun _ _ _ h => h) (by kernel_rfl) ?_ (by assumption) rfl (by kernel_rfl) ?_
    rotate_left
    · intro w hSw; (try dsimp only at hSw); go_simp; (try with_reducible rfl)
    simp only [List.set]
    refine hH_take (i := 9) (v := ?_) (d := 41) (l2 := #[true, true, true, true, true, true, true, true, true, true, false, false, false, false, false, false, false, false, false, false, false, false, false, false, false, false, false, false, false, false, false, false, false, false, false, false, false, false, false, false, false, false, false]) rfl (by kernel_rfl) (by kernel_rfl) (by kernel_rfl) (fun _ _ _ h => h) (by kernel_rfl) ?_ (by assumption) rfl (by kernel_rfl) ?_
    rotate_left
    · intro w hSw; (try dsimp only at hSw); go_simp; (try with_reducible rfl)
    simp only [List.set]
    refine hH_take (i := 10) (v := ?_) (d := 42) (l2 := #[true, true, true, true, true, true, true, true, true, true, true, false, false, false, false, false, false, false, false, false, false, false, false, false, false, false, false, false, false, false, false, false, false, false, false, false, false, false, false, false, false, false, false]) rfl (by kernel_rfl) (by kernel_rfl) (by kernel_rfl) (fun _ _ _ h => h) (by kernel_rfl) ?_ (by assumption) rfl (by kernel_rfl) ?_
    rotate_left
    · intro w hSw; refine (ex_load_at (m5_at hSw.o 0 (by decide)) rfl rfl).trans ?_; with_reducible rfl
    simp only [List.set]
    refine wpAnyH_ready (rs := [11]) (by kernel_rfl) (by simp) ?_
    refine AllReadyH.cons rfl (fun K hK => ?_) AllReadyH.nil
    go_simp
    (go_at_call 13; (with_reducible refine (keyOf_k (⟨#[49]⟩ : ByteArray) _).mono ?_); rintro e w1 ⟨rfl, h1⟩; have hS := hS.up h1; clear h1)
    refine hK.out _ _ hS (fun hHeld => ?_)
    clear hK K
    refine hH_take (i := 12) (v := ?_) (d := 44) (l2 := #[true, true, true, true, true, true, true, true, true, true, true, true, true, false, false, false, false, false, false, false, false, false, false, false, false, false, false, false, false, false, false, false, false, false, false, false, false, false, false, false, false, false, false]) rfl (by kernel_rfl) (by kernel_rfl) (by kernel_rfl) (fun _ _ _ h => h) (by kernel_rfl) ?_ (by assumption) rfl (by kernel_rfl) ?_
    rotate_left
    · intro w hSw; refine (ex_keq rfl rfl rfl).trans ?_; with_reducible rfl
    simp only [List.set]
    refine hH_take (i := 13) (v := ?_) (d := 45) (l2 := #[true, true, true, true, true, true, true, true, true, true, true, true, true, true, false, false, false, false, false, false, false, false, false, false, false, false, false, false, false, false, false, false, false, false, false, false, false, false, false, false, false, false, false]) rfl (by kernel_rfl) (by kernel_rfl) (by kernel_rfl) (fun _ _ _ h => h) (by kernel_rfl) ?_ (by assumption) rfl (by kernel_rfl) ?_
    rotate_left
    · intro w hSw; (try dsimp only at hSw); go_simp; (try with_reducible rfl)
    simp only [List.set]
    refine hH_take (i := 14) (v := ?_) (d := 46) (l2 := #[true, true, true, true, true, true, true, true, true, true, true, true, true, true, true, false, false, false, false, false, false, false, false, false, false, false, false, false, false, false, false, false, false, false, false, false, false, false, false, false, false, false, false]) rfl (by kernel_rfl) (by kernel_rfl) (by kernel_rfl) (fun _ _ _ h => h) (by kernel_rfl) ?_ (by assumption) rfl (by kernel_rfl) ?_
    rotate_left
    · intro w hSw; (try dsimp only at hSw); go_simp; (try with_reducible rfl)
    simp only [List.set]
    refine hH_take (i := 15) (v := ?_) (d := 47) (l2 := #[true, true, true, true, true, true, true, true, true, true, true, true, true, true, true, true, false, false, false, false, false, false, false, false, false, false, false, false, false, false, false, false, false, false, false, false, false, false, false, false, false, false, false]) rfl (by kernel_rfl) (by kernel_rfl) (by kernel_rfl) (fun _ _ _ h => h) (by kernel_rfl) ?_ (by assumption) rfl (by kernel_rfl) ?_
    rotate_left
    · intro w hSw; (try dsimp only at hSw); go_simp; (try with_reducible rfl)
    simp only [List.set]
    refine hH_take (i := 16) (v := ?_) (d := 48) (l2 := #[true, true, true, true, true, true, true, true, true, true, true, true, true, true, true, true, true, false, false, false, false, false, false, false, false, false, false, false, false, false, false, false, false, false, false, false, false, false, false, false, false, false, false]) rfl (by kernel_rfl) (by kernel_rfl) (by kernel_rfl) (fun _ _ _ h => h) (by kernel_rfl) ?_ (by assumption) rfl (by kernel_rfl) ?_
    rotate_left
    · intro w hSw; (try dsimp only at hSw); go_simp; (try with_reducible rfl)
    simp only [List.set]
    refine hH_take (i := 17) (v := ?_) (d := 49) (l2 := #[true, true, true, true, true, true, true, true, true, true, true, true, true, true, true, true, true, true, false, false, false, false, false, false, false, false, false, false, false, false, false, false, false, false, false, false, false, false, false, false, false, false, false]) rfl (by kernel_rfl) (by kernel_rfl) (by kernel_rfl) (fun _ _ _ h => h) (by kernel_rfl) ?_ (by assumption) rfl (by kernel_rfl) ?_
    rotate_left
    · intro w hSw; refine (ex_load_at (m5_at hSw.o 1 (by decide)) rfl rfl).trans ?_; with_reducible rfl
    simp only [List.set]
    refine wpAnyH_ready (rs := [18]) (by kernel_rfl) (by simp) ?_
    refine AllReadyH.cons rfl (fun K hK => ?_) AllReadyH.nil
    go_simp
    (go_at_call 13; (with_reducible refine (keyOf_k (⟨#[50]⟩ : ByteArray) _).mono ?_); rintro e w1 ⟨rfl, h1⟩; have hS := hS.up h1; clear h1)
    refine hK.out _ _ hS (fun hHeld => ?_)
    clear hK K
    refine hH_take (i := 19) (v := ?_) (d := 51) (l2 := #[true, true, true, true, true, true, true, true, true, true, true, true, true, true, true, true, true, true, true, true, false, false, false, false, false, false, false, false, false, false, false, false, false, false, false, false, false, false, false, false, false, false, false]) rfl (by kernel_rfl) (by kernel_rfl) (by kernel_rfl) (fun _ _ _ h => h) (by kernel_rfl) ?_ (by assumption) rfl (by kernel_rfl) ?_
    rotate_left
    · intro w hSw; refine (ex_keq rfl rfl rfl).trans ?_; with_reducible rfl
    simp only [List.set]
    refine hH_take (i := 20) (v := ?_) (d := 52) (l2 := #[true, true, true, true, true, true, true, true, true, true, true, true, true, true, true, true, true, true, true, true, true, false, false, false, false, false, false, false, false, false, false, false, false, false, false, false, false, false, false, false, false, false, false]) rfl (by kernel_rfl) (by kernel_rfl) (by kernel_rfl) (fun _ _ _ h => h) (by kernel_rfl) ?_ (by assumption) rfl (by kernel_rfl) ?_
    rotate_left
    · intro w hSw; (try dsimp only at hSw); go_simp; (try with_reducible rfl)
    simp only [List.set]
    refine hH_take (i := 21) (v := ?_) (d := 53) (l2 := #[true, true, true, true, true, true, true, true, true, true, true, true, true, true, true, true, true, true, true, true, true, true, false, false, false, false, false, false, false, false, false, false, false, false, false, false, false, false, false, false, false, false, false]) rfl (by kernel_rfl) (by kernel_rfl) (by kernel_rfl) (fun _ _ _ h => h) (by kernel_rfl) ?_ (by assumption) rfl (by kernel_rfl) ?_
    rotate_left
    · intro w hSw; (try dsimp only at hSw); go_simp; (try with_reducible rfl)
    simp only [List.set]
    refine hH_take (i := 22) (v := ?_) (d := 54) (l2 := #[true, true, true, true, true, true, true, true, true, true, true, true, true, true, true, true, true, true, true, true, true, true, true, false, false, false, false, false, false, false, false, false, false, false, false, false, false, false, false, false, false, false, false]) rfl (by kernel_rfl) (by kernel_rfl) (by kernel_rfl) (fun _ _ _ h => h) (by kernel_rfl) ?_ (by assumption) rfl (by kernel_rfl) ?_
    rotate_left
    · intro w hSw; (try dsimp only at hSw); go_simp; (try with_reducible rfl)
    simp only [List.set]
    refine hH_take (i := 23) (v := ?_) (d := 55) (l2 := #[true, true, true, true, true, true, true, true, true, true, true, true, true, true, true, true, true, true, true, true, true, true, true, true, false, false, false, false, false, false, false, false, false, false, false, false, false, false, false, false, false, false, false]) rfl (by kernel_rfl) (by kernel_rfl) (by kernel_rfl) (fun _ _ _ h => h) (by kernel_rfl) ?_ (by assumption) rfl (by kernel_rfl) ?_
    rotate_left
    · intro w hSw; (try dsimp only at hSw); go_simp; (try with_reducible rfl)
    simp only [List.set]
    refine hH_take (i := 24) (v := ?_) (d := 56) (l2 := #[true, true, true, true, true, true, true, true, true, true, true, true, true, true, true, true, true, true, true, true, true, true, true, true, true, false, false, false, false, false, false, false, false, false, false, false, false, false, false, false, false, false, false]) rfl (by kernel_rfl) (by kernel_rfl) (by kernel_rfl) (fun _ _ _ h => h) (by kernel_rfl) ?_ (by assumption) rfl (by kernel_rfl) ?_
    rotate_left
    · intro w hSw; refine (ex_load_at (m5_at hSw.o 2 (by decide)) rfl rfl).trans ?_; with_reducible rfl
    simp only [List.set]
    refine wpAnyH_ready (rs := [25]) (by kernel_rfl) (by simp) ?_
    refine AllReadyH.cons rfl (fun K hK => ?_) AllReadyH.nil
    go_simp
    (go_at_call 13; (with_reducible refine (keyOf_k (⟨#[98]⟩ : ByteArray) _).mono ?_); rintro e w1 ⟨rfl, h1⟩; have hS := hS.up h1; clear h1)
    refine hK.out _ _ hS (fun hHeld => ?_)
    clear hK K
    refine hH_take (i := 26) (v := ?_) (d := 58) (l2 := #[true, true, true, true, true, true, true, true, true, true, true, true, true, true, true, true, true, true, true, true, true, true, true, true, true, true, true, false, false, false, false, false, false, false, false, false, false, false, false, false, false, false, false]) rfl (by kernel_rfl) (by kernel_rfl) (by kernel_rfl) (fun _ _ _ h => h) (by kernel_rfl) ?_ (by assumption) rfl (by kernel_rfl) ?_
    rotate_left
    · intro w hSw; refine (ex_keq rfl rfl rfl).trans ?_; with_reducible rfl
    simp only [List.set]
    refine hH_take (i := 27) (v := ?_) (d := 59) (l2 := #[true, true, true, true, true, true, true, true, true, true, true, true, true, true, true, true, true, true, true, true, true, true, true, true, true, true, true, true, false, false, false, false, false, false, false, false, false, false, false, false, false, false, false]) rfl (by kernel_rfl) (by kernel_rfl) (by kernel_rfl) (fun _ _ _ h => h) (by kernel_rfl) ?_ (by assumption) rfl (by kernel_rfl) ?_
    rotate_left
    · intro w hSw; (try dsimp only at hSw); go_simp; (try with_reducible rfl)
    simp only [List.set]
    refine hH_take (i := 28) (v := ?_) (d := 60) (l2 := #[true, true, true, true, true, true, true, true, true, true, true, true, true, true, true, true, true, true, true, true, true, true, true, true, true, true, true, true, true, false, false, false, false, false, false, false, false, false, false, false, false, false, false]) rfl (by kernel_rfl) (by kernel_rfl) (by kernel_rfl) (fun _ _ _ h => h) (by kernel_rfl) ?_ (by assumption) rfl (by kernel_rfl) ?_
    rotate_left
    · intro w hSw; (try dsimp only at hSw); go_simp; (try with_reducible rfl)
    simp only [List.set]
    refine hH_take (i := 29) (v := ?_) (d := 61) (l2 := #[true, true, true, true, true, true, true, true, true, true, true, true, true, true, true, true, true, true, true, true, true, true, true, true, true, true, true, true, true, true, false, false, false, false, false, false, false, false, false, false, false, false, false]) rfl (by kernel_rfl) (by kernel_rfl) (by kernel_rfl) (fun _ _ _ h => h) (by kernel_rfl) ?_ (by assumption) rfl (by kernel_rfl) ?_
    rotate_left
    · intro w hSw; (try dsimp only at hSw); go_simp; (try with_reducible rfl)
    simp only [List.set]
    refine hH_take (i := 30) (v := ?_) (d := 62) (l2 := #[true, true, true, true, true, true, true, true, true, true, true, true, true, true, true, true, true, true, true, true, true, true, true, true, true, true, true, true, true, true, true, false, false, false, false, false, false, false, false, false, false, false, false]) rfl (by kernel_rfl) (by kernel_rfl) (by kernel_rfl) (fun _ _ _ h => h) (by kernel_rfl) ?_ (by assumption) rfl (by kernel_rfl) ?_
    rotate_left
    · intro w hSw; (try dsimp only at hSw); go_simp; (try with_reducible rfl)
    simp only [List.set]
    refine hH_take (i := 31) (v := ?_) (d := 63) (l2 := #[true, true, true, true, true, true, true, true, true, true, true, true, true, true, true, true, true, true, true, true, true, true, true, true, true, true, true, true, true, true, true, true, false, false, false, false, false, false, false, false, false, false, false]) rfl (by kernel_rfl) (by kernel_rfl) (by kernel_rfl) (fun _ _ _ h => h) (by kernel_rfl) ?_ (by assumption) rfl (by kernel_rfl) ?_
    rotate_left
    · intro w hSw; refine (ex_load_at (m5_at hSw.o 3 (by decide)) rfl rfl).trans ?_; with_reducible rfl
    simp only [List.set]
    refine wpAnyH_ready (rs := [32]) (by kernel_rfl) (by simp) ?_
    refine AllReadyH.cons rfl (fun K hK => ?_) AllReadyH.nil
    go_simp
    (go_at_call 13; (with_reducible refine (keyOf_k (⟨#[97]⟩ : ByteArray) _).mono ?_); rintro e w1 ⟨rfl, h1⟩; have hS := hS.up h1; clear h1)
    refine hK.out _ _ hS (fun hHeld => ?_)
    clear hK K
    refine hH_take (i := 33) (v := ?_) (d := 65) (l2 := #[true, true, true, true, true, true, true, true, true, true, true, true, true, true, true, true, true, true, true, true, true, true, true, true, true, true, true, true, true, true, true, true, true, true, false, false, false, false, false, false, false, false, false]) rfl (by kernel_rfl) (by kernel_rfl) (by kernel_rfl) (fun _ _ _ h => h) (by kernel_rfl) ?_ (by assumption) rfl (by kernel_rfl) ?_
    rotate_left
    · intro w hSw; refine (ex_keq rfl rfl rfl).trans ?_; with_reducible rfl
    simp only [List.set]
    refine hH_take (i := 34) (v := ?_) (d := 66) (l2 := #[true, true, true, true, true, true, true, true, true, true, true, true, true, true, true, true, true, true, true, true, true, true, true, true, true, true, true, true, true, true, true, true, true, true, true, false, false, false, false, false, false, false, false]) rfl (by kernel_rfl) (by kernel_rfl) (by kernel_rfl) (fun _ _ _ h => h) (by kernel_rfl) ?_ (by assumption) rfl (by kernel_rfl) ?_
    rotate_left
    · intro w hSw; (try dsimp only at hSw); go_simp; (try with_reducible rfl)
    simp only [List.set]
    refine hH_take (i := 35) (v := ?_) (d := 67) (l2 := #[true, true, true, true, true, true, true, true, true, true, true, true, true, true, true, true, true, true, true, true, true, true, true, true, true, true, true, true, true, true, true, true, true, true, true, true, false, false, false, false, false, false, false]) rfl (by kernel_rfl) (by kernel_rfl) (by kernel_rfl) (fun _ _ _ h => h) (by kernel_rfl) ?_ (by assumption) rfl (by kernel_rfl) ?_
    rotate_left
    · intro w hSw; (try dsimp only at hSw); go_simp; (try with_reducible rfl)
    simp only [List.set]
    refine hH_take (i := 36) (v := ?_) (d := 68) (l2 := #[true, true, true, true, true, true, true, true, true, true, true, true, true, true, true, true, true, true, true, true, true, true, true, true, true, true, true, true, true, true, true, true, true, true, true, true, true, false, false, false, false, false, false]) rfl (by kernel_rfl) (by kernel_rfl) (by kernel_rfl) (fun _ _ _ h => h) (by kernel_rfl) ?_ (by assumption) rfl (by kernel_rfl) ?_
    rotate_left
    · intro w hSw; (try dsimp only at hSw); go_simp; (try with_reducible rfl)
    simp only [List.set]
    refine hH_take (i := 37) (v := ?_) (d := 69) (l2 := #[true, true, true, true, true, true, true, true, true, true, true, true, true, true, true, true, true, true, true, true, true, true, true, true, true, true, true, true, true, true, true, true, true, true, true, true, true, true, false, false, false, false, false]) rfl (by kernel_rfl) (by kernel_rfl) (by kernel_rfl) (fun _ _ _ h => h) (by kernel_rfl) ?_ (by assumption) rfl (by kernel_rfl) ?_
    rotate_left
    · intro w hSw; (try dsimp only at hSw); go_simp; (try with_reducible rfl)
    simp only [List.set]
    refine hH_take (i := 38) (v := ?_) (d := 70) (l2 := #[true, true, true, true, true, true, true, true, true, true, true, true, true, true, true, true, true, true, true, true, true, true, true, true, true, true, true, true, true, true, true, true, true, true, true, true, true, true, true, false, false, false, false]) rfl (by kernel_rfl) (by kernel_rfl) (by kernel_rfl) (fun _ _ _ h => h) (by kernel_rfl) ?_ (by assumption) rfl (by kernel_rfl) ?_
    rotate_left
    · intro w hSw; refine (ex_load_at (m5_at hSw.o 4 (by decide)) rfl rfl).trans ?_; with_reducible rfl
    simp only [List.set]
    refine wpAnyH_ready (rs := [39]) (by kernel_rfl) (by simp) ?_
    refine AllReadyH.cons rfl (fun K hK => ?_) AllReadyH.nil
    go_simp
    (go_at_call 9; (with_reducible refine (kS _).mono ?_); rintro e w1 ⟨rfl, h1⟩; have hS := hS.up h1; clear h1)
    refine hK.out _ _ hS (fun hHeld => ?_)
    clear hK K
    refine hH_take (i := 40) (v := ?_) (d := 72) (l2 := #[true, true, true, true, true, true, true, true, true, true, true, true, true, true, true, true, true, true, true, true, true, true, true, true, true, true, true, true, true, true, true, true, true, true, true, true, true, true, true, true, true, false, false]) rfl (by kernel_rfl) (by kernel_rfl) (by kernel_rfl) (fun _ _ _ h => h) (by kernel_rfl) ?_ (by assumption) rfl (by kernel_rfl) ?_
    rotate_left
    · intro w hSw; refine (ex_keq rfl rfl rfl).trans ?_; with_reducible rfl
    simp only [List.set]
    refine hH_take (i := 41) (v := ?_) (d := 73) (l2 := #[true, true, true, true, true, true, true, true, true, true, true, true, true, true, true, true, true, true, true, true, true, true, true, true, true, true, true, true, true, true, true, true, true, true, true, true, true, true, true, true, true, true, false]) rfl (by kernel_rfl) (by kernel_rfl) (by kernel_rfl) (fun _ _ _ h => h) (by kernel_rfl) ?_ (by assumption) rfl (by kernel_rfl) ?_
    rotate_left
    · intro w hSw; (try dsimp only at hSw); go_simp; (try with_reducible rfl)
    simp only [List.set]
    refine hH_take (i := 42) (v := ?_) (d := 4) (l2 := #[true, true, true, true, true, true, true, true, true, true, true, true, true, true, true, true, true, true, true, true, true, true, true, true, true, true, true, true, true, true, true, true, true, true, true, true, true, true, true, true, true, true, true]) rfl (by kernel_rfl) (by kernel_rfl) (by kernel_rfl) (fun _ _ _ h => h) (by kernel_rfl) ?_ (by assumption) rfl (by kernel_rfl) ?_
    rotate_left
    · intro w hSw; (try dsimp only at hSw); go_simp; (try with_reducible rfl)
    simp only [List.set]
    refine wpAnyH_done (by kernel_rfl) ?_ _
    go_wp2_with (fail)
    go_meet
    case rel => exact ⟨rfl, Lib.hid hS.below⟩
  case rest =>
    obtain ⟨rfl, HY⟩ := hcut
    rename ∀ (a : Act) (w : World), Code.wp Tryz.prog _ _ a w → _ => hK
    exact hK _ _ (TN4 (HT.out.up HY.out) (vb HW.out HY.out))
set_option maxHeartbeats 8000000 in
set_option maxRecDepth 1000000 in
theorem TN2 {A : Option Addr} {c : Nat} {w W : World} {x0 x2 x3 x4 x5 x6 x7 x8 x9 x10 x11 x12 x13 x14 x15 x16 x17 x18 x19 x20 x21 x22 x23 x24 x25 x26 x27 x28 x29 x30 x31 x32 x33 x34 x35 x36 x37 x38 x39 x40 x41 x42 x43 x44 x45 x46 x47 x48 x49 x50 x51 x52 x53 x54 x55 x56 x57 x58 x59 x60 x61 x62 x63 x64 x65 x66 x67 x68 x69 x70 x71 x72 x73 x74 x75 x76 x77 x78 x79 x80 x81 x82 x83 x84 x85 x86 x87 x88 x89 x90 x91 x92 x93 x94 x95 x96 x97 x98 x99 x100 x101 x102 x103 x104 x105 x106 x107 x108 x109 x110 x111 x112 x113 x114 x115 x116 x117 x118 x119 x120 x121 x122 x123 x124 x125 x126 x127 x128 x129 x130 x131 x132 x133 x134 x135 x136 x137 x138 x139 x140 x141 x142 x143 x144 x145 x146 x147 x148 x149 x150 x151 x152 x153 x154 x155 x156 x157 x158 x159 x160 x161 x162 x163 x164 x165 x166 x167 x168 x169 x170 x171 x172 x173 x174 x175 x176 x177 x178 x179 x180 x181 x182 : Value} (hT : TabIn W A L5 c) (hW : Below w.heap.size w W) (htab : TabHere W) : Code.wp Tryz.prog (tail3 2) (bodyPost Tryz.prog Tryz.f3 (fun e w' => e = .returned (.bool true) ∧ Below w.heap.size w w')) ⟨#[x0, .slice A 5 c, x2, x3, x4, x5, x6, x7, x8, x9, x10, x11, x12, x13, x14, x15, x16, x17, x18, x19, x20, x21, x22, x23, x24, x25, x26, x27, x28, x29, x30, x31, x32, x33, x34, x35, x36, x37, x38, x39, x40, x41, x42, x43, x44, x45, x46, x47, x48, x49, x50, x51, x52, x53, x54, x55, x56, x57, x58, x59, x60, x61, x62, x63, x64, x65, x66, x67, x68, x69, x70, x71, x72, x73, x74, x75, x76, x77, x78, x79, x80, x81, x82, x83, x84, x85, x86, x87, x88, x89, x90, x91, x92, x93, x94, x95, x96, x97, x98, x99, x100, x101, x102, x103, x104, x105, x106, x107, x108, x109, x110, x111, x112, x113, x114, x115, x116, x117, x118, x119, x120, x121, x122, x123, x124, x125, x126, x127, x128, x129, x130, x131, x132, x133, x134, x135, x136, x137, x138, x139, x140, x141, x142, x143, x144, x145, x146, x147, x148, x149, x150, x151, x152, x153, x154, x155, x156, x157, x158, x159, x160, x161, x162, x163, x164, x165, x166, x167, x168, x169, x170, x171, x172, x173, x174, x175, x176, x177, x178, x179, x180, x181, x182], []⟩ W := by
  have HT := Lib.hid hT
  have HW := Lib.hid hW
  have kK : Calls Tryz.prog 12 #[.slice A 5 c] W fun e w' => ∃ O, e = .returned (.tuple #[.slice (some ⟨O, 0, none⟩) 5 5, .int .i64 0]) ∧ w'.heap[O]? = some (.cells (kyCells M5).toArray 23 (0, 0)) ∧ Below W.heap.size W w' :=
    (Keys_w A L5 c W hT htab).mono fun e w' ⟨M, O, he, hO, hb, h9⟩ => by
      obtain rfl := ord_eq hO ord5
      exact ⟨O, he, hb, h9⟩
  clear hT hW htab
  unfold tail3
  dsimp only [Tryz.f3, rgtN]
  go_upto_region 2 with (fail)
  go_cut [2, 3] from 27 (fun q r wx => ∃ O, q = .slice (some ⟨O, 0, none⟩) 5 5 ∧ r = .int .i64 0 ∧ Hid (Below W.heap.size W wx ∧ wx.heap[O]? = some (.cells (kyCells M5).toArray 23 (0, 0))))
  case first =>
    go_wp2_with (go_at_call 12; (with_reducible refine kK.mono ?_); rintro e w1 ⟨O, rfl, hO, h9⟩; have HX := Lib.hid (And.intro h9 hO); clear h9 hO)
    go_meet
    case rel => exact ⟨_, rfl, rfl, HX⟩
  case rest =>
    obtain ⟨O, rfl, rfl, HY⟩ := hcut
    rename ∀ (a : Act) (w : World), Code.wp Tryz.prog _ _ a w → _ => hK
    exact hK _ _ (TN3 (HT.out.up HY.out.1) (vb HW.out HY.out.1) HY.out.2)
set_option maxHeartbeats 8000000 in
set_option maxRecDepth 1000000 in
theorem TableNames_walk (w : World) (htab : TabHere w) : Calls Tryz.prog 3 #[] w fun e w' => e = .returned (.bool true) ∧ Below w.heap.size w w' := by
  have HTB := Lib.hid htab
  have P1 : ∀ V, Calls Tryz.prog 8 #[.string (⟨#[98]⟩ : ByteArray), .int .i64 1] V fun e w' => e = .returned (.agg (prA q1)) ∧ Below V.heap.size V w' := fun V => by have := prop_any (⟨#[98]⟩ : ByteArray) 1 V; rw [f_1] at this; exact this
  have P2 : ∀ V, Calls Tryz.prog 8 #[.string (⟨#[50]⟩ : ByteArray), .int .i64 2] V fun e w' => e = .returned (.agg (prA q2)) ∧ Below V.heap.size V w' := fun V => by have := prop_any (⟨#[50]⟩ : ByteArray) 2 V; rw [f_2] at this; exact this
  have P4 : ∀ V, Calls Tryz.prog 8 #[.string (⟨#[49]⟩ : ByteArray), .int .i64 4] V fun e w' => e = .returned (.agg (prA q4)) ∧ Below V.heap.size V w' := fun V => by have := prop_any (⟨#[49]⟩ : ByteArray) 4 V; rw [f_4] at this; exact this
  have P5 : ∀ V, Calls Tryz.prog 8 #[.string (⟨#[97]⟩ : ByteArray), .int .i64 5] V fun e w' => e = .returned (.agg (prA q5)) ∧ Below V.heap.size V w' := fun V => by have := prop_any (⟨#[97]⟩ : ByteArray) 5 V; rw [f_5] at this; exact this
  have kS : ∀ V, Calls Tryz.prog 9 #[.int .i64 0] V fun e w' => e = .returned (.agg #[.string ⟨#[]⟩, .int .i64 1]) ∧ Below V.heap.size V w' := fun V => Sym_k 0 (by decide) (by decide) V
  have kN := fun V => Num_v 4613937818241073152 V
  have kD : ∀ V, Calls Tryz.prog 10 #[.agg #[.int .u8 3, .float .f64 4613937818241073152, .string ⟨#[]⟩, .int .i64 0]] V fun e w' => e = .returned (.agg q3.d.cells) ∧ Below V.heap.size V w' := fun V => Data_t 3 4613937818241073152 ⟨#[]⟩ 0 V
  have HB := Lib.hid (Below.refl w.heap.size w)
  clear htab
  go_enter Tryz.func3, Tryz.ntmps3
  go_upto_region 1 with (fail)
  go_cut [1] from 18 (fun q wx => ∃ A c, q = .slice A 5 c ∧ Hid (Below w.heap.size w wx ∧ TabIn wx A L5 c))
  case first =>
    go_wp2_with (first
      | (go_at_call 8; first
        | ((with_reducible refine (P1 _).mono ?_); rintro e w1 ⟨rfl, h9⟩; have HB := Lib.hid (vb HB.out h9); clear h9)
        | ((with_reducible refine (P2 _).mono ?_); rintro e w2 ⟨rfl, h9⟩; have HB := Lib.hid (vb HB.out h9); clear h9)
        | ((with_reducible refine (P4 _).mono ?_); rintro e w3 ⟨rfl, h9⟩; have HB := Lib.hid (vb HB.out h9); clear h9)
        | ((with_reducible refine (P5 _).mono ?_); rintro e w4 ⟨rfl, h9⟩; have HB := Lib.hid (vb HB.out h9); clear h9))
      | (go_at_call 9; (with_reducible refine (kS _).mono ?_); rintro e w5 ⟨rfl, h9⟩; have HB := Lib.hid (vb HB.out h9); clear h9)
      | (go_at_call 11; (with_reducible refine (kN _).mono ?_); rintro e w6 ⟨rfl, h9⟩; have HB := Lib.hid (vb HB.out h9); clear h9)
      | (go_at_call 10; (with_reducible refine (kD _).mono ?_); rintro e w7 ⟨rfl, h9⟩; have HB := Lib.hid (vb HB.out h9); clear h9)
      | (refine p_build (p := q3) rfl _ _ rfl rfl rfl ?_)
      | (refine p_slice5 (p1 := q1) (p2 := q2) (p3 := q3) (p4 := q4) (p5 := q5) rfl _ _ _ _ _ rfl rfl rfl rfl rfl rfl ?_))
    go_meet
    case rel => exact ⟨_, 5, rfl, Lib.hid ⟨vb HB.out (vzero _ _), tab_blk (heap_alloc_new _ _) tab5 q_in rfl⟩⟩
  case rest =>
    obtain ⟨A, c, rfl, HY⟩ := hcut
    rename ∀ (a : Act) (w : World), Code.wp Tryz.prog _ _ a w → _ => hK
    exact hK _ _ (TN2 HY.out.2 HY.out.1 (tab_up HTB.out HY.out.1))
end Go.Proofs.YtbeggameiedjgaaGreatDoor.S
