/-
  The law TableFinds from Drop on. Generated: gen_tabfinds3.py.
-/
import Derived.Test.YtmdmfjlmmojbgaaGreatDoorTF39
namespace Go.Proofs.YtmdmfjlmmojbgaaGreatDoor.S
open Go.RowKit Go.Lib Fl
open Classical

set_option maxHeartbeats 8000000 in
set_option maxRecDepth 1000000 in
theorem TF24 {A : Option Addr} {L : List Pq} {cap g : Nat} {k o : Ky} {d : Dq} {w W0 : World} {x1 x2 x3 x4 x6 x8 x9 x12 x13 x14 x15 x16 x17 x18 x19 x20 x21 x22 x23 x24 x25 x26 x27 x28 x29 x30 x31 x32 x33 x34 x35 x36 x37 x38 x39 x40 x41 x42 x43 x44 x45 x46 x47 x48 x49 x50 x51 x52 x53 x54 x55 x56 x57 x58 x59 x60 x61 x62 x63 x64 x65 x66 x67 x68 x69 x70 x71 x72 x73 x74 x75 x76 x77 x78 x79 x80 x81 x82 x83 x84 x85 x86 x87 x88 x89 x90 x91 x92 x93 x94 x95 x96 x97 x98 x99 x100 x101 x102 x103 x104 x105 x106 x107 x108 x109 x110 x111 x112 x113 x114 x115 x116 x117 x118 x119 x120 x121 x122 x123 x124 x125 x126 x127 x128 x129 x130 x131 x132 x133 x134 x135 x136 x137 x138 x139 x140 x141 x142 x143 x144 x145 x146 x147 x148 x149 x150 x151 x152 x153 x154 x155 x156 x157 x158 x159 x160 x161 x162 x163 x164 x165 x166 x167 x168 x169 x170 x171 x172 x173 x174 x175 x176 x177 x178 x179 x180 x181 x182 x183 x184 x185 x186 x187 x188 x189 x190 x191 x192 x193 x194 x195 x196 x197 x198 x199 x200 x201 x202 x203 x204 x205 x206 x207 x208 x209 x210 x211 x212 x213 x214 x215 x216 x217 x218 x219 x220 x221 x222 x223 x224 x225 x226 x227 x228 x229 x230 x231 x232 x233 x234 x235 x236 x237 x238 x239 x240 x241 x242 x243 x244 x245 x246 x247 x248 x249 x250 x251 x252 x253 x254 x255 x256 x257 x258 x259 x260 x261 x262 x263 x264 x265 x266 x267 x268 x269 x270 x271 x272 x273 x274 x275 x276 x277 x278 x279 x280 x281 x282 x283 x284 x285 x286 x287 x288 x289 x290 x291 : Value} (hT : TabIn w A L cap) (htab : TabHere w) (hk : mayKy k) (ho : mayKy o) (hX : Lx w k o d (fndD L o) g W0) : Code.wp Tryz.prog (tail4 8) (bodyPost Tryz.prog Tryz.f4 (fun e w' => e = .returned (.bool true) ∧ Below w.heap.size w w')) ⟨#[.slice A L.length cap, x1, x2, x3, x4, .pointer (some ⟨w.heap.size, 0, none⟩), x6, .pointer (some ⟨w.heap.size + 1 + 1, 0, none⟩), x8, x9, .pointer (some ⟨g, 0, none⟩), .bool (findT L o).isSome, x12, x13, x14, x15, x16, x17, x18, x19, x20, x21, x22, x23, x24, x25, x26, x27, x28, x29, x30, x31, x32, x33, x34, x35, x36, x37, x38, x39, x40, x41, x42, x43, x44, x45, x46, x47, x48, x49, x50, x51, x52, x53, x54, x55, x56, x57, x58, x59, x60, x61, x62, x63, x64, x65, x66, x67, x68, x69, x70, x71, x72, x73, x74, x75, x76, x77, x78, x79, x80, x81, x82, x83, x84, x85, x86, x87, x88, x89, x90, x91, x92, x93, x94, x95, x96, x97, x98, x99, x100, x101, x102, x103, x104, x105, x106, x107, x108, x109, x110, x111, x112, x113, x114, x115, x116, x117, x118, x119, x120, x121, x122, x123, x124, x125, x126, x127, x128, x129, x130, x131, x132, x133, x134, x135, x136, x137, x138, x139, x140, x141, x142, x143, x144, x145, x146, x147, x148, x149, x150, x151, x152, x153, x154, x155, x156, x157, x158, x159, x160, x161, x162, x163, x164, x165, x166, x167, x168, x169, x170, x171, x172, x173, x174, x175, x176, x177, x178, x179, x180, x181, x182, x183, x184, x185, x186, x187, x188, x189, x190, x191, x192, x193, x194, x195, x196, x197, x198, x199, x200, x201, x202, x203, x204, x205, x206, x207, x208, x209, x210, x211, x212, x213, x214, x215, x216, x217, x218, x219, x220, x221, x222, x223, x224, x225, x226, x227, x228, x229, x230, x231, x232, x233, x234, x235, x236, x237, x238, x239, x240, x241, x242, x243, x244, x245, x246, x247, x248, x249, x250, x251, x252, x253, x254, x255, x256, x257, x258, x259, x260, x261, x262, x263, x264, x265, x266, x267, x268, x269, x270, x271, x272, x273, x274, x275, x276, x277, x278, x279, x280, x281, x282, x283, x284, x285, x286, x287, x288, x289, x290, x291], []⟩ W0 := by
  have HT := Lib.hid hT
  have HTAB := Lib.hid htab
  have HX := Lib.hid hX
  have HK := Lib.hid (And.intro hk (And.intro ho trivial))
  have hNO : o ≠ k → fndD (dropT L k) o = fndD L o ∧ (findT (dropT L k) o).isSome = (findT L o).isSome := fun h => fnd_eq ((drop_to HT.out.ok).other o h)
  have HNO := Lib.hid hNO
  have HD1 := Lib.hid (fnd_good (k := o) HT.out.ok HT.out.inn)
  clear hT htab hX hk ho hNO
  unfold tail4
  dsimp only [Tryz.f4, rightN]
  have FD : ∀ W, Below w.heap.size w W → Calls Tryz.prog 11 #[.slice A L.length cap, .agg #[.string k.str, .int .i64 k.sym]] W fun e w' => ∃ A3 c3, e = .returned (.tuple #[.slice A3 (dropT L k).length c3, .int .i64 0]) ∧ TabIn w' A3 (dropT L k) c3 ∧ Below W.heap.size W w' := fun W hb =>
    (Drop_t A L cap k W (HT.out.up hb) HK.out.1).mono fun e w' ⟨v, he, hO, hb⟩ => by
      obtain ⟨A3, c3, rfl, h3⟩ := out_tab hO (drop_to HT.out.ok).ok (drop_in HT.out.inn)
      exact ⟨A3, c3, he, h3, hb⟩
  have F3 : ∀ A3 c3 W, TabIn W A3 (dropT L k) c3 → Calls Tryz.prog 18 #[.slice A3 (dropT L k).length c3, .agg #[.string k.str, .int .i64 k.sym]] W fun e w' => e = .returned (.tuple #[.agg (dz 0).cells, .bool false, .int .i64 0]) ∧ Below W.heap.size W w' := fun A3 c3 W h =>
    (Find_t A3 (dropT L k) c3 k W h HK.out.1).mono fun e w' ⟨he, hb⟩ => ⟨he.trans (by unfold fndD; rw [(drop_to HT.out.ok).gone]; rfl), hb⟩
  have F4 : ∀ A3 c3 W, TabIn W A3 (dropT L k) c3 → Calls Tryz.prog 18 #[.slice A3 (dropT L k).length c3, .agg #[.string o.str, .int .i64 o.sym]] W fun e w' => e = .returned (.tuple #[.agg (fndD (dropT L k) o).cells, .bool (findT (dropT L k) o).isSome, .int .i64 0]) ∧ Below W.heap.size W w' := fun A3 c3 W h => Find_t A3 (dropT L k) c3 o W h HK.out.2.1
  have S2 := fun W => same_full HD1.out W
  have k1 := HX.out.l.k
  have k3 := HX.out.l.o
  have x1 := HX.out.f
  have H := HX
  have HEQ : ∃ N, N = dropT L k := ⟨_, rfl⟩
  obtain ⟨N, hN⟩ := HEQ
  rw [← hN] at FD F3 F4 HNO
  have HNN := Lib.hid hN
  clear hN
  generalize fndD L o = D1 at *
  generalize (findT L o).isSome = b1 at *
  generalize fndD N o = D5 at *
  generalize (findT N o).isSome = b5 at *
  generalize dz 0 = D0 at *
  have hc1 := dc_one D0
  have hi1 := dc_size D0
  have hc2 := dc_one D5
  have hi2 := dc_size D5
  clear HX
  go_upto_region 27 with (first
    | ((with_reducible refine kk_load ?_ rfl rfl k1 ?_); (rfl))
    | ((with_reducible refine kk_load ?_ rfl rfl k3 ?_); (rfl))
    | (go_at_call 11; (with_reducible refine (FD _ H.out.l.below).mono ?_); rintro e w7 ⟨A3, c3, rfl, hTN, h9⟩; have H := Lib.hid (H.out.up h9); have k1 := H.out.l.k; have k3 := H.out.l.o; have x1 := H.out.f; have HTN := Lib.hid hTN; clear h9 hTN)
    | (go_at_call 18; first
      | ((with_reducible refine (F3 _ _ _ HTN.out).mono ?_); rintro e w8 ⟨rfl, h9⟩; have H := Lib.hid (H.out.up h9); have k1 := H.out.l.k; have k3 := H.out.l.o; have x1 := H.out.f; have HTN := Lib.hid (HTN.out.up h9); clear h9)
      | ((with_reducible refine (F4 _ _ _ HTN.out).mono ?_); rintro e w9 ⟨rfl, h9⟩; have H := Lib.hid (H.out.up h9); have k1 := H.out.l.k; have k3 := H.out.l.o; have x1 := H.out.f; have HTN := Lib.hid (HTN.out.up h9); clear h9))
    | ((with_reducible refine t_store (cs := D0.cells) rfl rfl rfl rfl (heap_alloc_new _ _) hi1 ?_ hc1 (vzero _ _) (Nat.le_refl _) ?_); (rfl); intro W8 hBW _ _ _; have H := Lib.hid (H.out.up hBW); have k1 := H.out.l.k; have k3 := H.out.l.o; have x1 := H.out.f; have HTN := Lib.hid (HTN.out.up hBW); clear hBW)
    | ((with_reducible refine t_store (cs := D5.cells) rfl rfl rfl rfl (heap_alloc_new _ _) hi2 ?_ hc2 (vzero _ _) (Nat.le_refl _) ?_); (rfl); intro W9 hBW x5 _ _; have H := Lib.hid (H.out.up hBW); have k1 := H.out.l.k; have k3 := H.out.l.o; have x1 := H.out.f; have HTN := Lib.hid (HTN.out.up hBW); clear hBW))
  clear FD F3 F4 hc1 hi1 hc2 hi2
  go_cut [214] from 36 (fun q wx => q = .bool false ∧ Hid (Lx w k o d D1 g wx ∧ Below W9.heap.size W9 wx))
  case first =>
    have qe := key_eq 9998 o.str k.str o.sym k.sym
    by_cases hko : o = k
    · rw [show (o.str == k.str && o.sym == k.sym) = eqK o k from rfl, eqK_iff.2 hko] at qe
      clear hko
      go_wp2_with (first
        | ((with_reducible refine kk_load ?_ rfl rfl k1 ?_); (rfl))
        | ((with_reducible refine kk_load ?_ rfl rfl k3 ?_); (rfl)))
      go_meet
      case rel => exact ⟨rfl, Lib.hid ⟨H.out, Below.refl _ _⟩⟩
    · rw [show (o.str == k.str && o.sym == k.sym) = eqK o k from rfl, eqK_no hko] at qe
      obtain ⟨e1, e2⟩ := HNO.out hko
      subst e1 e2
      clear hko
      go_wp2_with (first
        | ((with_reducible refine kk_load ?_ rfl rfl k1 ?_); (rfl))
        | ((with_reducible refine kk_load ?_ rfl rfl k3 ?_); (rfl))
        | ((with_reducible refine dq_load ?_ rfl rfl x5 ?_); (rfl))
        | ((with_reducible refine dq_load ?_ rfl rfl x1 ?_); (rfl))
        | (go_at_call 20; (with_reducible refine (S2 _).mono ?_); rintro e w5 ⟨rfl, h9⟩; have H := Lib.hid (H.out.up h9); have HB5 := Lib.hid h9; clear h9))
      go_meet
      case rel => exact ⟨rfl, Lib.hid ⟨H.out, HB5.out⟩⟩
  case rest =>
    obtain ⟨rfl, HY⟩ := hcut
    have hTN2 := HTN.out.up HY.out.2
    rw [HNN.out] at hTN2
    have hN2 := HNN.out
    subst hN2
    rename ∀ (a : Act) (w : World), Code.wp Tryz.prog _ _ a w → _ => hK
    refine hK _ _ ?_
    clear hK
    go_step
    go_step
    rename ∀ (a : Act) (w : World), Code.wp Tryz.prog _ _ a w → _ => hK2
    exact hK2 _ _ (TF29 HT.out HTAB.out hTN2 ⟨HY.out.1.l.below, HY.out.1.l.k⟩)
end Go.Proofs.YtmdmfjlmmojbgaaGreatDoor.S
