/-
  The law TableFinds from the 'if' behind Put on. Generated: gen_tabfinds3.py.
-/
import Derived.Test.YtmdmfjlmmojbgaaGreatDoorTF40
namespace Go.Proofs.YtmdmfjlmmojbgaaGreatDoor.S
open Go.RowKit Go.Lib Fl
open Classical

set_option maxHeartbeats 8000000 in
set_option maxRecDepth 1000000 in
theorem TF7 {A : Option Addr} {L M : List Pq} {cap gF : Nat} {k o : Ky} {d : Dq} {z : Int} {v : Value} {w w1 : World} {x1 x2 x3 x4 x8 x9 x13 x15 x17 x18 x19 x20 x21 x22 x23 x24 x25 x26 x27 x28 x29 x30 x31 x32 x33 x34 x35 x36 x37 x38 x39 x40 x41 x42 x43 x44 x45 x46 x47 x48 x49 x50 x51 x52 x53 x54 x55 x56 x57 x58 x59 x60 x61 x62 x63 x64 x65 x66 x67 x68 x69 x70 x71 x72 x73 x74 x75 x76 x77 x78 x79 x80 x81 x82 x83 x84 x85 x86 x87 x88 x89 x90 x91 x92 x93 x94 x95 x96 x97 x98 x99 x100 x101 x102 x103 x104 x105 x106 x107 x108 x109 x110 x111 x112 x113 x114 x115 x116 x117 x118 x119 x120 x121 x122 x123 x124 x125 x126 x127 x128 x129 x130 x131 x132 x133 x134 x135 x136 x137 x138 x139 x140 x141 x142 x143 x144 x145 x146 x147 x148 x149 x150 x151 x152 x153 x154 x155 x156 x157 x158 x159 x160 x161 x162 x163 x164 x165 x166 x167 x168 x169 x170 x171 x172 x173 x174 x175 x176 x177 x178 x179 x180 x181 x182 x183 x184 x185 x186 x187 x188 x189 x190 x191 x192 x193 x194 x195 x196 x197 x198 x199 x200 x201 x202 x203 x204 x205 x206 x207 x208 x209 x210 x211 x212 x213 x214 x215 x216 x217 x218 x219 x220 x221 x222 x223 x224 x225 x226 x227 x228 x229 x230 x231 x232 x233 x234 x235 x236 x237 x238 x239 x240 x241 x242 x243 x244 x245 x246 x247 x248 x249 x250 x251 x252 x253 x254 x255 x256 x257 x258 x259 x260 x261 x262 x263 x264 x265 x266 x267 x268 x269 x270 x271 x272 x273 x274 x275 x276 x277 x278 x279 x280 x281 x282 x283 x284 x285 x286 x287 x288 x289 x290 x291 : Value} (hT : TabIn w A L cap) (htab : TabHere w) (hk : mayKy k) (ho : mayKy o) (hX : Lx w k o d (fndD L o) gF w1)
    (hP : z = 0 → PutTo L ⟨k, d⟩ M ∧ Good d) (hV : z = 0 → ∃ A2 c2, v = .slice A2 M.length c2 ∧ TabIn w1 A2 M c2) : Code.wp Tryz.prog (tail4 7) (bodyPost Tryz.prog Tryz.f4 (fun e w' => e = .returned (.bool true) ∧ Below w.heap.size w w')) ⟨#[.slice A L.length cap, x1, x2, x3, x4, .pointer (some ⟨w.heap.size, 0, none⟩), .pointer (some ⟨w.heap.size + 1, 0, none⟩), .pointer (some ⟨w.heap.size + 1 + 1, 0, none⟩), x8, x9, .pointer (some ⟨gF, 0, none⟩), .bool (findT L o).isSome, .int .i64 z, x13, .bool (findT L k).isSome, x15, v, x17, x18, x19, x20, x21, x22, x23, x24, x25, x26, x27, x28, x29, x30, x31, x32, x33, x34, x35, x36, x37, x38, x39, x40, x41, x42, x43, x44, x45, x46, x47, x48, x49, x50, x51, x52, x53, x54, x55, x56, x57, x58, x59, x60, x61, x62, x63, x64, x65, x66, x67, x68, x69, x70, x71, x72, x73, x74, x75, x76, x77, x78, x79, x80, x81, x82, x83, x84, x85, x86, x87, x88, x89, x90, x91, x92, x93, x94, x95, x96, x97, x98, x99, x100, x101, x102, x103, x104, x105, x106, x107, x108, x109, x110, x111, x112, x113, x114, x115, x116, x117, x118, x119, x120, x121, x122, x123, x124, x125, x126, x127, x128, x129, x130, x131, x132, x133, x134, x135, x136, x137, x138, x139, x140, x141, x142, x143, x144, x145, x146, x147, x148, x149, x150, x151, x152, x153, x154, x155, x156, x157, x158, x159, x160, x161, x162, x163, x164, x165, x166, x167, x168, x169, x170, x171, x172, x173, x174, x175, x176, x177, x178, x179, x180, x181, x182, x183, x184, x185, x186, x187, x188, x189, x190, x191, x192, x193, x194, x195, x196, x197, x198, x199, x200, x201, x202, x203, x204, x205, x206, x207, x208, x209, x210, x211, x212, x213, x214, x215, x216, x217, x218, x219, x220, x221, x222, x223, x224, x225, x226, x227, x228, x229, x230, x231, x232, x233, x234, x235, x236, x237, x238, x239, x240, x241, x242, x243, x244, x245, x246, x247, x248, x249, x250, x251, x252, x253, x254, x255, x256, x257, x258, x259, x260, x261, x262, x263, x264, x265, x266, x267, x268, x269, x270, x271, x272, x273, x274, x275, x276, x277, x278, x279, x280, x281, x282, x283, x284, x285, x286, x287, x288, x289, x290, x291], []⟩ w1 := by
  have HT := Lib.hid hT
  have HTAB := Lib.hid htab
  have HP := Lib.hid hP
  have HV := Lib.hid hV
  have H := Lib.hid hX.l
  have X1 := Lib.hid hX.f
  have k1 := hX.l.k
  have k2 := hX.l.d
  have k3 := hX.l.o
  have HK := Lib.hid (And.intro hk (And.intro ho trivial))
  have HD1 := Lib.hid (fnd_good (k := o) HT.out.ok HT.out.inn)
  have hML : z = 0 → ((findT L k).isSome = true → M.length = L.length) ∧ ((findT L k).isSome = false → M.length = L.length + 1) := fun hz => ⟨fun h => by have := (HP.out hz).1.len; rw [if_pos h] at this; exact this, fun h => by have := (HP.out hz).1.len; rw [if_neg (by rw [h]; decide)] at this; exact this⟩
  have HML := Lib.hid hML
  have hMO : z = 0 → o ≠ k → fndD M o = fndD L o ∧ (findT M o).isSome = (findT L o).isSome := fun hz h => fnd_eq ((HP.out hz).1.other o h)
  have HMO := Lib.hid hMO
  clear hT htab hk ho hX hP hV hML hMO
  obtain ⟨D1, hD1⟩ : ∃ D1, D1 = fndD L o := ⟨_, rfl⟩
  rw [← hD1] at HD1 X1 HMO
  have HDD := Lib.hid hD1
  clear hD1
  generalize hb1 : (findT L o).isSome = b1 at *
  have HB1 := Lib.hid hb1
  clear hb1
  generalize (findT L k).isSome = b2 at *
  unfold tail4
  dsimp only [Tryz.f4, rightN]
  go_upto_if 87 with (fail)
  go_cut [] from 36 (fun wx => Hid (Lx w k o d D1 gF wx))
  case first => as_aux_lemma =>
    by_cases hz : z = 0
    · subst hz
      as_aux_lemma =>
      obtain ⟨A2, c2, rfl, hTM⟩ := HV.out rfl
      obtain ⟨pt, gd⟩ := HP.out rfl
      have hf : findT M k = some ⟨k, d⟩ := pt.found
      have hMO := HMO.out rfl
      have hlen := HML.out rfl
      have HKEY := Lib.hid pt.keys
      have G1 : ∀ W, Below w1.heap.size w1 W → Calls Tryz.prog 18 #[.slice A2 M.length c2, .agg #[.string k.str, .int .i64 k.sym]] W fun e w' => e = .returned (.tuple #[.agg d.cells, .bool true, .int .i64 0]) ∧ Below W.heap.size W w' := fun W hb =>
        (Find_t A2 M c2 k W (hTM.up hb) HK.out.1).mono fun e w' ⟨he, h⟩ => ⟨he.trans (by unfold fndD; rw [hf]; rfl), h⟩
      have G2 : ∀ W, Below w1.heap.size w1 W → Calls Tryz.prog 18 #[.slice A2 M.length c2, .agg #[.string o.str, .int .i64 o.sym]] W fun e w' => e = .returned (.tuple #[.agg (fndD M o).cells, .bool (findT M o).isSome, .int .i64 0]) ∧ Below W.heap.size W w' := fun W hb => Find_t A2 M c2 o W (hTM.up hb) HK.out.2.1
      have cM := fun W hb => hTM.check (W := W) hb
      have S1 := fun W => same_full gd W
      have S2 := fun W => same_full HD1.out W
      have HTM := Lib.hid hTM
      have hc1 := dc_one d
      have hi1 := dc_size d
      generalize fndD M o = D4 at *
      generalize (findT M o).isSome = b4 at *
      have hc2 := dc_one D4
      have hi2 := dc_size D4
      have HL := Lib.hid (And.intro hMO hlen)
      have HB := Lib.hid (Below.refl w1.heap.size w1)
      have hmz : 0 ≤ M.length := Nat.zero_le _
      clear HP HML HMO HV pt gd hf hMO hlen hTM
      go_upto_if 105 with (first
        | ((with_reducible refine kk_load ?_ rfl rfl k1 ?_); (rfl))
        | ((with_reducible refine kk_load ?_ rfl rfl k3 ?_); (rfl))
        | (go_at_call 18; first
          | ((with_reducible refine (G1 _ HB.out).mono ?_); rintro e w3 ⟨rfl, h9⟩; have H := Lib.hid (H.out.up h9); have k1 := H.out.k; have k2 := H.out.d; have k3 := H.out.o; have X1 := Lib.hid (vblkn h9 X1.out); have HB := Lib.hid (vb HB.out h9); clear h9)
          | ((with_reducible refine (G2 _ HB.out).mono ?_); rintro e w4 ⟨rfl, h9⟩; have H := Lib.hid (H.out.up h9); have k1 := H.out.k; have k2 := H.out.d; have k3 := H.out.o; have X1 := Lib.hid (vblkn h9 X1.out); have X3 := Lib.hid (vblkn h9 X3.out); have HB := Lib.hid (vb HB.out h9); clear h9))
        | ((with_reducible refine t_store (cs := d.cells) rfl rfl rfl rfl (heap_alloc_new _ _) hi1 ?_ hc1 (vzero _ _) (Nat.le_refl _) ?_); (rfl); intro W3 hBW hW _ _; have H := Lib.hid (H.out.up hBW); have k1 := H.out.k; have k2 := H.out.d; have k3 := H.out.o; have X1 := Lib.hid (vblkn hBW X1.out); have X3 := Lib.hid hW; have HB := Lib.hid (vb HB.out hBW); clear hBW hW)
        | ((with_reducible refine t_store (cs := D4.cells) rfl rfl rfl rfl (heap_alloc_new _ _) hi2 ?_ hc2 (vzero _ _) (Nat.le_refl _) ?_); (rfl); intro W4 hBW hW _ _; have H := Lib.hid (H.out.up hBW); have k1 := H.out.k; have k2 := H.out.d; have k3 := H.out.o; have X1 := Lib.hid (vblkn hBW X1.out); have X3 := Lib.hid (vblkn hBW X3.out); have X4 := Lib.hid hW; have HB := Lib.hid (vb HB.out hBW); clear hBW hW))
      clear G1 G2 hc1 hi1 hc2 hi2
      go_cut [23] from 36 (fun s23 wx => s23 = .int .i64 (M.length : Nat) ∧ wx = W4)
      case first => as_aux_lemma =>
        have hw : wrap64 ((L.length : Int) + 1) = (L.length : Int) + 1 := by have := HT.out.few; unfold wrap64; omega
        cases b2 with
        | false =>
          have HE := Lib.hid (HL.out.2.2 rfl)
          go_wp2
          go_meet
          case rel => exact ⟨by rw [HE.out]; simp, rfl⟩
        | true =>
          have HE := Lib.hid (HL.out.2.1 rfl)
          go_wp2
          go_meet
          case rel => exact ⟨by rw [HE.out], rfl⟩
      case rest => as_aux_lemma =>
        obtain ⟨rfl, rfl⟩ := hcut
        have x1 := X1.out
        have x3 := X3.out
        have x4 := X4.out
        go_upto_region 17 with (first
          | ((with_reducible refine dq_load ?_ rfl rfl x3 ?_); (rfl))
          | ((with_reducible refine dq_load ?_ rfl rfl k2 ?_); (rfl))
          | (go_at_call 20; (with_reducible refine (S1 _).mono ?_); rintro e w5 ⟨rfl, h9⟩; have H := Lib.hid (H.out.up h9); have k1 := H.out.k; have k2 := H.out.d; have k3 := H.out.o; have X1 := Lib.hid (vblkn h9 X1.out); have x1 := X1.out; have x4 := vblkn h9 x4; have HB := Lib.hid (vb HB.out h9); clear h9)
          | (go_at_call 12; (with_reducible refine (cM _ HB.out).mono ?_); rintro e w6 ⟨rfl, h9⟩; have H := Lib.hid (H.out.up h9); have k1 := H.out.k; have k2 := H.out.d; have k3 := H.out.o; have X1 := Lib.hid (vblkn h9 X1.out); have x1 := X1.out; have x4 := vblkn h9 x4; have HB := Lib.hid (vb HB.out h9); clear h9))
        go_cut [148] from 36 (fun q wx => q = .bool false ∧ Hid (Lx w k o d D1 gF wx ∧ Below w1.heap.size w1 wx))
        case first => as_aux_lemma =>
          by_cases hko : o = k
          · as_aux_lemma =>
            have qe := key_eq 9998 o.str k.str o.sym k.sym
            rw [show (o.str == k.str && o.sym == k.sym) = eqK o k from rfl, eqK_iff.2 hko] at qe
            clear hko
            go_wp2_with (first
              | ((with_reducible refine kk_load ?_ rfl rfl k1 ?_); (rfl))
              | ((with_reducible refine kk_load ?_ rfl rfl k3 ?_); (rfl)))
            go_meet
            case rel => exact ⟨rfl, Lib.hid ⟨⟨H.out, X1.out⟩, HB.out⟩⟩
          · as_aux_lemma =>
            have qe := key_eq 9998 o.str k.str o.sym k.sym
            rw [show (o.str == k.str && o.sym == k.sym) = eqK o k from rfl, eqK_no hko] at qe
            obtain ⟨e1, e2⟩ := HL.out.1 hko
            subst e1 e2
            go_wp2_with (first
              | ((with_reducible refine kk_load ?_ rfl rfl k1 ?_); (rfl))
              | ((with_reducible refine kk_load ?_ rfl rfl k3 ?_); (rfl))
              | ((with_reducible refine dq_load ?_ rfl rfl x4 ?_); (rfl))
              | ((with_reducible refine dq_load ?_ rfl rfl x1 ?_); (rfl))
              | (go_at_call 20; (with_reducible refine (S2 _).mono ?_); rintro e w5 ⟨rfl, h9⟩; have H := Lib.hid (H.out.up h9); have X1 := Lib.hid (vblkn h9 X1.out); have HB := Lib.hid (vb HB.out h9); clear h9))
            go_meet
            case rel => exact ⟨rfl, Lib.hid ⟨⟨H.out, X1.out⟩, HB.out⟩⟩
        case rest => as_aux_lemma =>
          obtain ⟨rfl, HX⟩ := hcut
          have hge : L.length ≤ M.length := by
            cases b2 with
            | false => have := HL.out.2.2 rfl; omega
            | true => have := HL.out.2.1 rfl; omega
          clear k1 k2 k3 x1 x3 x4 H X1 X3 X4 HB S1 S2 cM
          go_wp2_with (fail)
          go_loopg [24] L.length (fun kx s24 wr => ∃ i : Nat, s24 = .int .i64 i ∧ i + kx = L.length ∧ Hid (Lx w k o d D1 gF wr ∧ Below w1.heap.size w1 wr))
          case atStart => exact ⟨0, rfl, by omega, HX⟩
          case round =>
            clear HX
            obtain ⟨i, rfl, hik, HX⟩ := hrel
            cases gk with
            | zero =>
              obtain rfl : i = L.length := by omega
              go_wp2
              go_meet
              case rel => exact Lib.hid HX.out.1
            | succ kx => as_aux_lemma =>
              have hlt : i < L.length := by omega
              have hltM : i < M.length := by omega
              have hlz : (i : Int) < (L.length : Int) := by omega
              have hlzM : (i : Int) < (M.length : Int) := by omega
              have hKE := HKEY.out i hlt hltM
              obtain ⟨a1, rfl, _, _⟩ := (HT.out.up HX.out.1.l.below).row (by omega)
              obtain ⟨a2, rfl, _, _⟩ := (HTM.out.up HX.out.2).row (by omega)
              obtain ⟨q0, c0, c1⟩ := pr_key (HT.out.up HX.out.1.l.below).row hlt
              obtain ⟨p0, d0, d1⟩ := pr_key (HTM.out.up HX.out.2).row hltM
              rw [hKE] at d0 d1
              have qe := key_eq 9998 L[i].k.str L[i].k.str L[i].k.sym L[i].k.sym
              rw [show (L[i].k.str == L[i].k.str && L[i].k.sym == L[i].k.sym) = eqK L[i].k L[i].k from rfl, eqK_iff.2 rfl] at qe
              have hwi : wrap64 ((i : Int) + 1) = ((i + 1 : Nat) : Int) := by have := HT.out.few; unfold wrap64; omega
              clear hKE
              generalize L[i].k.str = s at *
              generalize L[i].k.sym = y at *
              go_wp2
              go_quiet (fail)
              go_wp2
              go_roundg kx
              case measure => omega
              case rel => exact ⟨i + 1, by first | rfl | exact congrArg (Value.int .i64) hwi, by omega, Lib.hid ⟨HX.out.1.up (tdrewN (Below.refl _ _) nq), tdrewN HX.out.2 nq⟩⟩
    · have hz2 : (z == 0) = false := by rw [beq_eq_false_iff_ne]; exact hz
      go_wp2
      go_meet
      case rel => exact Lib.hid ⟨H.out, X1.out⟩
  case rest =>
    have HX := hcut
    have hD := HDD.out
    have hb := HB1.out
    subst hD
    subst hb
    rename ∀ (a : Act) (w : World), Code.wp Tryz.prog _ _ a w → _ => hK
    exact hK _ _ (TF24 HT.out HTAB.out HK.out.1 HK.out.2.1 HX.out)
end Go.Proofs.YtmdmfjlmmojbgaaGreatDoor.S
