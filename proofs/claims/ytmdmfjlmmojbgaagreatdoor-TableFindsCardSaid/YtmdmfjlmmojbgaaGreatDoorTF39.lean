/-
  The law TableFinds: its last parts, from region 37, 29, 24 on. Generated: gen_tabtail.py.
-/
import Derived.Test.YtmdmfjlmmojbgaaGreatDoorTF38
import Derived.Deep.CutRange
import Derived.Deep.CutBlock
namespace Go.Proofs.YtmdmfjlmmojbgaaGreatDoor.S
open Go.RowKit Go.Lib Fl
open Classical

theorem off_one (a : Addr) (m : Nat) : a.add (m + 1) = ⟨(a.add m).block, (a.add m).off + 1, none⟩ := by
  unfold Addr.add
  rw [if_neg (Nat.succ_ne_zero m)]
  split
  · rename_i e; rw [e]
  · rfl
theorem pr_key {w : World} {a : Addr} {L : List Pq} (h : PR w (some a) L) {i : Nat} (hi : i < L.length) : (a.add (i * 18)).block < w.heap.size ∧ w.cell? (a.add (i * 18)) = some (.string L[i].k.str) ∧ w.cell? ⟨(a.add (i * 18)).block, (a.add (i * 18)).off + 1, none⟩ = some (.int .i64 L[i].k.sym) := by
  obtain ⟨b, hb, hlt, hc⟩ := h (by omega)
  obtain rfl := Option.some.inj hb
  refine ⟨by rw [add_blk]; exact hlt, ?_, ?_⟩
  · exact hc i hi 0 _ rfl
  · rw [← off_one a (i * 18)]
    exact hc i hi 1 _ rfl
theorem k2_at {W : World} {A : Addr} {s : ByteArray} {y : Int} (h0 : W.cell? A = some (.string s)) (h1 : W.cell? ⟨A.block, A.off + 1, none⟩ = some (.int .i64 y)) : (Instr.loadAt 23 (.pointer (some A))).run Tryz.prog W = .ok (.agg #[.string s, .int .i64 y]) W :=
  run_loadAt_at (cs := [.string s, .int .i64 y]) (fun j v hv => by
    match j, hv with
    | 0, hv => cases hv; exact h0
    | 1, hv => cases hv; exact h1
    | n + 2, hv => cases hv) Tryz.underlying23 rfl ksz
theorem same_full {d : Dq} (g : Good d) (w : World) : Calls Tryz.prog 20 #[.agg d.cells, .agg d.cells] w fun e w' => e = .returned (.bool true) ∧ Below w.heap.size w w' := by
  have k := good_kinds g
  have e : sameD d.h d.h (sameQ d.a d.a) (sameQ d.b d.b) (sameQ d.c d.c) d.p d.p d.q d.q d.z d.z = true := sameD_true (fun _ => same_refl g.a) (fun h => same_refl (g.b h).1) (fun h => same_refl (g.c h).1) (fun _ => rfl) (fun _ => rfl) (fun _ => rfl)
  have := Same_q (a := d) (b := d) k ⟨k.1.1, k.2.1.1, k.2.2.1⟩ w
  rw [e] at this
  exact this
theorem dz_good : Good (dz 0) := ⟨by decide, v0_ok, (fun _ => v0_z), (fun h => absurd h (by decide)), fun _ => v0_z, (fun h => absurd h (by decide)), fun _ => v0_z, (fun _ => rfl), (fun _ => rfl), (fun _ => rfl)⟩
theorem ok_good {p : Pq} (h : p.Ok) (hi : p.In) : Good p.d := ((whole_iff hi.2).1 h.2).1
theorem fnd_good {L : List Pq} {k : Ky} (h : TabOk L) (hi : ∀ p ∈ L, p.In) : Good (fndD L k) := by
  unfold fndD findT
  by_cases c : cutN L k < L.length
  · rw [List.getElem?_eq_getElem c]
    exact ok_good (h.all _ (List.getElem_mem c)) (hi _ (List.getElem_mem c))
  · rw [List.getElem?_eq_none (by omega)]; exact dz_good
theorem fnd_eq {L M : List Pq} {k : Ky} (h : findT M k = findT L k) : fndD M k = fndD L k ∧ (findT M k).isSome = (findT L k).isSome := by unfold fndD; rw [h]; exact ⟨rfl, rfl⟩
theorem put_in {L : List Pq} {p : Pq} (hi : ∀ p ∈ L, p.In) (hp : p.In) : ∀ q ∈ putT L p, q.In := fun q hq => by
  rcases List.mem_append.1 hq with h | h
  · exact hi q (List.mem_of_mem_take h)
  · rcases List.mem_cons.1 h with rfl | h
    · exact hp
    · exact hi q (List.mem_of_mem_drop h)
theorem drop_in {L : List Pq} {k : Ky} (hi : ∀ p ∈ L, p.In) : ∀ q ∈ dropT L k, q.In := fun q hq => by
  rcases List.mem_append.1 hq with h | h
  · exact hi q (List.mem_of_mem_take h)
  · exact hi q (List.mem_of_mem_drop h)
theorem putE_zero {L : List Pq} {p : Pq} (h : putE L p = 0) : p.Ok ∧ cutN L p.k ≠ 1024 := by
  unfold putE at h
  by_cases c : mayT p = 0
  · rw [if_pos c] at h
    by_cases e : cutN L p.k = 1024
    · rw [if_pos e] at h; exact absurd h (by decide)
    · exact ⟨mayT_ok.1 c, e⟩
  · rw [if_neg c] at h; exact absurd h c
set_option maxRecDepth 100000 in
theorem Keys_w (A : Option Addr) (L : List Pq) (cap : Nat) (w : World) (hT : TabIn w A L cap) (htab : TabHere w) : Calls Tryz.prog 9 #[.slice A L.length cap] w (KeysTo L w) := by
  have h := keys_t A L cap w hT htab
  go_enter Tryz.func9, Tryz.ntmps9
  go_wp2_with (go_at_call 21; (with_reducible refine h.mono ?_); rintro e w1 ⟨M, O, rfl, hM, hb, h9⟩)
  go_ret2
  exact ⟨M, O, rfl, hM, hb, h9⟩
/-- how many of the first i stand under other keys -/
def othN (L : List Pq) (k : Ky) (i : Nat) : Nat := ((L.take i).filter fun p => !eqK p.k k).length
theorem oth_zero (L : List Pq) (k : Ky) : othN L k 0 = 0 := rfl
theorem oth_skip {L : List Pq} {k : Ky} {i : Nat} (h : i < L.length) (e : L[i].k = k) : othN L k (i + 1) = othN L k i := by
  unfold othN
  rw [take_snoc h, List.filter_append, List.filter_cons_of_neg (by rw [eqK_iff.2 e]; simp)]; simp
theorem oth_take {L : List Pq} {k : Ky} {i : Nat} (h : i < L.length) (e : L[i].k ≠ k) : othN L k (i + 1) = othN L k i + 1 := by
  unfold othN
  rw [take_snoc h, List.filter_append, List.filter_cons_of_pos (by rw [eqK_no e]; rfl)]; simp
theorem oth_end {L : List Pq} {k : Ky} (h : TabOk L) : othN L k L.length = (dropT L k).length := by
  unfold othN
  rw [List.take_length, (drop_to h).rest]
theorem oth_at {L : List Pq} {k : Ky} {i : Nat} (hL : TabOk L) (h : i < L.length) (e : L[i].k ≠ k) : ∃ hm : othN L k i < (dropT L k).length, (dropT L k)[othN L k i].k = L[i].k := by
  have hr := (drop_to (k := k) hL).rest
  have hs : dropT L k = ((L.take i).filter fun p => !eqK p.k k) ++ (L[i] :: ((L.drop (i + 1)).filter fun p => !eqK p.k k)) := by
    rw [← hr]
    conv => lhs; rw [← List.take_append_drop i L]
    rw [List.filter_append, List.drop_eq_getElem_cons h, List.filter_cons_of_pos (by rw [eqK_no e]; rfl)]
  have hm : othN L k i < (dropT L k).length := by rw [hs, List.length_append]; unfold othN; simp
  refine ⟨hm, ?_⟩
  have : (dropT L k)[othN L k i]? = some L[i] := by rw [hs]; unfold othN; simp
  rw [List.getElem?_eq_getElem hm] at this
  rw [Option.some.inj this]
theorem seal_froz (L : List Pq) : ((!(L.any fun p => p.d.z)) || !(!(L.any fun p => (p.d.z || p.d.p)))) = true := by
  cases h : L.any fun p => p.d.z with
  | false => rfl
  | true =>
    have : (L.any fun p => (p.d.z || p.d.p)) = true := by
      obtain ⟨x, hx, e⟩ := List.any_eq_true.1 h
      exact List.any_eq_true.2 ⟨x, hx, by rw [e]; rfl⟩
    rw [this]; rfl
/-- the law's blocks, and the found one's -/
structure Lx (w : World) (k o : Ky) (d D1 : Dq) (g : Nat) (W : World) : Prop where
  l : Lw w k o d W
  f : W.heap[g]? = some (.cells D1.cells 28 (0, 0))
theorem Lx.up {w W W' : World} {k o : Ky} {d D1 : Dq} {g : Nat} (h : Lx w k o d D1 g W) (hb : Below W.heap.size W W') : Lx w k o d D1 g W' := ⟨h.l.up hb, vblkn hb h.f⟩
def rightN : Nat → Code → Code
  | 0, c => c
  | n + 1, .seq _ b => rightN n b
  | _ + 1, c => c
noncomputable def tail4 (n : Nat) : Code := match Tryz.f4.body with | some c => rightN n c | none => .skip
set_option maxHeartbeats 8000000 in
set_option maxRecDepth 1000000 in
theorem TF37 {A A3 : Option Addr} {L : List Pq} {cap n c3 : Nat} {w W : World} {x1 x2 x3 x4 x5 x6 x7 x8 x9 x10 x11 x12 x13 x14 x15 x16 x17 x18 x19 x20 x21 x22 x23 x24 x26 x27 x28 x29 x30 x32 x33 x34 x35 x36 x37 x38 x39 x40 x41 x42 x43 x44 x45 x46 x47 x48 x49 x50 x51 x52 x53 x54 x55 x56 x57 x58 x59 x60 x61 x62 x63 x64 x65 x66 x67 x68 x69 x70 x71 x72 x73 x74 x75 x76 x77 x78 x79 x80 x81 x82 x83 x84 x85 x86 x87 x88 x89 x90 x91 x92 x93 x94 x95 x96 x97 x98 x99 x100 x101 x102 x103 x104 x105 x106 x107 x108 x109 x110 x111 x112 x113 x114 x115 x116 x117 x118 x119 x120 x121 x122 x123 x124 x125 x126 x127 x128 x129 x130 x131 x132 x133 x134 x135 x136 x137 x138 x139 x140 x141 x142 x143 x144 x145 x146 x147 x148 x149 x150 x151 x152 x153 x154 x155 x156 x157 x158 x159 x160 x161 x162 x163 x164 x165 x166 x167 x168 x169 x170 x171 x172 x173 x174 x175 x176 x177 x178 x179 x180 x181 x182 x183 x184 x185 x186 x187 x188 x189 x190 x191 x192 x193 x194 x195 x196 x197 x198 x199 x200 x201 x202 x203 x204 x205 x206 x207 x208 x209 x210 x211 x212 x213 x214 x215 x216 x217 x218 x219 x220 x221 x222 x223 x224 x225 x226 x227 x228 x229 x230 x231 x232 x233 x234 x235 x236 x237 x238 x239 x240 x241 x242 x243 x244 x245 x246 x247 x248 x249 x250 x251 x252 x253 x254 x255 x256 x257 x258 x259 x260 x261 x262 x263 x264 x265 x266 x267 x268 x269 x270 x271 x272 x273 x274 x275 x276 x277 x278 x279 x280 x281 x282 x283 x284 x285 x286 x287 x288 x289 x290 x291 : Value} (hT : TabIn w A L cap) (htab : TabHere w) (hW : Below w.heap.size w W) : Code.wp Tryz.prog (tail4 14) (bodyPost Tryz.prog Tryz.f4 (fun e w' => e = .returned (.bool true) ∧ Below w.heap.size w w')) ⟨#[.slice A L.length cap, x1, x2, x3, x4, x5, x6, x7, x8, x9, x10, x11, x12, x13, x14, x15, x16, x17, x18, x19, x20, x21, x22, x23, x24, .slice A3 n c3, x26, x27, x28, x29, x30, .int .i64 (n : Nat), x32, x33, x34, x35, x36, x37, x38, x39, x40, x41, x42, x43, x44, x45, x46, x47, x48, x49, x50, x51, x52, x53, x54, x55, x56, x57, x58, x59, x60, x61, x62, x63, x64, x65, x66, x67, x68, x69, x70, x71, x72, x73, x74, x75, x76, x77, x78, x79, x80, x81, x82, x83, x84, x85, x86, x87, x88, x89, x90, x91, x92, x93, x94, x95, x96, x97, x98, x99, x100, x101, x102, x103, x104, x105, x106, x107, x108, x109, x110, x111, x112, x113, x114, x115, x116, x117, x118, x119, x120, x121, x122, x123, x124, x125, x126, x127, x128, x129, x130, x131, x132, x133, x134, x135, x136, x137, x138, x139, x140, x141, x142, x143, x144, x145, x146, x147, x148, x149, x150, x151, x152, x153, x154, x155, x156, x157, x158, x159, x160, x161, x162, x163, x164, x165, x166, x167, x168, x169, x170, x171, x172, x173, x174, x175, x176, x177, x178, x179, x180, x181, x182, x183, x184, x185, x186, x187, x188, x189, x190, x191, x192, x193, x194, x195, x196, x197, x198, x199, x200, x201, x202, x203, x204, x205, x206, x207, x208, x209, x210, x211, x212, x213, x214, x215, x216, x217, x218, x219, x220, x221, x222, x223, x224, x225, x226, x227, x228, x229, x230, x231, x232, x233, x234, x235, x236, x237, x238, x239, x240, x241, x242, x243, x244, x245, x246, x247, x248, x249, x250, x251, x252, x253, x254, x255, x256, x257, x258, x259, x260, x261, x262, x263, x264, x265, x266, x267, x268, x269, x270, x271, x272, x273, x274, x275, x276, x277, x278, x279, x280, x281, x282, x283, x284, x285, x286, x287, x288, x289, x290, x291], []⟩ W := by
  unfold tail4
  dsimp only [Tryz.f4, rightN]
  have FK := fun W hb => Keys_w A L cap W (hT.up hb) (tab_up htab hb)
  have FS := fun W hb => Sealed_t A L cap W (hT.up hb)
  have FF := fun W hb => Frozen_t A L cap W (hT.up hb)
  have hsf := seal_froz L
  generalize (!(L.any fun p => p.d.z)) = sb at *
  generalize (!(L.any fun p => (p.d.z || p.d.p))) = fb at *
  have hsf2 : sb = true ∨ (sb = false ∧ fb = false) := by
    cases sb with
    | true => exact .inl rfl
    | false => cases fb with
      | true => exact absurd hsf (by decide)
      | false => exact .inr ⟨rfl, rfl⟩
  clear hsf
  have HB := Lib.hid hW
  rcases hsf2 with rfl | ⟨rfl, rfl⟩
  all_goals
    go_wp2_with (first
      | (go_at_call 9; (with_reducible refine (FK _ HB.out).mono ?_); rintro e wk ⟨M9, O9, rfl, _, _, h9⟩; have HB := Lib.hid (vb HB.out h9); clear h9)
      | (go_at_call 13; (with_reducible refine (FS _ HB.out).mono ?_); rintro e ws ⟨rfl, h9⟩; have HB := Lib.hid (vb HB.out h9); clear h9)
      | (go_at_call 14; (with_reducible refine (FF _ HB.out).mono ?_); rintro e wf ⟨rfl, h9⟩; have HB := Lib.hid (vb HB.out h9); clear h9))
    go_ret
    exact ⟨by first | rfl | simp, HB.out⟩
set_option maxHeartbeats 8000000 in
set_option maxRecDepth 1000000 in
theorem TF29 {A A3 : Option Addr} {L : List Pq} {cap c3 : Nat} {k : Ky} {w W : World} {x1 x2 x3 x4 x6 x7 x8 x9 x10 x11 x12 x13 x14 x15 x16 x17 x18 x19 x20 x21 x22 x23 x24 x26 x27 x28 x29 x30 x31 x32 x33 x34 x35 x36 x37 x38 x39 x40 x41 x42 x43 x44 x45 x46 x47 x48 x49 x50 x51 x52 x53 x54 x55 x56 x57 x58 x59 x60 x61 x62 x63 x64 x65 x66 x67 x68 x69 x70 x71 x72 x73 x74 x75 x76 x77 x78 x79 x80 x81 x82 x83 x84 x85 x86 x87 x88 x89 x90 x91 x92 x93 x94 x95 x96 x97 x98 x99 x100 x101 x102 x103 x104 x105 x106 x107 x108 x109 x110 x111 x112 x113 x114 x115 x116 x117 x118 x119 x120 x121 x122 x123 x124 x125 x126 x127 x128 x129 x130 x131 x132 x133 x134 x135 x136 x137 x138 x139 x140 x141 x142 x143 x144 x145 x146 x147 x148 x149 x150 x151 x152 x153 x154 x155 x156 x157 x158 x159 x160 x161 x162 x163 x164 x165 x166 x167 x168 x169 x170 x171 x172 x173 x174 x175 x176 x177 x178 x179 x180 x181 x182 x183 x184 x185 x186 x187 x188 x189 x190 x191 x192 x193 x194 x195 x196 x197 x198 x199 x200 x201 x202 x203 x204 x205 x206 x207 x208 x209 x210 x211 x212 x213 x214 x215 x216 x217 x218 x219 x220 x221 x222 x223 x224 x225 x226 x227 x228 x229 x230 x231 x232 x233 x234 x235 x236 x237 x238 x239 x240 x241 x242 x243 x244 x245 x246 x247 x248 x249 x250 x251 x252 x253 x254 x255 x256 x257 x258 x259 x260 x261 x262 x263 x264 x265 x266 x267 x268 x269 x270 x271 x272 x273 x274 x275 x276 x277 x278 x279 x280 x281 x282 x283 x284 x285 x286 x287 x288 x289 x290 x291 : Value} (hT : TabIn w A L cap) (htab : TabHere w) (hTN : TabIn W A3 (dropT L k) c3) (hW : Hk w k W) : Code.wp Tryz.prog (tail4 12) (bodyPost Tryz.prog Tryz.f4 (fun e w' => e = .returned (.bool true) ∧ Below w.heap.size w w')) ⟨#[.slice A L.length cap, x1, x2, x3, x4, .pointer (some ⟨w.heap.size, 0, none⟩), x6, x7, x8, x9, x10, x11, x12, x13, x14, x15, x16, x17, x18, x19, x20, x21, x22, x23, x24, .slice A3 (dropT L k).length c3, x26, x27, x28, x29, x30, x31, x32, x33, x34, x35, x36, x37, x38, x39, x40, x41, x42, x43, x44, x45, x46, x47, x48, x49, x50, x51, x52, x53, x54, x55, x56, x57, x58, x59, x60, x61, x62, x63, x64, x65, x66, x67, x68, x69, x70, x71, x72, x73, x74, x75, x76, x77, x78, x79, x80, x81, x82, x83, x84, x85, x86, x87, x88, x89, x90, x91, x92, x93, x94, x95, x96, x97, x98, x99, x100, x101, x102, x103, x104, x105, x106, x107, x108, x109, x110, x111, x112, x113, x114, x115, x116, x117, x118, x119, x120, x121, x122, x123, x124, x125, x126, x127, x128, x129, x130, x131, x132, x133, x134, x135, x136, x137, x138, x139, x140, x141, x142, x143, x144, x145, x146, x147, x148, x149, x150, x151, x152, x153, x154, x155, x156, x157, x158, x159, x160, x161, x162, x163, x164, x165, x166, x167, x168, x169, x170, x171, x172, x173, x174, x175, x176, x177, x178, x179, x180, x181, x182, x183, x184, x185, x186, x187, x188, x189, x190, x191, x192, x193, x194, x195, x196, x197, x198, x199, x200, x201, x202, x203, x204, x205, x206, x207, x208, x209, x210, x211, x212, x213, x214, x215, x216, x217, x218, x219, x220, x221, x222, x223, x224, x225, x226, x227, x228, x229, x230, x231, x232, x233, x234, x235, x236, x237, x238, x239, x240, x241, x242, x243, x244, x245, x246, x247, x248, x249, x250, x251, x252, x253, x254, x255, x256, x257, x258, x259, x260, x261, x262, x263, x264, x265, x266, x267, x268, x269, x270, x271, x272, x273, x274, x275, x276, x277, x278, x279, x280, x281, x282, x283, x284, x285, x286, x287, x288, x289, x290, x291], []⟩ W := by
  have HT := Lib.hid hT
  have HTN := Lib.hid hTN
  have HX := Lib.hid (And.intro hW (Below.refl W.heap.size W))
  have hAT := fun i (h : i < L.length) (e : L[i].k ≠ k) => oth_at HT.out.ok h e
  have HAT := Lib.hid hAT
  have HEND := Lib.hid (oth_end (k := k) HT.out.ok)
  clear hT hTN hW hAT
  generalize dropT L k = N at *
  unfold tail4
  dsimp only [Tryz.f4, rightN]
  go_upto_block 2 with (fail)
  go_cut [31] from 36 (fun q wx => q = .int .i64 (N.length : Nat) ∧ Hid (Hk w k wx ∧ Below W.heap.size W wx))
  case first =>
    go_wp2_with (fail)
    go_loopg [31, 32] L.length (fun kx s31 s32 wr => ∃ i : Nat, s32 = .int .i64 i ∧ s31 = .int .i64 (othN L k i : Nat) ∧ i + kx = L.length ∧ Hid (Hk w k wr ∧ Below W.heap.size W wr))
    case atStart => exact ⟨0, rfl, rfl, by omega, HX⟩
    case round =>
      clear HX
      obtain ⟨i, rfl, rfl, hik, HX⟩ := hrel
      cases gk with
      | zero =>
        obtain rfl : i = L.length := by omega
        have HE := Lib.hid HEND.out
        go_wp2
        go_meet
        case rel => exact ⟨by rw [HE.out], HX⟩
      | succ kx =>
        have hlt : i < L.length := by omega
        have hlz : (i : Int) < (L.length : Int) := by omega
        have hwi : wrap64 ((i : Int) + 1) = ((i + 1 : Nat) : Int) := by have := HT.out.few; unfold wrap64; omega
        obtain ⟨a1, rfl, _, _⟩ := (HT.out.up HX.out.1.below).row (by omega)
        obtain ⟨q0, c0, c1⟩ := pr_key (HT.out.up HX.out.1.below).row hlt
        obtain ⟨k0, k1, kf⟩ := kc2 HX.out.1.k
        have qe := key_eq 9998 L[i].k.str k.str L[i].k.sym k.sym
        rw [show (L[i].k.str == k.str && L[i].k.sym == k.sym) = eqK L[i].k k from rfl] at qe
        by_cases he : L[i].k = k
        ·
          rw [eqK_iff.2 he] at qe
          have HO := Lib.hid (oth_skip hlt he)
          clear he
          generalize L[i].k.str = s at *
          generalize L[i].k.sym = y at *
          go_wp2
          go_quiet (fail)
          go_wp2
          go_roundg kx
          case measure => omega
          case rel => exact ⟨i + 1, by first | rfl | exact congrArg (Value.int .i64) hwi, by rw [HO.out], by omega, Lib.hid ⟨HX.out.1.up (tdrewN (Below.refl _ _) nq), tdrewN HX.out.2 nq⟩⟩
        ·
          rw [eqK_no he] at qe
          have HO := Lib.hid (oth_take hlt he)
          obtain ⟨hm, hkm⟩ := HAT.out i hlt he
          clear he
          obtain ⟨a3, rfl, _, _⟩ := (HTN.out.up HX.out.2).row (by omega)
          obtain ⟨p0, d0, d1⟩ := pr_key (HTN.out.up HX.out.2).row hm
          rw [hkm] at d0 d1
          have qe2 := key_eq 9998 L[i].k.str L[i].k.str L[i].k.sym L[i].k.sym
          rw [show (L[i].k.str == L[i].k.str && L[i].k.sym == L[i].k.sym) = eqK L[i].k L[i].k from rfl, eqK_iff.2 rfl] at qe2
          have hfewN := HTN.out.few
          clear hkm
          generalize L[i].k.str = s at *
          generalize L[i].k.sym = y at *
          have HI := Lib.hid HX.out
          generalize hmm : othN L k i = m at *
          have HMM := Lib.hid hmm
          clear hmm
          have hmz : (m : Int) < (N.length : Int) := by omega
          have hnz : ¬ ((N.length : Int) ≤ (m : Int)) := by omega
          have hwm : wrap64 ((m : Int) + 1) = ((m + 1 : Nat) : Int) := by unfold wrap64; omega
          go_wp2
          go_quiet (fail)
          go_upto_region 34 with (fail)
          have hS : (fun wx => wx.cell? (a3.add (m * 18)) = some (.string s) ∧ wx.cell? ⟨(a3.add (m * 18)).block, (a3.add (m * 18)).off + 1, none⟩ = some (.int .i64 y) ∧ wx.cell? (a1.add (i * 18)) = some (.string s) ∧ wx.cell? ⟨(a1.add (i * 18)).block, (a1.add (i * 18)).off + 1, none⟩ = some (.int .i64 y)) (wr.drewN nq).drew := ⟨d0, d1, c0, c1⟩
          refine wp_region_held_drew (S := fun wx => wx.cell? (a3.add (m * 18)) = some (.string s) ∧ wx.cell? ⟨(a3.add (m * 18)).block, (a3.add (m * 18)).off + 1, none⟩ = some (.int .i64 y) ∧ wx.cell? (a1.add (i * 18)) = some (.string s) ∧ wx.cell? ⟨(a1.add (i * 18)).block, (a1.add (i * 18)).off + 1, none⟩ = some (.int .i64 y)) (by kernel_rfl) hS (fun hHeld => ?_)
          refine hH_take (i := 0) (v := .int .i64 (m : Nat)) (d := 228) (l2 := #[true, false, false, false, false, false, false, false, false, false, false, false, false, false, false, false, false]) rfl (by kernel_rfl) (by kernel_rfl) (by kernel_rfl) (fun _ _ _ h => h) (by kernel_rfl) (fun w hSw => ?_) (by assumption) rfl (by kernel_rfl) ?_
          · go_simp
          simp only [List.set]
          refine hH_take (i := 1) (v := .slice (some a3) N.length c3) (d := 229) (l2 := #[true, true, false, false, false, false, false, false, false, false, false, false, false, false, false, false, false]) rfl (by kernel_rfl) (by kernel_rfl) (by kernel_rfl) (fun _ _ _ h => h) (by kernel_rfl) (fun w hSw => ?_) (by assumption) rfl (by kernel_rfl) ?_
          · go_simp
          simp only [List.set]
          refine hH_take (i := 2) (v := .int .i64 (N.length : Nat)) (d := 230) (l2 := #[true, true, true, false, false, false, false, false, false, false, false, false, false, false, false, false, false]) rfl (by kernel_rfl) (by kernel_rfl) (by kernel_rfl) (fun _ _ _ h => h) (by kernel_rfl) (fun w hSw => ?_) (by assumption) rfl (by kernel_rfl) ?_
          · go_simp
          simp only [List.set]
          refine hH_take (i := 3) (v := .bool false) (d := 231) (l2 := #[true, true, true, true, false, false, false, false, false, false, false, false, false, false, false, false, false]) rfl (by kernel_rfl) (by kernel_rfl) (by kernel_rfl) (fun _ _ _ h => h) (by kernel_rfl) (fun w hSw => ?_) (by assumption) rfl (by kernel_rfl) ?_
          · go_simp
          simp only [List.set]
          refine hH_take (i := 4) (v := .bool false) (d := 232) (l2 := #[true, true, true, true, true, false, false, false, false, false, false, false, false, false, false, false, false]) rfl (by kernel_rfl) (by kernel_rfl) (by kernel_rfl) (fun _ _ _ h => h) (by kernel_rfl) (fun w hSw => ?_) (by assumption) rfl (by kernel_rfl) ?_
          · go_simp
          simp only [List.set]
          refine hH_take (i := 5) (v := .slice (some a3) N.length c3) (d := 233) (l2 := #[true, true, true, true, true, true, false, false, false, false, false, false, false, false, false, false, false]) rfl (by kernel_rfl) (by kernel_rfl) (by kernel_rfl) (fun _ _ _ h => h) (by kernel_rfl) (fun w hSw => ?_) (by assumption) rfl (by kernel_rfl) ?_
          · go_simp
          simp only [List.set]
          refine hH_take (i := 6) (v := .int .i64 (m : Nat)) (d := 234) (l2 := #[true, true, true, true, true, true, true, false, false, false, false, false, false, false, false, false, false]) rfl (by kernel_rfl) (by kernel_rfl) (by kernel_rfl) (fun _ _ _ h => h) (by kernel_rfl) (fun w hSw => ?_) (by assumption) rfl (by kernel_rfl) ?_
          · go_simp
          simp only [List.set]
          refine hH_take (i := 7) (v := .pointer (some (a3.add (m * 18)))) (d := 235) (l2 := #[true, true, true, true, true, true, true, true, false, false, false, false, false, false, false, false, false]) rfl (by kernel_rfl) (by kernel_rfl) (by kernel_rfl) (fun _ _ _ h => h) (by kernel_rfl) (fun w hSw => ?_) (by assumption) rfl (by kernel_rfl) ?_
          · go_simp
          simp only [List.set]
          refine hH_take (i := 8) (v := .pointer (some (a3.add (m * 18)))) (d := 236) (l2 := #[true, true, true, true, true, true, true, true, true, false, false, false, false, false, false, false, false]) rfl (by kernel_rfl) (by kernel_rfl) (by kernel_rfl) (fun _ _ _ h => h) (by kernel_rfl) (fun w hSw => ?_) (by assumption) rfl (by kernel_rfl) ?_
          · go_simp
          simp only [List.set]
          refine hH_take (i := 9) (v := .agg #[.string s, .int .i64 y]) (d := 237) (l2 := #[true, true, true, true, true, true, true, true, true, true, false, false, false, false, false, false, false]) rfl (by kernel_rfl) (by kernel_rfl) (by kernel_rfl) (fun _ _ _ h => h) (by kernel_rfl) (fun w hSw => ?_) (by assumption) rfl (by kernel_rfl) ?_
          · exact ex_load_at (k2_at hSw.1 hSw.2.1) rfl rfl
          simp only [List.set]
          refine hH_take (i := 10) (v := .slice (some a1) L.length cap) (d := 238) (l2 := #[true, true, true, true, true, true, true, true, true, true, true, false, false, false, false, false, false]) rfl (by kernel_rfl) (by kernel_rfl) (by kernel_rfl) (fun _ _ _ h => h) (by kernel_rfl) (fun w hSw => ?_) (by assumption) rfl (by kernel_rfl) ?_
          · go_simp
          simp only [List.set]
          refine hH_take (i := 11) (v := .int .i64 (i : Nat)) (d := 239) (l2 := #[true, true, true, true, true, true, true, true, true, true, true, true, false, false, false, false, false]) rfl (by kernel_rfl) (by kernel_rfl) (by kernel_rfl) (fun _ _ _ h => h) (by kernel_rfl) (fun w hSw => ?_) (by assumption) rfl (by kernel_rfl) ?_
          · go_simp
          simp only [List.set]
          refine hH_take (i := 12) (v := .pointer (some (a1.add (i * 18)))) (d := 240) (l2 := #[true, true, true, true, true, true, true, true, true, true, true, true, true, false, false, false, false]) rfl (by kernel_rfl) (by kernel_rfl) (by kernel_rfl) (fun _ _ _ h => h) (by kernel_rfl) (fun w hSw => ?_) (by assumption) rfl (by kernel_rfl) ?_
          · go_simp
          simp only [List.set]
          refine hH_take (i := 13) (v := .pointer (some (a1.add (i * 18)))) (d := 241) (l2 := #[true, true, true, true, true, true, true, true, true, true, true, true, true, true, false, false, false]) rfl (by kernel_rfl) (by kernel_rfl) (by kernel_rfl) (fun _ _ _ h => h) (by kernel_rfl) (fun w hSw => ?_) (by assumption) rfl (by kernel_rfl) ?_
          · go_simp
          simp only [List.set]
          refine hH_take (i := 14) (v := .agg #[.string s, .int .i64 y]) (d := 242) (l2 := #[true, true, true, true, true, true, true, true, true, true, true, true, true, true, true, false, false]) rfl (by kernel_rfl) (by kernel_rfl) (by kernel_rfl) (fun _ _ _ h => h) (by kernel_rfl) (fun w hSw => ?_) (by assumption) rfl (by kernel_rfl) ?_
          · exact ex_load_at (k2_at hSw.2.2.1 hSw.2.2.2) rfl rfl
          simp only [List.set]
          refine hH_take (i := 15) (v := .bool false) (d := 243) (l2 := #[true, true, true, true, true, true, true, true, true, true, true, true, true, true, true, true, false]) rfl (by kernel_rfl) (by kernel_rfl) (by kernel_rfl) (fun _ _ _ h => h) (by kernel_rfl) (fun w hSw => ?_) (by assumption) rfl (by kernel_rfl) ?_
          · go_simp
          simp only [List.set]
          refine hH_take (i := 16) (v := .bool false) (d := 244) (l2 := #[true, true, true, true, true, true, true, true, true, true, true, true, true, true, true, true, true]) rfl (by kernel_rfl) (by kernel_rfl) (by kernel_rfl) (fun _ _ _ h => h) (by kernel_rfl) (fun w hSw => ?_) (by assumption) rfl (by kernel_rfl) ?_
          · go_simp
          simp only [List.set]
          refine wpAnyH_done (by kernel_rfl) ?_ _
          go_wp2
          go_roundg kx
          case measure => omega
          case rel => exact ⟨i + 1, by first | rfl | exact congrArg (Value.int .i64) hwi, by rw [HO.out]; first | rfl | exact congrArg (Value.int .i64) hwm, by omega, Lib.hid ⟨HX.out.1.up (tdrewN (Below.refl _ _) nq).drew, (tdrewN HX.out.2 nq).drew⟩⟩
  case rest =>
    obtain ⟨rfl, HX⟩ := hcut
    rename ∀ (a : Act) (w : World), Code.wp Tryz.prog _ _ a w → _ => hK
    exact hK _ _ (TF37 HT.out htab HX.out.1.below)
end Go.Proofs.YtmdmfjlmmojbgaaGreatDoor.S
