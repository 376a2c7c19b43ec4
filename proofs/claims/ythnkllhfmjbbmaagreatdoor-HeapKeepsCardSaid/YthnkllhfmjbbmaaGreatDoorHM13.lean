/-
  key.Order: walk.
-/
import Derived.Test.YthnkllhfmjbbmaaGreatDoorHM12
import Derived.Deep.RegionWith
import Derived.Shelf.Strings.Builder1
import Derived.Shelf.Strings.Builder2
import Derived.Shelf.Strings.Search3
import Derived.Shelf.Strings.Shaped
import Derived.Shelf.LaysM
import Derived.Test.YthnkllhfmjbbmaaGreatDoorProg
import Derived.Test.YthnkllhfmjbbmaaGreatDoorChecked
import Derived.WalkKit
import Derived.WalkSpells
import Derived.WalkLawsBesides
import Derived.BigCall
import Derived.Lib.Hide
namespace Go.Proofs.YthnkllhfmjbbmaaGreatDoor.S
open Go.RowKit Go.Sort Fl

set_option maxHeartbeats 4000000 in
set_option maxRecDepth 1000000 in
theorem Order_k (A : Option Addr) (L : List Ky) (cap : Nat) (w : World) (hin : ∀ k ∈ L, KyIn k) (hl : L.length < 1000000000000) (hL : RK w A L) (htab : TabHere w) : Calls Tryz.prog 151 #[.slice A L.length cap] w (OrdTo L w) := by
  obtain ⟨i0, hi, hz0, hz1, hz2⟩ := info_parts row_info
  go_enter Tryz.func151, Tryz.ntmps151
  go_wp2_with (first
    | (refine wpList_make_full _ rfl _ _ 218 rfl 0 221 i0 _ 3 Tryz.underlying218 hi hz0 hz1 .i64 .i64 _ _ L.length rfl rfl rfl rfl (by rw [hz2]; omega) (by unfold maxLen; omega) (Nat.zero_le _) ?_; intro w2 hK gK; have HP := Lib.hid (lp1_start gK (own_blk hK rfl)); have hBw := gK.size; have hBW : w.heap.size < w2.heap.size := by obtain ⟨cs, _, h2⟩ := own_blk hK rfl; exact lt_blk h2))
  clear hK gK hi hz0 hz1 hz2
  go_loopg [15] L.length (fun kx s15 wr => ∃ i : Nat, s15 = .int .i64 i ∧ i + kx = L.length ∧ Hid (Lp1 L w w2.heap.size i wr))
  case atStart => exact ⟨0, rfl, by omega, HP⟩
  case round =>
    clear HP
    obtain ⟨i, rfl, hik, H⟩ := hrel
    cases gk with
    | zero =>
      obtain rfl : i = L.length := by omega
      have hHs := holds_rows H.out
      have hBb := H.out.box
      have cB := vcells hBb 0
      simp only [List.getElem?_toArray, List.getElem?_cons_zero] at cB
      have hBl := lt_blk hBb
      have hRl : w.heap.size < wr.heap.size := Nat.lt_trans hBW hBl
      have hsrt := sort_rows w.heap.size w2.heap.size L.toArray wr hHs (by rw [show L.toArray.size = L.length by simp]; exact cB) (by omega) hRl hBl (by simp; omega)
      rw [show L.toArray.size = L.length by simp] at hsrt
      have HW := Lib.hid H.out.below
      have HHs := Lib.hid hHs
      have HBb := Lib.hid hBb
      clear H hHs hBb hik
      obtain ⟨j0, hj, jz0, jz1, jz2⟩ := info_parts key_info
      go_wp2_with (fail)
      go_at_call 178
      refine hsrt.mono ?_
      rintro e w3 ⟨rfl, d', nd, os, s1, s2, rfl⟩
      have hB3 := (heap_sorted wr nd w.heap.size d' os w2.heap.size hBl (by omega)).trans HBb.out
      have hH3 := holds_sorted (n := nd) (os := os) hRl HHs.out s1.size
      have hb3 := HW.out.trans (below_sorted wr nd w.heap.size d' os hRl)
      have hR3 : w.heap.size < (grow (putRowK encR 3 (Sort.ahead wr nd) w.heap.size 0 d') os).heap.size := Nat.lt_of_lt_of_le hRl (below_sorted wr nd w.heap.size d' os hRl).size
      generalize grow (putRowK encR 3 (Sort.ahead wr nd) w.heap.size 0 d') os = w3 at *
      have cB := vcells hB3 0
      simp only [List.getElem?_toArray, List.getElem?_cons_zero] at cB
      have cB0 := cB
      have HS1 := Lib.hid (And.intro s1 s2)
      have HH3 := Lib.hid hH3
      have HB3 := Lib.hid hb3
      clear s1 s2 hH3 hb3
      go_wp2_with (refine wpList_make_full _ rfl _ _ 56 rfl 0 63 j0 _ 2 Tryz.underlying56 hj jz0 jz1 .i64 .i64 _ _ L.length rfl rfl rfl rfl (by rw [jz2]; omega) (by unfold maxLen; omega) (Nat.zero_le _) ?_; intro w4 hK gK; have HK := Lib.hid (own_blk hK rfl); have HG := Lib.hid (grown_below gK); have cB := (vcell (grown_below gK)).1 w2.heap.size 0 (lt_blk hB3); rw [cB0] at cB; clear hK gK)
      have hdz : d'.size = L.length := by have := HS1.out.1.size; simpa using this
      have hRO : w.heap.size < w3.heap.size := hR3
      have P0 : Hid (Lp2 d' w w.heap.size w3.heap.size 0 w4) := by
        obtain ⟨cs, h1, h2⟩ := HK.out
        exact Lib.hid ⟨vb HB3.out HG.out, holdsK_same HH3.out (HG.out.block _ hRO), cs, by rw [h1, hdz], h2, fun j _ h => absurd h (Nat.not_lt_zero _)⟩
      clear cB cB0 hj jz0 jz1 jz2 hB3
      go_loopg [38] L.length (fun kx s38 wr2 => ∃ i : Nat, s38 = .int .i64 i ∧ i + kx = L.length ∧ Hid (Lp2 d' w w.heap.size w3.heap.size i wr2))
      case atStart => exact ⟨0, rfl, by omega, P0⟩
      case round =>
        clear P0 HH3 HB3 HK HG HHs HBb HW
        obtain ⟨i, rfl, hik, H⟩ := hrel
        cases gk with
        | zero =>
          obtain rfl : i = L.length := by omega
          go_wp2
          go_ret
          have O1 := ord_of HS1.out.1 HS1.out.2
          have E1 := lp2_end (by rw [hdz]; exact H.out)
          exact ⟨d'.toList, w3.heap.size, rfl, O1, Nat.le_of_lt hRO, E1, H.out.below⟩
        | succ kx =>
          have hlt : i < L.length := by omega
          have hlz : (i : Int) < (L.length : Int) := by omega
          have hid : i < d'.size := by omega
          have q0 := (H.out.rows.cell (i := i) (c := 0) hid (by omega)).1
          have q1 := (H.out.rows.cell (i := i) (c := 1) hid (by omega)).1
          have q2 := (H.out.rows.cell (i := i) (c := 2) hid (by omega)).1
          rw [show 0 + i * 3 + 0 = i * 3 by omega, show (encR d'[i]!)[0]! = .int .i64 (rkKy d'[i]! : Nat) from rfl] at q0
          rw [show 0 + i * 3 + 1 = i * 3 + 1 by omega, show (encR d'[i]!)[1]! = .string d'[i]!.str from rfl] at q1
          rw [show 0 + i * 3 + 2 = i * 3 + 2 by omega, show (encR d'[i]!)[2]! = .int .i64 d'[i]!.sym from rfl] at q2
          obtain ⟨cs, hcz, hob, _⟩ := H.out.out
          have hRl := holdsK_lt H.out.rows (by omega)
          have hOl := lt_blk hob
          obtain ⟨x0, hx0⟩ : ∃ x, cs[i * 2]? = some x := ⟨_, Array.getElem?_eq_getElem (by omega)⟩
          obtain ⟨x1, hx1⟩ : ∃ x, cs[i * 2 + 1]? = some x := ⟨_, Array.getElem?_eq_getElem (by omega)⟩
          have o0 := (vcells hob (i * 2)).trans hx0
          have o1 := (vcells hob (i * 2 + 1)).trans hx1
          have oz := vfz hob
          have PP := fun o => Lib.hid (lp2_put H.out hid (Nat.le_of_lt hRO) (Nat.ne_of_lt hRO) o)
          clear hob hx0 hx1 H
          generalize rkKy d'[i]! = r at *
          generalize d'[i]!.str = s at *
          generalize d'[i]!.sym = y at *
          go_wp2
          go_roundg kx
          case measure => omega
          case rel => exact ⟨i + 1, by simp, by omega, PP _⟩
    | succ kx =>
      have hlt : i < L.length := by omega
      have hlz : (i : Int) < (L.length : Int) := by omega
      obtain ⟨a, rfl, ha, hcs⟩ := rk_up hL H.out.below (by omega)
      obtain ⟨c0, c1⟩ := hcs i hlt
      obtain ⟨hk1, hk2, hk3⟩ := hin L[i] (List.getElem_mem hlt)
      have hab : ∀ k, (a.add k).block < wr.heap.size := fun k => by
        have : (a.add k).block = a.block := by unfold Addr.add; split <;> rfl
        rw [this]; exact ha
      have cB := vcells H.out.box 0
      have hBr := lt_blk H.out.box
      clear hcs
      generalize hs : L[i].str = s at *
      generalize hy : L[i].sym = y at *
      go_wp2
      have HT1 := Lib.hid (tab_up htab (vb H.out.below (vzero wr (.cells #[.string s, .int .i64 y] 63))))
      have hbk := heap_alloc_new wr (.cells #[.string s, .int .i64 y] 63)
      have H1 : Hid (Lp1 L w w2.heap.size i (wr.alloc (.cells #[.string s, .int .i64 y] 63))) := Lib.hid (H.out.alloc _)
      have hz1 : wr.heap.size < (wr.alloc (.cells #[.string s, .int .i64 y] 63)).heap.size := by simp
      generalize wr.alloc (.cells #[.string s, .int .i64 y] 63) = W1 at *
      obtain ⟨k0, k1, kf⟩ := kc2 hbk
      have cB := vcells H1.out.box 0
      simp only [List.getElem?_toArray, List.getElem?_cons_zero] at cB
      obtain ⟨cs, hcz, hrb, hrj⟩ := H1.out.rows
      have HRJ := Lib.hid hrj
      have HB1 := Lib.hid H1.out.box
      have HW1 := Lib.hid H1.out.below
      obtain ⟨x0, hx0⟩ : ∃ x, cs[i * 3]? = some x := ⟨_, Array.getElem?_eq_getElem (by omega)⟩
      obtain ⟨x1, hx1⟩ : ∃ x, cs[i * 3 + 1]? = some x := ⟨_, Array.getElem?_eq_getElem (by omega)⟩
      obtain ⟨x2, hx2⟩ : ∃ x, cs[i * 3 + 2]? = some x := ⟨_, Array.getElem?_eq_getElem (by omega)⟩
      have rk := rank_k s y W1.drew hk1 ⟨hk2, hk3⟩ (tab_up (w := W1) HT1.out (Below.refl _ _).drew)
      have HCZ := Lib.hid hcz
      have HRB := Lib.hid hrb
      have HX := Lib.hid (And.intro hx0 (And.intro hx1 hx2))
      have HBK := Lib.hid hbk
      clear hrj hcz hrb hx0 hx1 hx2 H1 H hbk
      generalize hrk : rkK s y = r at *
      go_region_with (go_at_call 176; refine rk.mono ?_; rintro e w3 ⟨rfl, h3⟩; have hr3 := vblkn (w1 := W1.drew) h3 HRB.out; have hb3 := vblkn (w1 := W1.drew) h3 HB1.out; have hk3 := vblkn (w1 := W1.drew) h3 HBK.out; obtain ⟨k0, k1, kf⟩ := kc2 hk3; have cB := vcells hb3 0; have r0 := (vcells hr3 (i * 3)).trans HX.out.1; have r1 := (vcells hr3 (i * 3 + 1)).trans HX.out.2.1; have r2 := (vcells hr3 (i * 3 + 2)).trans HX.out.2.2; have rz := vfz hr3; have HR3 := Lib.hid hr3; have HB3 := Lib.hid hb3; have H3 := Lib.hid h3; clear hr3 hb3 hk3 h3)
      all_goals
        have P := Lib.hid (lp1_put hlt HW1.out hBW HCZ.out HRJ.out HR3.out HB3.out H3.out hs hy hrk)
        clear r0 r1 r2 rz cB k0 k1 kf
        generalize ((w3.setCell ⟨w.heap.size, i * 3, none⟩ (.int .i64 (r : Nat))).setCell ⟨w.heap.size, i * 3 + 1, none⟩ (.string s)).setCell ⟨w.heap.size, i * 3 + 2, none⟩ (.int .i64 y) = w4 at *
        go_wp2
        go_roundg kx
        case measure => omega
        case rel => exact ⟨i + 1, by simp, by omega, P⟩
end Go.Proofs.YthnkllhfmjbbmaaGreatDoor.S
/-
  DERIVED: THE SHELF's CONTRACTS AT THIS DUMP, IN PLAIN WORDS (tools/lay-plain.mjs out of 'YthnkllhfmjbbmaaGreatDoorStrShelfTry.lean', which tools/lay-shelf.mjs wrote): THE SAME DECLARATIONS UNDER THE SAME NAMES: 'import', 'namespace', 'open', 'def', 'theorem' AND NOTHING ELSE: no command of the shelf's: FOR A HAND-IN. Each laying: the table of numbers ('.._ren') and one theorem, a field a fact of the dump's own or the kernel's comparison; each contract: ONE APPLICATION.
-/
namespace Go.Proofs
open Go.Shelf
def Tryz.lays170_ren : Go.Shelf.Ren := ⟨fun | 170 => 52 | n => n, fun | 70 => 99 | 3 => 3 | 0 => 0 | 72 => 102 | 37 => 100 | 5 => 5 | n => n, fun | n => n⟩
theorem Tryz.lays170 : Go.Proofs.Lays.n170 Tryz.prog Tryz.lays170_ren := {
  mixed := by kernel_rfl
  f170 := Tryz.func52.trans (congrArg some (by kernel_rfl))
  t0 := Tryz.underlying0
  a0 := Tryz.isAgg0
  z0 := Tryz.sizeOf0
  v0 := Tryz.zeroValue0
  t3 := Tryz.underlying3
  a3 := Tryz.isAgg3
  z3 := Tryz.sizeOf3
  v3 := Tryz.zeroValue3
  t37 := Tryz.underlying100
  a37 := Tryz.isAgg100
  z37 := Tryz.sizeOf100
  v37 := Tryz.zeroValue100
  t70 := Tryz.underlying99
  a70 := Tryz.isAgg99
  z70 := Tryz.sizeOf99
  v70 := Tryz.zeroValue99
  t72 := Tryz.underlying102
  a72 := Tryz.isAgg102
  z72 := Tryz.sizeOf102
  v72 := Tryz.zeroValue102 }
open Go.RowKit in
/-- (*strings.Builder).Len: the bytes held; the world is as it was. -/
theorem Tryz.Builder_Len (B b : Nat) (bs : List Value) (w : World) (h : Lib.IsBuilder 102 5 B b bs w) :
    Calls Tryz.prog 52 #[.pointer (some ⟨b, 0, none⟩)] w fun e w' => e = .returned (.int .i64 bs.length) ∧ w' = w := Any.Builder_Len Tryz.lays170 B b bs w h
def Tryz.lays169_ren : Go.Shelf.Ren := ⟨fun | 169 => 54 | n => n, fun | 70 => 99 | 9 => 9 | 0 => 0 | 72 => 102 | 37 => 100 | 127 => 147 | 3 => 3 | 5 => 5 | n => n, fun | n => n⟩
theorem Tryz.lays169 : Go.Proofs.Lays.n169 Tryz.prog Tryz.lays169_ren := {
  mixed := by kernel_rfl
  f169 := Tryz.func54.trans (congrArg some (by kernel_rfl))
  t0 := Tryz.underlying0
  a0 := Tryz.isAgg0
  z0 := Tryz.sizeOf0
  v0 := Tryz.zeroValue0
  t3 := Tryz.underlying3
  a3 := Tryz.isAgg3
  z3 := Tryz.sizeOf3
  v3 := Tryz.zeroValue3
  t9 := Tryz.underlying9
  a9 := Tryz.isAgg9
  z9 := Tryz.sizeOf9
  v9 := Tryz.zeroValue9
  t37 := Tryz.underlying100
  a37 := Tryz.isAgg100
  z37 := Tryz.sizeOf100
  v37 := Tryz.zeroValue100
  t70 := Tryz.underlying99
  a70 := Tryz.isAgg99
  z70 := Tryz.sizeOf99
  v70 := Tryz.zeroValue99
  t72 := Tryz.underlying102
  a72 := Tryz.isAgg102
  z72 := Tryz.sizeOf102
  v72 := Tryz.zeroValue102
  t127 := Tryz.underlying147
  a127 := Tryz.isAgg147
  z127 := Tryz.sizeOf147
  v127 := Tryz.zeroValue147 }
theorem Tryz.Builder_Extra_169 : Builder.Extra Tryz.prog Tryz.lays169_ren := {
  sizeBuilder := by kernel_rfl
  liesBuilder := by kernel_rfl
  t5 := Tryz.underlying5
  a5 := Tryz.isAgg5
  z5 := Tryz.sizeOf5
  v5 := Tryz.zeroValue5
  infoByte := by kernel_rfl
  cellsByte := by kernel_rfl
  sizeByte := by kernel_rfl
  neB5 := by decide }
open Go.RowKit in
/-- (*strings.Builder).String: the bytes held. -/
theorem Tryz.Builder_String_any (B b : Nat) (l : List UInt8) (w : World) (h : Lib.IsBuilder 102 5 B b (Lib.byteCells l) w) (hBw : B ≤ w.heap.size) :
    Calls Tryz.prog 54 #[.pointer (some ⟨b, 0, none⟩)] w fun e w' => e = .returned (.string ⟨l.toArray⟩) ∧ Below B w w' := Any.Builder_String_any Tryz.lays169 Tryz.Builder_Extra_169 B b l w h hBw
def Tryz.lays165_ren : Go.Shelf.Ren := ⟨fun | 165 => 172 | 240 => 86 | 241 => 192 | 276 => 144 | 277 => 207 | n => n, fun | 70 => 99 | 3 => 3 | 0 => 0 | 4 => 4 | 9 => 9 | 20 => 20 | 72 => 102 | 37 => 100 | 164 => 190 | 5 => 5 | n => n, fun | n => n⟩
theorem Tryz.lays165 : Go.Proofs.Lays.n165 Tryz.prog Tryz.lays165_ren := {
  mixed := by kernel_rfl
  f165 := Tryz.func172.trans (congrArg some (by kernel_rfl))
  f240 := Tryz.func86.trans (congrArg some (by kernel_rfl))
  f241 := Tryz.func192.trans (congrArg some (by kernel_rfl))
  f276 := Tryz.func144.trans (congrArg some (by kernel_rfl))
  f277 := Tryz.func207.trans (congrArg some (by kernel_rfl))
  t0 := Tryz.underlying0
  a0 := Tryz.isAgg0
  z0 := Tryz.sizeOf0
  v0 := Tryz.zeroValue0
  t3 := Tryz.underlying3
  a3 := Tryz.isAgg3
  z3 := Tryz.sizeOf3
  v3 := Tryz.zeroValue3
  t4 := Tryz.underlying4
  a4 := Tryz.isAgg4
  z4 := Tryz.sizeOf4
  v4 := Tryz.zeroValue4
  t9 := Tryz.underlying9
  a9 := Tryz.isAgg9
  z9 := Tryz.sizeOf9
  v9 := Tryz.zeroValue9
  t20 := Tryz.underlying20
  a20 := Tryz.isAgg20
  z20 := Tryz.sizeOf20
  v20 := Tryz.zeroValue20
  t37 := Tryz.underlying100
  a37 := Tryz.isAgg100
  z37 := Tryz.sizeOf100
  v37 := Tryz.zeroValue100
  t70 := Tryz.underlying99
  a70 := Tryz.isAgg99
  z70 := Tryz.sizeOf99
  v70 := Tryz.zeroValue99
  t72 := Tryz.underlying102
  a72 := Tryz.isAgg102
  z72 := Tryz.sizeOf102
  v72 := Tryz.zeroValue102
  t164 := Tryz.underlying190
  a164 := Tryz.isAgg190
  z164 := Tryz.sizeOf190
  v164 := Tryz.zeroValue190 }
theorem Tryz.Builder_Extra_165 : Builder.Extra Tryz.prog Tryz.lays165_ren := {
  sizeBuilder := by kernel_rfl
  liesBuilder := by kernel_rfl
  t5 := Tryz.underlying5
  a5 := Tryz.isAgg5
  z5 := Tryz.sizeOf5
  v5 := Tryz.zeroValue5
  infoByte := by kernel_rfl
  cellsByte := by kernel_rfl
  sizeByte := by kernel_rfl
  neB5 := by decide }
open Go.RowKit in
/-- (*strings.Builder).Grow of a builder that has not been written. -/
theorem Tryz.Builder_Grow_fresh (B b n : Nat) (w : World) (hB : B ≤ b) (hbk : w.heap[b]? = some (.cells #[.pointer none, .slice none 0 0] 102 (0, 0))) (hBw : B ≤ w.heap.size) (hn : n ≤ 281474976710656) :
    Calls Tryz.prog 172 #[.pointer (some ⟨b, 0, none⟩), .int .i64 n] w fun e w' => e = .returned (.tuple #[]) ∧ (Lib.BuilderAt 102 5 B b (.pointer (some ⟨b, 0, none⟩)) [] w' ∧ Below B w w') := Any.Builder_Grow_fresh Tryz.lays165 Tryz.Builder_Extra_165 B b n w hB hbk hBw hn
end Go.Proofs
/-
  The library's contracts of (*strings.Builder).WriteByte and WriteString laid at this seat by hand: the shelf's command lays them not where no body names the type of the panic's value.
-/
namespace Go.Proofs
open Go.Shelf
def Tryz.lays167_ren : Go.Shelf.Ren := ⟨fun | 167 => 173 | 240 => 86 | 276 => 144 | n => n, fun | 0 => 0 | 3 => 3 | 4 => 4 | 5 => 5 | 9 => 9 | 20 => 20 | 37 => 100 | 70 => 99 | 72 => 102 | 75 => 108 | 80 => 111 | 164 => 190 | n => n, fun | n => n⟩
theorem Tryz.lays167 : Go.Proofs.Lays.n167 Tryz.prog Tryz.lays167_ren := {
  mixed := by kernel_rfl
  f167 := Tryz.func173.trans (congrArg some (by kernel_rfl))
  f240 := Tryz.func86.trans (congrArg some (by kernel_rfl))
  f276 := Tryz.func144.trans (congrArg some (by kernel_rfl))
  t0 := Tryz.underlying0
  a0 := Tryz.isAgg0
  z0 := Tryz.sizeOf0
  v0 := Tryz.zeroValue0
  t4 := Tryz.underlying4
  a4 := Tryz.isAgg4
  z4 := Tryz.sizeOf4
  v4 := Tryz.zeroValue4
  t5 := Tryz.underlying5
  a5 := Tryz.isAgg5
  z5 := Tryz.sizeOf5
  v5 := Tryz.zeroValue5
  t9 := Tryz.underlying9
  a9 := Tryz.isAgg9
  z9 := Tryz.sizeOf9
  v9 := Tryz.zeroValue9
  t20 := Tryz.underlying20
  a20 := Tryz.isAgg20
  z20 := Tryz.sizeOf20
  v20 := Tryz.zeroValue20
  t37 := Tryz.underlying100
  a37 := Tryz.isAgg100
  z37 := Tryz.sizeOf100
  v37 := Tryz.zeroValue100
  t70 := Tryz.underlying99
  a70 := Tryz.isAgg99
  z70 := Tryz.sizeOf99
  v70 := Tryz.zeroValue99
  t72 := Tryz.underlying102
  a72 := Tryz.isAgg102
  z72 := Tryz.sizeOf102
  v72 := Tryz.zeroValue102
  t75 := Tryz.underlying108
  a75 := Tryz.isAgg108
  z75 := Tryz.sizeOf108
  v75 := Tryz.zeroValue108
  t164 := Tryz.underlying190
  a164 := Tryz.isAgg190
  z164 := Tryz.sizeOf190
  v164 := Tryz.zeroValue190 }
theorem Tryz.Builder_Extra_167 : Builder.Extra Tryz.prog Tryz.lays167_ren := {
  sizeBuilder := by kernel_rfl
  liesBuilder := by kernel_rfl
  t5 := Tryz.underlying5
  a5 := Tryz.isAgg5
  z5 := Tryz.sizeOf5
  v5 := Tryz.zeroValue5
  infoByte := by kernel_rfl
  cellsByte := by kernel_rfl
  sizeByte := by kernel_rfl
  neB5 := by decide }
def Tryz.lays166_ren : Go.Shelf.Ren := ⟨fun | 166 => 53 | 240 => 86 | 276 => 144 | n => n, fun | 0 => 0 | 3 => 3 | 4 => 4 | 5 => 5 | 9 => 9 | 20 => 20 | 37 => 100 | 70 => 99 | 72 => 102 | 75 => 108 | 80 => 111 | 164 => 190 | n => n, fun | n => n⟩
theorem Tryz.lays166 : Go.Proofs.Lays.n166 Tryz.prog Tryz.lays166_ren := {
  mixed := by kernel_rfl
  f166 := Tryz.func53.trans (congrArg some (by kernel_rfl))
  f240 := Tryz.func86.trans (congrArg some (by kernel_rfl))
  f276 := Tryz.func144.trans (congrArg some (by kernel_rfl))
  t0 := Tryz.underlying0
  a0 := Tryz.isAgg0
  z0 := Tryz.sizeOf0
  v0 := Tryz.zeroValue0
  t3 := Tryz.underlying3
  a3 := Tryz.isAgg3
  z3 := Tryz.sizeOf3
  v3 := Tryz.zeroValue3
  t4 := Tryz.underlying4
  a4 := Tryz.isAgg4
  z4 := Tryz.sizeOf4
  v4 := Tryz.zeroValue4
  t9 := Tryz.underlying9
  a9 := Tryz.isAgg9
  z9 := Tryz.sizeOf9
  v9 := Tryz.zeroValue9
  t20 := Tryz.underlying20
  a20 := Tryz.isAgg20
  z20 := Tryz.sizeOf20
  v20 := Tryz.zeroValue20
  t37 := Tryz.underlying100
  a37 := Tryz.isAgg100
  z37 := Tryz.sizeOf100
  v37 := Tryz.zeroValue100
  t70 := Tryz.underlying99
  a70 := Tryz.isAgg99
  z70 := Tryz.sizeOf99
  v70 := Tryz.zeroValue99
  t72 := Tryz.underlying102
  a72 := Tryz.isAgg102
  z72 := Tryz.sizeOf102
  v72 := Tryz.zeroValue102
  t75 := Tryz.underlying108
  a75 := Tryz.isAgg108
  z75 := Tryz.sizeOf108
  v75 := Tryz.zeroValue108
  t164 := Tryz.underlying190
  a164 := Tryz.isAgg190
  z164 := Tryz.sizeOf190
  v164 := Tryz.zeroValue190 }
theorem Tryz.Builder_Extra_166 : Builder.Extra Tryz.prog Tryz.lays166_ren := {
  sizeBuilder := by kernel_rfl
  liesBuilder := by kernel_rfl
  t5 := Tryz.underlying5
  a5 := Tryz.isAgg5
  z5 := Tryz.sizeOf5
  v5 := Tryz.zeroValue5
  infoByte := by kernel_rfl
  cellsByte := by kernel_rfl
  sizeByte := by kernel_rfl
  neB5 := by decide }
open Go.RowKit in
/-- (*strings.Builder).WriteByte. -/
theorem Tryz.Builder_WriteByte (B b : Nat) (bs : List Value) (c : Int) (w : World) (h : Lib.IsBuilder 102 5 B b bs w) (hlen : bs.length + 1 ≤ 140737488355328) (hBw : B ≤ w.heap.size) :
    Calls Tryz.prog 173 #[.pointer (some ⟨b, 0, none⟩), .int .u8 c] w fun e w' => e = .returned .nilIface ∧ (Lib.BuilderAt 102 5 B b (.pointer (some ⟨b, 0, none⟩)) (bs ++ [.int .u8 c]) w' ∧ Below B w w') := Any.Builder_WriteByte Tryz.lays167 Tryz.Builder_Extra_167 B b bs c w h hlen hBw
open Go.RowKit in
/-- (*strings.Builder).WriteString. -/
theorem Tryz.Builder_WriteString (B b : Nat) (bs : List Value) (s : ByteArray) (w : World) (h : Lib.IsBuilder 102 5 B b bs w) (hlen : bs.length + s.size ≤ 140737488355328) (hBw : B ≤ w.heap.size) :
    Calls Tryz.prog 53 #[.pointer (some ⟨b, 0, none⟩), .string s] w fun e w' => e = .returned (.tuple #[.int .i64 s.size, .nilIface]) ∧ (Lib.BuilderAt 102 5 B b (.pointer (some ⟨b, 0, none⟩)) (bs ++ Lib.strCells s) w' ∧ Below B w w') := Any.Builder_WriteString Tryz.lays166 Tryz.Builder_Extra_166 B b bs s w h hlen hBw
end Go.Proofs
/-
  The builder in the words of lists of bytes; a string laid anew: walks.
-/
namespace Go.Proofs.YthnkllhfmjbbmaaGreatDoor.S
open Go.RowKit

theorem ret_bool {a b : Bool} (h : a = b) : Ending.returned (.bool a) = .returned (.bool b) := by rw [h]
theorem ret_int {k : IntKind} {a b : Int} (h : a = b) : Ending.returned (.int k a) = .returned (.int k b) := by rw [h]
theorem ret_str {a b : ByteArray} (h : a = b) : Ending.returned (.string a) = .returned (.string b) := by rw [h]

theorem size_len (t : ByteArray) : t.size = t.data.toList.length := by simp
theorem toList_data (s : ByteArray) : s.toList = s.data.toList := Go.ByteArray.toList_eq s
theorem mk_list (l : List UInt8) : (⟨l.toArray⟩ : ByteArray).data.toList = l := rfl
theorem mk_size (l : List UInt8) : (⟨l.toArray⟩ : ByteArray).size = l.length := by simp [ByteArray.size]
theorem str_ext {a b : ByteArray} (h : a.data.toList = b.data.toList) : a = b := by
  cases a with | mk a => cases b with | mk b => exact congrArg ByteArray.mk (Array.toList_inj.1 h)
theorem mk_of (s : ByteArray) : (⟨s.data.toList.toArray⟩ : ByteArray) = s := str_ext rfl
theorem getElem_list (s : ByteArray) (k : Nat) (h : k < s.size) : s.data.toList[k]? = some s[k] := by
  rw [List.getElem?_eq_getElem (by rw [← size_len]; exact h)]
  simp [ByteArray.getElem_eq_getElem_data]

/-- a fresh builder in block b -/
def FB (B b : Nat) (w0 w : World) : Prop := B ≤ b ∧ w.heap[b]? = some (.cells #[.pointer none, .slice none 0 0] 102 (0, 0)) ∧ Below B w0 w ∧ B ≤ w.heap.size
/-- a builder in block b that holds the bytes l -/
def BB (B b : Nat) (l : List UInt8) (w0 w : World) : Prop := Lib.IsBuilder 102 5 B b (Lib.byteCells l) w ∧ Below B w0 w ∧ B ≤ w.heap.size

theorem fb_alloc (w : World) : FB w.heap.size w.heap.size w (w.alloc (.cells #[.pointer none, .slice none 0 0] 102)) :=
  ⟨Nat.le_refl _, heap_alloc_new w _, (Below.refl _ w).alloc (Nat.le_refl _) _, (((Below.refl _ w).alloc (Nat.le_refl _) (.cells #[.pointer none, .slice none 0 0] 102))).size⟩
theorem FB.drew {B b : Nat} {w0 w : World} (h : FB B b w0 w) : FB B b w0 w.drew := ⟨h.1, h.2.1, h.2.2.1.drew, h.2.2.2⟩
theorem BB.drew {B b : Nat} {l : List UInt8} {w0 w : World} (h : BB B b l w0 w) : BB B b l w0 w.drew := ⟨h.1.imp Lib.BuilderAt.drew Lib.BuilderAt.drew, h.2.1.drew, h.2.2⟩
theorem bb_alloc (w : World) : BB w.heap.size w.heap.size [] w (w.alloc (.cells #[.pointer none, .slice none 0 0] 102)) :=
  ⟨Lib.fresh_isBuilder _ _ w, (Below.refl _ w).alloc (Nat.le_refl _) _, ((Below.refl _ w).alloc (Nat.le_refl _) (.cells #[.pointer none, .slice none 0 0] 102)).size⟩

theorem wb_grow {B b : Nat} (n : Int) {w0 w : World} (h : FB B b w0 w) (h0 : 0 ≤ n) (hn : n ≤ 281474976710656) :
    Calls Tryz.prog 172 #[.pointer (some ⟨b, 0, none⟩), .int .i64 n] w fun e w' => e = .returned (.tuple #[]) ∧ BB B b [] w0 w' := by
  obtain ⟨k, rfl⟩ := Int.eq_ofNat_of_zero_le h0
  refine (Tryz.Builder_Grow_fresh B b k w h.1 h.2.1 h.2.2.2 (by omega)).mono fun e w' ⟨he, hb, hw⟩ => ⟨he, Or.inr hb, h.2.2.1.trans hw, Nat.le_trans h.2.2.2 hw.size⟩
theorem wb_byte {B b : Nat} {l : List UInt8} (c : UInt8) {w0 w : World} (h : BB B b l w0 w) (hl : l.length + 1 ≤ 140737488355328) :
    Calls Tryz.prog 173 #[.pointer (some ⟨b, 0, none⟩), .int .u8 (c.toNat : Int)] w fun e w' => e = .returned .nilIface ∧ BB B b (l ++ [c]) w0 w' := by
  refine (Tryz.Builder_WriteByte B b _ c.toNat w h.1 (by rw [Lib.byteCells_length]; exact hl) h.2.2).mono fun e w' ⟨he, hb, hw⟩ => ⟨he, Or.inr (by rw [Lib.byteCells_append]; exact hb), h.2.1.trans hw, Nat.le_trans h.2.2 hw.size⟩
theorem wb_str {B b : Nat} {l : List UInt8} (s : ByteArray) {w0 w : World} (h : BB B b l w0 w) (hl : l.length + s.size ≤ 140737488355328) :
    Calls Tryz.prog 53 #[.pointer (some ⟨b, 0, none⟩), .string s] w fun e w' => e = .returned (.tuple #[.int .i64 s.size, .nilIface]) ∧ BB B b (l ++ s.data.toList) w0 w' := by
  refine (Tryz.Builder_WriteString B b _ s w h.1 (by rw [Lib.byteCells_length]; exact hl) h.2.2).mono fun e w' ⟨he, hb, hw⟩ => ⟨he, Or.inr (by rw [Lib.byteCells_append, ← Lib.strCells_eq]; exact hb), h.2.1.trans hw, Nat.le_trans h.2.2 hw.size⟩
theorem wb_string {B b : Nat} {l : List UInt8} {w0 w : World} (h : BB B b l w0 w) :
    Calls Tryz.prog 54 #[.pointer (some ⟨b, 0, none⟩)] w fun e w' => e = .returned (.string ⟨l.toArray⟩) ∧ Below B w0 w' :=
  (Tryz.Builder_String_any B b l w h.1 h.2.2).mono fun _ _ ⟨he, hw⟩ => ⟨he, h.2.1.trans hw⟩
theorem wb_len {B b : Nat} {l : List UInt8} {w0 w : World} (h : BB B b l w0 w) :
    Calls Tryz.prog 52 #[.pointer (some ⟨b, 0, none⟩)] w fun e w' => e = .returned (.int .i64 (l.length : Int)) ∧ w = w' :=
  (Tryz.Builder_Len B b _ w h.1).mono fun _ _ ⟨he, hw⟩ => ⟨by rw [he, Lib.byteCells_length], hw.symm⟩

/-- the answer is a string -/
def StrTo (t : ByteArray) (w : World) (e : Ending) (w' : World) : Prop := e = .returned (.string t) ∧ Below w.heap.size w w'
/-- the answer is a string and a number -/
def StrIntTo (t : ByteArray) (k : Int) (w : World) (e : Ending) (w' : World) : Prop := e = .returned (.tuple #[.string t, .int .i64 k]) ∧ Below w.heap.size w w'

theorem int_wf {n : Int} (h : (Lit.int .i64 n).wf = true) : -9223372036854775808 ≤ n ∧ n ≤ 9223372036854775807 := by
  have h2 : (decide (IntKind.i64.min ≤ n) && decide (n ≤ IntKind.i64.max)) = true := h
  rw [show IntKind.i64.min = -9223372036854775808 by decide, show IntKind.i64.max = 9223372036854775807 by decide] at h2
  simpa using h2
end Go.Proofs.YthnkllhfmjbbmaaGreatDoor.S
/-
  StrMade: Join and Repeat, the program's and the document's own: walks.
-/
namespace Go.Proofs.YthnkllhfmjbbmaaGreatDoor.S
open Go.RowKit

theorem append_list (a b : ByteArray) : (a ++ b).data.toList = a.data.toList ++ b.data.toList := by simp
theorem append_size (a b : ByteArray) : (a ++ b).size = a.size + b.size := by simp

def joinE (a b : ByteArray) : Int := if a.size + b.size > 4096 then 20 else 0
def joinT (a b : ByteArray) : ByteArray := if a.size + b.size > 4096 then ⟨#[]⟩ else ⟨(a.data.toList ++ b.data.toList).toArray⟩

/-- a list of bytes so many times -/
def reps (l : List UInt8) : Nat → List UInt8
  | 0 => []
  | k + 1 => reps l k ++ l
theorem reps_len (l : List UInt8) (k : Nat) : (reps l k).length = k * l.length := by
  induction k with
  | zero => simp [reps]
  | succ k ih => rw [reps, List.length_append, ih, Nat.succ_mul]

def repE (s : ByteArray) (n : Int) : Int := if n < 0 then 2 else if s.size = 0 then 0 else if n.toNat * s.size > 4096 then 20 else 0
def repT (s : ByteArray) (n : Int) : ByteArray := if n < 0 then ⟨#[]⟩ else if s.size = 0 then ⟨#[]⟩ else if n.toNat * s.size > 4096 then ⟨#[]⟩ else ⟨(reps s.data.toList n.toNat).toArray⟩

theorem over_div (n m : Nat) (hm : 0 < m) : n * m > 4096 ↔ 4096 / m < n := by
  rw [Nat.div_lt_iff_lt_mul hm]
theorem quo_nat (m : Nat) : (4096 : Int) / (m : Int) = ((4096 / m : Nat) : Int) := by rw [Int.natCast_ediv]; rfl
theorem mul_nat (k m : Nat) (h : k * m ≤ 4096) : wrap64 ((k : Int) * (m : Int)) = ((k * m : Nat) : Int) := by
  rw [← Int.natCast_mul]; generalize k * m = p at *; unfold wrap64; omega

theorem below_size {B : Nat} {w w' : World} (h : Below B w w') : w.heap.size ≤ w'.heap.size := h.size
theorem below_up {w w1 w2 : World} (h1 : Below w.heap.size w w1) (h2 : Below w1.heap.size w1 w2) : Below w.heap.size w w2 := h1.trans (h2.mono (below_size h1))

end Go.Proofs.YthnkllhfmjbbmaaGreatDoor.S
