/-
  key.Order: walk.
-/
import Derived.Test.YtlgbnfcnimjheaaDoorKeyRows
import Derived.Deep.RegionWith
namespace Go.Proofs.YtlgbnfcnimjheaaDoor.S
open Go.RowKit Go.Sort Fl

set_option maxHeartbeats 4000000 in
set_option maxRecDepth 1000000 in
theorem Order_k (A : Option Addr) (L : List Ky) (cap : Nat) (w : World) (hin : ∀ k ∈ L, KyIn k) (hl : L.length < 1000000000000) (hL : RK w A L) (htab : TabHere w) : Calls Tryd.prog 5 #[.slice A L.length cap] w (OrdTo L w) := by
  obtain ⟨i0, hi, hz0, hz1, hz2⟩ := info_parts row_info
  go_enter Tryd.func5, Tryd.ntmps5
  go_wp2_with (first
    | (refine wpList_make_full _ rfl _ _ 44 rfl 0 47 i0 _ 3 Tryd.underlying44 hi hz0 hz1 .i64 .i64 _ _ L.length rfl rfl rfl rfl (by rw [hz2]; omega) (by unfold maxLen; omega) (Nat.zero_le _) ?_; intro w2 hK gK; have HP := Lib.hid (lp1_start gK (own_blk hK rfl)); have hBw := gK.size; have hBW : w.heap.size < w2.heap.size := by obtain ⟨cs, _, h2⟩ := own_blk hK rfl; exact lt_blk h2))
  clear hK gK hi hz0 hz1 hz2
  go_loopg [15] L.length (fun kx s15 wr => ∃ i : Nat, s15 = .int .i64 i ∧ i + kx = L.length ∧ Hid (Lp1 L w w2.heap.size i wr))
  case atStart => exact ⟨0, rfl, by omega, HP⟩
  case round =>
    clear HP
    obtain ⟨i, rfl, hik, H⟩ := hrel
    cases gk with
    | zero =>
      obtain rfl : i = L.length := by omega
      have hHs := holds_rows H.out
      have hBb := H.out.box
      have cB := vcells hBb 0
      simp only [List.getElem?_toArray, List.getElem?_cons_zero] at cB
      have hBl := lt_blk hBb
      have hRl : w.heap.size < wr.heap.size := Nat.lt_trans hBW hBl
      have hsrt := sort_rows w.heap.size w2.heap.size L.toArray wr hHs (by rw [show L.toArray.size = L.length by simp]; exact cB) (by omega) hRl hBl (by simp; omega)
      rw [show L.toArray.size = L.length by simp] at hsrt
      have HW := Lib.hid H.out.below
      have HHs := Lib.hid hHs
      have HBb := Lib.hid hBb
      clear H hHs hBb hik
      obtain ⟨j0, hj, jz0, jz1, jz2⟩ := info_parts key_info
      go_wp2_with (fail)
      go_at_call 18
      refine hsrt.mono ?_
      rintro e w3 ⟨rfl, d', nd, os, s1, s2, rfl⟩
      have hB3 := (heap_sorted wr nd w.heap.size d' os w2.heap.size hBl (by omega)).trans HBb.out
      have hH3 := holds_sorted (n := nd) (os := os) hRl HHs.out s1.size
      have hb3 := HW.out.trans (below_sorted wr nd w.heap.size d' os hRl)
      have hR3 : w.heap.size < (grow (putRowK encR 3 (Sort.ahead wr nd) w.heap.size 0 d') os).heap.size := Nat.lt_of_lt_of_le hRl (below_sorted wr nd w.heap.size d' os hRl).size
      generalize grow (putRowK encR 3 (Sort.ahead wr nd) w.heap.size 0 d') os = w3 at *
      have cB := vcells hB3 0
      simp only [List.getElem?_toArray, List.getElem?_cons_zero] at cB
      have cB0 := cB
      have HS1 := Lib.hid (And.intro s1 s2)
      have HH3 := Lib.hid hH3
      have HB3 := Lib.hid hb3
      clear s1 s2 hH3 hb3
      go_wp2_with (refine wpList_make_full _ rfl _ _ 22 rfl 0 24 j0 _ 2 Tryd.underlying22 hj jz0 jz1 .i64 .i64 _ _ L.length rfl rfl rfl rfl (by rw [jz2]; omega) (by unfold maxLen; omega) (Nat.zero_le _) ?_; intro w4 hK gK; have HK := Lib.hid (own_blk hK rfl); have HG := Lib.hid (grown_below gK); have cB := (vcell (grown_below gK)).1 w2.heap.size 0 (lt_blk hB3); rw [cB0] at cB; clear hK gK)
      have hdz : d'.size = L.length := by have := HS1.out.1.size; simpa using this
      have hRO : w.heap.size < w3.heap.size := hR3
      have P0 : Hid (Lp2 d' w w.heap.size w3.heap.size 0 w4) := by
        obtain ⟨cs, h1, h2⟩ := HK.out
        exact Lib.hid ⟨vb HB3.out HG.out, holdsK_same HH3.out (HG.out.block _ hRO), cs, by rw [h1, hdz], h2, fun j _ h => absurd h (Nat.not_lt_zero _)⟩
      clear cB cB0 hj jz0 jz1 jz2 hB3
      go_loopg [38] L.length (fun kx s38 wr2 => ∃ i : Nat, s38 = .int .i64 i ∧ i + kx = L.length ∧ Hid (Lp2 d' w w.heap.size w3.heap.size i wr2))
      case atStart => exact ⟨0, rfl, by omega, P0⟩
      case round =>
        clear P0 HH3 HB3 HK HG HHs HBb HW
        obtain ⟨i, rfl, hik, H⟩ := hrel
        cases gk with
        | zero =>
          obtain rfl : i = L.length := by omega
          go_wp2
          go_ret
          have O1 := ord_of HS1.out.1 HS1.out.2
          have E1 := lp2_end (by rw [hdz]; exact H.out)
          exact ⟨d'.toList, w3.heap.size, rfl, O1, Nat.le_of_lt hRO, E1, H.out.below⟩
        | succ kx =>
          have hlt : i < L.length := by omega
          have hlz : (i : Int) < (L.length : Int) := by omega
          have hid : i < d'.size := by omega
          have q0 := (H.out.rows.cell (i := i) (c := 0) hid (by omega)).1
          have q1 := (H.out.rows.cell (i := i) (c := 1) hid (by omega)).1
          have q2 := (H.out.rows.cell (i := i) (c := 2) hid (by omega)).1
          rw [show 0 + i * 3 + 0 = i * 3 by omega, show (encR d'[i]!)[0]! = .int .i64 (rkKy d'[i]! : Nat) from rfl] at q0
          rw [show 0 + i * 3 + 1 = i * 3 + 1 by omega, show (encR d'[i]!)[1]! = .string d'[i]!.str from rfl] at q1
          rw [show 0 + i * 3 + 2 = i * 3 + 2 by omega, show (encR d'[i]!)[2]! = .int .i64 d'[i]!.sym from rfl] at q2
          obtain ⟨cs, hcz, hob, _⟩ := H.out.out
          have hRl := holdsK_lt H.out.rows (by omega)
          have hOl := lt_blk hob
          obtain ⟨x0, hx0⟩ : ∃ x, cs[i * 2]? = some x := ⟨_, Array.getElem?_eq_getElem (by omega)⟩
          obtain ⟨x1, hx1⟩ : ∃ x, cs[i * 2 + 1]? = some x := ⟨_, Array.getElem?_eq_getElem (by omega)⟩
          have o0 := (vcells hob (i * 2)).trans hx0
          have o1 := (vcells hob (i * 2 + 1)).trans hx1
          have oz := vfz hob
          have PP := fun o => Lib.hid (lp2_put H.out hid (Nat.le_of_lt hRO) (Nat.ne_of_lt hRO) o)
          clear hob hx0 hx1 H
          generalize rkKy d'[i]! = r at *
          generalize d'[i]!.str = s at *
          generalize d'[i]!.sym = y at *
          go_wp2
          go_roundg kx
          case measure => omega
          case rel => exact ⟨i + 1, by simp, by omega, PP _⟩
    | succ kx =>
      have hlt : i < L.length := by omega
      have hlz : (i : Int) < (L.length : Int) := by omega
      obtain ⟨a, rfl, ha, hcs⟩ := rk_up hL H.out.below (by omega)
      obtain ⟨c0, c1⟩ := hcs i hlt
      obtain ⟨hk1, hk2, hk3⟩ := hin L[i] (List.getElem_mem hlt)
      have hab : ∀ k, (a.add k).block < wr.heap.size := fun k => by
        have : (a.add k).block = a.block := by unfold Addr.add; split <;> rfl
        rw [this]; exact ha
      have cB := vcells H.out.box 0
      have hBr := lt_blk H.out.box
      clear hcs
      generalize hs : L[i].str = s at *
      generalize hy : L[i].sym = y at *
      go_wp2
      have HT1 := Lib.hid (tab_up htab (vb H.out.below (vzero wr (.cells #[.string s, .int .i64 y] 24))))
      have hbk := heap_alloc_new wr (.cells #[.string s, .int .i64 y] 24)
      have H1 : Hid (Lp1 L w w2.heap.size i (wr.alloc (.cells #[.string s, .int .i64 y] 24))) := Lib.hid (H.out.alloc _)
      have hz1 : wr.heap.size < (wr.alloc (.cells #[.string s, .int .i64 y] 24)).heap.size := by simp
      generalize wr.alloc (.cells #[.string s, .int .i64 y] 24) = W1 at *
      obtain ⟨k0, k1, kf⟩ := kc2 hbk
      have cB := vcells H1.out.box 0
      simp only [List.getElem?_toArray, List.getElem?_cons_zero] at cB
      obtain ⟨cs, hcz, hrb, hrj⟩ := H1.out.rows
      have HRJ := Lib.hid hrj
      have HB1 := Lib.hid H1.out.box
      have HW1 := Lib.hid H1.out.below
      obtain ⟨x0, hx0⟩ : ∃ x, cs[i * 3]? = some x := ⟨_, Array.getElem?_eq_getElem (by omega)⟩
      obtain ⟨x1, hx1⟩ : ∃ x, cs[i * 3 + 1]? = some x := ⟨_, Array.getElem?_eq_getElem (by omega)⟩
      obtain ⟨x2, hx2⟩ : ∃ x, cs[i * 3 + 2]? = some x := ⟨_, Array.getElem?_eq_getElem (by omega)⟩
      have rk := rank_k s y W1.drew hk1 ⟨hk2, hk3⟩ (tab_up (w := W1) HT1.out (Below.refl _ _).drew)
      have HCZ := Lib.hid hcz
      have HRB := Lib.hid hrb
      have HX := Lib.hid (And.intro hx0 (And.intro hx1 hx2))
      have HBK := Lib.hid hbk
      clear hrj hcz hrb hx0 hx1 hx2 H1 H hbk
      generalize hrk : rkK s y = r at *
      go_region_with (go_at_call 16; refine rk.mono ?_; rintro e w3 ⟨rfl, h3⟩; have hr3 := vblkn (w1 := W1.drew) h3 HRB.out; have hb3 := vblkn (w1 := W1.drew) h3 HB1.out; have hk3 := vblkn (w1 := W1.drew) h3 HBK.out; obtain ⟨k0, k1, kf⟩ := kc2 hk3; have cB := vcells hb3 0; have r0 := (vcells hr3 (i * 3)).trans HX.out.1; have r1 := (vcells hr3 (i * 3 + 1)).trans HX.out.2.1; have r2 := (vcells hr3 (i * 3 + 2)).trans HX.out.2.2; have rz := vfz hr3; have HR3 := Lib.hid hr3; have HB3 := Lib.hid hb3; have H3 := Lib.hid h3; clear hr3 hb3 hk3 h3)
      all_goals
        have P := Lib.hid (lp1_put hlt HW1.out hBW HCZ.out HRJ.out HR3.out HB3.out H3.out hs hy hrk)
        clear r0 r1 r2 rz cB k0 k1 kf
        generalize ((w3.setCell ⟨w.heap.size, i * 3, none⟩ (.int .i64 (r : Nat))).setCell ⟨w.heap.size, i * 3 + 1, none⟩ (.string s)).setCell ⟨w.heap.size, i * 3 + 2, none⟩ (.int .i64 y) = w4 at *
        go_wp2
        go_roundg kx
        case measure => omega
        case rel => exact ⟨i + 1, by simp, by omega, P⟩
end Go.Proofs.YtlgbnfcnimjheaaDoor.S
