/-
  The law TableFinds where it asks. Generated: gen_tabfinds3.py.
-/
import Derived.Test.YtmdmfjlmmojbgaaGreatDoorTF41
import Derived.Test.YtmdmfjlmmojbgaaGreatDoorTF07
import Derived.Deep.Slices
import Derived.Deep.Fields
import Derived.ChangeSame
import Derived.Carry
import Derived.OpenShut
import Derived.Laws.Cover2
import Derived.Test.YtmdmfjlmmojbgaaGreatDoorTF28
namespace Go.Proofs.YtmdmfjlmmojbgaaGreatDoor.S
open Go.RowKit Go.Lib Fl
open Classical

set_option maxHeartbeats 8000000 in
set_option maxRecDepth 1000000 in
theorem TF_yes (A : Option Addr) (L : List Pq) (cap : Nat) (k o : Ky) (d : Dq) (w : World) (hT : TabIn w A L cap) (hk : mayKy k) (ho : mayKy o) (hp : (⟨k, d⟩ : Pq).In) (hlong : longB L.length = false) (htab : TabHere w) :
    Calls Tryz.prog 4 #[.slice A L.length cap, .agg #[.string k.str, .int .i64 k.sym], .agg d.cells, .agg #[.string o.str, .int .i64 o.sym]] w fun e w' => e = .returned (.bool true) ∧ Below w.heap.size w w' := by
  have HT := Lib.hid hT
  have HK := Lib.hid (And.intro hk (And.intro ho (And.intro hp htab)))
  have cC := fun W hb => hT.check (W := W) hb
  have cL := fun W => long_t A L.length cap W
  rw [hlong] at cL
  have cK := fun W => key_fine hk W
  have cO := fun W => key_fine ho W
  have F1 : ∀ W, Below w.heap.size w W → Calls Tryz.prog 18 #[.slice A L.length cap, .agg #[.string o.str, .int .i64 o.sym]] W fun e w' => e = .returned (.tuple #[.agg (fndD L o).cells, .bool (findT L o).isSome, .int .i64 0]) ∧ Below W.heap.size W w' := fun W hb => Find_t A L cap o W (hT.up hb) ho
  have F2 : ∀ W, Below w.heap.size w W → Calls Tryz.prog 18 #[.slice A L.length cap, .agg #[.string k.str, .int .i64 k.sym]] W fun e w' => e = .returned (.tuple #[.agg (fndD L k).cells, .bool (findT L k).isSome, .int .i64 0]) ∧ Below W.heap.size W w' := fun W hb => Find_t A L cap k W (hT.up hb) hk
  have FP : ∀ W, Below w.heap.size w W → Calls Tryz.prog 19 #[.slice A L.length cap, .agg #[.string k.str, .int .i64 k.sym], .agg d.cells] W fun e w' => ∃ v, e = .returned (.tuple #[v, .int .i64 (putE L ⟨k, d⟩)]) ∧ (putE L ⟨k, d⟩ = 0 → ∃ A2 c2, v = .slice A2 (putT L ⟨k, d⟩).length c2 ∧ TabIn w' A2 (putT L ⟨k, d⟩) c2) ∧ Below W.heap.size W w' := fun W hb =>
    (Put_t A L cap ⟨k, d⟩ W (hT.up hb) hp).mono fun e w' ⟨v, he, hO, hb⟩ => ⟨v, he, fun hz => out_tab (hO hz) (put_to hT.ok (putE_zero hz).1 (putE_zero hz).2).ok (put_in hT.inn hp), hb⟩
  have hPT : putE L ⟨k, d⟩ = 0 → PutTo L ⟨k, d⟩ (putT L ⟨k, d⟩) ∧ Good d := fun hz => ⟨put_to hT.ok (putE_zero hz).1 (putE_zero hz).2, ok_good (putE_zero hz).1 hp⟩
  have HP := Lib.hid hPT
  have H := Lib.hid (lw_start w k o d)
  have hc1 := dc_one (fndD L o)
  have hi1 := dc_size (fndD L o)
  have hc2 := dc_one (fndD L k)
  have hi2 := dc_size (fndD L k)
  clear hT hk ho hp hlong htab hPT
  go_enter Tryz.func4, Tryz.ntmps4
  go_upto_region 8 with (first
    | (go_at_call 15; (with_reducible refine (tabalive_any _).mono ?_); rintro e w1 ⟨rfl, h9⟩; have H := Lib.hid (H.out.up h9); have k1 := H.out.k; have k2 := H.out.d; have k3 := H.out.o; clear h9)
    | (go_at_call 16; (with_reducible refine (cL _).mono ?_); rintro e w2 ⟨rfl, rfl⟩)
    | (go_at_call 12; (with_reducible refine (cC _ H.out.below).mono ?_); rintro e w1 ⟨rfl, h9⟩; have H := Lib.hid (H.out.up h9); have k1 := H.out.k; have k2 := H.out.d; have k3 := H.out.o; clear h9)
    | ((with_reducible refine kk_load ?_ rfl rfl k1 ?_); (rfl))
    | ((with_reducible refine kk_load ?_ rfl rfl k3 ?_); (rfl))
    | ((with_reducible refine dq_load ?_ rfl rfl k2 ?_); (rfl))
    | (go_at_call 17; first
      | ((with_reducible refine (cK _).mono ?_); rintro e w1 ⟨rfl, h9⟩; have H := Lib.hid (H.out.up h9); have k1 := H.out.k; have k2 := H.out.d; have k3 := H.out.o; clear h9)
      | ((with_reducible refine (cO _).mono ?_); rintro e w1 ⟨rfl, h9⟩; have H := Lib.hid (H.out.up h9); have k1 := H.out.k; have k2 := H.out.d; have k3 := H.out.o; clear h9))
    | (go_at_call 18; first
      | ((with_reducible refine (F1 _ H.out.below).mono ?_); rintro e wF ⟨rfl, h9⟩; have H := Lib.hid (H.out.up h9); have k1 := H.out.k; have k2 := H.out.d; have k3 := H.out.o; clear h9)
      | ((with_reducible refine (F2 _ H.out.below).mono ?_); rintro e w1 ⟨rfl, h9⟩; have H := Lib.hid (H.out.up h9); have k1 := H.out.k; have k2 := H.out.d; have k3 := H.out.o; have X1 := Lib.hid (vblkn h9 X1.out); clear h9))
    | ((with_reducible refine t_store (cs := (fndD L o).cells) rfl rfl rfl rfl (heap_alloc_new _ _) hi1 ?_ hc1 (vzero _ _) (Nat.le_refl _) ?_); (rfl); intro W hBW hW _ _; have H := Lib.hid (H.out.up hBW); have k1 := H.out.k; have k2 := H.out.d; have k3 := H.out.o; have X1 := Lib.hid hW; clear hBW; generalize wF.heap.size = gF at *)
    | ((with_reducible refine t_store (cs := (fndD L k).cells) rfl rfl rfl rfl (heap_alloc_new _ _) hi2 ?_ hc2 (vzero _ _) (Nat.le_refl _) ?_); (rfl); intro W hBW hW _ _; have H := Lib.hid (H.out.up hBW); have k1 := H.out.k; have k2 := H.out.d; have k3 := H.out.o; have X1 := Lib.hid (vblkn hBW X1.out); clear hBW))
  go_cut [12, 16] from 36 (fun s12 s16 wx => ∃ v, s12 = .int .i64 (putE L ⟨k, d⟩) ∧ s16 = v ∧ Hid (Lx w k o d (fndD L o) gF wx) ∧ Hid (putE L ⟨k, d⟩ = 0 → ∃ A2 c2, v = .slice A2 (putT L ⟨k, d⟩).length c2 ∧ TabIn wx A2 (putT L ⟨k, d⟩) c2))
  case first =>
    go_wp2_with (first
      | ((with_reducible refine kk_load ?_ rfl rfl k1 ?_); (rfl))
      | ((with_reducible refine dq_load ?_ rfl rfl k2 ?_); (rfl))
      | (go_at_call 19; (with_reducible refine (FP _ H.out.below).mono ?_); rintro e w1 ⟨v, rfl, hv, h9⟩; have H := Lib.hid (H.out.up h9); have X1 := Lib.hid (vblkn h9 X1.out); have HV := Lib.hid hv; clear h9 hv))
    go_meet
    case rel => exact ⟨v, rfl, rfl, Lib.hid ⟨H.out, X1.out⟩, HV⟩
  case rest =>
    obtain ⟨v, rfl, rfl, HX, HV⟩ := hcut
    rename ∀ (a : Act) (w : World), Code.wp Tryz.prog _ _ a w → _ => hK
    exact hK _ _ (TF7 HT.out HK.out.2.2.2 HK.out.1 HK.out.2.1 HX.out HP.out HV.out)
set_option maxHeartbeats 4000000 in
set_option maxRecDepth 1000000 in
theorem TF_long (A : Option Addr) (L : List Pq) (cap : Nat) (k o : Ky) (d : Dq) (w : World) (hlong : longB L.length = true) :
    Calls Tryz.prog 4 #[.slice A L.length cap, .agg #[.string k.str, .int .i64 k.sym], .agg d.cells, .agg #[.string o.str, .int .i64 o.sym]] w fun e w' => e = .returned (.bool true) ∧ Below w.heap.size w w' := by
  have cL := fun W => long_t A L.length cap W
  rw [hlong] at cL
  have H := Lib.hid (lw_start w k o d)
  clear hlong
  go_enter Tryz.func4, Tryz.ntmps4
  go_wp2_with (first
    | (go_at_call 15; (with_reducible refine (tabalive_any _).mono ?_); rintro e w1 ⟨rfl, h9⟩; have H := Lib.hid (H.out.up h9); clear h9)
    | (go_at_call 16; (with_reducible refine (cL _).mono ?_); rintro e w2 ⟨rfl, rfl⟩))
  go_ret
  exact ⟨rfl, H.out.below⟩
theorem TableFinds_walk (A : Option Addr) (L : List Pq) (cap : Nat) (k : Ky) (d : Dq) (o : Ky) (w : World) (hlc : L.length ≤ cap) (hcm : cap ≤ maxLen) (hr : PR w A L) (hin : ∀ p ∈ L, p.In) (hA : A = none → cap = 0) (hk : KyIn k) (hd : d.In) (_ho : KyIn o) (htab : TabHere w) :
    Calls Tryz.prog 4 #[.slice A L.length cap, .agg #[.string k.str, .int .i64 k.sym], d.val, .agg #[.string o.str, .int .i64 o.sym]] w fun e w' => e = .returned (.bool true) ∧ Below w.heap.size w w' := by
  show Calls Tryz.prog 4 #[.slice A L.length cap, .agg #[.string k.str, .int .i64 k.sym], .agg d.cells, .agg #[.string o.str, .int .i64 o.sym]] w fun e w' => e = .returned (.bool true) ∧ Below w.heap.size w w'
  cases hl : longB L.length with
  | true => exact TF_long A L cap k o d w hl
  | false =>
    have hfew : L.length < 1000000000000 := by
      unfold longB at hl
      have := of_decide_eq_false hl
      omega
    by_cases hno : chkT L ≠ 0 ∨ keyE k ≠ 0 ∨ keyE o ≠ 0
    · exact TF_no A L cap k o d w hin hfew hr (.inr hno)
    · have h1 : chkT L = 0 := Classical.byContradiction fun h => hno (.inl h)
      have h2 : keyE k = 0 := Classical.byContradiction fun h => hno (.inr (.inl h))
      have h3 : keyE o = 0 := Classical.byContradiction fun h => hno (.inr (.inr h))
      exact TF_yes A L cap k o d w ⟨chkT_ok.1 h1, hin, hr, hlc, by unfold maxLen at hcm; omega, hA⟩ (keyE_ok.1 h2) (keyE_ok.1 h3) ⟨hk, hd⟩ hl htab
end Go.Proofs.YtmdmfjlmmojbgaaGreatDoor.S
/-
  A value that comes in, opened: a struct of four fields.
-/
namespace Go.Proofs.YtmdmfjlmmojbgaaGreatDoor.S
open Go.ChangeShapes Go.WideShapes Go.Deep Go.RowKit Fl

section
variable {H : Type} {enc : TypeId × Value → H} {w : World} {base : Nat} {spare : Nat → Bool} {held : Bool}
/-- a float, read -/
theorem vread_float {k : FloatKind} {t : TypeId} {fuel : Nat} {cs : List Value} {x : DataW H × List MemPlace} (ht : Tryz.prog.underlying t = some (.float k)) (h : DataW.trod enc Tryz.prog w base spare held fuel t cs = some x) : ∃ b, cs = [.float k b] ∧ (Lit.float k b).wf = true := by
  cases fuel with
  | zero => simp [DataW.trod] at h
  | succ n =>
    unfold DataW.trod at h
    rw [ht] at h
    split at h <;> simp_all
set_option maxRecDepth 100000 in
theorem vopen_cells {n : Nat} {cs : List Value} {y : DataW H × List MemPlace} (hl : cs.length = 4) (ht : DataW.trod enc Tryz.prog w base spare held n 26 cs = some y) :
    ∃ (k x : Nat) (s : ByteArray) (r : Int), cs = [.int .u8 (k : Int), .float .f64 x, .string s, .int .i64 r] ∧ k < 256 ∧ x < 2 ^ 64 ∧ s.size ≤ maxLen ∧ -2 ^ 63 ≤ r ∧ r < 2 ^ 63 := by
  obtain ⟨xs, m, _, _, _, hxl, hf⟩ := DataW.trod_struct Tryz.underlying26 ht
  match cs, hl with
  | [c0, c1, c2, c3], _ =>
    have e5 : Tryz.prog.cellsOf 5 = 1 := by kernel_rfl
    have e3 : Tryz.prog.cellsOf 3 = 1 := by kernel_rfl
    have e9 : Tryz.prog.cellsOf 9 = 1 := by kernel_rfl
    have ef : Tryz.prog.cellsOf 24 = 1 := by kernel_rfl
    match xs, hxl with
    | [y0, y1, y2, y3], _ =>
      have h0 : DataW.trod enc Tryz.prog w base spare held m 5 (([c0, c1, c2, c3].drop 0).take (Tryz.prog.cellsOf 5)) = some y0 := hf 0 _ rfl
      have h1 : DataW.trod enc Tryz.prog w base spare held m 24 (([c0, c1, c2, c3].drop 1).take (Tryz.prog.cellsOf 24)) = some y1 := hf 1 _ rfl
      have h2 : DataW.trod enc Tryz.prog w base spare held m 9 (([c0, c1, c2, c3].drop 2).take (Tryz.prog.cellsOf 9)) = some y2 := hf 2 _ rfl
      have h3 : DataW.trod enc Tryz.prog w base spare held m 3 (([c0, c1, c2, c3].drop 3).take (Tryz.prog.cellsOf 3)) = some y3 := hf 3 _ rfl
      rw [e5] at h0
      rw [ef] at h1
      rw [e9] at h2
      rw [e3] at h3
      obtain ⟨k, k1, _, k2⟩ := DataW.trod_int Tryz.underlying5 h0
      obtain ⟨b, b1, b2⟩ := vread_float Tryz.underlying24 h1
      obtain ⟨s, s1, _, s2⟩ := DataW.trod_string Tryz.underlying9 h2
      obtain ⟨p, p1, _, p2⟩ := DataW.trod_int Tryz.underlying3 h3
      obtain rfl : c0 = .int .u8 k := by simpa using k1
      obtain rfl : c1 = .float .f64 b := by simpa using b1
      obtain rfl : c2 = .string s := by simpa using s1
      obtain rfl : c3 = .int .i64 p := by simpa using p1
      have hk : 0 ≤ k ∧ k ≤ 255 := by
        have h2 : (decide (IntKind.u8.min ≤ k) && decide (k ≤ IntKind.u8.max)) = true := k2
        rw [show IntKind.u8.min = 0 by decide, show IntKind.u8.max = 255 by decide] at h2
        simpa using h2
      have hb : b < 2 ^ 64 := by
        have h2 : decide (b < 2 ^ 64) = true := b2
        simpa using h2
      have hp : -9223372036854775808 ≤ p ∧ p ≤ 9223372036854775807 := by
        have h2 : (decide (IntKind.i64.min ≤ p) && decide (p ≤ IntKind.i64.max)) = true := p2
        rw [show IntKind.i64.min = -9223372036854775808 by decide, show IntKind.i64.max = 9223372036854775807 by decide] at h2
        simpa using h2
      have e : ((k.toNat : Nat) : Int) = k := by omega
      exact ⟨k.toNat, b, s, p, by rw [e], by omega, hb, s2, by omega, by omega⟩
set_option maxRecDepth 100000 in
/-- a value that comes in -/
theorem open_val {v : Value} {d : DataW H} {p : List MemPlace} (hv : Value.okWide Tryz.prog w .any base 26 v) (h : DataW.Trod enc Tryz.prog w 0 (fun _ => true) true 26 v d p) :
    ∃ (k x : Nat) (s : ByteArray) (r : Int), v = .agg #[.int .u8 (k : Int), .float .f64 x, .string s, .int .i64 r] ∧ k < 256 ∧ x < 2 ^ 64 ∧ s.size ≤ maxLen ∧ -2 ^ 63 ≤ r ∧ r < 2 ^ 63 := by
  obtain ⟨cs, rfl, hsz⟩ := okWide_struct Tryz.underlying26 hv
  obtain ⟨fuel, hf⟩ := h
  have hcell : Tryz.prog.cellsOf 26 = 4 := by kernel_rfl
  rw [hcell] at hsz
  have hf : DataW.trod enc Tryz.prog w 0 (fun _ => true) true fuel 26 cs.toList = some (d, p) := hf
  obtain ⟨k, x, s, r, e, h1, h2, h3, h4, h5⟩ := vopen_cells (by simpa using hsz) hf
  exact ⟨k, x, s, r, by rw [← e], h1, h2, h3, h4, h5⟩
end
end Go.Proofs.YtmdmfjlmmojbgaaGreatDoor.S
/-
  A descriptor that comes in, opened: a struct of seven fields, three of them structs.
-/
namespace Go.Proofs.YtmdmfjlmmojbgaaGreatDoor.S
open Go.ChangeShapes Go.WideShapes Go.Deep Go.RowKit Fl

section
variable {H : Type} {enc : TypeId × Value → H} {w : World} {base : Nat} {spare : Nat → Bool} {held : Bool}
theorem dread_bool {t : TypeId} {fuel : Nat} {cs : List Value} {x : DataW H × List MemPlace} (ht : Tryz.prog.underlying t = some .bool) (h : DataW.trod enc Tryz.prog w base spare held fuel t cs = some x) : ∃ b, cs = [.bool b] := by
  cases fuel with
  | zero => simp [DataW.trod] at h
  | succ n =>
    unfold DataW.trod at h
    rw [ht] at h
    split at h <;> simp_all
set_option maxRecDepth 100000 in
theorem open_vq {n : Nat} {cs : List Value} {y : DataW H × List MemPlace} (hl : cs.length = 4) (ht : DataW.trod enc Tryz.prog w base spare held n 26 cs = some y) :
    ∃ v : Vq, cs = [.int .u8 v.k, .float .f64 v.x, .string v.s, .int .i64 v.r] ∧ v.In := by
  obtain ⟨k, x, s, r, e, h1, h2, h3, h4, h5⟩ := vopen_cells hl ht
  exact ⟨⟨(k : Int), x, s, r⟩, e, by dsimp only; omega, by dsimp only; omega, h2, h5⟩
set_option maxRecDepth 100000 in
theorem open_dq {n : Nat} {cs : List Value} {y : DataW H × List MemPlace} (hl : cs.length = 16) (ht : DataW.trod enc Tryz.prog w base spare held n 28 cs = some y) :
    ∃ q : Dq, cs = q.cells.toList ∧ q.In := by
  obtain ⟨xs, m, _, _, _, hxl, hf⟩ := DataW.trod_struct Tryz.underlying28 ht
  match cs, hl with
  | [c0, c1, c2, c3, c4, c5, c6, c7, c8, c9, c10, c11, c12, c13, c14, c15], _ =>
    have e5 : Tryz.prog.cellsOf 5 = 1 := by kernel_rfl
    have eb : Tryz.prog.cellsOf 4 = 1 := by kernel_rfl
    have ev : Tryz.prog.cellsOf 26 = 4 := by kernel_rfl
    match xs, hxl with
    | [y0, y1, y2, y3, y4, y5, y6], _ =>
      have h0 : DataW.trod enc Tryz.prog w base spare held m 5 (([c0, c1, c2, c3, c4, c5, c6, c7, c8, c9, c10, c11, c12, c13, c14, c15].drop 0).take (Tryz.prog.cellsOf 5)) = some y0 := hf 0 _ rfl
      have h1 : DataW.trod enc Tryz.prog w base spare held m 26 (([c0, c1, c2, c3, c4, c5, c6, c7, c8, c9, c10, c11, c12, c13, c14, c15].drop 1).take (Tryz.prog.cellsOf 26)) = some y1 := hf 1 _ rfl
      have h2 : DataW.trod enc Tryz.prog w base spare held m 26 (([c0, c1, c2, c3, c4, c5, c6, c7, c8, c9, c10, c11, c12, c13, c14, c15].drop 5).take (Tryz.prog.cellsOf 26)) = some y2 := hf 2 _ rfl
      have h3 : DataW.trod enc Tryz.prog w base spare held m 26 (([c0, c1, c2, c3, c4, c5, c6, c7, c8, c9, c10, c11, c12, c13, c14, c15].drop 9).take (Tryz.prog.cellsOf 26)) = some y3 := hf 3 _ rfl
      have h4 : DataW.trod enc Tryz.prog w base spare held m 4 (([c0, c1, c2, c3, c4, c5, c6, c7, c8, c9, c10, c11, c12, c13, c14, c15].drop 13).take (Tryz.prog.cellsOf 4)) = some y4 := hf 4 _ rfl
      have h5 : DataW.trod enc Tryz.prog w base spare held m 4 (([c0, c1, c2, c3, c4, c5, c6, c7, c8, c9, c10, c11, c12, c13, c14, c15].drop 14).take (Tryz.prog.cellsOf 4)) = some y5 := hf 5 _ rfl
      have h6 : DataW.trod enc Tryz.prog w base spare held m 4 (([c0, c1, c2, c3, c4, c5, c6, c7, c8, c9, c10, c11, c12, c13, c14, c15].drop 15).take (Tryz.prog.cellsOf 4)) = some y6 := hf 6 _ rfl
      rw [e5] at h0
      rw [ev] at h1 h2 h3
      rw [eb] at h4 h5 h6
      obtain ⟨k, k1, _, k2⟩ := DataW.trod_int Tryz.underlying5 h0
      obtain ⟨a, a1, a2⟩ := open_vq rfl h1
      obtain ⟨b, b1, b2⟩ := open_vq rfl h2
      obtain ⟨c, d1, d2⟩ := open_vq rfl h3
      obtain ⟨p, p1⟩ := dread_bool Tryz.underlying4 h4
      obtain ⟨q, q1⟩ := dread_bool Tryz.underlying4 h5
      obtain ⟨z, z1⟩ := dread_bool Tryz.underlying4 h6
      have hk : 0 ≤ k ∧ k ≤ 255 := by
        have h2 : (decide (IntKind.u8.min ≤ k) && decide (k ≤ IntKind.u8.max)) = true := k2
        rw [show IntKind.u8.min = 0 by decide, show IntKind.u8.max = 255 by decide] at h2
        simpa using h2
      refine ⟨⟨k, a, b, c, p, q, z⟩, ?_, ⟨hk.1, by dsimp only; omega, a2, b2, d2⟩⟩
      simp only [List.drop_succ_cons, List.drop_zero, List.take_succ_cons, List.take_zero, List.cons.injEq, and_true] at k1 a1 b1 d1 p1 q1 z1
      obtain rfl := k1
      obtain ⟨rfl, rfl, rfl, rfl⟩ := a1
      obtain ⟨rfl, rfl, rfl, rfl⟩ := b1
      obtain ⟨rfl, rfl, rfl, rfl⟩ := d1
      obtain rfl := p1
      obtain rfl := q1
      obtain rfl := z1
      rfl
set_option maxRecDepth 100000 in
/-- a descriptor that comes in -/
theorem open_desc {v : Value} {d : DataW H} {p : List MemPlace} (hv : Value.okWide Tryz.prog w .any base 28 v) (h : DataW.Trod enc Tryz.prog w 0 (fun _ => true) true 28 v d p) :
    ∃ q : Dq, v = q.val ∧ q.In := by
  obtain ⟨cs, rfl, hsz⟩ := okWide_struct Tryz.underlying28 hv
  obtain ⟨fuel, hf⟩ := h
  have hcell : Tryz.prog.cellsOf 28 = 16 := by kernel_rfl
  rw [hcell] at hsz
  have hf : DataW.trod enc Tryz.prog w 0 (fun _ => true) true fuel 28 cs.toList = some (d, p) := hf
  obtain ⟨q, e, hq⟩ := open_dq (by simpa using hsz) hf
  exact ⟨q, by unfold Dq.val; congr 1; exact Array.toList_inj.1 e, hq⟩
end
end Go.Proofs.YtmdmfjlmmojbgaaGreatDoor.S
