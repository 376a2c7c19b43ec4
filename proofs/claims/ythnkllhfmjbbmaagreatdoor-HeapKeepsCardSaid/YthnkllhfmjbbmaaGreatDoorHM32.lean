/-
  heap.boxes: a string object's own properties. Generated: gen_heapbox.py.
-/
import Derived.Test.YthnkllhfmjbbmaaGreatDoorHM31
import Derived.Test.YthnkllhfmjbbmaaGreatDoorHM14
import Derived.Test.YthnkllhfmjbbmaaGreatDoorHM28
import Derived.Deep.CutRange
import Derived.Deep.CutBlock
namespace Go.Proofs.YthnkllhfmjbbmaaGreatDoor.S
open Go.RowKit Go.Lib Fl
open Classical

set_option maxHeartbeats 2000000 in
set_option maxRecDepth 100000 in
theorem lenF (p : Pq) (w : World) : Calls Tryz.prog 159 #[.agg (prA p)] w fun e w' => e = .returned (.bool (eqK p.k lenK)) ∧ Below w.heap.size w w' := by
  have hb0 := heap_alloc_new w (.cells (prA p) 93)
  have c0 : (w.alloc (.cells (prA p) 93)).cell? ⟨w.heap.size, 0, none⟩ = some (.string p.k.str) := (vcells hb0 0).trans rfl
  have c1 : (w.alloc (.cells (prA p) 93)).cell? ⟨w.heap.size, 1, none⟩ = some (.int .i64 p.k.sym) := (vcells hb0 1).trans rfl
  have q := key_eq 9998 p.k.str (⟨#[108, 101, 110, 103, 116, 104]⟩ : ByteArray) p.k.sym 0
  rw [show (p.k.str == (⟨#[108, 101, 110, 103, 116, 104]⟩ : ByteArray) && p.k.sym == 0) = eqK p.k lenK from rfl] at q
  have ko := fun W hg hb => of_keep (⟨#[108, 101, 110, 103, 116, 104]⟩ : ByteArray) w.heap.size w W hg hb
  have hz5 := new_lt w (.cells (prA p) 93)
  have hd := (vzero w (.cells (prA p) 93)).drew
  generalize eqK p.k lenK = b at *
  generalize hk0 : p.k.str = s at *
  generalize hk1 : p.k.sym = y at *
  clear hb0
  cases b
  all_goals
    go_enter Tryz.func159, Tryz.ntmps159
    go_wp2
    go_region_held3 (fun w' => w.heap.size < w'.heap.size ∧ Below w.heap.size w w' ∧ w'.cell? ⟨w.heap.size, 0, none⟩ = some (.string s) ∧ w'.cell? ⟨w.heap.size, 1, none⟩ = some (.int .i64 y)) (first | exact ⟨hz5, hd, c0, c1⟩ | go_keep)
      (first
        | (go_at_call 156; refine (ko _ ?_ ?_).mono ?_; (simp [*]); (simp [*]); rintro e w' ⟨rfl, hb1, hb2, hb3⟩))
    go_wp2
    go_ret
    exact ⟨rfl, by assumption⟩
set_option maxHeartbeats 2000000 in
set_option maxRecDepth 100000 in
theorem indexL (A : Option Addr) (L : List Pq) (cap : Nat) (w : World) (hl : L.length < 1000000000000) (hL : PR w A L) : Calls Tryz.prog 183 #[.slice A L.length cap, .func (.func 159) #[] #[]] w fun e w' => ∃ n : Int, e = .returned (.int .i64 n) ∧ (decide (0 ≤ n) = L.any fun p => eqK p.k lenK) ∧ Below w.heap.size w w' := by
  go_enter Tryz.func183, Tryz.ntmps183
  go_wp2
  go_loopg [8] L.length (fun kx s8 wr => ∃ i : Nat, s8 = .int .i64 i ∧ i + kx = L.length ∧ Hid ((L.any fun p => eqK p.k lenK) = ((L.drop i).any fun p => eqK p.k lenK) ∧ Below w.heap.size w wr))
  case atStart => exact ⟨0, rfl, by omega, Lib.hid ⟨by simp, Below.refl _ _⟩⟩
  case round =>
    obtain ⟨i, rfl, hik, H⟩ := hrel
    cases gk with
    | zero =>
      obtain rfl : i = L.length := by omega
      go_wp2
      go_ret
      refine ⟨-1, rfl, ?_, H.out.2⟩
      rw [H.out.1, List.drop_length]; rfl
    | succ kx =>
      have hlt : i < L.length := by omega
      have hlz : (i : Int) < (L.length : Int) := by omega
      obtain ⟨a, rfl, hab, hrow⟩ := pr_up hL H.out.2 (by omega)
      have hc : ∀ j u, (pcl L[i])[j]? = some u → wr.cell? ((a.add (i * 18)).add j) = some u := fun j u hu => by rw [add_add]; exact hrow i hlt j u hu
      have hstep : ((L.drop i).any fun p => eqK p.k lenK) = (eqK L[i].k lenK || ((L.drop (i + 1)).any fun p => eqK p.k lenK)) := by rw [List.drop_eq_getElem_cons hlt]; rfl
      have hF := fun W => lenF L[i] W
      obtain ⟨P, hP⟩ : ∃ P, P = L[i] := ⟨_, rfl⟩
      rw [← hP] at hc hstep hF
      have HS := Lib.hid (H.out.1.trans hstep)
      clear hP hrow hstep
      cases hq : eqK P.k lenK with
      | true =>
        rw [hq] at hF
        go_wp2_with ((with_reducible refine p_load ?_ rfl rfl hc ?_); (rfl))
        refine (hF _).mono ?_
        rintro e w1 ⟨rfl, h9⟩
        have HB := Lib.hid (vb H.out.2 h9)
        clear h9
        dsimp only
        go_wp2_with (fail)
        go_ret
        refine ⟨(i : Int), rfl, ?_, HB.out⟩
        rw [HS.out, hq]; simp
      | false =>
        rw [hq] at hF
        go_wp2_with ((with_reducible refine p_load ?_ rfl rfl hc ?_); (rfl))
        refine (hF _).mono ?_
        rintro e w1 ⟨rfl, h9⟩
        have HB := Lib.hid (vb H.out.2 h9)
        clear h9
        dsimp only
        go_wp2_with (fail)
        go_roundg kx
        case measure => omega
        case rel => exact ⟨i + 1, by congr 1, by omega, Lib.hid ⟨by rw [HS.out, hq]; rfl, HB.out⟩⟩
set_option maxRecDepth 100000 in
theorem containsL (A : Option Addr) (L : List Pq) (cap : Nat) (w : World) (hl : L.length < 1000000000000) (hL : PR w A L) : Calls Tryz.prog 160 #[.slice A L.length cap, .func (.func 159) #[] #[]] w fun e w' => e = .returned (.bool (L.any fun p => eqK p.k lenK)) ∧ Below w.heap.size w w' := by
  have hI := indexL A L cap w hl hL
  go_enter Tryz.func160, Tryz.ntmps160
  go_wp2_with (go_at_call 183; (with_reducible refine hI.mono ?_); rintro e w1 ⟨n, rfl, hn, hb⟩)
  go_ret
  exact ⟨by rw [← hn]; rfl, hb⟩
/-- what boxes holds on to -/
structure Bx (w : World) (B : Addr) (o : Ob) (W : World) : Prop where
  below : Below w.heap.size w W
  b : W.heap[w.heap.size]? = some (.cells #[.pointer (some B)] 121 (0, 0))
  of : OF W B o
theorem Bx.up {w W W' : World} {B : Addr} {o : Ob} (h : Bx w B o W) (hb : Below W.heap.size W W') : Bx w B o W' := ⟨vb h.below hb, vblkn hb h.b, h.of.up hb⟩
theorem Bx.c {w W : World} {B : Addr} {o : Ob} (h : Bx w B o W) : W.cell? ⟨w.heap.size, 0, none⟩ = some (.pointer (some B)) := (vcells h.b 0).trans rfl
theorem bx_start {w : World} {B : Addr} {o : Ob} (h : OF w B o) : Bx w B o (w.alloc (.cells #[.pointer (some B)] 121)) := ⟨vzero _ _, heap_alloc_new w _, h.up (vzero _ _)⟩
set_option maxHeartbeats 2000000 in
set_option maxRecDepth 100000 in
theorem boxes_h (B : Addr) (o : Ob) (w : World) (h : OF w B o) (hin : o.In) (hfew : o.props.length < 1000000000000) (hP : PR w o.pa o.props) (htab : TabHere w) : Calls Tryz.prog 120 #[.pointer (some B)] w fun e w' => e = .returned (.bool (boxesB o)) ∧ Below w.heap.size w w' := by
  have HB := Lib.hid (bx_start h)
  have cC := fun W (hb : Below w.heap.size w W) => containsL o.pa o.props o.pc W hfew (pr_up hP hb)
  have cI := fun W (hx : Bx w B o W) => indices_b o.pa o.props o.pc w.heap.size B o W (tab_up htab hx.below) hin.props hfew (pr_up hP hx.below) (lt_blk hx.b) hx.c hx.of
  have q0 := HB.out.c
  have q1 := HB.out.of.text
  have q2 := HB.out.of.props
  have q3 := HB.out.of.lt
  unfold boxesB
  by_cases hs : o.text.size ≤ 4096
  · have hz : ¬ (4096 : Int) < (o.text.size : Int) := by omega
    rw [decide_eq_true hs]
    cases ha : (o.props.any fun p => eqK p.k lenK) with
    | true =>
      rw [ha] at cC
      go_enter Tryz.func120, Tryz.ntmps120
      go_wp2_with (go_at_call 160; (with_reducible refine (cC _ HB.out.below).mono ?_); rintro e w1 ⟨rfl, h9⟩; have HB := Lib.hid (HB.out.up h9); clear h9)
      go_ret
      exact ⟨rfl, HB.out.below⟩
    | false =>
      rw [ha] at cC
      go_enter Tryz.func120, Tryz.ntmps120
      go_wp2_with (first
        | (go_at_call 160; (with_reducible refine (cC _ HB.out.below).mono ?_); rintro e w1 ⟨rfl, h9⟩; have HB := Lib.hid (HB.out.up h9); have q0 := HB.out.c; have q1 := HB.out.of.text; have q2 := HB.out.of.props; have q3 := HB.out.of.lt; clear h9)
        | (go_at_call 157; (with_reducible refine (cI _ HB.out).mono ?_); rintro e w1 ⟨rfl, h9⟩; have HB := Lib.hid (HB.out.up h9); clear h9))
      go_ret
      exact ⟨rfl, HB.out.below⟩
  · have hz : (4096 : Int) < (o.text.size : Int) := by omega
    rw [decide_eq_false hs]
    go_enter Tryz.func120, Tryz.ntmps120
    go_wp2
    go_ret
    exact ⟨rfl, HB.out.below⟩
end Go.Proofs.YthnkllhfmjbbmaaGreatDoor.S
/-
  The law TableFinds where it asks nothing.
-/
namespace Go.Proofs.YthnkllhfmjbbmaaGreatDoor.S
open Go.RowKit Go.Lib Fl
/-- the law's own blocks -/
structure Lw (w : World) (k o : Ky) (d : Dq) (W : World) : Prop where
  below : Below w.heap.size w W
  k : W.heap[w.heap.size]? = some (.cells #[.string k.str, .int .i64 k.sym] 63 (0, 0))
  d : W.heap[w.heap.size + 1]? = some (.cells d.cells 55 (0, 0))
  o : W.heap[w.heap.size + 1 + 1]? = some (.cells #[.string o.str, .int .i64 o.sym] 63 (0, 0))
theorem Lw.up {w W W' : World} {k o : Ky} {d : Dq} (h : Lw w k o d W) (hb : Below W.heap.size W W') : Lw w k o d W' := ⟨vb h.below hb, vblkn hb h.k, vblkn hb h.d, vblkn hb h.o⟩
theorem lw_start (w : World) (k o : Ky) (d : Dq) : Lw w k o d (((w.alloc (.cells #[.string k.str, .int .i64 k.sym] 63)).alloc (.cells d.cells 55)).alloc (.cells #[.string o.str, .int .i64 o.sym] 63)) := by
  obtain ⟨h1, h2, h3⟩ := vblk3 (w := w) (Below.refl _ (((w.alloc (.cells #[.string k.str, .int .i64 k.sym] 63)).alloc (.cells d.cells 55)).alloc (.cells #[.string o.str, .int .i64 o.sym] 63)))
  exact ⟨vafter2 (vzero _ _), h1, h2, h3⟩
end Go.Proofs.YthnkllhfmjbbmaaGreatDoor.S
/-
  The law TableFinds: its last parts, from region 37, 29, 24 on. Generated: gen_tabtail.py.
-/
namespace Go.Proofs.YthnkllhfmjbbmaaGreatDoor.S
open Go.RowKit Go.Lib Fl
open Classical

theorem off_one (a : Addr) (m : Nat) : a.add (m + 1) = ⟨(a.add m).block, (a.add m).off + 1, none⟩ := by
  unfold Addr.add
  rw [if_neg (Nat.succ_ne_zero m)]
  split
  · rename_i e; rw [e]
  · rfl
theorem pr_key {w : World} {a : Addr} {L : List Pq} (h : PR w (some a) L) {i : Nat} (hi : i < L.length) : (a.add (i * 18)).block < w.heap.size ∧ w.cell? (a.add (i * 18)) = some (.string L[i].k.str) ∧ w.cell? ⟨(a.add (i * 18)).block, (a.add (i * 18)).off + 1, none⟩ = some (.int .i64 L[i].k.sym) := by
  obtain ⟨b, hb, hlt, hc⟩ := h (by omega)
  obtain rfl := Option.some.inj hb
  refine ⟨by rw [add_blk]; exact hlt, ?_, ?_⟩
  · exact hc i hi 0 _ rfl
  · rw [← off_one a (i * 18)]
    exact hc i hi 1 _ rfl
theorem k2_at {W : World} {A : Addr} {s : ByteArray} {y : Int} (h0 : W.cell? A = some (.string s)) (h1 : W.cell? ⟨A.block, A.off + 1, none⟩ = some (.int .i64 y)) : (Instr.loadAt 63 (.pointer (some A))).run Tryz.prog W = .ok (.agg #[.string s, .int .i64 y]) W :=
  run_loadAt_at (cs := [.string s, .int .i64 y]) (fun j v hv => by
    match j, hv with
    | 0, hv => cases hv; exact h0
    | 1, hv => cases hv; exact h1
    | n + 2, hv => cases hv) Tryz.underlying63 rfl ksz
theorem same_full {d : Dq} (g : Good d) (w : World) : Calls Tryz.prog 38 #[.agg d.cells, .agg d.cells] w fun e w' => e = .returned (.bool true) ∧ Below w.heap.size w w' := by
  have k := good_kinds g
  have e : sameD d.h d.h (sameQ d.a d.a) (sameQ d.b d.b) (sameQ d.c d.c) d.p d.p d.q d.q d.z d.z = true := sameD_true (fun _ => same_refl g.a) (fun h => same_refl (g.b h).1) (fun h => same_refl (g.c h).1) (fun _ => rfl) (fun _ => rfl) (fun _ => rfl)
  have := Same_q (a := d) (b := d) k ⟨k.1.1, k.2.1.1, k.2.2.1⟩ w
  rw [e] at this
  exact this
theorem dz_good : Good (dz 0) := ⟨by decide, v0_ok, (fun _ => v0_z), (fun h => absurd h (by decide)), fun _ => v0_z, (fun h => absurd h (by decide)), fun _ => v0_z, (fun _ => rfl), (fun _ => rfl), (fun _ => rfl)⟩
theorem ok_good {p : Pq} (h : p.Ok) (hi : p.In) : Good p.d := ((whole_iff hi.2).1 h.2).1
theorem fnd_good {L : List Pq} {k : Ky} (h : TabOk L) (hi : ∀ p ∈ L, p.In) : Good (fndD L k) := by
  unfold fndD findT
  by_cases c : cutN L k < L.length
  · rw [List.getElem?_eq_getElem c]
    exact ok_good (h.all _ (List.getElem_mem c)) (hi _ (List.getElem_mem c))
  · rw [List.getElem?_eq_none (by omega)]; exact dz_good
theorem fnd_eq {L M : List Pq} {k : Ky} (h : findT M k = findT L k) : fndD M k = fndD L k ∧ (findT M k).isSome = (findT L k).isSome := by unfold fndD; rw [h]; exact ⟨rfl, rfl⟩
theorem put_in {L : List Pq} {p : Pq} (hi : ∀ p ∈ L, p.In) (hp : p.In) : ∀ q ∈ putT L p, q.In := fun q hq => by
  rcases List.mem_append.1 hq with h | h
  · exact hi q (List.mem_of_mem_take h)
  · rcases List.mem_cons.1 h with rfl | h
    · exact hp
    · exact hi q (List.mem_of_mem_drop h)
theorem drop_in {L : List Pq} {k : Ky} (hi : ∀ p ∈ L, p.In) : ∀ q ∈ dropT L k, q.In := fun q hq => by
  rcases List.mem_append.1 hq with h | h
  · exact hi q (List.mem_of_mem_take h)
  · exact hi q (List.mem_of_mem_drop h)
theorem putE_zero {L : List Pq} {p : Pq} (h : putE L p = 0) : p.Ok ∧ cutN L p.k ≠ 1024 := by
  unfold putE at h
  by_cases c : mayT p = 0
  · rw [if_pos c] at h
    by_cases e : cutN L p.k = 1024
    · rw [if_pos e] at h; exact absurd h (by decide)
    · exact ⟨mayT_ok.1 c, e⟩
  · rw [if_neg c] at h; exact absurd h c
set_option maxRecDepth 100000 in
theorem Keys_w (A : Option Addr) (L : List Pq) (cap : Nat) (w : World) (hT : TabIn w A L cap) (htab : TabHere w) : Calls Tryz.prog 73 #[.slice A L.length cap] w (KeysTo L w) := by
  have h := keys_t A L cap w hT htab
  go_enter Tryz.func73, Tryz.ntmps73
  go_wp2_with (go_at_call 111; (with_reducible refine h.mono ?_); rintro e w1 ⟨M, O, rfl, hM, hb, h9⟩)
  go_ret2
  exact ⟨M, O, rfl, hM, hb, h9⟩
/-- how many of the first i stand under other keys -/
def othN (L : List Pq) (k : Ky) (i : Nat) : Nat := ((L.take i).filter fun p => !eqK p.k k).length
theorem oth_zero (L : List Pq) (k : Ky) : othN L k 0 = 0 := rfl
theorem oth_skip {L : List Pq} {k : Ky} {i : Nat} (h : i < L.length) (e : L[i].k = k) : othN L k (i + 1) = othN L k i := by
  unfold othN
  rw [take_snoc h, List.filter_append, List.filter_cons_of_neg (by rw [eqK_iff.2 e]; simp)]; simp
theorem oth_take {L : List Pq} {k : Ky} {i : Nat} (h : i < L.length) (e : L[i].k ≠ k) : othN L k (i + 1) = othN L k i + 1 := by
  unfold othN
  rw [take_snoc h, List.filter_append, List.filter_cons_of_pos (by rw [eqK_no e]; rfl)]; simp
theorem oth_end {L : List Pq} {k : Ky} (h : TabOk L) : othN L k L.length = (dropT L k).length := by
  unfold othN
  rw [List.take_length, (drop_to h).rest]
theorem oth_at {L : List Pq} {k : Ky} {i : Nat} (hL : TabOk L) (h : i < L.length) (e : L[i].k ≠ k) : ∃ hm : othN L k i < (dropT L k).length, (dropT L k)[othN L k i].k = L[i].k := by
  have hr := (drop_to (k := k) hL).rest
  have hs : dropT L k = ((L.take i).filter fun p => !eqK p.k k) ++ (L[i] :: ((L.drop (i + 1)).filter fun p => !eqK p.k k)) := by
    rw [← hr]
    conv => lhs; rw [← List.take_append_drop i L]
    rw [List.filter_append, List.drop_eq_getElem_cons h, List.filter_cons_of_pos (by rw [eqK_no e]; rfl)]
  have hm : othN L k i < (dropT L k).length := by rw [hs, List.length_append]; unfold othN; simp
  refine ⟨hm, ?_⟩
  have : (dropT L k)[othN L k i]? = some L[i] := by rw [hs]; unfold othN; simp
  rw [List.getElem?_eq_getElem hm] at this
  rw [Option.some.inj this]
theorem seal_froz (L : List Pq) : ((!(L.any fun p => p.d.z)) || !(!(L.any fun p => (p.d.z || p.d.p)))) = true := by
  cases h : L.any fun p => p.d.z with
  | false => rfl
  | true =>
    have : (L.any fun p => (p.d.z || p.d.p)) = true := by
      obtain ⟨x, hx, e⟩ := List.any_eq_true.1 h
      exact List.any_eq_true.2 ⟨x, hx, by rw [e]; rfl⟩
    rw [this]; rfl
/-- the law's blocks, and the found one's -/
structure Lx (w : World) (k o : Ky) (d D1 : Dq) (g : Nat) (W : World) : Prop where
  l : Lw w k o d W
  f : W.heap[g]? = some (.cells D1.cells 55 (0, 0))
theorem Lx.up {w W W' : World} {k o : Ky} {d D1 : Dq} {g : Nat} (h : Lx w k o d D1 g W) (hb : Below W.heap.size W W') : Lx w k o d D1 g W' := ⟨h.l.up hb, vblkn hb h.f⟩
end Go.Proofs.YthnkllhfmjbbmaaGreatDoor.S
