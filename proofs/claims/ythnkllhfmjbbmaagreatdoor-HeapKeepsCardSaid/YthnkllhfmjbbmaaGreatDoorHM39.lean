/-
  heap.Reach: what one comes to from some objects, rising.
-/
import Derived.Test.YthnkllhfmjbbmaaGreatDoorHM38
import Derived.Sort.OwnSortedInts
import Derived.Test.YthnkllhfmjbbmaaGreatDoorHM29
import Derived.Laws.CopyRow
import Derived.Test.YthnkllhfmjbbmaaGreatDoorHM36
import Derived.Deep.LoopGhost
namespace Go.Proofs.YthnkllhfmjbbmaaGreatDoor.S
open Go.RowKit Go.Lib Fl Go.Shelf
open Classical

theorem there_h (H : List Ob) (A : Option Addr) (cap : Nat) (z : Int) (w : World) : Calls Tryz.prog 47 #[.agg #[.slice A H.length cap], .int .i64 z] w fun e w' => e = .returned (.int .i64 (if z < 0 ∨ (H.length : Int) ≤ z then 2 else 0)) ∧ Below w.heap.size w w' := by
  have hb := heap_alloc_new w (.cells #[.slice A H.length cap] 24)
  have q0 : (w.alloc (.cells #[.slice A H.length cap] 24)).cell? ⟨w.heap.size, 0, none⟩ = some (.slice A H.length cap) := (vcells hb 0).trans rfl
  have hB := vzero w (.cells #[.slice A H.length cap] 24)
  by_cases c : z < 0
  · rw [if_pos (.inl c)]
    go_enter Tryz.func47, Tryz.ntmps47
    go_wp2
    go_ret
    exact ⟨rfl, hB⟩
  · by_cases d : (H.length : Int) ≤ z
    · rw [if_pos (.inr d)]
      go_enter Tryz.func47, Tryz.ntmps47
      go_wp2
      go_ret
      exact ⟨rfl, hB⟩
    · rw [if_neg (by omega)]
      go_enter Tryz.func47, Tryz.ntmps47
      go_wp2
      go_ret
      exact ⟨rfl, hB⟩
theorem own_base {W : World} {b0 b1 : Nat} {e : TypeId} {v : Value} {n : Nat} {xs : List Value} (h : W.ownsRow b1 e 1 v n xs) (hb : b0 ≤ b1) : W.ownsRow b0 e 1 v n xs := by
  refine ⟨h.1, ?_⟩
  rcases h.2 with h | ⟨g, cp, cur, e, hb5, hg, rest⟩
  · exact .inl h
  · exact .inr ⟨g, cp, cur, e, by omega, hg, rest⟩
def inZ (H : List Ob) (z : Int) : Prop := 0 ≤ z ∧ z < (H.length : Int)
noncomputable def reachE (H : List Ob) (Z : List Int) : Int := if chkH H = 0 then (if 4096 < Z.length then 4 else if ∀ z ∈ Z, inZ H z then 0 else 2) else 9
theorem reach_bad {H : List Ob} {Z : List Int} (h : chkH H ≠ 0) : reachE H Z = 9 := if_neg h
theorem reach_many {H : List Ob} {Z : List Int} (h : chkH H = 0) (g : 4096 < Z.length) : reachE H Z = 4 := by unfold reachE; rw [if_pos h, if_pos g]
theorem reach_arg {H : List Ob} {Z : List Int} (h : chkH H = 0) (g : ¬ 4096 < Z.length) {z : Int} (hz : z ∈ Z) (hn : ¬ inZ H z) : reachE H Z = 2 := by unfold reachE; rw [if_pos h, if_neg g, if_neg (fun a => hn (a z hz))]
theorem reach_ok {H : List Ob} {Z : List Int} (h : chkH H = 0) (g : ¬ 4096 < Z.length) (hz : ∀ z ∈ Z, inZ H z) : reachE H Z = 0 := by unfold reachE; rw [if_pos h, if_neg g, if_pos hz]
theorem reach_zero {H : List Ob} {Z : List Int} (h : reachE H Z = 0) : mayH H = true ∧ Z.length ≤ 4096 ∧ ∀ z ∈ Z, inZ H z := by
  unfold reachE at h
  split at h
  · rename_i h1
    split at h
    · exact absurd h (by decide)
    · split at h
      · rename_i h2 h3; exact ⟨chk_zero.1 h1, by omega, h3⟩
      · exact absurd h (by decide)
  · exact absurd h (by decide)
def nats (Z : List Int) : List Nat := Z.map Int.toNat
theorem upZ_nats {Z : List Int} {H : List Ob} (h : ∀ z ∈ Z, inZ H z) : upZ (nats Z) = Z := by
  unfold upZ nats
  rw [List.map_map]
  refine (List.map_congr_left fun z hz => ?_).trans (List.map_id Z)
  have := (h z hz).1
  show ((z.toNat : Nat) : Int) = z
  omega
theorem nats_lt {Z : List Int} {H : List Ob} (h : ∀ z ∈ Z, inZ H z) : ∀ x ∈ nats Z, x < H.length := fun x hx => by
  obtain ⟨z, hz, rfl⟩ := List.mem_map.1 hx
  have := h z hz
  unfold inZ at this
  omega
def ReachTo (H : List Ob) (Z : List Int) (w : World) (e : Ending) (w' : World) : Prop := Below w.heap.size w w' ∧
  ((reachE H Z ≠ 0 ∧ e = .returned (.tuple #[.slice none 0 0, .int .i64 (reachE H Z)])) ∨
   (reachE H Z = 0 ∧ ∃ g cap, e = .returned (.tuple #[.slice (some ⟨g, 0, none⟩) (reachL H (nats Z)).length cap, .int .i64 0]) ∧ w'.ownsRow w.heap.size 3 1 (.slice (some ⟨g, 0, none⟩) (reachL H (nats Z)).length cap) (reachL H (nats Z)).length (wkv (reachL H (nats Z)))))
theorem below_grow {n0 g : Nat} {w W W' : World} (h : Below n0 w W) (hg : W.grownBy W' (some g)) (hn : n0 ≤ g) (hW : n0 ≤ W.heap.size) : Below n0 w W' :=
  ⟨hg.os.trans h.os, hg.tape.trans h.tape, hg.output.trans h.output, Nat.le_trans h.size hg.size, fun k hk => (hg.block k (by omega) (fun e => by have := Option.some.inj e; omega)).trans (h.block k hk)⟩
theorem wkv_lits (L : List Nat) : wkv L = (upZ L).map (Value.int .i64) := rfl
/-- the row of the call's own, sorted -/
theorem sort_h {H : List Ob} {F L : List Nat} {v : Value} {w w1 : World} (hm : mayH H = true) (hF : ∀ x ∈ F, x < H.length) (hne : F ≠ []) (hn : L.Nodup) (hW : ∀ y, y ∈ L ↔ RH H F y) (ho : w1.ownsRow w.heap.size 3 1 v L.length (wkv L)) (hb : Below w.heap.size w w1) :
    ∃ g cap, v = .slice (some ⟨g, 0, none⟩) (reachL H F).length cap ∧ Calls Tryz.prog 50 #[v] w1 fun e w' => e = .returned (.tuple #[]) ∧ Below w.heap.size w w' ∧ w'.ownsRow w.heap.size 3 1 (.slice (some ⟨g, 0, none⟩) (reachL H F).length cap) (reachL H F).length (wkv (reachL H F)) := by
  have hs := sort_is hm hF hn hW
  have hlen : L.length = (reachL H F).length := by
    have := congrArg List.length hs
    rw [List.length_mergeSort, upZ_len, upZ_len] at this
    exact this
  have hpos : 0 < L.length := by
    obtain ⟨x, hx⟩ := List.exists_mem_of_ne_nil F hne
    exact List.length_pos_of_mem ((hW x).2 (.start hx))
  rcases ho.2 with ⟨_, e⟩ | ⟨g, cap, cur, rfl, hg, hblk, h1, h2, h3, h4⟩
  · omega
  · refine ⟨g, cap, by rw [hlen], ?_⟩
    have hH := holds_of_blockI (ss := upZ L) hblk (by rw [upZ_len]; rw [Nat.mul_one] at h4; exact h4)
    have hc := Tryz.slices_Sort_int g 0 cap (upZ L) w1 hH (lt_blk hblk) (by rw [upZ_len]; have h5 := nodup_len hn fun x hx => RH.lt hm hF ((hW x).1 hx); have h6 := (mayH_iff.1 hm).1; omega)
    rw [hs, upZ_len] at hc
    refine hc.mono ?_
    rintro e w2 ⟨he, n, os, rfl⟩
    refine ⟨he, below_grow hb (grownBy_sortedI _) hg hb.size, ?_⟩
    have := ownsRow_sortedI (ss := upZ L) (ts := upZ (reachL H F)) (n := n) (os := os) (by rw [upZ_len, upZ_len, hlen]) hg hblk (by rw [upZ_len]; exact h1) h2 h3
    rw [upZ_len, hlen] at this
    exact this
theorem rr_end {f : Func} {i j : Nat} {Q : Ending → World → Prop} {tmps : Array Value} {W : World} {y z : Value} (hf : f.results = #[.tmp i, .tmp j])
    (h2 : tmps[i]?.getD undef = y) (h3 : tmps[j]?.getD undef = z) (hQ : Q (.returned (.tuple #[y, z])) W) : bodyPost Tryz.prog f Q .ret { tmps := tmps, defers := [] } W := by
  refine bodyPost_ret (v := .tuple #[y, z]) ?_ rfl hQ
  simp [h2, h3, results, hf]
set_option maxHeartbeats 4000000 in
set_option maxRecDepth 1000000 in
theorem Reach_h (A FA : Option Addr) (H : List Ob) (Z : List Int) (cap fc : Nat) (w : World) (hH : HIn w A H cap) (hFr : IRow w FA Z) (hpos : 0 < Z.length) (hZn : Z.length ≤ 1000000) (htab : TabHere w) :
    Calls Tryz.prog 16 #[.agg #[.slice A H.length cap], .slice FA Z.length fc] w (ReachTo H Z w) := by
  have hb := heap_alloc_new w (.cells #[.slice A H.length cap] 24)
  have HS := Lib.hid (hb_start w A H.length cap)
  have q4 := HS.out.h
  have cC := fun W (hb : Below w.heap.size w W) => Check_h A H cap W (hH.up hb) (tab_up htab hb)
  have cT := fun W z => there_h H A cap z W
  unfold ReachTo
  cases hc : chkH H == 0 with
  | false =>
    have hcn : chkH H ≠ 0 := by rw [← beq_eq_false_iff_ne]; exact hc
    have hcz : (chkH H != 0) = true := by unfold bne; rw [hc]; rfl
    have h9 : chkH H = 9 := by cases hmm : mayH H with | true => exact absurd (chk_ok hmm) hcn | false => unfold chkH; rw [hmm]; rfl
    rw [reach_bad hcn]
    rw [h9] at cC
    clear hc hcn hcz h9 hH hFr
    go_enter Tryz.func16, Tryz.ntmps16
    go_wp2_with (go_at_call 20; (with_reducible refine (cC _ HS.out.below).mono ?_); rintro e w1 ⟨rfl, h9⟩; have HS := Lib.hid (HS.out.up h9); clear h9)
    exact rr_end Tryz.results16 rfl rfl ⟨HS.out.below, .inl ⟨by decide, rfl⟩⟩
  | true =>
    have hc0 : chkH H = 0 := by rw [← beq_iff_eq]; exact hc
    have hmay := chk_zero.1 hc0
    rw [hc0] at cC
    by_cases hmz : 4096 < Z.length
    · have hz : (4096 : Int) < (Z.length : Int) := by omega
      rw [reach_many hc0 hmz]
      clear hc hc0 hmz hH hFr
      go_enter Tryz.func16, Tryz.ntmps16
      go_wp2_with (go_at_call 20; (with_reducible refine (cC _ HS.out.below).mono ?_); rintro e w1 ⟨rfl, h9⟩; have HS := Lib.hid (HS.out.up h9); clear h9)
      exact rr_end Tryz.results16 rfl rfl ⟨HS.out.below, .inl ⟨by decide, rfl⟩⟩
    · have hz : ¬ (4096 : Int) < (Z.length : Int) := by omega
      have HF := Lib.hid hFr
      have HH := Lib.hid hH
      have HM := Lib.hid (And.intro hc0 (And.intro hmay hmz))
      clear hc hc0 hmay hmz hH hFr
      go_enter Tryz.func16, Tryz.ntmps16
      go_wp2_with (go_at_call 20; (with_reducible refine (cC _ HS.out.below).mono ?_); rintro e w1 ⟨rfl, h9⟩; have HS := Lib.hid (HS.out.up h9); clear h9)
      go_loopg [21] Z.length (fun kx s21 wr => ∃ i : Nat, s21 = .int .i64 i ∧ i + kx = Z.length ∧ Hid (Hb w A H.length cap wr ∧ ∀ j (hj : j < Z.length), j < i → inZ H Z[j]))
      case atStart => exact ⟨0, rfl, by omega, Lib.hid ⟨HS.out, fun j _ h => absurd h (Nat.not_lt_zero j)⟩⟩
      case round =>
        obtain ⟨i, rfl, hik, HR⟩ := hrel
        have HY := Lib.hid HR.out.1
        have q5 := HR.out.1.h
        cases gk with
        | zero =>
          obtain rfl : i = Z.length := by omega
          have hall : ∀ z ∈ Z, inZ H z := fun z hz => by
            obtain ⟨j, hj, rfl⟩ := List.getElem_of_mem hz
            exact HR.out.2 j hj hj
          have hzz := upZ_nats hall
          have hnl : (nats Z).length = Z.length := List.length_map ..
          have hne : nats Z ≠ [] := fun e => by rw [e] at hnl; simp at hnl; omega
          have hmx := HM.out.2.2
          have cB := fun W (hb : Below w.heap.size w W) => behind_h A FA H (nats Z) cap fc W (HH.out.up hb) HM.out.2.1 (nats_lt hall) (by rw [hzz]; exact irow_up HF.out hb) (by omega)
          rw [hnl] at cB
          have HRE := Lib.hid (reach_ok HM.out.1 HM.out.2.2 hall)
          have HA := Lib.hid hall
          have HN := Lib.hid hne
          clear hall hzz hnl hne hmx
          go_wp2_with (first
            | (go_at_call 49; (with_reducible refine (cB _ HY.out.below).mono ?_); rintro e w1 ⟨L, v, rfl, hown, hnd, hmem, h9⟩; obtain ⟨g, cp, rfl, hcs⟩ := sort_h (w := w) HM.out.2.1 (nats_lt HA.out) HN.out hnd hmem (own_base hown HY.out.below.size) (vb HY.out.below h9); clear hown hmem)
            | (go_at_call 50; (with_reducible refine hcs.mono ?_); rintro e w2 ⟨rfl, hb2, hown2⟩))
          exact rr_end Tryz.results16 rfl rfl ⟨hb2, .inr ⟨HRE.out, g, cp, rfl, hown2⟩⟩
        | succ kx =>
          have hlt : i < Z.length := by omega
          have hlz : (i : Int) < (Z.length : Int) := by omega
          obtain ⟨a, rfl, hab, hcl⟩ := irow_up HF.out HR.out.1.below (by omega)
          have q1 := hcl i hlt
          have cT2 := fun W => cT W Z[i]
          clear hcl
          by_cases hin : inZ H Z[i]
          · rw [if_neg (by unfold inZ at hin; omega)] at cT2
            have HI := Lib.hid hin
            clear hin
            go_wp2_with (go_at_call 47; (with_reducible refine (cT2 _).mono ?_); rintro e w1 ⟨rfl, h9⟩; have HY := Lib.hid (HY.out.up h9); clear h9)
            go_roundg kx
            case measure => omega
            case rel =>
              refine ⟨i + 1, by congr 1, by omega, Lib.hid ⟨HY.out, fun j hj hji => ?_⟩⟩
              by_cases c : j < i
              · exact HR.out.2 j hj c
              · obtain rfl : j = i := by omega
                exact HI.out
          · rw [if_pos (by unfold inZ at hin; omega)] at cT2
            have HI := Lib.hid hin
            clear hin
            have HRE := Lib.hid (reach_arg HM.out.1 HM.out.2.2 (List.getElem_mem hlt) HI.out)
            go_wp2_with (go_at_call 47; (with_reducible refine (cT2 _).mono ?_); rintro e w1 ⟨rfl, h9⟩; have HY := Lib.hid (HY.out.up h9); clear h9)
            exact rr_end Tryz.results16 rfl rfl ⟨HY.out.below, .inl ⟨by rw [HRE.out]; decide, by rw [HRE.out]; rfl⟩⟩
end Go.Proofs.YthnkllhfmjbbmaaGreatDoor.S
/-
  heap.copied: a row in new memory; elements of eighteen cells.
-/
namespace Go.Proofs.YthnkllhfmjbbmaaGreatDoor.S
open Go.RowKit Go.Lib Fl
open Classical

theorem run_copy_18 (w : World) (dT sT ty elem : TypeId) (g n dCap : Nat) (a : Addr) (sCap : Nat) (cur : Array Value) (t : TypeId) (cs : List Value)
    (hu : Tryz.prog.underlying dT = some (.slice elem)) (hs : (Tryz.prog.info? elem).map (·.size) = some 18)
    (hg : w.heap[g]? = some (.cells cur t (0, 0))) (hn : cs.length = n * 18)
    (hsrc : ∀ j v, cs[j]? = some v → w.cell? (a.add j) = some v) (hfit : cur.size = cs.length) (h1 : ∀ v ∈ cs, v.oneCell' = true) :
    (Builtin.copy_ #[dT, sT] ty #[.slice (some ⟨g, 0, none⟩) n dCap, .slice (some a) n sCap]).run Tryz.prog w = .ok (goInt n) (w.setRow g cs.toArray) := by
  have hl := run_loadCells_list (P := Tryz.prog) w a cs hsrc
  have hst := run_storeCells_at Tryz.prog g 0 t cs 0 cur w hg (by simp; omega) h1
  rw [hn] at hl
  have e : (cur.toList.take 0 ++ cs ++ cur.toList.drop (0 + cs.length)).toArray = cs.toArray := by
    rw [List.take_zero, List.nil_append, List.drop_eq_nil_of_le (by simp; omega), List.append_nil]
  cases hq : Tryz.prog.info? elem with
  | none => simp [hq] at hs
  | some i =>
    have hi : i.size = 18 := by simpa [hq] using hs
    simp [Builtin.copy_, run_underlying hu, Builtin.lenOf, Builtin.firstCells, sizeOf, typeInfo, hq, hi, hl]
    rw [hst]
    show Result.ok (goInt ↑n) (w.setRow g (cur.toList.take 0 ++ cs ++ cur.toList.drop (0 + cs.length)).toArray) = _
    rw [e]
theorem run_copy_z (w : World) (dT sT ty elem : TypeId) (d sp : Option Addr) (dCap sCap : Nat) (hu : Tryz.prog.underlying dT = some (.slice elem)) (hs : (Tryz.prog.info? elem).map (·.size) = some 18) :
    (Builtin.copy_ #[dT, sT] ty #[.slice d 0 dCap, .slice sp 0 sCap]).run Tryz.prog w = .ok (goInt 0) w := by
  cases hq : Tryz.prog.info? elem with
  | none => simp [hq] at hs
  | some i =>
    cases d <;> cases sp <;> simp [Builtin.copy_, run_underlying hu, Builtin.lenOf, Builtin.firstCells, sizeOf, typeInfo, hq, storeCells, loadCells, loadCellsFrom]
theorem cell_old {w : World} {p : Addr} {v : Value} (h : w.cell? p = some v) (o : Obj) : (w.alloc o).cell? p = some v := ((vzero w o).cell (p := p) (klt_of_cell h)).trans h
/-- a row of eighteen cells an element, wherever it lies -/
def R18 (w : World) (A : Option Addr) (n : Nat) (cs : List Value) : Prop := cs.length = n * 18 ∧ (∀ v ∈ cs, v.oneCell' = true) ∧ (0 < n → ∃ a, A = some a ∧ ∀ j v, cs[j]? = some v → w.cell? (a.add j) = some v)
section
variable {ops : Array Oper} {rest : List Oper} {o : Oper} {a : Act} {w : World} {Q : Exit → Act → World → Prop} {x y : Operand} {t : TypeId}
theorem c18_make {T e : TypeId} {z : Value} {b : Nat} {l c : Operand} {n : Nat} (hT : Tryz.prog.underlying T = some (.slice e)) (hi : (Tryz.prog.info? e).map (fun i => (i.zero, i.size, i.bytes)) = some (some z, 18, b)) (hb : b ≤ 1000) (hgd : o.guard = none) (ho : o.op = .makeSlice T l c) (hl : a.eval l = .int .i64 (n : Int)) (hc : a.eval c = .int .i64 (n : Int)) (hn : n ≤ 100000)
    (h : ∀ cur : Array Value, cur.size = n * 18 → wpList Tryz.prog ops Q rest (a.put o.dst (.slice (some ⟨w.heap.size, 0, none⟩) n n)) (w.alloc (.cells cur e))) : wpList Tryz.prog ops Q (o :: rest) a w := by
  obtain ⟨i0, hi, hz0, hz1, hz2⟩ := info_parts hi
  have hbn : (b : Int) * (n : Int) ≤ 281474976710656 := by
    have h1 := Nat.mul_le_mul hb hn
    have h2 : b * n ≤ 281474976710656 := Nat.le_trans h1 (by decide)
    rw [← Int.natCast_mul]
    exact Int.ofNat_le.2 h2
  refine wpList_plain hgd fun K hK => ?_
  have hr := run_makeSlice (P := Tryz.prog) w T e i0 z hT hi hz0 .i64 .i64 (n : Int) (n : Int) (by omega) (by omega) (by rw [hz1]; omega) (by rw [hz2]; exact hbn) (by omega)
  rw [hz1, Int.toNat_natCast] at hr
  unfold Oper.wp execOp
  simp only [ho, hl, hc, hr, Sem.run_bind, Sem.run_pure, Result.andThen_ok]
  exact hK _ _ (h _ (size_madeCells _ _))
end
theorem run_copy_any (w : World) (dT sT ty e t : TypeId) (g n cap : Nat) (A : Option Addr) (cs : List Value) (cur : Array Value) (hT : Tryz.prog.underlying dT = some (.slice e)) (hs : (Tryz.prog.info? e).map (·.size) = some 18)
    (hg : w.heap[g]? = some (.cells cur t (0, 0))) (hcur : cur.size = n * 18) (hR : R18 w A n cs) :
    ∃ W : World, (Builtin.copy_ #[dT, sT] ty #[.slice (some ⟨g, 0, none⟩) n n, .slice A n cap]).run Tryz.prog w = .ok (goInt n) W ∧ (∀ B w0, Below B w0 w → B ≤ g → Below B w0 W) ∧ W.heap[g]? = some (.cells cs.toArray t (0, 0)) := by
  obtain ⟨hl, h1, hr⟩ := hR
  rcases Nat.eq_zero_or_pos n with hz | hp
  · subst hz
    obtain rfl : cs = [] := List.eq_nil_of_length_eq_zero (by omega)
    obtain rfl : cur = #[] := Array.eq_empty_of_size_eq_zero (by omega)
    exact ⟨w, run_copy_z w dT sT ty e (some ⟨g, 0, none⟩) A 0 cap hT hs, fun _ _ h _ => h, hg⟩
  · obtain ⟨ad, rfl, hsrc⟩ := hr hp
    exact ⟨_, run_copy_18 w dT sT ty e g n n ad cap cur t cs hT hs hg hl hsrc (by omega) h1, fun _ _ h h2 => below_row h h2 _, setRow_heap _ _ _ _ _ _ hg⟩
theorem R18.old {w : World} {A : Option Addr} {n : Nat} {cs : List Value} (h : R18 w A n cs) (o : Obj) : R18 (w.alloc o) A n cs := ⟨h.1, h.2.1, fun hp => by obtain ⟨a, e, g⟩ := h.2.2 hp; exact ⟨a, e, fun j v hv => cell_old (g j v hv) o⟩⟩
theorem info_p : (Tryz.prog.info? 93).map (fun i => (i.zero, i.size, i.bytes)) = some (some (.agg (prA default)), 18, 160) := by kernel_rfl
theorem info_o : (Tryz.prog.info? 34).map (fun i => (i.zero, i.size, i.bytes)) = some (some (.agg (obA default)), 18, 184) := by kernel_rfl
/-- a row copied into a new block -/
def CopTo (n : Nat) (cs : List Value) (e : TypeId) (w : World) (r : Ending) (w' : World) : Prop := ∃ g, r = .returned (.slice (some ⟨g, 0, none⟩) n n) ∧ w.heap.size ≤ g ∧ w'.heap[g]? = some (.cells cs.toArray e (0, 0)) ∧ Below w.heap.size w w'
set_option maxRecDepth 100000 in
theorem copiedP_h (A : Option Addr) (n cap : Nat) (cs : List Value) (w : World) (hR : R18 w A n cs) (hn : n ≤ 100000) : Calls Tryz.prog 48 #[.slice A n cap] w (CopTo n cs 93 w) := by
  go_enter Tryz.func48, Tryz.ntmps48
  go_wp2_with (refine c18_make Tryz.underlying32 info_p (by decide) rfl rfl rfl rfl hn ?_; intro cur hcur)
  obtain ⟨W, hrun, hB, hW⟩ := run_copy_any (w.alloc (.cells cur 93)) 32 32 3 93 93 w.heap.size n cap A cs cur Tryz.underlying32 psz (heap_alloc_new _ _) hcur (hR.old _)
  rw [hrun]
  go_wp2
  go_ret
  exact ⟨_, rfl, Nat.le_refl _, hW, hB _ _ (vzero w _) (Nat.le_refl _)⟩
set_option maxRecDepth 100000 in
theorem copiedO_h (A : Option Addr) (n cap : Nat) (cs : List Value) (w : World) (hR : R18 w A n cs) (hn : n ≤ 100000) : Calls Tryz.prog 55 #[.slice A n cap] w (CopTo n cs 34 w) := by
  go_enter Tryz.func55, Tryz.ntmps55
  go_wp2_with (refine c18_make Tryz.underlying22 info_o (by decide) rfl rfl rfl rfl hn ?_; intro cur hcur)
  obtain ⟨W, hrun, hB, hW⟩ := run_copy_any (w.alloc (.cells cur 34)) 22 22 3 34 34 w.heap.size n cap A cs cur Tryz.underlying22 osz (heap_alloc_new _ _) hcur (hR.old _)
  rw [hrun]
  go_wp2
  go_ret
  exact ⟨_, rfl, Nat.le_refl _, hW, hB _ _ (vzero w _) (Nat.le_refl _)⟩
end Go.Proofs.YthnkllhfmjbbmaaGreatDoor.S
/-
  heap.part: objects get properties of their own.
-/
namespace Go.Proofs.YthnkllhfmjbbmaaGreatDoor.S
open Go.RowKit Go.Lib Fl
open Classical

def hcl (H : List Ob) : List Value := H.flatMap ocl
theorem hcl_cons (x : Ob) (H : List Ob) : hcl (x :: H) = ocl x ++ hcl H := rfl
theorem hcl_len (H : List Ob) : (hcl H).length = H.length * 18 := by
  induction H with
  | nil => rfl
  | cons x r ih => rw [hcl_cons, List.length_append, ih, ocl_len, List.length_cons]; omega
theorem hcl_at : ∀ (H : List Ob) (i : Nat) (h : i < H.length) (j : Nat), j < 18 → (hcl H)[i * 18 + j]? = (ocl H[i])[j]?
  | x :: H, 0, _, j, hj => by rw [hcl_cons, Nat.zero_mul, Nat.zero_add, List.getElem?_append_left (by rw [ocl_len]; exact hj)]; rfl
  | x :: H, i + 1, h, j, hj => by
    rw [hcl_cons, List.getElem?_append_right (by rw [ocl_len]; omega), ocl_len, show (i + 1) * 18 + j - 18 = i * 18 + j by omega, hcl_at H i (by simpa using h) j hj]
    rfl
/-- an object whose properties lie elsewhere -/
def Ob.moved (o : Ob) (a : Option Addr) : Ob := { o with pa := a, pc := o.props.length }
theorem ocl_moved (o : Ob) (a : Option Addr) : (ocl o).set 6 (.slice a o.props.length o.props.length) = ocl (o.moved a) := rfl
theorem hcl_moved : ∀ (H : List Ob) (i : Nat) (h : i < H.length) (a : Option Addr), (hcl H).set (i * 18 + 6) (.slice a H[i].props.length H[i].props.length) = hcl (H.set i (H[i].moved a))
  | x :: H, 0, _, a => by rw [hcl_cons, Nat.zero_mul, Nat.zero_add, List.set_append_left _ _ (by rw [ocl_len]; omega)]; exact congrArg (· ++ hcl H) (ocl_moved x a)
  | x :: H, i + 1, h, a => by
    rw [hcl_cons, List.set_append_right _ _ (by rw [ocl_len]; omega), ocl_len, show (i + 1) * 18 + 6 - 18 = i * 18 + 6 by omega]
    have := hcl_moved H i (by simpa using h) a
    rw [List.getElem_cons_succ, List.set_cons_succ, hcl_cons, this]
theorem hcl_one (H : List Ob) : ∀ v ∈ hcl H, v.oneCell' = true := fun v hv => by
  obtain ⟨o, _, ho⟩ := List.mem_flatMap.1 hv
  have := obA_one o
  rw [obA, List.all_toArray, List.all_eq_true] at this
  exact this v ho
/-- a row of properties as cells -/
theorem pr_r18 {w : World} {A : Option Addr} {L : List Pq} (h : PR w A L) : R18 w A L.length (prCells L) := by
  refine ⟨prCells_len L, prCells_one L, fun hp => ?_⟩
  obtain ⟨a, rfl, _, _⟩ := id h hp
  exact ⟨a, rfl, fun j v hv => pr_cells h j v hv⟩
/-- properties that lie below B -/
def PRB (B : Nat) (w : World) (A : Option Addr) (L : List Pq) : Prop := 0 < L.length → ∃ a, A = some a ∧ a.block < B ∧ ∀ i (h : i < L.length) j u, (pcl L[i])[j]? = some u → w.cell? (a.add (i * 18 + j)) = some u
theorem PRB.up {B : Nat} {w w' : World} {A : Option Addr} {L : List Pq} (h : PRB B w A L) (hb : Below B w w') : PRB B w' A L := fun hp => by
  obtain ⟨a, h1, h2, h3⟩ := h hp
  exact ⟨a, h1, h2, fun i hi j u hu => (hb.cell (by rw [add_blk]; exact h2)).trans (h3 i hi j u hu)⟩
theorem PRB.pr {B : Nat} {w : World} {A : Option Addr} {L : List Pq} (h : PRB B w A L) (hB : B ≤ w.heap.size) : PR w A L := fun hp => by
  obtain ⟨a, h1, h2, h3⟩ := h hp
  exact ⟨a, h1, Nat.lt_of_lt_of_le h2 hB, h3⟩
theorem prb_of {w : World} {A : Option Addr} {L : List Pq} (h : PR w A L) : PRB w.heap.size w A L := h
/-- an object that got properties of its own -/
structure Parted (n0 : Nat) (m o : Ob) (W : World) : Prop where
  out : ∃ g, n0 ≤ g ∧ m = o.moved (some ⟨g, 0, none⟩) ∧ W.heap[g]? = some (.cells (prCells o.props).toArray 93 (0, 0))
theorem Parted.up {n0 : Nat} {m o : Ob} {W W' : World} (h : Parted n0 m o W) (hb : Below W.heap.size W W') : Parted n0 m o W' := by
  obtain ⟨g, h1, h2, h3⟩ := h.out
  exact ⟨g, h1, h2, vblkn hb h3⟩
/-- how far part has come -/
structure Pt (w : World) (B : Nat) (H : List Ob) (i : Nat) (M : List Ob) (W : World) : Prop where
  len : M.length = H.length
  done : ∀ j (h : j < M.length) (h' : j < H.length), j < i → Parted w.heap.size M[j] H[j] W
  rest : ∀ j (h : j < M.length) (h' : j < H.length), i ≤ j → M[j] = H[j]
  b : W.heap[B]? = some (.cells (hcl M).toArray 34 (0, 0))
  below : Below B w W
  size : w.heap.size ≤ W.heap.size
/-- what part is handed -/
structure PtIn (w : World) (B : Nat) (H : List Ob) : Prop where
  lt : B < w.heap.size
  b : w.heap[B]? = some (.cells (hcl H).toArray 34 (0, 0))
  props : ∀ i (h : i < H.length), PRB B w H[i].pa H[i].props ∧ H[i].props.length ≤ 100000
  few : H.length ≤ 5001
theorem pt_start {w : World} {B : Nat} {H : List Ob} (h : PtIn w B H) : Pt w B H 0 H w := ⟨rfl, fun _ _ _ h => absurd h (Nat.not_lt_zero _), fun _ _ _ _ => rfl, h.b, Below.refl _ _, Nat.le_refl _⟩
theorem pt_step {w wr w1 : World} {B i g : Nat} {H M : List Ob} (hw : B < w.heap.size) (hP : Pt w B H i M wr) (hlt : i < H.length) (hiM : i < M.length) (hr : M[i] = H[i]) (hg : wr.heap.size ≤ g) (hgb : w1.heap[g]? = some (.cells (prCells H[i].props).toArray 93 (0, 0))) (h9 : Below wr.heap.size wr w1) :
    Pt w B H (i + 1) (M.set i (H[i].moved (some ⟨g, 0, none⟩))) (w1.setCell ⟨B, i * 18 + 6, none⟩ (.slice (some ⟨g, 0, none⟩) H[i].props.length H[i].props.length)) := by
  have hBs : B < wr.heap.size := lt_blk hP.b
  have hgB : g ≠ B := by omega
  refine ⟨by rw [List.length_set]; exact hP.len, fun j hj hj' hji => ?_, fun j hj hj' hji => ?_, ?_, ?_, ?_⟩
  · by_cases c : j = i
    · subst c
      refine ⟨g, Nat.le_trans hP.size hg, ?_, vset1o hgb (Ne.symm hgB) _ _⟩
      rw [List.getElem_set_self]
    · rw [List.length_set] at hj
      obtain ⟨g2, h1, h2, h3⟩ := (hP.done j hj hj' (by omega)).out
      refine ⟨g2, h1, ?_, vset1o (vblkn h9 h3) (by omega) _ _⟩
      rw [List.getElem_set_ne (by omega)]
      exact h2
  · rw [List.length_set] at hj
    rw [List.getElem_set_ne (by omega)]
    exact hP.rest j hj hj' (by omega)
  · have h1 := vset1 (vblkn h9 hP.b) (i * 18 + 6) (.slice (some ⟨g, 0, none⟩) H[i].props.length H[i].props.length)
    have h2 := hcl_moved M i hiM (some ⟨g, 0, none⟩)
    rw [hr] at h2
    rw [List.setIfInBounds_toArray, h2] at h1
    exact h1
  · exact (hP.below.trans (h9.mono (Nat.le_of_lt hBs))).setCell (p := ⟨B, i * 18 + 6, none⟩) (Nat.le_refl B) _
  · rw [World.size_setCell]
    exact Nat.le_trans hP.size h9.size
set_option maxHeartbeats 4000000 in
set_option maxRecDepth 1000000 in
theorem part_h (B cap : Nat) (H : List Ob) (w : World) (hI : PtIn w B H) : Calls Tryz.prog 56 #[.slice (some ⟨B, 0, none⟩) H.length cap] w fun e w' => e = .returned (.tuple #[]) ∧ ∃ M, Pt w B H H.length M w' := by
  have hfew := hI.few
  go_enter Tryz.func56, Tryz.ntmps56
  go_wp2
  go_loopg [5] H.length (fun kx s5 wr => ∃ i : Nat, s5 = .int .i64 i ∧ i + kx = H.length ∧ Hid (∃ M, Pt w B H i M wr))
  case atStart => exact ⟨0, rfl, by omega, Lib.hid ⟨H, pt_start hI⟩⟩
  case round =>
    obtain ⟨i, rfl, hik, HR⟩ := hrel
    cases gk with
    | zero =>
      obtain rfl : i = H.length := by omega
      go_wp2
      go_end0
      exact ⟨rfl, HR.out⟩
    | succ kx =>
      have hlt : i < H.length := by omega
      have hlz : (i : Int) < (H.length : Int) := by omega
      have hl0 : (0 : Int) ≤ (i : Int) := by omega
      obtain ⟨M, hP⟩ := HR.out
      have hiM : i < M.length := by rw [hP.len]; exact hlt
      have hrest := hP.rest i hiM hlt (Nat.le_refl _)
      have hBs : B < wr.heap.size := lt_blk hP.b
      have hc : wr.cell? ⟨B, i * 18 + 6, none⟩ = some (.slice H[i].pa H[i].props.length H[i].pc) := by
        have := hcl_at M i hiM 6 (by decide)
        rw [hrest] at this
        rw [vcells hP.b (i * 18 + 6), List.getElem?_toArray]
        exact this
      have cP := copiedP_h H[i].pa H[i].props.length H[i].pc (prCells H[i].props) wr (pr_r18 (((hI.props i hlt).1.up hP.below).pr (Nat.le_of_lt hBs))) (hI.props i hlt).2
      have HP := Lib.hid hP
      have HM := Lib.hid hrest
      clear hP hrest
      go_wp2_with (go_at_call 48; (with_reducible refine cP.mono ?_); rintro e w1 ⟨g, rfl, hg, hgb, h9⟩; have hc2 := (h9.cell (p := ⟨B, i * 18 + 6, none⟩) hBs).trans hc; have hf2 : w1.frozen? ⟨B, i * 18 + 6, none⟩ = false := (by simp [World.frozen?, vblkn h9 HP.out.b]))
      go_roundg kx
      case measure => omega
      case rel => exact ⟨i + 1, by congr 1, by omega, Lib.hid ⟨_, pt_step hI.lt HP.out hlt hiM HM.out hg hgb h9⟩⟩
end Go.Proofs.YthnkllhfmjbbmaaGreatDoor.S
