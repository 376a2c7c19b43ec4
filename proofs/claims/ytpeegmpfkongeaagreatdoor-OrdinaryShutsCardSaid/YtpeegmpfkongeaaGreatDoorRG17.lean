/-
  heap.indices with either closure; which properties are called length. Generated: gen_heapidx.py.
-/
import Derived.Test.YtpeegmpfkongeaaGreatDoorRG16
import Derived.Deep.LoopGhost
import Derived.Test.YtpeegmpfkongeaaGreatDoorRG10
import Derived.Deep.CutRange
import Derived.Deep.CutBlock
import Derived.Test.YtpeegmpfkongeaaGreatDoorRG12
namespace Go.Proofs.YtpeegmpfkongeaaGreatDoor.S
open Go.RowKit Go.Lib Fl
open Classical

theorem ix_lt {s : ByteArray} {y : Int} {m : Nat} (h : ixK s y = some m) : m < 1024 := by
  unfold ixK at h
  by_cases c : y ≤ 0
  · rw [if_pos c] at h
    unfold idxO at h
    cases hR : readR s.data.toList with
    | ok n =>
      rw [hR] at h
      dsimp only at h
      by_cases d : 0 ≤ n ∧ n < 1024 ∧ s.data.toList = Lib.itoa n
      · rw [if_pos d] at h; injection h with h; omega
      · rw [if_neg d] at h; cases h
    | _ => rw [hR] at h; cases h
  · rw [if_neg c] at h; cases h
theorem dec_lt (i n : Nat) : decide ((i : Int) < (n : Int)) = decide (i < n) := by simp
theorem dec_ge (i n : Nat) : decide ((n : Int) ≤ (i : Int)) = decide (n ≤ i) := by simp
theorem lessF (g n i : Nat) (w : World) (hn : n ≤ 1024) (hc : w.cell? ⟨g, 0, none⟩ = some (.float .f64 (F n))) : Calls Tryz.prog 154 #[.int .i64 (i : Int), .pointer (some ⟨g, 0, none⟩)] w fun e w' => e = .returned (.bool (decide (i < n))) ∧ w' = w := by
  have hv := fun w => conv_run_int (floatToIntVal_F n (by omega)) w
  go_enter Tryz.func154, Tryz.ntmps154
  go_wp2
  go_ret
  exact ⟨by rw [← dec_lt]; rfl, rfl⟩
theorem geF (g i : Nat) (A : Addr) (o : Ob) (w : World) (hc : w.cell? ⟨g, 0, none⟩ = some (.pointer (some A))) (h : OF w A o) : Calls Tryz.prog 157 #[.int .i64 (i : Int), .pointer (some ⟨g, 0, none⟩)] w fun e w' => e = .returned (.bool (decide (o.text.size ≤ i))) ∧ w' = w := by
  have h1 := h.text
  have h0 := h.lt
  clear h
  go_enter Tryz.func157, Tryz.ntmps157
  go_wp2
  go_ret
  exact ⟨by rw [← dec_ge]; rfl, rfl⟩
theorem idxs_step {L : List Pq} {such : Nat → Bool} {i : Nat} (h : i < L.length) : idxs (L.drop i) such = ((match ixK L[i].k.str L[i].k.sym with | some m => such m | none => true) && idxs (L.drop (i + 1)) such) := by
  rw [List.drop_eq_getElem_cons h]; rfl
set_option maxHeartbeats 2000000 in
set_option maxRecDepth 100000 in
theorem indices_m (A : Option Addr) (L : List Pq) (cap : Nat) (g n : Nat) (w : World) (htab : TabHere w) (hin : ∀ p ∈ L, p.In) (hl : L.length < 1000000000000) (hL : PR w A L) (hn : n ≤ 1024) (hg : g < w.heap.size) (hcl : w.cell? ⟨g, 0, none⟩ = some (.float .f64 (F n))) : Calls Tryz.prog 153 #[.slice A L.length cap, .func (.func 154) #[] #[.pointer (some ⟨g, 0, none⟩)]] w fun e w' => e = .returned (.bool (idxs L (fun i => decide (i < n)))) ∧ Below w.heap.size w w' := by
  have hF := fun (i : Nat) W (hb : Below w.heap.size w W) => lessF g n i W hn ((hb.cell (p := ⟨g, 0, none⟩) hg).trans hcl)
  have HTB := Lib.hid htab
  have HF := Lib.hid hF
  clear hF
  go_enter Tryz.func153, Tryz.ntmps153
  go_wp2
  go_loopg [11] L.length (fun kx s11 wr => ∃ i : Nat, s11 = .int .i64 i ∧ i + kx = L.length ∧ Hid (idxs L (fun i => decide (i < n)) = idxs (L.drop i) (fun i => decide (i < n)) ∧ Below w.heap.size w wr))
  case atStart => exact ⟨0, rfl, by omega, Lib.hid ⟨by simp, Below.refl _ _⟩⟩
  case round =>
    obtain ⟨i, rfl, hik, H⟩ := hrel
    cases gk with
    | zero =>
      obtain rfl : i = L.length := by omega
      go_wp2
      go_ret
      refine ⟨?_, H.out.2⟩
      rw [H.out.1, List.drop_length]; rfl
    | succ kx =>
      have hlt : i < L.length := by omega
      have hlz : (i : Int) < (L.length : Int) := by omega
      obtain ⟨a, rfl, hab, hrow⟩ := pr_up hL H.out.2 (by omega)
      have hc : ∀ j u, (pcl L[i])[j]? = some u → wr.cell? ((a.add (i * 18)).add j) = some u := fun j u hu => by rw [add_add]; exact hrow i hlt j u hu
      have hst := idxs_step (such := (fun i => decide (i < n))) hlt
      have hpi := hin L[i] (List.getElem_mem hlt)
      obtain ⟨P, hP⟩ : ∃ P, P = L[i] := ⟨_, rfl⟩
      rw [← hP] at hc hst hpi
      have HS := Lib.hid (H.out.1.trans hst)
      have HB := Lib.hid H.out.2
      have hI := fun W (hb : Below w.heap.size w W) => Index_k P.k.str P.k.sym W hpi.1.1 hpi.1.2 (tab_up htab hb)
      have hi1 : (Tryz.prog.info? 90).map (·.size) = some (prA P).size := psz
      clear hP hrow hst hpi htab
      cases ho : ixK P.k.str P.k.sym with
      | none =>
        have hI2 : ∀ W (_ : Below w.heap.size w W), Calls Tryz.prog 178 #[.agg #[.string P.k.str, .int .i64 P.k.sym]] W fun e w' => e = .returned (.tuple #[.int .i64 0, .bool false]) ∧ Below W.heap.size W w' := fun W hb => by have := hI W hb; rw [ho] at this; exact this
        clear hI
        go_wp2_with (first
          | ((with_reducible refine p_load ?_ rfl rfl hc ?_); (rfl))
          | ((with_reducible refine t_store rfl rfl rfl rfl (heap_alloc_new _ _) hi1 ?_ (prA_one P) (vzero wr _) (Nat.le_refl _) ?_); (rfl); intro W hBW hW _ _; have HB := Lib.hid (vb HB.out hBW))
          | ((with_reducible refine pk_load ?_ rfl rfl hW ?_); (rfl))
          | (go_at_call 178; (with_reducible refine (hI2 _ HB.out).mono ?_); rintro e w1 ⟨rfl, h9⟩; have HB := Lib.hid (vb HB.out h9); clear h9))
        go_roundg kx
        case measure => omega
        case rel => exact ⟨i + 1, by congr 1, by omega, Lib.hid ⟨by rw [HS.out, ho]; rfl, HB.out⟩⟩
      | some m =>
        have hI2 : ∀ W (_ : Below w.heap.size w W), Calls Tryz.prog 178 #[.agg #[.string P.k.str, .int .i64 P.k.sym]] W fun e w' => e = .returned (.tuple #[.int .i64 (m : Int), .bool true]) ∧ Below W.heap.size W w' := fun W hb => by have := hI W hb; rw [ho] at this; exact this
        clear hI
        have hm : m < 1024 := ix_lt ho
        cases hq : decide (m < n) with
        | true =>
          go_wp2_with (first
            | ((with_reducible refine p_load ?_ rfl rfl hc ?_); (rfl))
            | ((with_reducible refine t_store rfl rfl rfl rfl (heap_alloc_new _ _) hi1 ?_ (prA_one P) (vzero wr _) (Nat.le_refl _) ?_); (rfl); intro W hBW hW _ _; have HB := Lib.hid (vb HB.out hBW))
            | ((with_reducible refine pk_load ?_ rfl rfl hW ?_); (rfl))
            | (go_at_call 178; (with_reducible refine (hI2 _ HB.out).mono ?_); rintro e w1 ⟨rfl, h9⟩; have HB := Lib.hid (vb HB.out h9); clear h9))
          refine (HF.out m _ HB.out).mono ?_
          rintro e w2 ⟨rfl, rfl⟩
          rw [hq]
          dsimp only
          go_wp2_with (fail)
          go_roundg kx
          case measure => omega
          case rel => exact ⟨i + 1, by congr 1, by omega, Lib.hid ⟨by rw [HS.out, ho]; exact (congrArg (· && _) (hq)).trans (Bool.true_and _), HB.out⟩⟩
        | false =>
          go_wp2_with (first
            | ((with_reducible refine p_load ?_ rfl rfl hc ?_); (rfl))
            | ((with_reducible refine t_store rfl rfl rfl rfl (heap_alloc_new _ _) hi1 ?_ (prA_one P) (vzero wr _) (Nat.le_refl _) ?_); (rfl); intro W hBW hW _ _; have HB := Lib.hid (vb HB.out hBW))
            | ((with_reducible refine pk_load ?_ rfl rfl hW ?_); (rfl))
            | (go_at_call 178; (with_reducible refine (hI2 _ HB.out).mono ?_); rintro e w1 ⟨rfl, h9⟩; have HB := Lib.hid (vb HB.out h9); clear h9))
          refine (HF.out m _ HB.out).mono ?_
          rintro e w2 ⟨rfl, rfl⟩
          rw [hq]
          dsimp only
          go_wp2_with (fail)
          go_ret
          refine ⟨?_, HB.out⟩
          rw [HS.out, ho, show (match (some m : Option Nat) with | some m => ((fun i => decide (i < n))) m | none => true) = false from hq]; rfl
set_option maxHeartbeats 2000000 in
set_option maxRecDepth 100000 in
theorem indices_b (A : Option Addr) (L : List Pq) (cap : Nat) (g : Nat) (B : Addr) (o : Ob) (w : World) (htab : TabHere w) (hin : ∀ p ∈ L, p.In) (hl : L.length < 1000000000000) (hL : PR w A L) (hg : g < w.heap.size) (hcl : w.cell? ⟨g, 0, none⟩ = some (.pointer (some B))) (hO : OF w B o) : Calls Tryz.prog 153 #[.slice A L.length cap, .func (.func 157) #[] #[.pointer (some ⟨g, 0, none⟩)]] w fun e w' => e = .returned (.bool (idxs L (fun i => decide (o.text.size ≤ i)))) ∧ Below w.heap.size w w' := by
  have hF := fun (i : Nat) W (hb : Below w.heap.size w W) => geF g i B o W ((hb.cell (p := ⟨g, 0, none⟩) hg).trans hcl) (hO.up hb)
  have HTB := Lib.hid htab
  have HF := Lib.hid hF
  clear hF
  go_enter Tryz.func153, Tryz.ntmps153
  go_wp2
  go_loopg [11] L.length (fun kx s11 wr => ∃ i : Nat, s11 = .int .i64 i ∧ i + kx = L.length ∧ Hid (idxs L (fun i => decide (o.text.size ≤ i)) = idxs (L.drop i) (fun i => decide (o.text.size ≤ i)) ∧ Below w.heap.size w wr))
  case atStart => exact ⟨0, rfl, by omega, Lib.hid ⟨by simp, Below.refl _ _⟩⟩
  case round =>
    obtain ⟨i, rfl, hik, H⟩ := hrel
    cases gk with
    | zero =>
      obtain rfl : i = L.length := by omega
      go_wp2
      go_ret
      refine ⟨?_, H.out.2⟩
      rw [H.out.1, List.drop_length]; rfl
    | succ kx =>
      have hlt : i < L.length := by omega
      have hlz : (i : Int) < (L.length : Int) := by omega
      obtain ⟨a, rfl, hab, hrow⟩ := pr_up hL H.out.2 (by omega)
      have hc : ∀ j u, (pcl L[i])[j]? = some u → wr.cell? ((a.add (i * 18)).add j) = some u := fun j u hu => by rw [add_add]; exact hrow i hlt j u hu
      have hst := idxs_step (such := (fun i => decide (o.text.size ≤ i))) hlt
      have hpi := hin L[i] (List.getElem_mem hlt)
      obtain ⟨P, hP⟩ : ∃ P, P = L[i] := ⟨_, rfl⟩
      rw [← hP] at hc hst hpi
      have HS := Lib.hid (H.out.1.trans hst)
      have HB := Lib.hid H.out.2
      have hI := fun W (hb : Below w.heap.size w W) => Index_k P.k.str P.k.sym W hpi.1.1 hpi.1.2 (tab_up htab hb)
      have hi1 : (Tryz.prog.info? 90).map (·.size) = some (prA P).size := psz
      clear hP hrow hst hpi htab
      cases ho : ixK P.k.str P.k.sym with
      | none =>
        have hI2 : ∀ W (_ : Below w.heap.size w W), Calls Tryz.prog 178 #[.agg #[.string P.k.str, .int .i64 P.k.sym]] W fun e w' => e = .returned (.tuple #[.int .i64 0, .bool false]) ∧ Below W.heap.size W w' := fun W hb => by have := hI W hb; rw [ho] at this; exact this
        clear hI
        go_wp2_with (first
          | ((with_reducible refine p_load ?_ rfl rfl hc ?_); (rfl))
          | ((with_reducible refine t_store rfl rfl rfl rfl (heap_alloc_new _ _) hi1 ?_ (prA_one P) (vzero wr _) (Nat.le_refl _) ?_); (rfl); intro W hBW hW _ _; have HB := Lib.hid (vb HB.out hBW))
          | ((with_reducible refine pk_load ?_ rfl rfl hW ?_); (rfl))
          | (go_at_call 178; (with_reducible refine (hI2 _ HB.out).mono ?_); rintro e w1 ⟨rfl, h9⟩; have HB := Lib.hid (vb HB.out h9); clear h9))
        go_roundg kx
        case measure => omega
        case rel => exact ⟨i + 1, by congr 1, by omega, Lib.hid ⟨by rw [HS.out, ho]; rfl, HB.out⟩⟩
      | some m =>
        have hI2 : ∀ W (_ : Below w.heap.size w W), Calls Tryz.prog 178 #[.agg #[.string P.k.str, .int .i64 P.k.sym]] W fun e w' => e = .returned (.tuple #[.int .i64 (m : Int), .bool true]) ∧ Below W.heap.size W w' := fun W hb => by have := hI W hb; rw [ho] at this; exact this
        clear hI
        have hm : m < 1024 := ix_lt ho
        cases hq : decide (o.text.size ≤ m) with
        | true =>
          go_wp2_with (first
            | ((with_reducible refine p_load ?_ rfl rfl hc ?_); (rfl))
            | ((with_reducible refine t_store rfl rfl rfl rfl (heap_alloc_new _ _) hi1 ?_ (prA_one P) (vzero wr _) (Nat.le_refl _) ?_); (rfl); intro W hBW hW _ _; have HB := Lib.hid (vb HB.out hBW))
            | ((with_reducible refine pk_load ?_ rfl rfl hW ?_); (rfl))
            | (go_at_call 178; (with_reducible refine (hI2 _ HB.out).mono ?_); rintro e w1 ⟨rfl, h9⟩; have HB := Lib.hid (vb HB.out h9); clear h9))
          refine (HF.out m _ HB.out).mono ?_
          rintro e w2 ⟨rfl, rfl⟩
          rw [hq]
          dsimp only
          go_wp2_with (fail)
          go_roundg kx
          case measure => omega
          case rel => exact ⟨i + 1, by congr 1, by omega, Lib.hid ⟨by rw [HS.out, ho]; exact (congrArg (· && _) (hq)).trans (Bool.true_and _), HB.out⟩⟩
        | false =>
          go_wp2_with (first
            | ((with_reducible refine p_load ?_ rfl rfl hc ?_); (rfl))
            | ((with_reducible refine t_store rfl rfl rfl rfl (heap_alloc_new _ _) hi1 ?_ (prA_one P) (vzero wr _) (Nat.le_refl _) ?_); (rfl); intro W hBW hW _ _; have HB := Lib.hid (vb HB.out hBW))
            | ((with_reducible refine pk_load ?_ rfl rfl hW ?_); (rfl))
            | (go_at_call 178; (with_reducible refine (hI2 _ HB.out).mono ?_); rintro e w1 ⟨rfl, h9⟩; have HB := Lib.hid (vb HB.out h9); clear h9))
          refine (HF.out m _ HB.out).mono ?_
          rintro e w2 ⟨rfl, rfl⟩
          rw [hq]
          dsimp only
          go_wp2_with (fail)
          go_ret
          refine ⟨?_, HB.out⟩
          rw [HS.out, ho, show (match (some m : Option Nat) with | some m => ((fun i => decide (o.text.size ≤ i))) m | none => true) = false from hq]; rfl
end Go.Proofs.YtpeegmpfkongeaaGreatDoor.S
/-
  heap.boxes: a string object's own properties. Generated: gen_heapbox.py.
-/
namespace Go.Proofs.YtpeegmpfkongeaaGreatDoor.S
open Go.RowKit Go.Lib Fl
open Classical

set_option maxHeartbeats 2000000 in
set_option maxRecDepth 100000 in
theorem lenF (p : Pq) (w : World) : Calls Tryz.prog 155 #[.agg (prA p)] w fun e w' => e = .returned (.bool (eqK p.k lenK)) ∧ Below w.heap.size w w' := by
  have hb0 := heap_alloc_new w (.cells (prA p) 90)
  have c0 : (w.alloc (.cells (prA p) 90)).cell? ⟨w.heap.size, 0, none⟩ = some (.string p.k.str) := (vcells hb0 0).trans rfl
  have c1 : (w.alloc (.cells (prA p) 90)).cell? ⟨w.heap.size, 1, none⟩ = some (.int .i64 p.k.sym) := (vcells hb0 1).trans rfl
  have q := key_eq 9998 p.k.str (⟨#[108, 101, 110, 103, 116, 104]⟩ : ByteArray) p.k.sym 0
  rw [show (p.k.str == (⟨#[108, 101, 110, 103, 116, 104]⟩ : ByteArray) && p.k.sym == 0) = eqK p.k lenK from rfl] at q
  have ko := fun W hg hb => of_keep (⟨#[108, 101, 110, 103, 116, 104]⟩ : ByteArray) w.heap.size w W hg hb
  have hz5 := new_lt w (.cells (prA p) 90)
  have hd := (vzero w (.cells (prA p) 90)).drew
  generalize eqK p.k lenK = b at *
  generalize hk0 : p.k.str = s at *
  generalize hk1 : p.k.sym = y at *
  clear hb0
  cases b
  all_goals
    go_enter Tryz.func155, Tryz.ntmps155
    go_wp2
    go_region_held3 (fun w' => w.heap.size < w'.heap.size ∧ Below w.heap.size w w' ∧ w'.cell? ⟨w.heap.size, 0, none⟩ = some (.string s) ∧ w'.cell? ⟨w.heap.size, 1, none⟩ = some (.int .i64 y)) (first | exact ⟨hz5, hd, c0, c1⟩ | go_keep)
      (first
        | (go_at_call 152; refine (ko _ ?_ ?_).mono ?_; (simp [*]); (simp [*]); rintro e w' ⟨rfl, hb1, hb2, hb3⟩))
    go_wp2
    go_ret
    exact ⟨rfl, by assumption⟩
set_option maxHeartbeats 2000000 in
set_option maxRecDepth 100000 in
theorem indexL (A : Option Addr) (L : List Pq) (cap : Nat) (w : World) (hl : L.length < 1000000000000) (hL : PR w A L) : Calls Tryz.prog 179 #[.slice A L.length cap, .func (.func 155) #[] #[]] w fun e w' => ∃ n : Int, e = .returned (.int .i64 n) ∧ (decide (0 ≤ n) = L.any fun p => eqK p.k lenK) ∧ Below w.heap.size w w' := by
  go_enter Tryz.func179, Tryz.ntmps179
  go_wp2
  go_loopg [8] L.length (fun kx s8 wr => ∃ i : Nat, s8 = .int .i64 i ∧ i + kx = L.length ∧ Hid ((L.any fun p => eqK p.k lenK) = ((L.drop i).any fun p => eqK p.k lenK) ∧ Below w.heap.size w wr))
  case atStart => exact ⟨0, rfl, by omega, Lib.hid ⟨by simp, Below.refl _ _⟩⟩
  case round =>
    obtain ⟨i, rfl, hik, H⟩ := hrel
    cases gk with
    | zero =>
      obtain rfl : i = L.length := by omega
      go_wp2
      go_ret
      refine ⟨-1, rfl, ?_, H.out.2⟩
      rw [H.out.1, List.drop_length]; rfl
    | succ kx =>
      have hlt : i < L.length := by omega
      have hlz : (i : Int) < (L.length : Int) := by omega
      obtain ⟨a, rfl, hab, hrow⟩ := pr_up hL H.out.2 (by omega)
      have hc : ∀ j u, (pcl L[i])[j]? = some u → wr.cell? ((a.add (i * 18)).add j) = some u := fun j u hu => by rw [add_add]; exact hrow i hlt j u hu
      have hstep : ((L.drop i).any fun p => eqK p.k lenK) = (eqK L[i].k lenK || ((L.drop (i + 1)).any fun p => eqK p.k lenK)) := by rw [List.drop_eq_getElem_cons hlt]; rfl
      have hF := fun W => lenF L[i] W
      obtain ⟨P, hP⟩ : ∃ P, P = L[i] := ⟨_, rfl⟩
      rw [← hP] at hc hstep hF
      have HS := Lib.hid (H.out.1.trans hstep)
      clear hP hrow hstep
      cases hq : eqK P.k lenK with
      | true =>
        rw [hq] at hF
        go_wp2_with ((with_reducible refine p_load ?_ rfl rfl hc ?_); (rfl))
        refine (hF _).mono ?_
        rintro e w1 ⟨rfl, h9⟩
        have HB := Lib.hid (vb H.out.2 h9)
        clear h9
        dsimp only
        go_wp2_with (fail)
        go_ret
        refine ⟨(i : Int), rfl, ?_, HB.out⟩
        rw [HS.out, hq]; simp
      | false =>
        rw [hq] at hF
        go_wp2_with ((with_reducible refine p_load ?_ rfl rfl hc ?_); (rfl))
        refine (hF _).mono ?_
        rintro e w1 ⟨rfl, h9⟩
        have HB := Lib.hid (vb H.out.2 h9)
        clear h9
        dsimp only
        go_wp2_with (fail)
        go_roundg kx
        case measure => omega
        case rel => exact ⟨i + 1, by congr 1, by omega, Lib.hid ⟨by rw [HS.out, hq]; rfl, HB.out⟩⟩
set_option maxRecDepth 100000 in
theorem containsL (A : Option Addr) (L : List Pq) (cap : Nat) (w : World) (hl : L.length < 1000000000000) (hL : PR w A L) : Calls Tryz.prog 156 #[.slice A L.length cap, .func (.func 155) #[] #[]] w fun e w' => e = .returned (.bool (L.any fun p => eqK p.k lenK)) ∧ Below w.heap.size w w' := by
  have hI := indexL A L cap w hl hL
  go_enter Tryz.func156, Tryz.ntmps156
  go_wp2_with (go_at_call 179; (with_reducible refine hI.mono ?_); rintro e w1 ⟨n, rfl, hn, hb⟩)
  go_ret
  exact ⟨by rw [← hn]; rfl, hb⟩
/-- what boxes holds on to -/
structure Bx (w : World) (B : Addr) (o : Ob) (W : World) : Prop where
  below : Below w.heap.size w W
  b : W.heap[w.heap.size]? = some (.cells #[.pointer (some B)] 115 (0, 0))
  of : OF W B o
theorem Bx.up {w W W' : World} {B : Addr} {o : Ob} (h : Bx w B o W) (hb : Below W.heap.size W W') : Bx w B o W' := ⟨vb h.below hb, vblkn hb h.b, h.of.up hb⟩
theorem Bx.c {w W : World} {B : Addr} {o : Ob} (h : Bx w B o W) : W.cell? ⟨w.heap.size, 0, none⟩ = some (.pointer (some B)) := (vcells h.b 0).trans rfl
theorem bx_start {w : World} {B : Addr} {o : Ob} (h : OF w B o) : Bx w B o (w.alloc (.cells #[.pointer (some B)] 115)) := ⟨vzero _ _, heap_alloc_new w _, h.up (vzero _ _)⟩
set_option maxHeartbeats 2000000 in
set_option maxRecDepth 100000 in
theorem boxes_h (B : Addr) (o : Ob) (w : World) (h : OF w B o) (hin : o.In) (hfew : o.props.length < 1000000000000) (hP : PR w o.pa o.props) (htab : TabHere w) : Calls Tryz.prog 116 #[.pointer (some B)] w fun e w' => e = .returned (.bool (boxesB o)) ∧ Below w.heap.size w w' := by
  have HB := Lib.hid (bx_start h)
  have cC := fun W (hb : Below w.heap.size w W) => containsL o.pa o.props o.pc W hfew (pr_up hP hb)
  have cI := fun W (hx : Bx w B o W) => indices_b o.pa o.props o.pc w.heap.size B o W (tab_up htab hx.below) hin.props hfew (pr_up hP hx.below) (lt_blk hx.b) hx.c hx.of
  have q0 := HB.out.c
  have q1 := HB.out.of.text
  have q2 := HB.out.of.props
  have q3 := HB.out.of.lt
  unfold boxesB
  by_cases hs : o.text.size ≤ 4096
  · have hz : ¬ (4096 : Int) < (o.text.size : Int) := by omega
    rw [decide_eq_true hs]
    cases ha : (o.props.any fun p => eqK p.k lenK) with
    | true =>
      rw [ha] at cC
      go_enter Tryz.func116, Tryz.ntmps116
      go_wp2_with (go_at_call 156; (with_reducible refine (cC _ HB.out.below).mono ?_); rintro e w1 ⟨rfl, h9⟩; have HB := Lib.hid (HB.out.up h9); clear h9)
      go_ret
      exact ⟨rfl, HB.out.below⟩
    | false =>
      rw [ha] at cC
      go_enter Tryz.func116, Tryz.ntmps116
      go_wp2_with (first
        | (go_at_call 156; (with_reducible refine (cC _ HB.out.below).mono ?_); rintro e w1 ⟨rfl, h9⟩; have HB := Lib.hid (HB.out.up h9); have q0 := HB.out.c; have q1 := HB.out.of.text; have q2 := HB.out.of.props; have q3 := HB.out.of.lt; clear h9)
        | (go_at_call 153; (with_reducible refine (cI _ HB.out).mono ?_); rintro e w1 ⟨rfl, h9⟩; have HB := Lib.hid (HB.out.up h9); clear h9))
      go_ret
      exact ⟨rfl, HB.out.below⟩
  · have hz : (4096 : Int) < (o.text.size : Int) := by omega
    rw [decide_eq_false hs]
    go_enter Tryz.func116, Tryz.ntmps116
    go_wp2
    go_ret
    exact ⟨rfl, HB.out.below⟩
end Go.Proofs.YtpeegmpfkongeaaGreatDoor.S
/-
  heap.holds, revokes, leads.
-/
namespace Go.Proofs.YtpeegmpfkongeaaGreatDoor.S
open Go.RowKit Go.Lib Fl
open Classical

theorem ok_ref {v : Vq} (h : v.Ok) (ho : objQ v = true) : 0 ≤ v.r := by
  obtain ⟨u, ok, e1, _, _, e4⟩ := h
  cases u with
  | obj k r => rw [← e4]; exact ok.2.1
  | _ =>
    exfalso
    unfold objQ at ho
    rw [← e1] at ho
    exact absurd ho (by simp only [Vl.kd]; decide)
theorem may_ok {v : Vq} (h : v.may = true) : v.Ok := mayI_iff.1 h
theorem holds_at {H : List Ob} {v : Vq} {n : Nat} (h : n < H.length) (e : v.r = n) : refB H v = (v.k == kindO H[n]) := by
  unfold refB
  rw [e, Int.toNat_natCast, List.getElem?_eq_getElem h]
theorem holds_out {H : List Ob} {v : Vq} {n : Nat} (h : ¬ n < H.length) (e : v.r = n) : refB H v = false := by
  unfold refB
  rw [e, Int.toNat_natCast, List.getElem?_eq_none (by omega)]
/-- what holds holds on to -/
structure Hh (w : World) (A : Option Addr) (n cap : Nat) (k : Int) (x : Nat) (s : ByteArray) (r : Int) (W : World) : Prop where
  below : Below w.heap.size w W
  h : W.cell? ⟨w.heap.size, 0, none⟩ = some (.slice A n cap)
  v : W.heap[w.heap.size + 1]? = some (.cells #[.int .u8 k, .float .f64 x, .string s, .int .i64 r] 31 (0, 0))
  lt : w.heap.size + 1 < W.heap.size
theorem hh_start (w : World) (A : Option Addr) (n cap : Nat) (k : Int) (x : Nat) (s : ByteArray) (r : Int) : Hh w A n cap k x s r ((w.alloc (.cells #[.slice A n cap] 24)).alloc (.cells #[.int .u8 k, .float .f64 x, .string s, .int .i64 r] 31)) := by
  obtain ⟨b1, b2⟩ := vblk2 (w := w) (Below.refl _ ((w.alloc (.cells #[.slice A n cap] 24)).alloc (.cells #[.int .u8 k, .float .f64 x, .string s, .int .i64 r] 31)))
  exact ⟨vafter (vzero _ _), (vcells b1 0).trans rfl, b2, by simp⟩
theorem Hh.up {w W W' : World} {A : Option Addr} {n cap : Nat} {k : Int} {x : Nat} {s : ByteArray} {r : Int} (h : Hh w A n cap k x s r W) (hb : Below W.heap.size W W') : Hh w A n cap k x s r W' :=
  ⟨vb h.below hb, (hb.cell (p := ⟨w.heap.size, 0, none⟩) (by have := h.lt; show w.heap.size < _; omega)).trans h.h, vblkn hb h.v, Nat.lt_of_lt_of_le h.lt hb.size⟩
set_option maxHeartbeats 2000000 in
set_option maxRecDepth 100000 in
theorem holds_h (A : Option Addr) (H : List Ob) (cap : Nat) (v : Vq) (w : World) (hH : HIn w A H cap) (hv : v.In) : Calls Tryz.prog 71 #[.agg #[.slice A H.length cap], .agg #[.int .u8 v.k, .float .f64 v.x, .string v.s, .int .i64 v.r]] w fun e w' => e = .returned (.bool (holdsB H v)) ∧ Below w.heap.size w w' := by
  have c1 := fun w => may_i (sa := v.s) hv w
  have c2 := fun w => IsObject_q v hv.1 w
  have HS := Lib.hid (hh_start w A H.length cap v.k v.x v.s v.r)
  have hmay : v.may = mayI v.k v.x v.s v.r := rfl
  rw [← hmay] at c1
  unfold holdsB
  obtain ⟨q0, q1, q2, q3, _⟩ := vc4 HS.out.v
  cases hm : v.may with
  | false =>
    rw [hm] at c1
    go_enter Tryz.func71, Tryz.ntmps71
    go_wp2_with (go_at_call 111; (with_reducible refine (c1 _).mono ?_); rintro e w1 ⟨rfl, h9⟩; have HS := Lib.hid (HS.out.up h9); clear h9)
    go_ret
    exact ⟨rfl, HS.out.below⟩
  | true =>
    rw [hm] at c1
    have hr0 := fun ho => ok_ref (may_ok hm) ho
    cases ho : objQ v with
    | false =>
      rw [ho] at c2
      go_enter Tryz.func71, Tryz.ntmps71
      go_wp2_with (first
        | (go_at_call 111; (with_reducible refine (c1 _).mono ?_); rintro e w1 ⟨rfl, h9⟩; have HS := Lib.hid (HS.out.up h9); obtain ⟨q0, q1, q2, q3, _⟩ := vc4 HS.out.v; clear h9)
        | (go_at_call 58; (with_reducible refine (c2 _).mono ?_); rintro e w2 ⟨rfl, h9⟩; have HS := Lib.hid (HS.out.up h9); clear h9))
      go_ret
      exact ⟨rfl, HS.out.below⟩
    | true =>
      rw [ho] at c2
      obtain ⟨n, hn⟩ := Int.eq_ofNat_of_zero_le (hr0 ho)
      by_cases hlt : n < H.length
      · rw [holds_at hlt hn]
        obtain ⟨a, rfl, hab, hof, _⟩ := hH.at hlt
        have hK := fun W (hb : Below w.heap.size w W) => kind_h (a.add (n * 18)) H[n] W (hof.up hb)
        generalize H[n] = o at *
        obtain ⟨k, x, s, r⟩ := v
        dsimp only at *
        subst hn
        have hlz : (n : Int) < (H.length : Int) := by omega
        have hl0 : (0 : Int) ≤ (n : Int) := by omega
        go_enter Tryz.func71, Tryz.ntmps71
        go_wp2_with (first
          | (go_at_call 111; (with_reducible refine (c1 _).mono ?_); rintro e w1 ⟨rfl, h9⟩; have HS := Lib.hid (HS.out.up h9); obtain ⟨q0, q1, q2, q3, _⟩ := vc4 HS.out.v; clear h9)
          | (go_at_call 58; (with_reducible refine (c2 _).mono ?_); rintro e w2 ⟨rfl, h9⟩; have HS := Lib.hid (HS.out.up h9); obtain ⟨q0, q1, q2, q3, _⟩ := vc4 HS.out.v; have q4 := HS.out.h; clear h9))
        go_quiet ((go_at_call 112; exact Calls.quiet_of_same (hK _ (tdrewN HS.out.below _))))
        all_goals go_wp2
        all_goals go_ret
        all_goals exact ⟨rfl, tdrewN HS.out.below _⟩
      · rw [holds_out hlt hn]
        obtain ⟨k, x, s, r⟩ := v
        dsimp only at *
        subst hn
        have hlz : ¬ (n : Int) < (H.length : Int) := by omega
        go_enter Tryz.func71, Tryz.ntmps71
        go_wp2_with (first
          | (go_at_call 111; (with_reducible refine (c1 _).mono ?_); rintro e w1 ⟨rfl, h9⟩; have HS := Lib.hid (HS.out.up h9); obtain ⟨q0, q1, q2, q3, _⟩ := vc4 HS.out.v; clear h9)
          | (go_at_call 58; (with_reducible refine (c2 _).mono ?_); rintro e w2 ⟨rfl, h9⟩; have HS := Lib.hid (HS.out.up h9); obtain ⟨q0, q1, q2, q3, _⟩ := vc4 HS.out.v; have q4 := HS.out.h; clear h9))
        go_quiet (fail)
        all_goals go_wp2
        all_goals go_ret
        all_goals exact ⟨rfl, tdrewN HS.out.below _⟩
end Go.Proofs.YtpeegmpfkongeaaGreatDoor.S
/-
  The law TableFinds where it asks nothing.
-/
namespace Go.Proofs.YtpeegmpfkongeaaGreatDoor.S
open Go.RowKit Go.Lib Fl
/-- the law's own blocks -/
structure Lw (w : World) (k o : Ky) (d : Dq) (W : World) : Prop where
  below : Below w.heap.size w W
  k : W.heap[w.heap.size]? = some (.cells #[.string k.str, .int .i64 k.sym] 57 (0, 0))
  d : W.heap[w.heap.size + 1]? = some (.cells d.cells 49 (0, 0))
  o : W.heap[w.heap.size + 1 + 1]? = some (.cells #[.string o.str, .int .i64 o.sym] 57 (0, 0))
theorem Lw.up {w W W' : World} {k o : Ky} {d : Dq} (h : Lw w k o d W) (hb : Below W.heap.size W W') : Lw w k o d W' := ⟨vb h.below hb, vblkn hb h.k, vblkn hb h.d, vblkn hb h.o⟩
end Go.Proofs.YtpeegmpfkongeaaGreatDoor.S
/-
  The law TableFinds: its last parts, from region 37, 29, 24 on. Generated: gen_tabtail.py.
-/
namespace Go.Proofs.YtpeegmpfkongeaaGreatDoor.S
open Go.RowKit Go.Lib Fl
open Classical

theorem off_one (a : Addr) (m : Nat) : a.add (m + 1) = ⟨(a.add m).block, (a.add m).off + 1, none⟩ := by
  unfold Addr.add
  rw [if_neg (Nat.succ_ne_zero m)]
  split
  · rename_i e; rw [e]
  · rfl
theorem pr_key {w : World} {a : Addr} {L : List Pq} (h : PR w (some a) L) {i : Nat} (hi : i < L.length) : (a.add (i * 18)).block < w.heap.size ∧ w.cell? (a.add (i * 18)) = some (.string L[i].k.str) ∧ w.cell? ⟨(a.add (i * 18)).block, (a.add (i * 18)).off + 1, none⟩ = some (.int .i64 L[i].k.sym) := by
  obtain ⟨b, hb, hlt, hc⟩ := h (by omega)
  obtain rfl := Option.some.inj hb
  refine ⟨by rw [add_blk]; exact hlt, ?_, ?_⟩
  · exact hc i hi 0 _ rfl
  · rw [← off_one a (i * 18)]
    exact hc i hi 1 _ rfl
theorem k2_at {W : World} {A : Addr} {s : ByteArray} {y : Int} (h0 : W.cell? A = some (.string s)) (h1 : W.cell? ⟨A.block, A.off + 1, none⟩ = some (.int .i64 y)) : (Instr.loadAt 57 (.pointer (some A))).run Tryz.prog W = .ok (.agg #[.string s, .int .i64 y]) W :=
  run_loadAt_at (cs := [.string s, .int .i64 y]) (fun j v hv => by
    match j, hv with
    | 0, hv => cases hv; exact h0
    | 1, hv => cases hv; exact h1
    | n + 2, hv => cases hv) Tryz.underlying57 rfl ksz
theorem same_full {d : Dq} (g : Good d) (w : World) : Calls Tryz.prog 32 #[.agg d.cells, .agg d.cells] w fun e w' => e = .returned (.bool true) ∧ Below w.heap.size w w' := by
  have k := good_kinds g
  have e : sameD d.h d.h (sameQ d.a d.a) (sameQ d.b d.b) (sameQ d.c d.c) d.p d.p d.q d.q d.z d.z = true := sameD_true (fun _ => same_refl g.a) (fun h => same_refl (g.b h).1) (fun h => same_refl (g.c h).1) (fun _ => rfl) (fun _ => rfl) (fun _ => rfl)
  have := Same_q (a := d) (b := d) k ⟨k.1.1, k.2.1.1, k.2.2.1⟩ w
  rw [e] at this
  exact this
theorem ok_good {p : Pq} (h : p.Ok) (hi : p.In) : Good p.d := ((whole_iff hi.2).1 h.2).1
theorem put_in {L : List Pq} {p : Pq} (hi : ∀ p ∈ L, p.In) (hp : p.In) : ∀ q ∈ putT L p, q.In := fun q hq => by
  rcases List.mem_append.1 hq with h | h
  · exact hi q (List.mem_of_mem_take h)
  · rcases List.mem_cons.1 h with rfl | h
    · exact hp
    · exact hi q (List.mem_of_mem_drop h)
theorem drop_in {L : List Pq} {k : Ky} (hi : ∀ p ∈ L, p.In) : ∀ q ∈ dropT L k, q.In := fun q hq => by
  rcases List.mem_append.1 hq with h | h
  · exact hi q (List.mem_of_mem_take h)
  · exact hi q (List.mem_of_mem_drop h)
set_option maxRecDepth 100000 in
theorem Keys_w (A : Option Addr) (L : List Pq) (cap : Nat) (w : World) (hT : TabIn w A L cap) (htab : TabHere w) : Calls Tryz.prog 67 #[.slice A L.length cap] w (KeysTo L w) := by
  have h := keys_t A L cap w hT htab
  go_enter Tryz.func67, Tryz.ntmps67
  go_wp2_with (go_at_call 107; (with_reducible refine h.mono ?_); rintro e w1 ⟨M, O, rfl, hM, hb, h9⟩)
  go_ret2
  exact ⟨M, O, rfl, hM, hb, h9⟩
/-- how many of the first i stand under other keys -/
def othN (L : List Pq) (k : Ky) (i : Nat) : Nat := ((L.take i).filter fun p => !eqK p.k k).length
/-- the law's blocks, and the found one's -/
structure Lx (w : World) (k o : Ky) (d D1 : Dq) (g : Nat) (W : World) : Prop where
  l : Lw w k o d W
  f : W.heap[g]? = some (.cells D1.cells 49 (0, 0))
theorem Lx.up {w W W' : World} {k o : Ky} {d D1 : Dq} {g : Nat} (h : Lx w k o d D1 g W) (hb : Below W.heap.size W W') : Lx w k o d D1 g W' := ⟨h.l.up hb, vblkn hb h.f⟩
end Go.Proofs.YtpeegmpfkongeaaGreatDoor.S
/-
  heap.measured: an array's properties. Generated: gen_heapmeas.py.
-/
namespace Go.Proofs.YtpeegmpfkongeaaGreatDoor.S
open Go.RowKit Go.Lib Fl
open Classical

theorem F_inj {a b : Int} (ha : a.natAbs < 2 ^ 53) (hb : b.natAbs < 2 ^ 53) (h : F a = F b) : a = b := by
  have h1 := order_F a b ha hb
  rw [h, order_F b b hb hb] at h1
  injection h1 with h1
  have h2 : compare b b = .eq := Int.compare_eq_eq.2 rfl
  rw [h2] at h1
  exact Int.compare_eq_eq.1 h1.symm
theorem small_at {n : Nat} (h : n ≤ 1024) : smallN (F n) = some n := by
  have hex : ∃ m : Nat, m ≤ 1024 ∧ F (n : Int) = F m := ⟨n, h, rfl⟩
  unfold smallN
  rw [dif_pos hex]
  have hs := Classical.choose_spec hex
  have := F_inj (a := (n : Int)) (b := ((Classical.choose hex : Nat) : Int)) (by omega) (by omega) hs.2
  congr 1
  omega
theorem small_no {x : Nat} (h : ∀ n : Nat, n ≤ 1024 → x ≠ F n) : smallN x = none := by
  unfold smallN
  rw [dif_neg]
  rintro ⟨n, h1, h2⟩
  exact h n h1 h2
theorem f1024 : (4652218415073722368 : Nat) = F 1024 := by kernel_rfl
/-- a number that may be, held against 0 and 1024 -/
theorem meas_ways {v : Vq} (h : v.Ok) (hk : v.k = 3) : (∃ n : Nat, n ≤ 1024 ∧ v.x = F n ∧ (FloatKind.f64.format.order 0 v.x == some .lt || FloatKind.f64.format.order 0 v.x == some .eq) = true ∧ (FloatKind.f64.format.order v.x 4652218415073722368 == some .lt || FloatKind.f64.format.order v.x 4652218415073722368 == some .eq) = true)
    ∨ (smallN v.x = none ∧ ((FloatKind.f64.format.order 0 v.x == some .lt || FloatKind.f64.format.order 0 v.x == some .eq) = false ∨ ((FloatKind.f64.format.order 0 v.x == some .lt || FloatKind.f64.format.order 0 v.x == some .eq) = true ∧ (FloatKind.f64.format.order v.x 4652218415073722368 == some .lt || FloatKind.f64.format.order v.x 4652218415073722368 == some .eq) = false))) := by
  obtain ⟨u, ok, e1, e2, _, _⟩ := h
  cases u with
  | num x =>
    simp only [Vl.fl] at e2
    obtain ⟨c, hc, hm⟩ := ok
    rw [e2] at hc
    clear e2
    cases c with
    | nan =>
      refine .inr ⟨small_no fun n hn e => ?_, .inl ?_⟩
      · exact not_nan_F (n : Int) (by omega) (by rw [← e]; exact hc.2)
      · have : FloatKind.f64.format.order 0 v.x = none := order_nan_r 0 hc.2
        rw [this]; rfl
    | other => cases hm
    | ours n =>
      obtain ⟨hx, hs⟩ := hc
      have hs1 := hs.abs
      rw [hx]
      have q1 : FloatKind.f64.format.order 0 (F n) = some (compare 0 n) := by have := order_F 0 n (by decide) hs1; rw [F_zero] at this; exact this
      have q2 : FloatKind.f64.format.order (F n) 4652218415073722368 = some (compare n 1024) := by rw [f1024]; exact order_F n 1024 hs1 (by decide)
      rw [q1, q2]
      by_cases h0 : n < 0
      · have e0 : compare (0 : Int) n = .gt := Int.compare_eq_gt.2 h0
        refine .inr ⟨small_no fun m hm e => ?_, .inl (by rw [e0]; rfl)⟩
        have := F_inj hs1 (by omega) e; omega
      · have e0 : compare (0 : Int) n = .lt ∨ compare (0 : Int) n = .eq := by
          by_cases z : n = 0
          · exact .inr (by rw [z]; rfl)
          · exact .inl (Int.compare_eq_lt.2 (by omega))
        have e0' : (some (compare (0 : Int) n) == some Ordering.lt || some (compare (0 : Int) n) == some Ordering.eq) = true := by rcases e0 with e | e <;> rw [e] <;> rfl
        by_cases h1 : n ≤ 1024
        · have e3 : compare n (1024 : Int) = .lt ∨ compare n (1024 : Int) = .eq := by
            by_cases z : n = 1024
            · exact .inr (by rw [z]; rfl)
            · exact .inl (Int.compare_eq_lt.2 (by omega))
          obtain ⟨m, rfl⟩ := Int.eq_ofNat_of_zero_le (show 0 ≤ n by omega)
          exact .inl ⟨m, by omega, rfl, e0', by rcases e3 with e | e <;> rw [e] <;> rfl⟩
        · have e3 : compare n (1024 : Int) = .gt := Int.compare_eq_gt.2 (by omega)
          refine .inr ⟨small_no fun m hm e => ?_, .inr ⟨e0', by rw [e3]; rfl⟩⟩
          have := F_inj hs1 (by omega) e; omega
  | obj k r => exact absurd (e1.trans hk) (by simp only [Vl.kd]; have := ok.1; omega)
  | _ => exact absurd (e1.trans hk) (by simp only [Vl.kd]; omega)
section
variable {ops : Array Oper} {rest : List Oper} {o : Oper} {a : Act} {w : World} {Q : Exit → Act → World → Prop} {x y : Operand}
theorem ex_kneq {p q : Ky} (ho : o.op = .binOp .neq 57 x y 57) (hx : a.eval x = .agg #[.string p.str, .int .i64 p.sym]) (hy : a.eval y = .agg #[.string q.str, .int .i64 q.sym]) :
    (execOp a.eval o).run Tryz.prog w = .ok (.value (.bool (!eqK p q))) w := by
  have he : (Op.equalIn (9998 + 2) 57 (.agg #[.string p.str, .int .i64 p.sym]) (.agg #[.string q.str, .int .i64 q.sym])).run Tryz.prog w = .ok (eqK p q) w := key_eq 9998 p.str q.str p.sym q.sym w
  unfold execOp
  simp only [ho, hx, hy, Sem.run_bind, Sem.run_pure, run_eqGuard_agg w _ _ _ _ _ _ (show Tryz.prog.eqGuardType Tryz.prog.depth 57 = false by kernel_rfl), run_neq_struct, he, Result.andThen_ok]
/-- a descriptor out of a row of properties -/
theorem d_row {A : Addr} {p : Pq} (hw : Region.wanted o (yielded ops a.tmps) = true) (ho : o.op = .load 49 x) (hx : a.eval x = .pointer (some ⟨A.block, A.off + 2, none⟩)) (hc : ∀ j u, (pcl p)[j]? = some u → w.cell? (A.add j) = some u)
    (h : wpList Tryz.prog ops Q rest (a.put o.dst (.agg p.d.cells)) w) : wpList Tryz.prog ops Q (o :: rest) a w :=
  wpList_wanted hw fun _ hK => wp_load_at (cs := p.d.cells.toList) ho hx (fun j v hv => by
    have hj : j < 16 := by have := (List.getElem?_eq_some_iff.1 hv).1; exact this
    have e : (⟨A.block, A.off + 2, none⟩ : Addr).add j = A.add (2 + j) := by
      unfold Addr.add
      rw [if_neg (show ¬ 2 + j = 0 by omega)]
      by_cases z : j = 0
      · subst z; rfl
      · rw [if_neg z]; simp [Nat.add_assoc]
    rw [e]
    refine hc (2 + j) v ?_
    rw [show 2 + j = j + 1 + 1 by omega]
    exact hv) Tryz.underlying49 rfl dsz (hK _ _ h)
end
theorem pr_key0 {w : World} {a : Addr} {P : Pq} {r : List Pq} (h : PR w (some a) (P :: r)) : (Instr.loadAt 57 (.pointer (some a))).run Tryz.prog w = .ok (.agg #[.string P.k.str, .int .i64 P.k.sym]) w :=
  k2_at (pr_key h (i := 0) (by simp)).2.1 (pr_key h (i := 0) (by simp)).2.2
theorem meas_f1 {P : Pq} {r : List Pq} (h : eqK P.k lenK = false) : measuredB (P :: r) = false := by unfold measuredB; dsimp only; rw [h]; rfl
theorem meas_f2 {P : Pq} {r : List Pq} (h : (P.d.a.k == 3) = false) : measuredB (P :: r) = false := by unfold measuredB; dsimp only; rw [h, Bool.false_and, Bool.and_false]
theorem meas_f3 {P : Pq} {r : List Pq} (h : smallN P.d.a.x = none) : measuredB (P :: r) = false := by unfold measuredB; dsimp only; rw [h, Bool.and_false, Bool.and_false]
theorem meas_f4 {P : Pq} {r : List Pq} (h : P.d.q = true) : measuredB (P :: r) = false := by
  unfold measuredB
  dsimp only
  rw [h]
  cases smallN P.d.a.x <;> simp
theorem meas_f5 {P : Pq} {r : List Pq} (h : P.d.z = true) : measuredB (P :: r) = false := by
  unfold measuredB
  dsimp only
  rw [h]
  cases smallN P.d.a.x <;> simp
theorem meas_ok {P : Pq} {r : List Pq} {n : Nat} (h : eqK P.k lenK = true) (hk : (P.d.a.k == 3) = true) (hs : smallN P.d.a.x = some n) (hq : P.d.q = false) (hz : P.d.z = false) : measuredB (P :: r) = idxs (P :: r) fun i => decide (i < n) := by
  unfold measuredB
  dsimp only
  rw [h, hk, hs, hq, hz]; rfl
theorem box_at {w1 W : World} {o : Obj} {v : Value} {t : TypeId} (h : W.heap.size = (w1.alloc o).heap.size) : (W.alloc (.cells #[v] t)).cell? ⟨w1.heap.size + 1, 0, none⟩ = some v ∧ w1.heap.size + 1 < (W.alloc (.cells #[v] t)).heap.size := by
  have e : W.heap.size = w1.heap.size + 1 := by rw [h]; simp
  rw [← e]
  exact ⟨(vcells (heap_alloc_new W _) 0).trans rfl, by simp⟩
theorem dq16 (d : Dq) : d.cells.all (·.oneCell') = true := cells_one (l := d.cells.toList) rfl
theorem dc_at {w : World} {g : Nat} {t : TypeId} {d : Dq} (h : w.heap[g]? = some (.cells d.cells t (0, 0))) : w.cell? ⟨g, 1, none⟩ = some (.int .u8 d.a.k) ∧ w.cell? ⟨g, 2, none⟩ = some (.float .f64 d.a.x) ∧ w.cell? ⟨g, 14, none⟩ = some (.bool d.q) ∧ w.cell? ⟨g, 15, none⟩ = some (.bool d.z) ∧ g < w.heap.size :=
  ⟨(vcells h 1).trans rfl, (vcells h 2).trans rfl, (vcells h 14).trans rfl, (vcells h 15).trans rfl, lt_blk h⟩
set_option maxHeartbeats 4000000 in
set_option maxRecDepth 100000 in
theorem measured_h (A : Option Addr) (L : List Pq) (cap : Nat) (w : World) (ok : TabOk L) (hin : ∀ p ∈ L, p.In) (hL : PR w A L) (htab : TabHere w) : Calls Tryz.prog 114 #[.slice A L.length cap] w fun e w' => e = .returned (.bool (measuredB L)) ∧ Below w.heap.size w w' := by
  cases L with
  | nil =>
    go_enter Tryz.func114, Tryz.ntmps114
    go_wp2
    go_quiet (fail)
    all_goals go_wp2
    all_goals go_ret
    all_goals exact ⟨rfl, tdrewN (Below.refl _ _) _⟩
  | cons P r =>
    obtain ⟨a, rfl, hab, hrow⟩ := id hL (by simp)
    have hlen : ((P :: r).length : Int) = (r.length : Int) + 1 := by simp
    have hnl : 0 < (P :: r).length := by simp
    have hlz : (0 : Int) < ((P :: r).length : Int) := by omega
    have hln : (((P :: r).length : Int) == 0) = false := by rw [beq_eq_false_iff_ne]; omega
    have hPok := ok.all P (by simp)
    have hPin := hin P (by simp)
    have hfew : (P :: r).length < 1000000000000 := by have := ok.len; omega
    have hc0 : ∀ j u, (pcl P)[j]? = some u → w.cell? (a.add j) = some u := fun j u hu => by have := hrow 0 (by simp) j u hu; simpa using this
    have hgood := ((whole_iff hPin.2).1 hPok.2).1
    have hi1 : (Tryz.prog.info? 49).map (·.size) = some P.d.cells.size := dsz
    have hst := vstore
    have HTB := Lib.hid htab
    clear htab hrow hPok ok
    have hK0 := fun W (hb : Below w.heap.size w W) => pr_key0 (pr_up hL hb)
    have hAok : P.d.a.Ok := hgood.a
    have HLE := Lib.hid (And.intro hlen hfew)
    have HIN := Lib.hid hin
    clear hgood hlen hfew hin
    cases he : eqK P.k lenK with
    | false =>
      rw [meas_f1 he]
      generalize hLL : P :: r = LL at *
      go_enter Tryz.func114, Tryz.ntmps114
      go_wp2
      have hS : Below w.heap.size w w.drew := (Below.refl w.heap.size w).drew
      refine wp_region_held_drew (S := fun wx => Below w.heap.size w wx) (by kernel_rfl) hS (fun hHeld => ?_)
      refine hH_take (i := 0) (v := ?_) (d := 5) (l2 := #[true, false, false, false, false, false, false, false, false, false, false]) rfl (by kernel_rfl) (by kernel_rfl) (by kernel_rfl) (fun _ _ _ h => h) (by kernel_rfl) ?_ (by assumption) rfl (by kernel_rfl) ?_
      rotate_left
      · intro w hSw; (try dsimp only at hSw); go_simp; (try with_reducible rfl)
      simp only [List.set]
      refine hH_take (i := 1) (v := ?_) (d := 6) (l2 := #[true, true, false, false, false, false, false, false, false, false, false]) rfl (by kernel_rfl) (by kernel_rfl) (by kernel_rfl) (fun _ _ _ h => h) (by kernel_rfl) ?_ (by assumption) rfl (by kernel_rfl) ?_
      rotate_left
      · intro w hSw; (try dsimp only at hSw); go_simp; (try with_reducible rfl)
      simp only [List.set]
      refine hH_take (i := 2) (v := ?_) (d := 7) (l2 := #[true, true, true, false, false, false, false, false, false, false, false]) rfl (by kernel_rfl) (by kernel_rfl) (by kernel_rfl) (fun _ _ _ h => h) (by kernel_rfl) ?_ (by assumption) rfl (by kernel_rfl) ?_
      rotate_left
      · intro w hSw; (try dsimp only at hSw); go_simp; (try with_reducible rfl)
      simp only [List.set]
      refine hH_take (i := 3) (v := ?_) (d := 8) (l2 := #[true, true, true, true, false, false, false, false, false, false, false]) rfl (by kernel_rfl) (by kernel_rfl) (by kernel_rfl) (fun _ _ _ h => h) (by kernel_rfl) ?_ (by assumption) rfl (by kernel_rfl) ?_
      rotate_left
      · intro w hSw; (try dsimp only at hSw); go_simp; (try with_reducible rfl)
      simp only [List.set]
      refine hH_take (i := 4) (v := ?_) (d := 9) (l2 := #[true, true, true, true, true, false, false, false, false, false, false]) rfl (by kernel_rfl) (by kernel_rfl) (by kernel_rfl) (fun _ _ _ h => h) (by kernel_rfl) ?_ (by assumption) rfl (by kernel_rfl) ?_
      rotate_left
      · intro w hSw; (try dsimp only at hSw); go_simp; (try with_reducible rfl)
      simp only [List.set]
      refine hH_take (i := 5) (v := ?_) (d := 10) (l2 := #[true, true, true, true, true, true, false, false, false, false, false]) rfl (by kernel_rfl) (by kernel_rfl) (by kernel_rfl) (fun _ _ _ h => h) (by kernel_rfl) ?_ (by assumption) rfl (by kernel_rfl) ?_
      rotate_left
      · intro w hSw; (try dsimp only at hSw); go_simp; (try with_reducible rfl)
      simp only [List.set]
      refine hH_take (i := 6) (v := ?_) (d := 11) (l2 := #[true, true, true, true, true, true, true, false, false, false, false]) rfl (by kernel_rfl) (by kernel_rfl) (by kernel_rfl) (fun _ _ _ h => h) (by kernel_rfl) ?_ (by assumption) rfl (by kernel_rfl) ?_
      rotate_left
      · intro w hSw; (try dsimp only at hSw); go_simp; (try with_reducible rfl)
      simp only [List.set]
      refine hH_take (i := 7) (v := ?_) (d := 12) (l2 := #[true, true, true, true, true, true, true, true, false, false, false]) rfl (by kernel_rfl) (by kernel_rfl) (by kernel_rfl) (fun _ _ _ h => h) (by kernel_rfl) ?_ (by assumption) rfl (by kernel_rfl) ?_
      rotate_left
      · intro w hSw; refine (ex_load_at (hK0 _ hSw) rfl rfl).trans ?_; with_reducible rfl
      simp only [List.set]
      refine wpAnyH_ready (rs := [8]) (by kernel_rfl) (by simp) ?_
      refine AllReadyH.cons rfl (fun K hK => ?_) AllReadyH.nil
      go_simp
      (go_at_call 152; (with_reducible refine (keyOf_k (⟨#[108, 101, 110, 103, 116, 104]⟩ : ByteArray) _).mono ?_); rintro e w1 ⟨rfl, h1⟩; have hS : Below w.heap.size w w1 := vb hS h1; clear h1)
      refine hK.out _ _ hS (fun hHeld => ?_)
      clear hK K
      refine hH_take (i := 9) (v := ?_) (d := 14) (l2 := #[true, true, true, true, true, true, true, true, true, true, false]) rfl (by kernel_rfl) (by kernel_rfl) (by kernel_rfl) (fun _ _ _ h => h) (by kernel_rfl) ?_ (by assumption) rfl (by kernel_rfl) ?_
      rotate_left
      · intro w hSw; refine (ex_kneq (p := P.k) (q := lenK) rfl rfl rfl).trans ?_; rw [he]
      simp only [List.set]
      refine hH_take (i := 10) (v := ?_) (d := 15) (l2 := #[true, true, true, true, true, true, true, true, true, true, true]) rfl (by kernel_rfl) (by kernel_rfl) (by kernel_rfl) (fun _ _ _ h => h) (by kernel_rfl) ?_ (by assumption) rfl (by kernel_rfl) ?_
      rotate_left
      · intro w hSw; (try dsimp only at hSw); go_simp; (try with_reducible rfl)
      simp only [List.set]
      refine wpAnyH_done (by kernel_rfl) ?_ _
      go_wp2_with (fail)
      go_ret
      exact ⟨rfl, hS⟩
    | true =>
      have HC := fun W (hb : Below w.heap.size w W) => (fun j u hu => (hb.cell (p := a.add j) (by rw [add_blk]; exact hab)).trans (hc0 j u hu) : ∀ j u, (pcl P)[j]? = some u → W.cell? (a.add j) = some u)
      have hways : measuredB (P :: r) = false ∧ ((P.d.a.k == 3) = false ∨ ((P.d.a.k == 3) = true ∧ ((FloatKind.f64.format.order 0 P.d.a.x == some .lt || FloatKind.f64.format.order 0 P.d.a.x == some .eq) = false ∨ ((FloatKind.f64.format.order 0 P.d.a.x == some .lt || FloatKind.f64.format.order 0 P.d.a.x == some .eq) = true ∧ ((FloatKind.f64.format.order P.d.a.x 4652218415073722368 == some .lt || FloatKind.f64.format.order P.d.a.x 4652218415073722368 == some .eq) = false ∨ ((FloatKind.f64.format.order P.d.a.x 4652218415073722368 == some .lt || FloatKind.f64.format.order P.d.a.x 4652218415073722368 == some .eq) = true ∧ (P.d.q = true ∨ (P.d.q = false ∧ P.d.z = true))))))))
          ∨ ∃ n : Nat, n ≤ 1024 ∧ P.d.a.x = F n ∧ (P.d.a.k == 3) = true ∧ (FloatKind.f64.format.order 0 P.d.a.x == some .lt || FloatKind.f64.format.order 0 P.d.a.x == some .eq) = true ∧ (FloatKind.f64.format.order P.d.a.x 4652218415073722368 == some .lt || FloatKind.f64.format.order P.d.a.x 4652218415073722368 == some .eq) = true ∧ P.d.q = false ∧ P.d.z = false ∧ measuredB (P :: r) = idxs (P :: r) fun i => decide (i < n) := by
        cases hk : (P.d.a.k == 3) with
        | false => exact .inl ⟨meas_f2 hk, .inl rfl⟩
        | true =>
          rcases meas_ways hAok (by simpa using hk) with ⟨n, hn, hx, g0, g1⟩ | ⟨hs, g0 | ⟨g0, g1⟩⟩
          · cases hq : P.d.q with
            | true => exact .inl ⟨meas_f4 hq, .inr ⟨rfl, .inr ⟨g0, .inr ⟨g1, .inl rfl⟩⟩⟩⟩
            | false =>
              cases hz : P.d.z with
              | true => exact .inl ⟨meas_f5 hz, .inr ⟨rfl, .inr ⟨g0, .inr ⟨g1, .inr ⟨rfl, rfl⟩⟩⟩⟩⟩
              | false => exact .inr ⟨n, hn, hx, rfl, g0, g1, rfl, rfl, meas_ok he hk (by rw [hx]; exact small_at hn) hq hz⟩
          · exact .inl ⟨meas_f3 hs, .inr ⟨rfl, .inl g0⟩⟩
          · exact .inl ⟨meas_f3 hs, .inr ⟨rfl, .inr ⟨g0, .inl g1⟩⟩⟩


      clear hAok
      rcases hways with ⟨hM, hw⟩ | ⟨n, hn, hx, g3, g0, g1, gq, gz, hM⟩
      · rw [hM]
        clear hM
        generalize hLL : P :: r = LL at *
        rcases hw with g3 | ⟨g3, g0 | ⟨g0, g1 | ⟨g1, gq | ⟨gq, gz⟩⟩⟩⟩
        all_goals
          have g4 : (P.d.a.k != 3) = !(P.d.a.k == 3) := rfl
          rw [g3] at g4
          replace g4 : (P.d.a.k != 3) = _ := g4
          go_enter Tryz.func114, Tryz.ntmps114
          go_wp2
          have hS : Below w.heap.size w w.drew := (Below.refl w.heap.size w).drew
          refine wp_region_held_drew (S := fun wx => Below w.heap.size w wx) (by kernel_rfl) hS (fun hHeld => ?_)
          refine hH_take (i := 0) (v := ?_) (d := 5) (l2 := #[true, false, false, false, false, false, false, false, false, false, false]) rfl (by kernel_rfl) (by kernel_rfl) (by kernel_rfl) (fun _ _ _ h => h) (by kernel_rfl) ?_ (by assumption) rfl (by kernel_rfl) ?_
          rotate_left
          · intro w hSw; (try dsimp only at hSw); go_simp; (try with_reducible rfl)
          simp only [List.set]
          refine hH_take (i := 1) (v := ?_) (d := 6) (l2 := #[true, true, false, false, false, false, false, false, false, false, false]) rfl (by kernel_rfl) (by kernel_rfl) (by kernel_rfl) (fun _ _ _ h => h) (by kernel_rfl) ?_ (by assumption) rfl (by kernel_rfl) ?_
          rotate_left
          · intro w hSw; (try dsimp only at hSw); go_simp; (try with_reducible rfl)
          simp only [List.set]
          refine hH_take (i := 2) (v := ?_) (d := 7) (l2 := #[true, true, true, false, false, false, false, false, false, false, false]) rfl (by kernel_rfl) (by kernel_rfl) (by kernel_rfl) (fun _ _ _ h => h) (by kernel_rfl) ?_ (by assumption) rfl (by kernel_rfl) ?_
          rotate_left
          · intro w hSw; (try dsimp only at hSw); go_simp; (try with_reducible rfl)
          simp only [List.set]
          refine hH_take (i := 3) (v := ?_) (d := 8) (l2 := #[true, true, true, true, false, false, false, false, false, false, false]) rfl (by kernel_rfl) (by kernel_rfl) (by kernel_rfl) (fun _ _ _ h => h) (by kernel_rfl) ?_ (by assumption) rfl (by kernel_rfl) ?_
          rotate_left
          · intro w hSw; (try dsimp only at hSw); go_simp; (try with_reducible rfl)
          simp only [List.set]
          refine hH_take (i := 4) (v := ?_) (d := 9) (l2 := #[true, true, true, true, true, false, false, false, false, false, false]) rfl (by kernel_rfl) (by kernel_rfl) (by kernel_rfl) (fun _ _ _ h => h) (by kernel_rfl) ?_ (by assumption) rfl (by kernel_rfl) ?_
          rotate_left
          · intro w hSw; (try dsimp only at hSw); go_simp; (try with_reducible rfl)
          simp only [List.set]
          refine hH_take (i := 5) (v := ?_) (d := 10) (l2 := #[true, true, true, true, true, true, false, false, false, false, false]) rfl (by kernel_rfl) (by kernel_rfl) (by kernel_rfl) (fun _ _ _ h => h) (by kernel_rfl) ?_ (by assumption) rfl (by kernel_rfl) ?_
          rotate_left
          · intro w hSw; (try dsimp only at hSw); go_simp; (try with_reducible rfl)
          simp only [List.set]
          refine hH_take (i := 6) (v := ?_) (d := 11) (l2 := #[true, true, true, true, true, true, true, false, false, false, false]) rfl (by kernel_rfl) (by kernel_rfl) (by kernel_rfl) (fun _ _ _ h => h) (by kernel_rfl) ?_ (by assumption) rfl (by kernel_rfl) ?_
          rotate_left
          · intro w hSw; (try dsimp only at hSw); go_simp; (try with_reducible rfl)
          simp only [List.set]
          refine hH_take (i := 7) (v := ?_) (d := 12) (l2 := #[true, true, true, true, true, true, true, true, false, false, false]) rfl (by kernel_rfl) (by kernel_rfl) (by kernel_rfl) (fun _ _ _ h => h) (by kernel_rfl) ?_ (by assumption) rfl (by kernel_rfl) ?_
          rotate_left
          · intro w hSw; refine (ex_load_at (hK0 _ hSw) rfl rfl).trans ?_; with_reducible rfl
          simp only [List.set]
          refine wpAnyH_ready (rs := [8]) (by kernel_rfl) (by simp) ?_
          refine AllReadyH.cons rfl (fun K hK => ?_) AllReadyH.nil
          go_simp
          (go_at_call 152; (with_reducible refine (keyOf_k (⟨#[108, 101, 110, 103, 116, 104]⟩ : ByteArray) _).mono ?_); rintro e w1 ⟨rfl, h1⟩; have hS : Below w.heap.size w w1 := vb hS h1; clear h1)
          refine hK.out _ _ hS (fun hHeld => ?_)
          clear hK K
          refine hH_take (i := 9) (v := ?_) (d := 14) (l2 := #[true, true, true, true, true, true, true, true, true, true, false]) rfl (by kernel_rfl) (by kernel_rfl) (by kernel_rfl) (fun _ _ _ h => h) (by kernel_rfl) ?_ (by assumption) rfl (by kernel_rfl) ?_
          rotate_left
          · intro w hSw; refine (ex_kneq (p := P.k) (q := lenK) rfl rfl rfl).trans ?_; rw [he]
          simp only [List.set]
          refine hH_take (i := 10) (v := ?_) (d := 15) (l2 := #[true, true, true, true, true, true, true, true, true, true, true]) rfl (by kernel_rfl) (by kernel_rfl) (by kernel_rfl) (fun _ _ _ h => h) (by kernel_rfl) ?_ (by assumption) rfl (by kernel_rfl) ?_
          rotate_left
          · intro w hSw; (try dsimp only at hSw); go_simp; (try with_reducible rfl)
          simp only [List.set]
          refine wpAnyH_done (by kernel_rfl) ?_ _
          have hc := HC _ hS
          have HB := Lib.hid hS
          go_wp2_with (first
            | ((with_reducible refine d_row (A := a) (p := P) ?_ rfl rfl hc ?_); (rfl))
            | ((with_reducible refine t_store rfl rfl rfl rfl (heap_alloc_new _ _) hi1 ?_ (dq16 P.d) (vzero _ _) (Nat.le_refl _) ?_); (rfl); intro W hBW hW _ hz2; obtain ⟨d0, d1, d5, d6, df⟩ := dc_at hW; have HB := Lib.hid (vb HB.out hBW)))
          go_ret
          exact ⟨rfl, HB.out.alloc HB.out.size _⟩
      · rw [hM]
        have hK : P.d.a.k = 3 := by simpa using g3
        have hIx := fun V (hb : Below w.heap.size w V) (g : Nat) (hg : g < V.heap.size) (hcl : V.cell? ⟨g, 0, none⟩ = some (.float .f64 (F n))) => indices_m (some a) (P :: r) cap g n V (tab_up HTB.out hb) HIN.out HLE.out.2 (pr_up hL hb) hn hg hcl
        generalize hLL : P :: r = LL at *
        generalize hpx : P.d.a.x = px at *
        subst hx
        go_enter Tryz.func114, Tryz.ntmps114
        go_wp2
        have hS : Below w.heap.size w w.drew := (Below.refl w.heap.size w).drew
        refine wp_region_held_drew (S := fun wx => Below w.heap.size w wx) (by kernel_rfl) hS (fun hHeld => ?_)
        refine hH_take (i := 0) (v := ?_) (d := 5) (l2 := #[true, false, false, false, false, false, false, false, false, false, false]) rfl (by kernel_rfl) (by kernel_rfl) (by kernel_rfl) (fun _ _ _ h => h) (by kernel_rfl) ?_ (by assumption) rfl (by kernel_rfl) ?_
        rotate_left
        · intro w hSw; (try dsimp only at hSw); go_simp; (try with_reducible rfl)
        simp only [List.set]
        refine hH_take (i := 1) (v := ?_) (d := 6) (l2 := #[true, true, false, false, false, false, false, false, false, false, false]) rfl (by kernel_rfl) (by kernel_rfl) (by kernel_rfl) (fun _ _ _ h => h) (by kernel_rfl) ?_ (by assumption) rfl (by kernel_rfl) ?_
        rotate_left
        · intro w hSw; (try dsimp only at hSw); go_simp; (try with_reducible rfl)
        simp only [List.set]
        refine hH_take (i := 2) (v := ?_) (d := 7) (l2 := #[true, true, true, false, false, false, false, false, false, false, false]) rfl (by kernel_rfl) (by kernel_rfl) (by kernel_rfl) (fun _ _ _ h => h) (by kernel_rfl) ?_ (by assumption) rfl (by kernel_rfl) ?_
        rotate_left
        · intro w hSw; (try dsimp only at hSw); go_simp; (try with_reducible rfl)
        simp only [List.set]
        refine hH_take (i := 3) (v := ?_) (d := 8) (l2 := #[true, true, true, true, false, false, false, false, false, false, false]) rfl (by kernel_rfl) (by kernel_rfl) (by kernel_rfl) (fun _ _ _ h => h) (by kernel_rfl) ?_ (by assumption) rfl (by kernel_rfl) ?_
        rotate_left
        · intro w hSw; (try dsimp only at hSw); go_simp; (try with_reducible rfl)
        simp only [List.set]
        refine hH_take (i := 4) (v := ?_) (d := 9) (l2 := #[true, true, true, true, true, false, false, false, false, false, false]) rfl (by kernel_rfl) (by kernel_rfl) (by kernel_rfl) (fun _ _ _ h => h) (by kernel_rfl) ?_ (by assumption) rfl (by kernel_rfl) ?_
        rotate_left
        · intro w hSw; (try dsimp only at hSw); go_simp; (try with_reducible rfl)
        simp only [List.set]
        refine hH_take (i := 5) (v := ?_) (d := 10) (l2 := #[true, true, true, true, true, true, false, false, false, false, false]) rfl (by kernel_rfl) (by kernel_rfl) (by kernel_rfl) (fun _ _ _ h => h) (by kernel_rfl) ?_ (by assumption) rfl (by kernel_rfl) ?_
        rotate_left
        · intro w hSw; (try dsimp only at hSw); go_simp; (try with_reducible rfl)
        simp only [List.set]
        refine hH_take (i := 6) (v := ?_) (d := 11) (l2 := #[true, true, true, true, true, true, true, false, false, false, false]) rfl (by kernel_rfl) (by kernel_rfl) (by kernel_rfl) (fun _ _ _ h => h) (by kernel_rfl) ?_ (by assumption) rfl (by kernel_rfl) ?_
        rotate_left
        · intro w hSw; (try dsimp only at hSw); go_simp; (try with_reducible rfl)
        simp only [List.set]
        refine hH_take (i := 7) (v := ?_) (d := 12) (l2 := #[true, true, true, true, true, true, true, true, false, false, false]) rfl (by kernel_rfl) (by kernel_rfl) (by kernel_rfl) (fun _ _ _ h => h) (by kernel_rfl) ?_ (by assumption) rfl (by kernel_rfl) ?_
        rotate_left
        · intro w hSw; refine (ex_load_at (hK0 _ hSw) rfl rfl).trans ?_; with_reducible rfl
        simp only [List.set]
        refine wpAnyH_ready (rs := [8]) (by kernel_rfl) (by simp) ?_
        refine AllReadyH.cons rfl (fun K hK => ?_) AllReadyH.nil
        go_simp
        (go_at_call 152; (with_reducible refine (keyOf_k (⟨#[108, 101, 110, 103, 116, 104]⟩ : ByteArray) _).mono ?_); rintro e w1 ⟨rfl, h1⟩; have hS : Below w.heap.size w w1 := vb hS h1; clear h1)
        refine hK.out _ _ hS (fun hHeld => ?_)
        clear hK K
        refine hH_take (i := 9) (v := ?_) (d := 14) (l2 := #[true, true, true, true, true, true, true, true, true, true, false]) rfl (by kernel_rfl) (by kernel_rfl) (by kernel_rfl) (fun _ _ _ h => h) (by kernel_rfl) ?_ (by assumption) rfl (by kernel_rfl) ?_
        rotate_left
        · intro w hSw; refine (ex_kneq (p := P.k) (q := lenK) rfl rfl rfl).trans ?_; rw [he]
        simp only [List.set]
        refine hH_take (i := 10) (v := ?_) (d := 15) (l2 := #[true, true, true, true, true, true, true, true, true, true, true]) rfl (by kernel_rfl) (by kernel_rfl) (by kernel_rfl) (fun _ _ _ h => h) (by kernel_rfl) ?_ (by assumption) rfl (by kernel_rfl) ?_
        rotate_left
        · intro w hSw; (try dsimp only at hSw); go_simp; (try with_reducible rfl)
        simp only [List.set]
        refine wpAnyH_done (by kernel_rfl) ?_ _
        have hc := HC _ hS
        have HB := Lib.hid hS
        go_wp2_with (first
          | ((with_reducible refine d_row (A := a) (p := P) ?_ rfl rfl hc ?_); (rfl))
          | ((with_reducible refine t_store rfl rfl rfl rfl (heap_alloc_new _ _) hi1 ?_ (dq16 P.d) (vzero _ _) (Nat.le_refl _) ?_); (rfl); intro W hBW hW _ hz2; obtain ⟨d0, d1, d5, d6, df⟩ := dc_at hW; have HB := Lib.hid (vb HB.out hBW))
          | (go_at_call 153; (with_reducible refine (hIx _ (HB.out.alloc HB.out.size _) _ (box_at hz2).2 (box_at hz2).1).mono ?_); rintro e w1 ⟨rfl, h9⟩; have HB := Lib.hid (vb (HB.out.alloc HB.out.size _) h9); clear h9))
        go_ret
        exact ⟨rfl, HB.out⟩

end Go.Proofs.YtpeegmpfkongeaaGreatDoor.S
