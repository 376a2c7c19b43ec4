/-
  Tokens written as a text: walks of package lex's may and Text.
-/
import Derived.Test.YtgjpcoplnpkmoaaGreatDoorLexBuild
namespace Go.Proofs.YtgjpcoplnpkmoaaGreatDoor.S
open Go.RowKit Fl

/-- the four cells of one token, as a load spells them -/
theorem rda_cells {w : World} {A : Option Addr} {l : List Tk} (h : RdA w A l) (k : Nat) (hk : k < l.length) : ∃ a, A = some a ∧ a.block < w.heap.size ∧
    w.cell? (a.add (k * 4)) = some (.int .u8 (l[k].kind : Int)) ∧ w.cell? ⟨(a.add (k * 4)).block, (a.add (k * 4)).off + 1, none⟩ = some (.int .i64 l[k].pos) ∧ w.cell? ⟨(a.add (k * 4)).block, (a.add (k * 4)).off + 2, none⟩ = some (.string l[k].text) ∧ w.cell? ⟨(a.add (k * 4)).block, (a.add (k * 4)).off + 3, none⟩ = some (.float .f64 l[k].num) := by
  obtain ⟨a, ha, hlt, c0, c1, c2, c3⟩ := rda_at h k hk
  refine ⟨a, ha, hlt, c0, ?_, ?_, ?_⟩
  · rw [← add_of_add] at c1; exact c1
  · rw [← add_of_add] at c2; exact c2
  · rw [← add_of_add] at c3; exact c3
def PreP (l : List Tk) (k : Nat) : Prop := ∀ (j : Nat) (t : Tk), j < k → l[j]? = some t → TokP t ∧ (t.kind = 0 ↔ j + 1 = l.length)
theorem pre_step {l : List Tk} {k : Nat} (h : PreP l k) (hk : k < l.length) (h1 : TokP l[k]) (h2 : l[k].kind = 0 ↔ k + 1 = l.length) : PreP l (k + 1) := by
  intro j t hj ht
  by_cases c : j = k
  · subst c
    rw [List.getElem?_eq_getElem hk] at ht
    cases ht
    exact ⟨h1, h2⟩
  · exact h j t (by omega) ht
theorem pre_all {l : List Tk} (h : PreP l l.length) (h0 : l ≠ []) : MayP l := ⟨h0, fun i t ht => h i t (List.getElem?_eq_some_iff.1 ht).1 ht⟩
theorem may_at {l : List Tk} (h : MayP l) (k : Nat) (hk : k < l.length) : TokP l[k] ∧ (l[k].kind = 0 ↔ k + 1 = l.length) := h.2 k _ (List.getElem?_eq_getElem hk)

set_option maxHeartbeats 2000000 in
theorem may_any (l : List Tk) (A : Option Addr) (cap : Nat) (w : World) (hr : RdA w A l) (hin : ∀ t ∈ l, TkIn t) (hl : l.length ≤ 100000) (b : Bool) (hb : b = true ↔ MayP l) :
    Calls Tryz.prog 28 #[.slice A l.length cap] w fun e w' => e = .returned (.bool b) ∧ Below w.heap.size w w' := by
  have HR := Lib.hid hr
  have HIN := Lib.hid hin
  have HB := Lib.hid hb
  clear hr hin hb
  go_enter Tryz.func28, Tryz.ntmps28
  go_wp2_with (fail)
  go_loopw [11] (fun i wr => ∃ k : Nat, k ≤ l.length ∧ i = .int .i64 k ∧ Hid (Below w.heap.size w wr ∧ PreP l k)) (fun i _ => l.length - (intOf i).toNat)
  case atStart => exact ⟨0, Nat.zero_le _, rfl, Lib.hid ⟨Below.refl _ _, fun j t hj => by omega⟩⟩
  case round =>
    obtain ⟨k, hk, rfl, H⟩ := hrel
    by_cases hlt : k < l.length
    · obtain ⟨a, rfl, hab, a0, a1, a2, a3⟩ := rda_cells (rda_up HR.out H.out.1) k hlt
      have hti := HIN.out l[k] (List.getElem_mem _)
      have hst := store_f
      have ky := told_yes l[k] hti
      have kn := told_no l[k] hti
      by_cases ht : TokP l[k]
      · have kt := ky ht
        clear ky kn hti
        have hpre := fun h2 => pre_step H.out.2 hlt ht h2
        have hmay := fun h => (may_at (HB.out.1 h) k hlt).2
        clear ht
        generalize l[k] = t at *
        have H1 := Lib.hid H.out.1
        have HP := Lib.hid hpre
        have HM := Lib.hid hmay
        clear H hpre hmay HIN
        by_cases c1 : t.kind = 0
        · have t1 : ((t.kind : Int) == 0) = true := by rw [c1]; rfl
          by_cases c2 : k + 1 = l.length
          · have t2 : ((k : Int) == (l.length : Int) - 1) = true := by rw [beq_iff_eq]; omega
            have H3 := Lib.hid (HP.out ⟨fun _ => c2, fun _ => c1⟩)
            clear HM HP c1 c2
            go_wp2_with (go_at_call 51; refine (kt _).mono ?_; rintro e w1 ⟨rfl, h1⟩; obtain ⟨hc, hfz⟩ := bcell h1; have hzz := lt_after h1; have H2 := Lib.hid h1; clear h1)
            go_roundw
            case rel => exact ⟨k + 1, hlt, by go_num, Lib.hid ⟨below_up H1.out (after_alloc H2.out), H3.out⟩⟩
            case measure => simp [intOf]; omega
          · have t2 : ((k : Int) == (l.length : Int) - 1) = false := by rw [beq_eq_false_iff_ne]; omega
            have hf : b = false := by
              cases b with
              | false => rfl
              | true => exact absurd ((HM.out rfl).1 c1) c2
            subst hf
            clear HM HP c1 c2 HB
            go_wp2_with (go_at_call 51; refine (kt _).mono ?_; rintro e w1 ⟨rfl, h1⟩; obtain ⟨hc, hfz⟩ := bcell h1; have hzz := lt_after h1; have H2 := Lib.hid h1; clear h1)
            go_ret
            exact ⟨rfl, below_up H1.out (after_alloc H2.out)⟩
        · have t1 : ((t.kind : Int) == 0) = false := by rw [beq_eq_false_iff_ne]; omega
          by_cases c2 : k + 1 = l.length
          · have t2 : ((k : Int) == (l.length : Int) - 1) = true := by rw [beq_iff_eq]; omega
            have hf : b = false := by
              cases b with
              | false => rfl
              | true => exact absurd ((HM.out rfl).2 c2) c1
            subst hf
            clear HM HP c1 c2 HB
            go_wp2_with (go_at_call 51; refine (kt _).mono ?_; rintro e w1 ⟨rfl, h1⟩; obtain ⟨hc, hfz⟩ := bcell h1; have hzz := lt_after h1; have H2 := Lib.hid h1; clear h1)
            go_ret
            exact ⟨rfl, below_up H1.out (after_alloc H2.out)⟩
          · have t2 : ((k : Int) == (l.length : Int) - 1) = false := by rw [beq_eq_false_iff_ne]; omega
            have H3 := Lib.hid (HP.out ⟨fun h => absurd h c1, fun h => absurd h c2⟩)
            clear HM HP c1 c2
            go_wp2_with (go_at_call 51; refine (kt _).mono ?_; rintro e w1 ⟨rfl, h1⟩; obtain ⟨hc, hfz⟩ := bcell h1; have hzz := lt_after h1; have H2 := Lib.hid h1; clear h1)
            go_roundw
            case rel => exact ⟨k + 1, hlt, by go_num, Lib.hid ⟨below_up H1.out (after_alloc H2.out), H3.out⟩⟩
            case measure => simp [intOf]; omega
      · have kt := kn ht
        have hf : b = false := by
          cases b with
          | false => rfl
          | true => exact absurd (may_at (HB.out.1 rfl) k hlt).1 ht
        subst hf
        clear ky kn hti ht
        generalize l[k] = t at *
        have H1 := Lib.hid H.out.1
        clear H HIN HB
        go_wp2_with (go_at_call 51; refine (kt _).mono ?_; rintro e w1 ⟨rfl, h1⟩; obtain ⟨hc, hfz⟩ := bcell h1; have hzz := lt_after h1; have H2 := Lib.hid h1; clear h1)
        go_ret
        exact ⟨rfl, below_up H1.out (after_alloc H2.out)⟩
    · have hkl : k = l.length := by omega
      have H1 := Lib.hid H.out.1
      have hpre := H.out.2
      rw [hkl] at hpre
      by_cases h0 : l.length = 0
      · have hf : b = false := by
          cases b with
          | false => rfl
          | true => exact absurd (List.length_eq_zero_iff.1 h0) (HB.out.1 rfl).1
        subst hf
        have h0' : ¬ (0 : Int) ≤ (l.length : Int) - 1 := by omega
        clear hpre HB HIN H hkl
        go_wp2
        go_ret
        exact ⟨rfl, H1.out⟩
      · have hf : b = true := HB.out.2 (pre_all hpre (fun e => h0 (by rw [e]; rfl)))
        subst hf
        have h0' : (0 : Int) ≤ (l.length : Int) - 1 := by omega
        clear hpre HB HIN H hkl
        go_wp2
        go_ret
        exact ⟨ret_bool (decide_eq_true (by omega)), H1.out⟩

/-! ### Text -/
/-- what Text answers: the bytes and the error -/
def TextR (l : List Tk) (s : List UInt8) (k : Int) : Prop :=
  (16385 < l.length ∧ s = [] ∧ k = 4) ∨ (l.length ≤ 16385 ∧ ¬ MayP l ∧ s = [] ∧ k = 5) ∨ (l.length ≤ 16385 ∧ MayP l ∧ 65536 < (joinL l.dropLast).length ∧ s = [] ∧ k = 3) ∨ (l.length ≤ 16385 ∧ MayP l ∧ (joinL l.dropLast).length ≤ 65536 ∧ s = joinL l.dropLast ∧ k = 0)
theorem textR_any (l : List Tk) : ∃ s k, TextR l s k := by
  by_cases h1 : 16385 < l.length
  · exact ⟨_, _, Or.inl ⟨h1, rfl, rfl⟩⟩
  · by_cases h2 : MayP l
    · by_cases h3 : 65536 < (joinL l.dropLast).length
      · exact ⟨_, _, Or.inr (Or.inr (Or.inl ⟨by omega, h2, h3, rfl, rfl⟩))⟩
      · exact ⟨_, _, Or.inr (Or.inr (Or.inr ⟨by omega, h2, by omega, rfl, rfl⟩))⟩
    · exact ⟨_, _, Or.inr (Or.inl ⟨by omega, h2, rfl, rfl⟩)⟩
theorem join_take (l : List Tk) (k : Nat) (h : k < l.length) : joinL (l.take (k + 1)) = joinL (l.take k) ++ (if k = 0 then [] else [32]) ++ writL l[k] := by
  rw [List.take_succ_eq_append_getElem h, joinL_snoc]
  by_cases h0 : k = 0
  · subst h0; rfl
  · rw [if_neg h0, if_neg]
    intro e
    have := congrArg List.length e
    rw [List.length_take, List.length_nil] at this; omega
theorem join_pre (l : List Tk) (k : Nat) : (joinL (l.take k)).length ≤ (joinL l).length := by
  cases l with
  | nil => simp
  | cons t r =>
    cases k with
    | zero => simp [joinL]
    | succ k =>
      show (writL t ++ tailL (r.take k)).length ≤ (writL t ++ tailL r).length
      have : tailL r = tailL (r.take k) ++ tailL (r.drop k) := by unfold tailL; rw [← List.flatMap_append, List.take_append_drop]
      rw [this]; simp
theorem tab_below {w w' : World} (h : TabHere w) (hb : Below w.heap.size w w') : TabHere w' := fun x hx => h x (below_up hb hx)

def TextTo' (s : List UInt8) (k : Int) (w : World) (e : Ending) (w' : World) : Prop := e = .returned (.tuple #[.string (mkB s), .int .i64 k]) ∧ Below w.heap.size w w'
set_option maxHeartbeats 4000000 in
theorem Text_any (l : List Tk) (A : Option Addr) (cap : Nat) (w : World) (hr : RdA w A l) (hin : ∀ t ∈ l, TkIn t) (hl : l.length ≤ 100000) (hcap : l.length ≤ cap) (htab : TabHere w) (s : List UInt8) (k : Int) (h : TextR l s k) :
    Calls Tryz.prog 10 #[.slice A l.length cap] w (TextTo' s k w) := by
  rcases h with ⟨h1, rfl, rfl⟩ | ⟨h1, h2, rfl, rfl⟩ | h
  · have h1' : 16385 < (l.length : Int) := by omega
    clear hr hin htab
    go_enter Tryz.func10, Tryz.ntmps10
    go_wp2
    go_ret2
    exact ⟨rfl, Below.refl _ _⟩
  · have km := may_any l A cap w hr hin hl false ⟨fun h => (by cases h), fun h => absurd h h2⟩
    clear hr hin htab h2
    go_enter Tryz.func10, Tryz.ntmps10
    go_wp2_with (go_at_call 28; refine km.mono ?_; rintro e w1 ⟨rfl, h3⟩; have H3 := Lib.hid h3; clear h3)
    go_ret2
    exact ⟨rfl, H3.out⟩
  · have h1 : l.length ≤ 16385 := by rcases h with h | h <;> exact h.1
    have h2 : MayP l := by rcases h with h | h <;> exact h.2.1
    have km := may_any l A cap w hr hin hl true ⟨fun _ => h2, fun _ => rfl⟩
    have hpos : 0 < l.length := List.length_pos_iff.2 h2.1
    have hgood : ∀ (j : Nat) (hj : j < l.length), TokP l[j] := fun j hj => (may_at h2 j hj).1
    have HR := Lib.hid hr
    have HG := Lib.hid hgood
    have HT := Lib.hid htab
    have HH := Lib.hid h
    clear hr hin htab h2 hgood h hl
    go_enter Tryz.func10, Tryz.ntmps10
    go_wp2_with (go_at_call 28; refine km.mono ?_; rintro e w1 ⟨rfl, h3⟩; have H3 := Lib.hid h3; clear h3)
    have h4 := bf_alloc w1
    have hr1 := rda_up HR.out H3.out
    have ht1 := tab_below HT.out H3.out
    have H4 := Lib.hid h4
    have HR1 := Lib.hid hr1
    have HT1 := Lib.hid ht1
    clear h4 hr1 ht1 HR HT km
    go_loopw [19] (fun i wr => ∃ j : Nat, j + 1 ≤ l.length ∧ i = .int .i64 j ∧ Hid (BF w1.heap.size w1.heap.size (joinL (l.take j)) w1 wr ∧ (joinL (l.take j)).length ≤ 65536)) (fun i _ => l.length - (intOf i).toNat)
    case atStart => exact ⟨0, hpos, rfl, Lib.hid ⟨H4.out, by simp [joinL]⟩⟩
    case round =>
      obtain ⟨j, hj, rfl, H⟩ := hrel
      clear H4
      by_cases hlt : j + 1 < l.length
      · have hjl : j < l.length := by omega
        have hlt' : (j : Int) < (l.length : Int) - 1 := by omega
        obtain ⟨a, rfl, hab, a0, a1, a2, a3⟩ := rda_cells (rda_up HR1.out H.out.1.2.1) j hjl
        have ht := HG.out j hjl
        have kw := written_any l[j] ht
        have hjt := join_take l j hjl
        have hpre := join_pre l.dropLast (j + 1)
        rw [List.dropLast_eq_take, List.take_take, show min (j + 1) (l.length - 1) = j + 1 by omega, ← List.dropLast_eq_take] at hpre
        have hwl := writ_len ht
        generalize l[j] = t at *
        have H5 := Lib.hid H.out.1
        have HP := Lib.hid hpre
        have HJ := Lib.hid hjt
        have hlen := H.out.2
        have hst := store_f
        clear H ht hpre hjt
        generalize hQe : joinL (l.take (j + 1)) = Q at *
        have HQE := Lib.hid hQe
        clear hQe
        generalize joinL (l.take j) = P at *
        by_cases hj0 : j = 0
        · have hj1 : ¬ 0 < (j : Int) := by omega
          have HQ : Hid (P ++ (mkB (writL t)).data.toList = Q) := Lib.hid (by rw [HJ.out, if_pos hj0, List.append_nil, mkB_list])
          clear HJ hj0
          by_cases hbig : 65536 < Q.length
          · have hbig' : (65536 : Int) < (Q.length : Int) := by omega
            have HE : Hid (s = [] ∧ k = 3) := Lib.hid (by
              have h1 := HH.out
              have h2 := HP.out
              rcases h1 with h1 | h1
              · exact h1.2.2.2
              · have := h1.2.2.1; omega)
            clear hbig HH HP
            go_wp2_with (first
              | (go_at_call 31; refine (kw _ (tab_below HT1.out (bf_up H5.out (zero_alloc _ _)).2.1)).mono ?_; rintro e w3 ⟨rfl, h8⟩; have H8 := Lib.hid (bf_up (bf_up H5.out (zero_alloc _ _)) h8); clear h8)
              | (go_at_call 30; refine (bf_str _ H8.out (by rw [mkB_size]; omega)).mono ?_; rintro e w4 ⟨rfl, h9, _⟩; rw [HQ.out] at h9; have H9 := Lib.hid h9; clear h9)
              | (go_at_call 32; refine (bf_len H9.out).mono ?_; rintro e w5 ⟨rfl, rfl⟩))
            go_ret2
            rw [HE.out.1, HE.out.2]
            exact ⟨rfl, below_up H3.out H9.out.2.1⟩
          · have hbig' : ¬ (65536 : Int) < (Q.length : Int) := by omega
            go_wp2_with (first
              | (go_at_call 31; refine (kw _ (tab_below HT1.out (bf_up H5.out (zero_alloc _ _)).2.1)).mono ?_; rintro e w3 ⟨rfl, h8⟩; have H8 := Lib.hid (bf_up (bf_up H5.out (zero_alloc _ _)) h8); clear h8)
              | (go_at_call 30; refine (bf_str _ H8.out (by rw [mkB_size]; omega)).mono ?_; rintro e w4 ⟨rfl, h9, _⟩; rw [HQ.out] at h9; have H9 := Lib.hid h9; clear h9)
              | (go_at_call 32; refine (bf_len H9.out).mono ?_; rintro e w5 ⟨rfl, rfl⟩))
            go_roundw
            case rel => exact ⟨j + 1, hlt, by go_num, Lib.hid (by rw [HQE.out]; exact ⟨H9.out, by omega⟩)⟩
            case measure => simp [intOf]; omega
        · have hj1 : 0 < (j : Int) := by omega
          have HQ : Hid (P ++ [32] ++ (mkB (writL t)).data.toList = Q) := Lib.hid (by rw [HJ.out, if_neg hj0, mkB_list])
          have hne : wr.heap.size ≠ w1.heap.size := by have := bf_lt H5.out; omega
          have HNE := Lib.hid hne
          clear HJ hj0 hne
          by_cases hbig : 65536 < Q.length
          · have hbig' : (65536 : Int) < (Q.length : Int) := by omega
            have HE : Hid (s = [] ∧ k = 3) := Lib.hid (by
              have h1 := HH.out
              have h2 := HP.out
              rcases h1 with h1 | h1
              · exact h1.2.2.2
              · have := h1.2.2.1; omega)
            clear hbig HH HP
            go_wp2_with (first
              | (go_at_call 29; refine (bf_blank (bf_up H5.out (zero_alloc _ _)) (by omega)).mono ?_; rintro e w2 ⟨rfl, h6, hk6⟩; have H7 := Lib.hid h6; have hblk := kept_blk hk6 (heap_alloc_new wr _) HNE.out (by decide); have b0 : w2.cell? ⟨wr.heap.size, 0, none⟩ = some (.int .u8 (t.kind : Int)) := blk_cell hblk 0; have b1 : w2.cell? ⟨wr.heap.size, 1, none⟩ = some (.int .i64 t.pos) := blk_cell hblk 1; have b2 : w2.cell? ⟨wr.heap.size, 2, none⟩ = some (.string t.text) := blk_cell hblk 2; have b3 : w2.cell? ⟨wr.heap.size, 3, none⟩ = some (.float .f64 t.num) := blk_cell hblk 3; clear h6 hk6 hblk)
              | (go_at_call 31; refine (kw _ (tab_below HT1.out H7.out.2.1)).mono ?_; rintro e w3 ⟨rfl, h8⟩; have H8 := Lib.hid (bf_up H7.out h8); clear h8)
              | (go_at_call 30; refine (bf_str _ H8.out (by rw [mkB_size, List.length_append, List.length_singleton]; omega)).mono ?_; rintro e w4 ⟨rfl, h9, _⟩; rw [HQ.out] at h9; have H9 := Lib.hid h9; clear h9)
              | (go_at_call 32; refine (bf_len H9.out).mono ?_; rintro e w5 ⟨rfl, rfl⟩))
            go_ret2
            rw [HE.out.1, HE.out.2]
            exact ⟨rfl, below_up H3.out H9.out.2.1⟩
          · have hbig' : ¬ (65536 : Int) < (Q.length : Int) := by omega
            go_wp2_with (first
              | (go_at_call 29; refine (bf_blank (bf_up H5.out (zero_alloc _ _)) (by omega)).mono ?_; rintro e w2 ⟨rfl, h6, hk6⟩; have H7 := Lib.hid h6; have hblk := kept_blk hk6 (heap_alloc_new wr _) HNE.out (by decide); have b0 : w2.cell? ⟨wr.heap.size, 0, none⟩ = some (.int .u8 (t.kind : Int)) := blk_cell hblk 0; have b1 : w2.cell? ⟨wr.heap.size, 1, none⟩ = some (.int .i64 t.pos) := blk_cell hblk 1; have b2 : w2.cell? ⟨wr.heap.size, 2, none⟩ = some (.string t.text) := blk_cell hblk 2; have b3 : w2.cell? ⟨wr.heap.size, 3, none⟩ = some (.float .f64 t.num) := blk_cell hblk 3; clear h6 hk6 hblk)
              | (go_at_call 31; refine (kw _ (tab_below HT1.out H7.out.2.1)).mono ?_; rintro e w3 ⟨rfl, h8⟩; have H8 := Lib.hid (bf_up H7.out h8); clear h8)
              | (go_at_call 30; refine (bf_str _ H8.out (by rw [mkB_size, List.length_append, List.length_singleton]; omega)).mono ?_; rintro e w4 ⟨rfl, h9, _⟩; rw [HQ.out] at h9; have H9 := Lib.hid h9; clear h9)
              | (go_at_call 32; refine (bf_len H9.out).mono ?_; rintro e w5 ⟨rfl, rfl⟩))
            go_roundw
            case rel => exact ⟨j + 1, hlt, by go_num, Lib.hid (by rw [HQE.out]; exact ⟨H9.out, by omega⟩)⟩
            case measure => simp [intOf]; omega
      · have hjl : j + 1 = l.length := by omega
        have HE : Hid (s = joinL (l.take j) ∧ k = 0) := Lib.hid (by
          have h1 := HH.out
          have h2 := H.out.2
          have e : l.dropLast = l.take j := by rw [List.dropLast_eq_take, show l.length - 1 = j by omega]
          rw [e] at h1
          rcases h1 with h1 | h1
          · have := h1.2.2.1; omega
          · exact h1.2.2.2)
        have hlt' : ¬ (j : Int) < (l.length : Int) - 1 := by omega
        have H5 := Lib.hid H.out.1
        clear H HH
        go_wp2_with (go_at_call 33; refine (bf_string H5.out).mono ?_; rintro e w2 ⟨rfl, h6⟩; have H6 := Lib.hid h6; clear h6)
        go_ret2
        rw [HE.out.1, HE.out.2]
        exact ⟨rfl, below_up H3.out H6.out⟩
end Go.Proofs.YtgjpcoplnpkmoaaGreatDoor.S
