/-
  Tokens written as a text: walks of package lex's may and Text.
-/
import Derived.Test.YtablckajobefeaaGreatDoorPN08
import Derived.Test.YtablckajobefeaaGreatDoorPN07
import Derived.Test.YtablckajobefeaaGreatDoorPN06
import Derived.Maps.AppendAt
import Derived.Deep.Heap
import Derived.WalkLawsBesides
namespace Go.Proofs.YtablckajobefeaaGreatDoor.S
open Go.RowKit Fl

/-- the four cells of one token, as a load spells them -/
theorem rda_cells {w : World} {A : Option Addr} {l : List Tk} (h : RdA w A l) (k : Nat) (hk : k < l.length) : ∃ a, A = some a ∧ a.block < w.heap.size ∧
    w.cell? (a.add (k * 4)) = some (.int .u8 (l[k].kind : Int)) ∧ w.cell? ⟨(a.add (k * 4)).block, (a.add (k * 4)).off + 1, none⟩ = some (.int .i64 l[k].pos) ∧ w.cell? ⟨(a.add (k * 4)).block, (a.add (k * 4)).off + 2, none⟩ = some (.string l[k].text) ∧ w.cell? ⟨(a.add (k * 4)).block, (a.add (k * 4)).off + 3, none⟩ = some (.float .f64 l[k].num) := by
  obtain ⟨a, ha, hlt, c0, c1, c2, c3⟩ := rda_at h k hk
  refine ⟨a, ha, hlt, c0, ?_, ?_, ?_⟩
  · rw [← add_of_add] at c1; exact c1
  · rw [← add_of_add] at c2; exact c2
  · rw [← add_of_add] at c3; exact c3
def PreP (l : List Tk) (k : Nat) : Prop := ∀ (j : Nat) (t : Tk), j < k → l[j]? = some t → TokP t ∧ (t.kind = 0 ↔ j + 1 = l.length)
theorem pre_step {l : List Tk} {k : Nat} (h : PreP l k) (hk : k < l.length) (h1 : TokP l[k]) (h2 : l[k].kind = 0 ↔ k + 1 = l.length) : PreP l (k + 1) := by
  intro j t hj ht
  by_cases c : j = k
  · subst c
    rw [List.getElem?_eq_getElem hk] at ht
    cases ht
    exact ⟨h1, h2⟩
  · exact h j t (by omega) ht
theorem pre_all {l : List Tk} (h : PreP l l.length) (h0 : l ≠ []) : MayP l := ⟨h0, fun i t ht => h i t (List.getElem?_eq_some_iff.1 ht).1 ht⟩
theorem may_at {l : List Tk} (h : MayP l) (k : Nat) (hk : k < l.length) : TokP l[k] ∧ (l[k].kind = 0 ↔ k + 1 = l.length) := h.2 k _ (List.getElem?_eq_getElem hk)

set_option maxHeartbeats 2000000 in
theorem may_any (l : List Tk) (A : Option Addr) (cap : Nat) (w : World) (hr : RdA w A l) (hin : ∀ t ∈ l, TkIn t) (hl : l.length ≤ 100000) (b : Bool) (hb : b = true ↔ MayP l) :
    Calls Tryz.prog 30 #[.slice A l.length cap] w fun e w' => e = .returned (.bool b) ∧ Below w.heap.size w w' := by
  have HR := Lib.hid hr
  have HIN := Lib.hid hin
  have HB := Lib.hid hb
  clear hr hin hb
  go_enter Tryz.func30, Tryz.ntmps30
  go_wp2_with (fail)
  go_loopw [11] (fun i wr => ∃ k : Nat, k ≤ l.length ∧ i = .int .i64 k ∧ Hid (Below w.heap.size w wr ∧ PreP l k)) (fun i _ => l.length - (intOf i).toNat)
  case atStart => exact ⟨0, Nat.zero_le _, rfl, Lib.hid ⟨Below.refl _ _, fun j t hj => by omega⟩⟩
  case round =>
    obtain ⟨k, hk, rfl, H⟩ := hrel
    by_cases hlt : k < l.length
    · obtain ⟨a, rfl, hab, a0, a1, a2, a3⟩ := rda_cells (rda_up HR.out H.out.1) k hlt
      have hti := HIN.out l[k] (List.getElem_mem _)
      have hst := store_f
      have ky := told_yes l[k] hti
      have kn := told_no l[k] hti
      by_cases ht : TokP l[k]
      · have kt := ky ht
        clear ky kn hti
        have hpre := fun h2 => pre_step H.out.2 hlt ht h2
        have hmay := fun h => (may_at (HB.out.1 h) k hlt).2
        clear ht
        generalize l[k] = t at *
        have H1 := Lib.hid H.out.1
        have HP := Lib.hid hpre
        have HM := Lib.hid hmay
        clear H hpre hmay HIN
        by_cases c1 : t.kind = 0
        · have t1 : ((t.kind : Int) == 0) = true := by rw [c1]; rfl
          by_cases c2 : k + 1 = l.length
          · have t2 : ((k : Int) == (l.length : Int) - 1) = true := by rw [beq_iff_eq]; omega
            have H3 := Lib.hid (HP.out ⟨fun _ => c2, fun _ => c1⟩)
            clear HM HP c1 c2
            go_wp2_with (go_at_call 56; refine (kt _).mono ?_; rintro e w1 ⟨rfl, h1⟩; obtain ⟨hc, hfz⟩ := bcell h1; have hzz := lt_after h1; have H2 := Lib.hid h1; clear h1)
            go_roundw
            case rel => exact ⟨k + 1, hlt, by go_num, Lib.hid ⟨below_up H1.out (after_alloc H2.out), H3.out⟩⟩
            case measure => simp [intOf]; omega
          · have t2 : ((k : Int) == (l.length : Int) - 1) = false := by rw [beq_eq_false_iff_ne]; omega
            have hf : b = false := by
              cases b with
              | false => rfl
              | true => exact absurd ((HM.out rfl).1 c1) c2
            subst hf
            clear HM HP c1 c2 HB
            go_wp2_with (go_at_call 56; refine (kt _).mono ?_; rintro e w1 ⟨rfl, h1⟩; obtain ⟨hc, hfz⟩ := bcell h1; have hzz := lt_after h1; have H2 := Lib.hid h1; clear h1)
            go_ret
            exact ⟨rfl, below_up H1.out (after_alloc H2.out)⟩
        · have t1 : ((t.kind : Int) == 0) = false := by rw [beq_eq_false_iff_ne]; omega
          by_cases c2 : k + 1 = l.length
          · have t2 : ((k : Int) == (l.length : Int) - 1) = true := by rw [beq_iff_eq]; omega
            have hf : b = false := by
              cases b with
              | false => rfl
              | true => exact absurd ((HM.out rfl).2 c2) c1
            subst hf
            clear HM HP c1 c2 HB
            go_wp2_with (go_at_call 56; refine (kt _).mono ?_; rintro e w1 ⟨rfl, h1⟩; obtain ⟨hc, hfz⟩ := bcell h1; have hzz := lt_after h1; have H2 := Lib.hid h1; clear h1)
            go_ret
            exact ⟨rfl, below_up H1.out (after_alloc H2.out)⟩
          · have t2 : ((k : Int) == (l.length : Int) - 1) = false := by rw [beq_eq_false_iff_ne]; omega
            have H3 := Lib.hid (HP.out ⟨fun h => absurd h c1, fun h => absurd h c2⟩)
            clear HM HP c1 c2
            go_wp2_with (go_at_call 56; refine (kt _).mono ?_; rintro e w1 ⟨rfl, h1⟩; obtain ⟨hc, hfz⟩ := bcell h1; have hzz := lt_after h1; have H2 := Lib.hid h1; clear h1)
            go_roundw
            case rel => exact ⟨k + 1, hlt, by go_num, Lib.hid ⟨below_up H1.out (after_alloc H2.out), H3.out⟩⟩
            case measure => simp [intOf]; omega
      · have kt := kn ht
        have hf : b = false := by
          cases b with
          | false => rfl
          | true => exact absurd (may_at (HB.out.1 rfl) k hlt).1 ht
        subst hf
        clear ky kn hti ht
        generalize l[k] = t at *
        have H1 := Lib.hid H.out.1
        clear H HIN HB
        go_wp2_with (go_at_call 56; refine (kt _).mono ?_; rintro e w1 ⟨rfl, h1⟩; obtain ⟨hc, hfz⟩ := bcell h1; have hzz := lt_after h1; have H2 := Lib.hid h1; clear h1)
        go_ret
        exact ⟨rfl, below_up H1.out (after_alloc H2.out)⟩
    · have hkl : k = l.length := by omega
      have H1 := Lib.hid H.out.1
      have hpre := H.out.2
      rw [hkl] at hpre
      by_cases h0 : l.length = 0
      · have hf : b = false := by
          cases b with
          | false => rfl
          | true => exact absurd (List.length_eq_zero_iff.1 h0) (HB.out.1 rfl).1
        subst hf
        have h0' : ¬ (0 : Int) ≤ (l.length : Int) - 1 := by omega
        clear hpre HB HIN H hkl
        go_wp2
        go_ret
        exact ⟨rfl, H1.out⟩
      · have hf : b = true := HB.out.2 (pre_all hpre (fun e => h0 (by rw [e]; rfl)))
        subst hf
        have h0' : (0 : Int) ≤ (l.length : Int) - 1 := by omega
        clear hpre HB HIN H hkl
        go_wp2
        go_ret
        exact ⟨ret_bool (decide_eq_true (by omega)), H1.out⟩

/-! ### Text -/
/-- what Text answers: the bytes and the error -/
def TextR (l : List Tk) (s : List UInt8) (k : Int) : Prop :=
  (16385 < l.length ∧ s = [] ∧ k = 4) ∨ (l.length ≤ 16385 ∧ ¬ MayP l ∧ s = [] ∧ k = 5) ∨ (l.length ≤ 16385 ∧ MayP l ∧ 65536 < (joinL l.dropLast).length ∧ s = [] ∧ k = 3) ∨ (l.length ≤ 16385 ∧ MayP l ∧ (joinL l.dropLast).length ≤ 65536 ∧ s = joinL l.dropLast ∧ k = 0)
theorem textR_any (l : List Tk) : ∃ s k, TextR l s k := by
  by_cases h1 : 16385 < l.length
  · exact ⟨_, _, Or.inl ⟨h1, rfl, rfl⟩⟩
  · by_cases h2 : MayP l
    · by_cases h3 : 65536 < (joinL l.dropLast).length
      · exact ⟨_, _, Or.inr (Or.inr (Or.inl ⟨by omega, h2, h3, rfl, rfl⟩))⟩
      · exact ⟨_, _, Or.inr (Or.inr (Or.inr ⟨by omega, h2, by omega, rfl, rfl⟩))⟩
    · exact ⟨_, _, Or.inr (Or.inl ⟨by omega, h2, rfl, rfl⟩)⟩
theorem join_take (l : List Tk) (k : Nat) (h : k < l.length) : joinL (l.take (k + 1)) = joinL (l.take k) ++ (if k = 0 then [] else [32]) ++ writL l[k] := by
  rw [List.take_succ_eq_append_getElem h, joinL_snoc]
  by_cases h0 : k = 0
  · subst h0; rfl
  · rw [if_neg h0, if_neg]
    intro e
    have := congrArg List.length e
    rw [List.length_take, List.length_nil] at this; omega
theorem join_pre (l : List Tk) (k : Nat) : (joinL (l.take k)).length ≤ (joinL l).length := by
  cases l with
  | nil => simp
  | cons t r =>
    cases k with
    | zero => simp [joinL]
    | succ k =>
      show (writL t ++ tailL (r.take k)).length ≤ (writL t ++ tailL r).length
      have : tailL r = tailL (r.take k) ++ tailL (r.drop k) := by unfold tailL; rw [← List.flatMap_append, List.take_append_drop]
      rw [this]; simp
theorem tab_below {w w' : World} (h : TabHere w) (hb : Below w.heap.size w w') : TabHere w' := fun x hx => h x (below_up hb hx)

def TextTo' (s : List UInt8) (k : Int) (w : World) (e : Ending) (w' : World) : Prop := e = .returned (.tuple #[.string (mkB s), .int .i64 k]) ∧ Below w.heap.size w w'
set_option maxHeartbeats 4000000 in
theorem Text_any (l : List Tk) (A : Option Addr) (cap : Nat) (w : World) (hr : RdA w A l) (hin : ∀ t ∈ l, TkIn t) (hl : l.length ≤ 100000) (hcap : l.length ≤ cap) (htab : TabHere w) (s : List UInt8) (k : Int) (h : TextR l s k) :
    Calls Tryz.prog 19 #[.slice A l.length cap] w (TextTo' s k w) := by
  rcases h with ⟨h1, rfl, rfl⟩ | ⟨h1, h2, rfl, rfl⟩ | h
  · have h1' : 16385 < (l.length : Int) := by omega
    clear hr hin htab
    go_enter Tryz.func19, Tryz.ntmps19
    go_wp2
    go_ret2
    exact ⟨rfl, Below.refl _ _⟩
  · have km := may_any l A cap w hr hin hl false ⟨fun h => (by cases h), fun h => absurd h h2⟩
    clear hr hin htab h2
    go_enter Tryz.func19, Tryz.ntmps19
    go_wp2_with (go_at_call 30; refine km.mono ?_; rintro e w1 ⟨rfl, h3⟩; have H3 := Lib.hid h3; clear h3)
    go_ret2
    exact ⟨rfl, H3.out⟩
  · have h1 : l.length ≤ 16385 := by rcases h with h | h <;> exact h.1
    have h2 : MayP l := by rcases h with h | h <;> exact h.2.1
    have km := may_any l A cap w hr hin hl true ⟨fun _ => h2, fun _ => rfl⟩
    have hpos : 0 < l.length := List.length_pos_iff.2 h2.1
    have hgood : ∀ (j : Nat) (hj : j < l.length), TokP l[j] := fun j hj => (may_at h2 j hj).1
    have HR := Lib.hid hr
    have HG := Lib.hid hgood
    have HT := Lib.hid htab
    have HH := Lib.hid h
    clear hr hin htab h2 hgood h hl
    go_enter Tryz.func19, Tryz.ntmps19
    go_wp2_with (go_at_call 30; refine km.mono ?_; rintro e w1 ⟨rfl, h3⟩; have H3 := Lib.hid h3; clear h3)
    have h4 := bf_alloc w1
    have hr1 := rda_up HR.out H3.out
    have ht1 := tab_below HT.out H3.out
    have H4 := Lib.hid h4
    have HR1 := Lib.hid hr1
    have HT1 := Lib.hid ht1
    clear h4 hr1 ht1 HR HT km
    go_loopw [19] (fun i wr => ∃ j : Nat, j + 1 ≤ l.length ∧ i = .int .i64 j ∧ Hid (BF w1.heap.size w1.heap.size (joinL (l.take j)) w1 wr ∧ (joinL (l.take j)).length ≤ 65536)) (fun i _ => l.length - (intOf i).toNat)
    case atStart => exact ⟨0, hpos, rfl, Lib.hid ⟨H4.out, by simp [joinL]⟩⟩
    case round =>
      obtain ⟨j, hj, rfl, H⟩ := hrel
      clear H4
      by_cases hlt : j + 1 < l.length
      · have hjl : j < l.length := by omega
        have hlt' : (j : Int) < (l.length : Int) - 1 := by omega
        obtain ⟨a, rfl, hab, a0, a1, a2, a3⟩ := rda_cells (rda_up HR1.out H.out.1.2.1) j hjl
        have ht := HG.out j hjl
        have kw := written_any l[j] ht
        have hjt := join_take l j hjl
        have hpre := join_pre l.dropLast (j + 1)
        rw [List.dropLast_eq_take, List.take_take, show min (j + 1) (l.length - 1) = j + 1 by omega, ← List.dropLast_eq_take] at hpre
        have hwl := writ_len ht
        generalize l[j] = t at *
        have H5 := Lib.hid H.out.1
        have HP := Lib.hid hpre
        have HJ := Lib.hid hjt
        have hlen := H.out.2
        have hst := store_f
        clear H ht hpre hjt
        generalize hQe : joinL (l.take (j + 1)) = Q at *
        have HQE := Lib.hid hQe
        clear hQe
        generalize joinL (l.take j) = P at *
        by_cases hj0 : j = 0
        · have hj1 : ¬ 0 < (j : Int) := by omega
          have HQ : Hid (P ++ (mkB (writL t)).data.toList = Q) := Lib.hid (by rw [HJ.out, if_pos hj0, List.append_nil, mkB_list])
          clear HJ hj0
          by_cases hbig : 65536 < Q.length
          · have hbig' : (65536 : Int) < (Q.length : Int) := by omega
            have HE : Hid (s = [] ∧ k = 3) := Lib.hid (by
              have h1 := HH.out
              have h2 := HP.out
              rcases h1 with h1 | h1
              · exact h1.2.2.2
              · have := h1.2.2.1; omega)
            clear hbig HH HP
            go_wp2_with (first
              | (go_at_call 33; refine (kw _ (tab_below HT1.out (bf_up H5.out (zero_alloc _ _)).2.1)).mono ?_; rintro e w3 ⟨rfl, h8⟩; have H8 := Lib.hid (bf_up (bf_up H5.out (zero_alloc _ _)) h8); clear h8)
              | (go_at_call 32; refine (bf_str _ H8.out (by rw [mkB_size]; omega)).mono ?_; rintro e w4 ⟨rfl, h9, _⟩; rw [HQ.out] at h9; have H9 := Lib.hid h9; clear h9)
              | (go_at_call 34; refine (bf_len H9.out).mono ?_; rintro e w5 ⟨rfl, rfl⟩))
            go_ret2
            rw [HE.out.1, HE.out.2]
            exact ⟨rfl, below_up H3.out H9.out.2.1⟩
          · have hbig' : ¬ (65536 : Int) < (Q.length : Int) := by omega
            go_wp2_with (first
              | (go_at_call 33; refine (kw _ (tab_below HT1.out (bf_up H5.out (zero_alloc _ _)).2.1)).mono ?_; rintro e w3 ⟨rfl, h8⟩; have H8 := Lib.hid (bf_up (bf_up H5.out (zero_alloc _ _)) h8); clear h8)
              | (go_at_call 32; refine (bf_str _ H8.out (by rw [mkB_size]; omega)).mono ?_; rintro e w4 ⟨rfl, h9, _⟩; rw [HQ.out] at h9; have H9 := Lib.hid h9; clear h9)
              | (go_at_call 34; refine (bf_len H9.out).mono ?_; rintro e w5 ⟨rfl, rfl⟩))
            go_roundw
            case rel => exact ⟨j + 1, hlt, by go_num, Lib.hid (by rw [HQE.out]; exact ⟨H9.out, by omega⟩)⟩
            case measure => simp [intOf]; omega
        · have hj1 : 0 < (j : Int) := by omega
          have HQ : Hid (P ++ [32] ++ (mkB (writL t)).data.toList = Q) := Lib.hid (by rw [HJ.out, if_neg hj0, mkB_list])
          have hne : wr.heap.size ≠ w1.heap.size := by have := bf_lt H5.out; omega
          have HNE := Lib.hid hne
          clear HJ hj0 hne
          by_cases hbig : 65536 < Q.length
          · have hbig' : (65536 : Int) < (Q.length : Int) := by omega
            have HE : Hid (s = [] ∧ k = 3) := Lib.hid (by
              have h1 := HH.out
              have h2 := HP.out
              rcases h1 with h1 | h1
              · exact h1.2.2.2
              · have := h1.2.2.1; omega)
            clear hbig HH HP
            go_wp2_with (first
              | (go_at_call 31; refine (bf_blank (bf_up H5.out (zero_alloc _ _)) (by omega)).mono ?_; rintro e w2 ⟨rfl, h6, hk6⟩; have H7 := Lib.hid h6; have hblk := kept_blk hk6 (heap_alloc_new wr _) HNE.out (by decide); have b0 : w2.cell? ⟨wr.heap.size, 0, none⟩ = some (.int .u8 (t.kind : Int)) := blk_cell hblk 0; have b1 : w2.cell? ⟨wr.heap.size, 1, none⟩ = some (.int .i64 t.pos) := blk_cell hblk 1; have b2 : w2.cell? ⟨wr.heap.size, 2, none⟩ = some (.string t.text) := blk_cell hblk 2; have b3 : w2.cell? ⟨wr.heap.size, 3, none⟩ = some (.float .f64 t.num) := blk_cell hblk 3; clear h6 hk6 hblk)
              | (go_at_call 33; refine (kw _ (tab_below HT1.out H7.out.2.1)).mono ?_; rintro e w3 ⟨rfl, h8⟩; have H8 := Lib.hid (bf_up H7.out h8); clear h8)
              | (go_at_call 32; refine (bf_str _ H8.out (by rw [mkB_size, List.length_append, List.length_singleton]; omega)).mono ?_; rintro e w4 ⟨rfl, h9, _⟩; rw [HQ.out] at h9; have H9 := Lib.hid h9; clear h9)
              | (go_at_call 34; refine (bf_len H9.out).mono ?_; rintro e w5 ⟨rfl, rfl⟩))
            go_ret2
            rw [HE.out.1, HE.out.2]
            exact ⟨rfl, below_up H3.out H9.out.2.1⟩
          · have hbig' : ¬ (65536 : Int) < (Q.length : Int) := by omega
            go_wp2_with (first
              | (go_at_call 31; refine (bf_blank (bf_up H5.out (zero_alloc _ _)) (by omega)).mono ?_; rintro e w2 ⟨rfl, h6, hk6⟩; have H7 := Lib.hid h6; have hblk := kept_blk hk6 (heap_alloc_new wr _) HNE.out (by decide); have b0 : w2.cell? ⟨wr.heap.size, 0, none⟩ = some (.int .u8 (t.kind : Int)) := blk_cell hblk 0; have b1 : w2.cell? ⟨wr.heap.size, 1, none⟩ = some (.int .i64 t.pos) := blk_cell hblk 1; have b2 : w2.cell? ⟨wr.heap.size, 2, none⟩ = some (.string t.text) := blk_cell hblk 2; have b3 : w2.cell? ⟨wr.heap.size, 3, none⟩ = some (.float .f64 t.num) := blk_cell hblk 3; clear h6 hk6 hblk)
              | (go_at_call 33; refine (kw _ (tab_below HT1.out H7.out.2.1)).mono ?_; rintro e w3 ⟨rfl, h8⟩; have H8 := Lib.hid (bf_up H7.out h8); clear h8)
              | (go_at_call 32; refine (bf_str _ H8.out (by rw [mkB_size, List.length_append, List.length_singleton]; omega)).mono ?_; rintro e w4 ⟨rfl, h9, _⟩; rw [HQ.out] at h9; have H9 := Lib.hid h9; clear h9)
              | (go_at_call 34; refine (bf_len H9.out).mono ?_; rintro e w5 ⟨rfl, rfl⟩))
            go_roundw
            case rel => exact ⟨j + 1, hlt, by go_num, Lib.hid (by rw [HQE.out]; exact ⟨H9.out, by omega⟩)⟩
            case measure => simp [intOf]; omega
      · have hjl : j + 1 = l.length := by omega
        have HE : Hid (s = joinL (l.take j) ∧ k = 0) := Lib.hid (by
          have h1 := HH.out
          have h2 := H.out.2
          have e : l.dropLast = l.take j := by rw [List.dropLast_eq_take, show l.length - 1 = j by omega]
          rw [e] at h1
          rcases h1 with h1 | h1
          · have := h1.2.2.1; omega
          · exact h1.2.2.2)
        have hlt' : ¬ (j : Int) < (l.length : Int) - 1 := by omega
        have H5 := Lib.hid H.out.1
        clear H HH
        go_wp2_with (go_at_call 35; refine (bf_string H5.out).mono ?_; rintro e w2 ⟨rfl, h6⟩; have H6 := Lib.hid h6; clear h6)
        go_ret2
        rw [HE.out.1, HE.out.2]
        exact ⟨rfl, below_up H3.out H6.out⟩
end Go.Proofs.YtablckajobefeaaGreatDoor.S
/-
  The parser's memory: where a parser, its tokens and its parts lie, and what stays when it goes on.
-/
namespace Go.Proofs.YtablckajobefeaaGreatDoor.S
open Go.RowKit Fl

/-- a row of pointers at A's block (all in blocks that are ok) -/
def RowV (w : World) (ok : Nat → Prop) (A : Option Addr) (vs : List Value) : Prop :=
  0 < vs.length → ∃ h : Nat, A = some ⟨h, 0, none⟩ ∧ ok h ∧ h < w.heap.size ∧ ∀ (i : Nat) (v : Value), vs[i]? = some v → w.cell? ⟨h, i, none⟩ = some v
mutual
/-- v points to a part that reads as the tree -/
def PartAt (w : World) (ok : Nat → Prop) : Tr → Value → Prop
  | .mk k p t x l, v => ∃ (g : Nat) (A : Option Addr) (cap : Nat) (vs : List Value), v = .pointer (some ⟨g, 0, none⟩) ∧ ok g ∧
      w.heap[g]? = some (.cells #[.int .u8 (k : Int), .int .i64 p, .string t, .float .f64 x, .slice none 0 0, .slice A l.length cap] 98 (0, 0)) ∧
      vs.length = l.length ∧ RowV w ok A vs ∧ PartsAt w ok l vs
def PartsAt (w : World) (ok : Nat → Prop) : List Tr → List Value → Prop
  | [], vs => vs = []
  | t :: l, vs => ∃ v r, vs = v :: r ∧ PartAt w ok t v ∧ PartsAt w ok l r
end
theorem rowv_up {w w' : World} {ok ok' : Nat → Prop} {A : Option Addr} {vs : List Value} (h : RowV w ok A vs) (hs : w.heap.size ≤ w'.heap.size) (hk : ∀ k, ok k → k < w.heap.size → ok' k ∧ w'.heap[k]? = w.heap[k]?) : RowV w' ok' A vs := fun hp => by
  obtain ⟨g, h1, h2, h3, h4⟩ := h hp
  obtain ⟨k1, k2⟩ := hk g h2 h3
  exact ⟨g, h1, k1, Nat.lt_of_lt_of_le h3 hs, fun i v hv => by rw [World.cell?_of_block (a := ⟨g, i, none⟩) k2]; exact h4 i v hv⟩
theorem lt_of_blk {w : World} {g : Nat} {o : Obj} (h : w.heap[g]? = some o) : g < w.heap.size := (Array.getElem?_eq_some_iff.1 h).1
mutual
theorem part_up {w w' : World} {ok ok' : Nat → Prop} (hs : w.heap.size ≤ w'.heap.size) (hk : ∀ k, ok k → k < w.heap.size → ok' k ∧ w'.heap[k]? = w.heap[k]?) : ∀ (t : Tr) (v : Value), PartAt w ok t v → PartAt w' ok' t v
  | .mk k p t x l, v, h => by
    unfold PartAt at h ⊢
    obtain ⟨g, A, cap, vs, h1, h2, h3, h4, h5, h6⟩ := h
    obtain ⟨k1, k2⟩ := hk g h2 (lt_of_blk h3)
    exact ⟨g, A, cap, vs, h1, k1, k2.trans h3, h4, rowv_up h5 hs hk, parts_up hs hk l vs h6⟩
theorem parts_up {w w' : World} {ok ok' : Nat → Prop} (hs : w.heap.size ≤ w'.heap.size) (hk : ∀ k, ok k → k < w.heap.size → ok' k ∧ w'.heap[k]? = w.heap[k]?) : ∀ (l : List Tr) (vs : List Value), PartsAt w ok l vs → PartsAt w' ok' l vs
  | [], vs, h => by unfold PartsAt at h ⊢; exact h
  | t :: l, vs, h => by
    unfold PartsAt at h ⊢
    obtain ⟨v, r, h1, h2, h3⟩ := h
    exact ⟨v, r, h1, part_up hs hk t v h2, parts_up hs hk l r h3⟩
end
theorem parts_len {w : World} {ok : Nat → Prop} : ∀ (l : List Tr) (vs : List Value), PartsAt w ok l vs → vs.length = l.length
  | [], vs, h => by unfold PartsAt at h; subst h; rfl
  | t :: l, vs, h => by
    unfold PartsAt at h
    obtain ⟨v, r, rfl, h2, h3⟩ := h
    simp [parts_len l r h3]
theorem parts_snoc {w : World} {ok : Nat → Prop} {t : Tr} {v : Value} (hv : PartAt w ok t v) : ∀ (l : List Tr) (vs : List Value), PartsAt w ok l vs → PartsAt w ok (l ++ [t]) (vs ++ [v])
  | [], vs, h => by unfold PartsAt at h; subst h; simp only [List.nil_append]; unfold PartsAt; exact ⟨v, [], rfl, hv, by unfold PartsAt; rfl⟩
  | u :: l, vs, h => by
    unfold PartsAt at h
    obtain ⟨x, r, rfl, h2, h3⟩ := h
    simp only [List.cons_append]
    unfold PartsAt
    exact ⟨x, r ++ [v], rfl, h2, parts_snoc hv l r h3⟩
theorem parts_cons {w : World} {ok : Nat → Prop} {t : Tr} {v : Value} {l : List Tr} {vs : List Value} (hv : PartAt w ok t v) (h : PartsAt w ok l vs) : PartsAt w ok (t :: l) (v :: vs) := by unfold PartsAt; exact ⟨v, vs, rfl, hv, h⟩
theorem parts_nil {w : World} {ok : Nat → Prop} : PartsAt w ok [] [] := by unfold PartsAt; rfl

/-- where a parser stands: its block, its tokens' slice -/
structure Pz where
  b : Nat
  A : Option Addr
  cap : Nat
  T : List Tk
/-- the parser is so far; its tokens lie elsewhere -/
structure At (z : Pz) (s : Ps) (w : World) : Prop where
  blk : w.heap[z.b]? = some (.cells #[.slice z.A z.T.length z.cap, .int .i64 (s.next : Int), .int .i64 s.level, .int .i64 s.parts] 64 (0, 0))
  row : RdA w z.A z.T
  off : ∀ a, z.A = some a → a.block ≠ z.b
  few : z.T.length ≤ 70000
  lt : s.next < z.T.length
  may : MayP z.T
theorem at_cells {z : Pz} {s : Ps} {w : World} (h : At z s w) : w.cell? ⟨z.b, 0, none⟩ = some (.slice z.A z.T.length z.cap) ∧ w.cell? ⟨z.b, 1, none⟩ = some (.int .i64 (s.next : Int)) ∧
    w.cell? ⟨z.b, 2, none⟩ = some (.int .i64 s.level) ∧ w.cell? ⟨z.b, 3, none⟩ = some (.int .i64 s.parts) ∧ (∀ i, w.frozen? ⟨z.b, i, none⟩ = false) ∧ z.b < w.heap.size := by
  refine ⟨blk_cell h.blk 0, blk_cell h.blk 1, blk_cell h.blk 2, blk_cell h.blk 3, fun i => ?_, lt_of_blk h.blk⟩
  unfold World.frozen?
  rw [h.blk]
  simp
theorem at_up {z : Pz} {s : Ps} {w w' : World} (h : At z s w) (hs : w.heap.size ≤ w'.heap.size) (hb : w'.heap[z.b]? = w.heap[z.b]?) (ha : ∀ a, z.A = some a → w'.heap[a.block]? = w.heap[a.block]?) : At z s w' :=
  ⟨hb.trans h.blk, fun hl => by
    obtain ⟨a, e, hlt, hc⟩ := h.row hl
    exact ⟨a, e, Nat.lt_of_lt_of_le hlt hs, fun j hj => by rw [World.cell?_of_block (w := w) (a := a.add j) (by rw [block_of_add]; exact ha a e)]; exact hc j hj⟩, h.off, h.few, h.lt, h.may⟩
theorem at_row {z : Pz} {s : Ps} {w : World} (h : At z s w) : ∃ a, z.A = some a ∧ a.block < w.heap.size := by
  obtain ⟨a, e, hlt, _⟩ := h.row (by have := h.lt; omega)
  exact ⟨a, e, hlt⟩
theorem at_low {z : Pz} {s : Ps} {w w' : World} (h : At z s w) (hs : w.heap.size ≤ w'.heap.size) (hb : ∀ k, k < w.heap.size → w'.heap[k]? = w.heap[k]?) : At z s w' := by
  obtain ⟨a, e, hlt⟩ := at_row h
  exact at_up h hs (hb _ (at_cells h).2.2.2.2.2) fun a' e' => by rw [e] at e'; cases e'; exact hb _ hlt
theorem at_alloc {z : Pz} {s : Ps} {w : World} (h : At z s w) (o : Obj) : At z s (w.alloc o) := at_low h (by simp) fun k hk => (World.grownBy_alloc w o none).block k hk (by simp)
theorem alloc_at {W : World} {o : Obj} {n : Nat} (h : n = W.heap.size) : (W.alloc o).heap[n]? = some o := by rw [h]; exact heap_alloc_new W o
theorem at_drew {z : Pz} {s : Ps} {w : World} (h : At z s w) : At z s w.drew := ⟨h.blk, h.row, h.off, h.few, h.lt, h.may⟩
theorem at_set {z : Pz} {s : Ps} {w : World} (h : At z s w) {s' : Ps} (hl : s'.next < z.T.length) (i : Nat) (v : Value) (hv : (#[.slice z.A z.T.length z.cap, .int .i64 (s.next : Int), .int .i64 s.level, .int .i64 s.parts] : Array Value).setIfInBounds i v = #[.slice z.A z.T.length z.cap, .int .i64 (s'.next : Int), .int .i64 s'.level, .int .i64 s'.parts]) : At z s' (w.setCell ⟨z.b, i, none⟩ v) := by
  refine ⟨?_, fun h0 => ?_, h.off, h.few, hl, h.may⟩
  · rw [← hv]
    simp only [World.setCell, Array.getElem?_modify, h.blk]
    rfl
  · obtain ⟨a, e, hlt, hc⟩ := h.row h0
    refine ⟨a, e, by simpa using hlt, fun j hj => ?_⟩
    rw [World.cell?_of_block (a := a.add j) (w := w) (by rw [block_of_add, Go.Deep.blk_setCell_other _ _ _ _ (h.off a e)])]
    exact hc j hj
theorem at_next {z : Pz} {s : Ps} {w : World} (h : At z s w) (hl : s.next + 1 < z.T.length) : At z s.on (w.setCell ⟨z.b, 1, none⟩ (.int .i64 ((s.next : Int) + 1))) := at_set h hl 1 _ rfl
theorem at_level {z : Pz} {s : Ps} {w : World} (h : At z s w) (n : Int) : At z { s with level := n } (w.setCell ⟨z.b, 2, none⟩ (.int .i64 n)) := at_set (s' := { s with level := n }) h h.lt 2 _ rfl
theorem at_parts {z : Pz} {s : Ps} {w : World} (h : At z s w) (n : Int) : At z { s with parts := n } (w.setCell ⟨z.b, 3, none⟩ (.int .i64 n)) := at_set (s' := { s with parts := n }) h h.lt 3 _ rfl
theorem grown_set (w : World) (b i : Nat) (v : Value) : w.grownBy (w.setCell ⟨b, i, none⟩ v) (some b) := ⟨rfl, rfl, rfl, by simp, fun k _ hk => Go.Deep.blk_setCell_other w _ v k fun e => hk (congrArg some e)⟩
theorem set_blk {w : World} {g : Nat} {cs : Array Value} {t : TypeId} {fz : Nat × Nat} (h : w.heap[g]? = some (.cells cs t fz)) (i : Nat) (v : Value) : (w.setCell ⟨g, i, none⟩ v).heap[g]? = some (.cells (cs.setIfInBounds i v) t fz) := by
  simp only [World.setCell, Array.getElem?_modify, h]
  rfl
theorem at_fresh {z : Pz} {s0 s : Ps} {w w2 : World} (h0 : At z s0 w) (h : At z s w2) {g : Nat} (hg : w.heap.size ≤ g) (i : Nat) (v : Value) : At z s (w2.setCell ⟨g, i, none⟩ v) := by
  obtain ⟨a, e, hlt⟩ := at_row h0
  have hb := (at_cells h0).2.2.2.2.2
  exact at_up h (by simp) (Go.Deep.blk_setCell_other _ _ _ _ (by show z.b ≠ g; omega)) fun a' e' => by rw [e] at e'; cases e'; exact Go.Deep.blk_setCell_other _ _ _ _ (by show a.block ≠ g; omega)
theorem grown_fresh {w w2 : World} {b : Nat} (h : w.grownBy w2 (some b)) {g : Nat} (hg : w.heap.size ≤ g) (i : Nat) (v : Value) : w.grownBy (w2.setCell ⟨g, i, none⟩ v) (some b) :=
  ⟨h.os, h.tape, h.output, by simpa using h.size, fun k hk hne => (Go.Deep.blk_setCell_other _ _ _ _ (by show k ≠ g; omega)).trans (h.block k hk hne)⟩
theorem grown_new {W w2 : World} {o : Obj} {b n : Nat} (g : (W.alloc o).grownBy w2 (some b)) (hn : n = W.heap.size) (hb : n ≠ b) : w2.heap[n]? = some o :=
  (g.block n (by rw [hn]; simp) (fun e => hb (Option.some.inj e))).trans (alloc_at hn)
/-- a part at a block, of a row of kids -/
theorem part_mk {w : World} {ok : Nat → Prop} {g : Nat} {k : Nat} {p : Int} {t : ByteArray} {x : Nat} {l : List Tr} {A : Option Addr} {cap : Nat} {vs : List Value}
    (hb : w.heap[g]? = some (.cells #[.int .u8 (k : Int), .int .i64 p, .string t, .float .f64 x, .slice none 0 0, .slice A l.length cap] 98 (0, 0))) (hg : ok g) (hr : RowV w ok A vs) (hp : PartsAt w ok l vs) :
    PartAt w ok (.mk k p t x l) (.pointer (some ⟨g, 0, none⟩)) := by
  unfold PartAt
  exact ⟨g, A, cap, vs, rfl, hg, hb, parts_len l vs hp, hr, hp⟩
theorem rowv_nil (w : World) (ok : Nat → Prop) (A : Option Addr) : RowV w ok A [] := fun h => by simp at h
/-- the four parts of the token that stands next, as a load spells them -/
theorem at_tok {z : Pz} {s : Ps} {w : World} (h : At z s w) (i : Nat) (hi : i < z.T.length) : ∃ a, z.A = some a ∧ a.block < w.heap.size ∧
    w.cell? (a.add (i * 4)) = some (.int .u8 ((tkAt z.T i).kind : Int)) ∧ w.cell? ⟨(a.add (i * 4)).block, (a.add (i * 4)).off + 1, none⟩ = some (.int .i64 (tkAt z.T i).pos) ∧
    w.cell? ⟨(a.add (i * 4)).block, (a.add (i * 4)).off + 2, none⟩ = some (.string (tkAt z.T i).text) ∧ w.cell? ⟨(a.add (i * 4)).block, (a.add (i * 4)).off + 3, none⟩ = some (.float .f64 (tkAt z.T i).num) := by
  have e : tkAt z.T i = z.T[i] := by unfold tkAt; rw [List.getD_eq_getElem?_getD, List.getElem?_eq_getElem hi]; rfl
  rw [e]
  exact rda_cells h.row i hi
/-- from fresh blocks on -/
def From (B : Nat) : Nat → Prop := fun k => B ≤ k
/-- what a method that reads a part comes to -/
def Res (z : Pz) (w : World) (r : Rs Tr) (e : Ending) (w' : World) : Prop :=
  match r with
  | .ok t s => ∃ v, e = .returned v ∧ PartAt w' (From w.heap.size) t v ∧ At z s w' ∧ w.grownBy w' (some z.b)
  | .bad p k => e = .panicked [{ v := .iface 67 (.agg #[.int .i64 p, .int .i64 k]), recovered := false }] ∧ w.grownBy w' (some z.b)
  | .out => False
end Go.Proofs.YtablckajobefeaaGreatDoor.S
/-
  The parser's small methods: walks.
-/
namespace Go.Proofs.YtablckajobefeaaGreatDoor.S
open Go.RowKit Fl

theorem at_below {z : Pz} {s : Ps} {w w' : World} (h : At z s w) (hb : Below w.heap.size w w') : At z s w' ∧ w.grownBy w' (some z.b) :=
  ⟨at_low h hb.size fun k hk => hb.block k hk, hb.os, hb.tape, hb.output, hb.size, fun k hk _ => hb.block k hk⟩
theorem str_eqL (a b : ByteArray) : (a.toList == b.toList) = (a == b) := by
  rw [Bool.eq_iff_iff]
  constructor
  · intro h
    have := eq_of_beq h
    rw [toList_data, toList_data] at this
    rw [str_ext this]
    exact beq_self_eq_true b.data
  · intro h; rw [str_beq h]; exact beq_self_eq_true _
def faultC (p k : Int) : List PanicEntry := [{ v := .iface 67 (.agg #[.int .i64 p, .int .i64 k]), recovered := false }]

section
variable (k : Int) (p : Int) (t : ByteArray) (x : Nat) (w : World)
theorem fld_kind : (Instr.field 52 (.agg #[.int .u8 k, .int .i64 p, .string t, .float .f64 x]) 0).run Tryz.prog w = .ok (.int .u8 k) w := by kernel_rfl
theorem fld_pos : (Instr.field 52 (.agg #[.int .u8 k, .int .i64 p, .string t, .float .f64 x]) 1).run Tryz.prog w = .ok (.int .i64 p) w := by kernel_rfl
end
theorem token_end {Q : Ending → World → Prop} {tmps : Array Value} {W : World} {g : Nat} {k p : Int} {t : ByteArray} {x : Nat}
    (h2 : tmps[2]?.getD undef = .pointer (some ⟨g, 0, none⟩)) (hb : W.heap[g]? = some (.cells #[.int .u8 k, .int .i64 p, .string t, .float .f64 x] 52 (0, 0)))
    (hQ : Q (.returned (.agg #[.int .u8 k, .int .i64 p, .string t, .float .f64 x])) W) :
    bodyPost Tryz.prog Tryz.f48 Q .ret { tmps := tmps, defers := [] } W := by
  have c0 : W.cell? ⟨g, 0, none⟩ = some (.int .u8 k) := blk_cell hb 0
  have c1 : W.cell? ⟨g, 1, none⟩ = some (.int .i64 p) := blk_cell hb 1
  have c2 : W.cell? ⟨g, 2, none⟩ = some (.string t) := blk_cell hb 2
  have c3 : W.cell? ⟨g, 3, none⟩ = some (.float .f64 x) := blk_cell hb 3
  clear hb
  refine bodyPost_ret (v := .agg #[.int .u8 k, .int .i64 p, .string t, .float .f64 x]) ?_ rfl hQ
  simp [h2, c0, c1, c2, c3, results, Tryz.results48, go_sem]
set_option maxHeartbeats 1000000 in
theorem token_p {z : Pz} {s : Ps} {w : World} (h : At z s w) : Calls Tryz.prog 48 #[.pointer (some ⟨z.b, 0, none⟩)] w fun e w' => e = .returned (.agg #[.int .u8 ((tok z.T s).kind : Int), .int .i64 (tok z.T s).pos, .string (tok z.T s).text, .float .f64 (tok z.T s).num]) ∧ Below w.heap.size w w' := by
  obtain ⟨c0, c1, _, _, fz, hlt⟩ := at_cells h
  obtain ⟨a, ha, hal, a0, a1, a2, a3⟩ := at_tok h s.next h.lt
  have hl := h.lt
  have hf := h.few
  unfold tok
  have hab : (a.add (s.next * 4)).block < w.heap.size := by rw [block_of_add]; exact hal
  rw [ha] at c0
  clear h ha
  generalize tkAt z.T s.next = t at *
  have hst := store_f
  go_enter Tryz.func48, Tryz.ntmps48
  go_wp2_with (fail)
  go_region
  go_wp2_with (fail)
  refine token_end rfl (heap_alloc_new _ _) ⟨rfl, ((Below.refl _ _).alloc (Nat.le_refl _) _).drew⟩
theorem said_p (t : Tk) (w : World) : Calls Tryz.prog 96 #[.agg #[.int .u8 (t.kind : Int), .int .i64 t.pos, .string t.text, .float .f64 t.num]] w fun e w' => e = .returned (.string (saidT t)) ∧ Below w.heap.size w w' := by
  unfold saidT
  by_cases hk : t.kind = 4
  · have h1 : ((t.kind : Int) == 4) = true := by rw [hk]; rfl
    rw [if_pos hk]
    clear hk
    go_enter Tryz.func96, Tryz.ntmps96
    go_wp2_with (fail)
    go_ret
    exact ⟨rfl, (Below.refl _ _).alloc (Nat.le_refl _) _⟩
  · have h1 : ((t.kind : Int) == 4) = false := by rw [beq_eq_false_iff_ne]; omega
    rw [if_neg hk]
    clear hk
    go_enter Tryz.func96, Tryz.ntmps96
    go_wp2_with (fail)
    go_ret
    exact ⟨rfl, (Below.refl _ _).alloc (Nat.le_refl _) _⟩
theorem at_p {z : Pz} {s : Ps} {w : World} (h : At z s w) : Calls Tryz.prog 47 #[.pointer (some ⟨z.b, 0, none⟩)] w fun e w' => e = .returned (.int .i64 (here z.T s)) ∧ Below w.heap.size w w' := by
  unfold here
  have k := token_p h
  generalize tok z.T s = t at *
  clear h
  have hfd := fld_pos
  go_enter Tryz.func47, Tryz.ntmps47
  go_wp2_with (go_at_call 48; refine k.mono ?_; rintro e w1 ⟨rfl, hb⟩)
  go_ret
  exact ⟨rfl, hb⟩
theorem is_p {z : Pz} {s : Ps} {w : World} (h : At z s w) (c : ByteArray) : Calls Tryz.prog 135 #[.pointer (some ⟨z.b, 0, none⟩), .string c] w fun e w' => e = .returned (.bool (sd z.T s == c)) ∧ Below w.heap.size w w' := by
  unfold sd
  go_enter Tryz.func135, Tryz.ntmps135
  go_wp2_with (first
    | (go_at_call 48; refine (token_p h).mono ?_; rintro e w1 ⟨rfl, hb⟩)
    | (go_at_call 96; refine (said_p (tok z.T s) _).mono ?_; rintro e w2 ⟨rfl, hb2⟩))
  go_ret
  exact ⟨by rw [← str_eqL]; rfl, below_up hb hb2⟩
theorem skip_no {z : Pz} {s : Ps} {w : World} (h : At z s w) {c : ByteArray} (hc : (sd z.T s == c) = false) : Calls Tryz.prog 128 #[.pointer (some ⟨z.b, 0, none⟩), .string c] w fun e w' => e = .returned (.bool false) ∧ Below w.heap.size w w' := by
  have k := is_p h c
  rw [hc] at k
  clear hc
  go_enter Tryz.func128, Tryz.ntmps128
  go_wp2_with (go_at_call 135; refine k.mono ?_; rintro e w1 ⟨rfl, hb⟩)
  go_ret
  exact ⟨rfl, hb⟩
theorem skip_yes {z : Pz} {s : Ps} {w : World} (h : At z s w) {c : ByteArray} (hc : (sd z.T s == c) = true) (hl : s.next + 1 < z.T.length) : Calls Tryz.prog 128 #[.pointer (some ⟨z.b, 0, none⟩), .string c] w fun e w' => e = .returned (.bool true) ∧ At z s.on w' ∧ w.grownBy w' (some z.b) := by
  have k := is_p h c
  rw [hc] at k
  clear hc
  have hf := h.few
  go_enter Tryz.func128, Tryz.ntmps128
  go_wp2_with (go_at_call 135; refine k.mono ?_; rintro e w1 ⟨rfl, hb⟩; obtain ⟨h1, g1⟩ := at_below h hb; obtain ⟨_, c1, _, _, fz, hlt⟩ := at_cells h1)
  go_ret
  exact ⟨rfl, at_next h1 hl, g1.trans (grown_set _ _ _ _)⟩
theorem refuse_p {z : Pz} {s : Ps} {w : World} (h : At z s w) (k : Int) : Calls Tryz.prog 95 #[.pointer (some ⟨z.b, 0, none⟩), .int .i64 k] w fun e w' => e = .panicked (faultC (here z.T s) k) ∧ w.grownBy w' (some z.b) := by
  go_enter Tryz.func95, Tryz.ntmps95
  go_wp2_with (go_at_call 47; refine (at_p h).mono ?_; rintro e w1 ⟨rfl, hb⟩)
  exact ⟨rfl, rfl, (at_below h hb).2⟩
end Go.Proofs.YtablckajobefeaaGreatDoor.S
/-
  The parser's methods that take tokens and make parts: walks.
-/
namespace Go.Proofs.YtablckajobefeaaGreatDoor.S
open Go.RowKit Fl

/-- what a method without a result comes to -/
def TakeTo (z : Pz) (w : World) (r : Rs Unit) (e : Ending) (w' : World) : Prop :=
  match r with
  | .ok _ s => e = .returned (.tuple #[]) ∧ At z s w' ∧ w.grownBy w' (some z.b)
  | .bad p k => e = .panicked (faultC p k) ∧ w.grownBy w' (some z.b)
  | .out => False
/-- what a method that reads a text comes to -/
def TextTo (z : Pz) (w : World) (r : Rs ByteArray) (e : Ending) (w' : World) : Prop :=
  match r with
  | .ok t s => e = .returned (.string t) ∧ At z s w' ∧ w.grownBy w' (some z.b)
  | .bad p k => e = .panicked (faultC p k) ∧ w.grownBy w' (some z.b)
  | .out => False
set_option maxHeartbeats 1000000 in
theorem part_p {z : Pz} {s : Ps} {w : World} (h : At z s w) (k : Nat) (p : Int) (t : ByteArray) (A : Option Addr) (n cap : Nat) :
    Calls Tryz.prog 50 #[.pointer (some ⟨z.b, 0, none⟩), .int .u8 (k : Int), .int .i64 p, .string t, .slice A n cap] w fun e w' =>
      ∃ g, e = .returned (.pointer (some ⟨g, 0, none⟩)) ∧ w.heap.size ≤ g ∧ w'.heap[g]? = some (.cells #[.int .u8 (k : Int), .int .i64 p, .string t, .float .f64 0, .slice none 0 0, .slice A n cap] 98 (0, 0)) ∧
        At z { s with parts := w64 (s.parts + 1) } w' ∧ w.grownBy w' (some z.b) := by
  obtain ⟨_, _, _, c3, fz, hlt⟩ := at_cells h
  go_enter Tryz.func50, Tryz.ntmps50
  go_wp2_with (fail)
  go_ret
  exact ⟨_, rfl, Nat.le_refl _, alloc_at (by simp), at_alloc (at_parts h _) _, (grown_set _ _ _ _).trans (World.grownBy_alloc _ _ _)⟩
theorem text_p {z : Pz} {s : Ps} {w : World} (h : At z s w) (hl : s.next + 1 < z.T.length) : Calls Tryz.prog 132 #[.pointer (some ⟨z.b, 0, none⟩)] w fun e w' => e = .returned (.string (tok z.T s).text) ∧ At z s.on w' ∧ w.grownBy w' (some z.b) := by
  have hf := h.few
  have hst := store_f
  go_enter Tryz.func132, Tryz.ntmps132
  go_wp2_with (go_at_call 48; refine (token_p h).mono ?_; rintro e w1 ⟨rfl, hb⟩; obtain ⟨h1, g1⟩ := at_below h hb; obtain ⟨_, c1, _, _, fz, hlt⟩ := at_cells h1)
  go_ret
  exact ⟨rfl, at_alloc (at_next h1 hl) _, (g1.trans (grown_set _ _ _ _)).trans (World.grownBy_alloc _ _ _)⟩
theorem name_p {z : Pz} {s : Ps} {w : World} (h : At z s w) : Calls Tryz.prog 102 #[.pointer (some ⟨z.b, 0, none⟩)] w (TextTo z w (nameR z.T s)) := by
  unfold nameR
  by_cases hk : (tok z.T s).kind = 1
  · have hn := tok_end h.may h.lt (by omega)
    have t1 : (((tok z.T s).kind : Int) != 1) = false := by rw [hk]; rfl
    have hf0 := fld_kind
    rw [if_pos hk]
    clear hk
    go_enter Tryz.func102, Tryz.ntmps102
    go_wp2_with (first
      | (go_at_call 48; refine (token_p h).mono ?_; rintro e w1 ⟨rfl, hb⟩; obtain ⟨h1, g1⟩ := at_below h hb)
      | (go_at_call 132; refine (text_p h1 hn).mono ?_; rintro e w2 ⟨rfl, h2, g2⟩))
    go_ret
    exact ⟨rfl, h2, g1.trans g2⟩
  · have t1 : (((tok z.T s).kind : Int) != 1) = true := by rw [bne_iff_ne]; omega
    have hf0 := fld_kind
    rw [if_neg hk]
    clear hk
    go_enter Tryz.func102, Tryz.ntmps102
    go_wp2_with (first
      | (go_at_call 48; refine (token_p h).mono ?_; rintro e w1 ⟨rfl, hb⟩; obtain ⟨h1, g1⟩ := at_below h hb)
      | (go_at_call 95; refine (refuse_p h1 5).mono ?_; rintro e w2 ⟨rfl, g2⟩))
    exact ⟨rfl, rfl, g1.trans g2⟩
theorem word_p {z : Pz} {s : Ps} {w : World} (h : At z s w) : Calls Tryz.prog 192 #[.pointer (some ⟨z.b, 0, none⟩)] w (TextTo z w (wordR z.T s)) := by
  unfold wordR
  by_cases hk : (tok z.T s).kind = 2
  · have hn := tok_end h.may h.lt (by omega)
    have t1 : (((tok z.T s).kind : Int) == 2) = true := by rw [hk]; rfl
    have hf0 := fld_kind
    rw [if_pos hk]
    clear hk
    go_enter Tryz.func192, Tryz.ntmps192
    go_wp2_with (first
      | (go_at_call 48; refine (token_p h).mono ?_; rintro e w1 ⟨rfl, hb⟩; obtain ⟨h1, g1⟩ := at_below h hb)
      | (go_at_call 132; refine (text_p h1 hn).mono ?_; rintro e w2 ⟨rfl, h2, g2⟩))
    go_ret
    exact ⟨rfl, h2, g1.trans g2⟩
  · have t1 : (((tok z.T s).kind : Int) == 2) = false := by rw [beq_eq_false_iff_ne]; omega
    have hf0 := fld_kind
    rw [if_neg hk]
    clear hk
    generalize hR : nameR z.T s = R
    have HR := Lib.hid hR
    clear hR
    go_enter Tryz.func192, Tryz.ntmps192
    go_wp2_with (go_at_call 48; refine (token_p h).mono ?_; rintro e w1 ⟨rfl, hb⟩; obtain ⟨h1, g1⟩ := at_below h hb)
    go_at_call 102
    refine (name_p h1).mono ?_
    rintro e w2 hr
    rw [HR.out] at hr
    cases R with
    | ok t s2 =>
      obtain ⟨rfl, h2, g2⟩ := hr
      go_wp2_with (fail)
      go_ret
      exact ⟨rfl, h2, g1.trans g2⟩
    | bad p k =>
      obtain ⟨rfl, g2⟩ := hr
      go_wp2_with (fail)
      exact ⟨rfl, rfl, g1.trans g2⟩
    | out => exact hr.elim
theorem number_p {z : Pz} {s : Ps} {w : World} (h : At z s w) (hl : s.next + 1 < z.T.length) : Calls Tryz.prog 196 #[.pointer (some ⟨z.b, 0, none⟩)] w (Res z w (numR z.T s)) := by
  have hf := h.few
  have hst := store_f
  go_enter Tryz.func196, Tryz.ntmps196
  go_wp2_with (go_at_call 48; refine (token_p h).mono ?_; rintro e w1 ⟨rfl, hb⟩; obtain ⟨h1, g1⟩ := at_below h hb; obtain ⟨_, c1, _, _, fz, hlt⟩ := at_cells h1)
  go_at_call 50
  refine (part_p (at_alloc (at_next h1 hl) _) 20 _ _ none 0 0).mono ?_
  rintro e w2 ⟨g, rfl, hg, hb2, h2, g2⟩
  have g3 := (g1.trans (grown_set _ _ _ _)).trans ((World.grownBy_alloc _ _ _).trans g2)
  have c2 : w2.cell? ⟨g, 3, none⟩ = some (.float .f64 0) := blk_cell hb2 3
  have fz2 : w2.frozen? ⟨g, 3, none⟩ = false := by unfold World.frozen?; rw [hb2]; rfl
  have cT : w2.cell? ⟨w1.heap.size, 3, none⟩ = some (.float .f64 (tok z.T s).num) := blk_cell (grown_new g2 (by simp) (Nat.ne_of_gt hlt)) 3
  have hgw : w.heap.size ≤ g := Nat.le_trans (Nat.le_trans g1.size (by simp)) hg
  go_wp2_with (fail)
  go_ret
  exact ⟨_, rfl, part_mk (cap := 0) (set_blk hb2 3 _) hgw (rowv_nil _ _ _) parts_nil, at_fresh h h2 hgw _ _, grown_fresh g3 hgw _ _⟩
end Go.Proofs.YtablckajobefeaaGreatDoor.S
/-
  The parser's take, bare, declarator, param: walks; the tables of signs.
-/
namespace Go.Proofs.YtablckajobefeaaGreatDoor.S
open Go.RowKit Fl

/-- a row of strings in a block -/
def RowS (w : World) (g : Nat) (cs : List ByteArray) : Prop := g < w.heap.size ∧ ∀ (i : Nat) (c : ByteArray), cs[i]? = some c → w.cell? ⟨g, i, none⟩ = some (.string c)
theorem rows_on {w w' : World} {g b : Nat} {cs : List ByteArray} (h : RowS w g cs) (hg : w.grownBy w' (some b)) (hne : g ≠ b) : RowS w' g cs :=
  ⟨Nat.lt_of_lt_of_le h.1 hg.size, fun i c hc => by rw [World.cell?_of_block (w := w) (a := ⟨g, i, none⟩) (hg.block g h.1 (fun e => hne (Option.some.inj e)))]; exact h.2 i c hc⟩
theorem takes_drop {T : List Tk} {cs : List ByteArray} {i : Nat} (hi : i < cs.length) (s : Ps) : takes T (cs.drop i) s = (take1 T cs[i] s).bind fun _ s1 => takes T (cs.drop (i + 1)) s1 := by
  rw [List.drop_eq_getElem_cons hi]; rfl
theorem take_bad {z : Pz} {w w' : World} {R : Rs Unit} {p k : Int} (hR : R = .bad p k) (g : w.grownBy w' (some z.b)) : TakeTo z w R (.panicked (faultC p k)) w' := by rw [hR]; exact ⟨rfl, g⟩
theorem take_ok {z : Pz} {w w' : World} {R : Rs Unit} {s : Ps} (hR : R = .ok () s) (h : At z s w') (g : w.grownBy w' (some z.b)) : TakeTo z w R (.returned (.tuple #[])) w' := by rw [hR]; exact ⟨rfl, h, g⟩

set_option maxHeartbeats 2000000 in
theorem take_p {z : Pz} {s : Ps} {w : World} (h : At z s w) (g cap : Nat) (cs : List ByteArray) (hr : RowS w g cs) (hg : g ≠ z.b) (hne : ∀ c ∈ cs, c ≠ ⟨#[]⟩) (hfew : cs.length ≤ 10) :
    Calls Tryz.prog 100 #[.pointer (some ⟨z.b, 0, none⟩), .slice (some ⟨g, 0, none⟩) cs.length cap] w (TakeTo z w (takes z.T cs s)) := by
  generalize hR : takes z.T cs s = R
  have HR := Lib.hid hR
  have HN := Lib.hid hne
  clear hR hne
  go_enter Tryz.func100, Tryz.ntmps100
  go_wp2_with (fail)
  go_loopw [8] (fun i wr => ∃ (k : Nat) (s1 : Ps), i = .int .i64 k ∧ k ≤ cs.length ∧ Hid (At z s1 wr ∧ w.grownBy wr (some z.b) ∧ RowS wr g cs ∧ takes z.T (cs.drop k) s1 = R)) (fun i _ => cs.length - (intOf i).toNat)
  case atStart => exact ⟨0, s, rfl, Nat.zero_le _, Lib.hid ⟨h, World.grownBy.refl _ _, hr, HR.out⟩⟩
  case round =>
    obtain ⟨k, s1, rfl, hk, H⟩ := hrel
    obtain ⟨h1, g1, r1, e1⟩ := H.out
    by_cases hlt : k < cs.length
    · have hc := r1.2 k cs[k] (List.getElem?_eq_getElem hlt)
      have hgl := r1.1
      have hcne := HN.out cs[k] (List.getElem_mem _)
      have hdr := takes_drop hlt (T := z.T) s1
      generalize cs[k] = c at *
      have E1 := Lib.hid (hdr.symm.trans e1)
      clear e1 hdr H HN HR h hr
      by_cases hs : (sd z.T s1 == c) = true
      · have hn := tok_end h1.may h1.lt (kind_of_sd h1.may h1.lt hs hcne)
        have E2 : Hid (takes z.T (cs.drop (k + 1)) s1.on = R) := Lib.hid (by rw [← E1.out]; unfold take1; rw [if_pos hs]; rfl)
        have ky := skip_yes h1 hs hn
        clear E1 hs
        go_wp2_with (go_at_call 128; refine ky.mono ?_; rintro e w2 ⟨rfl, h2, g2⟩)
        go_roundw
        case rel => exact ⟨k + 1, s1.on, by go_num, by omega, Lib.hid ⟨h2, g1.trans g2, rows_on r1 g2 hg, E2.out⟩⟩
        case measure => simp [intOf]; omega
      · have hs := Bool.eq_false_iff.2 hs
        have E2 : R = .bad (here z.T s1) 5 := by rw [← E1.out]; unfold take1; rw [if_neg (by rw [hs]; decide)]; rfl
        have ky := skip_no h1 hs
        clear E1 hs
        go_wp2_with (first
          | (go_at_call 128; refine ky.mono ?_; rintro e w2 ⟨rfl, hb⟩; obtain ⟨h2, g2⟩ := at_below h1 hb)
          | (go_at_call 95; refine (refuse_p h2 5).mono ?_; rintro e w3 ⟨rfl, g3⟩))
        exact ⟨rfl, take_bad E2 ((g1.trans g2).trans g3)⟩
    · have hkl : k = cs.length := by omega
      subst hkl
      have E2 : R = .ok () s1 := by rw [← e1, List.drop_length]; rfl
      have H2 := Lib.hid (And.intro h1 g1)
      clear e1 r1 H HN HR h1 g1 h hr
      go_wp2_with (fail)
      go_end0
      exact take_ok E2 H2.out.1 H2.out.2
theorem rows_one (w : World) (c : ByteArray) (t : TypeId) : RowS (w.alloc (.cells #[.string c] t)) w.heap.size [c] := by
  refine ⟨by simp, fun i d hd => ?_⟩
  rw [blk_cell (heap_alloc_new w _) i]
  match i, hd with
  | 0, hd => simp at hd; subst hd; rfl
theorem rows_two (w : World) (c d : ByteArray) (t : TypeId) : RowS (w.alloc (.cells #[.string c, .string d] t)) w.heap.size [c, d] := by
  refine ⟨by simp, fun i x hx => ?_⟩
  rw [blk_cell (heap_alloc_new w _) i]
  match i, hx with
  | 0, hx => simp at hx; subst hx; rfl
  | 1, hx => simp at hx; subst hx; rfl
theorem take_up {z : Pz} {w w1 w' : World} {R : Rs Unit} {e : Ending} (h : TakeTo z w1 R e w') (g : w.grownBy w1 (some z.b)) : TakeTo z w R e w' := by
  cases R with
  | ok a s => exact ⟨h.1, h.2.1, g.trans h.2.2⟩
  | bad p k => exact ⟨h.1, g.trans h.2⟩
  | out => exact h
/-- a sign or word that must stand next, as a call lays it -/
theorem take_one {z : Pz} {s : Ps} {w : World} (h : At z s w) (c : ByteArray) (t : TypeId) (hc : c ≠ ⟨#[]⟩) :
    Calls Tryz.prog 100 #[.pointer (some ⟨z.b, 0, none⟩), .slice (some ⟨w.heap.size, 0, none⟩) 1 1] (w.alloc (.cells #[.string c] t)) (TakeTo z w (take1 z.T c s)) := by
  have e : takes z.T [c] s = take1 z.T c s := by
    unfold takes take1
    split <;> rfl
  rw [← e]
  have hlt := (at_cells h).2.2.2.2.2
  exact (take_p (at_alloc h _) w.heap.size 1 [c] (rows_one w c t) (by omega) (by simpa using hc) (by simp)).mono fun e w' hr => take_up hr (World.grownBy_alloc _ _ _)
theorem take_two {z : Pz} {s : Ps} {w : World} (h : At z s w) (c d : ByteArray) (t : TypeId) (hc : c ≠ ⟨#[]⟩) (hd : d ≠ ⟨#[]⟩) :
    Calls Tryz.prog 100 #[.pointer (some ⟨z.b, 0, none⟩), .slice (some ⟨w.heap.size, 0, none⟩) 2 2] (w.alloc (.cells #[.string c, .string d] t)) (TakeTo z w (takes z.T [c, d] s)) := by
  have hlt := (at_cells h).2.2.2.2.2
  exact (take_p (at_alloc h _) w.heap.size 2 [c, d] (rows_two w c d t) (by omega) (by simpa using ⟨hc, hd⟩) (by simp)).mono fun e w' hr => take_up hr (World.grownBy_alloc _ _ _)
theorem target_p (k : Nat) (w : World) : Calls Tryz.prog 173 #[.int .u8 (k : Int)] w fun e w' => e = .returned (.bool (targetB k)) ∧ w = w' := by
  unfold targetB
  by_cases h1 : k = 26
  · subst h1
    go_enter Tryz.func173, Tryz.ntmps173
    go_wp2_with (fail)
    go_ret
    exact ⟨rfl, rfl⟩
  · by_cases h2 : k = 34
    · subst h2
      go_enter Tryz.func173, Tryz.ntmps173
      go_wp2_with (fail)
      go_ret
      exact ⟨rfl, rfl⟩
    · have t1 : ((k : Int) == 26) = false := by rw [beq_eq_false_iff_ne]; omega
      have t2 : ((k : Int) == 34) = false := by rw [beq_eq_false_iff_ne]; omega
      by_cases h3 : k = 35
      · subst h3
        go_enter Tryz.func173, Tryz.ntmps173
        go_wp2_with (fail)
        go_ret
        exact ⟨rfl, rfl⟩
      · have t3 : ((k : Int) == 35) = false := by rw [beq_eq_false_iff_ne]; omega
        have e : (k == 26 || k == 34 || k == 35) = false := by simp [h1, h2, h3]
        rw [e]
        clear h1 h2 h3 e
        go_enter Tryz.func173, Tryz.ntmps173
        go_wp2_with (fail)
        go_ret
        exact ⟨rfl, rfl⟩
theorem strL (c : ByteArray) (l : List UInt8) : (c == ⟨l.toArray⟩) = (c.toList == l) := by
  rw [← str_eqL, toList_data (⟨l.toArray⟩ : ByteArray)]
set_option maxHeartbeats 4000000 in
set_option maxRecDepth 100000 in
theorem puts_p (c : ByteArray) (w : World) : Calls Tryz.prog 155 #[.string c] w fun e w' => e = .returned (.bool (putsB c)) ∧ w = w' := by
  generalize hR : putsB c = R
  unfold putsB at hR
  simp only [strL] at hR
  have HR := Lib.hid hR
  clear hR
  go_enter Tryz.func155, Tryz.ntmps155
  go_wp2_with (fail)
  all_goals (go_ret; refine ⟨?_, rfl⟩; have h := HR.out; clear HR; subst h; simp_all)
set_option maxHeartbeats 4000000 in
set_option maxRecDepth 100000 in
theorem leads_p (c : ByteArray) (w : World) : Calls Tryz.prog 153 #[.string c] w fun e w' => e = .returned (.bool (leadsB c)) ∧ w = w' := by
  generalize hR : leadsB c = R
  unfold leadsB at hR
  simp only [strL] at hR
  have HR := Lib.hid hR
  clear hR
  go_enter Tryz.func153, Tryz.ntmps153
  go_wp2_with (fail)
  all_goals (go_ret; refine ⟨?_, rfl⟩; have h := HR.out; clear HR; subst h; simp_all)
end Go.Proofs.YtablckajobefeaaGreatDoor.S
/-
  The parser's param, bare, declarator: walks.
-/
namespace Go.Proofs.YtablckajobefeaaGreatDoor.S
open Go.RowKit Fl

theorem res_ok {z : Pz} {w w' : World} {R : Rs Tr} {t : Tr} {s : Ps} {v : Value} (hR : R = .ok t s) (hv : PartAt w' (From w.heap.size) t v) (h : At z s w') (g : w.grownBy w' (some z.b)) : Res z w R (.returned v) w' := by
  rw [hR]; exact ⟨v, rfl, hv, h, g⟩
theorem res_bad {z : Pz} {w w' : World} {R : Rs Tr} {p k : Int} (hR : R = .bad p k) (g : w.grownBy w' (some z.b)) : Res z w R (.panicked (faultC p k)) w' := by rw [hR]; exact ⟨rfl, g⟩
theorem part_low {w : World} {B B' : Nat} {t : Tr} {v : Value} (h : PartAt w (From B') t v) (hB : B ≤ B') : PartAt w (From B) t v :=
  part_up (Nat.le_refl _) (fun _ hk _ => ⟨Nat.le_trans hB hk, rfl⟩) t v h
theorem part_on {w w' : World} {B B' b : Nat} {t : Tr} {v : Value} (h : PartAt w (From B') t v) (hB : B ≤ B') (g : w.grownBy w' (some b)) (hb : b < B) : PartAt w' (From B) t v :=
  part_up g.size (fun k hk hlt => ⟨Nat.le_trans hB hk, g.block k hlt (fun e => by have := Option.some.inj e; have : B' ≤ k := hk; omega)⟩) t v h
theorem at_lt {z : Pz} {s : Ps} {w : World} (h : At z s w) : z.b < w.heap.size := (at_cells h).2.2.2.2.2
theorem res_up {z : Pz} {w w1 w' : World} {R : Rs Tr} {e : Ending} (h : Res z w1 R e w') (g : w.grownBy w1 (some z.b)) : Res z w R e w' := by
  cases R with
  | ok t s => obtain ⟨v, he, hv, ha, hg⟩ := h; exact ⟨v, he, part_low hv g.size, ha, g.trans hg⟩
  | bad p k => exact ⟨h.1, g.trans h.2⟩
  | out => exact h

set_option maxHeartbeats 1000000 in
theorem param_p {z : Pz} {s : Ps} {w : World} (h : At z s w) : Calls Tryz.prog 131 #[.pointer (some ⟨z.b, 0, none⟩)] w (Res z w (paramR z.T s)) := by
  go_enter Tryz.func131, Tryz.ntmps131
  go_wp2_with (go_at_call 47; refine (at_p h).mono ?_; rintro e w1 ⟨rfl, hb⟩; obtain ⟨h1, g1⟩ := at_below h hb)
  go_at_call 102
  refine (name_p h1).mono ?_
  rintro e w2 hr
  cases hn : nameR z.T s with
  | ok t s2 =>
    rw [hn] at hr; obtain ⟨rfl, h2, g2⟩ := hr
    have g12 := g1.trans g2
    go_wp2_with (go_at_call 50; refine (part_p h2 26 _ t none 0 0).mono ?_; rintro e w3 ⟨g, rfl, hg, hb3, h3, g3⟩)
    go_ret
    exact res_ok (by unfold paramR; rw [hn]; rfl) (part_mk (cap := 0) hb3 (Nat.le_trans g12.size hg) (rowv_nil _ _ _) parts_nil) h3 (g12.trans g3)
  | bad p k => rw [hn] at hr; obtain ⟨rfl, g2⟩ := hr; exact ⟨rfl, res_bad (by unfold paramR; rw [hn]; rfl) (g1.trans g2)⟩
  | out => rw [hn] at hr; exact hr.elim
set_option maxHeartbeats 1000000 in
theorem bare_p {z : Pz} {s : Ps} {w : World} (h : At z s w) (k g cap : Nat) (cs : List ByteArray) (hr : RowS w g cs) (hg : g ≠ z.b) (hne : ∀ c ∈ cs, c ≠ ⟨#[]⟩) (hfew : cs.length ≤ 10) :
    Calls Tryz.prog 98 #[.pointer (some ⟨z.b, 0, none⟩), .int .u8 (k : Int), .slice (some ⟨g, 0, none⟩) cs.length cap] w (Res z w (bareR z.T k cs s)) := by
  go_enter Tryz.func98, Tryz.ntmps98
  go_wp2_with (go_at_call 47; refine (at_p h).mono ?_; rintro e w1 ⟨rfl, hb⟩; obtain ⟨h1, g1⟩ := at_below h hb)
  go_at_call 100
  refine (take_p h1 g cap cs (rows_on hr g1 hg) hg hne hfew).mono ?_
  rintro e w2 hr
  cases hn : takes z.T cs s with
  | ok t s2 =>
    rw [hn] at hr; obtain ⟨rfl, h2, g2⟩ := hr
    have g12 := g1.trans g2
    go_wp2_with (go_at_call 50; refine (part_p h2 k _ ⟨#[]⟩ none 0 0).mono ?_; rintro e w3 ⟨g, rfl, hg, hb3, h3, g3⟩)
    go_ret
    exact res_ok (by unfold bareR; rw [hn]; rfl) (part_mk (cap := 0) hb3 (Nat.le_trans g12.size hg) (rowv_nil _ _ _) parts_nil) h3 (g12.trans g3)
  | bad p k => rw [hn] at hr; obtain ⟨rfl, g2⟩ := hr; exact ⟨rfl, res_bad (by unfold bareR; rw [hn]; rfl) (g1.trans g2)⟩
  | out => rw [hn] at hr; exact hr.elim
theorem bare_one {z : Pz} {s : Ps} {w : World} (h : At z s w) (k : Nat) (c : ByteArray) (t : TypeId) (hc : c ≠ ⟨#[]⟩) :
    Calls Tryz.prog 98 #[.pointer (some ⟨z.b, 0, none⟩), .int .u8 (k : Int), .slice (some ⟨w.heap.size, 0, none⟩) 1 1] (w.alloc (.cells #[.string c] t)) (Res z w (bareR z.T k [c] s)) := by
  have hlt := at_lt h
  exact (bare_p (at_alloc h _) k w.heap.size 1 [c] (rows_one w c t) (by omega) (by simpa using hc) (by simp)).mono fun e w' hr => res_up hr (World.grownBy_alloc _ _ _)
theorem bare_two {z : Pz} {s : Ps} {w : World} (h : At z s w) (k : Nat) (c d : ByteArray) (t : TypeId) (hc : c ≠ ⟨#[]⟩) (hd : d ≠ ⟨#[]⟩) :
    Calls Tryz.prog 98 #[.pointer (some ⟨z.b, 0, none⟩), .int .u8 (k : Int), .slice (some ⟨w.heap.size, 0, none⟩) 2 2] (w.alloc (.cells #[.string c, .string d] t)) (Res z w (bareR z.T k [c, d] s)) := by
  have hlt := at_lt h
  exact (bare_p (at_alloc h _) k w.heap.size 2 [c, d] (rows_two w c d t) (by omega) (by simpa using ⟨hc, hd⟩) (by simp)).mono fun e w' hr => res_up hr (World.grownBy_alloc _ _ _)
set_option maxHeartbeats 1000000 in
theorem declarator_p {z : Pz} {s : Ps} {w : World} (h : At z s w) : Calls Tryz.prog 129 #[.pointer (some ⟨z.b, 0, none⟩)] w (Res z w (declR z.T s)) := by
  cases hs : (sd z.T s == (⟨#[99, 111, 110, 115, 116]⟩ : ByteArray)) with
  | true =>
    have hn := tok_end h.may h.lt (kind_of_sd h.may h.lt hs (by decide))
    go_enter Tryz.func129, Tryz.ntmps129
    go_wp2_with (first
      | (go_at_call 47; refine (at_p h).mono ?_; rintro e w1 ⟨rfl, hb⟩; obtain ⟨h1, g1⟩ := at_below h hb)
      | (go_at_call 128; refine (skip_yes h1 hs hn).mono ?_; rintro e w2 ⟨rfl, h2, g2⟩))
    go_at_call 102
    refine (name_p h2).mono ?_
    rintro e w3 hr
    cases hm : nameR z.T s.on with
    | ok t s2 =>
      rw [hm] at hr; obtain ⟨rfl, h3, g3⟩ := hr
      have g13 := (g1.trans g2).trans g3
      go_wp2_with (go_at_call 50; refine (part_p h3 4 _ t none 0 0).mono ?_; rintro e w4 ⟨g, rfl, hg, hb4, h4, g4⟩)
      go_ret
      exact res_ok (by unfold declR; rw [if_pos hs, hm]; rfl) (part_mk (cap := 0) hb4 (Nat.le_trans g13.size hg) (rowv_nil _ _ _) parts_nil) h4 (g13.trans g4)
    | bad p k => rw [hm] at hr; obtain ⟨rfl, g3⟩ := hr; exact ⟨rfl, res_bad (by unfold declR; rw [if_pos hs, hm]; rfl) ((g1.trans g2).trans g3)⟩
    | out => rw [hm] at hr; exact hr.elim
  | false =>
    go_enter Tryz.func129, Tryz.ntmps129
    go_wp2_with (first
      | (go_at_call 47; refine (at_p h).mono ?_; rintro e w1 ⟨rfl, hb⟩; obtain ⟨h1, g1⟩ := at_below h hb)
      | (go_at_call 128; refine (skip_no h1 hs).mono ?_; rintro e w2 ⟨rfl, hb2⟩; obtain ⟨h2, g2⟩ := at_below h1 hb2))
    go_at_call 100
    refine (take_one h2 (⟨#[108, 101, 116]⟩ : ByteArray) _ (by decide)).mono ?_
    rintro e w3 hr
    cases hm : take1 z.T (⟨#[108, 101, 116]⟩ : ByteArray) s with
    | ok u s3 =>
      rw [hm] at hr; obtain ⟨rfl, h3, g3⟩ := hr
      have g13 := (g1.trans g2).trans g3
      go_wp2_with (fail)
      go_at_call 102
      refine (name_p h3).mono ?_
      rintro e w4 hr
      cases hk : nameR z.T s3 with
      | ok t s4 =>
        rw [hk] at hr; obtain ⟨rfl, h4, g4⟩ := hr
        have g14 := g13.trans g4
        go_wp2_with (go_at_call 50; refine (part_p h4 3 _ t none 0 0).mono ?_; rintro e w5 ⟨g, rfl, hg, hb5, h5, g5⟩)
        go_ret
        exact res_ok (by unfold declR; rw [if_neg (by rw [hs]; decide), hm]; simp only [Rs.bind]; rw [hk]; rfl) (part_mk (cap := 0) hb5 (Nat.le_trans g14.size hg) (rowv_nil _ _ _) parts_nil) h5 (g14.trans g5)
      | bad p k => rw [hk] at hr; obtain ⟨rfl, g4⟩ := hr; exact ⟨rfl, res_bad (by unfold declR; rw [if_neg (by rw [hs]; decide), hm]; simp only [Rs.bind]; rw [hk]) (g13.trans g4)⟩
      | out => rw [hk] at hr; exact hr.elim
    | bad p k => rw [hm] at hr; obtain ⟨rfl, g3⟩ := hr; exact ⟨rfl, res_bad (by unfold declR; rw [if_neg (by rw [hs]; decide), hm]; rfl) ((g1.trans g2).trans g3)⟩
    | out => rw [hm] at hr; exact hr.elim
end Go.Proofs.YtablckajobefeaaGreatDoor.S
