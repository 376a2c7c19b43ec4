/-
  Walks of the parser's methods, from what each does in turn. Generated: gen_step.py.
-/
import Derived.Test.YtablckajobefeaaGreatDoorPN14
namespace Go.Proofs.YtablckajobefeaaGreatDoor.S
open Go.RowKit Fl

theorem wpAny_skip0 {P : Program} {ops : Array Oper} {Q : Exit → Act → World → Prop} {md : Region.Mode} {i : Nat} {oi : Oper} {fuel : Nat} {listed l2 : Array Bool} {a : Act} {w : World} (hi : ops[i]? = some oi)
    (hs : Region.noSelect ops = true) (hf : Region.free md ops listed i = true) (hr : (Region.ready md ops listed).contains i = true)
    (hQ : ∀ c a w, Q (.panic c) (a.put oi.dst undef) w → Q (.panic c) a w) (hw : Region.wanted oi (yielded ops a.tmps) = false) (he : a.put oi.dst undef = a) (hl : listed.setIfInBounds i true = l2)
    (h : wpAny P md ops Q fuel l2 a w) : wpAny P md ops Q (fuel + 1) listed a w :=
  wpAny_take hi hs hf hr hQ (Or.inr ⟨hw, rfl⟩) (by rw [he, hl]; exact h)
theorem pair_hQ (K1 K2 : Act → World → Prop) (R : Ending → World → Prop) (d : Option Nat) (v : Value) : ∀ (c : List PanicEntry) (a : Act) (w : World), (Exit.then K1 (Exit.then K2 (bodyPost Tryz.prog Tryz.f198 R))) (.panic c) (a.put d v) w → (Exit.then K1 (Exit.then K2 (bodyPost Tryz.prog Tryz.f198 R))) (.panic c) a w := by
  cases d <;> exact fun _ _ _ h => h
set_option maxHeartbeats 4000000 in
set_option maxRecDepth 100000 in
theorem w_pair {z : Pz} {r : Mth → Ps → Rs Tr} (A : AllW z r) {s : Ps} {w : World} (h : At z s w) (ho : step z.T r .pair s ≠ .out) :
    Calls Tryz.prog 198 #[.pointer (some ⟨z.b, 0, none⟩)] w (Res z w (step z.T r .pair s)) := by
  have hzb := at_lt h
  generalize hR : step z.T r .pair s = R at ho ⊢
  have HO := Lib.hid ho
  dsimp only [step] at hR
  have E := Lib.hid hR.symm
  clear hR ho
  have hc := h
  have G : w.grownBy w (some z.b) := World.grownBy.refl _ _
  cases hg : (sd z.T s == (⟨#[103, 101, 116]⟩ : ByteArray)) && !(saidT (tkAt z.T (s.next + 1)) == (⟨#[58]⟩ : ByteArray)) with
  | true =>
    have E := Lib.hid (E.out.trans (if_pos hg))
    obtain ⟨hs1, hcol⟩ := Bool.and_eq_true_iff.1 hg
    have hcol : (saidT (tkAt z.T (s.next + 1)) == (⟨#[58]⟩ : ByteArray)) = false := by revert hcol; cases (saidT (tkAt z.T (s.next + 1)) == (⟨#[58]⟩ : ByteArray)) <;> simp
    have hn := tok_end hc.may hc.lt (kind_of_sd hc.may hc.lt hs1 (by decide))
    have hfew := hc.few
    have hw : IntKind.i64.wrap ((s.next : Int) + 1) = (s.next : Int) + 1 := IntWalk.i64_in _ (by omega)
    have ht : ((s.next : Int) + 1).toNat = s.next + 1 := by omega
    have hb1 : (0 : Int) ≤ (s.next : Int) + 1 := by omega
    have hb2 : (s.next : Int) + 1 < (z.T.length : Int) := by omega
    have hq1 : ((saidT (tkAt z.T (s.next + 1))).toList == [58]) = false := by rw [← strL]; exact hcol
    have hq2 : ((saidT (tkAt z.T (s.next + 1))).toList != [58]) = true := by rw [bne, hq1]; rfl
    have hk0 := kind_of_sd hc.may hc.lt hs1 (by decide)
    go_enter Tryz.func198, Tryz.ntmps198
    go_wp2_with (fail)
    have hc := at_drew hc
    have G := grown_drew G
    go_region_with (first | (go_at_call 135; refine (is_yes hc hs1).mono ?_; rintro e wx ⟨rfl, hb⟩; obtain ⟨hc, gx⟩ := at_below hc hb; have G := G.trans gx; obtain ⟨c0, c1, _, _, fz, hlt⟩ := at_cells hc; obtain ⟨a, ha, hal, a0, a1, a2, a3⟩ := at_tok hc (s.next + 1) hn; rw [ha] at c0) | (go_at_call 96; refine (said_p (tkAt z.T (s.next + 1)) _).mono ?_; rintro e wx ⟨rfl, hb⟩; obtain ⟨hc, gx⟩ := at_below hc hb; have G := G.trans gx))
    all_goals
      go_wp2_with (fail)
      have hno1 : r (.accessor 30) s ≠ .out := fun e => HO.out (E.out.trans e)
      go_at_call 199
      refine (A.accessor 30 (by decide) hc hk0 hno1).mono ?_
      rintro e wx hr
      cases hm1 : r (.accessor 30) s with
      | out => exact absurd hm1 hno1
      | bad p q => rw [hm1] at hr; obtain ⟨rfl, gx⟩ := hr; exact ⟨rfl, res_bad (E.out.trans hm1) (G.trans gx)⟩
      | ok t1 s1 =>
        rw [hm1] at hr
        obtain ⟨v1, rfl, p1, hc, gx⟩ := hr
        have p1 := part_low p1 G.size
        obtain ⟨gv1, rfl⟩ := part_ptr p1
        have G := G.trans gx
        have E := Lib.hid (E.out.trans hm1)
        go_wp2_with (fail)
        go_ret
        exact res_ok E.out p1 hc G
  | false =>
    have E := Lib.hid (E.out.trans (if_neg (by rw [hg]; decide)))
    cases hh : (sd z.T s == (⟨#[115, 101, 116]⟩ : ByteArray)) && !(saidT (tkAt z.T (s.next + 1)) == (⟨#[58]⟩ : ByteArray)) with
    | true =>
      have E := Lib.hid (E.out.trans (if_pos hh))
      obtain ⟨hs2, hcol⟩ := Bool.and_eq_true_iff.1 hh
      have hcol : (saidT (tkAt z.T (s.next + 1)) == (⟨#[58]⟩ : ByteArray)) = false := by revert hcol; cases (saidT (tkAt z.T (s.next + 1)) == (⟨#[58]⟩ : ByteArray)) <;> simp
      have hs1 : (sd z.T s == (⟨#[103, 101, 116]⟩ : ByteArray)) = false := by rw [str_beq hs2]; decide
      have hn := tok_end hc.may hc.lt (kind_of_sd hc.may hc.lt hs2 (by decide))
      have hfew := hc.few
      have hw : IntKind.i64.wrap ((s.next : Int) + 1) = (s.next : Int) + 1 := IntWalk.i64_in _ (by omega)
      have ht : ((s.next : Int) + 1).toNat = s.next + 1 := by omega
      have hb1 : (0 : Int) ≤ (s.next : Int) + 1 := by omega
      have hb2 : (s.next : Int) + 1 < (z.T.length : Int) := by omega
      have hq1 : ((saidT (tkAt z.T (s.next + 1))).toList == [58]) = false := by rw [← strL]; exact hcol
      have hq2 : ((saidT (tkAt z.T (s.next + 1))).toList != [58]) = true := by rw [bne, hq1]; rfl
      have hk0 := kind_of_sd hc.may hc.lt hs2 (by decide)
      go_enter Tryz.func198, Tryz.ntmps198
      go_wp2_with (fail)
      have hc := at_drew hc
      have G := grown_drew G
      refine wp_region_any (by kernel_rfl) ?_
      change wpAny _ _ _ _ _ _ _ (World.drew _)
      refine wpAny_take (i := 0) (v := .pointer (some ⟨z.b, 0, none⟩)) rfl (by kernel_rfl) (by kernel_rfl) (by kernel_rfl) (pair_hQ _ _ _ _ _) (Or.inl ⟨by kernel_rfl, fun w => by go_simp⟩) ?_
      refine wpAny_ready (rs := [1]) (by kernel_rfl) (by simp) ?_
      refine AllReady.cons rfl (fun K hK => ?_) AllReady.nil
      go_simp
      go_wp2_with (go_at_call 135; refine (is_no hc hs1).mono ?_; rintro e wx ⟨rfl, hb⟩; obtain ⟨hc, gx⟩ := at_below hc hb; have G := G.trans gx)
      refine wpAny_take (i := 2) (v := .bool false) rfl (by kernel_rfl) (by kernel_rfl) (by kernel_rfl) (pair_hQ _ _ _ _ _) (Or.inl ⟨by kernel_rfl, fun w => by go_simp⟩) ?_
      refine wpAny_skip0 (i := 3) (l2 := #[true, true, true, true, false, false, false, false, false, false, false, false, false, false, false, false, false]) rfl (by kernel_rfl) (by kernel_rfl) (by kernel_rfl) (pair_hQ _ _ _ _ _) (by kernel_rfl) (by kernel_rfl) (by kernel_rfl) ?_
      refine wpAny_skip0 (i := 4) (l2 := #[true, true, true, true, true, false, false, false, false, false, false, false, false, false, false, false, false]) rfl (by kernel_rfl) (by kernel_rfl) (by kernel_rfl) (pair_hQ _ _ _ _ _) (by kernel_rfl) (by kernel_rfl) (by kernel_rfl) ?_
      refine wpAny_skip0 (i := 5) (l2 := #[true, true, true, true, true, true, false, false, false, false, false, false, false, false, false, false, false]) rfl (by kernel_rfl) (by kernel_rfl) (by kernel_rfl) (pair_hQ _ _ _ _ _) (by kernel_rfl) (by kernel_rfl) (by kernel_rfl) ?_
      refine wpAny_skip0 (i := 6) (l2 := #[true, true, true, true, true, true, true, false, false, false, false, false, false, false, false, false, false]) rfl (by kernel_rfl) (by kernel_rfl) (by kernel_rfl) (pair_hQ _ _ _ _ _) (by kernel_rfl) (by kernel_rfl) (by kernel_rfl) ?_
      refine wpAny_skip0 (i := 7) (l2 := #[true, true, true, true, true, true, true, true, false, false, false, false, false, false, false, false, false]) rfl (by kernel_rfl) (by kernel_rfl) (by kernel_rfl) (pair_hQ _ _ _ _ _) (by kernel_rfl) (by kernel_rfl) (by kernel_rfl) ?_
      refine wpAny_skip0 (i := 8) (l2 := #[true, true, true, true, true, true, true, true, true, false, false, false, false, false, false, false, false]) rfl (by kernel_rfl) (by kernel_rfl) (by kernel_rfl) (pair_hQ _ _ _ _ _) (by kernel_rfl) (by kernel_rfl) (by kernel_rfl) ?_
      refine wpAny_skip0 (i := 9) (l2 := #[true, true, true, true, true, true, true, true, true, true, false, false, false, false, false, false, false]) rfl (by kernel_rfl) (by kernel_rfl) (by kernel_rfl) (pair_hQ _ _ _ _ _) (by kernel_rfl) (by kernel_rfl) (by kernel_rfl) ?_
      refine wpAny_skip0 (i := 10) (l2 := #[true, true, true, true, true, true, true, true, true, true, true, false, false, false, false, false, false]) rfl (by kernel_rfl) (by kernel_rfl) (by kernel_rfl) (pair_hQ _ _ _ _ _) (by kernel_rfl) (by kernel_rfl) (by kernel_rfl) ?_
      refine wpAny_skip0 (i := 11) (l2 := #[true, true, true, true, true, true, true, true, true, true, true, true, false, false, false, false, false]) rfl (by kernel_rfl) (by kernel_rfl) (by kernel_rfl) (pair_hQ _ _ _ _ _) (by kernel_rfl) (by kernel_rfl) (by kernel_rfl) ?_
      refine wpAny_skip0 (i := 12) (l2 := #[true, true, true, true, true, true, true, true, true, true, true, true, true, false, false, false, false]) rfl (by kernel_rfl) (by kernel_rfl) (by kernel_rfl) (pair_hQ _ _ _ _ _) (by kernel_rfl) (by kernel_rfl) (by kernel_rfl) ?_
      refine wpAny_skip0 (i := 13) (l2 := #[true, true, true, true, true, true, true, true, true, true, true, true, true, true, false, false, false]) rfl (by kernel_rfl) (by kernel_rfl) (by kernel_rfl) (pair_hQ _ _ _ _ _) (by kernel_rfl) (by kernel_rfl) (by kernel_rfl) ?_
      refine wpAny_skip0 (i := 14) (l2 := #[true, true, true, true, true, true, true, true, true, true, true, true, true, true, true, false, false]) rfl (by kernel_rfl) (by kernel_rfl) (by kernel_rfl) (pair_hQ _ _ _ _ _) (by kernel_rfl) (by kernel_rfl) (by kernel_rfl) ?_
      refine wpAny_skip0 (i := 15) (l2 := #[true, true, true, true, true, true, true, true, true, true, true, true, true, true, true, true, false]) rfl (by kernel_rfl) (by kernel_rfl) (by kernel_rfl) (pair_hQ _ _ _ _ _) (by kernel_rfl) (by kernel_rfl) (by kernel_rfl) ?_
      refine wpAny_take (i := 16) (v := .bool false) rfl (by kernel_rfl) (by kernel_rfl) (by kernel_rfl) (pair_hQ _ _ _ _ _) (Or.inl ⟨by kernel_rfl, fun w => by go_simp⟩) ?_
      refine wpAny_done (by kernel_rfl) ?_ _
      go_wp2_with (fail)
      have hc := at_drew hc
      have G := grown_drew G
      go_region_with (first | (go_at_call 135; refine (is_yes hc hs2).mono ?_; rintro e wx ⟨rfl, hb⟩; obtain ⟨hc, gx⟩ := at_below hc hb; have G := G.trans gx; obtain ⟨c0, c1, _, _, fz, hlt⟩ := at_cells hc; obtain ⟨a, ha, hal, a0, a1, a2, a3⟩ := at_tok hc (s.next + 1) hn; rw [ha] at c0) | (go_at_call 96; refine (said_p (tkAt z.T (s.next + 1)) _).mono ?_; rintro e wx ⟨rfl, hb⟩; obtain ⟨hc, gx⟩ := at_below hc hb; have G := G.trans gx))
      all_goals
        go_wp2_with (fail)
        have hno1 : r (.accessor 31) s ≠ .out := fun e => HO.out (E.out.trans e)
        go_at_call 199
        refine (A.accessor 31 (by decide) hc hk0 hno1).mono ?_
        rintro e wx hr
        cases hm1 : r (.accessor 31) s with
        | out => exact absurd hm1 hno1
        | bad p q => rw [hm1] at hr; obtain ⟨rfl, gx⟩ := hr; exact ⟨rfl, res_bad (E.out.trans hm1) (G.trans gx)⟩
        | ok t1 s1 =>
          rw [hm1] at hr
          obtain ⟨v1, rfl, p1, hc, gx⟩ := hr
          have p1 := part_low p1 G.size
          obtain ⟨gv1, rfl⟩ := part_ptr p1
          have G := G.trans gx
          have E := Lib.hid (E.out.trans hm1)
          go_wp2_with (fail)
          go_ret
          exact res_ok E.out p1 hc G
    | false =>
      have E := Lib.hid (E.out.trans (if_neg (by rw [hh]; decide)))
      cases hs1 : (sd z.T s == (⟨#[103, 101, 116]⟩ : ByteArray)) with
      | true =>
        have hcol : (saidT (tkAt z.T (s.next + 1)) == (⟨#[58]⟩ : ByteArray)) = true := by rw [hs1] at hg; revert hg; cases (saidT (tkAt z.T (s.next + 1)) == (⟨#[58]⟩ : ByteArray)) <;> simp
        have hs2 : (sd z.T s == (⟨#[115, 101, 116]⟩ : ByteArray)) = false := by rw [str_beq hs1]; decide
        clear hg hh
        have hn := tok_end hc.may hc.lt (kind_of_sd hc.may hc.lt hs1 (by decide))
        have hfew := hc.few
        have hw : IntKind.i64.wrap ((s.next : Int) + 1) = (s.next : Int) + 1 := IntWalk.i64_in _ (by omega)
        have ht : ((s.next : Int) + 1).toNat = s.next + 1 := by omega
        have hb1 : (0 : Int) ≤ (s.next : Int) + 1 := by omega
        have hb2 : (s.next : Int) + 1 < (z.T.length : Int) := by omega
        have hq1 : ((saidT (tkAt z.T (s.next + 1))).toList == [58]) = true := by rw [← strL]; exact hcol
        have hq2 : ((saidT (tkAt z.T (s.next + 1))).toList != [58]) = false := by rw [bne, hq1]; rfl
        go_enter Tryz.func198, Tryz.ntmps198
        go_wp2_with (fail)
        have hc := at_drew hc
        have G := grown_drew G
        go_region_with (first | (go_at_call 135; refine (is_yes hc hs1).mono ?_; rintro e wx ⟨rfl, hb⟩; obtain ⟨hc, gx⟩ := at_below hc hb; have G := G.trans gx; obtain ⟨c0, c1, _, _, fz, hlt⟩ := at_cells hc; obtain ⟨a, ha, hal, a0, a1, a2, a3⟩ := at_tok hc (s.next + 1) hn; rw [ha] at c0) | (go_at_call 96; refine (said_p (tkAt z.T (s.next + 1)) _).mono ?_; rintro e wx ⟨rfl, hb⟩; obtain ⟨hc, gx⟩ := at_below hc hb; have G := G.trans gx))
        all_goals
          go_wp2_with (fail)
          have hc := at_drew hc
          have G := grown_drew G
          refine wp_region_any (by kernel_rfl) ?_
          change wpAny _ _ _ _ _ _ _ (World.drew _)
          refine wpAny_take (i := 0) (v := .pointer (some ⟨z.b, 0, none⟩)) rfl (by kernel_rfl) (by kernel_rfl) (by kernel_rfl) (pair_hQ _ _ _ _ _) (Or.inl ⟨by kernel_rfl, fun w => by go_simp⟩) ?_
          refine wpAny_ready (rs := [1]) (by kernel_rfl) (by simp) ?_
          refine AllReady.cons rfl (fun K hK => ?_) AllReady.nil
          go_simp
          go_wp2_with (go_at_call 135; refine (is_no hc hs2).mono ?_; rintro e wx ⟨rfl, hb⟩; obtain ⟨hc, gx⟩ := at_below hc hb; have G := G.trans gx)
          refine wpAny_take (i := 2) (v := .bool false) rfl (by kernel_rfl) (by kernel_rfl) (by kernel_rfl) (pair_hQ _ _ _ _ _) (Or.inl ⟨by kernel_rfl, fun w => by go_simp⟩) ?_
          refine wpAny_skip0 (i := 3) (l2 := #[true, true, true, true, false, false, false, false, false, false, false, false, false, false, false, false, false]) rfl (by kernel_rfl) (by kernel_rfl) (by kernel_rfl) (pair_hQ _ _ _ _ _) (by kernel_rfl) (by kernel_rfl) (by kernel_rfl) ?_
          refine wpAny_skip0 (i := 4) (l2 := #[true, true, true, true, true, false, false, false, false, false, false, false, false, false, false, false, false]) rfl (by kernel_rfl) (by kernel_rfl) (by kernel_rfl) (pair_hQ _ _ _ _ _) (by kernel_rfl) (by kernel_rfl) (by kernel_rfl) ?_
          refine wpAny_skip0 (i := 5) (l2 := #[true, true, true, true, true, true, false, false, false, false, false, false, false, false, false, false, false]) rfl (by kernel_rfl) (by kernel_rfl) (by kernel_rfl) (pair_hQ _ _ _ _ _) (by kernel_rfl) (by kernel_rfl) (by kernel_rfl) ?_
          refine wpAny_skip0 (i := 6) (l2 := #[true, true, true, true, true, true, true, false, false, false, false, false, false, false, false, false, false]) rfl (by kernel_rfl) (by kernel_rfl) (by kernel_rfl) (pair_hQ _ _ _ _ _) (by kernel_rfl) (by kernel_rfl) (by kernel_rfl) ?_
          refine wpAny_skip0 (i := 7) (l2 := #[true, true, true, true, true, true, true, true, false, false, false, false, false, false, false, false, false]) rfl (by kernel_rfl) (by kernel_rfl) (by kernel_rfl) (pair_hQ _ _ _ _ _) (by kernel_rfl) (by kernel_rfl) (by kernel_rfl) ?_
          refine wpAny_skip0 (i := 8) (l2 := #[true, true, true, true, true, true, true, true, true, false, false, false, false, false, false, false, false]) rfl (by kernel_rfl) (by kernel_rfl) (by kernel_rfl) (pair_hQ _ _ _ _ _) (by kernel_rfl) (by kernel_rfl) (by kernel_rfl) ?_
          refine wpAny_skip0 (i := 9) (l2 := #[true, true, true, true, true, true, true, true, true, true, false, false, false, false, false, false, false]) rfl (by kernel_rfl) (by kernel_rfl) (by kernel_rfl) (pair_hQ _ _ _ _ _) (by kernel_rfl) (by kernel_rfl) (by kernel_rfl) ?_
          refine wpAny_skip0 (i := 10) (l2 := #[true, true, true, true, true, true, true, true, true, true, true, false, false, false, false, false, false]) rfl (by kernel_rfl) (by kernel_rfl) (by kernel_rfl) (pair_hQ _ _ _ _ _) (by kernel_rfl) (by kernel_rfl) (by kernel_rfl) ?_
          refine wpAny_skip0 (i := 11) (l2 := #[true, true, true, true, true, true, true, true, true, true, true, true, false, false, false, false, false]) rfl (by kernel_rfl) (by kernel_rfl) (by kernel_rfl) (pair_hQ _ _ _ _ _) (by kernel_rfl) (by kernel_rfl) (by kernel_rfl) ?_
          refine wpAny_skip0 (i := 12) (l2 := #[true, true, true, true, true, true, true, true, true, true, true, true, true, false, false, false, false]) rfl (by kernel_rfl) (by kernel_rfl) (by kernel_rfl) (pair_hQ _ _ _ _ _) (by kernel_rfl) (by kernel_rfl) (by kernel_rfl) ?_
          refine wpAny_skip0 (i := 13) (l2 := #[true, true, true, true, true, true, true, true, true, true, true, true, true, true, false, false, false]) rfl (by kernel_rfl) (by kernel_rfl) (by kernel_rfl) (pair_hQ _ _ _ _ _) (by kernel_rfl) (by kernel_rfl) (by kernel_rfl) ?_
          refine wpAny_skip0 (i := 14) (l2 := #[true, true, true, true, true, true, true, true, true, true, true, true, true, true, true, false, false]) rfl (by kernel_rfl) (by kernel_rfl) (by kernel_rfl) (pair_hQ _ _ _ _ _) (by kernel_rfl) (by kernel_rfl) (by kernel_rfl) ?_
          refine wpAny_skip0 (i := 15) (l2 := #[true, true, true, true, true, true, true, true, true, true, true, true, true, true, true, true, false]) rfl (by kernel_rfl) (by kernel_rfl) (by kernel_rfl) (pair_hQ _ _ _ _ _) (by kernel_rfl) (by kernel_rfl) (by kernel_rfl) ?_
          refine wpAny_take (i := 16) (v := .bool false) rfl (by kernel_rfl) (by kernel_rfl) (by kernel_rfl) (pair_hQ _ _ _ _ _) (Or.inl ⟨by kernel_rfl, fun w => by go_simp⟩) ?_
          refine wpAny_done (by kernel_rfl) ?_ _
          go_wp2_with (go_at_call 47; refine (at_p hc).mono ?_; rintro e wx ⟨rfl, hb⟩; obtain ⟨hc, gx⟩ := at_below hc hb; have G := G.trans gx)
          have hno1 : r .key s ≠ .out := fun e => HO.out (E.out.trans (Rs.bind_out e _))
          go_at_call 200
          refine (A.key hc hno1).mono ?_
          rintro e wx hr
          cases hm1 : r .key s with
          | out => exact absurd hm1 hno1
          | bad p q => rw [hm1] at hr; obtain ⟨rfl, gx⟩ := hr; exact ⟨rfl, res_bad (E.out.trans (Rs.bind_bad hm1 _)) (G.trans gx)⟩
          | ok t1 s1 =>
            rw [hm1] at hr
            obtain ⟨v1, rfl, p1, hc, gx⟩ := hr
            have p1 := part_low p1 G.size
            obtain ⟨gv1, rfl⟩ := part_ptr p1
            have G := G.trans gx
            have E := Lib.hid (E.out.trans (Rs.bind_ok hm1 _))
            go_wp2_with (fail)
            go_at_call 100
            refine (take_one hc (⟨#[58]⟩ : ByteArray) _ (by decide)).mono ?_
            rintro e wx hr
            cases hm2 : take1 z.T (⟨#[58]⟩ : ByteArray) s1 with
            | out => rw [hm2] at hr; exact hr.elim
            | bad p q => rw [hm2] at hr; obtain ⟨rfl, gx⟩ := hr; exact ⟨rfl, res_bad (E.out.trans (Rs.bind_bad hm2 _)) (G.trans gx)⟩
            | ok u s2 =>
              rw [hm2] at hr
              obtain ⟨rfl, hc, gx⟩ := hr
              have G := G.trans gx; have p1 := part_on p1 (Nat.le_refl _) gx hzb
              have E := Lib.hid (E.out.trans (Rs.bind_ok hm2 _))
              go_wp2_with (fail)
              have hno3 : r .assign s2 ≠ .out := fun e => HO.out (E.out.trans (Rs.bind_out e _))
              go_at_call 133
              refine (A.assign hc hno3).mono ?_
              rintro e wx hr
              cases hm3 : r .assign s2 with
              | out => exact absurd hm3 hno3
              | bad p q => rw [hm3] at hr; obtain ⟨rfl, gx⟩ := hr; exact ⟨rfl, res_bad (E.out.trans (Rs.bind_bad hm3 _)) (G.trans gx)⟩
              | ok t3 s3 =>
                rw [hm3] at hr
                obtain ⟨v3, rfl, p3, hc, gx⟩ := hr
                have p3 := part_low p3 G.size
                obtain ⟨gv3, rfl⟩ := part_ptr p3
                have G := G.trans gx; have p1 := part_on p1 (Nat.le_refl _) gx hzb
                have E := Lib.hid (E.out.trans (Rs.bind_ok hm3 _))
                go_wp2_with (go_at_call 50; refine (part_two hc 29 _ ⟨#[]⟩ p1 p3 G.size hzb).mono ?_; rintro e wx ⟨xv, rfl, px, hc, gx⟩; have G := G.trans gx; have p1 := part_on p1 (Nat.le_refl _) gx hzb; have p3 := part_on p3 (Nat.le_refl _) gx hzb; obtain ⟨gp, rfl⟩ := part_ptr px)
                go_ret
                exact res_ok E.out px hc G
      | false =>
        cases hs2 : (sd z.T s == (⟨#[115, 101, 116]⟩ : ByteArray)) with
        | true =>
          have hcol : (saidT (tkAt z.T (s.next + 1)) == (⟨#[58]⟩ : ByteArray)) = true := by rw [hs2] at hh; revert hh; cases (saidT (tkAt z.T (s.next + 1)) == (⟨#[58]⟩ : ByteArray)) <;> simp
          clear hg hh
          have hn := tok_end hc.may hc.lt (kind_of_sd hc.may hc.lt hs2 (by decide))
          have hfew := hc.few
          have hw : IntKind.i64.wrap ((s.next : Int) + 1) = (s.next : Int) + 1 := IntWalk.i64_in _ (by omega)
          have ht : ((s.next : Int) + 1).toNat = s.next + 1 := by omega
          have hb1 : (0 : Int) ≤ (s.next : Int) + 1 := by omega
          have hb2 : (s.next : Int) + 1 < (z.T.length : Int) := by omega
          have hq1 : ((saidT (tkAt z.T (s.next + 1))).toList == [58]) = true := by rw [← strL]; exact hcol
          have hq2 : ((saidT (tkAt z.T (s.next + 1))).toList != [58]) = false := by rw [bne, hq1]; rfl
          go_enter Tryz.func198, Tryz.ntmps198
          go_wp2_with (fail)
          have hc := at_drew hc
          have G := grown_drew G
          refine wp_region_any (by kernel_rfl) ?_
          change wpAny _ _ _ _ _ _ _ (World.drew _)
          refine wpAny_take (i := 0) (v := .pointer (some ⟨z.b, 0, none⟩)) rfl (by kernel_rfl) (by kernel_rfl) (by kernel_rfl) (pair_hQ _ _ _ _ _) (Or.inl ⟨by kernel_rfl, fun w => by go_simp⟩) ?_
          refine wpAny_ready (rs := [1]) (by kernel_rfl) (by simp) ?_
          refine AllReady.cons rfl (fun K hK => ?_) AllReady.nil
          go_simp
          go_wp2_with (go_at_call 135; refine (is_no hc hs1).mono ?_; rintro e wx ⟨rfl, hb⟩; obtain ⟨hc, gx⟩ := at_below hc hb; have G := G.trans gx)
          refine wpAny_take (i := 2) (v := .bool false) rfl (by kernel_rfl) (by kernel_rfl) (by kernel_rfl) (pair_hQ _ _ _ _ _) (Or.inl ⟨by kernel_rfl, fun w => by go_simp⟩) ?_
          refine wpAny_skip0 (i := 3) (l2 := #[true, true, true, true, false, false, false, false, false, false, false, false, false, false, false, false, false]) rfl (by kernel_rfl) (by kernel_rfl) (by kernel_rfl) (pair_hQ _ _ _ _ _) (by kernel_rfl) (by kernel_rfl) (by kernel_rfl) ?_
          refine wpAny_skip0 (i := 4) (l2 := #[true, true, true, true, true, false, false, false, false, false, false, false, false, false, false, false, false]) rfl (by kernel_rfl) (by kernel_rfl) (by kernel_rfl) (pair_hQ _ _ _ _ _) (by kernel_rfl) (by kernel_rfl) (by kernel_rfl) ?_
          refine wpAny_skip0 (i := 5) (l2 := #[true, true, true, true, true, true, false, false, false, false, false, false, false, false, false, false, false]) rfl (by kernel_rfl) (by kernel_rfl) (by kernel_rfl) (pair_hQ _ _ _ _ _) (by kernel_rfl) (by kernel_rfl) (by kernel_rfl) ?_
          refine wpAny_skip0 (i := 6) (l2 := #[true, true, true, true, true, true, true, false, false, false, false, false, false, false, false, false, false]) rfl (by kernel_rfl) (by kernel_rfl) (by kernel_rfl) (pair_hQ _ _ _ _ _) (by kernel_rfl) (by kernel_rfl) (by kernel_rfl) ?_
          refine wpAny_skip0 (i := 7) (l2 := #[true, true, true, true, true, true, true, true, false, false, false, false, false, false, false, false, false]) rfl (by kernel_rfl) (by kernel_rfl) (by kernel_rfl) (pair_hQ _ _ _ _ _) (by kernel_rfl) (by kernel_rfl) (by kernel_rfl) ?_
          refine wpAny_skip0 (i := 8) (l2 := #[true, true, true, true, true, true, true, true, true, false, false, false, false, false, false, false, false]) rfl (by kernel_rfl) (by kernel_rfl) (by kernel_rfl) (pair_hQ _ _ _ _ _) (by kernel_rfl) (by kernel_rfl) (by kernel_rfl) ?_
          refine wpAny_skip0 (i := 9) (l2 := #[true, true, true, true, true, true, true, true, true, true, false, false, false, false, false, false, false]) rfl (by kernel_rfl) (by kernel_rfl) (by kernel_rfl) (pair_hQ _ _ _ _ _) (by kernel_rfl) (by kernel_rfl) (by kernel_rfl) ?_
          refine wpAny_skip0 (i := 10) (l2 := #[true, true, true, true, true, true, true, true, true, true, true, false, false, false, false, false, false]) rfl (by kernel_rfl) (by kernel_rfl) (by kernel_rfl) (pair_hQ _ _ _ _ _) (by kernel_rfl) (by kernel_rfl) (by kernel_rfl) ?_
          refine wpAny_skip0 (i := 11) (l2 := #[true, true, true, true, true, true, true, true, true, true, true, true, false, false, false, false, false]) rfl (by kernel_rfl) (by kernel_rfl) (by kernel_rfl) (pair_hQ _ _ _ _ _) (by kernel_rfl) (by kernel_rfl) (by kernel_rfl) ?_
          refine wpAny_skip0 (i := 12) (l2 := #[true, true, true, true, true, true, true, true, true, true, true, true, true, false, false, false, false]) rfl (by kernel_rfl) (by kernel_rfl) (by kernel_rfl) (pair_hQ _ _ _ _ _) (by kernel_rfl) (by kernel_rfl) (by kernel_rfl) ?_
          refine wpAny_skip0 (i := 13) (l2 := #[true, true, true, true, true, true, true, true, true, true, true, true, true, true, false, false, false]) rfl (by kernel_rfl) (by kernel_rfl) (by kernel_rfl) (pair_hQ _ _ _ _ _) (by kernel_rfl) (by kernel_rfl) (by kernel_rfl) ?_
          refine wpAny_skip0 (i := 14) (l2 := #[true, true, true, true, true, true, true, true, true, true, true, true, true, true, true, false, false]) rfl (by kernel_rfl) (by kernel_rfl) (by kernel_rfl) (pair_hQ _ _ _ _ _) (by kernel_rfl) (by kernel_rfl) (by kernel_rfl) ?_
          refine wpAny_skip0 (i := 15) (l2 := #[true, true, true, true, true, true, true, true, true, true, true, true, true, true, true, true, false]) rfl (by kernel_rfl) (by kernel_rfl) (by kernel_rfl) (pair_hQ _ _ _ _ _) (by kernel_rfl) (by kernel_rfl) (by kernel_rfl) ?_
          refine wpAny_take (i := 16) (v := .bool false) rfl (by kernel_rfl) (by kernel_rfl) (by kernel_rfl) (pair_hQ _ _ _ _ _) (Or.inl ⟨by kernel_rfl, fun w => by go_simp⟩) ?_
          refine wpAny_done (by kernel_rfl) ?_ _
          go_wp2_with (fail)
          have hc := at_drew hc
          have G := grown_drew G
          go_region_with (first | (go_at_call 135; refine (is_yes hc hs2).mono ?_; rintro e wx ⟨rfl, hb⟩; obtain ⟨hc, gx⟩ := at_below hc hb; have G := G.trans gx; obtain ⟨c0, c1, _, _, fz, hlt⟩ := at_cells hc; obtain ⟨a, ha, hal, a0, a1, a2, a3⟩ := at_tok hc (s.next + 1) hn; rw [ha] at c0) | (go_at_call 96; refine (said_p (tkAt z.T (s.next + 1)) _).mono ?_; rintro e wx ⟨rfl, hb⟩; obtain ⟨hc, gx⟩ := at_below hc hb; have G := G.trans gx))
          all_goals
            go_wp2_with (go_at_call 47; refine (at_p hc).mono ?_; rintro e wx ⟨rfl, hb⟩; obtain ⟨hc, gx⟩ := at_below hc hb; have G := G.trans gx)
            have hno1 : r .key s ≠ .out := fun e => HO.out (E.out.trans (Rs.bind_out e _))
            go_at_call 200
            refine (A.key hc hno1).mono ?_
            rintro e wx hr
            cases hm1 : r .key s with
            | out => exact absurd hm1 hno1
            | bad p q => rw [hm1] at hr; obtain ⟨rfl, gx⟩ := hr; exact ⟨rfl, res_bad (E.out.trans (Rs.bind_bad hm1 _)) (G.trans gx)⟩
            | ok t1 s1 =>
              rw [hm1] at hr
              obtain ⟨v1, rfl, p1, hc, gx⟩ := hr
              have p1 := part_low p1 G.size
              obtain ⟨gv1, rfl⟩ := part_ptr p1
              have G := G.trans gx
              have E := Lib.hid (E.out.trans (Rs.bind_ok hm1 _))
              go_wp2_with (fail)
              go_at_call 100
              refine (take_one hc (⟨#[58]⟩ : ByteArray) _ (by decide)).mono ?_
              rintro e wx hr
              cases hm2 : take1 z.T (⟨#[58]⟩ : ByteArray) s1 with
              | out => rw [hm2] at hr; exact hr.elim
              | bad p q => rw [hm2] at hr; obtain ⟨rfl, gx⟩ := hr; exact ⟨rfl, res_bad (E.out.trans (Rs.bind_bad hm2 _)) (G.trans gx)⟩
              | ok u s2 =>
                rw [hm2] at hr
                obtain ⟨rfl, hc, gx⟩ := hr
                have G := G.trans gx; have p1 := part_on p1 (Nat.le_refl _) gx hzb
                have E := Lib.hid (E.out.trans (Rs.bind_ok hm2 _))
                go_wp2_with (fail)
                have hno3 : r .assign s2 ≠ .out := fun e => HO.out (E.out.trans (Rs.bind_out e _))
                go_at_call 133
                refine (A.assign hc hno3).mono ?_
                rintro e wx hr
                cases hm3 : r .assign s2 with
                | out => exact absurd hm3 hno3
                | bad p q => rw [hm3] at hr; obtain ⟨rfl, gx⟩ := hr; exact ⟨rfl, res_bad (E.out.trans (Rs.bind_bad hm3 _)) (G.trans gx)⟩
                | ok t3 s3 =>
                  rw [hm3] at hr
                  obtain ⟨v3, rfl, p3, hc, gx⟩ := hr
                  have p3 := part_low p3 G.size
                  obtain ⟨gv3, rfl⟩ := part_ptr p3
                  have G := G.trans gx; have p1 := part_on p1 (Nat.le_refl _) gx hzb
                  have E := Lib.hid (E.out.trans (Rs.bind_ok hm3 _))
                  go_wp2_with (go_at_call 50; refine (part_two hc 29 _ ⟨#[]⟩ p1 p3 G.size hzb).mono ?_; rintro e wx ⟨xv, rfl, px, hc, gx⟩; have G := G.trans gx; have p1 := part_on p1 (Nat.le_refl _) gx hzb; have p3 := part_on p3 (Nat.le_refl _) gx hzb; obtain ⟨gp, rfl⟩ := part_ptr px)
                  go_ret
                  exact res_ok E.out px hc G
        | false =>
          clear hg hh
          go_enter Tryz.func198, Tryz.ntmps198
          go_wp2_with (fail)
          have hc := at_drew hc
          have G := grown_drew G
          refine wp_region_any (by kernel_rfl) ?_
          change wpAny _ _ _ _ _ _ _ (World.drew _)
          refine wpAny_take (i := 0) (v := .pointer (some ⟨z.b, 0, none⟩)) rfl (by kernel_rfl) (by kernel_rfl) (by kernel_rfl) (pair_hQ _ _ _ _ _) (Or.inl ⟨by kernel_rfl, fun w => by go_simp⟩) ?_
          refine wpAny_ready (rs := [1]) (by kernel_rfl) (by simp) ?_
          refine AllReady.cons rfl (fun K hK => ?_) AllReady.nil
          go_simp
          go_wp2_with (go_at_call 135; refine (is_no hc hs1).mono ?_; rintro e wx ⟨rfl, hb⟩; obtain ⟨hc, gx⟩ := at_below hc hb; have G := G.trans gx)
          refine wpAny_take (i := 2) (v := .bool false) rfl (by kernel_rfl) (by kernel_rfl) (by kernel_rfl) (pair_hQ _ _ _ _ _) (Or.inl ⟨by kernel_rfl, fun w => by go_simp⟩) ?_
          refine wpAny_skip0 (i := 3) (l2 := #[true, true, true, true, false, false, false, false, false, false, false, false, false, false, false, false, false]) rfl (by kernel_rfl) (by kernel_rfl) (by kernel_rfl) (pair_hQ _ _ _ _ _) (by kernel_rfl) (by kernel_rfl) (by kernel_rfl) ?_
          refine wpAny_skip0 (i := 4) (l2 := #[true, true, true, true, true, false, false, false, false, false, false, false, false, false, false, false, false]) rfl (by kernel_rfl) (by kernel_rfl) (by kernel_rfl) (pair_hQ _ _ _ _ _) (by kernel_rfl) (by kernel_rfl) (by kernel_rfl) ?_
          refine wpAny_skip0 (i := 5) (l2 := #[true, true, true, true, true, true, false, false, false, false, false, false, false, false, false, false, false]) rfl (by kernel_rfl) (by kernel_rfl) (by kernel_rfl) (pair_hQ _ _ _ _ _) (by kernel_rfl) (by kernel_rfl) (by kernel_rfl) ?_
          refine wpAny_skip0 (i := 6) (l2 := #[true, true, true, true, true, true, true, false, false, false, false, false, false, false, false, false, false]) rfl (by kernel_rfl) (by kernel_rfl) (by kernel_rfl) (pair_hQ _ _ _ _ _) (by kernel_rfl) (by kernel_rfl) (by kernel_rfl) ?_
          refine wpAny_skip0 (i := 7) (l2 := #[true, true, true, true, true, true, true, true, false, false, false, false, false, false, false, false, false]) rfl (by kernel_rfl) (by kernel_rfl) (by kernel_rfl) (pair_hQ _ _ _ _ _) (by kernel_rfl) (by kernel_rfl) (by kernel_rfl) ?_
          refine wpAny_skip0 (i := 8) (l2 := #[true, true, true, true, true, true, true, true, true, false, false, false, false, false, false, false, false]) rfl (by kernel_rfl) (by kernel_rfl) (by kernel_rfl) (pair_hQ _ _ _ _ _) (by kernel_rfl) (by kernel_rfl) (by kernel_rfl) ?_
          refine wpAny_skip0 (i := 9) (l2 := #[true, true, true, true, true, true, true, true, true, true, false, false, false, false, false, false, false]) rfl (by kernel_rfl) (by kernel_rfl) (by kernel_rfl) (pair_hQ _ _ _ _ _) (by kernel_rfl) (by kernel_rfl) (by kernel_rfl) ?_
          refine wpAny_skip0 (i := 10) (l2 := #[true, true, true, true, true, true, true, true, true, true, true, false, false, false, false, false, false]) rfl (by kernel_rfl) (by kernel_rfl) (by kernel_rfl) (pair_hQ _ _ _ _ _) (by kernel_rfl) (by kernel_rfl) (by kernel_rfl) ?_
          refine wpAny_skip0 (i := 11) (l2 := #[true, true, true, true, true, true, true, true, true, true, true, true, false, false, false, false, false]) rfl (by kernel_rfl) (by kernel_rfl) (by kernel_rfl) (pair_hQ _ _ _ _ _) (by kernel_rfl) (by kernel_rfl) (by kernel_rfl) ?_
          refine wpAny_skip0 (i := 12) (l2 := #[true, true, true, true, true, true, true, true, true, true, true, true, true, false, false, false, false]) rfl (by kernel_rfl) (by kernel_rfl) (by kernel_rfl) (pair_hQ _ _ _ _ _) (by kernel_rfl) (by kernel_rfl) (by kernel_rfl) ?_
          refine wpAny_skip0 (i := 13) (l2 := #[true, true, true, true, true, true, true, true, true, true, true, true, true, true, false, false, false]) rfl (by kernel_rfl) (by kernel_rfl) (by kernel_rfl) (pair_hQ _ _ _ _ _) (by kernel_rfl) (by kernel_rfl) (by kernel_rfl) ?_
          refine wpAny_skip0 (i := 14) (l2 := #[true, true, true, true, true, true, true, true, true, true, true, true, true, true, true, false, false]) rfl (by kernel_rfl) (by kernel_rfl) (by kernel_rfl) (pair_hQ _ _ _ _ _) (by kernel_rfl) (by kernel_rfl) (by kernel_rfl) ?_
          refine wpAny_skip0 (i := 15) (l2 := #[true, true, true, true, true, true, true, true, true, true, true, true, true, true, true, true, false]) rfl (by kernel_rfl) (by kernel_rfl) (by kernel_rfl) (pair_hQ _ _ _ _ _) (by kernel_rfl) (by kernel_rfl) (by kernel_rfl) ?_
          refine wpAny_take (i := 16) (v := .bool false) rfl (by kernel_rfl) (by kernel_rfl) (by kernel_rfl) (pair_hQ _ _ _ _ _) (Or.inl ⟨by kernel_rfl, fun w => by go_simp⟩) ?_
          refine wpAny_done (by kernel_rfl) ?_ _
          go_wp2_with (fail)
          have hc := at_drew hc
          have G := grown_drew G
          refine wp_region_any (by kernel_rfl) ?_
          change wpAny _ _ _ _ _ _ _ (World.drew _)
          refine wpAny_take (i := 0) (v := .pointer (some ⟨z.b, 0, none⟩)) rfl (by kernel_rfl) (by kernel_rfl) (by kernel_rfl) (pair_hQ _ _ _ _ _) (Or.inl ⟨by kernel_rfl, fun w => by go_simp⟩) ?_
          refine wpAny_ready (rs := [1]) (by kernel_rfl) (by simp) ?_
          refine AllReady.cons rfl (fun K hK => ?_) AllReady.nil
          go_simp
          go_wp2_with (go_at_call 135; refine (is_no hc hs2).mono ?_; rintro e wx ⟨rfl, hb⟩; obtain ⟨hc, gx⟩ := at_below hc hb; have G := G.trans gx)
          refine wpAny_take (i := 2) (v := .bool false) rfl (by kernel_rfl) (by kernel_rfl) (by kernel_rfl) (pair_hQ _ _ _ _ _) (Or.inl ⟨by kernel_rfl, fun w => by go_simp⟩) ?_
          refine wpAny_skip0 (i := 3) (l2 := #[true, true, true, true, false, false, false, false, false, false, false, false, false, false, false, false, false]) rfl (by kernel_rfl) (by kernel_rfl) (by kernel_rfl) (pair_hQ _ _ _ _ _) (by kernel_rfl) (by kernel_rfl) (by kernel_rfl) ?_
          refine wpAny_skip0 (i := 4) (l2 := #[true, true, true, true, true, false, false, false, false, false, false, false, false, false, false, false, false]) rfl (by kernel_rfl) (by kernel_rfl) (by kernel_rfl) (pair_hQ _ _ _ _ _) (by kernel_rfl) (by kernel_rfl) (by kernel_rfl) ?_
          refine wpAny_skip0 (i := 5) (l2 := #[true, true, true, true, true, true, false, false, false, false, false, false, false, false, false, false, false]) rfl (by kernel_rfl) (by kernel_rfl) (by kernel_rfl) (pair_hQ _ _ _ _ _) (by kernel_rfl) (by kernel_rfl) (by kernel_rfl) ?_
          refine wpAny_skip0 (i := 6) (l2 := #[true, true, true, true, true, true, true, false, false, false, false, false, false, false, false, false, false]) rfl (by kernel_rfl) (by kernel_rfl) (by kernel_rfl) (pair_hQ _ _ _ _ _) (by kernel_rfl) (by kernel_rfl) (by kernel_rfl) ?_
          refine wpAny_skip0 (i := 7) (l2 := #[true, true, true, true, true, true, true, true, false, false, false, false, false, false, false, false, false]) rfl (by kernel_rfl) (by kernel_rfl) (by kernel_rfl) (pair_hQ _ _ _ _ _) (by kernel_rfl) (by kernel_rfl) (by kernel_rfl) ?_
          refine wpAny_skip0 (i := 8) (l2 := #[true, true, true, true, true, true, true, true, true, false, false, false, false, false, false, false, false]) rfl (by kernel_rfl) (by kernel_rfl) (by kernel_rfl) (pair_hQ _ _ _ _ _) (by kernel_rfl) (by kernel_rfl) (by kernel_rfl) ?_
          refine wpAny_skip0 (i := 9) (l2 := #[true, true, true, true, true, true, true, true, true, true, false, false, false, false, false, false, false]) rfl (by kernel_rfl) (by kernel_rfl) (by kernel_rfl) (pair_hQ _ _ _ _ _) (by kernel_rfl) (by kernel_rfl) (by kernel_rfl) ?_
          refine wpAny_skip0 (i := 10) (l2 := #[true, true, true, true, true, true, true, true, true, true, true, false, false, false, false, false, false]) rfl (by kernel_rfl) (by kernel_rfl) (by kernel_rfl) (pair_hQ _ _ _ _ _) (by kernel_rfl) (by kernel_rfl) (by kernel_rfl) ?_
          refine wpAny_skip0 (i := 11) (l2 := #[true, true, true, true, true, true, true, true, true, true, true, true, false, false, false, false, false]) rfl (by kernel_rfl) (by kernel_rfl) (by kernel_rfl) (pair_hQ _ _ _ _ _) (by kernel_rfl) (by kernel_rfl) (by kernel_rfl) ?_
          refine wpAny_skip0 (i := 12) (l2 := #[true, true, true, true, true, true, true, true, true, true, true, true, true, false, false, false, false]) rfl (by kernel_rfl) (by kernel_rfl) (by kernel_rfl) (pair_hQ _ _ _ _ _) (by kernel_rfl) (by kernel_rfl) (by kernel_rfl) ?_
          refine wpAny_skip0 (i := 13) (l2 := #[true, true, true, true, true, true, true, true, true, true, true, true, true, true, false, false, false]) rfl (by kernel_rfl) (by kernel_rfl) (by kernel_rfl) (pair_hQ _ _ _ _ _) (by kernel_rfl) (by kernel_rfl) (by kernel_rfl) ?_
          refine wpAny_skip0 (i := 14) (l2 := #[true, true, true, true, true, true, true, true, true, true, true, true, true, true, true, false, false]) rfl (by kernel_rfl) (by kernel_rfl) (by kernel_rfl) (pair_hQ _ _ _ _ _) (by kernel_rfl) (by kernel_rfl) (by kernel_rfl) ?_
          refine wpAny_skip0 (i := 15) (l2 := #[true, true, true, true, true, true, true, true, true, true, true, true, true, true, true, true, false]) rfl (by kernel_rfl) (by kernel_rfl) (by kernel_rfl) (pair_hQ _ _ _ _ _) (by kernel_rfl) (by kernel_rfl) (by kernel_rfl) ?_
          refine wpAny_take (i := 16) (v := .bool false) rfl (by kernel_rfl) (by kernel_rfl) (by kernel_rfl) (pair_hQ _ _ _ _ _) (Or.inl ⟨by kernel_rfl, fun w => by go_simp⟩) ?_
          refine wpAny_done (by kernel_rfl) ?_ _
          go_wp2_with (go_at_call 47; refine (at_p hc).mono ?_; rintro e wx ⟨rfl, hb⟩; obtain ⟨hc, gx⟩ := at_below hc hb; have G := G.trans gx)
          have hno1 : r .key s ≠ .out := fun e => HO.out (E.out.trans (Rs.bind_out e _))
          go_at_call 200
          refine (A.key hc hno1).mono ?_
          rintro e wx hr
          cases hm1 : r .key s with
          | out => exact absurd hm1 hno1
          | bad p q => rw [hm1] at hr; obtain ⟨rfl, gx⟩ := hr; exact ⟨rfl, res_bad (E.out.trans (Rs.bind_bad hm1 _)) (G.trans gx)⟩
          | ok t1 s1 =>
            rw [hm1] at hr
            obtain ⟨v1, rfl, p1, hc, gx⟩ := hr
            have p1 := part_low p1 G.size
            obtain ⟨gv1, rfl⟩ := part_ptr p1
            have G := G.trans gx
            have E := Lib.hid (E.out.trans (Rs.bind_ok hm1 _))
            go_wp2_with (fail)
            go_at_call 100
            refine (take_one hc (⟨#[58]⟩ : ByteArray) _ (by decide)).mono ?_
            rintro e wx hr
            cases hm2 : take1 z.T (⟨#[58]⟩ : ByteArray) s1 with
            | out => rw [hm2] at hr; exact hr.elim
            | bad p q => rw [hm2] at hr; obtain ⟨rfl, gx⟩ := hr; exact ⟨rfl, res_bad (E.out.trans (Rs.bind_bad hm2 _)) (G.trans gx)⟩
            | ok u s2 =>
              rw [hm2] at hr
              obtain ⟨rfl, hc, gx⟩ := hr
              have G := G.trans gx; have p1 := part_on p1 (Nat.le_refl _) gx hzb
              have E := Lib.hid (E.out.trans (Rs.bind_ok hm2 _))
              go_wp2_with (fail)
              have hno3 : r .assign s2 ≠ .out := fun e => HO.out (E.out.trans (Rs.bind_out e _))
              go_at_call 133
              refine (A.assign hc hno3).mono ?_
              rintro e wx hr
              cases hm3 : r .assign s2 with
              | out => exact absurd hm3 hno3
              | bad p q => rw [hm3] at hr; obtain ⟨rfl, gx⟩ := hr; exact ⟨rfl, res_bad (E.out.trans (Rs.bind_bad hm3 _)) (G.trans gx)⟩
              | ok t3 s3 =>
                rw [hm3] at hr
                obtain ⟨v3, rfl, p3, hc, gx⟩ := hr
                have p3 := part_low p3 G.size
                obtain ⟨gv3, rfl⟩ := part_ptr p3
                have G := G.trans gx; have p1 := part_on p1 (Nat.le_refl _) gx hzb
                have E := Lib.hid (E.out.trans (Rs.bind_ok hm3 _))
                go_wp2_with (go_at_call 50; refine (part_two hc 29 _ ⟨#[]⟩ p1 p3 G.size hzb).mono ?_; rintro e wx ⟨xv, rfl, px, hc, gx⟩; have G := G.trans gx; have p1 := part_on p1 (Nat.le_refl _) gx hzb; have p3 := part_on p3 (Nat.le_refl _) gx hzb; obtain ⟨gp, rfl⟩ := part_ptr px)
                go_ret
                exact res_ok E.out px hc G
end Go.Proofs.YtablckajobefeaaGreatDoor.S
