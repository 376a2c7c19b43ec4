/-
  Walks of the parser's methods, from what each does in turn. Generated: gen_step.py.
-/
import Derived.Test.YtablckajobefeaaGreatDoorPN13
namespace Go.Proofs.YtablckajobefeaaGreatDoor.S
open Go.RowKit Fl

set_option maxHeartbeats 4000000 in
set_option maxRecDepth 100000 in
theorem w_stated {z : Pz} {r : Mth → Ps → Rs Tr} (A : AllW z r) {s : Ps} {w : World} (h : At z s w) (ho : step z.T r .stated s ≠ .out) :
    Calls Tryz.prog 69 #[.pointer (some ⟨z.b, 0, none⟩)] w (Res z w (step z.T r .stated s)) := by
  have hzb := at_lt h
  generalize hR : step z.T r .stated s = R at ho ⊢
  have HO := Lib.hid ho
  dsimp only [step] at hR
  have E := Lib.hid hR.symm
  clear hR ho
  have hc := h
  have G : w.grownBy w (some z.b) := World.grownBy.refl _ _
  cases hs0 : (sd z.T s == (⟨#[123]⟩ : ByteArray)) with
  | true =>
    have E := Lib.hid (E.out.trans (if_pos hs0))
    have hl := str_beq hs0
    go_enter Tryz.func69, Tryz.ntmps69
    go_wp2_with (first
      | (go_at_call 48; refine (token_p hc).mono ?_; rintro e wx ⟨rfl, hb⟩; obtain ⟨hc, gx⟩ := at_below hc hb; have G := G.trans gx)
      | (go_at_call 96; refine (said_lit (t := tok z.T s) hl _).mono ?_; rintro e wx ⟨rfl, hb⟩; obtain ⟨hc, gx⟩ := at_below hc hb; have G := G.trans gx))
    have hno1 : r .block s ≠ .out := fun e => HO.out (E.out.trans e)
    go_at_call 97
    refine (A.block hc hno1).mono ?_
    rintro e wx hr
    cases hm1 : r .block s with
    | out => exact absurd hm1 hno1
    | bad p q => rw [hm1] at hr; obtain ⟨rfl, gx⟩ := hr; exact ⟨rfl, res_bad (E.out.trans hm1) (G.trans gx)⟩
    | ok t1 s1 =>
      rw [hm1] at hr
      obtain ⟨v1, rfl, p1, hc, gx⟩ := hr
      have p1 := part_low p1 G.size
      obtain ⟨gv1, rfl⟩ := part_ptr p1
      have G := G.trans gx
      have E := Lib.hid (E.out.trans hm1)
      go_wp2_with (fail)
      go_ret
      exact res_ok E.out p1 hc G
  | false =>
    have E := Lib.hid (E.out.trans (if_neg (by rw [hs0]; decide)))
    cases hs1 : (sd z.T s == (⟨#[59]⟩ : ByteArray)) with
    | true =>
      have E := Lib.hid (E.out.trans (if_pos hs1))
      have hl := str_beq hs1
      go_enter Tryz.func69, Tryz.ntmps69
      go_wp2_with (first
        | (go_at_call 48; refine (token_p hc).mono ?_; rintro e wx ⟨rfl, hb⟩; obtain ⟨hc, gx⟩ := at_below hc hb; have G := G.trans gx)
        | (go_at_call 96; refine (said_lit (t := tok z.T s) hl _).mono ?_; rintro e wx ⟨rfl, hb⟩; obtain ⟨hc, gx⟩ := at_below hc hb; have G := G.trans gx))
      have hno1 : bareR z.T 15 [(⟨#[59]⟩ : ByteArray)] s ≠ .out := fun e => HO.out (E.out.trans e)
      go_at_call 98
      refine (bare_one hc 15 (⟨#[59]⟩ : ByteArray) _ (by decide)).mono ?_
      rintro e wx hr
      cases hm1 : bareR z.T 15 [(⟨#[59]⟩ : ByteArray)] s with
      | out => exact absurd hm1 hno1
      | bad p q => rw [hm1] at hr; obtain ⟨rfl, gx⟩ := hr; exact ⟨rfl, res_bad (E.out.trans hm1) (G.trans gx)⟩
      | ok t1 s1 =>
        rw [hm1] at hr
        obtain ⟨v1, rfl, p1, hc, gx⟩ := hr
        have p1 := part_low p1 G.size
        obtain ⟨gv1, rfl⟩ := part_ptr p1
        have G := G.trans gx
        have E := Lib.hid (E.out.trans hm1)
        go_wp2_with (fail)
        go_ret
        exact res_ok E.out p1 hc G
    | false =>
      have E := Lib.hid (E.out.trans (if_neg (by rw [hs1]; decide)))
      cases hs2 : (sd z.T s == (⟨#[108, 101, 116]⟩ : ByteArray) || sd z.T s == (⟨#[99, 111, 110, 115, 116]⟩ : ByteArray)) with
      | true =>
        have E := Lib.hid (E.out.trans (if_pos hs2))
        rcases (Bool.or_eq_true_iff.1 hs2) with hs2 | hs2
        · have hl := str_beq hs2
          go_enter Tryz.func69, Tryz.ntmps69
          go_wp2_with (first
            | (go_at_call 48; refine (token_p hc).mono ?_; rintro e wx ⟨rfl, hb⟩; obtain ⟨hc, gx⟩ := at_below hc hb; have G := G.trans gx)
            | (go_at_call 96; refine (said_lit (t := tok z.T s) hl _).mono ?_; rintro e wx ⟨rfl, hb⟩; obtain ⟨hc, gx⟩ := at_below hc hb; have G := G.trans gx))
          have hno1 : r .declaration s ≠ .out := fun e => HO.out (E.out.trans e)
          go_at_call 99
          refine (A.declaration hc hno1).mono ?_
          rintro e wx hr
          cases hm1 : r .declaration s with
          | out => exact absurd hm1 hno1
          | bad p q => rw [hm1] at hr; obtain ⟨rfl, gx⟩ := hr; exact ⟨rfl, res_bad (E.out.trans hm1) (G.trans gx)⟩
          | ok t1 s1 =>
            rw [hm1] at hr
            obtain ⟨v1, rfl, p1, hc, gx⟩ := hr
            have p1 := part_low p1 G.size
            obtain ⟨gv1, rfl⟩ := part_ptr p1
            have G := G.trans gx
            have E := Lib.hid (E.out.trans hm1)
            go_wp2_with (fail)
            go_ret
            exact res_ok E.out p1 hc G
        · have hl := str_beq hs2
          go_enter Tryz.func69, Tryz.ntmps69
          go_wp2_with (first
            | (go_at_call 48; refine (token_p hc).mono ?_; rintro e wx ⟨rfl, hb⟩; obtain ⟨hc, gx⟩ := at_below hc hb; have G := G.trans gx)
            | (go_at_call 96; refine (said_lit (t := tok z.T s) hl _).mono ?_; rintro e wx ⟨rfl, hb⟩; obtain ⟨hc, gx⟩ := at_below hc hb; have G := G.trans gx))
          have hno1 : r .declaration s ≠ .out := fun e => HO.out (E.out.trans e)
          go_at_call 99
          refine (A.declaration hc hno1).mono ?_
          rintro e wx hr
          cases hm1 : r .declaration s with
          | out => exact absurd hm1 hno1
          | bad p q => rw [hm1] at hr; obtain ⟨rfl, gx⟩ := hr; exact ⟨rfl, res_bad (E.out.trans hm1) (G.trans gx)⟩
          | ok t1 s1 =>
            rw [hm1] at hr
            obtain ⟨v1, rfl, p1, hc, gx⟩ := hr
            have p1 := part_low p1 G.size
            obtain ⟨gv1, rfl⟩ := part_ptr p1
            have G := G.trans gx
            have E := Lib.hid (E.out.trans hm1)
            go_wp2_with (fail)
            go_ret
            exact res_ok E.out p1 hc G
      | false =>
        have E := Lib.hid (E.out.trans (if_neg (by rw [hs2]; decide)))
        cases hs3 : (sd z.T s == (⟨#[102, 117, 110, 99, 116, 105, 111, 110]⟩ : ByteArray)) with
        | true =>
          have E := Lib.hid (E.out.trans (if_pos hs3))
          have hl := str_beq hs3
          go_enter Tryz.func69, Tryz.ntmps69
          go_wp2_with (first
            | (go_at_call 48; refine (token_p hc).mono ?_; rintro e wx ⟨rfl, hb⟩; obtain ⟨hc, gx⟩ := at_below hc hb; have G := G.trans gx)
            | (go_at_call 96; refine (said_lit (t := tok z.T s) hl _).mono ?_; rintro e wx ⟨rfl, hb⟩; obtain ⟨hc, gx⟩ := at_below hc hb; have G := G.trans gx)
            | (go_at_call 47; refine (at_p hc).mono ?_; rintro e wx ⟨rfl, hb⟩; obtain ⟨hc, gx⟩ := at_below hc hb; have G := G.trans gx))
          go_at_call 100
          refine (take_one hc (⟨#[102, 117, 110, 99, 116, 105, 111, 110]⟩ : ByteArray) _ (by decide)).mono ?_
          rintro e wx hr
          cases hm1 : take1 z.T (⟨#[102, 117, 110, 99, 116, 105, 111, 110]⟩ : ByteArray) s with
          | out => rw [hm1] at hr; exact hr.elim
          | bad p q => rw [hm1] at hr; obtain ⟨rfl, gx⟩ := hr; exact ⟨rfl, res_bad (E.out.trans (Rs.bind_bad hm1 _)) (G.trans gx)⟩
          | ok u s1 =>
            rw [hm1] at hr
            obtain ⟨rfl, hc, gx⟩ := hr
            have G := G.trans gx
            have E := Lib.hid (E.out.trans (Rs.bind_ok hm1 _))
            go_wp2_with (fail)
            go_at_call 102
            refine (name_p hc).mono ?_
            rintro e wx hr
            cases hm2 : nameR z.T s1 with
            | out => rw [hm2] at hr; exact hr.elim
            | bad p q => rw [hm2] at hr; obtain ⟨rfl, gx⟩ := hr; exact ⟨rfl, res_bad (E.out.trans (Rs.bind_bad hm2 _)) (G.trans gx)⟩
            | ok t2 s2 =>
              rw [hm2] at hr
              obtain ⟨rfl, hc, gx⟩ := hr
              have G := G.trans gx
              have E := Lib.hid (E.out.trans (Rs.bind_ok hm2 _))
              go_wp2_with (fail)
              have hno3 : r (.function 5 (here z.T s) t2) s2 ≠ .out := fun e => HO.out (E.out.trans e)
              go_at_call 101
              refine (A.function 5 _ _ hc hno3).mono ?_
              rintro e wx hr
              cases hm3 : r (.function 5 (here z.T s) t2) s2 with
              | out => exact absurd hm3 hno3
              | bad p q => rw [hm3] at hr; obtain ⟨rfl, gx⟩ := hr; exact ⟨rfl, res_bad (E.out.trans hm3) (G.trans gx)⟩
              | ok t3 s3 =>
                rw [hm3] at hr
                obtain ⟨v3, rfl, p3, hc, gx⟩ := hr
                have p3 := part_low p3 G.size
                obtain ⟨gv3, rfl⟩ := part_ptr p3
                have G := G.trans gx
                have E := Lib.hid (E.out.trans hm3)
                go_wp2_with (fail)
                go_ret
                exact res_ok E.out p3 hc G
        | false =>
          have E := Lib.hid (E.out.trans (if_neg (by rw [hs3]; decide)))
          cases hs4 : (sd z.T s == (⟨#[105, 102]⟩ : ByteArray)) with
          | true =>
            have E := Lib.hid (E.out.trans (if_pos hs4))
            have hl := str_beq hs4
            go_enter Tryz.func69, Tryz.ntmps69
            go_wp2_with (first
              | (go_at_call 48; refine (token_p hc).mono ?_; rintro e wx ⟨rfl, hb⟩; obtain ⟨hc, gx⟩ := at_below hc hb; have G := G.trans gx)
              | (go_at_call 96; refine (said_lit (t := tok z.T s) hl _).mono ?_; rintro e wx ⟨rfl, hb⟩; obtain ⟨hc, gx⟩ := at_below hc hb; have G := G.trans gx))
            have hno1 : r .branch s ≠ .out := fun e => HO.out (E.out.trans e)
            go_at_call 103
            refine (A.branch hc hno1).mono ?_
            rintro e wx hr
            cases hm1 : r .branch s with
            | out => exact absurd hm1 hno1
            | bad p q => rw [hm1] at hr; obtain ⟨rfl, gx⟩ := hr; exact ⟨rfl, res_bad (E.out.trans hm1) (G.trans gx)⟩
            | ok t1 s1 =>
              rw [hm1] at hr
              obtain ⟨v1, rfl, p1, hc, gx⟩ := hr
              have p1 := part_low p1 G.size
              obtain ⟨gv1, rfl⟩ := part_ptr p1
              have G := G.trans gx
              have E := Lib.hid (E.out.trans hm1)
              go_wp2_with (fail)
              go_ret
              exact res_ok E.out p1 hc G
          | false =>
            have E := Lib.hid (E.out.trans (if_neg (by rw [hs4]; decide)))
            cases hs5 : (sd z.T s == (⟨#[119, 104, 105, 108, 101]⟩ : ByteArray)) with
            | true =>
              have E := Lib.hid (E.out.trans (if_pos hs5))
              have hl := str_beq hs5
              go_enter Tryz.func69, Tryz.ntmps69
              go_wp2_with (first
                | (go_at_call 48; refine (token_p hc).mono ?_; rintro e wx ⟨rfl, hb⟩; obtain ⟨hc, gx⟩ := at_below hc hb; have G := G.trans gx)
                | (go_at_call 96; refine (said_lit (t := tok z.T s) hl _).mono ?_; rintro e wx ⟨rfl, hb⟩; obtain ⟨hc, gx⟩ := at_below hc hb; have G := G.trans gx)
                | (go_at_call 47; refine (at_p hc).mono ?_; rintro e wx ⟨rfl, hb⟩; obtain ⟨hc, gx⟩ := at_below hc hb; have G := G.trans gx))
              go_at_call 100
              refine (take_one hc (⟨#[119, 104, 105, 108, 101]⟩ : ByteArray) _ (by decide)).mono ?_
              rintro e wx hr
              cases hm1 : take1 z.T (⟨#[119, 104, 105, 108, 101]⟩ : ByteArray) s with
              | out => rw [hm1] at hr; exact hr.elim
              | bad p q => rw [hm1] at hr; obtain ⟨rfl, gx⟩ := hr; exact ⟨rfl, res_bad (E.out.trans (Rs.bind_bad hm1 _)) (G.trans gx)⟩
              | ok u s1 =>
                rw [hm1] at hr
                obtain ⟨rfl, hc, gx⟩ := hr
                have G := G.trans gx
                have E := Lib.hid (E.out.trans (Rs.bind_ok hm1 _))
                go_wp2_with (fail)
                have hno2 : r .test s1 ≠ .out := fun e => HO.out (E.out.trans (Rs.bind_out e _))
                go_at_call 104
                refine (A.test hc hno2).mono ?_
                rintro e wx hr
                cases hm2 : r .test s1 with
                | out => exact absurd hm2 hno2
                | bad p q => rw [hm2] at hr; obtain ⟨rfl, gx⟩ := hr; exact ⟨rfl, res_bad (E.out.trans (Rs.bind_bad hm2 _)) (G.trans gx)⟩
                | ok t2 s2 =>
                  rw [hm2] at hr
                  obtain ⟨v2, rfl, p2, hc, gx⟩ := hr
                  have p2 := part_low p2 G.size
                  obtain ⟨gv2, rfl⟩ := part_ptr p2
                  have G := G.trans gx
                  have E := Lib.hid (E.out.trans (Rs.bind_ok hm2 _))
                  go_wp2_with (fail)
                  have hno3 : r .body s2 ≠ .out := fun e => HO.out (E.out.trans (Rs.bind_out e _))
                  go_at_call 105
                  refine (A.body hc hno3).mono ?_
                  rintro e wx hr
                  cases hm3 : r .body s2 with
                  | out => exact absurd hm3 hno3
                  | bad p q => rw [hm3] at hr; obtain ⟨rfl, gx⟩ := hr; exact ⟨rfl, res_bad (E.out.trans (Rs.bind_bad hm3 _)) (G.trans gx)⟩
                  | ok t3 s3 =>
                    rw [hm3] at hr
                    obtain ⟨v3, rfl, p3, hc, gx⟩ := hr
                    have p3 := part_low p3 G.size
                    obtain ⟨gv3, rfl⟩ := part_ptr p3
                    have G := G.trans gx; have p2 := part_on p2 (Nat.le_refl _) gx hzb
                    have E := Lib.hid (E.out.trans (Rs.bind_ok hm3 _))
                    go_wp2_with (go_at_call 50; refine (part_two hc 8 _ ⟨#[]⟩ p2 p3 G.size hzb).mono ?_; rintro e wx ⟨xv, rfl, px, hc, gx⟩; have G := G.trans gx; have p2 := part_on p2 (Nat.le_refl _) gx hzb; have p3 := part_on p3 (Nat.le_refl _) gx hzb; obtain ⟨gp, rfl⟩ := part_ptr px)
                    go_ret
                    exact res_ok E.out px hc G
            | false =>
              have E := Lib.hid (E.out.trans (if_neg (by rw [hs5]; decide)))
              cases hs6 : (sd z.T s == (⟨#[102, 111, 114]⟩ : ByteArray)) with
              | true =>
                have E := Lib.hid (E.out.trans (if_pos hs6))
                have hl := str_beq hs6
                go_enter Tryz.func69, Tryz.ntmps69
                go_wp2_with (first
                  | (go_at_call 48; refine (token_p hc).mono ?_; rintro e wx ⟨rfl, hb⟩; obtain ⟨hc, gx⟩ := at_below hc hb; have G := G.trans gx)
                  | (go_at_call 96; refine (said_lit (t := tok z.T s) hl _).mono ?_; rintro e wx ⟨rfl, hb⟩; obtain ⟨hc, gx⟩ := at_below hc hb; have G := G.trans gx))
                have hno1 : r .loop s ≠ .out := fun e => HO.out (E.out.trans e)
                go_at_call 106
                refine (A.loop hc hno1).mono ?_
                rintro e wx hr
                cases hm1 : r .loop s with
                | out => exact absurd hm1 hno1
                | bad p q => rw [hm1] at hr; obtain ⟨rfl, gx⟩ := hr; exact ⟨rfl, res_bad (E.out.trans hm1) (G.trans gx)⟩
                | ok t1 s1 =>
                  rw [hm1] at hr
                  obtain ⟨v1, rfl, p1, hc, gx⟩ := hr
                  have p1 := part_low p1 G.size
                  obtain ⟨gv1, rfl⟩ := part_ptr p1
                  have G := G.trans gx
                  have E := Lib.hid (E.out.trans hm1)
                  go_wp2_with (fail)
                  go_ret
                  exact res_ok E.out p1 hc G
              | false =>
                have E := Lib.hid (E.out.trans (if_neg (by rw [hs6]; decide)))
                cases hs7 : (sd z.T s == (⟨#[114, 101, 116, 117, 114, 110]⟩ : ByteArray)) with
                | true =>
                  have E := Lib.hid (E.out.trans (if_pos hs7))
                  have hl := str_beq hs7
                  go_enter Tryz.func69, Tryz.ntmps69
                  go_wp2_with (first
                    | (go_at_call 48; refine (token_p hc).mono ?_; rintro e wx ⟨rfl, hb⟩; obtain ⟨hc, gx⟩ := at_below hc hb; have G := G.trans gx)
                    | (go_at_call 96; refine (said_lit (t := tok z.T s) hl _).mono ?_; rintro e wx ⟨rfl, hb⟩; obtain ⟨hc, gx⟩ := at_below hc hb; have G := G.trans gx))
                  have hno1 : r .answer s ≠ .out := fun e => HO.out (E.out.trans e)
                  go_at_call 107
                  refine (A.answer hc hno1).mono ?_
                  rintro e wx hr
                  cases hm1 : r .answer s with
                  | out => exact absurd hm1 hno1
                  | bad p q => rw [hm1] at hr; obtain ⟨rfl, gx⟩ := hr; exact ⟨rfl, res_bad (E.out.trans hm1) (G.trans gx)⟩
                  | ok t1 s1 =>
                    rw [hm1] at hr
                    obtain ⟨v1, rfl, p1, hc, gx⟩ := hr
                    have p1 := part_low p1 G.size
                    obtain ⟨gv1, rfl⟩ := part_ptr p1
                    have G := G.trans gx
                    have E := Lib.hid (E.out.trans hm1)
                    go_wp2_with (fail)
                    go_ret
                    exact res_ok E.out p1 hc G
                | false =>
                  have E := Lib.hid (E.out.trans (if_neg (by rw [hs7]; decide)))
                  cases hs8 : (sd z.T s == (⟨#[116, 104, 114, 111, 119]⟩ : ByteArray)) with
                  | true =>
                    have E := Lib.hid (E.out.trans (if_pos hs8))
                    have hl := str_beq hs8
                    go_enter Tryz.func69, Tryz.ntmps69
                    go_wp2_with (first
                      | (go_at_call 48; refine (token_p hc).mono ?_; rintro e wx ⟨rfl, hb⟩; obtain ⟨hc, gx⟩ := at_below hc hb; have G := G.trans gx)
                      | (go_at_call 96; refine (said_lit (t := tok z.T s) hl _).mono ?_; rintro e wx ⟨rfl, hb⟩; obtain ⟨hc, gx⟩ := at_below hc hb; have G := G.trans gx)
                      | (go_at_call 47; refine (at_p hc).mono ?_; rintro e wx ⟨rfl, hb⟩; obtain ⟨hc, gx⟩ := at_below hc hb; have G := G.trans gx))
                    go_at_call 100
                    refine (take_one hc (⟨#[116, 104, 114, 111, 119]⟩ : ByteArray) _ (by decide)).mono ?_
                    rintro e wx hr
                    cases hm1 : take1 z.T (⟨#[116, 104, 114, 111, 119]⟩ : ByteArray) s with
                    | out => rw [hm1] at hr; exact hr.elim
                    | bad p q => rw [hm1] at hr; obtain ⟨rfl, gx⟩ := hr; exact ⟨rfl, res_bad (E.out.trans (Rs.bind_bad hm1 _)) (G.trans gx)⟩
                    | ok u s1 =>
                      rw [hm1] at hr
                      obtain ⟨rfl, hc, gx⟩ := hr
                      have G := G.trans gx
                      have E := Lib.hid (E.out.trans (Rs.bind_ok hm1 _))
                      go_wp2_with (fail)
                      have hno2 : r .ended s1 ≠ .out := fun e => HO.out (E.out.trans (Rs.bind_out e _))
                      go_at_call 108
                      refine (A.ended hc hno2).mono ?_
                      rintro e wx hr
                      cases hm2 : r .ended s1 with
                      | out => exact absurd hm2 hno2
                      | bad p q => rw [hm2] at hr; obtain ⟨rfl, gx⟩ := hr; exact ⟨rfl, res_bad (E.out.trans (Rs.bind_bad hm2 _)) (G.trans gx)⟩
                      | ok t2 s2 =>
                        rw [hm2] at hr
                        obtain ⟨v2, rfl, p2, hc, gx⟩ := hr
                        have p2 := part_low p2 G.size
                        obtain ⟨gv2, rfl⟩ := part_ptr p2
                        have G := G.trans gx
                        have E := Lib.hid (E.out.trans (Rs.bind_ok hm2 _))
                        go_wp2_with (go_at_call 50; refine (part_one hc 12 _ ⟨#[]⟩ p2 G.size hzb).mono ?_; rintro e wx ⟨xv, rfl, px, hc, gx⟩; have G := G.trans gx; have p2 := part_on p2 (Nat.le_refl _) gx hzb; obtain ⟨gp, rfl⟩ := part_ptr px)
                        go_ret
                        exact res_ok E.out px hc G
                  | false =>
                    have E := Lib.hid (E.out.trans (if_neg (by rw [hs8]; decide)))
                    cases hs9 : (sd z.T s == (⟨#[98, 114, 101, 97, 107]⟩ : ByteArray)) with
                    | true =>
                      have E := Lib.hid (E.out.trans (if_pos hs9))
                      have hl := str_beq hs9
                      go_enter Tryz.func69, Tryz.ntmps69
                      go_wp2_with (first
                        | (go_at_call 48; refine (token_p hc).mono ?_; rintro e wx ⟨rfl, hb⟩; obtain ⟨hc, gx⟩ := at_below hc hb; have G := G.trans gx)
                        | (go_at_call 96; refine (said_lit (t := tok z.T s) hl _).mono ?_; rintro e wx ⟨rfl, hb⟩; obtain ⟨hc, gx⟩ := at_below hc hb; have G := G.trans gx))
                      have hno1 : bareR z.T 13 [(⟨#[98, 114, 101, 97, 107]⟩ : ByteArray), (⟨#[59]⟩ : ByteArray)] s ≠ .out := fun e => HO.out (E.out.trans e)
                      go_at_call 98
                      refine (bare_two hc 13 (⟨#[98, 114, 101, 97, 107]⟩ : ByteArray) (⟨#[59]⟩ : ByteArray) _ (by decide) (by decide)).mono ?_
                      rintro e wx hr
                      cases hm1 : bareR z.T 13 [(⟨#[98, 114, 101, 97, 107]⟩ : ByteArray), (⟨#[59]⟩ : ByteArray)] s with
                      | out => exact absurd hm1 hno1
                      | bad p q => rw [hm1] at hr; obtain ⟨rfl, gx⟩ := hr; exact ⟨rfl, res_bad (E.out.trans hm1) (G.trans gx)⟩
                      | ok t1 s1 =>
                        rw [hm1] at hr
                        obtain ⟨v1, rfl, p1, hc, gx⟩ := hr
                        have p1 := part_low p1 G.size
                        obtain ⟨gv1, rfl⟩ := part_ptr p1
                        have G := G.trans gx
                        have E := Lib.hid (E.out.trans hm1)
                        go_wp2_with (fail)
                        go_ret
                        exact res_ok E.out p1 hc G
                    | false =>
                      have E := Lib.hid (E.out.trans (if_neg (by rw [hs9]; decide)))
                      cases hs10 : (sd z.T s == (⟨#[99, 111, 110, 116, 105, 110, 117, 101]⟩ : ByteArray)) with
                      | true =>
                        have E := Lib.hid (E.out.trans (if_pos hs10))
                        have hl := str_beq hs10
                        go_enter Tryz.func69, Tryz.ntmps69
                        go_wp2_with (first
                          | (go_at_call 48; refine (token_p hc).mono ?_; rintro e wx ⟨rfl, hb⟩; obtain ⟨hc, gx⟩ := at_below hc hb; have G := G.trans gx)
                          | (go_at_call 96; refine (said_lit (t := tok z.T s) hl _).mono ?_; rintro e wx ⟨rfl, hb⟩; obtain ⟨hc, gx⟩ := at_below hc hb; have G := G.trans gx))
                        have hno1 : bareR z.T 14 [(⟨#[99, 111, 110, 116, 105, 110, 117, 101]⟩ : ByteArray), (⟨#[59]⟩ : ByteArray)] s ≠ .out := fun e => HO.out (E.out.trans e)
                        go_at_call 98
                        refine (bare_two hc 14 (⟨#[99, 111, 110, 116, 105, 110, 117, 101]⟩ : ByteArray) (⟨#[59]⟩ : ByteArray) _ (by decide) (by decide)).mono ?_
                        rintro e wx hr
                        cases hm1 : bareR z.T 14 [(⟨#[99, 111, 110, 116, 105, 110, 117, 101]⟩ : ByteArray), (⟨#[59]⟩ : ByteArray)] s with
                        | out => exact absurd hm1 hno1
                        | bad p q => rw [hm1] at hr; obtain ⟨rfl, gx⟩ := hr; exact ⟨rfl, res_bad (E.out.trans hm1) (G.trans gx)⟩
                        | ok t1 s1 =>
                          rw [hm1] at hr
                          obtain ⟨v1, rfl, p1, hc, gx⟩ := hr
                          have p1 := part_low p1 G.size
                          obtain ⟨gv1, rfl⟩ := part_ptr p1
                          have G := G.trans gx
                          have E := Lib.hid (E.out.trans hm1)
                          go_wp2_with (fail)
                          go_ret
                          exact res_ok E.out p1 hc G
                      | false =>
                        have E := Lib.hid (E.out.trans (if_neg (by rw [hs10]; decide)))
                        cases hs11 : (sd z.T s == (⟨#[116, 114, 121]⟩ : ByteArray)) with
                        | true =>
                          have E := Lib.hid (E.out.trans (if_pos hs11))
                          have hl := str_beq hs11
                          go_enter Tryz.func69, Tryz.ntmps69
                          go_wp2_with (first
                            | (go_at_call 48; refine (token_p hc).mono ?_; rintro e wx ⟨rfl, hb⟩; obtain ⟨hc, gx⟩ := at_below hc hb; have G := G.trans gx)
                            | (go_at_call 96; refine (said_lit (t := tok z.T s) hl _).mono ?_; rintro e wx ⟨rfl, hb⟩; obtain ⟨hc, gx⟩ := at_below hc hb; have G := G.trans gx))
                          have hno1 : r .guarded s ≠ .out := fun e => HO.out (E.out.trans e)
                          go_at_call 109
                          refine (A.guarded hc hno1).mono ?_
                          rintro e wx hr
                          cases hm1 : r .guarded s with
                          | out => exact absurd hm1 hno1
                          | bad p q => rw [hm1] at hr; obtain ⟨rfl, gx⟩ := hr; exact ⟨rfl, res_bad (E.out.trans hm1) (G.trans gx)⟩
                          | ok t1 s1 =>
                            rw [hm1] at hr
                            obtain ⟨v1, rfl, p1, hc, gx⟩ := hr
                            have p1 := part_low p1 G.size
                            obtain ⟨gv1, rfl⟩ := part_ptr p1
                            have G := G.trans gx
                            have E := Lib.hid (E.out.trans hm1)
                            go_wp2_with (fail)
                            go_ret
                            exact res_ok E.out p1 hc G
                        | false =>
                          have E := Lib.hid (E.out.trans (if_neg (by rw [hs11]; decide)))
                          have hlet := (Bool.or_eq_false_iff.1 hs2).1
                          have hconst := (Bool.or_eq_false_iff.1 hs2).2
                          have f0 : ((saidT (tok z.T s)).toList == [123]) = false := by rw [← strL]; exact hs0
                          have f1 : ((saidT (tok z.T s)).toList == [59]) = false := by rw [← strL]; exact hs1
                          have f2 : ((saidT (tok z.T s)).toList == [108, 101, 116]) = false := by rw [← strL]; exact hlet
                          have f3 : ((saidT (tok z.T s)).toList == [99, 111, 110, 115, 116]) = false := by rw [← strL]; exact hconst
                          have f4 : ((saidT (tok z.T s)).toList == [102, 117, 110, 99, 116, 105, 111, 110]) = false := by rw [← strL]; exact hs3
                          have f5 : ((saidT (tok z.T s)).toList == [105, 102]) = false := by rw [← strL]; exact hs4
                          have f6 : ((saidT (tok z.T s)).toList == [119, 104, 105, 108, 101]) = false := by rw [← strL]; exact hs5
                          have f7 : ((saidT (tok z.T s)).toList == [102, 111, 114]) = false := by rw [← strL]; exact hs6
                          have f8 : ((saidT (tok z.T s)).toList == [114, 101, 116, 117, 114, 110]) = false := by rw [← strL]; exact hs7
                          have f9 : ((saidT (tok z.T s)).toList == [116, 104, 114, 111, 119]) = false := by rw [← strL]; exact hs8
                          have f10 : ((saidT (tok z.T s)).toList == [98, 114, 101, 97, 107]) = false := by rw [← strL]; exact hs9
                          have f11 : ((saidT (tok z.T s)).toList == [99, 111, 110, 116, 105, 110, 117, 101]) = false := by rw [← strL]; exact hs10
                          have f12 : ((saidT (tok z.T s)).toList == [116, 114, 121]) = false := by rw [← strL]; exact hs11
                          clear hs0 hs1 hs2 hs3 hs4 hs5 hs6 hs7 hs8 hs9 hs10 hs11 hlet hconst
                          go_enter Tryz.func69, Tryz.ntmps69
                          go_wp2_with (first
                            | (go_at_call 48; refine (token_p hc).mono ?_; rintro e wx ⟨rfl, hb⟩; obtain ⟨hc, gx⟩ := at_below hc hb; have G := G.trans gx)
                            | (go_at_call 96; refine (said_p (tok z.T s) _).mono ?_; rintro e wx ⟨rfl, hb⟩; obtain ⟨hc, gx⟩ := at_below hc hb; have G := G.trans gx)
                            | (go_at_call 47; refine (at_p hc).mono ?_; rintro e wx ⟨rfl, hb⟩; obtain ⟨hc, gx⟩ := at_below hc hb; have G := G.trans gx))
                          have hno1 : r .ended s ≠ .out := fun e => HO.out (E.out.trans (Rs.bind_out e _))
                          go_at_call 108
                          refine (A.ended hc hno1).mono ?_
                          rintro e wx hr
                          cases hm1 : r .ended s with
                          | out => exact absurd hm1 hno1
                          | bad p q => rw [hm1] at hr; obtain ⟨rfl, gx⟩ := hr; exact ⟨rfl, res_bad (E.out.trans (Rs.bind_bad hm1 _)) (G.trans gx)⟩
                          | ok t1 s1 =>
                            rw [hm1] at hr
                            obtain ⟨v1, rfl, p1, hc, gx⟩ := hr
                            have p1 := part_low p1 G.size
                            obtain ⟨gv1, rfl⟩ := part_ptr p1
                            have G := G.trans gx
                            have E := Lib.hid (E.out.trans (Rs.bind_ok hm1 _))
                            go_wp2_with (go_at_call 50; refine (part_one hc 6 _ ⟨#[]⟩ p1 G.size hzb).mono ?_; rintro e wx ⟨xv, rfl, px, hc, gx⟩; have G := G.trans gx; have p1 := part_on p1 (Nat.le_refl _) gx hzb; obtain ⟨gp, rfl⟩ := part_ptr px)
                            go_ret
                            exact res_ok E.out px hc G
end Go.Proofs.YtablckajobefeaaGreatDoor.S
