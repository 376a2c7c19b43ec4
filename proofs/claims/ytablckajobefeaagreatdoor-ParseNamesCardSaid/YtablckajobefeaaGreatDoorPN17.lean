/-
  Walks of the parser's methods, from what each does in turn. Generated: gen_step.py.
-/
import Derived.Test.YtablckajobefeaaGreatDoorPN13
namespace Go.Proofs.YtablckajobefeaaGreatDoor.S
open Go.RowKit Fl

set_option maxHeartbeats 4000000 in
set_option maxRecDepth 100000 in
theorem w_ended {z : Pz} {r : Mth → Ps → Rs Tr} (A : AllW z r) {s : Ps} {w : World} (h : At z s w) (ho : step z.T r .ended s ≠ .out) :
    Calls Tryz.prog 108 #[.pointer (some ⟨z.b, 0, none⟩)] w (Res z w (step z.T r .ended s)) := by
  have hzb := at_lt h
  generalize hR : step z.T r .ended s = R at ho ⊢
  have HO := Lib.hid ho
  dsimp only [step] at hR
  have E := Lib.hid hR.symm
  clear hR ho
  have hc := h
  have G : w.grownBy w (some z.b) := World.grownBy.refl _ _
  go_enter Tryz.func108, Tryz.ntmps108
  go_wp2_with (fail)
  have hno1 : r .assign s ≠ .out := fun e => HO.out (E.out.trans (Rs.bind_out e _))
  go_at_call 133
  refine (A.assign hc hno1).mono ?_
  rintro e wx hr
  cases hm1 : r .assign s with
  | out => exact absurd hm1 hno1
  | bad p q => rw [hm1] at hr; obtain ⟨rfl, gx⟩ := hr; exact ⟨rfl, res_bad (E.out.trans (Rs.bind_bad hm1 _)) (G.trans gx)⟩
  | ok t1 s1 =>
    rw [hm1] at hr
    obtain ⟨v1, rfl, p1, hc, gx⟩ := hr
    have p1 := part_low p1 G.size
    obtain ⟨gv1, rfl⟩ := part_ptr p1
    have G := G.trans gx
    have E := Lib.hid (E.out.trans (Rs.bind_ok hm1 _))
    go_wp2_with (fail)
    go_at_call 100
    refine (take_one hc (⟨#[59]⟩ : ByteArray) _ (by decide)).mono ?_
    rintro e wx hr
    cases hm2 : take1 z.T (⟨#[59]⟩ : ByteArray) s1 with
    | out => rw [hm2] at hr; exact hr.elim
    | bad p q => rw [hm2] at hr; obtain ⟨rfl, gx⟩ := hr; exact ⟨rfl, res_bad (E.out.trans (Rs.bind_bad hm2 _)) (G.trans gx)⟩
    | ok u s2 =>
      rw [hm2] at hr
      obtain ⟨rfl, hc, gx⟩ := hr
      have G := G.trans gx; have p1 := part_on p1 (Nat.le_refl _) gx hzb
      have E := Lib.hid (E.out.trans (Rs.bind_ok hm2 _))
      go_wp2_with (fail)
      go_ret
      exact res_ok E.out p1 hc G

set_option maxHeartbeats 4000000 in
set_option maxRecDepth 100000 in
theorem w_test {z : Pz} {r : Mth → Ps → Rs Tr} (A : AllW z r) {s : Ps} {w : World} (h : At z s w) (ho : step z.T r .test s ≠ .out) :
    Calls Tryz.prog 104 #[.pointer (some ⟨z.b, 0, none⟩)] w (Res z w (step z.T r .test s)) := by
  have hzb := at_lt h
  generalize hR : step z.T r .test s = R at ho ⊢
  have HO := Lib.hid ho
  dsimp only [step] at hR
  have E := Lib.hid hR.symm
  clear hR ho
  have hc := h
  have G : w.grownBy w (some z.b) := World.grownBy.refl _ _
  go_enter Tryz.func104, Tryz.ntmps104
  go_wp2_with (fail)
  go_at_call 100
  refine (take_one hc (⟨#[40]⟩ : ByteArray) _ (by decide)).mono ?_
  rintro e wx hr
  cases hm1 : take1 z.T (⟨#[40]⟩ : ByteArray) s with
  | out => rw [hm1] at hr; exact hr.elim
  | bad p q => rw [hm1] at hr; obtain ⟨rfl, gx⟩ := hr; exact ⟨rfl, res_bad (E.out.trans (Rs.bind_bad hm1 _)) (G.trans gx)⟩
  | ok u s1 =>
    rw [hm1] at hr
    obtain ⟨rfl, hc, gx⟩ := hr
    have G := G.trans gx
    have E := Lib.hid (E.out.trans (Rs.bind_ok hm1 _))
    go_wp2_with (fail)
    have hno2 : r .assign s1 ≠ .out := fun e => HO.out (E.out.trans (Rs.bind_out e _))
    go_at_call 133
    refine (A.assign hc hno2).mono ?_
    rintro e wx hr
    cases hm2 : r .assign s1 with
    | out => exact absurd hm2 hno2
    | bad p q => rw [hm2] at hr; obtain ⟨rfl, gx⟩ := hr; exact ⟨rfl, res_bad (E.out.trans (Rs.bind_bad hm2 _)) (G.trans gx)⟩
    | ok t2 s2 =>
      rw [hm2] at hr
      obtain ⟨v2, rfl, p2, hc, gx⟩ := hr
      have p2 := part_low p2 G.size
      obtain ⟨gv2, rfl⟩ := part_ptr p2
      have G := G.trans gx
      have E := Lib.hid (E.out.trans (Rs.bind_ok hm2 _))
      go_wp2_with (fail)
      go_at_call 100
      refine (take_one hc (⟨#[41]⟩ : ByteArray) _ (by decide)).mono ?_
      rintro e wx hr
      cases hm3 : take1 z.T (⟨#[41]⟩ : ByteArray) s2 with
      | out => rw [hm3] at hr; exact hr.elim
      | bad p q => rw [hm3] at hr; obtain ⟨rfl, gx⟩ := hr; exact ⟨rfl, res_bad (E.out.trans (Rs.bind_bad hm3 _)) (G.trans gx)⟩
      | ok u s3 =>
        rw [hm3] at hr
        obtain ⟨rfl, hc, gx⟩ := hr
        have G := G.trans gx; have p2 := part_on p2 (Nat.le_refl _) gx hzb
        have E := Lib.hid (E.out.trans (Rs.bind_ok hm3 _))
        go_wp2_with (fail)
        go_ret
        exact res_ok E.out p2 hc G

set_option maxHeartbeats 4000000 in
set_option maxRecDepth 100000 in
theorem w_led {z : Pz} {r : Mth → Ps → Rs Tr} (A : AllW z r) {s : Ps} {w : World} (h : At z s w) (hk : (tok z.T s).kind ≠ 0) (ho : step z.T r .led s ≠ .out) :
    Calls Tryz.prog 189 #[.pointer (some ⟨z.b, 0, none⟩)] w (Res z w (step z.T r .led s)) := by
  have hzb := at_lt h
  generalize hR : step z.T r .led s = R at ho ⊢
  have HO := Lib.hid ho
  dsimp only [step] at hR
  have E := Lib.hid hR.symm
  clear hR ho
  have hc := h
  have G : w.grownBy w (some z.b) := World.grownBy.refl _ _
  go_enter Tryz.func189, Tryz.ntmps189
  go_wp2_with (first
    | (go_at_call 47; refine (at_p hc).mono ?_; rintro e wx ⟨rfl, hb⟩; obtain ⟨hc, gx⟩ := at_below hc hb; have G := G.trans gx)
    | (go_at_call 132; refine (text_p hc (tok_end hc.may hc.lt hk)).mono ?_; rintro e wx ⟨rfl, hc, gx⟩; have G := G.trans gx))
  have hno1 : r .unary s.on ≠ .out := fun e => HO.out (E.out.trans (Rs.bind_out e _))
  go_at_call 187
  refine (A.unary hc hno1).mono ?_
  rintro e wx hr
  cases hm1 : r .unary s.on with
  | out => exact absurd hm1 hno1
  | bad p q => rw [hm1] at hr; obtain ⟨rfl, gx⟩ := hr; exact ⟨rfl, res_bad (E.out.trans (Rs.bind_bad hm1 _)) (G.trans gx)⟩
  | ok t1 s1 =>
    rw [hm1] at hr
    obtain ⟨v1, rfl, p1, hc, gx⟩ := hr
    have p1 := part_low p1 G.size
    obtain ⟨gv1, rfl⟩ := part_ptr p1
    have G := G.trans gx
    have E := Lib.hid (E.out.trans (Rs.bind_ok hm1 _))
    go_wp2_with (go_at_call 50; refine (part_one hc 38 _ _ p1 G.size hzb).mono ?_; rintro e wx ⟨xv, rfl, px, hc, gx⟩; have G := G.trans gx; have p1 := part_on p1 (Nat.le_refl _) gx hzb; obtain ⟨gp, rfl⟩ := part_ptr px)
    go_ret
    exact res_ok E.out px hc G

set_option maxHeartbeats 4000000 in
set_option maxRecDepth 100000 in
theorem w_assign {z : Pz} {r : Mth → Ps → Rs Tr} (A : AllW z r) {s : Ps} {w : World} (h : At z s w) (ho : step z.T r .assign s ≠ .out) :
    Calls Tryz.prog 133 #[.pointer (some ⟨z.b, 0, none⟩)] w (Res z w (step z.T r .assign s)) := by
  have hzb := at_lt h
  have hmf : ∀ (fn : Fn) (first cap : Array Value) (w : World), (Instr.makeFunc fn first cap).run Tryz.prog w = .ok (.func fn first cap) w := fun _ _ _ _ => rfl
  generalize hR : step z.T r .assign s = R at ho ⊢
  have HO := Lib.hid ho
  dsimp only [step] at hR
  have E := Lib.hid hR.symm
  clear hR ho
  have hc := h
  have G : w.grownBy w (some z.b) := World.grownBy.refl _ _
  go_enter Tryz.func133, Tryz.ntmps133
  go_wp2_with (fail)
  have hno1 : deeperR z.T (r .assigned) s ≠ .out := fun e => HO.out (E.out.trans e)
  go_at_call 68
  refine (deeper_assigned (fun _ _ h1 _ _ hn => A.assigned h1 hn) hc hno1).mono ?_
  rintro e wx hr
  cases hm1 : deeperR z.T (r .assigned) s with
  | out => exact absurd hm1 hno1
  | bad p q => rw [hm1] at hr; obtain ⟨rfl, gx⟩ := hr; exact ⟨rfl, res_bad (E.out.trans hm1) (G.trans gx)⟩
  | ok t1 s1 =>
    rw [hm1] at hr
    obtain ⟨v1, rfl, p1, hc, gx⟩ := hr
    have p1 := part_low p1 G.size
    obtain ⟨gv1, rfl⟩ := part_ptr p1
    have G := G.trans gx
    have E := Lib.hid (E.out.trans hm1)
    go_wp2_with (fail)
    go_ret
    exact res_ok E.out p1 hc G

set_option maxHeartbeats 4000000 in
set_option maxRecDepth 100000 in
theorem w_statement {z : Pz} {r : Mth → Ps → Rs Tr} (A : AllW z r) {s : Ps} {w : World} (h : At z s w) (ho : step z.T r .statement s ≠ .out) :
    Calls Tryz.prog 49 #[.pointer (some ⟨z.b, 0, none⟩)] w (Res z w (step z.T r .statement s)) := by
  have hzb := at_lt h
  have hmf : ∀ (fn : Fn) (first cap : Array Value) (w : World), (Instr.makeFunc fn first cap).run Tryz.prog w = .ok (.func fn first cap) w := fun _ _ _ _ => rfl
  generalize hR : step z.T r .statement s = R at ho ⊢
  have HO := Lib.hid ho
  dsimp only [step] at hR
  have E := Lib.hid hR.symm
  clear hR ho
  have hc := h
  have G : w.grownBy w (some z.b) := World.grownBy.refl _ _
  go_enter Tryz.func49, Tryz.ntmps49
  go_wp2_with (fail)
  have hno1 : deeperR z.T (r .stated) s ≠ .out := fun e => HO.out (E.out.trans e)
  go_at_call 68
  refine (deeper_stated (fun _ _ h1 _ _ hn => A.stated h1 hn) hc hno1).mono ?_
  rintro e wx hr
  cases hm1 : deeperR z.T (r .stated) s with
  | out => exact absurd hm1 hno1
  | bad p q => rw [hm1] at hr; obtain ⟨rfl, gx⟩ := hr; exact ⟨rfl, res_bad (E.out.trans hm1) (G.trans gx)⟩
  | ok t1 s1 =>
    rw [hm1] at hr
    obtain ⟨v1, rfl, p1, hc, gx⟩ := hr
    have p1 := part_low p1 G.size
    obtain ⟨gv1, rfl⟩ := part_ptr p1
    have G := G.trans gx
    have E := Lib.hid (E.out.trans hm1)
    go_wp2_with (fail)
    go_ret
    exact res_ok E.out p1 hc G
end Go.Proofs.YtablckajobefeaaGreatDoor.S
/-
  Walks of the parser's methods, from what each does in turn. Generated: gen_step.py.
-/
namespace Go.Proofs.YtablckajobefeaaGreatDoor.S
open Go.RowKit Fl

set_option maxHeartbeats 4000000 in
set_option maxRecDepth 100000 in
theorem w_loop {z : Pz} {r : Mth → Ps → Rs Tr} (A : AllW z r) {s : Ps} {w : World} (h : At z s w) (ho : step z.T r .loop s ≠ .out) :
    Calls Tryz.prog 106 #[.pointer (some ⟨z.b, 0, none⟩)] w (Res z w (step z.T r .loop s)) := by
  have hzb := at_lt h
  generalize hR : step z.T r .loop s = R at ho ⊢
  have HO := Lib.hid ho
  dsimp only [step] at hR
  have E := Lib.hid hR.symm
  clear hR ho
  have hc := h
  have G : w.grownBy w (some z.b) := World.grownBy.refl _ _
  go_enter Tryz.func106, Tryz.ntmps106
  go_wp2_with (go_at_call 47; refine (at_p hc).mono ?_; rintro e wx ⟨rfl, hb⟩; obtain ⟨hc, gx⟩ := at_below hc hb; have G := G.trans gx)
  go_at_call 100
  refine (take_two hc (⟨#[102, 111, 114]⟩ : ByteArray) (⟨#[40]⟩ : ByteArray) _ (by decide) (by decide)).mono ?_
  rintro e wx hr
  cases hm1 : takes z.T [(⟨#[102, 111, 114]⟩ : ByteArray), (⟨#[40]⟩ : ByteArray)] s with
  | out => rw [hm1] at hr; exact hr.elim
  | bad p q => rw [hm1] at hr; obtain ⟨rfl, gx⟩ := hr; exact ⟨rfl, res_bad (E.out.trans (Rs.bind_bad hm1 _)) (G.trans gx)⟩
  | ok u s1 =>
    rw [hm1] at hr
    obtain ⟨rfl, hc, gx⟩ := hr
    have G := G.trans gx
    have E := Lib.hid (E.out.trans (Rs.bind_ok hm1 _))
    go_wp2_with (fail)
    go_at_call 129
    refine (declarator_p hc).mono ?_
    rintro e wx hr
    cases hm2 : declR z.T s1 with
    | out => rw [hm2] at hr; exact hr.elim
    | bad p q => rw [hm2] at hr; obtain ⟨rfl, gx⟩ := hr; exact ⟨rfl, res_bad (E.out.trans (Rs.bind_bad hm2 _)) (G.trans gx)⟩
    | ok t2 s2 =>
      rw [hm2] at hr
      obtain ⟨v2, rfl, p2, hc, gx⟩ := hr
      have p2 := part_low p2 G.size
      obtain ⟨gv2, rfl⟩ := part_ptr p2
      have G := G.trans gx
      have E := Lib.hid (E.out.trans (Rs.bind_ok hm2 _))
      cases hs : (sd z.T s2 == (⟨#[105, 110]⟩ : ByteArray)) with
      | true =>
        have E := Lib.hid (E.out.trans (if_pos hs))
        have hn := tok_end hc.may hc.lt (kind_of_sd hc.may hc.lt hs (by decide))
        go_wp2_with (go_at_call 128; (with_reducible refine (skip_yes hc hs hn).mono ?_); rintro e wx ⟨rfl, hc, gx⟩; have G := G.trans gx; have p2 := part_on p2 (Nat.le_refl _) gx hzb)
        have hno3 : r .assign s2.on ≠ .out := fun e => HO.out (E.out.trans (Rs.bind_out e _))
        go_at_call 133
        refine (A.assign hc hno3).mono ?_
        rintro e wx hr
        cases hm3 : r .assign s2.on with
        | out => exact absurd hm3 hno3
        | bad p q => rw [hm3] at hr; obtain ⟨rfl, gx⟩ := hr; exact ⟨rfl, res_bad (E.out.trans (Rs.bind_bad hm3 _)) (G.trans gx)⟩
        | ok t3 s3 =>
          rw [hm3] at hr
          obtain ⟨v3, rfl, p3, hc, gx⟩ := hr
          have p3 := part_low p3 G.size
          obtain ⟨gv3, rfl⟩ := part_ptr p3
          have G := G.trans gx; have p2 := part_on p2 (Nat.le_refl _) gx hzb
          have E := Lib.hid (E.out.trans (Rs.bind_ok hm3 _))
          go_wp2_with (fail)
          go_at_call 100
          refine (take_one hc (⟨#[41]⟩ : ByteArray) _ (by decide)).mono ?_
          rintro e wx hr
          cases hm4 : take1 z.T (⟨#[41]⟩ : ByteArray) s3 with
          | out => rw [hm4] at hr; exact hr.elim
          | bad p q => rw [hm4] at hr; obtain ⟨rfl, gx⟩ := hr; exact ⟨rfl, res_bad (E.out.trans (Rs.bind_bad hm4 _)) (G.trans gx)⟩
          | ok u s4 =>
            rw [hm4] at hr
            obtain ⟨rfl, hc, gx⟩ := hr
            have G := G.trans gx; have p2 := part_on p2 (Nat.le_refl _) gx hzb; have p3 := part_on p3 (Nat.le_refl _) gx hzb
            have E := Lib.hid (E.out.trans (Rs.bind_ok hm4 _))
            go_wp2_with (fail)
            have hno5 : r .body s4 ≠ .out := fun e => HO.out (E.out.trans (Rs.bind_out e _))
            go_at_call 105
            refine (A.body hc hno5).mono ?_
            rintro e wx hr
            cases hm5 : r .body s4 with
            | out => exact absurd hm5 hno5
            | bad p q => rw [hm5] at hr; obtain ⟨rfl, gx⟩ := hr; exact ⟨rfl, res_bad (E.out.trans (Rs.bind_bad hm5 _)) (G.trans gx)⟩
            | ok t5 s5 =>
              rw [hm5] at hr
              obtain ⟨v5, rfl, p5, hc, gx⟩ := hr
              have p5 := part_low p5 G.size
              obtain ⟨gv5, rfl⟩ := part_ptr p5
              have G := G.trans gx; have p2 := part_on p2 (Nat.le_refl _) gx hzb; have p3 := part_on p3 (Nat.le_refl _) gx hzb
              have E := Lib.hid (E.out.trans (Rs.bind_ok hm5 _))
              go_wp2_with (go_at_call 50; refine (part_three hc 9 _ ⟨#[]⟩ p2 p3 p5 G.size hzb).mono ?_; rintro e wx ⟨xv, rfl, px, hc, gx⟩; have G := G.trans gx; have p2 := part_on p2 (Nat.le_refl _) gx hzb; have p3 := part_on p3 (Nat.le_refl _) gx hzb; have p5 := part_on p5 (Nat.le_refl _) gx hzb; obtain ⟨gp, rfl⟩ := part_ptr px)
              go_ret
              exact res_ok E.out px hc G
      | false =>
        have E := Lib.hid (E.out.trans (if_neg (by rw [hs]; decide)))
        go_wp2_with (go_at_call 128; (with_reducible refine (skip_no hc hs).mono ?_); rintro e wx ⟨rfl, hb⟩; obtain ⟨hc, gx⟩ := at_below hc hb; have G := G.trans gx; have p2 := part_on p2 (Nat.le_refl _) gx hzb)
        go_at_call 100
        refine (take_one hc (⟨#[111, 102]⟩ : ByteArray) _ (by decide)).mono ?_
        rintro e wx hr
        cases hm3 : take1 z.T (⟨#[111, 102]⟩ : ByteArray) s2 with
        | out => rw [hm3] at hr; exact hr.elim
        | bad p q => rw [hm3] at hr; obtain ⟨rfl, gx⟩ := hr; exact ⟨rfl, res_bad (E.out.trans (Rs.bind_bad hm3 _)) (G.trans gx)⟩
        | ok u s3 =>
          rw [hm3] at hr
          obtain ⟨rfl, hc, gx⟩ := hr
          have G := G.trans gx; have p2 := part_on p2 (Nat.le_refl _) gx hzb
          have E := Lib.hid (E.out.trans (Rs.bind_ok hm3 _))
          go_wp2_with (fail)
          have hno4 : r .assign s3 ≠ .out := fun e => HO.out (E.out.trans (Rs.bind_out e _))
          go_at_call 133
          refine (A.assign hc hno4).mono ?_
          rintro e wx hr
          cases hm4 : r .assign s3 with
          | out => exact absurd hm4 hno4
          | bad p q => rw [hm4] at hr; obtain ⟨rfl, gx⟩ := hr; exact ⟨rfl, res_bad (E.out.trans (Rs.bind_bad hm4 _)) (G.trans gx)⟩
          | ok t4 s4 =>
            rw [hm4] at hr
            obtain ⟨v4, rfl, p4, hc, gx⟩ := hr
            have p4 := part_low p4 G.size
            obtain ⟨gv4, rfl⟩ := part_ptr p4
            have G := G.trans gx; have p2 := part_on p2 (Nat.le_refl _) gx hzb
            have E := Lib.hid (E.out.trans (Rs.bind_ok hm4 _))
            go_wp2_with (fail)
            go_at_call 100
            refine (take_one hc (⟨#[41]⟩ : ByteArray) _ (by decide)).mono ?_
            rintro e wx hr
            cases hm5 : take1 z.T (⟨#[41]⟩ : ByteArray) s4 with
            | out => rw [hm5] at hr; exact hr.elim
            | bad p q => rw [hm5] at hr; obtain ⟨rfl, gx⟩ := hr; exact ⟨rfl, res_bad (E.out.trans (Rs.bind_bad hm5 _)) (G.trans gx)⟩
            | ok u s5 =>
              rw [hm5] at hr
              obtain ⟨rfl, hc, gx⟩ := hr
              have G := G.trans gx; have p2 := part_on p2 (Nat.le_refl _) gx hzb; have p4 := part_on p4 (Nat.le_refl _) gx hzb
              have E := Lib.hid (E.out.trans (Rs.bind_ok hm5 _))
              go_wp2_with (fail)
              have hno6 : r .body s5 ≠ .out := fun e => HO.out (E.out.trans (Rs.bind_out e _))
              go_at_call 105
              refine (A.body hc hno6).mono ?_
              rintro e wx hr
              cases hm6 : r .body s5 with
              | out => exact absurd hm6 hno6
              | bad p q => rw [hm6] at hr; obtain ⟨rfl, gx⟩ := hr; exact ⟨rfl, res_bad (E.out.trans (Rs.bind_bad hm6 _)) (G.trans gx)⟩
              | ok t6 s6 =>
                rw [hm6] at hr
                obtain ⟨v6, rfl, p6, hc, gx⟩ := hr
                have p6 := part_low p6 G.size
                obtain ⟨gv6, rfl⟩ := part_ptr p6
                have G := G.trans gx; have p2 := part_on p2 (Nat.le_refl _) gx hzb; have p4 := part_on p4 (Nat.le_refl _) gx hzb
                have E := Lib.hid (E.out.trans (Rs.bind_ok hm6 _))
                go_wp2_with (go_at_call 50; refine (part_three hc 10 _ ⟨#[]⟩ p2 p4 p6 G.size hzb).mono ?_; rintro e wx ⟨xv, rfl, px, hc, gx⟩; have G := G.trans gx; have p2 := part_on p2 (Nat.le_refl _) gx hzb; have p4 := part_on p4 (Nat.le_refl _) gx hzb; have p6 := part_on p6 (Nat.le_refl _) gx hzb; obtain ⟨gp, rfl⟩ := part_ptr px)
                go_ret
                exact res_ok E.out px hc G

set_option maxHeartbeats 4000000 in
set_option maxRecDepth 100000 in
theorem w_answer {z : Pz} {r : Mth → Ps → Rs Tr} (A : AllW z r) {s : Ps} {w : World} (h : At z s w) (ho : step z.T r .answer s ≠ .out) :
    Calls Tryz.prog 107 #[.pointer (some ⟨z.b, 0, none⟩)] w (Res z w (step z.T r .answer s)) := by
  have hzb := at_lt h
  generalize hR : step z.T r .answer s = R at ho ⊢
  have HO := Lib.hid ho
  dsimp only [step] at hR
  have E := Lib.hid hR.symm
  clear hR ho
  have hc := h
  have G : w.grownBy w (some z.b) := World.grownBy.refl _ _
  go_enter Tryz.func107, Tryz.ntmps107
  go_wp2_with (go_at_call 47; refine (at_p hc).mono ?_; rintro e wx ⟨rfl, hb⟩; obtain ⟨hc, gx⟩ := at_below hc hb; have G := G.trans gx)
  go_at_call 100
  refine (take_one hc (⟨#[114, 101, 116, 117, 114, 110]⟩ : ByteArray) _ (by decide)).mono ?_
  rintro e wx hr
  cases hm1 : take1 z.T (⟨#[114, 101, 116, 117, 114, 110]⟩ : ByteArray) s with
  | out => rw [hm1] at hr; exact hr.elim
  | bad p q => rw [hm1] at hr; obtain ⟨rfl, gx⟩ := hr; exact ⟨rfl, res_bad (E.out.trans (Rs.bind_bad hm1 _)) (G.trans gx)⟩
  | ok u s1 =>
    rw [hm1] at hr
    obtain ⟨rfl, hc, gx⟩ := hr
    have G := G.trans gx
    have E := Lib.hid (E.out.trans (Rs.bind_ok hm1 _))
    cases hs : (sd z.T s1 == (⟨#[59]⟩ : ByteArray)) with
    | true =>
      have E := Lib.hid (E.out.trans (if_pos hs))
      have hn := tok_end hc.may hc.lt (kind_of_sd hc.may hc.lt hs (by decide))
      go_wp2_with (first
        | (go_at_call 128; (with_reducible refine (skip_yes hc hs hn).mono ?_); rintro e wx ⟨rfl, hc, gx⟩; have G := G.trans gx)
        | (go_at_call 50; refine (part_none hc 11 _ ⟨#[]⟩ G.size hzb).mono ?_; rintro e wx ⟨xv, rfl, px, hc, gx⟩; have G := G.trans gx; obtain ⟨gp, rfl⟩ := part_ptr px))
      go_ret
      exact res_ok E.out px hc G
    | false =>
      have E := Lib.hid (E.out.trans (if_neg (by rw [hs]; decide)))
      go_wp2_with (go_at_call 128; (with_reducible refine (skip_no hc hs).mono ?_); rintro e wx ⟨rfl, hb⟩; obtain ⟨hc, gx⟩ := at_below hc hb; have G := G.trans gx)
      have hno2 : r .ended s1 ≠ .out := fun e => HO.out (E.out.trans (Rs.bind_out e _))
      go_at_call 108
      refine (A.ended hc hno2).mono ?_
      rintro e wx hr
      cases hm2 : r .ended s1 with
      | out => exact absurd hm2 hno2
      | bad p q => rw [hm2] at hr; obtain ⟨rfl, gx⟩ := hr; exact ⟨rfl, res_bad (E.out.trans (Rs.bind_bad hm2 _)) (G.trans gx)⟩
      | ok t2 s2 =>
        rw [hm2] at hr
        obtain ⟨v2, rfl, p2, hc, gx⟩ := hr
        have p2 := part_low p2 G.size
        obtain ⟨gv2, rfl⟩ := part_ptr p2
        have G := G.trans gx
        have E := Lib.hid (E.out.trans (Rs.bind_ok hm2 _))
        go_wp2_with (go_at_call 50; refine (part_one hc 11 _ ⟨#[]⟩ p2 G.size hzb).mono ?_; rintro e wx ⟨xv, rfl, px, hc, gx⟩; have G := G.trans gx; have p2 := part_on p2 (Nat.le_refl _) gx hzb; obtain ⟨gp, rfl⟩ := part_ptr px)
        go_ret
        exact res_ok E.out px hc G

set_option maxHeartbeats 4000000 in
set_option maxRecDepth 100000 in
theorem w_cond {z : Pz} {r : Mth → Ps → Rs Tr} (A : AllW z r) {s : Ps} {w : World} (h : At z s w) (ho : step z.T r .cond s ≠ .out) :
    Calls Tryz.prog 172 #[.pointer (some ⟨z.b, 0, none⟩)] w (Res z w (step z.T r .cond s)) := by
  have hzb := at_lt h
  generalize hR : step z.T r .cond s = R at ho ⊢
  have HO := Lib.hid ho
  dsimp only [step] at hR
  have E := Lib.hid hR.symm
  clear hR ho
  have hc := h
  have G : w.grownBy w (some z.b) := World.grownBy.refl _ _
  go_enter Tryz.func172, Tryz.ntmps172
  go_wp2_with (go_at_call 47; refine (at_p hc).mono ?_; rintro e wx ⟨rfl, hb⟩; obtain ⟨hc, gx⟩ := at_below hc hb; have G := G.trans gx)
  have hno1 : r (.sides 1) s ≠ .out := fun e => HO.out (E.out.trans (Rs.bind_out e _))
  go_at_call 185
  refine (A.sides 1 (by decide) (by decide) hc hno1).mono ?_
  rintro e wx hr
  cases hm1 : r (.sides 1) s with
  | out => exact absurd hm1 hno1
  | bad p q => rw [hm1] at hr; obtain ⟨rfl, gx⟩ := hr; exact ⟨rfl, res_bad (E.out.trans (Rs.bind_bad hm1 _)) (G.trans gx)⟩
  | ok t1 s1 =>
    rw [hm1] at hr
    obtain ⟨v1, rfl, p1, hc, gx⟩ := hr
    have p1 := part_low p1 G.size
    obtain ⟨gv1, rfl⟩ := part_ptr p1
    have G := G.trans gx
    have E := Lib.hid (E.out.trans (Rs.bind_ok hm1 _))
    cases hs : (sd z.T s1 == (⟨#[63]⟩ : ByteArray)) with
    | true =>
      have E := Lib.hid (E.out.trans (if_pos hs))
      have hn := tok_end hc.may hc.lt (kind_of_sd hc.may hc.lt hs (by decide))
      go_wp2_with (go_at_call 128; (with_reducible refine (skip_yes hc hs hn).mono ?_); rintro e wx ⟨rfl, hc, gx⟩; have G := G.trans gx; have p1 := part_on p1 (Nat.le_refl _) gx hzb)
      have hno2 : r .assign s1.on ≠ .out := fun e => HO.out (E.out.trans (Rs.bind_out e _))
      go_at_call 133
      refine (A.assign hc hno2).mono ?_
      rintro e wx hr
      cases hm2 : r .assign s1.on with
      | out => exact absurd hm2 hno2
      | bad p q => rw [hm2] at hr; obtain ⟨rfl, gx⟩ := hr; exact ⟨rfl, res_bad (E.out.trans (Rs.bind_bad hm2 _)) (G.trans gx)⟩
      | ok t2 s2 =>
        rw [hm2] at hr
        obtain ⟨v2, rfl, p2, hc, gx⟩ := hr
        have p2 := part_low p2 G.size
        obtain ⟨gv2, rfl⟩ := part_ptr p2
        have G := G.trans gx; have p1 := part_on p1 (Nat.le_refl _) gx hzb
        have E := Lib.hid (E.out.trans (Rs.bind_ok hm2 _))
        go_wp2_with (fail)
        go_at_call 100
        refine (take_one hc (⟨#[58]⟩ : ByteArray) _ (by decide)).mono ?_
        rintro e wx hr
        cases hm3 : take1 z.T (⟨#[58]⟩ : ByteArray) s2 with
        | out => rw [hm3] at hr; exact hr.elim
        | bad p q => rw [hm3] at hr; obtain ⟨rfl, gx⟩ := hr; exact ⟨rfl, res_bad (E.out.trans (Rs.bind_bad hm3 _)) (G.trans gx)⟩
        | ok u s3 =>
          rw [hm3] at hr
          obtain ⟨rfl, hc, gx⟩ := hr
          have G := G.trans gx; have p1 := part_on p1 (Nat.le_refl _) gx hzb; have p2 := part_on p2 (Nat.le_refl _) gx hzb
          have E := Lib.hid (E.out.trans (Rs.bind_ok hm3 _))
          go_wp2_with (fail)
          have hno4 : r .assign s3 ≠ .out := fun e => HO.out (E.out.trans (Rs.bind_out e _))
          go_at_call 133
          refine (A.assign hc hno4).mono ?_
          rintro e wx hr
          cases hm4 : r .assign s3 with
          | out => exact absurd hm4 hno4
          | bad p q => rw [hm4] at hr; obtain ⟨rfl, gx⟩ := hr; exact ⟨rfl, res_bad (E.out.trans (Rs.bind_bad hm4 _)) (G.trans gx)⟩
          | ok t4 s4 =>
            rw [hm4] at hr
            obtain ⟨v4, rfl, p4, hc, gx⟩ := hr
            have p4 := part_low p4 G.size
            obtain ⟨gv4, rfl⟩ := part_ptr p4
            have G := G.trans gx; have p1 := part_on p1 (Nat.le_refl _) gx hzb; have p2 := part_on p2 (Nat.le_refl _) gx hzb
            have E := Lib.hid (E.out.trans (Rs.bind_ok hm4 _))
            go_wp2_with (go_at_call 50; refine (part_three hc 42 _ ⟨#[]⟩ p1 p2 p4 G.size hzb).mono ?_; rintro e wx ⟨xv, rfl, px, hc, gx⟩; have G := G.trans gx; have p1 := part_on p1 (Nat.le_refl _) gx hzb; have p2 := part_on p2 (Nat.le_refl _) gx hzb; have p4 := part_on p4 (Nat.le_refl _) gx hzb; obtain ⟨gp, rfl⟩ := part_ptr px)
            go_ret
            exact res_ok E.out px hc G
    | false =>
      have E := Lib.hid (E.out.trans (if_neg (by rw [hs]; decide)))
      go_wp2_with (go_at_call 128; (with_reducible refine (skip_no hc hs).mono ?_); rintro e wx ⟨rfl, hb⟩; obtain ⟨hc, gx⟩ := at_below hc hb; have G := G.trans gx; have p1 := part_on p1 (Nat.le_refl _) gx hzb)
      go_ret
      exact res_ok E.out p1 hc G

set_option maxHeartbeats 4000000 in
set_option maxRecDepth 100000 in
theorem w_nested {z : Pz} {r : Mth → Ps → Rs Tr} (A : AllW z r) {s : Ps} {w : World} (h : At z s w) (ho : step z.T r .nested s ≠ .out) :
    Calls Tryz.prog 197 #[.pointer (some ⟨z.b, 0, none⟩)] w (Res z w (step z.T r .nested s)) := by
  have hzb := at_lt h
  generalize hR : step z.T r .nested s = R at ho ⊢
  have HO := Lib.hid ho
  dsimp only [step] at hR
  have E := Lib.hid hR.symm
  clear hR ho
  have hc := h
  have G : w.grownBy w (some z.b) := World.grownBy.refl _ _
  go_enter Tryz.func197, Tryz.ntmps197
  go_wp2_with (go_at_call 47; refine (at_p hc).mono ?_; rintro e wx ⟨rfl, hb⟩; obtain ⟨hc, gx⟩ := at_below hc hb; have G := G.trans gx)
  go_at_call 100
  refine (take_one hc (⟨#[102, 117, 110, 99, 116, 105, 111, 110]⟩ : ByteArray) _ (by decide)).mono ?_
  rintro e wx hr
  cases hm1 : take1 z.T (⟨#[102, 117, 110, 99, 116, 105, 111, 110]⟩ : ByteArray) s with
  | out => rw [hm1] at hr; exact hr.elim
  | bad p q => rw [hm1] at hr; obtain ⟨rfl, gx⟩ := hr; exact ⟨rfl, res_bad (E.out.trans (Rs.bind_bad hm1 _)) (G.trans gx)⟩
  | ok u s1 =>
    rw [hm1] at hr
    obtain ⟨rfl, hc, gx⟩ := hr
    have G := G.trans gx
    have E := Lib.hid (E.out.trans (Rs.bind_ok hm1 _))
    cases hs : (sd z.T s1 == (⟨#[40]⟩ : ByteArray)) with
    | true =>
      have E := Lib.hid (E.out.trans (if_pos hs))
      go_wp2_with (go_at_call 135; refine (is_yes hc hs).mono ?_; rintro e wx ⟨rfl, hb⟩; obtain ⟨hc, gx⟩ := at_below hc hb; have G := G.trans gx)
      have hno2 : r (.function 27 (here z.T s) ⟨#[]⟩) s1 ≠ .out := fun e => HO.out (E.out.trans e)
      go_at_call 101
      refine (A.function 27 _ _ hc hno2).mono ?_
      rintro e wx hr
      cases hm2 : r (.function 27 (here z.T s) ⟨#[]⟩) s1 with
      | out => exact absurd hm2 hno2
      | bad p q => rw [hm2] at hr; obtain ⟨rfl, gx⟩ := hr; exact ⟨rfl, res_bad (E.out.trans hm2) (G.trans gx)⟩
      | ok t2 s2 =>
        rw [hm2] at hr
        obtain ⟨v2, rfl, p2, hc, gx⟩ := hr
        have p2 := part_low p2 G.size
        obtain ⟨gv2, rfl⟩ := part_ptr p2
        have G := G.trans gx
        have E := Lib.hid (E.out.trans hm2)
        go_wp2_with (fail)
        go_ret
        exact res_ok E.out p2 hc G
    | false =>
      have E := Lib.hid (E.out.trans (if_neg (by rw [hs]; decide)))
      go_wp2_with (go_at_call 135; (with_reducible refine (is_no hc hs).mono ?_); rintro e wx ⟨rfl, hb⟩; obtain ⟨hc, gx⟩ := at_below hc hb; have G := G.trans gx)
      go_at_call 102
      refine (name_p hc).mono ?_
      rintro e wx hr
      cases hm2 : nameR z.T s1 with
      | out => rw [hm2] at hr; exact hr.elim
      | bad p q => rw [hm2] at hr; obtain ⟨rfl, gx⟩ := hr; exact ⟨rfl, res_bad (E.out.trans (Rs.bind_bad hm2 _)) (G.trans gx)⟩
      | ok t2 s2 =>
        rw [hm2] at hr
        obtain ⟨rfl, hc, gx⟩ := hr
        have G := G.trans gx
        have E := Lib.hid (E.out.trans (Rs.bind_ok hm2 _))
        go_wp2_with (fail)
        have hno3 : r (.function 27 (here z.T s) t2) s2 ≠ .out := fun e => HO.out (E.out.trans e)
        go_at_call 101
        refine (A.function 27 _ _ hc hno3).mono ?_
        rintro e wx hr
        cases hm3 : r (.function 27 (here z.T s) t2) s2 with
        | out => exact absurd hm3 hno3
        | bad p q => rw [hm3] at hr; obtain ⟨rfl, gx⟩ := hr; exact ⟨rfl, res_bad (E.out.trans hm3) (G.trans gx)⟩
        | ok t3 s3 =>
          rw [hm3] at hr
          obtain ⟨v3, rfl, p3, hc, gx⟩ := hr
          have p3 := part_low p3 G.size
          obtain ⟨gv3, rfl⟩ := part_ptr p3
          have G := G.trans gx
          have E := Lib.hid (E.out.trans hm3)
          go_wp2_with (fail)
          go_ret
          exact res_ok E.out p3 hc G

set_option maxHeartbeats 4000000 in
set_option maxRecDepth 100000 in
theorem w_unary {z : Pz} {r : Mth → Ps → Rs Tr} (A : AllW z r) {s : Ps} {w : World} (h : At z s w) (ho : step z.T r .unary s ≠ .out) :
    Calls Tryz.prog 187 #[.pointer (some ⟨z.b, 0, none⟩)] w (Res z w (step z.T r .unary s)) := by
  have hzb := at_lt h
  have hmf : ∀ (fn : Fn) (first cap : Array Value) (w : World), (Instr.makeFunc fn first cap).run Tryz.prog w = .ok (.func fn first cap) w := fun _ _ _ _ => rfl
  generalize hR : step z.T r .unary s = R at ho ⊢
  have HO := Lib.hid ho
  dsimp only [step] at hR
  have E := Lib.hid hR.symm
  clear hR ho
  have hc := h
  have G : w.grownBy w (some z.b) := World.grownBy.refl _ _
  cases hs : leadsB (sd z.T s) with
  | true =>
    have E := Lib.hid (E.out.trans (if_pos hs))
    have hk := kind_of_leads h.may h.lt hs
    have kl := leads_p (saidT (tok z.T s))
    rw [show leadsB (saidT (tok z.T s)) = true from hs] at kl
    go_enter Tryz.func187, Tryz.ntmps187
    go_wp2_with (first
      | (go_at_call 48; refine (token_p hc).mono ?_; rintro e wx ⟨rfl, hb⟩; obtain ⟨hc, gx⟩ := at_below hc hb; have G := G.trans gx)
      | (go_at_call 96; refine (said_p (tok z.T s) _).mono ?_; rintro e wx ⟨rfl, hb⟩; obtain ⟨hc, gx⟩ := at_below hc hb; have G := G.trans gx)
      | (go_at_call 153; refine (kl _).mono ?_; rintro e wx ⟨rfl, rfl⟩))
    have hno1 : deeperR z.T (r .led) s ≠ .out := fun e => HO.out (E.out.trans e)
    go_at_call 68
    refine (deeper_led (fun _ _ h1 _ h2 hn => A.led h1 (by rw [h2]; exact hk) hn) hc hno1).mono ?_
    rintro e wx hr
    cases hm1 : deeperR z.T (r .led) s with
    | out => exact absurd hm1 hno1
    | bad p q => rw [hm1] at hr; obtain ⟨rfl, gx⟩ := hr; exact ⟨rfl, res_bad (E.out.trans hm1) (G.trans gx)⟩
    | ok t1 s1 =>
      rw [hm1] at hr
      obtain ⟨v1, rfl, p1, hc, gx⟩ := hr
      have p1 := part_low p1 G.size
      obtain ⟨gv1, rfl⟩ := part_ptr p1
      have G := G.trans gx
      have E := Lib.hid (E.out.trans hm1)
      go_wp2_with (fail)
      go_ret
      exact res_ok E.out p1 hc G
  | false =>
    have E := Lib.hid (E.out.trans (if_neg (by rw [hs]; decide)))
    have kl := leads_p (saidT (tok z.T s))
    rw [show leadsB (saidT (tok z.T s)) = false from hs] at kl
    go_enter Tryz.func187, Tryz.ntmps187
    go_wp2_with (first
      | (go_at_call 48; refine (token_p hc).mono ?_; rintro e wx ⟨rfl, hb⟩; obtain ⟨hc, gx⟩ := at_below hc hb; have G := G.trans gx)
      | (go_at_call 96; refine (said_p (tok z.T s) _).mono ?_; rintro e wx ⟨rfl, hb⟩; obtain ⟨hc, gx⟩ := at_below hc hb; have G := G.trans gx)
      | (go_at_call 153; refine (kl _).mono ?_; rintro e wx ⟨rfl, rfl⟩))
    have hno1 : r (.chain true) s ≠ .out := fun e => HO.out (E.out.trans e)
    go_at_call 190
    refine (A.chain true hc hno1).mono ?_
    rintro e wx hr
    cases hm1 : r (.chain true) s with
    | out => exact absurd hm1 hno1
    | bad p q => rw [hm1] at hr; obtain ⟨rfl, gx⟩ := hr; exact ⟨rfl, res_bad (E.out.trans hm1) (G.trans gx)⟩
    | ok t1 s1 =>
      rw [hm1] at hr
      obtain ⟨v1, rfl, p1, hc, gx⟩ := hr
      have p1 := part_low p1 G.size
      obtain ⟨gv1, rfl⟩ := part_ptr p1
      have G := G.trans gx
      have E := Lib.hid (E.out.trans hm1)
      go_wp2_with (fail)
      go_ret
      exact res_ok E.out p1 hc G

set_option maxHeartbeats 4000000 in
set_option maxRecDepth 100000 in
theorem w_newIn {z : Pz} {r : Mth → Ps → Rs Tr} (A : AllW z r) {s : Ps} {w : World} {g : Nat} (h : At z s w) (hbx : BoxAt z w g) (ho : step z.T r .newIn s ≠ .out) :
    Calls Tryz.prog 195 #[.pointer (some ⟨g, 0, none⟩)] w (Res z w (step z.T r .newIn s)) := by
  have hzb := at_lt h
  have bx := hbx.1
  generalize hR : step z.T r .newIn s = R at ho ⊢
  have HO := Lib.hid ho
  dsimp only [step] at hR
  have E := Lib.hid hR.symm
  clear hR ho
  have hc := h
  have G : w.grownBy w (some z.b) := World.grownBy.refl _ _
  go_enter Tryz.func195, Tryz.ntmps195
  go_wp2_with (fail)
  go_at_call 100
  refine (take_one hc (⟨#[110, 101, 119]⟩ : ByteArray) _ (by decide)).mono ?_
  rintro e wx hr
  cases hm1 : take1 z.T (⟨#[110, 101, 119]⟩ : ByteArray) s with
  | out => rw [hm1] at hr; exact hr.elim
  | bad p q => rw [hm1] at hr; obtain ⟨rfl, gx⟩ := hr; exact ⟨rfl, res_bad (E.out.trans (Rs.bind_bad hm1 _)) (G.trans gx)⟩
  | ok u s1 =>
    rw [hm1] at hr
    obtain ⟨rfl, hc, gx⟩ := hr
    have G := G.trans gx; have hbx := box_on hbx gx
    have E := Lib.hid (E.out.trans (Rs.bind_ok hm1 _))
    have bx := hbx.1
    go_wp2_with (fail)
    have hno2 : r (.chain false) s1 ≠ .out := fun e => HO.out (E.out.trans e)
    go_at_call 190
    refine (A.chain false hc hno2).mono ?_
    rintro e wx hr
    cases hm2 : r (.chain false) s1 with
    | out => exact absurd hm2 hno2
    | bad p q => rw [hm2] at hr; obtain ⟨rfl, gx⟩ := hr; exact ⟨rfl, res_bad (E.out.trans hm2) (G.trans gx)⟩
    | ok t2 s2 =>
      rw [hm2] at hr
      obtain ⟨v2, rfl, p2, hc, gx⟩ := hr
      have p2 := part_low p2 G.size
      obtain ⟨gv2, rfl⟩ := part_ptr p2
      have G := G.trans gx; have hbx := box_on hbx gx
      have E := Lib.hid (E.out.trans hm2)
      go_wp2_with (fail)
      go_ret
      exact res_ok E.out p2 hc G

set_option maxHeartbeats 4000000 in
set_option maxRecDepth 100000 in
theorem w_body {z : Pz} {r : Mth → Ps → Rs Tr} (A : AllW z r) {s : Ps} {w : World} (h : At z s w) (ho : step z.T r .body s ≠ .out) :
    Calls Tryz.prog 105 #[.pointer (some ⟨z.b, 0, none⟩)] w (Res z w (step z.T r .body s)) := by
  have hzb := at_lt h
  have hmf : ∀ (fn : Fn) (first cap : Array Value) (w : World), (Instr.makeFunc fn first cap).run Tryz.prog w = .ok (.func fn first cap) w := fun _ _ _ _ => rfl
  generalize hR : step z.T r .body s = R at ho ⊢
  have HO := Lib.hid ho
  dsimp only [step] at hR
  have E := Lib.hid hR.symm
  clear hR ho
  have hc := h
  have G : w.grownBy w (some z.b) := World.grownBy.refl _ _
  have hbx : BoxAt z (w.alloc (.cells #[.pointer (some ⟨z.b, 0, none⟩)] 62)) w.heap.size := ⟨blk_cell (heap_alloc_new w _) 0, by omega⟩
  have hc := at_alloc h (.cells #[.pointer (some ⟨z.b, 0, none⟩)] 62)
  have G := G.trans (World.grownBy_alloc w (.cells #[.pointer (some ⟨z.b, 0, none⟩)] 62) (some z.b))
  go_enter Tryz.func105, Tryz.ntmps105
  go_wp2_with (fail)
  have hno1 : deeperR z.T (r .bodyIn) s ≠ .out := fun e => HO.out (E.out.trans e)
  go_at_call 68
  refine (deeper_body (fun _ _ h1 hb _ _ hn => A.bodyIn h1 hb hn) hc hbx hno1).mono ?_
  rintro e wx hr
  cases hm1 : deeperR z.T (r .bodyIn) s with
  | out => exact absurd hm1 hno1
  | bad p q => rw [hm1] at hr; obtain ⟨rfl, gx⟩ := hr; exact ⟨rfl, res_bad (E.out.trans hm1) (G.trans gx)⟩
  | ok t1 s1 =>
    rw [hm1] at hr
    obtain ⟨v1, rfl, p1, hc, gx⟩ := hr
    have p1 := part_low p1 G.size
    obtain ⟨gv1, rfl⟩ := part_ptr p1
    have G := G.trans gx
    have E := Lib.hid (E.out.trans hm1)
    go_wp2_with (fail)
    go_ret
    exact res_ok E.out p1 hc G

set_option maxHeartbeats 4000000 in
set_option maxRecDepth 100000 in
theorem w_bodyIn {z : Pz} {r : Mth → Ps → Rs Tr} (A : AllW z r) {s : Ps} {w : World} {g : Nat} (h : At z s w) (hbx : BoxAt z w g) (ho : step z.T r .bodyIn s ≠ .out) :
    Calls Tryz.prog 134 #[.pointer (some ⟨g, 0, none⟩)] w (Res z w (step z.T r .bodyIn s)) := by
  have hzb := at_lt h
  generalize hR : step z.T r .bodyIn s = R at ho ⊢
  have HO := Lib.hid ho
  dsimp only [step] at hR
  have E := Lib.hid hR.symm
  clear hR ho
  have hc := h
  have G : w.grownBy w (some z.b) := World.grownBy.refl _ _
  have bx := hbx.1
  cases h1 : (sd z.T s == (⟨#[108, 101, 116]⟩ : ByteArray)) with
  | true =>
    have E := Lib.hid (E.out.trans (if_pos (by rw [h1]; rfl)))
    go_enter Tryz.func134, Tryz.ntmps134
    go_wp2_with (first
      | (go_at_call 135; (with_reducible refine (is_yes hc h1).mono ?_); rintro e wx ⟨rfl, hb⟩; obtain ⟨hc, gx⟩ := at_below hc hb; have G := G.trans gx; have hbx := box_on hbx gx; have bx := hbx.1)
      | (go_at_call 95; refine (refuse_p hc 5).mono ?_; rintro e wx ⟨rfl, gx⟩))
    exact ⟨rfl, res_bad E.out (G.trans gx)⟩
  | false =>
    cases h2 : (sd z.T s == (⟨#[99, 111, 110, 115, 116]⟩ : ByteArray)) with
    | true =>
      have E := Lib.hid (E.out.trans (if_pos (by rw [h1, h2]; rfl)))
      go_enter Tryz.func134, Tryz.ntmps134
      go_wp2_with (first
        | (go_at_call 135; (first | with_reducible refine (is_no hc h1).mono ?_ | with_reducible refine (is_yes hc h2).mono ?_); rintro e wx ⟨rfl, hb⟩; obtain ⟨hc, gx⟩ := at_below hc hb; have G := G.trans gx; have hbx := box_on hbx gx; have bx := hbx.1)
        | (go_at_call 95; refine (refuse_p hc 5).mono ?_; rintro e wx ⟨rfl, gx⟩))
      exact ⟨rfl, res_bad E.out (G.trans gx)⟩
    | false =>
      cases h3 : (sd z.T s == (⟨#[102, 117, 110, 99, 116, 105, 111, 110]⟩ : ByteArray)) with
      | true =>
        have E := Lib.hid (E.out.trans (if_pos (by rw [h1, h2, h3]; rfl)))
        go_enter Tryz.func134, Tryz.ntmps134
        go_wp2_with (first
          | (go_at_call 135; (first | with_reducible refine (is_no hc h1).mono ?_ | with_reducible refine (is_no hc h2).mono ?_ | with_reducible refine (is_yes hc h3).mono ?_); rintro e wx ⟨rfl, hb⟩; obtain ⟨hc, gx⟩ := at_below hc hb; have G := G.trans gx; have hbx := box_on hbx gx; have bx := hbx.1)
          | (go_at_call 95; refine (refuse_p hc 5).mono ?_; rintro e wx ⟨rfl, gx⟩))
        exact ⟨rfl, res_bad E.out (G.trans gx)⟩
      | false =>
        have E := Lib.hid (E.out.trans (if_neg (by rw [h1, h2, h3]; decide)))
        go_enter Tryz.func134, Tryz.ntmps134
        go_wp2_with (go_at_call 135; (first | with_reducible refine (is_no hc h1).mono ?_ | with_reducible refine (is_no hc h2).mono ?_ | with_reducible refine (is_no hc h3).mono ?_); rintro e wx ⟨rfl, hb⟩; obtain ⟨hc, gx⟩ := at_below hc hb; have G := G.trans gx; have hbx := box_on hbx gx; have bx := hbx.1)
        have hno1 : r .stated s ≠ .out := fun e => HO.out (E.out.trans e)
        go_at_call 69
        refine (A.stated hc hno1).mono ?_
        rintro e wx hr
        cases hm1 : r .stated s with
        | out => exact absurd hm1 hno1
        | bad p q => rw [hm1] at hr; obtain ⟨rfl, gx⟩ := hr; exact ⟨rfl, res_bad (E.out.trans hm1) (G.trans gx)⟩
        | ok t1 s1 =>
          rw [hm1] at hr
          obtain ⟨v1, rfl, p1, hc, gx⟩ := hr
          have p1 := part_low p1 G.size
          have G := G.trans gx
          have E := Lib.hid (E.out.trans hm1)
          go_wp2_with (fail)
          go_ret
          exact res_ok E.out p1 hc G
end Go.Proofs.YtablckajobefeaaGreatDoor.S
