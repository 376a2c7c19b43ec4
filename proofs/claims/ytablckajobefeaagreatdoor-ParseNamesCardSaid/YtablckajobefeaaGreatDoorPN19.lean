/-
  Walks of the parser's methods, from what each does in turn. Generated: gen_step.py.
-/
import Derived.Test.YtablckajobefeaaGreatDoorPN13
namespace Go.Proofs.YtablckajobefeaaGreatDoor.S
open Go.RowKit Fl

set_option maxHeartbeats 4000000 in
set_option maxRecDepth 100000 in
theorem w_block {z : Pz} {r : Mth → Ps → Rs Tr} (A : AllW z r) {s : Ps} {w : World} (h : At z s w) (ho : step z.T r .block s ≠ .out) :
    Calls Tryz.prog 97 #[.pointer (some ⟨z.b, 0, none⟩)] w (Res z w (step z.T r .block s)) := by
  have hzb := at_lt h
  generalize hR : step z.T r .block s = R at ho ⊢
  have HO := Lib.hid ho
  dsimp only [step] at hR
  have E := Lib.hid hR.symm
  clear hR ho
  have hc := h
  have G : w.grownBy w (some z.b) := World.grownBy.refl _ _
  go_enter Tryz.func97, Tryz.ntmps97
  go_wp2_with (go_at_call 47; refine (at_p hc).mono ?_; rintro e wx ⟨rfl, hb⟩; obtain ⟨hc, gx⟩ := at_below hc hb; have G := G.trans gx)
  go_at_call 100
  refine (take_one hc (⟨#[123]⟩ : ByteArray) _ (by decide)).mono ?_
  rintro e wx hr
  cases hm1 : take1 z.T (⟨#[123]⟩ : ByteArray) s with
  | out => rw [hm1] at hr; exact hr.elim
  | bad p q => rw [hm1] at hr; obtain ⟨rfl, gx⟩ := hr; exact ⟨rfl, res_bad (E.out.trans (Rs.bind_bad hm1 _)) (G.trans gx)⟩
  | ok u s1 =>
    rw [hm1] at hr
    obtain ⟨rfl, hc, gx⟩ := hr
    have G := G.trans gx
    have E := Lib.hid (E.out.trans (Rs.bind_ok hm1 _))
    have E : Hid (R = (blockL z.T (r .statement) (z.T.length + 1) [] s1).bind fun l s2 => mkP 2 (here z.T s) ⟨#[]⟩ 0 l s2) := E
    generalize hL : blockL z.T (r .statement) (z.T.length + 1) [] s1 = RL at E
    have EL := Lib.hid hL
    have HL : Hid (RL ≠ .out) := Lib.hid fun e => HO.out (E.out.trans (Rs.bind_out e _))
    have hl0 := hc
    have G0 := G
    clear hL hm1
    go_wp2_with (fail)
    go_loopw [4] (fun v wr => ∃ (n : Nat) (l : List Tr) (s1 : Ps), Hid (LI z w.heap.size v l wr ∧ At z s1 wr ∧ w.grownBy wr (some z.b) ∧ blockL z.T (r .statement) n l s1 = RL ∧ l.length ≤ s1.next)) (fun _ wr => z.T.length - nextIn z wr)
    case atStart => exact ⟨_, [], s1, Lib.hid ⟨li_nil hzb G.size, hc, G, EL.out, Nat.zero_le _⟩⟩
    case round =>
      clear EL hl0 G0 hc G
      obtain ⟨n, l, s1, H⟩ := hrel
      obtain ⟨L1, a1, g2, e1, hle⟩ := H.out
      clear H
      have a0 := a1
      cases n with
      | zero => exact absurd e1.symm HL.out
      | succ n =>
        obtain ⟨A1, cap, rfl⟩ := li_shape L1
        unfold blockL at e1
        cases hs : (sd z.T s1 == (⟨#[125]⟩ : ByteArray)) with
        | true =>
          have hn := tok_end a1.may a1.lt (kind_of_sd a1.may a1.lt hs (by decide))
          have E1 := Lib.hid (e1.symm.trans (if_pos hs))
          have E2 := Lib.hid (E.out.trans (Rs.bind_ok E1.out _))
          clear e1 E1 E
          go_wp2_with (first
            | (go_at_call 128; refine (skip_yes a1 hs hn).mono ?_; rintro e wx ⟨rfl, a2, g3⟩; have L2 := li_on L1 g3)
            | (go_at_call 50; refine (part_list a2 2 _ ⟨#[]⟩ L2 (by simp)).mono ?_; rintro e wy ⟨xv, rfl, px, a3, g4⟩))
          go_ret
          exact res_ok E2.out px a3 ((g2.trans g3).trans g4)
        | false =>
          have E1 := Lib.hid ((if_neg (by rw [hs]; decide)).symm.trans e1)
          clear e1
          go_wp2_with (go_at_call 128; refine (skip_no a1 hs).mono ?_; rintro e wx ⟨rfl, hb⟩)
          obtain ⟨a1, gb⟩ := at_below a1 hb
          have L1 := li_on L1 gb
          have g2 := g2.trans gb
          have hno : r .statement s1 ≠ .out := fun e => HL.out (E1.out.symm.trans (Rs.bind_out e _))
          go_at_call 49
          refine (A.statement a1 hno).mono ?_
          rintro e wx hr
          cases hf : r .statement s1 with
          | out => exact absurd hf hno
          | bad p q =>
            rw [hf] at hr
            obtain ⟨rfl, g3⟩ := hr
            exact ⟨rfl, res_bad (E.out.trans (Rs.bind_bad (E1.out.symm.trans (Rs.bind_bad hf _)) _)) (g2.trans g3)⟩
          | ok t s2 =>
            rw [hf] at hr
            obtain ⟨u, rfl, p2, a2, g3⟩ := hr
            obtain ⟨gu, rfl⟩ := part_ptr p2
            have E2 := Lib.hid ((Rs.bind_ok hf _).symm.trans E1.out)
            have hprog := A.prog .statement s1 t s2 trivial a1.lt hf
            have hown := li_lt L1
            have L2 := li_on L1 g3
            have hf2 := a1.few
            have hlt1 := a1.lt
            clear E1 hf
            go_wp2_with (at_builtin; refine li_app rfl _ _ rfl L2 p2 (fun j hj => (hown j hj).2) g2.size rfl (by simp [Act.eval]) (by omega) ?_; intro v' w3 L3 g4)
            have a3 := at_own h a2 g4 (fun j hj => (hown j hj).1) (g2.trans g3).size
            have g14 := grown_own (g2.trans g3) g4 (fun j hj => (hown j hj).1)
            go_roundw
            case rel => exact ⟨n, l ++ [t], s2, Lib.hid ⟨L3, a3, g14, E2.out, by rw [List.length_append]; show l.length + 1 ≤ s2.next; omega⟩⟩
            case measure => rw [next_at a3, next_at a0]; have := a2.lt; omega

end Go.Proofs.YtablckajobefeaaGreatDoor.S
/-
  Walks of the parser's methods, from what each does in turn. Generated: gen_step.py.
-/
namespace Go.Proofs.YtablckajobefeaaGreatDoor.S
open Go.RowKit Fl

set_option maxHeartbeats 4000000 in
set_option maxRecDepth 100000 in
theorem w_branch {z : Pz} {r : Mth → Ps → Rs Tr} (A : AllW z r) {s : Ps} {w : World} (h : At z s w) (ho : step z.T r .branch s ≠ .out) :
    Calls Tryz.prog 103 #[.pointer (some ⟨z.b, 0, none⟩)] w (Res z w (step z.T r .branch s)) := by
  have hzb := at_lt h
  generalize hR : step z.T r .branch s = R at ho ⊢
  have HO := Lib.hid ho
  dsimp only [step] at hR
  have E := Lib.hid hR.symm
  clear hR ho
  have hc := h
  have G : w.grownBy w (some z.b) := World.grownBy.refl _ _
  go_enter Tryz.func103, Tryz.ntmps103
  go_wp2_with (go_at_call 47; refine (at_p hc).mono ?_; rintro e wx ⟨rfl, hb⟩; obtain ⟨hc, gx⟩ := at_below hc hb; have G := G.trans gx)
  go_at_call 100
  refine (take_one hc (⟨#[105, 102]⟩ : ByteArray) _ (by decide)).mono ?_
  rintro e wx hr
  cases hm1 : take1 z.T (⟨#[105, 102]⟩ : ByteArray) s with
  | out => rw [hm1] at hr; exact hr.elim
  | bad p q => rw [hm1] at hr; obtain ⟨rfl, gx⟩ := hr; exact ⟨rfl, res_bad (E.out.trans (Rs.bind_bad hm1 _)) (G.trans gx)⟩
  | ok u s1 =>
    rw [hm1] at hr
    obtain ⟨rfl, hc, gx⟩ := hr
    have G := G.trans gx
    have E := Lib.hid (E.out.trans (Rs.bind_ok hm1 _))
    go_wp2_with (fail)
    have hno2 : r .test s1 ≠ .out := fun e => HO.out (E.out.trans (Rs.bind_out e _))
    go_at_call 104
    refine (A.test hc hno2).mono ?_
    rintro e wx hr
    cases hm2 : r .test s1 with
    | out => exact absurd hm2 hno2
    | bad p q => rw [hm2] at hr; obtain ⟨rfl, gx⟩ := hr; exact ⟨rfl, res_bad (E.out.trans (Rs.bind_bad hm2 _)) (G.trans gx)⟩
    | ok t2 s2 =>
      rw [hm2] at hr
      obtain ⟨v2, rfl, p2, hc, gx⟩ := hr
      have p2 := part_low p2 G.size
      obtain ⟨gv2, rfl⟩ := part_ptr p2
      have G := G.trans gx
      have E := Lib.hid (E.out.trans (Rs.bind_ok hm2 _))
      go_wp2_with (fail)
      have hno3 : r .body s2 ≠ .out := fun e => HO.out (E.out.trans (Rs.bind_out e _))
      go_at_call 105
      refine (A.body hc hno3).mono ?_
      rintro e wx hr
      cases hm3 : r .body s2 with
      | out => exact absurd hm3 hno3
      | bad p q => rw [hm3] at hr; obtain ⟨rfl, gx⟩ := hr; exact ⟨rfl, res_bad (E.out.trans (Rs.bind_bad hm3 _)) (G.trans gx)⟩
      | ok t3 s3 =>
        rw [hm3] at hr
        obtain ⟨v3, rfl, p3, hc, gx⟩ := hr
        have p3 := part_low p3 G.size
        obtain ⟨gv3, rfl⟩ := part_ptr p3
        have G := G.trans gx; have p2 := part_on p2 (Nat.le_refl _) gx hzb
        have E := Lib.hid (E.out.trans (Rs.bind_ok hm3 _))
        have lx := li_two p2 p3 G.size hzb
        have hc := at_alloc hc (.cells #[.pointer (some ⟨gv2, 0, none⟩), .pointer (some ⟨gv3, 0, none⟩)] 65)
        have G := G.trans (World.grownBy_alloc _ (.cells #[.pointer (some ⟨gv2, 0, none⟩), .pointer (some ⟨gv3, 0, none⟩)] 65) (some z.b))
        cases hs : (sd z.T s3 == (⟨#[101, 108, 115, 101]⟩ : ByteArray)) with
        | true =>
          have E := Lib.hid (E.out.trans (if_pos hs))
          have hn := tok_end hc.may hc.lt (kind_of_sd hc.may hc.lt hs (by decide))
          go_wp2_with (go_at_call 128; (with_reducible refine (skip_yes hc hs hn).mono ?_); rintro e wx ⟨rfl, hc, gx⟩; have G := G.trans gx; have lx := li_on lx gx)
          have ho2 := li_lt lx
          have gs := G.size
          have hno4 : r .body s3.on ≠ .out := fun e => HO.out (E.out.trans (Rs.bind_out e _))
          go_at_call 105
          refine (A.body hc hno4).mono ?_
          rintro e wx hr
          cases hm4 : r .body s3.on with
          | out => exact absurd hm4 hno4
          | bad p q => rw [hm4] at hr; obtain ⟨rfl, gx⟩ := hr; exact ⟨rfl, res_bad (E.out.trans (Rs.bind_bad hm4 _)) (G.trans gx)⟩
          | ok t4 s4 =>
            rw [hm4] at hr
            obtain ⟨v4, rfl, p4, hc, gx⟩ := hr
            have q4 := p4
            have gq4 := gx.size
            have p4 := part_low p4 G.size
            obtain ⟨gv4, rfl⟩ := part_ptr p4
            have G := G.trans gx; have lx := li_on lx gx
            have E := Lib.hid (E.out.trans (Rs.bind_ok hm4 _))
            go_wp2_with (first
              | (at_builtin; refine li_app rfl _ _ rfl lx q4 (fun j hj => (ho2 j hj).2) gs rfl (by simp [Act.eval]) (by first | omega | (simp; done)) ?_; intro v' wa la g4; have hc := at_own h hc g4 (fun j hj => (ho2 j hj).1) G.size; have G := grown_own G g4 (fun j hj => (ho2 j hj).1); generalize hlz : [t2, t3] ++ [t4] = lz at la; obtain ⟨Az, capz, rfl⟩ := li_shape la)
              | (go_at_call 50; refine (part_list hc 7 _ ⟨#[]⟩ la (by simp)).mono ?_; rintro e wx ⟨xv, rfl, px, hc, gx⟩; have G := G.trans gx; obtain ⟨gp, rfl⟩ := part_ptr px))
            subst hlz
            go_ret
            exact res_ok E.out px hc G
        | false =>
          have E := Lib.hid (E.out.trans (if_neg (by rw [hs]; decide)))
          go_wp2_with (first
            | (go_at_call 128; (with_reducible refine (skip_no hc hs).mono ?_); rintro e wx ⟨rfl, hb⟩; obtain ⟨hc, gx⟩ := at_below hc hb; have G := G.trans gx; have lx := li_on lx gx)
            | (go_at_call 50; refine (part_list hc 7 _ ⟨#[]⟩ lx (by simp)).mono ?_; rintro e wx ⟨xv, rfl, px, hc, gx⟩; have G := G.trans gx; have lx := li_on lx gx; obtain ⟨gp, rfl⟩ := part_ptr px))
          go_ret
          exact res_ok E.out px hc G
end Go.Proofs.YtablckajobefeaaGreatDoor.S
/-
  Walks of the parser's methods, from what each does in turn. Generated: gen_step.py.
-/
namespace Go.Proofs.YtablckajobefeaaGreatDoor.S
open Go.RowKit Fl

set_option maxHeartbeats 4000000 in
set_option maxRecDepth 100000 in
theorem w_guarded {z : Pz} {r : Mth → Ps → Rs Tr} (A : AllW z r) {s : Ps} {w : World} (h : At z s w) (ho : step z.T r .guarded s ≠ .out) :
    Calls Tryz.prog 109 #[.pointer (some ⟨z.b, 0, none⟩)] w (Res z w (step z.T r .guarded s)) := by
  have hzb := at_lt h
  generalize hR : step z.T r .guarded s = R at ho ⊢
  have HO := Lib.hid ho
  dsimp only [step] at hR
  have E := Lib.hid hR.symm
  clear hR ho
  have hc := h
  have G : w.grownBy w (some z.b) := World.grownBy.refl _ _
  go_enter Tryz.func109, Tryz.ntmps109
  go_wp2_with (go_at_call 47; refine (at_p hc).mono ?_; rintro e wx ⟨rfl, hb⟩; obtain ⟨hc, gx⟩ := at_below hc hb; have G := G.trans gx)
  go_at_call 100
  refine (take_one hc (⟨#[116, 114, 121]⟩ : ByteArray) _ (by decide)).mono ?_
  rintro e wx hr
  cases hm1 : take1 z.T (⟨#[116, 114, 121]⟩ : ByteArray) s with
  | out => rw [hm1] at hr; exact hr.elim
  | bad p q => rw [hm1] at hr; obtain ⟨rfl, gx⟩ := hr; exact ⟨rfl, res_bad (E.out.trans (Rs.bind_bad hm1 _)) (G.trans gx)⟩
  | ok u s1 =>
    rw [hm1] at hr
    obtain ⟨rfl, hc, gx⟩ := hr
    have G := G.trans gx
    have E := Lib.hid (E.out.trans (Rs.bind_ok hm1 _))
    go_wp2_with (fail)
    have hno2 : r .block s1 ≠ .out := fun e => HO.out (E.out.trans (Rs.bind_out e _))
    go_at_call 97
    refine (A.block hc hno2).mono ?_
    rintro e wx hr
    cases hm2 : r .block s1 with
    | out => exact absurd hm2 hno2
    | bad p q => rw [hm2] at hr; obtain ⟨rfl, gx⟩ := hr; exact ⟨rfl, res_bad (E.out.trans (Rs.bind_bad hm2 _)) (G.trans gx)⟩
    | ok t2 s2 =>
      rw [hm2] at hr
      obtain ⟨v2, rfl, p2, hc, gx⟩ := hr
      have p2 := part_low p2 G.size
      obtain ⟨gv2, rfl⟩ := part_ptr p2
      have G := G.trans gx
      have E := Lib.hid (E.out.trans (Rs.bind_ok hm2 _))
      have lx := li_one p2 G.size hzb
      have hc := at_alloc hc (.cells #[.pointer (some ⟨gv2, 0, none⟩)] 65)
      have G := G.trans (World.grownBy_alloc _ (.cells #[.pointer (some ⟨gv2, 0, none⟩)] 65) (some z.b))
      go_wp2_with (go_at_call 47; refine (at_p hc).mono ?_; rintro e wx ⟨rfl, hb⟩; obtain ⟨hc, gx⟩ := at_below hc hb; have G := G.trans gx; have lx := li_on lx gx)
      cases hs : (sd z.T s2 == (⟨#[99, 97, 116, 99, 104]⟩ : ByteArray)) with
      | true =>
        have E := Lib.hid (E.out.trans (Rs.bind_if_pos hs))
        have hn := tok_end hc.may hc.lt (kind_of_sd hc.may hc.lt hs (by decide))
        go_wp2_with (go_at_call 128; (with_reducible refine (skip_yes hc hs hn).mono ?_); rintro e wx ⟨rfl, hc, gx⟩; have G := G.trans gx; have lx := li_on lx gx)
        have E := Lib.hid (E.out.trans (Rs.bind_assoc _ _ _))
        go_at_call 100
        refine (take_one hc (⟨#[40]⟩ : ByteArray) _ (by decide)).mono ?_
        rintro e wx hr
        cases hm3 : take1 z.T (⟨#[40]⟩ : ByteArray) s2.on with
        | out => rw [hm3] at hr; exact hr.elim
        | bad p q => rw [hm3] at hr; obtain ⟨rfl, gx⟩ := hr; exact ⟨rfl, res_bad (E.out.trans (Rs.bind_bad hm3 _)) (G.trans gx)⟩
        | ok u s3 =>
          rw [hm3] at hr
          obtain ⟨rfl, hc, gx⟩ := hr
          have G := G.trans gx; have lx := li_on lx gx
          have E := Lib.hid (E.out.trans (Rs.bind_ok hm3 _))
          have E := Lib.hid (E.out.trans (Rs.bind_assoc _ _ _))
          go_wp2_with (fail)
          go_at_call 102
          refine (name_p hc).mono ?_
          rintro e wx hr
          cases hm4 : nameR z.T s3 with
          | out => rw [hm4] at hr; exact hr.elim
          | bad p q => rw [hm4] at hr; obtain ⟨rfl, gx⟩ := hr; exact ⟨rfl, res_bad (E.out.trans (Rs.bind_bad hm4 _)) (G.trans gx)⟩
          | ok t4 s4 =>
            rw [hm4] at hr
            obtain ⟨rfl, hc, gx⟩ := hr
            have G := G.trans gx; have lx := li_on lx gx
            have E := Lib.hid (E.out.trans (Rs.bind_ok hm4 _))
            have E := Lib.hid (E.out.trans (Rs.bind_assoc _ _ _))
            go_wp2_with (fail)
            go_at_call 100
            refine (take_one hc (⟨#[41]⟩ : ByteArray) _ (by decide)).mono ?_
            rintro e wx hr
            cases hm5 : take1 z.T (⟨#[41]⟩ : ByteArray) s4 with
            | out => rw [hm5] at hr; exact hr.elim
            | bad p q => rw [hm5] at hr; obtain ⟨rfl, gx⟩ := hr; exact ⟨rfl, res_bad (E.out.trans (Rs.bind_bad hm5 _)) (G.trans gx)⟩
            | ok u s5 =>
              rw [hm5] at hr
              obtain ⟨rfl, hc, gx⟩ := hr
              have G := G.trans gx; have lx := li_on lx gx
              have E := Lib.hid (E.out.trans (Rs.bind_ok hm5 _))
              have E := Lib.hid (E.out.trans (Rs.bind_assoc _ _ _))
              have ho6 := li_lt lx
              have gs6 := G.size
              have hzq6 := at_lt hc
              go_wp2_with (fail)
              have hno6 : r .block s5 ≠ .out := fun e => HO.out (E.out.trans (Rs.bind_out e _))
              go_at_call 97
              refine (A.block hc hno6).mono ?_
              rintro e wx hr
              cases hm6 : r .block s5 with
              | out => exact absurd hm6 hno6
              | bad p q => rw [hm6] at hr; obtain ⟨rfl, gx⟩ := hr; exact ⟨rfl, res_bad (E.out.trans (Rs.bind_bad hm6 _)) (G.trans gx)⟩
              | ok t6 s6 =>
                rw [hm6] at hr
                obtain ⟨v6, rfl, p6, hc, gx⟩ := hr
                have q6 := p6
                have gq6 := gx.size
                have p6 := part_low p6 G.size
                obtain ⟨gv6, rfl⟩ := part_ptr p6
                have G := G.trans gx; have lx := li_on lx gx
                have E := Lib.hid (E.out.trans (Rs.bind_ok hm6 _))
                have E := Lib.hid (E.out.trans (Rs.bind_assoc _ _ _))
                have E := Lib.hid (E.out.trans (mkP_bind _ _ _ _ _ _ _))
                have E := Lib.hid (E.out.trans (ok_bind [t2, .mk 17 (here z.T s2) t4 0 [t6]] s6.made _))
                go_wp2_with (first
                  | (go_at_call 50; refine (part_one hc 17 _ t4 q6 gq6 hzq6).mono ?_; rintro e wx ⟨xv, rfl, qx, hc, gx⟩; have G := G.trans gx; have lx := li_on lx gx; obtain ⟨gp, rfl⟩ := part_ptr qx)
                  | (at_builtin; refine li_app rfl _ _ rfl lx qx (fun j hj => (ho6 j hj).2) gs6 rfl (by simp [Act.eval]) (by first | omega | (simp; done)) ?_; intro v' wa la g4; have hc := at_own h hc g4 (fun j hj => (ho6 j hj).1) G.size; have G := grown_own G g4 (fun j hj => (ho6 j hj).1); obtain ⟨Az, capz, hz⟩ := li_shape la; have hz : v' = .slice Az 2 capz := hz; subst hz; have la : LI z w.heap.size (.slice Az 2 capz) [t2, .mk 17 (here z.T s2) t4 0 [t6]] wa := la))
                go_wp2_with (go_at_call 47; refine (at_p hc).mono ?_; rintro e wx ⟨rfl, hb⟩; obtain ⟨hc, gx⟩ := at_below hc hb; have G := G.trans gx; have la := li_on la gx)
                cases hs2 : (sd z.T s6.made == (⟨#[102, 105, 110, 97, 108, 108, 121]⟩ : ByteArray)) with
                | true =>
                  have E := Lib.hid (E.out.trans (Rs.bind_if_pos hs2))
                  have hn2 := tok_end hc.may hc.lt (kind_of_sd hc.may hc.lt hs2 (by decide))
                  go_wp2_with (go_at_call 128; (with_reducible refine (skip_yes hc hs2 hn2).mono ?_); rintro e wx ⟨rfl, hc, gx⟩; have G := G.trans gx; have la := li_on la gx)
                  have E := Lib.hid (E.out.trans (Rs.bind_assoc _ _ _))
                  have ho8 := li_lt la
                  have gs8 := G.size
                  have hzq8 := at_lt hc
                  have hno7 : r .block s6.made.on ≠ .out := fun e => HO.out (E.out.trans (Rs.bind_out e _))
                  go_at_call 97
                  refine (A.block hc hno7).mono ?_
                  rintro e wx hr
                  cases hm7 : r .block s6.made.on with
                  | out => exact absurd hm7 hno7
                  | bad p q => rw [hm7] at hr; obtain ⟨rfl, gx⟩ := hr; exact ⟨rfl, res_bad (E.out.trans (Rs.bind_bad hm7 _)) (G.trans gx)⟩
                  | ok t7 s7 =>
                    rw [hm7] at hr
                    obtain ⟨v7, rfl, p7, hc, gx⟩ := hr
                    have q7 := p7
                    have gq7 := gx.size
                    have p7 := part_low p7 G.size
                    obtain ⟨gv7, rfl⟩ := part_ptr p7
                    have G := G.trans gx; have la := li_on la gx
                    have E := Lib.hid (E.out.trans (Rs.bind_ok hm7 _))
                    have E : Hid (R = mkP 16 (here z.T s) ⟨#[]⟩ 0 [t2, .mk 17 (here z.T s2) t4 0 [t6], .mk 18 (here z.T s6.made) ⟨#[]⟩ 0 [t7]] s7.made) := Lib.hid (E.out.trans rfl)
                    go_wp2_with (first
                      | (go_at_call 50; refine (part_one hc 18 _ ⟨#[]⟩ q7 gq7 hzq8).mono ?_; rintro e wx ⟨xv, rfl, qf, hc, gx⟩; have G := G.trans gx; have la := li_on la gx; obtain ⟨gp, rfl⟩ := part_ptr qf)
                      | (at_builtin; refine li_app rfl _ _ rfl la qf (fun j hj => (ho8 j hj).2) gs8 rfl (by simp [Act.eval]) (by first | omega | (simp; done)) ?_; intro v' wa lb g4; have hc := at_own h hc g4 (fun j hj => (ho8 j hj).1) G.size; have G := grown_own G g4 (fun j hj => (ho8 j hj).1); obtain ⟨Az, capz, hz⟩ := li_shape lb; have hz : v' = .slice Az 3 capz := hz; subst hz; have lb : LI z w.heap.size (.slice Az 3 capz) [t2, .mk 17 (here z.T s2) t4 0 [t6], .mk 18 (here z.T s6.made) ⟨#[]⟩ 0 [t7]] wa := lb)
                      | (go_at_call 50; refine (part_list hc 16 _ ⟨#[]⟩ lb (by simp)).mono ?_; rintro e wx ⟨xv, rfl, pz, hc, gx⟩; have G := G.trans gx; obtain ⟨gp, rfl⟩ := part_ptr pz))
                    go_ret
                    exact res_ok E.out pz hc G
                | false =>
                  have E := Lib.hid (E.out.trans (Rs.bind_if_neg (by rw [hs2]; decide)))
                  have E : Hid (R = mkP 16 (here z.T s) ⟨#[]⟩ 0 [t2, .mk 17 (here z.T s2) t4 0 [t6]] s6.made) := Lib.hid (E.out.trans rfl)
                  go_wp2_with (first
                    | (go_at_call 128; (with_reducible refine (skip_no hc hs2).mono ?_); rintro e wx ⟨rfl, hb⟩; obtain ⟨hc, gx⟩ := at_below hc hb; have G := G.trans gx; have la := li_on la gx)
                    | (go_at_call 50; refine (part_list hc 16 _ ⟨#[]⟩ la (by simp)).mono ?_; rintro e wx ⟨xv, rfl, pz, hc, gx⟩; have G := G.trans gx; have la := li_on la gx; obtain ⟨gp, rfl⟩ := part_ptr pz))
                  go_ret
                  exact res_ok E.out pz hc G
      | false =>
        have E := Lib.hid (E.out.trans (Rs.bind_if_neg (by rw [hs]; decide)))
        go_wp2_with (go_at_call 128; (with_reducible refine (skip_no hc hs).mono ?_); rintro e wx ⟨rfl, hb⟩; obtain ⟨hc, gx⟩ := at_below hc hb; have G := G.trans gx; have lx := li_on lx gx)
        have E := Lib.hid (E.out.trans (ok_bind [t2] s2 _))
        go_wp2_with (go_at_call 47; refine (at_p hc).mono ?_; rintro e wx ⟨rfl, hb⟩; obtain ⟨hc, gx⟩ := at_below hc hb; have G := G.trans gx; have lx := li_on lx gx)
        cases hs2 : (sd z.T s2 == (⟨#[102, 105, 110, 97, 108, 108, 121]⟩ : ByteArray)) with
        | true =>
          have E := Lib.hid (E.out.trans (Rs.bind_if_pos hs2))
          have hn2 := tok_end hc.may hc.lt (kind_of_sd hc.may hc.lt hs2 (by decide))
          go_wp2_with (go_at_call 128; (with_reducible refine (skip_yes hc hs2 hn2).mono ?_); rintro e wx ⟨rfl, hc, gx⟩; have G := G.trans gx; have lx := li_on lx gx)
          have E := Lib.hid (E.out.trans (Rs.bind_assoc _ _ _))
          have ho8 := li_lt lx
          have gs8 := G.size
          have hzq8 := at_lt hc
          have hno3 : r .block s2.on ≠ .out := fun e => HO.out (E.out.trans (Rs.bind_out e _))
          go_at_call 97
          refine (A.block hc hno3).mono ?_
          rintro e wx hr
          cases hm3 : r .block s2.on with
          | out => exact absurd hm3 hno3
          | bad p q => rw [hm3] at hr; obtain ⟨rfl, gx⟩ := hr; exact ⟨rfl, res_bad (E.out.trans (Rs.bind_bad hm3 _)) (G.trans gx)⟩
          | ok t3 s3 =>
            rw [hm3] at hr
            obtain ⟨v3, rfl, p3, hc, gx⟩ := hr
            have q3 := p3
            have gq3 := gx.size
            have p3 := part_low p3 G.size
            obtain ⟨gv3, rfl⟩ := part_ptr p3
            have G := G.trans gx; have lx := li_on lx gx
            have E := Lib.hid (E.out.trans (Rs.bind_ok hm3 _))
            have E : Hid (R = mkP 16 (here z.T s) ⟨#[]⟩ 0 [t2, .mk 18 (here z.T s2) ⟨#[]⟩ 0 [t3]] s3.made) := Lib.hid (E.out.trans rfl)
            go_wp2_with (first
              | (go_at_call 50; refine (part_one hc 18 _ ⟨#[]⟩ q3 gq3 hzq8).mono ?_; rintro e wx ⟨xv, rfl, qf, hc, gx⟩; have G := G.trans gx; have lx := li_on lx gx; obtain ⟨gp, rfl⟩ := part_ptr qf)
              | (at_builtin; refine li_app rfl _ _ rfl lx qf (fun j hj => (ho8 j hj).2) gs8 rfl (by simp [Act.eval]) (by first | omega | (simp; done)) ?_; intro v' wa lb g4; have hc := at_own h hc g4 (fun j hj => (ho8 j hj).1) G.size; have G := grown_own G g4 (fun j hj => (ho8 j hj).1); obtain ⟨Az, capz, hz⟩ := li_shape lb; have hz : v' = .slice Az 2 capz := hz; subst hz; have lb : LI z w.heap.size (.slice Az 2 capz) [t2, .mk 18 (here z.T s2) ⟨#[]⟩ 0 [t3]] wa := lb)
              | (go_at_call 50; refine (part_list hc 16 _ ⟨#[]⟩ lb (by simp)).mono ?_; rintro e wx ⟨xv, rfl, pz, hc, gx⟩; have G := G.trans gx; obtain ⟨gp, rfl⟩ := part_ptr pz))
            go_ret
            exact res_ok E.out pz hc G
        | false =>
          have E := Lib.hid (E.out.trans (Rs.bind_if_neg (by rw [hs2]; decide)))
          have E : Hid (R = .bad (here z.T s2) 5) := Lib.hid (E.out.trans rfl)
          go_wp2_with (first
            | (go_at_call 128; (with_reducible refine (skip_no hc hs2).mono ?_); rintro e wx ⟨rfl, hb⟩; obtain ⟨hc, gx⟩ := at_below hc hb; have G := G.trans gx; have lx := li_on lx gx)
            | (go_at_call 95; refine (refuse_p hc 5).mono ?_; rintro e wx ⟨rfl, gx⟩))
          exact ⟨rfl, res_bad E.out (G.trans gx)⟩
end Go.Proofs.YtablckajobefeaaGreatDoor.S
/-
  Walks of the parser's methods, from what each does in turn. Generated: gen_step.py.
-/
namespace Go.Proofs.YtablckajobefeaaGreatDoor.S
open Go.RowKit Fl

set_option maxHeartbeats 4000000 in
set_option maxRecDepth 100000 in
theorem w_key {z : Pz} {r : Mth → Ps → Rs Tr} (A : AllW z r) {s : Ps} {w : World} (h : At z s w) (ho : step z.T r .key s ≠ .out) :
    Calls Tryz.prog 200 #[.pointer (some ⟨z.b, 0, none⟩)] w (Res z w (step z.T r .key s)) := by
  have hzb := at_lt h
  generalize hR : step z.T r .key s = R at ho ⊢
  have HO := Lib.hid ho
  dsimp only [step] at hR
  have E := Lib.hid hR.symm
  clear hR ho
  have hc := h
  have G : w.grownBy w (some z.b) := World.grownBy.refl _ _
  have hf0 := fld_kind
  by_cases hk3 : (tok z.T s).kind = 3
  · have E := Lib.hid (E.out.trans (if_pos hk3))
    have t3 : (((tok z.T s).kind : Int) == 3) = true := by rw [beq_iff_eq]; omega
    have hn := tok_end hc.may hc.lt (show (tok z.T s).kind ≠ 0 by omega)
    clear hk3
    go_enter Tryz.func200, Tryz.ntmps200
    go_wp2_with (first
      | (go_at_call 47; refine (at_p hc).mono ?_; rintro e wx ⟨rfl, hb⟩; obtain ⟨hc, gx⟩ := at_below hc hb; have G := G.trans gx)
      | (go_at_call 48; refine (token_p hc).mono ?_; rintro e wx ⟨rfl, hb⟩; obtain ⟨hc, gx⟩ := at_below hc hb; have G := G.trans gx))
    have hno1 : numR z.T s ≠ .out := fun e => HO.out (E.out.trans e)
    go_at_call 196
    refine (number_p hc hn).mono ?_
    rintro e wx hr
    cases hm1 : numR z.T s with
    | out => exact absurd hm1 hno1
    | bad p q => rw [hm1] at hr; obtain ⟨rfl, gx⟩ := hr; exact ⟨rfl, res_bad (E.out.trans hm1) (G.trans gx)⟩
    | ok t1 s1 =>
      rw [hm1] at hr
      obtain ⟨v1, rfl, p1, hc, gx⟩ := hr
      have p1 := part_low p1 G.size
      obtain ⟨gv1, rfl⟩ := part_ptr p1
      have G := G.trans gx
      have E := Lib.hid (E.out.trans hm1)
      go_wp2_with (fail)
      go_ret
      exact res_ok E.out p1 hc G
  · have E := Lib.hid (E.out.trans (if_neg hk3))
    by_cases hk4 : (tok z.T s).kind = 4
    · have E := Lib.hid (E.out.trans (if_pos hk4))
      have t3 : (((tok z.T s).kind : Int) == 3) = false := by rw [beq_eq_false_iff_ne]; omega
      have t4 : (((tok z.T s).kind : Int) == 4) = true := by rw [beq_iff_eq]; omega
      have hn := tok_end hc.may hc.lt (show (tok z.T s).kind ≠ 0 by omega)
      clear hk3 hk4
      go_enter Tryz.func200, Tryz.ntmps200
      go_wp2_with (first
        | (go_at_call 47; refine (at_p hc).mono ?_; rintro e wx ⟨rfl, hb⟩; obtain ⟨hc, gx⟩ := at_below hc hb; have G := G.trans gx)
        | (go_at_call 48; refine (token_p hc).mono ?_; rintro e wx ⟨rfl, hb⟩; obtain ⟨hc, gx⟩ := at_below hc hb; have G := G.trans gx)
        | (go_at_call 132; refine (text_p hc hn).mono ?_; rintro e wx ⟨rfl, hc, gx⟩; have G := G.trans gx)
        | (go_at_call 50; refine (part_none hc 21 _ _ G.size hzb).mono ?_; rintro e wx ⟨xv, rfl, px, hc, gx⟩; have G := G.trans gx; obtain ⟨gp, rfl⟩ := part_ptr px))
      go_ret
      exact res_ok E.out px hc G
    · have E := Lib.hid (E.out.trans (if_neg hk4))
      have t3 : (((tok z.T s).kind : Int) == 3) = false := by rw [beq_eq_false_iff_ne]; omega
      have t4 : (((tok z.T s).kind : Int) == 4) = false := by rw [beq_eq_false_iff_ne]; omega
      clear hk3 hk4
      cases hs : (sd z.T s == (⟨#[91]⟩ : ByteArray)) with
      | true =>
        have E := Lib.hid (E.out.trans (if_pos hs))
        have hn := tok_end hc.may hc.lt (kind_of_sd hc.may hc.lt hs (by decide))
        go_enter Tryz.func200, Tryz.ntmps200
        go_wp2_with (first
          | (go_at_call 47; refine (at_p hc).mono ?_; rintro e wx ⟨rfl, hb⟩; obtain ⟨hc, gx⟩ := at_below hc hb; have G := G.trans gx)
          | (go_at_call 48; refine (token_p hc).mono ?_; rintro e wx ⟨rfl, hb⟩; obtain ⟨hc, gx⟩ := at_below hc hb; have G := G.trans gx)
          | (go_at_call 128; (with_reducible refine (skip_yes hc hs hn).mono ?_); rintro e wx ⟨rfl, hc, gx⟩; have G := G.trans gx))
        have hno1 : r .assign s.on ≠ .out := fun e => HO.out (E.out.trans (Rs.bind_out e _))
        go_at_call 133
        refine (A.assign hc hno1).mono ?_
        rintro e wx hr
        cases hm1 : r .assign s.on with
        | out => exact absurd hm1 hno1
        | bad p q => rw [hm1] at hr; obtain ⟨rfl, gx⟩ := hr; exact ⟨rfl, res_bad (E.out.trans (Rs.bind_bad hm1 _)) (G.trans gx)⟩
        | ok t1 s1 =>
          rw [hm1] at hr
          obtain ⟨v1, rfl, p1, hc, gx⟩ := hr
          have p1 := part_low p1 G.size
          obtain ⟨gv1, rfl⟩ := part_ptr p1
          have G := G.trans gx
          have E := Lib.hid (E.out.trans (Rs.bind_ok hm1 _))
          go_wp2_with (fail)
          go_at_call 100
          refine (take_one hc (⟨#[93]⟩ : ByteArray) _ (by decide)).mono ?_
          rintro e wx hr
          cases hm2 : take1 z.T (⟨#[93]⟩ : ByteArray) s1 with
          | out => rw [hm2] at hr; exact hr.elim
          | bad p q => rw [hm2] at hr; obtain ⟨rfl, gx⟩ := hr; exact ⟨rfl, res_bad (E.out.trans (Rs.bind_bad hm2 _)) (G.trans gx)⟩
          | ok u s2 =>
            rw [hm2] at hr
            obtain ⟨rfl, hc, gx⟩ := hr
            have G := G.trans gx; have p1 := part_on p1 (Nat.le_refl _) gx hzb
            have E := Lib.hid (E.out.trans (Rs.bind_ok hm2 _))
            go_wp2_with (go_at_call 50; refine (part_one hc 32 _ ⟨#[]⟩ p1 G.size hzb).mono ?_; rintro e wx ⟨xv, rfl, px, hc, gx⟩; have G := G.trans gx; have p1 := part_on p1 (Nat.le_refl _) gx hzb; obtain ⟨gp, rfl⟩ := part_ptr px)
            go_ret
            exact res_ok E.out px hc G
      | false =>
        have E := Lib.hid (E.out.trans (if_neg (by rw [hs]; decide)))
        go_enter Tryz.func200, Tryz.ntmps200
        go_wp2_with (first
          | (go_at_call 47; refine (at_p hc).mono ?_; rintro e wx ⟨rfl, hb⟩; obtain ⟨hc, gx⟩ := at_below hc hb; have G := G.trans gx)
          | (go_at_call 48; refine (token_p hc).mono ?_; rintro e wx ⟨rfl, hb⟩; obtain ⟨hc, gx⟩ := at_below hc hb; have G := G.trans gx)
          | (go_at_call 128; (with_reducible refine (skip_no hc hs).mono ?_); rintro e wx ⟨rfl, hb⟩; obtain ⟨hc, gx⟩ := at_below hc hb; have G := G.trans gx))
        go_at_call 192
        refine (word_p hc).mono ?_
        rintro e wx hr
        cases hm1 : wordR z.T s with
        | out => rw [hm1] at hr; exact hr.elim
        | bad p q => rw [hm1] at hr; obtain ⟨rfl, gx⟩ := hr; exact ⟨rfl, res_bad (E.out.trans (Rs.bind_bad hm1 _)) (G.trans gx)⟩
        | ok t1 s1 =>
          rw [hm1] at hr
          obtain ⟨rfl, hc, gx⟩ := hr
          have G := G.trans gx
          have E := Lib.hid (E.out.trans (Rs.bind_ok hm1 _))
          go_wp2_with (go_at_call 50; refine (part_none hc 21 _ t1 G.size hzb).mono ?_; rintro e wx ⟨xv, rfl, px, hc, gx⟩; have G := G.trans gx; obtain ⟨gp, rfl⟩ := part_ptr px)
          go_ret
          exact res_ok E.out px hc G

set_option maxHeartbeats 4000000 in
set_option maxRecDepth 100000 in
theorem w_assigned {z : Pz} {r : Mth → Ps → Rs Tr} (A : AllW z r) {s : Ps} {w : World} (h : At z s w) (ho : step z.T r .assigned s ≠ .out) :
    Calls Tryz.prog 152 #[.pointer (some ⟨z.b, 0, none⟩)] w (Res z w (step z.T r .assigned s)) := by
  have hzb := at_lt h
  generalize hR : step z.T r .assigned s = R at ho ⊢
  have HO := Lib.hid ho
  dsimp only [step] at hR
  have E := Lib.hid hR.symm
  clear hR ho
  have hc := h
  have G : w.grownBy w (some z.b) := World.grownBy.refl _ _
  go_enter Tryz.func152, Tryz.ntmps152
  go_wp2_with (go_at_call 47; refine (at_p hc).mono ?_; rintro e wx ⟨rfl, hb⟩; obtain ⟨hc, gx⟩ := at_below hc hb; have G := G.trans gx)
  have hno1 : r .cond s ≠ .out := fun e => HO.out (E.out.trans (Rs.bind_out e _))
  go_at_call 172
  refine (A.cond hc hno1).mono ?_
  rintro e wx hr
  cases hm1 : r .cond s with
  | out => exact absurd hm1 hno1
  | bad p q => rw [hm1] at hr; obtain ⟨rfl, gx⟩ := hr; exact ⟨rfl, res_bad (E.out.trans (Rs.bind_bad hm1 _)) (G.trans gx)⟩
  | ok t1 s1 =>
    rw [hm1] at hr
    obtain ⟨v1, rfl, p1, hc, gx⟩ := hr
    have p1 := part_low p1 G.size
    obtain ⟨gv1, rfl⟩ := part_ptr p1
    have G := G.trans gx
    have E := Lib.hid (E.out.trans (Rs.bind_ok hm1 _))
    have kl := puts_p (saidT (tok z.T s1))
    have kt := target_p t1.kind
    have kf := part_kind p1
    cases hs : putsB (sd z.T s1) with
    | true =>
      have E := Lib.hid (E.out.trans (if_pos hs))
      rw [show putsB (saidT (tok z.T s1)) = true from hs] at kl
      have hne : sd z.T s1 ≠ ⟨#[]⟩ := fun e => by rw [e] at hs; exact absurd hs (by decide)
      cases ht : targetB t1.kind with
      | true =>
        have E := Lib.hid (E.out.trans (if_pos ht))
        rw [ht] at kt
        go_wp2_with (first
          | (go_at_call 48; refine (token_p hc).mono ?_; rintro e wx ⟨rfl, hb⟩; obtain ⟨hc, gx⟩ := at_below hc hb; have G := G.trans gx; have p1 := part_on p1 (Nat.le_refl _) gx hzb; have kf := part_kind p1)
          | (go_at_call 96; refine (said_p (tok z.T s1) _).mono ?_; rintro e wx ⟨rfl, hb⟩; obtain ⟨hc, gx⟩ := at_below hc hb; have G := G.trans gx; have p1 := part_on p1 (Nat.le_refl _) gx hzb; have kf := part_kind p1)
          | (go_at_call 155; refine (kl _).mono ?_; rintro e wx ⟨rfl, rfl⟩)
          | (go_at_call 173; refine (kt _).mono ?_; rintro e wx ⟨rfl, rfl⟩))
        go_at_call 100
        refine (take_one hc (sd z.T s1) _ hne).mono ?_
        rintro e wx hr
        cases hm2 : take1 z.T (sd z.T s1) s1 with
        | out => rw [hm2] at hr; exact hr.elim
        | bad p q => rw [hm2] at hr; obtain ⟨rfl, gx⟩ := hr; exact ⟨rfl, res_bad (E.out.trans (Rs.bind_bad hm2 _)) (G.trans gx)⟩
        | ok u s2 =>
          rw [hm2] at hr
          obtain ⟨rfl, hc, gx⟩ := hr
          have G := G.trans gx; have p1 := part_on p1 (Nat.le_refl _) gx hzb; have kf := part_kind p1
          have E := Lib.hid (E.out.trans (Rs.bind_ok hm2 _))
          go_wp2_with (fail)
          have hno3 : r .assign s2 ≠ .out := fun e => HO.out (E.out.trans (Rs.bind_out e _))
          go_at_call 133
          refine (A.assign hc hno3).mono ?_
          rintro e wx hr
          cases hm3 : r .assign s2 with
          | out => exact absurd hm3 hno3
          | bad p q => rw [hm3] at hr; obtain ⟨rfl, gx⟩ := hr; exact ⟨rfl, res_bad (E.out.trans (Rs.bind_bad hm3 _)) (G.trans gx)⟩
          | ok t3 s3 =>
            rw [hm3] at hr
            obtain ⟨v3, rfl, p3, hc, gx⟩ := hr
            have p3 := part_low p3 G.size
            obtain ⟨gv3, rfl⟩ := part_ptr p3
            have G := G.trans gx; have p1 := part_on p1 (Nat.le_refl _) gx hzb; have kf := part_kind p1
            have E := Lib.hid (E.out.trans (Rs.bind_ok hm3 _))
            go_wp2_with (go_at_call 50; refine (part_two hc 43 _ _ p1 p3 G.size hzb).mono ?_; rintro e wx ⟨xv, rfl, px, hc, gx⟩; have G := G.trans gx; have p1 := part_on p1 (Nat.le_refl _) gx hzb; have p3 := part_on p3 (Nat.le_refl _) gx hzb; have kf := part_kind p1; obtain ⟨gp, rfl⟩ := part_ptr px)
            go_ret
            exact res_ok E.out px hc G
      | false =>
        have E := Lib.hid (E.out.trans (if_neg (by rw [ht]; decide)))
        rw [ht] at kt
        go_wp2_with (first
          | (go_at_call 48; refine (token_p hc).mono ?_; rintro e wx ⟨rfl, hb⟩; obtain ⟨hc, gx⟩ := at_below hc hb; have G := G.trans gx; have p1 := part_on p1 (Nat.le_refl _) gx hzb; have kf := part_kind p1)
          | (go_at_call 96; refine (said_p (tok z.T s1) _).mono ?_; rintro e wx ⟨rfl, hb⟩; obtain ⟨hc, gx⟩ := at_below hc hb; have G := G.trans gx; have p1 := part_on p1 (Nat.le_refl _) gx hzb; have kf := part_kind p1)
          | (go_at_call 155; refine (kl _).mono ?_; rintro e wx ⟨rfl, rfl⟩)
          | (go_at_call 173; refine (kt _).mono ?_; rintro e wx ⟨rfl, rfl⟩)
          | (go_at_call 95; refine (refuse_p hc 5).mono ?_; rintro e wx ⟨rfl, gx⟩))
        exact ⟨rfl, res_bad E.out (G.trans gx)⟩
    | false =>
      have E := Lib.hid (E.out.trans (if_neg (by rw [hs]; decide)))
      rw [show putsB (saidT (tok z.T s1)) = false from hs] at kl
      go_wp2_with (first
        | (go_at_call 48; refine (token_p hc).mono ?_; rintro e wx ⟨rfl, hb⟩; obtain ⟨hc, gx⟩ := at_below hc hb; have G := G.trans gx; have p1 := part_on p1 (Nat.le_refl _) gx hzb; have kf := part_kind p1)
        | (go_at_call 96; refine (said_p (tok z.T s1) _).mono ?_; rintro e wx ⟨rfl, hb⟩; obtain ⟨hc, gx⟩ := at_below hc hb; have G := G.trans gx; have p1 := part_on p1 (Nat.le_refl _) gx hzb; have kf := part_kind p1)
        | (go_at_call 155; refine (kl _).mono ?_; rintro e wx ⟨rfl, rfl⟩))
      go_ret
      exact res_ok E.out p1 hc G
end Go.Proofs.YtablckajobefeaaGreatDoor.S
/-
  Walks of the parser's methods, from what each does in turn. Generated: gen_step.py.
-/
namespace Go.Proofs.YtablckajobefeaaGreatDoor.S
open Go.RowKit Fl

set_option maxHeartbeats 4000000 in
set_option maxRecDepth 100000 in
theorem w_declaration {z : Pz} {r : Mth → Ps → Rs Tr} (A : AllW z r) {s : Ps} {w : World} (h : At z s w) (ho : step z.T r .declaration s ≠ .out) :
    Calls Tryz.prog 99 #[.pointer (some ⟨z.b, 0, none⟩)] w (Res z w (step z.T r .declaration s)) := by
  have hzb := at_lt h
  generalize hR : step z.T r .declaration s = R at ho ⊢
  have HO := Lib.hid ho
  dsimp only [step] at hR
  have E := Lib.hid hR.symm
  clear hR ho
  have hc := h
  have G : w.grownBy w (some z.b) := World.grownBy.refl _ _
  go_enter Tryz.func99, Tryz.ntmps99
  go_wp2_with (fail)
  go_at_call 129
  refine (declarator_p hc).mono ?_
  rintro e wx hr
  cases hm1 : declR z.T s with
  | out => rw [hm1] at hr; exact hr.elim
  | bad p q => rw [hm1] at hr; obtain ⟨rfl, gx⟩ := hr; exact ⟨rfl, res_bad (E.out.trans (Rs.bind_bad hm1 _)) (G.trans gx)⟩
  | ok t1 s1 =>
    rw [hm1] at hr
    obtain ⟨v1, rfl, p1, hc, gx⟩ := hr
    have p1 := part_low p1 G.size
    obtain ⟨gv1, rfl⟩ := part_ptr p1
    have G := G.trans gx
    have E := Lib.hid (E.out.trans (Rs.bind_ok hm1 _))
    obtain ⟨k0, n0p, n0, m0, l0⟩ := t1
    obtain ⟨A0, cap0, hbl, hg0⟩ := part_blk p1
    have hgl := lt_of_blk hbl
    have hgz : some gv1 ≠ some z.b := fun e => by have := Option.some.inj e; have : w.heap.size ≤ gv1 := hg0; omega
    have kf : _ = some (Value.int .u8 (k0 : Int)) := part_kind p1
    have E : Hid (R = if k0 = 3 ∧ (sd z.T s1 == (⟨#[59]⟩ : ByteArray)) = true then .ok (.mk k0 n0p n0 m0 l0) s1.on else (take1 z.T (⟨#[61]⟩ : ByteArray) s1).bind fun _ s2 => (r .ended s2).bind fun y s3 => .ok (.mk k0 n0p n0 m0 [y]) s3) := E
    by_cases hk3 : k0 = 3
    · have t3 : ((k0 : Int) == 3) = true := by rw [beq_iff_eq]; omega
      cases hs : (sd z.T s1 == (⟨#[59]⟩ : ByteArray)) with
      | true =>
        have E := Lib.hid (E.out.trans (if_pos ⟨hk3, hs⟩))
        have hn := tok_end hc.may hc.lt (kind_of_sd hc.may hc.lt hs (by decide))
        clear hk3
        go_wp2_with (go_at_call 128; refine (skip_yes hc hs hn).mono ?_; rintro e wx ⟨rfl, hc, gx⟩; have G := G.trans gx; have p1 := part_on p1 (Nat.le_refl _) gx hzb)
        go_ret
        exact res_ok E.out p1 hc G
      | false =>
        have E := Lib.hid (E.out.trans (if_neg (fun h => by rw [hs] at h; exact absurd h.2 (by decide))))
        clear hk3
        go_wp2_with (go_at_call 128; refine (skip_no hc hs).mono ?_; rintro e wx ⟨rfl, hb⟩; obtain ⟨hc, gx⟩ := at_below hc hb; have G := G.trans gx; have p1 := part_on p1 (Nat.le_refl _) gx hzb; have hbl := (gx.block _ hgl hgz).trans hbl; have hgl := lt_of_blk hbl; have kf : _ = some (Value.int .u8 (k0 : Int)) := part_kind p1)
        go_at_call 100
        refine (take_one hc (⟨#[61]⟩ : ByteArray) _ (by decide)).mono ?_
        rintro e wx hr
        cases hm2 : take1 z.T (⟨#[61]⟩ : ByteArray) s1 with
        | out => rw [hm2] at hr; exact hr.elim
        | bad p q => rw [hm2] at hr; obtain ⟨rfl, gx⟩ := hr; exact ⟨rfl, res_bad (E.out.trans (Rs.bind_bad hm2 _)) (G.trans gx)⟩
        | ok u s2 =>
          rw [hm2] at hr
          obtain ⟨rfl, hc, gx⟩ := hr
          have G := G.trans gx
          have E := Lib.hid (E.out.trans (Rs.bind_ok hm2 _))
          have hbl := (gx.block _ hgl hgz).trans hbl
          have hgl := lt_of_blk hbl
          go_wp2_with (fail)
          have hno3 : r .ended s2 ≠ .out := fun e => HO.out (E.out.trans (Rs.bind_out e _))
          go_at_call 108
          refine (A.ended hc hno3).mono ?_
          rintro e wx hr
          cases hm3 : r .ended s2 with
          | out => exact absurd hm3 hno3
          | bad p q => rw [hm3] at hr; obtain ⟨rfl, gx⟩ := hr; exact ⟨rfl, res_bad (E.out.trans (Rs.bind_bad hm3 _)) (G.trans gx)⟩
          | ok t3 s3 =>
            rw [hm3] at hr
            obtain ⟨v3, rfl, p3, hc, gx⟩ := hr
            have q3 := p3
            have gq3 := gx.size
            have p3 := part_low p3 G.size
            obtain ⟨gv3, rfl⟩ := part_ptr p3
            have G := G.trans gx
            have E := Lib.hid (E.out.trans (Rs.bind_ok hm3 _))
            have hbl := (gx.block _ hgl hgz).trans hbl
            have kc : _ = some (Value.slice A0 l0.length cap0) := blk_cell hbl 5
            have fzz := fz_blk hbl 5
            have hgl2 := lt_of_blk hbl
            obtain ⟨d1, d2, d3⟩ := decl_end h hc G hg0 hgl hbl q3
            go_wp2_with (fail)
            go_ret
            exact res_ok E.out d1 d2 d3
    · have t3 : ((k0 : Int) == 3) = false := by rw [beq_eq_false_iff_ne]; omega
      have E := Lib.hid (E.out.trans (if_neg (fun h => hk3 h.1)))
      clear hk3
      go_wp2_with (fail)
      go_at_call 100
      refine (take_one hc (⟨#[61]⟩ : ByteArray) _ (by decide)).mono ?_
      rintro e wx hr
      cases hm2 : take1 z.T (⟨#[61]⟩ : ByteArray) s1 with
      | out => rw [hm2] at hr; exact hr.elim
      | bad p q => rw [hm2] at hr; obtain ⟨rfl, gx⟩ := hr; exact ⟨rfl, res_bad (E.out.trans (Rs.bind_bad hm2 _)) (G.trans gx)⟩
      | ok u s2 =>
        rw [hm2] at hr
        obtain ⟨rfl, hc, gx⟩ := hr
        have G := G.trans gx
        have E := Lib.hid (E.out.trans (Rs.bind_ok hm2 _))
        have hbl := (gx.block _ hgl hgz).trans hbl
        have hgl := lt_of_blk hbl
        go_wp2_with (fail)
        have hno3 : r .ended s2 ≠ .out := fun e => HO.out (E.out.trans (Rs.bind_out e _))
        go_at_call 108
        refine (A.ended hc hno3).mono ?_
        rintro e wx hr
        cases hm3 : r .ended s2 with
        | out => exact absurd hm3 hno3
        | bad p q => rw [hm3] at hr; obtain ⟨rfl, gx⟩ := hr; exact ⟨rfl, res_bad (E.out.trans (Rs.bind_bad hm3 _)) (G.trans gx)⟩
        | ok t3 s3 =>
          rw [hm3] at hr
          obtain ⟨v3, rfl, p3, hc, gx⟩ := hr
          have q3 := p3
          have gq3 := gx.size
          have p3 := part_low p3 G.size
          obtain ⟨gv3, rfl⟩ := part_ptr p3
          have G := G.trans gx
          have E := Lib.hid (E.out.trans (Rs.bind_ok hm3 _))
          have hbl := (gx.block _ hgl hgz).trans hbl
          have kc : _ = some (Value.slice A0 l0.length cap0) := blk_cell hbl 5
          have fzz := fz_blk hbl 5
          have hgl2 := lt_of_blk hbl
          obtain ⟨d1, d2, d3⟩ := decl_end h hc G hg0 hgl hbl q3
          go_wp2_with (fail)
          go_ret
          exact res_ok E.out d1 d2 d3
end Go.Proofs.YtablckajobefeaaGreatDoor.S
/-
  Walks of the parser's methods, from what each does in turn. Generated: gen_step.py.
-/
namespace Go.Proofs.YtablckajobefeaaGreatDoor.S
open Go.RowKit Fl

set_option maxHeartbeats 4000000 in
set_option maxRecDepth 100000 in
theorem w_sides {z : Pz} {r : Mth → Ps → Rs Tr} (A : AllW z r) {s : Ps} {w : World} (n : Nat) (h : At z s w) (hn1 : 1 ≤ n) (hn20 : n ≤ 20) (ho : step z.T r (.sides n) s ≠ .out) :
    Calls Tryz.prog 185 #[.pointer (some ⟨z.b, 0, none⟩), .int .i64 (n : Int)] w (Res z w (step z.T r (.sides n) s)) := by
  have hzb := at_lt h
  generalize hR : step z.T r (.sides n) s = R at ho ⊢
  have HO := Lib.hid ho
  dsimp only [step] at hR
  have E := Lib.hid hR.symm
  clear hR ho
  have hc := h
  have G : w.grownBy w (some z.b) := World.grownBy.refl _ _
  go_enter Tryz.func185, Tryz.ntmps185
  go_wp2_with (go_at_call 47; refine (at_p hc).mono ?_; rintro e wx ⟨rfl, hb⟩; obtain ⟨hc, gx⟩ := at_below hc hb; have G := G.trans gx)
  have hno1 : r .unary s ≠ .out := fun e => HO.out (E.out.trans (Rs.bind_out e _))
  go_at_call 187
  refine (A.unary hc hno1).mono ?_
  rintro e wx hr
  cases hm1 : r .unary s with
  | out => exact absurd hm1 hno1
  | bad p q => rw [hm1] at hr; obtain ⟨rfl, gx⟩ := hr; exact ⟨rfl, res_bad (E.out.trans (Rs.bind_bad hm1 _)) (G.trans gx)⟩
  | ok t1 s1 =>
    rw [hm1] at hr
    obtain ⟨v1, rfl, p1, hc, gx⟩ := hr
    have p1 := part_low p1 G.size
    obtain ⟨gv1, rfl⟩ := part_ptr p1
    have G := G.trans gx
    have E := Lib.hid (E.out.trans (Rs.bind_ok hm1 _))
    have E : Hid (sidesL z.T r (here z.T s) n (z.T.length + 1) t1 s1 = R) := Lib.hid E.out.symm
    clear hm1
    go_wp2_with (fail)
    go_loopw [6] (fun v wr => ∃ (j : Nat) (x : Tr) (s1 : Ps), Hid (PartAt wr (From w.heap.size) x v ∧ At z s1 wr ∧ w.grownBy wr (some z.b) ∧ sidesL z.T r (here z.T s) n j x s1 = R)) (fun _ wr => z.T.length - nextIn z wr)
    case atStart => exact ⟨_, t1, s1, Lib.hid ⟨p1, hc, G, E.out⟩⟩
    case round =>
      clear E hc G p1
      obtain ⟨j, x, s1, H⟩ := hrel
      obtain ⟨px, hc, G, e1⟩ := H.out
      clear H
      have a0 := hc
      cases j with
      | zero => exact absurd e1.symm HO.out
      | succ j =>
        obtain ⟨gv, rfl⟩ := part_ptr px
        unfold sidesL at e1
        have kl := level_p (saidT (tok z.T s1))
        obtain ⟨L, hL⟩ : ∃ L, levelOf (sd z.T s1) = L := ⟨_, rfl⟩
        have hL10 := level_le (sd z.T s1)
        simp only [hL] at e1 hL10
        rw [show levelOf (saidT (tok z.T s1)) = L from hL] at kl
        by_cases hlt : L < n
        · rw [if_pos hlt] at e1
          have E1 := Lib.hid e1.symm
          have t1 : (L : Int) < (n : Int) := by omega
          clear e1 hL
          go_wp2_with (first
            | (go_at_call 48; refine (token_p hc).mono ?_; rintro e wx ⟨rfl, hb⟩; obtain ⟨hc, gx⟩ := at_below hc hb; have G := G.trans gx; have px := part_on px (Nat.le_refl _) gx hzb)
            | (go_at_call 96; refine (said_p (tok z.T s1) _).mono ?_; rintro e wx ⟨rfl, hb⟩; obtain ⟨hc, gx⟩ := at_below hc hb; have G := G.trans gx; have px := part_on px (Nat.le_refl _) gx hzb)
            | (go_at_call 154; refine (kl _).mono ?_; rintro e wx ⟨rfl, rfl⟩))
          go_ret
          exact res_ok E1.out px hc G
        · rw [if_neg hlt] at e1
          have E1 := Lib.hid e1
          have t1 : ¬ (L : Int) < (n : Int) := by omega
          have hk := kind_of_level hc.may hc.lt (by rw [hL]; omega)
          have hne : sd z.T s1 ≠ ⟨#[]⟩ := fun e => by rw [e] at hL; have : levelOf ⟨#[]⟩ = 0 := by decide
                                                      omega
          have ht : take1 z.T (sd z.T s1) s1 = .ok () s1.on := by unfold take1; rw [if_pos (by rw [← str_eqL]; exact beq_self_eq_true _)]
          have hno : r (.sides (L + 1)) s1.on ≠ .out := fun e => HO.out (E1.out.symm.trans (Rs.bind_out e _))
          have ks : ∀ w', At z s1.on w' → Calls Tryz.prog 185 #[.pointer (some ⟨z.b, 0, none⟩), .int .i64 ((L : Int) + 1)] w' (Res z w' (r (.sides (L + 1)) s1.on)) := fun w' h' => by
            have := A.sides (L + 1) (by omega) (by omega) h' hno
            rwa [show ((L + 1 : Nat) : Int) = (L : Int) + 1 from by omega] at this
          clear e1 hlt
          go_wp2_with (first
            | (go_at_call 48; refine (token_p hc).mono ?_; rintro e wx ⟨rfl, hb⟩; obtain ⟨hc, gx⟩ := at_below hc hb; have G := G.trans gx; have px := part_on px (Nat.le_refl _) gx hzb)
            | (go_at_call 96; refine (said_p (tok z.T s1) _).mono ?_; rintro e wx ⟨rfl, hb⟩; obtain ⟨hc, gx⟩ := at_below hc hb; have G := G.trans gx; have px := part_on px (Nat.le_refl _) gx hzb)
            | (go_at_call 154; refine (kl _).mono ?_; rintro e wx ⟨rfl, rfl⟩)
            | (go_at_call 100; refine (take_one hc (sd z.T s1) _ hne).mono ?_; rintro e wx hr; rw [ht] at hr; obtain ⟨rfl, hc, gx⟩ := hr; have G := G.trans gx; have px := part_on px (Nat.le_refl _) gx hzb))
          go_at_call 185
          refine (ks _ hc).mono ?_
          rintro e wx hr
          cases hm : r (.sides (L + 1)) s1.on with
          | out => exact absurd hm hno
          | bad p q => rw [hm] at hr; obtain ⟨rfl, gx⟩ := hr; exact ⟨rfl, res_bad (E1.out.symm.trans (Rs.bind_bad hm _)) (G.trans gx)⟩
          | ok y s2 =>
            rw [hm] at hr
            obtain ⟨u, rfl, py, hc, gx⟩ := hr
            have py := part_low py G.size
            obtain ⟨gy, rfl⟩ := part_ptr py
            have G := G.trans gx
            have px := part_on px (Nat.le_refl _) gx hzb
            have hon := tok_end a0.may a0.lt hk
            have hprog := A.prog (.sides (L + 1)) s1.on y s2 (by show 1 ≤ L + 1; omega) hon hm
            have hp1 : s1.on.next = s1.next + 1 := rfl
            have E2 := Lib.hid ((Rs.bind_ok hm _).symm.trans E1.out)
            clear E1 hm hL ht ks kl
            by_cases h1 : L = 1
            · have E3 : Hid (sidesL z.T r (here z.T s) n j (.mk 41 (here z.T s) ⟨#[]⟩ 0 [x, y]) s2.made = R) := Lib.hid (by rw [← E2.out]; subst h1; rfl)
              have q1 : ((L : Int) == 1) = true := by rw [beq_iff_eq]; omega
              clear h1 E2
              go_wp2_with (go_at_call 50; refine (part_two hc 41 _ ⟨#[]⟩ px py G.size hzb).mono ?_; rintro e wx ⟨xv, rfl, pz, hc, gx⟩; have G := G.trans gx)
              go_roundw
              case rel => exact ⟨j, _, s2.made, Lib.hid ⟨pz, hc, G, E3.out⟩⟩
              case measure => rw [next_at hc, next_at a0]; have := hc.lt; show z.T.length - s2.next < _; have : s2.made.next = s2.next := rfl; omega
            · by_cases h2 : L = 2
              · have E3 : Hid (sidesL z.T r (here z.T s) n j (.mk 40 (here z.T s) ⟨#[]⟩ 0 [x, y]) s2.made = R) := Lib.hid (by rw [← E2.out]; subst h2; rfl)
                have q1 : ((L : Int) == 1) = false := by rw [beq_eq_false_iff_ne]; omega
                have q2 : ((L : Int) == 2) = true := by rw [beq_iff_eq]; omega
                clear h1 h2 E2
                go_wp2_with (go_at_call 50; refine (part_two hc 40 _ ⟨#[]⟩ px py G.size hzb).mono ?_; rintro e wx ⟨xv, rfl, pz, hc, gx⟩; have G := G.trans gx)
                go_roundw
                case rel => exact ⟨j, _, s2.made, Lib.hid ⟨pz, hc, G, E3.out⟩⟩
                case measure => rw [next_at hc, next_at a0]; have := hc.lt; show z.T.length - s2.next < _; have : s2.made.next = s2.next := rfl; omega
              · have E3 : Hid (sidesL z.T r (here z.T s) n j (.mk 39 (here z.T s) (sd z.T s1) 0 [x, y]) s2.made = R) := Lib.hid (by
                  rw [← E2.out]
                  rw [if_neg h1, if_neg h2, if_neg (fun h => h.elim h1 h2)]
                  rfl)
                have q1 : ((L : Int) == 1) = false := by rw [beq_eq_false_iff_ne]; omega
                have q2 : ((L : Int) == 2) = false := by rw [beq_eq_false_iff_ne]; omega
                clear h1 h2 E2
                go_wp2_with (go_at_call 50; refine (part_two hc 39 _ (sd z.T s1) px py G.size hzb).mono ?_; rintro e wx ⟨xv, rfl, pz, hc, gx⟩; have G := G.trans gx)
                go_roundw
                case rel => exact ⟨j, _, s2.made, Lib.hid ⟨pz, hc, G, E3.out⟩⟩
                case measure => rw [next_at hc, next_at a0]; have := hc.lt; show z.T.length - s2.next < _; have : s2.made.next = s2.next := rfl; omega

end Go.Proofs.YtablckajobefeaaGreatDoor.S
/-
  Walks of the parser's methods, from what each does in turn. Generated: gen_step.py.
-/
namespace Go.Proofs.YtablckajobefeaaGreatDoor.S
open Go.RowKit Fl

set_option maxHeartbeats 4000000 in
set_option maxRecDepth 100000 in
theorem w_chain {z : Pz} {r : Mth → Ps → Rs Tr} (A : AllW z r) {s : Ps} {w : World} (c : Bool) (h : At z s w) (ho : step z.T r (.chain c) s ≠ .out) :
    Calls Tryz.prog 190 #[.pointer (some ⟨z.b, 0, none⟩), .bool c] w (Res z w (step z.T r (.chain c) s)) := by
  have hzb := at_lt h
  generalize hR : step z.T r (.chain c) s = R at ho ⊢
  have HO := Lib.hid ho
  dsimp only [step] at hR
  have E := Lib.hid hR.symm
  clear hR ho
  have hc := h
  have G : w.grownBy w (some z.b) := World.grownBy.refl _ _
  go_enter Tryz.func190, Tryz.ntmps190
  go_wp2_with (go_at_call 47; refine (at_p hc).mono ?_; rintro e wx ⟨rfl, hb⟩; obtain ⟨hc, gx⟩ := at_below hc hb; have G := G.trans gx)
  have hno1 : r .head s ≠ .out := fun e => HO.out (E.out.trans (Rs.bind_out e _))
  go_at_call 191
  refine (A.head hc hno1).mono ?_
  rintro e wx hr
  cases hm1 : r .head s with
  | out => exact absurd hm1 hno1
  | bad p q => rw [hm1] at hr; obtain ⟨rfl, gx⟩ := hr; exact ⟨rfl, res_bad (E.out.trans (Rs.bind_bad hm1 _)) (G.trans gx)⟩
  | ok t1 s1 =>
    rw [hm1] at hr
    obtain ⟨v1, rfl, p1, hc, gx⟩ := hr
    have p1 := part_low p1 G.size
    obtain ⟨gv1, rfl⟩ := part_ptr p1
    have G := G.trans gx
    have E := Lib.hid (E.out.trans (Rs.bind_ok hm1 _))
    have E : Hid (chainL z.T r (here z.T s) c (z.T.length + 1) t1 s1 = R) := Lib.hid E.out.symm
    clear hm1
    go_wp2_with (fail)
    go_loopw [6] (fun v wr => ∃ (j : Nat) (x : Tr) (s1 : Ps), Hid (PartAt wr (From w.heap.size) x v ∧ At z s1 wr ∧ w.grownBy wr (some z.b) ∧ chainL z.T r (here z.T s) c j x s1 = R)) (fun _ wr => z.T.length - nextIn z wr)
    case atStart => exact ⟨_, t1, s1, Lib.hid ⟨p1, hc, G, E.out⟩⟩
    case round =>
      clear E hc G p1
      obtain ⟨j, x, s1, H⟩ := hrel
      obtain ⟨px, hc, G, e1⟩ := H.out
      clear H
      have a0 := hc
      cases j with
      | zero => exact absurd e1.symm HO.out
      | succ j =>
        obtain ⟨gv, rfl⟩ := part_ptr px
        unfold chainL at e1
        cases hs1 : (sd z.T s1 == (⟨#[46]⟩ : ByteArray)) with
        | true =>
          have hn := tok_end hc.may hc.lt (kind_of_sd hc.may hc.lt hs1 (by decide))
          rw [if_pos hs1] at e1
          have E1 := Lib.hid e1
          clear e1
          have hp1 : s1.on.next = s1.next + 1 := rfl
          go_wp2_with (go_at_call 128; (with_reducible refine (skip_yes hc hs1 hn).mono ?_); rintro e wx ⟨rfl, hc, gx⟩; have G := G.trans gx; have px := part_on px (Nat.le_refl _) gx hzb)
          go_at_call 192
          refine (word_p hc).mono ?_
          rintro e wx hr
          cases hm : wordR z.T s1.on with
          | out => rw [hm] at hr; exact hr.elim
          | bad p q => rw [hm] at hr; obtain ⟨rfl, gx⟩ := hr; exact ⟨rfl, res_bad (E1.out.symm.trans (Rs.bind_bad hm _)) (G.trans gx)⟩
          | ok d s2 =>
            have hw := gd_word hc.may hc.lt
            rw [hm] at hw
            have hw := hw.1
            rw [hm] at hr
            obtain ⟨rfl, hc, gx⟩ := hr
            have G := G.trans gx
            have px := part_on px (Nat.le_refl _) gx hzb
            have E3 : Hid (chainL z.T r (here z.T s) c j (.mk 34 (here z.T s) d 0 [x]) s2.made = R) := Lib.hid ((Rs.bind_ok hm _).symm.trans E1.out)
            clear E1 hm
            go_wp2_with (go_at_call 50; refine (part_one hc 34 _ d px G.size hzb).mono ?_; rintro e wx ⟨xv, rfl, pz, hc, gx⟩; have G := G.trans gx)
            go_roundw
            case rel => exact ⟨j, _, s2.made, Lib.hid ⟨pz, hc, G, E3.out⟩⟩
            case measure => rw [next_at hc, next_at a0]; have := hc.lt; show z.T.length - (s2).next < _; have hmm : (s2.made).next = (s2).next := rfl; omega
        | false =>
          rw [if_neg (by rw [hs1]; decide)] at e1
          cases hs2 : (sd z.T s1 == (⟨#[91]⟩ : ByteArray)) with
          | true =>
            have hn := tok_end hc.may hc.lt (kind_of_sd hc.may hc.lt hs2 (by decide))
            rw [if_pos hs2] at e1
            have E1 := Lib.hid e1
            clear e1
            have hp1 : s1.on.next = s1.next + 1 := rfl
            go_wp2_with (first
              | (go_at_call 128; (with_reducible refine (skip_no hc hs1).mono ?_); rintro e wx ⟨rfl, hb⟩; obtain ⟨hc, gx⟩ := at_below hc hb; have G := G.trans gx; have px := part_on px (Nat.le_refl _) gx hzb)
              | (go_at_call 128; (with_reducible refine (skip_yes hc hs2 hn).mono ?_); rintro e wx ⟨rfl, hc, gx⟩; have G := G.trans gx; have px := part_on px (Nat.le_refl _) gx hzb))
            have hno : r .assign s1.on ≠ .out := fun e => HO.out (E1.out.symm.trans (Rs.bind_out e _))
            go_at_call 133
            refine (A.assign hc hno).mono ?_
            rintro e wx hr
            cases hm : r .assign s1.on with
            | out => exact absurd hm hno
            | bad p q => rw [hm] at hr; obtain ⟨rfl, gx⟩ := hr; exact ⟨rfl, res_bad (E1.out.symm.trans (Rs.bind_bad hm _)) (G.trans gx)⟩
            | ok y s2 =>
              have hw := A.prog .assign s1.on y s2 trivial hc.lt hm
              rw [hm] at hr
              obtain ⟨u, rfl, py, hc, gx⟩ := hr
              have py := part_low py G.size
              obtain ⟨gy, rfl⟩ := part_ptr py
              have G := G.trans gx
              have px := part_on px (Nat.le_refl _) gx hzb
              have E2 := Lib.hid ((Rs.bind_ok hm _).symm.trans E1.out)
              clear E1 hm
              go_wp2_with (fail)
              go_at_call 100
              refine (take_one hc (⟨#[93]⟩ : ByteArray) _ (by decide)).mono ?_
              rintro e wx hr
              cases hm : take1 z.T (⟨#[93]⟩ : ByteArray) s2 with
              | out => rw [hm] at hr; exact hr.elim
              | bad p q => rw [hm] at hr; obtain ⟨rfl, gx⟩ := hr; exact ⟨rfl, res_bad (E2.out.symm.trans (Rs.bind_bad hm _)) (G.trans gx)⟩
              | ok d s3 =>
                have hw3 := gd_take1 hc.may (c := (⟨#[93]⟩ : ByteArray)) (by decide) hc.lt
                rw [hm] at hw3
                have hw3 := hw3.1
                rw [hm] at hr
                obtain ⟨rfl, hc, gx⟩ := hr
                have G := G.trans gx
                have px := part_on px (Nat.le_refl _) gx hzb
                have py := part_on py (Nat.le_refl _) gx hzb
                have E3 : Hid (chainL z.T r (here z.T s) c j (.mk 35 (here z.T s) ⟨#[]⟩ 0 [x, y]) s3.made = R) := Lib.hid ((Rs.bind_ok hm _).symm.trans E2.out)
                clear E2 hm
                go_wp2_with (go_at_call 50; refine (part_two hc 35 _ ⟨#[]⟩ px py G.size hzb).mono ?_; rintro e wx ⟨xv, rfl, pz, hc, gx⟩; have G := G.trans gx)
                go_roundw
                case rel => exact ⟨j, _, s3.made, Lib.hid ⟨pz, hc, G, E3.out⟩⟩
                case measure => rw [next_at hc, next_at a0]; have := hc.lt; show z.T.length - (s3).next < _; have hmm : (s3.made).next = (s3).next := rfl; omega
          | false =>
            rw [if_neg (by rw [hs2]; decide)] at e1
            cases hs3 : (c && (sd z.T s1 == (⟨#[40]⟩ : ByteArray))) with
            | true =>
              obtain ⟨hcc, hs4⟩ := Bool.and_eq_true_iff.1 hs3
              rw [if_pos hs3] at e1
              have E1 := Lib.hid e1
              subst hcc
              clear e1 hs3
              go_wp2_with (first
                | (go_at_call 128; (with_reducible refine (skip_no hc hs1).mono ?_); rintro e wx ⟨rfl, hb⟩; obtain ⟨hc, gx⟩ := at_below hc hb; have G := G.trans gx; have px := part_on px (Nat.le_refl _) gx hzb)
                | (go_at_call 128; (with_reducible refine (skip_no hc hs2).mono ?_); rintro e wx ⟨rfl, hb⟩; obtain ⟨hc, gx⟩ := at_below hc hb; have G := G.trans gx; have px := part_on px (Nat.le_refl _) gx hzb)
                | (go_at_call 135; (with_reducible refine (is_yes hc hs4).mono ?_); rintro e wx ⟨rfl, hb⟩; obtain ⟨hc, gx⟩ := at_below hc hb; have G := G.trans gx; have px := part_on px (Nat.le_refl _) gx hzb))
              have hno : argsR z.T r x s1 ≠ .out := fun e => HO.out (E1.out.symm.trans (Rs.bind_out e _))
              go_at_call 193
              refine (w_args A hc px G.size hzb hno).mono ?_
              rintro e wx hr
              cases hm : argsR z.T r x s1 with
              | out => exact absurd hm hno
              | bad p q => rw [hm] at hr; obtain ⟨rfl, gx⟩ := hr; exact ⟨rfl, res_bad (E1.out.symm.trans (Rs.bind_bad hm _)) (G.trans gx)⟩
              | ok l s2 =>
                have hw := args_prog A hc.may hc.lt hm
                rw [hm] at hr
                obtain ⟨u, rfl, lz, hc, gx⟩ := hr
                obtain ⟨Az, capz, rfl⟩ := li_shape lz
                have G := G.trans gx
                have E3 : Hid (chainL z.T r (here z.T s) true j (.mk 36 (here z.T s) ⟨#[]⟩ 0 l) s2.made = R) := Lib.hid ((Rs.bind_ok hm _).symm.trans E1.out)
                clear E1 hm
                go_wp2_with (go_at_call 50; refine (part_list hc 36 _ ⟨#[]⟩ lz (by simp)).mono ?_; rintro e wx ⟨xv, rfl, pz, hc, gx⟩; have G := G.trans gx)
                go_roundw
                case rel => exact ⟨j, _, s2.made, Lib.hid ⟨pz, hc, G, E3.out⟩⟩
                case measure => rw [next_at hc, next_at a0]; have := hc.lt; show z.T.length - (s2).next < _; have hmm : (s2.made).next = (s2).next := rfl; omega
            | false =>
              rw [if_neg (by rw [hs3]; decide)] at e1
              have E1 := Lib.hid e1.symm
              clear e1
              cases c with
              | false =>
                clear hs3
                go_wp2_with (first
                  | (go_at_call 128; (with_reducible refine (skip_no hc hs1).mono ?_); rintro e wx ⟨rfl, hb⟩; obtain ⟨hc, gx⟩ := at_below hc hb; have G := G.trans gx; have px := part_on px (Nat.le_refl _) gx hzb)
                  | (go_at_call 128; (with_reducible refine (skip_no hc hs2).mono ?_); rintro e wx ⟨rfl, hb⟩; obtain ⟨hc, gx⟩ := at_below hc hb; have G := G.trans gx; have px := part_on px (Nat.le_refl _) gx hzb))
                go_ret
                exact res_ok E1.out px hc G
              | true =>
                have hs4 : (sd z.T s1 == (⟨#[40]⟩ : ByteArray)) = false := hs3
                clear hs3
                go_wp2_with (first
                  | (go_at_call 128; (with_reducible refine (skip_no hc hs1).mono ?_); rintro e wx ⟨rfl, hb⟩; obtain ⟨hc, gx⟩ := at_below hc hb; have G := G.trans gx; have px := part_on px (Nat.le_refl _) gx hzb)
                  | (go_at_call 128; (with_reducible refine (skip_no hc hs2).mono ?_); rintro e wx ⟨rfl, hb⟩; obtain ⟨hc, gx⟩ := at_below hc hb; have G := G.trans gx; have px := part_on px (Nat.le_refl _) gx hzb)
                  | (go_at_call 135; (with_reducible refine (is_no hc hs4).mono ?_); rintro e wx ⟨rfl, hb⟩; obtain ⟨hc, gx⟩ := at_below hc hb; have G := G.trans gx; have px := part_on px (Nat.le_refl _) gx hzb))
                go_ret
                exact res_ok E1.out px hc G

end Go.Proofs.YtablckajobefeaaGreatDoor.S
/-
  A whole script: its statements up to the end.
-/
namespace Go.Proofs.YtablckajobefeaaGreatDoor.S
open Go.RowKit Fl

set_option maxHeartbeats 4000000 in
set_option maxRecDepth 100000 in
theorem w_script {z : Pz} {r : Mth → Ps → Rs Tr} (A : AllW z r) {s : Ps} {w : World} (h : At z s w) (ho : ((scriptL z.T (r .statement) (z.T.length + 1) [] s).bind fun l s1 => mkP 1 (here z.T s) ⟨#[]⟩ 0 l s1) ≠ .out) :
    Calls Tryz.prog 26 #[.pointer (some ⟨z.b, 0, none⟩)] w (Res z w ((scriptL z.T (r .statement) (z.T.length + 1) [] s).bind fun l s1 => mkP 1 (here z.T s) ⟨#[]⟩ 0 l s1)) := by
  have hzb := at_lt h
  have hfd := fld_kind
  generalize hR : ((scriptL z.T (r .statement) (z.T.length + 1) [] s).bind fun l s1 => mkP 1 (here z.T s) ⟨#[]⟩ 0 l s1) = R at ho ⊢
  have HO := Lib.hid ho
  have E := Lib.hid hR.symm
  clear hR ho
  have hc := h
  have G : w.grownBy w (some z.b) := World.grownBy.refl _ _
  generalize hL : scriptL z.T (r .statement) (z.T.length + 1) [] s = RL at E
  have EL := Lib.hid hL
  have HL : Hid (RL ≠ .out) := Lib.hid fun e => HO.out (E.out.trans (Rs.bind_out e _))
  clear hL
  go_enter Tryz.func26, Tryz.ntmps26
  go_wp2_with (go_at_call 47; refine (at_p hc).mono ?_; rintro e wx ⟨rfl, hb⟩; obtain ⟨hc, gx⟩ := at_below hc hb; have G := G.trans gx)
  go_loopw [4] (fun v wr => ∃ (n : Nat) (l : List Tr) (s1 : Ps), Hid (LI z w.heap.size v l wr ∧ At z s1 wr ∧ w.grownBy wr (some z.b) ∧ scriptL z.T (r .statement) n l s1 = RL ∧ l.length ≤ s1.next)) (fun _ wr => z.T.length - nextIn z wr)
  case atStart => exact ⟨_, [], s, Lib.hid ⟨li_nil hzb G.size, hc, G, EL.out, Nat.zero_le _⟩⟩
  case round =>
    clear EL hc G
    obtain ⟨n, l, s1, H⟩ := hrel
    obtain ⟨L1, a1, g2, e1, hle⟩ := H.out
    clear H
    have a0 := a1
    cases n with
    | zero => exact absurd e1.symm HL.out
    | succ n =>
      obtain ⟨A1, cap, rfl⟩ := li_shape L1
      unfold scriptL at e1
      by_cases hs : (tok z.T s1).kind = 0
      · have hq : (((tok z.T s1).kind : Int) != 0) = false := by rw [hs]; rfl
        have E1 := Lib.hid (e1.symm.trans (if_pos hs))
        have E2 := Lib.hid (E.out.trans (Rs.bind_ok E1.out _))
        clear e1 E1 E
        have ht := token_p a1
        generalize tok z.T s1 = t at hq hs ht
        go_wp2_with (first
          | (go_at_call 48; refine ht.mono ?_; rintro e wx ⟨rfl, hb⟩; obtain ⟨a2, g3⟩ := at_below a1 hb; have L2 := li_on L1 g3)
          | (go_at_call 50; refine (part_list a2 1 _ ⟨#[]⟩ L2 (by simp)).mono ?_; rintro e wy ⟨xv, rfl, px, a3, g4⟩))
        go_ret
        exact res_ok E2.out px a3 ((g2.trans g3).trans g4)
      · have hq : (((tok z.T s1).kind : Int) != 0) = true := by rw [bne_iff_ne]; omega
        have E1 := Lib.hid ((if_neg hs).symm.trans e1)
        clear e1
        have ht := token_p a1
        generalize tok z.T s1 = t at hq hs ht
        go_wp2_with (go_at_call 48; refine ht.mono ?_; rintro e wx ⟨rfl, hb⟩)
        clear ht hq hs
        obtain ⟨a1, gb⟩ := at_below a1 hb
        have L1 := li_on L1 gb
        have g2 := g2.trans gb
        have hno : r .statement s1 ≠ .out := fun e => HL.out (E1.out.symm.trans (Rs.bind_out e _))
        go_at_call 49
        refine (A.statement a1 hno).mono ?_
        rintro e wx hr
        cases hf : r .statement s1 with
        | out => exact absurd hf hno
        | bad p q =>
          rw [hf] at hr
          obtain ⟨rfl, g3⟩ := hr
          exact ⟨rfl, res_bad (E.out.trans (Rs.bind_bad (E1.out.symm.trans (Rs.bind_bad hf _)) _)) (g2.trans g3)⟩
        | ok t s2 =>
          rw [hf] at hr
          obtain ⟨u, rfl, p2, a2, g3⟩ := hr
          obtain ⟨gu, rfl⟩ := part_ptr p2
          have E2 := Lib.hid ((Rs.bind_ok hf _).symm.trans E1.out)
          have hprog := A.prog .statement s1 t s2 trivial a1.lt hf
          have hown := li_lt L1
          have L2 := li_on L1 g3
          have hf2 := a1.few
          have hlt1 := a1.lt
          clear E1 hf
          go_wp2_with (at_builtin; refine li_app rfl _ _ rfl L2 p2 (fun j hj => (hown j hj).2) g2.size rfl (by simp [Act.eval]) (by omega) ?_; intro v' w3 L3 g4)
          have a3 := at_own h a2 g4 (fun j hj => (hown j hj).1) (g2.trans g3).size
          have g14 := grown_own (g2.trans g3) g4 (fun j hj => (hown j hj).1)
          go_roundw
          case rel => exact ⟨n, l ++ [t], s2, Lib.hid ⟨L3, a3, g14, E2.out, by rw [List.length_append]; show l.length + 1 ≤ s2.next; omega⟩⟩
          case measure => rw [next_at a3, next_at a0]; have := a2.lt; omega

end Go.Proofs.YtablckajobefeaaGreatDoor.S
