/-
  Walks of the parser's methods, from what each does in turn. Generated: gen_step.py.
-/
import Derived.Test.YtablckajobefeaaGreatDoorPN13
import Derived.Deep.RegionWith
import Derived.Orders
namespace Go.Proofs.YtablckajobefeaaGreatDoor.S
open Go.RowKit Fl

/-- a panic inside a region that draws its order: what the tactic asks to be left is left empty -/
theorem fake_way {X : Prop} (P : Program) (w : World) (hx : X) (_ : wpAny P .any #[] (fun _ _ _ => True) 0 #[] ⟨#[], []⟩ w) : X := hx

set_option maxHeartbeats 4000000 in
set_option maxRecDepth 100000 in
theorem w_head {z : Pz} {r : Mth → Ps → Rs Tr} (A : AllW z r) {s : Ps} {w : World} (h : At z s w) (ho : step z.T r .head s ≠ .out) :
    Calls Tryz.prog 191 #[.pointer (some ⟨z.b, 0, none⟩)] w (Res z w (step z.T r .head s)) := by
  have hzb := at_lt h
  have hmf : ∀ (fn : Fn) (first cap : Array Value) (w : World), (Instr.makeFunc fn first cap).run Tryz.prog w = .ok (.func fn first cap) w := fun _ _ _ _ => rfl
  generalize hR : step z.T r .head s = R at ho ⊢
  have HO := Lib.hid ho
  dsimp only [step] at hR
  have E := Lib.hid hR.symm
  clear hR ho
  have hc := h
  have G : w.grownBy w (some z.b) := World.grownBy.refl _ _
  cases hs : (sd z.T s == (⟨#[110, 101, 119]⟩ : ByteArray)) with
  | true =>
    have E := Lib.hid (E.out.trans (if_pos hs))
    have hbx : BoxAt z (w.alloc (.cells #[.pointer (some ⟨z.b, 0, none⟩)] 62)) w.heap.size := ⟨blk_cell (heap_alloc_new w _) 0, by omega⟩
    have hc := at_alloc h (.cells #[.pointer (some ⟨z.b, 0, none⟩)] 62)
    have G := G.trans (World.grownBy_alloc w (.cells #[.pointer (some ⟨z.b, 0, none⟩)] 62) (some z.b))
    have bx := hbx.1
    go_enter Tryz.func191, Tryz.ntmps191
    go_wp2_with (first
      | (go_at_call 135; refine (is_yes hc hs).mono ?_; rintro e wx ⟨rfl, hb⟩; obtain ⟨hc, gx⟩ := at_below hc hb; have G := G.trans gx; have hbx := box_on hbx gx; have bx := hbx.1)
      | (go_at_call 47; refine (at_p hc).mono ?_; rintro e wx ⟨rfl, hb⟩; obtain ⟨hc, gx⟩ := at_below hc hb; have G := G.trans gx; have hbx := box_on hbx gx; have bx := hbx.1))
    have hno1 : deeperR z.T (r .newIn) s ≠ .out := fun e => HO.out (E.out.trans (Rs.bind_out e _))
    go_at_call 68
    refine (deeper_new (fun _ _ h1 hb _ _ hn => A.newIn h1 hb hn) hc hbx hno1).mono ?_
    rintro e wx hr
    cases hm1 : deeperR z.T (r .newIn) s with
    | out => exact absurd hm1 hno1
    | bad p q => rw [hm1] at hr; obtain ⟨rfl, gx⟩ := hr; exact ⟨rfl, res_bad (E.out.trans (Rs.bind_bad hm1 _)) (G.trans gx)⟩
    | ok t1 s1 =>
      rw [hm1] at hr
      obtain ⟨v1, rfl, p1, hc, gx⟩ := hr
      have p1 := part_low p1 G.size
      obtain ⟨gv1, rfl⟩ := part_ptr p1
      have G := G.trans gx; have hbx := box_on hbx gx; have bx := hbx.1
      have E := Lib.hid (E.out.trans (Rs.bind_ok hm1 _))
      have hno2 : argsR z.T r t1 s1 ≠ .out := fun e => HO.out (E.out.trans (Rs.bind_out e _))
      go_wp2_with (fail)
      have hc := at_drew hc
      have p1 := part_drew p1
      have G := grown_drew G
      have hbx := box_drew hbx
      have bx := hbx.1
      cases hm2 : argsR z.T r t1 s1 with
      | out => exact absurd hm2 hno2
      | bad p q =>
        have E := Lib.hid (E.out.trans (Rs.bind_bad hm2 _))
        go_region_with (first | (go_at_call 193; refine (w_args A hc p1 G.size hzb hno2).mono ?_; rintro e wx hr; rw [hm2] at hr; obtain ⟨rfl, gx⟩ := hr; refine fake_way Tryz.prog w ?_ ?_; exact ⟨rfl, res_bad E.out (G.trans gx)⟩) | fail)
        all_goals trivial
      | ok l s2 =>
        have E := Lib.hid (E.out.trans (Rs.bind_ok hm2 _))
        go_region_with (first | (go_at_call 193; refine (w_args A hc p1 G.size hzb hno2).mono ?_; rintro e wx hr; rw [hm2] at hr; obtain ⟨u, rfl, lz, hc, gx⟩ := hr; obtain ⟨Az, capz, rfl⟩ := li_shape lz; have G := G.trans gx; have hbx := box_on hbx gx; have bx := hbx.1) | (go_at_call 50; refine (part_list hc 37 _ ⟨#[]⟩ lz (by simp)).mono ?_; rintro e wx ⟨xv, rfl, pz, hc, gx⟩; have G := G.trans gx))
        all_goals (go_wp2_with (fail); go_ret; exact res_ok E.out pz hc G)
  | false =>
    have E := Lib.hid (E.out.trans (if_neg (by rw [hs]; decide)))
    have hbx : BoxAt z (w.alloc (.cells #[.pointer (some ⟨z.b, 0, none⟩)] 62)) w.heap.size := ⟨blk_cell (heap_alloc_new w _) 0, by omega⟩
    have hc := at_alloc h (.cells #[.pointer (some ⟨z.b, 0, none⟩)] 62)
    have G := G.trans (World.grownBy_alloc w (.cells #[.pointer (some ⟨z.b, 0, none⟩)] 62) (some z.b))
    have bx := hbx.1
    go_enter Tryz.func191, Tryz.ntmps191
    go_wp2_with (go_at_call 135; (with_reducible refine (is_no hc hs).mono ?_); rintro e wx ⟨rfl, hb⟩; obtain ⟨hc, gx⟩ := at_below hc hb; have G := G.trans gx; have hbx := box_on hbx gx; have bx := hbx.1)
    have hno1 : r .primary s ≠ .out := fun e => HO.out (E.out.trans e)
    go_at_call 194
    refine (A.primary hc hno1).mono ?_
    rintro e wx hr
    cases hm1 : r .primary s with
    | out => exact absurd hm1 hno1
    | bad p q => rw [hm1] at hr; obtain ⟨rfl, gx⟩ := hr; exact ⟨rfl, res_bad (E.out.trans hm1) (G.trans gx)⟩
    | ok t1 s1 =>
      rw [hm1] at hr
      obtain ⟨v1, rfl, p1, hc, gx⟩ := hr
      have p1 := part_low p1 G.size
      obtain ⟨gv1, rfl⟩ := part_ptr p1
      have G := G.trans gx; have hbx := box_on hbx gx; have bx := hbx.1
      have E := Lib.hid (E.out.trans hm1)
      go_wp2_with (fail)
      go_ret
      exact res_ok E.out p1 hc G
end Go.Proofs.YtablckajobefeaaGreatDoor.S
