/-
  Walks of the parser's methods, from what each does in turn. Generated: gen_step.py.
-/
import Derived.Test.YtablckajobefeaaGreatDoorPN14
namespace Go.Proofs.YtablckajobefeaaGreatDoor.S
open Go.RowKit Fl

set_option maxHeartbeats 4000000 in
set_option maxRecDepth 100000 in
theorem w_primary {z : Pz} {r : Mth → Ps → Rs Tr} (A : AllW z r) {s : Ps} {w : World} (h : At z s w) (ho : step z.T r .primary s ≠ .out) :
    Calls Tryz.prog 194 #[.pointer (some ⟨z.b, 0, none⟩)] w (Res z w (step z.T r .primary s)) := by
  have hzb := at_lt h
  have hmf : ∀ (fn : Fn) (first cap : Array Value) (w : World), (Instr.makeFunc fn first cap).run Tryz.prog w = .ok (.func fn first cap) w := fun _ _ _ _ => rfl
  generalize hR : step z.T r .primary s = R at ho ⊢
  have HO := Lib.hid ho
  dsimp only [step] at hR
  have E := Lib.hid hR.symm
  clear hR ho
  have hc := h
  have G : w.grownBy w (some z.b) := World.grownBy.refl _ _
  have hst := store_f
  by_cases hk3 : (tok z.T s).kind = 3
  · have E := Lib.hid (E.out.trans (if_pos hk3))
    have t3 : (((tok z.T s).kind : Int) == 3) = true := by rw [beq_iff_eq]; omega
    have hn := tok_end hc.may hc.lt (show (tok z.T s).kind ≠ 0 by omega)
    clear hk3
    go_enter Tryz.func194, Tryz.ntmps194
    go_wp2_with (go_at_call 48; refine (token_p hc).mono ?_; rintro e wx ⟨rfl, hb⟩; obtain ⟨hc, gx⟩ := at_below hc hb; have G := G.trans gx)
    have hzx := at_lt hc
    have hc := at_alloc hc (.cells #[.int .u8 ((tok z.T s).kind : Int), .int .i64 (tok z.T s).pos, .string (tok z.T s).text, .float .f64 (tok z.T s).num] 52)
    have G := G.trans (World.grownBy_alloc wx (.cells #[.int .u8 ((tok z.T s).kind : Int), .int .i64 (tok z.T s).pos, .string (tok z.T s).text, .float .f64 (tok z.T s).num] 52) (some z.b))
    have hno1 : numR z.T s ≠ .out := fun e => HO.out (E.out.trans e)
    go_at_call 196
    refine (number_p hc hn).mono ?_
    rintro e wx hr
    cases hm1 : numR z.T s with
    | out => exact absurd hm1 hno1
    | bad p q => rw [hm1] at hr; obtain ⟨rfl, gx⟩ := hr; exact ⟨rfl, res_bad (E.out.trans hm1) (G.trans gx)⟩
    | ok t1 s1 =>
      rw [hm1] at hr
      obtain ⟨v1, rfl, p1, hc, gx⟩ := hr
      have p1 := part_low p1 G.size
      obtain ⟨gv1, rfl⟩ := part_ptr p1
      have G := G.trans gx
      have E := Lib.hid (E.out.trans hm1)
      go_wp2_with (fail)
      go_ret
      exact res_ok E.out p1 hc G
  · have E := Lib.hid (E.out.trans (if_neg hk3))
    by_cases hk4 : (tok z.T s).kind = 4
    · have E := Lib.hid (E.out.trans (if_pos hk4))
      have t3 : (((tok z.T s).kind : Int) == 3) = false := by rw [beq_eq_false_iff_ne]; omega
      have t4 : (((tok z.T s).kind : Int) == 4) = true := by rw [beq_iff_eq]; omega
      have hn := tok_end hc.may hc.lt (show (tok z.T s).kind ≠ 0 by omega)
      clear hk3 hk4
      go_enter Tryz.func194, Tryz.ntmps194
      go_wp2_with (go_at_call 48; refine (token_p hc).mono ?_; rintro e wx ⟨rfl, hb⟩; obtain ⟨hc, gx⟩ := at_below hc hb; have G := G.trans gx)
      have hzx := at_lt hc
      have hc := at_alloc hc (.cells #[.int .u8 ((tok z.T s).kind : Int), .int .i64 (tok z.T s).pos, .string (tok z.T s).text, .float .f64 (tok z.T s).num] 52)
      have G := G.trans (World.grownBy_alloc wx (.cells #[.int .u8 ((tok z.T s).kind : Int), .int .i64 (tok z.T s).pos, .string (tok z.T s).text, .float .f64 (tok z.T s).num] 52) (some z.b))
      have bt0 : ((wx.alloc (.cells #[.int .u8 ((tok z.T s).kind : Int), .int .i64 (tok z.T s).pos, .string (tok z.T s).text, .float .f64 (tok z.T s).num] 52))).drew.cell? ⟨wx.heap.size, 1, none⟩ = some (.int .i64 (tok z.T s).pos) := blk_cell (heap_alloc_new wx _) 1
      have hc := at_drew hc
      have G := grown_drew G
      have hne : some wx.heap.size ≠ some z.b := fun e => by have := Option.some.inj e; omega
      go_region_with (first
        | (go_at_call 132; refine (text_p hc hn).mono ?_; rintro e wy ⟨rfl, hc, gy⟩; have G := G.trans gy; have bt1 := gy.cell bt0 hne)
        | (go_at_call 50; refine (part_none hc 21 _ _ G.size hzb).mono ?_; rintro e wy ⟨xv, rfl, pz, hc, gy⟩; have G := G.trans gy))
      all_goals (go_wp2_with (fail); go_ret; exact res_ok E.out pz hc G)
    · have E := Lib.hid (E.out.trans (if_neg hk4))
      by_cases hk1 : (tok z.T s).kind = 1
      · have E := Lib.hid (E.out.trans (if_pos hk1))
        have t3 : (((tok z.T s).kind : Int) == 3) = false := by rw [beq_eq_false_iff_ne]; omega
        have t4 : (((tok z.T s).kind : Int) == 4) = false := by rw [beq_eq_false_iff_ne]; omega
        have t1 : (((tok z.T s).kind : Int) == 1) = true := by rw [beq_iff_eq]; omega
        have hn := tok_end hc.may hc.lt (show (tok z.T s).kind ≠ 0 by omega)
        clear hk3 hk4 hk1
        go_enter Tryz.func194, Tryz.ntmps194
        go_wp2_with (go_at_call 48; refine (token_p hc).mono ?_; rintro e wx ⟨rfl, hb⟩; obtain ⟨hc, gx⟩ := at_below hc hb; have G := G.trans gx)
        have hzx := at_lt hc
        have hc := at_alloc hc (.cells #[.int .u8 ((tok z.T s).kind : Int), .int .i64 (tok z.T s).pos, .string (tok z.T s).text, .float .f64 (tok z.T s).num] 52)
        have G := G.trans (World.grownBy_alloc wx (.cells #[.int .u8 ((tok z.T s).kind : Int), .int .i64 (tok z.T s).pos, .string (tok z.T s).text, .float .f64 (tok z.T s).num] 52) (some z.b))
        have bt0 : ((wx.alloc (.cells #[.int .u8 ((tok z.T s).kind : Int), .int .i64 (tok z.T s).pos, .string (tok z.T s).text, .float .f64 (tok z.T s).num] 52))).drew.cell? ⟨wx.heap.size, 1, none⟩ = some (.int .i64 (tok z.T s).pos) := blk_cell (heap_alloc_new wx _) 1
        have hc := at_drew hc
        have G := grown_drew G
        have hne : some wx.heap.size ≠ some z.b := fun e => by have := Option.some.inj e; omega
        go_region_with (first
          | (go_at_call 132; refine (text_p hc hn).mono ?_; rintro e wy ⟨rfl, hc, gy⟩; have G := G.trans gy; have bt1 := gy.cell bt0 hne)
          | (go_at_call 50; refine (part_none hc 26 _ _ G.size hzb).mono ?_; rintro e wy ⟨xv, rfl, pz, hc, gy⟩; have G := G.trans gy))
        all_goals (go_wp2_with (fail); go_ret; exact res_ok E.out pz hc G)
      · have E := Lib.hid (E.out.trans (if_neg hk1))
        have t3 : (((tok z.T s).kind : Int) == 3) = false := by rw [beq_eq_false_iff_ne]; omega
        have t4 : (((tok z.T s).kind : Int) == 4) = false := by rw [beq_eq_false_iff_ne]; omega
        have t1 : (((tok z.T s).kind : Int) == 1) = false := by rw [beq_eq_false_iff_ne]; omega
        clear hk3 hk4 hk1
        cases hp0 : ((tok z.T s).text == (⟨#[116, 114, 117, 101]⟩ : ByteArray)) with
        | true =>
          have E := Lib.hid (E.out.trans (if_pos hp0))
          have hl := str_beq hp0
          have kt : _ := token_p hc
          rw [hl] at kt
          go_enter Tryz.func194, Tryz.ntmps194
          go_wp2_with (go_at_call 48; refine kt.mono ?_; rintro e wx ⟨rfl, hb⟩; obtain ⟨hc, gx⟩ := at_below hc hb; have G := G.trans gx)
          have hzx := at_lt hc
          have hc := at_alloc hc (.cells #[.int .u8 ((tok z.T s).kind : Int), .int .i64 (tok z.T s).pos, .string (⟨#[116, 114, 117, 101]⟩ : ByteArray), .float .f64 (tok z.T s).num] 52)
          have G := G.trans (World.grownBy_alloc wx (.cells #[.int .u8 ((tok z.T s).kind : Int), .int .i64 (tok z.T s).pos, .string (⟨#[116, 114, 117, 101]⟩ : ByteArray), .float .f64 (tok z.T s).num] 52) (some z.b))
          have hno1 : bareR z.T 22 [(⟨#[116, 114, 117, 101]⟩ : ByteArray)] s ≠ .out := fun e => HO.out (E.out.trans e)
          go_at_call 98
          refine (bare_at hc 22 (⟨#[116, 114, 117, 101]⟩ : ByteArray) _ (by decide) (by simp)).mono ?_
          rintro e wx hr
          cases hm1 : bareR z.T 22 [(⟨#[116, 114, 117, 101]⟩ : ByteArray)] s with
          | out => exact absurd hm1 hno1
          | bad p q => rw [hm1] at hr; obtain ⟨rfl, gx⟩ := hr; exact ⟨rfl, res_bad (E.out.trans hm1) (G.trans gx)⟩
          | ok t1 s1 =>
            rw [hm1] at hr
            obtain ⟨v1, rfl, p1, hc, gx⟩ := hr
            have p1 := part_low p1 G.size
            obtain ⟨gv1, rfl⟩ := part_ptr p1
            have G := G.trans gx
            have E := Lib.hid (E.out.trans hm1)
            go_wp2_with (fail)
            go_ret
            exact res_ok E.out p1 hc G
        | false =>
          have E := Lib.hid (E.out.trans (if_neg (by rw [hp0]; decide)))
          cases hp1 : ((tok z.T s).text == (⟨#[102, 97, 108, 115, 101]⟩ : ByteArray)) with
          | true =>
            have E := Lib.hid (E.out.trans (if_pos hp1))
            have hl := str_beq hp1
            have kt : _ := token_p hc
            rw [hl] at kt
            go_enter Tryz.func194, Tryz.ntmps194
            go_wp2_with (go_at_call 48; refine kt.mono ?_; rintro e wx ⟨rfl, hb⟩; obtain ⟨hc, gx⟩ := at_below hc hb; have G := G.trans gx)
            have hzx := at_lt hc
            have hc := at_alloc hc (.cells #[.int .u8 ((tok z.T s).kind : Int), .int .i64 (tok z.T s).pos, .string (⟨#[102, 97, 108, 115, 101]⟩ : ByteArray), .float .f64 (tok z.T s).num] 52)
            have G := G.trans (World.grownBy_alloc wx (.cells #[.int .u8 ((tok z.T s).kind : Int), .int .i64 (tok z.T s).pos, .string (⟨#[102, 97, 108, 115, 101]⟩ : ByteArray), .float .f64 (tok z.T s).num] 52) (some z.b))
            have hno1 : bareR z.T 23 [(⟨#[102, 97, 108, 115, 101]⟩ : ByteArray)] s ≠ .out := fun e => HO.out (E.out.trans e)
            go_at_call 98
            refine (bare_at hc 23 (⟨#[102, 97, 108, 115, 101]⟩ : ByteArray) _ (by decide) (by simp)).mono ?_
            rintro e wx hr
            cases hm1 : bareR z.T 23 [(⟨#[102, 97, 108, 115, 101]⟩ : ByteArray)] s with
            | out => exact absurd hm1 hno1
            | bad p q => rw [hm1] at hr; obtain ⟨rfl, gx⟩ := hr; exact ⟨rfl, res_bad (E.out.trans hm1) (G.trans gx)⟩
            | ok t1 s1 =>
              rw [hm1] at hr
              obtain ⟨v1, rfl, p1, hc, gx⟩ := hr
              have p1 := part_low p1 G.size
              obtain ⟨gv1, rfl⟩ := part_ptr p1
              have G := G.trans gx
              have E := Lib.hid (E.out.trans hm1)
              go_wp2_with (fail)
              go_ret
              exact res_ok E.out p1 hc G
          | false =>
            have E := Lib.hid (E.out.trans (if_neg (by rw [hp1]; decide)))
            cases hp2 : ((tok z.T s).text == (⟨#[110, 117, 108, 108]⟩ : ByteArray)) with
            | true =>
              have E := Lib.hid (E.out.trans (if_pos hp2))
              have hl := str_beq hp2
              have kt : _ := token_p hc
              rw [hl] at kt
              go_enter Tryz.func194, Tryz.ntmps194
              go_wp2_with (go_at_call 48; refine kt.mono ?_; rintro e wx ⟨rfl, hb⟩; obtain ⟨hc, gx⟩ := at_below hc hb; have G := G.trans gx)
              have hzx := at_lt hc
              have hc := at_alloc hc (.cells #[.int .u8 ((tok z.T s).kind : Int), .int .i64 (tok z.T s).pos, .string (⟨#[110, 117, 108, 108]⟩ : ByteArray), .float .f64 (tok z.T s).num] 52)
              have G := G.trans (World.grownBy_alloc wx (.cells #[.int .u8 ((tok z.T s).kind : Int), .int .i64 (tok z.T s).pos, .string (⟨#[110, 117, 108, 108]⟩ : ByteArray), .float .f64 (tok z.T s).num] 52) (some z.b))
              have hno1 : bareR z.T 24 [(⟨#[110, 117, 108, 108]⟩ : ByteArray)] s ≠ .out := fun e => HO.out (E.out.trans e)
              go_at_call 98
              refine (bare_at hc 24 (⟨#[110, 117, 108, 108]⟩ : ByteArray) _ (by decide) (by simp)).mono ?_
              rintro e wx hr
              cases hm1 : bareR z.T 24 [(⟨#[110, 117, 108, 108]⟩ : ByteArray)] s with
              | out => exact absurd hm1 hno1
              | bad p q => rw [hm1] at hr; obtain ⟨rfl, gx⟩ := hr; exact ⟨rfl, res_bad (E.out.trans hm1) (G.trans gx)⟩
              | ok t1 s1 =>
                rw [hm1] at hr
                obtain ⟨v1, rfl, p1, hc, gx⟩ := hr
                have p1 := part_low p1 G.size
                obtain ⟨gv1, rfl⟩ := part_ptr p1
                have G := G.trans gx
                have E := Lib.hid (E.out.trans hm1)
                go_wp2_with (fail)
                go_ret
                exact res_ok E.out p1 hc G
            | false =>
              have E := Lib.hid (E.out.trans (if_neg (by rw [hp2]; decide)))
              cases hp3 : ((tok z.T s).text == (⟨#[116, 104, 105, 115]⟩ : ByteArray)) with
              | true =>
                have E := Lib.hid (E.out.trans (if_pos hp3))
                have hl := str_beq hp3
                have kt : _ := token_p hc
                rw [hl] at kt
                go_enter Tryz.func194, Tryz.ntmps194
                go_wp2_with (go_at_call 48; refine kt.mono ?_; rintro e wx ⟨rfl, hb⟩; obtain ⟨hc, gx⟩ := at_below hc hb; have G := G.trans gx)
                have hzx := at_lt hc
                have hc := at_alloc hc (.cells #[.int .u8 ((tok z.T s).kind : Int), .int .i64 (tok z.T s).pos, .string (⟨#[116, 104, 105, 115]⟩ : ByteArray), .float .f64 (tok z.T s).num] 52)
                have G := G.trans (World.grownBy_alloc wx (.cells #[.int .u8 ((tok z.T s).kind : Int), .int .i64 (tok z.T s).pos, .string (⟨#[116, 104, 105, 115]⟩ : ByteArray), .float .f64 (tok z.T s).num] 52) (some z.b))
                have hno1 : bareR z.T 25 [(⟨#[116, 104, 105, 115]⟩ : ByteArray)] s ≠ .out := fun e => HO.out (E.out.trans e)
                go_at_call 98
                refine (bare_at hc 25 (⟨#[116, 104, 105, 115]⟩ : ByteArray) _ (by decide) (by simp)).mono ?_
                rintro e wx hr
                cases hm1 : bareR z.T 25 [(⟨#[116, 104, 105, 115]⟩ : ByteArray)] s with
                | out => exact absurd hm1 hno1
                | bad p q => rw [hm1] at hr; obtain ⟨rfl, gx⟩ := hr; exact ⟨rfl, res_bad (E.out.trans hm1) (G.trans gx)⟩
                | ok t1 s1 =>
                  rw [hm1] at hr
                  obtain ⟨v1, rfl, p1, hc, gx⟩ := hr
                  have p1 := part_low p1 G.size
                  obtain ⟨gv1, rfl⟩ := part_ptr p1
                  have G := G.trans gx
                  have E := Lib.hid (E.out.trans hm1)
                  go_wp2_with (fail)
                  go_ret
                  exact res_ok E.out p1 hc G
              | false =>
                have E := Lib.hid (E.out.trans (if_neg (by rw [hp3]; decide)))
                cases hp4 : ((tok z.T s).text == (⟨#[40]⟩ : ByteArray)) with
                | true =>
                  have E := Lib.hid (E.out.trans (if_pos hp4))
                  have hl := str_beq hp4
                  have kt : _ := token_p hc
                  rw [hl] at kt
                  go_enter Tryz.func194, Tryz.ntmps194
                  go_wp2_with (go_at_call 48; refine kt.mono ?_; rintro e wx ⟨rfl, hb⟩; obtain ⟨hc, gx⟩ := at_below hc hb; have G := G.trans gx)
                  have hzx := at_lt hc
                  have hc := at_alloc hc (.cells #[.int .u8 ((tok z.T s).kind : Int), .int .i64 (tok z.T s).pos, .string (⟨#[40]⟩ : ByteArray), .float .f64 (tok z.T s).num] 52)
                  have G := G.trans (World.grownBy_alloc wx (.cells #[.int .u8 ((tok z.T s).kind : Int), .int .i64 (tok z.T s).pos, .string (⟨#[40]⟩ : ByteArray), .float .f64 (tok z.T s).num] 52) (some z.b))
                  have hno1 : r .test s ≠ .out := fun e => HO.out (E.out.trans e)
                  go_at_call 104
                  refine (A.test hc hno1).mono ?_
                  rintro e wx hr
                  cases hm1 : r .test s with
                  | out => exact absurd hm1 hno1
                  | bad p q => rw [hm1] at hr; obtain ⟨rfl, gx⟩ := hr; exact ⟨rfl, res_bad (E.out.trans hm1) (G.trans gx)⟩
                  | ok t1 s1 =>
                    rw [hm1] at hr
                    obtain ⟨v1, rfl, p1, hc, gx⟩ := hr
                    have p1 := part_low p1 G.size
                    obtain ⟨gv1, rfl⟩ := part_ptr p1
                    have G := G.trans gx
                    have E := Lib.hid (E.out.trans hm1)
                    go_wp2_with (fail)
                    go_ret
                    exact res_ok E.out p1 hc G
                | false =>
                  have E := Lib.hid (E.out.trans (if_neg (by rw [hp4]; decide)))
                  cases hp5 : ((tok z.T s).text == (⟨#[102, 117, 110, 99, 116, 105, 111, 110]⟩ : ByteArray)) with
                  | true =>
                    have E := Lib.hid (E.out.trans (if_pos hp5))
                    have hl := str_beq hp5
                    have kt : _ := token_p hc
                    rw [hl] at kt
                    go_enter Tryz.func194, Tryz.ntmps194
                    go_wp2_with (go_at_call 48; refine kt.mono ?_; rintro e wx ⟨rfl, hb⟩; obtain ⟨hc, gx⟩ := at_below hc hb; have G := G.trans gx)
                    have hzx := at_lt hc
                    have hc := at_alloc hc (.cells #[.int .u8 ((tok z.T s).kind : Int), .int .i64 (tok z.T s).pos, .string (⟨#[102, 117, 110, 99, 116, 105, 111, 110]⟩ : ByteArray), .float .f64 (tok z.T s).num] 52)
                    have G := G.trans (World.grownBy_alloc wx (.cells #[.int .u8 ((tok z.T s).kind : Int), .int .i64 (tok z.T s).pos, .string (⟨#[102, 117, 110, 99, 116, 105, 111, 110]⟩ : ByteArray), .float .f64 (tok z.T s).num] 52) (some z.b))
                    have hno1 : r .nested s ≠ .out := fun e => HO.out (E.out.trans e)
                    go_at_call 197
                    refine (A.nested hc hno1).mono ?_
                    rintro e wx hr
                    cases hm1 : r .nested s with
                    | out => exact absurd hm1 hno1
                    | bad p q => rw [hm1] at hr; obtain ⟨rfl, gx⟩ := hr; exact ⟨rfl, res_bad (E.out.trans hm1) (G.trans gx)⟩
                    | ok t1 s1 =>
                      rw [hm1] at hr
                      obtain ⟨v1, rfl, p1, hc, gx⟩ := hr
                      have p1 := part_low p1 G.size
                      obtain ⟨gv1, rfl⟩ := part_ptr p1
                      have G := G.trans gx
                      have E := Lib.hid (E.out.trans hm1)
                      go_wp2_with (fail)
                      go_ret
                      exact res_ok E.out p1 hc G
                  | false =>
                    have E := Lib.hid (E.out.trans (if_neg (by rw [hp5]; decide)))
                    cases hp6 : ((tok z.T s).text == (⟨#[123]⟩ : ByteArray)) with
                    | true =>
                      have E := Lib.hid (E.out.trans (if_pos hp6))
                      have hl := str_beq hp6
                      have kt : _ := token_p hc
                      rw [hl] at kt
                      go_enter Tryz.func194, Tryz.ntmps194
                      go_wp2_with (go_at_call 48; refine kt.mono ?_; rintro e wx ⟨rfl, hb⟩; obtain ⟨hc, gx⟩ := at_below hc hb; have G := G.trans gx)
                      have hzx := at_lt hc
                      have hc := at_alloc hc (.cells #[.int .u8 ((tok z.T s).kind : Int), .int .i64 (tok z.T s).pos, .string (⟨#[123]⟩ : ByteArray), .float .f64 (tok z.T s).num] 52)
                      have G := G.trans (World.grownBy_alloc wx (.cells #[.int .u8 ((tok z.T s).kind : Int), .int .i64 (tok z.T s).pos, .string (⟨#[123]⟩ : ByteArray), .float .f64 (tok z.T s).num] 52) (some z.b))
                      have hne : some wx.heap.size ≠ some z.b := fun e => by have := Option.some.inj e; omega
                      have btx : (wx.alloc (.cells #[.int .u8 ((tok z.T s).kind : Int), .int .i64 (tok z.T s).pos, .string (⟨#[123]⟩ : ByteArray), .float .f64 (tok z.T s).num] 52)).cell? ⟨wx.heap.size, 1, none⟩ = some (.int .i64 (tok z.T s).pos) := blk_cell (heap_alloc_new wx _) 1
                      go_at_call 100
                      refine (take_at hc (⟨#[123]⟩ : ByteArray) _ (by decide) (by simp)).mono ?_
                      rintro e wx hr
                      cases hm1 : take1 z.T (⟨#[123]⟩ : ByteArray) s with
                      | out => rw [hm1] at hr; exact hr.elim
                      | bad p q => rw [hm1] at hr; obtain ⟨rfl, gx⟩ := hr; exact ⟨rfl, res_bad (E.out.trans (Rs.bind_bad hm1 _)) (G.trans gx)⟩
                      | ok u s1 =>
                        rw [hm1] at hr
                        obtain ⟨rfl, hc, gx⟩ := hr
                        have G := G.trans gx; have btx := gx.cell btx hne
                        have E := Lib.hid (E.out.trans (Rs.bind_ok hm1 _))
                        have hno2 : listR z.T (⟨#[125]⟩ : ByteArray) 16384 (r .pair) s1 ≠ .out := fun e => HO.out (E.out.trans (Rs.bind_out e _))
                        go_wp2_with (fail)
                        have hc := at_drew hc
                        have G := grown_drew G
                        have bt1 := btx
                        cases hm2 : listR z.T (⟨#[125]⟩ : ByteArray) 16384 (r .pair) s1 with
                        | out => exact absurd hm2 hno2
                        | bad p q =>
                          have E := Lib.hid (E.out.trans (Rs.bind_bad hm2 _))
                          go_region_with (first | (go_at_call 130; refine (listed_pair (fun _ _ h1 hn => A.pair h1 hn) (fun s t s1 hs h => A.prog .pair s t s1 trivial hs h) hc (⟨#[125]⟩ : ByteArray) (by decide) 16384 (by decide) hno2).mono ?_; rintro e wy hr; rw [hm2] at hr; obtain ⟨rfl, gy⟩ := hr; refine fake_way Tryz.prog w ?_ ?_; exact ⟨rfl, res_bad E.out (G.trans gy)⟩) | fail)
                          all_goals trivial
                        | ok l s2 =>
                          have E := Lib.hid (E.out.trans (Rs.bind_ok hm2 _))
                          go_region_with (first
                            | (go_at_call 130; refine (listed_pair (fun _ _ h1 hn => A.pair h1 hn) (fun s t s1 hs h => A.prog .pair s t s1 trivial hs h) hc (⟨#[125]⟩ : ByteArray) (by decide) 16384 (by decide) hno2).mono ?_; rintro e wy hr; rw [hm2] at hr; obtain ⟨u, rfl, lz, hc, gy⟩ := hr; have lz := li_low lz G.size hzb; obtain ⟨Az, capz, rfl⟩ := li_shape lz; have G := G.trans gy; have bt2 := gy.cell bt1 hne)
                            | (go_at_call 50; refine (part_list hc 28 _ ⟨#[]⟩ lz (by simp)).mono ?_; rintro e wy ⟨xv, rfl, pz, hc, gy⟩; have G := G.trans gy))
                          all_goals (go_wp2_with (fail); go_ret; exact res_ok E.out pz hc G)
                    | false =>
                      have E := Lib.hid (E.out.trans (if_neg (by rw [hp6]; decide)))
                      cases hp7 : ((tok z.T s).text == (⟨#[91]⟩ : ByteArray)) with
                      | true =>
                        have E := Lib.hid (E.out.trans (if_pos hp7))
                        have hl := str_beq hp7
                        have kt : _ := token_p hc
                        rw [hl] at kt
                        go_enter Tryz.func194, Tryz.ntmps194
                        go_wp2_with (go_at_call 48; refine kt.mono ?_; rintro e wx ⟨rfl, hb⟩; obtain ⟨hc, gx⟩ := at_below hc hb; have G := G.trans gx)
                        have hzx := at_lt hc
                        have hc := at_alloc hc (.cells #[.int .u8 ((tok z.T s).kind : Int), .int .i64 (tok z.T s).pos, .string (⟨#[91]⟩ : ByteArray), .float .f64 (tok z.T s).num] 52)
                        have G := G.trans (World.grownBy_alloc wx (.cells #[.int .u8 ((tok z.T s).kind : Int), .int .i64 (tok z.T s).pos, .string (⟨#[91]⟩ : ByteArray), .float .f64 (tok z.T s).num] 52) (some z.b))
                        have hne : some wx.heap.size ≠ some z.b := fun e => by have := Option.some.inj e; omega
                        have btx : (wx.alloc (.cells #[.int .u8 ((tok z.T s).kind : Int), .int .i64 (tok z.T s).pos, .string (⟨#[91]⟩ : ByteArray), .float .f64 (tok z.T s).num] 52)).cell? ⟨wx.heap.size, 1, none⟩ = some (.int .i64 (tok z.T s).pos) := blk_cell (heap_alloc_new wx _) 1
                        go_at_call 100
                        refine (take_at hc (⟨#[91]⟩ : ByteArray) _ (by decide) (by simp)).mono ?_
                        rintro e wx hr
                        cases hm1 : take1 z.T (⟨#[91]⟩ : ByteArray) s with
                        | out => rw [hm1] at hr; exact hr.elim
                        | bad p q => rw [hm1] at hr; obtain ⟨rfl, gx⟩ := hr; exact ⟨rfl, res_bad (E.out.trans (Rs.bind_bad hm1 _)) (G.trans gx)⟩
                        | ok u s1 =>
                          rw [hm1] at hr
                          obtain ⟨rfl, hc, gx⟩ := hr
                          have G := G.trans gx; have btx := gx.cell btx hne
                          have E := Lib.hid (E.out.trans (Rs.bind_ok hm1 _))
                          have hno2 : listR z.T (⟨#[93]⟩ : ByteArray) 16384 (r .assign) s1 ≠ .out := fun e => HO.out (E.out.trans (Rs.bind_out e _))
                          go_wp2_with (fail)
                          have hc := at_drew hc
                          have G := grown_drew G
                          have bt1 := btx
                          cases hm2 : listR z.T (⟨#[93]⟩ : ByteArray) 16384 (r .assign) s1 with
                          | out => exact absurd hm2 hno2
                          | bad p q =>
                            have E := Lib.hid (E.out.trans (Rs.bind_bad hm2 _))
                            go_region_with (first | (go_at_call 130; refine (listed_assign (fun _ _ h1 hn => A.assign h1 hn) (fun s t s1 hs h => A.prog .assign s t s1 trivial hs h) hc (⟨#[93]⟩ : ByteArray) (by decide) 16384 (by decide) hno2).mono ?_; rintro e wy hr; rw [hm2] at hr; obtain ⟨rfl, gy⟩ := hr; refine fake_way Tryz.prog w ?_ ?_; exact ⟨rfl, res_bad E.out (G.trans gy)⟩) | fail)
                            all_goals trivial
                          | ok l s2 =>
                            have E := Lib.hid (E.out.trans (Rs.bind_ok hm2 _))
                            go_region_with (first
                              | (go_at_call 130; refine (listed_assign (fun _ _ h1 hn => A.assign h1 hn) (fun s t s1 hs h => A.prog .assign s t s1 trivial hs h) hc (⟨#[93]⟩ : ByteArray) (by decide) 16384 (by decide) hno2).mono ?_; rintro e wy hr; rw [hm2] at hr; obtain ⟨u, rfl, lz, hc, gy⟩ := hr; have lz := li_low lz G.size hzb; obtain ⟨Az, capz, rfl⟩ := li_shape lz; have G := G.trans gy; have bt2 := gy.cell bt1 hne)
                              | (go_at_call 50; refine (part_list hc 33 _ ⟨#[]⟩ lz (by simp)).mono ?_; rintro e wy ⟨xv, rfl, pz, hc, gy⟩; have G := G.trans gy))
                            all_goals (go_wp2_with (fail); go_ret; exact res_ok E.out pz hc G)
                      | false =>
                        have E := Lib.hid (E.out.trans (if_neg (by rw [hp7]; decide)))
                        have f0 : ((tok z.T s).text.toList == [116, 114, 117, 101]) = false := by rw [← strL]; exact hp0
                        have f1 : ((tok z.T s).text.toList == [102, 97, 108, 115, 101]) = false := by rw [← strL]; exact hp1
                        have f2 : ((tok z.T s).text.toList == [110, 117, 108, 108]) = false := by rw [← strL]; exact hp2
                        have f3 : ((tok z.T s).text.toList == [116, 104, 105, 115]) = false := by rw [← strL]; exact hp3
                        have f4 : ((tok z.T s).text.toList == [40]) = false := by rw [← strL]; exact hp4
                        have f5 : ((tok z.T s).text.toList == [102, 117, 110, 99, 116, 105, 111, 110]) = false := by rw [← strL]; exact hp5
                        have f6 : ((tok z.T s).text.toList == [123]) = false := by rw [← strL]; exact hp6
                        have f7 : ((tok z.T s).text.toList == [91]) = false := by rw [← strL]; exact hp7
                        clear hp0 hp1 hp2 hp3 hp4 hp5 hp6 hp7
                        go_enter Tryz.func194, Tryz.ntmps194
                        go_wp2_with (go_at_call 48; refine (token_p hc).mono ?_; rintro e wx ⟨rfl, hb⟩; obtain ⟨hc, gx⟩ := at_below hc hb; have G := G.trans gx)
                        exact ⟨rfl, res_bad E.out (G.trans (World.grownBy_alloc _ _ _))⟩
end Go.Proofs.YtablckajobefeaaGreatDoor.S
