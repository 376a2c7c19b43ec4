/-
  The writer's guarded: walks. Generated: gen_writ.py.
-/
import Derived.Test.YtablckajobefeaaGreatDoorPN28
namespace Go.Proofs.YtablckajobefeaaGreatDoor.S
open Go.RowKit Fl

set_option maxHeartbeats 8000000 in
set_option maxRecDepth 100000 in
theorem ww_guarded3 {z : Wz} {r : Wm → Tr → Wr → WR} (A : AllWr z r) {x : Tr} {s0 : Wr} {n h0 : Nat} {w : World} {K : Option Addr} {ck : Nat} (hx : SubT z.N n x) (hrow : RowT x = true) (hK0 : KidsI w (fun k => k < z.b) K ck (intsI (KidsT (n + 1) x.kids))) (H0 : WA z s0 h0 w) (ho : wstep r .guarded x s0 ≠ .out) (hlen : x.kids.length = 3) : Calls Tryz.prog 82 #[.pointer (some ⟨z.b, 0, none⟩), nodeV x K ck] w (WRes z h0 w (wstep r .guarded x s0)) := by
  have _ := A
  have _ := And.intro hx hrow
  generalize hR : wstep r .guarded x s0 = R at ho ⊢
  have HO := Lib.hid ho
  dsimp only [wstep] at hR
  rw [show x.kids.length - 1 = 2 by omega, hlen] at hR
  have E := Lib.hid hR.symm
  clear hR ho
  have hst := store_f
  have HLA := Lib.hid hlen
  have hi0 : 0 < x.kids.length := by omega
  have hi1 : 1 < x.kids.length := by omega
  have hi2 : 2 < x.kids.length := by omega
  clear hlen
  obtain ⟨ka, rfl⟩ := kids_addr hK0 (by assumption)
  have S := Lib.hid (st_begin (ck := ck) (n := n) (x := x) H0 (.inl rfl) (Fr.refl _ _ _) hK0)
  clear H0 hK0
  unfold nodeV
  go_enter Tryz.func82, Tryz.ntmps82
  go_upto_region 1 with (fail)
  generalize w.alloc (.cells #[.int .u8 (x.kind : Int), .int .i64 x.pos, .string x.text, .float .f64 x.num, .slice (some ka) x.kids.length ck] 44) = W at S ⊢
  obtain ⟨d0, d1, d2, d3, d4⟩ := nc5 S.out.blk
  have hnl := lt_of_blk S.out.blk
  rw [HLA.out] at d4
  go_wp2_with (fail)
  go_at_call 73
  refine (say_one S.out.H (⟨#[116, 114, 121]⟩ : ByteArray) 9).mono ?_
  rintro e w1 hr
  cases hm : saysW [(⟨#[116, 114, 121]⟩ : ByteArray)] s0 with
  | out => exact absurd hm (says_out _ _)
  | bad u => rw [hm] at hr; obtain ⟨rfl, g⟩ := hr; exact ⟨rfl, wres_bad (E.out.trans (WR.b1_bad hm _)) (st_bad S.out g)⟩
  | ok s1 =>
    rw [hm] at hr
    obtain ⟨rfl, h1, H, e1, g⟩ := hr
    have E := Lib.hid (E.out.trans (WR.b1_ok hm _))
    have S := Lib.hid (st_next S.out H e1 g)
    clear H e1 g hm
    obtain ⟨d0, d1, d2, d3, d4⟩ := nc5 S.out.blk
    have hnl := lt_of_blk S.out.blk
    obtain ⟨hal, kc0, hxk0⟩ := st_kid S.out hx (i := 0) (by first | assumption | omega)
    replace kc0 : w1.cell? ka = some (.int .i64 (kidNo n x 0 : Nat)) := kc0
    rw [HLA.out] at d4
    go_wp2_with (fail)
    have hno := Lib.hid (show r .block (x.kid 0) s1 ≠ .out from fun e => HO.out (E.out.trans (WR.b1_out e _)))
    go_at_call 72
    refine (A.block (x.kid 0) s1 _ _ _ hxk0 (rowT_kid hrow (by first | assumption | omega)) S.out.H hno.out).mono ?_
    rintro e w2 hr
    cases hm : r .block (x.kid 0) s1 with
    | out => exact absurd hm hno.out
    | bad u => rw [hm] at hr; obtain ⟨rfl, g⟩ := hr; exact ⟨rfl, wres_bad (E.out.trans (WR.b1_bad hm _)) (st_bad S.out g)⟩
    | ok s2 =>
      rw [hm] at hr
      obtain ⟨rfl, h2, H, e1, g⟩ := hr
      have E := Lib.hid (E.out.trans (WR.b1_ok hm _))
      have S := Lib.hid (st_next S.out H e1 g)
      clear H e1 g hm
      have E := Lib.hid (E.out.trans (WR.if_t (by first | exact .inl rfl | exact .inl trivial)))
      obtain ⟨d0, d1, d2, d3, d4⟩ := nc5 S.out.blk
      have hnl := lt_of_blk S.out.blk
      obtain ⟨hal, kc1, hxk1⟩ := st_kid S.out hx (i := 1) (by first | assumption | omega)
      replace kc1 : w2.cell? ⟨ka.block, ka.off + 1, none⟩ = some (.int .i64 (kidNo n x 1 : Nat)) := kc1
      obtain ⟨hal, kc2, hxk2⟩ := st_kid S.out hx (i := 2) (by first | assumption | omega)
      replace kc2 : w2.cell? ⟨ka.block, ka.off + 2, none⟩ = some (.int .i64 (kidNo n x 2 : Nat)) := kc2
      rw [HLA.out] at d4
      have hy1 := hxk1
      have hy2 := hxk2
      go_wp2_with (fail)
      go_at_call 110
      refine (kid_w (wa_up S.out.H (zero_alloc _ _)) hxk1 w2.heap.size 1 [17] (rowk_one w2 17 _) (by decide)).mono ?_
      rintro e w3 ⟨g1, k1, k2⟩
      have g0 := after_alloc g1
      by_cases hmk : (x.kid 1).kind ∈ ([17] : List Nat)
      rotate_left
      · rw [k2 hmk]; exact ⟨rfl, wres_bad (E.out.trans (WR.if_f (by simpa using hmk))) (st_bad S.out (Fr.below g0))⟩
      obtain ⟨K2, ck2, rfl, hK2⟩ := k1 hmk
      replace hK2 := kidsi_up (ok' := fun k => k < z.b) hK2 g1.size fun k hk hlt => ⟨hk, g1.block k hlt⟩
      have hpos2 : 0 < (x.kid 1).kids.length := kids_pos17 (rowT_kid hrow hi1) (by simpa using hmk)
      obtain ⟨ka2, rfl⟩ := kids_addr hK2 hpos2
      have E := Lib.hid (E.out.trans (WR.if_t (by simpa using hmk)))
      have S := Lib.hid (st_up S.out g0)
      have T := Lib.hid (st_begin (x := x.kid 1) (n := kidNo n x 1) (ck := ck2) (w1 := w3) S.out.H S.out.e S.out.G hK2)
      have S := Lib.hid (st_up S.out (zero_alloc w3 (.cells #[.int .u8 ((x.kid 1).kind : Int), .int .i64 (x.kid 1).pos, .string (x.kid 1).text, .float .f64 (x.kid 1).num, .slice (some ka2) (x.kid 1).kids.length ck2] 44)))
      have HM := Lib.hid hmk
      unfold nodeV
      clear g0 g1 k1 k2 hmk hK2
      go_upto_region 6 with (fail)
      generalize w3.alloc (.cells #[.int .u8 ((x.kid 1).kind : Int), .int .i64 (x.kid 1).pos, .string (x.kid 1).text, .float .f64 (x.kid 1).num, .slice (some ka2) (x.kid 1).kids.length ck2] 44) = W3 at S T ⊢
      obtain ⟨d0, d1, d2, d3, d4⟩ := nc5 S.out.blk
      have hnl := lt_of_blk S.out.blk
      rw [HLA.out] at d4
      obtain ⟨b0, b1, b2, b3, b4⟩ := nc5 T.out.blk
      have hnl2 := lt_of_blk T.out.blk
      go_wp2_with (fail)
      go_at_call 73
      refine (say_two S.out.H (⟨#[99, 97, 116, 99, 104]⟩ : ByteArray) (⟨#[40]⟩ : ByteArray) 9).mono ?_
      rintro e w4 hr
      cases hm : saysW [(⟨#[99, 97, 116, 99, 104]⟩ : ByteArray), (⟨#[40]⟩ : ByteArray)] s2 with
      | out => exact absurd hm (says_out _ _)
      | bad u => rw [hm] at hr; obtain ⟨rfl, g⟩ := hr; exact ⟨rfl, wres_bad (E.out.trans (WR.b2_bad hm _ _)) (st_bad S.out g)⟩
      | ok s4 =>
        rw [hm] at hr
        obtain ⟨rfl, h4, H, e1, g⟩ := hr
        have E := Lib.hid (E.out.trans (WR.b2_ok hm _ _))
        have T := Lib.hid (st_next T.out H e1 g)
        have S := Lib.hid (st_next S.out H e1 g)
        clear H e1 g hm
        obtain ⟨d0, d1, d2, d3, d4⟩ := nc5 S.out.blk
        have hnl := lt_of_blk S.out.blk
        rw [HLA.out] at d4
        obtain ⟨b0, b1, b2, b3, b4⟩ := nc5 T.out.blk
        have hnl2 := lt_of_blk T.out.blk
        go_wp2_with (fail)
        go_at_call 75
        refine (name_w S.out.H (x.kid 1).text).mono ?_
        rintro e w5 hr
        cases hm : nameW (x.kid 1).text s4 with
        | out => exact absurd hm (name_out _ _)
        | bad u => rw [hm] at hr; obtain ⟨rfl, g⟩ := hr; exact ⟨rfl, wres_bad (E.out.trans (WR.b2_bad hm _ _)) (st_bad S.out g)⟩
        | ok s5 =>
          rw [hm] at hr
          obtain ⟨rfl, h5, H, e1, g⟩ := hr
          have E := Lib.hid (E.out.trans (WR.b2_ok hm _ _))
          have T := Lib.hid (st_next T.out H e1 g)
          have S := Lib.hid (st_next S.out H e1 g)
          clear H e1 g hm
          obtain ⟨d0, d1, d2, d3, d4⟩ := nc5 S.out.blk
          have hnl := lt_of_blk S.out.blk
          rw [HLA.out] at d4
          obtain ⟨b0, b1, b2, b3, b4⟩ := nc5 T.out.blk
          have hnl2 := lt_of_blk T.out.blk
          go_wp2_with (fail)
          go_at_call 73
          refine (say_one S.out.H (⟨#[41]⟩ : ByteArray) 9).mono ?_
          rintro e w6 hr
          cases hm : saysW [(⟨#[41]⟩ : ByteArray)] s5 with
          | out => exact absurd hm (says_out _ _)
          | bad u => rw [hm] at hr; obtain ⟨rfl, g⟩ := hr; exact ⟨rfl, wres_bad (E.out.trans (WR.b2_bad hm _ _)) (st_bad S.out g)⟩
          | ok s6 =>
            rw [hm] at hr
            obtain ⟨rfl, h6, H, e1, g⟩ := hr
            have E := Lib.hid (E.out.trans (WR.b2_ok hm _ _))
            have T := Lib.hid (st_next T.out H e1 g)
            have S := Lib.hid (st_next S.out H e1 g)
            clear H e1 g hm
            obtain ⟨d0, d1, d2, d3, d4⟩ := nc5 S.out.blk
            have hnl := lt_of_blk S.out.blk
            obtain ⟨hal, kc2, hxk2⟩ := st_kid S.out hx (i := 2) (by first | assumption | omega)
            replace kc2 : w6.cell? ⟨ka.block, ka.off + 2, none⟩ = some (.int .i64 (kidNo n x 2 : Nat)) := kc2
            rw [HLA.out] at d4
            obtain ⟨b0, b1, b2, b3, b4⟩ := nc5 T.out.blk
            have hnl2 := lt_of_blk T.out.blk
            obtain ⟨hal2, kd0, hyk0⟩ := st_kid T.out hy1 (i := 0) hpos2
            replace kd0 : w6.cell? ka2 = some (.int .i64 (kidNo (kidNo n x 1) (x.kid 1) 0 : Nat)) := kd0
            go_wp2_with (fail)
            have hno := Lib.hid (show r .block ((x.kid 1).kid 0) s6 ≠ .out from fun e => HO.out (E.out.trans (WR.b1_out e _)))
            go_at_call 72
            refine (A.block ((x.kid 1).kid 0) s6 _ _ _ hyk0 (rowT_kid (rowT_kid hrow hi1) hpos2) S.out.H hno.out).mono ?_
            rintro e w7 hr
            cases hm : r .block ((x.kid 1).kid 0) s6 with
            | out => exact absurd hm hno.out
            | bad u => rw [hm] at hr; obtain ⟨rfl, g⟩ := hr; exact ⟨rfl, wres_bad (E.out.trans (WR.b1_bad hm _)) (st_bad S.out g)⟩
            | ok s7 =>
              rw [hm] at hr
              obtain ⟨rfl, h7, H, e1, g⟩ := hr
              have E := Lib.hid (E.out.trans (WR.b1_ok hm _))
              have T := Lib.hid (st_next T.out H e1 g)
              have S := Lib.hid (st_next S.out H e1 g)
              clear H e1 g hm
              have E := Lib.hid (E.out.trans (if_pos (by first | exact .inl rfl | exact .inl trivial)))
              obtain ⟨d0, d1, d2, d3, d4⟩ := nc5 S.out.blk
              have hnl := lt_of_blk S.out.blk
              obtain ⟨hal, kc2, hxk2⟩ := st_kid S.out hx (i := 2) (by first | assumption | omega)
              replace kc2 : w7.cell? ⟨ka.block, ka.off + 2, none⟩ = some (.int .i64 (kidNo n x 2 : Nat)) := kc2
              rw [HLA.out] at d4
              go_wp2_with (fail)
              go_at_call 110
              refine (kid_w (wa_up S.out.H (zero_alloc _ _)) hxk2 w7.heap.size 1 [18] (rowk_one w7 18 _) (by decide)).mono ?_
              rintro e w8 ⟨g1, k1, k2⟩
              have g0 := after_alloc g1
              by_cases hmk : (x.kid 2).kind ∈ ([18] : List Nat)
              rotate_left
              · rw [k2 hmk]; exact ⟨rfl, wres_bad (E.out.trans (if_neg (by simpa using hmk))) (st_bad S.out (Fr.below g0))⟩
              obtain ⟨K2, ck2, rfl, hK2⟩ := k1 hmk
              replace hK2 := kidsi_up (ok' := fun k => k < z.b) hK2 g1.size fun k hk hlt => ⟨hk, g1.block k hlt⟩
              have hpos2 : 0 < (x.kid 2).kids.length := kids_pos18 (rowT_kid hrow hi2) (by simpa using hmk)
              obtain ⟨ka2, rfl⟩ := kids_addr hK2 hpos2
              have E := Lib.hid (E.out.trans (if_pos (by simpa using hmk)))
              have S := Lib.hid (st_up S.out g0)
              have T := Lib.hid (st_begin (x := x.kid 2) (n := kidNo n x 2) (ck := ck2) (w1 := w8) S.out.H S.out.e S.out.G hK2)
              have S := Lib.hid (st_up S.out (zero_alloc w8 (.cells #[.int .u8 ((x.kid 2).kind : Int), .int .i64 (x.kid 2).pos, .string (x.kid 2).text, .float .f64 (x.kid 2).num, .slice (some ka2) (x.kid 2).kids.length ck2] 44)))
              have HM := Lib.hid hmk
              unfold nodeV
              clear g0 g1 k1 k2 hmk hK2
              go_upto_region 12 with (fail)
              generalize w8.alloc (.cells #[.int .u8 ((x.kid 2).kind : Int), .int .i64 (x.kid 2).pos, .string (x.kid 2).text, .float .f64 (x.kid 2).num, .slice (some ka2) (x.kid 2).kids.length ck2] 44) = W8 at S T ⊢
              obtain ⟨d0, d1, d2, d3, d4⟩ := nc5 S.out.blk
              have hnl := lt_of_blk S.out.blk
              rw [HLA.out] at d4
              obtain ⟨b0, b1, b2, b3, b4⟩ := nc5 T.out.blk
              have hnl2 := lt_of_blk T.out.blk
              go_wp2_with (fail)
              go_at_call 73
              refine (say_one S.out.H (⟨#[102, 105, 110, 97, 108, 108, 121]⟩ : ByteArray) 9).mono ?_
              rintro e w9 hr
              cases hm : saysW [(⟨#[102, 105, 110, 97, 108, 108, 121]⟩ : ByteArray)] s7 with
              | out => exact absurd hm (says_out _ _)
              | bad u => rw [hm] at hr; obtain ⟨rfl, g⟩ := hr; exact ⟨rfl, wres_bad (E.out.trans (WR.b1_bad hm _)) (st_bad S.out g)⟩
              | ok s9 =>
                rw [hm] at hr
                obtain ⟨rfl, h9, H, e1, g⟩ := hr
                have E := Lib.hid (E.out.trans (WR.b1_ok hm _))
                have T := Lib.hid (st_next T.out H e1 g)
                have S := Lib.hid (st_next S.out H e1 g)
                clear H e1 g hm
                obtain ⟨d0, d1, d2, d3, d4⟩ := nc5 S.out.blk
                have hnl := lt_of_blk S.out.blk
                rw [HLA.out] at d4
                obtain ⟨b0, b1, b2, b3, b4⟩ := nc5 T.out.blk
                have hnl2 := lt_of_blk T.out.blk
                obtain ⟨hal2, kd0, hyk0⟩ := st_kid T.out hy2 (i := 0) hpos2
                replace kd0 : w9.cell? ka2 = some (.int .i64 (kidNo (kidNo n x 2) (x.kid 2) 0 : Nat)) := kd0
                go_wp2_with (fail)
                have hno := Lib.hid (show r .block ((x.kid 2).kid 0) s9 ≠ .out from fun e => HO.out (E.out.trans e))
                go_at_call 72
                refine (A.block ((x.kid 2).kid 0) s9 _ _ _ hyk0 (rowT_kid (rowT_kid hrow hi2) hpos2) S.out.H hno.out).mono ?_
                rintro e w10 hr
                cases hm : r .block ((x.kid 2).kid 0) s9 with
                | out => exact absurd hm hno.out
                | bad u => rw [hm] at hr; obtain ⟨rfl, g⟩ := hr; exact ⟨rfl, wres_bad (E.out.trans hm) (st_bad S.out g)⟩
                | ok s10 =>
                  rw [hm] at hr
                  obtain ⟨rfl, h10, H, e1, g⟩ := hr
                  have E := Lib.hid (E.out.trans hm)
                  have T := Lib.hid (st_next T.out H e1 g)
                  have S := Lib.hid (st_next S.out H e1 g)
                  clear H e1 g hm
                  go_wp2_with (fail)
                  go_end0
                  exact st_fin S.out E.out
set_option maxHeartbeats 8000000 in
set_option maxRecDepth 100000 in
theorem ww_guarded2c {z : Wz} {r : Wm → Tr → Wr → WR} (A : AllWr z r) {x : Tr} {s0 : Wr} {n h0 : Nat} {w : World} {K : Option Addr} {ck : Nat} (hx : SubT z.N n x) (hrow : RowT x = true) (hK0 : KidsI w (fun k => k < z.b) K ck (intsI (KidsT (n + 1) x.kids))) (H0 : WA z s0 h0 w) (ho : wstep r .guarded x s0 ≠ .out) (hlen : x.kids.length = 2) (hc : (x.kid 1).kind = 17) : Calls Tryz.prog 82 #[.pointer (some ⟨z.b, 0, none⟩), nodeV x K ck] w (WRes z h0 w (wstep r .guarded x s0)) := by
  have _ := A
  have _ := And.intro hx hrow
  generalize hR : wstep r .guarded x s0 = R at ho ⊢
  have HO := Lib.hid ho
  dsimp only [wstep] at hR
  rw [show x.kids.length - 1 = 1 by omega, hlen] at hR
  have E := Lib.hid hR.symm
  clear hR ho
  have hst := store_f
  have HLA := Lib.hid hlen
  have hi0 : 0 < x.kids.length := by omega
  have hi1 : 1 < x.kids.length := by omega
  clear hlen
  have HC := Lib.hid hc
  clear hc
  obtain ⟨ka, rfl⟩ := kids_addr hK0 (by assumption)
  have S := Lib.hid (st_begin (ck := ck) (n := n) (x := x) H0 (.inl rfl) (Fr.refl _ _ _) hK0)
  clear H0 hK0
  unfold nodeV
  go_enter Tryz.func82, Tryz.ntmps82
  go_upto_region 1 with (fail)
  generalize w.alloc (.cells #[.int .u8 (x.kind : Int), .int .i64 x.pos, .string x.text, .float .f64 x.num, .slice (some ka) x.kids.length ck] 44) = W at S ⊢
  obtain ⟨d0, d1, d2, d3, d4⟩ := nc5 S.out.blk
  have hnl := lt_of_blk S.out.blk
  rw [HLA.out] at d4
  go_wp2_with (fail)
  go_at_call 73
  refine (say_one S.out.H (⟨#[116, 114, 121]⟩ : ByteArray) 9).mono ?_
  rintro e w1 hr
  cases hm : saysW [(⟨#[116, 114, 121]⟩ : ByteArray)] s0 with
  | out => exact absurd hm (says_out _ _)
  | bad u => rw [hm] at hr; obtain ⟨rfl, g⟩ := hr; exact ⟨rfl, wres_bad (E.out.trans (WR.b1_bad hm _)) (st_bad S.out g)⟩
  | ok s1 =>
    rw [hm] at hr
    obtain ⟨rfl, h1, H, e1, g⟩ := hr
    have E := Lib.hid (E.out.trans (WR.b1_ok hm _))
    have S := Lib.hid (st_next S.out H e1 g)
    clear H e1 g hm
    obtain ⟨d0, d1, d2, d3, d4⟩ := nc5 S.out.blk
    have hnl := lt_of_blk S.out.blk
    obtain ⟨hal, kc0, hxk0⟩ := st_kid S.out hx (i := 0) (by first | assumption | omega)
    replace kc0 : w1.cell? ka = some (.int .i64 (kidNo n x 0 : Nat)) := kc0
    rw [HLA.out] at d4
    go_wp2_with (fail)
    have hno := Lib.hid (show r .block (x.kid 0) s1 ≠ .out from fun e => HO.out (E.out.trans (WR.b1_out e _)))
    go_at_call 72
    refine (A.block (x.kid 0) s1 _ _ _ hxk0 (rowT_kid hrow (by first | assumption | omega)) S.out.H hno.out).mono ?_
    rintro e w2 hr
    cases hm : r .block (x.kid 0) s1 with
    | out => exact absurd hm hno.out
    | bad u => rw [hm] at hr; obtain ⟨rfl, g⟩ := hr; exact ⟨rfl, wres_bad (E.out.trans (WR.b1_bad hm _)) (st_bad S.out g)⟩
    | ok s2 =>
      rw [hm] at hr
      obtain ⟨rfl, h2, H, e1, g⟩ := hr
      have E := Lib.hid (E.out.trans (WR.b1_ok hm _))
      have S := Lib.hid (st_next S.out H e1 g)
      clear H e1 g hm
      have E := Lib.hid (E.out.trans (WR.if_t (.inr HC.out)))
      obtain ⟨d0, d1, d2, d3, d4⟩ := nc5 S.out.blk
      have hnl := lt_of_blk S.out.blk
      obtain ⟨hal, kc1, hxk1⟩ := st_kid S.out hx (i := 1) (by first | assumption | omega)
      replace kc1 : w2.cell? ⟨ka.block, ka.off + 1, none⟩ = some (.int .i64 (kidNo n x 1 : Nat)) := kc1
      rw [HLA.out] at d4
      obtain ⟨na, nK, nck, hna, hnal, hnn, a0, _⟩ := node_at S.out.H hxk1
      obtain ⟨nv, hnb, _, _⟩ := S.out.H.blk
      have c0 : w2.cell? ⟨z.b, 0, none⟩ = some (.slice z.A z.N.length z.cap) := blk_cell hnb 0
      rw [hna] at c0
      have hn1 : ((kidNo n x 1 : Nat) : Int) < (z.N.length : Int) := by omega
      clear hnb hna
      rw [HC.out] at a0
      have hy1 := hxk1
      go_wp2_with (fail)
      go_at_call 110
      refine (kid_w (wa_up S.out.H (zero_alloc _ _)) hxk1 w2.heap.size 1 [17] (rowk_one w2 17 _) (by decide)).mono ?_
      rintro e w3 ⟨g1, k1, k2⟩
      have g0 := after_alloc g1
      by_cases hmk : (x.kid 1).kind ∈ ([17] : List Nat)
      rotate_left
      · exact absurd (by simpa using HC.out) hmk
      obtain ⟨K2, ck2, rfl, hK2⟩ := k1 hmk
      replace hK2 := kidsi_up (ok' := fun k => k < z.b) hK2 g1.size fun k hk hlt => ⟨hk, g1.block k hlt⟩
      have hpos2 : 0 < (x.kid 1).kids.length := kids_pos17 (rowT_kid hrow hi1) (by simpa using hmk)
      obtain ⟨ka2, rfl⟩ := kids_addr hK2 hpos2
      have E := Lib.hid (E.out.trans (WR.if_t (by simpa using hmk)))
      have S := Lib.hid (st_up S.out g0)
      have T := Lib.hid (st_begin (x := x.kid 1) (n := kidNo n x 1) (ck := ck2) (w1 := w3) S.out.H S.out.e S.out.G hK2)
      have S := Lib.hid (st_up S.out (zero_alloc w3 (.cells #[.int .u8 ((x.kid 1).kind : Int), .int .i64 (x.kid 1).pos, .string (x.kid 1).text, .float .f64 (x.kid 1).num, .slice (some ka2) (x.kid 1).kids.length ck2] 44)))
      have HM := Lib.hid hmk
      unfold nodeV
      clear g0 g1 k1 k2 hmk hK2
      go_upto_region 6 with (fail)
      generalize w3.alloc (.cells #[.int .u8 ((x.kid 1).kind : Int), .int .i64 (x.kid 1).pos, .string (x.kid 1).text, .float .f64 (x.kid 1).num, .slice (some ka2) (x.kid 1).kids.length ck2] 44) = W3 at S T ⊢
      obtain ⟨d0, d1, d2, d3, d4⟩ := nc5 S.out.blk
      have hnl := lt_of_blk S.out.blk
      rw [HLA.out] at d4
      obtain ⟨b0, b1, b2, b3, b4⟩ := nc5 T.out.blk
      have hnl2 := lt_of_blk T.out.blk
      go_wp2_with (fail)
      go_at_call 73
      refine (say_two S.out.H (⟨#[99, 97, 116, 99, 104]⟩ : ByteArray) (⟨#[40]⟩ : ByteArray) 9).mono ?_
      rintro e w4 hr
      cases hm : saysW [(⟨#[99, 97, 116, 99, 104]⟩ : ByteArray), (⟨#[40]⟩ : ByteArray)] s2 with
      | out => exact absurd hm (says_out _ _)
      | bad u => rw [hm] at hr; obtain ⟨rfl, g⟩ := hr; exact ⟨rfl, wres_bad (E.out.trans (WR.b2_bad hm _ _)) (st_bad S.out g)⟩
      | ok s4 =>
        rw [hm] at hr
        obtain ⟨rfl, h4, H, e1, g⟩ := hr
        have E := Lib.hid (E.out.trans (WR.b2_ok hm _ _))
        have T := Lib.hid (st_next T.out H e1 g)
        have S := Lib.hid (st_next S.out H e1 g)
        clear H e1 g hm
        obtain ⟨d0, d1, d2, d3, d4⟩ := nc5 S.out.blk
        have hnl := lt_of_blk S.out.blk
        rw [HLA.out] at d4
        obtain ⟨b0, b1, b2, b3, b4⟩ := nc5 T.out.blk
        have hnl2 := lt_of_blk T.out.blk
        go_wp2_with (fail)
        go_at_call 75
        refine (name_w S.out.H (x.kid 1).text).mono ?_
        rintro e w5 hr
        cases hm : nameW (x.kid 1).text s4 with
        | out => exact absurd hm (name_out _ _)
        | bad u => rw [hm] at hr; obtain ⟨rfl, g⟩ := hr; exact ⟨rfl, wres_bad (E.out.trans (WR.b2_bad hm _ _)) (st_bad S.out g)⟩
        | ok s5 =>
          rw [hm] at hr
          obtain ⟨rfl, h5, H, e1, g⟩ := hr
          have E := Lib.hid (E.out.trans (WR.b2_ok hm _ _))
          have T := Lib.hid (st_next T.out H e1 g)
          have S := Lib.hid (st_next S.out H e1 g)
          clear H e1 g hm
          obtain ⟨d0, d1, d2, d3, d4⟩ := nc5 S.out.blk
          have hnl := lt_of_blk S.out.blk
          rw [HLA.out] at d4
          obtain ⟨b0, b1, b2, b3, b4⟩ := nc5 T.out.blk
          have hnl2 := lt_of_blk T.out.blk
          go_wp2_with (fail)
          go_at_call 73
          refine (say_one S.out.H (⟨#[41]⟩ : ByteArray) 9).mono ?_
          rintro e w6 hr
          cases hm : saysW [(⟨#[41]⟩ : ByteArray)] s5 with
          | out => exact absurd hm (says_out _ _)
          | bad u => rw [hm] at hr; obtain ⟨rfl, g⟩ := hr; exact ⟨rfl, wres_bad (E.out.trans (WR.b2_bad hm _ _)) (st_bad S.out g)⟩
          | ok s6 =>
            rw [hm] at hr
            obtain ⟨rfl, h6, H, e1, g⟩ := hr
            have E := Lib.hid (E.out.trans (WR.b2_ok hm _ _))
            have T := Lib.hid (st_next T.out H e1 g)
            have S := Lib.hid (st_next S.out H e1 g)
            clear H e1 g hm
            obtain ⟨d0, d1, d2, d3, d4⟩ := nc5 S.out.blk
            have hnl := lt_of_blk S.out.blk
            obtain ⟨hal, kc1, hxk1⟩ := st_kid S.out hx (i := 1) (by first | assumption | omega)
            replace kc1 : w6.cell? ⟨ka.block, ka.off + 1, none⟩ = some (.int .i64 (kidNo n x 1 : Nat)) := kc1
            rw [HLA.out] at d4
            obtain ⟨b0, b1, b2, b3, b4⟩ := nc5 T.out.blk
            have hnl2 := lt_of_blk T.out.blk
            obtain ⟨hal2, kd0, hyk0⟩ := st_kid T.out hy1 (i := 0) hpos2
            replace kd0 : w6.cell? ka2 = some (.int .i64 (kidNo (kidNo n x 1) (x.kid 1) 0 : Nat)) := kd0
            go_wp2_with (fail)
            have hno := Lib.hid (show r .block ((x.kid 1).kid 0) s6 ≠ .out from fun e => HO.out (E.out.trans (WR.b1_out e _)))
            go_at_call 72
            refine (A.block ((x.kid 1).kid 0) s6 _ _ _ hyk0 (rowT_kid (rowT_kid hrow hi1) hpos2) S.out.H hno.out).mono ?_
            rintro e w7 hr
            cases hm : r .block ((x.kid 1).kid 0) s6 with
            | out => exact absurd hm hno.out
            | bad u => rw [hm] at hr; obtain ⟨rfl, g⟩ := hr; exact ⟨rfl, wres_bad (E.out.trans (WR.b1_bad hm _)) (st_bad S.out g)⟩
            | ok s7 =>
              rw [hm] at hr
              obtain ⟨rfl, h7, H, e1, g⟩ := hr
              have E := Lib.hid (E.out.trans (WR.b1_ok hm _))
              have T := Lib.hid (st_next T.out H e1 g)
              have S := Lib.hid (st_next S.out H e1 g)
              clear H e1 g hm
              have E := Lib.hid (E.out.trans (if_neg (fun h => by rcases h with h | h; exact absurd h (by decide); exact h HC.out)))
              obtain ⟨d0, d1, d2, d3, d4⟩ := nc5 S.out.blk
              have hnl := lt_of_blk S.out.blk
              obtain ⟨hal, kc1, hxk1⟩ := st_kid S.out hx (i := 1) (by first | assumption | omega)
              replace kc1 : w7.cell? ⟨ka.block, ka.off + 1, none⟩ = some (.int .i64 (kidNo n x 1 : Nat)) := kc1
              rw [HLA.out] at d4
              obtain ⟨na, nK, nck, hna, hnal, hnn, a0, _⟩ := node_at S.out.H hxk1
              obtain ⟨nv, hnb, _, _⟩ := S.out.H.blk
              have c0 : w7.cell? ⟨z.b, 0, none⟩ = some (.slice z.A z.N.length z.cap) := blk_cell hnb 0
              rw [hna] at c0
              have hn1 : ((kidNo n x 1 : Nat) : Int) < (z.N.length : Int) := by omega
              clear hnb hna
              rw [HC.out] at a0
              go_wp2_with (fail)
              go_end0
              exact st_fin S.out E.out
set_option maxHeartbeats 8000000 in
set_option maxRecDepth 100000 in
theorem ww_guarded2f {z : Wz} {r : Wm → Tr → Wr → WR} (A : AllWr z r) {x : Tr} {s0 : Wr} {n h0 : Nat} {w : World} {K : Option Addr} {ck : Nat} (hx : SubT z.N n x) (hrow : RowT x = true) (hK0 : KidsI w (fun k => k < z.b) K ck (intsI (KidsT (n + 1) x.kids))) (H0 : WA z s0 h0 w) (ho : wstep r .guarded x s0 ≠ .out) (hlen : x.kids.length = 2) (hc : (x.kid 1).kind ≠ 17) : Calls Tryz.prog 82 #[.pointer (some ⟨z.b, 0, none⟩), nodeV x K ck] w (WRes z h0 w (wstep r .guarded x s0)) := by
  have _ := A
  have _ := And.intro hx hrow
  generalize hR : wstep r .guarded x s0 = R at ho ⊢
  have HO := Lib.hid ho
  dsimp only [wstep] at hR
  rw [show x.kids.length - 1 = 1 by omega, hlen] at hR
  have E := Lib.hid hR.symm
  clear hR ho
  have hst := store_f
  have HLA := Lib.hid hlen
  have hi0 : 0 < x.kids.length := by omega
  have hi1 : 1 < x.kids.length := by omega
  clear hlen
  have HC := Lib.hid hc
  have hcz : (((x.kid 1).kind : Int) == 17) = false := by rw [beq_eq_false_iff_ne]; omega
  clear hc
  obtain ⟨ka, rfl⟩ := kids_addr hK0 (by assumption)
  have S := Lib.hid (st_begin (ck := ck) (n := n) (x := x) H0 (.inl rfl) (Fr.refl _ _ _) hK0)
  clear H0 hK0
  unfold nodeV
  go_enter Tryz.func82, Tryz.ntmps82
  go_upto_region 1 with (fail)
  generalize w.alloc (.cells #[.int .u8 (x.kind : Int), .int .i64 x.pos, .string x.text, .float .f64 x.num, .slice (some ka) x.kids.length ck] 44) = W at S ⊢
  obtain ⟨d0, d1, d2, d3, d4⟩ := nc5 S.out.blk
  have hnl := lt_of_blk S.out.blk
  rw [HLA.out] at d4
  go_wp2_with (fail)
  go_at_call 73
  refine (say_one S.out.H (⟨#[116, 114, 121]⟩ : ByteArray) 9).mono ?_
  rintro e w1 hr
  cases hm : saysW [(⟨#[116, 114, 121]⟩ : ByteArray)] s0 with
  | out => exact absurd hm (says_out _ _)
  | bad u => rw [hm] at hr; obtain ⟨rfl, g⟩ := hr; exact ⟨rfl, wres_bad (E.out.trans (WR.b1_bad hm _)) (st_bad S.out g)⟩
  | ok s1 =>
    rw [hm] at hr
    obtain ⟨rfl, h1, H, e1, g⟩ := hr
    have E := Lib.hid (E.out.trans (WR.b1_ok hm _))
    have S := Lib.hid (st_next S.out H e1 g)
    clear H e1 g hm
    obtain ⟨d0, d1, d2, d3, d4⟩ := nc5 S.out.blk
    have hnl := lt_of_blk S.out.blk
    obtain ⟨hal, kc0, hxk0⟩ := st_kid S.out hx (i := 0) (by first | assumption | omega)
    replace kc0 : w1.cell? ka = some (.int .i64 (kidNo n x 0 : Nat)) := kc0
    rw [HLA.out] at d4
    go_wp2_with (fail)
    have hno := Lib.hid (show r .block (x.kid 0) s1 ≠ .out from fun e => HO.out (E.out.trans (WR.b1_out e _)))
    go_at_call 72
    refine (A.block (x.kid 0) s1 _ _ _ hxk0 (rowT_kid hrow (by first | assumption | omega)) S.out.H hno.out).mono ?_
    rintro e w2 hr
    cases hm : r .block (x.kid 0) s1 with
    | out => exact absurd hm hno.out
    | bad u => rw [hm] at hr; obtain ⟨rfl, g⟩ := hr; exact ⟨rfl, wres_bad (E.out.trans (WR.b1_bad hm _)) (st_bad S.out g)⟩
    | ok s2 =>
      rw [hm] at hr
      obtain ⟨rfl, h2, H, e1, g⟩ := hr
      have E := Lib.hid (E.out.trans (WR.b1_ok hm _))
      have S := Lib.hid (st_next S.out H e1 g)
      clear H e1 g hm
      have E := Lib.hid (E.out.trans (WR.if_f (fun h => by rcases h with h | h; exact absurd h (by decide); exact HC.out h)))
      have E := Lib.hid (E.out.trans (if_pos (.inr HC.out)))
      obtain ⟨d0, d1, d2, d3, d4⟩ := nc5 S.out.blk
      have hnl := lt_of_blk S.out.blk
      obtain ⟨hal, kc1, hxk1⟩ := st_kid S.out hx (i := 1) (by first | assumption | omega)
      replace kc1 : w2.cell? ⟨ka.block, ka.off + 1, none⟩ = some (.int .i64 (kidNo n x 1 : Nat)) := kc1
      rw [HLA.out] at d4
      obtain ⟨na, nK, nck, hna, hnal, hnn, a0, _⟩ := node_at S.out.H hxk1
      obtain ⟨nv, hnb, _, _⟩ := S.out.H.blk
      have c0 : w2.cell? ⟨z.b, 0, none⟩ = some (.slice z.A z.N.length z.cap) := blk_cell hnb 0
      rw [hna] at c0
      have hn1 : ((kidNo n x 1 : Nat) : Int) < (z.N.length : Int) := by omega
      clear hnb hna
      have hy1 := hxk1
      go_wp2_with (fail)
      go_at_call 110
      refine (kid_w (wa_up S.out.H (zero_alloc _ _)) hxk1 w2.heap.size 1 [18] (rowk_one w2 18 _) (by decide)).mono ?_
      rintro e w3 ⟨g1, k1, k2⟩
      have g0 := after_alloc g1
      by_cases hmk : (x.kid 1).kind ∈ ([18] : List Nat)
      rotate_left
      · rw [k2 hmk]; exact ⟨rfl, wres_bad (E.out.trans (if_neg (by simpa using hmk))) (st_bad S.out (Fr.below g0))⟩
      obtain ⟨K2, ck2, rfl, hK2⟩ := k1 hmk
      replace hK2 := kidsi_up (ok' := fun k => k < z.b) hK2 g1.size fun k hk hlt => ⟨hk, g1.block k hlt⟩
      have hpos2 : 0 < (x.kid 1).kids.length := kids_pos18 (rowT_kid hrow hi1) (by simpa using hmk)
      obtain ⟨ka2, rfl⟩ := kids_addr hK2 hpos2
      have E := Lib.hid (E.out.trans (if_pos (by simpa using hmk)))
      have S := Lib.hid (st_up S.out g0)
      have T := Lib.hid (st_begin (x := x.kid 1) (n := kidNo n x 1) (ck := ck2) (w1 := w3) S.out.H S.out.e S.out.G hK2)
      have S := Lib.hid (st_up S.out (zero_alloc w3 (.cells #[.int .u8 ((x.kid 1).kind : Int), .int .i64 (x.kid 1).pos, .string (x.kid 1).text, .float .f64 (x.kid 1).num, .slice (some ka2) (x.kid 1).kids.length ck2] 44)))
      have HM := Lib.hid hmk
      unfold nodeV
      clear g0 g1 k1 k2 hmk hK2
      go_upto_region 12 with (fail)
      generalize w3.alloc (.cells #[.int .u8 ((x.kid 1).kind : Int), .int .i64 (x.kid 1).pos, .string (x.kid 1).text, .float .f64 (x.kid 1).num, .slice (some ka2) (x.kid 1).kids.length ck2] 44) = W3 at S T ⊢
      obtain ⟨d0, d1, d2, d3, d4⟩ := nc5 S.out.blk
      have hnl := lt_of_blk S.out.blk
      rw [HLA.out] at d4
      obtain ⟨b0, b1, b2, b3, b4⟩ := nc5 T.out.blk
      have hnl2 := lt_of_blk T.out.blk
      go_wp2_with (fail)
      go_at_call 73
      refine (say_one S.out.H (⟨#[102, 105, 110, 97, 108, 108, 121]⟩ : ByteArray) 9).mono ?_
      rintro e w4 hr
      cases hm : saysW [(⟨#[102, 105, 110, 97, 108, 108, 121]⟩ : ByteArray)] s2 with
      | out => exact absurd hm (says_out _ _)
      | bad u => rw [hm] at hr; obtain ⟨rfl, g⟩ := hr; exact ⟨rfl, wres_bad (E.out.trans (WR.b1_bad hm _)) (st_bad S.out g)⟩
      | ok s4 =>
        rw [hm] at hr
        obtain ⟨rfl, h4, H, e1, g⟩ := hr
        have E := Lib.hid (E.out.trans (WR.b1_ok hm _))
        have T := Lib.hid (st_next T.out H e1 g)
        have S := Lib.hid (st_next S.out H e1 g)
        clear H e1 g hm
        obtain ⟨d0, d1, d2, d3, d4⟩ := nc5 S.out.blk
        have hnl := lt_of_blk S.out.blk
        rw [HLA.out] at d4
        obtain ⟨b0, b1, b2, b3, b4⟩ := nc5 T.out.blk
        have hnl2 := lt_of_blk T.out.blk
        obtain ⟨hal2, kd0, hyk0⟩ := st_kid T.out hy1 (i := 0) hpos2
        replace kd0 : w4.cell? ka2 = some (.int .i64 (kidNo (kidNo n x 1) (x.kid 1) 0 : Nat)) := kd0
        go_wp2_with (fail)
        have hno := Lib.hid (show r .block ((x.kid 1).kid 0) s4 ≠ .out from fun e => HO.out (E.out.trans e))
        go_at_call 72
        refine (A.block ((x.kid 1).kid 0) s4 _ _ _ hyk0 (rowT_kid (rowT_kid hrow hi1) hpos2) S.out.H hno.out).mono ?_
        rintro e w5 hr
        cases hm : r .block ((x.kid 1).kid 0) s4 with
        | out => exact absurd hm hno.out
        | bad u => rw [hm] at hr; obtain ⟨rfl, g⟩ := hr; exact ⟨rfl, wres_bad (E.out.trans hm) (st_bad S.out g)⟩
        | ok s5 =>
          rw [hm] at hr
          obtain ⟨rfl, h5, H, e1, g⟩ := hr
          have E := Lib.hid (E.out.trans hm)
          have T := Lib.hid (st_next T.out H e1 g)
          have S := Lib.hid (st_next S.out H e1 g)
          clear H e1 g hm
          go_wp2_with (fail)
          go_end0
          exact st_fin S.out E.out
theorem ww_guarded {z : Wz} {r : Wm → Tr → Wr → WR} (A : AllWr z r) : ByNodeP (isKind 16) z 82 (wstep r .guarded) := by
  intro x s n h w K ck hP hx hrow hK H ho
  have hk : x.kind = 16 := hP
  have h1 := (rowT_kids hrow).1
  rw [hk] at h1
  have h2 : (decide (2 ≤ x.kids.length) && decide (x.kids.length ≤ 3)) = true := h1
  rw [Bool.and_eq_true] at h2
  have h3 := of_decide_eq_true h2.1
  have h4 := of_decide_eq_true h2.2
  rcases (show x.kids.length = 2 ∨ x.kids.length = 3 by omega) with a | a
  · by_cases hc : (x.kid 1).kind = 17
    · exact ww_guarded2c A hx hrow hK H ho a hc
    · exact ww_guarded2f A hx hrow hK H ho a hc
  · exact ww_guarded3 A hx hrow hK H ho a
end Go.Proofs.YtablckajobefeaaGreatDoor.S
