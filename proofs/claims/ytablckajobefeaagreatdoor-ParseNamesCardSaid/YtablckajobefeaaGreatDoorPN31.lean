/-
  The writer's pair, key, accessor: walks. Generated: gen_writ.py.
-/
import Derived.Test.YtablckajobefeaaGreatDoorPN30
namespace Go.Proofs.YtablckajobefeaaGreatDoor.S
open Go.RowKit Fl

set_option maxHeartbeats 8000000 in
set_option maxRecDepth 100000 in
theorem ww_pair29 {z : Wz} {r : Wm → Tr → Wr → WR} (A : AllWr z r) {x : Tr} {s0 : Wr} {n h0 : Nat} {w : World} (hx : SubT z.N n x) (hrow : RowT x = true) (H0 : WA z s0 h0 w) (ho : wstep r .pair x s0 ≠ .out) (hk : x.kind = 29) : Calls Tryz.prog 156 #[.pointer (some ⟨z.b, 0, none⟩), .int .i64 (n : Int)] w (WRes z h0 w (wstep r .pair x s0)) := by
  have _ := A
  have _ := And.intro hx hrow
  generalize hR : wstep r .pair x s0 = R at ho ⊢
  have HO := Lib.hid ho
  dsimp only [wstep] at hR
  rw [hk] at hR
  rw [if_pos (by decide)] at hR
  have E := Lib.hid hR.symm
  clear hR ho
  have hst := store_f
  have hlen : x.kids.length = 2 := kids_len29 hrow hk
  have HLA := Lib.hid hlen
  have hi0 : 0 < x.kids.length := by omega
  have hi1 : 1 < x.kids.length := by omega
  clear hlen
  have HKD := Lib.hid hk
  clear hk
  go_enter Tryz.func156, Tryz.ntmps156
  go_wp2_with (fail)
  go_at_call 110
  refine (kid_w (wa_up H0 (zero_alloc _ _)) hx w.heap.size 3 [29, 30, 31] (rowk_three w 29 30 31 _) (by decide)).mono ?_
  rintro e w1 ⟨g1, k1, k2⟩
  have g0 := after_alloc g1
  obtain ⟨K, ck, rfl, hK⟩ := k1 (by rw [HKD.out]; decide)
  replace hK := kidsi_up (ok' := fun k => k < z.b) hK g1.size fun k hk hlt => ⟨hk, g1.block k hlt⟩
  obtain ⟨ka, rfl⟩ := kids_addr hK (by assumption)
  have S := Lib.hid (st_begin (ck := ck) (n := n) (x := x) (w1 := w1) (wa_up H0 g0) (.inl rfl) (Fr.below g0) hK)
  unfold nodeV
  clear k1 k2 g1 g0 hK H0
  go_upto_region 1 with (fail)
  generalize w1.alloc (.cells #[.int .u8 (x.kind : Int), .int .i64 x.pos, .string x.text, .float .f64 x.num, .slice (some ka) x.kids.length ck] 44) = W at S ⊢
  obtain ⟨d0, d1, d2, d3, d4⟩ := nc5 S.out.blk
  have hnl := lt_of_blk S.out.blk
  obtain ⟨hal, kc0, hxk0⟩ := st_kid S.out hx (i := 0) (by first | assumption | omega)
  replace kc0 : W.cell? ka = some (.int .i64 (kidNo n x 0 : Nat)) := kc0
  rw [HKD.out] at d0
  rw [HLA.out] at d4
  go_wp2_with (fail)
  have hno := Lib.hid (show r .key (x.kid 0) s0 ≠ .out from fun e => HO.out (E.out.trans (WR.b1_out e _)))
  go_at_call 174
  refine (A.key (x.kid 0) s0 _ _ _ hxk0 (rowT_kid hrow (by first | assumption | omega)) S.out.H hno.out).mono ?_
  rintro e w2 hr
  cases hm : r .key (x.kid 0) s0 with
  | out => exact absurd hm hno.out
  | bad u => rw [hm] at hr; obtain ⟨rfl, g⟩ := hr; exact ⟨rfl, wres_bad (E.out.trans (WR.b1_bad hm _)) (st_bad S.out g)⟩
  | ok s2 =>
    rw [hm] at hr
    obtain ⟨rfl, h2, H, e1, g⟩ := hr
    have E := Lib.hid (E.out.trans (WR.b1_ok hm _))
    have S := Lib.hid (st_next S.out H e1 g)
    clear H e1 g hm
    obtain ⟨d0, d1, d2, d3, d4⟩ := nc5 S.out.blk
    have hnl := lt_of_blk S.out.blk
    rw [HKD.out] at d0
    rw [HLA.out] at d4
    go_wp2_with (fail)
    go_at_call 73
    refine (say_one S.out.H (⟨#[58]⟩ : ByteArray) 9).mono ?_
    rintro e w3 hr
    cases hm : saysW [(⟨#[58]⟩ : ByteArray)] s2 with
    | out => exact absurd hm (says_out _ _)
    | bad u => rw [hm] at hr; obtain ⟨rfl, g⟩ := hr; exact ⟨rfl, wres_bad (E.out.trans (WR.b1_bad hm _)) (st_bad S.out g)⟩
    | ok s3 =>
      rw [hm] at hr
      obtain ⟨rfl, h3, H, e1, g⟩ := hr
      have E := Lib.hid (E.out.trans (WR.b1_ok hm _))
      have S := Lib.hid (st_next S.out H e1 g)
      clear H e1 g hm
      obtain ⟨d0, d1, d2, d3, d4⟩ := nc5 S.out.blk
      have hnl := lt_of_blk S.out.blk
      obtain ⟨hal, kc1, hxk1⟩ := st_kid S.out hx (i := 1) (by first | assumption | omega)
      replace kc1 : w3.cell? ⟨ka.block, ka.off + 1, none⟩ = some (.int .i64 (kidNo n x 1 : Nat)) := kc1
      rw [HKD.out] at d0
      rw [HLA.out] at d4
      go_wp2_with (fail)
      have hno := Lib.hid (show r .value (x.kid 1) s3 ≠ .out from fun e => HO.out (E.out.trans e))
      go_at_call 77
      refine (A.value (x.kid 1) s3 _ _ _ hxk1 (rowT_kid hrow (by first | assumption | omega)) S.out.H hno.out).mono ?_
      rintro e w4 hr
      cases hm : r .value (x.kid 1) s3 with
      | out => exact absurd hm hno.out
      | bad u => rw [hm] at hr; obtain ⟨rfl, g⟩ := hr; exact ⟨rfl, wres_bad (E.out.trans hm) (st_bad S.out g)⟩
      | ok s4 =>
        rw [hm] at hr
        obtain ⟨rfl, h4, H, e1, g⟩ := hr
        have E := Lib.hid (E.out.trans hm)
        have S := Lib.hid (st_next S.out H e1 g)
        clear H e1 g hm
        go_wp2_with (fail)
        go_end0
        exact st_fin S.out E.out
set_option maxHeartbeats 8000000 in
set_option maxRecDepth 100000 in
theorem ww_pair30 {z : Wz} {r : Wm → Tr → Wr → WR} (A : AllWr z r) {x : Tr} {s0 : Wr} {n h0 : Nat} {w : World} (hx : SubT z.N n x) (hrow : RowT x = true) (H0 : WA z s0 h0 w) (ho : wstep r .pair x s0 ≠ .out) (hk : x.kind = 30) : Calls Tryz.prog 156 #[.pointer (some ⟨z.b, 0, none⟩), .int .i64 (n : Int)] w (WRes z h0 w (wstep r .pair x s0)) := by
  have _ := A
  have _ := And.intro hx hrow
  generalize hR : wstep r .pair x s0 = R at ho ⊢
  have HO := Lib.hid ho
  dsimp only [wstep] at hR
  rw [hk] at hR
  rw [if_neg (by decide), if_pos (by decide)] at hR
  have E := Lib.hid hR.symm
  clear hR ho
  have hst := store_f
  have hlen : x.kids.length = 2 := kids_len30 hrow hk
  have HLA := Lib.hid hlen
  have hi0 : 0 < x.kids.length := by omega
  have hi1 : 1 < x.kids.length := by omega
  clear hlen
  have HKD := Lib.hid hk
  clear hk
  go_enter Tryz.func156, Tryz.ntmps156
  go_wp2_with (fail)
  go_at_call 110
  refine (kid_w (wa_up H0 (zero_alloc _ _)) hx w.heap.size 3 [29, 30, 31] (rowk_three w 29 30 31 _) (by decide)).mono ?_
  rintro e w1 ⟨g1, k1, k2⟩
  have g0 := after_alloc g1
  obtain ⟨K, ck, rfl, hK⟩ := k1 (by rw [HKD.out]; decide)
  replace hK := kidsi_up (ok' := fun k => k < z.b) hK g1.size fun k hk hlt => ⟨hk, g1.block k hlt⟩
  obtain ⟨ka, rfl⟩ := kids_addr hK (by assumption)
  have S := Lib.hid (st_begin (ck := ck) (n := n) (x := x) (w1 := w1) (wa_up H0 g0) (.inl rfl) (Fr.below g0) hK)
  unfold nodeV
  clear k1 k2 g1 g0 hK H0
  go_upto_region 1 with (fail)
  generalize w1.alloc (.cells #[.int .u8 (x.kind : Int), .int .i64 x.pos, .string x.text, .float .f64 x.num, .slice (some ka) x.kids.length ck] 44) = W at S ⊢
  obtain ⟨d0, d1, d2, d3, d4⟩ := nc5 S.out.blk
  have hnl := lt_of_blk S.out.blk
  rw [HKD.out] at d0
  rw [HLA.out] at d4
  go_wp2_with (fail)
  go_at_call 75
  refine (name_w S.out.H (⟨#[103, 101, 116]⟩ : ByteArray)).mono ?_
  rintro e w2 hr
  cases hm : nameW (⟨#[103, 101, 116]⟩ : ByteArray) s0 with
  | out => exact absurd hm (name_out _ _)
  | bad u => rw [hm] at hr; obtain ⟨rfl, g⟩ := hr; exact ⟨rfl, wres_bad (E.out.trans (WR.b1_bad hm _)) (st_bad S.out g)⟩
  | ok s2 =>
    rw [hm] at hr
    obtain ⟨rfl, h2, H, e1, g⟩ := hr
    have E := Lib.hid (E.out.trans (WR.b1_ok hm _))
    have S := Lib.hid (st_next S.out H e1 g)
    clear H e1 g hm
    obtain ⟨d0, d1, d2, d3, d4⟩ := nc5 S.out.blk
    have hnl := lt_of_blk S.out.blk
    obtain ⟨hal, kc0, hxk0⟩ := st_kid S.out hx (i := 0) (by first | assumption | omega)
    replace kc0 : w2.cell? ka = some (.int .i64 (kidNo n x 0 : Nat)) := kc0
    rw [HKD.out] at d0
    rw [HLA.out] at d4
    go_wp2_with (fail)
    have hno := Lib.hid (show r .key (x.kid 0) s2 ≠ .out from fun e => HO.out (E.out.trans (WR.b1_out e _)))
    go_at_call 174
    refine (A.key (x.kid 0) s2 _ _ _ hxk0 (rowT_kid hrow (by first | assumption | omega)) S.out.H hno.out).mono ?_
    rintro e w3 hr
    cases hm : r .key (x.kid 0) s2 with
    | out => exact absurd hm hno.out
    | bad u => rw [hm] at hr; obtain ⟨rfl, g⟩ := hr; exact ⟨rfl, wres_bad (E.out.trans (WR.b1_bad hm _)) (st_bad S.out g)⟩
    | ok s3 =>
      rw [hm] at hr
      obtain ⟨rfl, h3, H, e1, g⟩ := hr
      have E := Lib.hid (E.out.trans (WR.b1_ok hm _))
      have S := Lib.hid (st_next S.out H e1 g)
      clear H e1 g hm
      obtain ⟨d0, d1, d2, d3, d4⟩ := nc5 S.out.blk
      have hnl := lt_of_blk S.out.blk
      obtain ⟨hal, kc1, hxk1⟩ := st_kid S.out hx (i := 1) (by first | assumption | omega)
      replace kc1 : w3.cell? ⟨ka.block, ka.off + 1, none⟩ = some (.int .i64 (kidNo n x 1 : Nat)) := kc1
      rw [HKD.out] at d0
      rw [HLA.out] at d4
      go_wp2_with (fail)
      have hno := Lib.hid (show r (.accessor 0) (x.kid 1) s3 ≠ .out from fun e => HO.out (E.out.trans e))
      go_at_call 175
      refine (A.accessor 0 (x.kid 1) s3 _ _ _ (by decide) hxk1 (rowT_kid hrow (by first | assumption | omega)) S.out.H hno.out).mono ?_
      rintro e w4 hr
      try dsimp only at hr
      cases hm : r (.accessor 0) (x.kid 1) s3 with
      | out => exact absurd hm hno.out
      | bad u => rw [hm] at hr; obtain ⟨rfl, g⟩ := hr; exact ⟨rfl, wres_bad (E.out.trans hm) (st_bad S.out g)⟩
      | ok s4 =>
        rw [hm] at hr
        obtain ⟨rfl, h4, H, e1, g⟩ := hr
        have E := Lib.hid (E.out.trans hm)
        have S := Lib.hid (st_next S.out H e1 g)
        clear H e1 g hm
        go_wp2_with (fail)
        go_end0
        exact st_fin S.out E.out
set_option maxHeartbeats 8000000 in
set_option maxRecDepth 100000 in
theorem ww_pair31 {z : Wz} {r : Wm → Tr → Wr → WR} (A : AllWr z r) {x : Tr} {s0 : Wr} {n h0 : Nat} {w : World} (hx : SubT z.N n x) (hrow : RowT x = true) (H0 : WA z s0 h0 w) (ho : wstep r .pair x s0 ≠ .out) (hk : x.kind = 31) : Calls Tryz.prog 156 #[.pointer (some ⟨z.b, 0, none⟩), .int .i64 (n : Int)] w (WRes z h0 w (wstep r .pair x s0)) := by
  have _ := A
  have _ := And.intro hx hrow
  generalize hR : wstep r .pair x s0 = R at ho ⊢
  have HO := Lib.hid ho
  dsimp only [wstep] at hR
  rw [hk] at hR
  rw [if_neg (by decide), if_neg (by decide), if_pos (by decide)] at hR
  have E := Lib.hid hR.symm
  clear hR ho
  have hst := store_f
  have hlen : x.kids.length = 2 := kids_len31 hrow hk
  have HLA := Lib.hid hlen
  have hi0 : 0 < x.kids.length := by omega
  have hi1 : 1 < x.kids.length := by omega
  clear hlen
  have HKD := Lib.hid hk
  clear hk
  go_enter Tryz.func156, Tryz.ntmps156
  go_wp2_with (fail)
  go_at_call 110
  refine (kid_w (wa_up H0 (zero_alloc _ _)) hx w.heap.size 3 [29, 30, 31] (rowk_three w 29 30 31 _) (by decide)).mono ?_
  rintro e w1 ⟨g1, k1, k2⟩
  have g0 := after_alloc g1
  obtain ⟨K, ck, rfl, hK⟩ := k1 (by rw [HKD.out]; decide)
  replace hK := kidsi_up (ok' := fun k => k < z.b) hK g1.size fun k hk hlt => ⟨hk, g1.block k hlt⟩
  obtain ⟨ka, rfl⟩ := kids_addr hK (by assumption)
  have S := Lib.hid (st_begin (ck := ck) (n := n) (x := x) (w1 := w1) (wa_up H0 g0) (.inl rfl) (Fr.below g0) hK)
  unfold nodeV
  clear k1 k2 g1 g0 hK H0
  go_upto_region 1 with (fail)
  generalize w1.alloc (.cells #[.int .u8 (x.kind : Int), .int .i64 x.pos, .string x.text, .float .f64 x.num, .slice (some ka) x.kids.length ck] 44) = W at S ⊢
  obtain ⟨d0, d1, d2, d3, d4⟩ := nc5 S.out.blk
  have hnl := lt_of_blk S.out.blk
  rw [HKD.out] at d0
  rw [HLA.out] at d4
  go_wp2_with (fail)
  go_at_call 75
  refine (name_w S.out.H (⟨#[115, 101, 116]⟩ : ByteArray)).mono ?_
  rintro e w2 hr
  cases hm : nameW (⟨#[115, 101, 116]⟩ : ByteArray) s0 with
  | out => exact absurd hm (name_out _ _)
  | bad u => rw [hm] at hr; obtain ⟨rfl, g⟩ := hr; exact ⟨rfl, wres_bad (E.out.trans (WR.b1_bad hm _)) (st_bad S.out g)⟩
  | ok s2 =>
    rw [hm] at hr
    obtain ⟨rfl, h2, H, e1, g⟩ := hr
    have E := Lib.hid (E.out.trans (WR.b1_ok hm _))
    have S := Lib.hid (st_next S.out H e1 g)
    clear H e1 g hm
    obtain ⟨d0, d1, d2, d3, d4⟩ := nc5 S.out.blk
    have hnl := lt_of_blk S.out.blk
    obtain ⟨hal, kc0, hxk0⟩ := st_kid S.out hx (i := 0) (by first | assumption | omega)
    replace kc0 : w2.cell? ka = some (.int .i64 (kidNo n x 0 : Nat)) := kc0
    rw [HKD.out] at d0
    rw [HLA.out] at d4
    go_wp2_with (fail)
    have hno := Lib.hid (show r .key (x.kid 0) s2 ≠ .out from fun e => HO.out (E.out.trans (WR.b1_out e _)))
    go_at_call 174
    refine (A.key (x.kid 0) s2 _ _ _ hxk0 (rowT_kid hrow (by first | assumption | omega)) S.out.H hno.out).mono ?_
    rintro e w3 hr
    cases hm : r .key (x.kid 0) s2 with
    | out => exact absurd hm hno.out
    | bad u => rw [hm] at hr; obtain ⟨rfl, g⟩ := hr; exact ⟨rfl, wres_bad (E.out.trans (WR.b1_bad hm _)) (st_bad S.out g)⟩
    | ok s3 =>
      rw [hm] at hr
      obtain ⟨rfl, h3, H, e1, g⟩ := hr
      have E := Lib.hid (E.out.trans (WR.b1_ok hm _))
      have S := Lib.hid (st_next S.out H e1 g)
      clear H e1 g hm
      obtain ⟨d0, d1, d2, d3, d4⟩ := nc5 S.out.blk
      have hnl := lt_of_blk S.out.blk
      obtain ⟨hal, kc1, hxk1⟩ := st_kid S.out hx (i := 1) (by first | assumption | omega)
      replace kc1 : w3.cell? ⟨ka.block, ka.off + 1, none⟩ = some (.int .i64 (kidNo n x 1 : Nat)) := kc1
      rw [HKD.out] at d0
      rw [HLA.out] at d4
      go_wp2_with (fail)
      have hno := Lib.hid (show r (.accessor 1) (x.kid 1) s3 ≠ .out from fun e => HO.out (E.out.trans e))
      go_at_call 175
      refine (A.accessor 1 (x.kid 1) s3 _ _ _ (by decide) hxk1 (rowT_kid hrow (by first | assumption | omega)) S.out.H hno.out).mono ?_
      rintro e w4 hr
      try dsimp only at hr
      cases hm : r (.accessor 1) (x.kid 1) s3 with
      | out => exact absurd hm hno.out
      | bad u => rw [hm] at hr; obtain ⟨rfl, g⟩ := hr; exact ⟨rfl, wres_bad (E.out.trans hm) (st_bad S.out g)⟩
      | ok s4 =>
        rw [hm] at hr
        obtain ⟨rfl, h4, H, e1, g⟩ := hr
        have E := Lib.hid (E.out.trans hm)
        have S := Lib.hid (st_next S.out H e1 g)
        clear H e1 g hm
        go_wp2_with (fail)
        go_end0
        exact st_fin S.out E.out
set_option maxHeartbeats 8000000 in
set_option maxRecDepth 100000 in
theorem ww_pairx {z : Wz} {r : Wm → Tr → Wr → WR} (A : AllWr z r) {x : Tr} {s0 : Wr} {n h0 : Nat} {w : World} (hx : SubT z.N n x) (hrow : RowT x = true) (H0 : WA z s0 h0 w) (ho : wstep r .pair x s0 ≠ .out) (hk : x.kind ∉ ([29, 30, 31] : List Nat)) : Calls Tryz.prog 156 #[.pointer (some ⟨z.b, 0, none⟩), .int .i64 (n : Int)] w (WRes z h0 w (wstep r .pair x s0)) := by
  have _ := A
  have _ := And.intro hx hrow
  generalize hR : wstep r .pair x s0 = R at ho ⊢
  have HO := Lib.hid ho
  dsimp only [wstep] at hR
  have hk2 := hk
  simp only [List.mem_cons, List.not_mem_nil, or_false, not_or] at hk2
  rw [if_neg (by omega), if_neg (by omega), if_neg (by omega)] at hR
  have E := Lib.hid hR.symm
  clear hR ho
  have hst := store_f
  have HKN := Lib.hid hk
  clear hk HO
  go_enter Tryz.func156, Tryz.ntmps156
  go_wp2_with (fail)
  go_at_call 110
  refine (kid_w (wa_up H0 (zero_alloc _ _)) hx w.heap.size 3 [29, 30, 31] (rowk_three w 29 30 31 _) (by decide)).mono ?_
  rintro e w1 ⟨g1, k1, k2⟩
  have g0 := after_alloc g1
  rw [k2 HKN.out]; exact ⟨rfl, wres_bad E.out (Fr.below g0)⟩
set_option maxHeartbeats 8000000 in
set_option maxRecDepth 100000 in
theorem ww_key21 {z : Wz} {r : Wm → Tr → Wr → WR} (A : AllWr z r) {x : Tr} {s0 : Wr} {n h0 : Nat} {w : World} (hx : SubT z.N n x) (hrow : RowT x = true) (H0 : WA z s0 h0 w) (ho : wstep r .key x s0 ≠ .out) (hk : x.kind = 21) : Calls Tryz.prog 174 #[.pointer (some ⟨z.b, 0, none⟩), .int .i64 (n : Int)] w (WRes z h0 w (wstep r .key x s0)) := by
  have _ := A
  have _ := And.intro hx hrow
  generalize hR : wstep r .key x s0 = R at ho ⊢
  have HO := Lib.hid ho
  dsimp only [wstep] at hR
  rw [hk] at hR
  rw [if_pos (by decide), if_pos (by decide)] at hR
  have E := Lib.hid hR.symm
  clear hR ho
  have hst := store_f
  have HKD := Lib.hid hk
  clear hk
  go_enter Tryz.func174, Tryz.ntmps174
  go_wp2_with (fail)
  go_at_call 110
  refine (kid_w (wa_up H0 (zero_alloc _ _)) hx w.heap.size 3 [21, 20, 32] (rowk_three w 21 20 32 _) (by decide)).mono ?_
  rintro e w1 ⟨g1, k1, k2⟩
  have g0 := after_alloc g1
  obtain ⟨K, ck, rfl, hK⟩ := k1 (by rw [HKD.out]; decide)
  replace hK := kidsi_up (ok' := fun k => k < z.b) hK g1.size fun k hk hlt => ⟨hk, g1.block k hlt⟩
  have S := Lib.hid (st_begin (ck := ck) (n := n) (x := x) (w1 := w1) (wa_up H0 g0) (.inl rfl) (Fr.below g0) hK)
  unfold nodeV
  clear k1 k2 g1 g0 hK H0
  go_upto_region 1 with (fail)
  generalize w1.alloc (.cells #[.int .u8 (x.kind : Int), .int .i64 x.pos, .string x.text, .float .f64 x.num, .slice K x.kids.length ck] 44) = W at S ⊢
  obtain ⟨d0, d1, d2, d3, d4⟩ := nc5 S.out.blk
  have hnl := lt_of_blk S.out.blk
  rw [HKD.out] at d0
  go_wp2_with (fail)
  have hno := Lib.hid (show r (.bare 0) x s0 ≠ .out from fun e => HO.out (E.out.trans e))
  have kn := A.bare 0 x s0 n _ _ K ck (by decide) hx hrow S.out.kids S.out.H hno.out
  try dsimp only at kn
  rw [show nodeV x K ck = .agg #[.int .u8 21, .int .i64 x.pos, .string x.text, .float .f64 x.num, .slice K x.kids.length ck] by unfold nodeV; rw [HKD.out]; rfl] at kn
  go_at_call 138
  refine (kn).mono ?_
  rintro e w2 hr
  try dsimp only at hr
  cases hm : r (.bare 0) x s0 with
  | out => exact absurd hm hno.out
  | bad u => rw [hm] at hr; obtain ⟨rfl, g⟩ := hr; exact ⟨rfl, wres_bad (E.out.trans hm) (st_bad S.out g)⟩
  | ok s2 =>
    rw [hm] at hr
    obtain ⟨rfl, h2, H, e1, g⟩ := hr
    have E := Lib.hid (E.out.trans hm)
    have S := Lib.hid (st_next S.out H e1 g)
    clear H e1 g hm
    go_wp2_with (fail)
    first | go_ret | go_end0
    exact st_fin S.out E.out
set_option maxHeartbeats 8000000 in
set_option maxRecDepth 100000 in
theorem ww_key20 {z : Wz} {r : Wm → Tr → Wr → WR} (A : AllWr z r) {x : Tr} {s0 : Wr} {n h0 : Nat} {w : World} (hx : SubT z.N n x) (hrow : RowT x = true) (H0 : WA z s0 h0 w) (ho : wstep r .key x s0 ≠ .out) (hk : x.kind = 20) : Calls Tryz.prog 174 #[.pointer (some ⟨z.b, 0, none⟩), .int .i64 (n : Int)] w (WRes z h0 w (wstep r .key x s0)) := by
  have _ := A
  have _ := And.intro hx hrow
  generalize hR : wstep r .key x s0 = R at ho ⊢
  have HO := Lib.hid ho
  dsimp only [wstep] at hR
  rw [hk] at hR
  rw [if_pos (by decide), if_pos (by decide)] at hR
  have E := Lib.hid hR.symm
  clear hR ho
  have hst := store_f
  have HKD := Lib.hid hk
  clear hk
  go_enter Tryz.func174, Tryz.ntmps174
  go_wp2_with (fail)
  go_at_call 110
  refine (kid_w (wa_up H0 (zero_alloc _ _)) hx w.heap.size 3 [21, 20, 32] (rowk_three w 21 20 32 _) (by decide)).mono ?_
  rintro e w1 ⟨g1, k1, k2⟩
  have g0 := after_alloc g1
  obtain ⟨K, ck, rfl, hK⟩ := k1 (by rw [HKD.out]; decide)
  replace hK := kidsi_up (ok' := fun k => k < z.b) hK g1.size fun k hk hlt => ⟨hk, g1.block k hlt⟩
  have S := Lib.hid (st_begin (ck := ck) (n := n) (x := x) (w1 := w1) (wa_up H0 g0) (.inl rfl) (Fr.below g0) hK)
  unfold nodeV
  clear k1 k2 g1 g0 hK H0
  go_upto_region 1 with (fail)
  generalize w1.alloc (.cells #[.int .u8 (x.kind : Int), .int .i64 x.pos, .string x.text, .float .f64 x.num, .slice K x.kids.length ck] 44) = W at S ⊢
  obtain ⟨d0, d1, d2, d3, d4⟩ := nc5 S.out.blk
  have hnl := lt_of_blk S.out.blk
  rw [HKD.out] at d0
  go_wp2_with (fail)
  have hno := Lib.hid (show r (.bare 0) x s0 ≠ .out from fun e => HO.out (E.out.trans e))
  have kn := A.bare 0 x s0 n _ _ K ck (by decide) hx hrow S.out.kids S.out.H hno.out
  try dsimp only at kn
  rw [show nodeV x K ck = .agg #[.int .u8 20, .int .i64 x.pos, .string x.text, .float .f64 x.num, .slice K x.kids.length ck] by unfold nodeV; rw [HKD.out]; rfl] at kn
  go_at_call 138
  refine (kn).mono ?_
  rintro e w2 hr
  try dsimp only at hr
  cases hm : r (.bare 0) x s0 with
  | out => exact absurd hm hno.out
  | bad u => rw [hm] at hr; obtain ⟨rfl, g⟩ := hr; exact ⟨rfl, wres_bad (E.out.trans hm) (st_bad S.out g)⟩
  | ok s2 =>
    rw [hm] at hr
    obtain ⟨rfl, h2, H, e1, g⟩ := hr
    have E := Lib.hid (E.out.trans hm)
    have S := Lib.hid (st_next S.out H e1 g)
    clear H e1 g hm
    go_wp2_with (fail)
    first | go_ret | go_end0
    exact st_fin S.out E.out
set_option maxHeartbeats 8000000 in
set_option maxRecDepth 100000 in
theorem ww_key32 {z : Wz} {r : Wm → Tr → Wr → WR} (A : AllWr z r) {x : Tr} {s0 : Wr} {n h0 : Nat} {w : World} (hx : SubT z.N n x) (hrow : RowT x = true) (H0 : WA z s0 h0 w) (ho : wstep r .key x s0 ≠ .out) (hk : x.kind = 32) : Calls Tryz.prog 174 #[.pointer (some ⟨z.b, 0, none⟩), .int .i64 (n : Int)] w (WRes z h0 w (wstep r .key x s0)) := by
  have _ := A
  have _ := And.intro hx hrow
  generalize hR : wstep r .key x s0 = R at ho ⊢
  have HO := Lib.hid ho
  dsimp only [wstep] at hR
  rw [hk] at hR
  rw [if_pos (by decide), if_neg (by decide)] at hR
  have E := Lib.hid hR.symm
  clear hR ho
  have hst := store_f
  have hlen : x.kids.length = 1 := kids_len32 hrow hk
  have HLA := Lib.hid hlen
  have hi0 : 0 < x.kids.length := by omega
  clear hlen
  have HKD := Lib.hid hk
  clear hk
  go_enter Tryz.func174, Tryz.ntmps174
  go_wp2_with (fail)
  go_at_call 110
  refine (kid_w (wa_up H0 (zero_alloc _ _)) hx w.heap.size 3 [21, 20, 32] (rowk_three w 21 20 32 _) (by decide)).mono ?_
  rintro e w1 ⟨g1, k1, k2⟩
  have g0 := after_alloc g1
  obtain ⟨K, ck, rfl, hK⟩ := k1 (by rw [HKD.out]; decide)
  replace hK := kidsi_up (ok' := fun k => k < z.b) hK g1.size fun k hk hlt => ⟨hk, g1.block k hlt⟩
  obtain ⟨ka, rfl⟩ := kids_addr hK (by assumption)
  have S := Lib.hid (st_begin (ck := ck) (n := n) (x := x) (w1 := w1) (wa_up H0 g0) (.inl rfl) (Fr.below g0) hK)
  unfold nodeV
  clear k1 k2 g1 g0 hK H0
  go_upto_region 1 with (fail)
  generalize w1.alloc (.cells #[.int .u8 (x.kind : Int), .int .i64 x.pos, .string x.text, .float .f64 x.num, .slice (some ka) x.kids.length ck] 44) = W at S ⊢
  obtain ⟨d0, d1, d2, d3, d4⟩ := nc5 S.out.blk
  have hnl := lt_of_blk S.out.blk
  rw [HKD.out] at d0
  rw [HLA.out] at d4
  go_wp2_with (fail)
  go_at_call 73
  refine (say_one S.out.H (⟨#[91]⟩ : ByteArray) 9).mono ?_
  rintro e w2 hr
  cases hm : saysW [(⟨#[91]⟩ : ByteArray)] s0 with
  | out => exact absurd hm (says_out _ _)
  | bad u => rw [hm] at hr; obtain ⟨rfl, g⟩ := hr; exact ⟨rfl, wres_bad (E.out.trans (WR.b1_bad hm _)) (st_bad S.out g)⟩
  | ok s2 =>
    rw [hm] at hr
    obtain ⟨rfl, h2, H, e1, g⟩ := hr
    have E := Lib.hid (E.out.trans (WR.b1_ok hm _))
    have S := Lib.hid (st_next S.out H e1 g)
    clear H e1 g hm
    obtain ⟨d0, d1, d2, d3, d4⟩ := nc5 S.out.blk
    have hnl := lt_of_blk S.out.blk
    obtain ⟨hal, kc0, hxk0⟩ := st_kid S.out hx (i := 0) (by first | assumption | omega)
    replace kc0 : w2.cell? ka = some (.int .i64 (kidNo n x 0 : Nat)) := kc0
    rw [HKD.out] at d0
    rw [HLA.out] at d4
    go_wp2_with (fail)
    have hno := Lib.hid (show r .value (x.kid 0) s2 ≠ .out from fun e => HO.out (E.out.trans (WR.b1_out e _)))
    go_at_call 77
    refine (A.value (x.kid 0) s2 _ _ _ hxk0 (rowT_kid hrow (by first | assumption | omega)) S.out.H hno.out).mono ?_
    rintro e w3 hr
    cases hm : r .value (x.kid 0) s2 with
    | out => exact absurd hm hno.out
    | bad u => rw [hm] at hr; obtain ⟨rfl, g⟩ := hr; exact ⟨rfl, wres_bad (E.out.trans (WR.b1_bad hm _)) (st_bad S.out g)⟩
    | ok s3 =>
      rw [hm] at hr
      obtain ⟨rfl, h3, H, e1, g⟩ := hr
      have E := Lib.hid (E.out.trans (WR.b1_ok hm _))
      have S := Lib.hid (st_next S.out H e1 g)
      clear H e1 g hm
      obtain ⟨d0, d1, d2, d3, d4⟩ := nc5 S.out.blk
      have hnl := lt_of_blk S.out.blk
      rw [HKD.out] at d0
      rw [HLA.out] at d4
      go_wp2_with (fail)
      go_at_call 73
      refine (say_one S.out.H (⟨#[93]⟩ : ByteArray) 9).mono ?_
      rintro e w4 hr
      cases hm : saysW [(⟨#[93]⟩ : ByteArray)] s3 with
      | out => exact absurd hm (says_out _ _)
      | bad u => rw [hm] at hr; obtain ⟨rfl, g⟩ := hr; exact ⟨rfl, wres_bad (E.out.trans hm) (st_bad S.out g)⟩
      | ok s4 =>
        rw [hm] at hr
        obtain ⟨rfl, h4, H, e1, g⟩ := hr
        have E := Lib.hid (E.out.trans hm)
        have S := Lib.hid (st_next S.out H e1 g)
        clear H e1 g hm
        go_wp2_with (fail)
        go_end0
        exact st_fin S.out E.out
set_option maxHeartbeats 8000000 in
set_option maxRecDepth 100000 in
theorem ww_keyx {z : Wz} {r : Wm → Tr → Wr → WR} (A : AllWr z r) {x : Tr} {s0 : Wr} {n h0 : Nat} {w : World} (hx : SubT z.N n x) (hrow : RowT x = true) (H0 : WA z s0 h0 w) (ho : wstep r .key x s0 ≠ .out) (hk : x.kind ∉ ([21, 20, 32] : List Nat)) : Calls Tryz.prog 174 #[.pointer (some ⟨z.b, 0, none⟩), .int .i64 (n : Int)] w (WRes z h0 w (wstep r .key x s0)) := by
  have _ := A
  have _ := And.intro hx hrow
  generalize hR : wstep r .key x s0 = R at ho ⊢
  have HO := Lib.hid ho
  dsimp only [wstep] at hR
  have hk2 := hk
  simp only [List.mem_cons, List.not_mem_nil, or_false, not_or] at hk2
  rw [if_neg (by omega)] at hR
  have E := Lib.hid hR.symm
  clear hR ho
  have hst := store_f
  have HKN := Lib.hid hk
  clear hk HO
  go_enter Tryz.func174, Tryz.ntmps174
  go_wp2_with (fail)
  go_at_call 110
  refine (kid_w (wa_up H0 (zero_alloc _ _)) hx w.heap.size 3 [21, 20, 32] (rowk_three w 21 20 32 _) (by decide)).mono ?_
  rintro e w1 ⟨g1, k1, k2⟩
  have g0 := after_alloc g1
  rw [k2 HKN.out]; exact ⟨rfl, wres_bad E.out (Fr.below g0)⟩
set_option maxHeartbeats 8000000 in
set_option maxRecDepth 100000 in
theorem ww_accessor27 {z : Wz} {r : Wm → Tr → Wr → WR} (A : AllWr z r) {x : Tr} {s0 : Wr} {n h0 : Nat} {w : World} {q : Nat} (hx : SubT z.N n x) (hrow : RowT x = true) (H0 : WA z s0 h0 w) (ho : wstep r (.accessor q) x s0 ≠ .out) (hk : x.kind = 27) (hq : q ≤ 20) (ht : x.text.toList.isEmpty = true) (hl : x.kids.length = q + 1) : Calls Tryz.prog 175 #[.pointer (some ⟨z.b, 0, none⟩), .int .i64 (n : Int), .int .i64 (q : Int)] w (WRes z h0 w (wstep r (.accessor q) x s0)) := by
  have _ := A
  have _ := And.intro hx hrow
  generalize hR : wstep r (.accessor q) x s0 = R at ho ⊢
  have HO := Lib.hid ho
  dsimp only [wstep] at hR
  rw [if_pos hk, if_neg (fun h => by rcases h with h | h; (rw [empty_str, ht] at h; cases h); exact h hl)] at hR
  have E := Lib.hid hR.symm
  clear hR ho
  have hst := store_f
  have HKD := Lib.hid hk
  clear hk
  have hpos : 0 < x.kids.length := by omega
  have HLA := Lib.hid hl
  clear hl
  go_enter Tryz.func175, Tryz.ntmps175
  go_wp2_with (fail)
  go_at_call 110
  refine (kid_w (wa_up H0 (zero_alloc _ _)) hx w.heap.size 1 [27] (rowk_one w 27 _) (by decide)).mono ?_
  rintro e w1 ⟨g1, k1, k2⟩
  have g0 := after_alloc g1
  obtain ⟨K, ck, rfl, hK⟩ := k1 (by rw [HKD.out]; decide)
  replace hK := kidsi_up (ok' := fun k => k < z.b) hK g1.size fun k hk hlt => ⟨hk, g1.block k hlt⟩
  have S := Lib.hid (st_begin (ck := ck) (n := n) (x := x) (w1 := w1) (wa_up H0 g0) (.inl rfl) (Fr.below g0) hK)
  unfold nodeV
  clear k1 k2 g1 g0 hK H0
  go_upto_region 1 with (fail)
  generalize w1.alloc (.cells #[.int .u8 (x.kind : Int), .int .i64 x.pos, .string x.text, .float .f64 x.num, .slice K x.kids.length ck] 44) = W at S ⊢
  obtain ⟨d0, d1, d2, d3, d4⟩ := nc5 S.out.blk
  have hnl := lt_of_blk S.out.blk
  rw [HKD.out] at d0
  rw [HLA.out] at d4
  have hq1 : ((q : Int) + 1 == (q : Int) + 1) = true := by simp
  go_wp2_with (fail)
  have hno := Lib.hid (show r .function x s0 ≠ .out from fun e => HO.out (E.out.trans e))
  have kn := A.function x s0 n _ _ K ck hpos hx hrow S.out.kids S.out.H hno.out
  rw [show nodeV x K ck = .agg #[.int .u8 27, .int .i64 x.pos, .string x.text, .float .f64 x.num, .slice K x.kids.length ck] by unfold nodeV; rw [HKD.out]; rfl] at kn
  rw [HLA.out] at kn
  go_at_call 76
  refine (kn).mono ?_
  rintro e w2 hr
  cases hm : r .function x s0 with
  | out => exact absurd hm hno.out
  | bad u => rw [hm] at hr; obtain ⟨rfl, g⟩ := hr; exact ⟨rfl, wres_bad (E.out.trans hm) (st_bad S.out g)⟩
  | ok s2 =>
    rw [hm] at hr
    obtain ⟨rfl, h2, H, e1, g⟩ := hr
    have E := Lib.hid (E.out.trans hm)
    have S := Lib.hid (st_next S.out H e1 g)
    clear H e1 g hm
    go_wp2_with (fail)
    go_end0
    exact st_fin S.out E.out
set_option maxHeartbeats 8000000 in
set_option maxRecDepth 100000 in
theorem ww_accessor27t {z : Wz} {r : Wm → Tr → Wr → WR} (A : AllWr z r) {x : Tr} {s0 : Wr} {n h0 : Nat} {w : World} {q : Nat} (hx : SubT z.N n x) (hrow : RowT x = true) (H0 : WA z s0 h0 w) (ho : wstep r (.accessor q) x s0 ≠ .out) (hk : x.kind = 27) (ht : x.text.toList.isEmpty = false) : Calls Tryz.prog 175 #[.pointer (some ⟨z.b, 0, none⟩), .int .i64 (n : Int), .int .i64 (q : Int)] w (WRes z h0 w (wstep r (.accessor q) x s0)) := by
  have _ := A
  have _ := And.intro hx hrow
  generalize hR : wstep r (.accessor q) x s0 = R at ho ⊢
  have HO := Lib.hid ho
  dsimp only [wstep] at hR
  rw [if_pos hk, if_pos (.inl (by rw [empty_str, ht]))] at hR
  have E := Lib.hid hR.symm
  clear hR ho
  have hst := store_f
  have HKD := Lib.hid hk
  clear hk
  clear HO
  go_enter Tryz.func175, Tryz.ntmps175
  go_wp2_with (fail)
  go_at_call 110
  refine (kid_w (wa_up H0 (zero_alloc _ _)) hx w.heap.size 1 [27] (rowk_one w 27 _) (by decide)).mono ?_
  rintro e w1 ⟨g1, k1, k2⟩
  have g0 := after_alloc g1
  obtain ⟨K, ck, rfl, hK⟩ := k1 (by rw [HKD.out]; decide)
  replace hK := kidsi_up (ok' := fun k => k < z.b) hK g1.size fun k hk hlt => ⟨hk, g1.block k hlt⟩
  have S := Lib.hid (st_begin (ck := ck) (n := n) (x := x) (w1 := w1) (wa_up H0 g0) (.inl rfl) (Fr.below g0) hK)
  unfold nodeV
  clear k1 k2 g1 g0 hK H0
  go_upto_region 1 with (fail)
  generalize w1.alloc (.cells #[.int .u8 (x.kind : Int), .int .i64 x.pos, .string x.text, .float .f64 x.num, .slice K x.kids.length ck] 44) = W at S ⊢
  obtain ⟨d0, d1, d2, d3, d4⟩ := nc5 S.out.blk
  have hnl := lt_of_blk S.out.blk
  rw [HKD.out] at d0
  go_wp2_with (fail)
  go_at_call 83
  refine (refuse_w z _).mono ?_
  rintro e wz ⟨rfl, g⟩
  exact ⟨rfl, wres_bad E.out (st_bad S.out (Fr.below g))⟩
set_option maxHeartbeats 8000000 in
set_option maxRecDepth 100000 in
theorem ww_accessor27l {z : Wz} {r : Wm → Tr → Wr → WR} (A : AllWr z r) {x : Tr} {s0 : Wr} {n h0 : Nat} {w : World} {q : Nat} (hx : SubT z.N n x) (hrow : RowT x = true) (H0 : WA z s0 h0 w) (ho : wstep r (.accessor q) x s0 ≠ .out) (hk : x.kind = 27) (hq : q ≤ 20) (ht : x.text.toList.isEmpty = true) (hl : x.kids.length ≠ q + 1) : Calls Tryz.prog 175 #[.pointer (some ⟨z.b, 0, none⟩), .int .i64 (n : Int), .int .i64 (q : Int)] w (WRes z h0 w (wstep r (.accessor q) x s0)) := by
  have _ := A
  have _ := And.intro hx hrow
  generalize hR : wstep r (.accessor q) x s0 = R at ho ⊢
  have HO := Lib.hid ho
  dsimp only [wstep] at hR
  rw [if_pos hk, if_pos (.inr hl)] at hR
  have E := Lib.hid hR.symm
  clear hR ho
  have hst := store_f
  have HKD := Lib.hid hk
  clear hk
  have hlz : ((x.kids.length : Int) == (q : Int) + 1) = false := by rw [beq_eq_false_iff_ne]; omega
  clear HO hl
  go_enter Tryz.func175, Tryz.ntmps175
  go_wp2_with (fail)
  go_at_call 110
  refine (kid_w (wa_up H0 (zero_alloc _ _)) hx w.heap.size 1 [27] (rowk_one w 27 _) (by decide)).mono ?_
  rintro e w1 ⟨g1, k1, k2⟩
  have g0 := after_alloc g1
  obtain ⟨K, ck, rfl, hK⟩ := k1 (by rw [HKD.out]; decide)
  replace hK := kidsi_up (ok' := fun k => k < z.b) hK g1.size fun k hk hlt => ⟨hk, g1.block k hlt⟩
  have S := Lib.hid (st_begin (ck := ck) (n := n) (x := x) (w1 := w1) (wa_up H0 g0) (.inl rfl) (Fr.below g0) hK)
  unfold nodeV
  clear k1 k2 g1 g0 hK H0
  go_upto_region 1 with (fail)
  generalize w1.alloc (.cells #[.int .u8 (x.kind : Int), .int .i64 x.pos, .string x.text, .float .f64 x.num, .slice K x.kids.length ck] 44) = W at S ⊢
  obtain ⟨d0, d1, d2, d3, d4⟩ := nc5 S.out.blk
  have hnl := lt_of_blk S.out.blk
  rw [HKD.out] at d0
  go_wp2_with (fail)
  go_at_call 83
  refine (refuse_w z _).mono ?_
  rintro e wz ⟨rfl, g⟩
  exact ⟨rfl, wres_bad E.out (st_bad S.out (Fr.below g))⟩
set_option maxHeartbeats 8000000 in
set_option maxRecDepth 100000 in
theorem ww_accessorx {z : Wz} {r : Wm → Tr → Wr → WR} (A : AllWr z r) {x : Tr} {s0 : Wr} {n h0 : Nat} {w : World} {q : Nat} (hx : SubT z.N n x) (hrow : RowT x = true) (H0 : WA z s0 h0 w) (ho : wstep r (.accessor q) x s0 ≠ .out) (hk : x.kind ∉ ([27] : List Nat)) : Calls Tryz.prog 175 #[.pointer (some ⟨z.b, 0, none⟩), .int .i64 (n : Int), .int .i64 (q : Int)] w (WRes z h0 w (wstep r (.accessor q) x s0)) := by
  have _ := A
  have _ := And.intro hx hrow
  generalize hR : wstep r (.accessor q) x s0 = R at ho ⊢
  have HO := Lib.hid ho
  dsimp only [wstep] at hR
  rw [if_neg (by simpa using hk)] at hR
  have E := Lib.hid hR.symm
  clear hR ho
  have hst := store_f
  have HKN := Lib.hid hk
  clear hk HO
  go_enter Tryz.func175, Tryz.ntmps175
  go_wp2_with (fail)
  go_at_call 110
  refine (kid_w (wa_up H0 (zero_alloc _ _)) hx w.heap.size 1 [27] (rowk_one w 27 _) (by decide)).mono ?_
  rintro e w1 ⟨g1, k1, k2⟩
  have g0 := after_alloc g1
  rw [k2 HKN.out]; exact ⟨rfl, wres_bad E.out (Fr.below g0)⟩
theorem ww_pair {z : Wz} {r : Wm → Tr → Wr → WR} (A : AllWr z r) : ByNo z 156 (wstep r .pair) := by
  intro x s n h w hx hrow H ho
  by_cases h29 : x.kind = 29
  · exact ww_pair29 A hx hrow H ho h29
  by_cases h30 : x.kind = 30
  · exact ww_pair30 A hx hrow H ho h30
  by_cases h31 : x.kind = 31
  · exact ww_pair31 A hx hrow H ho h31
  exact ww_pairx A hx hrow H ho (by simp only [List.mem_cons, List.not_mem_nil, or_false, not_or]; exact ⟨h29, h30, h31⟩)
theorem ww_key {z : Wz} {r : Wm → Tr → Wr → WR} (A : AllWr z r) : ByNo z 174 (wstep r .key) := by
  intro x s n h w hx hrow H ho
  by_cases h21 : x.kind = 21
  · exact ww_key21 A hx hrow H ho h21
  by_cases h20 : x.kind = 20
  · exact ww_key20 A hx hrow H ho h20
  by_cases h32 : x.kind = 32
  · exact ww_key32 A hx hrow H ho h32
  exact ww_keyx A hx hrow H ho (by simp only [List.mem_cons, List.not_mem_nil, or_false, not_or]; exact ⟨h21, h20, h32⟩)
theorem ww_accessor {z : Wz} {r : Wm → Tr → Wr → WR} (A : AllWr z r) : ByNo2 z 175 (fun k => wstep r (.accessor k)) := by
  intro q x s n h w hq hx hrow H ho
  by_cases hk : x.kind = 27
  · cases ht : x.text.toList.isEmpty with
    | false => exact ww_accessor27t A hx hrow H ho hk ht
    | true =>
      by_cases hl : x.kids.length = q + 1
      · exact ww_accessor27 A hx hrow H ho hk hq ht hl
      · exact ww_accessor27l A hx hrow H ho hk hq ht hl
  · exact ww_accessorx A hx hrow H ho (by simpa using hk)
end Go.Proofs.YtablckajobefeaaGreatDoor.S
