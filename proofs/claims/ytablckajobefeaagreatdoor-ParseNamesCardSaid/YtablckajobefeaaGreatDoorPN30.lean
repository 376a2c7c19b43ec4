/-
  The writer's statement: walks. Generated: gen_writ.py.
-/
import Derived.Test.YtablckajobefeaaGreatDoorPN29
namespace Go.Proofs.YtablckajobefeaaGreatDoor.S
open Go.RowKit Fl

theorem st_first {z : Wz} {x : Tr} {n : Nat} {K : Option Addr} {ck nb : Nat} {w0 : World} {h0 : Nat} {s : Wr} {h : Nat} {w : World} (S : St z x n K ck nb w0 h0 s h w) (m : Int) : St z x n K ck nb w0 h0 { s with first := m } h (w.setCell ⟨z.b, 2, none⟩ (.int .i64 m)) := by
  obtain ⟨H, g⟩ := wa_first S.H m
  exact st_next S H (.inl rfl) g
set_option maxHeartbeats 8000000 in
set_option maxRecDepth 100000 in
theorem ww_st2 {z : Wz} {r : Wm → Tr → Wr → WR} (A : AllWr z r) {x : Tr} {s0 : Wr} {n h0 : Nat} {w : World} (hx : SubT z.N n x) (hrow : RowT x = true) (H0 : WA z s0 h0 w) (ho : wstep r .statement x s0 ≠ .out) (hk : x.kind = 2) : Calls Tryz.prog 55 #[.pointer (some ⟨z.b, 0, none⟩), .int .i64 (n : Int)] w (WRes z h0 w (wstep r .statement x s0)) := by
  have _ := A
  have _ := And.intro hx hrow
  generalize hR : wstep r .statement x s0 = R at ho ⊢
  have HO := Lib.hid ho
  dsimp only [wstep] at hR
  rw [hk] at hR
  rw [if_pos (by decide)] at hR
  have E := Lib.hid hR.symm
  clear hR ho
  have hst := store_f
  have HKD := Lib.hid hk
  clear hk
  obtain ⟨v, hb, _, _⟩ := H0.blk
  obtain ⟨a, K, ck, ha, hal, hn, a0, a1, a2, a3, a4, hK⟩ := node_at H0 hx
  have c0 : w.cell? ⟨z.b, 0, none⟩ = some (.slice z.A z.N.length z.cap) := blk_cell hb 0
  rw [ha] at c0
  have hn1 : (n : Int) < (z.N.length : Int) := by omega
  have hn0 : (0 : Int) ≤ (n : Int) := by omega
  have hn2 : ((n : Int)).toNat = n := by omega
  have hab : (a.add (n * 5)).block < w.heap.size := by rw [block_of_add]; exact hal
  have hzl := lt_of_blk hb
  have S := Lib.hid (st_begin (ck := ck) (n := n) (x := x) H0 (.inl rfl) (Fr.refl _ _ _) hK)
  clear hb hK H0
  go_enter Tryz.func55, Tryz.ntmps55
  go_upto_region 1 with (fail)
  generalize w.alloc (.cells #[.int .u8 (x.kind : Int), .int .i64 x.pos, .string x.text, .float .f64 x.num, .slice K x.kids.length ck] 44) = W at S ⊢
  clear a0 a1 a2 a3 a4 c0 hab hzl hn1 hn2
  obtain ⟨d0, d1, d2, d3, d4⟩ := nc5 S.out.blk
  have hnl := lt_of_blk S.out.blk
  rw [HKD.out] at d0
  go_wp2_with (fail)
  have hno := Lib.hid (show r .block x s0 ≠ .out from fun e => HO.out (E.out.trans e))
  go_at_call 72
  refine (A.block x s0 n _ _ hx hrow S.out.H hno.out).mono ?_
  rintro e w1 hr
  cases hm : r .block x s0 with
  | out => exact absurd hm hno.out
  | bad u => rw [hm] at hr; obtain ⟨rfl, g⟩ := hr; exact ⟨rfl, wres_bad (E.out.trans hm) (st_bad S.out g)⟩
  | ok s1 =>
    rw [hm] at hr
    obtain ⟨rfl, h1, H, e1, g⟩ := hr
    have E := Lib.hid (E.out.trans hm)
    have S := Lib.hid (st_next S.out H e1 g)
    clear H e1 g hm
    go_wp2_with (fail)
    go_end0
    exact st_fin S.out E.out
set_option maxHeartbeats 8000000 in
set_option maxRecDepth 100000 in
theorem ww_st15 {z : Wz} {r : Wm → Tr → Wr → WR} (A : AllWr z r) {x : Tr} {s0 : Wr} {n h0 : Nat} {w : World} (hx : SubT z.N n x) (hrow : RowT x = true) (H0 : WA z s0 h0 w) (ho : wstep r .statement x s0 ≠ .out) (hk : x.kind = 15) : Calls Tryz.prog 55 #[.pointer (some ⟨z.b, 0, none⟩), .int .i64 (n : Int)] w (WRes z h0 w (wstep r .statement x s0)) := by
  have _ := A
  have _ := And.intro hx hrow
  generalize hR : wstep r .statement x s0 = R at ho ⊢
  have HO := Lib.hid ho
  dsimp only [wstep] at hR
  rw [hk] at hR
  rw [if_neg (by decide), if_pos (by decide)] at hR
  have E := Lib.hid hR.symm
  clear hR ho
  have hst := store_f
  have HKD := Lib.hid hk
  clear hk
  obtain ⟨v, hb, _, _⟩ := H0.blk
  obtain ⟨a, K, ck, ha, hal, hn, a0, a1, a2, a3, a4, hK⟩ := node_at H0 hx
  have c0 : w.cell? ⟨z.b, 0, none⟩ = some (.slice z.A z.N.length z.cap) := blk_cell hb 0
  rw [ha] at c0
  have hn1 : (n : Int) < (z.N.length : Int) := by omega
  have hn0 : (0 : Int) ≤ (n : Int) := by omega
  have hn2 : ((n : Int)).toNat = n := by omega
  have hab : (a.add (n * 5)).block < w.heap.size := by rw [block_of_add]; exact hal
  have hzl := lt_of_blk hb
  have S := Lib.hid (st_begin (ck := ck) (n := n) (x := x) H0 (.inl rfl) (Fr.refl _ _ _) hK)
  clear hb hK H0
  go_enter Tryz.func55, Tryz.ntmps55
  go_upto_region 1 with (fail)
  generalize w.alloc (.cells #[.int .u8 (x.kind : Int), .int .i64 x.pos, .string x.text, .float .f64 x.num, .slice K x.kids.length ck] 44) = W at S ⊢
  clear a0 a1 a2 a3 a4 c0 hab hzl hn1 hn2
  obtain ⟨d0, d1, d2, d3, d4⟩ := nc5 S.out.blk
  have hnl := lt_of_blk S.out.blk
  rw [HKD.out] at d0
  go_wp2_with (fail)
  go_at_call 73
  refine (say_one S.out.H (⟨#[59]⟩ : ByteArray) 9).mono ?_
  rintro e w1 hr
  cases hm : saysW [(⟨#[59]⟩ : ByteArray)] s0 with
  | out => exact absurd hm (says_out _ _)
  | bad u => rw [hm] at hr; obtain ⟨rfl, g⟩ := hr; exact ⟨rfl, wres_bad (E.out.trans hm) (st_bad S.out g)⟩
  | ok s1 =>
    rw [hm] at hr
    obtain ⟨rfl, h1, H, e1, g⟩ := hr
    have E := Lib.hid (E.out.trans hm)
    have S := Lib.hid (st_next S.out H e1 g)
    clear H e1 g hm
    go_wp2_with (fail)
    go_end0
    exact st_fin S.out E.out
set_option maxHeartbeats 8000000 in
set_option maxRecDepth 100000 in
theorem ww_st3 {z : Wz} {r : Wm → Tr → Wr → WR} (A : AllWr z r) {x : Tr} {s0 : Wr} {n h0 : Nat} {w : World} (hx : SubT z.N n x) (hrow : RowT x = true) (H0 : WA z s0 h0 w) (ho : wstep r .statement x s0 ≠ .out) (hk : x.kind = 3) : Calls Tryz.prog 55 #[.pointer (some ⟨z.b, 0, none⟩), .int .i64 (n : Int)] w (WRes z h0 w (wstep r .statement x s0)) := by
  have _ := A
  have _ := And.intro hx hrow
  generalize hR : wstep r .statement x s0 = R at ho ⊢
  have HO := Lib.hid ho
  dsimp only [wstep] at hR
  rw [hk] at hR
  rw [if_neg (by decide), if_neg (by decide), if_pos (by decide)] at hR
  have E := Lib.hid hR.symm
  clear hR ho
  have hst := store_f
  have HKD := Lib.hid hk
  clear hk
  obtain ⟨v, hb, _, _⟩ := H0.blk
  obtain ⟨a, K, ck, ha, hal, hn, a0, a1, a2, a3, a4, hK⟩ := node_at H0 hx
  have c0 : w.cell? ⟨z.b, 0, none⟩ = some (.slice z.A z.N.length z.cap) := blk_cell hb 0
  rw [ha] at c0
  have hn1 : (n : Int) < (z.N.length : Int) := by omega
  have hn0 : (0 : Int) ≤ (n : Int) := by omega
  have hn2 : ((n : Int)).toNat = n := by omega
  have hab : (a.add (n * 5)).block < w.heap.size := by rw [block_of_add]; exact hal
  have hzl := lt_of_blk hb
  have S := Lib.hid (st_begin (ck := ck) (n := n) (x := x) H0 (.inl rfl) (Fr.refl _ _ _) hK)
  clear hb hK H0
  go_enter Tryz.func55, Tryz.ntmps55
  go_upto_region 1 with (fail)
  generalize w.alloc (.cells #[.int .u8 (x.kind : Int), .int .i64 x.pos, .string x.text, .float .f64 x.num, .slice K x.kids.length ck] 44) = W at S ⊢
  clear a0 a1 a2 a3 a4 c0 hab hzl hn1 hn2
  obtain ⟨d0, d1, d2, d3, d4⟩ := nc5 S.out.blk
  have hnl := lt_of_blk S.out.blk
  rw [HKD.out] at d0
  go_wp2_with (fail)
  have hno := Lib.hid (show r .declaration x s0 ≠ .out from fun e => HO.out (E.out.trans e))
  have kn := A.declaration x s0 n _ _ K ck (.inl HKD.out) hx hrow S.out.kids S.out.H hno.out
  rw [show nodeV x K ck = .agg #[.int .u8 3, .int .i64 x.pos, .string x.text, .float .f64 x.num, .slice K x.kids.length ck] by unfold nodeV; rw [HKD.out]; rfl] at kn
  go_at_call 74
  refine (kn).mono ?_
  rintro e w1 hr
  cases hm : r .declaration x s0 with
  | out => exact absurd hm hno.out
  | bad u => rw [hm] at hr; obtain ⟨rfl, g⟩ := hr; exact ⟨rfl, wres_bad (E.out.trans hm) (st_bad S.out g)⟩
  | ok s1 =>
    rw [hm] at hr
    obtain ⟨rfl, h1, H, e1, g⟩ := hr
    have E := Lib.hid (E.out.trans hm)
    have S := Lib.hid (st_next S.out H e1 g)
    clear H e1 g hm
    go_wp2_with (fail)
    go_end0
    exact st_fin S.out E.out
set_option maxHeartbeats 8000000 in
set_option maxRecDepth 100000 in
theorem ww_st4 {z : Wz} {r : Wm → Tr → Wr → WR} (A : AllWr z r) {x : Tr} {s0 : Wr} {n h0 : Nat} {w : World} (hx : SubT z.N n x) (hrow : RowT x = true) (H0 : WA z s0 h0 w) (ho : wstep r .statement x s0 ≠ .out) (hk : x.kind = 4) : Calls Tryz.prog 55 #[.pointer (some ⟨z.b, 0, none⟩), .int .i64 (n : Int)] w (WRes z h0 w (wstep r .statement x s0)) := by
  have _ := A
  have _ := And.intro hx hrow
  generalize hR : wstep r .statement x s0 = R at ho ⊢
  have HO := Lib.hid ho
  dsimp only [wstep] at hR
  rw [hk] at hR
  rw [if_neg (by decide), if_neg (by decide), if_pos (by decide)] at hR
  have E := Lib.hid hR.symm
  clear hR ho
  have hst := store_f
  have HKD := Lib.hid hk
  clear hk
  obtain ⟨v, hb, _, _⟩ := H0.blk
  obtain ⟨a, K, ck, ha, hal, hn, a0, a1, a2, a3, a4, hK⟩ := node_at H0 hx
  have c0 : w.cell? ⟨z.b, 0, none⟩ = some (.slice z.A z.N.length z.cap) := blk_cell hb 0
  rw [ha] at c0
  have hn1 : (n : Int) < (z.N.length : Int) := by omega
  have hn0 : (0 : Int) ≤ (n : Int) := by omega
  have hn2 : ((n : Int)).toNat = n := by omega
  have hab : (a.add (n * 5)).block < w.heap.size := by rw [block_of_add]; exact hal
  have hzl := lt_of_blk hb
  have S := Lib.hid (st_begin (ck := ck) (n := n) (x := x) H0 (.inl rfl) (Fr.refl _ _ _) hK)
  clear hb hK H0
  go_enter Tryz.func55, Tryz.ntmps55
  go_upto_region 1 with (fail)
  generalize w.alloc (.cells #[.int .u8 (x.kind : Int), .int .i64 x.pos, .string x.text, .float .f64 x.num, .slice K x.kids.length ck] 44) = W at S ⊢
  clear a0 a1 a2 a3 a4 c0 hab hzl hn1 hn2
  obtain ⟨d0, d1, d2, d3, d4⟩ := nc5 S.out.blk
  have hnl := lt_of_blk S.out.blk
  rw [HKD.out] at d0
  go_wp2_with (fail)
  have hno := Lib.hid (show r .declaration x s0 ≠ .out from fun e => HO.out (E.out.trans e))
  have kn := A.declaration x s0 n _ _ K ck (.inr HKD.out) hx hrow S.out.kids S.out.H hno.out
  rw [show nodeV x K ck = .agg #[.int .u8 4, .int .i64 x.pos, .string x.text, .float .f64 x.num, .slice K x.kids.length ck] by unfold nodeV; rw [HKD.out]; rfl] at kn
  go_at_call 74
  refine (kn).mono ?_
  rintro e w1 hr
  cases hm : r .declaration x s0 with
  | out => exact absurd hm hno.out
  | bad u => rw [hm] at hr; obtain ⟨rfl, g⟩ := hr; exact ⟨rfl, wres_bad (E.out.trans hm) (st_bad S.out g)⟩
  | ok s1 =>
    rw [hm] at hr
    obtain ⟨rfl, h1, H, e1, g⟩ := hr
    have E := Lib.hid (E.out.trans hm)
    have S := Lib.hid (st_next S.out H e1 g)
    clear H e1 g hm
    go_wp2_with (fail)
    go_end0
    exact st_fin S.out E.out
set_option maxHeartbeats 8000000 in
set_option maxRecDepth 100000 in
theorem ww_st7 {z : Wz} {r : Wm → Tr → Wr → WR} (A : AllWr z r) {x : Tr} {s0 : Wr} {n h0 : Nat} {w : World} (hx : SubT z.N n x) (hrow : RowT x = true) (H0 : WA z s0 h0 w) (ho : wstep r .statement x s0 ≠ .out) (hk : x.kind = 7) : Calls Tryz.prog 55 #[.pointer (some ⟨z.b, 0, none⟩), .int .i64 (n : Int)] w (WRes z h0 w (wstep r .statement x s0)) := by
  have _ := A
  have _ := And.intro hx hrow
  generalize hR : wstep r .statement x s0 = R at ho ⊢
  have HO := Lib.hid ho
  dsimp only [wstep] at hR
  rw [hk] at hR
  rw [if_neg (by decide), if_neg (by decide), if_neg (by decide), if_neg (by decide), if_neg (by decide), if_pos (by decide)] at hR
  have E := Lib.hid hR.symm
  clear hR ho
  have hst := store_f
  have HKD := Lib.hid hk
  clear hk
  obtain ⟨v, hb, _, _⟩ := H0.blk
  obtain ⟨a, K, ck, ha, hal, hn, a0, a1, a2, a3, a4, hK⟩ := node_at H0 hx
  have c0 : w.cell? ⟨z.b, 0, none⟩ = some (.slice z.A z.N.length z.cap) := blk_cell hb 0
  rw [ha] at c0
  have hn1 : (n : Int) < (z.N.length : Int) := by omega
  have hn0 : (0 : Int) ≤ (n : Int) := by omega
  have hn2 : ((n : Int)).toNat = n := by omega
  have hab : (a.add (n * 5)).block < w.heap.size := by rw [block_of_add]; exact hal
  have hzl := lt_of_blk hb
  have S := Lib.hid (st_begin (ck := ck) (n := n) (x := x) H0 (.inl rfl) (Fr.refl _ _ _) hK)
  clear hb hK H0
  go_enter Tryz.func55, Tryz.ntmps55
  go_upto_region 1 with (fail)
  generalize w.alloc (.cells #[.int .u8 (x.kind : Int), .int .i64 x.pos, .string x.text, .float .f64 x.num, .slice K x.kids.length ck] 44) = W at S ⊢
  clear a0 a1 a2 a3 a4 c0 hab hzl hn1 hn2
  obtain ⟨d0, d1, d2, d3, d4⟩ := nc5 S.out.blk
  have hnl := lt_of_blk S.out.blk
  rw [HKD.out] at d0
  go_wp2_with (fail)
  have hno := Lib.hid (show r .branch x s0 ≠ .out from fun e => HO.out (E.out.trans e))
  have kn := A.branch x s0 n _ _ K ck HKD.out hx hrow S.out.kids S.out.H hno.out
  rw [show nodeV x K ck = .agg #[.int .u8 7, .int .i64 x.pos, .string x.text, .float .f64 x.num, .slice K x.kids.length ck] by unfold nodeV; rw [HKD.out]; rfl] at kn
  go_at_call 78
  refine (kn).mono ?_
  rintro e w1 hr
  cases hm : r .branch x s0 with
  | out => exact absurd hm hno.out
  | bad u => rw [hm] at hr; obtain ⟨rfl, g⟩ := hr; exact ⟨rfl, wres_bad (E.out.trans hm) (st_bad S.out g)⟩
  | ok s1 =>
    rw [hm] at hr
    obtain ⟨rfl, h1, H, e1, g⟩ := hr
    have E := Lib.hid (E.out.trans hm)
    have S := Lib.hid (st_next S.out H e1 g)
    clear H e1 g hm
    go_wp2_with (fail)
    go_end0
    exact st_fin S.out E.out
set_option maxHeartbeats 8000000 in
set_option maxRecDepth 100000 in
theorem ww_st9 {z : Wz} {r : Wm → Tr → Wr → WR} (A : AllWr z r) {x : Tr} {s0 : Wr} {n h0 : Nat} {w : World} (hx : SubT z.N n x) (hrow : RowT x = true) (H0 : WA z s0 h0 w) (ho : wstep r .statement x s0 ≠ .out) (hk : x.kind = 9) : Calls Tryz.prog 55 #[.pointer (some ⟨z.b, 0, none⟩), .int .i64 (n : Int)] w (WRes z h0 w (wstep r .statement x s0)) := by
  have _ := A
  have _ := And.intro hx hrow
  generalize hR : wstep r .statement x s0 = R at ho ⊢
  have HO := Lib.hid ho
  dsimp only [wstep] at hR
  rw [hk] at hR
  rw [if_neg (by decide), if_neg (by decide), if_neg (by decide), if_neg (by decide), if_neg (by decide), if_neg (by decide), if_neg (by decide), if_pos (by decide)] at hR
  have E := Lib.hid hR.symm
  clear hR ho
  have hst := store_f
  have HKD := Lib.hid hk
  clear hk
  obtain ⟨v, hb, _, _⟩ := H0.blk
  obtain ⟨a, K, ck, ha, hal, hn, a0, a1, a2, a3, a4, hK⟩ := node_at H0 hx
  have c0 : w.cell? ⟨z.b, 0, none⟩ = some (.slice z.A z.N.length z.cap) := blk_cell hb 0
  rw [ha] at c0
  have hn1 : (n : Int) < (z.N.length : Int) := by omega
  have hn0 : (0 : Int) ≤ (n : Int) := by omega
  have hn2 : ((n : Int)).toNat = n := by omega
  have hab : (a.add (n * 5)).block < w.heap.size := by rw [block_of_add]; exact hal
  have hzl := lt_of_blk hb
  have S := Lib.hid (st_begin (ck := ck) (n := n) (x := x) H0 (.inl rfl) (Fr.refl _ _ _) hK)
  clear hb hK H0
  go_enter Tryz.func55, Tryz.ntmps55
  go_upto_region 1 with (fail)
  generalize w.alloc (.cells #[.int .u8 (x.kind : Int), .int .i64 x.pos, .string x.text, .float .f64 x.num, .slice K x.kids.length ck] 44) = W at S ⊢
  clear a0 a1 a2 a3 a4 c0 hab hzl hn1 hn2
  obtain ⟨d0, d1, d2, d3, d4⟩ := nc5 S.out.blk
  have hnl := lt_of_blk S.out.blk
  rw [HKD.out] at d0
  go_wp2_with (fail)
  have hno := Lib.hid (show r .loop x s0 ≠ .out from fun e => HO.out (E.out.trans e))
  have kn := A.loop x s0 n _ _ K ck (.inl HKD.out) hx hrow S.out.kids S.out.H hno.out
  rw [show nodeV x K ck = .agg #[.int .u8 9, .int .i64 x.pos, .string x.text, .float .f64 x.num, .slice K x.kids.length ck] by unfold nodeV; rw [HKD.out]; rfl] at kn
  go_at_call 81
  refine (kn).mono ?_
  rintro e w1 hr
  cases hm : r .loop x s0 with
  | out => exact absurd hm hno.out
  | bad u => rw [hm] at hr; obtain ⟨rfl, g⟩ := hr; exact ⟨rfl, wres_bad (E.out.trans hm) (st_bad S.out g)⟩
  | ok s1 =>
    rw [hm] at hr
    obtain ⟨rfl, h1, H, e1, g⟩ := hr
    have E := Lib.hid (E.out.trans hm)
    have S := Lib.hid (st_next S.out H e1 g)
    clear H e1 g hm
    go_wp2_with (fail)
    go_end0
    exact st_fin S.out E.out
set_option maxHeartbeats 8000000 in
set_option maxRecDepth 100000 in
theorem ww_st10 {z : Wz} {r : Wm → Tr → Wr → WR} (A : AllWr z r) {x : Tr} {s0 : Wr} {n h0 : Nat} {w : World} (hx : SubT z.N n x) (hrow : RowT x = true) (H0 : WA z s0 h0 w) (ho : wstep r .statement x s0 ≠ .out) (hk : x.kind = 10) : Calls Tryz.prog 55 #[.pointer (some ⟨z.b, 0, none⟩), .int .i64 (n : Int)] w (WRes z h0 w (wstep r .statement x s0)) := by
  have _ := A
  have _ := And.intro hx hrow
  generalize hR : wstep r .statement x s0 = R at ho ⊢
  have HO := Lib.hid ho
  dsimp only [wstep] at hR
  rw [hk] at hR
  rw [if_neg (by decide), if_neg (by decide), if_neg (by decide), if_neg (by decide), if_neg (by decide), if_neg (by decide), if_neg (by decide), if_pos (by decide)] at hR
  have E := Lib.hid hR.symm
  clear hR ho
  have hst := store_f
  have HKD := Lib.hid hk
  clear hk
  obtain ⟨v, hb, _, _⟩ := H0.blk
  obtain ⟨a, K, ck, ha, hal, hn, a0, a1, a2, a3, a4, hK⟩ := node_at H0 hx
  have c0 : w.cell? ⟨z.b, 0, none⟩ = some (.slice z.A z.N.length z.cap) := blk_cell hb 0
  rw [ha] at c0
  have hn1 : (n : Int) < (z.N.length : Int) := by omega
  have hn0 : (0 : Int) ≤ (n : Int) := by omega
  have hn2 : ((n : Int)).toNat = n := by omega
  have hab : (a.add (n * 5)).block < w.heap.size := by rw [block_of_add]; exact hal
  have hzl := lt_of_blk hb
  have S := Lib.hid (st_begin (ck := ck) (n := n) (x := x) H0 (.inl rfl) (Fr.refl _ _ _) hK)
  clear hb hK H0
  go_enter Tryz.func55, Tryz.ntmps55
  go_upto_region 1 with (fail)
  generalize w.alloc (.cells #[.int .u8 (x.kind : Int), .int .i64 x.pos, .string x.text, .float .f64 x.num, .slice K x.kids.length ck] 44) = W at S ⊢
  clear a0 a1 a2 a3 a4 c0 hab hzl hn1 hn2
  obtain ⟨d0, d1, d2, d3, d4⟩ := nc5 S.out.blk
  have hnl := lt_of_blk S.out.blk
  rw [HKD.out] at d0
  go_wp2_with (fail)
  have hno := Lib.hid (show r .loop x s0 ≠ .out from fun e => HO.out (E.out.trans e))
  have kn := A.loop x s0 n _ _ K ck (.inr HKD.out) hx hrow S.out.kids S.out.H hno.out
  rw [show nodeV x K ck = .agg #[.int .u8 10, .int .i64 x.pos, .string x.text, .float .f64 x.num, .slice K x.kids.length ck] by unfold nodeV; rw [HKD.out]; rfl] at kn
  go_at_call 81
  refine (kn).mono ?_
  rintro e w1 hr
  cases hm : r .loop x s0 with
  | out => exact absurd hm hno.out
  | bad u => rw [hm] at hr; obtain ⟨rfl, g⟩ := hr; exact ⟨rfl, wres_bad (E.out.trans hm) (st_bad S.out g)⟩
  | ok s1 =>
    rw [hm] at hr
    obtain ⟨rfl, h1, H, e1, g⟩ := hr
    have E := Lib.hid (E.out.trans hm)
    have S := Lib.hid (st_next S.out H e1 g)
    clear H e1 g hm
    go_wp2_with (fail)
    go_end0
    exact st_fin S.out E.out
set_option maxHeartbeats 8000000 in
set_option maxRecDepth 100000 in
theorem ww_st16 {z : Wz} {r : Wm → Tr → Wr → WR} (A : AllWr z r) {x : Tr} {s0 : Wr} {n h0 : Nat} {w : World} (hx : SubT z.N n x) (hrow : RowT x = true) (H0 : WA z s0 h0 w) (ho : wstep r .statement x s0 ≠ .out) (hk : x.kind = 16) : Calls Tryz.prog 55 #[.pointer (some ⟨z.b, 0, none⟩), .int .i64 (n : Int)] w (WRes z h0 w (wstep r .statement x s0)) := by
  have _ := A
  have _ := And.intro hx hrow
  generalize hR : wstep r .statement x s0 = R at ho ⊢
  have HO := Lib.hid ho
  dsimp only [wstep] at hR
  rw [hk] at hR
  rw [if_neg (by decide), if_neg (by decide), if_neg (by decide), if_neg (by decide), if_neg (by decide), if_neg (by decide), if_neg (by decide), if_neg (by decide), if_neg (by decide), if_neg (by decide), if_pos (by decide)] at hR
  have E := Lib.hid hR.symm
  clear hR ho
  have hst := store_f
  have HKD := Lib.hid hk
  clear hk
  obtain ⟨v, hb, _, _⟩ := H0.blk
  obtain ⟨a, K, ck, ha, hal, hn, a0, a1, a2, a3, a4, hK⟩ := node_at H0 hx
  have c0 : w.cell? ⟨z.b, 0, none⟩ = some (.slice z.A z.N.length z.cap) := blk_cell hb 0
  rw [ha] at c0
  have hn1 : (n : Int) < (z.N.length : Int) := by omega
  have hn0 : (0 : Int) ≤ (n : Int) := by omega
  have hn2 : ((n : Int)).toNat = n := by omega
  have hab : (a.add (n * 5)).block < w.heap.size := by rw [block_of_add]; exact hal
  have hzl := lt_of_blk hb
  have S := Lib.hid (st_begin (ck := ck) (n := n) (x := x) H0 (.inl rfl) (Fr.refl _ _ _) hK)
  clear hb hK H0
  go_enter Tryz.func55, Tryz.ntmps55
  go_upto_region 1 with (fail)
  generalize w.alloc (.cells #[.int .u8 (x.kind : Int), .int .i64 x.pos, .string x.text, .float .f64 x.num, .slice K x.kids.length ck] 44) = W at S ⊢
  clear a0 a1 a2 a3 a4 c0 hab hzl hn1 hn2
  obtain ⟨d0, d1, d2, d3, d4⟩ := nc5 S.out.blk
  have hnl := lt_of_blk S.out.blk
  rw [HKD.out] at d0
  go_wp2_with (fail)
  have hno := Lib.hid (show r .guarded x s0 ≠ .out from fun e => HO.out (E.out.trans e))
  have kn := A.guarded x s0 n _ _ K ck HKD.out hx hrow S.out.kids S.out.H hno.out
  rw [show nodeV x K ck = .agg #[.int .u8 16, .int .i64 x.pos, .string x.text, .float .f64 x.num, .slice K x.kids.length ck] by unfold nodeV; rw [HKD.out]; rfl] at kn
  go_at_call 82
  refine (kn).mono ?_
  rintro e w1 hr
  cases hm : r .guarded x s0 with
  | out => exact absurd hm hno.out
  | bad u => rw [hm] at hr; obtain ⟨rfl, g⟩ := hr; exact ⟨rfl, wres_bad (E.out.trans hm) (st_bad S.out g)⟩
  | ok s1 =>
    rw [hm] at hr
    obtain ⟨rfl, h1, H, e1, g⟩ := hr
    have E := Lib.hid (E.out.trans hm)
    have S := Lib.hid (st_next S.out H e1 g)
    clear H e1 g hm
    go_wp2_with (fail)
    go_end0
    exact st_fin S.out E.out
set_option maxHeartbeats 8000000 in
set_option maxRecDepth 100000 in
theorem ww_st5 {z : Wz} {r : Wm → Tr → Wr → WR} (A : AllWr z r) {x : Tr} {s0 : Wr} {n h0 : Nat} {w : World} (hx : SubT z.N n x) (hrow : RowT x = true) (H0 : WA z s0 h0 w) (ho : wstep r .statement x s0 ≠ .out) (hk : x.kind = 5) : Calls Tryz.prog 55 #[.pointer (some ⟨z.b, 0, none⟩), .int .i64 (n : Int)] w (WRes z h0 w (wstep r .statement x s0)) := by
  have _ := A
  have _ := And.intro hx hrow
  generalize hR : wstep r .statement x s0 = R at ho ⊢
  have HO := Lib.hid ho
  dsimp only [wstep] at hR
  rw [hk] at hR
  rw [if_neg (by decide), if_neg (by decide), if_neg (by decide), if_pos (by decide)] at hR
  have E := Lib.hid hR.symm
  clear hR ho
  have hst := store_f
  have hpos := kids_pos5 hrow hk
  have HKD := Lib.hid hk
  clear hk
  obtain ⟨v, hb, _, _⟩ := H0.blk
  obtain ⟨a, K, ck, ha, hal, hn, a0, a1, a2, a3, a4, hK⟩ := node_at H0 hx
  have c0 : w.cell? ⟨z.b, 0, none⟩ = some (.slice z.A z.N.length z.cap) := blk_cell hb 0
  rw [ha] at c0
  have hn1 : (n : Int) < (z.N.length : Int) := by omega
  have hn0 : (0 : Int) ≤ (n : Int) := by omega
  have hn2 : ((n : Int)).toNat = n := by omega
  have hab : (a.add (n * 5)).block < w.heap.size := by rw [block_of_add]; exact hal
  have hzl := lt_of_blk hb
  have S := Lib.hid (st_begin (ck := ck) (n := n) (x := x) H0 (.inl rfl) (Fr.refl _ _ _) hK)
  clear hb hK H0
  go_enter Tryz.func55, Tryz.ntmps55
  go_upto_region 1 with (fail)
  generalize w.alloc (.cells #[.int .u8 (x.kind : Int), .int .i64 x.pos, .string x.text, .float .f64 x.num, .slice K x.kids.length ck] 44) = W at S ⊢
  clear a0 a1 a2 a3 a4 c0 hab hzl hn1 hn2
  obtain ⟨d0, d1, d2, d3, d4⟩ := nc5 S.out.blk
  have hnl := lt_of_blk S.out.blk
  rw [HKD.out] at d0
  go_wp2_with (fail)
  go_at_call 73
  refine (say_one S.out.H (⟨#[102, 117, 110, 99, 116, 105, 111, 110]⟩ : ByteArray) 9).mono ?_
  rintro e w1 hr
  cases hm : saysW [(⟨#[102, 117, 110, 99, 116, 105, 111, 110]⟩ : ByteArray)] s0 with
  | out => exact absurd hm (says_out _ _)
  | bad u => rw [hm] at hr; obtain ⟨rfl, g⟩ := hr; exact ⟨rfl, wres_bad (E.out.trans (WR.b1_bad hm _)) (st_bad S.out g)⟩
  | ok s1 =>
    rw [hm] at hr
    obtain ⟨rfl, h1, H, e1, g⟩ := hr
    have E := Lib.hid (E.out.trans (WR.b1_ok hm _))
    have S := Lib.hid (st_next S.out H e1 g)
    clear H e1 g hm
    obtain ⟨d0, d1, d2, d3, d4⟩ := nc5 S.out.blk
    have hnl := lt_of_blk S.out.blk
    rw [HKD.out] at d0
    go_wp2_with (fail)
    go_at_call 75
    refine (name_w S.out.H x.text).mono ?_
    rintro e w2 hr
    cases hm : nameW x.text s1 with
    | out => exact absurd hm (name_out _ _)
    | bad u => rw [hm] at hr; obtain ⟨rfl, g⟩ := hr; exact ⟨rfl, wres_bad (E.out.trans (WR.b1_bad hm _)) (st_bad S.out g)⟩
    | ok s2 =>
      rw [hm] at hr
      obtain ⟨rfl, h2, H, e1, g⟩ := hr
      have E := Lib.hid (E.out.trans (WR.b1_ok hm _))
      have S := Lib.hid (st_next S.out H e1 g)
      clear H e1 g hm
      obtain ⟨d0, d1, d2, d3, d4⟩ := nc5 S.out.blk
      have hnl := lt_of_blk S.out.blk
      rw [HKD.out] at d0
      go_wp2_with (fail)
      have hno := Lib.hid (show r .function x s2 ≠ .out from fun e => HO.out (E.out.trans e))
      have kn := A.function x s2 n _ _ K ck hpos hx hrow S.out.kids S.out.H hno.out
      rw [show nodeV x K ck = .agg #[.int .u8 5, .int .i64 x.pos, .string x.text, .float .f64 x.num, .slice K x.kids.length ck] by unfold nodeV; rw [HKD.out]; rfl] at kn
      go_at_call 76
      refine (kn).mono ?_
      rintro e w3 hr
      cases hm : r .function x s2 with
      | out => exact absurd hm hno.out
      | bad u => rw [hm] at hr; obtain ⟨rfl, g⟩ := hr; exact ⟨rfl, wres_bad (E.out.trans hm) (st_bad S.out g)⟩
      | ok s3 =>
        rw [hm] at hr
        obtain ⟨rfl, h3, H, e1, g⟩ := hr
        have E := Lib.hid (E.out.trans hm)
        have S := Lib.hid (st_next S.out H e1 g)
        clear H e1 g hm
        go_wp2_with (fail)
        go_end0
        exact st_fin S.out E.out
set_option maxHeartbeats 8000000 in
set_option maxRecDepth 100000 in
theorem ww_st8 {z : Wz} {r : Wm → Tr → Wr → WR} (A : AllWr z r) {x : Tr} {s0 : Wr} {n h0 : Nat} {w : World} (hx : SubT z.N n x) (hrow : RowT x = true) (H0 : WA z s0 h0 w) (ho : wstep r .statement x s0 ≠ .out) (hk : x.kind = 8) : Calls Tryz.prog 55 #[.pointer (some ⟨z.b, 0, none⟩), .int .i64 (n : Int)] w (WRes z h0 w (wstep r .statement x s0)) := by
  have _ := A
  have _ := And.intro hx hrow
  generalize hR : wstep r .statement x s0 = R at ho ⊢
  have HO := Lib.hid ho
  dsimp only [wstep] at hR
  rw [hk] at hR
  rw [if_neg (by decide), if_neg (by decide), if_neg (by decide), if_neg (by decide), if_neg (by decide), if_neg (by decide), if_pos (by decide)] at hR
  have E := Lib.hid hR.symm
  clear hR ho
  have hst := store_f
  have hlen : x.kids.length = 2 := kids_len8 hrow hk
  have HLA := Lib.hid hlen
  have hi0 : 0 < x.kids.length := by omega
  have hi1 : 1 < x.kids.length := by omega
  clear hlen
  have HKD := Lib.hid hk
  clear hk
  obtain ⟨v, hb, _, _⟩ := H0.blk
  obtain ⟨a, K, ck, ha, hal, hn, a0, a1, a2, a3, a4, hK⟩ := node_at H0 hx
  have c0 : w.cell? ⟨z.b, 0, none⟩ = some (.slice z.A z.N.length z.cap) := blk_cell hb 0
  rw [ha] at c0
  have hn1 : (n : Int) < (z.N.length : Int) := by omega
  have hn0 : (0 : Int) ≤ (n : Int) := by omega
  have hn2 : ((n : Int)).toNat = n := by omega
  have hab : (a.add (n * 5)).block < w.heap.size := by rw [block_of_add]; exact hal
  have hzl := lt_of_blk hb
  obtain ⟨ka, rfl⟩ := kids_addr hK (by assumption)
  have S := Lib.hid (st_begin (ck := ck) (n := n) (x := x) H0 (.inl rfl) (Fr.refl _ _ _) hK)
  clear hb hK H0
  go_enter Tryz.func55, Tryz.ntmps55
  go_upto_region 1 with (fail)
  generalize w.alloc (.cells #[.int .u8 (x.kind : Int), .int .i64 x.pos, .string x.text, .float .f64 x.num, .slice (some ka) x.kids.length ck] 44) = W at S ⊢
  clear a0 a1 a2 a3 a4 c0 hab hzl hn1 hn2
  obtain ⟨d0, d1, d2, d3, d4⟩ := nc5 S.out.blk
  have hnl := lt_of_blk S.out.blk
  rw [HKD.out] at d0
  rw [HLA.out] at d4
  go_wp2_with (fail)
  go_at_call 73
  refine (say_one S.out.H (⟨#[119, 104, 105, 108, 101]⟩ : ByteArray) 9).mono ?_
  rintro e w1 hr
  cases hm : saysW [(⟨#[119, 104, 105, 108, 101]⟩ : ByteArray)] s0 with
  | out => exact absurd hm (says_out _ _)
  | bad u => rw [hm] at hr; obtain ⟨rfl, g⟩ := hr; exact ⟨rfl, wres_bad (E.out.trans (WR.b1_bad hm _)) (st_bad S.out g)⟩
  | ok s1 =>
    rw [hm] at hr
    obtain ⟨rfl, h1, H, e1, g⟩ := hr
    have E := Lib.hid (E.out.trans (WR.b1_ok hm _))
    have S := Lib.hid (st_next S.out H e1 g)
    clear H e1 g hm
    obtain ⟨d0, d1, d2, d3, d4⟩ := nc5 S.out.blk
    have hnl := lt_of_blk S.out.blk
    obtain ⟨hal, kc0, hxk0⟩ := st_kid S.out hx (i := 0) (by first | assumption | omega)
    replace kc0 : w1.cell? ka = some (.int .i64 (kidNo n x 0 : Nat)) := kc0
    rw [HKD.out] at d0
    rw [HLA.out] at d4
    go_wp2_with (fail)
    have hno := Lib.hid (show r .test (x.kid 0) s1 ≠ .out from fun e => HO.out (E.out.trans (WR.b1_out e _)))
    go_at_call 79
    refine (A.test (x.kid 0) s1 _ _ _ hxk0 (rowT_kid hrow (by first | assumption | omega)) S.out.H hno.out).mono ?_
    rintro e w2 hr
    cases hm : r .test (x.kid 0) s1 with
    | out => exact absurd hm hno.out
    | bad u => rw [hm] at hr; obtain ⟨rfl, g⟩ := hr; exact ⟨rfl, wres_bad (E.out.trans (WR.b1_bad hm _)) (st_bad S.out g)⟩
    | ok s2 =>
      rw [hm] at hr
      obtain ⟨rfl, h2, H, e1, g⟩ := hr
      have E := Lib.hid (E.out.trans (WR.b1_ok hm _))
      have S := Lib.hid (st_next S.out H e1 g)
      clear H e1 g hm
      obtain ⟨d0, d1, d2, d3, d4⟩ := nc5 S.out.blk
      have hnl := lt_of_blk S.out.blk
      obtain ⟨hal, kc1, hxk1⟩ := st_kid S.out hx (i := 1) (by first | assumption | omega)
      replace kc1 : w2.cell? ⟨ka.block, ka.off + 1, none⟩ = some (.int .i64 (kidNo n x 1 : Nat)) := kc1
      rw [HKD.out] at d0
      rw [HLA.out] at d4
      go_wp2_with (fail)
      have hno := Lib.hid (show r .body (x.kid 1) s2 ≠ .out from fun e => HO.out (E.out.trans e))
      go_at_call 80
      refine (A.body (x.kid 1) s2 _ _ _ hxk1 (rowT_kid hrow (by first | assumption | omega)) S.out.H hno.out).mono ?_
      rintro e w3 hr
      cases hm : r .body (x.kid 1) s2 with
      | out => exact absurd hm hno.out
      | bad u => rw [hm] at hr; obtain ⟨rfl, g⟩ := hr; exact ⟨rfl, wres_bad (E.out.trans hm) (st_bad S.out g)⟩
      | ok s3 =>
        rw [hm] at hr
        obtain ⟨rfl, h3, H, e1, g⟩ := hr
        have E := Lib.hid (E.out.trans hm)
        have S := Lib.hid (st_next S.out H e1 g)
        clear H e1 g hm
        go_wp2_with (fail)
        go_end0
        exact st_fin S.out E.out
set_option maxHeartbeats 8000000 in
set_option maxRecDepth 100000 in
theorem ww_st11 {z : Wz} {r : Wm → Tr → Wr → WR} (A : AllWr z r) {x : Tr} {s0 : Wr} {n h0 : Nat} {w : World} (hx : SubT z.N n x) (hrow : RowT x = true) (H0 : WA z s0 h0 w) (ho : wstep r .statement x s0 ≠ .out) (hk : x.kind = 11) : Calls Tryz.prog 55 #[.pointer (some ⟨z.b, 0, none⟩), .int .i64 (n : Int)] w (WRes z h0 w (wstep r .statement x s0)) := by
  have _ := A
  have _ := And.intro hx hrow
  generalize hR : wstep r .statement x s0 = R at ho ⊢
  have HO := Lib.hid ho
  dsimp only [wstep] at hR
  rw [hk] at hR
  rw [if_neg (by decide), if_neg (by decide), if_neg (by decide), if_neg (by decide), if_neg (by decide), if_neg (by decide), if_neg (by decide), if_neg (by decide), if_pos (by decide)] at hR
  have E := Lib.hid hR.symm
  clear hR ho
  have hst := store_f
  have hfew : x.kids.length ≤ 16384 := kids_few hrow
  have HKD := Lib.hid hk
  clear hk
  obtain ⟨v, hb, _, _⟩ := H0.blk
  obtain ⟨a, K, ck, ha, hal, hn, a0, a1, a2, a3, a4, hK⟩ := node_at H0 hx
  have c0 : w.cell? ⟨z.b, 0, none⟩ = some (.slice z.A z.N.length z.cap) := blk_cell hb 0
  rw [ha] at c0
  have hn1 : (n : Int) < (z.N.length : Int) := by omega
  have hn0 : (0 : Int) ≤ (n : Int) := by omega
  have hn2 : ((n : Int)).toNat = n := by omega
  have hab : (a.add (n * 5)).block < w.heap.size := by rw [block_of_add]; exact hal
  have hzl := lt_of_blk hb
  have S := Lib.hid (st_begin (ck := ck) (n := n) (x := x) H0 (.inl rfl) (Fr.refl _ _ _) hK)
  clear hb hK H0
  go_enter Tryz.func55, Tryz.ntmps55
  go_upto_region 1 with (fail)
  generalize w.alloc (.cells #[.int .u8 (x.kind : Int), .int .i64 x.pos, .string x.text, .float .f64 x.num, .slice K x.kids.length ck] 44) = W at S ⊢
  clear a0 a1 a2 a3 a4 c0 hab hzl hn1 hn2
  obtain ⟨d0, d1, d2, d3, d4⟩ := nc5 S.out.blk
  have hnl := lt_of_blk S.out.blk
  rw [HKD.out] at d0
  go_wp2_with (fail)
  go_at_call 9
  refine (Kind_w 11 (by omega) _).mono ?_
  rintro e w1 ⟨rfl, g⟩
  have S := Lib.hid (st_up S.out g)
  clear g
  obtain ⟨d0, d1, d2, d3, d4⟩ := nc5 S.out.blk
  have hnl := lt_of_blk S.out.blk
  rw [HKD.out] at d0
  go_wp2_with (fail)
  go_at_call 73
  refine (say_one S.out.H (kindW 11) 9).mono ?_
  rintro e w2 hr
  cases hm : saysW [(kindW 11)] s0 with
  | out => exact absurd hm (says_out _ _)
  | bad u => rw [hm] at hr; obtain ⟨rfl, g⟩ := hr; exact ⟨rfl, wres_bad (E.out.trans (WR.b1_bad hm _)) (st_bad S.out g)⟩
  | ok s2 =>
    rw [hm] at hr
    obtain ⟨rfl, h2, H, e1, g⟩ := hr
    have E := Lib.hid (E.out.trans (WR.b1_ok hm _))
    have S := Lib.hid (st_next S.out H e1 g)
    clear H e1 g hm
    obtain ⟨d0, d1, d2, d3, d4⟩ := nc5 S.out.blk
    have hnl := lt_of_blk S.out.blk
    rw [HKD.out] at d0
    have hL := Lib.hid (ls_all S.out.kids hx hrow)
    go_wp2_with (fail)
    have hS0 := Lib.hid (And.intro S.out (And.intro hL.out (show R = (eachW (r .value) ((x.kids).drop 0) s2).bind (fun s2 => saysW [(⟨#[59]⟩ : ByteArray)] s2) from E.out)))
    clear S E hL
    go_loopw [105] (fun i wr => ∃ (k : Nat) (s2 : Wr) (h3 : Nat), i = .int .i64 k ∧ k ≤ (x.kids).length ∧ Hid (St z x n K ck w.heap.size w h0 s2 h3 wr ∧ LsT z wr K (x.kids) ∧ R = (eachW (r .value) ((x.kids).drop k) s2).bind (fun s2 => saysW [(⟨#[59]⟩ : ByteArray)] s2))) (fun i _ => (x.kids).length - (intOf i).toNat)
    case atStart => exact ⟨0, s2, _, rfl, Nat.zero_le _, hS0⟩
    case round =>
      clear hS0
      obtain ⟨k, s2, h3, rfl, hk2, HH⟩ := hrel
      obtain ⟨S4, hL4, E4⟩ := HH.out
      have S := Lib.hid S4
      clear HH S4
      by_cases hlt : k < (x.kids).length
      · obtain ⟨la, m, ha, hal, kc, hxk, hrk⟩ := ls_at hL4 hlt
        cases ha
        have hlz : (k : Int) < ((x.kids).length : Int) := by omega
        have hL := Lib.hid hL4
        have hl1 := Lib.hid hlt
        obtain ⟨y, hy⟩ : ∃ y, y = (x.kids)[k]'hlt := ⟨_, rfl⟩
        rw [← hy] at hxk hrk
        have E := Lib.hid (E4.trans (by rw [each_drop hlt, ← hy]))
        clear hL4 E4 hy
        go_wp2_with (fail)
        have hno := Lib.hid (show r .value y s2 ≠ .out from fun e => HO.out (E.out.trans (WR.b2_out e _ _)))
        go_at_call 77
        refine (A.value _ _ _ _ _ hxk hrk S.out.H hno.out).mono ?_
        rintro e w3 hr
        cases hm : r .value y s2 with
        | out => exact absurd hm hno.out
        | bad u => rw [hm] at hr; obtain ⟨rfl, g⟩ := hr; exact ⟨rfl, wres_bad (E.out.trans (WR.b2_bad hm _ _)) (st_bad S.out g)⟩
        | ok s5 =>
          rw [hm] at hr
          obtain ⟨rfl, h6, H, e1, g⟩ := hr
          have E := Lib.hid (E.out.trans (WR.b2_ok hm _ _))
          have hL := Lib.hid (ls_up hL.out S.out.H.hz g)
          have S := Lib.hid (st_next S.out H e1 g)
          clear H e1 g hm
          go_wp2_with (fail)
          go_roundw
          case rel => exact ⟨k + 1, s5, _, by go_num, hl1.out, Lib.hid ⟨S.out, hL.out, E.out⟩⟩
          case measure => have := hl1.out; simp [intOf]; omega
      · have E := Lib.hid (E4.trans (by rw [List.drop_eq_nil_of_le (by omega)]; rfl) : R = (fun s2 => saysW [(⟨#[59]⟩ : ByteArray)] s2) s2)
        clear E4 hL4
        obtain rfl : k = (x.kids).length := by omega
        go_wp2_with (fail)
        go_at_call 73
        refine (say_one S.out.H (⟨#[59]⟩ : ByteArray) 9).mono ?_
        rintro e w4 hr
        cases hm : saysW [(⟨#[59]⟩ : ByteArray)] s2 with
        | out => exact absurd hm (says_out _ _)
        | bad u => rw [hm] at hr; obtain ⟨rfl, g⟩ := hr; exact ⟨rfl, wres_bad (E.out.trans hm) (st_bad S.out g)⟩
        | ok s4 =>
          rw [hm] at hr
          obtain ⟨rfl, h4, H, e1, g⟩ := hr
          have E := Lib.hid (E.out.trans hm)
          have S := Lib.hid (st_next S.out H e1 g)
          clear H e1 g hm
          go_wp2_with (fail)
          go_end0
          exact st_fin S.out E.out
set_option maxHeartbeats 8000000 in
set_option maxRecDepth 100000 in
theorem ww_st12 {z : Wz} {r : Wm → Tr → Wr → WR} (A : AllWr z r) {x : Tr} {s0 : Wr} {n h0 : Nat} {w : World} (hx : SubT z.N n x) (hrow : RowT x = true) (H0 : WA z s0 h0 w) (ho : wstep r .statement x s0 ≠ .out) (hk : x.kind = 12) : Calls Tryz.prog 55 #[.pointer (some ⟨z.b, 0, none⟩), .int .i64 (n : Int)] w (WRes z h0 w (wstep r .statement x s0)) := by
  have _ := A
  have _ := And.intro hx hrow
  generalize hR : wstep r .statement x s0 = R at ho ⊢
  have HO := Lib.hid ho
  dsimp only [wstep] at hR
  rw [hk] at hR
  rw [if_neg (by decide), if_neg (by decide), if_neg (by decide), if_neg (by decide), if_neg (by decide), if_neg (by decide), if_neg (by decide), if_neg (by decide), if_pos (by decide)] at hR
  have E := Lib.hid hR.symm
  clear hR ho
  have hst := store_f
  have hfew : x.kids.length ≤ 16384 := kids_few hrow
  have HKD := Lib.hid hk
  clear hk
  obtain ⟨v, hb, _, _⟩ := H0.blk
  obtain ⟨a, K, ck, ha, hal, hn, a0, a1, a2, a3, a4, hK⟩ := node_at H0 hx
  have c0 : w.cell? ⟨z.b, 0, none⟩ = some (.slice z.A z.N.length z.cap) := blk_cell hb 0
  rw [ha] at c0
  have hn1 : (n : Int) < (z.N.length : Int) := by omega
  have hn0 : (0 : Int) ≤ (n : Int) := by omega
  have hn2 : ((n : Int)).toNat = n := by omega
  have hab : (a.add (n * 5)).block < w.heap.size := by rw [block_of_add]; exact hal
  have hzl := lt_of_blk hb
  have S := Lib.hid (st_begin (ck := ck) (n := n) (x := x) H0 (.inl rfl) (Fr.refl _ _ _) hK)
  clear hb hK H0
  go_enter Tryz.func55, Tryz.ntmps55
  go_upto_region 1 with (fail)
  generalize w.alloc (.cells #[.int .u8 (x.kind : Int), .int .i64 x.pos, .string x.text, .float .f64 x.num, .slice K x.kids.length ck] 44) = W at S ⊢
  clear a0 a1 a2 a3 a4 c0 hab hzl hn1 hn2
  obtain ⟨d0, d1, d2, d3, d4⟩ := nc5 S.out.blk
  have hnl := lt_of_blk S.out.blk
  rw [HKD.out] at d0
  go_wp2_with (fail)
  go_at_call 9
  refine (Kind_w 12 (by omega) _).mono ?_
  rintro e w1 ⟨rfl, g⟩
  have S := Lib.hid (st_up S.out g)
  clear g
  obtain ⟨d0, d1, d2, d3, d4⟩ := nc5 S.out.blk
  have hnl := lt_of_blk S.out.blk
  rw [HKD.out] at d0
  go_wp2_with (fail)
  go_at_call 73
  refine (say_one S.out.H (kindW 12) 9).mono ?_
  rintro e w2 hr
  cases hm : saysW [(kindW 12)] s0 with
  | out => exact absurd hm (says_out _ _)
  | bad u => rw [hm] at hr; obtain ⟨rfl, g⟩ := hr; exact ⟨rfl, wres_bad (E.out.trans (WR.b1_bad hm _)) (st_bad S.out g)⟩
  | ok s2 =>
    rw [hm] at hr
    obtain ⟨rfl, h2, H, e1, g⟩ := hr
    have E := Lib.hid (E.out.trans (WR.b1_ok hm _))
    have S := Lib.hid (st_next S.out H e1 g)
    clear H e1 g hm
    obtain ⟨d0, d1, d2, d3, d4⟩ := nc5 S.out.blk
    have hnl := lt_of_blk S.out.blk
    rw [HKD.out] at d0
    have hL := Lib.hid (ls_all S.out.kids hx hrow)
    go_wp2_with (fail)
    have hS0 := Lib.hid (And.intro S.out (And.intro hL.out (show R = (eachW (r .value) ((x.kids).drop 0) s2).bind (fun s2 => saysW [(⟨#[59]⟩ : ByteArray)] s2) from E.out)))
    clear S E hL
    go_loopw [105] (fun i wr => ∃ (k : Nat) (s2 : Wr) (h3 : Nat), i = .int .i64 k ∧ k ≤ (x.kids).length ∧ Hid (St z x n K ck w.heap.size w h0 s2 h3 wr ∧ LsT z wr K (x.kids) ∧ R = (eachW (r .value) ((x.kids).drop k) s2).bind (fun s2 => saysW [(⟨#[59]⟩ : ByteArray)] s2))) (fun i _ => (x.kids).length - (intOf i).toNat)
    case atStart => exact ⟨0, s2, _, rfl, Nat.zero_le _, hS0⟩
    case round =>
      clear hS0
      obtain ⟨k, s2, h3, rfl, hk2, HH⟩ := hrel
      obtain ⟨S4, hL4, E4⟩ := HH.out
      have S := Lib.hid S4
      clear HH S4
      by_cases hlt : k < (x.kids).length
      · obtain ⟨la, m, ha, hal, kc, hxk, hrk⟩ := ls_at hL4 hlt
        cases ha
        have hlz : (k : Int) < ((x.kids).length : Int) := by omega
        have hL := Lib.hid hL4
        have hl1 := Lib.hid hlt
        obtain ⟨y, hy⟩ : ∃ y, y = (x.kids)[k]'hlt := ⟨_, rfl⟩
        rw [← hy] at hxk hrk
        have E := Lib.hid (E4.trans (by rw [each_drop hlt, ← hy]))
        clear hL4 E4 hy
        go_wp2_with (fail)
        have hno := Lib.hid (show r .value y s2 ≠ .out from fun e => HO.out (E.out.trans (WR.b2_out e _ _)))
        go_at_call 77
        refine (A.value _ _ _ _ _ hxk hrk S.out.H hno.out).mono ?_
        rintro e w3 hr
        cases hm : r .value y s2 with
        | out => exact absurd hm hno.out
        | bad u => rw [hm] at hr; obtain ⟨rfl, g⟩ := hr; exact ⟨rfl, wres_bad (E.out.trans (WR.b2_bad hm _ _)) (st_bad S.out g)⟩
        | ok s5 =>
          rw [hm] at hr
          obtain ⟨rfl, h6, H, e1, g⟩ := hr
          have E := Lib.hid (E.out.trans (WR.b2_ok hm _ _))
          have hL := Lib.hid (ls_up hL.out S.out.H.hz g)
          have S := Lib.hid (st_next S.out H e1 g)
          clear H e1 g hm
          go_wp2_with (fail)
          go_roundw
          case rel => exact ⟨k + 1, s5, _, by go_num, hl1.out, Lib.hid ⟨S.out, hL.out, E.out⟩⟩
          case measure => have := hl1.out; simp [intOf]; omega
      · have E := Lib.hid (E4.trans (by rw [List.drop_eq_nil_of_le (by omega)]; rfl) : R = (fun s2 => saysW [(⟨#[59]⟩ : ByteArray)] s2) s2)
        clear E4 hL4
        obtain rfl : k = (x.kids).length := by omega
        go_wp2_with (fail)
        go_at_call 73
        refine (say_one S.out.H (⟨#[59]⟩ : ByteArray) 9).mono ?_
        rintro e w4 hr
        cases hm : saysW [(⟨#[59]⟩ : ByteArray)] s2 with
        | out => exact absurd hm (says_out _ _)
        | bad u => rw [hm] at hr; obtain ⟨rfl, g⟩ := hr; exact ⟨rfl, wres_bad (E.out.trans hm) (st_bad S.out g)⟩
        | ok s4 =>
          rw [hm] at hr
          obtain ⟨rfl, h4, H, e1, g⟩ := hr
          have E := Lib.hid (E.out.trans hm)
          have S := Lib.hid (st_next S.out H e1 g)
          clear H e1 g hm
          go_wp2_with (fail)
          go_end0
          exact st_fin S.out E.out
set_option maxHeartbeats 8000000 in
set_option maxRecDepth 100000 in
theorem ww_st13 {z : Wz} {r : Wm → Tr → Wr → WR} (A : AllWr z r) {x : Tr} {s0 : Wr} {n h0 : Nat} {w : World} (hx : SubT z.N n x) (hrow : RowT x = true) (H0 : WA z s0 h0 w) (ho : wstep r .statement x s0 ≠ .out) (hk : x.kind = 13) : Calls Tryz.prog 55 #[.pointer (some ⟨z.b, 0, none⟩), .int .i64 (n : Int)] w (WRes z h0 w (wstep r .statement x s0)) := by
  have _ := A
  have _ := And.intro hx hrow
  generalize hR : wstep r .statement x s0 = R at ho ⊢
  have HO := Lib.hid ho
  dsimp only [wstep] at hR
  rw [hk] at hR
  rw [if_neg (by decide), if_neg (by decide), if_neg (by decide), if_neg (by decide), if_neg (by decide), if_neg (by decide), if_neg (by decide), if_neg (by decide), if_neg (by decide), if_pos (by decide)] at hR
  have E := Lib.hid hR.symm
  clear hR ho
  have hst := store_f
  have HKD := Lib.hid hk
  clear hk
  obtain ⟨v, hb, _, _⟩ := H0.blk
  obtain ⟨a, K, ck, ha, hal, hn, a0, a1, a2, a3, a4, hK⟩ := node_at H0 hx
  have c0 : w.cell? ⟨z.b, 0, none⟩ = some (.slice z.A z.N.length z.cap) := blk_cell hb 0
  rw [ha] at c0
  have hn1 : (n : Int) < (z.N.length : Int) := by omega
  have hn0 : (0 : Int) ≤ (n : Int) := by omega
  have hn2 : ((n : Int)).toNat = n := by omega
  have hab : (a.add (n * 5)).block < w.heap.size := by rw [block_of_add]; exact hal
  have hzl := lt_of_blk hb
  have S := Lib.hid (st_begin (ck := ck) (n := n) (x := x) H0 (.inl rfl) (Fr.refl _ _ _) hK)
  clear hb hK H0
  go_enter Tryz.func55, Tryz.ntmps55
  go_upto_region 1 with (fail)
  generalize w.alloc (.cells #[.int .u8 (x.kind : Int), .int .i64 x.pos, .string x.text, .float .f64 x.num, .slice K x.kids.length ck] 44) = W at S ⊢
  clear a0 a1 a2 a3 a4 c0 hab hzl hn1 hn2
  obtain ⟨d0, d1, d2, d3, d4⟩ := nc5 S.out.blk
  have hnl := lt_of_blk S.out.blk
  rw [HKD.out] at d0
  go_wp2_with (fail)
  go_at_call 9
  refine (Kind_w 13 (by omega) _).mono ?_
  rintro e w1 ⟨rfl, g⟩
  have S := Lib.hid (st_up S.out g)
  clear g
  obtain ⟨d0, d1, d2, d3, d4⟩ := nc5 S.out.blk
  have hnl := lt_of_blk S.out.blk
  rw [HKD.out] at d0
  go_wp2_with (fail)
  go_at_call 73
  refine (say_two S.out.H (kindW 13) (⟨#[59]⟩ : ByteArray) 9).mono ?_
  rintro e w2 hr
  cases hm : saysW [(kindW 13), (⟨#[59]⟩ : ByteArray)] s0 with
  | out => exact absurd hm (says_out _ _)
  | bad u => rw [hm] at hr; obtain ⟨rfl, g⟩ := hr; exact ⟨rfl, wres_bad (E.out.trans hm) (st_bad S.out g)⟩
  | ok s2 =>
    rw [hm] at hr
    obtain ⟨rfl, h2, H, e1, g⟩ := hr
    have E := Lib.hid (E.out.trans hm)
    have S := Lib.hid (st_next S.out H e1 g)
    clear H e1 g hm
    go_wp2_with (fail)
    go_end0
    exact st_fin S.out E.out
set_option maxHeartbeats 8000000 in
set_option maxRecDepth 100000 in
theorem ww_st14 {z : Wz} {r : Wm → Tr → Wr → WR} (A : AllWr z r) {x : Tr} {s0 : Wr} {n h0 : Nat} {w : World} (hx : SubT z.N n x) (hrow : RowT x = true) (H0 : WA z s0 h0 w) (ho : wstep r .statement x s0 ≠ .out) (hk : x.kind = 14) : Calls Tryz.prog 55 #[.pointer (some ⟨z.b, 0, none⟩), .int .i64 (n : Int)] w (WRes z h0 w (wstep r .statement x s0)) := by
  have _ := A
  have _ := And.intro hx hrow
  generalize hR : wstep r .statement x s0 = R at ho ⊢
  have HO := Lib.hid ho
  dsimp only [wstep] at hR
  rw [hk] at hR
  rw [if_neg (by decide), if_neg (by decide), if_neg (by decide), if_neg (by decide), if_neg (by decide), if_neg (by decide), if_neg (by decide), if_neg (by decide), if_neg (by decide), if_pos (by decide)] at hR
  have E := Lib.hid hR.symm
  clear hR ho
  have hst := store_f
  have HKD := Lib.hid hk
  clear hk
  obtain ⟨v, hb, _, _⟩ := H0.blk
  obtain ⟨a, K, ck, ha, hal, hn, a0, a1, a2, a3, a4, hK⟩ := node_at H0 hx
  have c0 : w.cell? ⟨z.b, 0, none⟩ = some (.slice z.A z.N.length z.cap) := blk_cell hb 0
  rw [ha] at c0
  have hn1 : (n : Int) < (z.N.length : Int) := by omega
  have hn0 : (0 : Int) ≤ (n : Int) := by omega
  have hn2 : ((n : Int)).toNat = n := by omega
  have hab : (a.add (n * 5)).block < w.heap.size := by rw [block_of_add]; exact hal
  have hzl := lt_of_blk hb
  have S := Lib.hid (st_begin (ck := ck) (n := n) (x := x) H0 (.inl rfl) (Fr.refl _ _ _) hK)
  clear hb hK H0
  go_enter Tryz.func55, Tryz.ntmps55
  go_upto_region 1 with (fail)
  generalize w.alloc (.cells #[.int .u8 (x.kind : Int), .int .i64 x.pos, .string x.text, .float .f64 x.num, .slice K x.kids.length ck] 44) = W at S ⊢
  clear a0 a1 a2 a3 a4 c0 hab hzl hn1 hn2
  obtain ⟨d0, d1, d2, d3, d4⟩ := nc5 S.out.blk
  have hnl := lt_of_blk S.out.blk
  rw [HKD.out] at d0
  go_wp2_with (fail)
  go_at_call 9
  refine (Kind_w 14 (by omega) _).mono ?_
  rintro e w1 ⟨rfl, g⟩
  have S := Lib.hid (st_up S.out g)
  clear g
  obtain ⟨d0, d1, d2, d3, d4⟩ := nc5 S.out.blk
  have hnl := lt_of_blk S.out.blk
  rw [HKD.out] at d0
  go_wp2_with (fail)
  go_at_call 73
  refine (say_two S.out.H (kindW 14) (⟨#[59]⟩ : ByteArray) 9).mono ?_
  rintro e w2 hr
  cases hm : saysW [(kindW 14), (⟨#[59]⟩ : ByteArray)] s0 with
  | out => exact absurd hm (says_out _ _)
  | bad u => rw [hm] at hr; obtain ⟨rfl, g⟩ := hr; exact ⟨rfl, wres_bad (E.out.trans hm) (st_bad S.out g)⟩
  | ok s2 =>
    rw [hm] at hr
    obtain ⟨rfl, h2, H, e1, g⟩ := hr
    have E := Lib.hid (E.out.trans hm)
    have S := Lib.hid (st_next S.out H e1 g)
    clear H e1 g hm
    go_wp2_with (fail)
    go_end0
    exact st_fin S.out E.out
set_option maxHeartbeats 8000000 in
set_option maxRecDepth 100000 in
theorem ww_st6 {z : Wz} {r : Wm → Tr → Wr → WR} (A : AllWr z r) {x : Tr} {s0 : Wr} {n h0 : Nat} {w : World} (hx : SubT z.N n x) (hrow : RowT x = true) (H0 : WA z s0 h0 w) (ho : wstep r .statement x s0 ≠ .out) (hk : x.kind = 6) : Calls Tryz.prog 55 #[.pointer (some ⟨z.b, 0, none⟩), .int .i64 (n : Int)] w (WRes z h0 w (wstep r .statement x s0)) := by
  have _ := A
  have _ := And.intro hx hrow
  generalize hR : wstep r .statement x s0 = R at ho ⊢
  have HO := Lib.hid ho
  dsimp only [wstep] at hR
  rw [hk] at hR
  rw [if_neg (by decide), if_neg (by decide), if_neg (by decide), if_neg (by decide), if_pos (by decide)] at hR
  have E := Lib.hid hR.symm
  clear hR ho
  have hst := store_f
  have hlen : x.kids.length = 1 := kids_len6 hrow hk
  have HLA := Lib.hid hlen
  have hi0 : 0 < x.kids.length := by omega
  clear hlen
  have HKD := Lib.hid hk
  clear hk
  obtain ⟨v, hb, _, _⟩ := H0.blk
  obtain ⟨a, K, ck, ha, hal, hn, a0, a1, a2, a3, a4, hK⟩ := node_at H0 hx
  have c0 : w.cell? ⟨z.b, 0, none⟩ = some (.slice z.A z.N.length z.cap) := blk_cell hb 0
  rw [ha] at c0
  have hn1 : (n : Int) < (z.N.length : Int) := by omega
  have hn0 : (0 : Int) ≤ (n : Int) := by omega
  have hn2 : ((n : Int)).toNat = n := by omega
  have hab : (a.add (n * 5)).block < w.heap.size := by rw [block_of_add]; exact hal
  have hzl := lt_of_blk hb
  obtain ⟨ka, rfl⟩ := kids_addr hK (by assumption)
  have S := Lib.hid (st_begin (ck := ck) (n := n) (x := x) H0 (.inl rfl) (Fr.refl _ _ _) hK)
  clear hb hK H0
  go_enter Tryz.func55, Tryz.ntmps55
  go_upto_region 1 with (fail)
  generalize w.alloc (.cells #[.int .u8 (x.kind : Int), .int .i64 x.pos, .string x.text, .float .f64 x.num, .slice (some ka) x.kids.length ck] 44) = W at S ⊢
  clear a0 a1 a2 a3 a4 c0 hab hzl hn1 hn2
  obtain ⟨d0, d1, d2, d3, d4⟩ := nc5 S.out.blk
  have hnl := lt_of_blk S.out.blk
  obtain ⟨hal, kc0, hxk0⟩ := st_kid S.out hx (i := 0) (by first | assumption | omega)
  replace kc0 : W.cell? ka = some (.int .i64 (kidNo n x 0 : Nat)) := kc0
  rw [HKD.out] at d0
  rw [HLA.out] at d4
  obtain ⟨nv, hnb, hnr, _⟩ := S.out.H.blk
  obtain ⟨tA, tcap, rfl⟩ := wown_shape hnr
  have c1 : W.cell? ⟨z.b, 1, none⟩ = some (.slice tA s0.toks.length tcap) := blk_cell hnb 1
  have c2 : W.cell? ⟨z.b, 2, none⟩ = some (.int .i64 s0.first) := blk_cell hnb 2
  have c3 : ∀ i, W.frozen? ⟨z.b, i, none⟩ = false := fun i => fz_blk hnb i
  have hzb := lt_of_blk hnb
  clear hnb hnr
  go_upto_region 16 with (fail)
  have S := Lib.hid (st_first S.out (s0.toks.length : Int))
  clear d0 d1 d2 d3 d4 hnl hal kc0 c1 c2 c3 hzb hxk0
  generalize W.setCell ⟨z.b, 2, none⟩ (.int .i64 (s0.toks.length : Int)) = W2 at S ⊢
  obtain ⟨s1, hs1⟩ : ∃ s1 : Wr, s1 = { s0 with first := (s0.toks.length : Int) } := ⟨_, rfl⟩
  rw [← hs1] at S E
  clear hs1
  obtain ⟨d0, d1, d2, d3, d4⟩ := nc5 S.out.blk
  have hnl := lt_of_blk S.out.blk
  obtain ⟨hal, kc0, hxk0⟩ := st_kid S.out hx (i := 0) (by first | assumption | omega)
  replace kc0 : W2.cell? ka = some (.int .i64 (kidNo n x 0 : Nat)) := kc0
  rw [HKD.out] at d0
  rw [HLA.out] at d4
  go_wp2_with (fail)
  have hno := Lib.hid (show r .value (x.kid 0) s1 ≠ .out from fun e => HO.out (E.out.trans (WR.b1_out e _)))
  go_at_call 77
  refine (A.value (x.kid 0) s1 _ _ _ hxk0 (rowT_kid hrow (by first | assumption | omega)) S.out.H hno.out).mono ?_
  rintro e w2 hr
  cases hm : r .value (x.kid 0) s1 with
  | out => exact absurd hm hno.out
  | bad u => rw [hm] at hr; obtain ⟨rfl, g⟩ := hr; exact ⟨rfl, wres_bad (E.out.trans (WR.b1_bad hm _)) (st_bad S.out g)⟩
  | ok s2 =>
    rw [hm] at hr
    obtain ⟨rfl, h2, H, e1, g⟩ := hr
    have E := Lib.hid (E.out.trans (WR.b1_ok hm _))
    have S := Lib.hid (st_next S.out H e1 g)
    clear H e1 g hm
    obtain ⟨d0, d1, d2, d3, d4⟩ := nc5 S.out.blk
    have hnl := lt_of_blk S.out.blk
    rw [HKD.out] at d0
    rw [HLA.out] at d4
    go_wp2_with (fail)
    go_at_call 73
    refine (say_one S.out.H (⟨#[59]⟩ : ByteArray) 9).mono ?_
    rintro e w3 hr
    cases hm : saysW [(⟨#[59]⟩ : ByteArray)] s2 with
    | out => exact absurd hm (says_out _ _)
    | bad u => rw [hm] at hr; obtain ⟨rfl, g⟩ := hr; exact ⟨rfl, wres_bad (E.out.trans hm) (st_bad S.out g)⟩
    | ok s3 =>
      rw [hm] at hr
      obtain ⟨rfl, h3, H, e1, g⟩ := hr
      have E := Lib.hid (E.out.trans hm)
      have S := Lib.hid (st_next S.out H e1 g)
      clear H e1 g hm
      go_wp2_with (fail)
      go_end0
      exact st_fin S.out E.out
set_option maxHeartbeats 8000000 in
set_option maxRecDepth 100000 in
theorem ww_stx {z : Wz} {r : Wm → Tr → Wr → WR} (A : AllWr z r) {x : Tr} {s0 : Wr} {n h0 : Nat} {w : World} (hx : SubT z.N n x) (hrow : RowT x = true) (H0 : WA z s0 h0 w) (ho : wstep r .statement x s0 ≠ .out) (hk : x.kind ∉ ([2, 15, 3, 4, 5, 6, 7, 8, 9, 10, 11, 12, 13, 14, 16] : List Nat)) : Calls Tryz.prog 55 #[.pointer (some ⟨z.b, 0, none⟩), .int .i64 (n : Int)] w (WRes z h0 w (wstep r .statement x s0)) := by
  have _ := A
  have _ := And.intro hx hrow
  generalize hR : wstep r .statement x s0 = R at ho ⊢
  have HO := Lib.hid ho
  dsimp only [wstep] at hR
  have hk2 := hk
  simp only [List.mem_cons, List.not_mem_nil, or_false, not_or] at hk2
  rw [if_neg (by omega), if_neg (by omega), if_neg (by omega), if_neg (by omega), if_neg (by omega), if_neg (by omega), if_neg (by omega), if_neg (by omega), if_neg (by omega), if_neg (by omega), if_neg (by omega)] at hR
  have E := Lib.hid hR.symm
  clear hR ho
  have hst := store_f
  have f2 : ((x.kind : Int) == 2) = false := by rw [beq_eq_false_iff_ne]; have := hk; simp at this; omega
  have f15 : ((x.kind : Int) == 15) = false := by rw [beq_eq_false_iff_ne]; have := hk; simp at this; omega
  have f3 : ((x.kind : Int) == 3) = false := by rw [beq_eq_false_iff_ne]; have := hk; simp at this; omega
  have f4 : ((x.kind : Int) == 4) = false := by rw [beq_eq_false_iff_ne]; have := hk; simp at this; omega
  have f5 : ((x.kind : Int) == 5) = false := by rw [beq_eq_false_iff_ne]; have := hk; simp at this; omega
  have f6 : ((x.kind : Int) == 6) = false := by rw [beq_eq_false_iff_ne]; have := hk; simp at this; omega
  have f7 : ((x.kind : Int) == 7) = false := by rw [beq_eq_false_iff_ne]; have := hk; simp at this; omega
  have f8 : ((x.kind : Int) == 8) = false := by rw [beq_eq_false_iff_ne]; have := hk; simp at this; omega
  have f9 : ((x.kind : Int) == 9) = false := by rw [beq_eq_false_iff_ne]; have := hk; simp at this; omega
  have f10 : ((x.kind : Int) == 10) = false := by rw [beq_eq_false_iff_ne]; have := hk; simp at this; omega
  have f11 : ((x.kind : Int) == 11) = false := by rw [beq_eq_false_iff_ne]; have := hk; simp at this; omega
  have f12 : ((x.kind : Int) == 12) = false := by rw [beq_eq_false_iff_ne]; have := hk; simp at this; omega
  have f13 : ((x.kind : Int) == 13) = false := by rw [beq_eq_false_iff_ne]; have := hk; simp at this; omega
  have f14 : ((x.kind : Int) == 14) = false := by rw [beq_eq_false_iff_ne]; have := hk; simp at this; omega
  have f16 : ((x.kind : Int) == 16) = false := by rw [beq_eq_false_iff_ne]; have := hk; simp at this; omega
  clear hk HO
  obtain ⟨v, hb, _, _⟩ := H0.blk
  obtain ⟨a, K, ck, ha, hal, hn, a0, a1, a2, a3, a4, hK⟩ := node_at H0 hx
  have c0 : w.cell? ⟨z.b, 0, none⟩ = some (.slice z.A z.N.length z.cap) := blk_cell hb 0
  rw [ha] at c0
  have hn1 : (n : Int) < (z.N.length : Int) := by omega
  have hn0 : (0 : Int) ≤ (n : Int) := by omega
  have hn2 : ((n : Int)).toNat = n := by omega
  have hab : (a.add (n * 5)).block < w.heap.size := by rw [block_of_add]; exact hal
  have hzl := lt_of_blk hb
  have S := Lib.hid (st_begin (ck := ck) (n := n) (x := x) H0 (.inl rfl) (Fr.refl _ _ _) hK)
  clear hb hK H0
  go_enter Tryz.func55, Tryz.ntmps55
  go_upto_region 1 with (fail)
  generalize w.alloc (.cells #[.int .u8 (x.kind : Int), .int .i64 x.pos, .string x.text, .float .f64 x.num, .slice K x.kids.length ck] 44) = W at S ⊢
  clear a0 a1 a2 a3 a4 c0 hab hzl hn1 hn2
  obtain ⟨d0, d1, d2, d3, d4⟩ := nc5 S.out.blk
  have hnl := lt_of_blk S.out.blk
  go_wp2_with (fail)
  go_at_call 83
  refine (refuse_w z _).mono ?_
  rintro e wz ⟨rfl, g⟩
  exact ⟨rfl, wres_bad E.out (st_bad S.out (Fr.below g))⟩
theorem ww_statement {z : Wz} {r : Wm → Tr → Wr → WR} (A : AllWr z r) : ByNo z 55 (wstep r .statement) := by
  intro x s n h w hx hrow H ho
  by_cases h2 : x.kind = 2
  · exact ww_st2 A hx hrow H ho h2
  by_cases h15 : x.kind = 15
  · exact ww_st15 A hx hrow H ho h15
  by_cases h3 : x.kind = 3
  · exact ww_st3 A hx hrow H ho h3
  by_cases h4 : x.kind = 4
  · exact ww_st4 A hx hrow H ho h4
  by_cases h5 : x.kind = 5
  · exact ww_st5 A hx hrow H ho h5
  by_cases h6 : x.kind = 6
  · exact ww_st6 A hx hrow H ho h6
  by_cases h7 : x.kind = 7
  · exact ww_st7 A hx hrow H ho h7
  by_cases h8 : x.kind = 8
  · exact ww_st8 A hx hrow H ho h8
  by_cases h9 : x.kind = 9
  · exact ww_st9 A hx hrow H ho h9
  by_cases h10 : x.kind = 10
  · exact ww_st10 A hx hrow H ho h10
  by_cases h11 : x.kind = 11
  · exact ww_st11 A hx hrow H ho h11
  by_cases h12 : x.kind = 12
  · exact ww_st12 A hx hrow H ho h12
  by_cases h13 : x.kind = 13
  · exact ww_st13 A hx hrow H ho h13
  by_cases h14 : x.kind = 14
  · exact ww_st14 A hx hrow H ho h14
  by_cases h16 : x.kind = 16
  · exact ww_st16 A hx hrow H ho h16
  exact ww_stx A hx hrow H ho (by simp only [List.mem_cons, List.not_mem_nil, or_false, not_or]; exact ⟨h2, h15, h3, h4, h5, h6, h7, h8, h9, h10, h11, h12, h13, h14, h16⟩)
end Go.Proofs.YtablckajobefeaaGreatDoor.S
