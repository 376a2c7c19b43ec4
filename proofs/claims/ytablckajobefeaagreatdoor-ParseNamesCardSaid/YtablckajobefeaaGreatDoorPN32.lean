/-
  The writer's bare: walks. Generated: gen_writ.py.
-/
import Derived.Test.YtablckajobefeaaGreatDoorPN31
import Derived.Test.YtablckajobefeaaGreatDoorPN26
namespace Go.Proofs.YtablckajobefeaaGreatDoor.S
open Go.RowKit Fl

theorem put_out (k : Nat) (t : ByteArray) (x : Nat) (s : Wr) : putW k t x s ≠ .out := by
  unfold putW
  split
  · intro h; cases h
  · intro h; cases h
theorem kind_lt {x : Tr} (h : RowT x = true) : x.kind < 44 := by
  have h1 := (rowT_kids h).1
  unfold kidsB at h1
  generalize x.kind = k at *
  (repeat' split at h1) <;> first | omega | exact absurd h1 (by decide)
set_option maxHeartbeats 2000000 in
set_option maxRecDepth 100000 in
theorem wtarget_yes {z : Wz} {s : Wr} {h : Nat} {w : World} (H : WA z s h w) {n : Nat} {x : Tr} (hx : SubT z.N n x) (ht : targetB x.kind = true) : Calls Tryz.prog 160 #[.pointer (some ⟨z.b, 0, none⟩), .int .i64 (n : Int)] w fun e w' => e = .returned (.int .i64 (n : Int)) ∧ Below w.heap.size w w' := by
  obtain ⟨v, hb, _, _⟩ := H.blk
  obtain ⟨a, K, ck, ha, hal, hn, a0, _⟩ := node_at H hx
  have c0 : w.cell? ⟨z.b, 0, none⟩ = some (.slice z.A z.N.length z.cap) := blk_cell hb 0
  rw [ha] at c0
  have hn1 : (n : Int) < (z.N.length : Int) := by omega
  have hn0 : (0 : Int) ≤ (n : Int) := by omega
  have hn2 : ((n : Int)).toNat = n := by omega
  have kt := fun W => target_p x.kind W
  rw [ht] at kt
  clear hb
  go_enter Tryz.func160, Tryz.ntmps160
  go_wp2_with (go_at_call 173; refine (kt _).mono ?_; rintro e wl ⟨rfl, rfl⟩)
  go_ret
  exact ⟨rfl, Below.refl _ _⟩
set_option maxHeartbeats 2000000 in
set_option maxRecDepth 100000 in
theorem wtarget_no {z : Wz} {s : Wr} {h : Nat} {w : World} (H : WA z s h w) {n : Nat} {x : Tr} (hx : SubT z.N n x) (ht : targetB x.kind = false) : Calls Tryz.prog 160 #[.pointer (some ⟨z.b, 0, none⟩), .int .i64 (n : Int)] w fun e w' => e = .panicked [{ v := .iface 67 (.agg #[.int .i64 0, .int .i64 5]), recovered := false }] ∧ Below w.heap.size w w' := by
  obtain ⟨v, hb, _, _⟩ := H.blk
  obtain ⟨a, K, ck, ha, hal, hn, a0, _⟩ := node_at H hx
  have c0 : w.cell? ⟨z.b, 0, none⟩ = some (.slice z.A z.N.length z.cap) := blk_cell hb 0
  rw [ha] at c0
  have hn1 : (n : Int) < (z.N.length : Int) := by omega
  have hn0 : (0 : Int) ≤ (n : Int) := by omega
  have hn2 : ((n : Int)).toNat = n := by omega
  have kt := fun W => target_p x.kind W
  rw [ht] at kt
  clear hb
  go_enter Tryz.func160, Tryz.ntmps160
  go_wp2_with (go_at_call 173; refine (kt _).mono ?_; rintro e wl ⟨rfl, rfl⟩)
  go_at_call 83
  refine (refuse_w z _).mono ?_
  rintro e w1 ⟨rfl, g⟩
  exact ⟨rfl, rfl, g⟩
set_option maxHeartbeats 8000000 in
set_option maxRecDepth 100000 in
theorem ww_bare20 {z : Wz} {r : Wm → Tr → Wr → WR} (A : AllWr z r) {x : Tr} {s0 : Wr} {n h0 : Nat} {w : World} {K : Option Addr} {ck : Nat} {q : Nat} (hx : SubT z.N n x) (hrow : RowT x = true) (hK0 : KidsI w (fun k => k < z.b) K ck (intsI (KidsT (n + 1) x.kids))) (H0 : WA z s0 h0 w) (ho : wstep r (.bare q) x s0 ≠ .out) (hk : x.kind = 20) : Calls Tryz.prog 138 #[.pointer (some ⟨z.b, 0, none⟩), nodeV x K ck, .int .i64 (q : Int)] w (WRes z h0 w (wstep r (.bare q) x s0)) := by
  have _ := A
  have _ := And.intro hx hrow
  generalize hR : wstep r (.bare q) x s0 = R at ho ⊢
  have HO := Lib.hid ho
  dsimp only [wstep] at hR
  rw [hk] at hR
  rw [if_pos (by decide)] at hR
  have E := Lib.hid hR.symm
  clear hR ho
  have hst := store_f
  have HKD := Lib.hid hk
  clear hk
  have S := Lib.hid (st_begin (ck := ck) (n := n) (x := x) H0 (.inl rfl) (Fr.refl _ _ _) hK0)
  clear H0 hK0
  unfold nodeV
  go_enter Tryz.func138, Tryz.ntmps138
  go_upto_region 1 with (fail)
  generalize w.alloc (.cells #[.int .u8 (x.kind : Int), .int .i64 x.pos, .string x.text, .float .f64 x.num, .slice K x.kids.length ck] 44) = W at S ⊢
  obtain ⟨d0, d1, d2, d3, d4⟩ := nc5 S.out.blk
  have hnl := lt_of_blk S.out.blk
  rw [HKD.out] at d0
  go_wp2_with (fail)
  go_at_call 111
  refine (put_p S.out.H 3 ⟨#[]⟩ x.num).mono ?_
  rintro e w1 hr
  cases hm : putW 3 ⟨#[]⟩ x.num s0 with
  | out => exact absurd hm (put_out _ _ _ _)
  | bad u => rw [hm] at hr; obtain ⟨rfl, g⟩ := hr; exact ⟨rfl, wres_bad (E.out.trans hm) (st_bad S.out g)⟩
  | ok s1 =>
    rw [hm] at hr
    obtain ⟨rfl, h1, H, e1, g⟩ := hr
    have E := Lib.hid (E.out.trans hm)
    have S := Lib.hid (st_next S.out H e1 g)
    clear H e1 g hm
    go_wp2_with (fail)
    go_end0
    exact st_fin S.out E.out
set_option maxHeartbeats 8000000 in
set_option maxRecDepth 100000 in
theorem ww_bare21 {z : Wz} {r : Wm → Tr → Wr → WR} (A : AllWr z r) {x : Tr} {s0 : Wr} {n h0 : Nat} {w : World} {K : Option Addr} {ck : Nat} {q : Nat} (hx : SubT z.N n x) (hrow : RowT x = true) (hK0 : KidsI w (fun k => k < z.b) K ck (intsI (KidsT (n + 1) x.kids))) (H0 : WA z s0 h0 w) (ho : wstep r (.bare q) x s0 ≠ .out) (hk : x.kind = 21) : Calls Tryz.prog 138 #[.pointer (some ⟨z.b, 0, none⟩), nodeV x K ck, .int .i64 (q : Int)] w (WRes z h0 w (wstep r (.bare q) x s0)) := by
  have _ := A
  have _ := And.intro hx hrow
  generalize hR : wstep r (.bare q) x s0 = R at ho ⊢
  have HO := Lib.hid ho
  dsimp only [wstep] at hR
  rw [hk] at hR
  rw [if_neg (by decide), if_pos (by decide)] at hR
  have E := Lib.hid hR.symm
  clear hR ho
  have hst := store_f
  have HKD := Lib.hid hk
  clear hk
  have S := Lib.hid (st_begin (ck := ck) (n := n) (x := x) H0 (.inl rfl) (Fr.refl _ _ _) hK0)
  clear H0 hK0
  unfold nodeV
  go_enter Tryz.func138, Tryz.ntmps138
  go_upto_region 1 with (fail)
  generalize w.alloc (.cells #[.int .u8 (x.kind : Int), .int .i64 x.pos, .string x.text, .float .f64 x.num, .slice K x.kids.length ck] 44) = W at S ⊢
  obtain ⟨d0, d1, d2, d3, d4⟩ := nc5 S.out.blk
  have hnl := lt_of_blk S.out.blk
  rw [HKD.out] at d0
  go_wp2_with (fail)
  go_at_call 111
  refine (put_p S.out.H 4 x.text 0).mono ?_
  rintro e w1 hr
  cases hm : putW 4 x.text 0 s0 with
  | out => exact absurd hm (put_out _ _ _ _)
  | bad u => rw [hm] at hr; obtain ⟨rfl, g⟩ := hr; exact ⟨rfl, wres_bad (E.out.trans hm) (st_bad S.out g)⟩
  | ok s1 =>
    rw [hm] at hr
    obtain ⟨rfl, h1, H, e1, g⟩ := hr
    have E := Lib.hid (E.out.trans hm)
    have S := Lib.hid (st_next S.out H e1 g)
    clear H e1 g hm
    go_wp2_with (fail)
    go_end0
    exact st_fin S.out E.out
set_option maxHeartbeats 8000000 in
set_option maxRecDepth 100000 in
theorem ww_bare26 {z : Wz} {r : Wm → Tr → Wr → WR} (A : AllWr z r) {x : Tr} {s0 : Wr} {n h0 : Nat} {w : World} {K : Option Addr} {ck : Nat} {q : Nat} (hx : SubT z.N n x) (hrow : RowT x = true) (hK0 : KidsI w (fun k => k < z.b) K ck (intsI (KidsT (n + 1) x.kids))) (H0 : WA z s0 h0 w) (ho : wstep r (.bare q) x s0 ≠ .out) (hk : x.kind = 26) : Calls Tryz.prog 138 #[.pointer (some ⟨z.b, 0, none⟩), nodeV x K ck, .int .i64 (q : Int)] w (WRes z h0 w (wstep r (.bare q) x s0)) := by
  have _ := A
  have _ := And.intro hx hrow
  generalize hR : wstep r (.bare q) x s0 = R at ho ⊢
  have HO := Lib.hid ho
  dsimp only [wstep] at hR
  rw [hk] at hR
  rw [if_neg (by decide), if_neg (by decide), if_pos (by decide)] at hR
  have E := Lib.hid hR.symm
  clear hR ho
  have hst := store_f
  have HKD := Lib.hid hk
  clear hk
  have S := Lib.hid (st_begin (ck := ck) (n := n) (x := x) H0 (.inl rfl) (Fr.refl _ _ _) hK0)
  clear H0 hK0
  unfold nodeV
  go_enter Tryz.func138, Tryz.ntmps138
  go_upto_region 1 with (fail)
  generalize w.alloc (.cells #[.int .u8 (x.kind : Int), .int .i64 x.pos, .string x.text, .float .f64 x.num, .slice K x.kids.length ck] 44) = W at S ⊢
  obtain ⟨d0, d1, d2, d3, d4⟩ := nc5 S.out.blk
  have hnl := lt_of_blk S.out.blk
  rw [HKD.out] at d0
  go_wp2_with (fail)
  go_at_call 75
  refine (name_w S.out.H x.text).mono ?_
  rintro e w1 hr
  cases hm : nameW x.text s0 with
  | out => exact absurd hm (name_out _ _)
  | bad u => rw [hm] at hr; obtain ⟨rfl, g⟩ := hr; exact ⟨rfl, wres_bad (E.out.trans hm) (st_bad S.out g)⟩
  | ok s1 =>
    rw [hm] at hr
    obtain ⟨rfl, h1, H, e1, g⟩ := hr
    have E := Lib.hid (E.out.trans hm)
    have S := Lib.hid (st_next S.out H e1 g)
    clear H e1 g hm
    go_wp2_with (fail)
    go_end0
    exact st_fin S.out E.out
set_option maxHeartbeats 8000000 in
set_option maxRecDepth 100000 in
theorem ww_bare27a {z : Wz} {r : Wm → Tr → Wr → WR} (A : AllWr z r) {x : Tr} {s0 : Wr} {n h0 : Nat} {w : World} {K : Option Addr} {ck : Nat} {q : Nat} (hx : SubT z.N n x) (hrow : RowT x = true) (hK0 : KidsI w (fun k => k < z.b) K ck (intsI (KidsT (n + 1) x.kids))) (H0 : WA z s0 h0 w) (ho : wstep r (.bare q) x s0 ≠ .out) (hk : x.kind = 27) (ht : x.text.toList.isEmpty = true) : Calls Tryz.prog 138 #[.pointer (some ⟨z.b, 0, none⟩), nodeV x K ck, .int .i64 (q : Int)] w (WRes z h0 w (wstep r (.bare q) x s0)) := by
  have _ := A
  have _ := And.intro hx hrow
  generalize hR : wstep r (.bare q) x s0 = R at ho ⊢
  have HO := Lib.hid ho
  dsimp only [wstep] at hR
  rw [hk] at hR
  rw [if_neg (by decide), if_neg (by decide), if_neg (by decide), if_pos (by decide)] at hR
  have E := Lib.hid hR.symm
  clear hR ho
  have hst := store_f
  have hpos := kids_pos27 hrow hk
  have HKD := Lib.hid hk
  clear hk
  have S := Lib.hid (st_begin (ck := ck) (n := n) (x := x) H0 (.inl rfl) (Fr.refl _ _ _) hK0)
  clear H0 hK0
  unfold nodeV
  go_enter Tryz.func138, Tryz.ntmps138
  go_upto_region 1 with (fail)
  generalize w.alloc (.cells #[.int .u8 (x.kind : Int), .int .i64 x.pos, .string x.text, .float .f64 x.num, .slice K x.kids.length ck] 44) = W at S ⊢
  obtain ⟨d0, d1, d2, d3, d4⟩ := nc5 S.out.blk
  have hnl := lt_of_blk S.out.blk
  rw [HKD.out] at d0
  go_wp2_with (fail)
  go_at_call 73
  refine (say_one S.out.H (⟨#[102, 117, 110, 99, 116, 105, 111, 110]⟩ : ByteArray) 9).mono ?_
  rintro e w1 hr
  cases hm : saysW [(⟨#[102, 117, 110, 99, 116, 105, 111, 110]⟩ : ByteArray)] s0 with
  | out => exact absurd hm (says_out _ _)
  | bad u => rw [hm] at hr; obtain ⟨rfl, g⟩ := hr; exact ⟨rfl, wres_bad (E.out.trans (WR.b1_bad hm _)) (st_bad S.out g)⟩
  | ok s1 =>
    rw [hm] at hr
    obtain ⟨rfl, h1, H, e1, g⟩ := hr
    have E := Lib.hid (E.out.trans (WR.b1_ok hm _))
    have S := Lib.hid (st_next S.out H e1 g)
    clear H e1 g hm
    obtain ⟨d0, d1, d2, d3, d4⟩ := nc5 S.out.blk
    have hnl := lt_of_blk S.out.blk
    rw [HKD.out] at d0
    have E := Lib.hid (E.out.trans (WR.if_t (by rw [empty_str]; exact ht)))
    go_wp2_with (fail)
    have hno := Lib.hid (show r .function x s1 ≠ .out from fun e => HO.out (E.out.trans e))
    have kn := A.function x s1 n _ _ K ck hpos hx hrow S.out.kids S.out.H hno.out
    rw [show nodeV x K ck = .agg #[.int .u8 27, .int .i64 x.pos, .string x.text, .float .f64 x.num, .slice K x.kids.length ck] by unfold nodeV; rw [HKD.out]; rfl] at kn
    go_at_call 76
    refine (kn).mono ?_
    rintro e w2 hr
    cases hm : r .function x s1 with
    | out => exact absurd hm hno.out
    | bad u => rw [hm] at hr; obtain ⟨rfl, g⟩ := hr; exact ⟨rfl, wres_bad (E.out.trans hm) (st_bad S.out g)⟩
    | ok s2 =>
      rw [hm] at hr
      obtain ⟨rfl, h2, H, e1, g⟩ := hr
      have E := Lib.hid (E.out.trans hm)
      have S := Lib.hid (st_next S.out H e1 g)
      clear H e1 g hm
      go_wp2_with (fail)
      go_end0
      exact st_fin S.out E.out
set_option maxHeartbeats 8000000 in
set_option maxRecDepth 100000 in
theorem ww_bare27b {z : Wz} {r : Wm → Tr → Wr → WR} (A : AllWr z r) {x : Tr} {s0 : Wr} {n h0 : Nat} {w : World} {K : Option Addr} {ck : Nat} {q : Nat} (hx : SubT z.N n x) (hrow : RowT x = true) (hK0 : KidsI w (fun k => k < z.b) K ck (intsI (KidsT (n + 1) x.kids))) (H0 : WA z s0 h0 w) (ho : wstep r (.bare q) x s0 ≠ .out) (hk : x.kind = 27) (ht : x.text.toList.isEmpty = false) : Calls Tryz.prog 138 #[.pointer (some ⟨z.b, 0, none⟩), nodeV x K ck, .int .i64 (q : Int)] w (WRes z h0 w (wstep r (.bare q) x s0)) := by
  have _ := A
  have _ := And.intro hx hrow
  generalize hR : wstep r (.bare q) x s0 = R at ho ⊢
  have HO := Lib.hid ho
  dsimp only [wstep] at hR
  rw [hk] at hR
  rw [if_neg (by decide), if_neg (by decide), if_neg (by decide), if_pos (by decide)] at hR
  have E := Lib.hid hR.symm
  clear hR ho
  have hst := store_f
  have hpos := kids_pos27 hrow hk
  have HKD := Lib.hid hk
  clear hk
  have S := Lib.hid (st_begin (ck := ck) (n := n) (x := x) H0 (.inl rfl) (Fr.refl _ _ _) hK0)
  clear H0 hK0
  unfold nodeV
  go_enter Tryz.func138, Tryz.ntmps138
  go_upto_region 1 with (fail)
  generalize w.alloc (.cells #[.int .u8 (x.kind : Int), .int .i64 x.pos, .string x.text, .float .f64 x.num, .slice K x.kids.length ck] 44) = W at S ⊢
  obtain ⟨d0, d1, d2, d3, d4⟩ := nc5 S.out.blk
  have hnl := lt_of_blk S.out.blk
  rw [HKD.out] at d0
  go_wp2_with (fail)
  go_at_call 73
  refine (say_one S.out.H (⟨#[102, 117, 110, 99, 116, 105, 111, 110]⟩ : ByteArray) 9).mono ?_
  rintro e w1 hr
  cases hm : saysW [(⟨#[102, 117, 110, 99, 116, 105, 111, 110]⟩ : ByteArray)] s0 with
  | out => exact absurd hm (says_out _ _)
  | bad u => rw [hm] at hr; obtain ⟨rfl, g⟩ := hr; exact ⟨rfl, wres_bad (E.out.trans (WR.b1_bad hm _)) (st_bad S.out g)⟩
  | ok s1 =>
    rw [hm] at hr
    obtain ⟨rfl, h1, H, e1, g⟩ := hr
    have E := Lib.hid (E.out.trans (WR.b1_ok hm _))
    have S := Lib.hid (st_next S.out H e1 g)
    clear H e1 g hm
    obtain ⟨d0, d1, d2, d3, d4⟩ := nc5 S.out.blk
    have hnl := lt_of_blk S.out.blk
    rw [HKD.out] at d0
    have E := Lib.hid (E.out.trans (WR.if_f (by rw [empty_str, ht]; decide)))
    go_wp2_with (fail)
    go_at_call 75
    refine (name_w S.out.H x.text).mono ?_
    rintro e w2 hr
    cases hm : nameW x.text s1 with
    | out => exact absurd hm (name_out _ _)
    | bad u => rw [hm] at hr; obtain ⟨rfl, g⟩ := hr; exact ⟨rfl, wres_bad (E.out.trans (WR.b1_bad hm _)) (st_bad S.out g)⟩
    | ok s2 =>
      rw [hm] at hr
      obtain ⟨rfl, h2, H, e1, g⟩ := hr
      have E := Lib.hid (E.out.trans (WR.b1_ok hm _))
      have S := Lib.hid (st_next S.out H e1 g)
      clear H e1 g hm
      obtain ⟨d0, d1, d2, d3, d4⟩ := nc5 S.out.blk
      have hnl := lt_of_blk S.out.blk
      rw [HKD.out] at d0
      go_wp2_with (fail)
      have hno := Lib.hid (show r .function x s2 ≠ .out from fun e => HO.out (E.out.trans e))
      have kn := A.function x s2 n _ _ K ck hpos hx hrow S.out.kids S.out.H hno.out
      rw [show nodeV x K ck = .agg #[.int .u8 27, .int .i64 x.pos, .string x.text, .float .f64 x.num, .slice K x.kids.length ck] by unfold nodeV; rw [HKD.out]; rfl] at kn
      go_at_call 76
      refine (kn).mono ?_
      rintro e w3 hr
      cases hm : r .function x s2 with
      | out => exact absurd hm hno.out
      | bad u => rw [hm] at hr; obtain ⟨rfl, g⟩ := hr; exact ⟨rfl, wres_bad (E.out.trans hm) (st_bad S.out g)⟩
      | ok s3 =>
        rw [hm] at hr
        obtain ⟨rfl, h3, H, e1, g⟩ := hr
        have E := Lib.hid (E.out.trans hm)
        have S := Lib.hid (st_next S.out H e1 g)
        clear H e1 g hm
        go_wp2_with (fail)
        go_end0
        exact st_fin S.out E.out
set_option maxHeartbeats 8000000 in
set_option maxRecDepth 100000 in
theorem ww_bare28 {z : Wz} {r : Wm → Tr → Wr → WR} (A : AllWr z r) {x : Tr} {s0 : Wr} {n h0 : Nat} {w : World} {K : Option Addr} {ck : Nat} {q : Nat} (hx : SubT z.N n x) (hrow : RowT x = true) (hK0 : KidsI w (fun k => k < z.b) K ck (intsI (KidsT (n + 1) x.kids))) (H0 : WA z s0 h0 w) (ho : wstep r (.bare q) x s0 ≠ .out) (hk : x.kind = 28) : Calls Tryz.prog 138 #[.pointer (some ⟨z.b, 0, none⟩), nodeV x K ck, .int .i64 (q : Int)] w (WRes z h0 w (wstep r (.bare q) x s0)) := by
  have _ := A
  have _ := And.intro hx hrow
  generalize hR : wstep r (.bare q) x s0 = R at ho ⊢
  have HO := Lib.hid ho
  dsimp only [wstep] at hR
  rw [hk] at hR
  rw [if_neg (by decide), if_neg (by decide), if_neg (by decide), if_neg (by decide), if_pos (by decide)] at hR
  have E := Lib.hid hR.symm
  clear hR ho
  have hst := store_f
  have hfew : x.kids.length ≤ 16384 := kids_few hrow
  have HKD := Lib.hid hk
  clear hk
  have S := Lib.hid (st_begin (ck := ck) (n := n) (x := x) H0 (.inl rfl) (Fr.refl _ _ _) hK0)
  clear H0 hK0
  unfold nodeV
  go_enter Tryz.func138, Tryz.ntmps138
  go_upto_region 1 with (fail)
  generalize w.alloc (.cells #[.int .u8 (x.kind : Int), .int .i64 x.pos, .string x.text, .float .f64 x.num, .slice K x.kids.length ck] 44) = W at S ⊢
  obtain ⟨d0, d1, d2, d3, d4⟩ := nc5 S.out.blk
  have hnl := lt_of_blk S.out.blk
  rw [HKD.out] at d0
  go_wp2_with (fail)
  go_at_call 73
  refine (say_one S.out.H (⟨#[123]⟩ : ByteArray) 9).mono ?_
  rintro e w1 hr
  cases hm : saysW [(⟨#[123]⟩ : ByteArray)] s0 with
  | out => exact absurd hm (says_out _ _)
  | bad u => rw [hm] at hr; obtain ⟨rfl, g⟩ := hr; exact ⟨rfl, wres_bad (E.out.trans (WR.b1_bad hm _)) (st_bad S.out g)⟩
  | ok s1 =>
    rw [hm] at hr
    obtain ⟨rfl, h1, H, e1, g⟩ := hr
    have E := Lib.hid (E.out.trans (WR.b1_ok hm _))
    have S := Lib.hid (st_next S.out H e1 g)
    clear H e1 g hm
    obtain ⟨d0, d1, d2, d3, d4⟩ := nc5 S.out.blk
    have hnl := lt_of_blk S.out.blk
    rw [HKD.out] at d0
    have hL := Lib.hid (ls_all S.out.kids hx hrow)
    have hno := Lib.hid (show listedW (r .pair) 16384 0 x.kids s1 ≠ .out from fun e => HO.out (E.out.trans (WR.bind_out e _)))
    have key : ∀ K2 cap2, LsT z w1 K2 (x.kids) → Calls Tryz.prog 112 #[.pointer (some ⟨z.b, 0, none⟩), .slice K2 (x.kids).length cap2, .int .i64 16384, .func (.func 156) #[.pointer (some ⟨z.b, 0, none⟩)] #[]] w1 (WRes z _ w1 (listedW (r .pair) 16384 0 x.kids s1)) := fun K2 cap2 hK2 => wlisted_pair A.pair (cap := cap2) (most := 16384) hK2 (by first | assumption | (simp; omega)) (by decide) S.out.H hno.out
    go_wp2_with (fail)
    go_at_call 112
    refine (key _ _ (hL.out)).mono ?_
    rintro e w2 hr
    cases hm : listedW (r .pair) 16384 0 x.kids s1 with
    | out => exact absurd hm hno.out
    | bad u => rw [hm] at hr; obtain ⟨rfl, g⟩ := hr; exact ⟨rfl, wres_bad (E.out.trans (WR.b1_bad hm _)) (st_bad S.out g)⟩
    | ok s2 =>
      rw [hm] at hr
      obtain ⟨rfl, h2, H, e1, g⟩ := hr
      have E := Lib.hid (E.out.trans (WR.b1_ok hm _))
      have S := Lib.hid (st_next S.out H e1 g)
      clear H e1 g hm
      obtain ⟨d0, d1, d2, d3, d4⟩ := nc5 S.out.blk
      have hnl := lt_of_blk S.out.blk
      rw [HKD.out] at d0
      go_wp2_with (fail)
      go_at_call 73
      refine (say_one S.out.H (⟨#[125]⟩ : ByteArray) 9).mono ?_
      rintro e w3 hr
      cases hm : saysW [(⟨#[125]⟩ : ByteArray)] s2 with
      | out => exact absurd hm (says_out _ _)
      | bad u => rw [hm] at hr; obtain ⟨rfl, g⟩ := hr; exact ⟨rfl, wres_bad (E.out.trans hm) (st_bad S.out g)⟩
      | ok s3 =>
        rw [hm] at hr
        obtain ⟨rfl, h3, H, e1, g⟩ := hr
        have E := Lib.hid (E.out.trans hm)
        have S := Lib.hid (st_next S.out H e1 g)
        clear H e1 g hm
        go_wp2_with (fail)
        go_end0
        exact st_fin S.out E.out
set_option maxHeartbeats 8000000 in
set_option maxRecDepth 100000 in
theorem ww_bare33 {z : Wz} {r : Wm → Tr → Wr → WR} (A : AllWr z r) {x : Tr} {s0 : Wr} {n h0 : Nat} {w : World} {K : Option Addr} {ck : Nat} {q : Nat} (hx : SubT z.N n x) (hrow : RowT x = true) (hK0 : KidsI w (fun k => k < z.b) K ck (intsI (KidsT (n + 1) x.kids))) (H0 : WA z s0 h0 w) (ho : wstep r (.bare q) x s0 ≠ .out) (hk : x.kind = 33) : Calls Tryz.prog 138 #[.pointer (some ⟨z.b, 0, none⟩), nodeV x K ck, .int .i64 (q : Int)] w (WRes z h0 w (wstep r (.bare q) x s0)) := by
  have _ := A
  have _ := And.intro hx hrow
  generalize hR : wstep r (.bare q) x s0 = R at ho ⊢
  have HO := Lib.hid ho
  dsimp only [wstep] at hR
  rw [hk] at hR
  rw [if_neg (by decide), if_neg (by decide), if_neg (by decide), if_neg (by decide), if_neg (by decide), if_pos (by decide)] at hR
  have E := Lib.hid hR.symm
  clear hR ho
  have hst := store_f
  have hfew : x.kids.length ≤ 16384 := kids_few hrow
  have HKD := Lib.hid hk
  clear hk
  have S := Lib.hid (st_begin (ck := ck) (n := n) (x := x) H0 (.inl rfl) (Fr.refl _ _ _) hK0)
  clear H0 hK0
  unfold nodeV
  go_enter Tryz.func138, Tryz.ntmps138
  go_upto_region 1 with (fail)
  generalize w.alloc (.cells #[.int .u8 (x.kind : Int), .int .i64 x.pos, .string x.text, .float .f64 x.num, .slice K x.kids.length ck] 44) = W at S ⊢
  obtain ⟨d0, d1, d2, d3, d4⟩ := nc5 S.out.blk
  have hnl := lt_of_blk S.out.blk
  rw [HKD.out] at d0
  go_wp2_with (fail)
  go_at_call 73
  refine (say_one S.out.H (⟨#[91]⟩ : ByteArray) 9).mono ?_
  rintro e w1 hr
  cases hm : saysW [(⟨#[91]⟩ : ByteArray)] s0 with
  | out => exact absurd hm (says_out _ _)
  | bad u => rw [hm] at hr; obtain ⟨rfl, g⟩ := hr; exact ⟨rfl, wres_bad (E.out.trans (WR.b1_bad hm _)) (st_bad S.out g)⟩
  | ok s1 =>
    rw [hm] at hr
    obtain ⟨rfl, h1, H, e1, g⟩ := hr
    have E := Lib.hid (E.out.trans (WR.b1_ok hm _))
    have S := Lib.hid (st_next S.out H e1 g)
    clear H e1 g hm
    obtain ⟨d0, d1, d2, d3, d4⟩ := nc5 S.out.blk
    have hnl := lt_of_blk S.out.blk
    rw [HKD.out] at d0
    have hL := Lib.hid (ls_all S.out.kids hx hrow)
    have hno := Lib.hid (show listedW (r .value) 16384 0 x.kids s1 ≠ .out from fun e => HO.out (E.out.trans (WR.bind_out e _)))
    have key : ∀ K2 cap2, LsT z w1 K2 (x.kids) → Calls Tryz.prog 112 #[.pointer (some ⟨z.b, 0, none⟩), .slice K2 (x.kids).length cap2, .int .i64 16384, .func (.func 77) #[.pointer (some ⟨z.b, 0, none⟩)] #[]] w1 (WRes z _ w1 (listedW (r .value) 16384 0 x.kids s1)) := fun K2 cap2 hK2 => wlisted_value A.value (cap := cap2) (most := 16384) hK2 (by first | assumption | (simp; omega)) (by decide) S.out.H hno.out
    go_wp2_with (fail)
    go_at_call 112
    refine (key _ _ (hL.out)).mono ?_
    rintro e w2 hr
    cases hm : listedW (r .value) 16384 0 x.kids s1 with
    | out => exact absurd hm hno.out
    | bad u => rw [hm] at hr; obtain ⟨rfl, g⟩ := hr; exact ⟨rfl, wres_bad (E.out.trans (WR.b1_bad hm _)) (st_bad S.out g)⟩
    | ok s2 =>
      rw [hm] at hr
      obtain ⟨rfl, h2, H, e1, g⟩ := hr
      have E := Lib.hid (E.out.trans (WR.b1_ok hm _))
      have S := Lib.hid (st_next S.out H e1 g)
      clear H e1 g hm
      obtain ⟨d0, d1, d2, d3, d4⟩ := nc5 S.out.blk
      have hnl := lt_of_blk S.out.blk
      rw [HKD.out] at d0
      go_wp2_with (fail)
      go_at_call 73
      refine (say_one S.out.H (⟨#[93]⟩ : ByteArray) 9).mono ?_
      rintro e w3 hr
      cases hm : saysW [(⟨#[93]⟩ : ByteArray)] s2 with
      | out => exact absurd hm (says_out _ _)
      | bad u => rw [hm] at hr; obtain ⟨rfl, g⟩ := hr; exact ⟨rfl, wres_bad (E.out.trans hm) (st_bad S.out g)⟩
      | ok s3 =>
        rw [hm] at hr
        obtain ⟨rfl, h3, H, e1, g⟩ := hr
        have E := Lib.hid (E.out.trans hm)
        have S := Lib.hid (st_next S.out H e1 g)
        clear H e1 g hm
        go_wp2_with (fail)
        go_end0
        exact st_fin S.out E.out
set_option maxHeartbeats 8000000 in
set_option maxRecDepth 100000 in
theorem ww_bare34 {z : Wz} {r : Wm → Tr → Wr → WR} (A : AllWr z r) {x : Tr} {s0 : Wr} {n h0 : Nat} {w : World} {K : Option Addr} {ck : Nat} {q : Nat} (hx : SubT z.N n x) (hrow : RowT x = true) (hK0 : KidsI w (fun k => k < z.b) K ck (intsI (KidsT (n + 1) x.kids))) (H0 : WA z s0 h0 w) (ho : wstep r (.bare q) x s0 ≠ .out) (hq : q ≤ 20) (hk : x.kind = 34) : Calls Tryz.prog 138 #[.pointer (some ⟨z.b, 0, none⟩), nodeV x K ck, .int .i64 (q : Int)] w (WRes z h0 w (wstep r (.bare q) x s0)) := by
  have _ := A
  have _ := And.intro hx hrow
  generalize hR : wstep r (.bare q) x s0 = R at ho ⊢
  have HO := Lib.hid ho
  dsimp only [wstep] at hR
  rw [hk] at hR
  rw [if_neg (by decide), if_neg (by decide), if_neg (by decide), if_neg (by decide), if_neg (by decide), if_neg (by decide), if_pos (by decide)] at hR
  have E := Lib.hid hR.symm
  clear hR ho
  have hst := store_f
  have HKD := Lib.hid hk
  clear hk
  have S := Lib.hid (st_begin (ck := ck) (n := n) (x := x) H0 (.inl rfl) (Fr.refl _ _ _) hK0)
  clear H0 hK0
  unfold nodeV
  go_enter Tryz.func138, Tryz.ntmps138
  go_upto_region 1 with (fail)
  generalize w.alloc (.cells #[.int .u8 (x.kind : Int), .int .i64 x.pos, .string x.text, .float .f64 x.num, .slice K x.kids.length ck] 44) = W at S ⊢
  obtain ⟨d0, d1, d2, d3, d4⟩ := nc5 S.out.blk
  have hnl := lt_of_blk S.out.blk
  rw [HKD.out] at d0
  go_wp2_with (fail)
  have hno := Lib.hid (show r (.chain q) x s0 ≠ .out from fun e => HO.out (E.out.trans e))
  have kn := A.chain q x s0 n _ _ K ck hq (.inl HKD.out) hx hrow S.out.kids S.out.H hno.out
  try dsimp only at kn
  rw [show nodeV x K ck = .agg #[.int .u8 34, .int .i64 x.pos, .string x.text, .float .f64 x.num, .slice K x.kids.length ck] by unfold nodeV; rw [HKD.out]; rfl] at kn
  go_at_call 157
  refine (kn).mono ?_
  rintro e w1 hr
  try dsimp only at hr
  cases hm : r (.chain q) x s0 with
  | out => exact absurd hm hno.out
  | bad u => rw [hm] at hr; obtain ⟨rfl, g⟩ := hr; exact ⟨rfl, wres_bad (E.out.trans hm) (st_bad S.out g)⟩
  | ok s1 =>
    rw [hm] at hr
    obtain ⟨rfl, h1, H, e1, g⟩ := hr
    have E := Lib.hid (E.out.trans hm)
    have S := Lib.hid (st_next S.out H e1 g)
    clear H e1 g hm
    go_wp2_with (fail)
    go_end0
    exact st_fin S.out E.out
set_option maxHeartbeats 8000000 in
set_option maxRecDepth 100000 in
theorem ww_bare35 {z : Wz} {r : Wm → Tr → Wr → WR} (A : AllWr z r) {x : Tr} {s0 : Wr} {n h0 : Nat} {w : World} {K : Option Addr} {ck : Nat} {q : Nat} (hx : SubT z.N n x) (hrow : RowT x = true) (hK0 : KidsI w (fun k => k < z.b) K ck (intsI (KidsT (n + 1) x.kids))) (H0 : WA z s0 h0 w) (ho : wstep r (.bare q) x s0 ≠ .out) (hq : q ≤ 20) (hk : x.kind = 35) : Calls Tryz.prog 138 #[.pointer (some ⟨z.b, 0, none⟩), nodeV x K ck, .int .i64 (q : Int)] w (WRes z h0 w (wstep r (.bare q) x s0)) := by
  have _ := A
  have _ := And.intro hx hrow
  generalize hR : wstep r (.bare q) x s0 = R at ho ⊢
  have HO := Lib.hid ho
  dsimp only [wstep] at hR
  rw [hk] at hR
  rw [if_neg (by decide), if_neg (by decide), if_neg (by decide), if_neg (by decide), if_neg (by decide), if_neg (by decide), if_pos (by decide)] at hR
  have E := Lib.hid hR.symm
  clear hR ho
  have hst := store_f
  have HKD := Lib.hid hk
  clear hk
  have S := Lib.hid (st_begin (ck := ck) (n := n) (x := x) H0 (.inl rfl) (Fr.refl _ _ _) hK0)
  clear H0 hK0
  unfold nodeV
  go_enter Tryz.func138, Tryz.ntmps138
  go_upto_region 1 with (fail)
  generalize w.alloc (.cells #[.int .u8 (x.kind : Int), .int .i64 x.pos, .string x.text, .float .f64 x.num, .slice K x.kids.length ck] 44) = W at S ⊢
  obtain ⟨d0, d1, d2, d3, d4⟩ := nc5 S.out.blk
  have hnl := lt_of_blk S.out.blk
  rw [HKD.out] at d0
  go_wp2_with (fail)
  have hno := Lib.hid (show r (.chain q) x s0 ≠ .out from fun e => HO.out (E.out.trans e))
  have kn := A.chain q x s0 n _ _ K ck hq (.inr (.inl HKD.out)) hx hrow S.out.kids S.out.H hno.out
  try dsimp only at kn
  rw [show nodeV x K ck = .agg #[.int .u8 35, .int .i64 x.pos, .string x.text, .float .f64 x.num, .slice K x.kids.length ck] by unfold nodeV; rw [HKD.out]; rfl] at kn
  go_at_call 157
  refine (kn).mono ?_
  rintro e w1 hr
  try dsimp only at hr
  cases hm : r (.chain q) x s0 with
  | out => exact absurd hm hno.out
  | bad u => rw [hm] at hr; obtain ⟨rfl, g⟩ := hr; exact ⟨rfl, wres_bad (E.out.trans hm) (st_bad S.out g)⟩
  | ok s1 =>
    rw [hm] at hr
    obtain ⟨rfl, h1, H, e1, g⟩ := hr
    have E := Lib.hid (E.out.trans hm)
    have S := Lib.hid (st_next S.out H e1 g)
    clear H e1 g hm
    go_wp2_with (fail)
    go_end0
    exact st_fin S.out E.out
set_option maxHeartbeats 8000000 in
set_option maxRecDepth 100000 in
theorem ww_bare36 {z : Wz} {r : Wm → Tr → Wr → WR} (A : AllWr z r) {x : Tr} {s0 : Wr} {n h0 : Nat} {w : World} {K : Option Addr} {ck : Nat} {q : Nat} (hx : SubT z.N n x) (hrow : RowT x = true) (hK0 : KidsI w (fun k => k < z.b) K ck (intsI (KidsT (n + 1) x.kids))) (H0 : WA z s0 h0 w) (ho : wstep r (.bare q) x s0 ≠ .out) (hq : q ≤ 20) (hk : x.kind = 36) : Calls Tryz.prog 138 #[.pointer (some ⟨z.b, 0, none⟩), nodeV x K ck, .int .i64 (q : Int)] w (WRes z h0 w (wstep r (.bare q) x s0)) := by
  have _ := A
  have _ := And.intro hx hrow
  generalize hR : wstep r (.bare q) x s0 = R at ho ⊢
  have HO := Lib.hid ho
  dsimp only [wstep] at hR
  rw [hk] at hR
  rw [if_neg (by decide), if_neg (by decide), if_neg (by decide), if_neg (by decide), if_neg (by decide), if_neg (by decide), if_pos (by decide)] at hR
  have E := Lib.hid hR.symm
  clear hR ho
  have hst := store_f
  have HKD := Lib.hid hk
  clear hk
  have S := Lib.hid (st_begin (ck := ck) (n := n) (x := x) H0 (.inl rfl) (Fr.refl _ _ _) hK0)
  clear H0 hK0
  unfold nodeV
  go_enter Tryz.func138, Tryz.ntmps138
  go_upto_region 1 with (fail)
  generalize w.alloc (.cells #[.int .u8 (x.kind : Int), .int .i64 x.pos, .string x.text, .float .f64 x.num, .slice K x.kids.length ck] 44) = W at S ⊢
  obtain ⟨d0, d1, d2, d3, d4⟩ := nc5 S.out.blk
  have hnl := lt_of_blk S.out.blk
  rw [HKD.out] at d0
  go_wp2_with (fail)
  have hno := Lib.hid (show r (.chain q) x s0 ≠ .out from fun e => HO.out (E.out.trans e))
  have kn := A.chain q x s0 n _ _ K ck hq (.inr (.inr HKD.out)) hx hrow S.out.kids S.out.H hno.out
  try dsimp only at kn
  rw [show nodeV x K ck = .agg #[.int .u8 36, .int .i64 x.pos, .string x.text, .float .f64 x.num, .slice K x.kids.length ck] by unfold nodeV; rw [HKD.out]; rfl] at kn
  go_at_call 157
  refine (kn).mono ?_
  rintro e w1 hr
  try dsimp only at hr
  cases hm : r (.chain q) x s0 with
  | out => exact absurd hm hno.out
  | bad u => rw [hm] at hr; obtain ⟨rfl, g⟩ := hr; exact ⟨rfl, wres_bad (E.out.trans hm) (st_bad S.out g)⟩
  | ok s1 =>
    rw [hm] at hr
    obtain ⟨rfl, h1, H, e1, g⟩ := hr
    have E := Lib.hid (E.out.trans hm)
    have S := Lib.hid (st_next S.out H e1 g)
    clear H e1 g hm
    go_wp2_with (fail)
    go_end0
    exact st_fin S.out E.out
set_option maxHeartbeats 8000000 in
set_option maxRecDepth 100000 in
theorem ww_bare37 {z : Wz} {r : Wm → Tr → Wr → WR} (A : AllWr z r) {x : Tr} {s0 : Wr} {n h0 : Nat} {w : World} {K : Option Addr} {ck : Nat} {q : Nat} (hx : SubT z.N n x) (hrow : RowT x = true) (hK0 : KidsI w (fun k => k < z.b) K ck (intsI (KidsT (n + 1) x.kids))) (H0 : WA z s0 h0 w) (ho : wstep r (.bare q) x s0 ≠ .out) (hk : x.kind = 37) : Calls Tryz.prog 138 #[.pointer (some ⟨z.b, 0, none⟩), nodeV x K ck, .int .i64 (q : Int)] w (WRes z h0 w (wstep r (.bare q) x s0)) := by
  have _ := A
  have _ := And.intro hx hrow
  generalize hR : wstep r (.bare q) x s0 = R at ho ⊢
  have HO := Lib.hid ho
  dsimp only [wstep] at hR
  rw [hk] at hR
  rw [if_neg (by decide), if_neg (by decide), if_neg (by decide), if_neg (by decide), if_neg (by decide), if_neg (by decide), if_neg (by decide), if_pos (by decide)] at hR
  have E := Lib.hid hR.symm
  clear hR ho
  have hst := store_f
  have hpos := kids_pos37 hrow hk
  have HKD := Lib.hid hk
  clear hk
  obtain ⟨ka, rfl⟩ := kids_addr hK0 (by exact hpos)
  have S := Lib.hid (st_begin (ck := ck) (n := n) (x := x) H0 (.inl rfl) (Fr.refl _ _ _) hK0)
  clear H0 hK0
  unfold nodeV
  go_enter Tryz.func138, Tryz.ntmps138
  go_upto_region 1 with (fail)
  generalize w.alloc (.cells #[.int .u8 (x.kind : Int), .int .i64 x.pos, .string x.text, .float .f64 x.num, .slice (some ka) x.kids.length ck] 44) = W at S ⊢
  obtain ⟨d0, d1, d2, d3, d4⟩ := nc5 S.out.blk
  have hnl := lt_of_blk S.out.blk
  rw [HKD.out] at d0
  go_wp2_with (fail)
  go_at_call 73
  refine (say_one S.out.H (⟨#[110, 101, 119]⟩ : ByteArray) 9).mono ?_
  rintro e w1 hr
  cases hm : saysW [(⟨#[110, 101, 119]⟩ : ByteArray)] s0 with
  | out => exact absurd hm (says_out _ _)
  | bad u => rw [hm] at hr; obtain ⟨rfl, g⟩ := hr; exact ⟨rfl, wres_bad (E.out.trans (WR.b1_bad hm _)) (st_bad S.out g)⟩
  | ok s1 =>
    rw [hm] at hr
    obtain ⟨rfl, h1, H, e1, g⟩ := hr
    have E := Lib.hid (E.out.trans (WR.b1_ok hm _))
    have S := Lib.hid (st_next S.out H e1 g)
    clear H e1 g hm
    obtain ⟨d0, d1, d2, d3, d4⟩ := nc5 S.out.blk
    have hnl := lt_of_blk S.out.blk
    obtain ⟨hal, kc0, hxk0⟩ := st_kid S.out hx (i := 0) (by first | assumption | omega)
    replace kc0 : w1.cell? ka = some (.int .i64 (kidNo n x 0 : Nat)) := kc0
    rw [HKD.out] at d0
    go_wp2_with (fail)
    have hno := Lib.hid (show r (.held 13) (x.kid 0) s1 ≠ .out from fun e => HO.out (E.out.trans (WR.b1_out e _)))
    go_at_call 114
    refine (A.held 13 (x.kid 0) s1 _ _ _ (by decide) hxk0 (rowT_kid hrow (by first | assumption | omega)) S.out.H hno.out).mono ?_
    rintro e w2 hr
    try dsimp only at hr
    cases hm : r (.held 13) (x.kid 0) s1 with
    | out => exact absurd hm hno.out
    | bad u => rw [hm] at hr; obtain ⟨rfl, g⟩ := hr; exact ⟨rfl, wres_bad (E.out.trans (WR.b1_bad hm _)) (st_bad S.out g)⟩
    | ok s2 =>
      rw [hm] at hr
      obtain ⟨rfl, h2, H, e1, g⟩ := hr
      have E := Lib.hid (E.out.trans (WR.b1_ok hm _))
      have S := Lib.hid (st_next S.out H e1 g)
      clear H e1 g hm
      obtain ⟨d0, d1, d2, d3, d4⟩ := nc5 S.out.blk
      have hnl := lt_of_blk S.out.blk
      rw [HKD.out] at d0
      go_wp2_with (fail)
      have hno := Lib.hid (show r .args x s2 ≠ .out from fun e => HO.out (E.out.trans e))
      have kn := A.args x s2 n _ _ (some ka) ck hpos hx hrow S.out.kids S.out.H hno.out
      rw [show nodeV x (some ka) ck = .agg #[.int .u8 37, .int .i64 x.pos, .string x.text, .float .f64 x.num, .slice (some ka) x.kids.length ck] by unfold nodeV; rw [HKD.out]; rfl] at kn
      go_at_call 158
      refine (kn).mono ?_
      rintro e w3 hr
      cases hm : r .args x s2 with
      | out => exact absurd hm hno.out
      | bad u => rw [hm] at hr; obtain ⟨rfl, g⟩ := hr; exact ⟨rfl, wres_bad (E.out.trans hm) (st_bad S.out g)⟩
      | ok s3 =>
        rw [hm] at hr
        obtain ⟨rfl, h3, H, e1, g⟩ := hr
        have E := Lib.hid (E.out.trans hm)
        have S := Lib.hid (st_next S.out H e1 g)
        clear H e1 g hm
        go_wp2_with (fail)
        go_end0
        exact st_fin S.out E.out
set_option maxHeartbeats 8000000 in
set_option maxRecDepth 100000 in
theorem ww_bare38 {z : Wz} {r : Wm → Tr → Wr → WR} (A : AllWr z r) {x : Tr} {s0 : Wr} {n h0 : Nat} {w : World} {K : Option Addr} {ck : Nat} {q : Nat} (hx : SubT z.N n x) (hrow : RowT x = true) (hK0 : KidsI w (fun k => k < z.b) K ck (intsI (KidsT (n + 1) x.kids))) (H0 : WA z s0 h0 w) (ho : wstep r (.bare q) x s0 ≠ .out) (hk : x.kind = 38) : Calls Tryz.prog 138 #[.pointer (some ⟨z.b, 0, none⟩), nodeV x K ck, .int .i64 (q : Int)] w (WRes z h0 w (wstep r (.bare q) x s0)) := by
  have _ := A
  have _ := And.intro hx hrow
  generalize hR : wstep r (.bare q) x s0 = R at ho ⊢
  have HO := Lib.hid ho
  dsimp only [wstep] at hR
  rw [hk] at hR
  rw [if_neg (by decide), if_neg (by decide), if_neg (by decide), if_neg (by decide), if_neg (by decide), if_neg (by decide), if_neg (by decide), if_neg (by decide), if_pos (by decide)] at hR
  have E := Lib.hid hR.symm
  clear hR ho
  have hst := store_f
  have hlen : x.kids.length = 1 := kids_len38 hrow hk
  have hlen2 := Lib.hid hlen
  have HLA := Lib.hid hlen
  have hi0 : 0 < x.kids.length := by omega
  clear hlen
  have HKD := Lib.hid hk
  clear hk
  obtain ⟨ka, rfl⟩ := kids_addr hK0 (by assumption)
  have S := Lib.hid (st_begin (ck := ck) (n := n) (x := x) H0 (.inl rfl) (Fr.refl _ _ _) hK0)
  clear H0 hK0
  unfold nodeV
  go_enter Tryz.func138, Tryz.ntmps138
  go_upto_region 1 with (fail)
  generalize w.alloc (.cells #[.int .u8 (x.kind : Int), .int .i64 x.pos, .string x.text, .float .f64 x.num, .slice (some ka) x.kids.length ck] 44) = W at S ⊢
  obtain ⟨d0, d1, d2, d3, d4⟩ := nc5 S.out.blk
  have hnl := lt_of_blk S.out.blk
  rw [HKD.out] at d0
  rw [HLA.out] at d4
  go_wp2_with (fail)
  go_at_call 73
  refine (say_one S.out.H x.text 9).mono ?_
  rintro e w1 hr
  cases hm : saysW [x.text] s0 with
  | out => exact absurd hm (says_out _ _)
  | bad u => rw [hm] at hr; obtain ⟨rfl, g⟩ := hr; exact ⟨rfl, wres_bad (E.out.trans (WR.b1_bad hm _)) (st_bad S.out g)⟩
  | ok s1 =>
    rw [hm] at hr
    obtain ⟨rfl, h1, H, e1, g⟩ := hr
    have E := Lib.hid (E.out.trans (WR.b1_ok hm _))
    have S := Lib.hid (st_next S.out H e1 g)
    clear H e1 g hm
    obtain ⟨d0, d1, d2, d3, d4⟩ := nc5 S.out.blk
    have hnl := lt_of_blk S.out.blk
    obtain ⟨hal, kc0, hxk0⟩ := st_kid S.out hx (i := 0) (by first | assumption | omega)
    replace kc0 : w1.cell? ka = some (.int .i64 (kidNo n x 0 : Nat)) := kc0
    rw [HKD.out] at d0
    rw [HLA.out] at d4
    go_wp2_with (fail)
    have hno := Lib.hid (show r (.held 11) (x.kid 0) s1 ≠ .out from fun e => HO.out (E.out.trans e))
    go_at_call 114
    refine (A.held 11 (x.kid 0) s1 _ _ _ (by decide) hxk0 (rowT_kid hrow (by first | assumption | omega)) S.out.H hno.out).mono ?_
    rintro e w2 hr
    try dsimp only at hr
    cases hm : r (.held 11) (x.kid 0) s1 with
    | out => exact absurd hm hno.out
    | bad u => rw [hm] at hr; obtain ⟨rfl, g⟩ := hr; exact ⟨rfl, wres_bad (E.out.trans hm) (st_bad S.out g)⟩
    | ok s2 =>
      rw [hm] at hr
      obtain ⟨rfl, h2, H, e1, g⟩ := hr
      have E := Lib.hid (E.out.trans hm)
      have S := Lib.hid (st_next S.out H e1 g)
      clear H e1 g hm
      go_wp2_with (fail)
      go_end0
      exact st_fin S.out E.out
set_option maxHeartbeats 8000000 in
set_option maxRecDepth 100000 in
theorem ww_bare40 {z : Wz} {r : Wm → Tr → Wr → WR} (A : AllWr z r) {x : Tr} {s0 : Wr} {n h0 : Nat} {w : World} {K : Option Addr} {ck : Nat} {q : Nat} (hx : SubT z.N n x) (hrow : RowT x = true) (hK0 : KidsI w (fun k => k < z.b) K ck (intsI (KidsT (n + 1) x.kids))) (H0 : WA z s0 h0 w) (ho : wstep r (.bare q) x s0 ≠ .out) (hk : x.kind = 40) : Calls Tryz.prog 138 #[.pointer (some ⟨z.b, 0, none⟩), nodeV x K ck, .int .i64 (q : Int)] w (WRes z h0 w (wstep r (.bare q) x s0)) := by
  have _ := A
  have _ := And.intro hx hrow
  generalize hR : wstep r (.bare q) x s0 = R at ho ⊢
  have HO := Lib.hid ho
  dsimp only [wstep] at hR
  rw [hk] at hR
  rw [if_neg (by decide), if_neg (by decide), if_neg (by decide), if_neg (by decide), if_neg (by decide), if_neg (by decide), if_neg (by decide), if_neg (by decide), if_neg (by decide), if_pos (by decide)] at hR
  have E := Lib.hid hR.symm
  clear hR ho
  have hst := store_f
  have hlen : x.kids.length = 2 := kids_len40 hrow hk
  have hlen2 := Lib.hid hlen
  have HLA := Lib.hid hlen
  have hi0 : 0 < x.kids.length := by omega
  have hi1 : 1 < x.kids.length := by omega
  clear hlen
  have HKD := Lib.hid hk
  clear hk
  obtain ⟨ka, rfl⟩ := kids_addr hK0 (by assumption)
  have S := Lib.hid (st_begin (ck := ck) (n := n) (x := x) H0 (.inl rfl) (Fr.refl _ _ _) hK0)
  clear H0 hK0
  unfold nodeV
  go_enter Tryz.func138, Tryz.ntmps138
  go_upto_region 1 with (fail)
  generalize w.alloc (.cells #[.int .u8 (x.kind : Int), .int .i64 x.pos, .string x.text, .float .f64 x.num, .slice (some ka) x.kids.length ck] 44) = W at S ⊢
  obtain ⟨d0, d1, d2, d3, d4⟩ := nc5 S.out.blk
  have hnl := lt_of_blk S.out.blk
  rw [HKD.out] at d0
  rw [HLA.out] at d4
  go_wp2_with (fail)
  have hno := Lib.hid (show r (.sides (⟨#[38, 38]⟩ : ByteArray)) x s0 ≠ .out from fun e => HO.out (E.out.trans e))
  have kn := A.sides (⟨#[38, 38]⟩ : ByteArray) x s0 n _ _ (some ka) ck hlen2.out hx hrow S.out.kids S.out.H hno.out
  try dsimp only at kn
  rw [show nodeV x (some ka) ck = .agg #[.int .u8 40, .int .i64 x.pos, .string x.text, .float .f64 x.num, .slice (some ka) x.kids.length ck] by unfold nodeV; rw [HKD.out]; rfl, HLA.out] at kn
  go_at_call 159
  refine (kn).mono ?_
  rintro e w1 hr
  try dsimp only at hr
  cases hm : r (.sides (⟨#[38, 38]⟩ : ByteArray)) x s0 with
  | out => exact absurd hm hno.out
  | bad u => rw [hm] at hr; obtain ⟨rfl, g⟩ := hr; exact ⟨rfl, wres_bad (E.out.trans hm) (st_bad S.out g)⟩
  | ok s1 =>
    rw [hm] at hr
    obtain ⟨rfl, h1, H, e1, g⟩ := hr
    have E := Lib.hid (E.out.trans hm)
    have S := Lib.hid (st_next S.out H e1 g)
    clear H e1 g hm
    go_wp2_with (fail)
    go_end0
    exact st_fin S.out E.out
set_option maxHeartbeats 8000000 in
set_option maxRecDepth 100000 in
theorem ww_bare41 {z : Wz} {r : Wm → Tr → Wr → WR} (A : AllWr z r) {x : Tr} {s0 : Wr} {n h0 : Nat} {w : World} {K : Option Addr} {ck : Nat} {q : Nat} (hx : SubT z.N n x) (hrow : RowT x = true) (hK0 : KidsI w (fun k => k < z.b) K ck (intsI (KidsT (n + 1) x.kids))) (H0 : WA z s0 h0 w) (ho : wstep r (.bare q) x s0 ≠ .out) (hk : x.kind = 41) : Calls Tryz.prog 138 #[.pointer (some ⟨z.b, 0, none⟩), nodeV x K ck, .int .i64 (q : Int)] w (WRes z h0 w (wstep r (.bare q) x s0)) := by
  have _ := A
  have _ := And.intro hx hrow
  generalize hR : wstep r (.bare q) x s0 = R at ho ⊢
  have HO := Lib.hid ho
  dsimp only [wstep] at hR
  rw [hk] at hR
  rw [if_neg (by decide), if_neg (by decide), if_neg (by decide), if_neg (by decide), if_neg (by decide), if_neg (by decide), if_neg (by decide), if_neg (by decide), if_neg (by decide), if_neg (by decide), if_pos (by decide)] at hR
  have E := Lib.hid hR.symm
  clear hR ho
  have hst := store_f
  have hlen : x.kids.length = 2 := kids_len41 hrow hk
  have hlen2 := Lib.hid hlen
  have HLA := Lib.hid hlen
  have hi0 : 0 < x.kids.length := by omega
  have hi1 : 1 < x.kids.length := by omega
  clear hlen
  have HKD := Lib.hid hk
  clear hk
  obtain ⟨ka, rfl⟩ := kids_addr hK0 (by assumption)
  have S := Lib.hid (st_begin (ck := ck) (n := n) (x := x) H0 (.inl rfl) (Fr.refl _ _ _) hK0)
  clear H0 hK0
  unfold nodeV
  go_enter Tryz.func138, Tryz.ntmps138
  go_upto_region 1 with (fail)
  generalize w.alloc (.cells #[.int .u8 (x.kind : Int), .int .i64 x.pos, .string x.text, .float .f64 x.num, .slice (some ka) x.kids.length ck] 44) = W at S ⊢
  obtain ⟨d0, d1, d2, d3, d4⟩ := nc5 S.out.blk
  have hnl := lt_of_blk S.out.blk
  rw [HKD.out] at d0
  rw [HLA.out] at d4
  go_wp2_with (fail)
  have hno := Lib.hid (show r (.sides (⟨#[124, 124]⟩ : ByteArray)) x s0 ≠ .out from fun e => HO.out (E.out.trans e))
  have kn := A.sides (⟨#[124, 124]⟩ : ByteArray) x s0 n _ _ (some ka) ck hlen2.out hx hrow S.out.kids S.out.H hno.out
  try dsimp only at kn
  rw [show nodeV x (some ka) ck = .agg #[.int .u8 41, .int .i64 x.pos, .string x.text, .float .f64 x.num, .slice (some ka) x.kids.length ck] by unfold nodeV; rw [HKD.out]; rfl, HLA.out] at kn
  go_at_call 159
  refine (kn).mono ?_
  rintro e w1 hr
  try dsimp only at hr
  cases hm : r (.sides (⟨#[124, 124]⟩ : ByteArray)) x s0 with
  | out => exact absurd hm hno.out
  | bad u => rw [hm] at hr; obtain ⟨rfl, g⟩ := hr; exact ⟨rfl, wres_bad (E.out.trans hm) (st_bad S.out g)⟩
  | ok s1 =>
    rw [hm] at hr
    obtain ⟨rfl, h1, H, e1, g⟩ := hr
    have E := Lib.hid (E.out.trans hm)
    have S := Lib.hid (st_next S.out H e1 g)
    clear H e1 g hm
    go_wp2_with (fail)
    go_end0
    exact st_fin S.out E.out
set_option maxHeartbeats 8000000 in
set_option maxRecDepth 100000 in
theorem ww_bare39 {z : Wz} {r : Wm → Tr → Wr → WR} (A : AllWr z r) {x : Tr} {s0 : Wr} {n h0 : Nat} {w : World} {K : Option Addr} {ck : Nat} {q : Nat} (hx : SubT z.N n x) (hrow : RowT x = true) (hK0 : KidsI w (fun k => k < z.b) K ck (intsI (KidsT (n + 1) x.kids))) (H0 : WA z s0 h0 w) (ho : wstep r (.bare q) x s0 ≠ .out) (hk : x.kind = 39) : Calls Tryz.prog 138 #[.pointer (some ⟨z.b, 0, none⟩), nodeV x K ck, .int .i64 (q : Int)] w (WRes z h0 w (wstep r (.bare q) x s0)) := by
  have _ := A
  have _ := And.intro hx hrow
  generalize hR : wstep r (.bare q) x s0 = R at ho ⊢
  have HO := Lib.hid ho
  dsimp only [wstep] at hR
  rw [hk] at hR
  rw [if_neg (by decide), if_neg (by decide), if_neg (by decide), if_neg (by decide), if_neg (by decide), if_neg (by decide), if_neg (by decide), if_neg (by decide), if_neg (by decide), if_neg (by decide), if_neg (by decide), if_pos (by decide)] at hR
  have E := Lib.hid hR.symm
  clear hR ho
  have hst := store_f
  have hlen : x.kids.length = 2 := kids_len39 hrow hk
  have hlen2 := Lib.hid hlen
  have HLA := Lib.hid hlen
  have hi0 : 0 < x.kids.length := by omega
  have hi1 : 1 < x.kids.length := by omega
  clear hlen
  have HKD := Lib.hid hk
  clear hk
  obtain ⟨ka, rfl⟩ := kids_addr hK0 (by assumption)
  have S := Lib.hid (st_begin (ck := ck) (n := n) (x := x) H0 (.inl rfl) (Fr.refl _ _ _) hK0)
  clear H0 hK0
  unfold nodeV
  go_enter Tryz.func138, Tryz.ntmps138
  go_upto_region 1 with (fail)
  generalize w.alloc (.cells #[.int .u8 (x.kind : Int), .int .i64 x.pos, .string x.text, .float .f64 x.num, .slice (some ka) x.kids.length ck] 44) = W at S ⊢
  obtain ⟨d0, d1, d2, d3, d4⟩ := nc5 S.out.blk
  have hnl := lt_of_blk S.out.blk
  rw [HKD.out] at d0
  rw [HLA.out] at d4
  go_wp2_with (fail)
  have hno := Lib.hid (show r (.sides x.text) x s0 ≠ .out from fun e => HO.out (E.out.trans e))
  have kn := A.sides x.text x s0 n _ _ (some ka) ck hlen2.out hx hrow S.out.kids S.out.H hno.out
  try dsimp only at kn
  rw [show nodeV x (some ka) ck = .agg #[.int .u8 39, .int .i64 x.pos, .string x.text, .float .f64 x.num, .slice (some ka) x.kids.length ck] by unfold nodeV; rw [HKD.out]; rfl, HLA.out] at kn
  go_at_call 159
  refine (kn).mono ?_
  rintro e w1 hr
  try dsimp only at hr
  cases hm : r (.sides x.text) x s0 with
  | out => exact absurd hm hno.out
  | bad u => rw [hm] at hr; obtain ⟨rfl, g⟩ := hr; exact ⟨rfl, wres_bad (E.out.trans hm) (st_bad S.out g)⟩
  | ok s1 =>
    rw [hm] at hr
    obtain ⟨rfl, h1, H, e1, g⟩ := hr
    have E := Lib.hid (E.out.trans hm)
    have S := Lib.hid (st_next S.out H e1 g)
    clear H e1 g hm
    go_wp2_with (fail)
    go_end0
    exact st_fin S.out E.out
set_option maxHeartbeats 8000000 in
set_option maxRecDepth 100000 in
theorem ww_bare42 {z : Wz} {r : Wm → Tr → Wr → WR} (A : AllWr z r) {x : Tr} {s0 : Wr} {n h0 : Nat} {w : World} {K : Option Addr} {ck : Nat} {q : Nat} (hx : SubT z.N n x) (hrow : RowT x = true) (hK0 : KidsI w (fun k => k < z.b) K ck (intsI (KidsT (n + 1) x.kids))) (H0 : WA z s0 h0 w) (ho : wstep r (.bare q) x s0 ≠ .out) (hk : x.kind = 42) : Calls Tryz.prog 138 #[.pointer (some ⟨z.b, 0, none⟩), nodeV x K ck, .int .i64 (q : Int)] w (WRes z h0 w (wstep r (.bare q) x s0)) := by
  have _ := A
  have _ := And.intro hx hrow
  generalize hR : wstep r (.bare q) x s0 = R at ho ⊢
  have HO := Lib.hid ho
  dsimp only [wstep] at hR
  rw [hk] at hR
  rw [if_neg (by decide), if_neg (by decide), if_neg (by decide), if_neg (by decide), if_neg (by decide), if_neg (by decide), if_neg (by decide), if_neg (by decide), if_neg (by decide), if_neg (by decide), if_neg (by decide), if_neg (by decide), if_pos (by decide)] at hR
  have E := Lib.hid hR.symm
  clear hR ho
  have hst := store_f
  have hlen : x.kids.length = 3 := kids_len42 hrow hk
  have hlen2 := Lib.hid hlen
  have HLA := Lib.hid hlen
  have hi0 : 0 < x.kids.length := by omega
  have hi1 : 1 < x.kids.length := by omega
  have hi2 : 2 < x.kids.length := by omega
  clear hlen
  have HKD := Lib.hid hk
  clear hk
  obtain ⟨ka, rfl⟩ := kids_addr hK0 (by assumption)
  have S := Lib.hid (st_begin (ck := ck) (n := n) (x := x) H0 (.inl rfl) (Fr.refl _ _ _) hK0)
  clear H0 hK0
  unfold nodeV
  go_enter Tryz.func138, Tryz.ntmps138
  go_upto_region 1 with (fail)
  generalize w.alloc (.cells #[.int .u8 (x.kind : Int), .int .i64 x.pos, .string x.text, .float .f64 x.num, .slice (some ka) x.kids.length ck] 44) = W at S ⊢
  obtain ⟨d0, d1, d2, d3, d4⟩ := nc5 S.out.blk
  have hnl := lt_of_blk S.out.blk
  obtain ⟨hal, kc0, hxk0⟩ := st_kid S.out hx (i := 0) (by first | assumption | omega)
  replace kc0 : W.cell? ka = some (.int .i64 (kidNo n x 0 : Nat)) := kc0
  rw [HKD.out] at d0
  rw [HLA.out] at d4
  go_wp2_with (fail)
  have hno := Lib.hid (show r (.held 1) (x.kid 0) s0 ≠ .out from fun e => HO.out (E.out.trans (WR.b1_out e _)))
  go_at_call 114
  refine (A.held 1 (x.kid 0) s0 _ _ _ (by decide) hxk0 (rowT_kid hrow (by first | assumption | omega)) S.out.H hno.out).mono ?_
  rintro e w1 hr
  try dsimp only at hr
  cases hm : r (.held 1) (x.kid 0) s0 with
  | out => exact absurd hm hno.out
  | bad u => rw [hm] at hr; obtain ⟨rfl, g⟩ := hr; exact ⟨rfl, wres_bad (E.out.trans (WR.b1_bad hm _)) (st_bad S.out g)⟩
  | ok s1 =>
    rw [hm] at hr
    obtain ⟨rfl, h1, H, e1, g⟩ := hr
    have E := Lib.hid (E.out.trans (WR.b1_ok hm _))
    have S := Lib.hid (st_next S.out H e1 g)
    clear H e1 g hm
    obtain ⟨d0, d1, d2, d3, d4⟩ := nc5 S.out.blk
    have hnl := lt_of_blk S.out.blk
    rw [HKD.out] at d0
    rw [HLA.out] at d4
    go_wp2_with (fail)
    go_at_call 73
    refine (say_one S.out.H (⟨#[63]⟩ : ByteArray) 9).mono ?_
    rintro e w2 hr
    cases hm : saysW [(⟨#[63]⟩ : ByteArray)] s1 with
    | out => exact absurd hm (says_out _ _)
    | bad u => rw [hm] at hr; obtain ⟨rfl, g⟩ := hr; exact ⟨rfl, wres_bad (E.out.trans (WR.b1_bad hm _)) (st_bad S.out g)⟩
    | ok s2 =>
      rw [hm] at hr
      obtain ⟨rfl, h2, H, e1, g⟩ := hr
      have E := Lib.hid (E.out.trans (WR.b1_ok hm _))
      have S := Lib.hid (st_next S.out H e1 g)
      clear H e1 g hm
      obtain ⟨d0, d1, d2, d3, d4⟩ := nc5 S.out.blk
      have hnl := lt_of_blk S.out.blk
      obtain ⟨hal, kc1, hxk1⟩ := st_kid S.out hx (i := 1) (by first | assumption | omega)
      replace kc1 : w2.cell? ⟨ka.block, ka.off + 1, none⟩ = some (.int .i64 (kidNo n x 1 : Nat)) := kc1
      rw [HKD.out] at d0
      rw [HLA.out] at d4
      go_wp2_with (fail)
      have hno := Lib.hid (show r .value (x.kid 1) s2 ≠ .out from fun e => HO.out (E.out.trans (WR.b1_out e _)))
      go_at_call 77
      refine (A.value (x.kid 1) s2 _ _ _ hxk1 (rowT_kid hrow (by first | assumption | omega)) S.out.H hno.out).mono ?_
      rintro e w3 hr
      cases hm : r .value (x.kid 1) s2 with
      | out => exact absurd hm hno.out
      | bad u => rw [hm] at hr; obtain ⟨rfl, g⟩ := hr; exact ⟨rfl, wres_bad (E.out.trans (WR.b1_bad hm _)) (st_bad S.out g)⟩
      | ok s3 =>
        rw [hm] at hr
        obtain ⟨rfl, h3, H, e1, g⟩ := hr
        have E := Lib.hid (E.out.trans (WR.b1_ok hm _))
        have S := Lib.hid (st_next S.out H e1 g)
        clear H e1 g hm
        obtain ⟨d0, d1, d2, d3, d4⟩ := nc5 S.out.blk
        have hnl := lt_of_blk S.out.blk
        rw [HKD.out] at d0
        rw [HLA.out] at d4
        go_wp2_with (fail)
        go_at_call 73
        refine (say_one S.out.H (⟨#[58]⟩ : ByteArray) 9).mono ?_
        rintro e w4 hr
        cases hm : saysW [(⟨#[58]⟩ : ByteArray)] s3 with
        | out => exact absurd hm (says_out _ _)
        | bad u => rw [hm] at hr; obtain ⟨rfl, g⟩ := hr; exact ⟨rfl, wres_bad (E.out.trans (WR.b1_bad hm _)) (st_bad S.out g)⟩
        | ok s4 =>
          rw [hm] at hr
          obtain ⟨rfl, h4, H, e1, g⟩ := hr
          have E := Lib.hid (E.out.trans (WR.b1_ok hm _))
          have S := Lib.hid (st_next S.out H e1 g)
          clear H e1 g hm
          obtain ⟨d0, d1, d2, d3, d4⟩ := nc5 S.out.blk
          have hnl := lt_of_blk S.out.blk
          obtain ⟨hal, kc2, hxk2⟩ := st_kid S.out hx (i := 2) (by first | assumption | omega)
          replace kc2 : w4.cell? ⟨ka.block, ka.off + 2, none⟩ = some (.int .i64 (kidNo n x 2 : Nat)) := kc2
          rw [HKD.out] at d0
          rw [HLA.out] at d4
          go_wp2_with (fail)
          have hno := Lib.hid (show r .value (x.kid 2) s4 ≠ .out from fun e => HO.out (E.out.trans e))
          go_at_call 77
          refine (A.value (x.kid 2) s4 _ _ _ hxk2 (rowT_kid hrow (by first | assumption | omega)) S.out.H hno.out).mono ?_
          rintro e w5 hr
          cases hm : r .value (x.kid 2) s4 with
          | out => exact absurd hm hno.out
          | bad u => rw [hm] at hr; obtain ⟨rfl, g⟩ := hr; exact ⟨rfl, wres_bad (E.out.trans hm) (st_bad S.out g)⟩
          | ok s5 =>
            rw [hm] at hr
            obtain ⟨rfl, h5, H, e1, g⟩ := hr
            have E := Lib.hid (E.out.trans hm)
            have S := Lib.hid (st_next S.out H e1 g)
            clear H e1 g hm
            go_wp2_with (fail)
            go_end0
            exact st_fin S.out E.out
set_option maxHeartbeats 8000000 in
set_option maxRecDepth 100000 in
theorem ww_bare43 {z : Wz} {r : Wm → Tr → Wr → WR} (A : AllWr z r) {x : Tr} {s0 : Wr} {n h0 : Nat} {w : World} {K : Option Addr} {ck : Nat} {q : Nat} (hx : SubT z.N n x) (hrow : RowT x = true) (hK0 : KidsI w (fun k => k < z.b) K ck (intsI (KidsT (n + 1) x.kids))) (H0 : WA z s0 h0 w) (ho : wstep r (.bare q) x s0 ≠ .out) (hk : x.kind = 43) (ht : targetB (x.kid 0).kind = true) : Calls Tryz.prog 138 #[.pointer (some ⟨z.b, 0, none⟩), nodeV x K ck, .int .i64 (q : Int)] w (WRes z h0 w (wstep r (.bare q) x s0)) := by
  have _ := A
  have _ := And.intro hx hrow
  generalize hR : wstep r (.bare q) x s0 = R at ho ⊢
  have HO := Lib.hid ho
  dsimp only [wstep] at hR
  rw [hk] at hR
  rw [if_neg (by decide), if_neg (by decide), if_neg (by decide), if_neg (by decide), if_neg (by decide), if_neg (by decide), if_neg (by decide), if_neg (by decide), if_neg (by decide), if_neg (by decide), if_neg (by decide), if_neg (by decide), if_neg (by decide), if_pos (by decide)] at hR
  have E := Lib.hid hR.symm
  clear hR ho
  have hst := store_f
  have hlen : x.kids.length = 2 := kids_len43 hrow hk
  have hlen2 := Lib.hid hlen
  have HLA := Lib.hid hlen
  have hi0 : 0 < x.kids.length := by omega
  have hi1 : 1 < x.kids.length := by omega
  clear hlen
  have HKD := Lib.hid hk
  clear hk
  have HT := Lib.hid ht
  clear ht
  obtain ⟨ka, rfl⟩ := kids_addr hK0 (by assumption)
  have S := Lib.hid (st_begin (ck := ck) (n := n) (x := x) H0 (.inl rfl) (Fr.refl _ _ _) hK0)
  clear H0 hK0
  unfold nodeV
  go_enter Tryz.func138, Tryz.ntmps138
  go_upto_region 1 with (fail)
  generalize w.alloc (.cells #[.int .u8 (x.kind : Int), .int .i64 x.pos, .string x.text, .float .f64 x.num, .slice (some ka) x.kids.length ck] 44) = W at S ⊢
  obtain ⟨d0, d1, d2, d3, d4⟩ := nc5 S.out.blk
  have hnl := lt_of_blk S.out.blk
  obtain ⟨hal, kc0, hxk0⟩ := st_kid S.out hx (i := 0) (by first | assumption | omega)
  replace kc0 : W.cell? ka = some (.int .i64 (kidNo n x 0 : Nat)) := kc0
  rw [HKD.out] at d0
  rw [HLA.out] at d4
  go_wp2_with (fail)
  have E := Lib.hid (E.out.trans (if_pos HT.out))
  go_at_call 160
  refine (wtarget_yes S.out.H hxk0 HT.out).mono ?_
  rintro e wt ⟨rfl, g⟩
  have S := Lib.hid (st_up S.out g)
  clear g
  obtain ⟨d0, d1, d2, d3, d4⟩ := nc5 S.out.blk
  have hnl := lt_of_blk S.out.blk
  obtain ⟨hal, kc0, hxk0⟩ := st_kid S.out hx (i := 0) (by first | assumption | omega)
  replace kc0 : wt.cell? ka = some (.int .i64 (kidNo n x 0 : Nat)) := kc0
  rw [HKD.out] at d0
  rw [HLA.out] at d4
  go_wp2_with (fail)
  have hno := Lib.hid (show r (.held 0) (x.kid 0) s0 ≠ .out from fun e => HO.out (E.out.trans (WR.b1_out e _)))
  go_at_call 114
  refine (A.held 0 (x.kid 0) s0 _ _ _ (by decide) hxk0 (rowT_kid hrow (by first | assumption | omega)) S.out.H hno.out).mono ?_
  rintro e w1 hr
  try dsimp only at hr
  cases hm : r (.held 0) (x.kid 0) s0 with
  | out => exact absurd hm hno.out
  | bad u => rw [hm] at hr; obtain ⟨rfl, g⟩ := hr; exact ⟨rfl, wres_bad (E.out.trans (WR.b1_bad hm _)) (st_bad S.out g)⟩
  | ok s1 =>
    rw [hm] at hr
    obtain ⟨rfl, h1, H, e1, g⟩ := hr
    have E := Lib.hid (E.out.trans (WR.b1_ok hm _))
    have S := Lib.hid (st_next S.out H e1 g)
    clear H e1 g hm
    obtain ⟨d0, d1, d2, d3, d4⟩ := nc5 S.out.blk
    have hnl := lt_of_blk S.out.blk
    rw [HKD.out] at d0
    rw [HLA.out] at d4
    go_wp2_with (fail)
    go_at_call 73
    refine (say_one S.out.H x.text 9).mono ?_
    rintro e w2 hr
    cases hm : saysW [x.text] s1 with
    | out => exact absurd hm (says_out _ _)
    | bad u => rw [hm] at hr; obtain ⟨rfl, g⟩ := hr; exact ⟨rfl, wres_bad (E.out.trans (WR.b1_bad hm _)) (st_bad S.out g)⟩
    | ok s2 =>
      rw [hm] at hr
      obtain ⟨rfl, h2, H, e1, g⟩ := hr
      have E := Lib.hid (E.out.trans (WR.b1_ok hm _))
      have S := Lib.hid (st_next S.out H e1 g)
      clear H e1 g hm
      obtain ⟨d0, d1, d2, d3, d4⟩ := nc5 S.out.blk
      have hnl := lt_of_blk S.out.blk
      obtain ⟨hal, kc1, hxk1⟩ := st_kid S.out hx (i := 1) (by first | assumption | omega)
      replace kc1 : w2.cell? ⟨ka.block, ka.off + 1, none⟩ = some (.int .i64 (kidNo n x 1 : Nat)) := kc1
      rw [HKD.out] at d0
      rw [HLA.out] at d4
      go_wp2_with (fail)
      have hno := Lib.hid (show r .value (x.kid 1) s2 ≠ .out from fun e => HO.out (E.out.trans e))
      go_at_call 77
      refine (A.value (x.kid 1) s2 _ _ _ hxk1 (rowT_kid hrow (by first | assumption | omega)) S.out.H hno.out).mono ?_
      rintro e w3 hr
      cases hm : r .value (x.kid 1) s2 with
      | out => exact absurd hm hno.out
      | bad u => rw [hm] at hr; obtain ⟨rfl, g⟩ := hr; exact ⟨rfl, wres_bad (E.out.trans hm) (st_bad S.out g)⟩
      | ok s3 =>
        rw [hm] at hr
        obtain ⟨rfl, h3, H, e1, g⟩ := hr
        have E := Lib.hid (E.out.trans hm)
        have S := Lib.hid (st_next S.out H e1 g)
        clear H e1 g hm
        go_wp2_with (fail)
        go_end0
        exact st_fin S.out E.out
set_option maxHeartbeats 8000000 in
set_option maxRecDepth 100000 in
theorem ww_bare43x {z : Wz} {r : Wm → Tr → Wr → WR} (A : AllWr z r) {x : Tr} {s0 : Wr} {n h0 : Nat} {w : World} {K : Option Addr} {ck : Nat} {q : Nat} (hx : SubT z.N n x) (hrow : RowT x = true) (hK0 : KidsI w (fun k => k < z.b) K ck (intsI (KidsT (n + 1) x.kids))) (H0 : WA z s0 h0 w) (ho : wstep r (.bare q) x s0 ≠ .out) (hk : x.kind = 43) (ht : targetB (x.kid 0).kind = false) : Calls Tryz.prog 138 #[.pointer (some ⟨z.b, 0, none⟩), nodeV x K ck, .int .i64 (q : Int)] w (WRes z h0 w (wstep r (.bare q) x s0)) := by
  have _ := A
  have _ := And.intro hx hrow
  generalize hR : wstep r (.bare q) x s0 = R at ho ⊢
  have HO := Lib.hid ho
  dsimp only [wstep] at hR
  rw [hk] at hR
  rw [if_neg (by decide), if_neg (by decide), if_neg (by decide), if_neg (by decide), if_neg (by decide), if_neg (by decide), if_neg (by decide), if_neg (by decide), if_neg (by decide), if_neg (by decide), if_neg (by decide), if_neg (by decide), if_neg (by decide), if_pos (by decide)] at hR
  have E := Lib.hid hR.symm
  clear hR ho
  have hst := store_f
  have hlen : x.kids.length = 2 := kids_len43 hrow hk
  have hlen2 := Lib.hid hlen
  have HLA := Lib.hid hlen
  have hi0 : 0 < x.kids.length := by omega
  have hi1 : 1 < x.kids.length := by omega
  clear hlen
  have HKD := Lib.hid hk
  clear hk
  have HT := Lib.hid ht
  clear ht HO
  obtain ⟨ka, rfl⟩ := kids_addr hK0 (by assumption)
  have S := Lib.hid (st_begin (ck := ck) (n := n) (x := x) H0 (.inl rfl) (Fr.refl _ _ _) hK0)
  clear H0 hK0
  unfold nodeV
  go_enter Tryz.func138, Tryz.ntmps138
  go_upto_region 1 with (fail)
  generalize w.alloc (.cells #[.int .u8 (x.kind : Int), .int .i64 x.pos, .string x.text, .float .f64 x.num, .slice (some ka) x.kids.length ck] 44) = W at S ⊢
  obtain ⟨d0, d1, d2, d3, d4⟩ := nc5 S.out.blk
  have hnl := lt_of_blk S.out.blk
  obtain ⟨hal, kc0, hxk0⟩ := st_kid S.out hx (i := 0) (by first | assumption | omega)
  replace kc0 : W.cell? ka = some (.int .i64 (kidNo n x 0 : Nat)) := kc0
  rw [HKD.out] at d0
  rw [HLA.out] at d4
  go_wp2_with (fail)
  have E := Lib.hid (E.out.trans (if_neg (by rw [HT.out]; decide)))
  go_at_call 160
  refine (wtarget_no S.out.H hxk0 HT.out).mono ?_
  rintro e wt ⟨rfl, g⟩
  exact ⟨rfl, wres_bad E.out (st_bad S.out (Fr.below g))⟩
set_option maxHeartbeats 8000000 in
set_option maxRecDepth 100000 in
theorem ww_barex {z : Wz} {r : Wm → Tr → Wr → WR} (A : AllWr z r) {x : Tr} {s0 : Wr} {n h0 : Nat} {w : World} {K : Option Addr} {ck : Nat} {q : Nat} (hx : SubT z.N n x) (hrow : RowT x = true) (hK0 : KidsI w (fun k => k < z.b) K ck (intsI (KidsT (n + 1) x.kids))) (H0 : WA z s0 h0 w) (ho : wstep r (.bare q) x s0 ≠ .out) (hk : x.kind ∉ ([20, 21, 26, 27, 28, 33, 34, 35, 36, 37, 38, 40, 41, 39, 42, 43] : List Nat)) : Calls Tryz.prog 138 #[.pointer (some ⟨z.b, 0, none⟩), nodeV x K ck, .int .i64 (q : Int)] w (WRes z h0 w (wstep r (.bare q) x s0)) := by
  have _ := A
  have _ := And.intro hx hrow
  generalize hR : wstep r (.bare q) x s0 = R at ho ⊢
  have HO := Lib.hid ho
  dsimp only [wstep] at hR
  have hk2 := hk
  simp only [List.mem_cons, List.not_mem_nil, or_false, not_or] at hk2
  rw [if_neg (by omega), if_neg (by omega), if_neg (by omega), if_neg (by omega), if_neg (by omega), if_neg (by omega), if_neg (by omega), if_neg (by omega), if_neg (by omega), if_neg (by omega), if_neg (by omega), if_neg (by omega), if_neg (by omega), if_neg (by omega)] at hR
  have E := Lib.hid hR.symm
  clear hR ho
  have hst := store_f
  have hk44 : x.kind < 44 := kind_lt hrow
  have f20 : ((x.kind : Int) == 20) = false := by rw [beq_eq_false_iff_ne]; have := hk; simp at this; omega
  have f21 : ((x.kind : Int) == 21) = false := by rw [beq_eq_false_iff_ne]; have := hk; simp at this; omega
  have f26 : ((x.kind : Int) == 26) = false := by rw [beq_eq_false_iff_ne]; have := hk; simp at this; omega
  have f27 : ((x.kind : Int) == 27) = false := by rw [beq_eq_false_iff_ne]; have := hk; simp at this; omega
  have f28 : ((x.kind : Int) == 28) = false := by rw [beq_eq_false_iff_ne]; have := hk; simp at this; omega
  have f33 : ((x.kind : Int) == 33) = false := by rw [beq_eq_false_iff_ne]; have := hk; simp at this; omega
  have f34 : ((x.kind : Int) == 34) = false := by rw [beq_eq_false_iff_ne]; have := hk; simp at this; omega
  have f35 : ((x.kind : Int) == 35) = false := by rw [beq_eq_false_iff_ne]; have := hk; simp at this; omega
  have f36 : ((x.kind : Int) == 36) = false := by rw [beq_eq_false_iff_ne]; have := hk; simp at this; omega
  have f37 : ((x.kind : Int) == 37) = false := by rw [beq_eq_false_iff_ne]; have := hk; simp at this; omega
  have f38 : ((x.kind : Int) == 38) = false := by rw [beq_eq_false_iff_ne]; have := hk; simp at this; omega
  have f40 : ((x.kind : Int) == 40) = false := by rw [beq_eq_false_iff_ne]; have := hk; simp at this; omega
  have f41 : ((x.kind : Int) == 41) = false := by rw [beq_eq_false_iff_ne]; have := hk; simp at this; omega
  have f39 : ((x.kind : Int) == 39) = false := by rw [beq_eq_false_iff_ne]; have := hk; simp at this; omega
  have f42 : ((x.kind : Int) == 42) = false := by rw [beq_eq_false_iff_ne]; have := hk; simp at this; omega
  have f43 : ((x.kind : Int) == 43) = false := by rw [beq_eq_false_iff_ne]; have := hk; simp at this; omega
  clear hk HO
  have S := Lib.hid (st_begin (ck := ck) (n := n) (x := x) H0 (.inl rfl) (Fr.refl _ _ _) hK0)
  clear H0 hK0
  unfold nodeV
  go_enter Tryz.func138, Tryz.ntmps138
  go_upto_region 1 with (fail)
  generalize w.alloc (.cells #[.int .u8 (x.kind : Int), .int .i64 x.pos, .string x.text, .float .f64 x.num, .slice K x.kids.length ck] 44) = W at S ⊢
  obtain ⟨d0, d1, d2, d3, d4⟩ := nc5 S.out.blk
  have hnl := lt_of_blk S.out.blk
  go_wp2_with (fail)
  go_at_call 9
  refine (Kind_w x.kind hk44 _).mono ?_
  rintro e w1 ⟨rfl, g⟩
  have S := Lib.hid (st_up S.out g)
  clear g
  obtain ⟨d0, d1, d2, d3, d4⟩ := nc5 S.out.blk
  have hnl := lt_of_blk S.out.blk
  go_wp2_with (fail)
  go_at_call 73
  refine (say_one S.out.H (kindW x.kind) 9).mono ?_
  rintro e w2 hr
  cases hm : saysW [(kindW x.kind)] s0 with
  | out => exact absurd hm (says_out _ _)
  | bad u => rw [hm] at hr; obtain ⟨rfl, g⟩ := hr; exact ⟨rfl, wres_bad (E.out.trans hm) (st_bad S.out g)⟩
  | ok s2 =>
    rw [hm] at hr
    obtain ⟨rfl, h2, H, e1, g⟩ := hr
    have E := Lib.hid (E.out.trans hm)
    have S := Lib.hid (st_next S.out H e1 g)
    clear H e1 g hm
    go_wp2_with (fail)
    go_end0
    exact st_fin S.out E.out
theorem ww_bare {z : Wz} {r : Wm → Tr → Wr → WR} (A : AllWr z r) : ByNode2 z 138 (fun k => wstep r (.bare k)) := by
  intro q x s n h w K ck hq hx hrow hK H ho
  by_cases h20 : x.kind = 20
  · exact ww_bare20 A hx hrow hK H ho h20
  by_cases h21 : x.kind = 21
  · exact ww_bare21 A hx hrow hK H ho h21
  by_cases h26 : x.kind = 26
  · exact ww_bare26 A hx hrow hK H ho h26
  by_cases h27 : x.kind = 27
  · exact by
      cases ht : x.text.toList.isEmpty with
      | true => exact ww_bare27a A hx hrow hK H ho h27 ht
      | false => exact ww_bare27b A hx hrow hK H ho h27 ht
  by_cases h28 : x.kind = 28
  · exact ww_bare28 A hx hrow hK H ho h28
  by_cases h33 : x.kind = 33
  · exact ww_bare33 A hx hrow hK H ho h33
  by_cases h34 : x.kind = 34
  · exact ww_bare34 A hx hrow hK H ho hq h34
  by_cases h35 : x.kind = 35
  · exact ww_bare35 A hx hrow hK H ho hq h35
  by_cases h36 : x.kind = 36
  · exact ww_bare36 A hx hrow hK H ho hq h36
  by_cases h37 : x.kind = 37
  · exact ww_bare37 A hx hrow hK H ho h37
  by_cases h38 : x.kind = 38
  · exact ww_bare38 A hx hrow hK H ho h38
  by_cases h40 : x.kind = 40
  · exact ww_bare40 A hx hrow hK H ho h40
  by_cases h41 : x.kind = 41
  · exact ww_bare41 A hx hrow hK H ho h41
  by_cases h39 : x.kind = 39
  · exact ww_bare39 A hx hrow hK H ho h39
  by_cases h42 : x.kind = 42
  · exact ww_bare42 A hx hrow hK H ho h42
  by_cases h43 : x.kind = 43
  · exact by
      cases ht : targetB (x.kid 0).kind with
      | true => exact ww_bare43 A hx hrow hK H ho h43 ht
      | false => exact ww_bare43x A hx hrow hK H ho h43 ht
  exact ww_barex A hx hrow hK H ho (by simp only [List.mem_cons, List.not_mem_nil, or_false, not_or]; exact ⟨h20, h21, h26, h27, h28, h33, h34, h35, h36, h37, h38, h40, h41, h39, h42, h43⟩)
end Go.Proofs.YtablckajobefeaaGreatDoor.S
/-
  The writer's value, body: walks.
-/
namespace Go.Proofs.YtablckajobefeaaGreatDoor.S
open Go.RowKit Fl

set_option maxHeartbeats 2000000 in
theorem ww_value {z : Wz} {r : Wm → Tr → Wr → WR} (A : AllWr z r) : ByNo z 77 (wstep r .value) := by
  intro x s n h w hx hrow H ho
  generalize hR : wstep r .value x s = R at ho ⊢
  have HO := Lib.hid ho
  dsimp only [wstep] at hR
  have E := Lib.hid hR.symm
  clear hR ho
  have G := Fr.refl z.b h w
  go_enter Tryz.func77, Tryz.ntmps77
  go_wp2_with (fail)
  have hno1 : r (.held 0) x s ≠ .out := fun e => HO.out (E.out.trans e)
  go_at_call 114
  refine (A.held 0 x s n h _ (by omega) hx hrow H hno1).mono ?_
  rintro e w1 hr
  dsimp only at hr
  cases hm1 : r (.held 0) x s with
  | out => exact absurd hm1 hno1
  | bad q => rw [hm1] at hr; obtain ⟨rfl, g⟩ := hr; exact ⟨rfl, wres_bad (E.out.trans hm1) (G.trans (.inl rfl) g)⟩
  | ok s1 =>
    rw [hm1] at hr
    obtain ⟨rfl, h1, H, e1, g⟩ := hr
    have E := Lib.hid (E.out.trans hm1)
    go_wp2_with (fail)
    go_end0
    exact wres_ok E.out H (hor (.inl rfl) G.size e1) (G.trans (.inl rfl) g)
set_option maxHeartbeats 2000000 in
theorem ww_body {z : Wz} {r : Wm → Tr → Wr → WR} (A : AllWr z r) : ByNo z 80 (wstep r .body) := by
  intro x s n h w hx hrow H ho
  generalize hR : wstep r .body x s = R at ho ⊢
  have HO := Lib.hid ho
  dsimp only [wstep] at hR
  have E := Lib.hid hR.symm
  clear hR ho
  have G := Fr.refl z.b h w
  obtain ⟨v, hb, _, _⟩ := H.blk
  obtain ⟨a, K, ck, ha, hal, hn, a0, a1, a2, a3, a4, hK⟩ := node_at H hx
  have c0 : w.cell? ⟨z.b, 0, none⟩ = some (.slice z.A z.N.length z.cap) := blk_cell hb 0
  rw [ha] at c0
  have hn1 : (n : Int) < (z.N.length : Int) := by omega
  have hn0 : (0 : Int) ≤ (n : Int) := by omega
  have hn2 : ((n : Int)).toNat = n := by omega
  by_cases hk : x.kind = 3 ∨ x.kind = 4 ∨ x.kind = 5
  · have E := Lib.hid (E.out.trans (if_pos hk))
    clear a1 a2 a3 a4
    rcases hk with hk | hk | hk
    all_goals
      rw [hk] at a0
      clear hk hK hb
      go_enter Tryz.func80, Tryz.ntmps80
      go_wp2_with (fail)
      go_at_call 83
      refine (refuse_w z _).mono ?_
      rintro e w1 ⟨rfl, g⟩
      exact ⟨rfl, wres_bad E.out (Fr.below g)⟩
  · have E := Lib.hid (E.out.trans (if_neg hk))
    have f3 : ((x.kind : Int) == 3) = false := by rw [beq_eq_false_iff_ne]; omega
    have f4 : ((x.kind : Int) == 4) = false := by rw [beq_eq_false_iff_ne]; omega
    have f5 : ((x.kind : Int) == 5) = false := by rw [beq_eq_false_iff_ne]; omega
    clear a1 a2 a3 a4 hk hK hb
    go_enter Tryz.func80, Tryz.ntmps80
    go_wp2_with (fail)
    have hno1 : r .statement x s ≠ .out := fun e => HO.out (E.out.trans e)
    go_at_call 55
    refine (A.statement x s n h _ hx hrow H hno1).mono ?_
    rintro e w1 hr
    cases hm1 : r .statement x s with
    | out => exact absurd hm1 hno1
    | bad q => rw [hm1] at hr; obtain ⟨rfl, g⟩ := hr; exact ⟨rfl, wres_bad (E.out.trans hm1) (G.trans (.inl rfl) g)⟩
    | ok s1 =>
      rw [hm1] at hr
      obtain ⟨rfl, h1, H, e1, g⟩ := hr
      have E := Lib.hid (E.out.trans hm1)
      go_wp2_with (fail)
      go_end0
      exact wres_ok E.out H (hor (.inl rfl) G.size e1) (G.trans (.inl rfl) g)
end Go.Proofs.YtablckajobefeaaGreatDoor.S
/-
  All of the writer's methods; its script: a walk. Generated: gen_writ.py.
-/
namespace Go.Proofs.YtablckajobefeaaGreatDoor.S
open Go.RowKit Fl

theorem all_wr (z : Wz) : ∀ n, AllWr z (wrun n)
  | 0 => ⟨fun _ _ _ _ _ _ _ _ ho => absurd rfl ho, fun _ _ _ _ _ _ _ _ ho => absurd rfl ho, fun _ _ _ _ _ _ _ _ ho => absurd rfl ho, fun _ _ _ _ _ _ _ _ ho => absurd rfl ho, fun _ _ _ _ _ _ _ _ ho => absurd rfl ho, fun _ _ _ _ _ _ _ _ _ _ ho => absurd rfl ho, fun _ _ _ _ _ _ _ _ ho => absurd rfl ho, fun _ _ _ _ _ _ _ _ ho => absurd rfl ho, fun _ _ _ _ _ _ _ _ _ _ ho => absurd rfl ho, fun _ _ _ _ _ _ _ _ _ _ _ _ ho => absurd rfl ho, fun _ _ _ _ _ _ _ _ _ _ _ _ ho => absurd rfl ho, fun _ _ _ _ _ _ _ _ _ _ _ _ ho => absurd rfl ho, fun _ _ _ _ _ _ _ _ _ _ _ _ ho => absurd rfl ho, fun _ _ _ _ _ _ _ _ _ _ _ _ ho => absurd rfl ho, fun _ _ _ _ _ _ _ _ _ _ _ _ ho => absurd rfl ho, fun _ _ _ _ _ _ _ _ _ _ _ _ _ ho => absurd rfl ho, fun _ _ _ _ _ _ _ _ _ _ _ _ _ ho => absurd rfl ho, fun _ _ _ _ _ _ _ _ _ _ _ _ _ _ ho => absurd rfl ho⟩
  | n + 1 => by
    have A := all_wr z n
    exact ⟨ww_statement A, ww_body A, ww_block A, ww_test A, ww_value A, ww_held A, ww_pair A, ww_key A, ww_accessor A, ww_declaration A, ww_function A, ww_branch A, ww_loop A, ww_guarded A, ww_args A, ww_bare A, ww_sides A, ww_chain A⟩
set_option maxHeartbeats 4000000 in
set_option maxRecDepth 100000 in
/-- the writer's script: what is told of a tree, whatever the depth that is enough -/
theorem wscript_w {z : Wz} (d : Nat) {x : Tr} {h : Nat} {w : World} (hx : SubT z.N 0 x) (hrow : RowT x = true) (H : WA z ⟨[], 0⟩ h w) (ho : scriptW d x ≠ .out) : Calls Tryz.prog 29 #[.pointer (some ⟨z.b, 0, none⟩)] w (WRes z h w (scriptW d x)) := by
  have A := (all_wr z d).statement
  generalize hR : scriptW d x = R at ho ⊢
  unfold scriptW at hR
  generalize wrun d .statement = f at A hR
  obtain ⟨v, hb, _, _⟩ := H.blk
  obtain ⟨a, K, ck, ha, hal, hn, a0, a1, a2, a3, a4, hK⟩ := node_at H hx
  have c0 : w.cell? ⟨z.b, 0, none⟩ = some (.slice z.A z.N.length z.cap) := blk_cell hb 0
  rw [ha] at c0
  have hn1 : (0 : Int) < (z.N.length : Int) := by omega
  replace a4 : w.cell? ⟨a.block, a.off + 4, none⟩ = some (.slice K x.kids.length ck) := a4
  have HO := Lib.hid ho
  have hfew : x.kids.length ≤ 16384 := kids_few hrow
  have HE := Lib.hid (And.intro H (And.intro (Fr.refl z.b h w) (And.intro (ls_all hK hx hrow) (show R = eachW f (x.kids.drop 0) ⟨[], 0⟩ from hR.symm))))
  clear hR ho H hK hb a0 a1 a2 a3
  go_enter Tryz.func29, Tryz.ntmps29
  go_wp2_with (fail)
  go_loopw [12] (fun i wr => ∃ (k : Nat) (s2 : Wr) (h3 : Nat), i = .int .i64 k ∧ k ≤ x.kids.length ∧ Hid (WA z s2 h3 wr ∧ (h3 = h ∨ w.heap.size ≤ h3) ∧ Fr z.b h w wr ∧ LsT z wr K x.kids ∧ R = eachW f (x.kids.drop k) s2)) (fun i _ => x.kids.length - (intOf i).toNat)
  case atStart => exact ⟨0, ⟨[], 0⟩, h, rfl, Nat.zero_le _, Lib.hid ⟨HE.out.1, .inl rfl, HE.out.2⟩⟩
  case round =>
    obtain ⟨k, s2, h3, rfl, hk2, HH⟩ := hrel
    obtain ⟨H4, e4, G4, hL4, E4⟩ := HH.out
    clear HH HE
    by_cases hlt : k < x.kids.length
    · obtain ⟨la, m, ha2, hal2, kc, hxk, hrk⟩ := ls_at hL4 hlt
      subst ha2
      obtain ⟨y, hy⟩ : ∃ y, y = x.kids[k]'hlt := ⟨_, rfl⟩
      rw [← hy] at hxk hrk
      have E := Lib.hid (E4.trans (by rw [each_drop hlt, ← hy]))
      have hlz : (k : Int) < (x.kids.length : Int) := by omega
      have hno := Lib.hid (show f y s2 ≠ .out from fun e => HO.out (E.out.trans (WR.bind_out e _)))
      have ky := A y s2 m h3 wr hxk hrk H4 hno.out
      have HN := Lib.hid (And.intro H4 (And.intro e4 (And.intro G4 hL4)))
      have hl1 := Lib.hid hlt
      clear H4 e4 G4 hL4 E4 hy hlt
      go_wp2_with (fail)
      go_at_call 55
      refine ky.mono ?_
      rintro e w5 hr
      cases hm : f y s2 with
      | out => exact absurd hm hno.out
      | bad q => rw [hm] at hr; obtain ⟨rfl, g⟩ := hr; exact ⟨rfl, wres_bad (E.out.trans (WR.bind_bad hm _)) (HN.out.2.2.1.trans HN.out.2.1 g)⟩
      | ok s5 =>
        rw [hm] at hr
        obtain ⟨rfl, h5, H5, e5, g5⟩ := hr
        have HN2 := Lib.hid (And.intro H5 (And.intro (hor HN.out.2.1 HN.out.2.2.1.size e5) (And.intro (HN.out.2.2.1.trans HN.out.2.1 g5) (And.intro (ls_up HN.out.2.2.2 HN.out.1.hz g5) (E.out.trans (WR.bind_ok hm _))))))
        clear ky H5 e5 g5 hm HN E
        go_wp2_with (fail)
        go_roundw
        case rel => exact ⟨k + 1, s5, h5, by go_num, hl1.out, HN2⟩
        case measure => have := hl1.out; simp [intOf]; omega
    · have E := Lib.hid (E4.trans (by rw [List.drop_eq_nil_of_le (by omega)]; rfl) : R = .ok s2)
      have HN := Lib.hid (And.intro H4 (And.intro e4 G4))
      obtain rfl : k = x.kids.length := by omega
      clear H4 e4 G4 hL4 E4
      go_wp2_with (fail)
      go_end0
      exact wres_ok E.out HN.out.1 HN.out.2.1 HN.out.2.2
end Go.Proofs.YtablckajobefeaaGreatDoor.S
