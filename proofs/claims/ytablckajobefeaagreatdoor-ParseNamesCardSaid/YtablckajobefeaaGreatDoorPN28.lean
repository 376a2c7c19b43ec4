/-
  The writer's declaration: walks. Generated: gen_writ.py.
-/
import Derived.Test.YtablckajobefeaaGreatDoorPN27
namespace Go.Proofs.YtablckajobefeaaGreatDoor.S
open Go.RowKit Fl

set_option maxHeartbeats 8000000 in
set_option maxRecDepth 100000 in
theorem ww_decl0 {z : Wz} {r : Wm → Tr → Wr → WR} (A : AllWr z r) {x : Tr} {s0 : Wr} {n h0 : Nat} {w : World} {K : Option Addr} {ck : Nat} (hx : SubT z.N n x) (hrow : RowT x = true) (hK0 : KidsI w (fun k => k < z.b) K ck (intsI (KidsT (n + 1) x.kids))) (H0 : WA z s0 h0 w) (ho : wstep r .declaration x s0 ≠ .out) (hk : x.kind = 4) (hz : x.kids.length = 0) : Calls Tryz.prog 74 #[.pointer (some ⟨z.b, 0, none⟩), nodeV x K ck] w (WRes z h0 w (wstep r .declaration x s0)) := by
  have _ := A
  have _ := And.intro hx hrow
  generalize hR : wstep r .declaration x s0 = R at ho ⊢
  have HO := Lib.hid ho
  dsimp only [wstep] at hR
  rw [if_pos ⟨hk, hz⟩] at hR
  have E := Lib.hid hR.symm
  clear hR ho
  have hst := store_f
  have HLA := Lib.hid hz
  have HKD := Lib.hid hk
  clear hk hz HO
  have S := Lib.hid (st_begin (ck := ck) (n := n) (x := x) H0 (.inl rfl) (Fr.refl _ _ _) hK0)
  clear H0 hK0
  unfold nodeV
  go_enter Tryz.func74, Tryz.ntmps74
  go_upto_region 1 with (fail)
  generalize w.alloc (.cells #[.int .u8 (x.kind : Int), .int .i64 x.pos, .string x.text, .float .f64 x.num, .slice K x.kids.length ck] 44) = W at S ⊢
  obtain ⟨d0, d1, d2, d3, d4⟩ := nc5 S.out.blk
  have hnl := lt_of_blk S.out.blk
  rw [HKD.out] at d0
  rw [HLA.out] at d4
  go_wp2_with (fail)
  go_at_call 83
  refine (refuse_w z _).mono ?_
  rintro e wz ⟨rfl, g⟩
  exact ⟨rfl, wres_bad E.out (st_bad S.out (Fr.below g))⟩
set_option maxHeartbeats 8000000 in
set_option maxRecDepth 100000 in
theorem ww_decl3 {z : Wz} {r : Wm → Tr → Wr → WR} (A : AllWr z r) {x : Tr} {s0 : Wr} {n h0 : Nat} {w : World} {K : Option Addr} {ck : Nat} (hx : SubT z.N n x) (hrow : RowT x = true) (hK0 : KidsI w (fun k => k < z.b) K ck (intsI (KidsT (n + 1) x.kids))) (H0 : WA z s0 h0 w) (ho : wstep r .declaration x s0 ≠ .out) (hk : x.kind = 3) : Calls Tryz.prog 74 #[.pointer (some ⟨z.b, 0, none⟩), nodeV x K ck] w (WRes z h0 w (wstep r .declaration x s0)) := by
  have _ := A
  have _ := And.intro hx hrow
  generalize hR : wstep r .declaration x s0 = R at ho ⊢
  have HO := Lib.hid ho
  dsimp only [wstep] at hR
  rw [if_neg (fun h => by have h1 := h.1; have h2 := h.2; omega), hk] at hR
  have E := Lib.hid hR.symm
  clear hR ho
  have hst := store_f
  have hfew : x.kids.length ≤ 16384 := kids_few hrow
  have HKD := Lib.hid hk
  clear hk
  have S := Lib.hid (st_begin (ck := ck) (n := n) (x := x) H0 (.inl rfl) (Fr.refl _ _ _) hK0)
  clear H0 hK0
  unfold nodeV
  go_enter Tryz.func74, Tryz.ntmps74
  go_upto_region 1 with (fail)
  generalize w.alloc (.cells #[.int .u8 (x.kind : Int), .int .i64 x.pos, .string x.text, .float .f64 x.num, .slice K x.kids.length ck] 44) = W at S ⊢
  obtain ⟨d0, d1, d2, d3, d4⟩ := nc5 S.out.blk
  have hnl := lt_of_blk S.out.blk
  rw [HKD.out] at d0
  go_wp2_with (fail)
  go_at_call 9
  refine (Kind_w 3 (by omega) _).mono ?_
  rintro e w1 ⟨rfl, g⟩
  have S := Lib.hid (st_up S.out g)
  clear g
  obtain ⟨d0, d1, d2, d3, d4⟩ := nc5 S.out.blk
  have hnl := lt_of_blk S.out.blk
  rw [HKD.out] at d0
  go_wp2_with (fail)
  go_at_call 73
  refine (say_one S.out.H (kindW 3) 9).mono ?_
  rintro e w2 hr
  cases hm : saysW [(kindW 3)] s0 with
  | out => exact absurd hm (says_out _ _)
  | bad u => rw [hm] at hr; obtain ⟨rfl, g⟩ := hr; exact ⟨rfl, wres_bad (E.out.trans (WR.b1_bad hm _)) (st_bad S.out g)⟩
  | ok s2 =>
    rw [hm] at hr
    obtain ⟨rfl, h2, H, e1, g⟩ := hr
    have E := Lib.hid (E.out.trans (WR.b1_ok hm _))
    have S := Lib.hid (st_next S.out H e1 g)
    clear H e1 g hm
    obtain ⟨d0, d1, d2, d3, d4⟩ := nc5 S.out.blk
    have hnl := lt_of_blk S.out.blk
    rw [HKD.out] at d0
    go_wp2_with (fail)
    go_at_call 75
    refine (name_w S.out.H x.text).mono ?_
    rintro e w3 hr
    cases hm : nameW x.text s2 with
    | out => exact absurd hm (name_out _ _)
    | bad u => rw [hm] at hr; obtain ⟨rfl, g⟩ := hr; exact ⟨rfl, wres_bad (E.out.trans (WR.b1_bad hm _)) (st_bad S.out g)⟩
    | ok s3 =>
      rw [hm] at hr
      obtain ⟨rfl, h3, H, e1, g⟩ := hr
      have E := Lib.hid (E.out.trans (WR.b1_ok hm _))
      have S := Lib.hid (st_next S.out H e1 g)
      clear H e1 g hm
      obtain ⟨d0, d1, d2, d3, d4⟩ := nc5 S.out.blk
      have hnl := lt_of_blk S.out.blk
      rw [HKD.out] at d0
      have hL := Lib.hid (ls_all S.out.kids hx hrow)
      go_wp2_with (fail)
      have hS0 := Lib.hid (And.intro S.out (And.intro hL.out (show R = (eachW (fun y s => (saysW [(⟨#[61]⟩ : ByteArray)] s).bind (r .value y)) ((x.kids).drop 0) s3).bind (fun s3 => saysW [(⟨#[59]⟩ : ByteArray)] s3) from E.out)))
      clear S E hL
      go_loopw [30] (fun i wr => ∃ (k : Nat) (s2 : Wr) (h3 : Nat), i = .int .i64 k ∧ k ≤ (x.kids).length ∧ Hid (St z x n K ck w.heap.size w h0 s2 h3 wr ∧ LsT z wr K (x.kids) ∧ R = (eachW (fun y s => (saysW [(⟨#[61]⟩ : ByteArray)] s).bind (r .value y)) ((x.kids).drop k) s2).bind (fun s3 => saysW [(⟨#[59]⟩ : ByteArray)] s3))) (fun i _ => (x.kids).length - (intOf i).toNat)
      case atStart => exact ⟨0, s3, _, rfl, Nat.zero_le _, hS0⟩
      case round =>
        clear hS0
        obtain ⟨k, s2, h3, rfl, hk2, HH⟩ := hrel
        obtain ⟨S4, hL4, E4⟩ := HH.out
        have S := Lib.hid S4
        clear HH S4
        by_cases hlt : k < (x.kids).length
        · obtain ⟨la, m, ha, hal, kc, hxk, hrk⟩ := ls_at hL4 hlt
          cases ha
          have hlz : (k : Int) < ((x.kids).length : Int) := by omega
          have hL := Lib.hid hL4
          have hl1 := Lib.hid hlt
          obtain ⟨y, hy⟩ : ∃ y, y = (x.kids)[k]'hlt := ⟨_, rfl⟩
          rw [← hy] at hxk hrk
          have E := Lib.hid (E4.trans (by rw [each_drop hlt, ← hy]))
          clear hL4 E4 hy
          go_wp2_with (fail)
          go_at_call 73
          refine (say_one S.out.H (⟨#[61]⟩ : ByteArray) 9).mono ?_
          rintro e w4 hr
          cases hm : saysW [(⟨#[61]⟩ : ByteArray)] s2 with
          | out => exact absurd hm (says_out _ _)
          | bad u => rw [hm] at hr; obtain ⟨rfl, g⟩ := hr; exact ⟨rfl, wres_bad (E.out.trans (WR.b3_bad hm _ _ _)) (st_bad S.out g)⟩
          | ok s6 =>
            rw [hm] at hr
            obtain ⟨rfl, h7, H, e1, g⟩ := hr
            have E := Lib.hid (E.out.trans (WR.b3_ok hm _ _ _))
            have hL := Lib.hid (ls_up hL.out S.out.H.hz g)
            have S := Lib.hid (st_next S.out H e1 g)
            clear H e1 g hm
            go_wp2_with (fail)
            have hno := Lib.hid (show r .value y s6 ≠ .out from fun e => HO.out (E.out.trans (WR.b2_out e _ _)))
            go_at_call 77
            refine (A.value _ _ _ _ _ hxk hrk S.out.H hno.out).mono ?_
            rintro e w5 hr
            cases hm : r .value y s6 with
            | out => exact absurd hm hno.out
            | bad u => rw [hm] at hr; obtain ⟨rfl, g⟩ := hr; exact ⟨rfl, wres_bad (E.out.trans (WR.b2_bad hm _ _)) (st_bad S.out g)⟩
            | ok s7 =>
              rw [hm] at hr
              obtain ⟨rfl, h8, H, e1, g⟩ := hr
              have E := Lib.hid (E.out.trans (WR.b2_ok hm _ _))
              have hL := Lib.hid (ls_up hL.out S.out.H.hz g)
              have S := Lib.hid (st_next S.out H e1 g)
              clear H e1 g hm
              go_wp2_with (fail)
              go_roundw
              case rel => exact ⟨k + 1, s7, _, by go_num, hl1.out, Lib.hid ⟨S.out, hL.out, E.out⟩⟩
              case measure => have := hl1.out; simp [intOf]; omega
        · have E := Lib.hid (E4.trans (by rw [List.drop_eq_nil_of_le (by omega)]; rfl) : R = (fun s3 => saysW [(⟨#[59]⟩ : ByteArray)] s3) s2)
          clear E4 hL4
          obtain rfl : k = (x.kids).length := by omega
          go_wp2_with (fail)
          go_at_call 73
          refine (say_one S.out.H (⟨#[59]⟩ : ByteArray) 9).mono ?_
          rintro e w6 hr
          cases hm : saysW [(⟨#[59]⟩ : ByteArray)] s2 with
          | out => exact absurd hm (says_out _ _)
          | bad u => rw [hm] at hr; obtain ⟨rfl, g⟩ := hr; exact ⟨rfl, wres_bad (E.out.trans hm) (st_bad S.out g)⟩
          | ok s6 =>
            rw [hm] at hr
            obtain ⟨rfl, h6, H, e1, g⟩ := hr
            have E := Lib.hid (E.out.trans hm)
            have S := Lib.hid (st_next S.out H e1 g)
            clear H e1 g hm
            go_wp2_with (fail)
            go_end0
            exact st_fin S.out E.out
set_option maxHeartbeats 8000000 in
set_option maxRecDepth 100000 in
theorem ww_decl4 {z : Wz} {r : Wm → Tr → Wr → WR} (A : AllWr z r) {x : Tr} {s0 : Wr} {n h0 : Nat} {w : World} {K : Option Addr} {ck : Nat} (hx : SubT z.N n x) (hrow : RowT x = true) (hK0 : KidsI w (fun k => k < z.b) K ck (intsI (KidsT (n + 1) x.kids))) (H0 : WA z s0 h0 w) (ho : wstep r .declaration x s0 ≠ .out) (hk : x.kind = 4) (hz : x.kids.length ≠ 0) : Calls Tryz.prog 74 #[.pointer (some ⟨z.b, 0, none⟩), nodeV x K ck] w (WRes z h0 w (wstep r .declaration x s0)) := by
  have _ := A
  have _ := And.intro hx hrow
  generalize hR : wstep r .declaration x s0 = R at ho ⊢
  have HO := Lib.hid ho
  dsimp only [wstep] at hR
  rw [if_neg (fun h => by have h1 := h.1; have h2 := h.2; omega), hk] at hR
  have E := Lib.hid hR.symm
  clear hR ho
  have hst := store_f
  have hfew : x.kids.length ≤ 16384 := kids_few hrow
  have hzz : ((x.kids.length : Int) == 0) = false := by rw [beq_eq_false_iff_ne]; omega
  clear hz
  have HKD := Lib.hid hk
  clear hk
  have S := Lib.hid (st_begin (ck := ck) (n := n) (x := x) H0 (.inl rfl) (Fr.refl _ _ _) hK0)
  clear H0 hK0
  unfold nodeV
  go_enter Tryz.func74, Tryz.ntmps74
  go_upto_region 1 with (fail)
  generalize w.alloc (.cells #[.int .u8 (x.kind : Int), .int .i64 x.pos, .string x.text, .float .f64 x.num, .slice K x.kids.length ck] 44) = W at S ⊢
  obtain ⟨d0, d1, d2, d3, d4⟩ := nc5 S.out.blk
  have hnl := lt_of_blk S.out.blk
  rw [HKD.out] at d0
  go_wp2_with (fail)
  go_at_call 9
  refine (Kind_w 4 (by omega) _).mono ?_
  rintro e w1 ⟨rfl, g⟩
  have S := Lib.hid (st_up S.out g)
  clear g
  obtain ⟨d0, d1, d2, d3, d4⟩ := nc5 S.out.blk
  have hnl := lt_of_blk S.out.blk
  rw [HKD.out] at d0
  go_wp2_with (fail)
  go_at_call 73
  refine (say_one S.out.H (kindW 4) 9).mono ?_
  rintro e w2 hr
  cases hm : saysW [(kindW 4)] s0 with
  | out => exact absurd hm (says_out _ _)
  | bad u => rw [hm] at hr; obtain ⟨rfl, g⟩ := hr; exact ⟨rfl, wres_bad (E.out.trans (WR.b1_bad hm _)) (st_bad S.out g)⟩
  | ok s2 =>
    rw [hm] at hr
    obtain ⟨rfl, h2, H, e1, g⟩ := hr
    have E := Lib.hid (E.out.trans (WR.b1_ok hm _))
    have S := Lib.hid (st_next S.out H e1 g)
    clear H e1 g hm
    obtain ⟨d0, d1, d2, d3, d4⟩ := nc5 S.out.blk
    have hnl := lt_of_blk S.out.blk
    rw [HKD.out] at d0
    go_wp2_with (fail)
    go_at_call 75
    refine (name_w S.out.H x.text).mono ?_
    rintro e w3 hr
    cases hm : nameW x.text s2 with
    | out => exact absurd hm (name_out _ _)
    | bad u => rw [hm] at hr; obtain ⟨rfl, g⟩ := hr; exact ⟨rfl, wres_bad (E.out.trans (WR.b1_bad hm _)) (st_bad S.out g)⟩
    | ok s3 =>
      rw [hm] at hr
      obtain ⟨rfl, h3, H, e1, g⟩ := hr
      have E := Lib.hid (E.out.trans (WR.b1_ok hm _))
      have S := Lib.hid (st_next S.out H e1 g)
      clear H e1 g hm
      obtain ⟨d0, d1, d2, d3, d4⟩ := nc5 S.out.blk
      have hnl := lt_of_blk S.out.blk
      rw [HKD.out] at d0
      have hL := Lib.hid (ls_all S.out.kids hx hrow)
      go_wp2_with (fail)
      have hS0 := Lib.hid (And.intro S.out (And.intro hL.out (show R = (eachW (fun y s => (saysW [(⟨#[61]⟩ : ByteArray)] s).bind (r .value y)) ((x.kids).drop 0) s3).bind (fun s3 => saysW [(⟨#[59]⟩ : ByteArray)] s3) from E.out)))
      clear S E hL
      go_loopw [30] (fun i wr => ∃ (k : Nat) (s2 : Wr) (h3 : Nat), i = .int .i64 k ∧ k ≤ (x.kids).length ∧ Hid (St z x n K ck w.heap.size w h0 s2 h3 wr ∧ LsT z wr K (x.kids) ∧ R = (eachW (fun y s => (saysW [(⟨#[61]⟩ : ByteArray)] s).bind (r .value y)) ((x.kids).drop k) s2).bind (fun s3 => saysW [(⟨#[59]⟩ : ByteArray)] s3))) (fun i _ => (x.kids).length - (intOf i).toNat)
      case atStart => exact ⟨0, s3, _, rfl, Nat.zero_le _, hS0⟩
      case round =>
        clear hS0
        obtain ⟨k, s2, h3, rfl, hk2, HH⟩ := hrel
        obtain ⟨S4, hL4, E4⟩ := HH.out
        have S := Lib.hid S4
        clear HH S4
        by_cases hlt : k < (x.kids).length
        · obtain ⟨la, m, ha, hal, kc, hxk, hrk⟩ := ls_at hL4 hlt
          cases ha
          have hlz : (k : Int) < ((x.kids).length : Int) := by omega
          have hL := Lib.hid hL4
          have hl1 := Lib.hid hlt
          obtain ⟨y, hy⟩ : ∃ y, y = (x.kids)[k]'hlt := ⟨_, rfl⟩
          rw [← hy] at hxk hrk
          have E := Lib.hid (E4.trans (by rw [each_drop hlt, ← hy]))
          clear hL4 E4 hy
          go_wp2_with (fail)
          go_at_call 73
          refine (say_one S.out.H (⟨#[61]⟩ : ByteArray) 9).mono ?_
          rintro e w4 hr
          cases hm : saysW [(⟨#[61]⟩ : ByteArray)] s2 with
          | out => exact absurd hm (says_out _ _)
          | bad u => rw [hm] at hr; obtain ⟨rfl, g⟩ := hr; exact ⟨rfl, wres_bad (E.out.trans (WR.b3_bad hm _ _ _)) (st_bad S.out g)⟩
          | ok s6 =>
            rw [hm] at hr
            obtain ⟨rfl, h7, H, e1, g⟩ := hr
            have E := Lib.hid (E.out.trans (WR.b3_ok hm _ _ _))
            have hL := Lib.hid (ls_up hL.out S.out.H.hz g)
            have S := Lib.hid (st_next S.out H e1 g)
            clear H e1 g hm
            go_wp2_with (fail)
            have hno := Lib.hid (show r .value y s6 ≠ .out from fun e => HO.out (E.out.trans (WR.b2_out e _ _)))
            go_at_call 77
            refine (A.value _ _ _ _ _ hxk hrk S.out.H hno.out).mono ?_
            rintro e w5 hr
            cases hm : r .value y s6 with
            | out => exact absurd hm hno.out
            | bad u => rw [hm] at hr; obtain ⟨rfl, g⟩ := hr; exact ⟨rfl, wres_bad (E.out.trans (WR.b2_bad hm _ _)) (st_bad S.out g)⟩
            | ok s7 =>
              rw [hm] at hr
              obtain ⟨rfl, h8, H, e1, g⟩ := hr
              have E := Lib.hid (E.out.trans (WR.b2_ok hm _ _))
              have hL := Lib.hid (ls_up hL.out S.out.H.hz g)
              have S := Lib.hid (st_next S.out H e1 g)
              clear H e1 g hm
              go_wp2_with (fail)
              go_roundw
              case rel => exact ⟨k + 1, s7, _, by go_num, hl1.out, Lib.hid ⟨S.out, hL.out, E.out⟩⟩
              case measure => have := hl1.out; simp [intOf]; omega
        · have E := Lib.hid (E4.trans (by rw [List.drop_eq_nil_of_le (by omega)]; rfl) : R = (fun s3 => saysW [(⟨#[59]⟩ : ByteArray)] s3) s2)
          clear E4 hL4
          obtain rfl : k = (x.kids).length := by omega
          go_wp2_with (fail)
          go_at_call 73
          refine (say_one S.out.H (⟨#[59]⟩ : ByteArray) 9).mono ?_
          rintro e w6 hr
          cases hm : saysW [(⟨#[59]⟩ : ByteArray)] s2 with
          | out => exact absurd hm (says_out _ _)
          | bad u => rw [hm] at hr; obtain ⟨rfl, g⟩ := hr; exact ⟨rfl, wres_bad (E.out.trans hm) (st_bad S.out g)⟩
          | ok s6 =>
            rw [hm] at hr
            obtain ⟨rfl, h6, H, e1, g⟩ := hr
            have E := Lib.hid (E.out.trans hm)
            have S := Lib.hid (st_next S.out H e1 g)
            clear H e1 g hm
            go_wp2_with (fail)
            go_end0
            exact st_fin S.out E.out
theorem ww_declaration {z : Wz} {r : Wm → Tr → Wr → WR} (A : AllWr z r) : ByNodeP isDecl z 74 (wstep r .declaration) := by
  intro x s n h w K ck hP hx hrow hK H ho
  rcases hP with hk | hk
  · exact ww_decl3 A hx hrow hK H ho hk
  · by_cases hz : x.kids.length = 0
    · exact ww_decl0 A hx hrow hK H ho hk hz
    · exact ww_decl4 A hx hrow hK H ho hk hz
end Go.Proofs.YtablckajobefeaaGreatDoor.S
/-
  The writer's branch: walks. Generated: gen_writ.py.
-/
namespace Go.Proofs.YtablckajobefeaaGreatDoor.S
open Go.RowKit Fl

set_option maxHeartbeats 8000000 in
set_option maxRecDepth 100000 in
theorem ww_branch2a {z : Wz} {r : Wm → Tr → Wr → WR} (A : AllWr z r) {x : Tr} {s0 : Wr} {n h0 : Nat} {w : World} {K : Option Addr} {ck : Nat} (hx : SubT z.N n x) (hrow : RowT x = true) (hK0 : KidsI w (fun k => k < z.b) K ck (intsI (KidsT (n + 1) x.kids))) (H0 : WA z s0 h0 w) (ho : wstep r .branch x s0 ≠ .out) (hlen : x.kids.length = 2) (hck : ck = 2) : Calls Tryz.prog 78 #[.pointer (some ⟨z.b, 0, none⟩), nodeV x K ck] w (WRes z h0 w (wstep r .branch x s0)) := by
  have _ := A
  have _ := And.intro hx hrow
  generalize hR : wstep r .branch x s0 = R at ho ⊢
  have HO := Lib.hid ho
  dsimp only [wstep] at hR
  have E := Lib.hid hR.symm
  clear hR ho
  have hst := store_f
  have HLA := Lib.hid hlen
  have hi0 : 0 < x.kids.length := by omega
  have hi1 : 1 < x.kids.length := by omega
  clear hlen
  subst hck
  obtain ⟨ka, rfl⟩ := kids_addr hK0 (by assumption)
  have S := Lib.hid (st_begin (ck := 2) (n := n) (x := x) H0 (.inl rfl) (Fr.refl _ _ _) hK0)
  clear H0 hK0
  unfold nodeV
  go_enter Tryz.func78, Tryz.ntmps78
  go_upto_region 1 with (fail)
  generalize w.alloc (.cells #[.int .u8 (x.kind : Int), .int .i64 x.pos, .string x.text, .float .f64 x.num, .slice (some ka) x.kids.length 2] 44) = W at S ⊢
  obtain ⟨d0, d1, d2, d3, d4⟩ := nc5 S.out.blk
  have hnl := lt_of_blk S.out.blk
  rw [HLA.out] at d4
  go_wp2_with (fail)
  go_at_call 73
  refine (say_one S.out.H (⟨#[105, 102]⟩ : ByteArray) 9).mono ?_
  rintro e w1 hr
  cases hm : saysW [(⟨#[105, 102]⟩ : ByteArray)] s0 with
  | out => exact absurd hm (says_out _ _)
  | bad u => rw [hm] at hr; obtain ⟨rfl, g⟩ := hr; exact ⟨rfl, wres_bad (E.out.trans (WR.b1_bad hm _)) (st_bad S.out g)⟩
  | ok s1 =>
    rw [hm] at hr
    obtain ⟨rfl, h1, H, e1, g⟩ := hr
    have E := Lib.hid (E.out.trans (WR.b1_ok hm _))
    have S := Lib.hid (st_next S.out H e1 g)
    clear H e1 g hm
    obtain ⟨d0, d1, d2, d3, d4⟩ := nc5 S.out.blk
    have hnl := lt_of_blk S.out.blk
    obtain ⟨hal, kc0, hxk0⟩ := st_kid S.out hx (i := 0) (by first | assumption | omega)
    replace kc0 : w1.cell? ka = some (.int .i64 (kidNo n x 0 : Nat)) := kc0
    rw [HLA.out] at d4
    go_wp2_with (fail)
    have hno := Lib.hid (show r .test (x.kid 0) s1 ≠ .out from fun e => HO.out (E.out.trans (WR.b1_out e _)))
    go_at_call 79
    refine (A.test (x.kid 0) s1 _ _ _ hxk0 (rowT_kid hrow (by first | assumption | omega)) S.out.H hno.out).mono ?_
    rintro e w2 hr
    cases hm : r .test (x.kid 0) s1 with
    | out => exact absurd hm hno.out
    | bad u => rw [hm] at hr; obtain ⟨rfl, g⟩ := hr; exact ⟨rfl, wres_bad (E.out.trans (WR.b1_bad hm _)) (st_bad S.out g)⟩
    | ok s2 =>
      rw [hm] at hr
      obtain ⟨rfl, h2, H, e1, g⟩ := hr
      have E := Lib.hid (E.out.trans (WR.b1_ok hm _))
      have S := Lib.hid (st_next S.out H e1 g)
      clear H e1 g hm
      obtain ⟨d0, d1, d2, d3, d4⟩ := nc5 S.out.blk
      have hnl := lt_of_blk S.out.blk
      obtain ⟨hal, kc1, hxk1⟩ := st_kid S.out hx (i := 1) (by first | assumption | omega)
      replace kc1 : w2.cell? ⟨ka.block, ka.off + 1, none⟩ = some (.int .i64 (kidNo n x 1 : Nat)) := kc1
      rw [HLA.out] at d4
      go_wp2_with (fail)
      have hno := Lib.hid (show r .body (x.kid 1) s2 ≠ .out from fun e => HO.out (E.out.trans (WR.b1_out e _)))
      go_at_call 80
      refine (A.body (x.kid 1) s2 _ _ _ hxk1 (rowT_kid hrow (by first | assumption | omega)) S.out.H hno.out).mono ?_
      rintro e w3 hr
      cases hm : r .body (x.kid 1) s2 with
      | out => exact absurd hm hno.out
      | bad u => rw [hm] at hr; obtain ⟨rfl, g⟩ := hr; exact ⟨rfl, wres_bad (E.out.trans (WR.b1_bad hm _)) (st_bad S.out g)⟩
      | ok s3 =>
        rw [hm] at hr
        obtain ⟨rfl, h3, H, e1, g⟩ := hr
        have E := Lib.hid (E.out.trans (WR.b1_ok hm _))
        have S := Lib.hid (st_next S.out H e1 g)
        clear H e1 g hm
        obtain ⟨d0, d1, d2, d3, d4⟩ := nc5 S.out.blk
        have hnl := lt_of_blk S.out.blk
        rw [HLA.out] at d4
        have hLl : (x.kids.drop 2).length = 0 := by rw [List.length_drop, HLA.out]
        have hL : Hid (LsT z w3 (some ka) (x.kids.drop 2)) := Lib.hid (ls_nil hLl)
        go_wp2_with (fail)
        have hS0 := Lib.hid (And.intro S.out (And.intro hL.out (show R = eachW (fun y s => (saysW [(⟨#[101, 108, 115, 101]⟩ : ByteArray)] s).bind (r .body y)) ((x.kids.drop 2).drop 0) s3 from E.out)))
        clear S E hL
        go_loopw [25] (fun i wr => ∃ (k : Nat) (s2 : Wr) (h3 : Nat), i = .int .i64 k ∧ k ≤ (x.kids.drop 2).length ∧ Hid (St z x n (some ka) 2 w.heap.size w h0 s2 h3 wr ∧ LsT z wr (some ka) (x.kids.drop 2) ∧ R = eachW (fun y s => (saysW [(⟨#[101, 108, 115, 101]⟩ : ByteArray)] s).bind (r .body y)) ((x.kids.drop 2).drop k) s2)) (fun i _ => (x.kids.drop 2).length - (intOf i).toNat)
        case atStart => exact ⟨0, s3, _, rfl, Nat.zero_le _, hS0⟩
        case round =>
          clear hS0
          obtain ⟨k, s2, h3, rfl, hk2, HH⟩ := hrel
          obtain ⟨S4, hL4, E4⟩ := HH.out
          have S := Lib.hid S4
          clear HH S4
          by_cases hlt : k < (x.kids.drop 2).length
          · exfalso; omega
          · have E := Lib.hid (E4.trans (by rw [List.drop_eq_nil_of_le (by omega)]; rfl) : R = .ok s2)
            clear E4 hL4
            obtain rfl : k = 0 := by omega
            go_wp2_with (fail)
            go_end0
            exact st_fin S.out E.out
set_option maxHeartbeats 8000000 in
set_option maxRecDepth 100000 in
theorem ww_branch2b {z : Wz} {r : Wm → Tr → Wr → WR} (A : AllWr z r) {x : Tr} {s0 : Wr} {n h0 : Nat} {w : World} {K : Option Addr} {ck : Nat} (hx : SubT z.N n x) (hrow : RowT x = true) (hK0 : KidsI w (fun k => k < z.b) K ck (intsI (KidsT (n + 1) x.kids))) (H0 : WA z s0 h0 w) (ho : wstep r .branch x s0 ≠ .out) (hlen : x.kids.length = 2) (hck : 2 < ck) : Calls Tryz.prog 78 #[.pointer (some ⟨z.b, 0, none⟩), nodeV x K ck] w (WRes z h0 w (wstep r .branch x s0)) := by
  have _ := A
  have _ := And.intro hx hrow
  generalize hR : wstep r .branch x s0 = R at ho ⊢
  have HO := Lib.hid ho
  dsimp only [wstep] at hR
  have E := Lib.hid hR.symm
  clear hR ho
  have hst := store_f
  have HLA := Lib.hid hlen
  have hi0 : 0 < x.kids.length := by omega
  have hi1 : 1 < x.kids.length := by omega
  clear hlen
  have hc2 : ¬ ck - 2 = 0 := by omega
  have hcl : 2 ≤ ck := by omega
  obtain ⟨ka, rfl⟩ := kids_addr hK0 (by assumption)
  have S := Lib.hid (st_begin (ck := ck) (n := n) (x := x) H0 (.inl rfl) (Fr.refl _ _ _) hK0)
  clear H0 hK0
  unfold nodeV
  go_enter Tryz.func78, Tryz.ntmps78
  go_upto_region 1 with (fail)
  generalize w.alloc (.cells #[.int .u8 (x.kind : Int), .int .i64 x.pos, .string x.text, .float .f64 x.num, .slice (some ka) x.kids.length ck] 44) = W at S ⊢
  obtain ⟨d0, d1, d2, d3, d4⟩ := nc5 S.out.blk
  have hnl := lt_of_blk S.out.blk
  rw [HLA.out] at d4
  go_wp2_with (fail)
  go_at_call 73
  refine (say_one S.out.H (⟨#[105, 102]⟩ : ByteArray) 9).mono ?_
  rintro e w1 hr
  cases hm : saysW [(⟨#[105, 102]⟩ : ByteArray)] s0 with
  | out => exact absurd hm (says_out _ _)
  | bad u => rw [hm] at hr; obtain ⟨rfl, g⟩ := hr; exact ⟨rfl, wres_bad (E.out.trans (WR.b1_bad hm _)) (st_bad S.out g)⟩
  | ok s1 =>
    rw [hm] at hr
    obtain ⟨rfl, h1, H, e1, g⟩ := hr
    have E := Lib.hid (E.out.trans (WR.b1_ok hm _))
    have S := Lib.hid (st_next S.out H e1 g)
    clear H e1 g hm
    obtain ⟨d0, d1, d2, d3, d4⟩ := nc5 S.out.blk
    have hnl := lt_of_blk S.out.blk
    obtain ⟨hal, kc0, hxk0⟩ := st_kid S.out hx (i := 0) (by first | assumption | omega)
    replace kc0 : w1.cell? ka = some (.int .i64 (kidNo n x 0 : Nat)) := kc0
    rw [HLA.out] at d4
    go_wp2_with (fail)
    have hno := Lib.hid (show r .test (x.kid 0) s1 ≠ .out from fun e => HO.out (E.out.trans (WR.b1_out e _)))
    go_at_call 79
    refine (A.test (x.kid 0) s1 _ _ _ hxk0 (rowT_kid hrow (by first | assumption | omega)) S.out.H hno.out).mono ?_
    rintro e w2 hr
    cases hm : r .test (x.kid 0) s1 with
    | out => exact absurd hm hno.out
    | bad u => rw [hm] at hr; obtain ⟨rfl, g⟩ := hr; exact ⟨rfl, wres_bad (E.out.trans (WR.b1_bad hm _)) (st_bad S.out g)⟩
    | ok s2 =>
      rw [hm] at hr
      obtain ⟨rfl, h2, H, e1, g⟩ := hr
      have E := Lib.hid (E.out.trans (WR.b1_ok hm _))
      have S := Lib.hid (st_next S.out H e1 g)
      clear H e1 g hm
      obtain ⟨d0, d1, d2, d3, d4⟩ := nc5 S.out.blk
      have hnl := lt_of_blk S.out.blk
      obtain ⟨hal, kc1, hxk1⟩ := st_kid S.out hx (i := 1) (by first | assumption | omega)
      replace kc1 : w2.cell? ⟨ka.block, ka.off + 1, none⟩ = some (.int .i64 (kidNo n x 1 : Nat)) := kc1
      rw [HLA.out] at d4
      go_wp2_with (fail)
      have hno := Lib.hid (show r .body (x.kid 1) s2 ≠ .out from fun e => HO.out (E.out.trans (WR.b1_out e _)))
      go_at_call 80
      refine (A.body (x.kid 1) s2 _ _ _ hxk1 (rowT_kid hrow (by first | assumption | omega)) S.out.H hno.out).mono ?_
      rintro e w3 hr
      cases hm : r .body (x.kid 1) s2 with
      | out => exact absurd hm hno.out
      | bad u => rw [hm] at hr; obtain ⟨rfl, g⟩ := hr; exact ⟨rfl, wres_bad (E.out.trans (WR.b1_bad hm _)) (st_bad S.out g)⟩
      | ok s3 =>
        rw [hm] at hr
        obtain ⟨rfl, h3, H, e1, g⟩ := hr
        have E := Lib.hid (E.out.trans (WR.b1_ok hm _))
        have S := Lib.hid (st_next S.out H e1 g)
        clear H e1 g hm
        obtain ⟨d0, d1, d2, d3, d4⟩ := nc5 S.out.blk
        have hnl := lt_of_blk S.out.blk
        rw [HLA.out] at d4
        have hLl : (x.kids.drop 2).length = 0 := by rw [List.length_drop, HLA.out]
        have hL : Hid (LsT z w3 (some ⟨ka.block, ka.off + 2, none⟩) (x.kids.drop 2)) := Lib.hid (ls_drop (ls_all S.out.kids hx hrow) 2 (by omega))
        go_wp2_with (fail)
        have hS0 := Lib.hid (And.intro S.out (And.intro hL.out (show R = eachW (fun y s => (saysW [(⟨#[101, 108, 115, 101]⟩ : ByteArray)] s).bind (r .body y)) ((x.kids.drop 2).drop 0) s3 from E.out)))
        clear S E hL
        go_loopw [25] (fun i wr => ∃ (k : Nat) (s2 : Wr) (h3 : Nat), i = .int .i64 k ∧ k ≤ (x.kids.drop 2).length ∧ Hid (St z x n (some ka) ck w.heap.size w h0 s2 h3 wr ∧ LsT z wr (some ⟨ka.block, ka.off + 2, none⟩) (x.kids.drop 2) ∧ R = eachW (fun y s => (saysW [(⟨#[101, 108, 115, 101]⟩ : ByteArray)] s).bind (r .body y)) ((x.kids.drop 2).drop k) s2)) (fun i _ => (x.kids.drop 2).length - (intOf i).toNat)
        case atStart => exact ⟨0, s3, _, rfl, Nat.zero_le _, hS0⟩
        case round =>
          clear hS0
          obtain ⟨k, s2, h3, rfl, hk2, HH⟩ := hrel
          obtain ⟨S4, hL4, E4⟩ := HH.out
          have S := Lib.hid S4
          clear HH S4
          by_cases hlt : k < (x.kids.drop 2).length
          · exfalso; omega
          · have E := Lib.hid (E4.trans (by rw [List.drop_eq_nil_of_le (by omega)]; rfl) : R = .ok s2)
            clear E4 hL4
            obtain rfl : k = 0 := by omega
            go_wp2_with (fail)
            go_end0
            exact st_fin S.out E.out
set_option maxHeartbeats 8000000 in
set_option maxRecDepth 100000 in
theorem ww_branch3b {z : Wz} {r : Wm → Tr → Wr → WR} (A : AllWr z r) {x : Tr} {s0 : Wr} {n h0 : Nat} {w : World} {K : Option Addr} {ck : Nat} (hx : SubT z.N n x) (hrow : RowT x = true) (hK0 : KidsI w (fun k => k < z.b) K ck (intsI (KidsT (n + 1) x.kids))) (H0 : WA z s0 h0 w) (ho : wstep r .branch x s0 ≠ .out) (hlen : x.kids.length = 3) (hck : 2 < ck) : Calls Tryz.prog 78 #[.pointer (some ⟨z.b, 0, none⟩), nodeV x K ck] w (WRes z h0 w (wstep r .branch x s0)) := by
  have _ := A
  have _ := And.intro hx hrow
  generalize hR : wstep r .branch x s0 = R at ho ⊢
  have HO := Lib.hid ho
  dsimp only [wstep] at hR
  have E := Lib.hid hR.symm
  clear hR ho
  have hst := store_f
  have HLA := Lib.hid hlen
  have hi0 : 0 < x.kids.length := by omega
  have hi1 : 1 < x.kids.length := by omega
  have hi2 : 2 < x.kids.length := by omega
  clear hlen
  have hc2 : ¬ ck - 2 = 0 := by omega
  have hcl : 3 ≤ ck := by omega
  obtain ⟨ka, rfl⟩ := kids_addr hK0 (by assumption)
  have S := Lib.hid (st_begin (ck := ck) (n := n) (x := x) H0 (.inl rfl) (Fr.refl _ _ _) hK0)
  clear H0 hK0
  unfold nodeV
  go_enter Tryz.func78, Tryz.ntmps78
  go_upto_region 1 with (fail)
  generalize w.alloc (.cells #[.int .u8 (x.kind : Int), .int .i64 x.pos, .string x.text, .float .f64 x.num, .slice (some ka) x.kids.length ck] 44) = W at S ⊢
  obtain ⟨d0, d1, d2, d3, d4⟩ := nc5 S.out.blk
  have hnl := lt_of_blk S.out.blk
  rw [HLA.out] at d4
  go_wp2_with (fail)
  go_at_call 73
  refine (say_one S.out.H (⟨#[105, 102]⟩ : ByteArray) 9).mono ?_
  rintro e w1 hr
  cases hm : saysW [(⟨#[105, 102]⟩ : ByteArray)] s0 with
  | out => exact absurd hm (says_out _ _)
  | bad u => rw [hm] at hr; obtain ⟨rfl, g⟩ := hr; exact ⟨rfl, wres_bad (E.out.trans (WR.b1_bad hm _)) (st_bad S.out g)⟩
  | ok s1 =>
    rw [hm] at hr
    obtain ⟨rfl, h1, H, e1, g⟩ := hr
    have E := Lib.hid (E.out.trans (WR.b1_ok hm _))
    have S := Lib.hid (st_next S.out H e1 g)
    clear H e1 g hm
    obtain ⟨d0, d1, d2, d3, d4⟩ := nc5 S.out.blk
    have hnl := lt_of_blk S.out.blk
    obtain ⟨hal, kc0, hxk0⟩ := st_kid S.out hx (i := 0) (by first | assumption | omega)
    replace kc0 : w1.cell? ka = some (.int .i64 (kidNo n x 0 : Nat)) := kc0
    rw [HLA.out] at d4
    go_wp2_with (fail)
    have hno := Lib.hid (show r .test (x.kid 0) s1 ≠ .out from fun e => HO.out (E.out.trans (WR.b1_out e _)))
    go_at_call 79
    refine (A.test (x.kid 0) s1 _ _ _ hxk0 (rowT_kid hrow (by first | assumption | omega)) S.out.H hno.out).mono ?_
    rintro e w2 hr
    cases hm : r .test (x.kid 0) s1 with
    | out => exact absurd hm hno.out
    | bad u => rw [hm] at hr; obtain ⟨rfl, g⟩ := hr; exact ⟨rfl, wres_bad (E.out.trans (WR.b1_bad hm _)) (st_bad S.out g)⟩
    | ok s2 =>
      rw [hm] at hr
      obtain ⟨rfl, h2, H, e1, g⟩ := hr
      have E := Lib.hid (E.out.trans (WR.b1_ok hm _))
      have S := Lib.hid (st_next S.out H e1 g)
      clear H e1 g hm
      obtain ⟨d0, d1, d2, d3, d4⟩ := nc5 S.out.blk
      have hnl := lt_of_blk S.out.blk
      obtain ⟨hal, kc1, hxk1⟩ := st_kid S.out hx (i := 1) (by first | assumption | omega)
      replace kc1 : w2.cell? ⟨ka.block, ka.off + 1, none⟩ = some (.int .i64 (kidNo n x 1 : Nat)) := kc1
      rw [HLA.out] at d4
      go_wp2_with (fail)
      have hno := Lib.hid (show r .body (x.kid 1) s2 ≠ .out from fun e => HO.out (E.out.trans (WR.b1_out e _)))
      go_at_call 80
      refine (A.body (x.kid 1) s2 _ _ _ hxk1 (rowT_kid hrow (by first | assumption | omega)) S.out.H hno.out).mono ?_
      rintro e w3 hr
      cases hm : r .body (x.kid 1) s2 with
      | out => exact absurd hm hno.out
      | bad u => rw [hm] at hr; obtain ⟨rfl, g⟩ := hr; exact ⟨rfl, wres_bad (E.out.trans (WR.b1_bad hm _)) (st_bad S.out g)⟩
      | ok s3 =>
        rw [hm] at hr
        obtain ⟨rfl, h3, H, e1, g⟩ := hr
        have E := Lib.hid (E.out.trans (WR.b1_ok hm _))
        have S := Lib.hid (st_next S.out H e1 g)
        clear H e1 g hm
        obtain ⟨d0, d1, d2, d3, d4⟩ := nc5 S.out.blk
        have hnl := lt_of_blk S.out.blk
        rw [HLA.out] at d4
        have hLl : (x.kids.drop 2).length = 1 := by rw [List.length_drop, HLA.out]
        have hL : Hid (LsT z w3 (some ⟨ka.block, ka.off + 2, none⟩) (x.kids.drop 2)) := Lib.hid (ls_drop (ls_all S.out.kids hx hrow) 2 (by omega))
        go_wp2_with (fail)
        have hS0 := Lib.hid (And.intro S.out (And.intro hL.out (show R = eachW (fun y s => (saysW [(⟨#[101, 108, 115, 101]⟩ : ByteArray)] s).bind (r .body y)) ((x.kids.drop 2).drop 0) s3 from E.out)))
        clear S E hL
        go_loopw [25] (fun i wr => ∃ (k : Nat) (s2 : Wr) (h3 : Nat), i = .int .i64 k ∧ k ≤ (x.kids.drop 2).length ∧ Hid (St z x n (some ka) ck w.heap.size w h0 s2 h3 wr ∧ LsT z wr (some ⟨ka.block, ka.off + 2, none⟩) (x.kids.drop 2) ∧ R = eachW (fun y s => (saysW [(⟨#[101, 108, 115, 101]⟩ : ByteArray)] s).bind (r .body y)) ((x.kids.drop 2).drop k) s2)) (fun i _ => (x.kids.drop 2).length - (intOf i).toNat)
        case atStart => exact ⟨0, s3, _, rfl, Nat.zero_le _, hS0⟩
        case round =>
          clear hS0
          obtain ⟨k, s2, h3, rfl, hk2, HH⟩ := hrel
          obtain ⟨S4, hL4, E4⟩ := HH.out
          have S := Lib.hid S4
          clear HH S4
          by_cases hlt : k < (x.kids.drop 2).length
          · obtain ⟨la, m, ha, hal, kc, hxk, hrk⟩ := ls_at hL4 hlt
            cases ha
            have hlz : (k : Int) < ((x.kids.drop 2).length : Int) := by omega
            obtain rfl : k = 0 := by omega
            replace kc : wr.cell? ⟨ka.block, ka.off + 2, none⟩ = some (.int .i64 (m : Int)) := kc
            have hL := Lib.hid hL4
            have hl1 := Lib.hid hlt
            obtain ⟨y, hy⟩ : ∃ y, y = (x.kids.drop 2)[0]'hlt := ⟨_, rfl⟩
            rw [← hy] at hxk hrk
            have E := Lib.hid (E4.trans (by rw [each_drop hlt, ← hy]))
            clear hL4 E4 hy
            go_wp2_with (fail)
            go_at_call 73
            refine (say_one S.out.H (⟨#[101, 108, 115, 101]⟩ : ByteArray) 9).mono ?_
            rintro e w4 hr
            cases hm : saysW [(⟨#[101, 108, 115, 101]⟩ : ByteArray)] s2 with
            | out => exact absurd hm (says_out _ _)
            | bad u => rw [hm] at hr; obtain ⟨rfl, g⟩ := hr; exact ⟨rfl, wres_bad (E.out.trans (WR.b2_bad hm _ _)) (st_bad S.out g)⟩
            | ok s6 =>
              rw [hm] at hr
              obtain ⟨rfl, h7, H, e1, g⟩ := hr
              have E := Lib.hid (E.out.trans (WR.b2_ok hm _ _))
              have hL := Lib.hid (ls_up hL.out S.out.H.hz g)
              have S := Lib.hid (st_next S.out H e1 g)
              clear H e1 g hm
              go_wp2_with (fail)
              have hno := Lib.hid (show r .body y s6 ≠ .out from fun e => HO.out (E.out.trans (WR.b1_out e _)))
              go_at_call 80
              refine (A.body _ _ _ _ _ hxk hrk S.out.H hno.out).mono ?_
              rintro e w5 hr
              cases hm : r .body y s6 with
              | out => exact absurd hm hno.out
              | bad u => rw [hm] at hr; obtain ⟨rfl, g⟩ := hr; exact ⟨rfl, wres_bad (E.out.trans (WR.b1_bad hm _)) (st_bad S.out g)⟩
              | ok s7 =>
                rw [hm] at hr
                obtain ⟨rfl, h8, H, e1, g⟩ := hr
                have E := Lib.hid (E.out.trans (WR.b1_ok hm _))
                have hL := Lib.hid (ls_up hL.out S.out.H.hz g)
                have S := Lib.hid (st_next S.out H e1 g)
                clear H e1 g hm
                go_wp2_with (fail)
                go_roundw
                case rel => exact ⟨1, s7, _, by go_num, hl1.out, Lib.hid ⟨S.out, hL.out, E.out⟩⟩
                case measure => have := hl1.out; simp [intOf]; omega
          · have E := Lib.hid (E4.trans (by rw [List.drop_eq_nil_of_le (by omega)]; rfl) : R = .ok s2)
            clear E4 hL4
            obtain rfl : k = 1 := by omega
            go_wp2_with (fail)
            go_end0
            exact st_fin S.out E.out
theorem ww_branch {z : Wz} {r : Wm → Tr → Wr → WR} (A : AllWr z r) : ByNodeP (isKind 7) z 78 (wstep r .branch) := by
  intro x s n h w K ck hP hx hrow hK H ho
  have hk : x.kind = 7 := hP
  have h1 := (rowT_kids hrow).1
  rw [hk] at h1
  have h2 : (decide (2 ≤ x.kids.length) && decide (x.kids.length ≤ 3)) = true := h1
  rw [Bool.and_eq_true] at h2
  have h3 := of_decide_eq_true h2.1
  have h4 := of_decide_eq_true h2.2
  have h5 := kids_cap hK
  rcases (show (x.kids.length = 2 ∧ ck = 2) ∨ (x.kids.length = 2 ∧ 2 < ck) ∨ (x.kids.length = 3 ∧ 2 < ck) by omega) with ⟨a, b⟩ | ⟨a, b⟩ | ⟨a, b⟩
  · exact ww_branch2a A hx hrow hK H ho a b
  · exact ww_branch2b A hx hrow hK H ho a b
  · exact ww_branch3b A hx hrow hK H ho a b
end Go.Proofs.YtablckajobefeaaGreatDoor.S
/-
  The writer's loop: walks. Generated: gen_writ.py.
-/
namespace Go.Proofs.YtablckajobefeaaGreatDoor.S
open Go.RowKit Fl

theorem WR.if_t {c : Prop} [Decidable c] (h : c) {a b : WR} {f : Wr → WR} : (if c then a else b).bind f = a.bind f := by rw [if_pos h]
theorem WR.if_f {c : Prop} [Decidable c] (h : ¬ c) {a b : WR} {f : Wr → WR} : (if c then a else b).bind f = b.bind f := by rw [if_neg h]
theorem rowk_two (w : World) (k m : Nat) (t : TypeId) : RowK (w.alloc (.cells #[.int .u8 (k : Int), .int .u8 (m : Int)] t)) w.heap.size [k, m] := by
  refine ⟨by simp, fun i c hc => ?_⟩
  have hb := heap_alloc_new w (.cells #[.int .u8 (k : Int), .int .u8 (m : Int)] t)
  rw [blk_cell hb i]
  match i with
  | 0 => cases hc; rfl
  | 1 => cases hc; rfl
  | i + 2 => simp at hc
theorem rowk_three (w : World) (k m j : Nat) (t : TypeId) : RowK (w.alloc (.cells #[.int .u8 (k : Int), .int .u8 (m : Int), .int .u8 (j : Int)] t)) w.heap.size [k, m, j] := by
  refine ⟨by simp, fun i c hc => ?_⟩
  have hb := heap_alloc_new w (.cells #[.int .u8 (k : Int), .int .u8 (m : Int), .int .u8 (j : Int)] t)
  rw [blk_cell hb i]
  match i with
  | 0 => cases hc; rfl
  | 1 => cases hc; rfl
  | 2 => cases hc; rfl
  | i + 3 => simp at hc
set_option maxHeartbeats 8000000 in
set_option maxRecDepth 100000 in
theorem ww_loop9x {z : Wz} {r : Wm → Tr → Wr → WR} (A : AllWr z r) {x : Tr} {s0 : Wr} {n h0 : Nat} {w : World} {K : Option Addr} {ck : Nat} (hx : SubT z.N n x) (hrow : RowT x = true) (hK0 : KidsI w (fun k => k < z.b) K ck (intsI (KidsT (n + 1) x.kids))) (H0 : WA z s0 h0 w) (ho : wstep r .loop x s0 ≠ .out) (hk : x.kind = 9) (hz : 0 < (x.kid 0).kids.length) : Calls Tryz.prog 81 #[.pointer (some ⟨z.b, 0, none⟩), nodeV x K ck] w (WRes z h0 w (wstep r .loop x s0)) := by
  have _ := A
  have _ := And.intro hx hrow
  generalize hR : wstep r .loop x s0 = R at ho ⊢
  have HO := Lib.hid ho
  dsimp only [wstep] at hR
  have E := Lib.hid hR.symm
  clear hR ho
  have hst := store_f
  have hlen : x.kids.length = 3 := kids_len9 hrow hk
  have HLA := Lib.hid hlen
  have hi0 : 0 < x.kids.length := by omega
  have hi1 : 1 < x.kids.length := by omega
  have hi2 : 2 < x.kids.length := by omega
  clear hlen
  have HKD := Lib.hid hk
  clear hk
  have HZ := Lib.hid hz
  clear hz
  obtain ⟨ka, rfl⟩ := kids_addr hK0 (by assumption)
  have S := Lib.hid (st_begin (ck := ck) (n := n) (x := x) H0 (.inl rfl) (Fr.refl _ _ _) hK0)
  clear H0 hK0
  unfold nodeV
  go_enter Tryz.func81, Tryz.ntmps81
  go_upto_region 1 with (fail)
  generalize w.alloc (.cells #[.int .u8 (x.kind : Int), .int .i64 x.pos, .string x.text, .float .f64 x.num, .slice (some ka) x.kids.length ck] 44) = W at S ⊢
  obtain ⟨d0, d1, d2, d3, d4⟩ := nc5 S.out.blk
  have hnl := lt_of_blk S.out.blk
  rw [HKD.out] at d0
  rw [HLA.out] at d4
  go_wp2_with (fail)
  go_at_call 73
  refine (say_two S.out.H (⟨#[102, 111, 114]⟩ : ByteArray) (⟨#[40]⟩ : ByteArray) 9).mono ?_
  rintro e w1 hr
  cases hm : saysW [(⟨#[102, 111, 114]⟩ : ByteArray), (⟨#[40]⟩ : ByteArray)] s0 with
  | out => exact absurd hm (says_out _ _)
  | bad u => rw [hm] at hr; obtain ⟨rfl, g⟩ := hr; exact ⟨rfl, wres_bad (E.out.trans (WR.b1_bad hm _)) (st_bad S.out g)⟩
  | ok s1 =>
    rw [hm] at hr
    obtain ⟨rfl, h1, H, e1, g⟩ := hr
    have E := Lib.hid (E.out.trans (WR.b1_ok hm _))
    have S := Lib.hid (st_next S.out H e1 g)
    clear H e1 g hm
    obtain ⟨d0, d1, d2, d3, d4⟩ := nc5 S.out.blk
    have hnl := lt_of_blk S.out.blk
    obtain ⟨hal, kc0, hxk0⟩ := st_kid S.out hx (i := 0) (by first | assumption | omega)
    replace kc0 : w1.cell? ka = some (.int .i64 (kidNo n x 0 : Nat)) := kc0
    rw [HKD.out] at d0
    rw [HLA.out] at d4
    go_wp2_with (fail)
    go_at_call 110
    refine (kid_w (wa_up S.out.H (zero_alloc _ _)) hxk0 w1.heap.size 2 [3, 4] (rowk_two w1 3 4 _) (by decide)).mono ?_
    rintro e w2 ⟨g1, k1, k2⟩
    have g0 := after_alloc g1
    by_cases hmk : (x.kid 0).kind ∈ ([3, 4] : List Nat)
    rotate_left
    · rw [k2 hmk]; exact ⟨rfl, wres_bad (E.out.trans (if_neg (by simpa using hmk))) (st_bad S.out (Fr.below g0))⟩
    obtain ⟨K2, ck2, rfl, hK2⟩ := k1 hmk
    replace hK2 := kidsi_up (ok' := fun k => k < z.b) hK2 g1.size fun k hk hlt => ⟨hk, g1.block k hlt⟩
    have E := Lib.hid (E.out.trans (if_pos (by simpa using hmk)))
    have S := Lib.hid (st_up S.out g0)
    have T := Lib.hid (st_begin (x := x.kid 0) (n := kidNo n x 0) (ck := ck2) (w1 := w2) S.out.H S.out.e S.out.G hK2)
    have S := Lib.hid (st_up S.out (zero_alloc w2 (.cells #[.int .u8 ((x.kid 0).kind : Int), .int .i64 (x.kid 0).pos, .string (x.kid 0).text, .float .f64 (x.kid 0).num, .slice K2 (x.kid 0).kids.length ck2] 44)))
    have HM := Lib.hid hmk
    unfold nodeV
    clear g0 g1 k1 k2 hmk hK2
    go_upto_region 3 with (fail)
    generalize w2.alloc (.cells #[.int .u8 ((x.kid 0).kind : Int), .int .i64 (x.kid 0).pos, .string (x.kid 0).text, .float .f64 (x.kid 0).num, .slice K2 (x.kid 0).kids.length ck2] 44) = W2 at S T ⊢
    have E := Lib.hid (E.out.trans (if_pos HZ.out))
    obtain ⟨d0, d1, d2, d3, d4⟩ := nc5 S.out.blk
    have hnl := lt_of_blk S.out.blk
    rw [HKD.out] at d0
    rw [HLA.out] at d4
    obtain ⟨b0, b1, b2, b3, b4⟩ := nc5 T.out.blk
    have hnl2 := lt_of_blk T.out.blk
    have hzz : (0 : Int) < ((x.kid 0).kids.length : Int) := by have := HZ.out; omega
    go_wp2_with (fail)
    go_at_call 83
    refine (refuse_w z _).mono ?_
    rintro e wz ⟨rfl, g⟩
    exact ⟨rfl, wres_bad E.out (st_bad S.out (Fr.below g))⟩
set_option maxHeartbeats 8000000 in
set_option maxRecDepth 100000 in
theorem ww_loop9 {z : Wz} {r : Wm → Tr → Wr → WR} (A : AllWr z r) {x : Tr} {s0 : Wr} {n h0 : Nat} {w : World} {K : Option Addr} {ck : Nat} (hx : SubT z.N n x) (hrow : RowT x = true) (hK0 : KidsI w (fun k => k < z.b) K ck (intsI (KidsT (n + 1) x.kids))) (H0 : WA z s0 h0 w) (ho : wstep r .loop x s0 ≠ .out) (hk : x.kind = 9) (hz : (x.kid 0).kids.length = 0) : Calls Tryz.prog 81 #[.pointer (some ⟨z.b, 0, none⟩), nodeV x K ck] w (WRes z h0 w (wstep r .loop x s0)) := by
  have _ := A
  have _ := And.intro hx hrow
  generalize hR : wstep r .loop x s0 = R at ho ⊢
  have HO := Lib.hid ho
  dsimp only [wstep] at hR
  have E := Lib.hid hR.symm
  clear hR ho
  have hst := store_f
  have hlen : x.kids.length = 3 := kids_len9 hrow hk
  have HLA := Lib.hid hlen
  have hi0 : 0 < x.kids.length := by omega
  have hi1 : 1 < x.kids.length := by omega
  have hi2 : 2 < x.kids.length := by omega
  clear hlen
  have HKD := Lib.hid hk
  clear hk
  have HLB := Lib.hid hz
  clear hz
  obtain ⟨ka, rfl⟩ := kids_addr hK0 (by assumption)
  have S := Lib.hid (st_begin (ck := ck) (n := n) (x := x) H0 (.inl rfl) (Fr.refl _ _ _) hK0)
  clear H0 hK0
  unfold nodeV
  go_enter Tryz.func81, Tryz.ntmps81
  go_upto_region 1 with (fail)
  generalize w.alloc (.cells #[.int .u8 (x.kind : Int), .int .i64 x.pos, .string x.text, .float .f64 x.num, .slice (some ka) x.kids.length ck] 44) = W at S ⊢
  obtain ⟨d0, d1, d2, d3, d4⟩ := nc5 S.out.blk
  have hnl := lt_of_blk S.out.blk
  rw [HKD.out] at d0
  rw [HLA.out] at d4
  go_wp2_with (fail)
  go_at_call 73
  refine (say_two S.out.H (⟨#[102, 111, 114]⟩ : ByteArray) (⟨#[40]⟩ : ByteArray) 9).mono ?_
  rintro e w1 hr
  cases hm : saysW [(⟨#[102, 111, 114]⟩ : ByteArray), (⟨#[40]⟩ : ByteArray)] s0 with
  | out => exact absurd hm (says_out _ _)
  | bad u => rw [hm] at hr; obtain ⟨rfl, g⟩ := hr; exact ⟨rfl, wres_bad (E.out.trans (WR.b1_bad hm _)) (st_bad S.out g)⟩
  | ok s1 =>
    rw [hm] at hr
    obtain ⟨rfl, h1, H, e1, g⟩ := hr
    have E := Lib.hid (E.out.trans (WR.b1_ok hm _))
    have S := Lib.hid (st_next S.out H e1 g)
    clear H e1 g hm
    obtain ⟨d0, d1, d2, d3, d4⟩ := nc5 S.out.blk
    have hnl := lt_of_blk S.out.blk
    obtain ⟨hal, kc0, hxk0⟩ := st_kid S.out hx (i := 0) (by first | assumption | omega)
    replace kc0 : w1.cell? ka = some (.int .i64 (kidNo n x 0 : Nat)) := kc0
    rw [HKD.out] at d0
    rw [HLA.out] at d4
    go_wp2_with (fail)
    go_at_call 110
    refine (kid_w (wa_up S.out.H (zero_alloc _ _)) hxk0 w1.heap.size 2 [3, 4] (rowk_two w1 3 4 _) (by decide)).mono ?_
    rintro e w2 ⟨g1, k1, k2⟩
    have g0 := after_alloc g1
    by_cases hmk : (x.kid 0).kind ∈ ([3, 4] : List Nat)
    rotate_left
    · rw [k2 hmk]; exact ⟨rfl, wres_bad (E.out.trans (if_neg (by simpa using hmk))) (st_bad S.out (Fr.below g0))⟩
    obtain ⟨K2, ck2, rfl, hK2⟩ := k1 hmk
    replace hK2 := kidsi_up (ok' := fun k => k < z.b) hK2 g1.size fun k hk hlt => ⟨hk, g1.block k hlt⟩
    have E := Lib.hid (E.out.trans (if_pos (by simpa using hmk)))
    have S := Lib.hid (st_up S.out g0)
    have T := Lib.hid (st_begin (x := x.kid 0) (n := kidNo n x 0) (ck := ck2) (w1 := w2) S.out.H S.out.e S.out.G hK2)
    have S := Lib.hid (st_up S.out (zero_alloc w2 (.cells #[.int .u8 ((x.kid 0).kind : Int), .int .i64 (x.kid 0).pos, .string (x.kid 0).text, .float .f64 (x.kid 0).num, .slice K2 (x.kid 0).kids.length ck2] 44)))
    have HM := Lib.hid hmk
    unfold nodeV
    clear g0 g1 k1 k2 hmk hK2
    go_upto_region 3 with (fail)
    generalize w2.alloc (.cells #[.int .u8 ((x.kid 0).kind : Int), .int .i64 (x.kid 0).pos, .string (x.kid 0).text, .float .f64 (x.kid 0).num, .slice K2 (x.kid 0).kids.length ck2] 44) = W2 at S T ⊢
    have E := Lib.hid (E.out.trans (if_neg (by rw [HLB.out]; decide)))
    have hk44 : (x.kid 0).kind < 44 := by have := HM.out; simp at this; omega
    obtain ⟨d0, d1, d2, d3, d4⟩ := nc5 S.out.blk
    have hnl := lt_of_blk S.out.blk
    rw [HKD.out] at d0
    rw [HLA.out] at d4
    obtain ⟨b0, b1, b2, b3, b4⟩ := nc5 T.out.blk
    have hnl2 := lt_of_blk T.out.blk
    rw [HLB.out] at b4
    go_wp2_with (fail)
    go_at_call 9
    refine (Kind_w (x.kid 0).kind hk44 _).mono ?_
    rintro e w3 ⟨rfl, g⟩
    have S := Lib.hid (st_up S.out g)
    have T := Lib.hid (st_up T.out g)
    clear g
    obtain ⟨d0, d1, d2, d3, d4⟩ := nc5 S.out.blk
    have hnl := lt_of_blk S.out.blk
    rw [HKD.out] at d0
    rw [HLA.out] at d4
    obtain ⟨b0, b1, b2, b3, b4⟩ := nc5 T.out.blk
    have hnl2 := lt_of_blk T.out.blk
    rw [HLB.out] at b4
    go_wp2_with (fail)
    go_at_call 73
    refine (say_one S.out.H (kindW (x.kid 0).kind) 9).mono ?_
    rintro e w4 hr
    cases hm : saysW [(kindW (x.kid 0).kind)] s1 with
    | out => exact absurd hm (says_out _ _)
    | bad u => rw [hm] at hr; obtain ⟨rfl, g⟩ := hr; exact ⟨rfl, wres_bad (E.out.trans (WR.b1_bad hm _)) (st_bad S.out g)⟩
    | ok s4 =>
      rw [hm] at hr
      obtain ⟨rfl, h4, H, e1, g⟩ := hr
      have E := Lib.hid (E.out.trans (WR.b1_ok hm _))
      have T := Lib.hid (st_next T.out H e1 g)
      have S := Lib.hid (st_next S.out H e1 g)
      clear H e1 g hm
      obtain ⟨d0, d1, d2, d3, d4⟩ := nc5 S.out.blk
      have hnl := lt_of_blk S.out.blk
      rw [HKD.out] at d0
      rw [HLA.out] at d4
      obtain ⟨b0, b1, b2, b3, b4⟩ := nc5 T.out.blk
      have hnl2 := lt_of_blk T.out.blk
      rw [HLB.out] at b4
      go_wp2_with (fail)
      go_at_call 75
      refine (name_w S.out.H (x.kid 0).text).mono ?_
      rintro e w5 hr
      cases hm : nameW (x.kid 0).text s4 with
      | out => exact absurd hm (name_out _ _)
      | bad u => rw [hm] at hr; obtain ⟨rfl, g⟩ := hr; exact ⟨rfl, wres_bad (E.out.trans (WR.b1_bad hm _)) (st_bad S.out g)⟩
      | ok s5 =>
        rw [hm] at hr
        obtain ⟨rfl, h5, H, e1, g⟩ := hr
        have E := Lib.hid (E.out.trans (WR.b1_ok hm _))
        have T := Lib.hid (st_next T.out H e1 g)
        have S := Lib.hid (st_next S.out H e1 g)
        clear H e1 g hm
        obtain ⟨d0, d1, d2, d3, d4⟩ := nc5 S.out.blk
        have hnl := lt_of_blk S.out.blk
        rw [HKD.out] at d0
        rw [HLA.out] at d4
        obtain ⟨b0, b1, b2, b3, b4⟩ := nc5 T.out.blk
        have hnl2 := lt_of_blk T.out.blk
        rw [HLB.out] at b4
        have E := Lib.hid (E.out.trans (WR.if_t HKD.out))
        go_wp2_with (fail)
        go_at_call 73
        refine (say_one S.out.H (⟨#[105, 110]⟩ : ByteArray) 9).mono ?_
        rintro e w6 hr
        cases hm : saysW [(⟨#[105, 110]⟩ : ByteArray)] s5 with
        | out => exact absurd hm (says_out _ _)
        | bad u => rw [hm] at hr; obtain ⟨rfl, g⟩ := hr; exact ⟨rfl, wres_bad (E.out.trans (WR.b1_bad hm _)) (st_bad S.out g)⟩
        | ok s6 =>
          rw [hm] at hr
          obtain ⟨rfl, h6, H, e1, g⟩ := hr
          have E := Lib.hid (E.out.trans (WR.b1_ok hm _))
          have S := Lib.hid (st_next S.out H e1 g)
          clear H e1 g hm
          obtain ⟨d0, d1, d2, d3, d4⟩ := nc5 S.out.blk
          have hnl := lt_of_blk S.out.blk
          obtain ⟨hal, kc1, hxk1⟩ := st_kid S.out hx (i := 1) (by first | assumption | omega)
          replace kc1 : w6.cell? ⟨ka.block, ka.off + 1, none⟩ = some (.int .i64 (kidNo n x 1 : Nat)) := kc1
          rw [HKD.out] at d0
          rw [HLA.out] at d4
          go_wp2_with (fail)
          have hno := Lib.hid (show r .value (x.kid 1) s6 ≠ .out from fun e => HO.out (E.out.trans (WR.b1_out e _)))
          go_at_call 77
          refine (A.value (x.kid 1) s6 _ _ _ hxk1 (rowT_kid hrow (by first | assumption | omega)) S.out.H hno.out).mono ?_
          rintro e w7 hr
          cases hm : r .value (x.kid 1) s6 with
          | out => exact absurd hm hno.out
          | bad u => rw [hm] at hr; obtain ⟨rfl, g⟩ := hr; exact ⟨rfl, wres_bad (E.out.trans (WR.b1_bad hm _)) (st_bad S.out g)⟩
          | ok s7 =>
            rw [hm] at hr
            obtain ⟨rfl, h7, H, e1, g⟩ := hr
            have E := Lib.hid (E.out.trans (WR.b1_ok hm _))
            have S := Lib.hid (st_next S.out H e1 g)
            clear H e1 g hm
            obtain ⟨d0, d1, d2, d3, d4⟩ := nc5 S.out.blk
            have hnl := lt_of_blk S.out.blk
            rw [HKD.out] at d0
            rw [HLA.out] at d4
            go_wp2_with (fail)
            go_at_call 73
            refine (say_one S.out.H (⟨#[41]⟩ : ByteArray) 9).mono ?_
            rintro e w8 hr
            cases hm : saysW [(⟨#[41]⟩ : ByteArray)] s7 with
            | out => exact absurd hm (says_out _ _)
            | bad u => rw [hm] at hr; obtain ⟨rfl, g⟩ := hr; exact ⟨rfl, wres_bad (E.out.trans (WR.b1_bad hm _)) (st_bad S.out g)⟩
            | ok s8 =>
              rw [hm] at hr
              obtain ⟨rfl, h8, H, e1, g⟩ := hr
              have E := Lib.hid (E.out.trans (WR.b1_ok hm _))
              have S := Lib.hid (st_next S.out H e1 g)
              clear H e1 g hm
              obtain ⟨d0, d1, d2, d3, d4⟩ := nc5 S.out.blk
              have hnl := lt_of_blk S.out.blk
              obtain ⟨hal, kc2, hxk2⟩ := st_kid S.out hx (i := 2) (by first | assumption | omega)
              replace kc2 : w8.cell? ⟨ka.block, ka.off + 2, none⟩ = some (.int .i64 (kidNo n x 2 : Nat)) := kc2
              rw [HKD.out] at d0
              rw [HLA.out] at d4
              go_wp2_with (fail)
              have hno := Lib.hid (show r .body (x.kid 2) s8 ≠ .out from fun e => HO.out (E.out.trans e))
              go_at_call 80
              refine (A.body (x.kid 2) s8 _ _ _ hxk2 (rowT_kid hrow (by first | assumption | omega)) S.out.H hno.out).mono ?_
              rintro e w9 hr
              cases hm : r .body (x.kid 2) s8 with
              | out => exact absurd hm hno.out
              | bad u => rw [hm] at hr; obtain ⟨rfl, g⟩ := hr; exact ⟨rfl, wres_bad (E.out.trans hm) (st_bad S.out g)⟩
              | ok s9 =>
                rw [hm] at hr
                obtain ⟨rfl, h9, H, e1, g⟩ := hr
                have E := Lib.hid (E.out.trans hm)
                have S := Lib.hid (st_next S.out H e1 g)
                clear H e1 g hm
                go_wp2_with (fail)
                go_end0
                exact st_fin S.out E.out
set_option maxHeartbeats 8000000 in
set_option maxRecDepth 100000 in
theorem ww_loop10x {z : Wz} {r : Wm → Tr → Wr → WR} (A : AllWr z r) {x : Tr} {s0 : Wr} {n h0 : Nat} {w : World} {K : Option Addr} {ck : Nat} (hx : SubT z.N n x) (hrow : RowT x = true) (hK0 : KidsI w (fun k => k < z.b) K ck (intsI (KidsT (n + 1) x.kids))) (H0 : WA z s0 h0 w) (ho : wstep r .loop x s0 ≠ .out) (hk : x.kind = 10) (hz : 0 < (x.kid 0).kids.length) : Calls Tryz.prog 81 #[.pointer (some ⟨z.b, 0, none⟩), nodeV x K ck] w (WRes z h0 w (wstep r .loop x s0)) := by
  have _ := A
  have _ := And.intro hx hrow
  generalize hR : wstep r .loop x s0 = R at ho ⊢
  have HO := Lib.hid ho
  dsimp only [wstep] at hR
  have E := Lib.hid hR.symm
  clear hR ho
  have hst := store_f
  have hlen : x.kids.length = 3 := kids_len10 hrow hk
  have HLA := Lib.hid hlen
  have hi0 : 0 < x.kids.length := by omega
  have hi1 : 1 < x.kids.length := by omega
  have hi2 : 2 < x.kids.length := by omega
  clear hlen
  have HKD := Lib.hid hk
  clear hk
  have HZ := Lib.hid hz
  clear hz
  obtain ⟨ka, rfl⟩ := kids_addr hK0 (by assumption)
  have S := Lib.hid (st_begin (ck := ck) (n := n) (x := x) H0 (.inl rfl) (Fr.refl _ _ _) hK0)
  clear H0 hK0
  unfold nodeV
  go_enter Tryz.func81, Tryz.ntmps81
  go_upto_region 1 with (fail)
  generalize w.alloc (.cells #[.int .u8 (x.kind : Int), .int .i64 x.pos, .string x.text, .float .f64 x.num, .slice (some ka) x.kids.length ck] 44) = W at S ⊢
  obtain ⟨d0, d1, d2, d3, d4⟩ := nc5 S.out.blk
  have hnl := lt_of_blk S.out.blk
  rw [HKD.out] at d0
  rw [HLA.out] at d4
  go_wp2_with (fail)
  go_at_call 73
  refine (say_two S.out.H (⟨#[102, 111, 114]⟩ : ByteArray) (⟨#[40]⟩ : ByteArray) 9).mono ?_
  rintro e w1 hr
  cases hm : saysW [(⟨#[102, 111, 114]⟩ : ByteArray), (⟨#[40]⟩ : ByteArray)] s0 with
  | out => exact absurd hm (says_out _ _)
  | bad u => rw [hm] at hr; obtain ⟨rfl, g⟩ := hr; exact ⟨rfl, wres_bad (E.out.trans (WR.b1_bad hm _)) (st_bad S.out g)⟩
  | ok s1 =>
    rw [hm] at hr
    obtain ⟨rfl, h1, H, e1, g⟩ := hr
    have E := Lib.hid (E.out.trans (WR.b1_ok hm _))
    have S := Lib.hid (st_next S.out H e1 g)
    clear H e1 g hm
    obtain ⟨d0, d1, d2, d3, d4⟩ := nc5 S.out.blk
    have hnl := lt_of_blk S.out.blk
    obtain ⟨hal, kc0, hxk0⟩ := st_kid S.out hx (i := 0) (by first | assumption | omega)
    replace kc0 : w1.cell? ka = some (.int .i64 (kidNo n x 0 : Nat)) := kc0
    rw [HKD.out] at d0
    rw [HLA.out] at d4
    go_wp2_with (fail)
    go_at_call 110
    refine (kid_w (wa_up S.out.H (zero_alloc _ _)) hxk0 w1.heap.size 2 [3, 4] (rowk_two w1 3 4 _) (by decide)).mono ?_
    rintro e w2 ⟨g1, k1, k2⟩
    have g0 := after_alloc g1
    by_cases hmk : (x.kid 0).kind ∈ ([3, 4] : List Nat)
    rotate_left
    · rw [k2 hmk]; exact ⟨rfl, wres_bad (E.out.trans (if_neg (by simpa using hmk))) (st_bad S.out (Fr.below g0))⟩
    obtain ⟨K2, ck2, rfl, hK2⟩ := k1 hmk
    replace hK2 := kidsi_up (ok' := fun k => k < z.b) hK2 g1.size fun k hk hlt => ⟨hk, g1.block k hlt⟩
    have E := Lib.hid (E.out.trans (if_pos (by simpa using hmk)))
    have S := Lib.hid (st_up S.out g0)
    have T := Lib.hid (st_begin (x := x.kid 0) (n := kidNo n x 0) (ck := ck2) (w1 := w2) S.out.H S.out.e S.out.G hK2)
    have S := Lib.hid (st_up S.out (zero_alloc w2 (.cells #[.int .u8 ((x.kid 0).kind : Int), .int .i64 (x.kid 0).pos, .string (x.kid 0).text, .float .f64 (x.kid 0).num, .slice K2 (x.kid 0).kids.length ck2] 44)))
    have HM := Lib.hid hmk
    unfold nodeV
    clear g0 g1 k1 k2 hmk hK2
    go_upto_region 3 with (fail)
    generalize w2.alloc (.cells #[.int .u8 ((x.kid 0).kind : Int), .int .i64 (x.kid 0).pos, .string (x.kid 0).text, .float .f64 (x.kid 0).num, .slice K2 (x.kid 0).kids.length ck2] 44) = W2 at S T ⊢
    have E := Lib.hid (E.out.trans (if_pos HZ.out))
    obtain ⟨d0, d1, d2, d3, d4⟩ := nc5 S.out.blk
    have hnl := lt_of_blk S.out.blk
    rw [HKD.out] at d0
    rw [HLA.out] at d4
    obtain ⟨b0, b1, b2, b3, b4⟩ := nc5 T.out.blk
    have hnl2 := lt_of_blk T.out.blk
    have hzz : (0 : Int) < ((x.kid 0).kids.length : Int) := by have := HZ.out; omega
    go_wp2_with (fail)
    go_at_call 83
    refine (refuse_w z _).mono ?_
    rintro e wz ⟨rfl, g⟩
    exact ⟨rfl, wres_bad E.out (st_bad S.out (Fr.below g))⟩
set_option maxHeartbeats 8000000 in
set_option maxRecDepth 100000 in
theorem ww_loop10 {z : Wz} {r : Wm → Tr → Wr → WR} (A : AllWr z r) {x : Tr} {s0 : Wr} {n h0 : Nat} {w : World} {K : Option Addr} {ck : Nat} (hx : SubT z.N n x) (hrow : RowT x = true) (hK0 : KidsI w (fun k => k < z.b) K ck (intsI (KidsT (n + 1) x.kids))) (H0 : WA z s0 h0 w) (ho : wstep r .loop x s0 ≠ .out) (hk : x.kind = 10) (hz : (x.kid 0).kids.length = 0) : Calls Tryz.prog 81 #[.pointer (some ⟨z.b, 0, none⟩), nodeV x K ck] w (WRes z h0 w (wstep r .loop x s0)) := by
  have _ := A
  have _ := And.intro hx hrow
  generalize hR : wstep r .loop x s0 = R at ho ⊢
  have HO := Lib.hid ho
  dsimp only [wstep] at hR
  have E := Lib.hid hR.symm
  clear hR ho
  have hst := store_f
  have hlen : x.kids.length = 3 := kids_len10 hrow hk
  have HLA := Lib.hid hlen
  have hi0 : 0 < x.kids.length := by omega
  have hi1 : 1 < x.kids.length := by omega
  have hi2 : 2 < x.kids.length := by omega
  clear hlen
  have HKD := Lib.hid hk
  clear hk
  have HLB := Lib.hid hz
  clear hz
  obtain ⟨ka, rfl⟩ := kids_addr hK0 (by assumption)
  have S := Lib.hid (st_begin (ck := ck) (n := n) (x := x) H0 (.inl rfl) (Fr.refl _ _ _) hK0)
  clear H0 hK0
  unfold nodeV
  go_enter Tryz.func81, Tryz.ntmps81
  go_upto_region 1 with (fail)
  generalize w.alloc (.cells #[.int .u8 (x.kind : Int), .int .i64 x.pos, .string x.text, .float .f64 x.num, .slice (some ka) x.kids.length ck] 44) = W at S ⊢
  obtain ⟨d0, d1, d2, d3, d4⟩ := nc5 S.out.blk
  have hnl := lt_of_blk S.out.blk
  rw [HKD.out] at d0
  rw [HLA.out] at d4
  go_wp2_with (fail)
  go_at_call 73
  refine (say_two S.out.H (⟨#[102, 111, 114]⟩ : ByteArray) (⟨#[40]⟩ : ByteArray) 9).mono ?_
  rintro e w1 hr
  cases hm : saysW [(⟨#[102, 111, 114]⟩ : ByteArray), (⟨#[40]⟩ : ByteArray)] s0 with
  | out => exact absurd hm (says_out _ _)
  | bad u => rw [hm] at hr; obtain ⟨rfl, g⟩ := hr; exact ⟨rfl, wres_bad (E.out.trans (WR.b1_bad hm _)) (st_bad S.out g)⟩
  | ok s1 =>
    rw [hm] at hr
    obtain ⟨rfl, h1, H, e1, g⟩ := hr
    have E := Lib.hid (E.out.trans (WR.b1_ok hm _))
    have S := Lib.hid (st_next S.out H e1 g)
    clear H e1 g hm
    obtain ⟨d0, d1, d2, d3, d4⟩ := nc5 S.out.blk
    have hnl := lt_of_blk S.out.blk
    obtain ⟨hal, kc0, hxk0⟩ := st_kid S.out hx (i := 0) (by first | assumption | omega)
    replace kc0 : w1.cell? ka = some (.int .i64 (kidNo n x 0 : Nat)) := kc0
    rw [HKD.out] at d0
    rw [HLA.out] at d4
    go_wp2_with (fail)
    go_at_call 110
    refine (kid_w (wa_up S.out.H (zero_alloc _ _)) hxk0 w1.heap.size 2 [3, 4] (rowk_two w1 3 4 _) (by decide)).mono ?_
    rintro e w2 ⟨g1, k1, k2⟩
    have g0 := after_alloc g1
    by_cases hmk : (x.kid 0).kind ∈ ([3, 4] : List Nat)
    rotate_left
    · rw [k2 hmk]; exact ⟨rfl, wres_bad (E.out.trans (if_neg (by simpa using hmk))) (st_bad S.out (Fr.below g0))⟩
    obtain ⟨K2, ck2, rfl, hK2⟩ := k1 hmk
    replace hK2 := kidsi_up (ok' := fun k => k < z.b) hK2 g1.size fun k hk hlt => ⟨hk, g1.block k hlt⟩
    have E := Lib.hid (E.out.trans (if_pos (by simpa using hmk)))
    have S := Lib.hid (st_up S.out g0)
    have T := Lib.hid (st_begin (x := x.kid 0) (n := kidNo n x 0) (ck := ck2) (w1 := w2) S.out.H S.out.e S.out.G hK2)
    have S := Lib.hid (st_up S.out (zero_alloc w2 (.cells #[.int .u8 ((x.kid 0).kind : Int), .int .i64 (x.kid 0).pos, .string (x.kid 0).text, .float .f64 (x.kid 0).num, .slice K2 (x.kid 0).kids.length ck2] 44)))
    have HM := Lib.hid hmk
    unfold nodeV
    clear g0 g1 k1 k2 hmk hK2
    go_upto_region 3 with (fail)
    generalize w2.alloc (.cells #[.int .u8 ((x.kid 0).kind : Int), .int .i64 (x.kid 0).pos, .string (x.kid 0).text, .float .f64 (x.kid 0).num, .slice K2 (x.kid 0).kids.length ck2] 44) = W2 at S T ⊢
    have E := Lib.hid (E.out.trans (if_neg (by rw [HLB.out]; decide)))
    have hk44 : (x.kid 0).kind < 44 := by have := HM.out; simp at this; omega
    obtain ⟨d0, d1, d2, d3, d4⟩ := nc5 S.out.blk
    have hnl := lt_of_blk S.out.blk
    rw [HKD.out] at d0
    rw [HLA.out] at d4
    obtain ⟨b0, b1, b2, b3, b4⟩ := nc5 T.out.blk
    have hnl2 := lt_of_blk T.out.blk
    rw [HLB.out] at b4
    go_wp2_with (fail)
    go_at_call 9
    refine (Kind_w (x.kid 0).kind hk44 _).mono ?_
    rintro e w3 ⟨rfl, g⟩
    have S := Lib.hid (st_up S.out g)
    have T := Lib.hid (st_up T.out g)
    clear g
    obtain ⟨d0, d1, d2, d3, d4⟩ := nc5 S.out.blk
    have hnl := lt_of_blk S.out.blk
    rw [HKD.out] at d0
    rw [HLA.out] at d4
    obtain ⟨b0, b1, b2, b3, b4⟩ := nc5 T.out.blk
    have hnl2 := lt_of_blk T.out.blk
    rw [HLB.out] at b4
    go_wp2_with (fail)
    go_at_call 73
    refine (say_one S.out.H (kindW (x.kid 0).kind) 9).mono ?_
    rintro e w4 hr
    cases hm : saysW [(kindW (x.kid 0).kind)] s1 with
    | out => exact absurd hm (says_out _ _)
    | bad u => rw [hm] at hr; obtain ⟨rfl, g⟩ := hr; exact ⟨rfl, wres_bad (E.out.trans (WR.b1_bad hm _)) (st_bad S.out g)⟩
    | ok s4 =>
      rw [hm] at hr
      obtain ⟨rfl, h4, H, e1, g⟩ := hr
      have E := Lib.hid (E.out.trans (WR.b1_ok hm _))
      have T := Lib.hid (st_next T.out H e1 g)
      have S := Lib.hid (st_next S.out H e1 g)
      clear H e1 g hm
      obtain ⟨d0, d1, d2, d3, d4⟩ := nc5 S.out.blk
      have hnl := lt_of_blk S.out.blk
      rw [HKD.out] at d0
      rw [HLA.out] at d4
      obtain ⟨b0, b1, b2, b3, b4⟩ := nc5 T.out.blk
      have hnl2 := lt_of_blk T.out.blk
      rw [HLB.out] at b4
      go_wp2_with (fail)
      go_at_call 75
      refine (name_w S.out.H (x.kid 0).text).mono ?_
      rintro e w5 hr
      cases hm : nameW (x.kid 0).text s4 with
      | out => exact absurd hm (name_out _ _)
      | bad u => rw [hm] at hr; obtain ⟨rfl, g⟩ := hr; exact ⟨rfl, wres_bad (E.out.trans (WR.b1_bad hm _)) (st_bad S.out g)⟩
      | ok s5 =>
        rw [hm] at hr
        obtain ⟨rfl, h5, H, e1, g⟩ := hr
        have E := Lib.hid (E.out.trans (WR.b1_ok hm _))
        have T := Lib.hid (st_next T.out H e1 g)
        have S := Lib.hid (st_next S.out H e1 g)
        clear H e1 g hm
        obtain ⟨d0, d1, d2, d3, d4⟩ := nc5 S.out.blk
        have hnl := lt_of_blk S.out.blk
        rw [HKD.out] at d0
        rw [HLA.out] at d4
        obtain ⟨b0, b1, b2, b3, b4⟩ := nc5 T.out.blk
        have hnl2 := lt_of_blk T.out.blk
        rw [HLB.out] at b4
        have E := Lib.hid (E.out.trans (WR.if_f (by rw [HKD.out]; decide)))
        go_wp2_with (fail)
        go_at_call 75
        refine (name_w S.out.H (⟨#[111, 102]⟩ : ByteArray)).mono ?_
        rintro e w6 hr
        cases hm : nameW (⟨#[111, 102]⟩ : ByteArray) s5 with
        | out => exact absurd hm (name_out _ _)
        | bad u => rw [hm] at hr; obtain ⟨rfl, g⟩ := hr; exact ⟨rfl, wres_bad (E.out.trans (WR.b1_bad hm _)) (st_bad S.out g)⟩
        | ok s6 =>
          rw [hm] at hr
          obtain ⟨rfl, h6, H, e1, g⟩ := hr
          have E := Lib.hid (E.out.trans (WR.b1_ok hm _))
          have S := Lib.hid (st_next S.out H e1 g)
          clear H e1 g hm
          obtain ⟨d0, d1, d2, d3, d4⟩ := nc5 S.out.blk
          have hnl := lt_of_blk S.out.blk
          obtain ⟨hal, kc1, hxk1⟩ := st_kid S.out hx (i := 1) (by first | assumption | omega)
          replace kc1 : w6.cell? ⟨ka.block, ka.off + 1, none⟩ = some (.int .i64 (kidNo n x 1 : Nat)) := kc1
          rw [HKD.out] at d0
          rw [HLA.out] at d4
          go_wp2_with (fail)
          have hno := Lib.hid (show r .value (x.kid 1) s6 ≠ .out from fun e => HO.out (E.out.trans (WR.b1_out e _)))
          go_at_call 77
          refine (A.value (x.kid 1) s6 _ _ _ hxk1 (rowT_kid hrow (by first | assumption | omega)) S.out.H hno.out).mono ?_
          rintro e w7 hr
          cases hm : r .value (x.kid 1) s6 with
          | out => exact absurd hm hno.out
          | bad u => rw [hm] at hr; obtain ⟨rfl, g⟩ := hr; exact ⟨rfl, wres_bad (E.out.trans (WR.b1_bad hm _)) (st_bad S.out g)⟩
          | ok s7 =>
            rw [hm] at hr
            obtain ⟨rfl, h7, H, e1, g⟩ := hr
            have E := Lib.hid (E.out.trans (WR.b1_ok hm _))
            have S := Lib.hid (st_next S.out H e1 g)
            clear H e1 g hm
            obtain ⟨d0, d1, d2, d3, d4⟩ := nc5 S.out.blk
            have hnl := lt_of_blk S.out.blk
            rw [HKD.out] at d0
            rw [HLA.out] at d4
            go_wp2_with (fail)
            go_at_call 73
            refine (say_one S.out.H (⟨#[41]⟩ : ByteArray) 9).mono ?_
            rintro e w8 hr
            cases hm : saysW [(⟨#[41]⟩ : ByteArray)] s7 with
            | out => exact absurd hm (says_out _ _)
            | bad u => rw [hm] at hr; obtain ⟨rfl, g⟩ := hr; exact ⟨rfl, wres_bad (E.out.trans (WR.b1_bad hm _)) (st_bad S.out g)⟩
            | ok s8 =>
              rw [hm] at hr
              obtain ⟨rfl, h8, H, e1, g⟩ := hr
              have E := Lib.hid (E.out.trans (WR.b1_ok hm _))
              have S := Lib.hid (st_next S.out H e1 g)
              clear H e1 g hm
              obtain ⟨d0, d1, d2, d3, d4⟩ := nc5 S.out.blk
              have hnl := lt_of_blk S.out.blk
              obtain ⟨hal, kc2, hxk2⟩ := st_kid S.out hx (i := 2) (by first | assumption | omega)
              replace kc2 : w8.cell? ⟨ka.block, ka.off + 2, none⟩ = some (.int .i64 (kidNo n x 2 : Nat)) := kc2
              rw [HKD.out] at d0
              rw [HLA.out] at d4
              go_wp2_with (fail)
              have hno := Lib.hid (show r .body (x.kid 2) s8 ≠ .out from fun e => HO.out (E.out.trans e))
              go_at_call 80
              refine (A.body (x.kid 2) s8 _ _ _ hxk2 (rowT_kid hrow (by first | assumption | omega)) S.out.H hno.out).mono ?_
              rintro e w9 hr
              cases hm : r .body (x.kid 2) s8 with
              | out => exact absurd hm hno.out
              | bad u => rw [hm] at hr; obtain ⟨rfl, g⟩ := hr; exact ⟨rfl, wres_bad (E.out.trans hm) (st_bad S.out g)⟩
              | ok s9 =>
                rw [hm] at hr
                obtain ⟨rfl, h9, H, e1, g⟩ := hr
                have E := Lib.hid (E.out.trans hm)
                have S := Lib.hid (st_next S.out H e1 g)
                clear H e1 g hm
                go_wp2_with (fail)
                go_end0
                exact st_fin S.out E.out
theorem ww_loop {z : Wz} {r : Wm → Tr → Wr → WR} (A : AllWr z r) : ByNodeP isLoop z 81 (wstep r .loop) := by
  intro x s n h w K ck hP hx hrow hK H ho
  rcases Nat.eq_zero_or_pos (x.kid 0).kids.length with hz | hz
  · rcases hP with hk | hk
    · exact ww_loop9 A hx hrow hK H ho hk hz
    · exact ww_loop10 A hx hrow hK H ho hk hz
  · rcases hP with hk | hk
    · exact ww_loop9x A hx hrow hK H ho hk hz
    · exact ww_loop10x A hx hrow hK H ho hk hz
end Go.Proofs.YtablckajobefeaaGreatDoor.S
