/-
  The writer's listed: nodes with commas between; a walk for each function that it is handed. Generated: gen_writlist.py.
-/
import Derived.Test.YtablckajobefeaaGreatDoorPN26
import Derived.Test.YtablckajobefeaaGreatDoorPN13
namespace Go.Proofs.YtablckajobefeaaGreatDoor.S
open Go.RowKit Fl

/-- a row of numbers of nodes that read as trees -/
def LsT (z : Wz) (w : World) (K : Option Addr) (L : List Tr) : Prop := ∃ ms : List Nat, ms.length = L.length ∧ RowI w (fun k => k < z.b) K (intsI (ms.map fun (m : Nat) => (m : Int))) ∧ ∀ i (hi : i < L.length) (hm : i < ms.length), SubT z.N ms[i] L[i] ∧ RowT L[i] = true
theorem ls_up {z : Wz} {w w' : World} {K : Option Addr} {L : List Tr} (h : LsT z w K L) {h0 : Nat} (hb : z.b ≤ h0) (g : Fr z.b h0 w w') : LsT z w' K L := by
  obtain ⟨ms, h1, h2, h3⟩ := h
  exact ⟨ms, h1, rowk_up h2 hb g, h3⟩
theorem ls_at {z : Wz} {w : World} {K : Option Addr} {L : List Tr} (h : LsT z w K L) {i : Nat} (hi : i < L.length) : ∃ (a : Addr) (m : Nat), K = some a ∧ a.block < w.heap.size ∧ w.cell? (a.add i) = some (.int .i64 (m : Int)) ∧ SubT z.N m L[i] ∧ RowT L[i] = true := by
  obtain ⟨ms, h1, h2, h3⟩ := h
  obtain ⟨a, e, _, hlt, hc⟩ := h2 (by unfold intsI; simp only [List.length_map]; omega)
  have hm : i < ms.length := by omega
  refine ⟨a, ms[i], e, hlt, hc i _ ?_, h3 i hi hm⟩
  unfold intsI
  simp only [List.getElem?_map, List.getElem?_eq_getElem hm, Option.map_some]
theorem ls_all {z : Wz} {w : World} {K : Option Addr} {n : Nat} {x : Tr} {ck : Nat} (hK : KidsI w (fun k => k < z.b) K ck (intsI (KidsT (n + 1) x.kids))) (hx : SubT z.N n x) (hr : RowT x = true) : LsT z w K x.kids := by
  obtain ⟨_, h2⟩ := subT_node hx
  exact ⟨starts (n + 1) x.kids, starts_len _ _, hK.2, fun i hi hm => ⟨subL_get x.kids (n + 1) i hi hm h2, rowTs_get x.kids i hi (rowT_kids hr).2.2⟩⟩
theorem ls_take {z : Wz} {w : World} {K : Option Addr} {L : List Tr} (h : LsT z w K L) (d : Nat) : LsT z w K (L.take d) := by
  obtain ⟨ms, h1, h2, h3⟩ := h
  refine ⟨ms.take d, by simp [h1], fun hp => ?_, fun i hi hm => ?_⟩
  · have hp2 : 0 < ms.length := by unfold intsI at hp; simp only [List.length_map, List.length_take] at hp; omega
    obtain ⟨a, e, k1, k2, k3⟩ := h2 (by unfold intsI; simp only [List.length_map]; exact hp2)
    refine ⟨a, e, k1, k2, fun i v hv => k3 i v ?_⟩
    unfold intsI at hv ⊢
    simp only [List.getElem?_map, List.getElem?_take] at hv ⊢
    split at hv
    · exact hv
    · simp at hv
  · simp only [List.getElem_take]
    simp only [List.length_take] at hi hm
    exact h3 i (by omega) (by omega)
theorem add_add2 (a : Addr) (d i : Nat) : (a.add d).add i = a.add (d + i) := by
  unfold Addr.add
  by_cases h1 : d = 0
  · subst h1; simp
  · rw [if_neg h1, if_neg (show ¬ d + i = 0 by omega)]
    by_cases h2 : i = 0
    · subst h2; simp
    · rw [if_neg h2]; simp [Nat.add_assoc]
theorem ls_drop {z : Wz} {w : World} {a : Addr} {L : List Tr} (h : LsT z w (some a) L) (d : Nat) (hd : 0 < L.length) : LsT z w (some (a.add d)) (L.drop d) := by
  obtain ⟨ms, h1, h2, h3⟩ := h
  obtain ⟨b, e, k1, k2, k3⟩ := h2 (by unfold intsI; simp only [List.length_map]; omega)
  cases e
  refine ⟨ms.drop d, by simp [h1], fun hp => ⟨a.add d, rfl, by rw [block_of_add]; exact k1, by rw [block_of_add]; exact k2, fun i v hv => ?_⟩, fun i hi hm => ?_⟩
  · rw [add_add2]
    refine k3 (d + i) v ?_
    unfold intsI at hv ⊢
    simp only [List.getElem?_map, List.getElem?_drop] at hv ⊢
    exact hv
  · simp only [List.getElem_drop]
    simp only [List.length_drop] at hi hm
    exact h3 (d + i) (by omega) (by omega)
theorem listed_drop {f : Tr → Wr → WR} {most : Nat} {L : List Tr} {i : Nat} (hi : i < L.length) (s : Wr) :
    listedW f most i (L.drop i) s = (if 0 < i then sayW (⟨#[44]⟩ : ByteArray) s else .ok s).bind fun s1 => if i = most then .bad 5 else (f L[i] s1).bind (listedW f most (i + 1) (L.drop (i + 1))) := by
  rw [List.drop_eq_getElem_cons hi]; rfl
theorem listed_end {f : Tr → Wr → WR} {most i : Nat} {L : List Tr} (hi : L.length ≤ i) (s : Wr) : listedW f most i (L.drop i) s = .ok s := by
  rw [List.drop_eq_nil_of_le hi]; rfl
theorem saysone (c : ByteArray) (s : Wr) : saysW [c] s = sayW c s := by unfold saysW; cases sayW c s <;> rfl
theorem nfld_text {k p : Int} {c : ByteArray} {x : Nat} {s : Value} {w : World} : (Instr.field 44 (.agg #[.int .u8 k, .int .i64 p, .string c, .float .f64 x, s]) 2).run Tryz.prog w = .ok (.string c) w := by kernel_rfl
set_option maxHeartbeats 2000000 in
set_option maxRecDepth 100000 in
theorem param_w (z : Wz) : ByNo z 113 paramW := by
  intro x s n h w hx hrow H ho
  generalize hR : paramW x s = R at ho ⊢
  have E := Lib.hid hR.symm
  clear hR
  have hst := store_f
  go_enter Tryz.func113, Tryz.ntmps113
  go_wp2_with (fail)
  go_at_call 110
  refine (kid_w (wa_up H (zero_alloc _ _)) hx w.heap.size 1 [26] (rowk_one w 26 _) (by simp)).mono ?_
  rintro e w1 ⟨g1, k1, k2⟩
  have g0 := after_alloc g1
  by_cases hk : x.kind = 26
  · have hE : paramW x s = nameW x.text s := by unfold paramW; rw [if_pos hk]
    obtain ⟨K, ck, rfl, hK⟩ := k1 (by simp [hk])
    unfold nodeV
    have H := Lib.hid (wa_up H g0)
    replace E := Lib.hid (E.out.trans hE)
    have ky := name_w H.out x.text
    have hf2 : (Instr.field 44 (.agg #[.int .u8 26, .int .i64 x.pos, .string x.text, .float .f64 x.num, .slice K x.kids.length ck]) 2).run Tryz.prog w1 = .ok (.string x.text) w1 := nfld_text
    clear k1 k2 ho hE hK
    go_wp2_with (fail)
    go_at_call 75
    refine (ky.mono ?_)
    rintro e w2 hr
    cases hm : nameW x.text s with
    | out => exact absurd hm (name_out _ _)
    | bad q => rw [hm] at hr; obtain ⟨rfl, g⟩ := hr; exact ⟨rfl, wres_bad (E.out.trans hm) ((Fr.below g0).trans (.inl rfl) g)⟩
    | ok s1 =>
      rw [hm] at hr
      obtain ⟨rfl, h1, H1, e1, g⟩ := hr
      have HN := Lib.hid (And.intro H1 (And.intro (hor (w := w) (h := h) (.inl rfl) g0.size e1) ((Fr.below g0).trans (.inl rfl) g)))
      replace E := Lib.hid (E.out.trans hm)
      clear H1 e1 g ky hm
      go_wp2_with (fail)
      go_end0
      exact wres_ok E.out HN.out.1 HN.out.2.1 HN.out.2.2
  · rw [k2 (by simp [hk])]
    have hE : paramW x s = .bad 5 := by unfold paramW; rw [if_neg hk]
    exact ⟨rfl, wres_bad (E.out.trans hE) (Fr.below g0)⟩

set_option maxHeartbeats 4000000 in
set_option maxRecDepth 100000 in
theorem wlisted_param {z : Wz} {f : Tr → Wr → WR} (A : ByNo z 113 f) {K : Option Addr} {L : List Tr} {cap most : Nat} {s : Wr} {h : Nat} {w : World} (hL : LsT z w K L) (hfew : L.length ≤ 16384) (hmost : most ≤ 16384) (H : WA z s h w) (ho : listedW f most 0 L s ≠ .out) :
    Calls Tryz.prog 112 #[.pointer (some ⟨z.b, 0, none⟩), .slice K L.length cap, .int .i64 (most : Int), .func (.func 113) #[.pointer (some ⟨z.b, 0, none⟩)] #[]] w (WRes z h w (listedW f most 0 L s)) := by
  generalize hR : listedW f most 0 L s = R at ho ⊢
  have HO := Lib.hid ho
  have HE := Lib.hid (And.intro H (And.intro (Fr.refl z.b h w) (And.intro hL (show R = listedW f most 0 (L.drop 0) s from hR.symm))))
  clear hR ho H hL
  go_enter Tryz.func112, Tryz.ntmps112
  go_wp2_with (fail)
  go_loopw [12] (fun i wr => ∃ (k : Nat) (s2 : Wr) (h3 : Nat), i = .int .i64 k ∧ k ≤ L.length ∧ Hid (WA z s2 h3 wr ∧ (h3 = h ∨ w.heap.size ≤ h3) ∧ Fr z.b h w wr ∧ LsT z wr K L ∧ R = listedW f most k (L.drop k) s2)) (fun i _ => L.length - (intOf i).toNat)
  case atStart => exact ⟨0, s, h, rfl, Nat.zero_le _, Lib.hid ⟨HE.out.1, .inl rfl, HE.out.2⟩⟩
  case round =>
    obtain ⟨k, s2, h3, rfl, hk2, HH⟩ := hrel
    obtain ⟨H4, e4, G4, hL4, E4⟩ := HH.out
    clear HH HE
    by_cases hlt : k < L.length
    · obtain ⟨a, m, ha, hal, hc, hxk, hrk⟩ := ls_at hL4 hlt
      subst ha
      rw [listed_drop hlt] at E4
      have E5 := Lib.hid E4
      have hL5 := Lib.hid hL4
      have hlz : (k : Int) < (L.length : Int) := by omega
      have he4 := Lib.hid e4
      have G5 := Lib.hid G4
      have H5 := Lib.hid H4
      have hl1 := Lib.hid hlt
      clear E4 hL4 e4 G4 H4
      rcases Nat.eq_zero_or_pos k with rfl | hkp
      · replace hc : wr.cell? a = some (.int .i64 (m : Int)) := hc
        have E6 := Lib.hid (E5.out.trans (WR.bind_ok (if_neg (Nat.lt_irrefl 0)) _))
        by_cases hm : 0 = most
        · subst hm
          have E7 := Lib.hid (E6.out.trans (if_pos rfl))
          go_wp2_with (fail)
          go_at_call 83
          refine (refuse_w z _).mono ?_
          rintro e w5 ⟨rfl, g⟩
          exact ⟨rfl, wres_bad E7.out (G5.out.trans he4.out (Fr.below g))⟩
        · have E7 := Lib.hid (E6.out.trans (if_neg hm))
          have hmz : ((0 : Int) == (most : Int)) = false := by rw [beq_eq_false_iff_ne]; omega
          have hno := Lib.hid (show f L[0] s2 ≠ .out from fun e => HO.out (E7.out.trans (WR.bind_out e _)))
          have ky := A L[0] s2 m h3 wr hxk hrk H5.out hno.out
          clear hm
          go_wp2_with (fail)
          go_at_call 113
          refine ky.mono ?_
          rintro e w5 hr
          cases hm1 : f L[0] s2 with
          | out => exact absurd hm1 hno.out
          | bad q => rw [hm1] at hr; obtain ⟨rfl, g⟩ := hr; exact ⟨rfl, wres_bad (E7.out.trans (WR.bind_bad hm1 _)) (G5.out.trans he4.out g)⟩
          | ok s5 =>
            rw [hm1] at hr
            obtain ⟨rfl, h5, H6, e5, g5⟩ := hr
            have HN := Lib.hid (And.intro H6 (And.intro (hor he4.out G5.out.size e5) (And.intro (G5.out.trans he4.out g5) (And.intro (ls_up hL5.out H5.out.hz g5) (E7.out.trans (WR.bind_ok hm1 _))))))
            clear ky H6 e5 g5 hm1
            go_wp2_with (fail)
            go_roundw
            case rel => exact ⟨1, s5, h5, by go_num, hl1.out, HN⟩
            case measure => have := hl1.out; simp [intOf]; omega
      · have E6 := Lib.hid (E5.out.trans (by rw [if_pos hkp, ← saysone]))
        have hkz : (0 : Int) < (k : Int) := by omega
        have hmk := Lib.hid (show (k = most ↔ ((k : Int) == (most : Int)) = true) by rw [beq_iff_eq]; omega)
        have hkd := Lib.hid hkp
        clear hkp
        have ks := say_one H5.out (⟨#[44]⟩ : ByteArray) 9
        go_wp2_with (fail)
        go_at_call 73
        refine ks.mono ?_
        rintro e w4 hr
        cases hm0 : saysW [(⟨#[44]⟩ : ByteArray)] s2 with
        | out => exact absurd hm0 (says_out _ _)
        | bad q => rw [hm0] at hr; obtain ⟨rfl, g⟩ := hr; exact ⟨rfl, wres_bad (E6.out.trans (WR.bind_bad hm0 _)) (G5.out.trans he4.out g)⟩
        | ok s4 =>
          rw [hm0] at hr
          obtain ⟨rfl, h4, H6, e6, g6⟩ := hr
          have E7 := Lib.hid (E6.out.trans (WR.bind_ok hm0 _))
          have hL6 := Lib.hid (ls_up hL5.out H5.out.hz g6)
          have he6 := Lib.hid (hor he4.out G5.out.size e6)
          have G6 := Lib.hid (G5.out.trans he4.out g6)
          have HN6 := Lib.hid H6
          clear ks hm0 g6 e6 E6 H6
          by_cases hm : k = most
          · have E8 := Lib.hid (E7.out.trans (if_pos hm))
            have hmz := hmk.out.1 hm
            clear hm
            go_wp2_with (fail)
            go_at_call 83
            refine (refuse_w z _).mono ?_
            rintro e w5 ⟨rfl, g⟩
            exact ⟨rfl, wres_bad E8.out (G6.out.trans he6.out (Fr.below g))⟩
          · have E8 := Lib.hid (E7.out.trans (if_neg hm))
            have hmz : ((k : Int) == (most : Int)) = false := by rw [beq_eq_false_iff_ne]; omega
            have hno := Lib.hid (show f L[k] s4 ≠ .out from fun e => HO.out (E8.out.trans (WR.bind_out e _)))
            have ky := A L[k] s4 m h4 w4 hxk hrk HN6.out hno.out
            clear hm
            go_wp2_with (fail)
            go_at_call 113
            refine ky.mono ?_
            rintro e w5 hr
            cases hm1 : f L[k] s4 with
            | out => exact absurd hm1 hno.out
            | bad q => rw [hm1] at hr; obtain ⟨rfl, g⟩ := hr; exact ⟨rfl, wres_bad (E8.out.trans (WR.bind_bad hm1 _)) (G6.out.trans he6.out g)⟩
            | ok s5 =>
              rw [hm1] at hr
              obtain ⟨rfl, h5, H6, e5, g5⟩ := hr
              have HN := Lib.hid (And.intro H6 (And.intro (hor he6.out G6.out.size e5) (And.intro (G6.out.trans he6.out g5) (And.intro (ls_up hL6.out HN6.out.hz g5) (E8.out.trans (WR.bind_ok hm1 _))))))
              clear ky H6 e5 g5 hm1
              go_wp2_with (fail)
              go_roundw
              case rel => exact ⟨k + 1, s5, h5, by go_num, hl1.out, HN⟩
              case measure => have := hl1.out; simp [intOf]; omega
    · have E5 := Lib.hid (E4.trans (listed_end (by omega) s2))
      have HN := Lib.hid (And.intro H4 (And.intro e4 G4))
      clear H4 e4 G4 hL4 E4
      go_wp2_with (fail)
      go_end0
      exact wres_ok E5.out HN.out.1 HN.out.2.1 HN.out.2.2

set_option maxHeartbeats 4000000 in
set_option maxRecDepth 100000 in
theorem wlisted_value {z : Wz} {f : Tr → Wr → WR} (A : ByNo z 77 f) {K : Option Addr} {L : List Tr} {cap most : Nat} {s : Wr} {h : Nat} {w : World} (hL : LsT z w K L) (hfew : L.length ≤ 16384) (hmost : most ≤ 16384) (H : WA z s h w) (ho : listedW f most 0 L s ≠ .out) :
    Calls Tryz.prog 112 #[.pointer (some ⟨z.b, 0, none⟩), .slice K L.length cap, .int .i64 (most : Int), .func (.func 77) #[.pointer (some ⟨z.b, 0, none⟩)] #[]] w (WRes z h w (listedW f most 0 L s)) := by
  generalize hR : listedW f most 0 L s = R at ho ⊢
  have HO := Lib.hid ho
  have HE := Lib.hid (And.intro H (And.intro (Fr.refl z.b h w) (And.intro hL (show R = listedW f most 0 (L.drop 0) s from hR.symm))))
  clear hR ho H hL
  go_enter Tryz.func112, Tryz.ntmps112
  go_wp2_with (fail)
  go_loopw [12] (fun i wr => ∃ (k : Nat) (s2 : Wr) (h3 : Nat), i = .int .i64 k ∧ k ≤ L.length ∧ Hid (WA z s2 h3 wr ∧ (h3 = h ∨ w.heap.size ≤ h3) ∧ Fr z.b h w wr ∧ LsT z wr K L ∧ R = listedW f most k (L.drop k) s2)) (fun i _ => L.length - (intOf i).toNat)
  case atStart => exact ⟨0, s, h, rfl, Nat.zero_le _, Lib.hid ⟨HE.out.1, .inl rfl, HE.out.2⟩⟩
  case round =>
    obtain ⟨k, s2, h3, rfl, hk2, HH⟩ := hrel
    obtain ⟨H4, e4, G4, hL4, E4⟩ := HH.out
    clear HH HE
    by_cases hlt : k < L.length
    · obtain ⟨a, m, ha, hal, hc, hxk, hrk⟩ := ls_at hL4 hlt
      subst ha
      rw [listed_drop hlt] at E4
      have E5 := Lib.hid E4
      have hL5 := Lib.hid hL4
      have hlz : (k : Int) < (L.length : Int) := by omega
      have he4 := Lib.hid e4
      have G5 := Lib.hid G4
      have H5 := Lib.hid H4
      have hl1 := Lib.hid hlt
      clear E4 hL4 e4 G4 H4
      rcases Nat.eq_zero_or_pos k with rfl | hkp
      · replace hc : wr.cell? a = some (.int .i64 (m : Int)) := hc
        have E6 := Lib.hid (E5.out.trans (WR.bind_ok (if_neg (Nat.lt_irrefl 0)) _))
        by_cases hm : 0 = most
        · subst hm
          have E7 := Lib.hid (E6.out.trans (if_pos rfl))
          go_wp2_with (fail)
          go_at_call 83
          refine (refuse_w z _).mono ?_
          rintro e w5 ⟨rfl, g⟩
          exact ⟨rfl, wres_bad E7.out (G5.out.trans he4.out (Fr.below g))⟩
        · have E7 := Lib.hid (E6.out.trans (if_neg hm))
          have hmz : ((0 : Int) == (most : Int)) = false := by rw [beq_eq_false_iff_ne]; omega
          have hno := Lib.hid (show f L[0] s2 ≠ .out from fun e => HO.out (E7.out.trans (WR.bind_out e _)))
          have ky := A L[0] s2 m h3 wr hxk hrk H5.out hno.out
          clear hm
          go_wp2_with (fail)
          go_at_call 77
          refine ky.mono ?_
          rintro e w5 hr
          cases hm1 : f L[0] s2 with
          | out => exact absurd hm1 hno.out
          | bad q => rw [hm1] at hr; obtain ⟨rfl, g⟩ := hr; exact ⟨rfl, wres_bad (E7.out.trans (WR.bind_bad hm1 _)) (G5.out.trans he4.out g)⟩
          | ok s5 =>
            rw [hm1] at hr
            obtain ⟨rfl, h5, H6, e5, g5⟩ := hr
            have HN := Lib.hid (And.intro H6 (And.intro (hor he4.out G5.out.size e5) (And.intro (G5.out.trans he4.out g5) (And.intro (ls_up hL5.out H5.out.hz g5) (E7.out.trans (WR.bind_ok hm1 _))))))
            clear ky H6 e5 g5 hm1
            go_wp2_with (fail)
            go_roundw
            case rel => exact ⟨1, s5, h5, by go_num, hl1.out, HN⟩
            case measure => have := hl1.out; simp [intOf]; omega
      · have E6 := Lib.hid (E5.out.trans (by rw [if_pos hkp, ← saysone]))
        have hkz : (0 : Int) < (k : Int) := by omega
        have hmk := Lib.hid (show (k = most ↔ ((k : Int) == (most : Int)) = true) by rw [beq_iff_eq]; omega)
        have hkd := Lib.hid hkp
        clear hkp
        have ks := say_one H5.out (⟨#[44]⟩ : ByteArray) 9
        go_wp2_with (fail)
        go_at_call 73
        refine ks.mono ?_
        rintro e w4 hr
        cases hm0 : saysW [(⟨#[44]⟩ : ByteArray)] s2 with
        | out => exact absurd hm0 (says_out _ _)
        | bad q => rw [hm0] at hr; obtain ⟨rfl, g⟩ := hr; exact ⟨rfl, wres_bad (E6.out.trans (WR.bind_bad hm0 _)) (G5.out.trans he4.out g)⟩
        | ok s4 =>
          rw [hm0] at hr
          obtain ⟨rfl, h4, H6, e6, g6⟩ := hr
          have E7 := Lib.hid (E6.out.trans (WR.bind_ok hm0 _))
          have hL6 := Lib.hid (ls_up hL5.out H5.out.hz g6)
          have he6 := Lib.hid (hor he4.out G5.out.size e6)
          have G6 := Lib.hid (G5.out.trans he4.out g6)
          have HN6 := Lib.hid H6
          clear ks hm0 g6 e6 E6 H6
          by_cases hm : k = most
          · have E8 := Lib.hid (E7.out.trans (if_pos hm))
            have hmz := hmk.out.1 hm
            clear hm
            go_wp2_with (fail)
            go_at_call 83
            refine (refuse_w z _).mono ?_
            rintro e w5 ⟨rfl, g⟩
            exact ⟨rfl, wres_bad E8.out (G6.out.trans he6.out (Fr.below g))⟩
          · have E8 := Lib.hid (E7.out.trans (if_neg hm))
            have hmz : ((k : Int) == (most : Int)) = false := by rw [beq_eq_false_iff_ne]; omega
            have hno := Lib.hid (show f L[k] s4 ≠ .out from fun e => HO.out (E8.out.trans (WR.bind_out e _)))
            have ky := A L[k] s4 m h4 w4 hxk hrk HN6.out hno.out
            clear hm
            go_wp2_with (fail)
            go_at_call 77
            refine ky.mono ?_
            rintro e w5 hr
            cases hm1 : f L[k] s4 with
            | out => exact absurd hm1 hno.out
            | bad q => rw [hm1] at hr; obtain ⟨rfl, g⟩ := hr; exact ⟨rfl, wres_bad (E8.out.trans (WR.bind_bad hm1 _)) (G6.out.trans he6.out g)⟩
            | ok s5 =>
              rw [hm1] at hr
              obtain ⟨rfl, h5, H6, e5, g5⟩ := hr
              have HN := Lib.hid (And.intro H6 (And.intro (hor he6.out G6.out.size e5) (And.intro (G6.out.trans he6.out g5) (And.intro (ls_up hL6.out HN6.out.hz g5) (E8.out.trans (WR.bind_ok hm1 _))))))
              clear ky H6 e5 g5 hm1
              go_wp2_with (fail)
              go_roundw
              case rel => exact ⟨k + 1, s5, h5, by go_num, hl1.out, HN⟩
              case measure => have := hl1.out; simp [intOf]; omega
    · have E5 := Lib.hid (E4.trans (listed_end (by omega) s2))
      have HN := Lib.hid (And.intro H4 (And.intro e4 G4))
      clear H4 e4 G4 hL4 E4
      go_wp2_with (fail)
      go_end0
      exact wres_ok E5.out HN.out.1 HN.out.2.1 HN.out.2.2

set_option maxHeartbeats 4000000 in
set_option maxRecDepth 100000 in
theorem wlisted_pair {z : Wz} {f : Tr → Wr → WR} (A : ByNo z 156 f) {K : Option Addr} {L : List Tr} {cap most : Nat} {s : Wr} {h : Nat} {w : World} (hL : LsT z w K L) (hfew : L.length ≤ 16384) (hmost : most ≤ 16384) (H : WA z s h w) (ho : listedW f most 0 L s ≠ .out) :
    Calls Tryz.prog 112 #[.pointer (some ⟨z.b, 0, none⟩), .slice K L.length cap, .int .i64 (most : Int), .func (.func 156) #[.pointer (some ⟨z.b, 0, none⟩)] #[]] w (WRes z h w (listedW f most 0 L s)) := by
  generalize hR : listedW f most 0 L s = R at ho ⊢
  have HO := Lib.hid ho
  have HE := Lib.hid (And.intro H (And.intro (Fr.refl z.b h w) (And.intro hL (show R = listedW f most 0 (L.drop 0) s from hR.symm))))
  clear hR ho H hL
  go_enter Tryz.func112, Tryz.ntmps112
  go_wp2_with (fail)
  go_loopw [12] (fun i wr => ∃ (k : Nat) (s2 : Wr) (h3 : Nat), i = .int .i64 k ∧ k ≤ L.length ∧ Hid (WA z s2 h3 wr ∧ (h3 = h ∨ w.heap.size ≤ h3) ∧ Fr z.b h w wr ∧ LsT z wr K L ∧ R = listedW f most k (L.drop k) s2)) (fun i _ => L.length - (intOf i).toNat)
  case atStart => exact ⟨0, s, h, rfl, Nat.zero_le _, Lib.hid ⟨HE.out.1, .inl rfl, HE.out.2⟩⟩
  case round =>
    obtain ⟨k, s2, h3, rfl, hk2, HH⟩ := hrel
    obtain ⟨H4, e4, G4, hL4, E4⟩ := HH.out
    clear HH HE
    by_cases hlt : k < L.length
    · obtain ⟨a, m, ha, hal, hc, hxk, hrk⟩ := ls_at hL4 hlt
      subst ha
      rw [listed_drop hlt] at E4
      have E5 := Lib.hid E4
      have hL5 := Lib.hid hL4
      have hlz : (k : Int) < (L.length : Int) := by omega
      have he4 := Lib.hid e4
      have G5 := Lib.hid G4
      have H5 := Lib.hid H4
      have hl1 := Lib.hid hlt
      clear E4 hL4 e4 G4 H4
      rcases Nat.eq_zero_or_pos k with rfl | hkp
      · replace hc : wr.cell? a = some (.int .i64 (m : Int)) := hc
        have E6 := Lib.hid (E5.out.trans (WR.bind_ok (if_neg (Nat.lt_irrefl 0)) _))
        by_cases hm : 0 = most
        · subst hm
          have E7 := Lib.hid (E6.out.trans (if_pos rfl))
          go_wp2_with (fail)
          go_at_call 83
          refine (refuse_w z _).mono ?_
          rintro e w5 ⟨rfl, g⟩
          exact ⟨rfl, wres_bad E7.out (G5.out.trans he4.out (Fr.below g))⟩
        · have E7 := Lib.hid (E6.out.trans (if_neg hm))
          have hmz : ((0 : Int) == (most : Int)) = false := by rw [beq_eq_false_iff_ne]; omega
          have hno := Lib.hid (show f L[0] s2 ≠ .out from fun e => HO.out (E7.out.trans (WR.bind_out e _)))
          have ky := A L[0] s2 m h3 wr hxk hrk H5.out hno.out
          clear hm
          go_wp2_with (fail)
          go_at_call 156
          refine ky.mono ?_
          rintro e w5 hr
          cases hm1 : f L[0] s2 with
          | out => exact absurd hm1 hno.out
          | bad q => rw [hm1] at hr; obtain ⟨rfl, g⟩ := hr; exact ⟨rfl, wres_bad (E7.out.trans (WR.bind_bad hm1 _)) (G5.out.trans he4.out g)⟩
          | ok s5 =>
            rw [hm1] at hr
            obtain ⟨rfl, h5, H6, e5, g5⟩ := hr
            have HN := Lib.hid (And.intro H6 (And.intro (hor he4.out G5.out.size e5) (And.intro (G5.out.trans he4.out g5) (And.intro (ls_up hL5.out H5.out.hz g5) (E7.out.trans (WR.bind_ok hm1 _))))))
            clear ky H6 e5 g5 hm1
            go_wp2_with (fail)
            go_roundw
            case rel => exact ⟨1, s5, h5, by go_num, hl1.out, HN⟩
            case measure => have := hl1.out; simp [intOf]; omega
      · have E6 := Lib.hid (E5.out.trans (by rw [if_pos hkp, ← saysone]))
        have hkz : (0 : Int) < (k : Int) := by omega
        have hmk := Lib.hid (show (k = most ↔ ((k : Int) == (most : Int)) = true) by rw [beq_iff_eq]; omega)
        have hkd := Lib.hid hkp
        clear hkp
        have ks := say_one H5.out (⟨#[44]⟩ : ByteArray) 9
        go_wp2_with (fail)
        go_at_call 73
        refine ks.mono ?_
        rintro e w4 hr
        cases hm0 : saysW [(⟨#[44]⟩ : ByteArray)] s2 with
        | out => exact absurd hm0 (says_out _ _)
        | bad q => rw [hm0] at hr; obtain ⟨rfl, g⟩ := hr; exact ⟨rfl, wres_bad (E6.out.trans (WR.bind_bad hm0 _)) (G5.out.trans he4.out g)⟩
        | ok s4 =>
          rw [hm0] at hr
          obtain ⟨rfl, h4, H6, e6, g6⟩ := hr
          have E7 := Lib.hid (E6.out.trans (WR.bind_ok hm0 _))
          have hL6 := Lib.hid (ls_up hL5.out H5.out.hz g6)
          have he6 := Lib.hid (hor he4.out G5.out.size e6)
          have G6 := Lib.hid (G5.out.trans he4.out g6)
          have HN6 := Lib.hid H6
          clear ks hm0 g6 e6 E6 H6
          by_cases hm : k = most
          · have E8 := Lib.hid (E7.out.trans (if_pos hm))
            have hmz := hmk.out.1 hm
            clear hm
            go_wp2_with (fail)
            go_at_call 83
            refine (refuse_w z _).mono ?_
            rintro e w5 ⟨rfl, g⟩
            exact ⟨rfl, wres_bad E8.out (G6.out.trans he6.out (Fr.below g))⟩
          · have E8 := Lib.hid (E7.out.trans (if_neg hm))
            have hmz : ((k : Int) == (most : Int)) = false := by rw [beq_eq_false_iff_ne]; omega
            have hno := Lib.hid (show f L[k] s4 ≠ .out from fun e => HO.out (E8.out.trans (WR.bind_out e _)))
            have ky := A L[k] s4 m h4 w4 hxk hrk HN6.out hno.out
            clear hm
            go_wp2_with (fail)
            go_at_call 156
            refine ky.mono ?_
            rintro e w5 hr
            cases hm1 : f L[k] s4 with
            | out => exact absurd hm1 hno.out
            | bad q => rw [hm1] at hr; obtain ⟨rfl, g⟩ := hr; exact ⟨rfl, wres_bad (E8.out.trans (WR.bind_bad hm1 _)) (G6.out.trans he6.out g)⟩
            | ok s5 =>
              rw [hm1] at hr
              obtain ⟨rfl, h5, H6, e5, g5⟩ := hr
              have HN := Lib.hid (And.intro H6 (And.intro (hor he6.out G6.out.size e5) (And.intro (G6.out.trans he6.out g5) (And.intro (ls_up hL6.out HN6.out.hz g5) (E8.out.trans (WR.bind_ok hm1 _))))))
              clear ky H6 e5 g5 hm1
              go_wp2_with (fail)
              go_roundw
              case rel => exact ⟨k + 1, s5, h5, by go_num, hl1.out, HN⟩
              case measure => have := hl1.out; simp [intOf]; omega
    · have E5 := Lib.hid (E4.trans (listed_end (by omega) s2))
      have HN := Lib.hid (And.intro H4 (And.intro e4 G4))
      clear H4 e4 G4 hL4 E4
      go_wp2_with (fail)
      go_end0
      exact wres_ok E5.out HN.out.1 HN.out.2.1 HN.out.2.2

end Go.Proofs.YtablckajobefeaaGreatDoor.S
/-
  The writer's args, function: walks. Generated: gen_writ.py.
-/
namespace Go.Proofs.YtablckajobefeaaGreatDoor.S
open Go.RowKit Fl

theorem WR.b1_ok {a : WR} {s : Wr} (e : a = .ok s) (f : Wr → WR) : (a).bind f = (f s) := by rw [e]; rfl
theorem WR.b1_bad {a : WR} {k : Int} (e : a = .bad k) (f : Wr → WR) : (a).bind f = .bad k := by rw [e]; rfl
theorem WR.b1_out {a : WR} (e : a = .out) (f : Wr → WR) : (a).bind f = .out := by rw [e]; rfl
theorem WR.b2_ok {a : WR} {s : Wr} (e : a = .ok s) (f : Wr → WR) (g : Wr → WR) : ((a).bind f).bind g = ((f s)).bind g := by rw [e]; rfl
theorem WR.b2_bad {a : WR} {k : Int} (e : a = .bad k) (f : Wr → WR) (g : Wr → WR) : ((a).bind f).bind g = .bad k := by rw [e]; rfl
theorem WR.b2_out {a : WR} (e : a = .out) (f : Wr → WR) (g : Wr → WR) : ((a).bind f).bind g = .out := by rw [e]; rfl
theorem WR.b3_ok {a : WR} {s : Wr} (e : a = .ok s) (f : Wr → WR) (g : Wr → WR) (h : Wr → WR) : (((a).bind f).bind g).bind h = (((f s)).bind g).bind h := by rw [e]; rfl
theorem WR.b3_bad {a : WR} {k : Int} (e : a = .bad k) (f : Wr → WR) (g : Wr → WR) (h : Wr → WR) : (((a).bind f).bind g).bind h = .bad k := by rw [e]; rfl
theorem kids_few {x : Tr} (h : RowT x = true) : x.kids.length ≤ 16384 := by
  have h := (rowT_kids h).1
  unfold kidsB at h
  split at h
  · exact of_decide_eq_true h
  split at h
  · rw [Bool.and_eq_true] at h; exact of_decide_eq_true h.2
  split at h
  · have := eq_of_beq h; omega
  split at h
  · have := of_decide_eq_true h; omega
  split at h
  · have := eq_of_beq h; omega
  split at h
  · have := eq_of_beq h; omega
  split at h
  · rw [Bool.and_eq_true] at h; have := of_decide_eq_true h.2; omega
  split at h
  · have := eq_of_beq h; omega
  · exact absurd h (by decide)
theorem kids_cap {w : World} {ok : Nat → Prop} {K : Option Addr} {ck n : Nat} {x : Tr} (hK : KidsI w ok K ck (intsI (KidsT (n + 1) x.kids))) : x.kids.length ≤ ck := by
  have := hK.1
  unfold intsI at this
  rwa [List.length_map, kidsT_len] at this
theorem ls_nil {z : Wz} {w : World} {K : Option Addr} {L : List Tr} (h : L.length = 0) : LsT z w K L := by
  refine ⟨[], h.symm, fun hp => absurd hp (by decide), fun i hi => by omega⟩
set_option maxHeartbeats 8000000 in
set_option maxRecDepth 100000 in
theorem ww_args {z : Wz} {r : Wm → Tr → Wr → WR} (A : AllWr z r) : ByNodeP hasKid z 158 (wstep r .args) := by
  intro x s0 n h0 w K ck hP hx hrow hK0 H0 ho
  have _ := A
  have _ := And.intro hx hrow
  generalize hR : wstep r .args x s0 = R at ho ⊢
  have HO := Lib.hid ho
  dsimp only [wstep] at hR
  have E := Lib.hid hR.symm
  clear hR ho
  have hst := store_f
  have hP : 0 < x.kids.length := hP
  have hfew : x.kids.length ≤ 16384 := kids_few hrow
  obtain ⟨ka, rfl⟩ := kids_addr hK0 (by exact hP)
  have S := Lib.hid (st_begin (ck := ck) (n := n) (x := x) H0 (.inl rfl) (Fr.refl _ _ _) hK0)
  clear H0 hK0
  unfold nodeV
  go_enter Tryz.func158, Tryz.ntmps158
  go_upto_region 1 with (fail)
  generalize w.alloc (.cells #[.int .u8 (x.kind : Int), .int .i64 x.pos, .string x.text, .float .f64 x.num, .slice (some ka) x.kids.length ck] 44) = W at S ⊢
  obtain ⟨d0, d1, d2, d3, d4⟩ := nc5 S.out.blk
  have hnl := lt_of_blk S.out.blk
  go_wp2_with (fail)
  go_at_call 73
  refine (say_one S.out.H (⟨#[40]⟩ : ByteArray) 9).mono ?_
  rintro e w1 hr
  cases hm : saysW [(⟨#[40]⟩ : ByteArray)] s0 with
  | out => exact absurd hm (says_out _ _)
  | bad u => rw [hm] at hr; obtain ⟨rfl, g⟩ := hr; exact ⟨rfl, wres_bad (E.out.trans (WR.b1_bad hm _)) (st_bad S.out g)⟩
  | ok s1 =>
    rw [hm] at hr
    obtain ⟨rfl, h1, H, e1, g⟩ := hr
    have E := Lib.hid (E.out.trans (WR.b1_ok hm _))
    have S := Lib.hid (st_next S.out H e1 g)
    clear H e1 g hm
    obtain ⟨d0, d1, d2, d3, d4⟩ := nc5 S.out.blk
    have hnl := lt_of_blk S.out.blk
    have hL := Lib.hid (ls_drop (ls_all S.out.kids hx hrow) 1 hP)
    have hln : (x.kids.drop 1).length = x.kids.length - 1 := by simp
    have hlz : (1 : Int) ≤ (x.kids.length : Int) := by omega
    have hcap := kids_cap S.out.kids
    have hno := Lib.hid (show listedW (r .value) 64 0 (x.kids.drop 1) s1 ≠ .out from fun e => HO.out (E.out.trans (WR.bind_out e _)))
    have key : ∀ K2 cap2, LsT z w1 K2 ((x.kids.drop 1)) → Calls Tryz.prog 112 #[.pointer (some ⟨z.b, 0, none⟩), .slice K2 ((x.kids.drop 1)).length cap2, .int .i64 64, .func (.func 77) #[.pointer (some ⟨z.b, 0, none⟩)] #[]] w1 (WRes z _ w1 (listedW (r .value) 64 0 (x.kids.drop 1) s1)) := fun K2 cap2 hK2 => wlisted_value A.value (cap := cap2) (most := 64) hK2 (by first | assumption | (simp; omega)) (by decide) S.out.H hno.out
    rw [hln] at key
    go_wp2_with (fail)
    all_goals
      go_at_call 112
      refine (key _ _ (by first | exact hL.out | exact ls_nil (by simp; omega))).mono ?_
      rintro e w2 hr
      cases hm : listedW (r .value) 64 0 (x.kids.drop 1) s1 with
      | out => exact absurd hm hno.out
      | bad u => rw [hm] at hr; obtain ⟨rfl, g⟩ := hr; exact ⟨rfl, wres_bad (E.out.trans (WR.b1_bad hm _)) (st_bad S.out g)⟩
      | ok s2 =>
        rw [hm] at hr
        obtain ⟨rfl, h2, H, e1, g⟩ := hr
        have E := Lib.hid (E.out.trans (WR.b1_ok hm _))
        have S := Lib.hid (st_next S.out H e1 g)
        clear H e1 g hm
        obtain ⟨d0, d1, d2, d3, d4⟩ := nc5 S.out.blk
        have hnl := lt_of_blk S.out.blk
        go_wp2_with (fail)
        go_at_call 73
        refine (say_one S.out.H (⟨#[41]⟩ : ByteArray) 9).mono ?_
        rintro e w3 hr
        cases hm : saysW [(⟨#[41]⟩ : ByteArray)] s2 with
        | out => exact absurd hm (says_out _ _)
        | bad u => rw [hm] at hr; obtain ⟨rfl, g⟩ := hr; exact ⟨rfl, wres_bad (E.out.trans hm) (st_bad S.out g)⟩
        | ok s3 =>
          rw [hm] at hr
          obtain ⟨rfl, h3, H, e1, g⟩ := hr
          have E := Lib.hid (E.out.trans hm)
          have S := Lib.hid (st_next S.out H e1 g)
          clear H e1 g hm
          go_wp2_with (fail)
          go_end0
          exact st_fin S.out E.out
set_option maxHeartbeats 8000000 in
set_option maxRecDepth 100000 in
theorem ww_function {z : Wz} {r : Wm → Tr → Wr → WR} (A : AllWr z r) : ByNodeP hasKid z 76 (wstep r .function) := by
  intro x s0 n h0 w K ck hP hx hrow hK0 H0 ho
  have _ := A
  have _ := And.intro hx hrow
  generalize hR : wstep r .function x s0 = R at ho ⊢
  have HO := Lib.hid ho
  dsimp only [wstep] at hR
  have E := Lib.hid hR.symm
  clear hR ho
  have hst := store_f
  have hP0 := hP
  have hP : 0 < x.kids.length := hP
  have hfew : x.kids.length ≤ 16384 := kids_few hrow
  obtain ⟨last, hlast⟩ : ∃ last, x.kids.length = last + 1 := ⟨x.kids.length - 1, by omega⟩
  have hli : last < x.kids.length := by omega
  rw [show x.kids.length - 1 = last by omega] at E
  have HLA := Lib.hid hlast
  have hlf : last ≤ 16384 := by omega
  clear hlast hfew hP
  obtain ⟨ka, rfl⟩ := kids_addr hK0 (by exact hP0)
  have S := Lib.hid (st_begin (ck := ck) (n := n) (x := x) H0 (.inl rfl) (Fr.refl _ _ _) hK0)
  clear H0 hK0
  unfold nodeV
  go_enter Tryz.func76, Tryz.ntmps76
  go_upto_region 1 with (fail)
  generalize w.alloc (.cells #[.int .u8 (x.kind : Int), .int .i64 x.pos, .string x.text, .float .f64 x.num, .slice (some ka) x.kids.length ck] 44) = W at S ⊢
  obtain ⟨d0, d1, d2, d3, d4⟩ := nc5 S.out.blk
  have hnl := lt_of_blk S.out.blk
  rw [HLA.out] at d4
  go_wp2_with (fail)
  go_at_call 73
  refine (say_one S.out.H (⟨#[40]⟩ : ByteArray) 9).mono ?_
  rintro e w1 hr
  cases hm : saysW [(⟨#[40]⟩ : ByteArray)] s0 with
  | out => exact absurd hm (says_out _ _)
  | bad u => rw [hm] at hr; obtain ⟨rfl, g⟩ := hr; exact ⟨rfl, wres_bad (E.out.trans (WR.b1_bad hm _)) (st_bad S.out g)⟩
  | ok s1 =>
    rw [hm] at hr
    obtain ⟨rfl, h1, H, e1, g⟩ := hr
    have E := Lib.hid (E.out.trans (WR.b1_ok hm _))
    have S := Lib.hid (st_next S.out H e1 g)
    clear H e1 g hm
    obtain ⟨d0, d1, d2, d3, d4⟩ := nc5 S.out.blk
    have hnl := lt_of_blk S.out.blk
    rw [HLA.out] at d4
    have hL := Lib.hid (ls_take (ls_all S.out.kids hx hrow) last)
    have hln : (x.kids.take last).length = last := by simp; omega
    have hcap := kids_cap S.out.kids
    rw [HLA.out] at hcap
    have hno := Lib.hid (show listedW paramW 64 0 (x.kids.take last) s1 ≠ .out from fun e => HO.out (E.out.trans (WR.bind_out e _)))
    have key : ∀ K2 cap2, LsT z w1 K2 ((x.kids.take last)) → Calls Tryz.prog 112 #[.pointer (some ⟨z.b, 0, none⟩), .slice K2 ((x.kids.take last)).length cap2, .int .i64 64, .func (.func 113) #[.pointer (some ⟨z.b, 0, none⟩)] #[]] w1 (WRes z _ w1 (listedW paramW 64 0 (x.kids.take last) s1)) := fun K2 cap2 hK2 => wlisted_param (param_w z) (cap := cap2) (most := 64) hK2 (by first | assumption | (simp; omega)) (by decide) S.out.H hno.out
    rw [hln] at key
    go_wp2_with (fail)
    go_at_call 112
    refine (key _ _ (hL.out)).mono ?_
    rintro e w2 hr
    cases hm : listedW paramW 64 0 (x.kids.take last) s1 with
    | out => exact absurd hm hno.out
    | bad u => rw [hm] at hr; obtain ⟨rfl, g⟩ := hr; exact ⟨rfl, wres_bad (E.out.trans (WR.b1_bad hm _)) (st_bad S.out g)⟩
    | ok s2 =>
      rw [hm] at hr
      obtain ⟨rfl, h2, H, e1, g⟩ := hr
      have E := Lib.hid (E.out.trans (WR.b1_ok hm _))
      have S := Lib.hid (st_next S.out H e1 g)
      clear H e1 g hm
      obtain ⟨d0, d1, d2, d3, d4⟩ := nc5 S.out.blk
      have hnl := lt_of_blk S.out.blk
      rw [HLA.out] at d4
      go_wp2_with (fail)
      go_at_call 73
      refine (say_one S.out.H (⟨#[41]⟩ : ByteArray) 9).mono ?_
      rintro e w3 hr
      cases hm : saysW [(⟨#[41]⟩ : ByteArray)] s2 with
      | out => exact absurd hm (says_out _ _)
      | bad u => rw [hm] at hr; obtain ⟨rfl, g⟩ := hr; exact ⟨rfl, wres_bad (E.out.trans (WR.b1_bad hm _)) (st_bad S.out g)⟩
      | ok s3 =>
        rw [hm] at hr
        obtain ⟨rfl, h3, H, e1, g⟩ := hr
        have E := Lib.hid (E.out.trans (WR.b1_ok hm _))
        have S := Lib.hid (st_next S.out H e1 g)
        clear H e1 g hm
        obtain ⟨d0, d1, d2, d3, d4⟩ := nc5 S.out.blk
        have hnl := lt_of_blk S.out.blk
        obtain ⟨hal, kclast, hxklast⟩ := st_kid S.out hx (i := last) (by first | assumption | omega)
        rw [HLA.out] at d4
        go_wp2_with (fail)
        have hno := Lib.hid (show r .block (x.kid last) s3 ≠ .out from fun e => HO.out (E.out.trans e))
        go_at_call 72
        refine (A.block (x.kid last) s3 _ _ _ hxklast (rowT_kid hrow (by first | assumption | omega)) S.out.H hno.out).mono ?_
        rintro e w4 hr
        cases hm : r .block (x.kid last) s3 with
        | out => exact absurd hm hno.out
        | bad u => rw [hm] at hr; obtain ⟨rfl, g⟩ := hr; exact ⟨rfl, wres_bad (E.out.trans hm) (st_bad S.out g)⟩
        | ok s4 =>
          rw [hm] at hr
          obtain ⟨rfl, h4, H, e1, g⟩ := hr
          have E := Lib.hid (E.out.trans hm)
          have S := Lib.hid (st_next S.out H e1 g)
          clear H e1 g hm
          go_wp2_with (fail)
          go_end0
          exact st_fin S.out E.out
end Go.Proofs.YtablckajobefeaaGreatDoor.S
/-
  The writer's chain, sides: walks. Generated: gen_writ.py.
-/
namespace Go.Proofs.YtablckajobefeaaGreatDoor.S
open Go.RowKit Fl

theorem kids_len34 {x : Tr} (h : RowT x = true) (hk : x.kind = 34) : x.kids.length = 1 := kids_two h 34 hk 1 fun _ hm => eq_of_beq hm
theorem kids_len35 {x : Tr} (h : RowT x = true) (hk : x.kind = 35) : x.kids.length = 2 := kids_two h 35 hk 2 fun _ hm => eq_of_beq hm
theorem kids_len38 {x : Tr} (h : RowT x = true) (hk : x.kind = 38) : x.kids.length = 1 := kids_two h 38 hk 1 fun _ hm => eq_of_beq hm
theorem kids_len39 {x : Tr} (h : RowT x = true) (hk : x.kind = 39) : x.kids.length = 2 := kids_two h 39 hk 2 fun _ hm => eq_of_beq hm
theorem kids_len40 {x : Tr} (h : RowT x = true) (hk : x.kind = 40) : x.kids.length = 2 := kids_two h 40 hk 2 fun _ hm => eq_of_beq hm
theorem kids_len41 {x : Tr} (h : RowT x = true) (hk : x.kind = 41) : x.kids.length = 2 := kids_two h 41 hk 2 fun _ hm => eq_of_beq hm
theorem kids_len42 {x : Tr} (h : RowT x = true) (hk : x.kind = 42) : x.kids.length = 3 := kids_two h 42 hk 3 fun _ hm => eq_of_beq hm
theorem kids_len43 {x : Tr} (h : RowT x = true) (hk : x.kind = 43) : x.kids.length = 2 := kids_two h 43 hk 2 fun _ hm => eq_of_beq hm
theorem kids_len8 {x : Tr} (h : RowT x = true) (hk : x.kind = 8) : x.kids.length = 2 := kids_two h 8 hk 2 fun _ hm => eq_of_beq hm
theorem kids_len6 {x : Tr} (h : RowT x = true) (hk : x.kind = 6) : x.kids.length = 1 := kids_two h 6 hk 1 fun _ hm => eq_of_beq hm
theorem kids_len9 {x : Tr} (h : RowT x = true) (hk : x.kind = 9) : x.kids.length = 3 := kids_two h 9 hk 3 fun _ hm => eq_of_beq hm
theorem kids_len10 {x : Tr} (h : RowT x = true) (hk : x.kind = 10) : x.kids.length = 3 := kids_two h 10 hk 3 fun _ hm => eq_of_beq hm
theorem kids_len29 {x : Tr} (h : RowT x = true) (hk : x.kind = 29) : x.kids.length = 2 := kids_two h 29 hk 2 fun _ hm => eq_of_beq hm
theorem kids_len30 {x : Tr} (h : RowT x = true) (hk : x.kind = 30) : x.kids.length = 2 := kids_two h 30 hk 2 fun _ hm => eq_of_beq hm
theorem kids_len31 {x : Tr} (h : RowT x = true) (hk : x.kind = 31) : x.kids.length = 2 := kids_two h 31 hk 2 fun _ hm => eq_of_beq hm
theorem kids_len32 {x : Tr} (h : RowT x = true) (hk : x.kind = 32) : x.kids.length = 1 := kids_two h 32 hk 1 fun _ hm => eq_of_beq hm
theorem kids_len17 {x : Tr} (h : RowT x = true) (hk : x.kind = 17) : x.kids.length = 1 := kids_two h 17 hk 1 fun _ hm => eq_of_beq hm
theorem kids_len18 {x : Tr} (h : RowT x = true) (hk : x.kind = 18) : x.kids.length = 1 := kids_two h 18 hk 1 fun _ hm => eq_of_beq hm
theorem kids_pos34 {x : Tr} (h : RowT x = true) (hk : x.kind = 34) : 0 < x.kids.length := by rw [kids_len34 h hk]; decide
theorem kids_pos35 {x : Tr} (h : RowT x = true) (hk : x.kind = 35) : 0 < x.kids.length := by rw [kids_len35 h hk]; decide
theorem kids_pos17 {x : Tr} (h : RowT x = true) (hk : x.kind = 17) : 0 < x.kids.length := by rw [kids_len17 h hk]; decide
theorem kids_pos18 {x : Tr} (h : RowT x = true) (hk : x.kind = 18) : 0 < x.kids.length := by rw [kids_len18 h hk]; decide
theorem kids_pos36 {x : Tr} (h : RowT x = true) (hk : x.kind = 36) : 0 < x.kids.length := by
  have h1 := (rowT_kids h).1
  rw [hk] at h1
  have h2 : (decide (1 ≤ x.kids.length) && decide (x.kids.length ≤ 16384)) = true := h1
  rw [Bool.and_eq_true] at h2
  exact of_decide_eq_true h2.1
theorem kids_pos37 {x : Tr} (h : RowT x = true) (hk : x.kind = 37) : 0 < x.kids.length := by
  have h1 := (rowT_kids h).1
  rw [hk] at h1
  have h2 : (decide (1 ≤ x.kids.length) && decide (x.kids.length ≤ 16384)) = true := h1
  rw [Bool.and_eq_true] at h2
  exact of_decide_eq_true h2.1
theorem kids_pos5 {x : Tr} (h : RowT x = true) (hk : x.kind = 5) : 0 < x.kids.length := by
  have h1 := (rowT_kids h).1
  rw [hk] at h1
  have h2 : (decide (1 ≤ x.kids.length) && decide (x.kids.length ≤ 16384)) = true := h1
  rw [Bool.and_eq_true] at h2
  exact of_decide_eq_true h2.1
theorem kids_pos27 {x : Tr} (h : RowT x = true) (hk : x.kind = 27) : 0 < x.kids.length := by
  have h1 := (rowT_kids h).1
  rw [hk] at h1
  have h2 : (decide (1 ≤ x.kids.length) && decide (x.kids.length ≤ 16384)) = true := h1
  rw [Bool.and_eq_true] at h2
  exact of_decide_eq_true h2.1
theorem word_out (c : ByteArray) (s : Wr) : wordW c s ≠ .out := by
  unfold wordW
  split
  · rw [← saysone]; exact says_out _ _
  · exact name_out _ _
set_option maxHeartbeats 8000000 in
set_option maxRecDepth 100000 in
theorem ww_chain34 {z : Wz} {r : Wm → Tr → Wr → WR} (A : AllWr z r) {x : Tr} {s0 : Wr} {n h0 : Nat} {w : World} {K : Option Addr} {ck : Nat} {q : Nat} (hx : SubT z.N n x) (hrow : RowT x = true) (hK0 : KidsI w (fun k => k < z.b) K ck (intsI (KidsT (n + 1) x.kids))) (H0 : WA z s0 h0 w) (ho : wstep r (.chain q) x s0 ≠ .out) (hq : q ≤ 20) (hk : x.kind = 34) : Calls Tryz.prog 157 #[.pointer (some ⟨z.b, 0, none⟩), nodeV x K ck, .int .i64 (q : Int)] w (WRes z h0 w (wstep r (.chain q) x s0)) := by
  have _ := A
  have _ := And.intro hx hrow
  generalize hR : wstep r (.chain q) x s0 = R at ho ⊢
  have HO := Lib.hid ho
  dsimp only [wstep] at hR
  rw [hk] at hR
  have E := Lib.hid hR.symm
  clear hR ho
  have hst := store_f
  have hq2 : max q 12 ≤ 20 := by omega
  have hmx : max (q : Int) 12 = ((max q 12 : Nat) : Int) := by omega
  have hpos : 0 < x.kids.length := kids_pos34 hrow hk
  have hlen : x.kids.length = 1 := kids_len34 hrow hk
  have HLA := Lib.hid hlen
  have hi0 : 0 < x.kids.length := by omega
  clear hlen
  have HKD := Lib.hid hk
  clear hk
  generalize max q 12 = q2 at *
  obtain ⟨ka, rfl⟩ := kids_addr hK0 (by exact hpos)
  have S := Lib.hid (st_begin (ck := ck) (n := n) (x := x) H0 (.inl rfl) (Fr.refl _ _ _) hK0)
  clear H0 hK0
  unfold nodeV
  go_enter Tryz.func157, Tryz.ntmps157
  go_upto_region 1 with (fail)
  generalize w.alloc (.cells #[.int .u8 (x.kind : Int), .int .i64 x.pos, .string x.text, .float .f64 x.num, .slice (some ka) x.kids.length ck] 44) = W at S ⊢
  obtain ⟨d0, d1, d2, d3, d4⟩ := nc5 S.out.blk
  have hnl := lt_of_blk S.out.blk
  obtain ⟨hal, kc0, hxk0⟩ := st_kid S.out hx (i := 0) (by first | assumption | omega)
  replace kc0 : W.cell? ka = some (.int .i64 (kidNo n x 0 : Nat)) := kc0
  rw [HKD.out] at d0
  rw [HLA.out] at d4
  go_wp2_with (fail)
  have hno := Lib.hid (show r (.held q2) (x.kid 0) s0 ≠ .out from fun e => HO.out (E.out.trans (WR.b1_out e _)))
  go_at_call 114
  refine (A.held q2 (x.kid 0) s0 _ _ _ hq2 hxk0 (rowT_kid hrow (by first | assumption | omega)) S.out.H hno.out).mono ?_
  rintro e w1 hr
  dsimp only at hr
  cases hm : r (.held q2) (x.kid 0) s0 with
  | out => exact absurd hm hno.out
  | bad u => rw [hm] at hr; obtain ⟨rfl, g⟩ := hr; exact ⟨rfl, wres_bad (E.out.trans (WR.b1_bad hm _)) (st_bad S.out g)⟩
  | ok s1 =>
    rw [hm] at hr
    obtain ⟨rfl, h1, H, e1, g⟩ := hr
    have E := Lib.hid (E.out.trans (WR.b1_ok hm _))
    have S := Lib.hid (st_next S.out H e1 g)
    clear H e1 g hm
    obtain ⟨d0, d1, d2, d3, d4⟩ := nc5 S.out.blk
    have hnl := lt_of_blk S.out.blk
    rw [HKD.out] at d0
    rw [HLA.out] at d4
    go_wp2_with (fail)
    go_at_call 73
    refine (say_one S.out.H (⟨#[46]⟩ : ByteArray) 9).mono ?_
    rintro e w2 hr
    cases hm : saysW [(⟨#[46]⟩ : ByteArray)] s1 with
    | out => exact absurd hm (says_out _ _)
    | bad u => rw [hm] at hr; obtain ⟨rfl, g⟩ := hr; exact ⟨rfl, wres_bad (E.out.trans (WR.b1_bad hm _)) (st_bad S.out g)⟩
    | ok s2 =>
      rw [hm] at hr
      obtain ⟨rfl, h2, H, e1, g⟩ := hr
      have E := Lib.hid (E.out.trans (WR.b1_ok hm _))
      have S := Lib.hid (st_next S.out H e1 g)
      clear H e1 g hm
      obtain ⟨d0, d1, d2, d3, d4⟩ := nc5 S.out.blk
      have hnl := lt_of_blk S.out.blk
      rw [HKD.out] at d0
      rw [HLA.out] at d4
      go_wp2_with (fail)
      go_at_call 176
      refine (word_w S.out.H x.text).mono ?_
      rintro e w3 hr
      cases hm : wordW x.text s2 with
      | out => exact absurd hm (word_out _ _)
      | bad u => rw [hm] at hr; obtain ⟨rfl, g⟩ := hr; exact ⟨rfl, wres_bad (E.out.trans hm) (st_bad S.out g)⟩
      | ok s3 =>
        rw [hm] at hr
        obtain ⟨rfl, h3, H, e1, g⟩ := hr
        have E := Lib.hid (E.out.trans hm)
        have S := Lib.hid (st_next S.out H e1 g)
        clear H e1 g hm
        go_wp2_with (fail)
        go_end0
        exact st_fin S.out E.out
set_option maxHeartbeats 8000000 in
set_option maxRecDepth 100000 in
theorem ww_chain35 {z : Wz} {r : Wm → Tr → Wr → WR} (A : AllWr z r) {x : Tr} {s0 : Wr} {n h0 : Nat} {w : World} {K : Option Addr} {ck : Nat} {q : Nat} (hx : SubT z.N n x) (hrow : RowT x = true) (hK0 : KidsI w (fun k => k < z.b) K ck (intsI (KidsT (n + 1) x.kids))) (H0 : WA z s0 h0 w) (ho : wstep r (.chain q) x s0 ≠ .out) (hq : q ≤ 20) (hk : x.kind = 35) : Calls Tryz.prog 157 #[.pointer (some ⟨z.b, 0, none⟩), nodeV x K ck, .int .i64 (q : Int)] w (WRes z h0 w (wstep r (.chain q) x s0)) := by
  have _ := A
  have _ := And.intro hx hrow
  generalize hR : wstep r (.chain q) x s0 = R at ho ⊢
  have HO := Lib.hid ho
  dsimp only [wstep] at hR
  rw [hk] at hR
  have E := Lib.hid hR.symm
  clear hR ho
  have hst := store_f
  have hq2 : max q 12 ≤ 20 := by omega
  have hmx : max (q : Int) 12 = ((max q 12 : Nat) : Int) := by omega
  have hpos : 0 < x.kids.length := kids_pos35 hrow hk
  have hlen : x.kids.length = 2 := kids_len35 hrow hk
  have HLA := Lib.hid hlen
  have hi0 : 0 < x.kids.length := by omega
  have hi1 : 1 < x.kids.length := by omega
  clear hlen
  have HKD := Lib.hid hk
  clear hk
  generalize max q 12 = q2 at *
  obtain ⟨ka, rfl⟩ := kids_addr hK0 (by exact hpos)
  have S := Lib.hid (st_begin (ck := ck) (n := n) (x := x) H0 (.inl rfl) (Fr.refl _ _ _) hK0)
  clear H0 hK0
  unfold nodeV
  go_enter Tryz.func157, Tryz.ntmps157
  go_upto_region 1 with (fail)
  generalize w.alloc (.cells #[.int .u8 (x.kind : Int), .int .i64 x.pos, .string x.text, .float .f64 x.num, .slice (some ka) x.kids.length ck] 44) = W at S ⊢
  obtain ⟨d0, d1, d2, d3, d4⟩ := nc5 S.out.blk
  have hnl := lt_of_blk S.out.blk
  obtain ⟨hal, kc0, hxk0⟩ := st_kid S.out hx (i := 0) (by first | assumption | omega)
  replace kc0 : W.cell? ka = some (.int .i64 (kidNo n x 0 : Nat)) := kc0
  rw [HKD.out] at d0
  rw [HLA.out] at d4
  go_wp2_with (fail)
  have hno := Lib.hid (show r (.held q2) (x.kid 0) s0 ≠ .out from fun e => HO.out (E.out.trans (WR.b1_out e _)))
  go_at_call 114
  refine (A.held q2 (x.kid 0) s0 _ _ _ hq2 hxk0 (rowT_kid hrow (by first | assumption | omega)) S.out.H hno.out).mono ?_
  rintro e w1 hr
  dsimp only at hr
  cases hm : r (.held q2) (x.kid 0) s0 with
  | out => exact absurd hm hno.out
  | bad u => rw [hm] at hr; obtain ⟨rfl, g⟩ := hr; exact ⟨rfl, wres_bad (E.out.trans (WR.b1_bad hm _)) (st_bad S.out g)⟩
  | ok s1 =>
    rw [hm] at hr
    obtain ⟨rfl, h1, H, e1, g⟩ := hr
    have E := Lib.hid (E.out.trans (WR.b1_ok hm _))
    have S := Lib.hid (st_next S.out H e1 g)
    clear H e1 g hm
    obtain ⟨d0, d1, d2, d3, d4⟩ := nc5 S.out.blk
    have hnl := lt_of_blk S.out.blk
    obtain ⟨hal, kc1, hxk1⟩ := st_kid S.out hx (i := 1) (by first | assumption | omega)
    replace kc1 : w1.cell? ⟨ka.block, ka.off + 1, none⟩ = some (.int .i64 (kidNo n x 1 : Nat)) := kc1
    rw [HKD.out] at d0
    rw [HLA.out] at d4
    go_wp2_with (fail)
    go_at_call 73
    refine (say_one S.out.H (⟨#[91]⟩ : ByteArray) 9).mono ?_
    rintro e w2 hr
    cases hm : saysW [(⟨#[91]⟩ : ByteArray)] s1 with
    | out => exact absurd hm (says_out _ _)
    | bad u => rw [hm] at hr; obtain ⟨rfl, g⟩ := hr; exact ⟨rfl, wres_bad (E.out.trans (WR.b1_bad hm _)) (st_bad S.out g)⟩
    | ok s2 =>
      rw [hm] at hr
      obtain ⟨rfl, h2, H, e1, g⟩ := hr
      have E := Lib.hid (E.out.trans (WR.b1_ok hm _))
      have S := Lib.hid (st_next S.out H e1 g)
      clear H e1 g hm
      obtain ⟨d0, d1, d2, d3, d4⟩ := nc5 S.out.blk
      have hnl := lt_of_blk S.out.blk
      obtain ⟨hal, kc1, hxk1⟩ := st_kid S.out hx (i := 1) (by first | assumption | omega)
      replace kc1 : w2.cell? ⟨ka.block, ka.off + 1, none⟩ = some (.int .i64 (kidNo n x 1 : Nat)) := kc1
      rw [HKD.out] at d0
      rw [HLA.out] at d4
      go_wp2_with (fail)
      have hno := Lib.hid (show r .value (x.kid 1) s2 ≠ .out from fun e => HO.out (E.out.trans (WR.b1_out e _)))
      go_at_call 77
      refine (A.value (x.kid 1) s2 _ _ _ hxk1 (rowT_kid hrow (by first | assumption | omega)) S.out.H hno.out).mono ?_
      rintro e w3 hr
      cases hm : r .value (x.kid 1) s2 with
      | out => exact absurd hm hno.out
      | bad u => rw [hm] at hr; obtain ⟨rfl, g⟩ := hr; exact ⟨rfl, wres_bad (E.out.trans (WR.b1_bad hm _)) (st_bad S.out g)⟩
      | ok s3 =>
        rw [hm] at hr
        obtain ⟨rfl, h3, H, e1, g⟩ := hr
        have E := Lib.hid (E.out.trans (WR.b1_ok hm _))
        have S := Lib.hid (st_next S.out H e1 g)
        clear H e1 g hm
        obtain ⟨d0, d1, d2, d3, d4⟩ := nc5 S.out.blk
        have hnl := lt_of_blk S.out.blk
        rw [HKD.out] at d0
        rw [HLA.out] at d4
        go_wp2_with (fail)
        go_at_call 73
        refine (say_one S.out.H (⟨#[93]⟩ : ByteArray) 9).mono ?_
        rintro e w4 hr
        cases hm : saysW [(⟨#[93]⟩ : ByteArray)] s3 with
        | out => exact absurd hm (says_out _ _)
        | bad u => rw [hm] at hr; obtain ⟨rfl, g⟩ := hr; exact ⟨rfl, wres_bad (E.out.trans hm) (st_bad S.out g)⟩
        | ok s4 =>
          rw [hm] at hr
          obtain ⟨rfl, h4, H, e1, g⟩ := hr
          have E := Lib.hid (E.out.trans hm)
          have S := Lib.hid (st_next S.out H e1 g)
          clear H e1 g hm
          go_wp2_with (fail)
          go_end0
          exact st_fin S.out E.out
set_option maxHeartbeats 8000000 in
set_option maxRecDepth 100000 in
theorem ww_chain36 {z : Wz} {r : Wm → Tr → Wr → WR} (A : AllWr z r) {x : Tr} {s0 : Wr} {n h0 : Nat} {w : World} {K : Option Addr} {ck : Nat} {q : Nat} (hx : SubT z.N n x) (hrow : RowT x = true) (hK0 : KidsI w (fun k => k < z.b) K ck (intsI (KidsT (n + 1) x.kids))) (H0 : WA z s0 h0 w) (ho : wstep r (.chain q) x s0 ≠ .out) (hq : q ≤ 20) (hk : x.kind = 36) : Calls Tryz.prog 157 #[.pointer (some ⟨z.b, 0, none⟩), nodeV x K ck, .int .i64 (q : Int)] w (WRes z h0 w (wstep r (.chain q) x s0)) := by
  have _ := A
  have _ := And.intro hx hrow
  generalize hR : wstep r (.chain q) x s0 = R at ho ⊢
  have HO := Lib.hid ho
  dsimp only [wstep] at hR
  rw [hk] at hR
  have E := Lib.hid hR.symm
  clear hR ho
  have hst := store_f
  have hq2 : max q 12 ≤ 20 := by omega
  have hmx : max (q : Int) 12 = ((max q 12 : Nat) : Int) := by omega
  have hpos : 0 < x.kids.length := kids_pos36 hrow hk
  have hfew : x.kids.length ≤ 16384 := kids_few hrow
  have HKD := Lib.hid hk
  clear hk
  generalize max q 12 = q2 at *
  obtain ⟨ka, rfl⟩ := kids_addr hK0 (by exact hpos)
  have S := Lib.hid (st_begin (ck := ck) (n := n) (x := x) H0 (.inl rfl) (Fr.refl _ _ _) hK0)
  clear H0 hK0
  unfold nodeV
  go_enter Tryz.func157, Tryz.ntmps157
  go_upto_region 1 with (fail)
  generalize w.alloc (.cells #[.int .u8 (x.kind : Int), .int .i64 x.pos, .string x.text, .float .f64 x.num, .slice (some ka) x.kids.length ck] 44) = W at S ⊢
  obtain ⟨d0, d1, d2, d3, d4⟩ := nc5 S.out.blk
  have hnl := lt_of_blk S.out.blk
  obtain ⟨hal, kc0, hxk0⟩ := st_kid S.out hx (i := 0) (by first | assumption | omega)
  replace kc0 : W.cell? ka = some (.int .i64 (kidNo n x 0 : Nat)) := kc0
  rw [HKD.out] at d0
  go_wp2_with (fail)
  have hno := Lib.hid (show r (.held q2) (x.kid 0) s0 ≠ .out from fun e => HO.out (E.out.trans (WR.b1_out e _)))
  go_at_call 114
  refine (A.held q2 (x.kid 0) s0 _ _ _ hq2 hxk0 (rowT_kid hrow (by first | assumption | omega)) S.out.H hno.out).mono ?_
  rintro e w1 hr
  dsimp only at hr
  cases hm : r (.held q2) (x.kid 0) s0 with
  | out => exact absurd hm hno.out
  | bad u => rw [hm] at hr; obtain ⟨rfl, g⟩ := hr; exact ⟨rfl, wres_bad (E.out.trans (WR.b1_bad hm _)) (st_bad S.out g)⟩
  | ok s1 =>
    rw [hm] at hr
    obtain ⟨rfl, h1, H, e1, g⟩ := hr
    have E := Lib.hid (E.out.trans (WR.b1_ok hm _))
    have S := Lib.hid (st_next S.out H e1 g)
    clear H e1 g hm
    obtain ⟨d0, d1, d2, d3, d4⟩ := nc5 S.out.blk
    have hnl := lt_of_blk S.out.blk
    rw [HKD.out] at d0
    go_wp2_with (fail)
    have hno := Lib.hid (show r .args x s1 ≠ .out from fun e => HO.out (E.out.trans e))
    have kn := A.args x s1 n _ _ (some ka) ck hpos hx hrow S.out.kids S.out.H hno.out
    rw [show nodeV x (some ka) ck = .agg #[.int .u8 36, .int .i64 x.pos, .string x.text, .float .f64 x.num, .slice (some ka) x.kids.length ck] by unfold nodeV; rw [HKD.out]; rfl] at kn
    go_at_call 158
    refine (kn).mono ?_
    rintro e w2 hr
    cases hm : r .args x s1 with
    | out => exact absurd hm hno.out
    | bad u => rw [hm] at hr; obtain ⟨rfl, g⟩ := hr; exact ⟨rfl, wres_bad (E.out.trans hm) (st_bad S.out g)⟩
    | ok s2 =>
      rw [hm] at hr
      obtain ⟨rfl, h2, H, e1, g⟩ := hr
      have E := Lib.hid (E.out.trans hm)
      have S := Lib.hid (st_next S.out H e1 g)
      clear H e1 g hm
      go_wp2_with (fail)
      go_end0
      exact st_fin S.out E.out
theorem ww_chain {z : Wz} {r : Wm → Tr → Wr → WR} (A : AllWr z r) : ByNode2P isChain z 157 (fun k => wstep r (.chain k)) := by
  intro q x s n h w K ck hq hP hx hrow hK H ho
  rcases hP with hk | hk | hk
  · exact ww_chain34 A hx hrow hK H ho hq hk
  · exact ww_chain35 A hx hrow hK H ho hq hk
  · exact ww_chain36 A hx hrow hK H ho hq hk
set_option maxHeartbeats 8000000 in
set_option maxRecDepth 100000 in
theorem ww_sides0 {z : Wz} {r : Wm → Tr → Wr → WR} (A : AllWr z r) {x : Tr} {s0 : Wr} {n h0 : Nat} {w : World} {K : Option Addr} {ck : Nat} {c : ByteArray} (hx : SubT z.N n x) (hrow : RowT x = true) (hK0 : KidsI w (fun k => k < z.b) K ck (intsI (KidsT (n + 1) x.kids))) (H0 : WA z s0 h0 w) (ho : wstep r (.sides c) x s0 ≠ .out) (hlen : x.kids.length = 2) : Calls Tryz.prog 159 #[.pointer (some ⟨z.b, 0, none⟩), nodeV x K ck, .string c] w (WRes z h0 w (wstep r (.sides c) x s0)) := by
  have _ := A
  have _ := And.intro hx hrow
  generalize hR : wstep r (.sides c) x s0 = R at ho ⊢
  have HO := Lib.hid ho
  dsimp only [wstep] at hR
  have E := Lib.hid hR.symm
  clear hR ho
  have hst := store_f
  have HLA := Lib.hid hlen
  have hi0 : 0 < x.kids.length := by omega
  have hi1 : 1 < x.kids.length := by omega
  clear hlen
  have hle := level_le c
  have hl20 : levelOf c ≤ 20 := by omega
  have hl21 : levelOf c + 1 ≤ 20 := by omega
  have klv := fun W => level_p c W
  generalize levelOf c = lv at *
  obtain ⟨ka, rfl⟩ := kids_addr hK0 (by assumption)
  have S := Lib.hid (st_begin (ck := ck) (n := n) (x := x) H0 (.inl rfl) (Fr.refl _ _ _) hK0)
  clear H0 hK0
  unfold nodeV
  go_enter Tryz.func159, Tryz.ntmps159
  go_upto_region 1 with (fail)
  generalize w.alloc (.cells #[.int .u8 (x.kind : Int), .int .i64 x.pos, .string x.text, .float .f64 x.num, .slice (some ka) x.kids.length ck] 44) = W at S ⊢
  obtain ⟨d0, d1, d2, d3, d4⟩ := nc5 S.out.blk
  have hnl := lt_of_blk S.out.blk
  obtain ⟨hal, kc0, hxk0⟩ := st_kid S.out hx (i := 0) (by first | assumption | omega)
  replace kc0 : W.cell? ka = some (.int .i64 (kidNo n x 0 : Nat)) := kc0
  rw [HLA.out] at d4
  go_wp2_with (go_at_call 154; refine (klv _).mono ?_; rintro e wl ⟨rfl, rfl⟩)
  have hno := Lib.hid (show r (.held lv) (x.kid 0) s0 ≠ .out from fun e => HO.out (E.out.trans (WR.b1_out e _)))
  go_at_call 114
  refine (A.held lv (x.kid 0) s0 _ _ _ hl20 hxk0 (rowT_kid hrow (by first | assumption | omega)) S.out.H hno.out).mono ?_
  rintro e w1 hr
  dsimp only at hr
  cases hm : r (.held lv) (x.kid 0) s0 with
  | out => exact absurd hm hno.out
  | bad u => rw [hm] at hr; obtain ⟨rfl, g⟩ := hr; exact ⟨rfl, wres_bad (E.out.trans (WR.b1_bad hm _)) (st_bad S.out g)⟩
  | ok s1 =>
    rw [hm] at hr
    obtain ⟨rfl, h1, H, e1, g⟩ := hr
    have E := Lib.hid (E.out.trans (WR.b1_ok hm _))
    have S := Lib.hid (st_next S.out H e1 g)
    clear H e1 g hm
    obtain ⟨d0, d1, d2, d3, d4⟩ := nc5 S.out.blk
    have hnl := lt_of_blk S.out.blk
    rw [HLA.out] at d4
    go_wp2_with (fail)
    go_at_call 73
    refine (say_one S.out.H c 9).mono ?_
    rintro e w2 hr
    cases hm : saysW [c] s1 with
    | out => exact absurd hm (says_out _ _)
    | bad u => rw [hm] at hr; obtain ⟨rfl, g⟩ := hr; exact ⟨rfl, wres_bad (E.out.trans (WR.b1_bad hm _)) (st_bad S.out g)⟩
    | ok s2 =>
      rw [hm] at hr
      obtain ⟨rfl, h2, H, e1, g⟩ := hr
      have E := Lib.hid (E.out.trans (WR.b1_ok hm _))
      have S := Lib.hid (st_next S.out H e1 g)
      clear H e1 g hm
      obtain ⟨d0, d1, d2, d3, d4⟩ := nc5 S.out.blk
      have hnl := lt_of_blk S.out.blk
      obtain ⟨hal, kc1, hxk1⟩ := st_kid S.out hx (i := 1) (by first | assumption | omega)
      replace kc1 : w2.cell? ⟨ka.block, ka.off + 1, none⟩ = some (.int .i64 (kidNo n x 1 : Nat)) := kc1
      rw [HLA.out] at d4
      go_wp2_with (fail)
      have hno := Lib.hid (show r (.held (lv + 1)) (x.kid 1) s2 ≠ .out from fun e => HO.out (E.out.trans e))
      go_at_call 114
      refine (A.held (lv + 1) (x.kid 1) s2 _ _ _ hl21 hxk1 (rowT_kid hrow (by first | assumption | omega)) S.out.H hno.out).mono ?_
      rintro e w3 hr
      dsimp only at hr
      cases hm : r (.held (lv + 1)) (x.kid 1) s2 with
      | out => exact absurd hm hno.out
      | bad u => rw [hm] at hr; obtain ⟨rfl, g⟩ := hr; exact ⟨rfl, wres_bad (E.out.trans hm) (st_bad S.out g)⟩
      | ok s3 =>
        rw [hm] at hr
        obtain ⟨rfl, h3, H, e1, g⟩ := hr
        have E := Lib.hid (E.out.trans hm)
        have S := Lib.hid (st_next S.out H e1 g)
        clear H e1 g hm
        go_wp2_with (fail)
        go_end0
        exact st_fin S.out E.out
theorem ww_sides {z : Wz} {r : Wm → Tr → Wr → WR} (A : AllWr z r) : BySign z (fun c => wstep r (.sides c)) :=
  fun _ _ _ _ _ _ _ _ hP hx hrow hK H ho => ww_sides0 A hx hrow hK H ho hP
end Go.Proofs.YtablckajobefeaaGreatDoor.S
