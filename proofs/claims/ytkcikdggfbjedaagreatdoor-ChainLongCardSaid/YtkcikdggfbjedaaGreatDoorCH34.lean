/-
  ChainLong: so many proxies in one another: the mathematics.
-/
import Derived.Test.YtkcikdggfbjedaaGreatDoorCH28
namespace Go.Proofs.YtkcikdggfbjedaaGreatDoor.S
open Go.RowKit Go.Lib Fl
open Classical

def atN : Nat → Nat
  | 0 => 0
  | i + 1 => i + 2
def CH : Nat → List Ob
  | 0 => C2
  | i + 1 => CH i ++ [chObj (CH i) (atN i) 1]
def DL : Nat → List Nat
  | 0 => []
  | i + 1 => atN i :: DL i
theorem CH_len : ∀ i, (CH i).length = i + 2
  | 0 => rfl
  | i + 1 => by show (CH i ++ [_]).length = _; rw [List.length_append, CH_len i]; rfl
theorem atN_lt (i : Nat) : atN i < i + 2 := by cases i with | zero => decide | succ i => show i + 2 < i + 1 + 2; omega
theorem CH_may : ∀ i, i + 2 ≤ 4096 → mayH (CH i) = true
  | 0, _ => mayC2
  | i + 1, h => chMake_may (CH_may i (by omega)) (by rw [CH_len]; exact atN_lt i) (by rw [CH_len]; omega) (by rw [CH_len]; omega)
theorem CH_gone1 : ∀ i, goneN (CH i) ((1 : Nat) : Int) = false
  | 0 => rfl
  | i + 1 => by
    show goneN (CH i ++ [_]) ((1 : Nat) : Int) = false
    have := CH_gone1 i
    unfold goneN at this ⊢
    rw [Int.toNat_natCast] at this ⊢
    rw [List.getElem?_append_left (by rw [CH_len]; omega)]
    exact this
theorem CH_gone : ∀ i, goneN (CH i) (atN i : Int) = false
  | 0 => rfl
  | i + 1 => by
    show goneN (CH i ++ [chObj (CH i) (atN i) 1]) ((i + 2 : Nat) : Int) = false
    unfold goneN
    rw [Int.toNat_natCast, List.getElem?_append_right (by rw [CH_len]; exact Nat.le_refl _), CH_len, Nat.sub_self]
    show ((6 : Int) == 6 && !objQ (chVal _ _)) = false
    rw [chVal_obj]; rfl
theorem CH_next (i : Nat) : chNext (CH (i + 1)) (atN (i + 1)) = some (atN i) := by
  have := chMake_new (H := CH i) (t := atN i) (g := 1) (by rw [CH_len]; exact atN_lt i)
  rw [CH_len] at this
  exact this
theorem CH_old {i j : Nat} (h : j < i + 2) : chNext (CH (i + 1)) j = chNext (CH i) j := chMake_old (by rw [CH_len]; exact h)
theorem CH_up {i j : Nat} : ∀ d, j < i + 2 → chNext (CH (i + d)) j = chNext (CH i) j
  | 0, _ => rfl
  | d + 1, h => by
    rw [show i + (d + 1) = (i + d) + 1 from by omega, CH_old (by omega)]
    exact CH_up d h
theorem CH_at {k i : Nat} (h : i < k) : chNext (CH k) (atN (i + 1)) = some (atN i) := by
  have := CH_up (i := i + 1) (j := atN (i + 1)) (k - (i + 1)) (atN_lt _)
  rw [show i + 1 + (k - (i + 1)) = k from by omega] at this
  rw [this]
  exact CH_next i
theorem CH_zero (k : Nat) : chNext (CH k) 0 = none := by
  have := CH_up (i := 0) (j := 0) k (by omega)
  rw [Nat.zero_add] at this
  rw [this]
  rfl
theorem CH_dn {k : Nat} : ∀ i, i ≤ k → chDn (CH k) (atN i) = DL i ∧ chEnd (CH k) (atN i) = 0
  | 0, _ => ⟨chDn_end (CH_zero k), chEnd_end (CH_zero k)⟩
  | i + 1, h => by
    obtain ⟨a, b⟩ := CH_dn (k := k) i (by omega)
    have e := CH_at (k := k) (i := i) (by omega)
    exact ⟨by rw [chDn_next e, a]; rfl, by rw [chEnd_next e, b]⟩
theorem CH_get0 : ∀ k, (CH k)[0]? = some oC
  | 0 => rfl
  | k + 1 => by show (CH k ++ [_])[0]? = _; rw [List.getElem?_append_left (by rw [CH_len]; omega), CH_get0 k]
theorem CH_cut (k : Nat) : chCut (CH k) (atN k) = false := by unfold chCut; rw [(CH_dn k (Nat.le_refl _)).2, CH_get0]; rfl
theorem DL_len : ∀ i, (DL i).length = i
  | 0 => rfl
  | i + 1 => by show (_ :: DL i).length = _; rw [List.length_cons, DL_len i]
theorem CH_deep (k : Nat) : chDeep (CH k) (atN k) = k := by unfold chDeep; rw [CH_cut, (CH_dn k (Nat.le_refl _)).1, DL_len]; rfl
theorem CH_arr (k : Nat) : arrN (CH k) (chEnd (CH k) (atN k)) = false := by unfold arrN; rw [(CH_dn k (Nat.le_refl _)).2, CH_get0]; rfl
theorem DL_last : ∀ m, (DL (m + 1))[m]? = some 0
  | 0 => rfl
  | m + 1 => by
    show (atN (m + 1) :: DL (m + 1))[m + 1]? = some 0
    rw [List.getElem?_cons_succ]
    exact DL_last m
theorem CH_kind0 : ∀ k c, 2 ≤ c → c < k + 2 → ∃ o, (CH k)[c]? = some o ∧ o.kind = 6
  | 0, c, h2, h => absurd h (by omega)
  | k + 1, c, h2, h => by
    show ∃ o, (CH k ++ [chObj (CH k) (atN k) 1])[c]? = some o ∧ o.kind = 6
    by_cases e : c < k + 2
    · rw [List.getElem?_append_left (by rw [CH_len]; exact e)]
      exact CH_kind0 k c h2 e
    · have hc : c = (CH k).length := by rw [CH_len]; omega
      subst hc
      rw [List.getElem?_append_right (Nat.le_refl _), Nat.sub_self]
      exact ⟨_, rfl, rfl⟩
theorem CH_kind (k c : Nat) (h2 : 2 ≤ c) (h : c < (CH k).length) : (CH k)[c].kind = 6 := by
  obtain ⟨o, h1, h3⟩ := CH_kind0 k c h2 (by rw [CH_len] at h; exact h)
  rw [List.getElem?_eq_getElem h] at h1
  rw [Option.some.inj h1]
  exact h3
/-- one of them revoked: m of them stand before it -/
theorem CH_rv {k m : Nat} (hm : m < k) (hc : atN (m + 1) < (CH k).length) (X : List Ob) (hX : X = (CH k).set (atN (m + 1)) (chRv (CH k)[atN (m + 1)])) :
    (chDn X (atN k)).length = k - (m + 1) ∧ chCut X (atN k) = true := by
  have h6 := CH_kind k (atN (m + 1)) (by show 2 ≤ m + 2; omega) hc
  have n0 : chNext X (atN (m + 1)) = none := by rw [hX]; exact chRv_next hc
  have main : ∀ d, m + 1 + d ≤ k → (chDn X (atN (m + 1 + d))).length = d ∧ chEnd X (atN (m + 1 + d)) = atN (m + 1) := fun d => by
    induction d with
    | zero => intro _; exact ⟨by rw [Nat.add_zero, chDn_end n0]; rfl, chEnd_end n0⟩
    | succ d ih =>
      intro h
      obtain ⟨a, b⟩ := ih (by omega)
      have e : chNext X (atN (m + 1 + (d + 1))) = some (atN (m + 1 + d)) := by
        rw [hX, chRv_far (by show m + 2 ≠ m + 1 + d + 2; omega)]
        exact CH_at (i := m + 1 + d) (by omega)
      exact ⟨by rw [chDn_next e, List.length_cons, a], by rw [chEnd_next e, b]⟩
  obtain ⟨a, b⟩ := main (k - (m + 1)) (by omega)
  rw [show m + 1 + (k - (m + 1)) = k from by omega] at a b
  refine ⟨a, ?_⟩
  unfold chCut
  rw [b, hX, List.getElem?_set, if_pos rfl, if_pos hc]
  show ((CH k)[atN (m + 1)].kind == 6) = true
  rw [h6]; rfl
end Go.Proofs.YtkcikdggfbjedaaGreatDoor.S
/-
  ChainLong: the walk.
-/
namespace Go.Proofs.YtkcikdggfbjedaaGreatDoor.S
open Go.RowKit Go.Lib Fl
open Classical

/-- what the walk holds on to: the heap in its own block -/
structure Lq (w : World) (g B n : Nat) (L : List Ob) (W : World) : Prop where
  below : Below w.heap.size w W
  h : W.heap[g]? = some (.cells #[.slice (some ⟨B, 0, none⟩) n n] 24 (0, 0))
  p : Hp W (some ⟨B, 0, none⟩) L n
  le : w.heap.size ≤ g
theorem Lq.up {w : World} {g B n : Nat} {L : List Ob} {W W' : World} (h : Lq w g B n L W) (hb : Below W.heap.size W W') : Lq w g B n L W' := ⟨vb h.below hb, vblkn hb h.h, h.p.up hb, h.le⟩
set_option maxHeartbeats 8000000 in
set_option maxRecDepth 1000000 in
theorem ChainLong_walk (n c : Int) (w : World) (hn0 : 0 ≤ n) (hn1 : n ≤ 255) (hc0 : 0 ≤ c) (hc1 : c ≤ 255) (htab : TabHere w) : Calls Tryz.prog 5 #[.int .u8 n, .int .u8 c] w fun e w' => e = .returned (.bool true) ∧ Below w.heap.size w w' := by
  have hsz1 : ∀ v : Value, (Tryz.prog.info? 24).map (·.size) = some (#[v] : Array Value).size := fun v => hsz
  have hcc : ∀ v : Value, v.oneCell' = true → (#[v] : Array Value).all (·.oneCell') = true := fun v h => cells_one (l := [v]) (by simpa using h)
  have c2 := fun W => two_c W
  have cA := fun W (hb : Below w.heap.size w W) => chalive_any W (tab_up htab hb)
  obtain ⟨k, hk⟩ : ∃ k : Nat, n % 91 = (k : Int) := Int.eq_ofNat_of_zero_le (Int.emod_nonneg _ (by decide))
  have hk90 : k ≤ 90 := by have := Int.emod_lt_of_pos n (show (0 : Int) < 91 by decide); omega
  have cM : ∀ W B i m, m = i + 2 → i ≤ 90 → Below w.heap.size w W → Hp W (some ⟨B, 0, none⟩) (CH i) m → Calls Tryz.prog 14 #[.agg #[.slice (some ⟨B, 0, none⟩) m m], .int .i64 (atN i : Int), .int .i64 1] W fun e w' => ∃ B2, e = .returned (.tuple #[.agg #[.slice (some ⟨B2, 0, none⟩) (m + 1) (m + 1)], .int .i64 (m : Int), .int .i64 0]) ∧ W.heap.size ≤ B2 ∧ Ht B2 (CH (i + 1)) (m + 1) w' ∧ Below W.heap.size W w' := fun W B i m hm hi hb hH =>
    Make_y (atN i) 1 hH (by rw [CH_len]; omega) (tab_up htab hb) (CH_may i (by omega)) (by rw [CH_len]; exact atN_lt i) (by rw [CH_len]; omega) (CH_gone i) (CH_gone1 i) (by rw [CH_len]; omega)
  have cE : ∀ W B, Below w.heap.size w W → Hp W (some ⟨B, 0, none⟩) (CH k) (k + 2) → Calls Tryz.prog 16 #[.agg #[.slice (some ⟨B, 0, none⟩) (k + 2) (k + 2)], .int .i64 (atN k : Int)] W fun e w' => e = .returned (.tuple #[.int .i64 (k : Int), .int .i64 0]) ∧ Below W.heap.size W w' := fun W B hb hH => by
    have := Deep_p (atN k) hH (tab_up htab hb) (CH_may k (by omega)) (by rw [CH_len]; exact atN_lt k)
    rw [CH_len, CH_deep] at this
    exact this
  have cD : ∀ W B, Below w.heap.size w W → Hp W (some ⟨B, 0, none⟩) (CH k) (k + 2) → Calls Tryz.prog 11 #[.agg #[.slice (some ⟨B, 0, none⟩) (k + 2) (k + 2)], .int .i64 (atN k : Int)] W fun e w' => ∃ (P : Option Addr) (pc : Nat), e = .returned (.tuple #[.slice P k pc, .bool false, .int .i64 0]) ∧ IRow w' P (upZ (DL k)) ∧ Below W.heap.size W w' := fun W B hb hH => by
    have := Down_p (atN k) hH (tab_up htab hb) (CH_may k (by omega)) (by rw [CH_len]; exact atN_lt k)
    rw [CH_len, CH_cut, (CH_dn k (Nat.le_refl _)).1, DL_len] at this
    exact this
  have cI : ∀ W B, Below w.heap.size w W → Hp W (some ⟨B, 0, none⟩) (CH k) (k + 2) → Calls Tryz.prog 12 #[.agg #[.slice (some ⟨B, 0, none⟩) (k + 2) (k + 2)], .int .i64 (atN k : Int)] W fun e w' => e = .returned (.tuple #[.bool false, .int .i64 (if 64 < k then 140 else 0)]) ∧ Below W.heap.size W w' := fun W B hb hH => by
    have := IsArray_p (atN k) hH (tab_up htab hb) (CH_may k (by omega)) (by rw [CH_len]; exact atN_lt k)
    rw [CH_len, CH_deep, CH_cut, CH_arr] at this
    have e1 : (if false = true ∨ 64 < k then false else false) = false := by split <;> rfl
    have e2 : (if false = true ∨ 64 < k then (140 : Int) else 0) = (if 64 < k then 140 else 0) := by simp
    rw [e1, e2] at this
    exact this
  have HRV : Hid (∀ r : Nat, r < k → ∃ X : List Ob, (∀ W B, Below w.heap.size w W → Hp W (some ⟨B, 0, none⟩) (CH k) (k + 2) → Calls Tryz.prog 9 #[.agg #[.slice (some ⟨B, 0, none⟩) (k + 2) (k + 2)], .int .i64 (2 + (r : Int))] W fun e w' => ∃ B2, e = .returned (.tuple #[.agg #[.slice (some ⟨B2, 0, none⟩) (k + 2) (k + 2)], .int .i64 0]) ∧ Hp w' (some ⟨B2, 0, none⟩) X (k + 2) ∧ Below W.heap.size W w') ∧
      (∀ W B, Below w.heap.size w W → Hp W (some ⟨B, 0, none⟩) X (k + 2) → Calls Tryz.prog 11 #[.agg #[.slice (some ⟨B, 0, none⟩) (k + 2) (k + 2)], .int .i64 (atN k : Int)] W fun e w' => ∃ (P : Option Addr) (pc : Nat), e = .returned (.tuple #[.slice P (k - (r + 1)) pc, .bool true, .int .i64 0]) ∧ Below W.heap.size W w') ∧
      (∀ W B, Below w.heap.size w W → Hp W (some ⟨B, 0, none⟩) X (k + 2) → Calls Tryz.prog 12 #[.agg #[.slice (some ⟨B, 0, none⟩) (k + 2) (k + 2)], .int .i64 (atN k : Int)] W fun e w' => e = .returned (.tuple #[.bool false, .int .i64 140]) ∧ Below W.heap.size W w')) := Lib.hid fun r hr => by
    have hc : atN (r + 1) < (CH k).length := by rw [CH_len]; show r + 2 < k + 2; omega
    obtain ⟨X, hX⟩ : ∃ X, X = (CH k).set (atN (r + 1)) (chRv (CH k)[atN (r + 1)]) := ⟨_, rfl⟩
    obtain ⟨x1, x2⟩ := CH_rv hr hc X hX
    have hk6 := CH_kind k (atN (r + 1)) (by show 2 ≤ r + 2; omega) hc
    have hmX : mayH X = true := by rw [hX]; exact chRv_may (CH_may k (by omega)) hc hk6
    have hXl : X.length = k + 2 := by rw [hX, List.length_set, CH_len]
    have e2 : ((atN (r + 1) : Nat) : Int) = 2 + (r : Int) := by show ((r + 2 : Nat) : Int) = _; omega
    have hat : atN k < X.length := by rw [hXl]; exact atN_lt k
    refine ⟨X, fun W B hb hH => ?_, fun W B hb hH => ?_, fun W B hb hH => ?_⟩
    · have := Revoke_p (atN (r + 1)) hH (tab_up htab hb) (CH_may k (by omega)) hc
      rw [CH_len, e2] at this
      refine this.mono fun e w' ⟨h1, h2⟩ => ?_
      rcases h2 with ⟨h2, _⟩ | ⟨_, B2, h3, _, h4⟩
      · exact absurd hk6 h2
      · rw [← hX] at h4
        exact ⟨B2, h3, h4.hp, h1⟩
    · have := Down_p (atN k) hH (tab_up htab hb) hmX hat
      rw [hXl, x1, x2] at this
      exact this.mono fun e w' ⟨P, pc, h1, _, h3⟩ => ⟨P, pc, h1, h3⟩
    · have := IsArray_p (atN k) hH (tab_up htab hb) hmX hat
      rw [hXl, if_pos (.inl x2), if_pos (.inl x2)] at this
      exact this
  have hB := Below.refl w.heap.size w
  have HK := Lib.hid hk
  have hkz : (k : Int) ≤ 90 := by omega
  have hk0 : (0 : Int) ≤ (k : Int) := by omega
  clear htab
  go_enter Tryz.func5, Tryz.ntmps5
  go_upto_region 5 with (first
    | (go_at_call 17; (with_reducible refine (cA _ hB).mono ?_); rintro e w1 ⟨rfl, h9⟩; have hB := vb hB h9; clear h9))
  rw [HK.out]
  go_upto_region 14 with (first
    | (go_at_call 15; (with_reducible refine (c2 _).mono ?_); rintro e w2 ⟨B, rfl, hH, h9⟩; have hl2 := hB.size; have hB := vb hB h9; have HH := Lib.hid hH; clear hH)
    | ((with_reducible refine t_store (cs := #[.slice (some ⟨B, 0, none⟩) 2 2]) rfl rfl rfl rfl (heap_alloc_new w2 _) (hsz1 _) ?_ (hcc _ rfl) (vzero w2 _) (Nat.le_refl _) ?_); (rfl); intro W3 hb3 hW3 hO3 hz3; have HQ : Hid (Lq w w2.heap.size B 2 C2 W3) := Lib.hid ⟨vb hB hb3, hW3, HH.out.up hb3, hB.size⟩; clear hb3 hO3 hz3 HH hW3))
  generalize w2.heap.size = g at *
  clear hB c2
  go_loopg [8, 9] k (fun kx s8 s9 wr => ∃ i B, s8 = .int .i64 (atN i : Int) ∧ s9 = .int .i64 (i : Int) ∧ i + kx = k ∧ Hid (Lq w g B (i + 2) (CH i) wr))
  case atStart => exact ⟨0, B, rfl, rfl, by omega, HQ⟩
  case round =>
    obtain ⟨i, B, rfl, rfl, hik, HR⟩ := hrel
    have HQ := Lib.hid HR.out
    clear HR
    cases gk with
    | zero =>
      obtain rfl : i = k := by omega
      clear cM
      go_upto_region 17 with (first
        | ((with_reducible refine h1_ld ?_ rfl rfl HQ.out.h ?_); (rfl))
        | (go_at_call 16; (with_reducible refine (cE _ _ HQ.out.below HQ.out.p).mono ?_); rintro e w6 ⟨rfl, h9⟩; have HQ := Lib.hid (HQ.out.up h9); clear h9)
        | (go_at_call 11; (with_reducible refine (cD _ _ HQ.out.below HQ.out.p).mono ?_); rintro e w7 ⟨P, pc, rfl, hI, h9⟩; have HQ := Lib.hid (HQ.out.up h9); have HI := Lib.hid hI; clear h9 hI)
        | (go_at_call 12; (with_reducible refine (cI _ _ HQ.out.below HQ.out.p).mono ?_); rintro e w8 ⟨rfl, h9⟩; have HQ := Lib.hid (HQ.out.up h9); have HI := Lib.hid (irow_up HI.out h9); clear h9))
      rcases Nat.eq_zero_or_pos i with h0 | hpos
      · have hiz : (i : Int) = 0 := by omega
        have hif : (if 64 < i then (140 : Int) else 0) = 0 := if_neg (by omega)
        rw [hif]
        clear hif cE cD cI hk90
        go_wp2
        go_ret
        exact ⟨rfl, HQ.out.below⟩
      · obtain ⟨m, hmi⟩ : ∃ m, i = m + 1 := ⟨i - 1, by omega⟩
        have hsub : IntKind.i64.wrap ((i : Int) - 1) = (m : Int) := by rw [IntWalk.i64_in _ (by omega)]; omega
        have hmz : (m : Int) < (i : Int) := by omega
        have hm0 : (0 : Int) ≤ (m : Int) := by omega
        have hi1 : (0 : Int) < (i : Int) := by omega
        have hin : ¬ (i : Int) = 0 := by omega
        have hib : ((i : Int) == 0) = false := beq_eq_false_iff_ne.2 hin
        have hdl : (DL i).length = i := DL_len i
        obtain ⟨a, rfl, _, hcl⟩ := HI.out (by rw [upZ_len, hdl]; exact hpos)
        have qm : w8.cell? (a.add m) = some (.int .i64 0) := by
          have h1 := hcl m (by rw [upZ_len, hdl]; omega)
          rw [h1]
          have h2 := DL_last m
          rw [← hmi] at h2
          have h3 : (upZ (DL i))[m]? = some 0 := by unfold upZ; rw [List.getElem?_map, h2]; rfl
          rw [List.getElem?_eq_getElem (by rw [upZ_len, hdl]; omega)] at h3
          rw [Option.some.inj h3]
        obtain ⟨r, hr⟩ : ∃ r : Nat, c % (i : Int) = (r : Int) := Int.eq_ofNat_of_zero_le (Int.emod_nonneg _ hin)
        have hri : r < i := by have := Int.emod_lt_of_pos c hi1; omega
        obtain ⟨X, cR, cD2, cI2⟩ := HRV.out r hri
        obtain ⟨q, hq⟩ : ∃ q, q = i - (r + 1) := ⟨_, rfl⟩
        rw [← hq] at cD2
        have hw : IntKind.i64.wrap ((atN i : Int) - (2 + (r : Int))) = (q : Int) := by
          have ha : atN i = i + 1 := by rw [hmi]; rfl
          rw [IntWalk.i64_in _ (by rw [ha]; omega), ha]
          omega
        clear hcl HI hdl hmi hq
        by_cases h64 : 64 < i
        · have hz64 : (64 : Int) < (i : Int) := by omega
          rw [if_pos h64]
          clear cE cD cI
          go_upto_region 22 with (fail)
          go_wp2_with (first
            | ((with_reducible refine h1_ld ?_ rfl rfl HQ.out.h ?_); (rfl))
            | (go_at_call 9; (with_reducible refine (cR _ _ HQ.out.below HQ.out.p).mono ?_); rintro e w9 ⟨B9, rfl, hH, h9⟩; have HB := Lib.hid (vb HQ.out.below h9); have HX := Lib.hid hH; clear h9 hH HQ)
            | ((with_reducible refine t_store (cs := #[.slice (some ⟨B9, 0, none⟩) (i + 2) (i + 2)]) rfl rfl rfl rfl (heap_alloc_new w9 _) (hsz1 _) ?_ (hcc _ rfl) (vzero w9 _) (Nat.le_refl _) ?_); (rfl); intro W10 hb10 hW10 hO10 hz10; have HB := Lib.hid (vb HB.out hb10); have HX := Lib.hid (HX.out.up hb10); clear hb10 hO10 hz10)
            | ((with_reducible refine h1_ld ?_ rfl rfl hW10 ?_); (rfl))
            | (go_at_call 11; (with_reducible refine (cD2 _ _ HB.out HX.out).mono ?_); rintro e w11 ⟨P2, pc2, rfl, h9⟩; have HB := Lib.hid (vb HB.out h9); have HX := Lib.hid (HX.out.up h9); have hW10 := vblkn h9 hW10; clear h9)
            | (go_at_call 12; (with_reducible refine (cI2 _ _ HB.out HX.out).mono ?_); rintro e w12 ⟨rfl, h9⟩; have HB := Lib.hid (vb HB.out h9); clear h9))
          go_ret
          exact ⟨rfl, HB.out⟩
        · have hz64 : (i : Int) ≤ 64 := by omega
          rw [if_neg h64]
          clear cE cD cI
          go_upto_region 22 with (fail)
          go_wp2_with (first
            | ((with_reducible refine h1_ld ?_ rfl rfl HQ.out.h ?_); (rfl))
            | (go_at_call 9; (with_reducible refine (cR _ _ HQ.out.below HQ.out.p).mono ?_); rintro e w9 ⟨B9, rfl, hH, h9⟩; have HB := Lib.hid (vb HQ.out.below h9); have HX := Lib.hid hH; clear h9 hH HQ)
            | ((with_reducible refine t_store (cs := #[.slice (some ⟨B9, 0, none⟩) (i + 2) (i + 2)]) rfl rfl rfl rfl (heap_alloc_new w9 _) (hsz1 _) ?_ (hcc _ rfl) (vzero w9 _) (Nat.le_refl _) ?_); (rfl); intro W10 hb10 hW10 hO10 hz10; have HB := Lib.hid (vb HB.out hb10); have HX := Lib.hid (HX.out.up hb10); clear hb10 hO10 hz10)
            | ((with_reducible refine h1_ld ?_ rfl rfl hW10 ?_); (rfl))
            | (go_at_call 11; (with_reducible refine (cD2 _ _ HB.out HX.out).mono ?_); rintro e w11 ⟨P2, pc2, rfl, h9⟩; have HB := Lib.hid (vb HB.out h9); have HX := Lib.hid (HX.out.up h9); have hW10 := vblkn h9 hW10; clear h9)
            | (go_at_call 12; (with_reducible refine (cI2 _ _ HB.out HX.out).mono ?_); rintro e w12 ⟨rfl, h9⟩; have HB := Lib.hid (vb HB.out h9); clear h9))
          go_ret
          exact ⟨rfl, HB.out⟩
    | succ kx =>
      have hlz : (i : Int) < (k : Int) := by omega
      have hi90 : (i : Int) ≤ 90 := by omega
      obtain ⟨m, hm⟩ : ∃ m, m = i + 2 := ⟨_, rfl⟩
      have cM := fun W B => cM W B i m hm (by omega)
      rw [← hm] at HQ
      have HM := Lib.hid hm
      clear hm cE cD cI
      go_wp2_with (first
        | ((with_reducible refine h1_ld ?_ rfl rfl HQ.out.h ?_); (rfl))
        | (go_at_call 14; (with_reducible refine (cM _ _ HQ.out.below HQ.out.p).mono ?_); rintro e w4 ⟨B2, rfl, hle, hH, h9⟩; have hlg := lt_blk HQ.out.h; have hge := HQ.out.le; have hbb := vb HQ.out.below h9; have hg4 := vblkn h9 HQ.out.h; have H2 := Lib.hid hH; clear h9 hH HQ)
        | ((with_reducible refine t_store (cs := #[.slice (some ⟨B2, 0, none⟩) (m + 1) (m + 1)]) rfl rfl rfl rfl (heap_alloc_new w4 _) (hsz1 _) ?_ (hcc _ rfl) (vzero w4 _) (Nat.le_refl _) ?_); (rfl); intro W5 hb5 hW5 hO5 hz5; have hg5 := vblkn hb5 hg4; have hB5 := vb hbb hb5; have H2 := Lib.hid (H2.out.up hb5); clear hb5 hO5 hz5 hg4 hbb)
        | ((with_reducible refine h1_ld ?_ rfl rfl hW5 ?_); (rfl))
        | ((with_reducible refine t_store (cs := #[.slice (some ⟨B2, 0, none⟩) (m + 1) (m + 1)]) rfl rfl rfl rfl hg5 (hsz1 _) ?_ (hcc _ rfl) hB5 hge ?_); (rfl); intro W6 hb6 hW6 hO6 hz6; have H2 := Lib.hid (H2.out.other hO6 (by omega)); clear hO6 hz6 hg5 hB5))
      go_roundg kx
      case measure => omega
      case rel =>
        have hm1 : m + 1 = i + 1 + 2 := by have := HM.out; omega
        refine ⟨i + 1, B2, ?_, rfl, by omega, Lib.hid ⟨hb6, ?_, ?_, hge⟩⟩
        · show _ = Value.int .i64 ((i + 2 : Nat) : Int)
          rw [← HM.out]
        · rw [← hm1]; exact hW6
        · have h7 := H2.out.hp
          rw [hm1] at h7
          exact h7
end Go.Proofs.YtkcikdggfbjedaaGreatDoor.S
