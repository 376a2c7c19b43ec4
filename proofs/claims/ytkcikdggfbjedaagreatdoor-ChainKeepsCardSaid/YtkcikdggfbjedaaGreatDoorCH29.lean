/-
  ChainKeeps: the walk.
-/
import Derived.Test.YtkcikdggfbjedaaGreatDoorCH28
import Derived.Test.YtkcikdggfbjedaaGreatDoorCH23
namespace Go.Proofs.YtkcikdggfbjedaaGreatDoor.S
open Go.RowKit Go.Lib Fl
open Classical

/-- with the heap in which a proxy is made -/
structure Kx (w : World) (A : Option Addr) (n cap gx Bx : Nat) (H X : List Ob) (W : World) : Prop where
  c : Cw w A n cap W
  x : W.heap[gx]? = some (.cells #[.slice (some ⟨Bx, 0, none⟩) (n + 1) (n + 1)] 24 (0, 0))
  h : Hp W A H cap
  p : Hp W (some ⟨Bx, 0, none⟩) X (n + 1)
theorem Kx.up {w : World} {A : Option Addr} {n cap gx Bx : Nat} {H X : List Ob} {W W' : World} (h : Kx w A n cap gx Bx H X W) (hb : Below W.heap.size W W') : Kx w A n cap gx Bx H X W' := ⟨h.c.up hb, vblkn hb h.x, h.h.up hb, h.p.up hb⟩
/-- with a proxy of that, and then the first of them revoked -/
structure Ky2 (w : World) (A : Option Addr) (n cap gx Bx gy By : Nat) (H X Y : List Ob) (W : World) : Prop where
  x : Kx w A n cap gx Bx H X W
  y : W.heap[gy]? = some (.cells #[.slice (some ⟨By, 0, none⟩) (n + 1 + 1) (n + 1 + 1)] 24 (0, 0))
  p : Hp W (some ⟨By, 0, none⟩) Y (n + 1 + 1)
theorem Ky2.up {w : World} {A : Option Addr} {n cap gx Bx gy By : Nat} {H X Y : List Ob} {W W' : World} (h : Ky2 w A n cap gx Bx gy By H X Y W) (hb : Below W.heap.size W W') : Ky2 w A n cap gx Bx gy By H X Y W' := ⟨h.x.up hb, vblkn hb h.y, h.p.up hb⟩
structure Kz (w : World) (A : Option Addr) (n cap gx Bx gy By gz Bz : Nat) (H X Y Z : List Ob) (W : World) : Prop where
  y : Ky2 w A n cap gx Bx gy By H X Y W
  z : W.heap[gz]? = some (.cells #[.slice (some ⟨Bz, 0, none⟩) (n + 1 + 1) (n + 1 + 1)] 24 (0, 0))
  p : Hp W (some ⟨Bz, 0, none⟩) Z (n + 1 + 1)
theorem Kz.up {w : World} {A : Option Addr} {n cap gx Bx gy By gz Bz : Nat} {H X Y Z : List Ob} {W W' : World} (h : Kz w A n cap gx Bx gy By gz Bz H X Y Z W) (hb : Below W.heap.size W W') : Kz w A n cap gx Bx gy By gz Bz H X Y Z W' := ⟨h.y.up hb, vblkn hb h.z, h.p.up hb⟩
/-- and what stands behind the second of them -/
structure Kl (w : World) (A : Option Addr) (n cap gx Bx gy By gz Bz : Nat) (H X Y Z : List Ob) (P : Option Addr) (W : World) : Prop where
  z : Kz w A n cap gx Bx gy By gz Bz H X Y Z W
  l : IRow W P [(n : Int)]
theorem Kl.up {w : World} {A : Option Addr} {n cap gx Bx gy By gz Bz : Nat} {H X Y Z : List Ob} {P : Option Addr} {W W' : World} (h : Kl w A n cap gx Bx gy By gz Bz H X Y Z P W) (hb : Below W.heap.size W W') : Kl w A n cap gx Bx gy By gz Bz H X Y Z P W' := ⟨h.z.up hb, irow_up h.l hb⟩
theorem take_app {H : List Ob} {o : Ob} : (H ++ [o]).take H.length = H := List.take_left' rfl
theorem live_new {H : List Ob} (t g : Nat) : liveN (H ++ [chObj H t g]) H.length = true := by
  unfold liveN
  rw [List.getElem?_append_right (Nat.le_refl _), Nat.sub_self]
  show ((6 : Int) == 6 && objQ (chVal (H[t]?.getD default) t)) = true
  rw [chVal_obj]; rfl
theorem gone_new {H : List Ob} (t g : Nat) : goneN (H ++ [chObj H t g]) (H.length : Int) = false := by
  unfold goneN
  rw [Int.toNat_natCast, List.getElem?_append_right (Nat.le_refl _), Nat.sub_self]
  show ((6 : Int) == 6 && !objQ (chVal (H[t]?.getD default) t)) = false
  rw [chVal_obj]; rfl
theorem gone_old {H : List Ob} {o : Ob} {i : Nat} (hi : i < H.length) : goneN (H ++ [o]) (i : Int) = goneN H (i : Int) := by
  unfold goneN
  rw [Int.toNat_natCast, List.getElem?_append_left hi]
/-- the second proxy, once the first is revoked -/
theorem keeps_z {H : List Ob} {t g : Nat} (X Y Z : List Ob) (hX : X = H ++ [chObj H t g]) (hY : Y = X ++ [chObj X H.length g]) (hn : H.length < Y.length) (hZ : Z = Y.set H.length (chRv Y[H.length])) :
    Y[H.length].kind = 6 ∧ Z.length = H.length + 2 ∧ chDn Z (H.length + 1) = [H.length] ∧ chCut Z (H.length + 1) = true ∧ liveN Z H.length = false ∧ Z.take H.length = H ∧ Z.drop (H.length + 1) = Y.drop (H.length + 1) := by
  have hXl : X.length = H.length + 1 := by rw [hX, List.length_append]; rfl
  have hYl : Y.length = H.length + 2 := by rw [hY, List.length_append, hXl]; rfl
  have hZl : Z.length = H.length + 2 := by rw [hZ, List.length_set, hYl]
  have eY : Y[H.length]? = some (chObj H t g) := by
    rw [hY, List.getElem?_append_left (by omega), hX, List.getElem?_append_right (Nat.le_refl _), Nat.sub_self]; rfl
  have eY2 : Y[H.length] = chObj H t g := by have := List.getElem?_eq_getElem hn; rw [eY] at this; exact (Option.some.inj this).symm
  have n1 : chNext Z (H.length + 1) = some H.length := by
    rw [hZ, chRv_far (by omega), hY, show H.length + 1 = X.length from hXl.symm]
    exact chMake_new (by omega)
  have n0 : chNext Z H.length = none := by rw [hZ]; exact chRv_next hn
  have k6 : Y[H.length].kind = 6 := by rw [eY2]; rfl
  refine ⟨k6, hZl, by rw [chDn_next n1, chDn_end n0], ?_, ?_, ?_, ?_⟩
  · rw [chCut_next n1]
    unfold chCut
    rw [chEnd_end n0, hZ, List.getElem?_set, if_pos rfl, if_pos hn]
    show (Y[H.length].kind == 6) = true
    rw [k6]; rfl
  · unfold liveN
    rw [hZ, List.getElem?_set, if_pos rfl, if_pos hn]
    show (Y[H.length].kind == 6 && objQ vN) = false
    rw [show objQ vN = false from rfl, Bool.and_false]
  · rw [hZ, List.take_set_of_le (Nat.le_refl _), hY, List.take_append_of_le_length (by omega), hX]
    exact List.take_left' rfl
  · rw [hZ, List.drop_set_of_lt (by omega)]
theorem kl_at {W : World} {a : Addr} {z : Int} (h : IRow W (some a) [z]) : W.cell? a = some (.int .i64 z) := by
  obtain ⟨a2, e, _, h3⟩ := h (by simp)
  obtain rfl := Option.some.inj e
  have := h3 0 (by simp)
  rw [addr_zero] at this
  exact this
set_option maxHeartbeats 16000000 in
set_option maxRecDepth 1000000 in
theorem ChainKeeps_walk (A : Option Addr) (H : List Ob) (cap : Nat) (t g : Int) (w : World) (hH : HIn0 w A H cap) (htab : TabHere w) :
    Calls Tryz.prog 4 #[.agg #[.slice A H.length cap], .int .i64 t, .int .i64 g] w fun e w' => e = .returned (.bool true) ∧ Below w.heap.size w w' := by
  have HC := Lib.hid (cw_start w A H.length cap)
  have hq := HC.out.q
  have cA := fun W (hb : Below w.heap.size w W) => chalive_any W (tab_up htab hb)
  have hi1 : ∀ v : Value, (Tryz.prog.info? 24).map (·.size) = some (#[v] : Array Value).size := fun v => hsz
  have hc1 : ∀ v : Value, v.oneCell' = true → (#[v] : Array Value).all (·.oneCell') = true := fun v h => cells_one (l := [v]) (by simpa using h)
  by_cases hm : (120 < H.length ∧ H.length ≤ 4096) ∨ 5000 < H.length
  · have cL := fun W (_ : Below w.heap.size w W) => ch_many A H.length cap W hm
    clear hH htab hm
    go_enter Tryz.func4, Tryz.ntmps4
    go_wp2_with (first
      | (go_at_call 17; (with_reducible refine (cA _ HC.out.below).mono ?_); rintro e w1 ⟨rfl, h9⟩; have HC := Lib.hid (HC.out.up h9); have hq := HC.out.q; clear h9)
      | ((with_reducible refine h1_ld ?_ rfl rfl HC.out.h ?_); (rfl))
      | (go_at_call 18; (with_reducible refine (cL _ HC.out.below).mono ?_); rintro e w2 ⟨rfl, h9⟩; have HC := Lib.hid (HC.out.up h9); have hq := HC.out.q; clear h9))
    go_ret
    exact ⟨rfl, HC.out.below⟩
  · have cL := fun W (hb : Below w.heap.size w W) => ch_few A H cap W (hrow_up hH.row hb) hm
    cases hl : largeB H with
    | true =>
      rw [hl] at cL
      clear hH htab hm hl
      go_enter Tryz.func4, Tryz.ntmps4
      go_wp2_with (first
        | (go_at_call 17; (with_reducible refine (cA _ HC.out.below).mono ?_); rintro e w1 ⟨rfl, h9⟩; have HC := Lib.hid (HC.out.up h9); have hq := HC.out.q; clear h9)
        | ((with_reducible refine h1_ld ?_ rfl rfl HC.out.h ?_); (rfl))
        | (go_at_call 18; (with_reducible refine (cL _ HC.out.below).mono ?_); rintro e w2 ⟨rfl, h9⟩; have HC := Lib.hid (HC.out.up h9); have hq := HC.out.q; clear h9))
      go_ret
      exact ⟨rfl, HC.out.below⟩
    | false =>
      rw [hl] at cL
      have hI := hH.few (by omega) hl
      have hsm : ∀ o ∈ H, o.props.length ≤ 100000 := fun o ho => by have := small_p hl o ho; omega
      have cK := fun W (hb : Below w.heap.size w W) => Check_h A H cap W (hI.up hb) (tab_up htab hb)
      cases hmay : mayH H with
      | false =>
        rw [show chkH H = 9 from by unfold chkH; rw [hmay]; rfl] at cK
        clear hH htab hm hl hI hsm hmay
        go_enter Tryz.func4, Tryz.ntmps4
        go_wp2_with (first
          | (go_at_call 17; (with_reducible refine (cA _ HC.out.below).mono ?_); rintro e w1 ⟨rfl, h9⟩; have HC := Lib.hid (HC.out.up h9); have hq := HC.out.q; clear h9)
          | ((with_reducible refine h1_ld ?_ rfl rfl HC.out.h ?_); (rfl))
          | (go_at_call 18; (with_reducible refine (cL _ HC.out.below).mono ?_); rintro e w2 ⟨rfl, h9⟩; have HC := Lib.hid (HC.out.up h9); have hq := HC.out.q; clear h9)
          | (go_at_call 19; (with_reducible refine (cK _ HC.out.below).mono ?_); rintro e w3 ⟨rfl, h9⟩; have HC := Lib.hid (HC.out.up h9); have hq := HC.out.q; clear h9))
        go_ret
        exact ⟨rfl, HC.out.below⟩
      | true =>
        rw [chk_ok hmay] at cK
        have hHp : Hp w A H cap := ⟨H, rfl, hI, hsm⟩
        have h120 : H.length ≤ 120 := by have := (mayH_iff.1 hmay).1; omega
        have cM := fun W (hb : Below w.heap.size w W) => Make_p (A := A) (H := H) (cap := cap) t g (hHp.up hb) (by omega) (tab_up htab hb)
        by_cases hz : mkE H t g = 0
        · obtain ⟨_, hti, hgi, hgt, hgg, _⟩ := mk_zero hz
          obtain ⟨k, rfl⟩ := Int.eq_ofNat_of_zero_le hti.1
          obtain ⟨l, rfl⟩ := Int.eq_ofNat_of_zero_le hgi.1
          have hk : k < H.length := by have := hti.2; omega
          have hl2 : l < H.length := by have := hgi.2; omega
          obtain ⟨X, hX⟩ : ∃ X, X = H ++ [chObj H k l] := ⟨_, rfl⟩
          obtain ⟨Y, hY⟩ : ∃ Y, Y = X ++ [chObj X H.length l] := ⟨_, rfl⟩
          have hXl : X.length = H.length + 1 := by rw [hX, List.length_append]; rfl
          have hYl : Y.length = H.length + 1 + 1 := by rw [hY, List.length_append, hXl]; rfl
          have hnY : H.length < Y.length := by omega
          obtain ⟨Z, hZ⟩ : ∃ Z, Z = Y.set H.length (chRv Y[H.length]) := ⟨_, rfl⟩
          have hmX : mayH X = true := by rw [hX]; exact chMake_may hmay hk hl2 (by omega)
          have hmY : mayH Y = true := by rw [hY]; exact chMake_may hmX (by omega) (by omega) (by omega)
          obtain ⟨z1, z2, z3, z4, z5, z6, z7⟩ := keeps_z X Y Z hX hY hnY hZ
          have hmZ : mayH Z = true := by rw [hZ]; exact chRv_may hmY hnY z1
          obtain ⟨d, hd⟩ : ∃ d, d = chDeep H k := ⟨_, rfl⟩
          have hd3 : chDeep X H.length = d + 1 := by rw [hX, hd]; exact chMake_deep hk
          have hd2 : d ≤ 200 := by rw [hd]; unfold chDeep; have := chDn_len (H := H) k; cases chCut H k <;> simp <;> omega
          have hdz : (d : Int) ≤ 200 := by omega
          have hd0 : (0 : Int) ≤ (d : Int) := by omega
          have cM1 : ∀ W, Below w.heap.size w W → Calls Tryz.prog 14 #[.agg #[.slice A H.length cap], .int .i64 (k : Int), .int .i64 (l : Int)] W fun e w' => ∃ B, e = .returned (.tuple #[.agg #[.slice (some ⟨B, 0, none⟩) (H.length + 1) (H.length + 1)], .int .i64 (H.length : Int), .int .i64 0]) ∧ Hp w' (some ⟨B, 0, none⟩) X (H.length + 1) ∧ Below W.heap.size W w' := fun W hb =>
            (cM W hb).mono fun e w' ⟨h1, h2⟩ => by
              rcases h2 with ⟨h2, _⟩ | ⟨_, B, h3, _, h4⟩
              · exact absurd hz h2
              · rw [Int.toNat_natCast, Int.toNat_natCast, ← hX] at h4
                exact ⟨B, h3, h4.hp, h1⟩
          have cV1 : ∀ W B, Below w.heap.size w W → Hp W (some ⟨B, 0, none⟩) X (H.length + 1) → Calls Tryz.prog 13 #[.agg #[.slice (some ⟨B, 0, none⟩) (H.length + 1) (H.length + 1)], .int .i64 (H.length : Int)] W fun e w' => e = .returned (.tuple #[.bool true, .int .i64 0]) ∧ Below W.heap.size W w' := fun W B hb hp => by
            have := Live_p H.length hp (tab_up htab hb) hmX (by omega)
            rw [hXl, show liveN X H.length = true from by rw [hX]; exact live_new k l] at this
            exact this
          have cD1 : ∀ W B, Below w.heap.size w W → Hp W (some ⟨B, 0, none⟩) X (H.length + 1) → Calls Tryz.prog 16 #[.agg #[.slice (some ⟨B, 0, none⟩) (H.length + 1) (H.length + 1)], .int .i64 (H.length : Int)] W fun e w' => e = .returned (.tuple #[.int .i64 ((d : Int) + 1), .int .i64 0]) ∧ Below W.heap.size W w' := fun W B hb hp => by
            have := Deep_p H.length hp (tab_up htab hb) hmX (by omega)
            rw [hXl, hd3] at this
            exact this
          have cD0 : ∀ W, Below w.heap.size w W → Calls Tryz.prog 16 #[.agg #[.slice A H.length cap], .int .i64 (k : Int)] W fun e w' => e = .returned (.tuple #[.int .i64 (d : Int), .int .i64 0]) ∧ Below W.heap.size W w' := fun W hb => by
            have := Deep_p k (hHp.up hb) (tab_up htab hb) hmay hk
            rw [← hd] at this
            exact this
          have cM2 : ∀ W B, Below w.heap.size w W → Hp W (some ⟨B, 0, none⟩) X (H.length + 1) → Calls Tryz.prog 14 #[.agg #[.slice (some ⟨B, 0, none⟩) (H.length + 1) (H.length + 1)], .int .i64 (H.length : Int), .int .i64 (l : Int)] W fun e w' => ∃ B2, e = .returned (.tuple #[.agg #[.slice (some ⟨B2, 0, none⟩) (H.length + 1 + 1) (H.length + 1 + 1)], .int .i64 ((H.length : Int) + 1), .int .i64 0]) ∧ Hp w' (some ⟨B2, 0, none⟩) Y (H.length + 1 + 1) ∧ Below W.heap.size W w' := fun W B hb hp =>
            (Make_y H.length l hp hXl (tab_up htab hb) hmX (by omega) (by omega) (by rw [hX]; exact gone_new k l) (by rw [hX, gone_old hl2]; exact hgg) (by omega)).mono fun e w' ⟨B2, h1, _, h3, h4⟩ => ⟨B2, h1, by rw [hY]; exact h3.hp, h4⟩
          have cR : ∀ W B, Below w.heap.size w W → Hp W (some ⟨B, 0, none⟩) Y (H.length + 1 + 1) → Calls Tryz.prog 9 #[.agg #[.slice (some ⟨B, 0, none⟩) (H.length + 1 + 1) (H.length + 1 + 1)], .int .i64 (H.length : Int)] W fun e w' => ∃ B2, e = .returned (.tuple #[.agg #[.slice (some ⟨B2, 0, none⟩) (H.length + 1 + 1) (H.length + 1 + 1)], .int .i64 0]) ∧ Hp w' (some ⟨B2, 0, none⟩) Z (H.length + 1 + 1) ∧ Below W.heap.size W w' := fun W B hb hp => by
            have := Revoke_p H.length hp (tab_up htab hb) hmY hnY
            rw [hYl] at this
            refine this.mono fun e w' ⟨h1, h2⟩ => ?_
            rcases h2 with ⟨h2, _⟩ | ⟨_, B2, h3, _, h4⟩
            · exact absurd z1 h2
            · exact ⟨B2, h3, by rw [hZ]; exact h4.hp, h1⟩
          have cW : ∀ W B, Below w.heap.size w W → Hp W (some ⟨B, 0, none⟩) Z (H.length + 1 + 1) → Calls Tryz.prog 11 #[.agg #[.slice (some ⟨B, 0, none⟩) (H.length + 1 + 1) (H.length + 1 + 1)], .int .i64 ((H.length : Int) + 1)] W fun e w' => ∃ (P : Option Addr) (pc : Nat), e = .returned (.tuple #[.slice P 1 pc, .bool true, .int .i64 0]) ∧ IRow w' P [(H.length : Int)] ∧ Below W.heap.size W w' := fun W B hb hp => by
            have := Down_p (H.length + 1) hp (tab_up htab hb) hmZ (by omega)
            rw [z2, z3, z4] at this
            exact this
          have cV2 : ∀ W B, Below w.heap.size w W → Hp W (some ⟨B, 0, none⟩) Z (H.length + 1 + 1) → Calls Tryz.prog 13 #[.agg #[.slice (some ⟨B, 0, none⟩) (H.length + 1 + 1) (H.length + 1 + 1)], .int .i64 (H.length : Int)] W fun e w' => e = .returned (.tuple #[.bool false, .int .i64 0]) ∧ Below W.heap.size W w' := fun W B hb hp => by
            have := Live_p H.length hp (tab_up htab hb) hmZ (by omega)
            rw [z2, z5] at this
            exact this
          have HK1 : Hid (∀ gx Bx W, Below w.heap.size w W → Kx w A H.length cap gx Bx H X W → Calls Tryz.prog 19 #[.agg #[.slice (some ⟨Bx, 0, none⟩) (H.length + 1) (H.length + 1)]] W fun e w' => e = .returned (.int .i64 0) ∧ Below W.heap.size W w') := Lib.hid fun gx Bx W hb hK => by
            have := Check_p hK.p (tab_up htab hb)
            rw [hXl, chk_ok hmX] at this
            exact this
          have HS1 : Hid (∀ gx Bx W, Below w.heap.size w W → Kx w A H.length cap gx Bx H X W → Calls Tryz.prog 20 #[.agg #[.slice (some ⟨Bx, 0, none⟩) H.length (H.length + 1)], .agg #[.slice A H.length cap]] W fun e w' => e = .returned (.bool true) ∧ Below W.heap.size W w') := Lib.hid fun gx Bx W hb hK =>
            sameTake_p hK.p hK.h rfl (by rw [hX, take_app]) (by omega) _
          have HK2 : Hid (∀ gx Bx gy By gz Bz W, Below w.heap.size w W → Kz w A H.length cap gx Bx gy By gz Bz H X Y Z W → Calls Tryz.prog 19 #[.agg #[.slice (some ⟨Bz, 0, none⟩) (H.length + 1 + 1) (H.length + 1 + 1)]] W fun e w' => e = .returned (.int .i64 0) ∧ Below W.heap.size W w') := Lib.hid fun gx Bx gy By gz Bz W hb hK => by
            have := Check_p hK.p (tab_up htab hb)
            rw [z2, chk_ok hmZ] at this
            exact this
          have HS2 : Hid (∀ gx Bx gy By gz Bz W, Below w.heap.size w W → Kz w A H.length cap gx Bx gy By gz Bz H X Y Z W → Calls Tryz.prog 20 #[.agg #[.slice (some ⟨Bz, 0, none⟩) H.length (H.length + 1 + 1)], .agg #[.slice A H.length cap]] W fun e w' => e = .returned (.bool true) ∧ Below W.heap.size W w') := Lib.hid fun gx Bx gy By gz Bz W hb hK =>
            sameTake_p hK.p hK.y.x.h rfl (by rw [z6]) (by omega) _
          have HS3 : Hid (∀ gx Bx gy By gz Bz W, Below w.heap.size w W → Kz w A H.length cap gx Bx gy By gz Bz H X Y Z W → Calls Tryz.prog 20 #[.agg #[.slice (some ⟨Bz, (H.length + 1) * 18, none⟩) 1 1], .agg #[.slice (some ⟨By, (H.length + 1) * 18, none⟩) 1 1]] W fun e w' => e = .returned (.bool true) ∧ Below W.heap.size W w') := Lib.hid fun gx Bx gy By gz Bz W hb hK =>
            sameDrop_p hK.p hK.y.p (by omega) (by rw [z7]) (by omega) _ _
          have HHp := Lib.hid hHp
          have h120z : (H.length : Int) ≤ 120 := by omega
          clear cM hH htab hm hl hI hsm hmay hHp hz hti hgi hgt hgg hk hl2 hXl hYl hmX hmY hmZ z1 z2 z3 z4 z5 z6 z7 hd hd3 hd2 hX hY hZ
          generalize H.length = n at *
          go_enter Tryz.func4, Tryz.ntmps4
          go_upto_region 12 with (first
            | (go_at_call 17; (with_reducible refine (cA _ HC.out.below).mono ?_); rintro e w1 ⟨rfl, h9⟩; have HC := Lib.hid (HC.out.up h9); have hq := HC.out.q; clear h9)
            | ((with_reducible refine h1_ld ?_ rfl rfl HC.out.h ?_); (rfl))
            | (go_at_call 18; (with_reducible refine (cL _ HC.out.below).mono ?_); rintro e w2 ⟨rfl, h9⟩; have HC := Lib.hid (HC.out.up h9); have hq := HC.out.q; clear h9)
            | (go_at_call 19; (with_reducible refine (cK _ HC.out.below).mono ?_); rintro e w3 ⟨rfl, h9⟩; have HC := Lib.hid (HC.out.up h9); have hq := HC.out.q; clear h9)
            | (go_at_call 14; (with_reducible refine (cM1 _ HC.out.below).mono ?_); rintro e w4 ⟨Bx, rfl, hp, h9⟩; have HC := Lib.hid (HC.out.up h9); have HP := Lib.hid hp; clear h9 hp)
            | ((with_reducible refine t_store (cs := #[.slice (some ⟨Bx, 0, none⟩) (n + 1) (n + 1)]) rfl rfl rfl rfl (heap_alloc_new w4 _) (hi1 _) ?_ (hc1 _ rfl) (vzero w4 _) (Nat.le_refl _) ?_); (rfl); intro W5 hb5 hW5 hO5 hz5; have HX : Hid (Kx w A n cap w4.heap.size Bx H X W5) := Lib.hid ⟨HC.out.up hb5, hW5, HHp.out.up (vb HC.out.below hb5), HP.out.up hb5⟩; clear hb5 hW5 hO5 hz5 HP HC hq)
            | ((with_reducible refine h1_ld ?_ rfl rfl HX.out.x ?_); (rfl))
            | ((with_reducible refine h1_ld ?_ rfl rfl HX.out.c.h ?_); (rfl))
            | (go_at_call 13; (with_reducible refine (cV1 _ _ HX.out.c.below HX.out.p).mono ?_); rintro e w6 ⟨rfl, h9⟩; have HX := Lib.hid (HX.out.up h9); clear h9)
            | (go_at_call 16; (with_reducible refine (cD1 _ _ HX.out.c.below HX.out.p).mono ?_); rintro e w7 ⟨rfl, h9⟩; have HX := Lib.hid (HX.out.up h9); clear h9)
            | (go_at_call 16; (with_reducible refine (cD0 _ HX.out.c.below).mono ?_); rintro e w8 ⟨rfl, h9⟩; have HX := Lib.hid (HX.out.up h9); clear h9))
          clear cA cL cK cM1 cV1 cD1 cD0
          generalize w4.heap.size = gx at *
          have cK1 := HK1.out gx Bx
          have cS1 := HS1.out gx Bx
          have hS : Kx w A n cap gx Bx H X _ := HX.out.up (Below.refl _ _).drew
          refine wp_region_held_drew (S := Kx w A n cap gx Bx H X) (by kernel_rfl) hS (fun hHeld => ?_)
          refine hH_take (i := 0) (v := .bool true) (d := 73) (l2 := #[true, false, false, false, false, false, false, false, false, false, false, false, false, false, false, false, false, false, false, false, false, false, false, false, false, false, false, false, false, false, false, false, false, false, false, false, false, false, false, false, false, false]) rfl (by kernel_rfl) (by kernel_rfl) (by kernel_rfl) (fun _ _ _ h => h) (by kernel_rfl) ?_ (by assumption) rfl (by kernel_rfl) ?_
          · intro w hSw; go_simp; (try with_reducible rfl)
          simp only [List.set]
          refine hH_take (i := 1) (v := .bool false) (d := 74) (l2 := #[true, true, false, false, false, false, false, false, false, false, false, false, false, false, false, false, false, false, false, false, false, false, false, false, false, false, false, false, false, false, false, false, false, false, false, false, false, false, false, false, false, false]) rfl (by kernel_rfl) (by kernel_rfl) (by kernel_rfl) (fun _ _ _ h => h) (by kernel_rfl) ?_ (by assumption) rfl (by kernel_rfl) ?_
          · intro w hSw; go_simp; (try with_reducible rfl)
          simp only [List.set]
          refine hH_take (i := 2) (v := .bool false) (d := 75) (l2 := #[true, true, true, false, false, false, false, false, false, false, false, false, false, false, false, false, false, false, false, false, false, false, false, false, false, false, false, false, false, false, false, false, false, false, false, false, false, false, false, false, false, false]) rfl (by kernel_rfl) (by kernel_rfl) (by kernel_rfl) (fun _ _ _ h => h) (by kernel_rfl) ?_ (by assumption) rfl (by kernel_rfl) ?_
          · intro w hSw; go_simp; (try with_reducible rfl)
          simp only [List.set]
          refine hH_take (i := 3) (v := .int .i64 0) (d := 76) (l2 := #[true, true, true, true, false, false, false, false, false, false, false, false, false, false, false, false, false, false, false, false, false, false, false, false, false, false, false, false, false, false, false, false, false, false, false, false, false, false, false, false, false, false]) rfl (by kernel_rfl) (by kernel_rfl) (by kernel_rfl) (fun _ _ _ h => h) (by kernel_rfl) ?_ (by assumption) rfl (by kernel_rfl) ?_
          · intro w hSw; go_simp; (try with_reducible rfl)
          simp only [List.set]
          refine hH_take (i := 4) (v := .bool false) (d := 77) (l2 := #[true, true, true, true, true, false, false, false, false, false, false, false, false, false, false, false, false, false, false, false, false, false, false, false, false, false, false, false, false, false, false, false, false, false, false, false, false, false, false, false, false, false]) rfl (by kernel_rfl) (by kernel_rfl) (by kernel_rfl) (fun _ _ _ h => h) (by kernel_rfl) ?_ (by assumption) rfl (by kernel_rfl) ?_
          · intro w hSw; go_simp; (try with_reducible rfl)
          simp only [List.set]
          refine hH_take (i := 5) (v := .bool false) (d := 78) (l2 := #[true, true, true, true, true, true, false, false, false, false, false, false, false, false, false, false, false, false, false, false, false, false, false, false, false, false, false, false, false, false, false, false, false, false, false, false, false, false, false, false, false, false]) rfl (by kernel_rfl) (by kernel_rfl) (by kernel_rfl) (fun _ _ _ h => h) (by kernel_rfl) ?_ (by assumption) rfl (by kernel_rfl) ?_
          · intro w hSw; go_simp; (try with_reducible rfl)
          simp only [List.set]
          refine hH_take (i := 6) (v := .bool false) (d := 79) (l2 := #[true, true, true, true, true, true, true, false, false, false, false, false, false, false, false, false, false, false, false, false, false, false, false, false, false, false, false, false, false, false, false, false, false, false, false, false, false, false, false, false, false, false]) rfl (by kernel_rfl) (by kernel_rfl) (by kernel_rfl) (fun _ _ _ h => h) (by kernel_rfl) ?_ (by assumption) rfl (by kernel_rfl) ?_
          · intro w hSw; go_simp; (try with_reducible rfl)
          simp only [List.set]
          refine hH_take (i := 7) (v := .int .i64 0) (d := 80) (l2 := #[true, true, true, true, true, true, true, true, false, false, false, false, false, false, false, false, false, false, false, false, false, false, false, false, false, false, false, false, false, false, false, false, false, false, false, false, false, false, false, false, false, false]) rfl (by kernel_rfl) (by kernel_rfl) (by kernel_rfl) (fun _ _ _ h => h) (by kernel_rfl) ?_ (by assumption) rfl (by kernel_rfl) ?_
          · intro w hSw; go_simp; (try with_reducible rfl)
          simp only [List.set]
          refine hH_take (i := 8) (v := .bool false) (d := 81) (l2 := #[true, true, true, true, true, true, true, true, true, false, false, false, false, false, false, false, false, false, false, false, false, false, false, false, false, false, false, false, false, false, false, false, false, false, false, false, false, false, false, false, false, false]) rfl (by kernel_rfl) (by kernel_rfl) (by kernel_rfl) (fun _ _ _ h => h) (by kernel_rfl) ?_ (by assumption) rfl (by kernel_rfl) ?_
          · intro w hSw; go_simp; (try with_reducible rfl)
          simp only [List.set]
          refine hH_take (i := 9) (v := .bool false) (d := 82) (l2 := #[true, true, true, true, true, true, true, true, true, true, false, false, false, false, false, false, false, false, false, false, false, false, false, false, false, false, false, false, false, false, false, false, false, false, false, false, false, false, false, false, false, false]) rfl (by kernel_rfl) (by kernel_rfl) (by kernel_rfl) (fun _ _ _ h => h) (by kernel_rfl) ?_ (by assumption) rfl (by kernel_rfl) ?_
          · intro w hSw; go_simp; (try with_reducible rfl)
          simp only [List.set]
          refine hH_take (i := 10) (v := .bool false) (d := 83) (l2 := #[true, true, true, true, true, true, true, true, true, true, true, false, false, false, false, false, false, false, false, false, false, false, false, false, false, false, false, false, false, false, false, false, false, false, false, false, false, false, false, false, false, false]) rfl (by kernel_rfl) (by kernel_rfl) (by kernel_rfl) (fun _ _ _ h => h) (by kernel_rfl) ?_ (by assumption) rfl (by kernel_rfl) ?_
          · intro w hSw; go_simp; (try with_reducible rfl)
          simp only [List.set]
          refine hH_take (i := 11) (v := .int .i64 0) (d := 84) (l2 := #[true, true, true, true, true, true, true, true, true, true, true, true, false, false, false, false, false, false, false, false, false, false, false, false, false, false, false, false, false, false, false, false, false, false, false, false, false, false, false, false, false, false]) rfl (by kernel_rfl) (by kernel_rfl) (by kernel_rfl) (fun _ _ _ h => h) (by kernel_rfl) ?_ (by assumption) rfl (by kernel_rfl) ?_
          · intro w hSw; go_simp; (try with_reducible rfl)
          simp only [List.set]
          refine hH_take (i := 12) (v := .bool false) (d := 85) (l2 := #[true, true, true, true, true, true, true, true, true, true, true, true, true, false, false, false, false, false, false, false, false, false, false, false, false, false, false, false, false, false, false, false, false, false, false, false, false, false, false, false, false, false]) rfl (by kernel_rfl) (by kernel_rfl) (by kernel_rfl) (fun _ _ _ h => h) (by kernel_rfl) ?_ (by assumption) rfl (by kernel_rfl) ?_
          · intro w hSw; go_simp; (try with_reducible rfl)
          simp only [List.set]
          refine hH_take (i := 13) (v := .bool false) (d := 86) (l2 := #[true, true, true, true, true, true, true, true, true, true, true, true, true, true, false, false, false, false, false, false, false, false, false, false, false, false, false, false, false, false, false, false, false, false, false, false, false, false, false, false, false, false]) rfl (by kernel_rfl) (by kernel_rfl) (by kernel_rfl) (fun _ _ _ h => h) (by kernel_rfl) ?_ (by assumption) rfl (by kernel_rfl) ?_
          · intro w hSw; go_simp; (try with_reducible rfl)
          simp only [List.set]
          refine hH_take (i := 14) (v := .bool false) (d := 87) (l2 := #[true, true, true, true, true, true, true, true, true, true, true, true, true, true, true, false, false, false, false, false, false, false, false, false, false, false, false, false, false, false, false, false, false, false, false, false, false, false, false, false, false, false]) rfl (by kernel_rfl) (by kernel_rfl) (by kernel_rfl) (fun _ _ _ h => h) (by kernel_rfl) ?_ (by assumption) rfl (by kernel_rfl) ?_
          · intro w hSw; go_simp; (try with_reducible rfl)
          simp only [List.set]
          refine hH_take (i := 15) (v := .int .i64 ((d : Int) + 1)) (d := 88) (l2 := #[true, true, true, true, true, true, true, true, true, true, true, true, true, true, true, true, false, false, false, false, false, false, false, false, false, false, false, false, false, false, false, false, false, false, false, false, false, false, false, false, false, false]) rfl (by kernel_rfl) (by kernel_rfl) (by kernel_rfl) (fun _ _ _ h => h) (by kernel_rfl) ?_ (by assumption) rfl (by kernel_rfl) ?_
          · intro w hSw; go_simp; (try with_reducible rfl)
          simp only [List.set]
          refine hH_take (i := 16) (v := .int .i64 (d : Int)) (d := 89) (l2 := #[true, true, true, true, true, true, true, true, true, true, true, true, true, true, true, true, true, false, false, false, false, false, false, false, false, false, false, false, false, false, false, false, false, false, false, false, false, false, false, false, false, false]) rfl (by kernel_rfl) (by kernel_rfl) (by kernel_rfl) (fun _ _ _ h => h) (by kernel_rfl) ?_ (by assumption) rfl (by kernel_rfl) ?_
          · intro w hSw; go_simp; (try with_reducible rfl)
          simp only [List.set]
          refine hH_take (i := 17) (v := .int .i64 ((d : Int) + 1)) (d := 90) (l2 := #[true, true, true, true, true, true, true, true, true, true, true, true, true, true, true, true, true, true, false, false, false, false, false, false, false, false, false, false, false, false, false, false, false, false, false, false, false, false, false, false, false, false]) rfl (by kernel_rfl) (by kernel_rfl) (by kernel_rfl) (fun _ _ _ h => h) (by kernel_rfl) ?_ (by assumption) rfl (by kernel_rfl) ?_
          · intro w hSw; go_simp; (try exact IntWalk.i64_in _ (by omega)); (try with_reducible rfl)
          simp only [List.set]
          refine hH_take (i := 18) (v := .bool false) (d := 91) (l2 := #[true, true, true, true, true, true, true, true, true, true, true, true, true, true, true, true, true, true, true, false, false, false, false, false, false, false, false, false, false, false, false, false, false, false, false, false, false, false, false, false, false, false]) rfl (by kernel_rfl) (by kernel_rfl) (by kernel_rfl) (fun _ _ _ h => h) (by kernel_rfl) ?_ (by assumption) rfl (by kernel_rfl) ?_
          · intro w hSw; go_simp; (try with_reducible rfl)
          simp only [List.set]
          refine hH_take (i := 19) (v := .bool false) (d := 92) (l2 := #[true, true, true, true, true, true, true, true, true, true, true, true, true, true, true, true, true, true, true, true, false, false, false, false, false, false, false, false, false, false, false, false, false, false, false, false, false, false, false, false, false, false]) rfl (by kernel_rfl) (by kernel_rfl) (by kernel_rfl) (fun _ _ _ h => h) (by kernel_rfl) ?_ (by assumption) rfl (by kernel_rfl) ?_
          · intro w hSw; go_simp; (try with_reducible rfl)
          simp only [List.set]
          refine hH_take (i := 20) (v := .bool false) (d := 93) (l2 := #[true, true, true, true, true, true, true, true, true, true, true, true, true, true, true, true, true, true, true, true, true, false, false, false, false, false, false, false, false, false, false, false, false, false, false, false, false, false, false, false, false, false]) rfl (by kernel_rfl) (by kernel_rfl) (by kernel_rfl) (fun _ _ _ h => h) (by kernel_rfl) ?_ (by assumption) rfl (by kernel_rfl) ?_
          · intro w hSw; go_simp; (try with_reducible rfl)
          simp only [List.set]
          refine hH_take (i := 21) (v := .int .i64 (n : Int)) (d := 94) (l2 := #[true, true, true, true, true, true, true, true, true, true, true, true, true, true, true, true, true, true, true, true, true, true, false, false, false, false, false, false, false, false, false, false, false, false, false, false, false, false, false, false, false, false]) rfl (by kernel_rfl) (by kernel_rfl) (by kernel_rfl) (fun _ _ _ h => h) (by kernel_rfl) ?_ (by assumption) rfl (by kernel_rfl) ?_
          · intro w hSw; go_simp; (try with_reducible rfl)
          simp only [List.set]
          refine hH_take (i := 22) (v := .pointer (some ⟨w.heap.size, 0, none⟩)) (d := 95) (l2 := #[true, true, true, true, true, true, true, true, true, true, true, true, true, true, true, true, true, true, true, true, true, true, true, false, false, false, false, false, false, false, false, false, false, false, false, false, false, false, false, false, false, false]) rfl (by kernel_rfl) (by kernel_rfl) (by kernel_rfl) (fun _ _ _ h => h) (by kernel_rfl) ?_ (by assumption) rfl (by kernel_rfl) ?_
          · intro w hSw; go_simp; (try with_reducible rfl)
          simp only [List.set]
          refine hH_take (i := 23) (v := .slice A n cap) (d := 96) (l2 := #[true, true, true, true, true, true, true, true, true, true, true, true, true, true, true, true, true, true, true, true, true, true, true, true, false, false, false, false, false, false, false, false, false, false, false, false, false, false, false, false, false, false]) rfl (by kernel_rfl) (by kernel_rfl) (by kernel_rfl) (fun _ _ _ h => h) (by kernel_rfl) ?_ (by assumption) rfl (by kernel_rfl) ?_
          · intro w hSw; have q := hSw.c.q; go_simp; (try with_reducible rfl)
          simp only [List.set]
          refine hH_take (i := 24) (v := .int .i64 (n : Int)) (d := 97) (l2 := #[true, true, true, true, true, true, true, true, true, true, true, true, true, true, true, true, true, true, true, true, true, true, true, true, true, false, false, false, false, false, false, false, false, false, false, false, false, false, false, false, false, false]) rfl (by kernel_rfl) (by kernel_rfl) (by kernel_rfl) (fun _ _ _ h => h) (by kernel_rfl) ?_ (by assumption) rfl (by kernel_rfl) ?_
          · intro w hSw; go_simp; (try with_reducible rfl)
          simp only [List.set]
          refine hH_take (i := 25) (v := .bool false) (d := 98) (l2 := #[true, true, true, true, true, true, true, true, true, true, true, true, true, true, true, true, true, true, true, true, true, true, true, true, true, true, false, false, false, false, false, false, false, false, false, false, false, false, false, false, false, false]) rfl (by kernel_rfl) (by kernel_rfl) (by kernel_rfl) (fun _ _ _ h => h) (by kernel_rfl) ?_ (by assumption) rfl (by kernel_rfl) ?_
          · intro w hSw; go_simp; (try with_reducible rfl)
          simp only [List.set]
          refine hH_take (i := 26) (v := .bool false) (d := 99) (l2 := #[true, true, true, true, true, true, true, true, true, true, true, true, true, true, true, true, true, true, true, true, true, true, true, true, true, true, true, false, false, false, false, false, false, false, false, false, false, false, false, false, false, false]) rfl (by kernel_rfl) (by kernel_rfl) (by kernel_rfl) (fun _ _ _ h => h) (by kernel_rfl) ?_ (by assumption) rfl (by kernel_rfl) ?_
          · intro w hSw; go_simp; (try with_reducible rfl)
          simp only [List.set]
          refine hH_take (i := 27) (v := .bool false) (d := 100) (l2 := #[true, true, true, true, true, true, true, true, true, true, true, true, true, true, true, true, true, true, true, true, true, true, true, true, true, true, true, true, false, false, false, false, false, false, false, false, false, false, false, false, false, false]) rfl (by kernel_rfl) (by kernel_rfl) (by kernel_rfl) (fun _ _ _ h => h) (by kernel_rfl) ?_ (by assumption) rfl (by kernel_rfl) ?_
          · intro w hSw; go_simp; (try with_reducible rfl)
          simp only [List.set]
          refine hH_take (i := 28) (v := .agg #[.slice (some ⟨Bx, 0, none⟩) (n + 1) (n + 1)]) (d := 101) (l2 := #[true, true, true, true, true, true, true, true, true, true, true, true, true, true, true, true, true, true, true, true, true, true, true, true, true, true, true, true, true, false, false, false, false, false, false, false, false, false, false, false, false, false]) rfl (by kernel_rfl) (by kernel_rfl) (by kernel_rfl) (fun _ _ _ h => h) (by kernel_rfl) ?_ (by assumption) rfl (by kernel_rfl) ?_
          · intro w hSw; exact ex_load_at (h1_load hSw.x) rfl rfl
          simp only [List.set]
          refine wpAnyH_ready (rs := [29]) (by kernel_rfl) (by simp) ?_
          refine AllReadyH.cons rfl (fun K hK => ?_) AllReadyH.nil
          go_simp
          go_at_call 19
          (with_reducible refine (cK1 _ hS.c.below hS).mono ?_)
          rintro e wc ⟨rfl, h1⟩
          have hS := hS.up h1
          clear h1
          refine hK.out _ _ hS (fun hHeld => ?_)
          clear hK K
          refine hH_take (i := 30) (v := .bool false) (d := 103) (l2 := #[true, true, true, true, true, true, true, true, true, true, true, true, true, true, true, true, true, true, true, true, true, true, true, true, true, true, true, true, true, true, true, false, false, false, false, false, false, false, false, false, false, false]) rfl (by kernel_rfl) (by kernel_rfl) (by kernel_rfl) (fun _ _ _ h => h) (by kernel_rfl) ?_ (by assumption) rfl (by kernel_rfl) ?_
          · intro w hSw; go_simp; (try with_reducible rfl)
          simp only [List.set]
          refine hH_take (i := 31) (v := .bool false) (d := 104) (l2 := #[true, true, true, true, true, true, true, true, true, true, true, true, true, true, true, true, true, true, true, true, true, true, true, true, true, true, true, true, true, true, true, true, false, false, false, false, false, false, false, false, false, false]) rfl (by kernel_rfl) (by kernel_rfl) (by kernel_rfl) (fun _ _ _ h => h) (by kernel_rfl) ?_ (by assumption) rfl (by kernel_rfl) ?_
          · intro w hSw; go_simp; (try with_reducible rfl)
          simp only [List.set]
          refine hH_take (i := 32) (v := .bool false) (d := 105) (l2 := #[true, true, true, true, true, true, true, true, true, true, true, true, true, true, true, true, true, true, true, true, true, true, true, true, true, true, true, true, true, true, true, true, true, false, false, false, false, false, false, false, false, false]) rfl (by kernel_rfl) (by kernel_rfl) (by kernel_rfl) (fun _ _ _ h => h) (by kernel_rfl) ?_ (by assumption) rfl (by kernel_rfl) ?_
          · intro w hSw; go_simp; (try with_reducible rfl)
          simp only [List.set]
          refine hH_take (i := 33) (v := .pointer (some ⟨gx, 0, none⟩)) (d := 106) (l2 := #[true, true, true, true, true, true, true, true, true, true, true, true, true, true, true, true, true, true, true, true, true, true, true, true, true, true, true, true, true, true, true, true, true, true, false, false, false, false, false, false, false, false]) rfl (by kernel_rfl) (by kernel_rfl) (by kernel_rfl) (fun _ _ _ h => h) (by kernel_rfl) ?_ (by assumption) rfl (by kernel_rfl) ?_
          · intro w hSw; go_simp; (try with_reducible rfl)
          simp only [List.set]
          refine hH_take (i := 34) (v := .slice (some ⟨Bx, 0, none⟩) (n + 1) (n + 1)) (d := 107) (l2 := #[true, true, true, true, true, true, true, true, true, true, true, true, true, true, true, true, true, true, true, true, true, true, true, true, true, true, true, true, true, true, true, true, true, true, true, false, false, false, false, false, false, false]) rfl (by kernel_rfl) (by kernel_rfl) (by kernel_rfl) (fun _ _ _ h => h) (by kernel_rfl) ?_ (by assumption) rfl (by kernel_rfl) ?_
          · intro w hSw; have q := (vcells hSw.x 0).trans rfl; go_simp; (try with_reducible rfl)
          simp only [List.set]
          refine hH_take (i := 35) (v := .int .i64 (n : Int)) (d := 108) (l2 := #[true, true, true, true, true, true, true, true, true, true, true, true, true, true, true, true, true, true, true, true, true, true, true, true, true, true, true, true, true, true, true, true, true, true, true, true, false, false, false, false, false, false]) rfl (by kernel_rfl) (by kernel_rfl) (by kernel_rfl) (fun _ _ _ h => h) (by kernel_rfl) ?_ (by assumption) rfl (by kernel_rfl) ?_
          · intro w hSw; go_simp; (try with_reducible rfl)
          simp only [List.set]
          refine hH_take (i := 36) (v := .slice (some ⟨Bx, 0, none⟩) n (n + 1)) (d := 109) (l2 := #[true, true, true, true, true, true, true, true, true, true, true, true, true, true, true, true, true, true, true, true, true, true, true, true, true, true, true, true, true, true, true, true, true, true, true, true, true, false, false, false, false, false]) rfl (by kernel_rfl) (by kernel_rfl) (by kernel_rfl) (fun _ _ _ h => h) (by kernel_rfl) ?_ (by assumption) rfl (by kernel_rfl) ?_
          · intro w hSw; go_simp; (try (intro hh; omega)); (try with_reducible rfl)
          simp only [List.set]
          refine hH_take (i := 37) (v := .agg #[.slice (some ⟨Bx, 0, none⟩) n (n + 1)]) (d := 110) (l2 := #[true, true, true, true, true, true, true, true, true, true, true, true, true, true, true, true, true, true, true, true, true, true, true, true, true, true, true, true, true, true, true, true, true, true, true, true, true, true, false, false, false, false]) rfl (by kernel_rfl) (by kernel_rfl) (by kernel_rfl) (fun _ _ _ h => h) (by kernel_rfl) ?_ (by assumption) rfl (by kernel_rfl) ?_
          · intro w hSw; go_simp; (try with_reducible rfl)
          simp only [List.set]
          refine hH_take (i := 38) (v := .agg #[.slice A n cap]) (d := 111) (l2 := #[true, true, true, true, true, true, true, true, true, true, true, true, true, true, true, true, true, true, true, true, true, true, true, true, true, true, true, true, true, true, true, true, true, true, true, true, true, true, true, false, false, false]) rfl (by kernel_rfl) (by kernel_rfl) (by kernel_rfl) (fun _ _ _ h => h) (by kernel_rfl) ?_ (by assumption) rfl (by kernel_rfl) ?_
          · intro w hSw; exact ex_load_at (h1_load hSw.c.h) rfl rfl
          simp only [List.set]
          refine wpAnyH_ready (rs := [39]) (by kernel_rfl) (by simp) ?_
          refine AllReadyH.cons rfl (fun K hK => ?_) AllReadyH.nil
          go_simp
          go_at_call 20
          (with_reducible refine (cS1 _ hS.c.below hS).mono ?_)
          rintro e wc ⟨rfl, h1⟩
          have hS := hS.up h1
          clear h1
          refine hK.out _ _ hS (fun hHeld => ?_)
          clear hK K
          refine hH_take (i := 40) (v := .bool false) (d := 113) (l2 := #[true, true, true, true, true, true, true, true, true, true, true, true, true, true, true, true, true, true, true, true, true, true, true, true, true, true, true, true, true, true, true, true, true, true, true, true, true, true, true, true, true, false]) rfl (by kernel_rfl) (by kernel_rfl) (by kernel_rfl) (fun _ _ _ h => h) (by kernel_rfl) ?_ (by assumption) rfl (by kernel_rfl) ?_
          · intro w hSw; go_simp; (try with_reducible rfl)
          simp only [List.set]
          refine hH_take (i := 41) (v := .bool false) (d := 114) (l2 := #[true, true, true, true, true, true, true, true, true, true, true, true, true, true, true, true, true, true, true, true, true, true, true, true, true, true, true, true, true, true, true, true, true, true, true, true, true, true, true, true, true, true]) rfl (by kernel_rfl) (by kernel_rfl) (by kernel_rfl) (fun _ _ _ h => h) (by kernel_rfl) ?_ (by assumption) rfl (by kernel_rfl) ?_
          · intro w hSw; go_simp; (try with_reducible rfl)
          simp only [List.set]
          refine wpAnyH_done (by kernel_rfl) ?_ _
          have HX := Lib.hid hS
          clear hS hHeld cK1 cS1 HK1 HS1
          go_upto_region 20 with (first
            | ((with_reducible refine h1_ld ?_ rfl rfl HX.out.x ?_); (rfl))
            | (go_at_call 14; (with_reducible refine (cM2 _ _ HX.out.c.below HX.out.p).mono ?_); rintro e w9 ⟨By, rfl, hp, h9⟩; have HX := Lib.hid (HX.out.up h9); have HP := Lib.hid hp; clear h9 hp)
            | ((with_reducible refine t_store (cs := #[.slice (some ⟨By, 0, none⟩) (n + 1 + 1) (n + 1 + 1)]) rfl rfl rfl rfl (heap_alloc_new w9 _) (hi1 _) ?_ (hc1 _ rfl) (vzero w9 _) (Nat.le_refl _) ?_); (rfl); intro W10 hb10 hW10 hO10 hz10; have HY : Hid (Ky2 w A n cap gx Bx w9.heap.size By H X Y W10) := Lib.hid ⟨HX.out.up hb10, hW10, HP.out.up hb10⟩; clear hb10 hW10 hO10 hz10 HP HX)
            | ((with_reducible refine h1_ld ?_ rfl rfl HY.out.y ?_); (rfl))
            | (go_at_call 9; (with_reducible refine (cR _ _ HY.out.x.c.below HY.out.p).mono ?_); rintro e w11 ⟨Bz, rfl, hp, h9⟩; have HY := Lib.hid (HY.out.up h9); have HP := Lib.hid hp; clear h9 hp)
            | ((with_reducible refine t_store (cs := #[.slice (some ⟨Bz, 0, none⟩) (n + 1 + 1) (n + 1 + 1)]) rfl rfl rfl rfl (heap_alloc_new w11 _) (hi1 _) ?_ (hc1 _ rfl) (vzero w11 _) (Nat.le_refl _) ?_); (rfl); intro W12 hb12 hW12 hO12 hz12; have HZ : Hid (Kz w A n cap gx Bx w9.heap.size By w11.heap.size Bz H X Y Z W12) := Lib.hid ⟨HY.out.up hb12, hW12, HP.out.up hb12⟩; clear hb12 hW12 hO12 hz12 HP HY)
            | ((with_reducible refine h1_ld ?_ rfl rfl HZ.out.z ?_); (rfl))
            | (go_at_call 11; (with_reducible refine (cW _ _ HZ.out.y.x.c.below HZ.out.p).mono ?_); rintro e w13 ⟨P, pc, rfl, hI, h9⟩; have HL : Hid (Kl w A n cap gx Bx w9.heap.size By w11.heap.size Bz H X Y Z P w13) := Lib.hid ⟨HZ.out.up h9, hI⟩; clear h9 hI HZ)
            | ((with_reducible refine h1_ld ?_ rfl rfl HL.out.z.z ?_); (rfl))
            | (go_at_call 13; (with_reducible refine (cV2 _ _ HL.out.z.y.x.c.below HL.out.z.p).mono ?_); rintro e w14 ⟨rfl, h9⟩; have HL := Lib.hid (HL.out.up h9); clear h9))
          clear cM2 cR cW cV2
          generalize w9.heap.size = gy at *
          generalize w11.heap.size = gz at *
          have cK2 := HK2.out gx Bx gy By gz Bz
          have cS2 := HS2.out gx Bx gy By gz Bz
          have cS3 := HS3.out gx Bx gy By gz Bz
          obtain ⟨a, rfl, _⟩ := HL.out.l (by simp)
          have hS : Kl w A n cap gx Bx gy By gz Bz H X Y Z (some a) _ := HL.out.up (Below.refl _ _).drew
          refine wp_region_held_drew (S := Kl w A n cap gx Bx gy By gz Bz H X Y Z (some a)) (by kernel_rfl) hS (fun hHeld => ?_)
          refine hH_take (i := 0) (v := .int .i64 0) (d := 149) (l2 := #[true, false, false, false, false, false, false, false, false, false, false, false, false, false, false, false, false, false, false, false, false, false, false, false, false, false, false, false, false, false, false, false, false, false, false, false, false, false, false, false, false, false, false, false, false, false, false, false, false, false, false, false]) rfl (by kernel_rfl) (by kernel_rfl) (by kernel_rfl) (fun _ _ _ h => h) (by kernel_rfl) ?_ (by assumption) rfl (by kernel_rfl) ?_
          · intro w hSw; go_simp; (try with_reducible rfl)
          simp only [List.set]
          refine hH_take (i := 1) (v := .bool false) (d := 150) (l2 := #[true, true, false, false, false, false, false, false, false, false, false, false, false, false, false, false, false, false, false, false, false, false, false, false, false, false, false, false, false, false, false, false, false, false, false, false, false, false, false, false, false, false, false, false, false, false, false, false, false, false, false, false]) rfl (by kernel_rfl) (by kernel_rfl) (by kernel_rfl) (fun _ _ _ h => h) (by kernel_rfl) ?_ (by assumption) rfl (by kernel_rfl) ?_
          · intro w hSw; go_simp; (try with_reducible rfl)
          simp only [List.set]
          refine hH_take (i := 2) (v := .bool false) (d := 151) (l2 := #[true, true, true, false, false, false, false, false, false, false, false, false, false, false, false, false, false, false, false, false, false, false, false, false, false, false, false, false, false, false, false, false, false, false, false, false, false, false, false, false, false, false, false, false, false, false, false, false, false, false, false, false]) rfl (by kernel_rfl) (by kernel_rfl) (by kernel_rfl) (fun _ _ _ h => h) (by kernel_rfl) ?_ (by assumption) rfl (by kernel_rfl) ?_
          · intro w hSw; go_simp; (try with_reducible rfl)
          simp only [List.set]
          refine hH_take (i := 3) (v := .int .i64 0) (d := 152) (l2 := #[true, true, true, true, false, false, false, false, false, false, false, false, false, false, false, false, false, false, false, false, false, false, false, false, false, false, false, false, false, false, false, false, false, false, false, false, false, false, false, false, false, false, false, false, false, false, false, false, false, false, false, false]) rfl (by kernel_rfl) (by kernel_rfl) (by kernel_rfl) (fun _ _ _ h => h) (by kernel_rfl) ?_ (by assumption) rfl (by kernel_rfl) ?_
          · intro w hSw; go_simp; (try with_reducible rfl)
          simp only [List.set]
          refine hH_take (i := 4) (v := .bool false) (d := 153) (l2 := #[true, true, true, true, true, false, false, false, false, false, false, false, false, false, false, false, false, false, false, false, false, false, false, false, false, false, false, false, false, false, false, false, false, false, false, false, false, false, false, false, false, false, false, false, false, false, false, false, false, false, false, false]) rfl (by kernel_rfl) (by kernel_rfl) (by kernel_rfl) (fun _ _ _ h => h) (by kernel_rfl) ?_ (by assumption) rfl (by kernel_rfl) ?_
          · intro w hSw; go_simp; (try with_reducible rfl)
          simp only [List.set]
          refine hH_take (i := 5) (v := .bool false) (d := 154) (l2 := #[true, true, true, true, true, true, false, false, false, false, false, false, false, false, false, false, false, false, false, false, false, false, false, false, false, false, false, false, false, false, false, false, false, false, false, false, false, false, false, false, false, false, false, false, false, false, false, false, false, false, false, false]) rfl (by kernel_rfl) (by kernel_rfl) (by kernel_rfl) (fun _ _ _ h => h) (by kernel_rfl) ?_ (by assumption) rfl (by kernel_rfl) ?_
          · intro w hSw; go_simp; (try with_reducible rfl)
          simp only [List.set]
          refine hH_take (i := 6) (v := .bool false) (d := 155) (l2 := #[true, true, true, true, true, true, true, false, false, false, false, false, false, false, false, false, false, false, false, false, false, false, false, false, false, false, false, false, false, false, false, false, false, false, false, false, false, false, false, false, false, false, false, false, false, false, false, false, false, false, false, false]) rfl (by kernel_rfl) (by kernel_rfl) (by kernel_rfl) (fun _ _ _ h => h) (by kernel_rfl) ?_ (by assumption) rfl (by kernel_rfl) ?_
          · intro w hSw; go_simp; (try with_reducible rfl)
          simp only [List.set]
          refine hH_take (i := 7) (v := .int .i64 0) (d := 156) (l2 := #[true, true, true, true, true, true, true, true, false, false, false, false, false, false, false, false, false, false, false, false, false, false, false, false, false, false, false, false, false, false, false, false, false, false, false, false, false, false, false, false, false, false, false, false, false, false, false, false, false, false, false, false]) rfl (by kernel_rfl) (by kernel_rfl) (by kernel_rfl) (fun _ _ _ h => h) (by kernel_rfl) ?_ (by assumption) rfl (by kernel_rfl) ?_
          · intro w hSw; go_simp; (try with_reducible rfl)
          simp only [List.set]
          refine hH_take (i := 8) (v := .bool false) (d := 157) (l2 := #[true, true, true, true, true, true, true, true, true, false, false, false, false, false, false, false, false, false, false, false, false, false, false, false, false, false, false, false, false, false, false, false, false, false, false, false, false, false, false, false, false, false, false, false, false, false, false, false, false, false, false, false]) rfl (by kernel_rfl) (by kernel_rfl) (by kernel_rfl) (fun _ _ _ h => h) (by kernel_rfl) ?_ (by assumption) rfl (by kernel_rfl) ?_
          · intro w hSw; go_simp; (try with_reducible rfl)
          simp only [List.set]
          refine hH_take (i := 9) (v := .bool false) (d := 158) (l2 := #[true, true, true, true, true, true, true, true, true, true, false, false, false, false, false, false, false, false, false, false, false, false, false, false, false, false, false, false, false, false, false, false, false, false, false, false, false, false, false, false, false, false, false, false, false, false, false, false, false, false, false, false]) rfl (by kernel_rfl) (by kernel_rfl) (by kernel_rfl) (fun _ _ _ h => h) (by kernel_rfl) ?_ (by assumption) rfl (by kernel_rfl) ?_
          · intro w hSw; go_simp; (try with_reducible rfl)
          simp only [List.set]
          refine hH_take (i := 10) (v := .bool false) (d := 159) (l2 := #[true, true, true, true, true, true, true, true, true, true, true, false, false, false, false, false, false, false, false, false, false, false, false, false, false, false, false, false, false, false, false, false, false, false, false, false, false, false, false, false, false, false, false, false, false, false, false, false, false, false, false, false]) rfl (by kernel_rfl) (by kernel_rfl) (by kernel_rfl) (fun _ _ _ h => h) (by kernel_rfl) ?_ (by assumption) rfl (by kernel_rfl) ?_
          · intro w hSw; go_simp; (try with_reducible rfl)
          simp only [List.set]
          refine hH_take (i := 11) (v := .bool false) (d := 160) (l2 := #[true, true, true, true, true, true, true, true, true, true, true, true, false, false, false, false, false, false, false, false, false, false, false, false, false, false, false, false, false, false, false, false, false, false, false, false, false, false, false, false, false, false, false, false, false, false, false, false, false, false, false, false]) rfl (by kernel_rfl) (by kernel_rfl) (by kernel_rfl) (fun _ _ _ h => h) (by kernel_rfl) ?_ (by assumption) rfl (by kernel_rfl) ?_
          · intro w hSw; go_simp; (try with_reducible rfl)
          simp only [List.set]
          refine hH_take (i := 12) (v := .bool false) (d := 161) (l2 := #[true, true, true, true, true, true, true, true, true, true, true, true, true, false, false, false, false, false, false, false, false, false, false, false, false, false, false, false, false, false, false, false, false, false, false, false, false, false, false, false, false, false, false, false, false, false, false, false, false, false, false, false]) rfl (by kernel_rfl) (by kernel_rfl) (by kernel_rfl) (fun _ _ _ h => h) (by kernel_rfl) ?_ (by assumption) rfl (by kernel_rfl) ?_
          · intro w hSw; go_simp; (try with_reducible rfl)
          simp only [List.set]
          refine hH_take (i := 13) (v := .bool false) (d := 162) (l2 := #[true, true, true, true, true, true, true, true, true, true, true, true, true, true, false, false, false, false, false, false, false, false, false, false, false, false, false, false, false, false, false, false, false, false, false, false, false, false, false, false, false, false, false, false, false, false, false, false, false, false, false, false]) rfl (by kernel_rfl) (by kernel_rfl) (by kernel_rfl) (fun _ _ _ h => h) (by kernel_rfl) ?_ (by assumption) rfl (by kernel_rfl) ?_
          · intro w hSw; go_simp; (try with_reducible rfl)
          simp only [List.set]
          refine hH_take (i := 14) (v := .bool true) (d := 163) (l2 := #[true, true, true, true, true, true, true, true, true, true, true, true, true, true, true, false, false, false, false, false, false, false, false, false, false, false, false, false, false, false, false, false, false, false, false, false, false, false, false, false, false, false, false, false, false, false, false, false, false, false, false, false]) rfl (by kernel_rfl) (by kernel_rfl) (by kernel_rfl) (fun _ _ _ h => h) (by kernel_rfl) ?_ (by assumption) rfl (by kernel_rfl) ?_
          · intro w hSw; go_simp; (try with_reducible rfl)
          simp only [List.set]
          refine hH_take (i := 15) (v := .bool false) (d := 164) (l2 := #[true, true, true, true, true, true, true, true, true, true, true, true, true, true, true, true, false, false, false, false, false, false, false, false, false, false, false, false, false, false, false, false, false, false, false, false, false, false, false, false, false, false, false, false, false, false, false, false, false, false, false, false]) rfl (by kernel_rfl) (by kernel_rfl) (by kernel_rfl) (fun _ _ _ h => h) (by kernel_rfl) ?_ (by assumption) rfl (by kernel_rfl) ?_
          · intro w hSw; go_simp; (try with_reducible rfl)
          simp only [List.set]
          refine hH_take (i := 16) (v := .bool false) (d := 165) (l2 := #[true, true, true, true, true, true, true, true, true, true, true, true, true, true, true, true, true, false, false, false, false, false, false, false, false, false, false, false, false, false, false, false, false, false, false, false, false, false, false, false, false, false, false, false, false, false, false, false, false, false, false, false]) rfl (by kernel_rfl) (by kernel_rfl) (by kernel_rfl) (fun _ _ _ h => h) (by kernel_rfl) ?_ (by assumption) rfl (by kernel_rfl) ?_
          · intro w hSw; go_simp; (try with_reducible rfl)
          simp only [List.set]
          refine hH_take (i := 17) (v := .bool false) (d := 166) (l2 := #[true, true, true, true, true, true, true, true, true, true, true, true, true, true, true, true, true, true, false, false, false, false, false, false, false, false, false, false, false, false, false, false, false, false, false, false, false, false, false, false, false, false, false, false, false, false, false, false, false, false, false, false]) rfl (by kernel_rfl) (by kernel_rfl) (by kernel_rfl) (fun _ _ _ h => h) (by kernel_rfl) ?_ (by assumption) rfl (by kernel_rfl) ?_
          · intro w hSw; go_simp; (try with_reducible rfl)
          simp only [List.set]
          refine hH_take (i := 18) (v := .slice (some a) 1 pc) (d := 167) (l2 := #[true, true, true, true, true, true, true, true, true, true, true, true, true, true, true, true, true, true, true, false, false, false, false, false, false, false, false, false, false, false, false, false, false, false, false, false, false, false, false, false, false, false, false, false, false, false, false, false, false, false, false, false]) rfl (by kernel_rfl) (by kernel_rfl) (by kernel_rfl) (fun _ _ _ h => h) (by kernel_rfl) ?_ (by assumption) rfl (by kernel_rfl) ?_
          · intro w hSw; go_simp; (try with_reducible rfl)
          simp only [List.set]
          refine hH_take (i := 19) (v := .int .i64 1) (d := 168) (l2 := #[true, true, true, true, true, true, true, true, true, true, true, true, true, true, true, true, true, true, true, true, false, false, false, false, false, false, false, false, false, false, false, false, false, false, false, false, false, false, false, false, false, false, false, false, false, false, false, false, false, false, false, false]) rfl (by kernel_rfl) (by kernel_rfl) (by kernel_rfl) (fun _ _ _ h => h) (by kernel_rfl) ?_ (by assumption) rfl (by kernel_rfl) ?_
          · intro w hSw; go_simp; (try with_reducible rfl); (try simp)
          simp only [List.set]
          refine hH_take (i := 20) (v := .bool false) (d := 169) (l2 := #[true, true, true, true, true, true, true, true, true, true, true, true, true, true, true, true, true, true, true, true, true, false, false, false, false, false, false, false, false, false, false, false, false, false, false, false, false, false, false, false, false, false, false, false, false, false, false, false, false, false, false, false]) rfl (by kernel_rfl) (by kernel_rfl) (by kernel_rfl) (fun _ _ _ h => h) (by kernel_rfl) ?_ (by assumption) rfl (by kernel_rfl) ?_
          · intro w hSw; go_simp; (try with_reducible rfl)
          simp only [List.set]
          refine hH_take (i := 21) (v := .bool false) (d := 170) (l2 := #[true, true, true, true, true, true, true, true, true, true, true, true, true, true, true, true, true, true, true, true, true, true, false, false, false, false, false, false, false, false, false, false, false, false, false, false, false, false, false, false, false, false, false, false, false, false, false, false, false, false, false, false]) rfl (by kernel_rfl) (by kernel_rfl) (by kernel_rfl) (fun _ _ _ h => h) (by kernel_rfl) ?_ (by assumption) rfl (by kernel_rfl) ?_
          · intro w hSw; go_simp; (try with_reducible rfl)
          simp only [List.set]
          refine hH_take (i := 22) (v := .bool false) (d := 171) (l2 := #[true, true, true, true, true, true, true, true, true, true, true, true, true, true, true, true, true, true, true, true, true, true, true, false, false, false, false, false, false, false, false, false, false, false, false, false, false, false, false, false, false, false, false, false, false, false, false, false, false, false, false, false]) rfl (by kernel_rfl) (by kernel_rfl) (by kernel_rfl) (fun _ _ _ h => h) (by kernel_rfl) ?_ (by assumption) rfl (by kernel_rfl) ?_
          · intro w hSw; go_simp; (try with_reducible rfl)
          simp only [List.set]
          refine hH_take (i := 23) (v := .slice (some a) 1 pc) (d := 172) (l2 := #[true, true, true, true, true, true, true, true, true, true, true, true, true, true, true, true, true, true, true, true, true, true, true, true, false, false, false, false, false, false, false, false, false, false, false, false, false, false, false, false, false, false, false, false, false, false, false, false, false, false, false, false]) rfl (by kernel_rfl) (by kernel_rfl) (by kernel_rfl) (fun _ _ _ h => h) (by kernel_rfl) ?_ (by assumption) rfl (by kernel_rfl) ?_
          · intro w hSw; go_simp; (try with_reducible rfl)
          simp only [List.set]
          refine hH_take (i := 24) (v := .pointer (some a)) (d := 173) (l2 := #[true, true, true, true, true, true, true, true, true, true, true, true, true, true, true, true, true, true, true, true, true, true, true, true, true, false, false, false, false, false, false, false, false, false, false, false, false, false, false, false, false, false, false, false, false, false, false, false, false, false, false, false]) rfl (by kernel_rfl) (by kernel_rfl) (by kernel_rfl) (fun _ _ _ h => h) (by kernel_rfl) ?_ (by assumption) rfl (by kernel_rfl) ?_
          · intro w hSw; go_simp; (try with_reducible rfl)
          simp only [List.set]
          refine hH_take (i := 25) (v := .int .i64 (n : Int)) (d := 174) (l2 := #[true, true, true, true, true, true, true, true, true, true, true, true, true, true, true, true, true, true, true, true, true, true, true, true, true, true, false, false, false, false, false, false, false, false, false, false, false, false, false, false, false, false, false, false, false, false, false, false, false, false, false, false]) rfl (by kernel_rfl) (by kernel_rfl) (by kernel_rfl) (fun _ _ _ h => h) (by kernel_rfl) ?_ (by assumption) rfl (by kernel_rfl) ?_
          · intro w hSw; have q := kl_at hSw.l; go_simp; (try with_reducible rfl)
          simp only [List.set]
          refine hH_take (i := 26) (v := .int .i64 (n : Int)) (d := 175) (l2 := #[true, true, true, true, true, true, true, true, true, true, true, true, true, true, true, true, true, true, true, true, true, true, true, true, true, true, true, false, false, false, false, false, false, false, false, false, false, false, false, false, false, false, false, false, false, false, false, false, false, false, false, false]) rfl (by kernel_rfl) (by kernel_rfl) (by kernel_rfl) (fun _ _ _ h => h) (by kernel_rfl) ?_ (by assumption) rfl (by kernel_rfl) ?_
          · intro w hSw; go_simp; (try with_reducible rfl)
          simp only [List.set]
          refine hH_take (i := 27) (v := .bool false) (d := 176) (l2 := #[true, true, true, true, true, true, true, true, true, true, true, true, true, true, true, true, true, true, true, true, true, true, true, true, true, true, true, true, false, false, false, false, false, false, false, false, false, false, false, false, false, false, false, false, false, false, false, false, false, false, false, false]) rfl (by kernel_rfl) (by kernel_rfl) (by kernel_rfl) (fun _ _ _ h => h) (by kernel_rfl) ?_ (by assumption) rfl (by kernel_rfl) ?_
          · intro w hSw; go_simp; (try with_reducible rfl)
          simp only [List.set]
          refine hH_take (i := 28) (v := .bool false) (d := 177) (l2 := #[true, true, true, true, true, true, true, true, true, true, true, true, true, true, true, true, true, true, true, true, true, true, true, true, true, true, true, true, true, false, false, false, false, false, false, false, false, false, false, false, false, false, false, false, false, false, false, false, false, false, false, false]) rfl (by kernel_rfl) (by kernel_rfl) (by kernel_rfl) (fun _ _ _ h => h) (by kernel_rfl) ?_ (by assumption) rfl (by kernel_rfl) ?_
          · intro w hSw; go_simp; (try with_reducible rfl)
          simp only [List.set]
          refine hH_take (i := 29) (v := .bool false) (d := 178) (l2 := #[true, true, true, true, true, true, true, true, true, true, true, true, true, true, true, true, true, true, true, true, true, true, true, true, true, true, true, true, true, true, false, false, false, false, false, false, false, false, false, false, false, false, false, false, false, false, false, false, false, false, false, false]) rfl (by kernel_rfl) (by kernel_rfl) (by kernel_rfl) (fun _ _ _ h => h) (by kernel_rfl) ?_ (by assumption) rfl (by kernel_rfl) ?_
          · intro w hSw; go_simp; (try with_reducible rfl)
          simp only [List.set]
          refine hH_take (i := 30) (v := .agg #[.slice (some ⟨Bz, 0, none⟩) (n + 1 + 1) (n + 1 + 1)]) (d := 179) (l2 := #[true, true, true, true, true, true, true, true, true, true, true, true, true, true, true, true, true, true, true, true, true, true, true, true, true, true, true, true, true, true, true, false, false, false, false, false, false, false, false, false, false, false, false, false, false, false, false, false, false, false, false, false]) rfl (by kernel_rfl) (by kernel_rfl) (by kernel_rfl) (fun _ _ _ h => h) (by kernel_rfl) ?_ (by assumption) rfl (by kernel_rfl) ?_
          · intro w hSw; exact ex_load_at (h1_load hSw.z.z) rfl rfl
          simp only [List.set]
          refine wpAnyH_ready (rs := [31]) (by kernel_rfl) (by simp) ?_
          refine AllReadyH.cons rfl (fun K hK => ?_) AllReadyH.nil
          go_simp
          go_at_call 19
          (with_reducible refine (cK2 _ hS.z.y.x.c.below hS.z).mono ?_)
          rintro e wc ⟨rfl, h1⟩
          have hS := hS.up h1
          clear h1
          refine hK.out _ _ hS (fun hHeld => ?_)
          clear hK K
          refine hH_take (i := 32) (v := .bool false) (d := 181) (l2 := #[true, true, true, true, true, true, true, true, true, true, true, true, true, true, true, true, true, true, true, true, true, true, true, true, true, true, true, true, true, true, true, true, true, false, false, false, false, false, false, false, false, false, false, false, false, false, false, false, false, false, false, false]) rfl (by kernel_rfl) (by kernel_rfl) (by kernel_rfl) (fun _ _ _ h => h) (by kernel_rfl) ?_ (by assumption) rfl (by kernel_rfl) ?_
          · intro w hSw; go_simp; (try with_reducible rfl)
          simp only [List.set]
          refine hH_take (i := 33) (v := .bool false) (d := 182) (l2 := #[true, true, true, true, true, true, true, true, true, true, true, true, true, true, true, true, true, true, true, true, true, true, true, true, true, true, true, true, true, true, true, true, true, true, false, false, false, false, false, false, false, false, false, false, false, false, false, false, false, false, false, false]) rfl (by kernel_rfl) (by kernel_rfl) (by kernel_rfl) (fun _ _ _ h => h) (by kernel_rfl) ?_ (by assumption) rfl (by kernel_rfl) ?_
          · intro w hSw; go_simp; (try with_reducible rfl)
          simp only [List.set]
          refine hH_take (i := 34) (v := .bool false) (d := 183) (l2 := #[true, true, true, true, true, true, true, true, true, true, true, true, true, true, true, true, true, true, true, true, true, true, true, true, true, true, true, true, true, true, true, true, true, true, true, false, false, false, false, false, false, false, false, false, false, false, false, false, false, false, false, false]) rfl (by kernel_rfl) (by kernel_rfl) (by kernel_rfl) (fun _ _ _ h => h) (by kernel_rfl) ?_ (by assumption) rfl (by kernel_rfl) ?_
          · intro w hSw; go_simp; (try with_reducible rfl)
          simp only [List.set]
          refine hH_take (i := 35) (v := .pointer (some ⟨gz, 0, none⟩)) (d := 184) (l2 := #[true, true, true, true, true, true, true, true, true, true, true, true, true, true, true, true, true, true, true, true, true, true, true, true, true, true, true, true, true, true, true, true, true, true, true, true, false, false, false, false, false, false, false, false, false, false, false, false, false, false, false, false]) rfl (by kernel_rfl) (by kernel_rfl) (by kernel_rfl) (fun _ _ _ h => h) (by kernel_rfl) ?_ (by assumption) rfl (by kernel_rfl) ?_
          · intro w hSw; go_simp; (try with_reducible rfl)
          simp only [List.set]
          refine hH_take (i := 36) (v := .slice (some ⟨Bz, 0, none⟩) (n + 1 + 1) (n + 1 + 1)) (d := 185) (l2 := #[true, true, true, true, true, true, true, true, true, true, true, true, true, true, true, true, true, true, true, true, true, true, true, true, true, true, true, true, true, true, true, true, true, true, true, true, true, false, false, false, false, false, false, false, false, false, false, false, false, false, false, false]) rfl (by kernel_rfl) (by kernel_rfl) (by kernel_rfl) (fun _ _ _ h => h) (by kernel_rfl) ?_ (by assumption) rfl (by kernel_rfl) ?_
          · intro w hSw; have q := (vcells hSw.z.z 0).trans rfl; go_simp; (try with_reducible rfl)
          simp only [List.set]
          refine hH_take (i := 37) (v := .int .i64 ((n : Int) + 1 + 1)) (d := 186) (l2 := #[true, true, true, true, true, true, true, true, true, true, true, true, true, true, true, true, true, true, true, true, true, true, true, true, true, true, true, true, true, true, true, true, true, true, true, true, true, true, false, false, false, false, false, false, false, false, false, false, false, false, false, false]) rfl (by kernel_rfl) (by kernel_rfl) (by kernel_rfl) (fun _ _ _ h => h) (by kernel_rfl) ?_ (by assumption) rfl (by kernel_rfl) ?_
          · intro w hSw; go_simp; (try with_reducible rfl); (try simp)
          simp only [List.set]
          refine hH_take (i := 38) (v := .int .i64 ((n : Int) + 1)) (d := 187) (l2 := #[true, true, true, true, true, true, true, true, true, true, true, true, true, true, true, true, true, true, true, true, true, true, true, true, true, true, true, true, true, true, true, true, true, true, true, true, true, true, true, false, false, false, false, false, false, false, false, false, false, false, false, false]) rfl (by kernel_rfl) (by kernel_rfl) (by kernel_rfl) (fun _ _ _ h => h) (by kernel_rfl) ?_ (by assumption) rfl (by kernel_rfl) ?_
          · intro w hSw; go_simp; (try with_reducible rfl)
          simp only [List.set]
          refine hH_take (i := 39) (v := .int .i64 ((n : Int) + 1 + 1)) (d := 188) (l2 := #[true, true, true, true, true, true, true, true, true, true, true, true, true, true, true, true, true, true, true, true, true, true, true, true, true, true, true, true, true, true, true, true, true, true, true, true, true, true, true, true, false, false, false, false, false, false, false, false, false, false, false, false]) rfl (by kernel_rfl) (by kernel_rfl) (by kernel_rfl) (fun _ _ _ h => h) (by kernel_rfl) ?_ (by assumption) rfl (by kernel_rfl) ?_
          · intro w hSw; go_simp; (try exact IntWalk.i64_in _ (by omega)); (try with_reducible rfl)
          simp only [List.set]
          refine hH_take (i := 40) (v := .bool false) (d := 189) (l2 := #[true, true, true, true, true, true, true, true, true, true, true, true, true, true, true, true, true, true, true, true, true, true, true, true, true, true, true, true, true, true, true, true, true, true, true, true, true, true, true, true, true, false, false, false, false, false, false, false, false, false, false, false]) rfl (by kernel_rfl) (by kernel_rfl) (by kernel_rfl) (fun _ _ _ h => h) (by kernel_rfl) ?_ (by assumption) rfl (by kernel_rfl) ?_
          · intro w hSw; go_simp; (try with_reducible rfl)
          simp only [List.set]
          refine hH_take (i := 41) (v := .bool false) (d := 190) (l2 := #[true, true, true, true, true, true, true, true, true, true, true, true, true, true, true, true, true, true, true, true, true, true, true, true, true, true, true, true, true, true, true, true, true, true, true, true, true, true, true, true, true, true, false, false, false, false, false, false, false, false, false, false]) rfl (by kernel_rfl) (by kernel_rfl) (by kernel_rfl) (fun _ _ _ h => h) (by kernel_rfl) ?_ (by assumption) rfl (by kernel_rfl) ?_
          · intro w hSw; go_simp; (try with_reducible rfl)
          simp only [List.set]
          refine hH_take (i := 42) (v := .bool false) (d := 191) (l2 := #[true, true, true, true, true, true, true, true, true, true, true, true, true, true, true, true, true, true, true, true, true, true, true, true, true, true, true, true, true, true, true, true, true, true, true, true, true, true, true, true, true, true, true, false, false, false, false, false, false, false, false, false]) rfl (by kernel_rfl) (by kernel_rfl) (by kernel_rfl) (fun _ _ _ h => h) (by kernel_rfl) ?_ (by assumption) rfl (by kernel_rfl) ?_
          · intro w hSw; go_simp; (try with_reducible rfl)
          simp only [List.set]
          refine hH_take (i := 43) (v := .pointer (some ⟨gz, 0, none⟩)) (d := 192) (l2 := #[true, true, true, true, true, true, true, true, true, true, true, true, true, true, true, true, true, true, true, true, true, true, true, true, true, true, true, true, true, true, true, true, true, true, true, true, true, true, true, true, true, true, true, true, false, false, false, false, false, false, false, false]) rfl (by kernel_rfl) (by kernel_rfl) (by kernel_rfl) (fun _ _ _ h => h) (by kernel_rfl) ?_ (by assumption) rfl (by kernel_rfl) ?_
          · intro w hSw; go_simp; (try with_reducible rfl)
          simp only [List.set]
          refine hH_take (i := 44) (v := .slice (some ⟨Bz, 0, none⟩) (n + 1 + 1) (n + 1 + 1)) (d := 193) (l2 := #[true, true, true, true, true, true, true, true, true, true, true, true, true, true, true, true, true, true, true, true, true, true, true, true, true, true, true, true, true, true, true, true, true, true, true, true, true, true, true, true, true, true, true, true, true, false, false, false, false, false, false, false]) rfl (by kernel_rfl) (by kernel_rfl) (by kernel_rfl) (fun _ _ _ h => h) (by kernel_rfl) ?_ (by assumption) rfl (by kernel_rfl) ?_
          · intro w hSw; have q := (vcells hSw.z.z 0).trans rfl; go_simp; (try with_reducible rfl)
          simp only [List.set]
          refine hH_take (i := 45) (v := .int .i64 (n : Int)) (d := 194) (l2 := #[true, true, true, true, true, true, true, true, true, true, true, true, true, true, true, true, true, true, true, true, true, true, true, true, true, true, true, true, true, true, true, true, true, true, true, true, true, true, true, true, true, true, true, true, true, true, false, false, false, false, false, false]) rfl (by kernel_rfl) (by kernel_rfl) (by kernel_rfl) (fun _ _ _ h => h) (by kernel_rfl) ?_ (by assumption) rfl (by kernel_rfl) ?_
          · intro w hSw; go_simp; (try with_reducible rfl)
          simp only [List.set]
          refine hH_take (i := 46) (v := .slice (some ⟨Bz, 0, none⟩) n (n + 1 + 1)) (d := 195) (l2 := #[true, true, true, true, true, true, true, true, true, true, true, true, true, true, true, true, true, true, true, true, true, true, true, true, true, true, true, true, true, true, true, true, true, true, true, true, true, true, true, true, true, true, true, true, true, true, true, false, false, false, false, false]) rfl (by kernel_rfl) (by kernel_rfl) (by kernel_rfl) (fun _ _ _ h => h) (by kernel_rfl) ?_ (by assumption) rfl (by kernel_rfl) ?_
          · intro w hSw; go_simp; (try (intro hh; omega)); (try with_reducible rfl)
          simp only [List.set]
          refine hH_take (i := 47) (v := .agg #[.slice (some ⟨Bz, 0, none⟩) n (n + 1 + 1)]) (d := 196) (l2 := #[true, true, true, true, true, true, true, true, true, true, true, true, true, true, true, true, true, true, true, true, true, true, true, true, true, true, true, true, true, true, true, true, true, true, true, true, true, true, true, true, true, true, true, true, true, true, true, true, false, false, false, false]) rfl (by kernel_rfl) (by kernel_rfl) (by kernel_rfl) (fun _ _ _ h => h) (by kernel_rfl) ?_ (by assumption) rfl (by kernel_rfl) ?_
          · intro w hSw; go_simp; (try with_reducible rfl)
          simp only [List.set]
          refine hH_take (i := 48) (v := .agg #[.slice A n cap]) (d := 197) (l2 := #[true, true, true, true, true, true, true, true, true, true, true, true, true, true, true, true, true, true, true, true, true, true, true, true, true, true, true, true, true, true, true, true, true, true, true, true, true, true, true, true, true, true, true, true, true, true, true, true, true, false, false, false]) rfl (by kernel_rfl) (by kernel_rfl) (by kernel_rfl) (fun _ _ _ h => h) (by kernel_rfl) ?_ (by assumption) rfl (by kernel_rfl) ?_
          · intro w hSw; exact ex_load_at (h1_load hSw.z.y.x.c.h) rfl rfl
          simp only [List.set]
          refine wpAnyH_ready (rs := [49]) (by kernel_rfl) (by simp) ?_
          refine AllReadyH.cons rfl (fun K hK => ?_) AllReadyH.nil
          go_simp
          go_at_call 20
          (with_reducible refine (cS2 _ hS.z.y.x.c.below hS.z).mono ?_)
          rintro e wc ⟨rfl, h1⟩
          have hS := hS.up h1
          clear h1
          refine hK.out _ _ hS (fun hHeld => ?_)
          clear hK K
          refine hH_take (i := 50) (v := .bool false) (d := 199) (l2 := #[true, true, true, true, true, true, true, true, true, true, true, true, true, true, true, true, true, true, true, true, true, true, true, true, true, true, true, true, true, true, true, true, true, true, true, true, true, true, true, true, true, true, true, true, true, true, true, true, true, true, true, false]) rfl (by kernel_rfl) (by kernel_rfl) (by kernel_rfl) (fun _ _ _ h => h) (by kernel_rfl) ?_ (by assumption) rfl (by kernel_rfl) ?_
          · intro w hSw; go_simp; (try with_reducible rfl)
          simp only [List.set]
          refine hH_take (i := 51) (v := .bool false) (d := 200) (l2 := #[true, true, true, true, true, true, true, true, true, true, true, true, true, true, true, true, true, true, true, true, true, true, true, true, true, true, true, true, true, true, true, true, true, true, true, true, true, true, true, true, true, true, true, true, true, true, true, true, true, true, true, true]) rfl (by kernel_rfl) (by kernel_rfl) (by kernel_rfl) (fun _ _ _ h => h) (by kernel_rfl) ?_ (by assumption) rfl (by kernel_rfl) ?_
          · intro w hSw; go_simp; (try with_reducible rfl)
          simp only [List.set]
          refine wpAnyH_done (by kernel_rfl) ?_ _
          have HL := Lib.hid hS
          clear hS hHeld cK2 cS2
          go_upto_region 22 with (fail)
          have hS : Kl w A n cap gx Bx gy By gz Bz H X Y Z (some a) _ := HL.out.up (Below.refl _ _).drew
          refine wp_region_held_drew (S := Kl w A n cap gx Bx gy By gz Bz H X Y Z (some a)) (by kernel_rfl) hS (fun hHeld => ?_)
          refine hH_take (i := 0) (v := .bool true) (d := 201) (l2 := #[true, false, false, false, false, false, false, false, false, false, false, false, false, false, false]) rfl (by kernel_rfl) (by kernel_rfl) (by kernel_rfl) (fun _ _ _ h => h) (by kernel_rfl) ?_ (by assumption) rfl (by kernel_rfl) ?_
          · intro w hSw; go_simp; (try with_reducible rfl)
          simp only [List.set]
          refine hH_take (i := 1) (v := .bool true) (d := 202) (l2 := #[true, true, false, false, false, false, false, false, false, false, false, false, false, false, false]) rfl (by kernel_rfl) (by kernel_rfl) (by kernel_rfl) (fun _ _ _ h => h) (by kernel_rfl) ?_ (by assumption) rfl (by kernel_rfl) ?_
          · intro w hSw; go_simp; (try with_reducible rfl)
          simp only [List.set]
          refine hH_take (i := 2) (v := .pointer (some ⟨gz, 0, none⟩)) (d := 203) (l2 := #[true, true, true, false, false, false, false, false, false, false, false, false, false, false, false]) rfl (by kernel_rfl) (by kernel_rfl) (by kernel_rfl) (fun _ _ _ h => h) (by kernel_rfl) ?_ (by assumption) rfl (by kernel_rfl) ?_
          · intro w hSw; go_simp; (try with_reducible rfl)
          simp only [List.set]
          refine hH_take (i := 3) (v := .slice (some ⟨Bz, 0, none⟩) (n + 1 + 1) (n + 1 + 1)) (d := 204) (l2 := #[true, true, true, true, false, false, false, false, false, false, false, false, false, false, false]) rfl (by kernel_rfl) (by kernel_rfl) (by kernel_rfl) (fun _ _ _ h => h) (by kernel_rfl) ?_ (by assumption) rfl (by kernel_rfl) ?_
          · intro w hSw; have q := (vcells hSw.z.z 0).trans rfl; go_simp; (try with_reducible rfl)
          simp only [List.set]
          refine hH_take (i := 4) (v := .int .i64 ((n : Int) + 1)) (d := 205) (l2 := #[true, true, true, true, true, false, false, false, false, false, false, false, false, false, false]) rfl (by kernel_rfl) (by kernel_rfl) (by kernel_rfl) (fun _ _ _ h => h) (by kernel_rfl) ?_ (by assumption) rfl (by kernel_rfl) ?_
          · intro w hSw; go_simp; (try with_reducible rfl)
          simp only [List.set]
          refine hH_take (i := 5) (v := .slice (some ⟨Bz, (n + 1) * 18, none⟩) 1 1) (d := 206) (l2 := #[true, true, true, true, true, true, false, false, false, false, false, false, false, false, false]) rfl (by kernel_rfl) (by kernel_rfl) (by kernel_rfl) (fun _ _ _ h => h) (by kernel_rfl) ?_ (by assumption) rfl (by kernel_rfl) ?_
          · intro w hSw; go_simp; (try (intro hh; omega)); (try with_reducible rfl)
          simp only [List.set]
          refine hH_take (i := 6) (v := .agg #[.slice (some ⟨Bz, (n + 1) * 18, none⟩) 1 1]) (d := 207) (l2 := #[true, true, true, true, true, true, true, false, false, false, false, false, false, false, false]) rfl (by kernel_rfl) (by kernel_rfl) (by kernel_rfl) (fun _ _ _ h => h) (by kernel_rfl) ?_ (by assumption) rfl (by kernel_rfl) ?_
          · intro w hSw; go_simp; (try with_reducible rfl)
          simp only [List.set]
          refine hH_take (i := 7) (v := .pointer (some ⟨gy, 0, none⟩)) (d := 208) (l2 := #[true, true, true, true, true, true, true, true, false, false, false, false, false, false, false]) rfl (by kernel_rfl) (by kernel_rfl) (by kernel_rfl) (fun _ _ _ h => h) (by kernel_rfl) ?_ (by assumption) rfl (by kernel_rfl) ?_
          · intro w hSw; go_simp; (try with_reducible rfl)
          simp only [List.set]
          refine hH_take (i := 8) (v := .slice (some ⟨By, 0, none⟩) (n + 1 + 1) (n + 1 + 1)) (d := 209) (l2 := #[true, true, true, true, true, true, true, true, true, false, false, false, false, false, false]) rfl (by kernel_rfl) (by kernel_rfl) (by kernel_rfl) (fun _ _ _ h => h) (by kernel_rfl) ?_ (by assumption) rfl (by kernel_rfl) ?_
          · intro w hSw; have q := (vcells hSw.z.y.y 0).trans rfl; go_simp; (try with_reducible rfl)
          simp only [List.set]
          refine hH_take (i := 9) (v := .int .i64 ((n : Int) + 1)) (d := 210) (l2 := #[true, true, true, true, true, true, true, true, true, true, false, false, false, false, false]) rfl (by kernel_rfl) (by kernel_rfl) (by kernel_rfl) (fun _ _ _ h => h) (by kernel_rfl) ?_ (by assumption) rfl (by kernel_rfl) ?_
          · intro w hSw; go_simp; (try with_reducible rfl)
          simp only [List.set]
          refine hH_take (i := 10) (v := .slice (some ⟨By, (n + 1) * 18, none⟩) 1 1) (d := 211) (l2 := #[true, true, true, true, true, true, true, true, true, true, true, false, false, false, false]) rfl (by kernel_rfl) (by kernel_rfl) (by kernel_rfl) (fun _ _ _ h => h) (by kernel_rfl) ?_ (by assumption) rfl (by kernel_rfl) ?_
          · intro w hSw; go_simp; (try (intro hh; omega)); (try with_reducible rfl)
          simp only [List.set]
          refine hH_take (i := 11) (v := .agg #[.slice (some ⟨By, (n + 1) * 18, none⟩) 1 1]) (d := 212) (l2 := #[true, true, true, true, true, true, true, true, true, true, true, true, false, false, false]) rfl (by kernel_rfl) (by kernel_rfl) (by kernel_rfl) (fun _ _ _ h => h) (by kernel_rfl) ?_ (by assumption) rfl (by kernel_rfl) ?_
          · intro w hSw; go_simp; (try with_reducible rfl)
          simp only [List.set]
          refine wpAnyH_ready (rs := [12]) (by kernel_rfl) (by simp) ?_
          refine AllReadyH.cons rfl (fun K hK => ?_) AllReadyH.nil
          go_simp
          go_at_call 20
          (with_reducible refine (cS3 _ hS.z.y.x.c.below hS.z).mono ?_)
          rintro e wc ⟨rfl, h1⟩
          have hS := hS.up h1
          clear h1
          refine hK.out _ _ hS (fun hHeld => ?_)
          clear hK K
          refine hH_take (i := 13) (v := .bool true) (d := 214) (l2 := #[true, true, true, true, true, true, true, true, true, true, true, true, true, true, false]) rfl (by kernel_rfl) (by kernel_rfl) (by kernel_rfl) (fun _ _ _ h => h) (by kernel_rfl) ?_ (by assumption) rfl (by kernel_rfl) ?_
          · intro w hSw; go_simp; (try with_reducible rfl)
          simp only [List.set]
          refine hH_take (i := 14) (v := .bool true) (d := 6) (l2 := #[true, true, true, true, true, true, true, true, true, true, true, true, true, true, true]) rfl (by kernel_rfl) (by kernel_rfl) (by kernel_rfl) (fun _ _ _ h => h) (by kernel_rfl) ?_ (by assumption) rfl (by kernel_rfl) ?_
          · intro w hSw; go_simp; (try with_reducible rfl)
          simp only [List.set]
          refine wpAnyH_done (by kernel_rfl) ?_ _
          go_wp2
          go_ret
          exact ⟨rfl, hS.z.y.x.c.below⟩
        · have cM : ∀ W, Below w.heap.size w W → Calls Tryz.prog 14 #[.agg #[.slice A H.length cap], .int .i64 t, .int .i64 g] W fun e w' => e = .returned (.tuple #[.agg #[.slice none 0 0], .int .i64 0, .int .i64 (mkE H t g)]) ∧ Below W.heap.size W w' := fun W hb =>
            (cM W hb).mono fun e w' ⟨h1, h2⟩ => by
              rcases h2 with ⟨_, h⟩ | ⟨h, _⟩
              · exact ⟨h, h1⟩
              · exact absurd h hz
          have hzb : (mkE H t g != 0) = true := by unfold bne; rw [beq_eq_false_iff_ne.2 hz]; rfl
          clear hH htab hm hl hI hsm hmay hHp hz
          generalize mkE H t g = E at *
          go_enter Tryz.func4, Tryz.ntmps4
          go_wp2_with (first
            | (go_at_call 17; (with_reducible refine (cA _ HC.out.below).mono ?_); rintro e w1 ⟨rfl, h9⟩; have HC := Lib.hid (HC.out.up h9); have hq := HC.out.q; clear h9)
            | ((with_reducible refine h1_ld ?_ rfl rfl HC.out.h ?_); (rfl))
            | (go_at_call 18; (with_reducible refine (cL _ HC.out.below).mono ?_); rintro e w2 ⟨rfl, h9⟩; have HC := Lib.hid (HC.out.up h9); have hq := HC.out.q; clear h9)
            | (go_at_call 19; (with_reducible refine (cK _ HC.out.below).mono ?_); rintro e w3 ⟨rfl, h9⟩; have HC := Lib.hid (HC.out.up h9); have hq := HC.out.q; clear h9)
            | (go_at_call 14; (with_reducible refine (cM _ HC.out.below).mono ?_); rintro e w4 ⟨rfl, h9⟩; have HC := Lib.hid (HC.out.up h9); clear h9)
            | ((with_reducible refine t_store (cs := #[.slice none 0 0]) rfl rfl rfl rfl (heap_alloc_new w4 _) (hi1 _) ?_ (hc1 _ rfl) (vzero w4 _) (Nat.le_refl _) ?_); (rfl); intro W5 hb5 hW5 hO5 hz5; have HC := Lib.hid (HC.out.up hb5); have qx : W5.cell? ⟨w4.heap.size, 0, none⟩ = some (.slice none 0 0) := (vcells hW5 0).trans rfl; clear hb5 hW5 hO5 hz5))
          go_ret
          exact ⟨rfl, HC.out.below⟩
end Go.Proofs.YtkcikdggfbjedaaGreatDoor.S
