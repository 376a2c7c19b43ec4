/-
  The document's own Order of keys: a walk.
-/
import Derived.Test.YtlgbnfcnimjheaaDoorKeyRefRow
import Derived.Deep.CutRange
import Derived.Deep.DeepCutAuto
import Derived.Deep.CutBlock
namespace Go.Proofs.YtlgbnfcnimjheaaDoor.S
open Go.RowKit Fl

theorem rk_none {k : Ky} (h : ixK k.str k.sym = none) : rkKy k = if k.sym ≤ 0 then 1024 else 1025 := by
  unfold rkKy rkK
  rw [h]
  rfl
theorem rk_some {k : Ky} {n : Nat} (h : ixK k.str k.sym = some n) : rkKy k = n ∧ n < 1024 ∧ k.sym ≤ 0 := by
  refine ⟨?_, (ixK_lt h).1, (ixK_lt h).2.2⟩
  unfold rkKy rkK
  rw [h]
  rfl
theorem atR_snoc (r : Nat) (T : List Ky) (k : Ky) : atR r (T ++ [k]) = atR r T ++ if rkKy k = r then [k] else [] := by
  unfold atR
  rw [List.filter_append]
  by_cases c : rkKy k = r <;> simp [c]
theorem atR_yes {r : Nat} {T : List Ky} {k : Ky} (h : rkKy k = r) : atR r (T ++ [k]) = atR r T ++ [k] := by rw [atR_snoc, if_pos h]
theorem atR_no {r : Nat} {T : List Ky} {k : Ky} (h : rkKy k ≠ r) : atR r (T ++ [k]) = atR r T := by rw [atR_snoc, if_neg h, List.append_nil]
theorem rk_pos {k : Ky} (h : 0 < k.sym) : rkKy k = 1025 := by
  cases e : ixK k.str k.sym with
  | none => rw [rk_none e, if_neg (by omega)]
  | some n => have := (rk_some e).2.2; omega
theorem rk_neg {k : Ky} (h : ¬ 0 < k.sym) : rkKy k ≠ 1025 := by
  cases e : ixK k.str k.sym with
  | none => rw [rk_none e, if_pos (by omega)]; omega
  | some n => have := (rk_some e).1; have := (rk_some e).2.1; omega
def RefTo (L : List Ky) (w : World) (e : Ending) (w' : World) : Prop := ∃ v M, e = .returned v ∧ OrdOf L M ∧ w'.ownsRow w.heap.size 24 2 v M.length (kyCells M) ∧ Below w.heap.size w w'

set_option maxHeartbeats 4000000 in
set_option maxRecDepth 1000000 in
theorem refOrder_k (A : Option Addr) (L : List Ky) (cap : Nat) (w : World) (hl : L.length ≤ 400) (hL : RK w A L) : Calls Tryd.prog 6 #[.slice A L.length cap] w (RefTo L w) := by
  go_enter Tryd.func6, Tryd.ntmps6
  go_wp2_with (fail)
  go_loopg [3, 4, 5] L.length (fun kx s3 s4 s5 wr => ∃ (X : List Ky) (i : Nat), s5 = .int .i64 i ∧ i + kx = L.length ∧ Hid (Ph X (L.take i) ∧ Rw w.heap.size s3 s4 X (X.map rkKy) w wr))
  case atStart => exact ⟨[], 0, rfl, by omega, Lib.hid ⟨ph_nil, rw_nil w⟩⟩
  case round =>
    obtain ⟨X, i, rfl, hik, H⟩ := hrel
    cases gk with
    | zero =>
      obtain rfl : i = L.length := by omega
      have HX := Lib.hid (show Ph X L by have h := H.out.1; rwa [List.take_length] at h)
      obtain ⟨⟨A3, q3, rfl⟩, A4, q4, h4⟩ := rw_shape H.out.2
      rw [List.length_map] at h4
      subst h4
      have HR := Lib.hid H.out.2
      clear H
      go_wp2_with (fail)
      go_loopg [3, 10] L.length (fun kx s3 s10 wr2 => ∃ (M : List Ky) (i : Nat), s10 = .int .i64 i ∧ i + kx = L.length ∧ Hid (M = X ++ atR 1024 (L.take i) ∧ M.length ≤ X.length + i ∧ Rw w.heap.size s3 (.slice A4 X.length q4) M (X.map rkKy) w wr2))
      case atStart => exact ⟨X, 0, rfl, by omega, Lib.hid ⟨by simp [atR], by omega, HR.out⟩⟩
      case round =>
        clear HR
        obtain ⟨M, i, rfl, hik, K⟩ := hrel
        have hXl : X.length ≤ 400 := by
          have h1 := HX.out.len
          omega
        cases gk with
        | zero =>
          obtain rfl : i = L.length := by omega
          have KM := Lib.hid (show M = X ++ atR 1024 L by have h := K.out.1; rwa [List.take_length] at h)
          have KR := Lib.hid (And.intro K.out.2.1 K.out.2.2)
          clear K
          go_wp2_with (fail)
          go_loopg [3, 13] L.length (fun kx s3 s13 wr2 => ∃ (Z : List Ky) (i : Nat), s13 = .int .i64 i ∧ i + kx = L.length ∧ Hid (Z = M ++ atR 1025 (L.take i) ∧ Z.length ≤ M.length + i ∧ Rw w.heap.size s3 (.slice A4 X.length q4) Z (X.map rkKy) w wr2))
          case atStart => exact ⟨M, 0, rfl, by omega, Lib.hid ⟨by simp [atR], by omega, KR.out.2⟩⟩
          case round =>
            have hMl : M.length ≤ 800 := by have := KR.out.1; omega
            clear KR
            obtain ⟨Z, i, rfl, hik, K⟩ := hrel
            cases gk with
            | zero =>
              obtain rfl : i = L.length := by omega
              go_wp2_with (fail)
              go_ret
              refine ⟨_, Z, rfl, ?_, K.out.2.2.out, K.out.2.2.below⟩
              rw [K.out.1, List.take_length, KM.out]
              exact ph_ord HX.out
            | succ kx =>
              have hlt : i < L.length := by omega
              have hlz : (i : Int) < (L.length : Int) := by omega
              obtain ⟨a, rfl, ha, hcs⟩ := rk_up hL K.out.2.2.below (by omega)
              obtain ⟨c0, c1⟩ := hcs i hlt
              have hab : ∀ j, (a.add j).block < wr.heap.size := fun j => by
                have : (a.add j).block = a.block := by unfold Addr.add; split <;> rfl
                rw [this]; exact ha
              have htk : L.take (i + 1) = L.take i ++ [⟨L[i].str, L[i].sym⟩] := by rw [List.take_add_one, List.getElem?_eq_getElem hlt]; rfl
              have HTK := Lib.hid htk
              have hZl : Z.length ≤ 2000 := by have := K.out.2.1; omega
              clear htk hcs
              by_cases hy : 0 < L[i].sym
              · have HA := Lib.hid (show atR 1025 (L.take (i + 1)) = atR 1025 (L.take i) ++ [⟨L[i].str, L[i].sym⟩] by rw [HTK.out]; exact atR_yes (rk_pos hy))
                generalize L[i].str = s at *
                generalize L[i].sym = y at *
                go_wp2_with (at_builtin; refine rw_app rfl _ _ rfl K.out.2.2 rfl s y rfl (by omega) ?_; intro v2 w2 R2; have R2 := Lib.hid R2)
                go_roundg kx
                case measure => omega
                case rel => exact ⟨_, i + 1, by simp, by omega, Lib.hid ⟨by rw [HA.out, K.out.1, List.append_assoc], by rw [List.length_append]; have := K.out.2.1; simp; omega, R2.out⟩⟩
              · have HA := Lib.hid (show atR 1025 (L.take (i + 1)) = atR 1025 (L.take i) by rw [HTK.out]; exact atR_no (rk_neg hy))
                generalize L[i].str = s at *
                generalize L[i].sym = y at *
                go_wp2_with (fail)
                go_roundg kx
                case measure => omega
                case rel => exact ⟨Z, i + 1, by simp, by omega, Lib.hid ⟨by rw [HA.out]; exact K.out.1, by have := K.out.2.1; omega, K.out.2.2⟩⟩
        | succ kx =>
          have hlt : i < L.length := by omega
          have hlz : (i : Int) < (L.length : Int) := by omega
          obtain ⟨a, rfl, ha, hcs⟩ := rk_up hL K.out.2.2.below (by omega)
          obtain ⟨c0, c1⟩ := hcs i hlt
          have hab : ∀ j, (a.add j).block < wr.heap.size := fun j => by
            have : (a.add j).block = a.block := by unfold Addr.add; split <;> rfl
            rw [this]; exact ha
          have kI := fun W => refIndex_k L[i].str L[i].sym W
          have htk : L.take (i + 1) = L.take i ++ [⟨L[i].str, L[i].sym⟩] := by rw [List.take_add_one, List.getElem?_eq_getElem hlt]; rfl
          have HTK := Lib.hid htk
          have hMl : M.length ≤ 1000 := by have := K.out.2.1; omega
          have hup : ∀ w1, Below wr.heap.size wr w1 → w1.cell? (a.add (i * 2)) = some (.string L[i].str) ∧ w1.cell? ⟨(a.add (i * 2)).block, (a.add (i * 2)).off + 1, none⟩ = some (.int .i64 L[i].sym) := fun w1 h1 => by
            obtain ⟨b, hb0, _, hcs2⟩ := rk_up hL (rw_up K.out.2.2 h1).below (by omega)
            obtain rfl := Option.some.inj hb0
            exact hcs2 i hlt
          have HUP := Lib.hid hup
          clear htk hcs hup
          cases ho : ixK L[i].str L[i].sym with
          | some n =>
            have HA := Lib.hid (show atR 1024 (L.take (i + 1)) = atR 1024 (L.take i) by
              rw [HTK.out]
              refine atR_no ?_
              have h1 := rk_some (k := ⟨L[i].str, L[i].sym⟩) ho
              omega)
            rw [ho] at kI
            unfold IdxTo at kI
            simp only [Option.getD_some, Option.isSome_some] at kI
            clear ho
            generalize L[i].str = s at *
            generalize L[i].sym = y at *
            go_wp2_with (go_at_call 19; refine (kI _).mono ?_; rintro e w1 ⟨rfl, h1⟩; have R1 := Lib.hid (rw_up K.out.2.2 h1); clear h1)
            go_roundg kx
            case measure => omega
            case rel => exact ⟨M, i + 1, by simp, by omega, Lib.hid ⟨by rw [HA.out]; exact K.out.1, by have := K.out.2.1; omega, R1.out⟩⟩
          | none =>
            rw [ho] at kI
            unfold IdxTo at kI
            simp only [Option.getD_none, Option.isSome_none] at kI
            by_cases hy : L[i].sym ≤ 0
            · have HA := Lib.hid (show atR 1024 (L.take (i + 1)) = atR 1024 (L.take i) ++ [⟨L[i].str, L[i].sym⟩] by
                rw [HTK.out]
                refine atR_yes ?_
                rw [rk_none (k := ⟨L[i].str, L[i].sym⟩) ho, if_pos hy])
              clear ho
              generalize L[i].str = s at *
              generalize L[i].sym = y at *
              go_wp2_with (first
                | (go_at_call 19; refine (kI _).mono ?_; rintro e w1 ⟨rfl, h1⟩; have R1 := Lib.hid (rw_up K.out.2.2 h1); obtain ⟨d0, d1⟩ := HUP.out w1 h1; have hab1 := fun j => vltn h1 (hab j); clear h1)
                | (at_builtin; refine rw_app rfl _ _ rfl R1.out rfl s y rfl (by omega) ?_; intro v2 w2 R2; have R2 := Lib.hid R2))
              go_roundg kx
              case measure => omega
              case rel => exact ⟨_, i + 1, by simp, by omega, Lib.hid ⟨by rw [HA.out, K.out.1, List.append_assoc], by rw [List.length_append]; have := K.out.2.1; simp; omega, R2.out⟩⟩
            · have HA := Lib.hid (show atR 1024 (L.take (i + 1)) = atR 1024 (L.take i) by
                rw [HTK.out]
                refine atR_no ?_
                rw [rk_none (k := ⟨L[i].str, L[i].sym⟩) ho, if_neg hy]
                omega)
              clear ho
              generalize L[i].str = s at *
              generalize L[i].sym = y at *
              go_wp2_with (go_at_call 19; refine (kI _).mono ?_; rintro e w1 ⟨rfl, h1⟩; have R1 := Lib.hid (rw_up K.out.2.2 h1); obtain ⟨d0, d1⟩ := HUP.out w1 h1; have hab1 := fun j => vltn h1 (hab j); clear h1)
              go_roundg kx
              case measure => omega
              case rel => exact ⟨M, i + 1, by simp, by omega, Lib.hid ⟨by rw [HA.out]; exact K.out.1, by have := K.out.2.1; omega, R1.out⟩⟩
    | succ kx =>
      have hlt : i < L.length := by omega
      have hlz : (i : Int) < (L.length : Int) := by omega
      obtain ⟨a, rfl, ha, hcs⟩ := rk_up hL H.out.2.below (by omega)
      obtain ⟨c0, c1⟩ := hcs i hlt
      have hab : ∀ j, (a.add j).block < wr.heap.size := fun j => by
        have : (a.add j).block = a.block := by unfold Addr.add; split <;> rfl
        rw [this]; exact ha
      have kI := fun W => refIndex_k L[i].str L[i].sym W
      have htk : L.take (i + 1) = L.take i ++ [L[i]] := by rw [List.take_add_one, List.getElem?_eq_getElem hlt]; rfl
      have HTK := Lib.hid htk
      clear htk hcs
      cases ho : ixK L[i].str L[i].sym with
      | none =>
        rw [ho] at kI
        unfold IdxTo at kI
        simp only [Option.getD_none, Option.isSome_none] at kI
        have HP : Hid (Ph X (L.take (i + 1))) := Lib.hid (by
          rw [HTK.out]
          exact ph_skip H.out.1 (by rw [rk_none ho]; split <;> omega))
        clear ho
        generalize L[i].str = s at *
        generalize L[i].sym = y at *
        go_wp2_with (go_at_call 19; refine (kI _).mono ?_; rintro e w1 ⟨rfl, h1⟩; have H1 := Lib.hid h1; clear h1)
        go_roundg kx
        case measure => omega
        case rel => exact ⟨X, i + 1, by simp, by omega, Lib.hid ⟨HP.out, rw_up H.out.2 H1.out⟩⟩
      | some n =>
        obtain ⟨hr, hn1, hy0⟩ := rk_some ho
        rw [ho] at kI
        unfold IdxTo at kI
        simp only [Option.getD_some, Option.isSome_some] at kI
        obtain ⟨⟨A3, q3, rfl⟩, A4, q4, h4⟩ := rw_shape H.out.2
        rw [List.length_map] at h4
        subst h4
        have hXl : X.length ≤ 400 := by
          have h1 := H.out.1.len
          have h2 := List.length_take_le i L
          omega
        have HR := Lib.hid hr
        have hnb : (n : Int) < 1024 := by omega
        clear ho hr hy0
        go_upto_block 2 with (go_at_call 19; refine (kI _).mono ?_; rintro e w1 ⟨rfl, h1⟩; have R := Lib.hid (rw_up H.out.2 h1); clear h1)
        go_cut [8] from 14 to 86 (fun s8 wx => ∃ p : Nat, s8 = .int .i64 (p : Nat) ∧ p ≤ X.length ∧ wx = w1 ∧ Hid (∀ j (hj : j < X.length), p ≤ j → n < rkKy X[j]) ∧ Hid (∀ j (hj : j < X.length), j + 1 = p → rkKy X[j] ≤ n))
        case first =>
          go_wp2_with (fail)
          go_loopg [8] X.length (fun kx s8 wr2 => s8 = .int .i64 (kx : Nat) ∧ kx ≤ X.length ∧ wr2 = w1 ∧ Hid (∀ j (hj : j < X.length), kx ≤ j → n < rkKy X[j]))
          case atStart => exact ⟨rfl, Nat.le_refl _, rfl, Lib.hid fun j hj h => by omega⟩
          case round =>
            obtain ⟨rfl, hp, rfl, HJ⟩ := hrel
            clear c0 c1 hab ha
            cases gk with
            | zero =>
              have CL := Lib.hid (show ∀ j (hj : j < X.length), j + 1 = 0 → rkKy X[j] ≤ n from fun j hj e => by omega)
              go_wp2_with (fail)
              go_meet
              case rel => exact ⟨0, rfl, Nat.zero_le _, rfl, HJ, CL⟩
            | succ m =>
              have hm : m < X.length := by omega
              have hmz : (m : Int) < (X.length : Int) := by omega
              have hmn : m < (X.map rkKy).length := by rw [List.length_map]; exact hm
              obtain ⟨g4, cap4, hv, hB4, hg4, hc4⟩ := own_pos R.out.num (by omega)
              injection hv with e1 _ e2
              subst e1 e2
              have n0 := rw_no R.out (by rw [List.length_map]) m hmn
              rw [List.getElem_map] at n0
              by_cases c : n < rkKy X[m]
              · have HM := Lib.hid (show ∀ j (hj : j < X.length), m ≤ j → n < rkKy X[j] from fun j hj hmj => by
                  rcases Nat.lt_or_ge m j with d | d
                  · exact HJ.out j hj d
                  · obtain rfl : m = j := by omega
                    exact c)
                generalize rkKy X[m] = r at *
                go_wp2_with (fail)
                simp (config := { zetaDelta := true }) [Oper.wp, Oper.upon, go_sem, hmz]
                go_wp2_with (fail)
                go_roundg m
                case measure => omega
                case rel => exact ⟨rfl, by omega, rfl, HM⟩
              · have CL := Lib.hid (show ∀ j (hj : j < X.length), j + 1 = m + 1 → rkKy X[j] ≤ n from fun j hj e => by
                  obtain rfl : j = m := by omega
                  exact Nat.le_of_not_lt c)
                generalize rkKy X[m] = r at *
                go_wp2_with (fail)
                simp (config := { zetaDelta := true }) [Oper.wp, Oper.upon, go_sem, hmz]
                go_wp2_with (fail)
                go_meet
                case rel => exact ⟨m + 1, by simp, hp, rfl, HJ, CL⟩
        case rest =>
        obtain ⟨p, rfl, hpX, rfl, HJ, CL⟩ := hcut
        go_wp2_with (first
          | (at_builtin; refine rw_app rfl _ _ rfl R.out rfl ⟨#[]⟩ 0 rfl (by omega) ?_; intro v2 w2 R2; obtain ⟨g3, cap3, hv3, hB3, hg3, hc3⟩ := own_pos R2.out (by rw [List.length_append]; exact Nat.succ_pos _); simp only [List.length_append, List.length_cons, List.length_nil, Nat.zero_add] at hv3; subst hv3; have R2 := Lib.hid R2)
          | (at_builtin; refine rw_appn rfl _ _ rfl R2.out rfl rfl (by rw [List.length_map]; omega) ?_; intro u2 w3 R3; obtain ⟨g5, cap5, hv5, hB5, hg5, hc5⟩ := own_pos R3.num (by rw [List.length_append]; exact Nat.succ_pos _); simp only [List.length_append, List.length_map, List.length_cons, List.length_nil, Nat.zero_add] at hv5; subst hv5; have R3 := Lib.hid R3))
        clear hg3 hg5 hc3 hc5 c0 c1 hab ha
        go_loopg [9] (X.length - p) (fun kx s9 wr2 => ∃ (Y : List Ky) (Z : List Nat) (k : Nat), s9 = .int .i64 (k : Nat) ∧ k = p + kx ∧ k ≤ X.length ∧ Hid (Sh X Y k ∧ Sh (X.map rkKy) Z k ∧ Rw w.heap.size (.slice (some ⟨g3, 0, none⟩) (X.length + 1) cap3) (.slice (some ⟨g5, 0, none⟩) (X.length + 1) cap5) Y Z w wr2))
        case atStart => exact ⟨X ++ [⟨⟨#[]⟩, 0⟩], X.map rkKy ++ [0], X.length, rfl, by omega, Nat.le_refl _, Lib.hid ⟨sh_start X _, by have h := sh_start (X.map rkKy) 0; rwa [List.length_map] at h, R3.out⟩⟩
        case round =>
          clear R3 R2
          obtain ⟨Y, Z, k, rfl, hk, hkX, HS⟩ := hrel
          have yl : Y.length = X.length + 1 := HS.out.1.len
          have zl : Z.length = X.length + 1 := by have h := HS.out.2.1.len; rwa [List.length_map] at h
          have g3l := HS.out.2.2.out.lt g3 rfl
          have g5l := HS.out.2.2.num.lt g5 rfl
          have hne : g3 ≠ g5 := fun e => by
            rcases rw_ne HS.out.2.2 with c | c
            · cases c
            · exact c (by rw [e]; rfl)
          have hne2 : g5 ≠ g3 := fun e => hne e.symm
          have hkY : k < Y.length := by omega
          have hkZ : k < Z.length := by omega
          have kk := rw_key HS.out.2.2 yl.symm k hkY
          obtain ⟨k0, k1⟩ := kk
          have kz := rw_fz HS.out.2.2 yl.symm
          have n1 := rw_no HS.out.2.2 zl.symm k hkZ
          have nz := rw_fzn HS.out.2.2 zl.symm
          have HYZ := Lib.hid (And.intro yl zl)
          clear yl zl
          cases gk with
          | zero =>
            obtain rfl : p = k := by omega
            obtain ⟨b, hb0, hbl, hcs2⟩ := rk_up hL HS.out.2.2.below (by omega)
            obtain rfl := Option.some.inj hb0
            obtain ⟨l0, l1⟩ := hcs2 i hlt
            have hab : ∀ j, (a.add j).block < wr.heap.size := fun j => by
              have : (a.add j).block = a.block := by unfold Addr.add; split <;> rfl
              rw [this]; exact hbl
            have PX := Lib.hid (show Ph (insA L[i] X p) (L.take (i + 1)) by
              rw [HTK.out]
              exact ph_ins H.out.1 (by rw [HR.out]; exact hn1) hpX (fun j hj h => by rw [HR.out]; exact HJ.out j hj h) (fun j hj e => by rw [HR.out]; exact CL.out j hj e))
            have Q := rw_putn (rw_put HS.out.2.2 HYZ.out.1.symm p L[i].str L[i].sym) HYZ.out.2.symm p n
            rw [show Y.set p ⟨L[i].str, L[i].sym⟩ = insA L[i] X p from sh_end HS.out.1 hpX L[i], sh_end HS.out.2.1 (by rw [List.length_map]; exact hpX) n, show insA n (X.map rkKy) p = (insA L[i] X p).map rkKy by rw [← insA_map, HR.out]] at Q
            have Q := Lib.hid Q
            have hkX2 : (p : Int) < (X.length : Int) + 1 := by omega
            clear hcs2 hb0 HYZ hk
            generalize L[i].str = s at *
            generalize L[i].sym = y at *
            go_wp2_with (fail)
            go_roundg kx
            case measure => omega
            case rel => exact ⟨_, i + 1, by simp, by omega, Lib.hid ⟨PX.out, Q.out⟩⟩
          | succ kx =>
            obtain ⟨q, hq⟩ : ∃ q, q + 1 = k := ⟨k - 1, by omega⟩
            have hqz : (k : Int) - 1 = (q : Int) := by omega
            have hpk : (p : Int) < (k : Int) := by omega
            have hqY : q < Y.length := by have := HYZ.out; omega
            have hqZ : q < Z.length := by have := HYZ.out; omega
            have hqX : (q : Int) < (X.length : Int) + 1 := by omega
            have hkX2 : (k : Int) < (X.length : Int) + 1 := by omega
            obtain ⟨r0, r1⟩ := rw_key HS.out.2.2 HYZ.out.1.symm q hqY
            have n2 := rw_no HS.out.2.2 HYZ.out.2.symm q hqZ
            have P := Lib.hid (show _ ∧ _ ∧ _ from ⟨sh_step (u := ⟨Y[q].str, Y[q].sym⟩) (hq ▸ HS.out.1) (hq ▸ hkY) (List.getElem?_eq_getElem hqY), sh_step (u := Z[q]) (hq ▸ HS.out.2.1) (hq ▸ hkZ) (List.getElem?_eq_getElem hqZ), rw_putn (rw_put HS.out.2.2 HYZ.out.1.symm (q + 1) Y[q].str Y[q].sym) HYZ.out.2.symm (q + 1) Z[q]⟩)
            rw [hq] at P
            have HKQ := Lib.hid (And.intro hk hq)
            clear HYZ hk hq
            generalize Y[q].str = ys at *
            generalize Y[q].sym = yy at *
            generalize Z[q] = zz at *
            go_wp2_with (fail)
            go_roundg kx
            case measure => omega
            case rel => exact ⟨_, _, q, rfl, by have := HKQ.out; omega, by have := HKQ.out; omega, P⟩
end Go.Proofs.YtlgbnfcnimjheaaDoor.S
