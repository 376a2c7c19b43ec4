/-
  post: the check of OwnKeys; what is delivered.
-/
import Derived.Test.YtkmgdaagannhkaaPT10
namespace Go.Proofs.Ytkmgdaagannhkaa.S
open Go.RowKit Go.Lib Fl
open Classical

/-- the keys whose property is there, and fixed -/
def stuckL : List Ky → List Dq → List Ky
  | k :: L, d :: D => (bif !goneB d && !d.z then [k] else []) ++ stuckL L D
  | _, _ => []
theorem stuck_take : ∀ {L : List Ky} {D : List Dq} {i : Nat} (h1 : i < L.length) (h2 : i < D.length), stuckL (L.take (i + 1)) (D.take (i + 1)) = stuckL (L.take i) (D.take i) ++ (bif !goneB D[i] && !D[i].z then [L[i]] else [])
  | k :: L, d :: D, 0, _, _ => by simp [stuckL]
  | k :: L, d :: D, i + 1, h1, h2 => by
    have h := stuck_take (L := L) (D := D) (i := i) (by simpa using h1) (by simpa using h2)
    simp only [List.take_succ_cons, stuckL, List.getElem_cons_succ]
    rw [h, List.append_assoc]
theorem stuck_len : ∀ (L : List Ky) (D : List Dq), (stuckL L D).length ≤ L.length
  | k :: L, d :: D => by
    have h := stuck_len L D
    unfold stuckL
    cases (!goneB d && !d.z) <;> simp <;> omega
  | [], _ => by simp [stuckL]
  | _ :: _, [] => by simp [stuckL]
theorem stuck_mem : ∀ (L : List Ky) (D : List Dq), ∀ k ∈ stuckL L D, k ∈ L
  | k :: L, d :: D => fun x hx => by
    unfold stuckL at hx
    rw [List.mem_append] at hx
    rcases hx with hx | hx
    · cases hb : (!goneB d && !d.z) with
      | false => rw [hb] at hx; cases hx
      | true =>
        rw [hb] at hx
        have : x = k := by simpa using hx
        rw [this]
        exact List.mem_cons_self
    · exact List.mem_cons_of_mem _ (stuck_mem L D x hx)
  | [], _ => fun x hx => by simp [stuckL] at hx
  | _ :: _, [] => fun x hx => by simp [stuckL] at hx
/-- a row of the call's own, read as keys that lie somewhere -/
theorem rw_rk {B : Nat} {v u : Value} {X : List Ky} {N : List Nat} {w0 w : World} (h : Rw B v u X N w0 w) : ∃ A cap, v = .slice A X.length cap ∧ RK w A X ∧ X.length ≤ cap := by
  rcases Nat.eq_zero_or_pos X.length with c | c
  · obtain ⟨⟨A, cap, hv⟩, _⟩ := rw_shape h
    exact ⟨A, cap, hv, fun hp => by omega, by omega⟩
  · obtain ⟨g, cap, hv, _, _, hc⟩ := own_pos h.out c
    have ho := h.out
    rw [hv] at ho
    exact ⟨_, cap, hv, own_rk ho (List.append_nil X).symm, hc⟩
/-- a round's descriptor in a block of its own, with the claim and the row so far -/
structure Sb (w0 : World) (v : Value) (X : List Ky) (g : Nat) (d : Dq) (W : World) : Prop where
  r : Rw w0.heap.size v (.slice none 0 0) X [] w0 W
  d : W.heap[g]? = some (.cells d.cells 27 (0, 0))
theorem Sb.up {w0 : World} {v : Value} {X : List Ky} {g : Nat} {d : Dq} {W W' : World} (h : Sb w0 v X g d W) (hb : Below W.heap.size W W') : Sb w0 v X g d W' := ⟨rw_up h.r hb, vblkn hb h.d⟩
def KeysTo (X : List Ky) (w : World) (e : Ending) (w' : World) : Prop := ∃ A cap, e = .returned (.slice A X.length cap) ∧ (RK w' A X ∧ X.length ≤ cap) ∧ Below w.heap.size w w'
set_option maxHeartbeats 8000000 in
set_option maxRecDepth 1000000 in
theorem stuck_p (a : Ak) (q : Oq) (f : Fq) (A : Option Addr) (L : List Ky) (cap : Nat) (A2 : Option Addr) (D : List Dq) (cap2 : Nat) (w : World) (hld : D.length = L.length) (hl : L.length ≤ 1200) (hL : RK w A L) (hD : RD w A2 D) : Calls Try.prog 60 #[.agg (clA a q ⟨f.ext, f.proto, f.found, f.d, A, L.length, cap, A2, D.length, cap2⟩)] w (KeysTo (stuckL L D) w) := by
  have HS := Lib.hid (ow_start w (clA a q ⟨f.ext, f.proto, f.found, f.d, A, L.length, cap, A2, D.length, cap2⟩) 59)
  obtain ⟨W0, hW0⟩ : ∃ x, x = w.alloc (.cells (clA a q ⟨f.ext, f.proto, f.found, f.d, A, L.length, cap, A2, D.length, cap2⟩) 59) := ⟨_, rfl⟩
  have HC : Hid (∀ V : World, Below W0.heap.size W0 V → V.heap[w.heap.size]? = some (.cells (cll a q ⟨f.ext, f.proto, f.found, f.d, A, L.length, cap, A2, D.length, cap2⟩).toArray 59 (0, 0))) := Lib.hid fun V h => by
    subst hW0
    exact (HS.out.up h).c
  have HB : Hid (∀ V : World, Below W0.heap.size W0 V → Below w.heap.size w V) := Lib.hid fun V h => by
    subst hW0
    exact vafter h
  have HW := Lib.hid hW0
  have HLD := Lib.hid hld
  clear hW0 hld
  have hdi := dc_size
  have hdo := dc_one
  go_enter Try.func60, Try.ntmps60
  go_upto_region 2 with (fail)
  go_wp2_with (first
    | ((with_reducible refine ld_l2 (all := cll a q ⟨f.ext, f.proto, f.found, f.d, A, L.length, cap, A2, D.length, cap2⟩) ?_ rfl rfl HS.out.c ?_); (rfl); refine ⟨_, _, _, rfl, ?_⟩)
    | (fail))
  go_loopg [10, 3] D.length (fun kx s s3 wr => ∃ i : Nat, s = .int .i64 i ∧ i + kx = D.length ∧ Hid (Rw W0.heap.size s3 (.slice none 0 0) (stuckL (L.take i) (D.take i)) [] W0 wr))
  case atStart => exact ⟨0, rfl, by omega, Lib.hid (by rw [HW.out]; exact rw_nil _)⟩
  case round =>
    obtain ⟨i, rfl, hik, H⟩ := hrel
    clear HS
    cases gk with
    | zero =>
      obtain rfl : i = D.length := by omega
      go_wp2
      go_ret
      have h := H.out
      rw [List.take_length, HLD.out, List.take_length] at h
      obtain ⟨A, cap, e, h2⟩ := rw_rk h
      exact ⟨A, cap, by rw [← e]; rfl, h2, HB.out _ h.below⟩
    | succ kx =>
      have hlt : i < D.length := by omega
      have hlt2 : i < L.length := by have := HLD.out; omega
      have hlz : (i : Int) < (D.length : Int) := by omega
      have hkz : (i : Int) < (L.length : Int) := by omega
      have hiz : (0 : Int) ≤ (i : Int) := by omega
      have hw1 : wrap64 ((i : Int) + 1) = (i : Int) + 1 := by unfold wrap64; omega
      obtain ⟨ad, rfl, hab, hrow⟩ := rd_up hD (HB.out _ H.out.below) (by omega)
      obtain ⟨ak, rfl, hkb, hkrow⟩ := rk_up hL (HB.out _ H.out.below) (by omega)
      have hc := hrow i hlt
      obtain ⟨d, hd⟩ : ∃ d, d = D[i] := ⟨_, rfl⟩
      obtain ⟨P, hP⟩ : ∃ P, P = L[i] := ⟨_, rfl⟩
      rw [← hd] at hc
      have hstep := stuck_take hlt2 hlt
      rw [← hd, ← hP] at hstep
      have HKY : Hid (∀ V : World, Below W0.heap.size W0 V → V.cell? (ak.add (i * 2)) = some (.string P.str) ∧ V.cell? ⟨(ak.add (i * 2)).block, (ak.add (i * 2)).off + 1, none⟩ = some (.int .i64 P.sym)) := Lib.hid fun V hV => by
        obtain ⟨a2, h1, _, h3⟩ := rk_up hL (HB.out _ hV) (by omega)
        obtain rfl := Option.some.inj h1
        rw [hP]
        exact h3 i hlt2
      have hX70 : (stuckL (L.take i) (D.take i)).length ≤ 70000 := by
        have h := stuck_len (L.take i) (D.take i)
        rw [List.length_take] at h
        omega
      have HST := Lib.hid hstep
      have HR := Lib.hid H.out
      have cG := fun W => gone_p d W
      clear hrow hkrow hd hP H hD hL hstep hkb hab
      generalize stuckL (L.take i) (D.take i) = X at *
      cases hg : goneB d with
      | true =>
        rw [hg] at cG
        go_wp2_with (first
          | ((refine dA_ld (d := d) ?_ rfl rfl hc ?_); (rfl))
          | ((with_reducible refine t_store (cs := d.cells) rfl rfl rfl rfl (heap_alloc_new wr _) (hdi d) ?_ (hdo d) (vzero wr _) (Nat.le_refl _) ?_); (rfl); intro W2 hb2 hW2 _ _; have HO := Lib.hid (show Sb W0 _ X wr.heap.size d W2 from ⟨rw_up HR.out hb2, hW2⟩); clear hb2 hW2)
          | ((with_reducible refine dq_load (d := d) ?_ rfl rfl HO.out.d ?_); (rfl))
          | ((with_reducible refine lb_d2 ?_ rfl rfl HO.out.d ?_); (rfl); refine ⟨_, rfl, ?_⟩)
          | (go_at_call 55; (with_reducible refine (cG _).mono ?_); rintro e w6 ⟨rfl, h9⟩; have HO := Lib.hid (HO.out.up h9); obtain ⟨c0, c1⟩ := HKY.out _ HO.out.r.below; clear h9)
          | ((with_reducible refine lk_l2 ?_ rfl rfl (HC.out _ HO.out.r.below) ?_); (rfl); refine ⟨_, _, _, rfl, ?_⟩)
          | ((refine kA_ld (k := P) ?_ rfl rfl c0 c1 ?_); (rfl))
          | (refine rw_app rfl _ _ rfl HO.out.r rfl P.str P.sym rfl hX70 ?_; intro v2 W7 hR7)
          | (fail))
        go_roundg kx
        case measure => omega
        case rel => exact ⟨i + 1, by congr 1, by omega, Lib.hid (by
          have h := HST.out
          rw [hg] at h
          rw [h]
          show Rw _ _ _ (X ++ []) _ _ _
          rw [List.append_nil]
          exact HO.out.r)⟩
      | false =>
        rw [hg] at cG
        cases hz : d.z with
        | true =>
          go_wp2_with (first
            | ((refine dA_ld (d := d) ?_ rfl rfl hc ?_); (rfl))
            | ((with_reducible refine t_store (cs := d.cells) rfl rfl rfl rfl (heap_alloc_new wr _) (hdi d) ?_ (hdo d) (vzero wr _) (Nat.le_refl _) ?_); (rfl); intro W2 hb2 hW2 _ _; have HO := Lib.hid (show Sb W0 _ X wr.heap.size d W2 from ⟨rw_up HR.out hb2, hW2⟩); clear hb2 hW2)
            | ((with_reducible refine dq_load (d := d) ?_ rfl rfl HO.out.d ?_); (rfl))
            | ((with_reducible refine lb_d2 ?_ rfl rfl HO.out.d ?_); (rfl); refine ⟨_, rfl, ?_⟩)
            | (go_at_call 55; (with_reducible refine (cG _).mono ?_); rintro e w6 ⟨rfl, h9⟩; have HO := Lib.hid (HO.out.up h9); obtain ⟨c0, c1⟩ := HKY.out _ HO.out.r.below; clear h9)
            | ((with_reducible refine lk_l2 ?_ rfl rfl (HC.out _ HO.out.r.below) ?_); (rfl); refine ⟨_, _, _, rfl, ?_⟩)
            | ((refine kA_ld (k := P) ?_ rfl rfl c0 c1 ?_); (rfl))
            | (refine rw_app rfl _ _ rfl HO.out.r rfl P.str P.sym rfl hX70 ?_; intro v2 W7 hR7)
            | (fail))
          go_roundg kx
          case measure => omega
          case rel => exact ⟨i + 1, by congr 1, by omega, Lib.hid (by
            have h := HST.out
            rw [hg, hz] at h
            rw [h]
            show Rw _ _ _ (X ++ []) _ _ _
            rw [List.append_nil]
            exact HO.out.r)⟩
        | false =>
          go_wp2_with (first
            | ((refine dA_ld (d := d) ?_ rfl rfl hc ?_); (rfl))
            | ((with_reducible refine t_store (cs := d.cells) rfl rfl rfl rfl (heap_alloc_new wr _) (hdi d) ?_ (hdo d) (vzero wr _) (Nat.le_refl _) ?_); (rfl); intro W2 hb2 hW2 _ _; have HO := Lib.hid (show Sb W0 _ X wr.heap.size d W2 from ⟨rw_up HR.out hb2, hW2⟩); clear hb2 hW2)
            | ((with_reducible refine dq_load (d := d) ?_ rfl rfl HO.out.d ?_); (rfl))
            | ((with_reducible refine lb_d2 ?_ rfl rfl HO.out.d ?_); (rfl); refine ⟨_, rfl, ?_⟩)
            | (go_at_call 55; (with_reducible refine (cG _).mono ?_); rintro e w6 ⟨rfl, h9⟩; have HO := Lib.hid (HO.out.up h9); obtain ⟨c0, c1⟩ := HKY.out _ HO.out.r.below; clear h9)
            | ((with_reducible refine lk_l2 ?_ rfl rfl (HC.out _ HO.out.r.below) ?_); (rfl); refine ⟨_, _, _, rfl, ?_⟩)
            | ((refine kA_ld (k := P) ?_ rfl rfl c0 c1 ?_); (rfl))
            | (refine rw_app rfl _ _ rfl HO.out.r rfl P.str P.sym rfl hX70 ?_; intro v2 W7 hR7)
            | (fail))
          go_roundg kx
          case measure => omega
          case rel => exact ⟨i + 1, by congr 1, by omega, Lib.hid (by
            have h := HST.out
            rw [hg, hz] at h
            rw [h]
            exact hR7)⟩
noncomputable def listedB (K L : List Ky) (D : List Dq) (ext : Bool) : Bool := !twiceB K && (allB K (stuckL L D) && (ext || (allB K L && allB L K)))
set_option maxHeartbeats 8000000 in
set_option maxRecDepth 1000000 in
theorem listed_p (a : Ak) (q : Oq) (f : Fq) (x : Bool) (KA : Option Addr) (K : List Ky) (kc : Nat) (A : Option Addr) (L : List Ky) (cap : Nat) (A2 : Option Addr) (D : List Dq) (cap2 : Nat) (w : World) (hkl : K.length < 1000000000000) (hK : RK w KA K) (hkc : K.length ≤ kc) (hld : D.length = L.length) (hl : L.length ≤ 1200) (hL : RK w A L) (hD : RD w A2 D) : Calls Try.prog 42 #[.agg (clA a ⟨q.kind, q.v, q.b, q.found, q.d, KA, K.length, kc, q.err, q.text⟩ ⟨x, f.proto, f.found, f.d, A, L.length, cap, A2, D.length, cap2⟩)] w fun e w' => e = .returned (.bool (listedB K L D x)) ∧ Below w.heap.size w w' := by
  have HS := Lib.hid (ow_start w (clA a ⟨q.kind, q.v, q.b, q.found, q.d, KA, K.length, kc, q.err, q.text⟩ ⟨x, f.proto, f.found, f.d, A, L.length, cap, A2, D.length, cap2⟩) 59)
  have cT := fun W (hb : Below w.heap.size w W) => twice_p KA K kc W hkl (rk_up hK hb) hkc
  have cK : ∀ W, Below w.heap.size w W → Calls Try.prog 60 #[.agg (clA a ⟨q.kind, q.v, q.b, q.found, q.d, KA, K.length, kc, q.err, q.text⟩ ⟨x, f.proto, f.found, f.d, A, L.length, cap, A2, D.length, cap2⟩)] W (KeysTo (stuckL L D) W) := fun W hb => stuck_p a ⟨q.kind, q.v, q.b, q.found, q.d, KA, K.length, kc, q.err, q.text⟩ ⟨x, f.proto, f.found, f.d, none, 0, 0, none, 0, 0⟩ A L cap A2 D cap2 W hld hl (rk_up hL hb) (rd_up hD hb)
  have hsl : (stuckL L D).length < 1000000000000 := by have := stuck_len L D; omega
  have hll : L.length < 1000000000000 := by omega
  have c1 := fun A3 c3 W (hb : Below w.heap.size w W) (h : RK W A3 (stuckL L D)) => all_p KA K kc A3 (stuckL L D) c3 W hkl (rk_up hK hb) hsl h
  have c2 := fun W (hb : Below w.heap.size w W) => all_p KA K kc A L cap W hkl (rk_up hK hb) hll (rk_up hL hb)
  have c3_ := fun W (hb : Below w.heap.size w W) => all_p A L cap KA K kc W hll (rk_up hL hb) hkl (rk_up hK hb)
  unfold listedB
  unfold KeysTo at cK
  generalize twiceB K = b1 at *
  generalize allB K (stuckL L D) = b2 at *
  generalize allB K L = b3 at *
  generalize allB L K = b4 at *
  generalize stuckL L D = X at *
  clear hld hl hL hD hK hkl hkc hsl hll
  go_enter Try.func42, Try.ntmps42
  go_upto_region 1 with (fail)
  (try dsimp only [Act.put])
  have hS := HS.out.up (Below.refl _ _).drew
  refine wp_region_held_drew (S := Ow w (clA a ⟨q.kind, q.v, q.b, q.found, q.d, KA, K.length, kc, q.err, q.text⟩ ⟨x, f.proto, f.found, f.d, A, L.length, cap, A2, D.length, cap2⟩) 59) (by kernel_rfl) hS (fun hHeld => ?_)
  clear HS
  refine hH_take (i := 0) (v := .pointer (some ⟨w.heap.size, 29, none⟩)) (d := 5) (l2 := #[true, false, false, false, false, false, false, false]) rfl (by kernel_rfl) (by kernel_rfl) (by kernel_rfl) (fun _ _ _ h => h) (by kernel_rfl) ?_ (by assumption) rfl (by kernel_rfl) ?_
  · intro w hSw; go_simp; (try with_reducible rfl)
  simp only [List.set]
  refine hH_take (i := 1) (v := .pointer (some ⟨w.heap.size, 52, none⟩)) (d := 6) (l2 := #[true, true, false, false, false, false, false, false]) rfl (by kernel_rfl) (by kernel_rfl) (by kernel_rfl) (fun _ _ _ h => h) (by kernel_rfl) ?_ (by assumption) rfl (by kernel_rfl) ?_
  · intro w hSw; go_simp; (try with_reducible rfl)
  simp only [List.set]
  refine hH_take (i := 2) (v := .slice KA K.length kc) (d := 7) (l2 := #[true, true, true, false, false, false, false, false]) rfl (by kernel_rfl) (by kernel_rfl) (by kernel_rfl) (fun _ _ _ h => h) (by kernel_rfl) ?_ (by assumption) rfl (by kernel_rfl) ?_
  · intro w hSw; exact ex_load_at (n_ks ((vcells hSw.c 52).trans rfl)) rfl rfl
  simp only [List.set]
  refine hH_take (i := 3) (v := .pointer (some ⟨w.heap.size, 55, none⟩)) (d := 8) (l2 := #[true, true, true, true, false, false, false, false]) rfl (by kernel_rfl) (by kernel_rfl) (by kernel_rfl) (fun _ _ _ h => h) (by kernel_rfl) ?_ (by assumption) rfl (by kernel_rfl) ?_
  · intro w hSw; go_simp; (try with_reducible rfl)
  simp only [List.set]
  refine hH_take (i := 4) (v := .pointer (some ⟨w.heap.size, 77, none⟩)) (d := 9) (l2 := #[true, true, true, true, true, false, false, false]) rfl (by kernel_rfl) (by kernel_rfl) (by kernel_rfl) (fun _ _ _ h => h) (by kernel_rfl) ?_ (by assumption) rfl (by kernel_rfl) ?_
  · intro w hSw; go_simp; (try with_reducible rfl)
  simp only [List.set]
  refine hH_take (i := 5) (v := .slice A L.length cap) (d := 10) (l2 := #[true, true, true, true, true, true, false, false]) rfl (by kernel_rfl) (by kernel_rfl) (by kernel_rfl) (fun _ _ _ h => h) (by kernel_rfl) ?_ (by assumption) rfl (by kernel_rfl) ?_
  · intro w hSw; exact ex_load_at (n_ks ((vcells hSw.c 77).trans rfl)) rfl rfl
  simp only [List.set]
  refine hH_take (i := 6) (v := .slice KA K.length kc) (d := 3) (l2 := #[true, true, true, true, true, true, true, false]) rfl (by kernel_rfl) (by kernel_rfl) (by kernel_rfl) (fun _ _ _ h => h) (by kernel_rfl) ?_ (by assumption) rfl (by kernel_rfl) ?_
  · intro w hSw; go_simp; (try with_reducible rfl)
  simp only [List.set]
  refine hH_take (i := 7) (v := .slice A L.length cap) (d := 4) (l2 := #[true, true, true, true, true, true, true, true]) rfl (by kernel_rfl) (by kernel_rfl) (by kernel_rfl) (fun _ _ _ h => h) (by kernel_rfl) ?_ (by assumption) rfl (by kernel_rfl) ?_
  · intro w hSw; go_simp; (try with_reducible rfl)
  simp only [List.set]
  refine wpAnyH_done (by kernel_rfl) ?_ _
  have HS := Lib.hid hS
  clear hS hHeld
  cases b1
  · cases b2
    · go_wp2_with (first
        | ((with_reducible refine cc_ld ?_ rfl rfl HS.out.c ?_); (rfl))
        | ((with_reducible refine lb_l2 ?_ rfl rfl HS.out.c ?_); (rfl); refine ⟨_, rfl, ?_⟩)
        | (go_at_call 53; (with_reducible refine (cT _ HS.out.below).mono ?_); rintro e w1 ⟨rfl, h9⟩; have HS := Lib.hid (HS.out.up h9); clear h9)
        | (go_at_call 60; (with_reducible refine (cK _ HS.out.below).mono ?_); rintro e w2 ⟨A3, c3, rfl, hr3, h9⟩; have HS := Lib.hid (HS.out.up h9); have HR3 := Lib.hid hr3.1; clear h9 hr3)
        | (go_at_call 59; (with_reducible refine (c1 A3 c3 _ HS.out.below HR3.out).mono ?_); rintro e w3 ⟨rfl, h9⟩; have HS := Lib.hid (HS.out.up h9); clear h9)
        | (go_at_call 59; (with_reducible refine (c2 _ HS.out.below).mono ?_); rintro e w4 ⟨rfl, h9⟩; have HS := Lib.hid (HS.out.up h9); clear h9)
        | (go_at_call 59; (with_reducible refine (c3_ _ HS.out.below).mono ?_); rintro e w5 ⟨rfl, h9⟩; have HS := Lib.hid (HS.out.up h9); clear h9)
        | (fail))
      go_ret
      exact ⟨rfl, HS.out.below⟩
    · cases x
      · cases b3
        · go_wp2_with (first
            | ((with_reducible refine cc_ld ?_ rfl rfl HS.out.c ?_); (rfl))
            | ((with_reducible refine lb_l2 ?_ rfl rfl HS.out.c ?_); (rfl); refine ⟨_, rfl, ?_⟩)
            | (go_at_call 53; (with_reducible refine (cT _ HS.out.below).mono ?_); rintro e w1 ⟨rfl, h9⟩; have HS := Lib.hid (HS.out.up h9); clear h9)
            | (go_at_call 60; (with_reducible refine (cK _ HS.out.below).mono ?_); rintro e w2 ⟨A3, c3, rfl, hr3, h9⟩; have HS := Lib.hid (HS.out.up h9); have HR3 := Lib.hid hr3.1; clear h9 hr3)
            | (go_at_call 59; (with_reducible refine (c1 A3 c3 _ HS.out.below HR3.out).mono ?_); rintro e w3 ⟨rfl, h9⟩; have HS := Lib.hid (HS.out.up h9); clear h9)
            | (go_at_call 59; (with_reducible refine (c2 _ HS.out.below).mono ?_); rintro e w4 ⟨rfl, h9⟩; have HS := Lib.hid (HS.out.up h9); clear h9)
            | (go_at_call 59; (with_reducible refine (c3_ _ HS.out.below).mono ?_); rintro e w5 ⟨rfl, h9⟩; have HS := Lib.hid (HS.out.up h9); clear h9)
            | (fail))
          go_ret
          exact ⟨rfl, HS.out.below⟩
        · go_wp2_with (first
            | ((with_reducible refine cc_ld ?_ rfl rfl HS.out.c ?_); (rfl))
            | ((with_reducible refine lb_l2 ?_ rfl rfl HS.out.c ?_); (rfl); refine ⟨_, rfl, ?_⟩)
            | (go_at_call 53; (with_reducible refine (cT _ HS.out.below).mono ?_); rintro e w1 ⟨rfl, h9⟩; have HS := Lib.hid (HS.out.up h9); clear h9)
            | (go_at_call 60; (with_reducible refine (cK _ HS.out.below).mono ?_); rintro e w2 ⟨A3, c3, rfl, hr3, h9⟩; have HS := Lib.hid (HS.out.up h9); have HR3 := Lib.hid hr3.1; clear h9 hr3)
            | (go_at_call 59; (with_reducible refine (c1 A3 c3 _ HS.out.below HR3.out).mono ?_); rintro e w3 ⟨rfl, h9⟩; have HS := Lib.hid (HS.out.up h9); clear h9)
            | (go_at_call 59; (with_reducible refine (c2 _ HS.out.below).mono ?_); rintro e w4 ⟨rfl, h9⟩; have HS := Lib.hid (HS.out.up h9); clear h9)
            | (go_at_call 59; (with_reducible refine (c3_ _ HS.out.below).mono ?_); rintro e w5 ⟨rfl, h9⟩; have HS := Lib.hid (HS.out.up h9); clear h9)
            | (fail))
          go_ret
          exact ⟨rfl, HS.out.below⟩
      · go_wp2_with (first
          | ((with_reducible refine cc_ld ?_ rfl rfl HS.out.c ?_); (rfl))
          | ((with_reducible refine lb_l2 ?_ rfl rfl HS.out.c ?_); (rfl); refine ⟨_, rfl, ?_⟩)
          | (go_at_call 53; (with_reducible refine (cT _ HS.out.below).mono ?_); rintro e w1 ⟨rfl, h9⟩; have HS := Lib.hid (HS.out.up h9); clear h9)
          | (go_at_call 60; (with_reducible refine (cK _ HS.out.below).mono ?_); rintro e w2 ⟨A3, c3, rfl, hr3, h9⟩; have HS := Lib.hid (HS.out.up h9); have HR3 := Lib.hid hr3.1; clear h9 hr3)
          | (go_at_call 59; (with_reducible refine (c1 A3 c3 _ HS.out.below HR3.out).mono ?_); rintro e w3 ⟨rfl, h9⟩; have HS := Lib.hid (HS.out.up h9); clear h9)
          | (go_at_call 59; (with_reducible refine (c2 _ HS.out.below).mono ?_); rintro e w4 ⟨rfl, h9⟩; have HS := Lib.hid (HS.out.up h9); clear h9)
          | (go_at_call 59; (with_reducible refine (c3_ _ HS.out.below).mono ?_); rintro e w5 ⟨rfl, h9⟩; have HS := Lib.hid (HS.out.up h9); clear h9)
          | (fail))
        go_ret
        exact ⟨rfl, HS.out.below⟩
  · go_wp2_with (first
      | ((with_reducible refine cc_ld ?_ rfl rfl HS.out.c ?_); (rfl))
      | ((with_reducible refine lb_l2 ?_ rfl rfl HS.out.c ?_); (rfl); refine ⟨_, rfl, ?_⟩)
      | (go_at_call 53; (with_reducible refine (cT _ HS.out.below).mono ?_); rintro e w1 ⟨rfl, h9⟩; have HS := Lib.hid (HS.out.up h9); clear h9)
      | (go_at_call 60; (with_reducible refine (cK _ HS.out.below).mono ?_); rintro e w2 ⟨A3, c3, rfl, hr3, h9⟩; have HS := Lib.hid (HS.out.up h9); have HR3 := Lib.hid hr3.1; clear h9 hr3)
      | (go_at_call 59; (with_reducible refine (c1 A3 c3 _ HS.out.below HR3.out).mono ?_); rintro e w3 ⟨rfl, h9⟩; have HS := Lib.hid (HS.out.up h9); clear h9)
      | (go_at_call 59; (with_reducible refine (c2 _ HS.out.below).mono ?_); rintro e w4 ⟨rfl, h9⟩; have HS := Lib.hid (HS.out.up h9); clear h9)
      | (go_at_call 59; (with_reducible refine (c3_ _ HS.out.below).mono ?_); rintro e w5 ⟨rfl, h9⟩; have HS := Lib.hid (HS.out.up h9); clear h9)
      | (fail))
    go_ret
    exact ⟨rfl, HS.out.below⟩
section
variable {o : Oper} {a : Act} {w : World} {x : Operand}
theorem nil_r0 (w : World) : (binOp .eql 31 (.slice none 0 0) (.slice none 0 0)).run Try.prog w = .ok (.bool true) w := by kernel_rfl
theorem nil_r2 (p : Addr) (n c : Nat) (w : World) : (binOp .eql 31 (.slice (some p) n c) (.slice none 0 0)).run Try.prog w = .ok (.bool false) w := by kernel_rfl
theorem nil_g0 (x : Operand) (w : World) : (eqGuard .eql 31 x (.const (.slice none 0 0)) (.slice none 0 0) (.slice none 0 0)).run Try.prog w = .ok () w := by kernel_rfl
theorem nil_g2 (x : Operand) (p : Addr) (n c : Nat) (w : World) : (eqGuard .eql 31 x (.const (.slice none 0 0)) (.slice (some p) n c) (.slice none 0 0)).run Try.prog w = .ok () w := by kernel_rfl
theorem ex_nil0 (ho : o.op = .binOp .eql 31 x (.const (.slice none 0 0)) 31) (hx : a.eval x = .slice none 0 0) : (execOp a.eval o).run Try.prog w = .ok (.value (.bool true)) w := by
  unfold execOp
  simp only [ho, hx, show ∀ v, a.eval (.const v) = v from fun _ => rfl, nil_r0, nil_g0, Sem.run_bind, Sem.run_pure, Result.andThen_ok]
theorem ex_nil2 {n c : Nat} {p : Addr} (ho : o.op = .binOp .eql 31 x (.const (.slice none 0 0)) 31) (hx : a.eval x = .slice (some p) n c) : (execOp a.eval o).run Try.prog w = .ok (.value (.bool false)) w := by
  unfold execOp
  simp only [ho, hx, show ∀ v, a.eval (.const v) = v from fun _ => rfl, nil_r2, nil_g2, Sem.run_bind, Sem.run_pure, Result.andThen_ok]
end
set_option maxRecDepth 100000 in
/-- keys of somewhere else, put into a new row -/
theorem ky_all0 {ops : Array Oper} {rest : List Oper} {o : Oper} {a : Act} {Q : Exit → Act → World → Prop} (hgd : o.guard = none) (s x : Operand)
    (ho : o.op = .call { callee := .builtin .append, args := #[s, x], argTypes := #[31, 31] })
    {w : World} (hs : a.eval s = .slice (some ⟨w.heap.size, 0, none⟩) 0 0) {ad : Addr} {L : List Ky} {cap : Nat} (hx : a.eval x = .slice (some ad) L.length cap) (hr : RK w (some ad) L) (hl : L.length ≤ 70000)
    (kk : ∀ v' w', w'.ownsRow w.heap.size 29 2 v' L.length (kyCells L) → Below w.heap.size w w' → wpList Try.prog ops Q rest (a.put o.dst v') w') : wpList Try.prog ops Q (o :: rest) a (w.alloc (.cells #[] 29)) := by
  obtain ⟨i0, hi, hz0, hz1, hz2⟩ := info_parts key_info
  have hown0 : (w.alloc (.cells #[] 29)).ownsRow w.heap.size 29 2 (.slice (some ⟨w.heap.size, 0, none⟩) 0 0) 0 [] := ⟨rfl, .inr ⟨w.heap.size, 0, #[], rfl, Nat.le_refl _, heap_alloc_new w _, Nat.le_refl _, Nat.zero_le _, rfl, rfl⟩⟩
  refine wpList_append_own _ hgd s x 31 ho w.heap.size 29 i0 (.agg #[.string ⟨#[]⟩, .int .i64 0]) 2 24 Try.underlying31 hi hz0 hz1 hz2 rfl (by decide) (.slice (some ⟨w.heap.size, 0, none⟩) 0 0) 0 [] hs hown0 ad L.length cap (kyCells L) hx (ky_len L) (rk_cells (rk_up hr (vzero w _))) ?_ ?_ ?_ ?_ ?_
  · intro u hu
    unfold kyCells at hu
    rw [List.mem_flatMap] at hu
    obtain ⟨t, _, ht⟩ := hu
    simp at ht; rcases ht with rfl | rfl <;> rfl
  · unfold maxLen; omega
  · omega
  · simp
  · intro v' w' hown hgrow _
    rw [Nat.zero_add, List.nil_append] at hown
    exact kk v' w' hown (own_grown hown0 (vzero w _) (by simp) hgrow)
set_option maxHeartbeats 8000000 in
set_option maxRecDepth 1000000 in
theorem clone_p (A : Option Addr) (L : List Ky) (cap : Nat) (w : World) (hl : L.length ≤ 70000) (hL : RK w A L) (hn : A = none → cap = 0) : Calls Try.prog 43 #[.slice A L.length cap] w (KeysTo L w) := by
  cases A with
  | none =>
    have h0 : L = [] := by
      cases L with
      | nil => rfl
      | cons k r => obtain ⟨a, h, _⟩ := hL (by simp); cases h
    have hc := hn rfl
    subst h0 hc
    clear hn hL hl
    show Calls Try.prog 43 #[.slice none 0 0] w (KeysTo [] w)
    go_enter Try.func43, Try.ntmps43
    go_wp2_with (first
      | ((refine w_val ?_ (ex_nil0 rfl rfl) ?_); (rfl))
      | (fail))
    go_ret
    exact ⟨none, 0, rfl, ⟨fun h => absurd h (by decide), Nat.le_refl _⟩, Below.refl _ _⟩
  | some ad =>
    clear hn
    go_enter Try.func43, Try.ntmps43
    go_wp2_with (first
      | ((refine w_val ?_ (ex_nil2 rfl rfl) ?_); (rfl))
      | (refine ky_all0 rfl _ _ rfl rfl rfl hL hl ?_; intro v2 w2 hO2 hB2)
      | (fail))
    go_ret
    obtain ⟨A3, c3, hv, hr, hc⟩ := rw_rk (u := .slice none 0 0) (N := []) (w0 := w) ⟨hO2, World.ownsRow_nil _ _ _ _, hB2, hB2.size⟩
    exact ⟨A3, c3, by rw [← hv]; rfl, ⟨hr, hc⟩, hB2⟩
end Go.Proofs.Ytkmgdaagannhkaa.S
/-
  post: what is delivered.
-/
namespace Go.Proofs.Ytkmgdaagannhkaa.S
open Go.RowKit Go.Lib Fl
open Classical

/-- cells laid over a row, from a place on -/
def setAll : List Value → Nat → List Value → List Value
  | all, _, [] => all
  | all, i, v :: r => setAll (all.set i v) (i + 1) r
theorem setCells_blk {g : Nat} {t : TypeId} : ∀ (cs : List Value) (i : Nat) (w : World) (all : List Value), w.heap[g]? = some (.cells all.toArray t (0, 0)) → (w.setCells g i cs).heap[g]? = some (.cells (setAll all i cs).toArray t (0, 0))
  | [], _, _, _, h => h
  | v :: r, i, w, all, h => by
    have h2 := vset1 h i v
    rw [List.setIfInBounds_toArray] at h2
    exact setCells_blk r (i + 1) _ (all.set i v) h2
theorem setCells_below {B g : Nat} {w0 : World} (hg : B ≤ g) : ∀ (cs : List Value) (i : Nat) (w : World), Below B w0 w → Below B w0 (w.setCells g i cs)
  | [], _, _, h => h
  | v :: r, i, _, h => setCells_below hg r (i + 1) _ (h.setCell (p := ⟨g, i, none⟩) hg v)
theorem setCells_other {g j : Nat} (hj : j ≠ g) {ob : Obj} : ∀ (cs : List Value) (i : Nat) (w : World), w.heap[j]? = some ob → (w.setCells g i cs).heap[j]? = some ob
  | [], _, _, h => h
  | v :: r, i, _, h => setCells_other hj r (i + 1) _ (vset1o h (fun e => hj e.symm) i v)
section
variable {ops : Array Oper} {rest : List Oper} {o : Oper} {a : Act} {w : World} {Q : Exit → Act → World → Prop} {x y : Operand} {g i : Nat} {t : TypeId} {all : List Value}
/-- cells stored into the middle of a block of the call's own -/
theorem mid_store {ty : TypeId} {cs : List Value} {B : Nat} {w0 : World} (hgd : o.guard = none) (ho : o.op = .store ty x y) (hx : a.eval x = .pointer (some ⟨g, i, none⟩)) (hy : a.eval y = .agg cs.toArray) (hg : w.heap[g]? = some (.cells all.toArray t (0, 0))) (hi : i + cs.length ≤ all.length) (hz : (Try.prog.info? ty).map (·.size) = some cs.length) (h1 : cs.all (·.oneCell') = true)
    (hB : Below B w0 w) (hBg : B ≤ g) (h : ∀ W : World, Below B w0 W → W.heap[g]? = some (.cells (setAll all i cs).toArray t (0, 0)) → (∀ j ob, j ≠ g → w.heap[j]? = some ob → W.heap[j]? = some ob) → wpList Try.prog ops Q rest (a.put o.dst undef) W) : wpList Try.prog ops Q (o :: rest) a w := by
  refine wpList_store_mid hgd ty x y ho g i cs.toArray hx hy (fun j hj => ?_) (by simpa using hz) (cells_one h1) (h _ (setCells_below hBg cs i w hB) (setCells_blk cs i w all hg) fun j ob hj hob => setCells_other hj cs i w hob)
  have hj : j < cs.length := by simpa using hj
  refine ⟨?_, vfz hg _⟩
  rw [vcells hg, List.getElem?_toArray, List.getElem?_eq_getElem (by omega)]
  rfl
/-- one cell stored into the middle of a block of the call's own -/
theorem cell_store {ty : TypeId} {v : Value} {B : Nat} {w0 : World} (hgd : o.guard = none) (ho : o.op = .store ty x y) (hx : a.eval x = .pointer (some ⟨g, i, none⟩)) (hy : a.eval y = v) (hg : w.heap[g]? = some (.cells all.toArray t (0, 0))) (hr : ∀ w : World, (w.cell? ⟨g, i, none⟩).isSome = true → w.frozen? ⟨g, i, none⟩ = false → (Instr.storeAt ty (.pointer (some ⟨g, i, none⟩)) v).run Try.prog w = .ok () (w.setCell ⟨g, i, none⟩ v)) (hi : i < all.length)
    (hB : Below B w0 w) (hBg : B ≤ g) (h : ∀ W : World, Below B w0 W → W.heap[g]? = some (.cells (all.set i v).toArray t (0, 0)) → (∀ j ob, j ≠ g → w.heap[j]? = some ob → W.heap[j]? = some ob) → wpList Try.prog ops Q rest (a.put o.dst undef) W) : wpList Try.prog ops Q (o :: rest) a w := by
  refine wpList_plain hgd fun K hK => ?_
  have hc : (w.cell? ⟨g, i, none⟩).isSome = true := by rw [vcells hg, List.getElem?_toArray, List.getElem?_eq_getElem hi]; rfl
  unfold Oper.wp execOp
  simp only [ho, hx, hy, hr w hc (vfz hg i), Sem.run_bind, Sem.run_pure, Result.andThen_ok]
  refine hK _ _ (h _ (setCells_below hBg [v] i w hB) (setCells_blk [v] i w all hg) fun j ob hj hob => setCells_other hj [v] i w hob)
theorem sr_bool (b : Bool) (w : World) (hc : (w.cell? ⟨g, i, none⟩).isSome = true) (hf : w.frozen? ⟨g, i, none⟩ = false) : (Instr.storeAt 4 (.pointer (some ⟨g, i, none⟩)) (.bool b)).run Try.prog w = .ok () (w.setCell ⟨g, i, none⟩ (.bool b)) := by
  obtain ⟨v, hv⟩ := Option.isSome_iff_exists.1 hc
  simp [go_sem, hv, hf]
theorem sr_keys (A : Option Addr) (n c : Nat) (w : World) (hc : (w.cell? ⟨g, i, none⟩).isSome = true) (hf : w.frozen? ⟨g, i, none⟩ = false) : (Instr.storeAt 31 (.pointer (some ⟨g, i, none⟩)) (.slice A n c)).run Try.prog w = .ok () (w.setCell ⟨g, i, none⟩ (.slice A n c)) := by
  obtain ⟨v, hv⟩ := Option.isSome_iff_exists.1 hc
  simp [go_sem, hv, hf]
theorem done_rb (w : World) : (Instr.build 33 #[(0, .int .u8 1)]).run Try.prog w = .ok (.agg (oqA (yesO false))) w := by kernel_rfl
theorem done_ea (ho : o.op = .build 33 #[(0, .const (.int .u8 1))]) : (execOp a.eval o).run Try.prog w = .ok (.value (.agg (oqA (yesO false)))) w := by
  unfold execOp
  simp only [ho, List.map_toArray, List.map_cons, List.map_nil, show ∀ v, a.eval (.const v) = v from fun _ => rfl, done_rb, Sem.run_bind, Sem.run_pure, Result.andThen_ok]
theorem oo_ld {q : Oq} (hw : Region.wanted o (yielded ops a.tmps) = true) (ho : o.op = .load 33 x) (hx : a.eval x = .pointer (some ⟨g, 0, none⟩)) (hg : w.heap[g]? = some (.cells (oql q).toArray t (0, 0)))
    (h : wpList Try.prog ops Q rest (a.put o.dst (.agg (oqA q))) w) : wpList Try.prog ops Q (o :: rest) a w :=
  sub_load (all := oql q) (cs := oql q) hw ho hx hg rfl Try.underlying33 rfl out_sz h
end
end Go.Proofs.Ytkmgdaagannhkaa.S
/-
  post: delivered.
-/
namespace Go.Proofs.Ytkmgdaagannhkaa.S
open Go.RowKit Go.Lib Fl
open Classical

/-- what is delivered, told -/
noncomputable def delQ (m : Int) (q : Oq) (n : Nat) (ka : Option Addr) (kc : Nat) : Oq :=
  bif m == 1 || (m == 8 || (m == 12 || m == 13)) then ⟨1, q.v, false, false, dz 0, none, 0, 0, 0, ⟨#[]⟩⟩ else bif m == 11 then ⟨1, v0, false, false, dz 0, ka, n, kc, 0, ⟨#[]⟩⟩
  else bif m == 5 then (bif q.found then ⟨1, v0, false, true, compQ q.d, none, 0, 0, 0, ⟨#[]⟩⟩ else yesO false) else ⟨1, v0, q.b, false, dz 0, none, 0, 0, 0, ⟨#[]⟩⟩
def DelTo (m : Int) (q : Oq) (K : List Ky) (w : World) (e : Ending) (w' : World) : Prop := ∃ ka kc, e = .returned (.agg (oqA (delQ m q K.length ka kc))) ∧ Below w.heap.size w w'
/-- the claim, the result's block, and what is to be delivered so far -/
structure De (w : World) (c : Array Value) (X : Oq) (W : World) : Prop where
  below : Below w.heap.size w W
  c : W.heap[w.heap.size]? = some (.cells c 59 (0, 0))
  r : ∃ z : Array Value, z.size = 26 ∧ W.heap[w.heap.size + 1]? = some (.cells z 33 (0, 0))
  o : W.heap[w.heap.size + 1 + 1]? = some (.cells (oql X).toArray 33 (0, 0))
theorem De.up {w : World} {c : Array Value} {X : Oq} {W W' : World} (h : De w c X W) (hb : Below W.heap.size W W') : De w c X W' := by
  obtain ⟨z, hz, hr⟩ := h.r
  exact ⟨vb h.below hb, vblkn hb h.c, ⟨z, hz, vblkn hb hr⟩, vblkn hb h.o⟩
theorem De.put {w : World} {c : Array Value} {X Y : Oq} {W W' : World} (h : De w c X W) (hb : Below w.heap.size w W') (ho : W'.heap[w.heap.size + 1 + 1]? = some (.cells (oql Y).toArray 33 (0, 0))) (hO : ∀ j ob, j ≠ w.heap.size + 1 + 1 → W.heap[j]? = some ob → W'.heap[j]? = some ob) : De w c Y W' := by
  obtain ⟨z, hz, hr⟩ := h.r
  exact ⟨hb, hO _ _ (by omega) h.c, ⟨z, hz, hO _ _ (by omega) hr⟩, ho⟩
set_option maxHeartbeats 8000000 in
set_option maxRecDepth 1000000 in
theorem delivered_p (a : Ak) (q : Oq) (fd : Bool) (hfd : q.found = fd) (f : Fq) (KA : Option Addr) (K : List Ky) (kc : Nat) (w : World) (hm0 : 1 ≤ a.m) (hm1 : a.m ≤ 13) (hl : K.length ≤ 70000) (hK : RK w KA K) (hn : KA = none → kc = 0) (hd : q.d.In) : Calls Try.prog 23 #[.agg (clA a ⟨q.kind, q.v, q.b, fd, q.d, KA, K.length, kc, q.err, q.text⟩ f)] w (DelTo a.m q K w) := by
  obtain ⟨b1, b2, b3⟩ := vblk3 (w := w) (Below.refl _ (((w.alloc (.cells (clA a ⟨q.kind, q.v, q.b, fd, q.d, KA, K.length, kc, q.err, q.text⟩ f) 59)).alloc (.cells oz26 33)).alloc (.cells oz26 33)))
  have hB0 : Below w.heap.size w (((w.alloc (.cells (clA a ⟨q.kind, q.v, q.b, fd, q.d, KA, K.length, kc, q.err, q.text⟩ f) 59)).alloc (.cells oz26 33)).alloc (.cells oz26 33)) := vafter (vafter (vzero _ _))
  have cC := fun W (hb : Below w.heap.size w W) => clone_p KA K kc W hl (rk_up hK hb) hn
  have cD := fun W => completed_p hd W
  unfold KeysTo at cC
  unfold DelTo
  have HFD := Lib.hid hfd
  clear hK hn hd hfd
  have hways : a.m = 1 ∨ a.m = 2 ∨ a.m = 3 ∨ a.m = 4 ∨ a.m = 5 ∨ a.m = 6 ∨ a.m = 7 ∨ a.m = 8 ∨ a.m = 9 ∨ a.m = 10 ∨ a.m = 11 ∨ a.m = 12 ∨ a.m = 13 := by omega
  clear hm0 hm1
  rcases hways with hm | hm | hm | hm | hm | hm | hm | hm | hm | hm | hm | hm | hm
  · go_enter Try.func23, Try.ntmps23
    go_wp2_with (first
      | ((refine w_val ?_ (done_ea rfl) ?_); (rfl))
      | ((with_reducible refine t_store (cs := oqA (yesO false)) rfl rfl rfl rfl b3 (oq_info _) ?_ (oqA_one _) hB0 ?_ ?_); (rfl); (omega); intro W6 hb6 hW6 hO6 _; have HX := Lib.hid (show De w _ (yesO false) W6 from ⟨hb6, (hO6 _ (by omega)).trans b1, ⟨_, rfl, (hO6 _ (by omega)).trans b2⟩, hW6⟩); clear hb6 hW6 hO6)
      | ((with_reducible refine lu_l2 ?_ rfl rfl HX.out.c ?_); (rfl); refine ⟨_, rfl, ?_⟩)
      | ((with_reducible refine cv_ld (v := q.v) ?_ rfl rfl HX.out.c ?_ ?_); (rfl); (rfl))
      | ((with_reducible refine mid_store (cs := [.int .u8 q.v.k, .float .f64 q.v.x, .string q.v.s, .int .i64 q.v.r]) rfl rfl rfl ?_ HX.out.o ?_ ?_ ?_ HX.out.below ?_ ?_); (rfl); (show 1 + 4 ≤ 26; decide); (exact vsz); (rfl); (omega); intro W7 hb7 hW7 hO7; have HX := Lib.hid (show De w _ ⟨1, q.v, false, false, dz 0, none, 0, 0, 0, ⟨#[]⟩⟩ W7 from HX.out.put hb7 hW7 hO7); clear hb7 hW7 hO7)
      | ((with_reducible refine oo_ld ?_ rfl rfl HX.out.o ?_); (rfl))
      | ((with_reducible refine t_store (cs := oqA ⟨1, q.v, false, false, dz 0, none, 0, 0, 0, ⟨#[]⟩⟩) rfl rfl rfl rfl HX.out.r.choose_spec.2 (oq_info _) ?_ (oqA_one _) HX.out.below ?_ ?_); (exact HX.out.r.choose_spec.1); (omega); intro W8 hb8 hW8 hO8 _)
      | (fail))
    refine oq_end (o := ⟨1, q.v, false, false, dz 0, none, 0, 0, 0, ⟨#[]⟩⟩) Try.results23 rfl hW8 ?_
    exact ⟨none, 0, by unfold delQ; rw [hm]; rfl, hb8⟩
  · go_enter Try.func23, Try.ntmps23
    go_wp2_with (first
      | ((refine w_val ?_ (done_ea rfl) ?_); (rfl))
      | ((with_reducible refine t_store (cs := oqA (yesO false)) rfl rfl rfl rfl b3 (oq_info _) ?_ (oqA_one _) hB0 ?_ ?_); (rfl); (omega); intro W6 hb6 hW6 hO6 _; have HX := Lib.hid (show De w _ (yesO false) W6 from ⟨hb6, (hO6 _ (by omega)).trans b1, ⟨_, rfl, (hO6 _ (by omega)).trans b2⟩, hW6⟩); clear hb6 hW6 hO6)
      | ((with_reducible refine lu_l2 ?_ rfl rfl HX.out.c ?_); (rfl); refine ⟨_, rfl, ?_⟩)
      | ((with_reducible refine lb_l2 ?_ rfl rfl HX.out.c ?_); (rfl); refine ⟨_, rfl, ?_⟩)
      | ((with_reducible refine cell_store (v := .bool q.b) rfl rfl rfl rfl HX.out.o (fun w => sr_bool q.b w) ?_ HX.out.below ?_ ?_); (decide); (omega); intro W7 hb7 hW7 hO7; have HX := Lib.hid (show De w _ ⟨1, v0, q.b, false, dz 0, none, 0, 0, 0, ⟨#[]⟩⟩ W7 from HX.out.put hb7 hW7 hO7); clear hb7 hW7 hO7)
      | ((with_reducible refine oo_ld ?_ rfl rfl HX.out.o ?_); (rfl))
      | ((with_reducible refine t_store (cs := oqA ⟨1, v0, q.b, false, dz 0, none, 0, 0, 0, ⟨#[]⟩⟩) rfl rfl rfl rfl HX.out.r.choose_spec.2 (oq_info _) ?_ (oqA_one _) HX.out.below ?_ ?_); (exact HX.out.r.choose_spec.1); (omega); intro W8 hb8 hW8 hO8 _)
      | (fail))
    refine oq_end (o := ⟨1, v0, q.b, false, dz 0, none, 0, 0, 0, ⟨#[]⟩⟩) Try.results23 rfl hW8 ?_
    exact ⟨none, 0, by unfold delQ; rw [hm]; rfl, hb8⟩
  · go_enter Try.func23, Try.ntmps23
    go_wp2_with (first
      | ((refine w_val ?_ (done_ea rfl) ?_); (rfl))
      | ((with_reducible refine t_store (cs := oqA (yesO false)) rfl rfl rfl rfl b3 (oq_info _) ?_ (oqA_one _) hB0 ?_ ?_); (rfl); (omega); intro W6 hb6 hW6 hO6 _; have HX := Lib.hid (show De w _ (yesO false) W6 from ⟨hb6, (hO6 _ (by omega)).trans b1, ⟨_, rfl, (hO6 _ (by omega)).trans b2⟩, hW6⟩); clear hb6 hW6 hO6)
      | ((with_reducible refine lu_l2 ?_ rfl rfl HX.out.c ?_); (rfl); refine ⟨_, rfl, ?_⟩)
      | ((with_reducible refine lb_l2 ?_ rfl rfl HX.out.c ?_); (rfl); refine ⟨_, rfl, ?_⟩)
      | ((with_reducible refine cell_store (v := .bool q.b) rfl rfl rfl rfl HX.out.o (fun w => sr_bool q.b w) ?_ HX.out.below ?_ ?_); (decide); (omega); intro W7 hb7 hW7 hO7; have HX := Lib.hid (show De w _ ⟨1, v0, q.b, false, dz 0, none, 0, 0, 0, ⟨#[]⟩⟩ W7 from HX.out.put hb7 hW7 hO7); clear hb7 hW7 hO7)
      | ((with_reducible refine oo_ld ?_ rfl rfl HX.out.o ?_); (rfl))
      | ((with_reducible refine t_store (cs := oqA ⟨1, v0, q.b, false, dz 0, none, 0, 0, 0, ⟨#[]⟩⟩) rfl rfl rfl rfl HX.out.r.choose_spec.2 (oq_info _) ?_ (oqA_one _) HX.out.below ?_ ?_); (exact HX.out.r.choose_spec.1); (omega); intro W8 hb8 hW8 hO8 _)
      | (fail))
    refine oq_end (o := ⟨1, v0, q.b, false, dz 0, none, 0, 0, 0, ⟨#[]⟩⟩) Try.results23 rfl hW8 ?_
    exact ⟨none, 0, by unfold delQ; rw [hm]; rfl, hb8⟩
  · go_enter Try.func23, Try.ntmps23
    go_wp2_with (first
      | ((refine w_val ?_ (done_ea rfl) ?_); (rfl))
      | ((with_reducible refine t_store (cs := oqA (yesO false)) rfl rfl rfl rfl b3 (oq_info _) ?_ (oqA_one _) hB0 ?_ ?_); (rfl); (omega); intro W6 hb6 hW6 hO6 _; have HX := Lib.hid (show De w _ (yesO false) W6 from ⟨hb6, (hO6 _ (by omega)).trans b1, ⟨_, rfl, (hO6 _ (by omega)).trans b2⟩, hW6⟩); clear hb6 hW6 hO6)
      | ((with_reducible refine lu_l2 ?_ rfl rfl HX.out.c ?_); (rfl); refine ⟨_, rfl, ?_⟩)
      | ((with_reducible refine lb_l2 ?_ rfl rfl HX.out.c ?_); (rfl); refine ⟨_, rfl, ?_⟩)
      | ((with_reducible refine cell_store (v := .bool q.b) rfl rfl rfl rfl HX.out.o (fun w => sr_bool q.b w) ?_ HX.out.below ?_ ?_); (decide); (omega); intro W7 hb7 hW7 hO7; have HX := Lib.hid (show De w _ ⟨1, v0, q.b, false, dz 0, none, 0, 0, 0, ⟨#[]⟩⟩ W7 from HX.out.put hb7 hW7 hO7); clear hb7 hW7 hO7)
      | ((with_reducible refine oo_ld ?_ rfl rfl HX.out.o ?_); (rfl))
      | ((with_reducible refine t_store (cs := oqA ⟨1, v0, q.b, false, dz 0, none, 0, 0, 0, ⟨#[]⟩⟩) rfl rfl rfl rfl HX.out.r.choose_spec.2 (oq_info _) ?_ (oqA_one _) HX.out.below ?_ ?_); (exact HX.out.r.choose_spec.1); (omega); intro W8 hb8 hW8 hO8 _)
      | (fail))
    refine oq_end (o := ⟨1, v0, q.b, false, dz 0, none, 0, 0, 0, ⟨#[]⟩⟩) Try.results23 rfl hW8 ?_
    exact ⟨none, 0, by unfold delQ; rw [hm]; rfl, hb8⟩
  · obtain ⟨X, hX⟩ : ∃ X, X = compQ q.d := ⟨_, rfl⟩
    rw [← hX] at cD
    have HXE := Lib.hid hX
    clear hX
    cases fd with
    | true =>
      go_enter Try.func23, Try.ntmps23
      go_wp2_with (first
        | ((refine w_val ?_ (done_ea rfl) ?_); (rfl))
        | ((with_reducible refine t_store (cs := oqA (yesO false)) rfl rfl rfl rfl b3 (oq_info _) ?_ (oqA_one _) hB0 ?_ ?_); (rfl); (omega); intro W6 hb6 hW6 hO6 _; have HX := Lib.hid (show De w _ (yesO false) W6 from ⟨hb6, (hO6 _ (by omega)).trans b1, ⟨_, rfl, (hO6 _ (by omega)).trans b2⟩, hW6⟩); clear hb6 hW6 hO6)
        | ((with_reducible refine lu_l2 ?_ rfl rfl HX.out.c ?_); (rfl); refine ⟨_, rfl, ?_⟩)
        | ((with_reducible refine lb_l2 ?_ rfl rfl HX.out.c ?_); (rfl); refine ⟨_, rfl, ?_⟩)
        | ((with_reducible refine cd_ld (d := q.d) ?_ rfl rfl HX.out.c ?_ ?_); (rfl); (rfl))
        | (go_at_call 44; (with_reducible refine (cD _).mono ?_); rintro e w5 ⟨rfl, h9⟩; have HX := Lib.hid (HX.out.up h9); clear h9)
        | ((with_reducible refine cell_store (v := .bool true) rfl rfl rfl rfl HX.out.o (fun w => sr_bool true w) ?_ HX.out.below ?_ ?_); (decide); (omega); intro W7 hb7 hW7 hO7; have HX := Lib.hid (show De w _ ⟨1, v0, false, true, dz 0, none, 0, 0, 0, ⟨#[]⟩⟩ W7 from HX.out.put hb7 hW7 hO7); clear hb7 hW7 hO7)
        | ((with_reducible refine mid_store (cs := X.cells.toList) rfl rfl rfl ?_ HX.out.o ?_ ?_ ?_ HX.out.below ?_ ?_); (rfl); (show 7 + 16 ≤ 26; decide); (exact dsz); (rfl); (omega); intro W7 hb7 hW7 hO7; have HX := Lib.hid (show De w _ ⟨1, v0, false, true, X, none, 0, 0, 0, ⟨#[]⟩⟩ W7 from HX.out.put hb7 hW7 hO7); clear hb7 hW7 hO7)
        | ((with_reducible refine oo_ld ?_ rfl rfl HX.out.o ?_); (rfl))
        | ((with_reducible refine t_store (cs := oqA ⟨1, v0, false, true, X, none, 0, 0, 0, ⟨#[]⟩⟩) rfl rfl rfl rfl HX.out.r.choose_spec.2 (oq_info _) ?_ (oqA_one _) HX.out.below ?_ ?_); (exact HX.out.r.choose_spec.1); (omega); intro W8 hb8 hW8 hO8 _)
        | (fail))
      refine oq_end (o := ⟨1, v0, false, true, X, none, 0, 0, 0, ⟨#[]⟩⟩) Try.results23 rfl hW8 ?_
      exact ⟨none, 0, by unfold delQ; rw [hm, HFD.out, HXE.out]; rfl, hb8⟩
    | false =>
      go_enter Try.func23, Try.ntmps23
      go_wp2_with (first
        | ((refine w_val ?_ (done_ea rfl) ?_); (rfl))
        | ((with_reducible refine t_store (cs := oqA (yesO false)) rfl rfl rfl rfl b3 (oq_info _) ?_ (oqA_one _) hB0 ?_ ?_); (rfl); (omega); intro W6 hb6 hW6 hO6 _; have HX := Lib.hid (show De w _ (yesO false) W6 from ⟨hb6, (hO6 _ (by omega)).trans b1, ⟨_, rfl, (hO6 _ (by omega)).trans b2⟩, hW6⟩); clear hb6 hW6 hO6)
        | ((with_reducible refine lu_l2 ?_ rfl rfl HX.out.c ?_); (rfl); refine ⟨_, rfl, ?_⟩)
        | ((with_reducible refine lb_l2 ?_ rfl rfl HX.out.c ?_); (rfl); refine ⟨_, rfl, ?_⟩)
        | ((with_reducible refine oo_ld ?_ rfl rfl HX.out.o ?_); (rfl))
        | ((with_reducible refine t_store (cs := oqA (yesO false)) rfl rfl rfl rfl HX.out.r.choose_spec.2 (oq_info _) ?_ (oqA_one _) HX.out.below ?_ ?_); (exact HX.out.r.choose_spec.1); (omega); intro W8 hb8 hW8 hO8 _)
        | (fail))
      refine oq_end (o := (yesO false)) Try.results23 rfl hW8 ?_
      exact ⟨none, 0, by unfold delQ; rw [hm, HFD.out]; rfl, hb8⟩
  · go_enter Try.func23, Try.ntmps23
    go_wp2_with (first
      | ((refine w_val ?_ (done_ea rfl) ?_); (rfl))
      | ((with_reducible refine t_store (cs := oqA (yesO false)) rfl rfl rfl rfl b3 (oq_info _) ?_ (oqA_one _) hB0 ?_ ?_); (rfl); (omega); intro W6 hb6 hW6 hO6 _; have HX := Lib.hid (show De w _ (yesO false) W6 from ⟨hb6, (hO6 _ (by omega)).trans b1, ⟨_, rfl, (hO6 _ (by omega)).trans b2⟩, hW6⟩); clear hb6 hW6 hO6)
      | ((with_reducible refine lu_l2 ?_ rfl rfl HX.out.c ?_); (rfl); refine ⟨_, rfl, ?_⟩)
      | ((with_reducible refine lb_l2 ?_ rfl rfl HX.out.c ?_); (rfl); refine ⟨_, rfl, ?_⟩)
      | ((with_reducible refine cell_store (v := .bool q.b) rfl rfl rfl rfl HX.out.o (fun w => sr_bool q.b w) ?_ HX.out.below ?_ ?_); (decide); (omega); intro W7 hb7 hW7 hO7; have HX := Lib.hid (show De w _ ⟨1, v0, q.b, false, dz 0, none, 0, 0, 0, ⟨#[]⟩⟩ W7 from HX.out.put hb7 hW7 hO7); clear hb7 hW7 hO7)
      | ((with_reducible refine oo_ld ?_ rfl rfl HX.out.o ?_); (rfl))
      | ((with_reducible refine t_store (cs := oqA ⟨1, v0, q.b, false, dz 0, none, 0, 0, 0, ⟨#[]⟩⟩) rfl rfl rfl rfl HX.out.r.choose_spec.2 (oq_info _) ?_ (oqA_one _) HX.out.below ?_ ?_); (exact HX.out.r.choose_spec.1); (omega); intro W8 hb8 hW8 hO8 _)
      | (fail))
    refine oq_end (o := ⟨1, v0, q.b, false, dz 0, none, 0, 0, 0, ⟨#[]⟩⟩) Try.results23 rfl hW8 ?_
    exact ⟨none, 0, by unfold delQ; rw [hm]; rfl, hb8⟩
  · go_enter Try.func23, Try.ntmps23
    go_wp2_with (first
      | ((refine w_val ?_ (done_ea rfl) ?_); (rfl))
      | ((with_reducible refine t_store (cs := oqA (yesO false)) rfl rfl rfl rfl b3 (oq_info _) ?_ (oqA_one _) hB0 ?_ ?_); (rfl); (omega); intro W6 hb6 hW6 hO6 _; have HX := Lib.hid (show De w _ (yesO false) W6 from ⟨hb6, (hO6 _ (by omega)).trans b1, ⟨_, rfl, (hO6 _ (by omega)).trans b2⟩, hW6⟩); clear hb6 hW6 hO6)
      | ((with_reducible refine lu_l2 ?_ rfl rfl HX.out.c ?_); (rfl); refine ⟨_, rfl, ?_⟩)
      | ((with_reducible refine lb_l2 ?_ rfl rfl HX.out.c ?_); (rfl); refine ⟨_, rfl, ?_⟩)
      | ((with_reducible refine cell_store (v := .bool q.b) rfl rfl rfl rfl HX.out.o (fun w => sr_bool q.b w) ?_ HX.out.below ?_ ?_); (decide); (omega); intro W7 hb7 hW7 hO7; have HX := Lib.hid (show De w _ ⟨1, v0, q.b, false, dz 0, none, 0, 0, 0, ⟨#[]⟩⟩ W7 from HX.out.put hb7 hW7 hO7); clear hb7 hW7 hO7)
      | ((with_reducible refine oo_ld ?_ rfl rfl HX.out.o ?_); (rfl))
      | ((with_reducible refine t_store (cs := oqA ⟨1, v0, q.b, false, dz 0, none, 0, 0, 0, ⟨#[]⟩⟩) rfl rfl rfl rfl HX.out.r.choose_spec.2 (oq_info _) ?_ (oqA_one _) HX.out.below ?_ ?_); (exact HX.out.r.choose_spec.1); (omega); intro W8 hb8 hW8 hO8 _)
      | (fail))
    refine oq_end (o := ⟨1, v0, q.b, false, dz 0, none, 0, 0, 0, ⟨#[]⟩⟩) Try.results23 rfl hW8 ?_
    exact ⟨none, 0, by unfold delQ; rw [hm]; rfl, hb8⟩
  · go_enter Try.func23, Try.ntmps23
    go_wp2_with (first
      | ((refine w_val ?_ (done_ea rfl) ?_); (rfl))
      | ((with_reducible refine t_store (cs := oqA (yesO false)) rfl rfl rfl rfl b3 (oq_info _) ?_ (oqA_one _) hB0 ?_ ?_); (rfl); (omega); intro W6 hb6 hW6 hO6 _; have HX := Lib.hid (show De w _ (yesO false) W6 from ⟨hb6, (hO6 _ (by omega)).trans b1, ⟨_, rfl, (hO6 _ (by omega)).trans b2⟩, hW6⟩); clear hb6 hW6 hO6)
      | ((with_reducible refine lu_l2 ?_ rfl rfl HX.out.c ?_); (rfl); refine ⟨_, rfl, ?_⟩)
      | ((with_reducible refine cv_ld (v := q.v) ?_ rfl rfl HX.out.c ?_ ?_); (rfl); (rfl))
      | ((with_reducible refine mid_store (cs := [.int .u8 q.v.k, .float .f64 q.v.x, .string q.v.s, .int .i64 q.v.r]) rfl rfl rfl ?_ HX.out.o ?_ ?_ ?_ HX.out.below ?_ ?_); (rfl); (show 1 + 4 ≤ 26; decide); (exact vsz); (rfl); (omega); intro W7 hb7 hW7 hO7; have HX := Lib.hid (show De w _ ⟨1, q.v, false, false, dz 0, none, 0, 0, 0, ⟨#[]⟩⟩ W7 from HX.out.put hb7 hW7 hO7); clear hb7 hW7 hO7)
      | ((with_reducible refine oo_ld ?_ rfl rfl HX.out.o ?_); (rfl))
      | ((with_reducible refine t_store (cs := oqA ⟨1, q.v, false, false, dz 0, none, 0, 0, 0, ⟨#[]⟩⟩) rfl rfl rfl rfl HX.out.r.choose_spec.2 (oq_info _) ?_ (oqA_one _) HX.out.below ?_ ?_); (exact HX.out.r.choose_spec.1); (omega); intro W8 hb8 hW8 hO8 _)
      | (fail))
    refine oq_end (o := ⟨1, q.v, false, false, dz 0, none, 0, 0, 0, ⟨#[]⟩⟩) Try.results23 rfl hW8 ?_
    exact ⟨none, 0, by unfold delQ; rw [hm]; rfl, hb8⟩
  · go_enter Try.func23, Try.ntmps23
    go_wp2_with (first
      | ((refine w_val ?_ (done_ea rfl) ?_); (rfl))
      | ((with_reducible refine t_store (cs := oqA (yesO false)) rfl rfl rfl rfl b3 (oq_info _) ?_ (oqA_one _) hB0 ?_ ?_); (rfl); (omega); intro W6 hb6 hW6 hO6 _; have HX := Lib.hid (show De w _ (yesO false) W6 from ⟨hb6, (hO6 _ (by omega)).trans b1, ⟨_, rfl, (hO6 _ (by omega)).trans b2⟩, hW6⟩); clear hb6 hW6 hO6)
      | ((with_reducible refine lu_l2 ?_ rfl rfl HX.out.c ?_); (rfl); refine ⟨_, rfl, ?_⟩)
      | ((with_reducible refine lb_l2 ?_ rfl rfl HX.out.c ?_); (rfl); refine ⟨_, rfl, ?_⟩)
      | ((with_reducible refine cell_store (v := .bool q.b) rfl rfl rfl rfl HX.out.o (fun w => sr_bool q.b w) ?_ HX.out.below ?_ ?_); (decide); (omega); intro W7 hb7 hW7 hO7; have HX := Lib.hid (show De w _ ⟨1, v0, q.b, false, dz 0, none, 0, 0, 0, ⟨#[]⟩⟩ W7 from HX.out.put hb7 hW7 hO7); clear hb7 hW7 hO7)
      | ((with_reducible refine oo_ld ?_ rfl rfl HX.out.o ?_); (rfl))
      | ((with_reducible refine t_store (cs := oqA ⟨1, v0, q.b, false, dz 0, none, 0, 0, 0, ⟨#[]⟩⟩) rfl rfl rfl rfl HX.out.r.choose_spec.2 (oq_info _) ?_ (oqA_one _) HX.out.below ?_ ?_); (exact HX.out.r.choose_spec.1); (omega); intro W8 hb8 hW8 hO8 _)
      | (fail))
    refine oq_end (o := ⟨1, v0, q.b, false, dz 0, none, 0, 0, 0, ⟨#[]⟩⟩) Try.results23 rfl hW8 ?_
    exact ⟨none, 0, by unfold delQ; rw [hm]; rfl, hb8⟩
  · go_enter Try.func23, Try.ntmps23
    go_wp2_with (first
      | ((refine w_val ?_ (done_ea rfl) ?_); (rfl))
      | ((with_reducible refine t_store (cs := oqA (yesO false)) rfl rfl rfl rfl b3 (oq_info _) ?_ (oqA_one _) hB0 ?_ ?_); (rfl); (omega); intro W6 hb6 hW6 hO6 _; have HX := Lib.hid (show De w _ (yesO false) W6 from ⟨hb6, (hO6 _ (by omega)).trans b1, ⟨_, rfl, (hO6 _ (by omega)).trans b2⟩, hW6⟩); clear hb6 hW6 hO6)
      | ((with_reducible refine lu_l2 ?_ rfl rfl HX.out.c ?_); (rfl); refine ⟨_, rfl, ?_⟩)
      | ((with_reducible refine lb_l2 ?_ rfl rfl HX.out.c ?_); (rfl); refine ⟨_, rfl, ?_⟩)
      | ((with_reducible refine cell_store (v := .bool q.b) rfl rfl rfl rfl HX.out.o (fun w => sr_bool q.b w) ?_ HX.out.below ?_ ?_); (decide); (omega); intro W7 hb7 hW7 hO7; have HX := Lib.hid (show De w _ ⟨1, v0, q.b, false, dz 0, none, 0, 0, 0, ⟨#[]⟩⟩ W7 from HX.out.put hb7 hW7 hO7); clear hb7 hW7 hO7)
      | ((with_reducible refine oo_ld ?_ rfl rfl HX.out.o ?_); (rfl))
      | ((with_reducible refine t_store (cs := oqA ⟨1, v0, q.b, false, dz 0, none, 0, 0, 0, ⟨#[]⟩⟩) rfl rfl rfl rfl HX.out.r.choose_spec.2 (oq_info _) ?_ (oqA_one _) HX.out.below ?_ ?_); (exact HX.out.r.choose_spec.1); (omega); intro W8 hb8 hW8 hO8 _)
      | (fail))
    refine oq_end (o := ⟨1, v0, q.b, false, dz 0, none, 0, 0, 0, ⟨#[]⟩⟩) Try.results23 rfl hW8 ?_
    exact ⟨none, 0, by unfold delQ; rw [hm]; rfl, hb8⟩
  · go_enter Try.func23, Try.ntmps23
    go_wp2_with (first
      | ((refine w_val ?_ (done_ea rfl) ?_); (rfl))
      | ((with_reducible refine t_store (cs := oqA (yesO false)) rfl rfl rfl rfl b3 (oq_info _) ?_ (oqA_one _) hB0 ?_ ?_); (rfl); (omega); intro W6 hb6 hW6 hO6 _; have HX := Lib.hid (show De w _ (yesO false) W6 from ⟨hb6, (hO6 _ (by omega)).trans b1, ⟨_, rfl, (hO6 _ (by omega)).trans b2⟩, hW6⟩); clear hb6 hW6 hO6)
      | ((with_reducible refine lu_l2 ?_ rfl rfl HX.out.c ?_); (rfl); refine ⟨_, rfl, ?_⟩)
      | ((with_reducible refine lk_l2 ?_ rfl rfl HX.out.c ?_); (rfl); refine ⟨_, _, _, rfl, ?_⟩)
      | (go_at_call 43; (with_reducible refine (cC _ HX.out.below).mono ?_); rintro e w5 ⟨A3, c3, rfl, hr3, h9⟩; have HX := Lib.hid (HX.out.up h9); have HR3 := Lib.hid hr3; clear h9 hr3)
      | ((with_reducible refine cell_store (v := .slice A3 K.length c3) rfl rfl rfl rfl HX.out.o (fun w => sr_keys A3 K.length c3 w) ?_ HX.out.below ?_ ?_); (decide); (omega); intro W7 hb7 hW7 hO7; have hO5 := hO7; have HW := Lib.hid hb7; have HX := Lib.hid (show De w _ ⟨1, v0, false, false, dz 0, A3, K.length, c3, 0, ⟨#[]⟩⟩ W7 from HX.out.put hb7 hW7 hO7); clear hb7 hW7 hO7)
      | ((with_reducible refine oo_ld ?_ rfl rfl HX.out.o ?_); (rfl))
      | ((with_reducible refine t_store (cs := oqA ⟨1, v0, false, false, dz 0, A3, K.length, c3, 0, ⟨#[]⟩⟩) rfl rfl rfl rfl HX.out.r.choose_spec.2 (oq_info _) ?_ (oqA_one _) HX.out.below ?_ ?_); (exact HX.out.r.choose_spec.1); (omega); intro W8 hb8 hW8 hO8 _)
      | (fail))
    refine oq_end (o := ⟨1, v0, false, false, dz 0, A3, K.length, c3, 0, ⟨#[]⟩⟩) Try.results23 rfl hW8 ?_
    exact ⟨A3, c3, by unfold delQ; rw [hm]; rfl, hb8⟩
  · go_enter Try.func23, Try.ntmps23
    go_wp2_with (first
      | ((refine w_val ?_ (done_ea rfl) ?_); (rfl))
      | ((with_reducible refine t_store (cs := oqA (yesO false)) rfl rfl rfl rfl b3 (oq_info _) ?_ (oqA_one _) hB0 ?_ ?_); (rfl); (omega); intro W6 hb6 hW6 hO6 _; have HX := Lib.hid (show De w _ (yesO false) W6 from ⟨hb6, (hO6 _ (by omega)).trans b1, ⟨_, rfl, (hO6 _ (by omega)).trans b2⟩, hW6⟩); clear hb6 hW6 hO6)
      | ((with_reducible refine lu_l2 ?_ rfl rfl HX.out.c ?_); (rfl); refine ⟨_, rfl, ?_⟩)
      | ((with_reducible refine cv_ld (v := q.v) ?_ rfl rfl HX.out.c ?_ ?_); (rfl); (rfl))
      | ((with_reducible refine mid_store (cs := [.int .u8 q.v.k, .float .f64 q.v.x, .string q.v.s, .int .i64 q.v.r]) rfl rfl rfl ?_ HX.out.o ?_ ?_ ?_ HX.out.below ?_ ?_); (rfl); (show 1 + 4 ≤ 26; decide); (exact vsz); (rfl); (omega); intro W7 hb7 hW7 hO7; have HX := Lib.hid (show De w _ ⟨1, q.v, false, false, dz 0, none, 0, 0, 0, ⟨#[]⟩⟩ W7 from HX.out.put hb7 hW7 hO7); clear hb7 hW7 hO7)
      | ((with_reducible refine oo_ld ?_ rfl rfl HX.out.o ?_); (rfl))
      | ((with_reducible refine t_store (cs := oqA ⟨1, q.v, false, false, dz 0, none, 0, 0, 0, ⟨#[]⟩⟩) rfl rfl rfl rfl HX.out.r.choose_spec.2 (oq_info _) ?_ (oqA_one _) HX.out.below ?_ ?_); (exact HX.out.r.choose_spec.1); (omega); intro W8 hb8 hW8 hO8 _)
      | (fail))
    refine oq_end (o := ⟨1, q.v, false, false, dz 0, none, 0, 0, 0, ⟨#[]⟩⟩) Try.results23 rfl hW8 ?_
    exact ⟨none, 0, by unfold delQ; rw [hm]; rfl, hb8⟩
  · go_enter Try.func23, Try.ntmps23
    go_wp2_with (first
      | ((refine w_val ?_ (done_ea rfl) ?_); (rfl))
      | ((with_reducible refine t_store (cs := oqA (yesO false)) rfl rfl rfl rfl b3 (oq_info _) ?_ (oqA_one _) hB0 ?_ ?_); (rfl); (omega); intro W6 hb6 hW6 hO6 _; have HX := Lib.hid (show De w _ (yesO false) W6 from ⟨hb6, (hO6 _ (by omega)).trans b1, ⟨_, rfl, (hO6 _ (by omega)).trans b2⟩, hW6⟩); clear hb6 hW6 hO6)
      | ((with_reducible refine lu_l2 ?_ rfl rfl HX.out.c ?_); (rfl); refine ⟨_, rfl, ?_⟩)
      | ((with_reducible refine cv_ld (v := q.v) ?_ rfl rfl HX.out.c ?_ ?_); (rfl); (rfl))
      | ((with_reducible refine mid_store (cs := [.int .u8 q.v.k, .float .f64 q.v.x, .string q.v.s, .int .i64 q.v.r]) rfl rfl rfl ?_ HX.out.o ?_ ?_ ?_ HX.out.below ?_ ?_); (rfl); (show 1 + 4 ≤ 26; decide); (exact vsz); (rfl); (omega); intro W7 hb7 hW7 hO7; have HX := Lib.hid (show De w _ ⟨1, q.v, false, false, dz 0, none, 0, 0, 0, ⟨#[]⟩⟩ W7 from HX.out.put hb7 hW7 hO7); clear hb7 hW7 hO7)
      | ((with_reducible refine oo_ld ?_ rfl rfl HX.out.o ?_); (rfl))
      | ((with_reducible refine t_store (cs := oqA ⟨1, q.v, false, false, dz 0, none, 0, 0, 0, ⟨#[]⟩⟩) rfl rfl rfl rfl HX.out.r.choose_spec.2 (oq_info _) ?_ (oqA_one _) HX.out.below ?_ ?_); (exact HX.out.r.choose_spec.1); (omega); intro W8 hb8 hW8 hO8 _)
      | (fail))
    refine oq_end (o := ⟨1, q.v, false, false, dz 0, none, 0, 0, 0, ⟨#[]⟩⟩) Try.results23 rfl hW8 ?_
    exact ⟨none, 0, by unfold delQ; rw [hm]; rfl, hb8⟩
end Go.Proofs.Ytkmgdaagannhkaa.S
