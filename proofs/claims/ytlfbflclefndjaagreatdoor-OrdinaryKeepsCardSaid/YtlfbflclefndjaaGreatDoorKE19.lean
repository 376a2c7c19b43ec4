/-
  heap.fits: whether an object has what its kind has. Generated: gen_heapfits.py.
-/
import Derived.Test.YtlfbflclefndjaaGreatDoorKE17
import Derived.Test.YtlfbflclefndjaaGreatDoorKE18
import Derived.Test.YtlfbflclefndjaaGreatDoorKE16
namespace Go.Proofs.YtlfbflclefndjaaGreatDoor.S
open Go.RowKit Go.Lib Fl
open Classical

theorem holds_ref {H : List Ob} {v : Vq} (h : holdsB H v = true) (ho : objQ v = true) : 0 ≤ v.r := by
  unfold holdsB at h
  rw [Bool.and_eq_true] at h
  exact ok_ref (may_ok h.1) ho
theorem len_empty (L : List Pq) : ((L.length : Int) == 0) = L.isEmpty := by
  cases L with
  | nil => rfl
  | cons x r => simp; omega
theorem target_in (o : Ob) : o.target ∈ valsO o := by unfold valsO; simp
set_option maxHeartbeats 8000000 in
set_option maxRecDepth 1000000 in
theorem fits_h (A : Option Addr) (H : List Ob) (cap n : Nat) (w : World) (hH : HIn w A H cap) (hn : n < H.length) (ok : TabOk H[n].props) (hv : ∀ v ∈ valsO H[n], holdsB H v = true) (htab : TabHere w) : Calls Tryz.prog 35 #[.agg #[.slice A H.length cap], .int .i64 (n : Int)] w fun e w' => e = .returned (.bool (fitsB H H[n] n)) ∧ Below w.heap.size w w' := by
  obtain ⟨a, rfl, hab, hof, hP⟩ := hH.at hn
  have hin := hH.inn H[n] (List.getElem_mem hn)
  have hfew := hH.pfew H[n] (List.getElem_mem hn)
  have HS := Lib.hid (hb_start w (some a) H.length cap)
  have hnz : (n : Int) < (H.length : Int) := by omega
  have hn0 : (0 : Int) ≤ (n : Int) := by omega
  have q4 := HS.out.h
  have cR := fun W (hb : Below w.heap.size w W) => revokes_h (some a) H cap n W (hH.up hb) hn (fun ho => holds_ref (hv _ (target_in _)) ho)
  have cL := fun W (hb : Below w.heap.size w W) => leads_h (some a) H cap n W (hH.up hb) hn
  generalize H[n] = o at *
  have cM := fun W (hb : Below w.heap.size w W) => measured_h o.pa o.props o.pc W ok hin.props (pr_up hP hb) (tab_up htab hb)
  have cX := fun W (hb : Below w.heap.size w W) => boxes_h (a.add (n * 18)) o W (hof.up hb) hin hfew (pr_up hP hb) (tab_up htab hb)
  have ho1 := hof.up (vzero w (.cells #[.slice (some a) H.length cap] 24))
  have hoff := ho1.lt
  have cK := kind_h _ _ _ ho1
  have cB := bare_h _ _ _ ho1
  have cA := alone_h _ _ _ ho1
  have o0 := ho1.kind
  have o1 := ho1.ext
  have o2 := ho1.props
  have o3 := ho1.proto.k
  have o4 := ho1.text
  have o5 := ho1.calls
  have o6 := ho1.handler
  have z3 : (⟨#[]⟩ : ByteArray).toList = [] := by rw [toList_data]
  clear hH hof hP hv htab hin hfew ok
  unfold fitsB
  cases e1 : o.kind == 1 with
  | true =>
    cases h6 : kindO o == 6 with
    | false =>
      go_enter Tryz.func35, Tryz.ntmps35
      go_wp2_with (first
        | (go_at_call 58; (with_reducible refine cK.mono ?_); rintro e w1 ⟨rfl, rfl⟩)
        | (go_at_call 59; (with_reducible refine cB.mono ?_); rintro e w1 ⟨rfl, rfl⟩)
        | (go_at_call 61; (with_reducible refine cA.mono ?_); rintro e w1 ⟨rfl, rfl⟩)
        | ((with_reducible refine va_load ?_ rfl rfl o6 ?_); (rfl))
        | ((with_reducible refine vz_eq (v := o.handler) ?_ rfl rfl rfl ?_); (rfl); rw [hz])
        | (go_at_call 60; (with_reducible refine (cM _ HS.out.below).mono ?_); rintro e w1 ⟨rfl, h9⟩; have HS := Lib.hid (HS.out.up h9); clear h9)
        | (go_at_call 62; (with_reducible refine (cX _ HS.out.below).mono ?_); rintro e w1 ⟨rfl, h9⟩; have HS := Lib.hid (HS.out.up h9); clear h9)
        | (go_at_call 63; (with_reducible refine (cR _ HS.out.below).mono ?_); rintro e w1 ⟨rfl, h9⟩; have HS := Lib.hid (HS.out.up h9); clear h9)
        | (go_at_call 64; (with_reducible refine (cL _ HS.out.below).mono ?_); rintro e w1 ⟨rfl, h9⟩; have HS := Lib.hid (HS.out.up h9); clear h9))
      go_ret
      exact ⟨by first | rfl | simp, HS.out.below⟩
    | true =>
      go_enter Tryz.func35, Tryz.ntmps35
      go_wp2_with (first
        | (go_at_call 58; (with_reducible refine cK.mono ?_); rintro e w1 ⟨rfl, rfl⟩)
        | (go_at_call 59; (with_reducible refine cB.mono ?_); rintro e w1 ⟨rfl, rfl⟩)
        | (go_at_call 61; (with_reducible refine cA.mono ?_); rintro e w1 ⟨rfl, rfl⟩)
        | ((with_reducible refine va_load ?_ rfl rfl o6 ?_); (rfl))
        | ((with_reducible refine vz_eq (v := o.handler) ?_ rfl rfl rfl ?_); (rfl); rw [hz])
        | (go_at_call 60; (with_reducible refine (cM _ HS.out.below).mono ?_); rintro e w1 ⟨rfl, h9⟩; have HS := Lib.hid (HS.out.up h9); clear h9)
        | (go_at_call 62; (with_reducible refine (cX _ HS.out.below).mono ?_); rintro e w1 ⟨rfl, h9⟩; have HS := Lib.hid (HS.out.up h9); clear h9)
        | (go_at_call 63; (with_reducible refine (cR _ HS.out.below).mono ?_); rintro e w1 ⟨rfl, h9⟩; have HS := Lib.hid (HS.out.up h9); clear h9)
        | (go_at_call 64; (with_reducible refine (cL _ HS.out.below).mono ?_); rintro e w1 ⟨rfl, h9⟩; have HS := Lib.hid (HS.out.up h9); clear h9))
      go_ret
      exact ⟨by first | rfl | simp, HS.out.below⟩
  | false =>
    cases e2 : o.kind == 2 with
    | true =>
      cases h6 : kindO o == 6 with
      | false =>
        go_enter Tryz.func35, Tryz.ntmps35
        go_wp2_with (first
          | (go_at_call 58; (with_reducible refine cK.mono ?_); rintro e w1 ⟨rfl, rfl⟩)
          | (go_at_call 59; (with_reducible refine cB.mono ?_); rintro e w1 ⟨rfl, rfl⟩)
          | (go_at_call 61; (with_reducible refine cA.mono ?_); rintro e w1 ⟨rfl, rfl⟩)
          | ((with_reducible refine va_load ?_ rfl rfl o6 ?_); (rfl))
          | ((with_reducible refine vz_eq (v := o.handler) ?_ rfl rfl rfl ?_); (rfl); rw [hz])
          | (go_at_call 60; (with_reducible refine (cM _ HS.out.below).mono ?_); rintro e w1 ⟨rfl, h9⟩; have HS := Lib.hid (HS.out.up h9); clear h9)
          | (go_at_call 62; (with_reducible refine (cX _ HS.out.below).mono ?_); rintro e w1 ⟨rfl, h9⟩; have HS := Lib.hid (HS.out.up h9); clear h9)
          | (go_at_call 63; (with_reducible refine (cR _ HS.out.below).mono ?_); rintro e w1 ⟨rfl, h9⟩; have HS := Lib.hid (HS.out.up h9); clear h9)
          | (go_at_call 64; (with_reducible refine (cL _ HS.out.below).mono ?_); rintro e w1 ⟨rfl, h9⟩; have HS := Lib.hid (HS.out.up h9); clear h9))
        go_ret
        exact ⟨by first | rfl | simp, HS.out.below⟩
      | true =>
        cases hb : bareB o with
        | false =>
          rw [hb] at cB
          go_enter Tryz.func35, Tryz.ntmps35
          go_wp2_with (first
            | (go_at_call 58; (with_reducible refine cK.mono ?_); rintro e w1 ⟨rfl, rfl⟩)
            | (go_at_call 59; (with_reducible refine cB.mono ?_); rintro e w1 ⟨rfl, rfl⟩)
            | (go_at_call 61; (with_reducible refine cA.mono ?_); rintro e w1 ⟨rfl, rfl⟩)
            | ((with_reducible refine va_load ?_ rfl rfl o6 ?_); (rfl))
            | ((with_reducible refine vz_eq (v := o.handler) ?_ rfl rfl rfl ?_); (rfl); rw [hz])
            | (go_at_call 60; (with_reducible refine (cM _ HS.out.below).mono ?_); rintro e w1 ⟨rfl, h9⟩; have HS := Lib.hid (HS.out.up h9); clear h9)
            | (go_at_call 62; (with_reducible refine (cX _ HS.out.below).mono ?_); rintro e w1 ⟨rfl, h9⟩; have HS := Lib.hid (HS.out.up h9); clear h9)
            | (go_at_call 63; (with_reducible refine (cR _ HS.out.below).mono ?_); rintro e w1 ⟨rfl, h9⟩; have HS := Lib.hid (HS.out.up h9); clear h9)
            | (go_at_call 64; (with_reducible refine (cL _ HS.out.below).mono ?_); rintro e w1 ⟨rfl, h9⟩; have HS := Lib.hid (HS.out.up h9); clear h9))
          go_ret
          exact ⟨by first | rfl | simp, HS.out.below⟩
        | true =>
          rw [hb] at cB
          go_enter Tryz.func35, Tryz.ntmps35
          go_wp2_with (first
            | (go_at_call 58; (with_reducible refine cK.mono ?_); rintro e w1 ⟨rfl, rfl⟩)
            | (go_at_call 59; (with_reducible refine cB.mono ?_); rintro e w1 ⟨rfl, rfl⟩)
            | (go_at_call 61; (with_reducible refine cA.mono ?_); rintro e w1 ⟨rfl, rfl⟩)
            | ((with_reducible refine va_load ?_ rfl rfl o6 ?_); (rfl))
            | ((with_reducible refine vz_eq (v := o.handler) ?_ rfl rfl rfl ?_); (rfl); rw [hz])
            | (go_at_call 60; (with_reducible refine (cM _ HS.out.below).mono ?_); rintro e w1 ⟨rfl, h9⟩; have HS := Lib.hid (HS.out.up h9); clear h9)
            | (go_at_call 62; (with_reducible refine (cX _ HS.out.below).mono ?_); rintro e w1 ⟨rfl, h9⟩; have HS := Lib.hid (HS.out.up h9); clear h9)
            | (go_at_call 63; (with_reducible refine (cR _ HS.out.below).mono ?_); rintro e w1 ⟨rfl, h9⟩; have HS := Lib.hid (HS.out.up h9); clear h9)
            | (go_at_call 64; (with_reducible refine (cL _ HS.out.below).mono ?_); rintro e w1 ⟨rfl, h9⟩; have HS := Lib.hid (HS.out.up h9); clear h9))
          go_ret
          exact ⟨by first | rfl | simp, HS.out.below⟩
    | false =>
      cases e3 : o.kind == 3 with
      | true =>
        cases h6 : kindO o == 6 with
        | false =>
          go_enter Tryz.func35, Tryz.ntmps35
          go_wp2_with (first
            | (go_at_call 58; (with_reducible refine cK.mono ?_); rintro e w1 ⟨rfl, rfl⟩)
            | (go_at_call 59; (with_reducible refine cB.mono ?_); rintro e w1 ⟨rfl, rfl⟩)
            | (go_at_call 61; (with_reducible refine cA.mono ?_); rintro e w1 ⟨rfl, rfl⟩)
            | ((with_reducible refine va_load ?_ rfl rfl o6 ?_); (rfl))
            | ((with_reducible refine vz_eq (v := o.handler) ?_ rfl rfl rfl ?_); (rfl); rw [hz])
            | (go_at_call 60; (with_reducible refine (cM _ HS.out.below).mono ?_); rintro e w1 ⟨rfl, h9⟩; have HS := Lib.hid (HS.out.up h9); clear h9)
            | (go_at_call 62; (with_reducible refine (cX _ HS.out.below).mono ?_); rintro e w1 ⟨rfl, h9⟩; have HS := Lib.hid (HS.out.up h9); clear h9)
            | (go_at_call 63; (with_reducible refine (cR _ HS.out.below).mono ?_); rintro e w1 ⟨rfl, h9⟩; have HS := Lib.hid (HS.out.up h9); clear h9)
            | (go_at_call 64; (with_reducible refine (cL _ HS.out.below).mono ?_); rintro e w1 ⟨rfl, h9⟩; have HS := Lib.hid (HS.out.up h9); clear h9))
          go_ret
          exact ⟨by first | rfl | simp, HS.out.below⟩
        | true =>
          cases ha : aloneB o with
          | false =>
            rw [ha] at cA
            go_enter Tryz.func35, Tryz.ntmps35
            go_wp2_with (first
              | (go_at_call 58; (with_reducible refine cK.mono ?_); rintro e w1 ⟨rfl, rfl⟩)
              | (go_at_call 59; (with_reducible refine cB.mono ?_); rintro e w1 ⟨rfl, rfl⟩)
              | (go_at_call 61; (with_reducible refine cA.mono ?_); rintro e w1 ⟨rfl, rfl⟩)
              | ((with_reducible refine va_load ?_ rfl rfl o6 ?_); (rfl))
              | ((with_reducible refine vz_eq (v := o.handler) ?_ rfl rfl rfl ?_); (rfl); rw [hz])
              | (go_at_call 60; (with_reducible refine (cM _ HS.out.below).mono ?_); rintro e w1 ⟨rfl, h9⟩; have HS := Lib.hid (HS.out.up h9); clear h9)
              | (go_at_call 62; (with_reducible refine (cX _ HS.out.below).mono ?_); rintro e w1 ⟨rfl, h9⟩; have HS := Lib.hid (HS.out.up h9); clear h9)
              | (go_at_call 63; (with_reducible refine (cR _ HS.out.below).mono ?_); rintro e w1 ⟨rfl, h9⟩; have HS := Lib.hid (HS.out.up h9); clear h9)
              | (go_at_call 64; (with_reducible refine (cL _ HS.out.below).mono ?_); rintro e w1 ⟨rfl, h9⟩; have HS := Lib.hid (HS.out.up h9); clear h9))
            go_ret
            exact ⟨by first | rfl | simp, HS.out.below⟩
          | true =>
            rw [ha] at cA
            go_enter Tryz.func35, Tryz.ntmps35
            go_wp2_with (first
              | (go_at_call 58; (with_reducible refine cK.mono ?_); rintro e w1 ⟨rfl, rfl⟩)
              | (go_at_call 59; (with_reducible refine cB.mono ?_); rintro e w1 ⟨rfl, rfl⟩)
              | (go_at_call 61; (with_reducible refine cA.mono ?_); rintro e w1 ⟨rfl, rfl⟩)
              | ((with_reducible refine va_load ?_ rfl rfl o6 ?_); (rfl))
              | ((with_reducible refine vz_eq (v := o.handler) ?_ rfl rfl rfl ?_); (rfl); rw [hz])
              | (go_at_call 60; (with_reducible refine (cM _ HS.out.below).mono ?_); rintro e w1 ⟨rfl, h9⟩; have HS := Lib.hid (HS.out.up h9); clear h9)
              | (go_at_call 62; (with_reducible refine (cX _ HS.out.below).mono ?_); rintro e w1 ⟨rfl, h9⟩; have HS := Lib.hid (HS.out.up h9); clear h9)
              | (go_at_call 63; (with_reducible refine (cR _ HS.out.below).mono ?_); rintro e w1 ⟨rfl, h9⟩; have HS := Lib.hid (HS.out.up h9); clear h9)
              | (go_at_call 64; (with_reducible refine (cL _ HS.out.below).mono ?_); rintro e w1 ⟨rfl, h9⟩; have HS := Lib.hid (HS.out.up h9); clear h9))
            go_ret
            exact ⟨by first | rfl | simp, HS.out.below⟩
      | false =>
        cases e4 : o.kind == 4 with
        | true =>
          cases h6 : kindO o == 8 with
          | false =>
            go_enter Tryz.func35, Tryz.ntmps35
            go_wp2_with (first
              | (go_at_call 58; (with_reducible refine cK.mono ?_); rintro e w1 ⟨rfl, rfl⟩)
              | (go_at_call 59; (with_reducible refine cB.mono ?_); rintro e w1 ⟨rfl, rfl⟩)
              | (go_at_call 61; (with_reducible refine cA.mono ?_); rintro e w1 ⟨rfl, rfl⟩)
              | ((with_reducible refine va_load ?_ rfl rfl o6 ?_); (rfl))
              | ((with_reducible refine vz_eq (v := o.handler) ?_ rfl rfl rfl ?_); (rfl); rw [hz])
              | (go_at_call 60; (with_reducible refine (cM _ HS.out.below).mono ?_); rintro e w1 ⟨rfl, h9⟩; have HS := Lib.hid (HS.out.up h9); clear h9)
              | (go_at_call 62; (with_reducible refine (cX _ HS.out.below).mono ?_); rintro e w1 ⟨rfl, h9⟩; have HS := Lib.hid (HS.out.up h9); clear h9)
              | (go_at_call 63; (with_reducible refine (cR _ HS.out.below).mono ?_); rintro e w1 ⟨rfl, h9⟩; have HS := Lib.hid (HS.out.up h9); clear h9)
              | (go_at_call 64; (with_reducible refine (cL _ HS.out.below).mono ?_); rintro e w1 ⟨rfl, h9⟩; have HS := Lib.hid (HS.out.up h9); clear h9))
            go_ret
            exact ⟨by first | rfl | simp, HS.out.below⟩
          | true =>
            go_enter Tryz.func35, Tryz.ntmps35
            go_wp2_with (first
              | (go_at_call 58; (with_reducible refine cK.mono ?_); rintro e w1 ⟨rfl, rfl⟩)
              | (go_at_call 59; (with_reducible refine cB.mono ?_); rintro e w1 ⟨rfl, rfl⟩)
              | (go_at_call 61; (with_reducible refine cA.mono ?_); rintro e w1 ⟨rfl, rfl⟩)
              | ((with_reducible refine va_load ?_ rfl rfl o6 ?_); (rfl))
              | ((with_reducible refine vz_eq (v := o.handler) ?_ rfl rfl rfl ?_); (rfl); rw [hz])
              | (go_at_call 60; (with_reducible refine (cM _ HS.out.below).mono ?_); rintro e w1 ⟨rfl, h9⟩; have HS := Lib.hid (HS.out.up h9); clear h9)
              | (go_at_call 62; (with_reducible refine (cX _ HS.out.below).mono ?_); rintro e w1 ⟨rfl, h9⟩; have HS := Lib.hid (HS.out.up h9); clear h9)
              | (go_at_call 63; (with_reducible refine (cR _ HS.out.below).mono ?_); rintro e w1 ⟨rfl, h9⟩; have HS := Lib.hid (HS.out.up h9); clear h9)
              | (go_at_call 64; (with_reducible refine (cL _ HS.out.below).mono ?_); rintro e w1 ⟨rfl, h9⟩; have HS := Lib.hid (HS.out.up h9); clear h9))
            go_ret
            exact ⟨by first | rfl | simp, HS.out.below⟩
        | false =>
          cases e5 : o.kind == 5 with
          | true =>
            cases hc : o.calls with
            | false =>
              rw [hc] at o5
              go_enter Tryz.func35, Tryz.ntmps35
              go_wp2_with (first
                | (go_at_call 58; (with_reducible refine cK.mono ?_); rintro e w1 ⟨rfl, rfl⟩)
                | (go_at_call 59; (with_reducible refine cB.mono ?_); rintro e w1 ⟨rfl, rfl⟩)
                | (go_at_call 61; (with_reducible refine cA.mono ?_); rintro e w1 ⟨rfl, rfl⟩)
                | ((with_reducible refine va_load ?_ rfl rfl o6 ?_); (rfl))
                | ((with_reducible refine vz_eq (v := o.handler) ?_ rfl rfl rfl ?_); (rfl); rw [hz])
                | (go_at_call 60; (with_reducible refine (cM _ HS.out.below).mono ?_); rintro e w1 ⟨rfl, h9⟩; have HS := Lib.hid (HS.out.up h9); clear h9)
                | (go_at_call 62; (with_reducible refine (cX _ HS.out.below).mono ?_); rintro e w1 ⟨rfl, h9⟩; have HS := Lib.hid (HS.out.up h9); clear h9)
                | (go_at_call 63; (with_reducible refine (cR _ HS.out.below).mono ?_); rintro e w1 ⟨rfl, h9⟩; have HS := Lib.hid (HS.out.up h9); clear h9)
                | (go_at_call 64; (with_reducible refine (cL _ HS.out.below).mono ?_); rintro e w1 ⟨rfl, h9⟩; have HS := Lib.hid (HS.out.up h9); clear h9))
              go_ret
              exact ⟨by first | rfl | simp, HS.out.below⟩
            | true =>
              rw [hc] at o5
              cases hz : o.handler.z with
              | false =>
                go_enter Tryz.func35, Tryz.ntmps35
                go_wp2_with (first
                  | (go_at_call 58; (with_reducible refine cK.mono ?_); rintro e w1 ⟨rfl, rfl⟩)
                  | (go_at_call 59; (with_reducible refine cB.mono ?_); rintro e w1 ⟨rfl, rfl⟩)
                  | (go_at_call 61; (with_reducible refine cA.mono ?_); rintro e w1 ⟨rfl, rfl⟩)
                  | ((with_reducible refine va_load ?_ rfl rfl o6 ?_); (rfl))
                  | ((with_reducible refine vz_eq (v := o.handler) ?_ rfl rfl rfl ?_); (rfl); rw [hz])
                  | (go_at_call 60; (with_reducible refine (cM _ HS.out.below).mono ?_); rintro e w1 ⟨rfl, h9⟩; have HS := Lib.hid (HS.out.up h9); clear h9)
                  | (go_at_call 62; (with_reducible refine (cX _ HS.out.below).mono ?_); rintro e w1 ⟨rfl, h9⟩; have HS := Lib.hid (HS.out.up h9); clear h9)
                  | (go_at_call 63; (with_reducible refine (cR _ HS.out.below).mono ?_); rintro e w1 ⟨rfl, h9⟩; have HS := Lib.hid (HS.out.up h9); clear h9)
                  | (go_at_call 64; (with_reducible refine (cL _ HS.out.below).mono ?_); rintro e w1 ⟨rfl, h9⟩; have HS := Lib.hid (HS.out.up h9); clear h9))
                go_ret
                exact ⟨by first | rfl | simp, HS.out.below⟩
              | true =>
                cases ht : o.text.toList.isEmpty with
                | false =>
                  have ht2 : (o.text.toList == []) = _ := (by cases o.text.toList <;> rfl : (o.text.toList == []) = o.text.toList.isEmpty).trans ht
                  go_enter Tryz.func35, Tryz.ntmps35
                  go_wp2_with (first
                    | (go_at_call 58; (with_reducible refine cK.mono ?_); rintro e w1 ⟨rfl, rfl⟩)
                    | (go_at_call 59; (with_reducible refine cB.mono ?_); rintro e w1 ⟨rfl, rfl⟩)
                    | (go_at_call 61; (with_reducible refine cA.mono ?_); rintro e w1 ⟨rfl, rfl⟩)
                    | ((with_reducible refine va_load ?_ rfl rfl o6 ?_); (rfl))
                    | ((with_reducible refine vz_eq (v := o.handler) ?_ rfl rfl rfl ?_); (rfl); rw [hz])
                    | (go_at_call 60; (with_reducible refine (cM _ HS.out.below).mono ?_); rintro e w1 ⟨rfl, h9⟩; have HS := Lib.hid (HS.out.up h9); clear h9)
                    | (go_at_call 62; (with_reducible refine (cX _ HS.out.below).mono ?_); rintro e w1 ⟨rfl, h9⟩; have HS := Lib.hid (HS.out.up h9); clear h9)
                    | (go_at_call 63; (with_reducible refine (cR _ HS.out.below).mono ?_); rintro e w1 ⟨rfl, h9⟩; have HS := Lib.hid (HS.out.up h9); clear h9)
                    | (go_at_call 64; (with_reducible refine (cL _ HS.out.below).mono ?_); rintro e w1 ⟨rfl, h9⟩; have HS := Lib.hid (HS.out.up h9); clear h9))
                  go_ret
                  exact ⟨by first | rfl | simp, HS.out.below⟩
                | true =>
                  have ht2 : (o.text.toList == []) = _ := (by cases o.text.toList <;> rfl : (o.text.toList == []) = o.text.toList.isEmpty).trans ht
                  go_enter Tryz.func35, Tryz.ntmps35
                  go_wp2_with (first
                    | (go_at_call 58; (with_reducible refine cK.mono ?_); rintro e w1 ⟨rfl, rfl⟩)
                    | (go_at_call 59; (with_reducible refine cB.mono ?_); rintro e w1 ⟨rfl, rfl⟩)
                    | (go_at_call 61; (with_reducible refine cA.mono ?_); rintro e w1 ⟨rfl, rfl⟩)
                    | ((with_reducible refine va_load ?_ rfl rfl o6 ?_); (rfl))
                    | ((with_reducible refine vz_eq (v := o.handler) ?_ rfl rfl rfl ?_); (rfl); rw [hz])
                    | (go_at_call 60; (with_reducible refine (cM _ HS.out.below).mono ?_); rintro e w1 ⟨rfl, h9⟩; have HS := Lib.hid (HS.out.up h9); clear h9)
                    | (go_at_call 62; (with_reducible refine (cX _ HS.out.below).mono ?_); rintro e w1 ⟨rfl, h9⟩; have HS := Lib.hid (HS.out.up h9); clear h9)
                    | (go_at_call 63; (with_reducible refine (cR _ HS.out.below).mono ?_); rintro e w1 ⟨rfl, h9⟩; have HS := Lib.hid (HS.out.up h9); clear h9)
                    | (go_at_call 64; (with_reducible refine (cL _ HS.out.below).mono ?_); rintro e w1 ⟨rfl, h9⟩; have HS := Lib.hid (HS.out.up h9); clear h9))
                  go_ret
                  exact ⟨by first | rfl | simp, HS.out.below⟩
          | false =>
            cases e6 : o.kind == 6 with
            | true =>
              cases he : o.ext with
              | true =>
                rw [he] at o1
                go_enter Tryz.func35, Tryz.ntmps35
                go_wp2_with (first
                  | (go_at_call 58; (with_reducible refine cK.mono ?_); rintro e w1 ⟨rfl, rfl⟩)
                  | (go_at_call 59; (with_reducible refine cB.mono ?_); rintro e w1 ⟨rfl, rfl⟩)
                  | (go_at_call 61; (with_reducible refine cA.mono ?_); rintro e w1 ⟨rfl, rfl⟩)
                  | ((with_reducible refine va_load ?_ rfl rfl o6 ?_); (rfl))
                  | ((with_reducible refine vz_eq (v := o.handler) ?_ rfl rfl rfl ?_); (rfl); rw [hz])
                  | (go_at_call 60; (with_reducible refine (cM _ HS.out.below).mono ?_); rintro e w1 ⟨rfl, h9⟩; have HS := Lib.hid (HS.out.up h9); clear h9)
                  | (go_at_call 62; (with_reducible refine (cX _ HS.out.below).mono ?_); rintro e w1 ⟨rfl, h9⟩; have HS := Lib.hid (HS.out.up h9); clear h9)
                  | (go_at_call 63; (with_reducible refine (cR _ HS.out.below).mono ?_); rintro e w1 ⟨rfl, h9⟩; have HS := Lib.hid (HS.out.up h9); clear h9)
                  | (go_at_call 64; (with_reducible refine (cL _ HS.out.below).mono ?_); rintro e w1 ⟨rfl, h9⟩; have HS := Lib.hid (HS.out.up h9); clear h9))
                go_ret
                exact ⟨by first | rfl | simp, HS.out.below⟩
              | false =>
                rw [he] at o1
                cases hp : o.props.isEmpty with
                | false =>
                  have hp2 : ((o.props.length : Int) == 0) = _ := (len_empty o.props).trans hp
                  go_enter Tryz.func35, Tryz.ntmps35
                  go_wp2_with (first
                    | (go_at_call 58; (with_reducible refine cK.mono ?_); rintro e w1 ⟨rfl, rfl⟩)
                    | (go_at_call 59; (with_reducible refine cB.mono ?_); rintro e w1 ⟨rfl, rfl⟩)
                    | (go_at_call 61; (with_reducible refine cA.mono ?_); rintro e w1 ⟨rfl, rfl⟩)
                    | ((with_reducible refine va_load ?_ rfl rfl o6 ?_); (rfl))
                    | ((with_reducible refine vz_eq (v := o.handler) ?_ rfl rfl rfl ?_); (rfl); rw [hz])
                    | (go_at_call 60; (with_reducible refine (cM _ HS.out.below).mono ?_); rintro e w1 ⟨rfl, h9⟩; have HS := Lib.hid (HS.out.up h9); clear h9)
                    | (go_at_call 62; (with_reducible refine (cX _ HS.out.below).mono ?_); rintro e w1 ⟨rfl, h9⟩; have HS := Lib.hid (HS.out.up h9); clear h9)
                    | (go_at_call 63; (with_reducible refine (cR _ HS.out.below).mono ?_); rintro e w1 ⟨rfl, h9⟩; have HS := Lib.hid (HS.out.up h9); clear h9)
                    | (go_at_call 64; (with_reducible refine (cL _ HS.out.below).mono ?_); rintro e w1 ⟨rfl, h9⟩; have HS := Lib.hid (HS.out.up h9); clear h9))
                  go_ret
                  exact ⟨by first | rfl | simp, HS.out.below⟩
                | true =>
                  have hp2 : ((o.props.length : Int) == 0) = _ := (len_empty o.props).trans hp
                  cases hk : o.proto.k == 1 with
                  | false =>
                    go_enter Tryz.func35, Tryz.ntmps35
                    go_wp2_with (first
                      | (go_at_call 58; (with_reducible refine cK.mono ?_); rintro e w1 ⟨rfl, rfl⟩)
                      | (go_at_call 59; (with_reducible refine cB.mono ?_); rintro e w1 ⟨rfl, rfl⟩)
                      | (go_at_call 61; (with_reducible refine cA.mono ?_); rintro e w1 ⟨rfl, rfl⟩)
                      | ((with_reducible refine va_load ?_ rfl rfl o6 ?_); (rfl))
                      | ((with_reducible refine vz_eq (v := o.handler) ?_ rfl rfl rfl ?_); (rfl); rw [hz])
                      | (go_at_call 60; (with_reducible refine (cM _ HS.out.below).mono ?_); rintro e w1 ⟨rfl, h9⟩; have HS := Lib.hid (HS.out.up h9); clear h9)
                      | (go_at_call 62; (with_reducible refine (cX _ HS.out.below).mono ?_); rintro e w1 ⟨rfl, h9⟩; have HS := Lib.hid (HS.out.up h9); clear h9)
                      | (go_at_call 63; (with_reducible refine (cR _ HS.out.below).mono ?_); rintro e w1 ⟨rfl, h9⟩; have HS := Lib.hid (HS.out.up h9); clear h9)
                      | (go_at_call 64; (with_reducible refine (cL _ HS.out.below).mono ?_); rintro e w1 ⟨rfl, h9⟩; have HS := Lib.hid (HS.out.up h9); clear h9))
                    go_ret
                    exact ⟨by first | rfl | simp, HS.out.below⟩
                  | true =>
                    cases ht : o.text.toList.isEmpty with
                    | false =>
                      have ht2 : (o.text.toList == []) = _ := (by cases o.text.toList <;> rfl : (o.text.toList == []) = o.text.toList.isEmpty).trans ht
                      go_enter Tryz.func35, Tryz.ntmps35
                      go_wp2_with (first
                        | (go_at_call 58; (with_reducible refine cK.mono ?_); rintro e w1 ⟨rfl, rfl⟩)
                        | (go_at_call 59; (with_reducible refine cB.mono ?_); rintro e w1 ⟨rfl, rfl⟩)
                        | (go_at_call 61; (with_reducible refine cA.mono ?_); rintro e w1 ⟨rfl, rfl⟩)
                        | ((with_reducible refine va_load ?_ rfl rfl o6 ?_); (rfl))
                        | ((with_reducible refine vz_eq (v := o.handler) ?_ rfl rfl rfl ?_); (rfl); rw [hz])
                        | (go_at_call 60; (with_reducible refine (cM _ HS.out.below).mono ?_); rintro e w1 ⟨rfl, h9⟩; have HS := Lib.hid (HS.out.up h9); clear h9)
                        | (go_at_call 62; (with_reducible refine (cX _ HS.out.below).mono ?_); rintro e w1 ⟨rfl, h9⟩; have HS := Lib.hid (HS.out.up h9); clear h9)
                        | (go_at_call 63; (with_reducible refine (cR _ HS.out.below).mono ?_); rintro e w1 ⟨rfl, h9⟩; have HS := Lib.hid (HS.out.up h9); clear h9)
                        | (go_at_call 64; (with_reducible refine (cL _ HS.out.below).mono ?_); rintro e w1 ⟨rfl, h9⟩; have HS := Lib.hid (HS.out.up h9); clear h9))
                      go_ret
                      exact ⟨by first | rfl | simp, HS.out.below⟩
                    | true =>
                      have ht2 : (o.text.toList == []) = _ := (by cases o.text.toList <;> rfl : (o.text.toList == []) = o.text.toList.isEmpty).trans ht
                      go_enter Tryz.func35, Tryz.ntmps35
                      go_wp2_with (first
                        | (go_at_call 58; (with_reducible refine cK.mono ?_); rintro e w1 ⟨rfl, rfl⟩)
                        | (go_at_call 59; (with_reducible refine cB.mono ?_); rintro e w1 ⟨rfl, rfl⟩)
                        | (go_at_call 61; (with_reducible refine cA.mono ?_); rintro e w1 ⟨rfl, rfl⟩)
                        | ((with_reducible refine va_load ?_ rfl rfl o6 ?_); (rfl))
                        | ((with_reducible refine vz_eq (v := o.handler) ?_ rfl rfl rfl ?_); (rfl); rw [hz])
                        | (go_at_call 60; (with_reducible refine (cM _ HS.out.below).mono ?_); rintro e w1 ⟨rfl, h9⟩; have HS := Lib.hid (HS.out.up h9); clear h9)
                        | (go_at_call 62; (with_reducible refine (cX _ HS.out.below).mono ?_); rintro e w1 ⟨rfl, h9⟩; have HS := Lib.hid (HS.out.up h9); clear h9)
                        | (go_at_call 63; (with_reducible refine (cR _ HS.out.below).mono ?_); rintro e w1 ⟨rfl, h9⟩; have HS := Lib.hid (HS.out.up h9); clear h9)
                        | (go_at_call 64; (with_reducible refine (cL _ HS.out.below).mono ?_); rintro e w1 ⟨rfl, h9⟩; have HS := Lib.hid (HS.out.up h9); clear h9))
                      go_ret
                      exact ⟨by first | rfl | simp, HS.out.below⟩
            | false =>
              go_enter Tryz.func35, Tryz.ntmps35
              go_wp2_with (first
                | (go_at_call 58; (with_reducible refine cK.mono ?_); rintro e w1 ⟨rfl, rfl⟩)
                | (go_at_call 59; (with_reducible refine cB.mono ?_); rintro e w1 ⟨rfl, rfl⟩)
                | (go_at_call 61; (with_reducible refine cA.mono ?_); rintro e w1 ⟨rfl, rfl⟩)
                | ((with_reducible refine va_load ?_ rfl rfl o6 ?_); (rfl))
                | ((with_reducible refine vz_eq (v := o.handler) ?_ rfl rfl rfl ?_); (rfl); rw [hz])
                | (go_at_call 60; (with_reducible refine (cM _ HS.out.below).mono ?_); rintro e w1 ⟨rfl, h9⟩; have HS := Lib.hid (HS.out.up h9); clear h9)
                | (go_at_call 62; (with_reducible refine (cX _ HS.out.below).mono ?_); rintro e w1 ⟨rfl, h9⟩; have HS := Lib.hid (HS.out.up h9); clear h9)
                | (go_at_call 63; (with_reducible refine (cR _ HS.out.below).mono ?_); rintro e w1 ⟨rfl, h9⟩; have HS := Lib.hid (HS.out.up h9); clear h9)
                | (go_at_call 64; (with_reducible refine (cL _ HS.out.below).mono ?_); rintro e w1 ⟨rfl, h9⟩; have HS := Lib.hid (HS.out.up h9); clear h9))
              go_ret
              exact ⟨by first | rfl | simp, HS.out.below⟩
end Go.Proofs.YtlfbflclefndjaaGreatDoor.S
/-
  heap.may: whether an object may be, wherever its prototypes lead.
-/
namespace Go.Proofs.YtlfbflclefndjaaGreatDoor.S
open Go.RowKit Go.Lib Fl Go.Shelf
open Classical
attribute [local go_sem] Oper.semAt_some

theorem ownFrom_blk {β : Type} {B g : Nat} {o : Obj} (hg : g < B) : OwnFrom B (fun (_ : β) W => W.heap[g]? = some o) := fun _ _ _ _ h hgr hr =>
  (hgr.block g (lt_blk h) (fun e => by have := (hr g e.symm).1; omega)).trans h
theorem may_false1 {H : List Ob} {o : Ob} {n : Nat} (h : chkT o.props ≠ 0) : mayB H o n = false := by
  unfold mayB
  rw [show (chkT o.props == 0) = false from by rw [beq_eq_false_iff_ne]; exact h]; rfl
theorem may_false2 {H : List Ob} {o : Ob} {n : Nat} (h : objQ o.proto = false) (h2 : (o.proto.k == 1) = false) : mayB H o n = false := by
  unfold mayB
  rw [h, h2]; simp
theorem may_rest {H : List Ob} {o : Ob} {n : Nat} (h : chkT o.props = 0) (h2 : objQ o.proto = true ∨ (o.proto.k == 1) = true) : mayB H o n = ((valsO o).all (holdsB H) && fitsB H o n) := by
  unfold mayB
  rw [h, show (objQ o.proto || o.proto.k == 1) = true from by rcases h2 with h | h <;> rw [h] <;> simp]; rfl
theorem box_c {W : World} {B : Nat} {v : Value} {t : TypeId} (h : W.heap[B]? = some (.cells #[v] t (0, 0))) : W.cell? ⟨B, 0, none⟩ = some v ∧ W.frozen? ⟨B, 0, none⟩ = false := by
  constructor <;> simp [World.cell?, World.frozen?, h]
/-- what may holds on to -/
structure My (w : World) (A : Option Addr) (n cap : Nat) (W : World) : Prop where
  below : Below w.heap.size w W
  h : W.heap[w.heap.size]? = some (.cells #[.slice A n cap] 24 (0, 0))
  r : W.heap[w.heap.size + 1]? = some (.cells #[.bool false] 4 (0, 0))
theorem My.up {w W W' : World} {A : Option Addr} {n cap : Nat} (h : My w A n cap W) (hb : Below W.heap.size W W') : My w A n cap W' := ⟨vb h.below hb, vblkn hb h.h, vblkn hb h.r⟩
theorem my_start (w : World) (A : Option Addr) (n cap : Nat) : My w A n cap ((w.alloc (.cells #[.slice A n cap] 24)).alloc (.cells #[.bool false] 4)) := by
  obtain ⟨b1, b2⟩ := vblk2 (w := w) (Below.refl _ ((w.alloc (.cells #[.slice A n cap] 24)).alloc (.cells #[.bool false] 4)))
  exact ⟨vafter (vzero _ _), b1, b2⟩
theorem My.q {w W : World} {A : Option Addr} {n cap : Nat} (h : My w A n cap W) : W.cell? ⟨w.heap.size, 0, none⟩ = some (.slice A n cap) ∧ W.cell? ⟨w.heap.size + 1, 0, none⟩ = some (.bool false) ∧ W.frozen? ⟨w.heap.size + 1, 0, none⟩ = false := ⟨(box_c h.h).1, (box_c h.r).1, (box_c h.r).2⟩
theorem my_ret {F : Fence} {m : Nat} {Q : Ending → World → Prop} {tmps : Array Value} {W : World} {g : Nat} {b : Bool} (h2 : tmps.getD 4 undef = .pointer (some ⟨g, 0, none⟩)) (hc : W.cell? ⟨g, 0, none⟩ = some (.bool b)) (hQ : Q (.returned (.bool b)) W) :
    LeavesInM F m Tryz.prog Tryz.f18 tmps Q [] .returning W := by
  have h3 : tmps[4]?.getD undef = .pointer (some ⟨g, 0, none⟩) := by rw [← h2]; simp
  exact ⟨.bool b, by simp [results, Tryz.results18, go_sem, h3, hc], hQ⟩
theorem values_g (A : Addr) (w : World) : Calls Tryz.prog 33 #[.pointer (some A)] w fun e w' => ∃ g, e = .returned (.func (.func 56) #[] #[.pointer (some ⟨g, 0, none⟩)]) ∧ w'.heap[g]? = some (.cells #[.pointer (some A)] 73 (0, 0)) ∧ Below w.heap.size w w' ∧ g + 1 = w'.heap.size ∧ w.heap.size ≤ g :=
  (values_h A w).mono fun _ _ ⟨he, hw⟩ => ⟨w.heap.size, he, by rw [hw]; exact heap_alloc_new w _, by rw [hw]; exact vzero _ _, by rw [hw]; simp, Nat.le_refl _⟩
theorem kf_below {B : Nat} {W W' : World} (h : Below W.heap.size W W') : KeepsFrom B W W' := ⟨h.size, fun k _ _ hk _ => (h.block k (lt_blk hk)).trans hk⟩
theorem kf_trans {B : Nat} {X Y Z : World} (h : KeepsFrom B X Y) (g : KeepsFrom B Y Z) : KeepsFrom B X Z := ⟨Nat.le_trans h.size g.size, fun k o hk h0 hc => g.same k o hk (h.same k o hk h0 hc) hc⟩
theorem my_own {β : Type} {B : Nat} {w : World} {A : Option Addr} {n cap : Nat} (h : w.heap.size + 1 < B) : OwnFrom B (fun (_ : β) W => My w A n cap W) := fun s W W' row hs hg hr =>
  ⟨ownFrom_below (Nat.le_refl _) (by omega) s W W' row hs.below hg hr, ownFrom_blk (by omega) s W W' row hs.h hg hr, ownFrom_blk h s W W' row hs.r hg hr⟩
theorem all_true {H : List Ob} {ys : List Vin} {L : List Vq} (h : ys.map Vin.out = L) (g : ∀ x ∈ ys, holdsB H x.out = true) : L.all (holdsB H) = true := by
  rw [← h, List.all_eq_true]
  intro v hv
  obtain ⟨x, hx, rfl⟩ := List.mem_map.1 hv
  exact g x hx
theorem all_false {H : List Ob} {ys : List Vin} {L : List Vq} (h : ys.map Vin.out <+: L) (g : ∃ x ∈ ys, holdsB H x.out = false) : L.all (holdsB H) = false := by
  obtain ⟨x, hx, e⟩ := g
  cases hh : L.all (holdsB H) with
  | false => rfl
  | true =>
    rw [List.all_eq_true] at hh
    have := hh x.out (h.subset (List.mem_map.2 ⟨x, hx, rfl⟩))
    rw [e] at this; cases this
/-- the loop's variable in its box -/
def Ax (T : Act → Nat → Prop) (x : Vin) (a' : Act) (W : World) : Prop := ∃ Bx, W.heap[Bx]? = some (.cells #[.int .u8 x.1.k, .float .f64 x.1.x, .string x.1.s, .int .i64 x.1.r] 34 (0, 0)) ∧ T a' Bx
theorem ax_own {B : Nat} {T : Act → Nat → Prop} (x : Vin) (a' : Act) : OwnFrom B (fun (_ : Unit) W => Ax T x a' W) := fun _ W W' row hs hg hr => by
  obtain ⟨Bx, e1, e2⟩ := hs
  refine ⟨Bx, (hg.block Bx (lt_blk e1) (fun e => ?_)).trans e1, e2⟩
  obtain ⟨_, ob, ho, hc⟩ := hr Bx e.symm
  rw [e1] at ho
  cases ho
  cases hc
set_option maxHeartbeats 8000000 in
set_option maxRecDepth 1000000 in
theorem may_h (A : Option Addr) (H : List Ob) (cap n : Nat) (w : World) (hH : HIn w A H cap) (hn : n < H.length) (htab : TabHere w) : Calls Tryz.prog 18 #[.agg #[.slice A H.length cap], .int .i64 (n : Int)] w fun e w' => e = .returned (.bool (mayB H H[n] n)) ∧ Below w.heap.size w w' := by
  obtain ⟨a, rfl, hab, hof, hP⟩ := hH.at hn
  have hin := hH.inn H[n] (List.getElem_mem hn)
  have hfew := hH.pfew H[n] (List.getElem_mem hn)
  have hnz : (n : Int) < (H.length : Int) := by omega
  have hn0 : (0 : Int) ≤ (n : Int) := by omega
  have cF := fun W (hb : Below w.heap.size w W) ok hv => fits_h (some a) H cap n W (hH.up hb) hn ok hv (tab_up htab hb)
  have cH := fun W (hb : Below w.heap.size w W) (v : Vin) => holds_h (some a) H cap v.1 W (hH.up hb) v.2
  have HH := Lib.hid hH
  clear hH
  generalize H[n] = o at *
  have cC := fun W (hb : Below w.heap.size w W) => Check_t o.pa o.props o.pc W hin.props hfew (pr_up hP hb)
  have cI := fun W => IsObject_q o.proto hin.proto.1 W
  have ho1 := (hof.up (vzero w (.cells #[.slice (some a) H.length cap] 24))).up (vzero (w.alloc (.cells #[.slice (some a) H.length cap] 24)) (.cells #[.bool false] 4))
  have HY := Lib.hid (my_start w (some a) H.length cap)
  obtain ⟨q4, q5, q6⟩ := HY.out.q
  have hoff := ho1.lt
  have o2 := ho1.props
  refine (callsIn_wide (n := 6)).1 ?_
  refine callsIn_of_wp_marks Tryz.func18 rfl trivial ?_ rfl
  simp only [Tryz.ntmps18, List.size_toArray, List.length_cons, List.length_nil, Nat.reduceAdd, Nat.reduceSub, Array.replicate_succ, Array.replicate_zero, List.push_toArray, List.append_toArray, List.nil_append, List.cons_append]
  by_cases h1 : chkT o.props = 0
  · have h1b : (chkT o.props == 0) = true := by rw [beq_iff_eq]; exact h1
    have h1c : (chkT o.props != 0) = false := by unfold bne; rw [h1b]; rfl
    have cV := fun W => values_g (a.add (n * 18)) W
    cases ho : objQ o.proto with
    | false =>
      rw [ho] at cI
      cases hk : o.proto.k == 1 with
      | false =>
        rw [may_false2 ho hk]
        have hk2 : (o.proto.k != 1) = true := by unfold bne; rw [hk]; rfl
        gi_wp2_with (first
          | (refine ⟨trivial, ?_⟩; gi_at_call 32; refine (callsIn_wide.2 (cC _ HY.out.below)).mono ?_; rintro e w1 ⟨rfl, h9⟩; have HY := Lib.hid (HY.out.up h9); obtain ⟨q4, q5, q6⟩ := HY.out.q; have hp := (hof.up HY.out.below).proto; have p0 := hp.k; have p1 := hp.x; have p2 := hp.s; have p3 := hp.r; have hl := hp.lt; clear h9 hp)
          | (refine ⟨trivial, ?_⟩; gi_at_call 26; refine (callsIn_wide.2 (cI _)).mono ?_; rintro e w2 ⟨rfl, h9⟩; have HY := Lib.hid (HY.out.up h9); obtain ⟨q4, q5, q6⟩ := HY.out.q; have p0 := (hof.up HY.out.below).proto.k; clear h9)
          | (refine And.intro (a := Fence.wide.fn _) trivial ?_))
        refine my_ret rfl (World.cell?_setCell_same' _ _ _ (by rw [q5]; rfl)) ⟨rfl, ?_⟩
        exact HY.out.below.setCell (p := ⟨w.heap.size + 1, 0, none⟩) (by simp) _
      | true =>
        have hk2 : (o.proto.k != 1) = false := by unfold bne; rw [hk]; rfl
        rw [may_rest h1 (.inr hk)]
        gi_wp2_with (first
          | (refine ⟨trivial, ?_⟩; gi_at_call 32; refine (callsIn_wide.2 (cC _ HY.out.below)).mono ?_; rintro e w1 ⟨rfl, h9⟩; have HY := Lib.hid (HY.out.up h9); obtain ⟨q4, q5, q6⟩ := HY.out.q; have hp := (hof.up HY.out.below).proto; have p0 := hp.k; have p1 := hp.x; have p2 := hp.s; have p3 := hp.r; have hl := hp.lt; clear h9 hp)
          | (refine ⟨trivial, ?_⟩; gi_at_call 26; refine (callsIn_wide.2 (cI _)).mono ?_; rintro e w2 ⟨rfl, h9⟩; have HY := Lib.hid (HY.out.up h9); obtain ⟨q4, q5, q6⟩ := HY.out.q; have p0 := (hof.up HY.out.below).proto.k; clear h9)
          | (refine ⟨trivial, ?_⟩; gi_at_call 33; refine (callsIn_wide.2 (cV _)).mono ?_; rintro e W0 ⟨Bn, rfl, hBn, h9, hsz, _⟩; have HY := Lib.hid (HY.out.up h9); obtain ⟨q4, q5, q6⟩ := HY.out.q; clear h9 p0 p1 p2 p3 hl)
          | (refine And.intro (a := Fence.wide.fn _) trivial ?_))
        have hw1 : w.heap.size + 1 < W0.heap.size := lt_blk HY.out.r
        have hlB : w.heap.size ≤ W0.heap.size := HY.out.below.size
        refine wpIn_rangeFunc_ownH rfl (by omega) (gf := 56) (lb := #[.pointer (some ⟨Bn, 0, none⟩)]) rfl trivial (enters_of Tryz.func56 (by kernel_rfl) rfl)
          (values_stops Fence.wide _ trivial rfl (by omega) Bn w W0 (a.add (n * 18)) o hof hP hin hfew ⟨Kw.of_below HY.out.below, hBn⟩) (fun h k => KB.trans h k) (fun W l o o' hl h _ _ => KB.putObj (by omega) (by omega)) (Below.refl _ _) (fun _ => rfl)
          (fun pre W => (∀ x ∈ pre, holdsB H x.out = true) ∧ My w (some a) H.length cap W)
          (fun c pre W => c = .ret ∧ (∃ x ∈ pre, holdsB H x.out = false) ∧ Below w.heap.size w W ∧ W.heap[w.heap.size + 1]? = some (.cells #[.bool false] 4 (0, 0)))
          (OwnFrom.and (ownFrom_pure _ _) (my_own hw1))
          (fun c s W W' row hs hg hr => ⟨hs.1, hs.2.1, ownFrom_below (Nat.le_refl _) (by omega) s W W' row hs.2.2.1 hg hr, ownFrom_blk hw1 s W W' row hs.2.2.2 hg hr⟩)
          ⟨fun _ h => (by cases h), HY.out⟩
          (fun x => Ax (fun a' Bx => a' = { tmps := #[Value.agg #[Value.slice (some a) H.length cap], Value.int IntKind.i64 (n : Int), Value.pointer (some ⟨w.heap.size, 0, none⟩), undef, Value.pointer (some ⟨w.heap.size + 1, 0, none⟩), Value.pointer (some (a.add (n * 18))), .pointer (some ⟨Bx, 0, none⟩), Value.pointer (some ⟨w.heap.size, 0, none⟩), Value.slice (some a) H.length cap, Value.int IntKind.i64 (n : Int), Value.pointer (some (a.add (n * 18))), Value.pointer (some (a.add (n * 18))), Value.pointer (some (a.add (n * 18))), Value.pointer (some ⟨(a.add (n * 18)).block, (a.add (n * 18)).off + 6, none⟩), Value.slice o.pa o.props.length o.pc, Value.int IntKind.i64 0, Value.bool false, Value.bool false, Value.pointer (some (a.add (n * 18))), Value.pointer (some (a.add (n * 18))), Value.pointer (some ⟨(a.add (n * 18)).block, (a.add (n * 18)).off + 1, none⟩), Value.agg #[Value.int IntKind.u8 o.proto.k, Value.float FloatKind.f64 o.proto.x, Value.string o.proto.s, Value.int IntKind.i64 o.proto.r], Value.bool false, Value.bool true, Value.bool true, Value.pointer (some (a.add (n * 18))), Value.pointer (some (a.add (n * 18))), Value.pointer (some ⟨(a.add (n * 18)).block, (a.add (n * 18)).off + 1, none⟩), Value.pointer (some ⟨(a.add (n * 18)).block, (a.add (n * 18)).off + 1, none⟩), Value.int IntKind.u8 o.proto.k, Value.bool false, Value.bool false, Value.bool false, Value.pointer (some (a.add (n * 18))), Value.func (.func 56) #[] #[Value.pointer (some ⟨Bn, 0, none⟩)], .agg #[.int .u8 x.1.k, .float .f64 x.1.x, .string x.1.s, .int .i64 x.1.r], undef, undef, undef, undef, undef, undef, undef], defers := [] }) x)
          (fun x a' => ax_own x a') ?assign ?body ?done ?stop
        case assign =>
          intro l pre x W K hi hK
          have hst := vstore
          dsimp only [encI, encV]
          gi_wp2
          have hbz := vzero W (.cells #[.int .u8 x.1.k, .float .f64 x.1.x, .string x.1.s, .int .i64 x.1.r] 34)
          exact hK _ _ (kf_below hbz) (KB.of_below hbz) ⟨hi.1, hi.2.up hbz⟩ ⟨W.heap.size, heap_alloc_new _ _, rfl⟩
        case body =>
          rintro l pre x a' W hl ⟨r, hr⟩ ⟨hi, hy⟩ ⟨Bx, hbx, rfl⟩ hlen
          obtain ⟨q4, q5, q6⟩ := hy.q
          obtain ⟨x0, x1, x2, x3, _⟩ := vc4 hbx
          have hcH := cH W hy.below x
          cases hh : holdsB H x.1 with
          | false =>
            rw [hh] at hcH
            gi_wp2_with (refine ⟨trivial, ?_⟩; gi_at_call 34; refine (CallsIn.inRound l (callsIn_wide.2 hcH)).mono ?_; rintro e w1 ⟨rfl, h9⟩; have hy2 := hy.up h9; obtain ⟨q4, q5, q6⟩ := hy2.q)
            exact ⟨kf_trans (kf_below h9) ((KeepsOthers.setCell _ _ _).from _), rfl, ⟨x, by simp, hh⟩, hy2.below.setCell (p := ⟨w.heap.size + 1, 0, none⟩) (by simp) _, (vset1 hy2.r 0 _).trans rfl⟩
          | true =>
            rw [hh] at hcH
            gi_wp2_with (refine ⟨trivial, ?_⟩; gi_at_call 34; refine (CallsIn.inRound l (callsIn_wide.2 hcH)).mono ?_; rintro e w1 ⟨rfl, h9⟩; have hy2 := hy.up h9; obtain ⟨q4, q5, q6⟩ := hy2.q)
            refine ⟨kf_below h9, KB.of_below h9, fun y hy' => ?_, hy2⟩
            rcases List.mem_append.1 hy' with hy' | hy'
            · exact hi y hy'
            · obtain rfl := List.mem_singleton.1 hy'; exact hh
        case done =>
          rintro D ys W hD hys ⟨hi, hy⟩ hK
          have hall := all_true hys hi
          obtain ⟨q4, q5, q6⟩ := hy.q
          have hcF := cF W hy.below (chkT_ok.1 h1) (List.all_eq_true.1 hall)
          gi_wp2_with (refine ⟨trivial, ?_⟩; gi_at_call 35; refine (callsIn_wide.2 hcF).mono ?_; rintro e w1 ⟨rfl, h9⟩; have hy2 := hy.up h9; obtain ⟨q4, q5, q6⟩ := hy2.q)
          have hK1 := (h9.block D (lt_blk hK)).trans hK
          have hK2 := (KeepsOthers.setCell w1 ⟨w.heap.size + 1, 0, none⟩ (.bool (fitsB H o n))).same D _ hK1 rfl
          refine ⟨by simp, .inl ⟨_, _, rfl, run_takeDeferred hK2, ?_⟩⟩
          have hc5 := cell_kept (World.cell?_setCell_same' w1 ⟨w.heap.size + 1, 0, none⟩ (.bool (fitsB H o n)) (by rw [q5]; rfl)) (grownBy_putObj' _ D (.deferred none)) (fun r e => by cases e; exact ⟨_, hK2, rfl⟩)
          exact my_ret rfl hc5 ⟨by rw [hall, Bool.true_and], (hy2.below.setCell (p := ⟨w.heap.size + 1, 0, none⟩) (by simp) _).trans (belowK_b (w := w) (Nat.le_refl _) _ D _ _ (by omega) hK2 rfl rfl)⟩
        case stop =>
          rintro D c pre W hD hpre ⟨rfl, hex, hb, hr⟩ hK
          gi_wp2
          refine ⟨by simp, .inl ⟨_, _, rfl, run_takeDeferred hK, ?_⟩⟩
          have hc5 := cell_kept (box_c hr).1 (grownBy_putObj' _ D (.deferred none)) (fun r e => by cases e; exact ⟨_, hK, rfl⟩)
          exact my_ret rfl hc5 ⟨by rw [all_false hpre hex, Bool.false_and], hb.trans (belowK_b (w := w) (Nat.le_refl _) _ D _ _ (by omega) hK rfl rfl)⟩
    | true =>
      rw [ho] at cI
      rw [may_rest h1 (.inl ho)]
      gi_wp2_with (first
        | (refine ⟨trivial, ?_⟩; gi_at_call 32; refine (callsIn_wide.2 (cC _ HY.out.below)).mono ?_; rintro e w1 ⟨rfl, h9⟩; have HY := Lib.hid (HY.out.up h9); obtain ⟨q4, q5, q6⟩ := HY.out.q; have hp := (hof.up HY.out.below).proto; have p0 := hp.k; have p1 := hp.x; have p2 := hp.s; have p3 := hp.r; have hl := hp.lt; clear h9 hp)
        | (refine ⟨trivial, ?_⟩; gi_at_call 26; refine (callsIn_wide.2 (cI _)).mono ?_; rintro e w2 ⟨rfl, h9⟩; have HY := Lib.hid (HY.out.up h9); obtain ⟨q4, q5, q6⟩ := HY.out.q; have p0 := (hof.up HY.out.below).proto.k; clear h9)
        | (refine ⟨trivial, ?_⟩; gi_at_call 33; refine (callsIn_wide.2 (cV _)).mono ?_; rintro e W0 ⟨Bn, rfl, hBn, h9, hsz, _⟩; have HY := Lib.hid (HY.out.up h9); obtain ⟨q4, q5, q6⟩ := HY.out.q; clear h9 p0 p1 p2 p3 hl)
        | (refine And.intro (a := Fence.wide.fn _) trivial ?_))
      have hw1 : w.heap.size + 1 < W0.heap.size := lt_blk HY.out.r
      have hlB : w.heap.size ≤ W0.heap.size := HY.out.below.size
      refine wpIn_rangeFunc_ownH rfl (by omega) (gf := 56) (lb := #[.pointer (some ⟨Bn, 0, none⟩)]) rfl trivial (enters_of Tryz.func56 (by kernel_rfl) rfl)
        (values_stops Fence.wide _ trivial rfl (by omega) Bn w W0 (a.add (n * 18)) o hof hP hin hfew ⟨Kw.of_below HY.out.below, hBn⟩) (fun h k => KB.trans h k) (fun W l o o' hl h _ _ => KB.putObj (by omega) (by omega)) (Below.refl _ _) (fun _ => rfl)
        (fun pre W => (∀ x ∈ pre, holdsB H x.out = true) ∧ My w (some a) H.length cap W)
        (fun c pre W => c = .ret ∧ (∃ x ∈ pre, holdsB H x.out = false) ∧ Below w.heap.size w W ∧ W.heap[w.heap.size + 1]? = some (.cells #[.bool false] 4 (0, 0)))
        (OwnFrom.and (ownFrom_pure _ _) (my_own hw1))
        (fun c s W W' row hs hg hr => ⟨hs.1, hs.2.1, ownFrom_below (Nat.le_refl _) (by omega) s W W' row hs.2.2.1 hg hr, ownFrom_blk hw1 s W W' row hs.2.2.2 hg hr⟩)
        ⟨fun _ h => (by cases h), HY.out⟩
        (fun x => Ax (fun a' Bx => a' = { tmps := #[Value.agg #[Value.slice (some a) H.length cap], Value.int IntKind.i64 (n : Int), Value.pointer (some ⟨w.heap.size, 0, none⟩), undef, Value.pointer (some ⟨w.heap.size + 1, 0, none⟩), Value.pointer (some (a.add (n * 18))), .pointer (some ⟨Bx, 0, none⟩), Value.pointer (some ⟨w.heap.size, 0, none⟩), Value.slice (some a) H.length cap, Value.int IntKind.i64 (n : Int), Value.pointer (some (a.add (n * 18))), Value.pointer (some (a.add (n * 18))), Value.pointer (some (a.add (n * 18))), Value.pointer (some ⟨(a.add (n * 18)).block, (a.add (n * 18)).off + 6, none⟩), Value.slice o.pa o.props.length o.pc, Value.int IntKind.i64 0, Value.bool false, Value.bool false, Value.pointer (some (a.add (n * 18))), Value.pointer (some (a.add (n * 18))), Value.pointer (some ⟨(a.add (n * 18)).block, (a.add (n * 18)).off + 1, none⟩), Value.agg #[Value.int IntKind.u8 o.proto.k, Value.float FloatKind.f64 o.proto.x, Value.string o.proto.s, Value.int IntKind.i64 o.proto.r], Value.bool true, Value.bool false, Value.bool false, undef, undef, undef, undef, undef, undef, Value.bool false, Value.bool false, Value.pointer (some (a.add (n * 18))), Value.func (.func 56) #[] #[Value.pointer (some ⟨Bn, 0, none⟩)], .agg #[.int .u8 x.1.k, .float .f64 x.1.x, .string x.1.s, .int .i64 x.1.r], undef, undef, undef, undef, undef, undef, undef], defers := [] }) x)
        (fun x a' => ax_own x a') ?assign ?body ?done ?stop
      case assign =>
        intro l pre x W K hi hK
        have hst := vstore
        dsimp only [encI, encV]
        gi_wp2
        have hbz := vzero W (.cells #[.int .u8 x.1.k, .float .f64 x.1.x, .string x.1.s, .int .i64 x.1.r] 34)
        exact hK _ _ (kf_below hbz) (KB.of_below hbz) ⟨hi.1, hi.2.up hbz⟩ ⟨W.heap.size, heap_alloc_new _ _, rfl⟩
      case body =>
        rintro l pre x a' W hl ⟨r, hr⟩ ⟨hi, hy⟩ ⟨Bx, hbx, rfl⟩ hlen
        obtain ⟨q4, q5, q6⟩ := hy.q
        obtain ⟨x0, x1, x2, x3, _⟩ := vc4 hbx
        have hcH := cH W hy.below x
        cases hh : holdsB H x.1 with
        | false =>
          rw [hh] at hcH
          gi_wp2_with (refine ⟨trivial, ?_⟩; gi_at_call 34; refine (CallsIn.inRound l (callsIn_wide.2 hcH)).mono ?_; rintro e w1 ⟨rfl, h9⟩; have hy2 := hy.up h9; obtain ⟨q4, q5, q6⟩ := hy2.q)
          exact ⟨kf_trans (kf_below h9) ((KeepsOthers.setCell _ _ _).from _), rfl, ⟨x, by simp, hh⟩, hy2.below.setCell (p := ⟨w.heap.size + 1, 0, none⟩) (by simp) _, (vset1 hy2.r 0 _).trans rfl⟩
        | true =>
          rw [hh] at hcH
          gi_wp2_with (refine ⟨trivial, ?_⟩; gi_at_call 34; refine (CallsIn.inRound l (callsIn_wide.2 hcH)).mono ?_; rintro e w1 ⟨rfl, h9⟩; have hy2 := hy.up h9; obtain ⟨q4, q5, q6⟩ := hy2.q)
          refine ⟨kf_below h9, KB.of_below h9, fun y hy' => ?_, hy2⟩
          rcases List.mem_append.1 hy' with hy' | hy'
          · exact hi y hy'
          · obtain rfl := List.mem_singleton.1 hy'; exact hh
      case done =>
        rintro D ys W hD hys ⟨hi, hy⟩ hK
        have hall := all_true hys hi
        obtain ⟨q4, q5, q6⟩ := hy.q
        have hcF := cF W hy.below (chkT_ok.1 h1) (List.all_eq_true.1 hall)
        gi_wp2_with (refine ⟨trivial, ?_⟩; gi_at_call 35; refine (callsIn_wide.2 hcF).mono ?_; rintro e w1 ⟨rfl, h9⟩; have hy2 := hy.up h9; obtain ⟨q4, q5, q6⟩ := hy2.q)
        have hK1 := (h9.block D (lt_blk hK)).trans hK
        have hK2 := (KeepsOthers.setCell w1 ⟨w.heap.size + 1, 0, none⟩ (.bool (fitsB H o n))).same D _ hK1 rfl
        refine ⟨by simp, .inl ⟨_, _, rfl, run_takeDeferred hK2, ?_⟩⟩
        have hc5 := cell_kept (World.cell?_setCell_same' w1 ⟨w.heap.size + 1, 0, none⟩ (.bool (fitsB H o n)) (by rw [q5]; rfl)) (grownBy_putObj' _ D (.deferred none)) (fun r e => by cases e; exact ⟨_, hK2, rfl⟩)
        exact my_ret rfl hc5 ⟨by rw [hall, Bool.true_and], (hy2.below.setCell (p := ⟨w.heap.size + 1, 0, none⟩) (by simp) _).trans (belowK_b (w := w) (Nat.le_refl _) _ D _ _ (by omega) hK2 rfl rfl)⟩
      case stop =>
        rintro D c pre W hD hpre ⟨rfl, hex, hb, hr⟩ hK
        gi_wp2
        refine ⟨by simp, .inl ⟨_, _, rfl, run_takeDeferred hK, ?_⟩⟩
        have hc5 := cell_kept (box_c hr).1 (grownBy_putObj' _ D (.deferred none)) (fun r e => by cases e; exact ⟨_, hK, rfl⟩)
        exact my_ret rfl hc5 ⟨by rw [all_false hpre hex, Bool.false_and], hb.trans (belowK_b (w := w) (Nat.le_refl _) _ D _ _ (by omega) hK rfl rfl)⟩
  · rw [may_false1 h1]
    have h1b : (chkT o.props == 0) = false := by rw [beq_eq_false_iff_ne]; exact h1
    have h1c : (chkT o.props != 0) = true := by unfold bne; rw [h1b]; rfl
    gi_wp2_with (first
      | (refine ⟨trivial, ?_⟩; gi_at_call 32; refine (callsIn_wide.2 (cC _ HY.out.below)).mono ?_; rintro e w1 ⟨rfl, h9⟩; have HY := Lib.hid (HY.out.up h9); obtain ⟨q4, q5, q6⟩ := HY.out.q; clear h9)
      | (refine And.intro (a := Fence.wide.fn _) trivial ?_))
    refine my_ret rfl (World.cell?_setCell_same' _ _ _ (by rw [q5]; rfl)) ⟨rfl, ?_⟩
    exact HY.out.below.setCell (p := ⟨w.heap.size + 1, 0, none⟩) (by simp) _
end Go.Proofs.YtlfbflclefndjaaGreatDoor.S
