/-
  heap.fits: whether an object has what its kind has. Generated: gen_heapfits.py.
-/
import Derived.Test.YthnkllhfmjbbmaaGreatDoorHM33
import Derived.Test.YthnkllhfmjbbmaaGreatDoorHM34
namespace Go.Proofs.YthnkllhfmjbbmaaGreatDoor.S
open Go.RowKit Go.Lib Fl
open Classical

theorem holds_ref {H : List Ob} {v : Vq} (h : holdsB H v = true) (ho : objQ v = true) : 0 ≤ v.r := by
  unfold holdsB at h
  rw [Bool.and_eq_true] at h
  exact ok_ref (may_ok h.1) ho
theorem len_empty (L : List Pq) : ((L.length : Int) == 0) = L.isEmpty := by
  cases L with
  | nil => rfl
  | cons x r => simp; omega
theorem target_in (o : Ob) : o.target ∈ valsO o := by unfold valsO; simp
set_option maxHeartbeats 8000000 in
set_option maxRecDepth 1000000 in
theorem fits_h (A : Option Addr) (H : List Ob) (cap n : Nat) (w : World) (hH : HIn w A H cap) (hn : n < H.length) (ok : TabOk H[n].props) (hv : ∀ v ∈ valsO H[n], holdsB H v = true) (htab : TabHere w) : Calls Tryz.prog 77 #[.agg #[.slice A H.length cap], .int .i64 (n : Int)] w fun e w' => e = .returned (.bool (fitsB H H[n] n)) ∧ Below w.heap.size w w' := by
  obtain ⟨a, rfl, hab, hof, hP⟩ := hH.at hn
  have hin := hH.inn H[n] (List.getElem_mem hn)
  have hfew := hH.pfew H[n] (List.getElem_mem hn)
  have HS := Lib.hid (hb_start w (some a) H.length cap)
  have hnz : (n : Int) < (H.length : Int) := by omega
  have hn0 : (0 : Int) ≤ (n : Int) := by omega
  have q4 := HS.out.h
  have cR := fun W (hb : Below w.heap.size w W) => revokes_h (some a) H cap n W (hH.up hb) hn (fun ho => holds_ref (hv _ (target_in _)) ho)
  have cL := fun W (hb : Below w.heap.size w W) => leads_h (some a) H cap n W (hH.up hb) hn
  generalize H[n] = o at *
  have cM := fun W (hb : Below w.heap.size w W) => measured_h o.pa o.props o.pc W ok hin.props (pr_up hP hb) (tab_up htab hb)
  have cX := fun W (hb : Below w.heap.size w W) => boxes_h (a.add (n * 18)) o W (hof.up hb) hin hfew (pr_up hP hb) (tab_up htab hb)
  have ho1 := hof.up (vzero w (.cells #[.slice (some a) H.length cap] 24))
  have hoff := ho1.lt
  have cK := kind_h _ _ _ ho1
  have cB := bare_h _ _ _ ho1
  have cA := alone_h _ _ _ ho1
  have o0 := ho1.kind
  have o1 := ho1.ext
  have o2 := ho1.props
  have o3 := ho1.proto.k
  have o4 := ho1.text
  have o5 := ho1.calls
  have o6 := ho1.handler
  have z3 : (⟨#[]⟩ : ByteArray).toList = [] := by rw [toList_data]
  clear hH hof hP hv htab hin hfew ok
  unfold fitsB
  cases e1 : o.kind == 1 with
  | true =>
    cases h6 : kindO o == 6 with
    | false =>
      go_enter Tryz.func77, Tryz.ntmps77
      go_wp2_with (first
        | (go_at_call 116; (with_reducible refine cK.mono ?_); rintro e w1 ⟨rfl, rfl⟩)
        | (go_at_call 117; (with_reducible refine cB.mono ?_); rintro e w1 ⟨rfl, rfl⟩)
        | (go_at_call 119; (with_reducible refine cA.mono ?_); rintro e w1 ⟨rfl, rfl⟩)
        | ((with_reducible refine va_load ?_ rfl rfl o6 ?_); (rfl))
        | ((with_reducible refine vz_eq (v := o.handler) ?_ rfl rfl rfl ?_); (rfl); rw [hz])
        | (go_at_call 118; (with_reducible refine (cM _ HS.out.below).mono ?_); rintro e w1 ⟨rfl, h9⟩; have HS := Lib.hid (HS.out.up h9); clear h9)
        | (go_at_call 120; (with_reducible refine (cX _ HS.out.below).mono ?_); rintro e w1 ⟨rfl, h9⟩; have HS := Lib.hid (HS.out.up h9); clear h9)
        | (go_at_call 121; (with_reducible refine (cR _ HS.out.below).mono ?_); rintro e w1 ⟨rfl, h9⟩; have HS := Lib.hid (HS.out.up h9); clear h9)
        | (go_at_call 122; (with_reducible refine (cL _ HS.out.below).mono ?_); rintro e w1 ⟨rfl, h9⟩; have HS := Lib.hid (HS.out.up h9); clear h9))
      go_ret
      exact ⟨by first | rfl | simp, HS.out.below⟩
    | true =>
      go_enter Tryz.func77, Tryz.ntmps77
      go_wp2_with (first
        | (go_at_call 116; (with_reducible refine cK.mono ?_); rintro e w1 ⟨rfl, rfl⟩)
        | (go_at_call 117; (with_reducible refine cB.mono ?_); rintro e w1 ⟨rfl, rfl⟩)
        | (go_at_call 119; (with_reducible refine cA.mono ?_); rintro e w1 ⟨rfl, rfl⟩)
        | ((with_reducible refine va_load ?_ rfl rfl o6 ?_); (rfl))
        | ((with_reducible refine vz_eq (v := o.handler) ?_ rfl rfl rfl ?_); (rfl); rw [hz])
        | (go_at_call 118; (with_reducible refine (cM _ HS.out.below).mono ?_); rintro e w1 ⟨rfl, h9⟩; have HS := Lib.hid (HS.out.up h9); clear h9)
        | (go_at_call 120; (with_reducible refine (cX _ HS.out.below).mono ?_); rintro e w1 ⟨rfl, h9⟩; have HS := Lib.hid (HS.out.up h9); clear h9)
        | (go_at_call 121; (with_reducible refine (cR _ HS.out.below).mono ?_); rintro e w1 ⟨rfl, h9⟩; have HS := Lib.hid (HS.out.up h9); clear h9)
        | (go_at_call 122; (with_reducible refine (cL _ HS.out.below).mono ?_); rintro e w1 ⟨rfl, h9⟩; have HS := Lib.hid (HS.out.up h9); clear h9))
      go_ret
      exact ⟨by first | rfl | simp, HS.out.below⟩
  | false =>
    cases e2 : o.kind == 2 with
    | true =>
      cases h6 : kindO o == 6 with
      | false =>
        go_enter Tryz.func77, Tryz.ntmps77
        go_wp2_with (first
          | (go_at_call 116; (with_reducible refine cK.mono ?_); rintro e w1 ⟨rfl, rfl⟩)
          | (go_at_call 117; (with_reducible refine cB.mono ?_); rintro e w1 ⟨rfl, rfl⟩)
          | (go_at_call 119; (with_reducible refine cA.mono ?_); rintro e w1 ⟨rfl, rfl⟩)
          | ((with_reducible refine va_load ?_ rfl rfl o6 ?_); (rfl))
          | ((with_reducible refine vz_eq (v := o.handler) ?_ rfl rfl rfl ?_); (rfl); rw [hz])
          | (go_at_call 118; (with_reducible refine (cM _ HS.out.below).mono ?_); rintro e w1 ⟨rfl, h9⟩; have HS := Lib.hid (HS.out.up h9); clear h9)
          | (go_at_call 120; (with_reducible refine (cX _ HS.out.below).mono ?_); rintro e w1 ⟨rfl, h9⟩; have HS := Lib.hid (HS.out.up h9); clear h9)
          | (go_at_call 121; (with_reducible refine (cR _ HS.out.below).mono ?_); rintro e w1 ⟨rfl, h9⟩; have HS := Lib.hid (HS.out.up h9); clear h9)
          | (go_at_call 122; (with_reducible refine (cL _ HS.out.below).mono ?_); rintro e w1 ⟨rfl, h9⟩; have HS := Lib.hid (HS.out.up h9); clear h9))
        go_ret
        exact ⟨by first | rfl | simp, HS.out.below⟩
      | true =>
        cases hb : bareB o with
        | false =>
          rw [hb] at cB
          go_enter Tryz.func77, Tryz.ntmps77
          go_wp2_with (first
            | (go_at_call 116; (with_reducible refine cK.mono ?_); rintro e w1 ⟨rfl, rfl⟩)
            | (go_at_call 117; (with_reducible refine cB.mono ?_); rintro e w1 ⟨rfl, rfl⟩)
            | (go_at_call 119; (with_reducible refine cA.mono ?_); rintro e w1 ⟨rfl, rfl⟩)
            | ((with_reducible refine va_load ?_ rfl rfl o6 ?_); (rfl))
            | ((with_reducible refine vz_eq (v := o.handler) ?_ rfl rfl rfl ?_); (rfl); rw [hz])
            | (go_at_call 118; (with_reducible refine (cM _ HS.out.below).mono ?_); rintro e w1 ⟨rfl, h9⟩; have HS := Lib.hid (HS.out.up h9); clear h9)
            | (go_at_call 120; (with_reducible refine (cX _ HS.out.below).mono ?_); rintro e w1 ⟨rfl, h9⟩; have HS := Lib.hid (HS.out.up h9); clear h9)
            | (go_at_call 121; (with_reducible refine (cR _ HS.out.below).mono ?_); rintro e w1 ⟨rfl, h9⟩; have HS := Lib.hid (HS.out.up h9); clear h9)
            | (go_at_call 122; (with_reducible refine (cL _ HS.out.below).mono ?_); rintro e w1 ⟨rfl, h9⟩; have HS := Lib.hid (HS.out.up h9); clear h9))
          go_ret
          exact ⟨by first | rfl | simp, HS.out.below⟩
        | true =>
          rw [hb] at cB
          go_enter Tryz.func77, Tryz.ntmps77
          go_wp2_with (first
            | (go_at_call 116; (with_reducible refine cK.mono ?_); rintro e w1 ⟨rfl, rfl⟩)
            | (go_at_call 117; (with_reducible refine cB.mono ?_); rintro e w1 ⟨rfl, rfl⟩)
            | (go_at_call 119; (with_reducible refine cA.mono ?_); rintro e w1 ⟨rfl, rfl⟩)
            | ((with_reducible refine va_load ?_ rfl rfl o6 ?_); (rfl))
            | ((with_reducible refine vz_eq (v := o.handler) ?_ rfl rfl rfl ?_); (rfl); rw [hz])
            | (go_at_call 118; (with_reducible refine (cM _ HS.out.below).mono ?_); rintro e w1 ⟨rfl, h9⟩; have HS := Lib.hid (HS.out.up h9); clear h9)
            | (go_at_call 120; (with_reducible refine (cX _ HS.out.below).mono ?_); rintro e w1 ⟨rfl, h9⟩; have HS := Lib.hid (HS.out.up h9); clear h9)
            | (go_at_call 121; (with_reducible refine (cR _ HS.out.below).mono ?_); rintro e w1 ⟨rfl, h9⟩; have HS := Lib.hid (HS.out.up h9); clear h9)
            | (go_at_call 122; (with_reducible refine (cL _ HS.out.below).mono ?_); rintro e w1 ⟨rfl, h9⟩; have HS := Lib.hid (HS.out.up h9); clear h9))
          go_ret
          exact ⟨by first | rfl | simp, HS.out.below⟩
    | false =>
      cases e3 : o.kind == 3 with
      | true =>
        cases h6 : kindO o == 6 with
        | false =>
          go_enter Tryz.func77, Tryz.ntmps77
          go_wp2_with (first
            | (go_at_call 116; (with_reducible refine cK.mono ?_); rintro e w1 ⟨rfl, rfl⟩)
            | (go_at_call 117; (with_reducible refine cB.mono ?_); rintro e w1 ⟨rfl, rfl⟩)
            | (go_at_call 119; (with_reducible refine cA.mono ?_); rintro e w1 ⟨rfl, rfl⟩)
            | ((with_reducible refine va_load ?_ rfl rfl o6 ?_); (rfl))
            | ((with_reducible refine vz_eq (v := o.handler) ?_ rfl rfl rfl ?_); (rfl); rw [hz])
            | (go_at_call 118; (with_reducible refine (cM _ HS.out.below).mono ?_); rintro e w1 ⟨rfl, h9⟩; have HS := Lib.hid (HS.out.up h9); clear h9)
            | (go_at_call 120; (with_reducible refine (cX _ HS.out.below).mono ?_); rintro e w1 ⟨rfl, h9⟩; have HS := Lib.hid (HS.out.up h9); clear h9)
            | (go_at_call 121; (with_reducible refine (cR _ HS.out.below).mono ?_); rintro e w1 ⟨rfl, h9⟩; have HS := Lib.hid (HS.out.up h9); clear h9)
            | (go_at_call 122; (with_reducible refine (cL _ HS.out.below).mono ?_); rintro e w1 ⟨rfl, h9⟩; have HS := Lib.hid (HS.out.up h9); clear h9))
          go_ret
          exact ⟨by first | rfl | simp, HS.out.below⟩
        | true =>
          cases ha : aloneB o with
          | false =>
            rw [ha] at cA
            go_enter Tryz.func77, Tryz.ntmps77
            go_wp2_with (first
              | (go_at_call 116; (with_reducible refine cK.mono ?_); rintro e w1 ⟨rfl, rfl⟩)
              | (go_at_call 117; (with_reducible refine cB.mono ?_); rintro e w1 ⟨rfl, rfl⟩)
              | (go_at_call 119; (with_reducible refine cA.mono ?_); rintro e w1 ⟨rfl, rfl⟩)
              | ((with_reducible refine va_load ?_ rfl rfl o6 ?_); (rfl))
              | ((with_reducible refine vz_eq (v := o.handler) ?_ rfl rfl rfl ?_); (rfl); rw [hz])
              | (go_at_call 118; (with_reducible refine (cM _ HS.out.below).mono ?_); rintro e w1 ⟨rfl, h9⟩; have HS := Lib.hid (HS.out.up h9); clear h9)
              | (go_at_call 120; (with_reducible refine (cX _ HS.out.below).mono ?_); rintro e w1 ⟨rfl, h9⟩; have HS := Lib.hid (HS.out.up h9); clear h9)
              | (go_at_call 121; (with_reducible refine (cR _ HS.out.below).mono ?_); rintro e w1 ⟨rfl, h9⟩; have HS := Lib.hid (HS.out.up h9); clear h9)
              | (go_at_call 122; (with_reducible refine (cL _ HS.out.below).mono ?_); rintro e w1 ⟨rfl, h9⟩; have HS := Lib.hid (HS.out.up h9); clear h9))
            go_ret
            exact ⟨by first | rfl | simp, HS.out.below⟩
          | true =>
            rw [ha] at cA
            go_enter Tryz.func77, Tryz.ntmps77
            go_wp2_with (first
              | (go_at_call 116; (with_reducible refine cK.mono ?_); rintro e w1 ⟨rfl, rfl⟩)
              | (go_at_call 117; (with_reducible refine cB.mono ?_); rintro e w1 ⟨rfl, rfl⟩)
              | (go_at_call 119; (with_reducible refine cA.mono ?_); rintro e w1 ⟨rfl, rfl⟩)
              | ((with_reducible refine va_load ?_ rfl rfl o6 ?_); (rfl))
              | ((with_reducible refine vz_eq (v := o.handler) ?_ rfl rfl rfl ?_); (rfl); rw [hz])
              | (go_at_call 118; (with_reducible refine (cM _ HS.out.below).mono ?_); rintro e w1 ⟨rfl, h9⟩; have HS := Lib.hid (HS.out.up h9); clear h9)
              | (go_at_call 120; (with_reducible refine (cX _ HS.out.below).mono ?_); rintro e w1 ⟨rfl, h9⟩; have HS := Lib.hid (HS.out.up h9); clear h9)
              | (go_at_call 121; (with_reducible refine (cR _ HS.out.below).mono ?_); rintro e w1 ⟨rfl, h9⟩; have HS := Lib.hid (HS.out.up h9); clear h9)
              | (go_at_call 122; (with_reducible refine (cL _ HS.out.below).mono ?_); rintro e w1 ⟨rfl, h9⟩; have HS := Lib.hid (HS.out.up h9); clear h9))
            go_ret
            exact ⟨by first | rfl | simp, HS.out.below⟩
      | false =>
        cases e4 : o.kind == 4 with
        | true =>
          cases h6 : kindO o == 8 with
          | false =>
            go_enter Tryz.func77, Tryz.ntmps77
            go_wp2_with (first
              | (go_at_call 116; (with_reducible refine cK.mono ?_); rintro e w1 ⟨rfl, rfl⟩)
              | (go_at_call 117; (with_reducible refine cB.mono ?_); rintro e w1 ⟨rfl, rfl⟩)
              | (go_at_call 119; (with_reducible refine cA.mono ?_); rintro e w1 ⟨rfl, rfl⟩)
              | ((with_reducible refine va_load ?_ rfl rfl o6 ?_); (rfl))
              | ((with_reducible refine vz_eq (v := o.handler) ?_ rfl rfl rfl ?_); (rfl); rw [hz])
              | (go_at_call 118; (with_reducible refine (cM _ HS.out.below).mono ?_); rintro e w1 ⟨rfl, h9⟩; have HS := Lib.hid (HS.out.up h9); clear h9)
              | (go_at_call 120; (with_reducible refine (cX _ HS.out.below).mono ?_); rintro e w1 ⟨rfl, h9⟩; have HS := Lib.hid (HS.out.up h9); clear h9)
              | (go_at_call 121; (with_reducible refine (cR _ HS.out.below).mono ?_); rintro e w1 ⟨rfl, h9⟩; have HS := Lib.hid (HS.out.up h9); clear h9)
              | (go_at_call 122; (with_reducible refine (cL _ HS.out.below).mono ?_); rintro e w1 ⟨rfl, h9⟩; have HS := Lib.hid (HS.out.up h9); clear h9))
            go_ret
            exact ⟨by first | rfl | simp, HS.out.below⟩
          | true =>
            go_enter Tryz.func77, Tryz.ntmps77
            go_wp2_with (first
              | (go_at_call 116; (with_reducible refine cK.mono ?_); rintro e w1 ⟨rfl, rfl⟩)
              | (go_at_call 117; (with_reducible refine cB.mono ?_); rintro e w1 ⟨rfl, rfl⟩)
              | (go_at_call 119; (with_reducible refine cA.mono ?_); rintro e w1 ⟨rfl, rfl⟩)
              | ((with_reducible refine va_load ?_ rfl rfl o6 ?_); (rfl))
              | ((with_reducible refine vz_eq (v := o.handler) ?_ rfl rfl rfl ?_); (rfl); rw [hz])
              | (go_at_call 118; (with_reducible refine (cM _ HS.out.below).mono ?_); rintro e w1 ⟨rfl, h9⟩; have HS := Lib.hid (HS.out.up h9); clear h9)
              | (go_at_call 120; (with_reducible refine (cX _ HS.out.below).mono ?_); rintro e w1 ⟨rfl, h9⟩; have HS := Lib.hid (HS.out.up h9); clear h9)
              | (go_at_call 121; (with_reducible refine (cR _ HS.out.below).mono ?_); rintro e w1 ⟨rfl, h9⟩; have HS := Lib.hid (HS.out.up h9); clear h9)
              | (go_at_call 122; (with_reducible refine (cL _ HS.out.below).mono ?_); rintro e w1 ⟨rfl, h9⟩; have HS := Lib.hid (HS.out.up h9); clear h9))
            go_ret
            exact ⟨by first | rfl | simp, HS.out.below⟩
        | false =>
          cases e5 : o.kind == 5 with
          | true =>
            cases hc : o.calls with
            | false =>
              rw [hc] at o5
              go_enter Tryz.func77, Tryz.ntmps77
              go_wp2_with (first
                | (go_at_call 116; (with_reducible refine cK.mono ?_); rintro e w1 ⟨rfl, rfl⟩)
                | (go_at_call 117; (with_reducible refine cB.mono ?_); rintro e w1 ⟨rfl, rfl⟩)
                | (go_at_call 119; (with_reducible refine cA.mono ?_); rintro e w1 ⟨rfl, rfl⟩)
                | ((with_reducible refine va_load ?_ rfl rfl o6 ?_); (rfl))
                | ((with_reducible refine vz_eq (v := o.handler) ?_ rfl rfl rfl ?_); (rfl); rw [hz])
                | (go_at_call 118; (with_reducible refine (cM _ HS.out.below).mono ?_); rintro e w1 ⟨rfl, h9⟩; have HS := Lib.hid (HS.out.up h9); clear h9)
                | (go_at_call 120; (with_reducible refine (cX _ HS.out.below).mono ?_); rintro e w1 ⟨rfl, h9⟩; have HS := Lib.hid (HS.out.up h9); clear h9)
                | (go_at_call 121; (with_reducible refine (cR _ HS.out.below).mono ?_); rintro e w1 ⟨rfl, h9⟩; have HS := Lib.hid (HS.out.up h9); clear h9)
                | (go_at_call 122; (with_reducible refine (cL _ HS.out.below).mono ?_); rintro e w1 ⟨rfl, h9⟩; have HS := Lib.hid (HS.out.up h9); clear h9))
              go_ret
              exact ⟨by first | rfl | simp, HS.out.below⟩
            | true =>
              rw [hc] at o5
              cases hz : o.handler.z with
              | false =>
                go_enter Tryz.func77, Tryz.ntmps77
                go_wp2_with (first
                  | (go_at_call 116; (with_reducible refine cK.mono ?_); rintro e w1 ⟨rfl, rfl⟩)
                  | (go_at_call 117; (with_reducible refine cB.mono ?_); rintro e w1 ⟨rfl, rfl⟩)
                  | (go_at_call 119; (with_reducible refine cA.mono ?_); rintro e w1 ⟨rfl, rfl⟩)
                  | ((with_reducible refine va_load ?_ rfl rfl o6 ?_); (rfl))
                  | ((with_reducible refine vz_eq (v := o.handler) ?_ rfl rfl rfl ?_); (rfl); rw [hz])
                  | (go_at_call 118; (with_reducible refine (cM _ HS.out.below).mono ?_); rintro e w1 ⟨rfl, h9⟩; have HS := Lib.hid (HS.out.up h9); clear h9)
                  | (go_at_call 120; (with_reducible refine (cX _ HS.out.below).mono ?_); rintro e w1 ⟨rfl, h9⟩; have HS := Lib.hid (HS.out.up h9); clear h9)
                  | (go_at_call 121; (with_reducible refine (cR _ HS.out.below).mono ?_); rintro e w1 ⟨rfl, h9⟩; have HS := Lib.hid (HS.out.up h9); clear h9)
                  | (go_at_call 122; (with_reducible refine (cL _ HS.out.below).mono ?_); rintro e w1 ⟨rfl, h9⟩; have HS := Lib.hid (HS.out.up h9); clear h9))
                go_ret
                exact ⟨by first | rfl | simp, HS.out.below⟩
              | true =>
                cases ht : o.text.toList.isEmpty with
                | false =>
                  have ht2 : (o.text.toList == []) = _ := (by cases o.text.toList <;> rfl : (o.text.toList == []) = o.text.toList.isEmpty).trans ht
                  go_enter Tryz.func77, Tryz.ntmps77
                  go_wp2_with (first
                    | (go_at_call 116; (with_reducible refine cK.mono ?_); rintro e w1 ⟨rfl, rfl⟩)
                    | (go_at_call 117; (with_reducible refine cB.mono ?_); rintro e w1 ⟨rfl, rfl⟩)
                    | (go_at_call 119; (with_reducible refine cA.mono ?_); rintro e w1 ⟨rfl, rfl⟩)
                    | ((with_reducible refine va_load ?_ rfl rfl o6 ?_); (rfl))
                    | ((with_reducible refine vz_eq (v := o.handler) ?_ rfl rfl rfl ?_); (rfl); rw [hz])
                    | (go_at_call 118; (with_reducible refine (cM _ HS.out.below).mono ?_); rintro e w1 ⟨rfl, h9⟩; have HS := Lib.hid (HS.out.up h9); clear h9)
                    | (go_at_call 120; (with_reducible refine (cX _ HS.out.below).mono ?_); rintro e w1 ⟨rfl, h9⟩; have HS := Lib.hid (HS.out.up h9); clear h9)
                    | (go_at_call 121; (with_reducible refine (cR _ HS.out.below).mono ?_); rintro e w1 ⟨rfl, h9⟩; have HS := Lib.hid (HS.out.up h9); clear h9)
                    | (go_at_call 122; (with_reducible refine (cL _ HS.out.below).mono ?_); rintro e w1 ⟨rfl, h9⟩; have HS := Lib.hid (HS.out.up h9); clear h9))
                  go_ret
                  exact ⟨by first | rfl | simp, HS.out.below⟩
                | true =>
                  have ht2 : (o.text.toList == []) = _ := (by cases o.text.toList <;> rfl : (o.text.toList == []) = o.text.toList.isEmpty).trans ht
                  go_enter Tryz.func77, Tryz.ntmps77
                  go_wp2_with (first
                    | (go_at_call 116; (with_reducible refine cK.mono ?_); rintro e w1 ⟨rfl, rfl⟩)
                    | (go_at_call 117; (with_reducible refine cB.mono ?_); rintro e w1 ⟨rfl, rfl⟩)
                    | (go_at_call 119; (with_reducible refine cA.mono ?_); rintro e w1 ⟨rfl, rfl⟩)
                    | ((with_reducible refine va_load ?_ rfl rfl o6 ?_); (rfl))
                    | ((with_reducible refine vz_eq (v := o.handler) ?_ rfl rfl rfl ?_); (rfl); rw [hz])
                    | (go_at_call 118; (with_reducible refine (cM _ HS.out.below).mono ?_); rintro e w1 ⟨rfl, h9⟩; have HS := Lib.hid (HS.out.up h9); clear h9)
                    | (go_at_call 120; (with_reducible refine (cX _ HS.out.below).mono ?_); rintro e w1 ⟨rfl, h9⟩; have HS := Lib.hid (HS.out.up h9); clear h9)
                    | (go_at_call 121; (with_reducible refine (cR _ HS.out.below).mono ?_); rintro e w1 ⟨rfl, h9⟩; have HS := Lib.hid (HS.out.up h9); clear h9)
                    | (go_at_call 122; (with_reducible refine (cL _ HS.out.below).mono ?_); rintro e w1 ⟨rfl, h9⟩; have HS := Lib.hid (HS.out.up h9); clear h9))
                  go_ret
                  exact ⟨by first | rfl | simp, HS.out.below⟩
          | false =>
            cases e6 : o.kind == 6 with
            | true =>
              cases he : o.ext with
              | true =>
                rw [he] at o1
                go_enter Tryz.func77, Tryz.ntmps77
                go_wp2_with (first
                  | (go_at_call 116; (with_reducible refine cK.mono ?_); rintro e w1 ⟨rfl, rfl⟩)
                  | (go_at_call 117; (with_reducible refine cB.mono ?_); rintro e w1 ⟨rfl, rfl⟩)
                  | (go_at_call 119; (with_reducible refine cA.mono ?_); rintro e w1 ⟨rfl, rfl⟩)
                  | ((with_reducible refine va_load ?_ rfl rfl o6 ?_); (rfl))
                  | ((with_reducible refine vz_eq (v := o.handler) ?_ rfl rfl rfl ?_); (rfl); rw [hz])
                  | (go_at_call 118; (with_reducible refine (cM _ HS.out.below).mono ?_); rintro e w1 ⟨rfl, h9⟩; have HS := Lib.hid (HS.out.up h9); clear h9)
                  | (go_at_call 120; (with_reducible refine (cX _ HS.out.below).mono ?_); rintro e w1 ⟨rfl, h9⟩; have HS := Lib.hid (HS.out.up h9); clear h9)
                  | (go_at_call 121; (with_reducible refine (cR _ HS.out.below).mono ?_); rintro e w1 ⟨rfl, h9⟩; have HS := Lib.hid (HS.out.up h9); clear h9)
                  | (go_at_call 122; (with_reducible refine (cL _ HS.out.below).mono ?_); rintro e w1 ⟨rfl, h9⟩; have HS := Lib.hid (HS.out.up h9); clear h9))
                go_ret
                exact ⟨by first | rfl | simp, HS.out.below⟩
              | false =>
                rw [he] at o1
                cases hp : o.props.isEmpty with
                | false =>
                  have hp2 : ((o.props.length : Int) == 0) = _ := (len_empty o.props).trans hp
                  go_enter Tryz.func77, Tryz.ntmps77
                  go_wp2_with (first
                    | (go_at_call 116; (with_reducible refine cK.mono ?_); rintro e w1 ⟨rfl, rfl⟩)
                    | (go_at_call 117; (with_reducible refine cB.mono ?_); rintro e w1 ⟨rfl, rfl⟩)
                    | (go_at_call 119; (with_reducible refine cA.mono ?_); rintro e w1 ⟨rfl, rfl⟩)
                    | ((with_reducible refine va_load ?_ rfl rfl o6 ?_); (rfl))
                    | ((with_reducible refine vz_eq (v := o.handler) ?_ rfl rfl rfl ?_); (rfl); rw [hz])
                    | (go_at_call 118; (with_reducible refine (cM _ HS.out.below).mono ?_); rintro e w1 ⟨rfl, h9⟩; have HS := Lib.hid (HS.out.up h9); clear h9)
                    | (go_at_call 120; (with_reducible refine (cX _ HS.out.below).mono ?_); rintro e w1 ⟨rfl, h9⟩; have HS := Lib.hid (HS.out.up h9); clear h9)
                    | (go_at_call 121; (with_reducible refine (cR _ HS.out.below).mono ?_); rintro e w1 ⟨rfl, h9⟩; have HS := Lib.hid (HS.out.up h9); clear h9)
                    | (go_at_call 122; (with_reducible refine (cL _ HS.out.below).mono ?_); rintro e w1 ⟨rfl, h9⟩; have HS := Lib.hid (HS.out.up h9); clear h9))
                  go_ret
                  exact ⟨by first | rfl | simp, HS.out.below⟩
                | true =>
                  have hp2 : ((o.props.length : Int) == 0) = _ := (len_empty o.props).trans hp
                  cases hk : o.proto.k == 1 with
                  | false =>
                    go_enter Tryz.func77, Tryz.ntmps77
                    go_wp2_with (first
                      | (go_at_call 116; (with_reducible refine cK.mono ?_); rintro e w1 ⟨rfl, rfl⟩)
                      | (go_at_call 117; (with_reducible refine cB.mono ?_); rintro e w1 ⟨rfl, rfl⟩)
                      | (go_at_call 119; (with_reducible refine cA.mono ?_); rintro e w1 ⟨rfl, rfl⟩)
                      | ((with_reducible refine va_load ?_ rfl rfl o6 ?_); (rfl))
                      | ((with_reducible refine vz_eq (v := o.handler) ?_ rfl rfl rfl ?_); (rfl); rw [hz])
                      | (go_at_call 118; (with_reducible refine (cM _ HS.out.below).mono ?_); rintro e w1 ⟨rfl, h9⟩; have HS := Lib.hid (HS.out.up h9); clear h9)
                      | (go_at_call 120; (with_reducible refine (cX _ HS.out.below).mono ?_); rintro e w1 ⟨rfl, h9⟩; have HS := Lib.hid (HS.out.up h9); clear h9)
                      | (go_at_call 121; (with_reducible refine (cR _ HS.out.below).mono ?_); rintro e w1 ⟨rfl, h9⟩; have HS := Lib.hid (HS.out.up h9); clear h9)
                      | (go_at_call 122; (with_reducible refine (cL _ HS.out.below).mono ?_); rintro e w1 ⟨rfl, h9⟩; have HS := Lib.hid (HS.out.up h9); clear h9))
                    go_ret
                    exact ⟨by first | rfl | simp, HS.out.below⟩
                  | true =>
                    cases ht : o.text.toList.isEmpty with
                    | false =>
                      have ht2 : (o.text.toList == []) = _ := (by cases o.text.toList <;> rfl : (o.text.toList == []) = o.text.toList.isEmpty).trans ht
                      go_enter Tryz.func77, Tryz.ntmps77
                      go_wp2_with (first
                        | (go_at_call 116; (with_reducible refine cK.mono ?_); rintro e w1 ⟨rfl, rfl⟩)
                        | (go_at_call 117; (with_reducible refine cB.mono ?_); rintro e w1 ⟨rfl, rfl⟩)
                        | (go_at_call 119; (with_reducible refine cA.mono ?_); rintro e w1 ⟨rfl, rfl⟩)
                        | ((with_reducible refine va_load ?_ rfl rfl o6 ?_); (rfl))
                        | ((with_reducible refine vz_eq (v := o.handler) ?_ rfl rfl rfl ?_); (rfl); rw [hz])
                        | (go_at_call 118; (with_reducible refine (cM _ HS.out.below).mono ?_); rintro e w1 ⟨rfl, h9⟩; have HS := Lib.hid (HS.out.up h9); clear h9)
                        | (go_at_call 120; (with_reducible refine (cX _ HS.out.below).mono ?_); rintro e w1 ⟨rfl, h9⟩; have HS := Lib.hid (HS.out.up h9); clear h9)
                        | (go_at_call 121; (with_reducible refine (cR _ HS.out.below).mono ?_); rintro e w1 ⟨rfl, h9⟩; have HS := Lib.hid (HS.out.up h9); clear h9)
                        | (go_at_call 122; (with_reducible refine (cL _ HS.out.below).mono ?_); rintro e w1 ⟨rfl, h9⟩; have HS := Lib.hid (HS.out.up h9); clear h9))
                      go_ret
                      exact ⟨by first | rfl | simp, HS.out.below⟩
                    | true =>
                      have ht2 : (o.text.toList == []) = _ := (by cases o.text.toList <;> rfl : (o.text.toList == []) = o.text.toList.isEmpty).trans ht
                      go_enter Tryz.func77, Tryz.ntmps77
                      go_wp2_with (first
                        | (go_at_call 116; (with_reducible refine cK.mono ?_); rintro e w1 ⟨rfl, rfl⟩)
                        | (go_at_call 117; (with_reducible refine cB.mono ?_); rintro e w1 ⟨rfl, rfl⟩)
                        | (go_at_call 119; (with_reducible refine cA.mono ?_); rintro e w1 ⟨rfl, rfl⟩)
                        | ((with_reducible refine va_load ?_ rfl rfl o6 ?_); (rfl))
                        | ((with_reducible refine vz_eq (v := o.handler) ?_ rfl rfl rfl ?_); (rfl); rw [hz])
                        | (go_at_call 118; (with_reducible refine (cM _ HS.out.below).mono ?_); rintro e w1 ⟨rfl, h9⟩; have HS := Lib.hid (HS.out.up h9); clear h9)
                        | (go_at_call 120; (with_reducible refine (cX _ HS.out.below).mono ?_); rintro e w1 ⟨rfl, h9⟩; have HS := Lib.hid (HS.out.up h9); clear h9)
                        | (go_at_call 121; (with_reducible refine (cR _ HS.out.below).mono ?_); rintro e w1 ⟨rfl, h9⟩; have HS := Lib.hid (HS.out.up h9); clear h9)
                        | (go_at_call 122; (with_reducible refine (cL _ HS.out.below).mono ?_); rintro e w1 ⟨rfl, h9⟩; have HS := Lib.hid (HS.out.up h9); clear h9))
                      go_ret
                      exact ⟨by first | rfl | simp, HS.out.below⟩
            | false =>
              go_enter Tryz.func77, Tryz.ntmps77
              go_wp2_with (first
                | (go_at_call 116; (with_reducible refine cK.mono ?_); rintro e w1 ⟨rfl, rfl⟩)
                | (go_at_call 117; (with_reducible refine cB.mono ?_); rintro e w1 ⟨rfl, rfl⟩)
                | (go_at_call 119; (with_reducible refine cA.mono ?_); rintro e w1 ⟨rfl, rfl⟩)
                | ((with_reducible refine va_load ?_ rfl rfl o6 ?_); (rfl))
                | ((with_reducible refine vz_eq (v := o.handler) ?_ rfl rfl rfl ?_); (rfl); rw [hz])
                | (go_at_call 118; (with_reducible refine (cM _ HS.out.below).mono ?_); rintro e w1 ⟨rfl, h9⟩; have HS := Lib.hid (HS.out.up h9); clear h9)
                | (go_at_call 120; (with_reducible refine (cX _ HS.out.below).mono ?_); rintro e w1 ⟨rfl, h9⟩; have HS := Lib.hid (HS.out.up h9); clear h9)
                | (go_at_call 121; (with_reducible refine (cR _ HS.out.below).mono ?_); rintro e w1 ⟨rfl, h9⟩; have HS := Lib.hid (HS.out.up h9); clear h9)
                | (go_at_call 122; (with_reducible refine (cL _ HS.out.below).mono ?_); rintro e w1 ⟨rfl, h9⟩; have HS := Lib.hid (HS.out.up h9); clear h9))
              go_ret
              exact ⟨by first | rfl | simp, HS.out.below⟩
end Go.Proofs.YthnkllhfmjbbmaaGreatDoor.S
