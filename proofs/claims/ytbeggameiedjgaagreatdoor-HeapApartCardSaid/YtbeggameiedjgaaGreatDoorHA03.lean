/-
  heap.fits: whether an object has what its kind has. Generated: gen_heapfits.py.
-/
import Derived.Test.YtbeggameiedjgaaGreatDoorHA02
import Derived.Test.YtbeggameiedjgaaGreatDoorHA01
import Derived.Deep.LoopGhost
import Derived.Test.YtbeggameiedjgaaGreatDoorTN33
namespace Go.Proofs.YtbeggameiedjgaaGreatDoor.S
open Go.RowKit Go.Lib Fl
open Classical

theorem holds_ref {H : List Ob} {v : Vq} (h : holdsB H v = true) (ho : objQ v = true) : 0 ≤ v.r := by
  unfold holdsB at h
  rw [Bool.and_eq_true] at h
  exact ok_ref (may_ok h.1) ho
theorem len_empty (L : List Pq) : ((L.length : Int) == 0) = L.isEmpty := by
  cases L with
  | nil => rfl
  | cons x r => simp; omega
theorem target_in (o : Ob) : o.target ∈ valsO o := by unfold valsO; simp
set_option maxHeartbeats 8000000 in
set_option maxRecDepth 1000000 in
theorem fits_h (A : Option Addr) (H : List Ob) (cap n : Nat) (w : World) (hH : HIn w A H cap) (hn : n < H.length) (ok : TabOk H[n].props) (hv : ∀ v ∈ valsO H[n], holdsB H v = true) (htab : TabHere w) : Calls Tryz.prog 69 #[.agg #[.slice A H.length cap], .int .i64 (n : Int)] w fun e w' => e = .returned (.bool (fitsB H H[n] n)) ∧ Below w.heap.size w w' := by
  obtain ⟨a, rfl, hab, hof, hP⟩ := hH.at hn
  have hin := hH.inn H[n] (List.getElem_mem hn)
  have hfew := hH.pfew H[n] (List.getElem_mem hn)
  have HS := Lib.hid (hb_start w (some a) H.length cap)
  have hnz : (n : Int) < (H.length : Int) := by omega
  have hn0 : (0 : Int) ≤ (n : Int) := by omega
  have q4 := HS.out.h
  have cR := fun W (hb : Below w.heap.size w W) => revokes_h (some a) H cap n W (hH.up hb) hn (fun ho => holds_ref (hv _ (target_in _)) ho)
  have cL := fun W (hb : Below w.heap.size w W) => leads_h (some a) H cap n W (hH.up hb) hn
  generalize H[n] = o at *
  have cM := fun W (hb : Below w.heap.size w W) => measured_h o.pa o.props o.pc W ok hin.props (pr_up hP hb) (tab_up htab hb)
  have cX := fun W (hb : Below w.heap.size w W) => boxes_h (a.add (n * 18)) o W (hof.up hb) hin hfew (pr_up hP hb) (tab_up htab hb)
  have ho1 := hof.up (vzero w (.cells #[.slice (some a) H.length cap] 49))
  have hoff := ho1.lt
  have cK := kind_h _ _ _ ho1
  have cB := bare_h _ _ _ ho1
  have cA := alone_h _ _ _ ho1
  have o0 := ho1.kind
  have o1 := ho1.ext
  have o2 := ho1.props
  have o3 := ho1.proto.k
  have o4 := ho1.text
  have o5 := ho1.calls
  have o6 := ho1.handler
  have z3 : (⟨#[]⟩ : ByteArray).toList = [] := by rw [toList_data]
  clear hH hof hP hv htab hin hfew ok
  unfold fitsB
  cases e1 : o.kind == 1 with
  | true =>
    cases h6 : kindO o == 6 with
    | false =>
      go_enter Tryz.func69, Tryz.ntmps69
      go_wp2_with (first
        | (go_at_call 90; (with_reducible refine cK.mono ?_); rintro e w1 ⟨rfl, rfl⟩)
        | (go_at_call 91; (with_reducible refine cB.mono ?_); rintro e w1 ⟨rfl, rfl⟩)
        | (go_at_call 93; (with_reducible refine cA.mono ?_); rintro e w1 ⟨rfl, rfl⟩)
        | ((with_reducible refine va_load ?_ rfl rfl o6 ?_); (rfl))
        | ((with_reducible refine vz_eq (v := o.handler) ?_ rfl rfl rfl ?_); (rfl); rw [hz])
        | (go_at_call 92; (with_reducible refine (cM _ HS.out.below).mono ?_); rintro e w1 ⟨rfl, h9⟩; have HS := Lib.hid (HS.out.up h9); clear h9)
        | (go_at_call 94; (with_reducible refine (cX _ HS.out.below).mono ?_); rintro e w1 ⟨rfl, h9⟩; have HS := Lib.hid (HS.out.up h9); clear h9)
        | (go_at_call 95; (with_reducible refine (cR _ HS.out.below).mono ?_); rintro e w1 ⟨rfl, h9⟩; have HS := Lib.hid (HS.out.up h9); clear h9)
        | (go_at_call 96; (with_reducible refine (cL _ HS.out.below).mono ?_); rintro e w1 ⟨rfl, h9⟩; have HS := Lib.hid (HS.out.up h9); clear h9))
      go_ret
      exact ⟨by first | rfl | simp, HS.out.below⟩
    | true =>
      go_enter Tryz.func69, Tryz.ntmps69
      go_wp2_with (first
        | (go_at_call 90; (with_reducible refine cK.mono ?_); rintro e w1 ⟨rfl, rfl⟩)
        | (go_at_call 91; (with_reducible refine cB.mono ?_); rintro e w1 ⟨rfl, rfl⟩)
        | (go_at_call 93; (with_reducible refine cA.mono ?_); rintro e w1 ⟨rfl, rfl⟩)
        | ((with_reducible refine va_load ?_ rfl rfl o6 ?_); (rfl))
        | ((with_reducible refine vz_eq (v := o.handler) ?_ rfl rfl rfl ?_); (rfl); rw [hz])
        | (go_at_call 92; (with_reducible refine (cM _ HS.out.below).mono ?_); rintro e w1 ⟨rfl, h9⟩; have HS := Lib.hid (HS.out.up h9); clear h9)
        | (go_at_call 94; (with_reducible refine (cX _ HS.out.below).mono ?_); rintro e w1 ⟨rfl, h9⟩; have HS := Lib.hid (HS.out.up h9); clear h9)
        | (go_at_call 95; (with_reducible refine (cR _ HS.out.below).mono ?_); rintro e w1 ⟨rfl, h9⟩; have HS := Lib.hid (HS.out.up h9); clear h9)
        | (go_at_call 96; (with_reducible refine (cL _ HS.out.below).mono ?_); rintro e w1 ⟨rfl, h9⟩; have HS := Lib.hid (HS.out.up h9); clear h9))
      go_ret
      exact ⟨by first | rfl | simp, HS.out.below⟩
  | false =>
    cases e2 : o.kind == 2 with
    | true =>
      cases h6 : kindO o == 6 with
      | false =>
        go_enter Tryz.func69, Tryz.ntmps69
        go_wp2_with (first
          | (go_at_call 90; (with_reducible refine cK.mono ?_); rintro e w1 ⟨rfl, rfl⟩)
          | (go_at_call 91; (with_reducible refine cB.mono ?_); rintro e w1 ⟨rfl, rfl⟩)
          | (go_at_call 93; (with_reducible refine cA.mono ?_); rintro e w1 ⟨rfl, rfl⟩)
          | ((with_reducible refine va_load ?_ rfl rfl o6 ?_); (rfl))
          | ((with_reducible refine vz_eq (v := o.handler) ?_ rfl rfl rfl ?_); (rfl); rw [hz])
          | (go_at_call 92; (with_reducible refine (cM _ HS.out.below).mono ?_); rintro e w1 ⟨rfl, h9⟩; have HS := Lib.hid (HS.out.up h9); clear h9)
          | (go_at_call 94; (with_reducible refine (cX _ HS.out.below).mono ?_); rintro e w1 ⟨rfl, h9⟩; have HS := Lib.hid (HS.out.up h9); clear h9)
          | (go_at_call 95; (with_reducible refine (cR _ HS.out.below).mono ?_); rintro e w1 ⟨rfl, h9⟩; have HS := Lib.hid (HS.out.up h9); clear h9)
          | (go_at_call 96; (with_reducible refine (cL _ HS.out.below).mono ?_); rintro e w1 ⟨rfl, h9⟩; have HS := Lib.hid (HS.out.up h9); clear h9))
        go_ret
        exact ⟨by first | rfl | simp, HS.out.below⟩
      | true =>
        cases hb : bareB o with
        | false =>
          rw [hb] at cB
          go_enter Tryz.func69, Tryz.ntmps69
          go_wp2_with (first
            | (go_at_call 90; (with_reducible refine cK.mono ?_); rintro e w1 ⟨rfl, rfl⟩)
            | (go_at_call 91; (with_reducible refine cB.mono ?_); rintro e w1 ⟨rfl, rfl⟩)
            | (go_at_call 93; (with_reducible refine cA.mono ?_); rintro e w1 ⟨rfl, rfl⟩)
            | ((with_reducible refine va_load ?_ rfl rfl o6 ?_); (rfl))
            | ((with_reducible refine vz_eq (v := o.handler) ?_ rfl rfl rfl ?_); (rfl); rw [hz])
            | (go_at_call 92; (with_reducible refine (cM _ HS.out.below).mono ?_); rintro e w1 ⟨rfl, h9⟩; have HS := Lib.hid (HS.out.up h9); clear h9)
            | (go_at_call 94; (with_reducible refine (cX _ HS.out.below).mono ?_); rintro e w1 ⟨rfl, h9⟩; have HS := Lib.hid (HS.out.up h9); clear h9)
            | (go_at_call 95; (with_reducible refine (cR _ HS.out.below).mono ?_); rintro e w1 ⟨rfl, h9⟩; have HS := Lib.hid (HS.out.up h9); clear h9)
            | (go_at_call 96; (with_reducible refine (cL _ HS.out.below).mono ?_); rintro e w1 ⟨rfl, h9⟩; have HS := Lib.hid (HS.out.up h9); clear h9))
          go_ret
          exact ⟨by first | rfl | simp, HS.out.below⟩
        | true =>
          rw [hb] at cB
          go_enter Tryz.func69, Tryz.ntmps69
          go_wp2_with (first
            | (go_at_call 90; (with_reducible refine cK.mono ?_); rintro e w1 ⟨rfl, rfl⟩)
            | (go_at_call 91; (with_reducible refine cB.mono ?_); rintro e w1 ⟨rfl, rfl⟩)
            | (go_at_call 93; (with_reducible refine cA.mono ?_); rintro e w1 ⟨rfl, rfl⟩)
            | ((with_reducible refine va_load ?_ rfl rfl o6 ?_); (rfl))
            | ((with_reducible refine vz_eq (v := o.handler) ?_ rfl rfl rfl ?_); (rfl); rw [hz])
            | (go_at_call 92; (with_reducible refine (cM _ HS.out.below).mono ?_); rintro e w1 ⟨rfl, h9⟩; have HS := Lib.hid (HS.out.up h9); clear h9)
            | (go_at_call 94; (with_reducible refine (cX _ HS.out.below).mono ?_); rintro e w1 ⟨rfl, h9⟩; have HS := Lib.hid (HS.out.up h9); clear h9)
            | (go_at_call 95; (with_reducible refine (cR _ HS.out.below).mono ?_); rintro e w1 ⟨rfl, h9⟩; have HS := Lib.hid (HS.out.up h9); clear h9)
            | (go_at_call 96; (with_reducible refine (cL _ HS.out.below).mono ?_); rintro e w1 ⟨rfl, h9⟩; have HS := Lib.hid (HS.out.up h9); clear h9))
          go_ret
          exact ⟨by first | rfl | simp, HS.out.below⟩
    | false =>
      cases e3 : o.kind == 3 with
      | true =>
        cases h6 : kindO o == 6 with
        | false =>
          go_enter Tryz.func69, Tryz.ntmps69
          go_wp2_with (first
            | (go_at_call 90; (with_reducible refine cK.mono ?_); rintro e w1 ⟨rfl, rfl⟩)
            | (go_at_call 91; (with_reducible refine cB.mono ?_); rintro e w1 ⟨rfl, rfl⟩)
            | (go_at_call 93; (with_reducible refine cA.mono ?_); rintro e w1 ⟨rfl, rfl⟩)
            | ((with_reducible refine va_load ?_ rfl rfl o6 ?_); (rfl))
            | ((with_reducible refine vz_eq (v := o.handler) ?_ rfl rfl rfl ?_); (rfl); rw [hz])
            | (go_at_call 92; (with_reducible refine (cM _ HS.out.below).mono ?_); rintro e w1 ⟨rfl, h9⟩; have HS := Lib.hid (HS.out.up h9); clear h9)
            | (go_at_call 94; (with_reducible refine (cX _ HS.out.below).mono ?_); rintro e w1 ⟨rfl, h9⟩; have HS := Lib.hid (HS.out.up h9); clear h9)
            | (go_at_call 95; (with_reducible refine (cR _ HS.out.below).mono ?_); rintro e w1 ⟨rfl, h9⟩; have HS := Lib.hid (HS.out.up h9); clear h9)
            | (go_at_call 96; (with_reducible refine (cL _ HS.out.below).mono ?_); rintro e w1 ⟨rfl, h9⟩; have HS := Lib.hid (HS.out.up h9); clear h9))
          go_ret
          exact ⟨by first | rfl | simp, HS.out.below⟩
        | true =>
          cases ha : aloneB o with
          | false =>
            rw [ha] at cA
            go_enter Tryz.func69, Tryz.ntmps69
            go_wp2_with (first
              | (go_at_call 90; (with_reducible refine cK.mono ?_); rintro e w1 ⟨rfl, rfl⟩)
              | (go_at_call 91; (with_reducible refine cB.mono ?_); rintro e w1 ⟨rfl, rfl⟩)
              | (go_at_call 93; (with_reducible refine cA.mono ?_); rintro e w1 ⟨rfl, rfl⟩)
              | ((with_reducible refine va_load ?_ rfl rfl o6 ?_); (rfl))
              | ((with_reducible refine vz_eq (v := o.handler) ?_ rfl rfl rfl ?_); (rfl); rw [hz])
              | (go_at_call 92; (with_reducible refine (cM _ HS.out.below).mono ?_); rintro e w1 ⟨rfl, h9⟩; have HS := Lib.hid (HS.out.up h9); clear h9)
              | (go_at_call 94; (with_reducible refine (cX _ HS.out.below).mono ?_); rintro e w1 ⟨rfl, h9⟩; have HS := Lib.hid (HS.out.up h9); clear h9)
              | (go_at_call 95; (with_reducible refine (cR _ HS.out.below).mono ?_); rintro e w1 ⟨rfl, h9⟩; have HS := Lib.hid (HS.out.up h9); clear h9)
              | (go_at_call 96; (with_reducible refine (cL _ HS.out.below).mono ?_); rintro e w1 ⟨rfl, h9⟩; have HS := Lib.hid (HS.out.up h9); clear h9))
            go_ret
            exact ⟨by first | rfl | simp, HS.out.below⟩
          | true =>
            rw [ha] at cA
            go_enter Tryz.func69, Tryz.ntmps69
            go_wp2_with (first
              | (go_at_call 90; (with_reducible refine cK.mono ?_); rintro e w1 ⟨rfl, rfl⟩)
              | (go_at_call 91; (with_reducible refine cB.mono ?_); rintro e w1 ⟨rfl, rfl⟩)
              | (go_at_call 93; (with_reducible refine cA.mono ?_); rintro e w1 ⟨rfl, rfl⟩)
              | ((with_reducible refine va_load ?_ rfl rfl o6 ?_); (rfl))
              | ((with_reducible refine vz_eq (v := o.handler) ?_ rfl rfl rfl ?_); (rfl); rw [hz])
              | (go_at_call 92; (with_reducible refine (cM _ HS.out.below).mono ?_); rintro e w1 ⟨rfl, h9⟩; have HS := Lib.hid (HS.out.up h9); clear h9)
              | (go_at_call 94; (with_reducible refine (cX _ HS.out.below).mono ?_); rintro e w1 ⟨rfl, h9⟩; have HS := Lib.hid (HS.out.up h9); clear h9)
              | (go_at_call 95; (with_reducible refine (cR _ HS.out.below).mono ?_); rintro e w1 ⟨rfl, h9⟩; have HS := Lib.hid (HS.out.up h9); clear h9)
              | (go_at_call 96; (with_reducible refine (cL _ HS.out.below).mono ?_); rintro e w1 ⟨rfl, h9⟩; have HS := Lib.hid (HS.out.up h9); clear h9))
            go_ret
            exact ⟨by first | rfl | simp, HS.out.below⟩
      | false =>
        cases e4 : o.kind == 4 with
        | true =>
          cases h6 : kindO o == 8 with
          | false =>
            go_enter Tryz.func69, Tryz.ntmps69
            go_wp2_with (first
              | (go_at_call 90; (with_reducible refine cK.mono ?_); rintro e w1 ⟨rfl, rfl⟩)
              | (go_at_call 91; (with_reducible refine cB.mono ?_); rintro e w1 ⟨rfl, rfl⟩)
              | (go_at_call 93; (with_reducible refine cA.mono ?_); rintro e w1 ⟨rfl, rfl⟩)
              | ((with_reducible refine va_load ?_ rfl rfl o6 ?_); (rfl))
              | ((with_reducible refine vz_eq (v := o.handler) ?_ rfl rfl rfl ?_); (rfl); rw [hz])
              | (go_at_call 92; (with_reducible refine (cM _ HS.out.below).mono ?_); rintro e w1 ⟨rfl, h9⟩; have HS := Lib.hid (HS.out.up h9); clear h9)
              | (go_at_call 94; (with_reducible refine (cX _ HS.out.below).mono ?_); rintro e w1 ⟨rfl, h9⟩; have HS := Lib.hid (HS.out.up h9); clear h9)
              | (go_at_call 95; (with_reducible refine (cR _ HS.out.below).mono ?_); rintro e w1 ⟨rfl, h9⟩; have HS := Lib.hid (HS.out.up h9); clear h9)
              | (go_at_call 96; (with_reducible refine (cL _ HS.out.below).mono ?_); rintro e w1 ⟨rfl, h9⟩; have HS := Lib.hid (HS.out.up h9); clear h9))
            go_ret
            exact ⟨by first | rfl | simp, HS.out.below⟩
          | true =>
            go_enter Tryz.func69, Tryz.ntmps69
            go_wp2_with (first
              | (go_at_call 90; (with_reducible refine cK.mono ?_); rintro e w1 ⟨rfl, rfl⟩)
              | (go_at_call 91; (with_reducible refine cB.mono ?_); rintro e w1 ⟨rfl, rfl⟩)
              | (go_at_call 93; (with_reducible refine cA.mono ?_); rintro e w1 ⟨rfl, rfl⟩)
              | ((with_reducible refine va_load ?_ rfl rfl o6 ?_); (rfl))
              | ((with_reducible refine vz_eq (v := o.handler) ?_ rfl rfl rfl ?_); (rfl); rw [hz])
              | (go_at_call 92; (with_reducible refine (cM _ HS.out.below).mono ?_); rintro e w1 ⟨rfl, h9⟩; have HS := Lib.hid (HS.out.up h9); clear h9)
              | (go_at_call 94; (with_reducible refine (cX _ HS.out.below).mono ?_); rintro e w1 ⟨rfl, h9⟩; have HS := Lib.hid (HS.out.up h9); clear h9)
              | (go_at_call 95; (with_reducible refine (cR _ HS.out.below).mono ?_); rintro e w1 ⟨rfl, h9⟩; have HS := Lib.hid (HS.out.up h9); clear h9)
              | (go_at_call 96; (with_reducible refine (cL _ HS.out.below).mono ?_); rintro e w1 ⟨rfl, h9⟩; have HS := Lib.hid (HS.out.up h9); clear h9))
            go_ret
            exact ⟨by first | rfl | simp, HS.out.below⟩
        | false =>
          cases e5 : o.kind == 5 with
          | true =>
            cases hc : o.calls with
            | false =>
              rw [hc] at o5
              go_enter Tryz.func69, Tryz.ntmps69
              go_wp2_with (first
                | (go_at_call 90; (with_reducible refine cK.mono ?_); rintro e w1 ⟨rfl, rfl⟩)
                | (go_at_call 91; (with_reducible refine cB.mono ?_); rintro e w1 ⟨rfl, rfl⟩)
                | (go_at_call 93; (with_reducible refine cA.mono ?_); rintro e w1 ⟨rfl, rfl⟩)
                | ((with_reducible refine va_load ?_ rfl rfl o6 ?_); (rfl))
                | ((with_reducible refine vz_eq (v := o.handler) ?_ rfl rfl rfl ?_); (rfl); rw [hz])
                | (go_at_call 92; (with_reducible refine (cM _ HS.out.below).mono ?_); rintro e w1 ⟨rfl, h9⟩; have HS := Lib.hid (HS.out.up h9); clear h9)
                | (go_at_call 94; (with_reducible refine (cX _ HS.out.below).mono ?_); rintro e w1 ⟨rfl, h9⟩; have HS := Lib.hid (HS.out.up h9); clear h9)
                | (go_at_call 95; (with_reducible refine (cR _ HS.out.below).mono ?_); rintro e w1 ⟨rfl, h9⟩; have HS := Lib.hid (HS.out.up h9); clear h9)
                | (go_at_call 96; (with_reducible refine (cL _ HS.out.below).mono ?_); rintro e w1 ⟨rfl, h9⟩; have HS := Lib.hid (HS.out.up h9); clear h9))
              go_ret
              exact ⟨by first | rfl | simp, HS.out.below⟩
            | true =>
              rw [hc] at o5
              cases hz : o.handler.z with
              | false =>
                go_enter Tryz.func69, Tryz.ntmps69
                go_wp2_with (first
                  | (go_at_call 90; (with_reducible refine cK.mono ?_); rintro e w1 ⟨rfl, rfl⟩)
                  | (go_at_call 91; (with_reducible refine cB.mono ?_); rintro e w1 ⟨rfl, rfl⟩)
                  | (go_at_call 93; (with_reducible refine cA.mono ?_); rintro e w1 ⟨rfl, rfl⟩)
                  | ((with_reducible refine va_load ?_ rfl rfl o6 ?_); (rfl))
                  | ((with_reducible refine vz_eq (v := o.handler) ?_ rfl rfl rfl ?_); (rfl); rw [hz])
                  | (go_at_call 92; (with_reducible refine (cM _ HS.out.below).mono ?_); rintro e w1 ⟨rfl, h9⟩; have HS := Lib.hid (HS.out.up h9); clear h9)
                  | (go_at_call 94; (with_reducible refine (cX _ HS.out.below).mono ?_); rintro e w1 ⟨rfl, h9⟩; have HS := Lib.hid (HS.out.up h9); clear h9)
                  | (go_at_call 95; (with_reducible refine (cR _ HS.out.below).mono ?_); rintro e w1 ⟨rfl, h9⟩; have HS := Lib.hid (HS.out.up h9); clear h9)
                  | (go_at_call 96; (with_reducible refine (cL _ HS.out.below).mono ?_); rintro e w1 ⟨rfl, h9⟩; have HS := Lib.hid (HS.out.up h9); clear h9))
                go_ret
                exact ⟨by first | rfl | simp, HS.out.below⟩
              | true =>
                cases ht : o.text.toList.isEmpty with
                | false =>
                  have ht2 : (o.text.toList == []) = _ := (by cases o.text.toList <;> rfl : (o.text.toList == []) = o.text.toList.isEmpty).trans ht
                  go_enter Tryz.func69, Tryz.ntmps69
                  go_wp2_with (first
                    | (go_at_call 90; (with_reducible refine cK.mono ?_); rintro e w1 ⟨rfl, rfl⟩)
                    | (go_at_call 91; (with_reducible refine cB.mono ?_); rintro e w1 ⟨rfl, rfl⟩)
                    | (go_at_call 93; (with_reducible refine cA.mono ?_); rintro e w1 ⟨rfl, rfl⟩)
                    | ((with_reducible refine va_load ?_ rfl rfl o6 ?_); (rfl))
                    | ((with_reducible refine vz_eq (v := o.handler) ?_ rfl rfl rfl ?_); (rfl); rw [hz])
                    | (go_at_call 92; (with_reducible refine (cM _ HS.out.below).mono ?_); rintro e w1 ⟨rfl, h9⟩; have HS := Lib.hid (HS.out.up h9); clear h9)
                    | (go_at_call 94; (with_reducible refine (cX _ HS.out.below).mono ?_); rintro e w1 ⟨rfl, h9⟩; have HS := Lib.hid (HS.out.up h9); clear h9)
                    | (go_at_call 95; (with_reducible refine (cR _ HS.out.below).mono ?_); rintro e w1 ⟨rfl, h9⟩; have HS := Lib.hid (HS.out.up h9); clear h9)
                    | (go_at_call 96; (with_reducible refine (cL _ HS.out.below).mono ?_); rintro e w1 ⟨rfl, h9⟩; have HS := Lib.hid (HS.out.up h9); clear h9))
                  go_ret
                  exact ⟨by first | rfl | simp, HS.out.below⟩
                | true =>
                  have ht2 : (o.text.toList == []) = _ := (by cases o.text.toList <;> rfl : (o.text.toList == []) = o.text.toList.isEmpty).trans ht
                  go_enter Tryz.func69, Tryz.ntmps69
                  go_wp2_with (first
                    | (go_at_call 90; (with_reducible refine cK.mono ?_); rintro e w1 ⟨rfl, rfl⟩)
                    | (go_at_call 91; (with_reducible refine cB.mono ?_); rintro e w1 ⟨rfl, rfl⟩)
                    | (go_at_call 93; (with_reducible refine cA.mono ?_); rintro e w1 ⟨rfl, rfl⟩)
                    | ((with_reducible refine va_load ?_ rfl rfl o6 ?_); (rfl))
                    | ((with_reducible refine vz_eq (v := o.handler) ?_ rfl rfl rfl ?_); (rfl); rw [hz])
                    | (go_at_call 92; (with_reducible refine (cM _ HS.out.below).mono ?_); rintro e w1 ⟨rfl, h9⟩; have HS := Lib.hid (HS.out.up h9); clear h9)
                    | (go_at_call 94; (with_reducible refine (cX _ HS.out.below).mono ?_); rintro e w1 ⟨rfl, h9⟩; have HS := Lib.hid (HS.out.up h9); clear h9)
                    | (go_at_call 95; (with_reducible refine (cR _ HS.out.below).mono ?_); rintro e w1 ⟨rfl, h9⟩; have HS := Lib.hid (HS.out.up h9); clear h9)
                    | (go_at_call 96; (with_reducible refine (cL _ HS.out.below).mono ?_); rintro e w1 ⟨rfl, h9⟩; have HS := Lib.hid (HS.out.up h9); clear h9))
                  go_ret
                  exact ⟨by first | rfl | simp, HS.out.below⟩
          | false =>
            cases e6 : o.kind == 6 with
            | true =>
              cases he : o.ext with
              | true =>
                rw [he] at o1
                go_enter Tryz.func69, Tryz.ntmps69
                go_wp2_with (first
                  | (go_at_call 90; (with_reducible refine cK.mono ?_); rintro e w1 ⟨rfl, rfl⟩)
                  | (go_at_call 91; (with_reducible refine cB.mono ?_); rintro e w1 ⟨rfl, rfl⟩)
                  | (go_at_call 93; (with_reducible refine cA.mono ?_); rintro e w1 ⟨rfl, rfl⟩)
                  | ((with_reducible refine va_load ?_ rfl rfl o6 ?_); (rfl))
                  | ((with_reducible refine vz_eq (v := o.handler) ?_ rfl rfl rfl ?_); (rfl); rw [hz])
                  | (go_at_call 92; (with_reducible refine (cM _ HS.out.below).mono ?_); rintro e w1 ⟨rfl, h9⟩; have HS := Lib.hid (HS.out.up h9); clear h9)
                  | (go_at_call 94; (with_reducible refine (cX _ HS.out.below).mono ?_); rintro e w1 ⟨rfl, h9⟩; have HS := Lib.hid (HS.out.up h9); clear h9)
                  | (go_at_call 95; (with_reducible refine (cR _ HS.out.below).mono ?_); rintro e w1 ⟨rfl, h9⟩; have HS := Lib.hid (HS.out.up h9); clear h9)
                  | (go_at_call 96; (with_reducible refine (cL _ HS.out.below).mono ?_); rintro e w1 ⟨rfl, h9⟩; have HS := Lib.hid (HS.out.up h9); clear h9))
                go_ret
                exact ⟨by first | rfl | simp, HS.out.below⟩
              | false =>
                rw [he] at o1
                cases hp : o.props.isEmpty with
                | false =>
                  have hp2 : ((o.props.length : Int) == 0) = _ := (len_empty o.props).trans hp
                  go_enter Tryz.func69, Tryz.ntmps69
                  go_wp2_with (first
                    | (go_at_call 90; (with_reducible refine cK.mono ?_); rintro e w1 ⟨rfl, rfl⟩)
                    | (go_at_call 91; (with_reducible refine cB.mono ?_); rintro e w1 ⟨rfl, rfl⟩)
                    | (go_at_call 93; (with_reducible refine cA.mono ?_); rintro e w1 ⟨rfl, rfl⟩)
                    | ((with_reducible refine va_load ?_ rfl rfl o6 ?_); (rfl))
                    | ((with_reducible refine vz_eq (v := o.handler) ?_ rfl rfl rfl ?_); (rfl); rw [hz])
                    | (go_at_call 92; (with_reducible refine (cM _ HS.out.below).mono ?_); rintro e w1 ⟨rfl, h9⟩; have HS := Lib.hid (HS.out.up h9); clear h9)
                    | (go_at_call 94; (with_reducible refine (cX _ HS.out.below).mono ?_); rintro e w1 ⟨rfl, h9⟩; have HS := Lib.hid (HS.out.up h9); clear h9)
                    | (go_at_call 95; (with_reducible refine (cR _ HS.out.below).mono ?_); rintro e w1 ⟨rfl, h9⟩; have HS := Lib.hid (HS.out.up h9); clear h9)
                    | (go_at_call 96; (with_reducible refine (cL _ HS.out.below).mono ?_); rintro e w1 ⟨rfl, h9⟩; have HS := Lib.hid (HS.out.up h9); clear h9))
                  go_ret
                  exact ⟨by first | rfl | simp, HS.out.below⟩
                | true =>
                  have hp2 : ((o.props.length : Int) == 0) = _ := (len_empty o.props).trans hp
                  cases hk : o.proto.k == 1 with
                  | false =>
                    go_enter Tryz.func69, Tryz.ntmps69
                    go_wp2_with (first
                      | (go_at_call 90; (with_reducible refine cK.mono ?_); rintro e w1 ⟨rfl, rfl⟩)
                      | (go_at_call 91; (with_reducible refine cB.mono ?_); rintro e w1 ⟨rfl, rfl⟩)
                      | (go_at_call 93; (with_reducible refine cA.mono ?_); rintro e w1 ⟨rfl, rfl⟩)
                      | ((with_reducible refine va_load ?_ rfl rfl o6 ?_); (rfl))
                      | ((with_reducible refine vz_eq (v := o.handler) ?_ rfl rfl rfl ?_); (rfl); rw [hz])
                      | (go_at_call 92; (with_reducible refine (cM _ HS.out.below).mono ?_); rintro e w1 ⟨rfl, h9⟩; have HS := Lib.hid (HS.out.up h9); clear h9)
                      | (go_at_call 94; (with_reducible refine (cX _ HS.out.below).mono ?_); rintro e w1 ⟨rfl, h9⟩; have HS := Lib.hid (HS.out.up h9); clear h9)
                      | (go_at_call 95; (with_reducible refine (cR _ HS.out.below).mono ?_); rintro e w1 ⟨rfl, h9⟩; have HS := Lib.hid (HS.out.up h9); clear h9)
                      | (go_at_call 96; (with_reducible refine (cL _ HS.out.below).mono ?_); rintro e w1 ⟨rfl, h9⟩; have HS := Lib.hid (HS.out.up h9); clear h9))
                    go_ret
                    exact ⟨by first | rfl | simp, HS.out.below⟩
                  | true =>
                    cases ht : o.text.toList.isEmpty with
                    | false =>
                      have ht2 : (o.text.toList == []) = _ := (by cases o.text.toList <;> rfl : (o.text.toList == []) = o.text.toList.isEmpty).trans ht
                      go_enter Tryz.func69, Tryz.ntmps69
                      go_wp2_with (first
                        | (go_at_call 90; (with_reducible refine cK.mono ?_); rintro e w1 ⟨rfl, rfl⟩)
                        | (go_at_call 91; (with_reducible refine cB.mono ?_); rintro e w1 ⟨rfl, rfl⟩)
                        | (go_at_call 93; (with_reducible refine cA.mono ?_); rintro e w1 ⟨rfl, rfl⟩)
                        | ((with_reducible refine va_load ?_ rfl rfl o6 ?_); (rfl))
                        | ((with_reducible refine vz_eq (v := o.handler) ?_ rfl rfl rfl ?_); (rfl); rw [hz])
                        | (go_at_call 92; (with_reducible refine (cM _ HS.out.below).mono ?_); rintro e w1 ⟨rfl, h9⟩; have HS := Lib.hid (HS.out.up h9); clear h9)
                        | (go_at_call 94; (with_reducible refine (cX _ HS.out.below).mono ?_); rintro e w1 ⟨rfl, h9⟩; have HS := Lib.hid (HS.out.up h9); clear h9)
                        | (go_at_call 95; (with_reducible refine (cR _ HS.out.below).mono ?_); rintro e w1 ⟨rfl, h9⟩; have HS := Lib.hid (HS.out.up h9); clear h9)
                        | (go_at_call 96; (with_reducible refine (cL _ HS.out.below).mono ?_); rintro e w1 ⟨rfl, h9⟩; have HS := Lib.hid (HS.out.up h9); clear h9))
                      go_ret
                      exact ⟨by first | rfl | simp, HS.out.below⟩
                    | true =>
                      have ht2 : (o.text.toList == []) = _ := (by cases o.text.toList <;> rfl : (o.text.toList == []) = o.text.toList.isEmpty).trans ht
                      go_enter Tryz.func69, Tryz.ntmps69
                      go_wp2_with (first
                        | (go_at_call 90; (with_reducible refine cK.mono ?_); rintro e w1 ⟨rfl, rfl⟩)
                        | (go_at_call 91; (with_reducible refine cB.mono ?_); rintro e w1 ⟨rfl, rfl⟩)
                        | (go_at_call 93; (with_reducible refine cA.mono ?_); rintro e w1 ⟨rfl, rfl⟩)
                        | ((with_reducible refine va_load ?_ rfl rfl o6 ?_); (rfl))
                        | ((with_reducible refine vz_eq (v := o.handler) ?_ rfl rfl rfl ?_); (rfl); rw [hz])
                        | (go_at_call 92; (with_reducible refine (cM _ HS.out.below).mono ?_); rintro e w1 ⟨rfl, h9⟩; have HS := Lib.hid (HS.out.up h9); clear h9)
                        | (go_at_call 94; (with_reducible refine (cX _ HS.out.below).mono ?_); rintro e w1 ⟨rfl, h9⟩; have HS := Lib.hid (HS.out.up h9); clear h9)
                        | (go_at_call 95; (with_reducible refine (cR _ HS.out.below).mono ?_); rintro e w1 ⟨rfl, h9⟩; have HS := Lib.hid (HS.out.up h9); clear h9)
                        | (go_at_call 96; (with_reducible refine (cL _ HS.out.below).mono ?_); rintro e w1 ⟨rfl, h9⟩; have HS := Lib.hid (HS.out.up h9); clear h9))
                      go_ret
                      exact ⟨by first | rfl | simp, HS.out.below⟩
            | false =>
              go_enter Tryz.func69, Tryz.ntmps69
              go_wp2_with (first
                | (go_at_call 90; (with_reducible refine cK.mono ?_); rintro e w1 ⟨rfl, rfl⟩)
                | (go_at_call 91; (with_reducible refine cB.mono ?_); rintro e w1 ⟨rfl, rfl⟩)
                | (go_at_call 93; (with_reducible refine cA.mono ?_); rintro e w1 ⟨rfl, rfl⟩)
                | ((with_reducible refine va_load ?_ rfl rfl o6 ?_); (rfl))
                | ((with_reducible refine vz_eq (v := o.handler) ?_ rfl rfl rfl ?_); (rfl); rw [hz])
                | (go_at_call 92; (with_reducible refine (cM _ HS.out.below).mono ?_); rintro e w1 ⟨rfl, h9⟩; have HS := Lib.hid (HS.out.up h9); clear h9)
                | (go_at_call 94; (with_reducible refine (cX _ HS.out.below).mono ?_); rintro e w1 ⟨rfl, h9⟩; have HS := Lib.hid (HS.out.up h9); clear h9)
                | (go_at_call 95; (with_reducible refine (cR _ HS.out.below).mono ?_); rintro e w1 ⟨rfl, h9⟩; have HS := Lib.hid (HS.out.up h9); clear h9)
                | (go_at_call 96; (with_reducible refine (cL _ HS.out.below).mono ?_); rintro e w1 ⟨rfl, h9⟩; have HS := Lib.hid (HS.out.up h9); clear h9))
              go_ret
              exact ⟨by first | rfl | simp, HS.out.below⟩
end Go.Proofs.YtbeggameiedjgaaGreatDoor.S
/-
  heap.may: whether an object may be, wherever its prototypes lead.
-/
namespace Go.Proofs.YtbeggameiedjgaaGreatDoor.S
open Go.RowKit Go.Lib Fl Go.Shelf
open Classical
attribute [local go_sem] Oper.semAt_some

theorem ownFrom_blk {β : Type} {B g : Nat} {o : Obj} (hg : g < B) : OwnFrom B (fun (_ : β) W => W.heap[g]? = some o) := fun _ _ _ _ h hgr hr =>
  (hgr.block g (lt_blk h) (fun e => by have := (hr g e.symm).1; omega)).trans h
theorem may_false1 {H : List Ob} {o : Ob} {n : Nat} (h : chkT o.props ≠ 0) : mayB H o n = false := by
  unfold mayB
  rw [show (chkT o.props == 0) = false from by rw [beq_eq_false_iff_ne]; exact h]; rfl
theorem may_false2 {H : List Ob} {o : Ob} {n : Nat} (h : objQ o.proto = false) (h2 : (o.proto.k == 1) = false) : mayB H o n = false := by
  unfold mayB
  rw [h, h2]; simp
theorem may_rest {H : List Ob} {o : Ob} {n : Nat} (h : chkT o.props = 0) (h2 : objQ o.proto = true ∨ (o.proto.k == 1) = true) : mayB H o n = ((valsO o).all (holdsB H) && fitsB H o n) := by
  unfold mayB
  rw [h, show (objQ o.proto || o.proto.k == 1) = true from by rcases h2 with h | h <;> rw [h] <;> simp]; rfl
theorem box_c {W : World} {B : Nat} {v : Value} {t : TypeId} (h : W.heap[B]? = some (.cells #[v] t (0, 0))) : W.cell? ⟨B, 0, none⟩ = some v ∧ W.frozen? ⟨B, 0, none⟩ = false := by
  constructor <;> simp [World.cell?, World.frozen?, h]
/-- what may holds on to -/
structure My (w : World) (A : Option Addr) (n cap : Nat) (W : World) : Prop where
  below : Below w.heap.size w W
  h : W.heap[w.heap.size]? = some (.cells #[.slice A n cap] 49 (0, 0))
  r : W.heap[w.heap.size + 1]? = some (.cells #[.bool false] 4 (0, 0))
theorem My.up {w W W' : World} {A : Option Addr} {n cap : Nat} (h : My w A n cap W) (hb : Below W.heap.size W W') : My w A n cap W' := ⟨vb h.below hb, vblkn hb h.h, vblkn hb h.r⟩
theorem my_start (w : World) (A : Option Addr) (n cap : Nat) : My w A n cap ((w.alloc (.cells #[.slice A n cap] 49)).alloc (.cells #[.bool false] 4)) := by
  obtain ⟨b1, b2⟩ := vblk2 (w := w) (Below.refl _ ((w.alloc (.cells #[.slice A n cap] 49)).alloc (.cells #[.bool false] 4)))
  exact ⟨vafter (vzero _ _), b1, b2⟩
theorem My.q {w W : World} {A : Option Addr} {n cap : Nat} (h : My w A n cap W) : W.cell? ⟨w.heap.size, 0, none⟩ = some (.slice A n cap) ∧ W.cell? ⟨w.heap.size + 1, 0, none⟩ = some (.bool false) ∧ W.frozen? ⟨w.heap.size + 1, 0, none⟩ = false := ⟨(box_c h.h).1, (box_c h.r).1, (box_c h.r).2⟩
theorem my_ret {F : Fence} {m : Nat} {Q : Ending → World → Prop} {tmps : Array Value} {W : World} {g : Nat} {b : Bool} (h2 : tmps.getD 4 undef = .pointer (some ⟨g, 0, none⟩)) (hc : W.cell? ⟨g, 0, none⟩ = some (.bool b)) (hQ : Q (.returned (.bool b)) W) :
    LeavesInM F m Tryz.prog Tryz.f47 tmps Q [] .returning W := by
  have h3 : tmps[4]?.getD undef = .pointer (some ⟨g, 0, none⟩) := by rw [← h2]; simp
  exact ⟨.bool b, by simp [results, Tryz.results47, go_sem, h3, hc], hQ⟩
theorem values_g (A : Addr) (w : World) : Calls Tryz.prog 67 #[.pointer (some A)] w fun e w' => ∃ g, e = .returned (.func (.func 88) #[] #[.pointer (some ⟨g, 0, none⟩)]) ∧ w'.heap[g]? = some (.cells #[.pointer (some A)] 118 (0, 0)) ∧ Below w.heap.size w w' ∧ g + 1 = w'.heap.size ∧ w.heap.size ≤ g :=
  (values_h A w).mono fun _ _ ⟨he, hw⟩ => ⟨w.heap.size, he, by rw [hw]; exact heap_alloc_new w _, by rw [hw]; exact vzero _ _, by rw [hw]; simp, Nat.le_refl _⟩
theorem kf_below {B : Nat} {W W' : World} (h : Below W.heap.size W W') : KeepsFrom B W W' := ⟨h.size, fun k _ _ hk _ => (h.block k (lt_blk hk)).trans hk⟩
theorem kf_trans {B : Nat} {X Y Z : World} (h : KeepsFrom B X Y) (g : KeepsFrom B Y Z) : KeepsFrom B X Z := ⟨Nat.le_trans h.size g.size, fun k o hk h0 hc => g.same k o hk (h.same k o hk h0 hc) hc⟩
theorem my_own {β : Type} {B : Nat} {w : World} {A : Option Addr} {n cap : Nat} (h : w.heap.size + 1 < B) : OwnFrom B (fun (_ : β) W => My w A n cap W) := fun s W W' row hs hg hr =>
  ⟨ownFrom_below (Nat.le_refl _) (by omega) s W W' row hs.below hg hr, ownFrom_blk (by omega) s W W' row hs.h hg hr, ownFrom_blk h s W W' row hs.r hg hr⟩
theorem all_true {H : List Ob} {ys : List Vin} {L : List Vq} (h : ys.map Vin.out = L) (g : ∀ x ∈ ys, holdsB H x.out = true) : L.all (holdsB H) = true := by
  rw [← h, List.all_eq_true]
  intro v hv
  obtain ⟨x, hx, rfl⟩ := List.mem_map.1 hv
  exact g x hx
theorem all_false {H : List Ob} {ys : List Vin} {L : List Vq} (h : ys.map Vin.out <+: L) (g : ∃ x ∈ ys, holdsB H x.out = false) : L.all (holdsB H) = false := by
  obtain ⟨x, hx, e⟩ := g
  cases hh : L.all (holdsB H) with
  | false => rfl
  | true =>
    rw [List.all_eq_true] at hh
    have := hh x.out (h.subset (List.mem_map.2 ⟨x, hx, rfl⟩))
    rw [e] at this; cases this
/-- the loop's variable in its box -/
def Ax (T : Act → Nat → Prop) (x : Vin) (a' : Act) (W : World) : Prop := ∃ Bx, W.heap[Bx]? = some (.cells #[.int .u8 x.1.k, .float .f64 x.1.x, .string x.1.s, .int .i64 x.1.r] 26 (0, 0)) ∧ T a' Bx
theorem ax_own {B : Nat} {T : Act → Nat → Prop} (x : Vin) (a' : Act) : OwnFrom B (fun (_ : Unit) W => Ax T x a' W) := fun _ W W' row hs hg hr => by
  obtain ⟨Bx, e1, e2⟩ := hs
  refine ⟨Bx, (hg.block Bx (lt_blk e1) (fun e => ?_)).trans e1, e2⟩
  obtain ⟨_, ob, ho, hc⟩ := hr Bx e.symm
  rw [e1] at ho
  cases ho
  cases hc
set_option maxHeartbeats 8000000 in
set_option maxRecDepth 1000000 in
theorem may_h (A : Option Addr) (H : List Ob) (cap n : Nat) (w : World) (hH : HIn w A H cap) (hn : n < H.length) (htab : TabHere w) : Calls Tryz.prog 47 #[.agg #[.slice A H.length cap], .int .i64 (n : Int)] w fun e w' => e = .returned (.bool (mayB H H[n] n)) ∧ Below w.heap.size w w' := by
  obtain ⟨a, rfl, hab, hof, hP⟩ := hH.at hn
  have hin := hH.inn H[n] (List.getElem_mem hn)
  have hfew := hH.pfew H[n] (List.getElem_mem hn)
  have hnz : (n : Int) < (H.length : Int) := by omega
  have hn0 : (0 : Int) ≤ (n : Int) := by omega
  have cF := fun W (hb : Below w.heap.size w W) ok hv => fits_h (some a) H cap n W (hH.up hb) hn ok hv (tab_up htab hb)
  have cH := fun W (hb : Below w.heap.size w W) (v : Vin) => holds_h (some a) H cap v.1 W (hH.up hb) v.2
  have HH := Lib.hid hH
  clear hH
  generalize H[n] = o at *
  have cC := fun W (hb : Below w.heap.size w W) => Check_t o.pa o.props o.pc W hin.props hfew (pr_up hP hb)
  have cI := fun W => IsObject_q o.proto hin.proto.1 W
  have ho1 := (hof.up (vzero w (.cells #[.slice (some a) H.length cap] 49))).up (vzero (w.alloc (.cells #[.slice (some a) H.length cap] 49)) (.cells #[.bool false] 4))
  have HY := Lib.hid (my_start w (some a) H.length cap)
  obtain ⟨q4, q5, q6⟩ := HY.out.q
  have hoff := ho1.lt
  have o2 := ho1.props
  refine (callsIn_wide (n := 6)).1 ?_
  refine callsIn_of_wp_marks Tryz.func47 rfl trivial ?_ rfl
  simp only [Tryz.ntmps47, List.size_toArray, List.length_cons, List.length_nil, Nat.reduceAdd, Nat.reduceSub, Array.replicate_succ, Array.replicate_zero, List.push_toArray, List.append_toArray, List.nil_append, List.cons_append]
  by_cases h1 : chkT o.props = 0
  · have h1b : (chkT o.props == 0) = true := by rw [beq_iff_eq]; exact h1
    have h1c : (chkT o.props != 0) = false := by unfold bne; rw [h1b]; rfl
    have cV := fun W => values_g (a.add (n * 18)) W
    cases ho : objQ o.proto with
    | false =>
      rw [ho] at cI
      cases hk : o.proto.k == 1 with
      | false =>
        rw [may_false2 ho hk]
        have hk2 : (o.proto.k != 1) = true := by unfold bne; rw [hk]; rfl
        gi_wp2_with (first
          | (refine ⟨trivial, ?_⟩; gi_at_call 15; refine (callsIn_wide.2 (cC _ HY.out.below)).mono ?_; rintro e w1 ⟨rfl, h9⟩; have HY := Lib.hid (HY.out.up h9); obtain ⟨q4, q5, q6⟩ := HY.out.q; have hp := (hof.up HY.out.below).proto; have p0 := hp.k; have p1 := hp.x; have p2 := hp.s; have p3 := hp.r; have hl := hp.lt; clear h9 hp)
          | (refine ⟨trivial, ?_⟩; gi_at_call 66; refine (callsIn_wide.2 (cI _)).mono ?_; rintro e w2 ⟨rfl, h9⟩; have HY := Lib.hid (HY.out.up h9); obtain ⟨q4, q5, q6⟩ := HY.out.q; have p0 := (hof.up HY.out.below).proto.k; clear h9)
          | (refine And.intro (a := Fence.wide.fn _) trivial ?_))
        refine my_ret rfl (World.cell?_setCell_same' _ _ _ (by rw [q5]; rfl)) ⟨rfl, ?_⟩
        exact HY.out.below.setCell (p := ⟨w.heap.size + 1, 0, none⟩) (by simp) _
      | true =>
        have hk2 : (o.proto.k != 1) = false := by unfold bne; rw [hk]; rfl
        rw [may_rest h1 (.inr hk)]
        gi_wp2_with (first
          | (refine ⟨trivial, ?_⟩; gi_at_call 15; refine (callsIn_wide.2 (cC _ HY.out.below)).mono ?_; rintro e w1 ⟨rfl, h9⟩; have HY := Lib.hid (HY.out.up h9); obtain ⟨q4, q5, q6⟩ := HY.out.q; have hp := (hof.up HY.out.below).proto; have p0 := hp.k; have p1 := hp.x; have p2 := hp.s; have p3 := hp.r; have hl := hp.lt; clear h9 hp)
          | (refine ⟨trivial, ?_⟩; gi_at_call 66; refine (callsIn_wide.2 (cI _)).mono ?_; rintro e w2 ⟨rfl, h9⟩; have HY := Lib.hid (HY.out.up h9); obtain ⟨q4, q5, q6⟩ := HY.out.q; have p0 := (hof.up HY.out.below).proto.k; clear h9)
          | (refine ⟨trivial, ?_⟩; gi_at_call 67; refine (callsIn_wide.2 (cV _)).mono ?_; rintro e W0 ⟨Bn, rfl, hBn, h9, hsz, _⟩; have HY := Lib.hid (HY.out.up h9); obtain ⟨q4, q5, q6⟩ := HY.out.q; clear h9 p0 p1 p2 p3 hl)
          | (refine And.intro (a := Fence.wide.fn _) trivial ?_))
        have hw1 : w.heap.size + 1 < W0.heap.size := lt_blk HY.out.r
        have hlB : w.heap.size ≤ W0.heap.size := HY.out.below.size
        refine wpIn_rangeFunc_ownH rfl (by omega) (gf := 88) (lb := #[.pointer (some ⟨Bn, 0, none⟩)]) rfl trivial (enters_of Tryz.func88 (by kernel_rfl) rfl)
          (values_stops Fence.wide _ trivial rfl (by omega) Bn w W0 (a.add (n * 18)) o hof hP hin hfew ⟨Kw.of_below HY.out.below, hBn⟩) (fun h k => KB.trans h k) (fun W l o o' hl h _ _ => KB.putObj (by omega) (by omega)) (Below.refl _ _) (fun _ => rfl)
          (fun pre W => (∀ x ∈ pre, holdsB H x.out = true) ∧ My w (some a) H.length cap W)
          (fun c pre W => c = .ret ∧ (∃ x ∈ pre, holdsB H x.out = false) ∧ Below w.heap.size w W ∧ W.heap[w.heap.size + 1]? = some (.cells #[.bool false] 4 (0, 0)))
          (OwnFrom.and (ownFrom_pure _ _) (my_own hw1))
          (fun c s W W' row hs hg hr => ⟨hs.1, hs.2.1, ownFrom_below (Nat.le_refl _) (by omega) s W W' row hs.2.2.1 hg hr, ownFrom_blk hw1 s W W' row hs.2.2.2 hg hr⟩)
          ⟨fun _ h => (by cases h), HY.out⟩
          (fun x => Ax (fun a' Bx => a' = { tmps := #[Value.agg #[Value.slice (some a) H.length cap], Value.int IntKind.i64 (n : Int), Value.pointer (some ⟨w.heap.size, 0, none⟩), undef, Value.pointer (some ⟨w.heap.size + 1, 0, none⟩), Value.pointer (some (a.add (n * 18))), .pointer (some ⟨Bx, 0, none⟩), Value.pointer (some ⟨w.heap.size, 0, none⟩), Value.slice (some a) H.length cap, Value.int IntKind.i64 (n : Int), Value.pointer (some (a.add (n * 18))), Value.pointer (some (a.add (n * 18))), Value.pointer (some (a.add (n * 18))), Value.pointer (some ⟨(a.add (n * 18)).block, (a.add (n * 18)).off + 6, none⟩), Value.slice o.pa o.props.length o.pc, Value.int IntKind.i64 0, Value.bool false, Value.bool false, Value.pointer (some (a.add (n * 18))), Value.pointer (some (a.add (n * 18))), Value.pointer (some ⟨(a.add (n * 18)).block, (a.add (n * 18)).off + 1, none⟩), Value.agg #[Value.int IntKind.u8 o.proto.k, Value.float FloatKind.f64 o.proto.x, Value.string o.proto.s, Value.int IntKind.i64 o.proto.r], Value.bool false, Value.bool true, Value.bool true, Value.pointer (some (a.add (n * 18))), Value.pointer (some (a.add (n * 18))), Value.pointer (some ⟨(a.add (n * 18)).block, (a.add (n * 18)).off + 1, none⟩), Value.pointer (some ⟨(a.add (n * 18)).block, (a.add (n * 18)).off + 1, none⟩), Value.int IntKind.u8 o.proto.k, Value.bool false, Value.bool false, Value.bool false, Value.pointer (some (a.add (n * 18))), Value.func (.func 88) #[] #[Value.pointer (some ⟨Bn, 0, none⟩)], .agg #[.int .u8 x.1.k, .float .f64 x.1.x, .string x.1.s, .int .i64 x.1.r], undef, undef, undef, undef, undef, undef, undef], defers := [] }) x)
          (fun x a' => ax_own x a') ?assign ?body ?done ?stop
        case assign =>
          intro l pre x W K hi hK
          have hst := vstore
          dsimp only [encI, encV]
          gi_wp2
          have hbz := vzero W (.cells #[.int .u8 x.1.k, .float .f64 x.1.x, .string x.1.s, .int .i64 x.1.r] 26)
          exact hK _ _ (kf_below hbz) (KB.of_below hbz) ⟨hi.1, hi.2.up hbz⟩ ⟨W.heap.size, heap_alloc_new _ _, rfl⟩
        case body =>
          rintro l pre x a' W hl ⟨r, hr⟩ ⟨hi, hy⟩ ⟨Bx, hbx, rfl⟩ hlen
          obtain ⟨q4, q5, q6⟩ := hy.q
          obtain ⟨x0, x1, x2, x3, _⟩ := vc4 hbx
          have hcH := cH W hy.below x
          cases hh : holdsB H x.1 with
          | false =>
            rw [hh] at hcH
            gi_wp2_with (refine ⟨trivial, ?_⟩; gi_at_call 68; refine (CallsIn.inRound l (callsIn_wide.2 hcH)).mono ?_; rintro e w1 ⟨rfl, h9⟩; have hy2 := hy.up h9; obtain ⟨q4, q5, q6⟩ := hy2.q)
            exact ⟨kf_trans (kf_below h9) ((KeepsOthers.setCell _ _ _).from _), rfl, ⟨x, by simp, hh⟩, hy2.below.setCell (p := ⟨w.heap.size + 1, 0, none⟩) (by simp) _, (vset1 hy2.r 0 _).trans rfl⟩
          | true =>
            rw [hh] at hcH
            gi_wp2_with (refine ⟨trivial, ?_⟩; gi_at_call 68; refine (CallsIn.inRound l (callsIn_wide.2 hcH)).mono ?_; rintro e w1 ⟨rfl, h9⟩; have hy2 := hy.up h9; obtain ⟨q4, q5, q6⟩ := hy2.q)
            refine ⟨kf_below h9, KB.of_below h9, fun y hy' => ?_, hy2⟩
            rcases List.mem_append.1 hy' with hy' | hy'
            · exact hi y hy'
            · obtain rfl := List.mem_singleton.1 hy'; exact hh
        case done =>
          rintro D ys W hD hys ⟨hi, hy⟩ hK
          have hall := all_true hys hi
          obtain ⟨q4, q5, q6⟩ := hy.q
          have hcF := cF W hy.below (chkT_ok.1 h1) (List.all_eq_true.1 hall)
          gi_wp2_with (refine ⟨trivial, ?_⟩; gi_at_call 69; refine (callsIn_wide.2 hcF).mono ?_; rintro e w1 ⟨rfl, h9⟩; have hy2 := hy.up h9; obtain ⟨q4, q5, q6⟩ := hy2.q)
          have hK1 := (h9.block D (lt_blk hK)).trans hK
          have hK2 := (KeepsOthers.setCell w1 ⟨w.heap.size + 1, 0, none⟩ (.bool (fitsB H o n))).same D _ hK1 rfl
          refine ⟨by simp, .inl ⟨_, _, rfl, run_takeDeferred hK2, ?_⟩⟩
          have hc5 := cell_kept (World.cell?_setCell_same' w1 ⟨w.heap.size + 1, 0, none⟩ (.bool (fitsB H o n)) (by rw [q5]; rfl)) (grownBy_putObj' _ D (.deferred none)) (fun r e => by cases e; exact ⟨_, hK2, rfl⟩)
          exact my_ret rfl hc5 ⟨by rw [hall, Bool.true_and], (hy2.below.setCell (p := ⟨w.heap.size + 1, 0, none⟩) (by simp) _).trans (belowK_b (w := w) (Nat.le_refl _) _ D _ _ (by omega) hK2 rfl rfl)⟩
        case stop =>
          rintro D c pre W hD hpre ⟨rfl, hex, hb, hr⟩ hK
          gi_wp2
          refine ⟨by simp, .inl ⟨_, _, rfl, run_takeDeferred hK, ?_⟩⟩
          have hc5 := cell_kept (box_c hr).1 (grownBy_putObj' _ D (.deferred none)) (fun r e => by cases e; exact ⟨_, hK, rfl⟩)
          exact my_ret rfl hc5 ⟨by rw [all_false hpre hex, Bool.false_and], hb.trans (belowK_b (w := w) (Nat.le_refl _) _ D _ _ (by omega) hK rfl rfl)⟩
    | true =>
      rw [ho] at cI
      rw [may_rest h1 (.inl ho)]
      gi_wp2_with (first
        | (refine ⟨trivial, ?_⟩; gi_at_call 15; refine (callsIn_wide.2 (cC _ HY.out.below)).mono ?_; rintro e w1 ⟨rfl, h9⟩; have HY := Lib.hid (HY.out.up h9); obtain ⟨q4, q5, q6⟩ := HY.out.q; have hp := (hof.up HY.out.below).proto; have p0 := hp.k; have p1 := hp.x; have p2 := hp.s; have p3 := hp.r; have hl := hp.lt; clear h9 hp)
        | (refine ⟨trivial, ?_⟩; gi_at_call 66; refine (callsIn_wide.2 (cI _)).mono ?_; rintro e w2 ⟨rfl, h9⟩; have HY := Lib.hid (HY.out.up h9); obtain ⟨q4, q5, q6⟩ := HY.out.q; have p0 := (hof.up HY.out.below).proto.k; clear h9)
        | (refine ⟨trivial, ?_⟩; gi_at_call 67; refine (callsIn_wide.2 (cV _)).mono ?_; rintro e W0 ⟨Bn, rfl, hBn, h9, hsz, _⟩; have HY := Lib.hid (HY.out.up h9); obtain ⟨q4, q5, q6⟩ := HY.out.q; clear h9 p0 p1 p2 p3 hl)
        | (refine And.intro (a := Fence.wide.fn _) trivial ?_))
      have hw1 : w.heap.size + 1 < W0.heap.size := lt_blk HY.out.r
      have hlB : w.heap.size ≤ W0.heap.size := HY.out.below.size
      refine wpIn_rangeFunc_ownH rfl (by omega) (gf := 88) (lb := #[.pointer (some ⟨Bn, 0, none⟩)]) rfl trivial (enters_of Tryz.func88 (by kernel_rfl) rfl)
        (values_stops Fence.wide _ trivial rfl (by omega) Bn w W0 (a.add (n * 18)) o hof hP hin hfew ⟨Kw.of_below HY.out.below, hBn⟩) (fun h k => KB.trans h k) (fun W l o o' hl h _ _ => KB.putObj (by omega) (by omega)) (Below.refl _ _) (fun _ => rfl)
        (fun pre W => (∀ x ∈ pre, holdsB H x.out = true) ∧ My w (some a) H.length cap W)
        (fun c pre W => c = .ret ∧ (∃ x ∈ pre, holdsB H x.out = false) ∧ Below w.heap.size w W ∧ W.heap[w.heap.size + 1]? = some (.cells #[.bool false] 4 (0, 0)))
        (OwnFrom.and (ownFrom_pure _ _) (my_own hw1))
        (fun c s W W' row hs hg hr => ⟨hs.1, hs.2.1, ownFrom_below (Nat.le_refl _) (by omega) s W W' row hs.2.2.1 hg hr, ownFrom_blk hw1 s W W' row hs.2.2.2 hg hr⟩)
        ⟨fun _ h => (by cases h), HY.out⟩
        (fun x => Ax (fun a' Bx => a' = { tmps := #[Value.agg #[Value.slice (some a) H.length cap], Value.int IntKind.i64 (n : Int), Value.pointer (some ⟨w.heap.size, 0, none⟩), undef, Value.pointer (some ⟨w.heap.size + 1, 0, none⟩), Value.pointer (some (a.add (n * 18))), .pointer (some ⟨Bx, 0, none⟩), Value.pointer (some ⟨w.heap.size, 0, none⟩), Value.slice (some a) H.length cap, Value.int IntKind.i64 (n : Int), Value.pointer (some (a.add (n * 18))), Value.pointer (some (a.add (n * 18))), Value.pointer (some (a.add (n * 18))), Value.pointer (some ⟨(a.add (n * 18)).block, (a.add (n * 18)).off + 6, none⟩), Value.slice o.pa o.props.length o.pc, Value.int IntKind.i64 0, Value.bool false, Value.bool false, Value.pointer (some (a.add (n * 18))), Value.pointer (some (a.add (n * 18))), Value.pointer (some ⟨(a.add (n * 18)).block, (a.add (n * 18)).off + 1, none⟩), Value.agg #[Value.int IntKind.u8 o.proto.k, Value.float FloatKind.f64 o.proto.x, Value.string o.proto.s, Value.int IntKind.i64 o.proto.r], Value.bool true, Value.bool false, Value.bool false, undef, undef, undef, undef, undef, undef, Value.bool false, Value.bool false, Value.pointer (some (a.add (n * 18))), Value.func (.func 88) #[] #[Value.pointer (some ⟨Bn, 0, none⟩)], .agg #[.int .u8 x.1.k, .float .f64 x.1.x, .string x.1.s, .int .i64 x.1.r], undef, undef, undef, undef, undef, undef, undef], defers := [] }) x)
        (fun x a' => ax_own x a') ?assign ?body ?done ?stop
      case assign =>
        intro l pre x W K hi hK
        have hst := vstore
        dsimp only [encI, encV]
        gi_wp2
        have hbz := vzero W (.cells #[.int .u8 x.1.k, .float .f64 x.1.x, .string x.1.s, .int .i64 x.1.r] 26)
        exact hK _ _ (kf_below hbz) (KB.of_below hbz) ⟨hi.1, hi.2.up hbz⟩ ⟨W.heap.size, heap_alloc_new _ _, rfl⟩
      case body =>
        rintro l pre x a' W hl ⟨r, hr⟩ ⟨hi, hy⟩ ⟨Bx, hbx, rfl⟩ hlen
        obtain ⟨q4, q5, q6⟩ := hy.q
        obtain ⟨x0, x1, x2, x3, _⟩ := vc4 hbx
        have hcH := cH W hy.below x
        cases hh : holdsB H x.1 with
        | false =>
          rw [hh] at hcH
          gi_wp2_with (refine ⟨trivial, ?_⟩; gi_at_call 68; refine (CallsIn.inRound l (callsIn_wide.2 hcH)).mono ?_; rintro e w1 ⟨rfl, h9⟩; have hy2 := hy.up h9; obtain ⟨q4, q5, q6⟩ := hy2.q)
          exact ⟨kf_trans (kf_below h9) ((KeepsOthers.setCell _ _ _).from _), rfl, ⟨x, by simp, hh⟩, hy2.below.setCell (p := ⟨w.heap.size + 1, 0, none⟩) (by simp) _, (vset1 hy2.r 0 _).trans rfl⟩
        | true =>
          rw [hh] at hcH
          gi_wp2_with (refine ⟨trivial, ?_⟩; gi_at_call 68; refine (CallsIn.inRound l (callsIn_wide.2 hcH)).mono ?_; rintro e w1 ⟨rfl, h9⟩; have hy2 := hy.up h9; obtain ⟨q4, q5, q6⟩ := hy2.q)
          refine ⟨kf_below h9, KB.of_below h9, fun y hy' => ?_, hy2⟩
          rcases List.mem_append.1 hy' with hy' | hy'
          · exact hi y hy'
          · obtain rfl := List.mem_singleton.1 hy'; exact hh
      case done =>
        rintro D ys W hD hys ⟨hi, hy⟩ hK
        have hall := all_true hys hi
        obtain ⟨q4, q5, q6⟩ := hy.q
        have hcF := cF W hy.below (chkT_ok.1 h1) (List.all_eq_true.1 hall)
        gi_wp2_with (refine ⟨trivial, ?_⟩; gi_at_call 69; refine (callsIn_wide.2 hcF).mono ?_; rintro e w1 ⟨rfl, h9⟩; have hy2 := hy.up h9; obtain ⟨q4, q5, q6⟩ := hy2.q)
        have hK1 := (h9.block D (lt_blk hK)).trans hK
        have hK2 := (KeepsOthers.setCell w1 ⟨w.heap.size + 1, 0, none⟩ (.bool (fitsB H o n))).same D _ hK1 rfl
        refine ⟨by simp, .inl ⟨_, _, rfl, run_takeDeferred hK2, ?_⟩⟩
        have hc5 := cell_kept (World.cell?_setCell_same' w1 ⟨w.heap.size + 1, 0, none⟩ (.bool (fitsB H o n)) (by rw [q5]; rfl)) (grownBy_putObj' _ D (.deferred none)) (fun r e => by cases e; exact ⟨_, hK2, rfl⟩)
        exact my_ret rfl hc5 ⟨by rw [hall, Bool.true_and], (hy2.below.setCell (p := ⟨w.heap.size + 1, 0, none⟩) (by simp) _).trans (belowK_b (w := w) (Nat.le_refl _) _ D _ _ (by omega) hK2 rfl rfl)⟩
      case stop =>
        rintro D c pre W hD hpre ⟨rfl, hex, hb, hr⟩ hK
        gi_wp2
        refine ⟨by simp, .inl ⟨_, _, rfl, run_takeDeferred hK, ?_⟩⟩
        have hc5 := cell_kept (box_c hr).1 (grownBy_putObj' _ D (.deferred none)) (fun r e => by cases e; exact ⟨_, hK, rfl⟩)
        exact my_ret rfl hc5 ⟨by rw [all_false hpre hex, Bool.false_and], hb.trans (belowK_b (w := w) (Nat.le_refl _) _ D _ _ (by omega) hK rfl rfl)⟩
  · rw [may_false1 h1]
    have h1b : (chkT o.props == 0) = false := by rw [beq_eq_false_iff_ne]; exact h1
    have h1c : (chkT o.props != 0) = true := by unfold bne; rw [h1b]; rfl
    gi_wp2_with (first
      | (refine ⟨trivial, ?_⟩; gi_at_call 15; refine (callsIn_wide.2 (cC _ HY.out.below)).mono ?_; rintro e w1 ⟨rfl, h9⟩; have HY := Lib.hid (HY.out.up h9); obtain ⟨q4, q5, q6⟩ := HY.out.q; clear h9)
      | (refine And.intro (a := Fence.wide.fn _) trivial ?_))
    refine my_ret rfl (World.cell?_setCell_same' _ _ _ (by rw [q5]; rfl)) ⟨rfl, ?_⟩
    exact HY.out.below.setCell (p := ⟨w.heap.size + 1, 0, none⟩) (by simp) _
end Go.Proofs.YtbeggameiedjgaaGreatDoor.S
/-
  heap.part: objects get properties of their own.
-/
namespace Go.Proofs.YtbeggameiedjgaaGreatDoor.S
open Go.RowKit Go.Lib Fl
open Classical

def hcl (H : List Ob) : List Value := H.flatMap ocl
theorem hcl_cons (x : Ob) (H : List Ob) : hcl (x :: H) = ocl x ++ hcl H := rfl
theorem hcl_len (H : List Ob) : (hcl H).length = H.length * 18 := by
  induction H with
  | nil => rfl
  | cons x r ih => rw [hcl_cons, List.length_append, ih, ocl_len, List.length_cons]; omega
theorem hcl_at : ∀ (H : List Ob) (i : Nat) (h : i < H.length) (j : Nat), j < 18 → (hcl H)[i * 18 + j]? = (ocl H[i])[j]?
  | x :: H, 0, _, j, hj => by rw [hcl_cons, Nat.zero_mul, Nat.zero_add, List.getElem?_append_left (by rw [ocl_len]; exact hj)]; rfl
  | x :: H, i + 1, h, j, hj => by
    rw [hcl_cons, List.getElem?_append_right (by rw [ocl_len]; omega), ocl_len, show (i + 1) * 18 + j - 18 = i * 18 + j by omega, hcl_at H i (by simpa using h) j hj]
    rfl
/-- an object whose properties lie elsewhere -/
def Ob.moved (o : Ob) (a : Option Addr) : Ob := { o with pa := a, pc := o.props.length }
theorem ocl_moved (o : Ob) (a : Option Addr) : (ocl o).set 6 (.slice a o.props.length o.props.length) = ocl (o.moved a) := rfl
theorem hcl_moved : ∀ (H : List Ob) (i : Nat) (h : i < H.length) (a : Option Addr), (hcl H).set (i * 18 + 6) (.slice a H[i].props.length H[i].props.length) = hcl (H.set i (H[i].moved a))
  | x :: H, 0, _, a => by rw [hcl_cons, Nat.zero_mul, Nat.zero_add, List.set_append_left _ _ (by rw [ocl_len]; omega)]; exact congrArg (· ++ hcl H) (ocl_moved x a)
  | x :: H, i + 1, h, a => by
    rw [hcl_cons, List.set_append_right _ _ (by rw [ocl_len]; omega), ocl_len, show (i + 1) * 18 + 6 - 18 = i * 18 + 6 by omega]
    have := hcl_moved H i (by simpa using h) a
    rw [List.getElem_cons_succ, List.set_cons_succ, hcl_cons, this]
theorem hcl_one (H : List Ob) : ∀ v ∈ hcl H, v.oneCell' = true := fun v hv => by
  obtain ⟨o, _, ho⟩ := List.mem_flatMap.1 hv
  have := obA_one o
  rw [obA, List.all_toArray, List.all_eq_true] at this
  exact this v ho
/-- a row of properties as cells -/
theorem pr_r18 {w : World} {A : Option Addr} {L : List Pq} (h : PR w A L) : R18 w A L.length (prCells L) := by
  refine ⟨prCells_len L, prCells_one L, fun hp => ?_⟩
  obtain ⟨a, rfl, _, _⟩ := id h hp
  exact ⟨a, rfl, fun j v hv => pr_cells h j v hv⟩
/-- properties that lie below B -/
def PRB (B : Nat) (w : World) (A : Option Addr) (L : List Pq) : Prop := 0 < L.length → ∃ a, A = some a ∧ a.block < B ∧ ∀ i (h : i < L.length) j u, (pcl L[i])[j]? = some u → w.cell? (a.add (i * 18 + j)) = some u
theorem PRB.up {B : Nat} {w w' : World} {A : Option Addr} {L : List Pq} (h : PRB B w A L) (hb : Below B w w') : PRB B w' A L := fun hp => by
  obtain ⟨a, h1, h2, h3⟩ := h hp
  exact ⟨a, h1, h2, fun i hi j u hu => (hb.cell (by rw [add_blk]; exact h2)).trans (h3 i hi j u hu)⟩
theorem PRB.pr {B : Nat} {w : World} {A : Option Addr} {L : List Pq} (h : PRB B w A L) (hB : B ≤ w.heap.size) : PR w A L := fun hp => by
  obtain ⟨a, h1, h2, h3⟩ := h hp
  exact ⟨a, h1, Nat.lt_of_lt_of_le h2 hB, h3⟩
theorem prb_of {w : World} {A : Option Addr} {L : List Pq} (h : PR w A L) : PRB w.heap.size w A L := h
/-- an object that got properties of its own -/
structure Parted (n0 : Nat) (m o : Ob) (W : World) : Prop where
  out : ∃ g, n0 ≤ g ∧ m = o.moved (some ⟨g, 0, none⟩) ∧ W.heap[g]? = some (.cells (prCells o.props).toArray 30 (0, 0))
theorem Parted.up {n0 : Nat} {m o : Ob} {W W' : World} (h : Parted n0 m o W) (hb : Below W.heap.size W W') : Parted n0 m o W' := by
  obtain ⟨g, h1, h2, h3⟩ := h.out
  exact ⟨g, h1, h2, vblkn hb h3⟩
/-- how far part has come -/
structure Pt (w : World) (B : Nat) (H : List Ob) (i : Nat) (M : List Ob) (W : World) : Prop where
  len : M.length = H.length
  done : ∀ j (h : j < M.length) (h' : j < H.length), j < i → Parted w.heap.size M[j] H[j] W
  rest : ∀ j (h : j < M.length) (h' : j < H.length), i ≤ j → M[j] = H[j]
  b : W.heap[B]? = some (.cells (hcl M).toArray 54 (0, 0))
  below : Below B w W
  size : w.heap.size ≤ W.heap.size
/-- what part is handed -/
structure PtIn (w : World) (B : Nat) (H : List Ob) : Prop where
  lt : B < w.heap.size
  b : w.heap[B]? = some (.cells (hcl H).toArray 54 (0, 0))
  props : ∀ i (h : i < H.length), PRB B w H[i].pa H[i].props ∧ H[i].props.length ≤ 100000
  few : H.length ≤ 5001
theorem pt_start {w : World} {B : Nat} {H : List Ob} (h : PtIn w B H) : Pt w B H 0 H w := ⟨rfl, fun _ _ _ h => absurd h (Nat.not_lt_zero _), fun _ _ _ _ => rfl, h.b, Below.refl _ _, Nat.le_refl _⟩
theorem pt_step {w wr w1 : World} {B i g : Nat} {H M : List Ob} (hw : B < w.heap.size) (hP : Pt w B H i M wr) (hlt : i < H.length) (hiM : i < M.length) (hr : M[i] = H[i]) (hg : wr.heap.size ≤ g) (hgb : w1.heap[g]? = some (.cells (prCells H[i].props).toArray 30 (0, 0))) (h9 : Below wr.heap.size wr w1) :
    Pt w B H (i + 1) (M.set i (H[i].moved (some ⟨g, 0, none⟩))) (w1.setCell ⟨B, i * 18 + 6, none⟩ (.slice (some ⟨g, 0, none⟩) H[i].props.length H[i].props.length)) := by
  have hBs : B < wr.heap.size := lt_blk hP.b
  have hgB : g ≠ B := by omega
  refine ⟨by rw [List.length_set]; exact hP.len, fun j hj hj' hji => ?_, fun j hj hj' hji => ?_, ?_, ?_, ?_⟩
  · by_cases c : j = i
    · subst c
      refine ⟨g, Nat.le_trans hP.size hg, ?_, vset1o hgb (Ne.symm hgB) _ _⟩
      rw [List.getElem_set_self]
    · rw [List.length_set] at hj
      obtain ⟨g2, h1, h2, h3⟩ := (hP.done j hj hj' (by omega)).out
      refine ⟨g2, h1, ?_, vset1o (vblkn h9 h3) (by omega) _ _⟩
      rw [List.getElem_set_ne (by omega)]
      exact h2
  · rw [List.length_set] at hj
    rw [List.getElem_set_ne (by omega)]
    exact hP.rest j hj hj' (by omega)
  · have h1 := vset1 (vblkn h9 hP.b) (i * 18 + 6) (.slice (some ⟨g, 0, none⟩) H[i].props.length H[i].props.length)
    have h2 := hcl_moved M i hiM (some ⟨g, 0, none⟩)
    rw [hr] at h2
    rw [List.setIfInBounds_toArray, h2] at h1
    exact h1
  · exact (hP.below.trans (h9.mono (Nat.le_of_lt hBs))).setCell (p := ⟨B, i * 18 + 6, none⟩) (Nat.le_refl B) _
  · rw [World.size_setCell]
    exact Nat.le_trans hP.size h9.size
set_option maxHeartbeats 4000000 in
set_option maxRecDepth 1000000 in
theorem part_h (B cap : Nat) (H : List Ob) (w : World) (hI : PtIn w B H) : Calls Tryz.prog 58 #[.slice (some ⟨B, 0, none⟩) H.length cap] w fun e w' => e = .returned (.tuple #[]) ∧ ∃ M, Pt w B H H.length M w' := by
  have hfew := hI.few
  go_enter Tryz.func58, Tryz.ntmps58
  go_wp2
  go_loopg [5] H.length (fun kx s5 wr => ∃ i : Nat, s5 = .int .i64 i ∧ i + kx = H.length ∧ Hid (∃ M, Pt w B H i M wr))
  case atStart => exact ⟨0, rfl, by omega, Lib.hid ⟨H, pt_start hI⟩⟩
  case round =>
    obtain ⟨i, rfl, hik, HR⟩ := hrel
    cases gk with
    | zero =>
      obtain rfl : i = H.length := by omega
      go_wp2
      go_end0
      exact ⟨rfl, HR.out⟩
    | succ kx =>
      have hlt : i < H.length := by omega
      have hlz : (i : Int) < (H.length : Int) := by omega
      have hl0 : (0 : Int) ≤ (i : Int) := by omega
      obtain ⟨M, hP⟩ := HR.out
      have hiM : i < M.length := by rw [hP.len]; exact hlt
      have hrest := hP.rest i hiM hlt (Nat.le_refl _)
      have hBs : B < wr.heap.size := lt_blk hP.b
      have hc : wr.cell? ⟨B, i * 18 + 6, none⟩ = some (.slice H[i].pa H[i].props.length H[i].pc) := by
        have := hcl_at M i hiM 6 (by decide)
        rw [hrest] at this
        rw [vcells hP.b (i * 18 + 6), List.getElem?_toArray]
        exact this
      have cP := copiedP_h H[i].pa H[i].props.length H[i].pc (prCells H[i].props) wr (pr_r18 (((hI.props i hlt).1.up hP.below).pr (Nat.le_of_lt hBs))) (hI.props i hlt).2
      have HP := Lib.hid hP
      have HM := Lib.hid hrest
      clear hP hrest
      go_wp2_with (go_at_call 50; (with_reducible refine cP.mono ?_); rintro e w1 ⟨g, rfl, hg, hgb, h9⟩; have hc2 := (h9.cell (p := ⟨B, i * 18 + 6, none⟩) hBs).trans hc; have hf2 : w1.frozen? ⟨B, i * 18 + 6, none⟩ = false := (by simp [World.frozen?, vblkn h9 HP.out.b]))
      go_roundg kx
      case measure => omega
      case rel => exact ⟨i + 1, by congr 1, by omega, Lib.hid ⟨_, pt_step hI.lt HP.out hlt hiM HM.out hg hgb h9⟩⟩
end Go.Proofs.YtbeggameiedjgaaGreatDoor.S
/-
  heap.Twin: a heap in memory of its own.
-/
namespace Go.Proofs.YtbeggameiedjgaaGreatDoor.S
open Go.RowKit Go.Lib Fl
open Classical

theorem hsz : (Tryz.prog.info? 49).map (·.size) = some 1 := by kernel_rfl
theorem h_end {f : Func} {i : Nat} {t : TypeId} {Q : Ending → World → Prop} {tmps : Array Value} {W : World} {g : Nat} {v : Value} (hf : f.results = #[.cell i 49]) (h2 : tmps.getD i undef = .pointer (some ⟨g, 0, none⟩)) (hb : W.heap[g]? = some (.cells #[v] t (0, 0)))
    (hQ : Q (.returned (.agg #[v])) W) : bodyPost Tryz.prog f Q .ret { tmps := tmps, defers := [] } W :=
  bodyPost_ret (results_cell_row hf tmps W g t _ (0, 0) _ h2 hb Tryz.underlying49 rfl hsz) rfl hQ
theorem hrow_r18 {w : World} {A : Option Addr} {H : List Ob} (h : HRow w A H) : R18 w A H.length (hcl H) := by
  refine ⟨hcl_len H, hcl_one H, fun hp => ?_⟩
  obtain ⟨a, rfl, _, hc⟩ := h hp
  refine ⟨a, rfl, fun j v hv => ?_⟩
  have hj : j < H.length * 18 := by have := (List.getElem?_eq_some_iff.1 hv).1; rw [hcl_len] at this; exact this
  have e : j = j / 18 * 18 + j % 18 := by omega
  rw [e, hcl_at H (j / 18) (by omega) (j % 18) (by omega)] at hv
  have := of_back (hc (j / 18) (by omega)).1 (j % 18) v hv
  rw [add_add] at this
  rw [e]
  exact this
/-- a heap in new memory: its objects in block B, their properties in blocks behind it -/
structure Tw (n0 B : Nat) (H M : List Ob) (W : World) : Prop where
  len : M.length = H.length
  all : ∀ j (h : j < M.length) (h' : j < H.length), Parted (B + 1) M[j] H[j] W
  b : W.heap[B]? = some (.cells (hcl M).toArray 54 (0, 0))
  le : n0 ≤ B
theorem Tw.up {n0 B : Nat} {H M : List Ob} {W W' : World} (h : Tw n0 B H M W) (hb : Below W.heap.size W W') : Tw n0 B H M W' := ⟨h.len, fun j h1 h2 => (h.all j h1 h2).up hb, vblkn hb h.b, h.le⟩
theorem tw_of {w W : World} {n0 B : Nat} {H M : List Ob} (h : Pt w B H H.length M W) (hw : B < w.heap.size) (hB : n0 ≤ B) : Tw n0 B H M W :=
  ⟨h.len, fun j h1 h2 => by obtain ⟨g, g1, g2, g3⟩ := (h.done j h1 h2 h2).out; exact ⟨g, by omega, g2, g3⟩, h.b, hB⟩
theorem Tw.other {n0 B r : Nat} {H M : List Ob} {W W' : World} (h : Tw n0 B H M W) (hO : ∀ j, j ≠ r → W'.heap[j]? = W.heap[j]?) (hr : r < B) : Tw n0 B H M W' :=
  ⟨h.len, fun j h1 h2 => by obtain ⟨g, g1, g2, g3⟩ := (h.all j h1 h2).out; exact ⟨g, g1, g2, (hO g (by omega)).trans g3⟩, (hO B (by omega)).trans h.b, h.le⟩
theorem ptin_of {w W : World} {A : Option Addr} {H : List Ob} {cap B : Nat} (hH : HIn w A H cap) (hp : ∀ o ∈ H, o.props.length ≤ 100000) (hb : Below w.heap.size w W) (hB : w.heap.size ≤ B) (hgb : W.heap[B]? = some (.cells (hcl H).toArray 54 (0, 0))) : PtIn W B H := by
  refine ⟨lt_blk hgb, hgb, fun i hi => ⟨fun hpos => ?_, hp _ (List.getElem_mem hi)⟩, by have := hH.few; omega⟩
  obtain ⟨_, _, _, _, hr⟩ := hH.at hi
  obtain ⟨a, h1, h2, h3⟩ := hr hpos
  exact ⟨a, h1, Nat.lt_of_lt_of_le h2 hB, fun k hk j u hu => (hb.cell (by rw [add_blk]; exact h2)).trans (h3 k hk j u hu)⟩
def TwTo (H : List Ob) (w : World) (e : Ending) (w' : World) : Prop := ∃ B M, e = .returned (.agg #[.slice (some ⟨B, 0, none⟩) H.length H.length]) ∧ Tw w.heap.size B H M w' ∧ Below w.heap.size w w'
set_option maxHeartbeats 4000000 in
set_option maxRecDepth 1000000 in
theorem Twin_h (A : Option Addr) (H : List Ob) (cap : Nat) (w : World) (hH : HIn w A H cap) (hp : ∀ o ∈ H, o.props.length ≤ 100000) : Calls Tryz.prog 30 #[.agg #[.slice A H.length cap]] w (TwTo H w) := by
  obtain ⟨b1, b2⟩ := vblk2 (w := w) (Below.refl _ ((w.alloc (.cells #[.slice A H.length cap] 49)).alloc (.cells #[.slice none 0 0] 49)))
  have hB0 : Below w.heap.size w ((w.alloc (.cells #[.slice A H.length cap] 49)).alloc (.cells #[.slice none 0 0] 49)) := vafter (vzero _ _)
  have hsz0 : ((w.alloc (.cells #[.slice A H.length cap] 49)).alloc (.cells #[.slice none 0 0] 49)).heap.size = w.heap.size + 2 := by simp
  have q0 : ((w.alloc (.cells #[.slice A H.length cap] 49)).alloc (.cells #[.slice none 0 0] 49)).cell? ⟨w.heap.size, 0, none⟩ = some (.slice A H.length cap) := (vcells b1 0).trans rfl
  have HW0 := Lib.hid (And.intro hB0 (And.intro b2 hsz0))
  have hfew := hH.few
  have cC := copiedO_h A H.length cap (hcl H) _ (hrow_r18 (hH.up hB0).row) (by omega)
  have hi1 : ∀ v : Value, (Tryz.prog.info? 49).map (·.size) = some (#[v] : Array Value).size := fun v => hsz
  have hc1 : ∀ B : Nat, (#[Value.slice (some ⟨B, 0, none⟩) H.length H.length] : Array Value).all (·.oneCell') = true := fun B => cells_one (l := [.slice (some ⟨B, 0, none⟩) H.length H.length]) rfl
  have HH := Lib.hid hH
  clear b1 hH
  go_enter Tryz.func30, Tryz.ntmps30
  go_wp2_with (first
    | (go_at_call 57; (with_reducible refine cC.mono ?_); rintro e W1 ⟨B, rfl, hB, hgb, h9⟩; have hb1 := vb hB0 h9; have hlB : w.heap.size + 2 ≤ B := (by omega); have hPI := ptin_of HH.out hp hb1 (by omega) hgb; have hr1 := (h9.block _ (lt_blk b2)).trans b2)
    | (go_at_call 58; (with_reducible refine (part_h B H.length H _ hPI).mono ?_); rintro e W2 ⟨rfl, M, hPt⟩; have HT := Lib.hid (tw_of (n0 := w.heap.size) hPt (lt_blk hgb) (by omega)); have hb2 := hb1.trans (hPt.below.mono (show w.heap.size ≤ B by omega)); have hr2 := (hPt.below.block (w.heap.size + 1) (by omega)).trans hr1; clear hPt)
    | ((with_reducible refine t_store rfl rfl rfl rfl hr2 (hi1 _) ?_ (hc1 B) hb2 (Nat.le_succ _) ?_); (rfl); intro W3 hb3 hW3 hO3 _))
  exact h_end Tryz.results30 rfl hW3 ⟨B, M, rfl, HT.out.other hO3 (by omega), hb3⟩
end Go.Proofs.YtbeggameiedjgaaGreatDoor.S
/-
  heap.with: a twin of a heap with an object in a place, or behind the others.
-/
namespace Go.Proofs.YtbeggameiedjgaaGreatDoor.S
open Go.RowKit Go.Lib Fl
open Classical

theorem run_copy_18g (w : World) (dT sT ty e t : TypeId) (g n d cap : Nat) (A : Option Addr) (cs : List Value) (cur : Array Value) (hT : Tryz.prog.underlying dT = some (.slice e)) (hs : (Tryz.prog.info? e).map (·.size) = some 18)
    (hg : w.heap[g]? = some (.cells cur t (0, 0))) (hcur : cur.size = d * 18) (hnd : n ≤ d) (hR : R18 w A n cs) :
    ∃ W : World, (Builtin.copy_ #[dT, sT] ty #[.slice (some ⟨g, 0, none⟩) d d, .slice A n cap]).run Tryz.prog w = .ok (goInt n) W ∧ (∀ B w0, Below B w0 w → B ≤ g → Below B w0 W) ∧ W.heap[g]? = some (.cells (cs ++ cur.toList.drop (n * 18)).toArray t (0, 0)) ∧ (∀ j, j ≠ g → W.heap[j]? = w.heap[j]?) := by
  obtain ⟨hl, h1, hr⟩ := hR
  have hmin : Nat.min n d = n := Nat.min_eq_left hnd
  rcases Nat.eq_zero_or_pos n with hz | hp
  · subst hz
    obtain rfl : cs = [] := List.eq_nil_of_length_eq_zero (by omega)
    refine ⟨w, ?_, fun _ _ h _ => h, by simpa using hg, fun _ _ => rfl⟩
    cases hq : Tryz.prog.info? e with
    | none => simp [hq] at hs
    | some i => cases A <;> simp [Builtin.copy_, run_underlying hT, Builtin.lenOf, Builtin.firstCells, sizeOf, typeInfo, hq, storeCells, loadCells, loadCellsFrom]
  · obtain ⟨ad, rfl, hsrc⟩ := hr hp
    have hll := run_loadCells_list (P := Tryz.prog) w ad cs hsrc
    have hst := run_storeCells_at Tryz.prog g 0 t cs 0 cur w hg (by simp; omega) h1
    rw [hl] at hll
    have ee : (cur.toList.take 0 ++ cs ++ cur.toList.drop (0 + cs.length)).toArray = (cs ++ cur.toList.drop (n * 18)).toArray := by
      rw [List.take_zero, List.nil_append, Nat.zero_add, hl]
    refine ⟨w.setRow g (cs ++ cur.toList.drop (n * 18)).toArray, ?_, fun _ _ h h2 => below_row h h2 _, setRow_heap _ _ _ _ _ _ hg, fun j hj => setRow_other w g j _ hj⟩
    cases hq : Tryz.prog.info? e with
    | none => simp [hq] at hs
    | some i =>
      have hi : i.size = 18 := by simpa [hq] using hs
      have hmin2 : min n d = n := hmin
      simp [Builtin.copy_, run_underlying hT, Builtin.lenOf, Builtin.firstCells, sizeOf, typeInfo, hq, hi, hmin2, hll]
      rw [hst]
      show Result.ok (goInt ↑n) (w.setRow g (cur.toList.take 0 ++ cs ++ cur.toList.drop (0 + cs.length)).toArray) = _
      rw [ee]
section
variable {ops : Array Oper} {rest : List Oper} {o : Oper} {a : Act} {w : World} {Q : Exit → Act → World → Prop} {x y : Operand} {g : Nat} {t : TypeId}
/-- an object in a block of the call's own, loaded -/
theorem ob_load {ob : Ob} (hw : Region.wanted o (yielded ops a.tmps) = true) (ho : o.op = .load 54 x) (hx : a.eval x = .pointer (some ⟨g, 0, none⟩)) (hg : w.heap[g]? = some (.cells (obA ob) t (0, 0)))
    (h : wpList Tryz.prog ops Q rest (a.put o.dst (.agg (obA ob))) w) : wpList Tryz.prog ops Q (o :: rest) a w :=
  wpList_wanted hw fun _ hK => wp_load_row 54 x ho g hx t _ (0, 0) _ hg Tryz.underlying54 rfl osz (hK _ _ h)
/-- an object stored into a row of the call's own -/
theorem ob_store {ob : Ob} {k : Nat} {cur : List Value} (hgd : o.guard = none) (ho : o.op = .store 54 x y) (hx : a.eval x = .pointer (some ⟨g, k, none⟩)) (hy : a.eval y = .agg (obA ob)) (hg : w.heap[g]? = some (.cells cur.toArray t (0, 0))) (hk : k + 18 ≤ cur.length)
    (h : ∀ W : World, (∀ B w0, Below B w0 w → B ≤ g → Below B w0 W) → W.heap[g]? = some (.cells (cur.take k ++ ocl ob ++ cur.drop (k + 18)).toArray t (0, 0)) → (∀ j, j ≠ g → W.heap[j]? = w.heap[j]?) → W.heap.size = w.heap.size → wpList Tryz.prog ops Q rest (a.put o.dst undef) W) : wpList Tryz.prog ops Q (o :: rest) a w := by
  refine wpList_plain hgd fun K hK => ?_
  have hst := run_storeCells_at Tryz.prog g k t (ocl ob) 0 cur.toArray w hg (by rw [ocl_len]; simpa using hk) (fun v hv => by have := obA_one ob; rw [obA, List.all_toArray, List.all_eq_true] at this; exact this v hv)
  rw [ocl_len, Nat.add_zero] at hst
  have e := h (w.setRow g (cur.take k ++ ocl ob ++ cur.drop (k + 18)).toArray) (fun _ _ h1 h2 => below_row h1 h2 _) (setRow_heap _ _ _ _ _ _ hg) (fun j hj => setRow_other w g j _ hj) (by simp [World.setRow])
  have hrun : (storeVar 54 ⟨g, k, none⟩ (.agg (obA ob))).run Tryz.prog w = .ok () (w.setRow g (cur.take k ++ ocl ob ++ cur.drop (k + 18)).toArray) := by
    have hq := osz
    cases hq2 : Tryz.prog.info? 54 with
    | none => rw [hq2] at hq; simp at hq
    | some i =>
      have hs : (obA ob).size = i.size := by rw [hq2] at hq; simp at hq; rw [obA_size]; omega
      have e2 : (obA ob).toList = ocl ob := rfl
      rw [← e2] at hst ⊢
      simp [storeVar, sizeOf, typeInfo, hq2, Value.cells, hs, hst]
  unfold Oper.wp execOp
  simp only [ho, hx, hy, Instr.storeAt, Instr.sureAddr, Sem.run_bind, Sem.run_pure, Result.andThen_ok, hrun]
  exact hK _ _ e
end
def hput (H : List Ob) (n : Nat) (o : Ob) : List Ob := if n < H.length then H.set n o else H ++ [o]
theorem hcl_app (H M : List Ob) : hcl (H ++ M) = hcl H ++ hcl M := List.flatMap_append
theorem hcl_take : ∀ (H : List Ob) (n : Nat), (hcl H).take (n * 18) = hcl (H.take n)
  | [], n => by rw [List.take_nil]; exact List.take_nil
  | x :: H, 0 => by rw [Nat.zero_mul]; rfl
  | x :: H, n + 1 => by
    rw [hcl_cons, List.take_succ_cons, hcl_cons, List.take_append, ocl_len, show (n + 1) * 18 - 18 = n * 18 by omega, hcl_take H n, List.take_of_length_le (by rw [ocl_len]; omega)]
theorem hcl_drop : ∀ (H : List Ob) (n : Nat), (hcl H).drop (n * 18) = hcl (H.drop n)
  | [], n => by rw [List.drop_nil]; exact List.drop_nil
  | x :: H, 0 => by rw [Nat.zero_mul]; rfl
  | x :: H, n + 1 => by
    rw [hcl_cons, List.drop_succ_cons, List.drop_append, ocl_len, show (n + 1) * 18 - 18 = n * 18 by omega, hcl_drop H n, List.drop_of_length_le (by rw [ocl_len]; omega), List.nil_append]
theorem hcl_put (H : List Ob) (n : Nat) (o : Ob) (h : n < H.length) : (hcl H).take (n * 18) ++ ocl o ++ (hcl H).drop (n * 18 + 18) = hcl (H.set n o) := by
  rw [hcl_take, show n * 18 + 18 = (n + 1) * 18 by omega, hcl_drop, List.set_eq_take_append_cons_drop, if_pos h, hcl_app, hcl_cons, List.append_assoc]
theorem hcl_new (H : List Ob) (o : Ob) (l : List Value) (hl : l.length = 18) : (hcl H ++ l).take (H.length * 18) ++ ocl o ++ (hcl H ++ l).drop (H.length * 18 + 18) = hcl (H ++ [o]) := by
  rw [List.take_left' (hcl_len H), List.drop_of_length_le (by rw [List.length_append, hcl_len, hl]; exact Nat.le_refl _), List.append_nil, hcl_app, hcl_cons]
  exact congrArg _ (List.append_nil _).symm
theorem hput_len (H : List Ob) (n : Nat) (o : Ob) (h : n < H.length) : (hput H n o).length = H.length := by unfold hput; rw [if_pos h, List.length_set]
theorem ptin_put {w W : World} {A : Option Addr} {H : List Ob} {cap B n : Nat} {o : Ob} (hH : HIn w A H cap) (hp : ∀ o ∈ H, o.props.length ≤ 100000) (ho : PR w o.pa o.props) (hop : o.props.length ≤ 100000) (hb : Below w.heap.size w W) (hB : w.heap.size ≤ B) (hgb : W.heap[B]? = some (.cells (hcl (hput H n o)).toArray 54 (0, 0))) : PtIn W B (hput H n o) := by
  have one : ∀ (x : Ob), PR w x.pa x.props → x.props.length ≤ 100000 → PRB B W x.pa x.props ∧ x.props.length ≤ 100000 := fun x hx h5 => ⟨fun hpos => by
    obtain ⟨a, h1, h2, h3⟩ := hx hpos
    exact ⟨a, h1, Nat.lt_of_lt_of_le h2 hB, fun k hk j u hu => (hb.cell (by rw [add_blk]; exact h2)).trans (h3 k hk j u hu)⟩, h5⟩
  have all : ∀ x ∈ H, PR w x.pa x.props := fun x hx => by
    obtain ⟨i, hi, rfl⟩ := List.getElem_of_mem hx
    exact (hH.at hi).choose_spec.2.2.2
  refine ⟨lt_blk hgb, hgb, fun i hi => ?_, ?_⟩
  · have hm := List.getElem_mem hi
    generalize (hput H n o)[i] = x at hm ⊢
    unfold hput at hm
    split at hm
    · rcases List.mem_or_eq_of_mem_set hm with h | rfl
      · exact one x (all x h) (hp x h)
      · exact one x ho hop
    · rcases List.mem_append.1 hm with h | h
      · exact one x (all x h) (hp x h)
      · obtain rfl := List.mem_singleton.1 h
        exact one x ho hop
  · have := hH.few
    unfold hput
    split
    · rw [List.length_set]; omega
    · rw [List.length_append]; simp; omega
end Go.Proofs.YtbeggameiedjgaaGreatDoor.S
/-
  heap.with: the walk.
-/
namespace Go.Proofs.YtbeggameiedjgaaGreatDoor.S
open Go.RowKit Go.Lib Fl
open Classical

/-- a heap with an object put into it, in memory of its own -/
def WithTo (H : List Ob) (n : Nat) (o : Ob) (w : World) (e : Ending) (w' : World) : Prop := ∃ B M, e = .returned (.agg #[.slice (some ⟨B, 0, none⟩) (hput H n o).length (hput H n o).length]) ∧ Tw w.heap.size B (hput H n o) M w' ∧ Below w.heap.size w w'
theorem hput_old (H : List Ob) (n : Nat) (o : Ob) (h : n < H.length) : hput H n o = H.set n o := by unfold hput; rw [if_pos h]
theorem hput_new (H : List Ob) (o : Ob) : hput H H.length o = H ++ [o] := by unfold hput; rw [if_neg (Nat.lt_irrefl _)]
theorem objs_blk {w : World} (c : Value) (cs : Array Value) (d : Value) (t1 t2 t3 : TypeId) :
    (((w.alloc (.cells #[c] t1)).alloc (.cells cs t2)).alloc (.cells #[d] t3)).heap[w.heap.size]? = some (.cells #[c] t1 (0, 0)) ∧ (((w.alloc (.cells #[c] t1)).alloc (.cells cs t2)).alloc (.cells #[d] t3)).heap[w.heap.size + 1]? = some (.cells cs t2 (0, 0)) ∧
      (((w.alloc (.cells #[c] t1)).alloc (.cells cs t2)).alloc (.cells #[d] t3)).heap[w.heap.size + 1 + 1]? = some (.cells #[d] t3 (0, 0)) ∧ (((w.alloc (.cells #[c] t1)).alloc (.cells cs t2)).alloc (.cells #[d] t3)).heap.size = w.heap.size + 3 ∧ Below w.heap.size w (((w.alloc (.cells #[c] t1)).alloc (.cells cs t2)).alloc (.cells #[d] t3)) := by
  obtain ⟨h1, h2⟩ := vblk2 (w := w) (Below.refl _ ((w.alloc (.cells #[c] t1)).alloc (.cells cs t2)))
  have hs : ((w.alloc (.cells #[c] t1)).alloc (.cells cs t2)).heap.size = w.heap.size + 1 + 1 := by simp
  have h3 := heap_alloc_new ((w.alloc (.cells #[c] t1)).alloc (.cells cs t2)) (.cells #[d] t3)
  rw [hs] at h3
  exact ⟨vblkn (vzero _ _) h1, vblkn (vzero _ _) h2, h3, by simp, vafter (vafter (vzero _ _))⟩
theorem shape_put (H : List Ob) (n d : Nat) (o : Ob) (cur : Array Value) (hcur : cur.size = d * 18) (hd : d = (hput H n o).length) (hn : n ≤ H.length) :
    (hcl H ++ cur.toList.drop (H.length * 18)).take (n * 18) ++ ocl o ++ (hcl H ++ cur.toList.drop (H.length * 18)).drop (n * 18 + 18) = hcl (hput H n o) := by
  subst hd
  by_cases c : n < H.length
  · have e : cur.toList.drop (H.length * 18) = [] := List.drop_of_length_le (by rw [hput_len H n o c] at hcur; simp; omega)
    rw [e, List.append_nil, hcl_put H n o c, hput_old H n o c]
  · obtain rfl : n = H.length := by omega
    rw [hcl_new H o _ (by rw [hput_new, List.length_append] at hcur; simp at hcur ⊢; omega), hput_new]
set_option maxHeartbeats 4000000 in
set_option maxRecDepth 1000000 in
theorem with_h (A : Option Addr) (H : List Ob) (cap n : Nat) (o : Ob) (w : World) (hH : HIn w A H cap) (hp : ∀ o ∈ H, o.props.length ≤ 100000) (ho : PR w o.pa o.props) (hop : o.props.length ≤ 100000) (hn : n ≤ H.length) :
    Calls Tryz.prog 46 #[.agg #[.slice A H.length cap], .int .i64 n, .agg (obA o)] w (WithTo H n o w) := by
  obtain ⟨b1, b2, b3, hsz0, hB0⟩ := objs_blk (w := w) (.slice A H.length cap) (obA o) (.slice none 0 0) 49 54 49
  have q0 : (((w.alloc (.cells #[.slice A H.length cap] 49)).alloc (.cells (obA o) 54)).alloc (.cells #[.slice none 0 0] 49)).cell? ⟨w.heap.size, 0, none⟩ = some (.slice A H.length cap) := (vcells b1 0).trans rfl
  have hfew := hH.few
  have hR := fun (W : World) (hb : Below w.heap.size w W) => hrow_r18 (hH.up hb).row
  obtain ⟨d, hd⟩ : ∃ d : Nat, d = (hput H n o).length := ⟨_, rfl⟩
  have hd2 : H.length ≤ d ∧ n < d ∧ d ≤ 5001 ∧ max (H.length : Int) ((n : Int) + 1) = (d : Int) := by
    by_cases c : n < H.length
    · rw [hput_len H n o c] at hd; omega
    · obtain rfl : n = H.length := by omega
      rw [hput_new, List.length_append] at hd; simp at hd; omega
  obtain ⟨hd3, hd4, hd5, hmx⟩ := hd2
  have hl0 : (0 : Int) ≤ (n : Int) := by omega
  have hlz : (n : Int) < (d : Int) := by omega
  have hsh := fun cur hcur => shape_put H n d o cur hcur hd hn
  have hPI := fun (W : World) B (hb : Below w.heap.size w W) hB hgb => ptin_put (n := n) (W := W) (B := B) hH hp ho hop hb hB hgb
  have hi1 : ∀ v : Value, (Tryz.prog.info? 49).map (·.size) = some (#[v] : Array Value).size := fun v => hsz
  have hc1 : ∀ B : Nat, (#[Value.slice (some ⟨B, 0, none⟩) d d] : Array Value).all (·.oneCell') = true := fun B => cells_one (l := [.slice (some ⟨B, 0, none⟩) d d]) rfl
  unfold WithTo
  rw [← hd]
  have cP := fun (W : World) B cp (hb : Below w.heap.size w W) (hB : w.heap.size ≤ B) hgb => part_h B cp (hput H n o) W (hPI W B hb hB hgb)
  rw [← hd] at cP
  have hlk : ∀ cur : Array Value, cur.size = d * 18 → n * 18 + 18 ≤ (hcl H ++ cur.toList.drop (H.length * 18)).length := fun cur hc => by
    rw [List.length_append, hcl_len, List.length_drop]; simp; omega
  have hcp : ∀ W0 : World, W0.heap.size = w.heap.size + 3 → Below w.heap.size w W0 → ∀ cur : Array Value, cur.size = d * 18 → ∃ W : World, (Builtin.copy_ #[47, 47] 3 #[.slice (some ⟨w.heap.size + 3, 0, none⟩) d d, .slice A H.length cap]).run Tryz.prog (W0.alloc (.cells cur 54)) = .ok (goInt H.length) W ∧ Below w.heap.size w W ∧
      W.heap[w.heap.size + 3]? = some (.cells (hcl H ++ cur.toList.drop (H.length * 18)).toArray 54 (0, 0)) ∧ (∀ j, j ≠ w.heap.size + 3 → W.heap[j]? = (W0.alloc (.cells cur 54)).heap[j]?) := fun W0 hs hb cur hc => by
    have h4 := heap_alloc_new W0 (.cells cur 54)
    rw [hs] at h4
    obtain ⟨W, e1, e2, e3, e4⟩ := run_copy_18g (W0.alloc (.cells cur 54)) 47 47 3 54 54 (w.heap.size + 3) H.length d cap A (hcl H) cur Tryz.underlying47 osz h4 hc hd3 (hR _ (vb hb (vzero _ _)))
    exact ⟨W, e1, e2 _ _ (vb hb (vzero _ _)) (by omega), e3, e4⟩
  have HD := Lib.hid hd
  generalize hput H n o = N at *
  have hmxd := hd5
  clear hH hp ho hop hd b1
  go_enter Tryz.func46, Tryz.ntmps46
  go_wp2_with (refine c18_make Tryz.underlying47 info_o (by decide) rfl rfl rfl rfl (by omega) ?_; intro cur hcur)
  obtain ⟨W, hrun, hbW, hgW, hOW⟩ := hcp _ hsz0 hB0 cur hcur
  rw [hrun]
  have b2W := (hOW _ (by omega)).trans (vblkn (vzero _ (.cells cur 54)) b2)
  have b3W := (hOW _ (by omega)).trans (vblkn (vzero _ (.cells cur 54)) b3)
  have hk := hlk cur hcur
  have hsc := hsh cur hcur
  have HQ := Lib.hid q0
  clear q0 b2 b3 hOW hrun
  go_wp2_with (first
    | ((with_reducible refine ob_load ?_ rfl rfl b2W ?_); (rfl))
    | ((with_reducible refine ob_store rfl rfl rfl rfl hgW hk ?_); intro W3 hb3 hg3 hO3 hs3; rw [hsc] at hg3; have hb4 := hb3 _ _ hbW (by omega); have b34 := (hO3 _ (by omega)).trans b3W)
    | (go_at_call 58; (with_reducible refine (cP _ _ _ hb4 (by omega) hg3).mono ?_); rintro e W5 ⟨rfl, M, hPt⟩; rw [HD.out] at hPt; have HT := Lib.hid (tw_of (n0 := w.heap.size) hPt (lt_blk hg3) (by omega)); have hb5 := hb4.trans (hPt.below.mono (by omega)); have b35 := (hPt.below.block (w.heap.size + 1 + 1) (by omega)).trans b34; clear hPt)
    | ((with_reducible refine t_store rfl rfl rfl rfl b35 (hi1 _) ?_ (hc1 _) hb5 (by omega) ?_); (rfl); intro W6 hb6 hW6 hO6 _))
  exact h_end Tryz.results46 rfl hW6 ⟨_, M, rfl, HT.out.other hO6 (by omega), hb6⟩
end Go.Proofs.YtbeggameiedjgaaGreatDoor.S
