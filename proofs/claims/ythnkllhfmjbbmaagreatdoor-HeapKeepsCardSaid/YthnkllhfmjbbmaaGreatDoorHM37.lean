/-
  heap.values$1: the iterator once more, its values told to be the object's own.
-/
import Derived.Test.YthnkllhfmjbbmaaGreatDoorHM29
import Derived.Test.YthnkllhfmjbbmaaGreatDoorHM36
import Derived.Test.YthnkllhfmjbbmaaGreatDoorHM30
namespace Go.Proofs.YthnkllhfmjbbmaaGreatDoor.S
open Go.RowKit Go.Lib Fl Go.Shelf
open Classical
attribute [local go_sem] Oper.semAt_some

abbrev Vof (o : Ob) := { v : Vq // v.In ∧ v ∈ valsO o }
def Vof.out {o : Ob} (v : Vof o) : Vq := v.1
def encJ {o : Ob} (v : Vof o) : Array Value := encV v.1
theorem vm_p (o : Ob) : o.proto ∈ valsO o := by unfold valsO; simp
theorem vm_t (o : Ob) : o.target ∈ valsO o := by unfold valsO; simp
theorem vm_h (o : Ob) : o.handler ∈ valsO o := by unfold valsO; simp
theorem vm_in (o : Ob) (i : Nat) (h : i < o.props.length) (v : Vq) (hv : v ∈ [o.props[i].d.a, o.props[i].d.b, o.props[i].d.c]) : v ∈ valsO o := by
  unfold valsO
  exact List.mem_append_right _ (List.mem_flatMap.2 ⟨o.props[i], List.getElem_mem h, hv⟩)
theorem vm_a (o : Ob) (i : Nat) (h : i < o.props.length) : o.props[i].d.a ∈ valsO o := vm_in o i h _ (by simp)
theorem vm_b (o : Ob) (i : Nat) (h : i < o.props.length) : o.props[i].d.b ∈ valsO o := vm_in o i h _ (by simp)
theorem vm_c (o : Ob) (i : Nat) (h : i < o.props.length) : o.props[i].d.c ∈ valsO o := vm_in o i h _ (by simp)
set_option maxRecDepth 100000 in
set_option maxHeartbeats 2000000 in
theorem values2_in (F : Fence) (n : Nat) (hf : F.fn 114) (hro : F.round = none) (hn : 1 ≤ n) (l Bn : Nat) (w : World) (A : Addr) (o : Ob) (J Jx : List (Vof o) → World → Prop)
    (hO : OF w A o) (hP : PR w o.pa o.props) (hin : o.In) (hfew : o.props.length < 1000000000000)
    (hY : ∀ (pre : List (Vof o)) (x : Vof o) W, J pre W → pre.length < (valsO o).length → YieldAt F (n - 1) Tryz.prog l (encJ x) W fun e W' =>
      (e = .returned (.bool true) ∧ J (pre ++ [x]) W' ∧ KB w.heap.size Bn W W') ∨ (e = .returned (.bool false) ∧ Jx (pre ++ [x]) W'))
    (W : World) (hS : Is w Bn A W) (h0 : J [] W) :
    CallsIn F n Tryz.prog 114 #[.func (.yield l) #[] #[], .pointer (some ⟨Bn, 0, none⟩)] W fun e W' => (∃ v, e = .returned v) ∧
      ((∃ ys : List (Vof o), ys.map Vof.out = valsO o ∧ J ys W') ∨ (∃ pre : List (Vof o), pre.map Vof.out <+: valsO o ∧ Jx pre W')) := by
  have hlen : (valsO o).length = 3 + 3 * o.props.length := by rw [← vals_all]; exact vals_len o _ (Nat.le_refl _)
  refine callsIn_of_wp Tryz.func114 rfl hf ?_ hro
  simp only [Tryz.ntmps114, List.size_toArray, List.length_cons, List.length_nil, Nat.reduceAdd, Nat.reduceSub, Array.replicate_succ, Array.replicate_zero, List.push_toArray, List.append_toArray, List.nil_append, List.cons_append]
  obtain ⟨f1, t1, a1, b1, hy1, hR1⟩ := hY [] ⟨o.proto, hin.proto, vm_p o⟩ W h0 (by rw [hlen]; exact lt_0 _)
  dsimp only [encJ, encV] at hy1
  have q0 := hS.c
  have o1 := hO.kw hS.kw
  have p0 := o1.proto.k
  have p1 := o1.proto.x
  have p2 := o1.proto.s
  have p3 := o1.proto.r
  have hl := o1.lt
  gi_wp2
  refine hR1.mono ?_
  rintro e W1 (⟨rfl, hJ1, hk1⟩ | ⟨rfl, hx1⟩)
  rotate_left
  · gi_wp2
    refine ⟨fun _ h => (by cases h), ?_⟩
    gi_wp2
    refine bodyPost_ret (results_none rfl _ _ _) rfl ?_
    exact ⟨⟨_, rfl⟩, .inr ⟨[⟨o.proto, hin.proto, vm_p o⟩], pre_1 o, hx1⟩⟩
  have hS1 := hS.kb hk1
  clear q0 o1 p0 p1 p2 p3 hl hk1 hy1 hR1
  obtain ⟨f2, t2, a2, b2, hy2, hR2⟩ := hY [⟨o.proto, hin.proto, vm_p o⟩] ⟨o.target, hin.target, vm_t o⟩ W1 hJ1 (by rw [hlen]; exact lt_1 _)
  dsimp only [encJ, encV] at hy2
  have q0 := hS1.c
  have o1 := hO.kw hS1.kw
  have p0 := o1.target.k
  have p1 := o1.target.x
  have p2 := o1.target.s
  have p3 := o1.target.r
  have hl := o1.lt
  gi_wp2
  refine hR2.mono ?_
  rintro e W2 (⟨rfl, hJ2, hk2⟩ | ⟨rfl, hx2⟩)
  rotate_left
  · gi_wp2
    refine ⟨fun _ h => (by cases h), ?_⟩
    gi_wp2
    refine bodyPost_ret (results_none rfl _ _ _) rfl ?_
    exact ⟨⟨_, rfl⟩, .inr ⟨[⟨o.proto, hin.proto, vm_p o⟩, ⟨o.target, hin.target, vm_t o⟩], pre_2 o, hx2⟩⟩
  have hS2 := hS1.kb hk2
  clear q0 o1 p0 p1 p2 p3 hl hk2 hy2 hR2
  obtain ⟨f3, t3, a3, b3, hy3, hR3⟩ := hY [⟨o.proto, hin.proto, vm_p o⟩, ⟨o.target, hin.target, vm_t o⟩] ⟨o.handler, hin.handler, vm_h o⟩ W2 hJ2 (by rw [hlen]; exact lt_2 _)
  dsimp only [encJ, encV] at hy3
  have q0 := hS2.c
  have o1 := hO.kw hS2.kw
  have p0 := o1.handler.k
  have p1 := o1.handler.x
  have p2 := o1.handler.s
  have p3 := o1.handler.r
  have hl := o1.lt
  gi_wp2
  refine hR3.mono ?_
  rintro e W3 (⟨rfl, hJ3, hk3⟩ | ⟨rfl, hx3⟩)
  rotate_left
  · gi_wp2
    refine bodyPost_ret (results_none rfl _ _ _) rfl ?_
    exact ⟨⟨_, rfl⟩, .inr ⟨[⟨o.proto, hin.proto, vm_p o⟩, ⟨o.target, hin.target, vm_t o⟩, ⟨o.handler, hin.handler, vm_h o⟩], pre_3 o, hx3⟩⟩
  have hS3 := hS2.kb hk3
  clear q0 o1 p0 p1 p2 p3 hl hk3 hy3 hR3
  have q0 := hS3.c
  have o1 := hO.kw hS3.kw
  have p0 := o1.props
  have hl := o1.lt
  gi_wp2
  clear q0 o1 p0 hl
  gi_loopw [35] (fun s wr => ∃ (i : Nat) (pre : List (Vof o)), s = .int .i64 (i : Int) ∧ i ≤ o.props.length ∧ pre.map Vof.out = valsN o i ∧ J pre wr ∧ Is w Bn A wr) (fun s _ => o.props.length - (intOf s).toNat)
  case atStart => exact ⟨0, [⟨o.proto, hin.proto, vm_p o⟩, ⟨o.target, hin.target, vm_t o⟩, ⟨o.handler, hin.handler, vm_h o⟩], rfl, Nat.zero_le _, rfl, hJ3, hS3⟩
  case round =>
    obtain ⟨i, pre, rfl, hi, hm, hJ, hSr⟩ := hrel
    by_cases hlt : i < o.props.length
    · have hlz : (i : Int) < (o.props.length : Int) := by omega
      have hl0 : (0 : Int) ≤ (i : Int) := by omega
      have hpl : pre.length = 3 + 3 * i := by have e := congrArg List.length hm; rw [List.length_map, vals_len o i hi] at e; exact e
      obtain ⟨a, hpa, _, _⟩ := hP (by omega)
      have HPA := Lib.hid hpa
      clear hpa
      have hpin := hin.props o.props[i] (List.getElem_mem hlt)
      obtain ⟨f1, t1, a1, b1, hy1, hR1⟩ := hY (pre) ⟨o.props[i].d.a, hpin.2.a, vm_a o i hlt⟩ wr hJ (by rw [hlen]; exact len_0 hpl hlt)
      dsimp only [encJ, encV] at hy1
      have q0 := hSr.c
      have o1 := hO.kw hSr.kw
      have p4 := o1.props
      rw [HPA.out] at p4
      have hv := pr_vals (HPA.out ▸ pr_kw hP hSr.kw : PR wr (some a) o.props) hlt
      have p0 := hv.1.k
      have p1 := hv.1.x
      have p2 := hv.1.s
      have p3 := hv.1.r
      have hl := o1.lt
      have hl2 := hv.1.lt
      dsimp only at hl2 p0 p1 p2 p3
      gi_wp2
      refine hR1.mono ?_
      rintro e W4 (⟨rfl, hJ4, hk4⟩ | ⟨rfl, hx4⟩)
      rotate_left
      · gi_wp2
        refine ⟨fun _ h => (by cases h), ?_⟩
        gi_wp2
        refine bodyPost_ret (results_none rfl _ _ _) rfl ?_
        exact ⟨⟨_, rfl⟩, .inr ⟨pre ++ [⟨o.props[i].d.a, hpin.2.a, vm_a o i hlt⟩], by simp only [List.map_append, List.map_cons, List.map_nil, hm]; exact pre_n1 o i hlt, hx4⟩⟩
      have hS4 := hSr.kb hk4
      clear q0 o1 p0 p1 p2 p3 p4 hl hl2 hv hk4 hy1 hR1
      obtain ⟨f2, t2, a2, b2, hy2, hR2⟩ := hY (pre ++ [⟨o.props[i].d.a, hpin.2.a, vm_a o i hlt⟩]) ⟨o.props[i].d.b, hpin.2.b, vm_b o i hlt⟩ W4 hJ4 (by rw [hlen]; exact len_1 hpl hlt)
      dsimp only [encJ, encV] at hy2
      have q0 := hS4.c
      have o1 := hO.kw hS4.kw
      have p4 := o1.props
      rw [HPA.out] at p4
      have hv := pr_vals (HPA.out ▸ pr_kw hP hS4.kw : PR W4 (some a) o.props) hlt
      have p0 := hv.2.1.k
      have p1 := hv.2.1.x
      have p2 := hv.2.1.s
      have p3 := hv.2.1.r
      have hl := o1.lt
      have hl2 := hv.1.lt
      dsimp only at hl2 p0 p1 p2 p3
      gi_wp2
      refine hR2.mono ?_
      rintro e W5 (⟨rfl, hJ5, hk5⟩ | ⟨rfl, hx5⟩)
      rotate_left
      · gi_wp2
        refine ⟨fun _ h => (by cases h), ?_⟩
        gi_wp2
        refine bodyPost_ret (results_none rfl _ _ _) rfl ?_
        exact ⟨⟨_, rfl⟩, .inr ⟨pre ++ [⟨o.props[i].d.a, hpin.2.a, vm_a o i hlt⟩] ++ [⟨o.props[i].d.b, hpin.2.b, vm_b o i hlt⟩], by simp only [List.map_append, List.map_cons, List.map_nil, hm]; exact pre_n2 o i hlt, hx5⟩⟩
      have hS5 := hS4.kb hk5
      clear q0 o1 p0 p1 p2 p3 p4 hl hl2 hv hk5 hy2 hR2
      obtain ⟨f3, t3, a3, b3, hy3, hR3⟩ := hY (pre ++ [⟨o.props[i].d.a, hpin.2.a, vm_a o i hlt⟩] ++ [⟨o.props[i].d.b, hpin.2.b, vm_b o i hlt⟩]) ⟨o.props[i].d.c, hpin.2.c, vm_c o i hlt⟩ W5 hJ5 (by rw [hlen]; exact len_2 hpl hlt)
      dsimp only [encJ, encV] at hy3
      have q0 := hS5.c
      have o1 := hO.kw hS5.kw
      have p4 := o1.props
      rw [HPA.out] at p4
      have hv := pr_vals (HPA.out ▸ pr_kw hP hS5.kw : PR W5 (some a) o.props) hlt
      have p0 := hv.2.2.k
      have p1 := hv.2.2.x
      have p2 := hv.2.2.s
      have p3 := hv.2.2.r
      have hl := o1.lt
      have hl2 := hv.1.lt
      dsimp only at hl2 p0 p1 p2 p3
      gi_wp2
      refine hR3.mono ?_
      rintro e W6 (⟨rfl, hJ6, hk6⟩ | ⟨rfl, hx6⟩)
      rotate_left
      · gi_wp2
        refine bodyPost_ret (results_none rfl _ _ _) rfl ?_
        exact ⟨⟨_, rfl⟩, .inr ⟨pre ++ [⟨o.props[i].d.a, hpin.2.a, vm_a o i hlt⟩] ++ [⟨o.props[i].d.b, hpin.2.b, vm_b o i hlt⟩] ++ [⟨o.props[i].d.c, hpin.2.c, vm_c o i hlt⟩], by simp only [List.map_append, List.map_cons, List.map_nil, hm]; exact pre_n3 o i hlt, hx6⟩⟩
      have hS6 := hS5.kb hk6
      clear q0 o1 p0 p1 p2 p3 p4 hl hl2 hv hk6 hy3 hR3
      gi_wp2
      go_roundw
      case rel =>
        exact ⟨i + 1, pre ++ [⟨o.props[i].d.a, hpin.2.a, vm_a o i hlt⟩] ++ [⟨o.props[i].d.b, hpin.2.b, vm_b o i hlt⟩] ++ [⟨o.props[i].d.c, hpin.2.c, vm_c o i hlt⟩], by congr 1, by omega, by simp only [List.map_append, List.map_cons, List.map_nil, hm]; exact (vals_step o i hlt).symm, hJ6, hS6⟩
      case measure => simp [intOf]; omega
    · have hlz : ¬ (i : Int) < (o.props.length : Int) := by omega
      obtain rfl : i = o.props.length := by omega
      gi_wp2
      go_end0
      exact ⟨⟨_, rfl⟩, .inl ⟨pre, by rw [hm, vals_all], hJ⟩⟩
/-- the iterator's contract -/
theorem values_stops2 (F : Fence) (n : Nat) (hf : F.fn 114) (hro : F.round = none) (hn : 1 ≤ n) (Bn : Nat) (w W0 : World) (A : Addr) (o : Ob) (hO : OF w A o) (hP : PR w o.pa o.props) (hin : o.In) (hfew : o.props.length < 1000000000000) (hS : Is w Bn A W0) :
    SeqStopsK F n Tryz.prog 114 #[.pointer (some ⟨Bn, 0, none⟩)] (encJ (o := o)) (KB w.heap.size Bn) (fun ys : List (Vof o) => ys.map Vof.out = valsO o) (fun pre : List (Vof o) => pre.map Vof.out <+: valsO o) (valsO o).length W0 := fun l J Jx W hW _ _ hY h0 =>
  values2_in F n hf hro hn l Bn w A o J Jx hO hP hin hfew hY W (hS.kb (KB.of_below hW)) h0
end Go.Proofs.YthnkllhfmjbbmaaGreatDoor.S
/-
  heap.Check: any heap.
-/
namespace Go.Proofs.YthnkllhfmjbbmaaGreatDoor.S
open Go.RowKit Go.Lib Fl
open Classical

theorem proto_ok {H : List Ob} (h : ∀ i (hi : i < H.length), mayB H H[i] i = true) : ProtoOk H := fun i hi ho => by
  have hb := h i hi
  unfold mayB at hb
  simp only [Bool.and_eq_true] at hb
  have hh := List.all_eq_true.1 hb.2.2.1 H[i].proto (by unfold valsO; simp)
  have h0 := holds_ref hh ho
  obtain ⟨m, hm⟩ := Int.eq_ofNat_of_zero_le h0
  refine ⟨m, hm, ?_⟩
  unfold holdsB at hh
  rw [Bool.and_eq_true, ho, Bool.not_true, Bool.false_or] at hh
  have hr := hh.2
  unfold refB at hr
  rw [hm, Int.toNat_natCast] at hr
  cases e2 : H[m]? with
  | none => rw [e2] at hr; cases hr
  | some u => exact (List.getElem?_eq_some_iff.1 e2).1
theorem chk_many {H : List Ob} (h : 4096 < H.length) : chkH H = 9 := by
  unfold chkH mayH
  rw [decide_eq_false (by omega)]; rfl
theorem chk_bad {H : List Ob} {i : Nat} (h : i < H.length) (e : mayB H H[i] i = false) : chkH H = 9 := by
  unfold chkH
  cases hm : mayH H with
  | false => rfl
  | true => rw [(mayH_iff.1 hm).2.1 i h] at e; cases e
theorem chk_loop {H : List Ob} (h : loopsB H = true) : chkH H = 9 := by
  unfold chkH
  cases hm : mayH H with
  | false => rfl
  | true => rw [(mayH_iff.1 hm).2.2] at h; cases h
theorem chk_ok {H : List Ob} (h : mayH H = true) : chkH H = 0 := by unfold chkH; rw [h]; rfl
theorem chk_zero {H : List Ob} : chkH H = 0 ↔ mayH H = true := by
  unfold chkH
  cases mayH H with
  | true => exact ⟨fun _ => rfl, fun _ => rfl⟩
  | false => exact ⟨fun h => absurd (show (9 : Int) = 0 from h) (by decide), fun h => by cases h⟩
set_option maxHeartbeats 4000000 in
set_option maxRecDepth 1000000 in
theorem Check_h (A : Option Addr) (H : List Ob) (cap : Nat) (w : World) (hH : HIn w A H cap) (htab : TabHere w) : Calls Tryz.prog 20 #[.agg #[.slice A H.length cap]] w fun e w' => e = .returned (.int .i64 (chkH H)) ∧ Below w.heap.size w w' := by
  have HS := Lib.hid (hb_start w A H.length cap)
  have q4 := HS.out.h
  by_cases hm : 4096 < H.length
  · rw [chk_many hm]
    have hz : (4096 : Int) < (H.length : Int) := by omega
    go_enter Tryz.func20, Tryz.ntmps20
    go_wp2
    go_ret
    exact ⟨rfl, HS.out.below⟩
  · have hz : ¬ (4096 : Int) < (H.length : Int) := by omega
    have cM := fun W (hb : Below w.heap.size w W) i (hi : i < H.length) => may_h A H cap i W (hH.up hb) hi (tab_up htab hb)
    have cL := fun W (hb : Below w.heap.size w W) (hp : ProtoOk H) => loops_h A H cap W (hH.up hb) hp
    clear hH htab
    go_enter Tryz.func20, Tryz.ntmps20
    go_wp2
    go_loopg [11] H.length (fun kx s11 wr => ∃ i : Nat, s11 = .int .i64 i ∧ i + kx = H.length ∧ Hid (Hb w A H.length cap wr ∧ ∀ j (hj : j < H.length), j < i → mayB H H[j] j = true))
    case atStart => exact ⟨0, rfl, by omega, Lib.hid ⟨HS.out, fun j _ h => absurd h (Nat.not_lt_zero j)⟩⟩
    case round =>
      obtain ⟨i, rfl, hik, HR⟩ := hrel
      have HY := Lib.hid HR.out.1
      have q5 := HR.out.1.h
      cases gk with
      | zero =>
        obtain rfl : i = H.length := by omega
        have hall : ∀ j (hj : j < H.length), mayB H H[j] j = true := fun j hj => HR.out.2 j hj hj
        have hp := proto_ok hall
        cases hl : loopsB H with
        | true =>
          rw [hl] at cL
          go_wp2_with (go_at_call 45; (with_reducible refine (cL _ HY.out.below hp).mono ?_); rintro e w1 ⟨rfl, h9⟩; have HY := Lib.hid (HY.out.up h9); clear h9)
          go_ret
          exact ⟨by rw [chk_loop hl] <;> rfl, HY.out.below⟩
        | false =>
          rw [hl] at cL
          go_wp2_with (go_at_call 45; (with_reducible refine (cL _ HY.out.below hp).mono ?_); rintro e w1 ⟨rfl, h9⟩; have HY := Lib.hid (HY.out.up h9); clear h9)
          go_ret
          exact ⟨by rw [chk_ok (mayH_iff.2 ⟨by omega, hall, hl⟩)] <;> rfl, HY.out.below⟩
      | succ kx =>
        have hlt : i < H.length := by omega
        have hlz : (i : Int) < (H.length : Int) := by omega
        have cM2 := fun W hb => cM W hb i hlt
        cases hb : mayB H H[i] i with
        | false =>
          rw [hb] at cM2
          go_wp2_with (go_at_call 44; (with_reducible refine (cM2 _ HY.out.below).mono ?_); rintro e w1 ⟨rfl, h9⟩; have HY := Lib.hid (HY.out.up h9); clear h9)
          go_ret
          exact ⟨by rw [chk_bad hlt hb] <;> rfl, HY.out.below⟩
        | true =>
          rw [hb] at cM2
          have HBT := Lib.hid hb
          go_wp2_with (go_at_call 44; (with_reducible refine (cM2 _ HY.out.below).mono ?_); rintro e w1 ⟨rfl, h9⟩; have HY := Lib.hid (HY.out.up h9); clear h9)
          go_roundg kx
          case measure => omega
          case rel =>
            refine ⟨i + 1, by congr 1, by omega, Lib.hid ⟨HY.out, fun j hj hji => ?_⟩⟩
            by_cases c : j < i
            · exact HR.out.2 j hj c
            · obtain rfl : j = i := by omega
              exact HBT.out
end Go.Proofs.YthnkllhfmjbbmaaGreatDoor.S
