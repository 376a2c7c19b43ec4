/-
  A heap's objects in other memory: what may be counts the same.
-/
import Derived.Test.YthnkllhfmjbbmaaGreatDoorHM40
import Derived.Test.YthnkllhfmjbbmaaGreatDoorHM37
namespace Go.Proofs.YthnkllhfmjbbmaaGreatDoor.S
open Go.RowKit Go.Lib Fl
open Classical

theorem getB (H : List Ob) (i : Nat) : (H.map Ob.bare)[i]? = H[i]?.map Ob.bare := List.getElem?_map ..
theorem refB_bare (H : List Ob) (v : Vq) : refB (H.map Ob.bare) v = refB H v := by unfold refB; rw [getB]; cases H[v.r.toNat]? <;> rfl
theorem proxB_bare (H : List Ob) (v : Vq) : proxB (H.map Ob.bare) v = proxB H v := by unfold proxB; rw [getB]; cases H[v.r.toNat]? <;> rfl
theorem nextO_bare (H : List Ob) (p : Nat) : nextO (H.map Ob.bare) p = nextO H p := by unfold nextO; rw [getB]; cases H[p]? <;> rfl
theorem holdsB_bare (H : List Ob) : holdsB (H.map Ob.bare) = holdsB H := by funext v; unfold holdsB; rw [refB_bare]
theorem mayB_bare (H : List Ob) (o : Ob) (n : Nat) : mayB (H.map Ob.bare) o.bare n = mayB H o n := by
  show mayB (H.map Ob.bare) o n = mayB H o n
  unfold mayB fitsB revokesB
  rw [holdsB_bare, proxB_bare]
theorem walkF_bare (H : List Ob) (k : Nat) : ∀ (f p : Nat) (W : List Nat), walkF (H.map Ob.bare) k f p W = walkF H k f p W
  | 0, _, _ => rfl
  | f + 1, p, W => by
    unfold walkF
    rw [nextO_bare]
    cases W[p]? with
    | none => rfl
    | some x =>
      dsimp only
      cases nextO H p with
      | none => rfl
      | some q => dsimp only; rw [walkF_bare H k f q]
theorem loopsL_bare (H : List Ob) : ∀ (m n : Nat) (W : List Nat), loopsL (H.map Ob.bare) m n W = loopsL H m n W
  | 0, _, _ => rfl
  | m + 1, n, W => by
    unfold loopsL
    rw [walkF_bare, List.length_map]
    cases walkF H (n + 1) (H.length + 1) n W with
    | none => rfl
    | some W' => exact loopsL_bare H m (n + 1) W'
theorem loopsB_bare (H : List Ob) : loopsB (H.map Ob.bare) = loopsB H := by unfold loopsB; rw [List.length_map, loopsL_bare]
theorem mayH_bare (H : List Ob) : mayH (H.map Ob.bare) = mayH H := by
  rw [Bool.eq_iff_iff, mayH_iff, mayH_iff, loopsB_bare]
  refine and_congr (by rw [List.length_map]) (and_congr_left fun _ => ⟨fun h i hi => ?_, fun h i hi => ?_⟩)
  · have := h i (by simpa using hi)
    rw [List.getElem_map, mayB_bare] at this
    exact this
  · rw [List.getElem_map, mayB_bare]
    exact h i (by simpa using hi)
theorem mayH_like {H M : List Ob} (h : M.map Ob.bare = H.map Ob.bare) : mayH M = mayH H := by rw [← mayH_bare M, h, mayH_bare]
theorem loopsB_like {H M : List Ob} (h : M.map Ob.bare = H.map Ob.bare) : loopsB M = loopsB H := by rw [← loopsB_bare M, h, loopsB_bare]
theorem chkH_like {H M : List Ob} (h : M.map Ob.bare = H.map Ob.bare) : chkH M = chkH H := by unfold chkH; rw [mayH_like h]
theorem mayB_like {H M : List Ob} (h : M.map Ob.bare = H.map Ob.bare) (n : Nat) (hm : n < M.length) (hh : n < H.length) : mayB M M[n] n = mayB H H[n] n := by
  have e : M[n].bare = H[n].bare := by
    have := congrArg (fun l => l[n]?) h
    simp only [getB, List.getElem?_eq_getElem hm, List.getElem?_eq_getElem hh, Option.map_some] at this
    exact Option.some.inj this
  rw [← mayB_bare M, ← mayB_bare H, e, h]
theorem Tw.like {n0 B : Nat} {H M : List Ob} {W : World} (h : Tw n0 B H M W) : M.map Ob.bare = H.map Ob.bare := by
  refine List.ext_getElem? fun i => ?_
  rw [getB, getB]
  by_cases c : i < M.length
  · obtain ⟨g, _, e, _⟩ := (h.all i c (by rw [← h.len]; exact c)).out
    rw [List.getElem?_eq_getElem c, List.getElem?_eq_getElem (by rw [← h.len]; exact c), e]
    rfl
  · rw [List.getElem?_eq_none (by omega), List.getElem?_eq_none (by have := h.len; omega)]
theorem Tw.inn {n0 B : Nat} {H M : List Ob} {W : World} (h : Tw n0 B H M W) (hin : ∀ o ∈ H, o.In) (hf : H.length ≤ 5000) (hp : ∀ o ∈ H, o.props.length ≤ 100000) : HIn W (some ⟨B, 0, none⟩) M M.length := by
  have one : ∀ i (hi : i < M.length), ∃ g, W.heap[g]? = some (.cells (prCells M[i].props).toArray 93 (0, 0)) ∧ M[i].pa = some ⟨g, 0, none⟩ ∧ M[i].pc = M[i].props.length ∧ M[i].In ∧ M[i].props.length ≤ 100000 := fun i hi => by
    have hi2 : i < H.length := by rw [← h.len]; exact hi
    obtain ⟨g, _, e, hg⟩ := (h.all i hi hi2).out
    have hI := hin _ (List.getElem_mem hi2)
    have hP := hp _ (List.getElem_mem hi2)
    rw [e]
    exact ⟨g, hg, rfl, rfl, ⟨hI.k0, hI.k1, hI.proto, hI.target, hI.handler, hI.text, hI.props, Nat.le_refl _, show H[i].props.length < 9223372036854775808 by omega, fun hc => by cases hc⟩, hP⟩
  refine ⟨fun o ho => ?_, fun hpos => ⟨_, rfl, lt_blk h.b, fun i hi => ⟨?_, ?_⟩⟩, by rw [h.len]; exact hf, fun o ho => ?_, Nat.le_refl _, by have := h.len; omega, fun hc => by cases hc⟩
  · obtain ⟨i, hi, rfl⟩ := List.getElem_of_mem ho
    exact (one i hi).choose_spec.2.2.2.1
  · refine of_cells (by rw [add_blk]; exact lt_blk h.b) fun j u hu => ?_
    have hj : j < 18 := by have := (List.getElem?_eq_some_iff.1 hu).1; rw [ocl_len] at this; exact this
    rw [add_add, Addr.add_mid, Nat.zero_add, vcells h.b (i * 18 + j), List.getElem?_toArray, hcl_at M i hi j hj]
    exact hu
  · obtain ⟨g, hg, e, _⟩ := one i hi
    rw [e]
    exact pr_blk hg
  · obtain ⟨i, hi, rfl⟩ := List.getElem_of_mem ho
    have := (one i hi).choose_spec.2.2.2.2
    omega
end Go.Proofs.YthnkllhfmjbbmaaGreatDoor.S
/-
  heap.New.
-/
namespace Go.Proofs.YthnkllhfmjbbmaaGreatDoor.S
open Go.RowKit Go.Lib Fl
open Classical

theorem Tw.mono {n0 n1 B : Nat} {H M : List Ob} {W : World} (h : Tw n0 B H M W) (hn : n1 ≤ n0) : Tw n1 B H M W := ⟨h.len, h.all, h.b, Nat.le_trans hn h.le⟩
/-- New's error -/
noncomputable def newE (H : List Ob) (o : Ob) : Int := bif !mayH H then 9 else bif decide (H.length = 4096) then 4 else bif mayB (H ++ [o]) o H.length && !loopsB (H ++ [o]) then 0 else 9
theorem new_ok {H : List Ob} {o : Ob} (h : newE H o = 0) : mayH H = true ∧ H.length ≠ 4096 ∧ mayH (H ++ [o]) = true := by
  unfold newE at h
  cases e1 : mayH H with
  | false => rw [e1] at h; exact absurd (show (9 : Int) = 0 from h) (by decide)
  | true =>
    rw [e1] at h
    by_cases c : H.length = 4096
    · rw [decide_eq_true c] at h; exact absurd (show (4 : Int) = 0 from h) (by decide)
    · rw [decide_eq_false c] at h
      cases e2 : mayB (H ++ [o]) o H.length with
      | false => rw [e2] at h; exact absurd (show (9 : Int) = 0 from h) (by decide)
      | true =>
        cases e3 : loopsB (H ++ [o]) with
        | true => rw [e2, e3] at h; exact absurd (show (9 : Int) = 0 from h) (by decide)
        | false => exact ⟨rfl, c, mayH_new e1 c e2 e3⟩
def NewTo (H : List Ob) (o : Ob) (w : World) (e : Ending) (w' : World) : Prop := Below w.heap.size w w' ∧ ((newE H o ≠ 0 ∧ e = .returned (.tuple #[.agg #[.slice none 0 0], .int .i64 0, .int .i64 (newE H o)])) ∨
  (newE H o = 0 ∧ ∃ B M, e = .returned (.tuple #[.agg #[.slice (some ⟨B, 0, none⟩) (H.length + 1) (H.length + 1)], .int .i64 H.length, .int .i64 0]) ∧ Tw w.heap.size B (H ++ [o]) M w'))
theorem new_end {f : Func} {i j k : Nat} {t : TypeId} {Q : Ending → World → Prop} {tmps : Array Value} {W : World} {g : Nat} {v : Value} {y z : Int} (hf : f.results = #[.cell i 24, .tmp j, .tmp k])
    (h2 : tmps[i]?.getD undef = .pointer (some ⟨g, 0, none⟩)) (h3 : tmps[j]?.getD undef = .int .i64 y) (h4 : tmps[k]?.getD undef = .int .i64 z) (hb : W.heap[g]? = some (.cells #[v] t (0, 0))) (hQ : Q (.returned (.tuple #[.agg #[v], .int .i64 y, .int .i64 z])) W) :
    bodyPost Tryz.prog f Q .ret { tmps := tmps, defers := [] } W := by
  have hl := run_loadVar_row (P := Tryz.prog) W g t 24 #[v] (0, 0) _ hb Tryz.underlying24 rfl hsz
  refine bodyPost_ret (v := .tuple #[.agg #[v], .int .i64 y, .int .i64 z]) ?_ rfl hQ
  simp [h2, h3, h4, results, hf, hl, asAddr]
/-- New's own blocks -/
structure Nw (w : World) (A : Option Addr) (n cap : Nat) (o : Ob) (W : World) : Prop where
  below : Below w.heap.size w W
  h : W.heap[w.heap.size]? = some (.cells #[.slice A n cap] 24 (0, 0))
  o : W.heap[w.heap.size + 1]? = some (.cells (obA o) 34 (0, 0))
  r : W.heap[w.heap.size + 1 + 1]? = some (.cells #[.slice none 0 0] 24 (0, 0))
theorem Nw.up {w : World} {A : Option Addr} {n cap : Nat} {o : Ob} {W W' : World} (h : Nw w A n cap o W) (hb : Below W.heap.size W W') : Nw w A n cap o W' := ⟨vb h.below hb, vblkn hb h.h, vblkn hb h.o, vblkn hb h.r⟩
theorem nw_start (w : World) (A : Option Addr) (n cap : Nat) (o : Ob) : Nw w A n cap o (((w.alloc (.cells #[.slice A n cap] 24)).alloc (.cells (obA o) 34)).alloc (.cells #[.slice none 0 0] 24)) := by
  obtain ⟨b1, b2, b3, _, hB0⟩ := objs_blk (w := w) (.slice A n cap) (obA o) (.slice none 0 0) 24 34 24
  exact ⟨hB0, b1, b2, b3⟩
theorem Nw.q {w : World} {A : Option Addr} {n cap : Nat} {o : Ob} {W : World} (h : Nw w A n cap o W) : W.cell? ⟨w.heap.size, 0, none⟩ = some (.slice A n cap) := (vcells h.h 0).trans rfl
set_option maxHeartbeats 4000000 in
set_option maxRecDepth 1000000 in
theorem New_h (A : Option Addr) (H : List Ob) (cap : Nat) (o : Ob) (w : World) (hH : HIn w A H cap) (hp : ∀ o ∈ H, o.props.length ≤ 100000) (ho : PR w o.pa o.props) (hoi : o.In) (hop : o.props.length ≤ 100000) (htab : TabHere w) :
    Calls Tryz.prog 11 #[.agg #[.slice A H.length cap], .agg (obA o)] w (NewTo H o w) := by
  have HN := Lib.hid (nw_start w A H.length cap o)
  have q0 := HN.out.q
  have cC := fun W (hb : Below w.heap.size w W) => Check_h A H cap W (hH.up hb) (tab_up htab hb)
  have hi1 : ∀ v : Value, (Tryz.prog.info? 24).map (·.size) = some (#[v] : Array Value).size := fun v => hsz
  have hc1 : ∀ v : Value, v.oneCell' = true → (#[v] : Array Value).all (·.oneCell') = true := fun v h => cells_one (l := [v]) (by simpa using h)
  cases e1 : mayH H with
  | false =>
    have hz : newE H o = 9 := by unfold newE; rw [e1]; rfl
    have hk : chkH H = 9 := by unfold chkH; rw [e1]; rfl
    rw [hk] at cC
    unfold NewTo
    rw [hz]
    clear hz hk e1 hH
    go_enter Tryz.func11, Tryz.ntmps11
    go_wp2_with (first
      | (go_at_call 20; (with_reducible refine (cC _ HN.out.below).mono ?_); rintro e w1 ⟨rfl, h9⟩; have HN := Lib.hid (HN.out.up h9); have hr := HN.out.r; have hB := HN.out.below; clear h9)
      | ((with_reducible refine t_store rfl rfl rfl rfl hr (hi1 _) ?_ (hc1 _ rfl) hB (by omega) ?_); (rfl); intro W6 hb6 hW6 hO6 _))
    exact new_end Tryz.results11 rfl rfl rfl hW6 ⟨hb6, .inl ⟨by decide, rfl⟩⟩
  | true =>
    have hk : chkH H = 0 := chk_ok e1
    rw [hk] at cC
    have hfew := hH.few
    by_cases c : H.length = 4096
    · have hz : newE H o = 4 := by unfold newE; rw [e1, decide_eq_true c]; rfl
      unfold NewTo
      rw [hz]
      have hc : (H.length : Int) = 4096 := by omega
      have hcb : ((H.length : Int) == 4096) = true := by rw [hc]; rfl
      clear hz hk e1 hH hc c
      go_enter Tryz.func11, Tryz.ntmps11
      go_wp2_with (first
        | (go_at_call 20; (with_reducible refine (cC _ HN.out.below).mono ?_); rintro e w1 ⟨rfl, h9⟩; have HN := Lib.hid (HN.out.up h9); have hr := HN.out.r; have hB := HN.out.below; have q1 := HN.out.q; clear h9)
        | ((with_reducible refine t_store rfl rfl rfl rfl hr (hi1 _) ?_ (hc1 _ rfl) hB (by omega) ?_); (rfl); intro W6 hb6 hW6 hO6 _))
      exact new_end Tryz.results11 rfl rfl rfl hW6 ⟨hb6, .inl ⟨by decide, rfl⟩⟩
    · obtain ⟨N, hN⟩ : ∃ N, N = H ++ [o] := ⟨_, rfl⟩
      obtain ⟨d, hd⟩ : ∃ d : Nat, d = H.length + 1 := ⟨_, rfl⟩
      have hNl : N.length = d := by rw [hN, List.length_append, hd]; rfl
      have hm4 := (mayH_iff.1 e1).1
      have hNin : ∀ x ∈ N, x.In := fun x hx => by rw [hN] at hx; rcases List.mem_append.1 hx with h | h; exact hH.inn x h; rw [List.mem_singleton.1 h]; exact hoi
      have hNp : ∀ x ∈ N, x.props.length ≤ 100000 := fun x hx => by rw [hN] at hx; rcases List.mem_append.1 hx with h | h; exact hp x h; rw [List.mem_singleton.1 h]; exact hop
      have cW : ∀ W, Below w.heap.size w W → Calls Tryz.prog 43 #[.agg #[.slice A H.length cap], .int .i64 H.length, .agg (obA o)] W fun e w' => ∃ B M, e = .returned (.agg #[.slice (some ⟨B, 0, none⟩) d d]) ∧ Tw W.heap.size B N M w' ∧ Below W.heap.size W w' := fun W hb => by
        refine (with_h A H cap H.length o W (hH.up hb) hp (pr_up ho hb) hop (Nat.le_refl _)).mono ?_
        rintro e w1 ⟨B, M, rfl, hT, h9⟩
        rw [hput_new] at hT ⊢
        exact ⟨B, M, by rw [hd, List.length_append]; rfl, hN ▸ hT, h9⟩
      have hno : ∀ h : H.length < N.length, N[H.length] = o := fun h => by subst hN; simp
      have cM : ∀ W B M, Tw w.heap.size B N M W → Below w.heap.size w W → Calls Tryz.prog 44 #[.agg #[.slice (some ⟨B, 0, none⟩) d d], .int .i64 H.length] W fun e w' => e = .returned (.bool (mayB N o H.length)) ∧ Below W.heap.size W w' := fun W B M hT hb => by
        have hl : M.length = d := by rw [hT.len, hNl]
        have hi := hT.inn hNin (by omega) hNp
        have hm := may_h _ M M.length H.length W hi (by omega) (tab_up htab hb)
        rw [mayB_like hT.like H.length (by omega) (by omega), hno, hl] at hm
        exact hm
      have cL : mayB N o H.length = true → ∀ W B M, Tw w.heap.size B N M W → Calls Tryz.prog 45 #[.agg #[.slice (some ⟨B, 0, none⟩) d d]] W fun e w' => e = .returned (.bool (loopsB N)) ∧ Below W.heap.size W w' := fun hmay W B M hT => by
        have hl : M.length = d := by rw [hT.len, hNl]
        have hi := hT.inn hNin (by omega) hNp
        have hall : ∀ i (hi : i < M.length), mayB M M[i] i = true := fun i hiM => by
          rw [mayB_like hT.like i hiM (by omega)]
          by_cases ci : i < H.length
          · have hx := may_more [o] ((mayH_iff.1 e1).2.1 i ci)
            subst hN
            rw [List.getElem_append_left ci]
            exact hx
          · obtain rfl : i = H.length := by omega
            rw [hno]
            exact hmay
        have hm := loops_h _ M M.length W hi (proto_ok hall)
        rw [loopsB_like hT.like, hl] at hm
        exact hm
      have hcb : ((H.length : Int) == 4096) = false := by rw [beq_eq_false_iff_ne]; omega
      have hz : newE H o = bif mayB N o H.length && !loopsB N then 0 else 9 := by unfold newE; rw [e1, decide_eq_false c, hN]; rfl
      have HD := Lib.hid hd
      have HNN := Lib.hid hN
      unfold NewTo
      rw [← hN, ← hd, hz]
      clear hz hk e1 hH hN hd hno hNl hNin hNp
      cases e2 : mayB N o H.length with
      | false =>
        rw [e2] at cM
        clear cL e2
        go_enter Tryz.func11, Tryz.ntmps11
        go_wp2_with (first
          | (go_at_call 20; (with_reducible refine (cC _ HN.out.below).mono ?_); rintro e w1 ⟨rfl, h9⟩; have HN := Lib.hid (HN.out.up h9); have q1 := HN.out.q; clear h9)
          | ((with_reducible refine ob_load ?_ rfl rfl HN.out.o ?_); (rfl))
          | (go_at_call 43; (with_reducible refine (cW _ HN.out.below).mono ?_); rintro e w2 ⟨B, M, rfl, hT, h9⟩; have hle := Nat.lt_of_lt_of_le (lt_blk HN.out.r) hT.le; have hT := hT.mono HN.out.below.size; have HN := Lib.hid (HN.out.up h9); have HT := Lib.hid hT; clear h9 hT)
          | (go_at_call 44; (with_reducible refine (cM _ _ _ (HT.out.up (vzero _ _)) (vb HN.out.below (vzero _ _))).mono ?_); rintro e w3 ⟨rfl, h9⟩; have HN := Lib.hid (HN.out.up (vafter h9)); have HT := Lib.hid (HT.out.up (vafter h9)); have hr := HN.out.r; have hB := HN.out.below; have b4 := vblkn h9 (heap_alloc_new w2 _); have q4 : w3.cell? ⟨w2.heap.size, 0, none⟩ = some (.slice (some ⟨B, 0, none⟩) d d) := (vcells b4 0).trans rfl; have HB4 := Lib.hid b4; clear h9 b4)
          | ((with_reducible refine t_store rfl rfl rfl rfl hr (hi1 _) ?_ (hc1 _ rfl) hB (by omega) ?_); (rfl); intro W6 hb6 hW6 hO6 _))
        exact new_end Tryz.results11 rfl rfl rfl hW6 ⟨hb6, .inl ⟨by show (9 : Int) ≠ 0; decide, rfl⟩⟩
      | true =>
        rw [e2] at cM
        have cL := cL e2
        clear e2
        cases e3 : loopsB N with
        | true =>
          rw [e3] at cL
          clear e3
          go_enter Tryz.func11, Tryz.ntmps11
          go_wp2_with (first
            | (go_at_call 20; (with_reducible refine (cC _ HN.out.below).mono ?_); rintro e w1 ⟨rfl, h9⟩; have HN := Lib.hid (HN.out.up h9); have q1 := HN.out.q; clear h9)
            | ((with_reducible refine ob_load ?_ rfl rfl HN.out.o ?_); (rfl))
            | (go_at_call 43; (with_reducible refine (cW _ HN.out.below).mono ?_); rintro e w2 ⟨B, M, rfl, hT, h9⟩; have hle := Nat.lt_of_lt_of_le (lt_blk HN.out.r) hT.le; have hT := hT.mono HN.out.below.size; have HN := Lib.hid (HN.out.up h9); have HT := Lib.hid hT; clear h9 hT)
            | (go_at_call 44; (with_reducible refine (cM _ _ _ (HT.out.up (vzero _ _)) (vb HN.out.below (vzero _ _))).mono ?_); rintro e w3 ⟨rfl, h9⟩; have HN := Lib.hid (HN.out.up (vafter h9)); have HT := Lib.hid (HT.out.up (vafter h9)); have hr := HN.out.r; have hB := HN.out.below; have b4 := vblkn h9 (heap_alloc_new w2 _); have q4 : w3.cell? ⟨w2.heap.size, 0, none⟩ = some (.slice (some ⟨B, 0, none⟩) d d) := (vcells b4 0).trans rfl; have HB4 := Lib.hid b4; clear h9 b4)
            | (go_at_call 45; (with_reducible refine (cL _ _ _ HT.out).mono ?_); rintro e w4 ⟨rfl, h9⟩; have HN := Lib.hid (HN.out.up h9); have HT := Lib.hid (HT.out.up h9); have hr := HN.out.r; have hB := HN.out.below; have b4 := vblkn h9 HB4.out; have q5 : w4.cell? ⟨w2.heap.size, 0, none⟩ = some (.slice (some ⟨B, 0, none⟩) d d) := (vcells b4 0).trans rfl; clear h9 b4)
            | ((with_reducible refine t_store rfl rfl rfl rfl hr (hi1 _) ?_ (hc1 _ rfl) hB (by omega) ?_); (rfl); intro W6 hb6 hW6 hO6 _))
          exact new_end Tryz.results11 rfl rfl rfl hW6 ⟨hb6, .inl ⟨by decide, rfl⟩⟩
        | false =>
          rw [e3] at cL
          clear e3
          go_enter Tryz.func11, Tryz.ntmps11
          go_wp2_with (first
            | (go_at_call 20; (with_reducible refine (cC _ HN.out.below).mono ?_); rintro e w1 ⟨rfl, h9⟩; have HN := Lib.hid (HN.out.up h9); have q1 := HN.out.q; clear h9)
            | ((with_reducible refine ob_load ?_ rfl rfl HN.out.o ?_); (rfl))
            | (go_at_call 43; (with_reducible refine (cW _ HN.out.below).mono ?_); rintro e w2 ⟨B, M, rfl, hT, h9⟩; have hle := Nat.lt_of_lt_of_le (lt_blk HN.out.r) hT.le; have hT := hT.mono HN.out.below.size; have HN := Lib.hid (HN.out.up h9); have HT := Lib.hid hT; clear h9 hT)
            | (go_at_call 44; (with_reducible refine (cM _ _ _ (HT.out.up (vzero _ _)) (vb HN.out.below (vzero _ _))).mono ?_); rintro e w3 ⟨rfl, h9⟩; have HN := Lib.hid (HN.out.up (vafter h9)); have HT := Lib.hid (HT.out.up (vafter h9)); have hr := HN.out.r; have hB := HN.out.below; have b4 := vblkn h9 (heap_alloc_new w2 _); have q4 : w3.cell? ⟨w2.heap.size, 0, none⟩ = some (.slice (some ⟨B, 0, none⟩) d d) := (vcells b4 0).trans rfl; have HB4 := Lib.hid b4; clear h9 b4)
            | (go_at_call 45; (with_reducible refine (cL _ _ _ HT.out).mono ?_); rintro e w4 ⟨rfl, h9⟩; have HN := Lib.hid (HN.out.up h9); have HT := Lib.hid (HT.out.up h9); have hr := HN.out.r; have hB := HN.out.below; have b4 := vblkn h9 HB4.out; have q5 : w4.cell? ⟨w2.heap.size, 0, none⟩ = some (.slice (some ⟨B, 0, none⟩) d d) := (vcells b4 0).trans rfl; clear h9 b4)
            | ((with_reducible refine t_store rfl rfl rfl rfl hr (hi1 _) ?_ (hc1 _ rfl) hB (by omega) ?_); (rfl); intro W6 hb6 hW6 hO6 _))
          exact new_end Tryz.results11 rfl rfl rfl hW6 ⟨hb6, .inr ⟨rfl, B, M, rfl, HT.out.other hO6 hle⟩⟩
end Go.Proofs.YthnkllhfmjbbmaaGreatDoor.S
/-
  TableNames: slices built of properties, properties built of parts.
-/
namespace Go.Proofs.YthnkllhfmjbbmaaGreatDoor.S
open Go.RowKit Go.Lib Fl
open Classical

set_option maxRecDepth 100000 in
theorem run_slice_5 (a b c d e : Pq) (w : World) : (Instr.buildSlice 32 5 #[(0, .agg (prA a)), (1, .agg (prA b)), (2, .agg (prA c)), (3, .agg (prA d)), (4, .agg (prA e))]).run Tryz.prog w = .ok (.slice (some ⟨w.heap.size, 0, none⟩) 5 5) (w.alloc (.cells (prCells [a, b, c, d, e]).toArray 93)) := by kernel_rfl
set_option maxRecDepth 100000 in
theorem run_slice_2 (a b : Pq) (w : World) : (Instr.buildSlice 32 2 #[(0, .agg (prA a)), (1, .agg (prA b))]).run Tryz.prog w = .ok (.slice (some ⟨w.heap.size, 0, none⟩) 2 2) (w.alloc (.cells (prCells [a, b]).toArray 93)) := by kernel_rfl
set_option maxRecDepth 100000 in
theorem run_build_1 (w : World) : (Instr.build 55 #[(0, .int .u8 1)]).run Tryz.prog w = .ok (.agg (Dq.cells ⟨1, v0, v0, v0, false, false, false⟩)) w := by kernel_rfl
set_option maxRecDepth 100000 in
theorem run_build_k (w : World) : (Instr.build 63 #[(1, .int .i64 (-1))]).run Tryz.prog w = .ok (.agg #[.string ⟨#[]⟩, .int .i64 (-1)]) w := by kernel_rfl
set_option maxRecDepth 100000 in
theorem run_build_n (w : World) : (Instr.build 93 #[(0, .agg #[.string ⟨#[]⟩, .int .i64 (-1)])]).run Tryz.prog w = .ok (.agg (prA ⟨⟨⟨#[]⟩, -1⟩, dz 0⟩)) w := by kernel_rfl
section
variable {ops : Array Oper} {rest : List Oper} {o : Oper} {a : Act} {w : World} {Q : Exit → Act → World → Prop}
theorem p_slice5 {p1 p2 p3 p4 p5 : Pq} (hgd : o.guard = none) (x1 x2 x3 x4 x5 : Operand) (ho : o.op = .buildSlice 32 5 #[(0, x1), (1, x2), (2, x3), (3, x4), (4, x5)]) (h1 : a.eval x1 = .agg (prA p1)) (h2 : a.eval x2 = .agg (prA p2)) (h3 : a.eval x3 = .agg (prA p3)) (h4 : a.eval x4 = .agg (prA p4)) (h5 : a.eval x5 = .agg (prA p5))
    (h : wpList Tryz.prog ops Q rest (a.put o.dst (.slice (some ⟨w.heap.size, 0, none⟩) 5 5)) (w.alloc (.cells (prCells [p1, p2, p3, p4, p5]).toArray 93))) : wpList Tryz.prog ops Q (o :: rest) a w := by
  refine wpList_plain hgd fun _ hK => ?_
  unfold Oper.wp execOp
  simp only [ho, List.map_toArray, List.map_cons, List.map_nil, h1, h2, h3, h4, h5, run_slice_5, Sem.run_bind, Sem.run_pure, Result.andThen_ok]
  exact hK _ _ h
theorem w_run {v : Value} {w2 : World} (hw : Region.wanted o (yielded ops a.tmps) = true) (hr : (execOp a.eval o).run Tryz.prog w = .ok (.value v) w2) (h : wpList Tryz.prog ops Q rest (a.put o.dst v) w2) : wpList Tryz.prog ops Q (o :: rest) a w :=
  wpList_wanted hw fun K hK => by
    unfold Oper.wp
    rw [hr]
    exact hK _ _ h
theorem e_build {p : Pq} {x y : Operand} (ho : o.op = .build 93 #[(0, x), (1, y)]) (hx : a.eval x = .agg #[.string p.k.str, .int .i64 p.k.sym]) (hy : a.eval y = .agg p.d.cells) : (execOp a.eval o).run Tryz.prog w = .ok (.value (.agg (prA p))) w := by
  unfold execOp
  simp only [ho, List.map_toArray, List.map_cons, List.map_nil, hx, hy, run_build_p, Sem.run_bind, Sem.run_pure, Result.andThen_ok]
theorem e_slice1 {p : Pq} {x : Operand} (ho : o.op = .buildSlice 32 1 #[(0, x)]) (hx : a.eval x = .agg (prA p)) : (execOp a.eval o).run Tryz.prog w = .ok (.value (.slice (some ⟨w.heap.size, 0, none⟩) 1 1)) (w.alloc (.cells (prCells [p]).toArray 93)) := by
  unfold execOp
  have e : (prCells [p]).toArray = prA p := by unfold prCells prA; simp
  simp only [ho, List.map_toArray, List.map_cons, List.map_nil, hx, run_slice_p, e, Sem.run_bind, Sem.run_pure, Result.andThen_ok]
theorem e_slice2 {p q : Pq} {x y : Operand} (ho : o.op = .buildSlice 32 2 #[(0, x), (1, y)]) (hx : a.eval x = .agg (prA p)) (hy : a.eval y = .agg (prA q)) : (execOp a.eval o).run Tryz.prog w = .ok (.value (.slice (some ⟨w.heap.size, 0, none⟩) 2 2)) (w.alloc (.cells (prCells [p, q]).toArray 93)) := by
  unfold execOp
  simp only [ho, List.map_toArray, List.map_cons, List.map_nil, hx, hy, run_slice_2, Sem.run_bind, Sem.run_pure, Result.andThen_ok]
theorem e_build1 (ho : o.op = .build 55 #[(0, .const (.int .u8 1))]) : (execOp a.eval o).run Tryz.prog w = .ok (.value (.agg (Dq.cells ⟨1, v0, v0, v0, false, false, false⟩))) w := by
  unfold execOp
  simp only [ho, List.map_toArray, List.map_cons, List.map_nil, Act.eval, run_build_1, Sem.run_bind, Sem.run_pure, Result.andThen_ok]
theorem e_buildk (ho : o.op = .build 63 #[(1, .const (.int .i64 (-1)))]) : (execOp a.eval o).run Tryz.prog w = .ok (.value (.agg #[.string ⟨#[]⟩, .int .i64 (-1)])) w := by
  unfold execOp
  simp only [ho, List.map_toArray, List.map_cons, List.map_nil, Act.eval, run_build_k, Sem.run_bind, Sem.run_pure, Result.andThen_ok]
theorem e_buildn {x : Operand} (ho : o.op = .build 93 #[(0, x)]) (hx : a.eval x = .agg #[.string ⟨#[]⟩, .int .i64 (-1)]) : (execOp a.eval o).run Tryz.prog w = .ok (.value (.agg (prA ⟨⟨⟨#[]⟩, -1⟩, dz 0⟩))) w := by
  unfold execOp
  simp only [ho, List.map_toArray, List.map_cons, List.map_nil, hx, run_build_n, Sem.run_bind, Sem.run_pure, Result.andThen_ok]
end
end Go.Proofs.YthnkllhfmjbbmaaGreatDoor.S
/-
  The heap of the chapter, and a proxy of its two objects: what may be.
-/
namespace Go.Proofs.YthnkllhfmjbbmaaGreatDoor.S
open Go.RowKit Go.Lib Fl
open Classical

def p7 : Pq := pN (⟨#[97]⟩ : ByteArray) 0 4619567317775286272
theorem n7_ok : (⟨3, 4619567317775286272, ⟨#[]⟩, 0⟩ : Vq).Ok := ⟨.num 4619567317775286272, ⟨.ours 7, ⟨by decide, by unfold SafeN; omega⟩, rfl⟩, rfl, rfl, rfl, rfl⟩
theorem p7_in : p7.In := pN_in (by decide) (by decide) n7_ok
theorem p7_ok : p7.Ok := pN_ok (by decide) (by decide) (fun h => absurd h (by decide)) n7_ok
def vN : Vq := ⟨1, 0, ⟨#[]⟩, 0⟩
def vT (r : Int) : Vq := ⟨6, 0, ⟨#[]⟩, r⟩
theorem vN_ok : vN.Ok := ⟨.nul, trivial, rfl, rfl, rfl, rfl⟩
theorem vT_ok {r : Int} (h0 : 0 ≤ r) (h1 : r < 100) : (vT r).Ok := ⟨.obj 6 r, by simp [Vl.ok]; omega, rfl, rfl, rfl, rfl⟩
def oA (a : Option Addr) : Ob := ⟨1, vN, true, a, 1, [p7], v0, v0, ⟨#[]⟩, false, false⟩
def oB : Ob := ⟨1, vT 0, true, none, 0, [], v0, v0, ⟨#[]⟩, false, false⟩
def oP (t h : Int) : Ob := ⟨6, vN, false, none, 0, [], vT t, vT h, ⟨#[]⟩, false, false⟩
def H2 (a : Option Addr) : List Ob := [oA a, oB]
theorem ok_may {v : Vq} (h : v.Ok) : v.may = true := mayI_iff.2 h
theorem tab1 : TabOk [p7] := ⟨by decide, fun p hp => by obtain rfl := List.mem_singleton.1 hp; exact p7_ok, List.pairwise_singleton _ _⟩
theorem hold_n {H : List Ob} {v : Vq} (h : v.Ok) (ho : objQ v = false) : holdsB H v = true := by unfold holdsB; rw [ok_may h, ho]; rfl
theorem hold_t {H : List Ob} {r : Int} (h : (vT r).Ok) (hr : refB H (vT r) = true) : holdsB H (vT r) = true := by unfold holdsB; rw [ok_may h, hr]; rfl
theorem may_A (a b : Option Addr) (G : List Ob) : mayB (H2 b ++ G) (oA a) 0 = true := by
  unfold mayB
  have h1 : chkT (oA a).props = 0 := chkT_ok.2 tab1
  have h2 : (valsO (oA a)).all (holdsB (H2 b ++ G)) = true := by
    rw [List.all_eq_true]
    intro v hv
    have : v = vN ∨ v = v0 ∨ v = (⟨3, 4619567317775286272, ⟨#[]⟩, 0⟩ : Vq) := by
      simp [valsO, oA, p7, pN, dN] at hv
      rcases hv with h | h | h | h <;> simp [h]
    rcases this with rfl | rfl | rfl
    · exact hold_n vN_ok rfl
    · exact hold_n v0_ok rfl
    · exact hold_n n7_ok rfl
  have h3 : fitsB (H2 b ++ G) (oA a) 0 = true := by kernel_rfl
  rw [h1, h2, h3]; rfl
theorem may_B (b : Option Addr) (G : List Ob) : mayB (H2 b ++ G) oB 1 = true := by
  unfold mayB
  have h1 : chkT oB.props = 0 := chkT_ok.2 ⟨by decide, (fun _ h => by cases h), List.Pairwise.nil⟩
  have h2 : (valsO oB).all (holdsB (H2 b ++ G)) = true := by
    rw [List.all_eq_true]
    intro v hv
    have : v = vT 0 ∨ v = v0 := by
      simp [valsO, oB] at hv
      exact hv
    rcases this with rfl | rfl
    · exact hold_t (vT_ok (by decide) (by decide)) rfl
    · exact hold_n v0_ok rfl
  have h3 : fitsB (H2 b ++ G) oB 1 = true := by kernel_rfl
  rw [h1, h2, h3]; rfl
theorem may_P (b : Option Addr) : mayB (H2 b ++ [oP 0 1]) (oP 0 1) 2 = true := by
  unfold mayB
  have h1 : chkT (oP 0 1).props = 0 := chkT_ok.2 ⟨by decide, (fun _ h => by cases h), List.Pairwise.nil⟩
  have h2 : (valsO (oP 0 1)).all (holdsB (H2 b ++ [oP 0 1])) = true := by
    rw [List.all_eq_true]
    intro v hv
    have : v = vN ∨ v = vT 0 ∨ v = vT 1 := by
      simp [valsO, oP] at hv
      exact hv
    rcases this with rfl | rfl | rfl
    · exact hold_n vN_ok rfl
    · exact hold_t (vT_ok (by decide) (by decide)) rfl
    · exact hold_t (vT_ok (by decide) (by decide)) rfl
  have h3 : fitsB (H2 b ++ [oP 0 1]) (oP 0 1) 2 = true := by kernel_rfl
  rw [h1, h2, h3]; rfl
theorem loops2 (b : Option Addr) : loopsB (H2 b) = false := by kernel_rfl
theorem loops3 (b : Option Addr) : loopsB (H2 b ++ [oP 0 1]) = false := by kernel_rfl
theorem may2 (b : Option Addr) : mayH (H2 b) = true := mayH_iff.2 ⟨(by show 2 ≤ 4096; decide), fun i hi => by
  have e := List.append_nil (H2 b)
  match i, hi with
  | 0, _ => have := may_A b b []; rw [e] at this; exact this
  | 1, _ => have := may_B b []; rw [e] at this; exact this
  | n + 2, h => exact absurd h (by simp [H2]), loops2 b⟩
theorem new2 (b : Option Addr) : newE (H2 b) (oP 0 1) = 0 := by
  unfold newE
  rw [may2, show decide ((H2 b).length = 4096) = false from rfl, show (H2 b).length = 2 from rfl, may_P, loops3]; rfl
theorem oA_in (g : Nat) : (oA (some ⟨g, 0, none⟩)).In := ⟨(by show (0 : Int) ≤ 1; decide), (by show (1 : Int) < 256; decide), ok_in2 vN_ok, ok_in2 v0_ok, ok_in2 v0_ok, (by show 0 ≤ maxLen; unfold maxLen; omega), (fun p hp => by obtain rfl := List.mem_singleton.1 hp; exact p7_in), (by show 1 ≤ 1; decide), (by show 1 < 9223372036854775808; decide), fun h => by cases h⟩
theorem oB_in : oB.In := ⟨(by show (0 : Int) ≤ 1; decide), (by show (1 : Int) < 256; decide), ok_in2 (vT_ok (by decide) (by decide)), ok_in2 v0_ok, ok_in2 v0_ok, (by show 0 ≤ maxLen; unfold maxLen; omega), (fun p hp => by cases hp), Nat.le_refl _, (by show 0 < 9223372036854775808; decide), fun _ => rfl⟩
theorem oP_in : (oP 0 1).In := ⟨(by show (0 : Int) ≤ 6; decide), (by show (6 : Int) < 256; decide), ok_in2 vN_ok, ok_in2 (vT_ok (by decide) (by decide)), ok_in2 (vT_ok (by decide) (by decide)), (by show 0 ≤ maxLen; unfold maxLen; omega), (fun p hp => by cases hp), Nat.le_refl _, (by show 0 < 9223372036854775808; decide), fun _ => rfl⟩
end Go.Proofs.YthnkllhfmjbbmaaGreatDoor.S
