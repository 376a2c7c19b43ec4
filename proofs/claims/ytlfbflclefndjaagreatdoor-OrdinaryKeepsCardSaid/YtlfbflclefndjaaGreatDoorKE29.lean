/-
  ordinary.Do, whatever is asked.
-/
import Derived.Test.YtlfbflclefndjaaGreatDoorKE28
import Derived.Test.YtlfbflclefndjaaGreatDoorKE25
import Derived.Test.YtlfbflclefndjaaGreatDoorKE22
import Derived.Test.YtlfbflclefndjaaGreatDoorKE14
import Derived.Test.YtlfbflclefndjaaGreatDoorKE23
namespace Go.Proofs.YtlfbflclefndjaaGreatDoor.S
open Go.RowKit Go.Lib Fl
open Classical

/-- an ask that may come in -/
structure Ak.In (a : Ak) : Prop where
  k : KyIn a.k
  d : a.d.In
  v : a.v.In
/-- Do's error -/
noncomputable def doE (H : List Ob) (a : Ak) : Int := bif mayH H then mayA H a else 9
def DoTo (H : List Ob) (a : Ak) (w : World) (e : Ending) (w' : World) : Prop := Below w.heap.size w w' ∧ ((doE H a ≠ 0 ∧ e = .returned (.tuple #[.agg #[.slice none 0 0], .agg (oqA ozero), .int .i64 (doE H a)])) ∨
  (doE H a = 0 ∧ mayH H = true ∧ ∃ k B q M2, MayAsk H k a ∧ e = .returned (.tuple #[.agg #[.slice (some ⟨B, 0, none⟩) H.length H.length], .agg (oqA q), .int .i64 0]) ∧ DoneH H k a q M2 w' ∧ w'.heap[B]? = some (.cells (hcl M2).toArray 37 (0, 0))))
theorem done_same {H M : List Ob} {W W' : World} {n0 B k : Nat} {a : Ak} {q : Oq} (hT : Tw n0 B H M W) (hi : ∀ o ∈ M, o.In ∧ o.props.length ≤ 100000) (hk : k < M.length) (hb : Below W.heap.size W W') (hs : StepO H M[k] a q M[k] W') : DoneH H k a q M W' :=
  ⟨⟨M, M[k], hT.like, hk, (set_self hk rfl).symm, hs⟩, (HRest.tw hT).up hb, hi⟩
theorem done_chg {H M : List Ob} {W W' : World} {n0 B k : Nat} {a : Ak} {q : Oq} {p : Ob} (hT : Tw n0 B H M W) (hi : ∀ o ∈ M, o.In ∧ o.props.length ≤ 100000) (hk : k < M.length) (hC : Chg W B (M.set k p) W') (hs : StepO H M[k] a q p W') (hp : p.In) (hpa : p.pa = M[k].pa) (hpp : p.props = M[k].props) : DoneH H k a q (M.set k p) W' := by
  have hR := (HRest.tw hT).chg hT.b hC
  refine ⟨⟨M, p, hT.like, hk, rfl, hs⟩, hR.set ?_ ?_, ins_set hi ⟨hp, ?_⟩⟩
  · rw [hpa, hpp]; exact hR.row k hk
  · rw [hpa]; exact hR.blk k hk
  · rw [hpp]; exact (hi _ (List.getElem_mem hk)).2
section
variable {H : List Ob} {o p : Ob} {a : Ak} {q : Oq} {W : World}
theorem st1 (e : a.m = 1) (h : q = protoO o ∧ p = o) : StepO H o a q p W := ⟨fun _ => h, fun g => absurd g (by omega), fun g => absurd g (by omega), fun g => absurd g (by omega), fun g => absurd g (by omega), fun g => absurd g (by omega), fun g => absurd g (by omega), fun g => absurd g (by omega)⟩
theorem st2 (e : a.m = 2) (h : q = yesO (eqV a.v o.proto || (o.ext && !decide (Bhd H a.n a.v))) ∧ p = (if (!eqV a.v o.proto && (o.ext && !decide (Bhd H a.n a.v))) = true then o.under a.v else o)) : StepO H o a q p W := ⟨fun g => absurd g (by omega), fun _ => h, fun g => absurd g (by omega), fun g => absurd g (by omega), fun g => absurd g (by omega), fun g => absurd g (by omega), fun g => absurd g (by omega), fun g => absurd g (by omega)⟩
theorem st3 (e : a.m = 3) (h : q = yesO o.ext ∧ p = o) : StepO H o a q p W := ⟨fun g => absurd g (by omega), fun g => absurd g (by omega), fun _ => h, fun g => absurd g (by omega), fun g => absurd g (by omega), fun g => absurd g (by omega), fun g => absurd g (by omega), fun g => absurd g (by omega)⟩
theorem st4 (e : a.m = 4) (h : q = yesO true ∧ p = o.shut) : StepO H o a q p W := ⟨fun g => absurd g (by omega), fun g => absurd g (by omega), fun g => absurd g (by omega), fun _ => h, fun g => absurd g (by omega), fun g => absurd g (by omega), fun g => absurd g (by omega), fun g => absurd g (by omega)⟩
theorem st5 (e : a.m = 5) (h : q = foundO (findT o.props a.k).isSome (fndD o.props a.k) ∧ p = o) : StepO H o a q p W := ⟨fun g => absurd g (by omega), fun g => absurd g (by omega), fun g => absurd g (by omega), fun g => absurd g (by omega), fun _ => h, fun g => absurd g (by omega), fun g => absurd g (by omega), fun g => absurd g (by omega)⟩
theorem st6 (e : a.m = 6) (h : DefTo o a q p) : StepO H o a q p W := ⟨fun g => absurd g (by omega), fun g => absurd g (by omega), fun g => absurd g (by omega), fun g => absurd g (by omega), fun g => absurd g (by omega), fun _ => h, fun g => absurd g (by omega), fun g => absurd g (by omega)⟩
theorem st10 (e : a.m = 10) (h : DelTo o a q p) : StepO H o a q p W := ⟨fun g => absurd g (by omega), fun g => absurd g (by omega), fun g => absurd g (by omega), fun g => absurd g (by omega), fun g => absurd g (by omega), fun g => absurd g (by omega), fun _ => h, fun g => absurd g (by omega)⟩
theorem st11 (e : a.m = 11) (h : (∃ L O, q = keysO (some ⟨O, 0, none⟩) o.props.length ∧ OrdOf (keysL o.props) L ∧ W.heap[O]? = some (.cells (kyCells L).toArray 26 (0, 0))) ∧ p = o) : StepO H o a q p W := ⟨fun g => absurd g (by omega), fun g => absurd g (by omega), fun g => absurd g (by omega), fun g => absurd g (by omega), fun g => absurd g (by omega), fun g => absurd g (by omega), fun g => absurd g (by omega), fun _ => h⟩
end
theorem Ob.In.props2 {o : Ob} (h : o.In) {v : Vq} (hv : v.In) (x : Bool) {A : Option Addr} {c : Nat} {L : List Pq} (hL : ∀ p ∈ L, p.In) (hc : Cap A L.length c) : (o.as v x A c L).In := ⟨h.k0, h.k1, hv, h.target, h.handler, h.text, hL, hc.room, hc.cap63, hc.nil⟩
theorem put_len (L : List Pq) (p : Pq) : (putT L p).length ≤ L.length + 1 := by
  unfold putT
  rw [List.length_append, List.length_cons, List.length_take, List.length_drop]
  omega
theorem drop_len (L : List Pq) (k : Ky) : (dropT L k).length ≤ L.length := by
  unfold dropT
  rw [List.length_append, List.length_take, List.length_drop]
  omega
theorem def_ins {o p : Ob} {a : Ak} {q : Oq} (h : DefTo o a q p) (hi : o.In ∧ o.props.length ≤ 100000) (hT : TabOk o.props) (hky : mayKy a.k) (ha : a.In) : p.In ∧ p.props.length ≤ 100000 := by
  cases c1 : (compatQ o.ext a.d (findT o.props a.k).isSome (fndD o.props a.k)).1 with
  | false => rw [(h.no c1).2]; exact hi
  | true =>
    by_cases c2 : cutN o.props a.k = 1024
    · rw [(h.many c1 c2).2]; exact hi
    · obtain ⟨_, A, c, hc, rfl⟩ := h.yes c1 c2
      obtain ⟨_, g2⟩ := def_ok ha.d (fnd_in hi.1.props a.k) hky c1
      refine ⟨hi.1.props2 hi.1.proto _ (put_in hi.1.props ⟨ha.k, g2⟩) hc, ?_⟩
      have h1 := put_len o.props ⟨a.k, applyQ o.ext a.d (findT o.props a.k).isSome (fndD o.props a.k)⟩
      have h2 := hT.len
      show (putT o.props _).length ≤ 100000
      omega
theorem del_ins {o p : Ob} {a : Ak} {q : Oq} (h : DelTo o a q p) (hi : o.In ∧ o.props.length ≤ 100000) : p.In ∧ p.props.length ≤ 100000 := by
  by_cases c1 : (findT o.props a.k).isSome = true ∧ (fndD o.props a.k).z = false
  · rw [(h.no c1.1 c1.2).2]; exact hi
  · obtain ⟨_, A, c, hc, rfl⟩ := h.yes (by
      cases e1 : (findT o.props a.k).isSome
      · exact .inl rfl
      · cases e2 : (fndD o.props a.k).z
        · exact absurd ⟨e1, e2⟩ c1
        · exact .inr rfl)
    refine ⟨hi.1.props2 hi.1.proto _ (drop_in hi.1.props) hc, ?_⟩
    have h1 := drop_len o.props a.k
    have h2 := hi.2
    show (dropT o.props _).length ≤ 100000
    omega
theorem Do_any (A : Option Addr) (H : List Ob) (cap : Nat) (a : Ak) (w : World) (hH : HIn w A H cap) (hp : ∀ o ∈ H, o.props.length ≤ 100000) (ha : a.In) (htab : TabHere w) : Calls Tryz.prog 8 #[.agg #[.slice A H.length cap], .agg (akA a)] w (DoTo H a w) := by
  have cC := fun W (hb : Below w.heap.size w W) => Check_h A H cap W (hH.up hb) (tab_up htab hb)
  cases hm : mayH H with
  | false =>
    have e9 : chkH H = 9 := by unfold chkH; rw [hm]; rfl
    have ed : doE H a = 9 := by unfold doE; rw [hm]; rfl
    rw [e9] at cC
    exact (Do_bad1 A H.length cap a w 9 (by decide) cC).mono fun e w' ⟨he, hb⟩ => ⟨hb, .inl ⟨by rw [ed]; decide, by rw [ed]; exact he⟩⟩
  | true =>
    have ed : doE H a = mayA H a := by unfold doE; rw [hm]; rfl
    rw [chk_ok hm] at cC
    have cY := fun W (hb : Below w.heap.size w W) => may_any12 A H cap a W (hH.up hb) hm ha.v ha.d
    by_cases hE : mayA H a = 0
    · rw [hE] at cY
      obtain ⟨k, hA⟩ := may_ask hE
      refine (Do_core A H cap k a w (DoneH H k a) hH hp hm hA.n hA.lt htab cY (fun W B M hT hb => ?_) (fun q M2 W W' h hx hy hO => h.two hx hy fun j _ h1 h2 => hO j h1 h2)).mono fun e w' ⟨B, q, M2, he, hD, hB, hb⟩ => ⟨hb, .inr ⟨by rw [ed]; exact hE, hm, k, B, q, M2, hA, he, hD, hB⟩⟩
      have hl := hT.len
      have hk : k < M.length := by rw [hl]; exact hA.lt
      have hi := hT.ins hH.inn hp
      have hiK := hi _ (List.getElem_mem hk)
      have hof : OF W ⟨B, k * 18, none⟩ M[k] := of_hcl hT.b hk
      have hTab : TabIn W M[k].pa M[k].props M[k].pc := by
        obtain ⟨g, _, e, hg⟩ := (hT.all k hk hA.lt).out
        rw [e]
        exact tab_of hm hA.lt hH.inn hg
      have hmM : mayH M = true := by rw [mayH_like hT.like, hm]
      have same : ∀ {q : Oq} {W' : World}, Below W.heap.size W W' → StepO H M[k] a q M[k] W' → ∃ M2, DoneH H k a q M2 W' ∧ Chg W B M2 W' := fun hb2 hs => ⟨M, done_same hT hi hk hb2 hs, chg_same hb2 hT.b⟩
      rcases eight_ways hA.e8 with e | e | e | e | e | e | e | e
      · have := getProto_o B H.length k a M[k] W hof
        rw [e]
        refine this.mono fun e' w' ⟨he, hb2⟩ => ?_
        obtain ⟨M2, h1, h2⟩ := same hb2 (st1 e ⟨rfl, rfl⟩)
        exact ⟨_, M2, he, h1, h2⟩
      · have hv := hA.m2 e
        have hvM : leadsV M a.v = true := by rw [leads_like hT.like]; exact hv
        have hok : OkV M a.v := by
          unfold leadsV at hvM
          rw [Bool.and_eq_true] at hvM
          exact vok_holds hvM.2
        have hMI := hT.inn hH.inn hH.few hp
        have := setProto_o B H.length k a M[k] M W (decide (Bhd H a.n a.v)) hT.b hk rfl (fun W' hb' => by
          have := behind_o (some ⟨B, 0, none⟩) M M.length a.n a.v W' (hMI.up hb') hmM ha.v.1 hok
          rw [hl, decide_eq_decide.2 (bhd_same hT.like a.n a.v)] at this
          exact this)
        rw [e]
        refine this.mono fun e' w' ⟨he, hC⟩ => ?_
        by_cases c : (!eqV a.v M[k].proto && (M[k].ext && !decide (Bhd H a.n a.v))) = true
        · rw [if_pos c] at hC
          exact ⟨_, _, he, done_chg hT hi hk hC (st2 e ⟨rfl, by rw [if_pos c]⟩) (hiK.1.as ha.v _) rfl rfl, hC⟩
        · rw [if_neg c] at hC
          rw [← set_self hk rfl] at hC
          exact ⟨_, _, he, done_chg hT hi hk hC (st2 e ⟨rfl, by rw [if_neg c]⟩) hiK.1 rfl rfl, hC⟩
      · have := isExt_o B H.length k a M[k] W hof
        rw [e]
        refine this.mono fun e' w' ⟨he, hb2⟩ => ?_
        obtain ⟨M2, h1, h2⟩ := same hb2 (st3 e ⟨rfl, rfl⟩)
        exact ⟨_, M2, he, h1, h2⟩
      · have := prevExt_o B H.length k a M W hT.b hk
        rw [e]
        refine this.mono fun e' w' ⟨he, hC⟩ => ?_
        exact ⟨_, _, he, done_chg hT hi hk hC (st4 e ⟨rfl, rfl⟩) (hiK.1.as hiK.1.proto false) rfl rfl, hC⟩
      · have := getOwn_o B H.length k a M[k] W hof hTab (hA.key (.inl e))
        rw [e]
        refine this.mono fun e' w' ⟨he, hb2⟩ => ?_
        obtain ⟨M2, h1, h2⟩ := same hb2 (st5 e ⟨rfl, rfl⟩)
        exact ⟨_, M2, he, h1, h2⟩
      · have hky := hA.key (.inr (.inl e))
        have := define_o B H.length k a M[k] M W hT.b hk rfl (HRest.tw hT) hTab hky ha.k ha.d
        rw [e]
        refine this.mono fun e' w' ⟨q, p, he, hD, hC, hR⟩ => ?_
        exact ⟨q, _, he, ⟨⟨M, p, hT.like, hk, rfl, st6 e hD⟩, hR, ins_set hi (def_ins hD hiK hTab.ok hky ha)⟩, hC⟩
      · have hky := hA.key (.inr (.inr e))
        have := delete_o B H.length k a M[k] M W hT.b hk rfl (HRest.tw hT) hTab hky
        rw [e]
        refine this.mono fun e' w' ⟨q, p, he, hD, hC, hR⟩ => ?_
        exact ⟨q, _, he, ⟨⟨M, p, hT.like, hk, rfl, st10 e hD⟩, hR, ins_set hi (del_ins hD hiK)⟩, hC⟩
      · have := ownKeys_o B H.length k a M[k] W hof hTab (tab_up htab hb)
        rw [e]
        refine this.mono fun e' w' ⟨L, O, he, hO, hg, hb2⟩ => ?_
        obtain ⟨M2, h1, h2⟩ := same hb2 (st11 e ⟨⟨L, O, rfl, hO, hg⟩, rfl⟩)
        exact ⟨_, M2, he, h1, h2⟩
    · exact (Do_bad2 A H.length cap a w (mayA H a) hE cC cY).mono fun e w' ⟨he, hb⟩ => ⟨hb, .inl ⟨by rw [ed]; exact hE, by rw [ed]; exact he⟩⟩
end Go.Proofs.YtlfbflclefndjaaGreatDoor.S
/-
  The law's own (12): does, whatever is asked.
-/
namespace Go.Proofs.YtlfbflclefndjaaGreatDoor.S
open Go.RowKit Go.Lib Fl
open Classical

theorem run_build_oz (w : World) : (Instr.build 44 #[]).run Tryz.prog w = .ok (.agg (oqA ozero)) w := by kernel_rfl
theorem eb_oz {o : Oper} {a : Act} {w : World} (ho : o.op = .build 44 #[]) : (execOp a.eval o).run Tryz.prog w = .ok (.value (.agg (oqA ozero))) w := by
  unfold execOp
  simp only [ho, List.map_toArray, List.map_nil, run_build_oz, Sem.run_bind, Sem.run_pure, Result.andThen_ok]
set_option maxHeartbeats 4000000 in
set_option maxRecDepth 1000000 in
theorem does_bad (A : Option Addr) (n cap : Nat) (a : Ak) (w : World) (E : Int) (hE : E ≠ 0)
    (cD : ∀ W, Below w.heap.size w W → Calls Tryz.prog 8 #[.agg #[.slice A n cap], .agg (akA a)] W fun e w' => e = .returned (.tuple #[.agg #[.slice none 0 0], .agg (oqA ozero), .int .i64 E]) ∧ Below W.heap.size W w') :
    Calls Tryz.prog 14 #[.agg #[.slice A n cap], .agg (akA a)] w fun e w' => e = .returned (.tuple #[.agg #[.slice A n cap], .agg (oqA ozero)]) ∧ Below w.heap.size w w' := by
  have HS := Lib.hid (dx_start w A n cap a)
  have hi1 : ∀ v : Value, (Tryz.prog.info? 24).map (·.size) = some (#[v] : Array Value).size := fun v => hsz
  have hc1 : ∀ v : Value, v.oneCell' = true → (#[v] : Array Value).all (·.oneCell') = true := fun v h => cells_one (l := [v]) (by simpa using h)
  have hzb : (E != 0) = true := by unfold bne; rw [beq_eq_false_iff_ne.2 hE]; rfl
  clear hE
  go_enter Tryz.func14, Tryz.ntmps14
  go_wp2_with (first
    | ((with_reducible refine ak_ld ?_ rfl rfl HS.out.a ?_); (rfl))
    | ((with_reducible refine h1_ld ?_ rfl rfl HS.out.h ?_); (rfl))
    | (go_at_call 8; (with_reducible refine (cD _ HS.out.below).mono ?_); rintro e w1 ⟨rfl, h9⟩; have HS := Lib.hid (HS.out.up h9); obtain ⟨g1, g2⟩ := vblk2 (w := w1) (Below.refl _ ((w1.alloc (.cells #[.slice none 0 0] 24)).alloc (.cells oz26 44))); have gB : Below w1.heap.size w1 ((w1.alloc (.cells #[.slice none 0 0] 24)).alloc (.cells oz26 44)) := vafter (vzero _ _); clear h9)
    | ((with_reducible refine t_store (cs := #[.slice none 0 0]) rfl rfl rfl rfl g1 (hi1 _) ?_ (hc1 _ rfl) gB (Nat.le_refl _) ?_); (rfl); intro W4 hb4 hW4 hO4 hz4; have g3 := (hO4 (w1.heap.size + 1) (by omega)).trans g2)
    | ((with_reducible refine oq_store (q := ozero) rfl rfl rfl rfl g3 rfl hb4 (Nat.le_succ _) ?_); intro W5 hb5 hW5 hO5 hz5; have HS := Lib.hid (HS.out.up hb5); have hr := HS.out.f; have hB5 := HS.out.below)
    | (refine w_run ?_ (eb_oz rfl) ?_; (rfl))
    | ((with_reducible refine t_store (cs := #[.slice A n cap]) rfl rfl rfl rfl hr (hi1 _) ?_ (hc1 _ rfl) hB5 (by omega) ?_); (rfl); intro W6 hb6 hW6 hO6 hz6; have ho6 := (hO6 (w.heap.size + 3) (by omega)).trans HS.out.o)
    | (refine oq_store (q := ozero) rfl rfl rfl rfl ho6 rfl hb6 (by omega) ?_; intro W7 hb7 hW7 hO7 hz7; have hf7 := (hO7 (w.heap.size + 2) (by omega)).trans hW6))
  exact hq_end Tryz.results14 rfl rfl hf7 hW7 ⟨rfl, hb7⟩
/-- what does gives -/
def DoesTo (H : List Ob) (A : Option Addr) (cap : Nat) (a : Ak) (w : World) (e : Ending) (w' : World) : Prop := Below w.heap.size w w' ∧ ((doE H a ≠ 0 ∧ e = .returned (.tuple #[.agg #[.slice A H.length cap], .agg (oqA ozero)])) ∨
  (doE H a = 0 ∧ mayH H = true ∧ ∃ k B q M2, MayAsk H k a ∧ e = .returned (.tuple #[.agg #[.slice (some ⟨B, 0, none⟩) H.length H.length], .agg (oqA q)]) ∧ DoneH H k a q M2 w' ∧ w'.heap[B]? = some (.cells (hcl M2).toArray 37 (0, 0))))
theorem Does_any (A : Option Addr) (H : List Ob) (cap : Nat) (a : Ak) (w : World) (hH : HIn w A H cap) (hp : ∀ o ∈ H, o.props.length ≤ 100000) (ha : a.In) (htab : TabHere w) : Calls Tryz.prog 14 #[.agg #[.slice A H.length cap], .agg (akA a)] w (DoesTo H A cap a w) := by
  have cD := fun W (hb : Below w.heap.size w W) => Do_any A H cap a W (hH.up hb) hp ha (tab_up htab hb)
  by_cases hE : doE H a = 0
  · have h := does_any A H.length cap a w (fun v q W => mayH H = true ∧ ∃ k B M2, v = .slice (some ⟨B, 0, none⟩) H.length H.length ∧ MayAsk H k a ∧ DoneH H k a q M2 W ∧ W.heap[B]? = some (.cells (hcl M2).toArray 37 (0, 0)))
      (fun W hb => (cD W hb).mono fun e w' ⟨hb2, h⟩ => by
        rcases h with ⟨hn, _⟩ | ⟨_, hm, k, B, q, M2, hA, he, hD, hB⟩
        · exact absurd hE hn
        · exact ⟨_, q, rfl, he, ⟨hm, k, B, M2, rfl, hA, hD, hB⟩, hb2⟩)
      (fun v q W W' ⟨hm, k, B, M2, hv, hA, hD, hB⟩ hx hy _ hO => ⟨hm, k, B, M2, hv, hA, hD.two hx hy hO, by
        refine (hO B (lt_blk hB) (fun e => ?_) (fun e => ?_)).trans hB
        · subst e; obtain ⟨c, hc⟩ := hx; rw [hB] at hc; cases hc
        · subst e; obtain ⟨c, hc⟩ := hy; rw [hB] at hc; cases hc⟩)
    exact h.mono fun e w' ⟨v, q, he, ⟨hm, k, B, M2, hv, hA, hD, hB⟩, hb⟩ => ⟨hb, .inr ⟨hE, hm, k, B, q, M2, hA, by rw [he, hv], hD, hB⟩⟩
  · exact (does_bad A H.length cap a w (doE H a) hE fun W hb => (cD W hb).mono fun e w' ⟨hb2, h⟩ => by
      rcases h with ⟨_, he⟩ | ⟨hz, _⟩
      · exact ⟨he, hb2⟩
      · exact absurd hz hE).mono fun e w' ⟨he, hb⟩ => ⟨hb, .inl ⟨hE, he⟩⟩
end Go.Proofs.YtlfbflclefndjaaGreatDoor.S
/-
  The law's own (12): alive.
-/
namespace Go.Proofs.YtlfbflclefndjaaGreatDoor.S
open Go.RowKit Go.Lib Fl
open Classical

/-- an ask with what it needs -/
def akq (m n : Int) (k : Ky) (d : Dq) (v : Vq) : Ak := ⟨m, n, k, d, v, v0, none, 0, 0⟩
theorem dz0_in : (dz 0).In := ⟨by decide, by decide, ok_in v0_ok, ok_in v0_ok, ok_in v0_ok⟩
theorem rb_ak5 (k : Ky) (w : World) : (Instr.build 49 #[(0, .int .u8 5), (2, .agg #[.string k.str, .int .i64 k.sym])]).run Tryz.prog w = .ok (.agg (akA (akq 5 0 k (dz 0) v0))) w := by kernel_rfl
theorem rb_ak51 (n : Int) (k : Ky) (w : World) : (Instr.build 49 #[(0, .int .u8 5), (1, .int .i64 n), (2, .agg #[.string k.str, .int .i64 k.sym])]).run Tryz.prog w = .ok (.agg (akA (akq 5 n k (dz 0) v0))) w := by kernel_rfl
section
variable {o : Oper} {a : Act} {w : World} {x y : Operand}
theorem ea_ak5 {k : Ky} (ho : o.op = .build 49 #[(0, .const (.int .u8 5)), (2, x)]) (hx : a.eval x = .agg #[.string k.str, .int .i64 k.sym]) : (execOp a.eval o).run Tryz.prog w = .ok (.value (.agg (akA (akq 5 0 k (dz 0) v0)))) w := by
  unfold execOp
  simp only [ho, List.map_toArray, List.map_cons, List.map_nil, hx, show ∀ v, a.eval (.const v) = v from fun _ => rfl, rb_ak5, Sem.run_bind, Sem.run_pure, Result.andThen_ok]
theorem ea_ak51 {n : Int} {k : Ky} (ho : o.op = .build 49 #[(0, .const (.int .u8 5)), (1, y), (2, x)]) (hy : a.eval y = .int .i64 n) (hx : a.eval x = .agg #[.string k.str, .int .i64 k.sym]) : (execOp a.eval o).run Tryz.prog w = .ok (.value (.agg (akA (akq 5 n k (dz 0) v0)))) w := by
  unfold execOp
  simp only [ho, List.map_toArray, List.map_cons, List.map_nil, hx, hy, show ∀ v, a.eval (.const v) = v from fun _ => rfl, rb_ak51, Sem.run_bind, Sem.run_pure, Result.andThen_ok]
end
def kyA : Ky := ⟨(⟨#[97]⟩ : ByteArray), 0⟩
theorem kyA_in : KyIn kyA := p7_in.1
theorem kyA_ok : mayKy kyA := p7_ok.1
/-- what a found property is, told of the heap that was asked -/
theorem step5 {H : List Ob} {k : Nat} {a : Ak} {q : Oq} {M2 : List Ob} {W : World} (h : DoneH H k a q M2 W) (e : a.m = 5) (hk : k < H.length) : q = foundO (findT H[k].props a.k).isSome (fndD H[k].props a.k) ∧ M2.map Ob.bare = H.map Ob.bare := by
  obtain ⟨M, p, hl, hkM, hM2, hs⟩ := h.step
  obtain ⟨h1, h2⟩ := hs.m5 e
  have h3 := congrArg Ob.props (bare_k hl hkM hk)
  have hp : M[k].props = H[k].props := h3
  rw [hp] at h1
  refine ⟨h1, ?_⟩
  rw [hM2, set_self hkM h2]
  exact hl
theorem do_two (n : Nat) (b : Option Addr) (hn : n < 2) : doE (H2 b) (akq 5 n kyA (dz 0) v0) = 0 := by
  unfold doE
  rw [may2]
  have h1 : inB (H2 b) n = true := decide_eq_true (by constructor; exact Int.natCast_nonneg n; show (n : Int) < 2; omega)
  have h2 : askK (H2 b) n = true := by
    match n, hn with
    | 0, _ => rfl
    | 1, _ => rfl
  show mayE (H2 b) (akq 5 n kyA (dz 0) v0) = 0
  unfold mayE
  show (bif eightM 5 && (inB (H2 b) n && askK (H2 b) n) then _ else _) = 0
  rw [h1, h2]
  exact keyE_ok.2 kyA_ok
theorem akq_in {m n : Int} {k : Ky} {d : Dq} {v : Vq} (hk : KyIn k) (hd : d.In) (hv : v.In) : (akq m n k d v).In := ⟨hk, hd, hv⟩
theorem fnd_a : (findT [p7] kyA).isSome = true ∧ fndD [p7] kyA = p7.d := by
  have h : findT [p7] kyA = some p7 := find_mid (A := []) (B := []) (fun _ h => by cases h) rfl
  unfold fndD
  rw [h]
  exact ⟨rfl, rfl⟩
theorem fnd_none (k : Ky) : (findT [] k).isSome = false ∧ fndD [] k = dz 0 := by
  have h : findT [] k = none := find_none (fun _ h => by cases h)
  unfold fndD
  rw [h]
  exact ⟨rfl, rfl⟩
theorem two_props (n : Nat) (hn : n < 2) (b c : Option Addr) : (H2 b)[n].props = (H2 c)[n].props := by
  match n, hn with
  | 0, _ => rfl
  | 1, _ => rfl
theorem does_two (n : Nat) (hn : n < 2) (q : Oq) (hq : q = foundO (findT (H2 none)[n].props kyA).isSome (fndD (H2 none)[n].props kyA)) {B g : Nat} {W : World} (hT : TwoAt B g W) (htab : TabHere W) : Calls Tryz.prog 14 #[.agg #[.slice (some ⟨B, 0, none⟩) 2 2], .agg (akA (akq 5 n kyA (dz 0) v0))] W fun e w' => ∃ B2, e = .returned (.tuple #[.agg #[.slice (some ⟨B2, 0, none⟩) 2 2], .agg (oqA q)]) ∧ Below W.heap.size W w' := by
  have := Does_any (some ⟨B, 0, none⟩) (H2 (some ⟨g, 0, none⟩)) 2 (akq 5 n kyA (dz 0) v0) W hT.inn two_few (akq_in kyA_in dz0_in (ok_in v0_ok)) htab
  refine this.mono fun e w' ⟨hb, h⟩ => ?_
  rcases h with ⟨hne, _⟩ | ⟨_, _, k, B2, q2, M2, hA, he, hD, _⟩
  · exact absurd (do_two n _ hn) hne
  · have hk : k = n := by have := hA.n; exact Int.ofNat.inj this.symm
    subst hk
    obtain ⟨h1, _⟩ := step5 hD rfl hA.lt
    refine ⟨B2, ?_, hb⟩
    have h1 : q2 = foundO (findT (H2 (some ⟨g, 0, none⟩))[k].props kyA).isSome (fndD (H2 (some ⟨g, 0, none⟩))[k].props kyA) := h1
    rw [two_props k hn (some ⟨g, 0, none⟩) none, ← hq] at h1
    rw [he, h1]
    rfl
theorem oq_desc {W : World} {g : Nat} {q : Oq} {t : TypeId} (h : W.heap[g]? = some (.cells (oqA q) t (0, 0))) : (Instr.loadAt 41 (.pointer (some ⟨g, 7, none⟩))).run Tryz.prog W = .ok (.agg q.d.cells) W :=
  run_loadAt_at (A := ⟨g, 7, none⟩) (cs := q.d.cells.toList) (fun j u hu => by
    rw [Addr.add_mid, vcells h (7 + j)]
    have hj : j < 16 := (List.getElem?_eq_some_iff.1 hu).1
    match j, hj, hu with
    | 0, _, hu => cases hu; rfl
    | 1, _, hu => cases hu; rfl
    | 2, _, hu => cases hu; rfl
    | 3, _, hu => cases hu; rfl
    | 4, _, hu => cases hu; rfl
    | 5, _, hu => cases hu; rfl
    | 6, _, hu => cases hu; rfl
    | 7, _, hu => cases hu; rfl
    | 8, _, hu => cases hu; rfl
    | 9, _, hu => cases hu; rfl
    | 10, _, hu => cases hu; rfl
    | 11, _, hu => cases hu; rfl
    | 12, _, hu => cases hu; rfl
    | 13, _, hu => cases hu; rfl
    | 14, _, hu => cases hu; rfl
    | 15, _, hu => cases hu; rfl
    | n + 16, h, _ => exact absurd h (by omega)) Tryz.underlying41 rfl dsz
/-- what alive has told -/
structure Al (w : World) (g2 g4 : Nat) (q1 q2 : Oq) (W : World) : Prop where
  a : W.heap[g2]? = some (.cells (oqA q1) 44 (0, 0))
  b : W.heap[g4]? = some (.cells (oqA q2) 44 (0, 0))
  below : Below w.heap.size w W
theorem Al.up {w : World} {g2 g4 : Nat} {q1 q2 : Oq} {W W' : World} (h : Al w g2 g4 q1 q2 W) (hb : Below W.heap.size W W') : Al w g2 g4 q1 q2 W' := ⟨vblkn hb h.a, vblkn hb h.b, vb h.below hb⟩
set_option maxHeartbeats 8000000 in
set_option maxRecDepth 1000000 in
theorem alive12 (w : World) (htab : TabHere w) : Calls Tryz.prog 4 #[] w fun e w' => e = .returned (.bool true) ∧ Below w.heap.size w w' := by
  have cT := fun W => two12 W
  have cK := fun W => key12 (⟨#[97]⟩ : ByteArray) W
  have cS := fun W => seven12 W
  have cE := fun W => same_full (d := dN 4619567317775286272) (ok_good p7_ok p7_in) W
  obtain ⟨q1, hq1⟩ : ∃ q : Oq, q = foundO true (dN 4619567317775286272) := ⟨_, rfl⟩
  obtain ⟨q2, hq2⟩ : ∃ q : Oq, q = foundO false (dz 0) := ⟨_, rfl⟩
  have c0 : ∀ (W : World) (B g : Nat), Below w.heap.size w W → TwoAt B g W → Calls Tryz.prog 14 #[.agg #[.slice (some ⟨B, 0, none⟩) 2 2], .agg (akA (akq 5 0 kyA (dz 0) v0))] W fun e w' => ∃ B2, e = .returned (.tuple #[.agg #[.slice (some ⟨B2, 0, none⟩) 2 2], .agg (oqA q1)]) ∧ Below W.heap.size W w' := fun W B g hb h => does_two 0 (by decide) q1 (by rw [hq1]; show _ = foundO (findT [p7] kyA).isSome (fndD [p7] kyA); rw [fnd_a.1, fnd_a.2]; rfl) h (tab_up htab hb)
  have c1 : ∀ (W : World) (B g : Nat), Below w.heap.size w W → TwoAt B g W → Calls Tryz.prog 14 #[.agg #[.slice (some ⟨B, 0, none⟩) 2 2], .agg (akA (akq 5 1 kyA (dz 0) v0))] W fun e w' => ∃ B2, e = .returned (.tuple #[.agg #[.slice (some ⟨B2, 0, none⟩) 2 2], .agg (oqA q2)]) ∧ Below W.heap.size W w' := fun W B g hb h => does_two 1 (by decide) q2 (by rw [hq2]; show _ = foundO (findT [] kyA).isSome (fndD [] kyA); rw [(fnd_none kyA).1, (fnd_none kyA).2]) h (tab_up htab hb)
  have hi1 : ∀ v : Value, (Tryz.prog.info? 24).map (·.size) = some (#[v] : Array Value).size := fun v => hsz
  have hc1 : ∀ v : Value, v.oneCell' = true → (#[v] : Array Value).all (·.oneCell') = true := fun v h => cells_one (l := [v]) (by simpa using h)
  have HB := Lib.hid (Below.refl w.heap.size w)
  have HQ1 := Lib.hid hq1
  have HQ2 := Lib.hid hq2
  clear htab hq1 hq2
  go_enter Tryz.func4, Tryz.ntmps4
  go_upto_region 2 with (first
    | (go_at_call 15; (with_reducible refine (cT _).mono ?_); rintro e w1 ⟨B, g, rfl, t1, t2, h9⟩; have HT : Hid (TwoAt B g w1) := Lib.hid ⟨t1, t2⟩; have HB := Lib.hid (vb HB.out h9); clear h9 t1 t2)
    | (go_at_call 16; (with_reducible refine (cK _).mono ?_); rintro e w2 ⟨rfl, h9⟩; have HT := Lib.hid (HT.out.up h9); have HB := Lib.hid (vb HB.out h9); clear h9)
    | (refine w_run ?_ (ea_ak5 (k := kyA) rfl rfl) ?_; (rfl))
    | (go_at_call 14; (with_reducible refine (c0 _ _ _ HB.out HT.out).mono ?_); rintro e w3 ⟨B2, rfl, h9⟩; have HB := Lib.hid (vb HB.out h9); obtain ⟨g1, g2⟩ := vblk2 (w := w3) (Below.refl _ ((w3.alloc (.cells #[.slice none 0 0] 24)).alloc (.cells oz26 44))); have gB : Below w3.heap.size w3 ((w3.alloc (.cells #[.slice none 0 0] 24)).alloc (.cells oz26 44)) := vafter (vzero _ _); clear h9 HT)
    | ((with_reducible refine t_store (cs := #[.slice (some ⟨B2, 0, none⟩) 2 2]) rfl rfl rfl rfl g1 (hi1 _) ?_ (hc1 _ rfl) gB (Nat.le_refl _) ?_); (rfl); intro W4 hb4 hW4 hO4 hz4; have g3 := (hO4 (w3.heap.size + 1) (by omega)).trans g2; clear hO4 hz4 hW4)
    | ((with_reducible refine oq_store (q := q1) rfl rfl rfl rfl g3 rfl hb4 (Nat.le_succ _) ?_); intro W5 hb5 hW5 hO5 hz5; have HB := Lib.hid (vb HB.out hb5); have G1 := Lib.hid hW5; clear hW5 hO5 hz5 g3 hb4 g1 g2 gB hb5))
  generalize w3.heap.size + 1 = ga at *
  go_upto_region 3 with (first
    | (go_at_call 15; (with_reducible refine (cT _).mono ?_); rintro e w6 ⟨B, g, rfl, t1, t2, h9⟩; have HT : Hid (TwoAt B g w6) := Lib.hid ⟨t1, t2⟩; have HB := Lib.hid (vb HB.out h9); have G1 := Lib.hid (vblkn h9 G1.out); clear h9 t1 t2)
    | (go_at_call 16; (with_reducible refine (cK _).mono ?_); rintro e w7 ⟨rfl, h9⟩; have HT := Lib.hid (HT.out.up h9); have HB := Lib.hid (vb HB.out h9); have G1 := Lib.hid (vblkn h9 G1.out); clear h9)
    | (refine w_run ?_ (ea_ak51 (n := 1) (k := kyA) rfl rfl rfl) ?_; (rfl))
    | (go_at_call 14; (with_reducible refine (c1 _ _ _ HB.out HT.out).mono ?_); rintro e w8 ⟨B3, rfl, h9⟩; have HB := Lib.hid (vb HB.out h9); have G1 := Lib.hid (vblkn h9 G1.out); obtain ⟨g1, g2⟩ := vblk2 (w := w8) (Below.refl _ ((w8.alloc (.cells #[.slice none 0 0] 24)).alloc (.cells oz26 44))); have gB : Below w8.heap.size w8 ((w8.alloc (.cells #[.slice none 0 0] 24)).alloc (.cells oz26 44)) := vafter (vzero _ _); clear h9 HT)
    | ((with_reducible refine t_store (cs := #[.slice (some ⟨B3, 0, none⟩) 2 2]) rfl rfl rfl rfl g1 (hi1 _) ?_ (hc1 _ rfl) gB (Nat.le_refl _) ?_); (rfl); intro W4 hb4 hW4 hO4 hz4; have g3 := (hO4 (w8.heap.size + 1) (by omega)).trans g2; clear hO4 hz4 hW4)
    | ((with_reducible refine oq_store (q := q2) rfl rfl rfl rfl g3 rfl hb4 (Nat.le_succ _) ?_); intro W9 hb5 hW5 hO5 hz5; have HA : Hid (Al w ga (w8.heap.size + 1) q1 q2 W9) := Lib.hid ⟨vblkn hb5 G1.out, hW5, vb HB.out hb5⟩; clear hW5 hO5 hz5 g3 hb4 g1 g2 gB hb5))
  generalize w8.heap.size + 1 = gb at *
  have hS := HA.out.up (Below.refl _ _).drew
  refine wp_region_held_drew (S := Al w ga gb q1 q2) (by kernel_rfl) hS (fun hHeld => ?_)
  generalize World.drew _ = W0 at *
  refine hH_take (i := 0) (v := .pointer (some ⟨ga, 0, none⟩)) (d := 19) (l2 := #[true, false, false, false, false, false, false, false, false, false, false, false, false, false, false, false, false, false, false, false, false, false, false, false]) rfl (by kernel_rfl) (by kernel_rfl) (by kernel_rfl) (fun _ _ _ h => h) (by kernel_rfl) ?_ (by assumption) rfl (by kernel_rfl) ?_
  · intro w hSw; go_simp; (try with_reducible rfl)
  simp only [List.set]
  refine hH_take (i := 1) (v := .int .u8 1) (d := 20) (l2 := #[true, true, false, false, false, false, false, false, false, false, false, false, false, false, false, false, false, false, false, false, false, false, false, false]) rfl (by kernel_rfl) (by kernel_rfl) (by kernel_rfl) (fun _ _ _ h => h) (by kernel_rfl) ?_ (by assumption) rfl (by kernel_rfl) ?_
  · intro w hSw; have q : w.cell? _ = some (.int .u8 1) := (vcells hSw.a 0).trans (by rw [HQ1.out]; rfl); go_simp; (try with_reducible rfl)
  simp only [List.set]
  refine hH_take (i := 2) (v := .bool true) (d := 21) (l2 := #[true, true, true, false, false, false, false, false, false, false, false, false, false, false, false, false, false, false, false, false, false, false, false, false]) rfl (by kernel_rfl) (by kernel_rfl) (by kernel_rfl) (fun _ _ _ h => h) (by kernel_rfl) ?_ (by assumption) rfl (by kernel_rfl) ?_
  · intro w hSw; go_simp; (try with_reducible rfl)
  simp only [List.set]
  refine hH_take (i := 3) (v := .bool true) (d := 22) (l2 := #[true, true, true, true, false, false, false, false, false, false, false, false, false, false, false, false, false, false, false, false, false, false, false, false]) rfl (by kernel_rfl) (by kernel_rfl) (by kernel_rfl) (fun _ _ _ h => h) (by kernel_rfl) ?_ (by assumption) rfl (by kernel_rfl) ?_
  · intro w hSw; go_simp; (try with_reducible rfl)
  simp only [List.set]
  refine hH_take (i := 4) (v := .pointer (some ⟨ga, 6, none⟩)) (d := 23) (l2 := #[true, true, true, true, true, false, false, false, false, false, false, false, false, false, false, false, false, false, false, false, false, false, false, false]) rfl (by kernel_rfl) (by kernel_rfl) (by kernel_rfl) (fun _ _ _ h => h) (by kernel_rfl) ?_ (by assumption) rfl (by kernel_rfl) ?_
  · intro w hSw; go_simp; (try with_reducible rfl)
  simp only [List.set]
  refine hH_take (i := 5) (v := .bool true) (d := 24) (l2 := #[true, true, true, true, true, true, false, false, false, false, false, false, false, false, false, false, false, false, false, false, false, false, false, false]) rfl (by kernel_rfl) (by kernel_rfl) (by kernel_rfl) (fun _ _ _ h => h) (by kernel_rfl) ?_ (by assumption) rfl (by kernel_rfl) ?_
  · intro w hSw; have q : w.cell? _ = some (.bool true) := (vcells hSw.a 6).trans (by rw [HQ1.out]; rfl); go_simp; (try with_reducible rfl)
  simp only [List.set]
  refine hH_take (i := 6) (v := .bool true) (d := 25) (l2 := #[true, true, true, true, true, true, true, false, false, false, false, false, false, false, false, false, false, false, false, false, false, false, false, false]) rfl (by kernel_rfl) (by kernel_rfl) (by kernel_rfl) (fun _ _ _ h => h) (by kernel_rfl) ?_ (by assumption) rfl (by kernel_rfl) ?_
  · intro w hSw; go_simp; (try with_reducible rfl)
  simp only [List.set]
  refine hH_take (i := 7) (v := .bool true) (d := 26) (l2 := #[true, true, true, true, true, true, true, true, false, false, false, false, false, false, false, false, false, false, false, false, false, false, false, false]) rfl (by kernel_rfl) (by kernel_rfl) (by kernel_rfl) (fun _ _ _ h => h) (by kernel_rfl) ?_ (by assumption) rfl (by kernel_rfl) ?_
  · intro w hSw; go_simp; (try with_reducible rfl)
  simp only [List.set]
  refine hH_take (i := 8) (v := .pointer (some ⟨ga, 7, none⟩)) (d := 27) (l2 := #[true, true, true, true, true, true, true, true, true, false, false, false, false, false, false, false, false, false, false, false, false, false, false, false]) rfl (by kernel_rfl) (by kernel_rfl) (by kernel_rfl) (fun _ _ _ h => h) (by kernel_rfl) ?_ (by assumption) rfl (by kernel_rfl) ?_
  · intro w hSw; go_simp; (try with_reducible rfl)
  simp only [List.set]
  refine hH_take (i := 9) (v := .agg (dN 4619567317775286272).cells) (d := 28) (l2 := #[true, true, true, true, true, true, true, true, true, true, false, false, false, false, false, false, false, false, false, false, false, false, false, false]) rfl (by kernel_rfl) (by kernel_rfl) (by kernel_rfl) (fun _ _ _ h => h) (by kernel_rfl) ?_ (by assumption) rfl (by kernel_rfl) ?_
  · intro w hSw; exact (ex_load_at (oq_desc hSw.a) rfl rfl).trans (by rw [HQ1.out]; rfl)
  simp only [List.set]
  refine wpAnyH_ready (rs := [10]) (by kernel_rfl) (by simp) ?_
  refine AllReadyH.cons rfl (fun K hK => ?_) AllReadyH.nil
  go_simp
  go_at_call 17
  (with_reducible refine (cS _).mono ?_)
  rintro e w10 ⟨rfl, h9⟩
  have hS := hS.up h9
  clear h9
  refine hK.out _ _ hS (fun hHeld => ?_)
  clear hK K
  refine wpAnyH_ready (rs := [11]) (by kernel_rfl) (by simp) ?_
  refine AllReadyH.cons rfl (fun K hK => ?_) AllReadyH.nil
  go_simp
  go_at_call 13
  (with_reducible refine (cE _).mono ?_)
  rintro e w11 ⟨rfl, h9⟩
  have hS := hS.up h9
  clear h9
  refine hK.out _ _ hS (fun hHeld => ?_)
  clear hK K
  refine hH_take (i := 12) (v := .bool true) (d := 31) (l2 := #[true, true, true, true, true, true, true, true, true, true, true, true, true, false, false, false, false, false, false, false, false, false, false, false]) rfl (by kernel_rfl) (by kernel_rfl) (by kernel_rfl) (fun _ _ _ h => h) (by kernel_rfl) ?_ (by assumption) rfl (by kernel_rfl) ?_
  · intro w hSw; go_simp; (try with_reducible rfl)
  simp only [List.set]
  refine hH_take (i := 13) (v := .bool true) (d := 32) (l2 := #[true, true, true, true, true, true, true, true, true, true, true, true, true, true, false, false, false, false, false, false, false, false, false, false]) rfl (by kernel_rfl) (by kernel_rfl) (by kernel_rfl) (fun _ _ _ h => h) (by kernel_rfl) ?_ (by assumption) rfl (by kernel_rfl) ?_
  · intro w hSw; go_simp; (try with_reducible rfl)
  simp only [List.set]
  refine hH_take (i := 14) (v := .pointer (some ⟨gb, 0, none⟩)) (d := 33) (l2 := #[true, true, true, true, true, true, true, true, true, true, true, true, true, true, true, false, false, false, false, false, false, false, false, false]) rfl (by kernel_rfl) (by kernel_rfl) (by kernel_rfl) (fun _ _ _ h => h) (by kernel_rfl) ?_ (by assumption) rfl (by kernel_rfl) ?_
  · intro w hSw; go_simp; (try with_reducible rfl)
  simp only [List.set]
  refine hH_take (i := 15) (v := .int .u8 1) (d := 34) (l2 := #[true, true, true, true, true, true, true, true, true, true, true, true, true, true, true, true, false, false, false, false, false, false, false, false]) rfl (by kernel_rfl) (by kernel_rfl) (by kernel_rfl) (fun _ _ _ h => h) (by kernel_rfl) ?_ (by assumption) rfl (by kernel_rfl) ?_
  · intro w hSw; have q : w.cell? _ = some (.int .u8 1) := (vcells hSw.b 0).trans (by rw [HQ2.out]; rfl); go_simp; (try with_reducible rfl)
  simp only [List.set]
  refine hH_take (i := 16) (v := .bool true) (d := 35) (l2 := #[true, true, true, true, true, true, true, true, true, true, true, true, true, true, true, true, true, false, false, false, false, false, false, false]) rfl (by kernel_rfl) (by kernel_rfl) (by kernel_rfl) (fun _ _ _ h => h) (by kernel_rfl) ?_ (by assumption) rfl (by kernel_rfl) ?_
  · intro w hSw; go_simp; (try with_reducible rfl)
  simp only [List.set]
  refine hH_take (i := 17) (v := .bool true) (d := 36) (l2 := #[true, true, true, true, true, true, true, true, true, true, true, true, true, true, true, true, true, true, false, false, false, false, false, false]) rfl (by kernel_rfl) (by kernel_rfl) (by kernel_rfl) (fun _ _ _ h => h) (by kernel_rfl) ?_ (by assumption) rfl (by kernel_rfl) ?_
  · intro w hSw; go_simp; (try with_reducible rfl)
  simp only [List.set]
  refine hH_take (i := 18) (v := .bool true) (d := 37) (l2 := #[true, true, true, true, true, true, true, true, true, true, true, true, true, true, true, true, true, true, true, false, false, false, false, false]) rfl (by kernel_rfl) (by kernel_rfl) (by kernel_rfl) (fun _ _ _ h => h) (by kernel_rfl) ?_ (by assumption) rfl (by kernel_rfl) ?_
  · intro w hSw; go_simp; (try with_reducible rfl)
  simp only [List.set]
  refine hH_take (i := 19) (v := .pointer (some ⟨gb, 6, none⟩)) (d := 38) (l2 := #[true, true, true, true, true, true, true, true, true, true, true, true, true, true, true, true, true, true, true, true, false, false, false, false]) rfl (by kernel_rfl) (by kernel_rfl) (by kernel_rfl) (fun _ _ _ h => h) (by kernel_rfl) ?_ (by assumption) rfl (by kernel_rfl) ?_
  · intro w hSw; go_simp; (try with_reducible rfl)
  simp only [List.set]
  refine hH_take (i := 20) (v := .bool false) (d := 39) (l2 := #[true, true, true, true, true, true, true, true, true, true, true, true, true, true, true, true, true, true, true, true, true, false, false, false]) rfl (by kernel_rfl) (by kernel_rfl) (by kernel_rfl) (fun _ _ _ h => h) (by kernel_rfl) ?_ (by assumption) rfl (by kernel_rfl) ?_
  · intro w hSw; have q : w.cell? _ = some (.bool false) := (vcells hSw.b 6).trans (by rw [HQ2.out]; rfl); go_simp; (try with_reducible rfl)
  simp only [List.set]
  refine hH_take (i := 21) (v := .bool true) (d := 40) (l2 := #[true, true, true, true, true, true, true, true, true, true, true, true, true, true, true, true, true, true, true, true, true, true, false, false]) rfl (by kernel_rfl) (by kernel_rfl) (by kernel_rfl) (fun _ _ _ h => h) (by kernel_rfl) ?_ (by assumption) rfl (by kernel_rfl) ?_
  · intro w hSw; go_simp; (try with_reducible rfl)
  simp only [List.set]
  refine hH_take (i := 22) (v := .bool true) (d := 41) (l2 := #[true, true, true, true, true, true, true, true, true, true, true, true, true, true, true, true, true, true, true, true, true, true, true, false]) rfl (by kernel_rfl) (by kernel_rfl) (by kernel_rfl) (fun _ _ _ h => h) (by kernel_rfl) ?_ (by assumption) rfl (by kernel_rfl) ?_
  · intro w hSw; go_simp; (try with_reducible rfl)
  simp only [List.set]
  refine hH_take (i := 23) (v := .bool true) (d := 0) (l2 := #[true, true, true, true, true, true, true, true, true, true, true, true, true, true, true, true, true, true, true, true, true, true, true, true]) rfl (by kernel_rfl) (by kernel_rfl) (by kernel_rfl) (fun _ _ _ h => h) (by kernel_rfl) ?_ (by assumption) rfl (by kernel_rfl) ?_
  · intro w hSw; go_simp; (try with_reducible rfl)
  simp only [List.set]
  refine wpAnyH_done (by kernel_rfl) ?_ _
  go_wp2_with (fail)
  go_ret
  exact ⟨rfl, hS.below⟩
end Go.Proofs.YtlfbflclefndjaaGreatDoor.S
/-
  OrdinaryKeeps: among, the keys of a list.
-/
namespace Go.Proofs.YtlfbflclefndjaaGreatDoor.S
open Go.RowKit Go.Lib Fl
open Classical

/-- a key in a list -/
def amongK (L : List Ky) (k : Ky) : Bool := L.any fun x => eqK x k
theorem among_iff {L : List Ky} {k : Ky} : amongK L k = true ↔ k ∈ L := by
  unfold amongK
  rw [List.any_eq_true]
  constructor
  · rintro ⟨x, hx, he⟩
    have := eqK_iff.1 he
    subst this
    exact hx
  · intro h
    exact ⟨k, h, eqK_iff.2 rfl⟩
theorem among_hit {L : List Ky} {k : Ky} {i : Nat} (hi : i < L.length) (e : L[i] = k) : amongK L k = true := among_iff.2 (e ▸ List.getElem_mem hi)
theorem among_miss {L : List Ky} {k : Ky} {i : Nat} (hi : i < L.length) (h : amongK (L.take i) k = false) (e : L[i] ≠ k) : amongK (L.take (i + 1)) k = false := by
  unfold amongK at h ⊢
  rw [List.take_succ_eq_append_getElem hi, List.any_append, h]
  show (false || (eqK L[i] k || false)) = false
  rw [eqK_no e]
  rfl
set_option maxHeartbeats 2000000 in
set_option maxRecDepth 100000 in
theorem among_o (A : Option Addr) (L : List Ky) (cap : Nat) (k : Ky) (w : World) (hl : L.length < 1000000000000) (hL : RK w A L) : Calls Tryz.prog 10 #[.slice A L.length cap, .agg #[.string k.str, .int .i64 k.sym]] w fun e w' => e = .returned (.bool (amongK L k)) ∧ Below w.heap.size w w' := by
  go_enter Tryz.func10, Tryz.ntmps10
  go_wp2
  go_loopg [5] L.length (fun kx s5 wr => ∃ i : Nat, s5 = .int .i64 i ∧ i + kx = L.length ∧ Hid (amongK (L.take i) k = false ∧ Below w.heap.size w wr ∧ wr.heap[w.heap.size]? = some (.cells #[.string k.str, .int .i64 k.sym] 26 (0, 0))))
  case atStart => exact ⟨0, rfl, by omega, Lib.hid ⟨rfl, vzero _ _, heap_alloc_new w _⟩⟩
  case round =>
    obtain ⟨i, rfl, hik, H⟩ := hrel
    cases gk with
    | zero =>
      obtain rfl : i = L.length := by omega
      have hn := H.out.1
      rw [List.take_length] at hn
      go_wp2
      go_ret
      exact ⟨by rw [hn]; rfl, H.out.2.1⟩
    | succ kx =>
      have hlt : i < L.length := by omega
      have hlz : (i : Int) < (L.length : Int) := by omega
      obtain ⟨a, rfl, hab, hrow⟩ := rk_up hL H.out.2.1 (by omega)
      obtain ⟨c0, c1⟩ := hrow i hlt
      have b1 := H.out.2.2
      obtain ⟨k0, k1, kf⟩ := kc2 b1
      have HH := Lib.hid H.out
      have qe : ∀ W : World, (Op.equalIn (9998 + 2) 26 (.agg #[.string L[i].str, .int .i64 L[i].sym]) (.agg #[.string k.str, .int .i64 k.sym])).run Tryz.prog W = .ok (eqK L[i] k) W := fun W => key_eq 9998 L[i].str k.str L[i].sym k.sym W
      obtain ⟨P, hP⟩ : ∃ P, P = L[i] := ⟨_, rfl⟩
      rw [← hP] at qe c0 c1
      have HP := Lib.hid hP
      have HL := Lib.hid hlt
      have hw1 : wrap64 ((i : Int) + 1) = (i : Int) + 1 := by unfold wrap64; omega
      clear hrow hP H hL b1
      by_cases he : P = k
      · rw [eqK_iff.2 he] at qe
        go_upto_region 4 with (fail)
        go_quiet (fail)
        all_goals go_wp2
        go_ret
        exact ⟨by rw [among_hit HL.out (HP.out ▸ he)]; rfl, tdrewN HH.out.2.1 nq⟩
      · rw [eqK_no he] at qe
        go_upto_region 4 with (fail)
        go_quiet (fail)
        all_goals go_wp2
        go_roundg kx
        case measure => omega
        case rel => exact ⟨i + 1, by congr 1, by omega, Lib.hid ⟨among_miss HL.out HH.out.1 (HP.out ▸ he), tdrewN HH.out.2.1 nq, HH.out.2.2⟩⟩
end Go.Proofs.YtlfbflclefndjaaGreatDoor.S
/-
  OrdinaryRings: what its calls tell.
-/
namespace Go.Proofs.YtlfbflclefndjaaGreatDoor.S
open Go.RowKit Go.Lib Fl
open Classical

theorem small_12 {H : List Ob} (h : lg12 H = false) : ∀ o ∈ H, o.props.length ≤ 1100 := fun o ho => by
  unfold lg12 at h
  rw [List.any_eq_false] at h
  have := h o ho
  simp only [decide_eq_true_eq] at this
  unfold LgP at this
  omega
theorem HIn0.few12 {w : World} {A : Option Addr} {H : List Ob} {cap : Nat} (h : HIn0 w A H cap) (hf : H.length ≤ 5000) (hs : lg12 H = false) : HIn w A H cap := ⟨h.inn, h.row, hf, fun o ho => by have := small_12 hs o ho; omega, h.room, h.cap63, h.nil⟩
def kz : Ky := ⟨⟨#[]⟩, 0⟩
theorem kz_in : KyIn kz := ⟨Nat.zero_le _, by decide, by decide⟩
/-- what Do leaves, as a heap that may be asked again -/
structure LeftH (H : List Ob) (B : Nat) (M2 : List Ob) (W : World) : Prop where
  b : W.heap[B]? = some (.cells (hcl M2).toArray 37 (0, 0))
  rest : HRest M2 W
  ins : ∀ o ∈ M2, o.In ∧ o.props.length ≤ 100000
  len : M2.length = H.length
  few : H.length ≤ 5000
  may : mayH M2 = true
theorem LeftH.up {H : List Ob} {B : Nat} {M2 : List Ob} {W W' : World} (h : LeftH H B M2 W) (hb : Below W.heap.size W W') : LeftH H B M2 W' := ⟨vblkn hb h.b, h.rest.up hb, h.ins, h.len, h.few, h.may⟩
theorem LeftH.inn {H : List Ob} {B : Nat} {M2 : List Ob} {W : World} (h : LeftH H B M2 W) : HIn W (some ⟨B, 0, none⟩) M2 M2.length := h.rest.inn h.b (fun o ho => (h.ins o ho).1) (by rw [h.len]; exact h.few) (fun o ho => (h.ins o ho).2)
theorem LeftH.small {H : List Ob} {B : Nat} {M2 : List Ob} {W : World} (h : LeftH H B M2 W) : ∀ o ∈ M2, o.props.length ≤ 100000 := fun o ho => (h.ins o ho).2
theorem done_left {H : List Ob} {k : Nat} {a : Ak} {q : Oq} {M2 : List Ob} {B : Nat} {W : World} (h : DoneH H k a q M2 W) (hB : W.heap[B]? = some (.cells (hcl M2).toArray 37 (0, 0))) (hm : mayH H = true) (hA : MayAsk H k a) (ha : a.In) (hf : H.length ≤ 5000) (hi : ∀ o ∈ H, o.In) : LeftH H B M2 W := by
  obtain ⟨M, p, hl, hk, rfl, hs⟩ := h.step
  have hlen : M.length = H.length := by have := congrArg List.length hl; simpa using this
  refine ⟨hB, h.rest, h.ins, by rw [List.length_set, hlen], hf, ?_⟩
  refine step_may hm hl hk hA ha.d ?_ hs
  have e := congrArg Ob.props (bare_k hl hk hA.lt)
  have e2 : M[k].props = H[k].props := e
  rw [e2]
  exact (hi _ (List.getElem_mem hA.lt)).props
/-- what a prototype set comes to -/
noncomputable def ringB (H : List Ob) (o : Ob) (k : Int) (v : Vq) : Bool := ((o.proto.k == v.k) && (o.proto.r == v.r)) || (o.ext && !decide (Bhd H k v))
def RgTo (H : List Ob) (k : Nat) (v : Vq) (b : Bool) (d : Nat) (w : World) (e : Ending) (w' : World) : Prop := ∃ B M2, e = .returned (.tuple #[.agg #[.slice (some ⟨B, 0, none⟩) d d], .agg (oqA (yesO b)), .int .i64 0]) ∧ (LeftH H B M2 w' ∧ (b = false → M2.map Ob.bare = H.map Ob.bare) ∧ (∃ h : k < M2.length, b = true → M2[k].proto.k = v.k ∧ M2[k].proto.r = v.r)) ∧ Below w.heap.size w w'
theorem do_ask {H : List Ob} {a : Ak} (h : doE H a = 0) : mayH H = true ∧ ∃ k, MayAsk H k a := by
  unfold doE at h
  cases hm : mayH H with
  | false => rw [hm] at h; exact absurd (show (9 : Int) = 0 from h) (by decide)
  | true => rw [hm] at h; exact ⟨rfl, may_ask h⟩
end Go.Proofs.YtlfbflclefndjaaGreatDoor.S
/-
  OrdinaryShuts: what its calls tell.
-/
namespace Go.Proofs.YtlfbflclefndjaaGreatDoor.S
open Go.RowKit Go.Lib Fl
open Classical

theorem doE_bare {H : List Ob} {m : Int} {k : Nat} {ky : Ky} {v : Vq} (hm : m = 1 ∨ m = 3 ∨ m = 4 ∨ m = 11) (h : mayH H = true) (hk : k < H.length) (hp : plainK H[k].kind = true) : doE H (akq m k ky (dz 0) v) = 0 := by
  have h1 : inB H (k : Int) = true := decide_eq_true ⟨Int.natCast_nonneg k, by omega⟩
  have h2 : askK H (k : Int) = true := by unfold askK; rw [Int.toNat_natCast, List.getElem?_eq_getElem hk]; exact hp
  unfold doE
  rw [h]
  rcases hm with rfl | rfl | rfl | rfl
  all_goals
    show mayE H (akq _ k ky (dz 0) v) = 0
    unfold mayE
    show (bif eightM _ && (inB H (k : Int) && askK H (k : Int)) then _ else _) = 0
    rw [h1, h2]
    rfl
/-- the object that was closed -/
def ShutIs (H M2 : List Ob) (k : Nat) : Prop := ∃ (h : k < M2.length) (g : k < H.length), M2[k].ext = false ∧ M2[k].kind = H[k].kind ∧ M2[k].props = H[k].props
def ShTo (H : List Ob) (k : Nat) (d : Nat) (w : World) (e : Ending) (w' : World) : Prop := ∃ B M2, e = .returned (.tuple #[.agg #[.slice (some ⟨B, 0, none⟩) d d], .agg (oqA (yesO true)), .int .i64 0]) ∧ (LeftH H B M2 w' ∧ ShutIs H M2 k) ∧ Below w.heap.size w w'
end Go.Proofs.YtlfbflclefndjaaGreatDoor.S
