/-
  Proxies in one another: what stands behind an object, and heaps in which a proxy is made or revoked: plain functions.
-/
import Derived.Test.YtkcikdggfbjedaaGreatDoorCH24
import Derived.Test.YtkcikdggfbjedaaGreatDoorCH22
import Derived.Test.YtkcikdggfbjedaaGreatDoorCH23
import Derived.Test.YtkcikdggfbjedaaGreatDoorCH21
namespace Go.Proofs.YtkcikdggfbjedaaGreatDoor.S
open Go.RowKit Go.Lib Fl
open Classical

/-- what stands behind an object -/
def chNext (H : List Ob) (n : Nat) : Option Nat := match H[n]? with
  | some o => bif o.kind == 6 && (objQ o.target && decide (o.target.r.toNat < n)) then some o.target.r.toNat else none
  | none => none
def chDnF (H : List Ob) : Nat → Nat → List Nat
  | 0, _ => []
  | f + 1, n => match chNext H n with | some t => t :: chDnF H f t | none => []
/-- all that stand behind it -/
def chDn (H : List Ob) (n : Nat) : List Nat := chDnF H (n + 1) n
def chEndF (H : List Ob) : Nat → Nat → Nat
  | 0, n => n
  | f + 1, n => match chNext H n with | some t => chEndF H f t | none => n
/-- the last of it and these -/
def chEnd (H : List Ob) (n : Nat) : Nat := chEndF H (n + 1) n
theorem chNext_lt {H : List Ob} {n t : Nat} (h : chNext H n = some t) : t < n := by
  unfold chNext at h
  cases e : H[n]? with
  | none => rw [e] at h; cases h
  | some o =>
    rw [e] at h
    dsimp only at h
    cases c : (o.kind == 6 && (objQ o.target && decide (o.target.r.toNat < n))) with
    | false => rw [c] at h; cases h
    | true =>
      rw [c] at h
      simp only [Bool.and_eq_true, decide_eq_true_eq] at c
      have := Option.some.inj h
      omega
theorem chDnF_more {H : List Ob} : ∀ (f n : Nat), n < f → chDnF H f n = chDn H n
  | 0, _, h => absurd h (Nat.not_lt_zero _)
  | f + 1, n, h => by
    unfold chDn
    show (match chNext H n with | some t => t :: chDnF H f t | none => []) = (match chNext H n with | some t => t :: chDnF H n t | none => [])
    cases e : chNext H n with
    | none => rfl
    | some t =>
      have hl := chNext_lt e
      dsimp only
      rw [chDnF_more f t (by omega), chDnF_more n t hl]
  termination_by f _ _ => f
theorem chEndF_more {H : List Ob} : ∀ (f n : Nat), n < f → chEndF H f n = chEnd H n
  | 0, _, h => absurd h (Nat.not_lt_zero _)
  | f + 1, n, h => by
    unfold chEnd
    show (match chNext H n with | some t => chEndF H f t | none => n) = (match chNext H n with | some t => chEndF H n t | none => n)
    cases e : chNext H n with
    | none => rfl
    | some t =>
      have hl := chNext_lt e
      dsimp only
      rw [chEndF_more f t (by omega), chEndF_more n t hl]
  termination_by f _ _ => f
theorem chDn_next {H : List Ob} {n t : Nat} (h : chNext H n = some t) : chDn H n = t :: chDn H t := by
  have hl := chNext_lt h
  unfold chDn
  show (match chNext H n with | some t => t :: chDnF H n t | none => []) = _
  rw [h]
  dsimp only
  rw [chDnF_more n t hl]
  rfl
theorem chDn_end {H : List Ob} {n : Nat} (h : chNext H n = none) : chDn H n = [] := by
  unfold chDn
  show (match chNext H n with | some t => t :: chDnF H n t | none => []) = _
  rw [h]
theorem chEnd_next {H : List Ob} {n t : Nat} (h : chNext H n = some t) : chEnd H n = chEnd H t := by
  have hl := chNext_lt h
  unfold chEnd
  show (match chNext H n with | some t => chEndF H n t | none => n) = _
  rw [h]
  dsimp only
  rw [chEndF_more n t hl]
  rfl
theorem chEnd_end {H : List Ob} {n : Nat} (h : chNext H n = none) : chEnd H n = n := by
  unfold chEnd
  show (match chNext H n with | some t => chEndF H n t | none => n) = _
  rw [h]
theorem chEnd_le {H : List Ob} : ∀ n : Nat, chEnd H n ≤ n := fun n => by
  induction n using Nat.strongRecOn with
  | ind n ih =>
    cases e : chNext H n with
    | none => rw [chEnd_end e]; exact Nat.le_refl _
    | some t => rw [chEnd_next e]; have := chNext_lt e; have := ih t this; omega
/-- is the last one a revoked proxy? -/
def chCut (H : List Ob) (n : Nat) : Bool := match H[chEnd H n]? with | some o => o.kind == 6 | none => false
def chDeep (H : List Ob) (n : Nat) : Nat := (chDn H n).length + (bif chCut H n then 1 else 0)
theorem chCut_next {H : List Ob} {n t : Nat} (h : chNext H n = some t) : chCut H n = chCut H t := by unfold chCut; rw [chEnd_next h]
theorem chDeep_next {H : List Ob} {n t : Nat} (h : chNext H n = some t) : chDeep H n = chDeep H t + 1 := by
  unfold chDeep
  rw [chCut_next h, chDn_next h, List.length_cons]
  omega
theorem chDn_len {H : List Ob} : ∀ n : Nat, (chDn H n).length ≤ n := fun n => by
  induction n using Nat.strongRecOn with
  | ind n ih =>
    cases e : chNext H n with
    | none => rw [chDn_end e]; exact Nat.zero_le _
    | some t => rw [chDn_next e, List.length_cons]; have h := chNext_lt e; have := ih t h; omega
/-- what counts is the same, wherever properties lie -/
theorem chNext_bare (H : List Ob) (n : Nat) : chNext (H.map Ob.bare) n = chNext H n := by unfold chNext; rw [getB]; cases H[n]? <;> rfl
theorem chNext_like {H M : List Ob} (h : M.map Ob.bare = H.map Ob.bare) (n : Nat) : chNext M n = chNext H n := by rw [← chNext_bare M, h, chNext_bare]
theorem chDn_like {H M : List Ob} (h : ∀ n, chNext M n = chNext H n) (n : Nat) : chDn M n = chDn H n := by
  induction n using Nat.strongRecOn with
  | ind n ih =>
    cases e : chNext H n with
    | none => rw [chDn_end e, chDn_end ((h n).trans e)]
    | some t => rw [chDn_next e, chDn_next ((h n).trans e), ih t (chNext_lt e)]
theorem chEnd_like {H M : List Ob} (h : ∀ n, chNext M n = chNext H n) (n : Nat) : chEnd M n = chEnd H n := by
  induction n using Nat.strongRecOn with
  | ind n ih =>
    cases e : chNext H n with
    | none => rw [chEnd_end e, chEnd_end ((h n).trans e)]
    | some t => rw [chEnd_next e, chEnd_next ((h n).trans e), ih t (chNext_lt e)]
theorem chCut_bare {H M : List Ob} (h : M.map Ob.bare = H.map Ob.bare) (n : Nat) : chCut M n = chCut H n := by
  have e : ∀ L : List Ob, ∀ i : Nat, (match L[i]? with | some o => o.kind == 6 | none => false) = (match (L.map Ob.bare)[i]? with | some o => o.kind == 6 | none => false) := fun L i => by rw [getB]; cases L[i]? <;> rfl
  unfold chCut
  rw [chEnd_like (chNext_like h), e M, h, ← e H]
theorem chDeep_bare {H M : List Ob} (h : M.map Ob.bare = H.map Ob.bare) (n : Nat) : chDeep M n = chDeep H n := by
  unfold chDeep
  rw [chDn_like (chNext_like h), chCut_bare h]
/-- a proxy of a heap that may be: live, or revoked -/
theorem ch_proxy {H : List Ob} (hm : mayH H = true) {n : Nat} (hn : n < H.length) (hk : H[n].kind = 6) :
    (objQ H[n].target = false ∧ chNext H n = none) ∨ (objQ H[n].target = true ∧ ∃ t : Nat, H[n].target.r = t ∧ t < n ∧ chNext H n = some t) := by
  have hb := (mayH_iff.1 hm).2.1 n hn
  have hok := vok_holds (may_holds hb (vm_t _))
  unfold chNext
  rw [List.getElem?_eq_getElem hn]
  dsimp only
  rw [hk, show ((6 : Int) == 6) = true from rfl, Bool.true_and]
  unfold mayB at hb
  simp only [Bool.and_eq_true] at hb
  have hf := hb.2.2.2
  unfold fitsB at hf
  rw [hk] at hf
  simp only [show ((6 : Int) == 1) = false from rfl, show ((6 : Int) == 2) = false from rfl, show ((6 : Int) == 3) = false from rfl, show ((6 : Int) == 4) = false from rfl, show ((6 : Int) == 5) = false from rfl, show ((6 : Int) == 6) = true from rfl, cond_true, cond_false, Bool.and_eq_true] at hf
  have hl := hf.2.2.2.2
  unfold leadsB at hl
  cases c : (H[n].target.k == 1 && H[n].handler.k == 1) with
  | true =>
    rw [Bool.and_eq_true, beq_iff_eq] at c
    have ho : objQ H[n].target = false := by unfold objQ; rw [c.1]; rfl
    exact .inl ⟨ho, by rw [ho]; rfl⟩
  | false =>
    rw [c] at hl
    simp only [cond_false, Bool.and_eq_true] at hl
    have ha := hl.1
    unfold aheadB at ha
    rw [Bool.and_eq_true, decide_eq_true_eq] at ha
    obtain ⟨t, ht, _⟩ := hok ha.1
    have htn : t < n := by have := ha.2; omega
    refine .inr ⟨ha.1, t, ht, htn, ?_⟩
    rw [ha.1, ht, Int.toNat_natCast, decide_eq_true htn]
    rfl
theorem ch_other {H : List Ob} {n : Nat} (hn : n < H.length) (hk : (H[n].kind == 6) = false) : chNext H n = none := by
  unfold chNext
  rw [List.getElem?_eq_getElem hn]
  dsimp only
  rw [hk]
  rfl
/-- the value of an object -/
def chVal (o : Ob) (n : Nat) : Vq := ⟨kindP o, 0, ⟨#[]⟩, n⟩
/-- the proxy that is made -/
def chObj (H : List Ob) (t g : Nat) : Ob := ⟨6, vN, false, none, 0, [], chVal (H[t]?.getD default) t, chVal (H[g]?.getD default) g, ⟨#[]⟩, (H[t]?.getD default).calls, (H[t]?.getD default).makes⟩
theorem kindP_in (o : Ob) : kindP o = 6 ∨ kindP o = 7 ∨ kindP o = 8 := by
  unfold kindP
  cases o.makes <;> cases o.calls <;> simp
theorem chVal_ok (o : Ob) {n : Nat} (hn : n < 5000) : (chVal o n).Ok := by
  rcases kindP_in o with h | h | h <;> unfold chVal <;> rw [h]
  · exact ⟨.obj 6 n, by simp [Vl.ok]; omega, rfl, rfl, rfl, rfl⟩
  · exact ⟨.obj 7 n, by simp [Vl.ok]; omega, rfl, rfl, rfl, rfl⟩
  · exact ⟨.obj 8 n, by simp [Vl.ok]; omega, rfl, rfl, rfl, rfl⟩
theorem chVal_obj (o : Ob) (n : Nat) : objQ (chVal o n) = true := by
  unfold chVal objQ
  dsimp only
  rcases kindP_in o with h | h | h <;> rw [h] <;> rfl
theorem chVal_holds {H : List Ob} (hm : mayH H = true) {n : Nat} (hn : n < H.length) (G : List Ob) : holdsB (H ++ G) (chVal (H[n]?.getD default) n) = true := by
  unfold holdsB
  rw [ok_may (chVal_ok _ (by have := (mayH_iff.1 hm).1; omega)), chVal_obj]
  unfold refB
  have e : (H ++ G)[(chVal (H[n]?.getD default) n).r.toNat]? = some H[n] := by
    show (H ++ G)[((n : Nat) : Int).toNat]? = _
    rw [Int.toNat_natCast, List.getElem?_append_left hn, List.getElem?_eq_getElem hn]
  rw [e]
  dsimp only
  rw [List.getElem?_eq_getElem hn]
  show (!true || (kindP H[n] == kindO H[n])) = true
  rw [kind_eq ((mayH_iff.1 hm).2.1 n hn)]
  simp
theorem chObj_may {H : List Ob} (hm : mayH H = true) {t g : Nat} (ht : t < H.length) (hg : g < H.length) : mayB (H ++ [chObj H t g]) (chObj H t g) H.length = true := by
  unfold mayB
  have h1 : chkT (chObj H t g).props = 0 := chkT_ok.2 ⟨(by show 0 ≤ 1024; omega), (fun _ h => by cases h), List.Pairwise.nil⟩
  have h2 : (valsO (chObj H t g)).all (holdsB (H ++ [chObj H t g])) = true := by
    rw [List.all_eq_true]
    intro v hv
    have : v = vN ∨ v = chVal (H[t]?.getD default) t ∨ v = chVal (H[g]?.getD default) g := by
      simp [valsO, chObj] at hv
      exact hv
    rcases this with rfl | rfl | rfl
    · exact hold_n vN_ok rfl
    · exact chVal_holds hm ht _
    · exact chVal_holds hm hg _
  have h3 : fitsB (H ++ [chObj H t g]) (chObj H t g) H.length = true := by
    have hk : leadsB (chObj H t g) H.length = true := by
      unfold leadsB
      have e1 : ((chObj H t g).target.k == 1) = false := by
        show (kindP (H[t]?.getD default) == 1) = false
        rcases kindP_in (H[t]?.getD default) with h | h | h <;> rw [h] <;> rfl
      have e2 : aheadB (chObj H t g).target H.length = true := by
        unfold aheadB
        rw [show objQ (chObj H t g).target = true from chVal_obj _ _]
        show (true && decide (((t : Nat) : Int) < (H.length : Int))) = true
        rw [decide_eq_true (by omega)]; rfl
      have e3 : aheadB (chObj H t g).handler H.length = true := by
        unfold aheadB
        rw [show objQ (chObj H t g).handler = true from chVal_obj _ _]
        show (true && decide (((g : Nat) : Int) < (H.length : Int))) = true
        rw [decide_eq_true (by omega)]; rfl
      have e4 : (kindO (chObj H t g) == (chObj H t g).target.k) = true := by
        show (kindO (H[t]?.getD default) == kindP (H[t]?.getD default)) = true
        rw [List.getElem?_eq_getElem ht]
        show (kindO H[t] == kindP H[t]) = true
        rw [kind_eq ((mayH_iff.1 hm).2.1 t ht)]
        simp
      rw [e1, e2, e3, e4]; rfl
    have ht0 : (chObj H t g).text.toList.isEmpty = true := by
      show (⟨#[]⟩ : ByteArray).toList.isEmpty = true
      kernel_rfl
    unfold fitsB
    rw [hk, ht0, show ((chObj H t g).kind == 1) = false from rfl, show ((chObj H t g).kind == 2) = false from rfl, show ((chObj H t g).kind == 3) = false from rfl, show ((chObj H t g).kind == 4) = false from rfl, show ((chObj H t g).kind == 5) = false from rfl, show ((chObj H t g).kind == 6) = true from rfl]
    rfl
  rw [h1, h2, h3]; rfl
theorem chObj_loops {H : List Ob} (hm : mayH H = true) (t g : Nat) : loopsB (H ++ [chObj H t g]) = false := by
  refine (loops_ends _).2 fun p => ?_
  have hl := ends_all (mayH_iff.1 hm).2.2
  refine ends_like (H := H) (fun q => ?_) (hl p)
  unfold nextO
  by_cases c : q < H.length
  · rw [List.getElem?_append_left c]
  · rw [List.getElem?_append_right (by omega), List.getElem?_eq_none (by omega : H.length ≤ q)]
    by_cases d : q = H.length
    · subst d
      rw [Nat.sub_self]
      rfl
    · rw [List.getElem?_eq_none (by show 1 ≤ _; omega)]
theorem chMake_e {H : List Ob} (hm : mayH H = true) {t g : Nat} (ht : t < H.length) (hg : g < H.length) : newE H (chObj H t g) = if H.length = 4096 then 4 else 0 := by
  unfold newE
  rw [hm, chObj_may hm ht hg, chObj_loops hm t g]
  by_cases c : H.length = 4096
  · rw [if_pos c, decide_eq_true c]; rfl
  · rw [if_neg c, decide_eq_false c]; rfl
theorem chMake_may {H : List Ob} (hm : mayH H = true) {t g : Nat} (ht : t < H.length) (hg : g < H.length) (hn : H.length ≠ 4096) : mayH (H ++ [chObj H t g]) = true :=
  mayH_new hm hn (chObj_may hm ht hg) (chObj_loops hm t g)
/-- what is behind, once a proxy is made -/
theorem chMake_old {H : List Ob} {o : Ob} {i : Nat} (hi : i < H.length) : chNext (H ++ [o]) i = chNext H i := by
  unfold chNext
  rw [List.getElem?_append_left hi]
theorem chMake_new {H : List Ob} {t g : Nat} (ht : t < H.length) : chNext (H ++ [chObj H t g]) H.length = some t := by
  unfold chNext
  rw [List.getElem?_append_right (Nat.le_refl _), Nat.sub_self]
  show (bif (6 : Int) == 6 && (objQ (chVal (H[t]?.getD default) t) && decide (((t : Nat) : Int).toNat < H.length)) then some ((t : Nat) : Int).toNat else none) = _
  rw [chVal_obj, Int.toNat_natCast, decide_eq_true ht]
  rfl
theorem chDn_far {H M : List Ob} : ∀ n : Nat, (∀ i, i ≤ n → chNext M i = chNext H i) → chDn M n = chDn H n ∧ chEnd M n = chEnd H n := fun n => by
  induction n using Nat.strongRecOn with
  | ind n ih =>
    intro h
    cases e : chNext H n with
    | none => exact ⟨by rw [chDn_end e, chDn_end ((h n (Nat.le_refl _)).trans e)], by rw [chEnd_end e, chEnd_end ((h n (Nat.le_refl _)).trans e)]⟩
    | some t =>
      have hl := chNext_lt e
      obtain ⟨a, b⟩ := ih t hl fun i hi => h i (by omega)
      exact ⟨by rw [chDn_next e, chDn_next ((h n (Nat.le_refl _)).trans e), a], by rw [chEnd_next e, chEnd_next ((h n (Nat.le_refl _)).trans e), b]⟩
theorem chMake_deep {H : List Ob} {t g : Nat} (ht : t < H.length) : chDeep (H ++ [chObj H t g]) H.length = chDeep H t + 1 := by
  have h := chDn_far (M := H ++ [chObj H t g]) (H := H) t fun i hi => chMake_old (by omega)
  rw [chDeep_next (chMake_new ht)]
  have hc : chCut (H ++ [chObj H t g]) t = chCut H t := by
    unfold chCut
    rw [h.2, List.getElem?_append_left (by have := chEnd_le (H := H) t; omega)]
  unfold chDeep
  rw [h.1, hc]
/-- a proxy with nothing behind it any more -/
def chRv (o : Ob) : Ob := { o with target := vN, handler := vN }
theorem chRv_may {H : List Ob} (hm : mayH H = true) {k : Nat} (hk : k < H.length) (h6 : H[k].kind = 6) : mayH (H.set k (chRv H[k])) = true := by
  obtain ⟨hb, h2, h3, h4, h5⟩ := may_parts hm hk
  refine mayH_set hm hk rfl rfl ?_ (loops_same hk rfl (mayH_iff.1 hm).2.2)
  have hb2 := hb
  unfold mayB at hb2 ⊢
  simp only [Bool.and_eq_true] at hb2 ⊢
  obtain ⟨_, _, _, hf⟩ := hb2
  refine ⟨beq_iff_eq.2 (chkT_ok.2 h2), h3, ?_, ?_⟩
  · rw [List.all_eq_true]
    intro u hu
    unfold valsO at hu
    rcases List.mem_append.1 hu with hu | hu
    · simp only [List.mem_cons, List.not_mem_nil, or_false] at hu
      rcases hu with rfl | rfl | rfl
      · exact h4
      · exact hold_n vN_ok rfl
      · exact hold_n vN_ok rfl
    · obtain ⟨p, hp1, hp2⟩ := List.mem_flatMap.1 hu
      obtain ⟨g1, g2, g3⟩ := h5 p hp1
      simp only [List.mem_cons, List.not_mem_nil, or_false] at hp2
      rcases hp2 with rfl | rfl | rfl
      · exact g1
      · exact g2
      · exact g3
  · unfold fitsB at hf ⊢
    rw [h6] at hf
    have e : (chRv H[k]).kind = 6 := h6
    rw [e]
    simp only [show ((6 : Int) == 1) = false from rfl, show ((6 : Int) == 2) = false from rfl, show ((6 : Int) == 3) = false from rfl, show ((6 : Int) == 4) = false from rfl, show ((6 : Int) == 5) = false from rfl, show ((6 : Int) == 6) = true from rfl, cond_true, cond_false, Bool.and_eq_true] at hf ⊢
    refine ⟨hf.1, hf.2.1, hf.2.2.1, hf.2.2.2.1, ?_⟩
    have hl := hf.2.2.2.2
    unfold leadsB at hl ⊢
    show (bif ((1 : Int) == 1 && (1 : Int) == 1) then !(kindO H[k] == 0) else _) = true
    cases c : (H[k].target.k == 1 && H[k].handler.k == 1) with
    | true => rw [c] at hl; exact hl
    | false =>
      rw [c] at hl
      simp only [cond_false, Bool.and_eq_true, beq_iff_eq] at hl
      have ha := hl.1
      unfold aheadB objQ at ha
      rw [Bool.and_eq_true] at ha
      rw [hl.2.2]
      have h0 := ha.1
      simp only [Bool.or_eq_true, beq_iff_eq] at h0
      rcases h0 with h | h | h <;> rw [h] <;> rfl
theorem chRv_next {H : List Ob} {k : Nat} (hk : k < H.length) : chNext (H.set k (chRv H[k])) k = none := by
  unfold chNext
  rw [List.getElem?_set, if_pos rfl, if_pos hk]
  show (bif H[k].kind == 6 && (objQ vN && _) then _ else none) = none
  rw [show objQ vN = false from rfl, Bool.false_and, Bool.and_false]
  rfl
theorem chRv_far {H : List Ob} {k i : Nat} {o : Ob} (h : k ≠ i) : chNext (H.set k o) i = chNext H i := by
  unfold chNext
  rw [List.getElem?_set, if_neg h]
end Go.Proofs.YtkcikdggfbjedaaGreatDoor.S
/-
  chain: there, live, revoked, valueOf.
-/
namespace Go.Proofs.YtkcikdggfbjedaaGreatDoor.S
open Go.RowKit Go.Lib Fl
open Classical

theorem there_c (H : List Ob) (A : Option Addr) (cap : Nat) (z : Int) (w : World) : Calls Tryz.prog 45 #[.agg #[.slice A H.length cap], .int .i64 z] w fun e w' => e = .returned (.int .i64 (thE H z)) ∧ Below w.heap.size w w' := by
  have hb := heap_alloc_new w (.cells #[.slice A H.length cap] 24)
  have q0 : (w.alloc (.cells #[.slice A H.length cap] 24)).cell? ⟨w.heap.size, 0, none⟩ = some (.slice A H.length cap) := (vcells hb 0).trans rfl
  have hB := vzero w (.cells #[.slice A H.length cap] 24)
  unfold thE
  by_cases c : z < 0
  · rw [if_pos (.inl c)]
    go_enter Tryz.func45, Tryz.ntmps45
    go_wp2
    go_ret
    exact ⟨rfl, hB⟩
  · by_cases d : (H.length : Int) ≤ z
    · rw [if_pos (.inr d)]
      go_enter Tryz.func45, Tryz.ntmps45
      go_wp2
      go_ret
      exact ⟨rfl, hB⟩
    · rw [if_neg (by omega)]
      go_enter Tryz.func45, Tryz.ntmps45
      go_wp2
      go_ret
      exact ⟨rfl, hB⟩
/-- an object in a block of its own: its target -/
theorem vat_blk {w : World} {g : Nat} {o : Ob} {t : TypeId} (hb : w.heap[g]? = some (.cells (obA o) t (0, 0))) : VAt w ⟨g, 7, none⟩ o.target :=
  ⟨lt_blk hb, (vcells hb 7).trans rfl, (vcells hb 8).trans rfl, (vcells hb 9).trans rfl, (vcells hb 10).trans rfl⟩
def chLive (o : Ob) : Bool := o.kind == 6 && objQ o.target
def chGone (o : Ob) : Bool := o.kind == 6 && !objQ o.target
set_option maxRecDepth 100000 in
theorem live_c (o : Ob) (ho : 0 ≤ o.target.k) (w : World) : Calls Tryz.prog 43 #[.agg (obA o)] w fun e w' => e = .returned (.bool (chLive o)) ∧ Below w.heap.size w w' := by
  have hb := heap_alloc_new w (.cells (obA o) 64)
  have h1 : (w.alloc (.cells (obA o) 64)).cell? ⟨w.heap.size, 0, none⟩ = some (.int .u8 o.kind) := (vcells hb 0).trans rfl
  have hv := vat_blk hb
  have hB := vzero w (.cells (obA o) 64)
  have c2 := fun w => IsObject_q o.target ho w
  unfold chLive
  generalize objQ o.target = b at *
  generalize o.target = v at *
  cases e1 : (o.kind == 6) <;> cases b
  all_goals
    go_enter Tryz.func43, Tryz.ntmps43
    go_wp2_with (first
      | ((with_reducible refine va_load ?_ rfl rfl hv ?_); (rfl))
      | (go_at_call 62; (with_reducible refine (c2 _).mono ?_); rintro e w2 ⟨rfl, h9⟩; have hB := vb hB h9; clear h9))
    go_ret
    exact ⟨rfl, hB⟩
set_option maxRecDepth 100000 in
theorem revoked_c (o : Ob) (ho : 0 ≤ o.target.k) (w : World) : Calls Tryz.prog 42 #[.agg (obA o)] w fun e w' => e = .returned (.bool (chGone o)) ∧ Below w.heap.size w w' := by
  have hb := heap_alloc_new w (.cells (obA o) 64)
  have h1 : (w.alloc (.cells (obA o) 64)).cell? ⟨w.heap.size, 0, none⟩ = some (.int .u8 o.kind) := (vcells hb 0).trans rfl
  have hv := vat_blk hb
  have hB := vzero w (.cells (obA o) 64)
  have c2 := fun w => IsObject_q o.target ho w
  unfold chGone
  generalize objQ o.target = b at *
  generalize o.target = v at *
  cases e1 : (o.kind == 6) <;> cases b
  all_goals
    go_enter Tryz.func42, Tryz.ntmps42
    go_wp2_with (first
      | ((with_reducible refine va_load ?_ rfl rfl hv ?_); (rfl))
      | (go_at_call 62; (with_reducible refine (c2 _).mono ?_); rintro e w2 ⟨rfl, h9⟩; have hB := vb hB h9; clear h9))
    go_ret
    exact ⟨rfl, hB⟩
section
variable {ops : Array Oper} {rest : List Oper} {o : Oper} {a : Act} {w : World} {Q : Exit → Act → World → Prop} {x y : Operand} {t : TypeId}
/-- a number stored into one cell -/
theorem ci_store {cs : Array Value} {g m : Nat} {z : Int} (hgd : o.guard = none) (ho : o.op = .store 3 x y) (hx : a.eval x = .pointer (some ⟨g, m, none⟩)) (hy : a.eval y = .int .i64 z) (hg : w.heap[g]? = some (.cells cs t (0, 0))) (hm : m < cs.size)
    (h : ∀ W : World, W.heap[g]? = some (.cells (cs.setIfInBounds m (.int .i64 z)) t (0, 0)) → w.grownBy W (some g) → W.heap.size = w.heap.size → wpList Tryz.prog ops Q rest (a.put o.dst undef) W) : wpList Tryz.prog ops Q (o :: rest) a w := by
  have hc : w.cell? ⟨g, m, none⟩ = some cs[m] := by rw [vcells hg m]; simp [hm]
  have hf : w.frozen? ⟨g, m, none⟩ = false := by simp [World.frozen?, hg]
  refine wpList_plain hgd fun K hK => ?_
  have hr : (Instr.storeAt 3 (.pointer (some ⟨g, m, none⟩)) (.int .i64 z)).run Tryz.prog w = .ok () (w.setCell ⟨g, m, none⟩ (.int .i64 z)) := by simp [go_sem, hc, hf]
  unfold Oper.wp execOp
  simp only [ho, hx, hy, hr, Sem.run_bind, Sem.run_pure, Result.andThen_ok]
  refine hK _ _ (h _ (vset1 hg m _) ⟨rfl, rfl, rfl, by simp, fun k _ hk => Below.heap_setCell w ⟨g, m, none⟩ _ k (fun e => hk (by rw [e]))⟩ (by simp))
/-- a number stored into one cell -/
theorem cb_store {cs : Array Value} {g m : Nat} {z : Int} (hgd : o.guard = none) (ho : o.op = .store 5 x y) (hx : a.eval x = .pointer (some ⟨g, m, none⟩)) (hy : a.eval y = .int .u8 z) (hg : w.heap[g]? = some (.cells cs t (0, 0))) (hm : m < cs.size)
    (h : ∀ W : World, W.heap[g]? = some (.cells (cs.setIfInBounds m (.int .u8 z)) t (0, 0)) → w.grownBy W (some g) → W.heap.size = w.heap.size → wpList Tryz.prog ops Q rest (a.put o.dst undef) W) : wpList Tryz.prog ops Q (o :: rest) a w := by
  have hc : w.cell? ⟨g, m, none⟩ = some cs[m] := by rw [vcells hg m]; simp [hm]
  have hf : w.frozen? ⟨g, m, none⟩ = false := by simp [World.frozen?, hg]
  refine wpList_plain hgd fun K hK => ?_
  have hr : (Instr.storeAt 5 (.pointer (some ⟨g, m, none⟩)) (.int .u8 z)).run Tryz.prog w = .ok () (w.setCell ⟨g, m, none⟩ (.int .u8 z)) := by simp [go_sem, hc, hf]
  unfold Oper.wp execOp
  simp only [ho, hx, hy, hr, Sem.run_bind, Sem.run_pure, Result.andThen_ok]
  refine hK _ _ (h _ (vset1 hg m _) ⟨rfl, rfl, rfl, by simp, fun k _ hk => Below.heap_setCell w ⟨g, m, none⟩ _ k (fun e => hk (by rw [e]))⟩ (by simp))
end
end Go.Proofs.YtkcikdggfbjedaaGreatDoor.S
/-
  A heap that lies somewhere, told but for where its properties lie; its check.
-/
namespace Go.Proofs.YtkcikdggfbjedaaGreatDoor.S
open Go.RowKit Go.Lib Fl
open Classical

structure Hp (w : World) (A : Option Addr) (H : List Ob) (cap : Nat) : Prop where
  m : ∃ M : List Ob, M.map Ob.bare = H.map Ob.bare ∧ HIn w A M cap ∧ ∀ o ∈ M, o.props.length ≤ 100000
theorem Hp.up {w w' : World} {A : Option Addr} {H : List Ob} {cap : Nat} (h : Hp w A H cap) (hb : Below w.heap.size w w') : Hp w' A H cap := by
  obtain ⟨M, h1, h2, h3⟩ := h.m
  exact ⟨M, h1, h2.up hb, h3⟩
theorem len_bare {M H : List Ob} (h : M.map Ob.bare = H.map Ob.bare) : M.length = H.length := by have := congrArg List.length h; simpa using this
theorem hp_tw {n0 B : Nat} {H N M : List Ob} {W : World} (h : Tw n0 B N M W) (hb : N.map Ob.bare = H.map Ob.bare) (hin : ∀ o ∈ N, o.In) (hf : N.length ≤ 5000) (hp : ∀ o ∈ N, o.props.length ≤ 100000) {k : Nat} (hk : H.length = k) : Hp W (some ⟨B, 0, none⟩) H k := by
  have hl : M.length = k := by rw [h.len, len_bare hb, hk]
  have hi := h.inn hin hf hp
  rw [hl] at hi
  refine ⟨M, h.like.trans hb, hi, fun o ho => ?_⟩
  obtain ⟨i, hi, rfl⟩ := List.getElem_of_mem ho
  have hiN : i < N.length := by rw [← h.len]; exact hi
  obtain ⟨g, _, e, _⟩ := (h.all i hi hiN).out
  rw [e]
  exact hp N[i] (List.getElem_mem hiN)
/-- a heap that was made, with its objects in block B, and their properties in blocks behind it -/
structure Ht (B : Nat) (H : List Ob) (k : Nat) (W : World) : Prop where
  m : ∃ (n0 : Nat) (N M : List Ob), Tw n0 B N M W ∧ N.map Ob.bare = H.map Ob.bare ∧ (∀ o ∈ N, o.In) ∧ N.length ≤ 5000 ∧ (∀ o ∈ N, o.props.length ≤ 100000) ∧ H.length = k
theorem Ht.up {B : Nat} {H : List Ob} {k : Nat} {W W' : World} (h : Ht B H k W) (hb : Below W.heap.size W W') : Ht B H k W' := by
  obtain ⟨n0, N, M, h1, h2⟩ := h.m
  exact ⟨n0, N, M, h1.up hb, h2⟩
theorem Ht.other {B : Nat} {H : List Ob} {k r : Nat} {W W' : World} (h : Ht B H k W) (hO : ∀ j, j ≠ r → W'.heap[j]? = W.heap[j]?) (hr : r < B) : Ht B H k W' := by
  obtain ⟨n0, N, M, h1, h2⟩ := h.m
  exact ⟨n0, N, M, h1.other hO hr, h2⟩
theorem Ht.hp {B : Nat} {H : List Ob} {k : Nat} {W : World} (h : Ht B H k W) : Hp W (some ⟨B, 0, none⟩) H k := by
  obtain ⟨n0, N, M, h1, h2, h3, h4, h5, h6⟩ := h.m
  exact hp_tw h1 h2 h3 h4 h5 h6
theorem Hp.hl {w : World} {A : Option Addr} {H : List Ob} {cap : Nat} (h : Hp w A H cap) : ∃ M : List Ob, M.map Ob.bare = H.map Ob.bare ∧ HL w A M := by
  obtain ⟨M, h1, h2, h3⟩ := h.m
  exact ⟨M, h1, hl_in h2 h3⟩
theorem Check_p {A : Option Addr} {H : List Ob} {cap : Nat} {w : World} (h : Hp w A H cap) (htab : TabHere w) : Calls Tryz.prog 19 #[.agg #[.slice A H.length cap]] w fun e w' => e = .returned (.int .i64 (chkH H)) ∧ Below w.heap.size w w' := by
  obtain ⟨M, h1, h2, _⟩ := h.m
  have := Check_h A M cap w h2 htab
  rw [len_bare h1, chkH_like h1] at this
  exact this
theorem bare_take {M H : List Ob} (h : M.map Ob.bare = H.map Ob.bare) (n : Nat) : (M.take n).map Ob.bare = (H.take n).map Ob.bare := by rw [List.map_take, List.map_take, h]
theorem bare_drop {M H : List Ob} (h : M.map Ob.bare = H.map Ob.bare) (n : Nat) : (M.drop n).map Ob.bare = (H.drop n).map Ob.bare := by rw [List.map_drop, List.map_drop, h]
/-- the first n of one heap, and all of another -/
theorem sameTake_p {A B : Option Addr} {X H : List Ob} {ca cb c2 : Nat} {w : World} (hX : Hp w A X ca) (hH : Hp w B H cb) {n : Nat} (hn : H.length = n) (he : (X.take n).map Ob.bare = H.map Ob.bare) (hf : n ≤ 1000000) (c1 : Nat) :
    Calls Tryz.prog 20 #[.agg #[.slice A n c1], .agg #[.slice B n c2]] w fun e w' => e = .returned (.bool true) ∧ Below w.heap.size w w' := by
  obtain ⟨M, h1, h2⟩ := hX.hl
  obtain ⟨N, h3, h4⟩ := hH.hl
  have e : (M.take n).map Ob.bare = N.map Ob.bare := by rw [bare_take h1, he, h3]
  exact same_hl n A B c1 c2 w (h2.take n) h4 e (by rw [len_bare e, len_bare h3, hn]) hf
/-- what is behind the first m of two heaps -/
theorem sameDrop_p {a b : Nat} {X Y : List Ob} {ca cb : Nat} {w : World} (hX : Hp w (some ⟨a, 0, none⟩) X ca) (hY : Hp w (some ⟨b, 0, none⟩) Y cb) {m k : Nat} (hk : X.length = m + k) (he : (X.drop m).map Ob.bare = (Y.drop m).map Ob.bare) (hf : k ≤ 1000000) (c1 c2 : Nat) :
    Calls Tryz.prog 20 #[.agg #[.slice (some ⟨a, m * 18, none⟩) k c1], .agg #[.slice (some ⟨b, m * 18, none⟩) k c2]] w fun e w' => e = .returned (.bool true) ∧ Below w.heap.size w w' := by
  obtain ⟨M, h1, h2⟩ := hX.hl
  obtain ⟨N, h3, h4⟩ := hY.hl
  have e : (M.drop m).map Ob.bare = (N.drop m).map Ob.bare := by rw [bare_drop h1, he, bare_drop h3]
  exact same_hl k _ _ c1 c2 w (h2.drop m) (h4.drop m) e (by rw [List.length_drop, len_bare h1]; omega) hf
theorem chObj_bare {H M : List Ob} (h : M.map Ob.bare = H.map Ob.bare) (t g : Nat) : (chObj M t g).bare = (chObj H t g).bare := by
  have e : ∀ i : Nat, (M[i]?.getD default).kind = (H[i]?.getD default).kind ∧ kindP (M[i]?.getD default) = kindP (H[i]?.getD default) ∧ (M[i]?.getD default).calls = (H[i]?.getD default).calls ∧ (M[i]?.getD default).makes = (H[i]?.getD default).makes := fun i => by
    have := congrArg (fun l => l[i]?) h
    (try dsimp only at this)
    rw [getB, getB] at this
    cases e1 : M[i]? with
    | none =>
      cases e2 : H[i]? with
      | none => exact ⟨rfl, rfl, rfl, rfl⟩
      | some o => rw [e1, e2] at this; cases this
    | some p =>
      cases e2 : H[i]? with
      | none => rw [e1, e2] at this; cases this
      | some o =>
        rw [e1, e2] at this
        have := Option.some.inj this
        have c := congrArg Ob.calls this
        have m := congrArg Ob.makes this
        have k := congrArg Ob.kind this
        have c' : p.calls = o.calls := c
        have m' : p.makes = o.makes := m
        have k' : p.kind = o.kind := k
        refine ⟨k', ?_, c', m'⟩
        show kindP p = kindP o
        unfold kindP
        rw [c', m']
  unfold chObj chVal Ob.bare
  dsimp only
  rw [(e t).2.1, (e g).2.1, (e t).2.2.1, (e t).2.2.2]
theorem chObj_in (H : List Ob) {t g : Nat} (ht : t < 5000) (hg : g < 5000) : (chObj H t g).In :=
  ⟨(by show (0 : Int) ≤ 6; decide), (by show (6 : Int) < 256; decide), ok_in2 vN_ok, ok_in2 (chVal_ok _ ht), ok_in2 (chVal_ok _ hg), (by show 0 ≤ maxLen; unfold maxLen; omega), (fun p hp => by cases hp), Nat.le_refl _, (by show 0 < 9223372036854775808; decide), fun _ => rfl⟩
theorem gone_bare {o p : Ob} (h : o.bare = p.bare) : chGone o = chGone p ∧ chLive o = chLive p ∧ o.kind = p.kind := by
  have k0 := congrArg Ob.kind h
  have t0 := congrArg Ob.target h
  have k : o.kind = p.kind := k0
  have t : o.target = p.target := t0
  unfold chGone chLive
  rw [k, t]
  exact ⟨rfl, rfl, rfl⟩
end Go.Proofs.YtkcikdggfbjedaaGreatDoor.S
/-
  chain: check, follow.
-/
namespace Go.Proofs.YtkcikdggfbjedaaGreatDoor.S
open Go.RowKit Go.Lib Fl
open Classical

/-- the block of a heap that comes in -/
structure Cw (w : World) (A : Option Addr) (n cap : Nat) (W : World) : Prop where
  below : Below w.heap.size w W
  h : W.heap[w.heap.size]? = some (.cells #[.slice A n cap] 24 (0, 0))
theorem Cw.up {w : World} {A : Option Addr} {n cap : Nat} {W W' : World} (h : Cw w A n cap W) (hb : Below W.heap.size W W') : Cw w A n cap W' := ⟨vb h.below hb, vblkn hb h.h⟩
theorem cw_start (w : World) (A : Option Addr) (n cap : Nat) : Cw w A n cap (w.alloc (.cells #[.slice A n cap] 24)) := ⟨vzero _ _, heap_alloc_new _ _⟩
theorem Cw.q {w : World} {A : Option Addr} {n cap : Nat} {W : World} (h : Cw w A n cap W) : W.cell? ⟨w.heap.size, 0, none⟩ = some (.slice A n cap) := (vcells h.h 0).trans rfl
/-- check's and Make's error -/
noncomputable def ckE (H : List Ob) (n : Int) : Int := orE (chkH H) (thE H n)
theorem ck_zero {H : List Ob} {n : Int} (h : ckE H n = 0) : mayH H = true ∧ inZ H n := ⟨chk_zero.1 (orE_zero h).1, th_zero (orE_zero h).2⟩
theorem th_ok {H : List Ob} {n : Nat} (hn : n < H.length) : thE H (n : Int) = 0 := by unfold thE; rw [if_neg (by omega)]
theorem ck_ok {H : List Ob} {n : Nat} (hm : mayH H = true) (hn : n < H.length) : ckE H (n : Int) = 0 := by unfold ckE; rw [chk_ok hm, th_ok hn]; rfl
set_option maxHeartbeats 4000000 in
set_option maxRecDepth 1000000 in
theorem check_c (A : Option Addr) (H : List Ob) (cap : Nat) (n : Int) (w : World) (hH : HIn w A H cap) (htab : TabHere w) :
    Calls Tryz.prog 39 #[.agg #[.slice A H.length cap], .int .i64 n] w fun e w' => e = .returned (.int .i64 (ckE H n)) ∧ Below w.heap.size w w' := by
  have HN := Lib.hid (cw_start w A H.length cap)
  have cC := fun W (hb : Below w.heap.size w W) => Check_h A H cap W (hH.up hb) (tab_up htab hb)
  have cT := fun W => there_c H A cap n W
  unfold ckE
  clear hH
  generalize chkH H = x at *
  generalize thE H n = y at *
  go_enter Tryz.func39, Tryz.ntmps39
  go_upto_region 1 with (fail)
  have hS : Cw w A H.length cap _ := HN.out.up (Below.refl _ _).drew
  refine wp_region_held_drew (S := Cw w A H.length cap) (by kernel_rfl) hS (fun hHeld => ?_)
  refine hH_take (i := 0) (v := .agg #[.slice A H.length cap]) (d := 5) (l2 := #[true, false, false, false, false, false, false, false]) rfl (by kernel_rfl) (by kernel_rfl) (by kernel_rfl) (fun _ _ _ h => h) (by kernel_rfl) (fun w hSw => ?_) (by assumption) rfl (by kernel_rfl) ?_
  · exact ex_load_at (h1_load hSw.h) rfl rfl
  simp only [List.set]
  refine hH_take (i := 2) (v := .agg #[.slice A H.length cap]) (d := 7) (l2 := #[true, false, true, false, false, false, false, false]) rfl (by kernel_rfl) (by kernel_rfl) (by kernel_rfl) (fun _ _ _ h => h) (by kernel_rfl) (fun w hSw => ?_) (by assumption) rfl (by kernel_rfl) ?_
  · exact ex_load_at (h1_load hSw.h) rfl rfl
  simp only [List.set]
  refine hH_take (i := 3) (v := .int .i64 n) (d := 8) (l2 := #[true, false, true, true, false, false, false, false]) rfl (by kernel_rfl) (by kernel_rfl) (by kernel_rfl) (fun _ _ _ h => h) (by kernel_rfl) (fun w hSw => ?_) (by assumption) rfl (by kernel_rfl) ?_
  · go_simp
  simp only [List.set]
  refine wpAnyH_ready (rs := [1]) (by kernel_rfl) (by simp) ?_
  refine AllReadyH.cons rfl (fun K hK => ?_) AllReadyH.nil
  go_simp
  go_at_call 19
  (with_reducible refine (cC _ hS.below).mono ?_)
  rintro e w1 ⟨rfl, h1⟩
  have hS := hS.up h1
  clear h1
  refine hK.out _ _ hS (fun hHeld => ?_)
  clear hK K
  refine wpAnyH_ready (rs := [4]) (by kernel_rfl) (by simp) ?_
  refine AllReadyH.cons rfl (fun K hK => ?_) AllReadyH.nil
  go_simp
  go_at_call 45
  (with_reducible refine (cT _).mono ?_)
  rintro e w1 ⟨rfl, h1⟩
  have hS := hS.up h1
  clear h1
  refine hK.out _ _ hS (fun hHeld => ?_)
  clear hK K
  refine wpAnyH_ready (rs := [5]) (by kernel_rfl) (by simp) ?_
  refine AllReadyH.cons rfl (fun K hK => ?_) AllReadyH.nil
  go_simp
  have hS := hS.up (vzero _ (.cells #[.int .i64 x, .int .i64 y] 25))
  have hO := orS_new w1 x y
  refine hK.out _ _ hS (fun hHeld => ?_)
  clear hK K
  refine wpAnyH_ready (rs := [6]) (by kernel_rfl) (by simp) ?_
  refine AllReadyH.cons rfl (fun K hK => ?_) AllReadyH.nil
  go_simp
  go_at_call 44
  (with_reducible refine (Or_2 _ x y _ hO.1 hO.2).mono ?_)
  rintro e w2 ⟨rfl, rfl⟩
  refine hK.out _ _ hS (fun hHeld => ?_)
  clear hK K
  refine hH_take (i := 7) (v := .int .i64 (orE x y)) (d := 4) (l2 := #[true, true, true, true, true, true, true, true]) rfl (by kernel_rfl) (by kernel_rfl) (by kernel_rfl) (fun _ _ _ h => h) (by kernel_rfl) (fun w hSw => ?_) (by assumption) rfl (by kernel_rfl) ?_
  · go_simp
  simp only [List.set]
  refine wpAnyH_done (by kernel_rfl) ?_ _
  go_wp2
  go_ret
  exact ⟨rfl, hS.below⟩
/-- what one meets by targets: the row of numbers, how many proxies, the last object -/
abbrev chP (v : Value) (c : Int) (o : Ob) : Array Value := #[v, .int .i64 c, .int .u8 o.kind, .int .u8 o.proto.k, .float .f64 o.proto.x, .string o.proto.s, .int .i64 o.proto.r, .bool o.ext, .slice o.pa o.props.length o.pc,
  .int .u8 o.target.k, .float .f64 o.target.x, .string o.target.s, .int .i64 o.target.r, .int .u8 o.handler.k, .float .f64 o.handler.x, .string o.handler.s, .int .i64 o.handler.r, .string o.text, .bool o.calls, .bool o.makes]
theorem psz20 : (Tryz.prog.info? 87).map (·.size) = some 20 := by kernel_rfl
theorem psz20c (v : Value) (c : Int) (o : Ob) : (Tryz.prog.info? 87).map (·.size) = some (chP v c o).size := psz20
theorem chP_one (A : Option Addr) (n k : Nat) (c : Int) (o : Ob) : (chP (.slice A n k) c o).all (·.oneCell') = true := cells_one (l := (chP (.slice A n k) c o).toList) rfl
theorem chP_set0 (v u : Value) (c : Int) (o : Ob) : (chP v c o).setIfInBounds 0 u = chP u c o := rfl
theorem chP_set1 (v : Value) (c d : Int) (o : Ob) : (chP v c o).setIfInBounds 1 (.int .i64 d) = chP v d o := rfl
theorem chP_set2 (v : Value) (c : Int) (o p : Ob) : (((chP v c o).toList).take 2 ++ ocl p ++ ((chP v c o).toList).drop (2 + 18)).toArray = chP v c p := rfl
/-- the path's own block: its last object -/
theorem of_chP {w : World} {g : Nat} {v : Value} {c : Int} {o : Ob} {t : TypeId} (hb : w.heap[g]? = some (.cells (chP v c o) t (0, 0))) : ∀ j u, (ocl o)[j]? = some u → w.cell? ((⟨g, 2, none⟩ : Addr).add j) = some u := fun j u hu => by
  rw [Addr.add_mid, vcells hb (2 + j)]
  have hj : j < 18 := by have := (List.getElem?_eq_some_iff.1 hu).1; rw [ocl_len] at this; exact this
  have e : (chP v c o)[2 + j]? = (ocl o)[j]? := by
    have : (chP v c o) = (([v, .int .i64 c] : List Value) ++ ocl o).toArray := rfl
    rw [this, List.getElem?_toArray, List.getElem?_append_right (by simp), show 2 + j - ([v, .int .i64 c] : List Value).length = j from by simp]
  rw [e]
  exact hu
theorem grown_of {w W : World} {g : Nat} (hb : ∀ B w0, Below B w0 w → B ≤ g → Below B w0 W) (hO : ∀ j, j ≠ g → W.heap[j]? = w.heap[j]?) (hz : W.heap.size = w.heap.size) : w.grownBy W (some g) :=
  ⟨(hb 0 w (Below.refl _ _) (Nat.zero_le _)).os, (hb 0 w (Below.refl _ _) (Nat.zero_le _)).tape, (hb 0 w (Below.refl _ _) (Nat.zero_le _)).output, by omega, fun j _ hj => hO j (fun e => hj (by rw [e]))⟩
section
variable {ops : Array Oper} {rest : List Oper} {o : Oper} {a : Act} {w : World} {Q : Exit → Act → World → Prop} {x y : Operand} {g : Nat} {t : TypeId}
theorem cp_load {v : Value} {c : Int} {p : Ob} (hw : Region.wanted o (yielded ops a.tmps) = true) (ho : o.op = .load 87 x) (hx : a.eval x = .pointer (some ⟨g, 0, none⟩)) (hg : w.heap[g]? = some (.cells (chP v c p) t (0, 0)))
    (h : wpList Tryz.prog ops Q rest (a.put o.dst (.agg (chP v c p))) w) : wpList Tryz.prog ops Q (o :: rest) a w :=
  wpList_wanted hw fun _ hK => wp_load_row 87 x ho g hx t _ (0, 0) _ hg Tryz.underlying87 rfl psz20 (hK _ _ h)
end
theorem cp_end {f : Func} {i : Nat} {t : TypeId} {Q : Ending → World → Prop} {tmps : Array Value} {W : World} {g : Nat} {v : Value} {c : Int} {p : Ob} (hf : f.results = #[.cell i 87]) (h2 : tmps.getD i undef = .pointer (some ⟨g, 0, none⟩)) (hb : W.heap[g]? = some (.cells (chP v c p) t (0, 0)))
    (hQ : Q (.returned (.agg (chP v c p))) W) : bodyPost Tryz.prog f Q .ret { tmps := tmps, defers := [] } W :=
  bodyPost_ret (results_cell_row hf tmps W g t _ (0, 0) _ h2 hb Tryz.underlying87 rfl psz20) rfl hQ
/-- follow's own blocks -/
structure Fw (w : World) (A : Option Addr) (n cap : Nat) (v : Value) (c : Int) (o : Ob) (L : List Nat) (W : World) : Prop where
  below : Below w.heap.size w W
  h : W.heap[w.heap.size]? = some (.cells #[.slice A n cap] 24 (0, 0))
  r : W.heap[w.heap.size + 1]? = some (.cells (chP (.slice none 0 0) 0 oZ) 87 (0, 0))
  p : W.heap[w.heap.size + 1 + 1]? = some (.cells (chP v c o) 87 (0, 0))
  own : W.ownsRow (w.heap.size + 3) 3 1 v L.length (wkv L)
theorem Fw.up {w : World} {A : Option Addr} {n cap : Nat} {v : Value} {c : Int} {o : Ob} {L : List Nat} {W W' : World} (h : Fw w A n cap v c o L W) (hb : Below W.heap.size W W') : Fw w A n cap v c o L W' := ⟨vb h.below hb, vblkn hb h.h, vblkn hb h.r, vblkn hb h.p, own_up h.own hb⟩
theorem fw_start (w : World) (A : Option Addr) (n cap : Nat) : Fw w A n cap (.slice none 0 0) 0 oZ [] (((w.alloc (.cells #[.slice A n cap] 24)).alloc (.cells (chP (.slice none 0 0) 0 oZ) 87)).alloc (.cells (chP (.slice none 0 0) 0 oZ) 87)) := by
  obtain ⟨b1, b2, b3, _, hB0⟩ := objs_blk (w := w) (.slice A n cap) (chP (.slice none 0 0) 0 oZ) (.slice none 0 0) 24 87 24
  have hs : ((w.alloc (.cells #[.slice A n cap] 24)).alloc (.cells (chP (.slice none 0 0) 0 oZ) 87)).heap.size = w.heap.size + 1 + 1 := by simp
  have h3 := heap_alloc_new ((w.alloc (.cells #[.slice A n cap] 24)).alloc (.cells (chP (.slice none 0 0) 0 oZ) 87)) (.cells (chP (.slice none 0 0) 0 oZ) 87)
  rw [hs] at h3
  obtain ⟨h1, h2⟩ := vblk2 (w := w) (Below.refl _ ((w.alloc (.cells #[.slice A n cap] 24)).alloc (.cells (chP (.slice none 0 0) 0 oZ) 87)))
  exact ⟨vafter (vafter (vzero _ _)), vblkn (vzero _ _) h1, vblkn (vzero _ _) h2, h3, World.ownsRow_nil _ _ _ _⟩
theorem Fw.set {w : World} {A : Option Addr} {n cap : Nat} {v : Value} {c d : Int} {o p : Ob} {L : List Nat} {W W' : World} (h : Fw w A n cap v c o L W) (hp : W'.heap[w.heap.size + 1 + 1]? = some (.cells (chP v d p) 87 (0, 0))) (hg : W.grownBy W' (some (w.heap.size + 1 + 1))) : Fw w A n cap v d p L W' :=
  ⟨below_grow h.below hg (by omega) h.below.size, (hg.block _ (by have := lt_blk h.p; omega) (fun e => by have := Option.some.inj e; omega)).trans h.h, (hg.block _ (by have := lt_blk h.p; omega) (fun e => by have := Option.some.inj e; omega)).trans h.r, hp, h.own.kept hg (by cases e : v.ownBlock with | none => exact .inl rfl | some g => exact .inr (by have := (own_lt h.own e).1; simp; omega))⟩
/-- what follow leaves: for an object x, whether anything is behind it, and so on -/
def FollowTo (H : List Ob) (n : Nat) (w : World) (e : Ending) (w' : World) : Prop := Below w.heap.size w w' ∧ ∃ (P : Option Addr) (pc : Nat) (h : chEnd H n < H.length), e = .returned (.agg (chP (.slice P (chDn H n).length pc) (chDeep H n) H[chEnd H n])) ∧ IRow w' P (upZ (chDn H n))
theorem irow_any {W : World} {base cap : Nat} {A : Option Addr} {L : List Nat} (h : W.ownsRow base 3 1 (.slice A L.length cap) L.length (wkv L)) : IRow W A (upZ L) := fun hp => by
  have hp2 : 0 < L.length := by rw [upZ_len] at hp; exact hp
  have h0 := h
  rcases h.2 with ⟨e, h2⟩ | ⟨g, cp, cur, e, _⟩
  · omega
  · cases e
    exact irow_own h0 hp2 hp
theorem fw_row {w : World} {A : Option Addr} {n cap : Nat} {va : Option Addr} {vc : Nat} {c : Int} {o : Ob} {L : List Nat} {W W' : World} (h : Fw w A n cap (.slice va L.length vc) c o L W) (hb : Below w.heap.size w W') (hO : ∀ j, j ≠ w.heap.size + 1 → W'.heap[j]? = W.heap[j]?) (hz : W'.heap.size = W.heap.size) : IRow W' va (upZ L) := by
  have hg : W.grownBy W' (some (w.heap.size + 1)) := ⟨hb.os.trans h.below.os.symm, hb.tape.trans h.below.tape.symm, hb.output.trans h.below.output.symm, by omega, fun j _ hj => hO j (fun e => hj (by rw [e]))⟩
  refine irow_any (h.own.kept hg ?_)
  cases e : Value.ownBlock (.slice va L.length vc) with
  | none => exact .inl rfl
  | some g => exact .inr (by have := (own_lt h.own e).1; simp; omega)
theorem set_grown (W : World) (g m : Nat) (v : Value) : W.grownBy (W.setCell ⟨g, m, none⟩ v) (some g) := ⟨rfl, rfl, rfl, by simp, fun k _ hk => Below.heap_setCell W ⟨g, m, none⟩ _ k (fun e => hk (by rw [e]))⟩
theorem follow_fin {H : List Ob} {n : Nat} {w W : World} {L : List Nat} {i vc : Nat} {va : Option Addr} {c : Int} {q : Ob} (hb : Below w.heap.size w W) (h1 : chDn H n = L) (h2 : chEnd H n = i) (hi : i < H.length) (hq : q = H[i]) (h3 : (chDeep H n : Int) = c) (hI : IRow W va (upZ L)) :
    FollowTo H n w (.returned (.agg (chP (.slice va L.length vc) c q))) W := by
  subst h1 h2 h3 hq
  exact ⟨hb, va, vc, hi, rfl, hI⟩
theorem fw_app {w : World} {A : Option Addr} {n cap : Nat} {v v' : Value} {c : Int} {q : Ob} {L : List Nat} {k : Nat} {W0 w' W2 : World} (h : Fw w A n cap v c q L W0) (hO : w'.ownsRow (w.heap.size + 3) 3 1 v' (L.length + 1) (wkv L ++ [.int .i64 (k : Int)])) (hG : W0.grownBy w' v.ownBlock)
    (hp : W2.heap[w.heap.size + 1 + 1]? = some (.cells (chP v' c q) 87 (0, 0))) (hG2 : w'.grownBy W2 (some (w.heap.size + 1 + 1))) : Fw w A n cap v' c q (L ++ [k]) W2 := by
  have hl := lt_blk h.p
  have hs := hG.size
  have hn : ∀ j, j < w.heap.size + 3 → some j ≠ v.ownBlock := fun j hj e => by have := (own_lt h.own e.symm).1; omega
  refine ⟨(h.below.grown hG h.below.size (fun k hk => by have := (own_lt h.own hk).1; omega)).grown hG2 (by have := h.below.size; omega) (fun k hk => by have := Option.some.inj hk; omega), ?_, ?_, hp, ?_⟩
  · exact (hG2.block _ (by omega) (fun e => by have := Option.some.inj e; omega)).trans ((hG.block _ (by omega) (hn _ (by omega))).trans h.h)
  · exact (hG2.block _ (by omega) (fun e => by have := Option.some.inj e; omega)).trans ((hG.block _ (by omega) (hn _ (by omega))).trans h.r)
  · rw [List.length_append, wkv_snoc]
    exact hO.kept hG2 (by cases e : v'.ownBlock with | none => exact .inl rfl | some g => exact .inr (by have := (own_lt hO e).1; simp; omega))
set_option maxHeartbeats 4000000 in
set_option maxRecDepth 1000000 in
theorem follow_c (A : Option Addr) (H : List Ob) (cap : Nat) (n : Nat) (w : World) (hH : HIn w A H cap) (hm : mayH H = true) (hn : n < H.length) :
    Calls Tryz.prog 41 #[.agg #[.slice A H.length cap], .int .i64 (n : Int)] w (FollowTo H n w) := by
  have HF := Lib.hid (fw_start w A H.length cap)
  have HH := Lib.hid hH
  have HM := Lib.hid hm
  have hfew := hH.few
  have HL := Lib.hid (chDn_len (H := H) n)
  clear hH hm
  go_enter Tryz.func41, Tryz.ntmps41
  go_wp2
  go_step3
  go_wp2
  go_step3
  go_wp2
  go_loopg [1] (n + 1) (fun kx s1 wr => ∃ i : Nat, s1 = .int .i64 i ∧ i < kx ∧ i < H.length ∧ Hid (∃ (v : Value) (L : List Nat) (o : Ob), Fw w A H.length cap v L.length o L wr ∧ chDn H n = L ++ chDn H i ∧ chEnd H n = chEnd H i))
  case atStart => exact ⟨n, rfl, by omega, hn, Lib.hid ⟨_, [], oZ, HF.out, rfl, rfl⟩⟩
  case round =>
    obtain ⟨i, rfl, hik, hil, HR⟩ := hrel
    clear HF
    obtain ⟨v, L, o0, hF, hdn, hen⟩ := HR.out
    have hLn : L.length ≤ 5000 := by have := HL.out; rw [hdn, List.length_append] at this; omega
    obtain ⟨va, vc, rfl⟩ := own_shape hF.own
    have HD := Lib.hid (And.intro hdn hen)
    have HF := Lib.hid hF
    clear HR hF hdn hen
    have hq := (vcells HF.out.h 0).trans rfl
    have hiz : (i : Int) < (H.length : Int) := by omega
    have hi0 : (0 : Int) ≤ (i : Int) := by omega
    have hLz : (L.length : Int) ≤ 5000 := by omega
    have hL0 : (0 : Int) ≤ (L.length : Int) := by omega
    have hca : ∃ a, A = some a ∧ ∀ W, Below w.heap.size w W → ∀ j u, (ocl H[i])[j]? = some u → W.cell? ((a.add (i * 18)).add j) = some u := by
      obtain ⟨a, h1, h2, h3, _⟩ := HH.out.at hil
      exact ⟨a, h1, fun W hb j u hu => (hb.cell (p := (a.add (i * 18)).add j) (by rw [add_blk]; exact h2)).trans (of_back h3 j u hu)⟩
    obtain ⟨a, rfl, hcl⟩ := hca
    have hc := hcl _ HF.out.below
    clear hcl
    obtain ⟨q, hq0⟩ : ∃ q, q = H[i] := ⟨_, rfl⟩
    rw [← hq0] at hc
    have HQ := Lib.hid hq0
    have htk : 0 ≤ q.target.k := by rw [hq0]; exact (HH.out.inn _ (List.getElem_mem hil)).target.1
    have cR := fun W => revoked_c q htk W
    have hpb := HF.out.p
    have hpl : 2 + 18 ≤ ((chP (.slice va L.length vc) L.length o0).toList).length := Nat.le_refl _
    have hs1 : 1 < (chP (.slice va L.length vc) L.length q).size := (by show 1 < 20; omega)
    clear hq0
    cases hk : (q.kind == 6) with
    | false =>
      have hnx : Hid (chDn H n = L ∧ chEnd H n = i ∧ (chDeep H n : Int) = (L.length : Int)) := Lib.hid (by
        have hk2 : (H[i].kind == 6) = false := by rw [← HQ.out]; exact hk
        have h1 := ch_other hil hk2
        have e1 : chDn H n = L := by rw [HD.out.1, chDn_end h1, List.append_nil]
        have e2 : chEnd H n = i := by rw [HD.out.2, chEnd_end h1]
        refine ⟨e1, e2, ?_⟩
        have e3 : chCut H n = false := by unfold chCut; rw [e2, List.getElem?_eq_getElem hil]; exact hk2
        unfold chDeep
        rw [e1, e3]
        rfl)
      clear cR
      go_wp2_with (first
        | ((with_reducible refine oa_load ?_ rfl rfl hc ?_); (rfl))
        | ((with_reducible refine ob_store (cur := (chP (.slice va L.length vc) L.length o0).toList) rfl rfl rfl rfl hpb hpl ?_); intro W1 hb1 hW1 hO1 hz1; rw [chP_set2] at hW1; have HF := Lib.hid (HF.out.set hW1 (grown_of hb1 hO1 hz1)); have q2 : W1.cell? ⟨w.heap.size + 1 + 1, 2, none⟩ = some (.int .u8 q.kind) := (vcells hW1 2).trans rfl; have q1 : W1.cell? ⟨w.heap.size + 1 + 1, 1, none⟩ = some (.int .i64 (L.length : Int)) := (vcells hW1 1).trans rfl; clear hb1 hO1 hz1)
        | ((with_reducible refine cp_load ?_ rfl rfl HF.out.p ?_); (rfl))
        | ((with_reducible refine t_store rfl rfl rfl rfl HF.out.r (psz20c _ _ _) ?_ (chP_one _ _ _ _ _) HF.out.below (by omega) ?_); (rfl); intro W6 hb6 hW6 hO6 hz6))
      (try rw [Exit.noGoto_ret])
      exact cp_end Tryz.results41 rfl hW6 (follow_fin hb6 (hnx.out.1) hnx.out.2.1 hil HQ.out hnx.out.2.2 (fw_row HF.out hb6 hO6 hz6))
    | true =>
      have h6 : H[i].kind = 6 := by rw [← HQ.out]; exact beq_iff_eq.1 hk
      cases ho : objQ q.target with
      | false =>
        have cR2 : ∀ W, Calls Tryz.prog 42 #[.agg (obA q)] W fun e w' => e = .returned (.bool true) ∧ Below W.heap.size W w' := fun W => by
          have := cR W
          rw [show chGone q = true from by unfold chGone; rw [hk, ho]; rfl] at this
          exact this
        have hnx : Hid (chDn H n = L ∧ chEnd H n = i ∧ (chDeep H n : Int) = (L.length : Int) + 1) := Lib.hid (by
          have h1 : chNext H i = none := by
            rcases ch_proxy HM.out hil h6 with ⟨_, h⟩ | ⟨h, _⟩
            · exact h
            · rw [← HQ.out, ho] at h; cases h
          have e1 : chDn H n = L := by rw [HD.out.1, chDn_end h1, List.append_nil]
          have e2 : chEnd H n = i := by rw [HD.out.2, chEnd_end h1]
          refine ⟨e1, e2, ?_⟩
          have e3 : chCut H n = true := by unfold chCut; rw [e2, List.getElem?_eq_getElem hil]; exact beq_iff_eq.2 h6
          unfold chDeep
          rw [e1, e3]
          simp)
        clear cR
        go_upto_region 6 with (first
          | ((with_reducible refine oa_load ?_ rfl rfl hc ?_); (rfl))
          | ((with_reducible refine ob_store (cur := (chP (.slice va L.length vc) L.length o0).toList) rfl rfl rfl rfl hpb hpl ?_); intro W1 hb1 hW1 hO1 hz1; rw [chP_set2] at hW1; have HF := Lib.hid (HF.out.set hW1 (grown_of hb1 hO1 hz1)); have q2 : W1.cell? ⟨w.heap.size + 1 + 1, 2, none⟩ = some (.int .u8 q.kind) := (vcells hW1 2).trans rfl; have q1 : W1.cell? ⟨w.heap.size + 1 + 1, 1, none⟩ = some (.int .i64 (L.length : Int)) := (vcells hW1 1).trans rfl; clear hb1 hO1 hz1)
          | ((with_reducible refine ci_store (cs := chP (.slice va L.length vc) L.length q) rfl rfl rfl rfl hW1 hs1 ?_); intro W2 hW2 hG2 hz2; rw [chP_set1] at hW2; have HF := Lib.hid (HF.out.set hW2 hG2); have hcp := of_chP hW2; clear hz2))
        clear hW1 q1 q2
        go_wp2_with (first
          | ((with_reducible refine oa_load ?_ rfl rfl hcp ?_); (rfl))
          | (go_at_call 42; (with_reducible refine (cR2 _).mono ?_); rintro e w3 ⟨rfl, h9⟩; have HF := Lib.hid (HF.out.up h9); clear h9)
          | ((with_reducible refine cp_load ?_ rfl rfl HF.out.p ?_); (rfl))
          | ((with_reducible refine t_store rfl rfl rfl rfl HF.out.r (psz20c _ _ _) ?_ (chP_one _ _ _ _ _) HF.out.below (by omega) ?_); (rfl); intro W6 hb6 hW6 hO6 hz6))
        (try rw [Exit.noGoto_ret])
        exact cp_end Tryz.results41 rfl hW6 (follow_fin hb6 hnx.out.1 hnx.out.2.1 hil HQ.out hnx.out.2.2 (fw_row HF.out hb6 hO6 hz6))
      | true =>
        have cR2 : ∀ W, Calls Tryz.prog 42 #[.agg (obA q)] W fun e w' => e = .returned (.bool false) ∧ Below W.heap.size W w' := fun W => by
          have := cR W
          rw [show chGone q = false from by unfold chGone; rw [hk, ho]; rfl] at this
          exact this
        have hnx : Hid (∃ t : Nat, q.target.r = t ∧ t < i ∧ chNext H i = some t) := Lib.hid (by
          rcases ch_proxy HM.out hil h6 with ⟨h, _⟩ | ⟨_, t, h1, h2, h3⟩
          · rw [← HQ.out, ho] at h; cases h
          · exact ⟨t, by rw [HQ.out]; exact h1, h2, h3⟩)
        obtain ⟨t, htr, hti, hnt⟩ := hnx.out
        have HNT := Lib.hid hnt
        clear cR hnx hnt
        go_upto_region 6 with (first
          | ((with_reducible refine oa_load ?_ rfl rfl hc ?_); (rfl))
          | ((with_reducible refine ob_store (cur := (chP (.slice va L.length vc) L.length o0).toList) rfl rfl rfl rfl hpb hpl ?_); intro W1 hb1 hW1 hO1 hz1; rw [chP_set2] at hW1; have HF := Lib.hid (HF.out.set hW1 (grown_of hb1 hO1 hz1)); have q2 : W1.cell? ⟨w.heap.size + 1 + 1, 2, none⟩ = some (.int .u8 q.kind) := (vcells hW1 2).trans rfl; have q1 : W1.cell? ⟨w.heap.size + 1 + 1, 1, none⟩ = some (.int .i64 (L.length : Int)) := (vcells hW1 1).trans rfl; clear hb1 hO1 hz1)
          | ((with_reducible refine ci_store (cs := chP (.slice va L.length vc) L.length q) rfl rfl rfl rfl hW1 hs1 ?_); intro W2 hW2 hG2 hz2; rw [chP_set1] at hW2; have HF := Lib.hid (HF.out.set hW2 hG2); have hcp := of_chP hW2; clear hz2))
        clear hW1 q1 q2
        go_upto_region 8 with (first
          | ((with_reducible refine oa_load ?_ rfl rfl hcp ?_); (rfl))
          | (go_at_call 42; (with_reducible refine (cR2 _).mono ?_); rintro e w3 ⟨rfl, h9⟩; have HF := Lib.hid (HF.out.up h9); have qr : w3.cell? ⟨w.heap.size + 1 + 1, 12, none⟩ = some (.int .i64 (t : Int)) := ((vcells HF.out.p 12).trans (by show some (Value.int .i64 q.target.r) = _; rw [htr])); have hO3 := HF.out.own; have hp3 := HF.out.p; have qv : w3.cell? ⟨w.heap.size + 1 + 1, 0, none⟩ = some (.slice va L.length vc) := (vcells hp3 0).trans rfl; have hs3 := lt_blk hp3; clear h9))
        go_wp2_with (first
          | (at_builtin; refine wl_app (k := t) rfl _ _ rfl hO3 rfl ?_ (by omega) (by omega) ?_; (rfl); intro v' W4 hO4 hG4 hat; obtain ⟨A', cp', hv'⟩ := own_shape hO4; subst hv'; have hp4 : W4.heap[w.heap.size + 1 + 1]? = some (.cells (chP (.slice va L.length vc) ((L.length : Int) + 1) q) 87 (0, 0)) := (hG4.block _ (by omega) (fun e => by have := (own_lt hO3 e.symm).1; omega)).trans hp3; have qv : W4.cell? ⟨w.heap.size + 1 + 1, 0, none⟩ = some (.slice va L.length vc) := (vcells hp4 0).trans rfl; have q5 : W4.frozen? ⟨w.heap.size + 1 + 1, 0, none⟩ = false := (by simp [World.frozen?, hp4])))
        go_roundg i
        case measure => omega
        case rel =>
          refine ⟨t, rfl, hti, by omega, Lib.hid ⟨.slice A' (L.length + 1) cp', L ++ [t], q, ?_, ?_, ?_⟩⟩
          · have hp5 := vset1 hp4 0 (.slice A' (L.length + 1) cp')
            rw [chP_set0] at hp5
            have h5 := fw_app HF.out hO4 hG4 hp5 (set_grown W4 _ _ _)
            rw [List.length_append]
            exact h5
          · rw [HD.out.1, chDn_next HNT.out, List.append_assoc]; rfl
          · rw [HD.out.2, chEnd_next HNT.out]
end Go.Proofs.YtkcikdggfbjedaaGreatDoor.S
