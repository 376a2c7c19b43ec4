/-
  alive of the laws of table: put, and found.
-/
import Derived.Test.YthnkllhfmjbbmaaGreatDoorHM27
namespace Go.Proofs.YthnkllhfmjbbmaaGreatDoor.S
open Go.RowKit Go.Lib Fl
open Classical

theorem Data_t (ka : Int) (xa : Nat) (sa : ByteArray) (ra : Int) (w : World) : Calls Tryz.prog 59 #[.agg #[.int .u8 ka, .float .f64 xa, .string sa, .int .i64 ra]] w fun e w' => e = .returned (.agg #[.int .u8 51, .int .u8 ka, .float .f64 xa, .string sa, .int .i64 ra, .int .u8 0, .float .f64 0, .string ⟨#[]⟩, .int .i64 0, .int .u8 0, .float .f64 0, .string ⟨#[]⟩, .int .i64 0, .bool true, .bool true, .bool true]) ∧ Below w.heap.size w w' := by
  have hst := vstore
  have hB0 : Below w.heap.size w ((w.alloc (.cells #[.int .u8 ka, .float .f64 xa, .string sa, .int .i64 ra] 31)).alloc (.cells #[.int .u8 0, .int .u8 0, .float .f64 0, .string ⟨#[]⟩, .int .i64 0, .int .u8 0, .float .f64 0, .string ⟨#[]⟩, .int .i64 0, .int .u8 0, .float .f64 0, .string ⟨#[]⟩, .int .i64 0, .bool false, .bool false, .bool false] 55)) := vafter (vzero _ _)
  obtain ⟨b1, b2⟩ := vblk2 (w := w) (Below.refl _ ((w.alloc (.cells #[.int .u8 ka, .float .f64 xa, .string sa, .int .i64 ra] 31)).alloc (.cells #[.int .u8 0, .int .u8 0, .float .f64 0, .string ⟨#[]⟩, .int .i64 0, .int .u8 0, .float .f64 0, .string ⟨#[]⟩, .int .i64 0, .int .u8 0, .float .f64 0, .string ⟨#[]⟩, .int .i64 0, .bool false, .bool false, .bool false] 55)))
  go_enter Tryz.func59, Tryz.ntmps59
  go_wp2_with (first | ((with_reducible refine v_load ?_ rfl rfl b1 rfl rfl rfl rfl ?_); (rfl)) | ((with_reducible refine d_store rfl rfl rfl rfl b2 ?_ ?_ ?_); (rfl); (rfl)))
  exact d_end Tryz.results59 rfl (setRow_heap _ _ _ _ _ _ b2) ⟨rfl, below_row hB0 (by omega) _⟩
/-- the usual property of a number -/
def dN (x : Nat) : Dq := ⟨51, ⟨3, x, ⟨#[]⟩, 0⟩, v0, v0, true, true, true⟩
def pN (s : ByteArray) (y : Int) (x : Nat) : Pq := ⟨⟨s, y⟩, dN x⟩

theorem ok_in2 {v : Vq} (h : v.Ok) : v.In := by
  obtain ⟨u, ok, e1, e2, _, e4⟩ := h
  obtain ⟨k0, k8⟩ := vok_kind ⟨u, ok, e1, e2, rfl, e4⟩
  refine ⟨k0, by omega, ?_, ?_⟩
  · rw [← e2]
    cases u with
    | boo x => rcases ok with rfl | rfl | rfl <;> simp only [Vl.fl] <;> omega
    | num x => obtain ⟨c, hc, _⟩ := ok; simp only [Vl.fl]; exact hc.lt
    | _ => simp only [Vl.fl]; omega
  · rw [← e4]
    cases u with
    | sym r => exact ok.2
    | obj k r => exact ok.2.2
    | _ => simp only [Vl.rf]; omega
theorem pN_in {s : ByteArray} {y : Int} {x : Nat} (hs : s.size ≤ 4096) (hy : 0 ≤ y ∧ y < 100) (hv : (⟨3, x, ⟨#[]⟩, 0⟩ : Vq).Ok) : (pN s y x).In :=
  ⟨⟨by show s.size ≤ maxLen; unfold maxLen; omega, by show -2 ^ 63 ≤ y; omega, by show y < 2 ^ 63; omega⟩, by show (0 : Int) ≤ 51; decide, by show (51 : Int) < 256; decide, ok_in2 hv, ok_in2 v0_ok, ok_in2 v0_ok⟩
theorem pN_ok {s : ByteArray} {y : Int} {x : Nat} (hs : s.size ≤ 4096) (hy : 0 ≤ y ∧ y < 100) (hz : 0 < y → s = ⟨#[]⟩) (hv : (⟨3, x, ⟨#[]⟩, 0⟩ : Vq).Ok) : (pN s y x).Ok :=
  ⟨⟨hy.1, hs, hz⟩, (whole_iff (pN_in hs hy hv).2).2 ⟨good51 hv, .inl rfl⟩⟩
theorem out_tab {w : World} {v : Value} {M : List Pq} (h : OutS w v M) (ok : TabOk M) (hin : ∀ p ∈ M, p.In) : ∃ A c, v = .slice A M.length c ∧ TabIn w A M c := by
  obtain ⟨A, c, e, h1, h2, h3, h4⟩ := h.out
  exact ⟨A, c, e, ok, hin, h1, h2, by unfold maxLen at h3; omega, h4⟩
theorem tab_nil (w : World) : TabIn w none [] 0 := ⟨⟨Nat.zero_le _, (fun _ h => by cases h), List.Pairwise.nil⟩, (fun _ h => by cases h), pr_nil, Nat.le_refl _, by decide, fun _ => rfl⟩
theorem one_ok2 : (⟨3, 4607182418800017408, ⟨#[]⟩, 0⟩ : Vq).Ok := ⟨.num 4607182418800017408, ⟨.ours 1, ⟨by decide, by unfold SafeN; omega⟩, rfl⟩, rfl, rfl, rfl, rfl⟩
def pA : Pq := pN (⟨#[97]⟩ : ByteArray) 0 4607182418800017408
theorem pA_in : pA.In := pN_in (by decide) (by decide) one_ok2
theorem pA_ok : pA.Ok := pN_ok (by decide) (by decide) (fun h => absurd h (by decide)) one_ok2
theorem pA_put : PutTo [] pA [pA] := put_to (L := []) ⟨Nat.zero_le _, (fun _ h => by cases h), List.Pairwise.nil⟩ pA_ok (show (0 : Nat) ≠ 1024 by decide)
theorem pA_putE : putE [] pA = 0 := by unfold putE; rw [if_pos (mayT_ok.2 pA_ok), if_neg (show ¬ cutN [] pA.k = 1024 from (by decide : ¬ (0 : Nat) = 1024))]
theorem eq_flt (d a b : Nat) (w : World) : (Op.equalIn (d + 1) 29 (.float .f64 a) (.float .f64 b)).run Tryz.prog w = .ok (FloatKind.f64.format.order a b == some .eq) w := by
  simp [Op.equalIn, run_underlying Tryz.underlying29]; rfl
end Go.Proofs.YthnkllhfmjbbmaaGreatDoor.S
/-
  Heaps: which objects may be, where prototypes lead, what one comes to: plain functions.
-/
namespace Go.Proofs.YthnkllhfmjbbmaaGreatDoor.S
open Go.RowKit Go.Lib Fl
open Classical

/-- an object; pa and pc: where its properties lie, and how many have room there (they count for nothing) -/
structure Ob where
  kind : Int
  proto : Vq
  ext : Bool
  pa : Option Addr
  pc : Nat
  props : List Pq
  target : Vq
  handler : Vq
  text : ByteArray
  calls : Bool
  makes : Bool
instance : Inhabited Ob := ⟨⟨0, v0, false, none, 0, [], v0, v0, ⟨#[]⟩, false, false⟩⟩
def ocl (o : Ob) : List Value := [.int .u8 o.kind, .int .u8 o.proto.k, .float .f64 o.proto.x, .string o.proto.s, .int .i64 o.proto.r, .bool o.ext, .slice o.pa o.props.length o.pc,
  .int .u8 o.target.k, .float .f64 o.target.x, .string o.target.s, .int .i64 o.target.r, .int .u8 o.handler.k, .float .f64 o.handler.x, .string o.handler.s, .int .i64 o.handler.r, .string o.text, .bool o.calls, .bool o.makes]
def obA (o : Ob) : Array Value := (ocl o).toArray
theorem ocl_len (o : Ob) : (ocl o).length = 18 := rfl
theorem obA_size (o : Ob) : (obA o).size = 18 := rfl
theorem obA_one (o : Ob) : (obA o).all (·.oneCell') = true := cells_one (l := ocl o) rfl
/-- an object that may come in -/
structure Ob.In (o : Ob) : Prop where
  k0 : 0 ≤ o.kind
  k1 : o.kind < 256
  proto : o.proto.In
  target : o.target.In
  handler : o.handler.In
  text : o.text.size ≤ maxLen
  props : ∀ p ∈ o.props, p.In
  room : o.props.length ≤ o.pc
  cap63 : o.pc < 9223372036854775808
  nil : o.pa = none → o.pc = 0
/-- but for where its properties lie -/
def Ob.bare (o : Ob) : Ob := { o with pa := none, pc := 0 }
def objQ (v : Vq) : Bool := v.k == 6 || (v.k == 7 || v.k == 8)
def valsO (o : Ob) : List Vq := [o.proto, o.target, o.handler] ++ o.props.flatMap fun p => [p.d.a, p.d.b, p.d.c]
def kindO (o : Ob) : Int := bif o.calls && o.makes then 8 else bif o.calls then 7 else bif o.makes then 0 else 6
def refB (H : List Ob) (v : Vq) : Bool := match H[v.r.toNat]? with | some o => v.k == kindO o | none => false
noncomputable def holdsB (H : List Ob) (v : Vq) : Bool := v.may && (!objQ v || refB H v)
def aloneB (o : Ob) : Bool := o.target.z && o.handler.z
def bareB (o : Ob) : Bool := aloneB o && o.text.toList.isEmpty
def lenK : Ky := ⟨(⟨#[108, 101, 110, 103, 116, 104]⟩ : ByteArray), 0⟩
/-- the whole number that a float tells, from 0 to 1024 -/
noncomputable def smallN (x : Nat) : Option Nat := if h : ∃ n : Nat, n ≤ 1024 ∧ x = F n then some (Classical.choose h) else none
def idxs (L : List Pq) (such : Nat → Bool) : Bool := L.all fun p => match ixK p.k.str p.k.sym with | some i => such i | none => true
noncomputable def measuredB (L : List Pq) : Bool := match L with
  | [] => false
  | p :: _ => eqK p.k lenK && (p.d.a.k == 3 && (match smallN p.d.a.x with | some n => !p.d.q && (!p.d.z && idxs L fun i => decide (i < n)) | none => false))
def boxesB (o : Ob) : Bool := decide (o.text.size ≤ 4096) && (!(o.props.any fun p => eqK p.k lenK) && idxs o.props fun i => decide (o.text.size ≤ i))
def aheadB (v : Vq) (n : Nat) : Bool := objQ v && decide (v.r < n)
def proxB (H : List Ob) (t : Vq) : Bool := match H[t.r.toNat]? with | some o => o.kind == 6 | none => false
def revokesB (H : List Ob) (t : Vq) (n : Nat) : Bool := t.z || (aheadB t n && proxB H t)
def leadsB (o : Ob) (n : Nat) : Bool := bif o.target.k == 1 && o.handler.k == 1 then !(kindO o == 0) else aheadB o.target n && (aheadB o.handler n && kindO o == o.target.k)
noncomputable def fitsB (H : List Ob) (o : Ob) (n : Nat) : Bool :=
  bif o.kind == 1 then kindO o == 6 && bareB o
  else bif o.kind == 2 then kindO o == 6 && (bareB o && measuredB o.props)
  else bif o.kind == 3 then kindO o == 6 && (aloneB o && boxesB o)
  else bif o.kind == 4 then kindO o == 8 && bareB o
  else bif o.kind == 5 then o.calls && (o.handler.z && (o.text.toList.isEmpty && revokesB H o.target n))
  else bif o.kind == 6 then !o.ext && (o.props.isEmpty && (o.proto.k == 1 && (o.text.toList.isEmpty && leadsB o n)))
  else false
noncomputable def mayB (H : List Ob) (o : Ob) (n : Nat) : Bool :=
  chkT o.props == 0 && ((objQ o.proto || o.proto.k == 1) && ((valsO o).all (holdsB H) && fitsB H o n))
/-- where an object's prototype leads -/
def nextO (H : List Ob) (p : Nat) : Option Nat := match H[p]? with
  | some o => bif objQ o.proto then some o.proto.r.toNat else none
  | none => none
/-- one walk along prototypes: none, if it comes back -/
def walkF (H : List Ob) (k : Nat) : Nat → Nat → List Nat → Option (List Nat)
  | 0, _, W => some W
  | f + 1, p, W => match W[p]? with
    | none => some W
    | some x => bif x == k then none else bif !(x == 0) then some W else match nextO H p with
      | none => some (W.set p k)
      | some q => walkF H k f q (W.set p k)
def loopsL (H : List Ob) : Nat → Nat → List Nat → Bool
  | 0, _, _ => false
  | m + 1, n, W => match walkF H (n + 1) (H.length + 1) n W with
    | none => true
    | some W' => loopsL H m (n + 1) W'
def loopsB (H : List Ob) : Bool := loopsL H H.length 0 (List.replicate H.length 0)
noncomputable def mayH (H : List Ob) : Bool := decide (H.length ≤ 4096) && ((List.range H.length).all (fun i => match H[i]? with | some o => mayB H o i | none => false) && !loopsB H)
noncomputable def chkH (H : List Ob) : Int := bif mayH H then 0 else 9
theorem mayH_iff {H : List Ob} : mayH H = true ↔ H.length ≤ 4096 ∧ (∀ i (h : i < H.length), mayB H H[i] i = true) ∧ loopsB H = false := by
  unfold mayH
  simp only [Bool.and_eq_true, decide_eq_true_eq, List.all_eq_true, List.mem_range, Bool.not_eq_true']
  refine ⟨fun ⟨a, b, c⟩ => ⟨a, fun i h => ?_, c⟩, fun ⟨a, b, c⟩ => ⟨a, fun i h => ?_, c⟩⟩
  · have := b i h
    rw [List.getElem?_eq_getElem h] at this
    exact this
  · rw [List.getElem?_eq_getElem h]; exact b i h
/-- what may be in a heap may be with more objects behind -/
theorem holds_more {H : List Ob} {v : Vq} (G : List Ob) (h : holdsB H v = true) : holdsB (H ++ G) v = true := by
  unfold holdsB at h ⊢
  rw [Bool.and_eq_true] at h ⊢
  refine ⟨h.1, ?_⟩
  have h2 := h.2
  cases ho : objQ v with
  | false => rfl
  | true =>
    rw [ho, Bool.not_true, Bool.false_or] at h2
    rw [Bool.not_true, Bool.false_or]
    unfold refB at h2 ⊢
    cases e : H[v.r.toNat]? with
    | none => rw [e] at h2; cases h2
    | some o =>
      obtain ⟨hi, _⟩ := List.getElem?_eq_some_iff.1 e
      rw [e] at h2
      rw [List.getElem?_append_left hi, e]
      exact h2
theorem may_more {H : List Ob} {o : Ob} {n : Nat} (G : List Ob) (h : mayB H o n = true) : mayB (H ++ G) o n = true := by
  unfold mayB at h ⊢
  simp only [Bool.and_eq_true] at h ⊢
  obtain ⟨h1, h2, h3, h4⟩ := h
  refine ⟨h1, h2, ?_, ?_⟩
  · rw [List.all_eq_true] at h3 ⊢
    exact fun v hv => holds_more G (h3 v hv)
  · unfold fitsB at h4 ⊢
    have hr : revokesB H o.target n = true → revokesB (H ++ G) o.target n = true := fun h => by
      unfold revokesB at h ⊢
      rw [Bool.or_eq_true] at h ⊢
      refine h.imp id fun h => ?_
      rw [Bool.and_eq_true] at h ⊢
      refine ⟨h.1, ?_⟩
      have h2 := h.2
      unfold proxB at h2 ⊢
      cases e : H[o.target.r.toNat]? with
      | none => rw [e] at h2; cases h2
      | some u =>
        obtain ⟨hi, _⟩ := List.getElem?_eq_some_iff.1 e
        rw [e] at h2
        rw [List.getElem?_append_left hi, e]
        exact h2
    cases e1 : o.kind == 1 <;> rw [e1] at h4
    · cases e2 : o.kind == 2 <;> rw [e2] at h4
      · cases e3 : o.kind == 3 <;> rw [e3] at h4
        · cases e4 : o.kind == 4 <;> rw [e4] at h4
          · cases e5 : o.kind == 5 <;> rw [e5] at h4
            · exact h4
            · simp only [cond_true, cond_false, Bool.and_eq_true] at h4 ⊢
              exact ⟨h4.1, h4.2.1, h4.2.2.1, hr h4.2.2.2⟩
          · exact h4
        · exact h4
      · exact h4
    · exact h4
/-- the heap with one object more may be, where that one may, and no prototypes lead back -/
theorem mayH_new {H : List Ob} {o : Ob} (h : mayH H = true) (hn : H.length ≠ 4096) (ho : mayB (H ++ [o]) o H.length = true) (hl : loopsB (H ++ [o]) = false) : mayH (H ++ [o]) = true := by
  obtain ⟨a, b, _⟩ := mayH_iff.1 h
  refine mayH_iff.2 ⟨by simp; omega, fun i hi => ?_, hl⟩
  by_cases c : i < H.length
  · rw [List.getElem_append_left c]; exact may_more _ (b i c)
  · have e : i = H.length := by simp at hi; omega
    subst e
    rw [List.getElem_append_right (Nat.le_refl _)]
    simpa using ho
/-- to which objects an object leads -/
def refsO (o : Ob) : List Nat := (valsO o).filterMap fun v => bif objQ v then some v.r.toNat else none
inductive RH (H : List Ob) (F : List Nat) : Nat → Prop where
  | start {x : Nat} : x ∈ F → RH H F x
  | step {x y : Nat} {o : Ob} : RH H F x → H[x]? = some o → y ∈ refsO o → RH H F y
theorem RH.more {H : List Ob} {F G : List Nat} (h : ∀ x ∈ F, RH H G x) {y : Nat} (hy : RH H F y) : RH H G y := by
  induction hy with
  | start h' => exact h _ h'
  | step _ e hm ih => exact .step ih e hm
theorem RH.lt {H : List Ob} {F : List Nat} (hm : mayH H = true) (hF : ∀ x ∈ F, x < H.length) {y : Nat} (hy : RH H F y) : y < H.length := by
  induction hy with
  | start h' => exact hF _ h'
  | @step x y o _ e hm' ih =>
    obtain ⟨hi, he⟩ := List.getElem?_eq_some_iff.1 e
    have hb := (mayH_iff.1 hm).2.1 x hi
    rw [he] at hb
    unfold mayB at hb
    simp only [Bool.and_eq_true] at hb
    obtain ⟨v, hv, hv2⟩ := List.mem_filterMap.1 hm'
    have hh := List.all_eq_true.1 hb.2.2.1 v hv
    cases ho : objQ v with
    | false => rw [ho] at hv2; cases hv2
    | true =>
      rw [ho] at hv2
      obtain rfl : v.r.toNat = y := Option.some.inj hv2
      unfold holdsB at hh
      rw [Bool.and_eq_true, ho, Bool.not_true, Bool.false_or] at hh
      unfold refB at hh
      cases e2 : H[v.r.toNat]? with
      | none => rw [e2] at hh; exact absurd hh.2 (by simp)
      | some u => exact (List.getElem?_eq_some_iff.1 e2).1
end Go.Proofs.YthnkllhfmjbbmaaGreatDoor.S
/-
  What one comes to from some objects: the worklist, and the sorted list of them.
-/
namespace Go.Proofs.YthnkllhfmjbbmaaGreatDoor.S
open Go.RowKit Go.Lib Fl
open Classical

/-- the worklist with a number more, if it is not there -/
def addW (W : List Nat) (n : Nat) : List Nat := if n ∈ W then W else W ++ [n]
theorem addW_pre (W : List Nat) (n : Nat) : W <+: addW W n := by
  unfold addW
  split
  · exact List.prefix_refl _
  · exact ⟨[n], rfl⟩
theorem addW_in (W : List Nat) (n : Nat) : n ∈ addW W n := by
  unfold addW
  split
  · assumption
  · simp
theorem addW_mem {W : List Nat} {n x : Nat} (h : x ∈ addW W n) : x ∈ W ∨ x = n := by
  unfold addW at h
  split at h
  · exact .inl h
  · rcases List.mem_append.1 h with h | h
    · exact .inl h
    · exact .inr (List.mem_singleton.1 h)
theorem addW_nd {W : List Nat} (n : Nat) (h : W.Nodup) : (addW W n).Nodup := by
  unfold addW
  split
  · exact h
  · rename_i hn
    exact List.nodup_append.2 ⟨h, by simp, fun a ha b hb e => by obtain rfl := List.mem_singleton.1 hb; subst e; exact hn ha⟩
theorem nodup_len {m : Nat} : ∀ {W : List Nat}, W.Nodup → (∀ x ∈ W, x < m) → W.length ≤ m := fun {W} hn hl => by
  have h := List.Nodup.length_le_of_subset hn (fun x hx => List.mem_range.2 (hl x hx) : W ⊆ List.range m)
  rwa [List.length_range] at h
/-- the worklist while it is gone through, i of it done -/
structure Wk (H : List Ob) (F W : List Nat) (i : Nat) : Prop where
  nd : W.Nodup
  st : ∀ x ∈ F, x ∈ W
  rh : ∀ x ∈ W, RH H F x
  cl : ∀ j < i, ∀ x, W[j]? = some x → ∀ o, H[x]? = some o → ∀ y ∈ refsO o, y ∈ W
  le : i ≤ W.length
theorem Wk.all {H : List Ob} {F W : List Nat} (h : Wk H F W W.length) (y : Nat) : y ∈ W ↔ RH H F y := by
  refine ⟨h.rh y, fun hy => ?_⟩
  induction hy with
  | start hx => exact h.st _ hx
  | @step x y o _ e hm ih =>
    obtain ⟨j, hj, hx⟩ := List.mem_iff_getElem.1 ih
    exact h.cl j hj x (by rw [List.getElem?_eq_getElem hj, hx]) o e y hm
/-- the first loop: k of them are in -/
structure Wa (F W : List Nat) (k : Nat) : Prop where
  nd : W.Nodup
  st : ∀ x ∈ F.take k, x ∈ W
  fr : ∀ x ∈ W, x ∈ F
theorem Wa.zero (F : List Nat) : Wa F [] 0 := ⟨List.nodup_nil, by simp, by simp⟩
theorem Wa.step {F W : List Nat} {k : Nat} (h : Wa F W k) (hk : k < F.length) : Wa F (addW W F[k]) (k + 1) := by
  refine ⟨addW_nd _ h.nd, fun x hx => ?_, fun x hx => ?_⟩
  · rw [List.take_add_one, List.getElem?_eq_getElem hk] at hx
    rcases List.mem_append.1 hx with hx | hx
    · exact (addW_pre W _).subset (h.st x hx)
    · obtain rfl := List.mem_singleton.1 hx; exact addW_in _ _
  · rcases addW_mem hx with hx | rfl
    · exact h.fr x hx
    · exact List.getElem_mem hk
theorem Wa.wk {H : List Ob} {F W : List Nat} (h : Wa F W F.length) : Wk H F W 0 :=
  ⟨h.nd, fun x hx => h.st x (by rw [List.take_length]; exact hx), fun x hx => .start (h.fr x hx), fun j hj => absurd hj (Nat.not_lt_zero _), Nat.zero_le _⟩
/-- a round: the values of the object at place i are gone through, 'pre' of them done -/
structure Wr (H : List Ob) (F W0 : List Nat) (pre : List Vq) (W : List Nat) : Prop where
  nd : W.Nodup
  ahead : W0 <+: W
  rh : ∀ x ∈ W, RH H F x
  done : ∀ v ∈ pre, objQ v = true → v.r.toNat ∈ W
theorem Wr.zero {H : List Ob} {F W : List Nat} {i : Nat} (h : Wk H F W i) : Wr H F W [] W := ⟨h.nd, List.prefix_refl _, h.rh, by simp⟩
theorem Wr.skip {H : List Ob} {F W0 W : List Nat} {pre : List Vq} {v : Vq} (h : Wr H F W0 pre W) (hv : objQ v = false) : Wr H F W0 (pre ++ [v]) W :=
  ⟨h.nd, h.ahead, h.rh, fun x hx ho => by
    rcases List.mem_append.1 hx with hx | hx
    · exact h.done x hx ho
    · obtain rfl := List.mem_singleton.1 hx; rw [hv] at ho; cases ho⟩
theorem Wr.add {H : List Ob} {F W0 W : List Nat} {pre : List Vq} {v : Vq} (h : Wr H F W0 pre W) (hr : RH H F v.r.toNat) : Wr H F W0 (pre ++ [v]) (addW W v.r.toNat) :=
  ⟨addW_nd _ h.nd, h.ahead.trans (addW_pre _ _), fun x hx => by
    rcases addW_mem hx with hx | rfl
    · exact h.rh x hx
    · exact hr, fun x hx ho => by
    rcases List.mem_append.1 hx with hx | hx
    · exact (addW_pre W _).subset (h.done x hx ho)
    · obtain rfl := List.mem_singleton.1 hx; exact addW_in _ _⟩
theorem Wk.step {H : List Ob} {F W0 W : List Nat} {i x : Nat} {o : Ob} (h : Wk H F W0 i) (hx : W0[i]? = some x) (ho : H[x]? = some o) (r : Wr H F W0 (valsO o) W) : Wk H F W (i + 1) := by
  have hi : i < W0.length := (List.getElem?_eq_some_iff.1 hx).1
  obtain ⟨T, rfl⟩ := r.ahead
  refine ⟨r.nd, fun x hx => List.mem_append_left _ (h.st x hx), r.rh, fun j hj y hy u hu z hz => ?_, by rw [List.length_append]; omega⟩
  have hj0 : j < W0.length := by omega
  rw [List.getElem?_append_left hj0] at hy
  by_cases c : j < i
  · exact List.mem_append_left _ (h.cl j c y hy u hu z hz)
  · obtain rfl : j = i := by omega
    rw [hx] at hy
    obtain rfl := Option.some.inj hy
    rw [ho] at hu
    obtain rfl := Option.some.inj hu
    obtain ⟨v, hv, hv2⟩ := List.mem_filterMap.1 hz
    cases e : objQ v with
    | false => rw [e] at hv2; cases hv2
    | true =>
      rw [e] at hv2
      obtain rfl : v.r.toNat = z := Option.some.inj hv2
      exact r.done v hv e
theorem RH.ref {H : List Ob} {F : List Nat} {x : Nat} {o : Ob} {v : Vq} (h : RH H F x) (ho : H[x]? = some o) (hv : v ∈ valsO o) (hq : objQ v = true) : RH H F v.r.toNat :=
  .step h ho (List.mem_filterMap.2 ⟨v, hv, by rw [hq]; rfl⟩)
/-- the answer: what one comes to, rising -/
noncomputable def reachL (H : List Ob) (F : List Nat) : List Nat := (List.range H.length).filter fun y => decide (RH H F y)
theorem reachL_mem {H : List Ob} {F : List Nat} (hm : mayH H = true) (hF : ∀ x ∈ F, x < H.length) (y : Nat) : y ∈ reachL H F ↔ RH H F y := by
  unfold reachL
  rw [List.mem_filter, List.mem_range, decide_eq_true_eq]
  exact ⟨fun h => h.2, fun h => ⟨RH.lt hm hF h, h⟩⟩
theorem reachL_up (H : List Ob) (F : List Nat) : (reachL H F).Pairwise (· < ·) := List.pairwise_lt_range.filter _
theorem reachL_lt {H : List Ob} {F : List Nat} {y : Nat} (h : y ∈ reachL H F) : y < H.length := List.mem_range.1 (List.mem_filter.1 h).1
theorem up_eq : ∀ {L M : List Nat}, L.Pairwise (· < ·) → M.Pairwise (· < ·) → (∀ y, y ∈ L ↔ y ∈ M) → L = M
  | [], [], _, _, _ => rfl
  | [], b :: M, _, _, h => absurd ((h b).2 (by simp)) (by simp)
  | a :: L, [], _, _, h => absurd ((h a).1 (by simp)) (by simp)
  | a :: L, b :: M, hl, hm, h => by
    rw [List.pairwise_cons] at hl hm
    have e : a = b := by
      have h1 := (h a).1 (by simp)
      have h2 := (h b).2 (by simp)
      rcases List.mem_cons.1 h1 with h1 | h1
      · exact h1
      · rcases List.mem_cons.1 h2 with h2 | h2
        · exact h2.symm
        · have := hl.1 b h2; have := hm.1 a h1; omega
    subst e
    refine congrArg _ (up_eq hl.2 hm.2 fun y => ⟨fun hy => ?_, fun hy => ?_⟩)
    · rcases List.mem_cons.1 ((h y).1 (List.mem_cons_of_mem _ hy)) with rfl | h'
      · exact absurd (hl.1 _ hy) (Nat.lt_irrefl _)
      · exact h'
    · rcases List.mem_cons.1 ((h y).2 (List.mem_cons_of_mem _ hy)) with rfl | h'
      · exact absurd (hm.1 _ hy) (Nat.lt_irrefl _)
      · exact h'
def upZ (L : List Nat) : List Int := L.map fun (n : Nat) => (n : Int)
theorem upZ_len (L : List Nat) : (upZ L).length = L.length := List.length_map ..
theorem sort_is {H : List Ob} {F W : List Nat} (hm : mayH H = true) (hF : ∀ x ∈ F, x < H.length) (hn : W.Nodup) (hW : ∀ y, y ∈ W ↔ RH H F y) :
    (upZ W).mergeSort (fun x y => decide (x ≤ y)) = upZ (reachL H F) := by
  have hp := List.mergeSort_perm (upZ W) (fun x y => decide (x ≤ y))
  have hs := List.pairwise_mergeSort (le := fun (x y : Int) => decide (x ≤ y)) (fun a b c h1 h2 => by simp at *; omega) (fun a b => by simp; omega) (upZ W)
  have hnd : ((upZ W).mergeSort (fun x y => decide (x ≤ y))).Nodup := hp.nodup_iff.2 (List.pairwise_map.2 (hn.imp fun h e => h (by omega)))
  have hpos : ∀ x ∈ (upZ W).mergeSort (fun x y => decide (x ≤ y)), ∃ n : Nat, x = (n : Int) ∧ n ∈ W := fun x hx => by
    obtain ⟨n, h1, h2⟩ := List.mem_map.1 (hp.mem_iff.1 hx)
    exact ⟨n, h2.symm, h1⟩
  have hpos2 : ∀ n : Nat, n ∈ W → (n : Int) ∈ (upZ W).mergeSort (fun x y => decide (x ≤ y)) := fun n hn => hp.mem_iff.2 (List.mem_map.2 ⟨n, hn, rfl⟩)
  generalize (upZ W).mergeSort (fun x y => decide (x ≤ y)) = S at *
  have hS : S = upZ (S.map Int.toNat) := by
    unfold upZ
    rw [List.map_map]
    refine (List.map_id S).symm.trans (List.map_congr_left fun x hx => ?_)
    obtain ⟨n, rfl, _⟩ := hpos x hx
    simp
  rw [hS]
  refine congrArg upZ (up_eq ?_ (reachL_up H F) fun y => ?_)
  · rw [List.pairwise_map]
    have h2 := List.Pairwise.and hs hnd
    refine List.Pairwise.imp_of_mem (fun {a b} ha hb h => ?_) h2
    obtain ⟨n, rfl, _⟩ := hpos a ha
    obtain ⟨m, rfl, _⟩ := hpos b hb
    have h3 := h.1
    have h4 := h.2
    simp at h3
    simp
    omega
  · rw [reachL_mem hm hF, ← hW]
    refine ⟨fun h => ?_, fun h => List.mem_map.2 ⟨(y : Int), hpos2 y h, by simp⟩⟩
    obtain ⟨x, hx, rfl⟩ := List.mem_map.1 h
    obtain ⟨n, rfl, hn⟩ := hpos x hx
    simpa using hn
theorem reachL_again {H : List Ob} {F : List Nat} (hm : mayH H = true) (hF : ∀ x ∈ F, x < H.length) : reachL H (reachL H F) = reachL H F := by
  refine up_eq (reachL_up _ _) (reachL_up _ _) fun y => ?_
  rw [reachL_mem hm (fun x hx => reachL_lt hx), reachL_mem hm hF]
  refine ⟨fun h => ?_, fun h => .start ((reachL_mem hm hF y).2 h)⟩
  induction h with
  | start hx => exact (reachL_mem hm hF _).1 hx
  | step _ e hm' ih => exact .step ih e hm'
end Go.Proofs.YthnkllhfmjbbmaaGreatDoor.S
