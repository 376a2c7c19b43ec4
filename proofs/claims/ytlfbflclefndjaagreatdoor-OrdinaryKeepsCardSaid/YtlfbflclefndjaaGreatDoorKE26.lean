/-
  ordinary: what a heap's properties need that lie about, while other things are stored; what each method leaves.
-/
import Derived.Test.YtlfbflclefndjaaGreatDoorKE25
import Derived.Test.YtlfbflclefndjaaGreatDoorKE12
import Derived.Test.YtlfbflclefndjaaGreatDoorKE13
import Derived.Test.YtlfbflclefndjaaGreatDoorKE24
import Derived.Test.YtlfbflclefndjaaGreatDoorKE16
namespace Go.Proofs.YtlfbflclefndjaaGreatDoor.S
open Go.RowKit Go.Lib Fl
open Classical

/-- the objects' properties lie in blocks of properties -/
structure HRest (M : List Ob) (W : World) : Prop where
  row : ∀ i (h : i < M.length), PR W M[i].pa M[i].props
  blk : ∀ i (h : i < M.length) a, M[i].pa = some a → ∃ cs, W.heap[a.block]? = some (.cells cs 68 (0, 0))
theorem pr_keep {w w' : World} {A : Option Addr} {L : List Pq} (h : PR w A L) (hb : ∀ a, A = some a → w'.heap[a.block]? = w.heap[a.block]?) : PR w' A L := fun hp => by
  obtain ⟨a, rfl, h2, h3⟩ := h hp
  have e := hb a rfl
  refine ⟨a, rfl, ?_, fun i hi j u hu => ?_⟩
  · rw [Array.getElem?_eq_getElem h2] at e
    exact lt_blk e
  · rw [← h3 i hi j u hu]
    exact World.cell?_of_block (by rw [add_blk]; exact e)
theorem HRest.keep {M : List Ob} {W W' : World} (h : HRest M W) (hk : ∀ (g : Nat) (cs : Array Value), W.heap[g]? = some (.cells cs 68 (0, 0)) → W'.heap[g]? = W.heap[g]?) : HRest M W' :=
  ⟨fun i hi => pr_keep (h.row i hi) fun a ha => by obtain ⟨cs, hc⟩ := h.blk i hi a ha; exact hk _ _ hc, fun i hi a ha => by obtain ⟨cs, hc⟩ := h.blk i hi a ha; exact ⟨cs, (hk _ _ hc).trans hc⟩⟩
theorem HRest.up {M : List Ob} {W W' : World} (h : HRest M W) (hb : Below W.heap.size W W') : HRest M W' := h.keep fun g _ hg => hb.block g (lt_blk hg)
theorem HRest.two {M : List Ob} {W W' : World} {x y : Nat} (h : HRest M W) (hx : ∃ c, W.heap[x]? = some (.cells c 24 (0, 0))) (hy : ∃ c, W.heap[y]? = some (.cells c 44 (0, 0))) (hO : ∀ j, j < W.heap.size → j ≠ x → j ≠ y → W'.heap[j]? = W.heap[j]?) : HRest M W' := by
  refine h.keep fun g cs hg => hO g (lt_blk hg) (fun e => ?_) (fun e => ?_)
  · subst e; obtain ⟨c, hc⟩ := hx; rw [hg] at hc; cases hc
  · subst e; obtain ⟨c, hc⟩ := hy; rw [hg] at hc; cases hc
theorem HRest.chg {M M2 : List Ob} {B : Nat} {W W' : World} (h : HRest M W) (hB : W.heap[B]? = some (.cells (hcl M).toArray 37 (0, 0))) (hC : Chg W B M2 W') : HRest M W' := by
  refine h.keep fun g cs hg => hC.g.block g (lt_blk hg) (fun e => ?_)
  obtain rfl := Option.some.inj e
  rw [hg] at hB; cases hB
theorem HRest.set {M : List Ob} {k : Nat} {o : Ob} {W : World} (h : HRest M W) (hr : PR W o.pa o.props) (hb : ∀ a, o.pa = some a → ∃ cs, W.heap[a.block]? = some (.cells cs 68 (0, 0))) : HRest (M.set k o) W := by
  refine ⟨fun i hi => ?_, fun i hi a ha => ?_⟩
  · rw [List.getElem_set]
    split
    · exact hr
    · exact h.row i (by simpa using hi)
  · rw [List.getElem_set] at ha
    split at ha
    · exact hb a ha
    · exact h.blk i (by simpa using hi) a ha
theorem HRest.tw {n0 B : Nat} {H M : List Ob} {W : World} (h : Tw n0 B H M W) : HRest M W := by
  refine ⟨fun i hi => ?_, fun i hi a ha => ?_⟩
  · obtain ⟨g, _, e, hg⟩ := (h.all i hi (by rw [← h.len]; exact hi)).out
    rw [e]
    exact pr_blk hg
  · obtain ⟨g, _, e, hg⟩ := (h.all i hi (by rw [← h.len]; exact hi)).out
    rw [e] at ha
    obtain rfl := Option.some.inj ha
    exact ⟨_, hg⟩
theorem HRest.inn {M : List Ob} {B : Nat} {W : World} (h : HRest M W) (hB : W.heap[B]? = some (.cells (hcl M).toArray 37 (0, 0))) (hin : ∀ o ∈ M, o.In) (hf : M.length ≤ 5000) (hp : ∀ o ∈ M, o.props.length ≤ 100000) : HIn W (some ⟨B, 0, none⟩) M M.length := by
  refine ⟨hin, fun hpos => ⟨_, rfl, lt_blk hB, fun i hi => ⟨?_, h.row i hi⟩⟩, hf, fun o ho => by have := hp o ho; omega, Nat.le_refl _, by omega, fun hc => by cases hc⟩
  rw [Addr.add_mid, Nat.zero_add]
  exact of_hcl hB hi
/-- a twin's objects may come in, and have few properties -/
theorem Tw.ins {n0 B : Nat} {H M : List Ob} {W : World} (h : Tw n0 B H M W) (hin : ∀ o ∈ H, o.In) (hp : ∀ o ∈ H, o.props.length ≤ 100000) : ∀ o ∈ M, o.In ∧ o.props.length ≤ 100000 := fun o ho => by
  obtain ⟨i, hi, rfl⟩ := List.getElem_of_mem ho
  have hi2 : i < H.length := by rw [← h.len]; exact hi
  obtain ⟨g, _, e, hg⟩ := (h.all i hi hi2).out
  have hI := hin _ (List.getElem_mem hi2)
  have hP := hp _ (List.getElem_mem hi2)
  rw [e]
  exact ⟨⟨hI.k0, hI.k1, hI.proto, hI.target, hI.handler, hI.text, hI.props, Nat.le_refl _, show H[i].props.length < 9223372036854775808 by omega, fun hc => by cases hc⟩, hP⟩
theorem ins_set {M : List Ob} {k : Nat} {o : Ob} (h : ∀ p ∈ M, p.In ∧ p.props.length ≤ 100000) (ho : o.In ∧ o.props.length ≤ 100000) : ∀ p ∈ M.set k o, p.In ∧ p.props.length ≤ 100000 := fun p hp => by
  rcases List.mem_or_eq_of_mem_set hp with h1 | rfl
  · exact h p h1
  · exact ho
theorem Ob.In.as {o : Ob} (h : o.In) {v : Vq} (hv : v.In) (x : Bool) : (o.as v x o.pa o.pc o.props).In := ⟨h.k0, h.k1, hv, h.target, h.handler, h.text, h.props, h.room, h.cap63, h.nil⟩
def failO : Oq := ⟨3, v0, false, false, dz 0, none, 0, 0, 2, (⟨#[116, 111, 111, 32, 109, 97, 110, 121]⟩ : ByteArray)⟩
/-- room of a slice -/
structure Cap (A : Option Addr) (n c : Nat) : Prop where
  room : n ≤ c
  cap63 : c < 9223372036854775808
  nil : A = none → c = 0
/-- what comes of a definition -/
structure DefTo (o : Ob) (a : Ak) (q : Oq) (p : Ob) : Prop where
  no : (compatQ o.ext a.d (findT o.props a.k).isSome (fndD o.props a.k)).1 = false → q = yesO false ∧ p = o
  many : (compatQ o.ext a.d (findT o.props a.k).isSome (fndD o.props a.k)).1 = true → cutN o.props a.k = 1024 → q = failO ∧ p = o
  yes : (compatQ o.ext a.d (findT o.props a.k).isSome (fndD o.props a.k)).1 = true → cutN o.props a.k ≠ 1024 → q = yesO true ∧ ∃ A c, Cap A (putT o.props ⟨a.k, applyQ o.ext a.d (findT o.props a.k).isSome (fndD o.props a.k)⟩).length c ∧ p = o.as o.proto o.ext A c (putT o.props ⟨a.k, applyQ o.ext a.d (findT o.props a.k).isSome (fndD o.props a.k)⟩)
/-- what comes of a deletion -/
structure DelTo (o : Ob) (a : Ak) (q : Oq) (p : Ob) : Prop where
  no : (findT o.props a.k).isSome = true → (fndD o.props a.k).z = false → q = yesO false ∧ p = o
  yes : ((findT o.props a.k).isSome = false ∨ (fndD o.props a.k).z = true) → q = yesO true ∧ ∃ A c, Cap A (dropT o.props a.k).length c ∧ p = o.as o.proto o.ext A c (dropT o.props a.k)
/-- what comes of an ask -/
structure StepO (H : List Ob) (o : Ob) (a : Ak) (q : Oq) (p : Ob) (W : World) : Prop where
  m1 : a.m = 1 → q = protoO o ∧ p = o
  m2 : a.m = 2 → q = yesO (eqV a.v o.proto || (o.ext && !decide (Bhd H a.n a.v))) ∧ p = (if (!eqV a.v o.proto && (o.ext && !decide (Bhd H a.n a.v))) = true then o.under a.v else o)
  m3 : a.m = 3 → q = yesO o.ext ∧ p = o
  m4 : a.m = 4 → q = yesO true ∧ p = o.shut
  m5 : a.m = 5 → q = foundO (findT o.props a.k).isSome (fndD o.props a.k) ∧ p = o
  m6 : a.m = 6 → DefTo o a q p
  m10 : a.m = 10 → DelTo o a q p
  m11 : a.m = 11 → (∃ L O, q = keysO (some ⟨O, 0, none⟩) o.props.length ∧ OrdOf (keysL o.props) L ∧ W.heap[O]? = some (.cells (kyCells L).toArray 26 (0, 0))) ∧ p = o
theorem StepO.keep {H : List Ob} {o : Ob} {a : Ak} {q : Oq} {p : Ob} {W W' : World} (h : StepO H o a q p W) (hk : ∀ (g : Nat) (cs : Array Value), W.heap[g]? = some (.cells cs 26 (0, 0)) → W'.heap[g]? = W.heap[g]?) : StepO H o a q p W' :=
  ⟨h.m1, h.m2, h.m3, h.m4, h.m5, h.m6, h.m10, fun e => by obtain ⟨⟨L, O, h1, h2, h3⟩, h4⟩ := h.m11 e; exact ⟨⟨L, O, h1, h2, (hk _ _ h3).trans h3⟩, h4⟩⟩
/-- what Do leaves: the heap behind, its properties -/
structure DoneH (H : List Ob) (k : Nat) (a : Ak) (q : Oq) (M2 : List Ob) (W : World) : Prop where
  step : ∃ (M : List Ob) (p : Ob), M.map Ob.bare = H.map Ob.bare ∧ ∃ hk : k < M.length, M2 = M.set k p ∧ StepO H M[k] a q p W
  rest : HRest M2 W
  ins : ∀ o ∈ M2, o.In ∧ o.props.length ≤ 100000
theorem DoneH.two {H : List Ob} {k : Nat} {a : Ak} {q : Oq} {M2 : List Ob} {W W' : World} {x y : Nat} (h : DoneH H k a q M2 W) (hx : ∃ c, W.heap[x]? = some (.cells c 24 (0, 0))) (hy : ∃ c, W.heap[y]? = some (.cells c 44 (0, 0))) (hO : ∀ j, j < W.heap.size → j ≠ x → j ≠ y → W'.heap[j]? = W.heap[j]?) : DoneH H k a q M2 W' := by
  refine ⟨?_, h.rest.two hx hy hO, h.ins⟩
  obtain ⟨M, p, h1, hk, h2, h3⟩ := h.step
  refine ⟨M, p, h1, hk, h2, h3.keep fun g cs hg => hO g (lt_blk hg) (fun e => ?_) (fun e => ?_)⟩
  · subst e; obtain ⟨c, hc⟩ := hx; rw [hg] at hc; cases hc
  · subst e; obtain ⟨c, hc⟩ := hy; rw [hg] at hc; cases hc
theorem DoneH.up {H : List Ob} {k : Nat} {a : Ak} {q : Oq} {M2 : List Ob} {W W' : World} (h : DoneH H k a q M2 W) (hb : Below W.heap.size W W') : DoneH H k a q M2 W' := by
  refine ⟨?_, h.rest.up hb, h.ins⟩
  obtain ⟨M, p, h1, hk, h2, h3⟩ := h.step
  exact ⟨M, p, h1, hk, h2, h3.keep fun g cs hg => hb.block g (lt_blk hg)⟩
end Go.Proofs.YtlfbflclefndjaaGreatDoor.S
/-
  What is not configurable stays: the mathematics; what Compatible and Apply come to.
-/
namespace Go.Proofs.YtlfbflclefndjaaGreatDoor.S
open Go.RowKit Fl

theorem imp_of {b t : Bool} (h : (b && !t) = false) : b = true → t = true := by intro e; rw [e] at h; simpa using h
theorem ne_of {b p p' : Bool} (h : (b && (p != p')) = false) : b = true → p = p' := by intro e; rw [e] at h; revert h; cases p <;> cases p' <;> decide
theorem sameD_inv {h h' : Int} {sA sB sC p p' q q' z z' : Bool} (e : sameD h h' sA sB sC p p' q q' z z' = true) : (hasB h 1 = true → sA = true) ∧ (hasB h 4 = true → sB = true) ∧ (hasB h 8 = true → sC = true) ∧ (hasB h 2 = true → p = p') ∧ (hasB h 16 = true → q = q') ∧ (hasB h 32 = true → z = z') := by
  unfold sameD same7 at e
  simp only [Bool.and_eq_true, Bool.not_eq_true'] at e
  obtain ⟨⟨⟨⟨⟨⟨_, f1⟩, f2⟩, f3⟩, f4⟩, f5⟩, f6⟩ := e
  exact ⟨imp_of f1, imp_of f3, imp_of f4, ne_of f2, ne_of f5, ne_of f6⟩
theorem held_all : ∀ h ∈ allH, hasB (bits .andNot .u8 h 3) 4 = hasB h 4 ∧ hasB (bits .andNot .u8 h 3) 8 = hasB h 8 ∧ hasB (bits .andNot .u8 h 3) 16 = hasB h 16 ∧ hasB (bits .andNot .u8 h 3) 32 = hasB h 32 := by decide +kernel
structure Stays (x now : Dq) : Prop where
  z : x.z = false
  q : x.q = now.q
  h : x.h = now.h
  acc : hasB now.h 12 = true → sameQ x.b now.b = true ∧ sameQ x.c now.c = true
  dat : hasB now.h 12 = false → now.p = true ∨ (x.p = false ∧ sameQ x.a now.a = true)
theorem stays {d now : Dq} (g : Good d) (n : Good now) (hn : now.h = 51 ∨ now.h = 60) (hz : now.z = false) (hc : changesQ d now = true) : Stays (becomeQ d now) now := by
  unfold changesQ at hc
  rw [hz] at hc
  simp only [Bool.false_or, Bool.and_eq_true, Bool.not_eq_true'] at hc
  obtain ⟨hA, hB, hS⟩ := hc
  obtain ⟨s1, s4, s8, s2, s16, s32⟩ := sameD_inv hS
  obtain ⟨k4, k8, k16, k32⟩ := held_all _ g.mem
  have e4 : hasB (heldH d now) 4 = hasB d.h 4 := by unfold heldH; cases now.p; exact rfl; exact k4
  have e8 : hasB (heldH d now) 8 = hasB d.h 8 := by unfold heldH; cases now.p; exact rfl; exact k8
  have e16 : hasB (heldH d now) 16 = hasB d.h 16 := by unfold heldH; cases now.p; exact rfl; exact k16
  have e32 : hasB (heldH d now) 32 = hasB d.h 32 := by unfold heldH; cases now.p; exact rfl; exact k32
  rw [e4] at s4
  rw [e8] at s8
  rw [e16] at s16
  rw [e32] at s32
  rw [become_eq g.mem hn]
  refine ⟨?_, ?_, ?_, ?_, ?_⟩ <;> dsimp only
  · cases e : hasB d.h 32 with
    | true => exact s32 e
    | false => exact hz
  · cases e : hasB d.h 16 with
    | true => exact s16 e
    | false => rfl
  · cases e3 : hasB d.h 3 with
    | true =>
      rw [e3] at hA
      rcases hn with e | e
      · rw [e]; rfl
      · rw [e] at hA; exact absurd hA (by decide)
    | false =>
      cases e12 : hasB d.h 12 with
      | true =>
        rw [e12] at hB
        rcases hn with e | e
        · rw [e] at hB; exact absurd hB (by decide)
        · rw [e]; rfl
      | false => rfl
  · intro h12
    rw [h12, Bool.and_true] at hA
    have hn6 : now.h = 60 := by
      rcases hn with e | e
      · rw [e] at h12; exact absurd h12 (by decide)
      · exact e
    have nb := (n.b (by rw [hn6]; decide)).1
    have nc := (n.c (by rw [hn6]; decide)).1
    rw [hA, hn6]
    constructor
    · cases e : hasB d.h 4 with
      | true => exact s4 e
      | false => exact same_refl nb
    · cases e : hasB d.h 8 with
      | true => exact s8 e
      | false => exact same_refl nc
  · intro h12
    have hn5 : now.h = 51 := by
      rcases hn with e | e
      · exact e
      · rw [e] at h12; exact absurd h12 (by decide)
    have h3 : hasB now.h 3 = true := by rw [hn5]; decide
    rw [h3, Bool.and_true] at hB
    cases hp : now.p with
    | true => exact Or.inl rfl
    | false =>
      right
      have eh : heldH d now = d.h := by unfold heldH; rw [hp]; rfl
      rw [eh] at s1 s2
      rw [hB, hn5]
      constructor
      · cases e : hasB d.h 2 with
        | true => exact (s2 e).trans hp
        | false => rfl
      · cases e : hasB d.h 1 with
        | true => exact s1 e
        | false => exact same_refl n.a
structure Came (ext : Bool) (d : Dq) (found : Bool) (now x : Dq) : Prop where
  g : Good x
  h : x.h = 51 ∨ x.h = 60
  has : Has d x
  gd : Good d
  new : found = false → ext = true
  old : found = true → now.z = false → Stays x now
theorem came {ext : Bool} {d : Dq} {found : Bool} {now : Dq} (hd : d.In) (hn : now.In) (h : (compatQ ext d found now).1 = true) : Came ext d found now (applyQ ext d found now) ∧ (compatQ ext d found now).2 = 0 := by
  have hx : applyQ ext d found now = bif !found then completeQ d else becomeQ d now := by unfold applyQ; rw [h]; rfl
  rw [hx]
  unfold compatQ at h ⊢
  cases hc : chkQ d with
  | false => rw [hc] at h; exact absurd h (by simp)
  | true =>
    rw [hc] at h
    have gd := good_of hd hc
    cases found with
    | false =>
      obtain ⟨a, b⟩ := complete_good gd
      exact ⟨⟨a, b, complete_has gd.mem, gd, fun _ => h, fun e => by cases e⟩, rfl⟩
    | true =>
      cases hw : wholeQ now with
      | false => rw [hw] at h; exact absurd h (by simp)
      | true =>
        rw [hw] at h
        obtain ⟨gn, hn'⟩ := (whole_iff hn).1 hw
        obtain ⟨a, b⟩ := become_good gd gn hn'
        exact ⟨⟨a, b, become_has gd.mem hn', gd, (fun e => by cases e), fun _ hz => stays gd gn hn' hz h⟩, rfl⟩
end Go.Proofs.YtlfbflclefndjaaGreatDoor.S
/-
  The law's left: a descriptor's fields that another one has; the law's long. Generated: gen_descleft.py.
-/
namespace Go.Proofs.YtlfbflclefndjaaGreatDoor.S
open Go.RowKit Fl

end Go.Proofs.YtlfbflclefndjaaGreatDoor.S
/-
  Descriptors: changes: the walk; and Compatible, Apply, Complete said of structures. Generated: gen_descchanges.py.
-/
namespace Go.Proofs.YtlfbflclefndjaaGreatDoor.S
open Go.RowKit Fl

set_option maxRecDepth 1000000 in
set_option maxHeartbeats 4000000 in
theorem changes_x (h h1 m m1 : Int) (ka : Int) (xa : Nat) (sa : ByteArray) (ra : Int) (kb : Int) (xb : Nat) (sb : ByteArray) (rb : Int) (kc : Int) (xc : Nat) (sc : ByteArray) (rc : Int) (kd : Int) (xd : Nat) (sd : ByteArray) (rd : Int) (ke : Int) (xe : Nat) (se : ByteArray) (re : Int) (kf : Int) (xf : Nat) (sf : ByteArray) (rf : Int) (p q z p' q' z' : Bool) {bd ba nd na t : Bool} (hh : h1 = bif p' then bits .andNot .u8 h 3 else h) (hm : m1 = bits .and .u8 m h1) (cd : ∀ w, Calls Tryz.prog 12 #[.agg #[.int .u8 h, .int .u8 ka, .float .f64 xa, .string sa, .int .i64 ra, .int .u8 kb, .float .f64 xb, .string sb, .int .i64 rb, .int .u8 kc, .float .f64 xc, .string sc, .int .i64 rc, .bool p, .bool q, .bool z]] w fun e w' => e = .returned (.bool bd) ∧ Below w.heap.size w w') (ca : ∀ w, Calls Tryz.prog 66 #[.agg #[.int .u8 h, .int .u8 ka, .float .f64 xa, .string sa, .int .i64 ra, .int .u8 kb, .float .f64 xb, .string sb, .int .i64 rb, .int .u8 kc, .float .f64 xc, .string sc, .int .i64 rc, .bool p, .bool q, .bool z]] w fun e w' => e = .returned (.bool ba) ∧ Below w.heap.size w w') (ed : ∀ w, Calls Tryz.prog 12 #[.agg #[.int .u8 m, .int .u8 kd, .float .f64 xd, .string sd, .int .i64 rd, .int .u8 ke, .float .f64 xe, .string se, .int .i64 re, .int .u8 kf, .float .f64 xf, .string sf, .int .i64 rf, .bool p', .bool q', .bool z']] w fun e w' => e = .returned (.bool nd) ∧ Below w.heap.size w w') (ea : ∀ w, Calls Tryz.prog 66 #[.agg #[.int .u8 m, .int .u8 kd, .float .f64 xd, .string sd, .int .i64 rd, .int .u8 ke, .float .f64 xe, .string se, .int .i64 re, .int .u8 kf, .float .f64 xf, .string sf, .int .i64 rf, .bool p', .bool q', .bool z']] w fun e w' => e = .returned (.bool na) ∧ Below w.heap.size w w') (cs : ∀ w, Calls Tryz.prog 13 #[.agg #[.int .u8 h1, .int .u8 ka, .float .f64 xa, .string sa, .int .i64 ra, .int .u8 kb, .float .f64 xb, .string sb, .int .i64 rb, .int .u8 kc, .float .f64 xc, .string sc, .int .i64 rc, .bool p, .bool q, .bool z], .agg #[.int .u8 m1, .int .u8 kd, .float .f64 xd, .string sd, .int .i64 rd, .int .u8 ke, .float .f64 xe, .string se, .int .i64 re, .int .u8 kf, .float .f64 xf, .string sf, .int .i64 rf, .bool p', .bool q', .bool z']] w fun e w' => e = .returned (.bool t) ∧ Below w.heap.size w w') (w : World) : Calls Tryz.prog 103 #[.agg #[.int .u8 h, .int .u8 ka, .float .f64 xa, .string sa, .int .i64 ra, .int .u8 kb, .float .f64 xb, .string sb, .int .i64 rb, .int .u8 kc, .float .f64 xc, .string sc, .int .i64 rc, .bool p, .bool q, .bool z], .agg #[.int .u8 m, .int .u8 kd, .float .f64 xd, .string sd, .int .i64 rd, .int .u8 ke, .float .f64 xe, .string se, .int .i64 re, .int .u8 kf, .float .f64 xf, .string sf, .int .i64 rf, .bool p', .bool q', .bool z']] w fun e w' => e = .returned (.bool (z' || (!(bd && na) && (!(ba && nd) && t)))) ∧ Below w.heap.size w w' := by
  have hB0 : Below w.heap.size w ((w.alloc (.cells #[.int .u8 h, .int .u8 ka, .float .f64 xa, .string sa, .int .i64 ra, .int .u8 kb, .float .f64 xb, .string sb, .int .i64 rb, .int .u8 kc, .float .f64 xc, .string sc, .int .i64 rc, .bool p, .bool q, .bool z] 41)).alloc (.cells #[.int .u8 m, .int .u8 kd, .float .f64 xd, .string sd, .int .i64 rd, .int .u8 ke, .float .f64 xe, .string se, .int .i64 re, .int .u8 kf, .float .f64 xf, .string sf, .int .i64 rf, .bool p', .bool q', .bool z'] 41)) := vafter (vzero _ _)
  obtain ⟨b1, b2⟩ := vblk2 (w := w) (Below.refl _ ((w.alloc (.cells #[.int .u8 h, .int .u8 ka, .float .f64 xa, .string sa, .int .i64 ra, .int .u8 kb, .float .f64 xb, .string sb, .int .i64 rb, .int .u8 kc, .float .f64 xc, .string sc, .int .i64 rc, .bool p, .bool q, .bool z] 41)).alloc (.cells #[.int .u8 m, .int .u8 kd, .float .f64 xd, .string sd, .int .i64 rd, .int .u8 ke, .float .f64 xe, .string se, .int .i64 re, .int .u8 kf, .float .f64 xf, .string sf, .int .i64 rf, .bool p', .bool q', .bool z'] 41)))
  have HH := Lib.hid hh
  have HM := Lib.hid hm
  clear hh hm
  have e1 := vcells b2 15
  cases z'
  rotate_left
  · go_enter Tryz.func103, Tryz.ntmps103
    go_wp2
    go_ret
    exact ⟨rfl, hB0⟩
  go_enter Tryz.func103, Tryz.ntmps103
  go_upto_region 3 with (fail)
  go_cut [8] from 5 to 36 (fun u wx => u = .bool (bd && na) ∧ wx.heap[w.heap.size]? = some (.cells #[.int .u8 h, .int .u8 ka, .float .f64 xa, .string sa, .int .i64 ra, .int .u8 kb, .float .f64 xb, .string sb, .int .i64 rb, .int .u8 kc, .float .f64 xc, .string sc, .int .i64 rc, .bool p, .bool q, .bool z] 41 (0, 0)) ∧ wx.heap[w.heap.size + 1]? = some (.cells #[.int .u8 m, .int .u8 kd, .float .f64 xd, .string sd, .int .i64 rd, .int .u8 ke, .float .f64 xe, .string se, .int .i64 re, .int .u8 kf, .float .f64 xf, .string sf, .int .i64 rf, .bool p', .bool q', .bool false] 41 (0, 0)) ∧ Below w.heap.size w wx)
  case first =>
    cases bd
    all_goals
      go_wp2_with (first | ((with_reducible refine d_load ?_ rfl rfl b1 ?_); (rfl)) | ((with_reducible refine d_load ?_ rfl rfl b2 ?_); (rfl)) | (go_at_call 12; (with_reducible refine (cd _).mono ?_); rintro e w1 ⟨rfl, h1⟩; have b1 := vblkn h1 b1; have b2 := vblkn h1 b2; have hB0 := vb hB0 h1) | (go_at_call 66; (with_reducible refine (ea _).mono ?_); rintro e w1 ⟨rfl, h1⟩; have b1 := vblkn h1 b1; have b2 := vblkn h1 b2; have hB0 := vb hB0 h1))
      go_meet
      case rel => exact ⟨rfl, b1, b2, hB0⟩
  case rest =>
  clear b1 b2 hB0 e1
  obtain ⟨rfl, b1, b2, hB0⟩ := hcut
  generalize hg3 : (bd && na) = g3
  have G3 := Lib.hid hg3
  clear hg3
  cases g3
  rotate_left
  · go_wp2
    go_ret
    exact ⟨dret (by rw [G3.out]; rfl), hB0⟩
  go_upto_region 4 with (fail)
  go_cut [8] from 5 to 36 (fun u wx => u = .bool (ba && nd) ∧ wx.heap[w.heap.size]? = some (.cells #[.int .u8 h, .int .u8 ka, .float .f64 xa, .string sa, .int .i64 ra, .int .u8 kb, .float .f64 xb, .string sb, .int .i64 rb, .int .u8 kc, .float .f64 xc, .string sc, .int .i64 rc, .bool p, .bool q, .bool z] 41 (0, 0)) ∧ wx.heap[w.heap.size + 1]? = some (.cells #[.int .u8 m, .int .u8 kd, .float .f64 xd, .string sd, .int .i64 rd, .int .u8 ke, .float .f64 xe, .string se, .int .i64 re, .int .u8 kf, .float .f64 xf, .string sf, .int .i64 rf, .bool p', .bool q', .bool false] 41 (0, 0)) ∧ Below w.heap.size w wx)
  case first =>
    cases ba
    all_goals
      go_wp2_with (first | ((with_reducible refine d_load ?_ rfl rfl b1 ?_); (rfl)) | ((with_reducible refine d_load ?_ rfl rfl b2 ?_); (rfl)) | (go_at_call 66; (with_reducible refine (ca _).mono ?_); rintro e w1 ⟨rfl, h1⟩; have b1 := vblkn h1 b1; have b2 := vblkn h1 b2; have hB0 := vb hB0 h1) | (go_at_call 12; (with_reducible refine (ed _).mono ?_); rintro e w1 ⟨rfl, h1⟩; have b1 := vblkn h1 b1; have b2 := vblkn h1 b2; have hB0 := vb hB0 h1))
      go_meet
      case rel => exact ⟨rfl, b1, b2, hB0⟩
  case rest =>
  clear b1 b2 hB0
  obtain ⟨rfl, b1, b2, hB0⟩ := hcut
  generalize hg4 : (ba && nd) = g4
  have G4 := Lib.hid hg4
  clear hg4
  cases g4
  rotate_left
  · go_wp2
    go_ret
    exact ⟨dret (by rw [G3.out, G4.out]; rfl), hB0⟩
  have e4 := vcells b2 13
  have e5 := vcells b1 0
  have f5 := vfz b1 0
  have e6 := vcells b2 0
  have f6 := vfz b2 0
  cases p'
  · have hh : h1 = h := HH.out
    have hm := HM.out
    clear HH HM
    rw [hh] at hm cs
    rw [hm] at cs
    clear hh hm
    go_upto_region 9 with (fail)
    have b2 : (World.setCell _ ⟨w.heap.size + 1, 0, none⟩ (.int .u8 (bits .and .u8 m h))).heap[w.heap.size + 1]? = some (.cells #[.int .u8 (bits .and .u8 m h), .int .u8 kd, .float .f64 xd, .string sd, .int .i64 rd, .int .u8 ke, .float .f64 xe, .string se, .int .i64 re, .int .u8 kf, .float .f64 xf, .string sf, .int .i64 rf, .bool false, .bool q', .bool false] 41 (0, 0)) := vset1 b2 0 _
    have b1 := vset1o (j := w.heap.size + 1) b1 (by omega) 0 (.int .u8 (bits .and .u8 m h))
    have hB0 := hB0.setCell (p := ⟨w.heap.size + 1, 0, none⟩) (Nat.le_succ _) (.int .u8 (bits .and .u8 m h))
    go_wp2_with (first | ((with_reducible refine d_load ?_ rfl rfl b1 ?_); (rfl)) | ((with_reducible refine d_load ?_ rfl rfl b2 ?_); (rfl)) | (go_at_call 13; (with_reducible refine (cs _).mono ?_); rintro e w1 ⟨rfl, h1⟩; have b1 := vblkn h1 b1; have b2 := vblkn h1 b2; have hB0 := vb hB0 h1))
    go_ret
    exact ⟨dret (by rw [G3.out, G4.out]; rfl), hB0⟩
  · have hh : h1 = bits .andNot .u8 h 3 := HH.out
    have hm := HM.out
    clear HH HM
    rw [hh] at hm cs
    rw [hm] at cs
    clear hh hm
    go_upto_region 9 with (fail)
    have b1 : (World.setCell _ ⟨w.heap.size, 0, none⟩ (.int .u8 (bits .andNot .u8 h 3))).heap[w.heap.size]? = some (.cells #[.int .u8 (bits .andNot .u8 h 3), .int .u8 ka, .float .f64 xa, .string sa, .int .i64 ra, .int .u8 kb, .float .f64 xb, .string sb, .int .i64 rb, .int .u8 kc, .float .f64 xc, .string sc, .int .i64 rc, .bool p, .bool q, .bool z] 41 (0, 0)) := vset1 b1 0 _
    have b2 := vset1o (j := w.heap.size) b2 (by omega) 0 (.int .u8 (bits .andNot .u8 h 3))
    have hB0 := hB0.setCell (p := ⟨w.heap.size, 0, none⟩) (Nat.le_refl _) (.int .u8 (bits .andNot .u8 h 3))
    have b2 : (World.setCell _ ⟨w.heap.size + 1, 0, none⟩ (.int .u8 (bits .and .u8 m (bits .andNot .u8 h 3)))).heap[w.heap.size + 1]? = some (.cells #[.int .u8 (bits .and .u8 m (bits .andNot .u8 h 3)), .int .u8 kd, .float .f64 xd, .string sd, .int .i64 rd, .int .u8 ke, .float .f64 xe, .string se, .int .i64 re, .int .u8 kf, .float .f64 xf, .string sf, .int .i64 rf, .bool true, .bool q', .bool false] 41 (0, 0)) := vset1 b2 0 _
    have b1 := vset1o (j := w.heap.size + 1) b1 (by omega) 0 (.int .u8 (bits .and .u8 m (bits .andNot .u8 h 3)))
    have hB0 := hB0.setCell (p := ⟨w.heap.size + 1, 0, none⟩) (Nat.le_succ _) (.int .u8 (bits .and .u8 m (bits .andNot .u8 h 3)))
    go_wp2_with (first | ((with_reducible refine d_load ?_ rfl rfl b1 ?_); (rfl)) | ((with_reducible refine d_load ?_ rfl rfl b2 ?_); (rfl)) | (go_at_call 13; (with_reducible refine (cs _).mono ?_); rintro e w1 ⟨rfl, h1⟩; have b1 := vblkn h1 b1; have b2 := vblkn h1 b2; have hB0 := vb hB0 h1))
    go_ret
    exact ⟨dret (by rw [G3.out, G4.out]; rfl), hB0⟩
end Go.Proofs.YtlfbflclefndjaaGreatDoor.S
/-
  Descriptors: changes, Compatible, Apply, Complete said of structures; a comparison with the zero one.
-/
namespace Go.Proofs.YtlfbflclefndjaaGreatDoor.S
open Go.RowKit Fl

theorem changes_q {d now : Dq} (g : Good d) (n : Good now) (w : World) : Calls Tryz.prog 103 #[d.val, now.val] w fun e w' => e = .returned (.bool (changesQ d now)) ∧ Below w.heap.size w w' := by
  obtain ⟨ka, kb, kc⟩ := good_kinds g
  obtain ⟨na, nb, nc⟩ := good_kinds n
  exact changes_x d.h (heldH d now) now.h (bits .and .u8 now.h (heldH d now)) d.a.k d.a.x d.a.s d.a.r d.b.k d.b.x d.b.s d.b.r d.c.k d.c.x d.c.s d.c.r now.a.k now.a.x now.a.s now.a.r now.b.k now.b.x now.b.s now.b.r now.c.k now.c.x now.c.s now.c.r d.p d.q d.z now.p now.q now.z rfl rfl
    (fun w => IsData_q d w) (fun w => IsAccess_q d w) (fun w => IsData_q now w) (fun w => IsAccess_q now w) (fun w => Same_q (a := { d with h := heldH d now }) (b := { now with h := bits .and .u8 now.h (heldH d now) }) ⟨ka, kb, kc⟩ ⟨na.1, nb.1, nc.1⟩ w) w
theorem compat_q {ext found : Bool} {d now : Dq} (hd : d.In) (hn : now.In) (w : World) : Calls Tryz.prog 90 #[.bool ext, d.val, .bool found, now.val] w fun e w' => e = .returned (.tuple #[.bool (compatQ ext d found now).1, .int .i64 (compatQ ext d found now).2]) ∧ Below w.heap.size w w' := by
  have h := Compatible_x ext found d.h now.h d.a.k d.a.x d.a.s d.a.r d.b.k d.b.x d.b.s d.b.r d.c.k d.c.x d.c.s d.c.r now.a.k now.a.x now.a.s now.a.r now.b.k now.b.x now.b.s now.b.r now.c.k now.c.x now.c.s now.c.r d.p d.q d.z now.p now.q now.z
    (ck := chkQ d) (wh := wholeQ now) (ch := changesQ d now) (fun w => Check_q hd w) (fun _ w => whole_q hn w) (fun h1 _ h3 w => changes_q (good_of hd h1) ((whole_iff hn).1 h3).1 w) w
  refine h.mono fun e w' ⟨he, hb⟩ => ⟨he.trans ?_, hb⟩
  unfold compatQ
  cases chkQ d <;> cases found <;> cases wholeQ now <;> rfl
theorem apply_q {ext found : Bool} {d now : Dq} (hd : d.In) (hn : now.In) (w : World) : Calls Tryz.prog 73 #[.bool ext, d.val, .bool found, now.val] w fun e w' => e = .returned (.tuple #[(applyQ ext d found now).val, .bool (compatQ ext d found now).1, .int .i64 (compatQ ext d found now).2]) ∧ Below w.heap.size w w' := by
  generalize hX : (bif !found then completeQ d else becomeQ d now) = X
  have h := Apply_x ext found d.h now.h X.h d.a.k d.a.x d.a.s d.a.r d.b.k d.b.x d.b.s d.b.r d.c.k d.c.x d.c.s d.c.r now.a.k now.a.x now.a.s now.a.r now.b.k now.b.x now.b.s now.b.r now.c.k now.c.x now.c.s now.c.r X.a.k X.a.x X.a.s X.a.r X.b.k X.b.x X.b.s X.b.r X.c.k X.c.x X.c.s X.c.r d.p d.q d.z now.p now.q now.z X.p X.q X.z
    (may := (compatQ ext d found now).1) (er := (compatQ ext d found now).2) (fun w => compat_q hd hn w)
    (fun hf w => by
      have := complete_q d w
      rw [show completeQ d = X by rw [← hX, hf]; rfl] at this
      exact this)
    (fun hf w => by
      have := become_q d now w
      rw [show becomeQ d now = X by rw [← hX, hf]; rfl] at this
      exact this)
    (fun hm => (came hd hn hm).2) w
  refine h.mono fun e w' ⟨h1, h2, hb⟩ => ⟨?_, hb⟩
  cases hm : (compatQ ext d found now).1 with
  | false =>
    have : applyQ ext d found now = dz 0 := by unfold applyQ; rw [hm]; rfl
    rw [h1 hm, this]
    rfl
  | true =>
    have : applyQ ext d found now = X := by rw [← hX]; unfold applyQ; rw [hm]; rfl
    rw [h2 hm, this, (came hd hn hm).2]
    rfl
/-- what comes out may come in -/
theorem ok_in {v : Vq} (h : v.Ok) : v.In := by
  obtain ⟨u, ok, e1, e2, _, e4⟩ := h
  obtain ⟨k0, k8⟩ := vok_kind ⟨u, ok, e1, e2, rfl, e4⟩
  refine ⟨k0, by omega, ?_, ?_⟩
  · rw [← e2]
    cases u with
    | boo x => rcases ok with rfl | rfl | rfl <;> simp only [Vl.fl] <;> omega
    | num x => obtain ⟨c, hc, _⟩ := ok; simp only [Vl.fl]; exact hc.lt
    | _ => simp only [Vl.fl]; omega
  · rw [← e4]
    cases u with
    | sym r => exact ok.2
    | obj k r => exact ok.2.2
    | _ => simp only [Vl.rf]; omega
section
variable {ops : Array Oper} {rest : List Oper} {o : Oper} {a : Act} {w : World} {Q : Exit → Act → World → Prop} {x y : Operand}
end
end Go.Proofs.YtlfbflclefndjaaGreatDoor.S
/-
  ordinary: what is left of a heap by an ask may be: the mathematics.
-/
namespace Go.Proofs.YtlfbflclefndjaaGreatDoor.S
open Go.RowKit Go.Lib Fl
open Classical

/-- may's error, whatever the method -/
noncomputable def withinB (H : List Ob) (d : Dq) : Bool := holdsB H d.a && (holdsB H d.b && holdsB H d.c)
noncomputable def mayD (H : List Ob) (a : Ak) : Int := orE (keyE a.k) (orE (errI (chkQ a.d)) (bif withinB H a.d then 0 else 9))
noncomputable def mayA (H : List Ob) (a : Ak) : Int := bif a.m == 6 then (bif inB H a.n && askK H a.n then mayD H a else 2) else mayE H a
theorem or_zero {x y : Int} (h : orE x y = 0) : x = 0 ∧ y = 0 := by
  unfold orE at h
  split at h
  · exact ⟨by assumption, h⟩
  · contradiction
/-- an ask that may be -/
structure MayAsk (H : List Ob) (k : Nat) (a : Ak) : Prop where
  e8 : eightM a.m = true
  n : a.n = k
  lt : k < H.length
  plain : plainK H[k].kind = true
  m2 : a.m = 2 → leadsV H a.v = true
  key : a.m = 5 ∨ a.m = 6 ∨ a.m = 10 → mayKy a.k
  m6 : a.m = 6 → chkQ a.d = true ∧ holdsB H a.d.a = true ∧ holdsB H a.d.b = true ∧ holdsB H a.d.c = true
theorem eight_six {m : Int} (h : m = 6) : eightM m = true := by subst h; rfl
theorem may_ask {H : List Ob} {a : Ak} (h : mayA H a = 0) : ∃ k, MayAsk H k a := by
  have one : inB H a.n = true → askK H a.n = true → ∃ k : Nat, a.n = k ∧ ∃ h : k < H.length, plainK H[k].kind = true := fun h1 h2 => by
    unfold inB at h1
    have h1 := of_decide_eq_true h1
    obtain ⟨k, hk⟩ := Int.eq_ofNat_of_zero_le h1.1
    have hlt : k < H.length := by omega
    refine ⟨k, hk, hlt, ?_⟩
    unfold askK at h2
    rw [hk, Int.toNat_natCast, List.getElem?_eq_getElem hlt] at h2
    exact h2
  unfold mayA at h
  by_cases c : a.m = 6
  · rw [beq_iff_eq.2 c] at h
    cases h1 : inB H a.n with
    | false => rw [h1] at h; exact absurd (show (2 : Int) = 0 from h) (by decide)
    | true =>
      cases h2 : askK H a.n with
      | false => rw [h1, h2] at h; exact absurd (show (2 : Int) = 0 from h) (by decide)
      | true =>
        rw [h1, h2] at h
        obtain ⟨k, hk, hlt, hp⟩ := one h1 h2
        obtain ⟨g1, g2⟩ := or_zero (show mayD H a = 0 from h)
        obtain ⟨g2, g3⟩ := or_zero g2
        refine ⟨k, eight_six c, hk, hlt, hp, fun e => by omega, fun _ => keyE_ok.1 g1, fun _ => ?_⟩
        have q2 : chkQ a.d = true := by
          cases e : chkQ a.d with
          | true => rfl
          | false => rw [e] at g2; exact absurd g2 (by decide)
        have q3 : withinB H a.d = true := by
          cases e : withinB H a.d with
          | true => rfl
          | false => rw [e] at g3; exact absurd g3 (by decide)
        unfold withinB at q3
        simp only [Bool.and_eq_true] at q3
        exact ⟨q2, q3⟩
  · rw [beq_eq_false_iff_ne.2 c] at h
    have h : mayE H a = 0 := h
    unfold mayE at h
    cases h8 : eightM a.m with
    | false => rw [h8] at h; exact absurd (show (2 : Int) = 0 from h) (by decide)
    | true =>
      cases h1 : inB H a.n with
      | false => rw [h8, h1] at h; exact absurd (show (2 : Int) = 0 from h) (by decide)
      | true =>
        cases h2 : askK H a.n with
        | false => rw [h8, h1, h2] at h; exact absurd (show (2 : Int) = 0 from h) (by decide)
        | true =>
          rw [h8, h1, h2] at h
          obtain ⟨k, hk, hlt, hp⟩ := one h1 h2
          simp only [Bool.and_self, cond_true] at h
          refine ⟨k, h8, hk, hlt, hp, fun e => ?_, fun e => ?_, fun e => absurd e c⟩
          · rw [e] at h
            cases hl : leadsV H a.v with
            | true => rfl
            | false => rw [hl] at h; exact absurd (show (9 : Int) = 0 from h) (by decide)
          · have e2 : (a.m == 5 || a.m == 10) = true := by
              rcases e with e | e | e
              · rw [e]; rfl
              · exact absurd e c
              · rw [e]; rfl
            rw [e2] at h
            exact keyE_ok.1 h
theorem holds_like {H M : List Ob} (h : M.map Ob.bare = H.map Ob.bare) : holdsB M = holdsB H := by rw [← holdsB_bare M, h, holdsB_bare]
theorem leads_like {H M : List Ob} (h : M.map Ob.bare = H.map Ob.bare) (v : Vq) : leadsV M v = leadsV H v := by unfold leadsV; rw [holds_like h]
theorem set_self {M : List Ob} {k : Nat} (hk : k < M.length) {p : Ob} (h : p = M[k]) : M.set k p = M := by rw [h, List.set_getElem_self]
theorem eight_ways {m : Int} (h : eightM m = true) : m = 1 ∨ m = 2 ∨ m = 3 ∨ m = 4 ∨ m = 5 ∨ m = 6 ∨ m = 10 ∨ m = 11 := by
  unfold eightM at h
  simpa only [Bool.or_eq_true, beq_iff_eq] using h
/-- what is defined is a property that may be -/
theorem def_ok {o : Ob} {a : Ak} (hd : a.d.In) (hn : (fndD o.props a.k).In) (hk : mayKy a.k) (h : (compatQ o.ext a.d (findT o.props a.k).isSome (fndD o.props a.k)).1 = true) :
    (⟨a.k, applyQ o.ext a.d (findT o.props a.k).isSome (fndD o.props a.k)⟩ : Pq).Ok ∧ (applyQ o.ext a.d (findT o.props a.k).isSome (fndD o.props a.k)).In := by
  obtain ⟨c, _⟩ := came hd hn h
  have hin : (applyQ o.ext a.d (findT o.props a.k).isSome (fndD o.props a.k)).In := by
    obtain ⟨h1, h2, h3⟩ := apply_all (P := Vq.In) (ok_in v0_ok) (ext := o.ext) (found := (findT o.props a.k).isSome) ⟨hd.a, hd.b, hd.c⟩ ⟨hn.a, hn.b, hn.c⟩
    exact ⟨by rcases c.h with e | e <;> omega, by rcases c.h with e | e <;> omega, h1, h2, h3⟩
  exact ⟨⟨hk, (whole_iff hin).2 ⟨c.g, c.h⟩⟩, hin⟩
theorem dz_in : (dz 0).In := ⟨by decide, by decide, ok_in v0_ok, ok_in v0_ok, ok_in v0_ok⟩
theorem fnd_in {L : List Pq} (h : ∀ p ∈ L, p.In) (k : Ky) : (fndD L k).In := by
  unfold fndD
  cases e : findT L k with
  | none => exact dz_in
  | some p =>
    unfold findT at e
    obtain ⟨hi, rfl⟩ := List.getElem?_eq_some_iff.1 e
    exact (h _ (List.getElem_mem hi)).2
theorem fnd_all {P : Vq → Prop} (h0 : P v0) {L : List Pq} (h : ∀ p ∈ L, P p.d.a ∧ P p.d.b ∧ P p.d.c) (k : Ky) : P (fndD L k).a ∧ P (fndD L k).b ∧ P (fndD L k).c := by
  unfold fndD
  cases e : findT L k with
  | none => exact ⟨h0, h0, h0⟩
  | some p =>
    unfold findT at e
    obtain ⟨hi, rfl⟩ := List.getElem?_eq_some_iff.1 e
    exact h _ (List.getElem_mem hi)
theorem step_may {H M : List Ob} {k : Nat} {a : Ak} {q : Oq} {p : Ob} {W : World} (hm : mayH H = true) (hl : M.map Ob.bare = H.map Ob.bare) (hk : k < M.length) (hA : MayAsk H k a) (hd : a.d.In) (hi : ∀ p ∈ M[k].props, p.In) (h : StepO H M[k] a q p W) : mayH (M.set k p) = true := by
  have hmM : mayH M = true := by rw [mayH_like hl, hm]
  have hkH := hA.lt
  have hp : plainK M[k].kind = true := by
    have := congrArg Ob.kind (bare_k hl hk hA.lt)
    rw [show M[k].kind = H[k].kind from this]
    exact hA.plain
  obtain ⟨_, hT, _, _, hv3⟩ := may_parts hmM hk
  have hh := holds_like hl
  rcases eight_ways hA.e8 with e | e | e | e | e | e | e | e
  · rw [set_self hk (h.m1 e).2]; exact hmM
  · obtain ⟨_, h2⟩ := h.m2 e
    rw [h2]
    split
    · rename_i hc
      simp only [Bool.and_eq_true, Bool.not_eq_true', decide_eq_false_iff_not] at hc
      refine mayH_under hmM hk hp (by rw [leads_like hl]; exact hA.m2 e) (fun hb => hc.2.2 ?_)
      rw [hA.n]
      exact bhd_like hl hb
    · rw [List.set_getElem_self]; exact hmM
  · rw [set_self hk (h.m3 e).2]; exact hmM
  · rw [(h.m4 e).2]
    exact mayH_as hmM hk hp false _ _ hT hv3
  · rw [set_self hk (h.m5 e).2]; exact hmM
  · have hD := h.m6 e
    cases c1 : (compatQ M[k].ext a.d (findT M[k].props a.k).isSome (fndD M[k].props a.k)).1 with
    | false => rw [set_self hk (hD.no c1).2]; exact hmM
    | true =>
      by_cases c2 : cutN M[k].props a.k = 1024
      · rw [set_self hk (hD.many c1 c2).2]; exact hmM
      · obtain ⟨_, A, c, _, rfl⟩ := hD.yes c1 c2
        obtain ⟨g1, _⟩ := def_ok hd (fnd_in hi a.k) (hA.key (.inr (.inl e))) c1
        refine mayH_as hmM hk hp _ _ _ (put_to hT g1 c2).ok fun x hx => ?_
        rcases mem_put hx with rfl | hx
        · rw [hh]
          rw [hh] at hv3
          exact apply_all (P := fun v => holdsB H v = true) (v0_holds H) (hA.m6 e).2 (fnd_all (P := fun v => holdsB H v = true) (v0_holds H) hv3 a.k)
        · exact hv3 x hx
  · have hD := h.m10 e
    by_cases c1 : (findT M[k].props a.k).isSome = true ∧ (fndD M[k].props a.k).z = false
    · rw [set_self hk (hD.no c1.1 c1.2).2]; exact hmM
    · obtain ⟨_, A, c, _, rfl⟩ := hD.yes (by
        cases e1 : (findT M[k].props a.k).isSome
        · exact .inl rfl
        · cases e2 : (fndD M[k].props a.k).z
          · exact absurd ⟨e1, e2⟩ c1
          · exact .inr rfl)
      exact mayH_as hmM hk hp _ _ _ (drop_to hT).ok fun x hx => hv3 x (mem_drop hx)
  · rw [set_self hk (h.m11 e).2]; exact hmM
end Go.Proofs.YtlfbflclefndjaaGreatDoor.S
