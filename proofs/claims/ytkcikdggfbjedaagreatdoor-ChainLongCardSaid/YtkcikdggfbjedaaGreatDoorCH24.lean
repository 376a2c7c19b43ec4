/-
  ordinary: kind, plain, eight, there.
-/
import Derived.Test.YtkcikdggfbjedaaGreatDoorCH20
import Derived.Test.YtkcikdggfbjedaaGreatDoorCH23
import Derived.Test.YtkcikdggfbjedaaGreatDoorCH15
namespace Go.Proofs.YtkcikdggfbjedaaGreatDoor.S
open Go.RowKit Go.Lib Fl
open Classical

def kindP (o : Ob) : Int := bif o.makes then 8 else bif o.calls then 7 else 6
def plainK (k : Int) : Bool := k == 1 || (k == 4 || k == 5)
def eightM (m : Int) : Bool := m == 1 || (m == 2 || (m == 3 || (m == 4 || (m == 5 || (m == 6 || (m == 10 || m == 11))))))
noncomputable def inB (H : List Ob) (n : Int) : Bool := decide (0 ≤ n ∧ n < (H.length : Int))
theorem kind_eq {H : List Ob} {o : Ob} {n : Nat} (h : mayB H o n = true) : kindP o = kindO o := by
  unfold mayB at h
  simp only [Bool.and_eq_true] at h
  have hf := h.2.2.2
  unfold fitsB at hf
  unfold kindP kindO
  cases e1 : o.calls <;> cases e2 : o.makes
  · rfl
  · exfalso
    have hk : kindO o = 0 := by unfold kindO; rw [e1, e2]; rfl
    rw [hk, e1] at hf
    cases k1 : o.kind == 1 <;> rw [k1] at hf
    · cases k2 : o.kind == 2 <;> rw [k2] at hf
      · cases k3 : o.kind == 3 <;> rw [k3] at hf
        · cases k4 : o.kind == 4 <;> rw [k4] at hf
          · cases k5 : o.kind == 5 <;> rw [k5] at hf
            · cases k6 : o.kind == 6 <;> rw [k6] at hf
              · exact absurd hf (by simp)
              · simp only [cond_true, cond_false, Bool.and_eq_true] at hf
                have hl := hf.2.2.2.2
                unfold leadsB at hl
                rw [hk] at hl
                cases c : (o.target.k == 1 && o.handler.k == 1) with
                | true => rw [c] at hl; exact absurd hl (by simp)
                | false =>
                  rw [c] at hl
                  simp only [cond_false, Bool.and_eq_true, beq_iff_eq] at hl
                  have ha := hl.1
                  unfold aheadB objQ at ha
                  rw [← hl.2.2] at ha
                  exact absurd ha (by simp)
            · exact absurd hf (by simp)
          · exact absurd hf (by simp)
        · exact absurd hf (by simp)
      · exact absurd hf (by simp)
    · exact absurd hf (by simp)
  · rfl
  · rfl
end Go.Proofs.YtkcikdggfbjedaaGreatDoor.S
/-
  ordinary: holds.
-/
namespace Go.Proofs.YtkcikdggfbjedaaGreatDoor.S
open Go.RowKit Go.Lib Fl
open Classical

end Go.Proofs.YtkcikdggfbjedaaGreatDoor.S
/-
  ordinary: leads, behind, Loops.
-/
namespace Go.Proofs.YtkcikdggfbjedaaGreatDoor.S
open Go.RowKit Go.Lib Fl
open Classical

noncomputable def leadsV (H : List Ob) (v : Vq) : Bool := (v.k == 1 || objQ v) && holdsB H v
/-- the object n stands behind a value -/
inductive Bhd (H : List Ob) (n : Int) : Vq → Prop where
  | here {v : Vq} : objQ v = true → v.r = n → Bhd H n v
  | next {v : Vq} {o : Ob} : objQ v = true → H[v.r.toNat]? = some o → Bhd H n o.proto → Bhd H n v
/-- a line ends within f steps -/
def Fu (H : List Ob) : Nat → Vq → Prop
  | 0, v => objQ v = false
  | f + 1, v => objQ v = true → ∀ o, H[v.r.toNat]? = some o → Fu H f o.proto
/-- a value that may be asked about -/
def OkV (H : List Ob) (v : Vq) : Prop := objQ v = true → ∃ m : Nat, v.r = m ∧ m < H.length
theorem vok_holds {H : List Ob} {v : Vq} (h : holdsB H v = true) : OkV H v := fun ho => by
  obtain ⟨m, hm⟩ := Int.eq_ofNat_of_zero_le (holds_ref h ho)
  refine ⟨m, hm, ?_⟩
  unfold holdsB at h
  rw [Bool.and_eq_true, ho, Bool.not_true, Bool.false_or] at h
  have hr := h.2
  unfold refB at hr
  rw [hm, Int.toNat_natCast] at hr
  cases e2 : H[m]? with
  | none => rw [e2] at hr; cases hr
  | some u => exact (List.getElem?_eq_some_iff.1 e2).1
def LoopsTo (H : List Ob) (n : Int) (v : Vq) (w : World) (e : Ending) (w' : World) : Prop := Below w.heap.size w w' ∧ e = .returned (.tuple #[.bool (bif chkH H == 0 && (inB H n && leadsV H v) then decide (Bhd H n v) else false), .int .i64 (bif chkH H == 0 then (bif inB H n then (bif leadsV H v then 0 else 9) else 2) else chkH H)])
end Go.Proofs.YtkcikdggfbjedaaGreatDoor.S
/-
  One object of a heap changed: the heap still may be: the mathematics.
-/
namespace Go.Proofs.YtkcikdggfbjedaaGreatDoor.S
open Go.RowKit Go.Lib Fl
open Classical

theorem ref_set {H : List Ob} {k : Nat} {p : Ob} (v : Vq) (hk : k < H.length) (e : kindO p = kindO H[k]) : refB (H.set k p) v = refB H v := by
  unfold refB
  rw [List.getElem?_set]
  by_cases c : k = v.r.toNat
  · rw [if_pos c, if_pos hk, ← c, List.getElem?_eq_getElem hk]
    dsimp only
    rw [e]
  · rw [if_neg c]
theorem holds_set {H : List Ob} {k : Nat} {p : Ob} (hk : k < H.length) (e : kindO p = kindO H[k]) : holdsB (H.set k p) = holdsB H := funext fun v => by
  unfold holdsB
  rw [ref_set v hk e]
theorem prox_set {H : List Ob} {k : Nat} {p : Ob} (v : Vq) (hk : k < H.length) (e : p.kind = H[k].kind) : proxB (H.set k p) v = proxB H v := by
  unfold proxB
  rw [List.getElem?_set]
  by_cases c : k = v.r.toNat
  · rw [if_pos c, if_pos hk, ← c, List.getElem?_eq_getElem hk]
    dsimp only
    rw [e]
  · rw [if_neg c]
theorem may_set {H : List Ob} {k : Nat} {p : Ob} (o : Ob) (n : Nat) (hk : k < H.length) (e : kindO p = kindO H[k]) (f : p.kind = H[k].kind) : mayB (H.set k p) o n = mayB H o n := by
  unfold mayB
  rw [holds_set hk e]
  unfold fitsB revokesB
  rw [prox_set _ hk f]
theorem mayH_set {H : List Ob} {k : Nat} {p : Ob} (h : mayH H = true) (hk : k < H.length) (e : kindO p = kindO H[k]) (f : p.kind = H[k].kind) (hp : mayB H p k = true) (hl : loopsB (H.set k p) = false) : mayH (H.set k p) = true := by
  obtain ⟨a, b, _⟩ := mayH_iff.1 h
  refine mayH_iff.2 ⟨by simpa using a, fun i hi => ?_, hl⟩
  rw [may_set _ _ hk e f]
  have hi2 : i < H.length := by simpa using hi
  by_cases c : k = i
  · subst c
    rw [List.getElem_set_self]
    exact hp
  · rw [List.getElem_set_ne c]
    exact b i hi2
theorem next_set {H : List Ob} {k : Nat} {p : Ob} (q : Nat) (hq : k ≠ q) : nextO (H.set k p) q = nextO H q := by
  unfold nextO
  rw [List.getElem?_set, if_neg hq]
theorem next_at {H : List Ob} {k : Nat} {p : Ob} (hk : k < H.length) : nextO (H.set k p) k = bif objQ p.proto then some p.proto.r.toNat else none := by
  unfold nextO
  rw [List.getElem?_set, if_pos rfl, if_pos hk]
theorem next_same {H : List Ob} {k : Nat} {p : Ob} (hk : k < H.length) (e : p.proto = H[k].proto) (q : Nat) : nextO (H.set k p) q = nextO H q := by
  by_cases c : k = q
  · subst c
    rw [next_at hk, e]
    unfold nextO
    rw [List.getElem?_eq_getElem hk]
  · exact next_set q c
theorem ends_like {H M : List Ob} (h : ∀ q, nextO M q = nextO H q) {p : Nat} (hp : Ends H p) : Ends M p := by
  induction hp with
  | mk _ ih => exact .mk fun q hq => ih q (by rw [← h]; exact hq)
theorem loops_same {H : List Ob} {k : Nat} {p : Ob} (hk : k < H.length) (e : p.proto = H[k].proto) (h : loopsB H = false) : loopsB (H.set k p) = false :=
  (loops_ends _).2 fun q => ends_like (next_same hk e) (ends_all h q)
/-- an object with all that its kind does not ask for changed -/
def Ob.as (o : Ob) (v : Vq) (x : Bool) (a : Option Addr) (c : Nat) (L : List Pq) : Ob := ⟨o.kind, v, x, a, c, L, o.target, o.handler, o.text, o.calls, o.makes⟩
/-- what a heap that may be says of one of its objects -/
theorem may_parts {H : List Ob} {k : Nat} (h : mayH H = true) (hk : k < H.length) : mayB H H[k] k = true ∧ TabOk H[k].props ∧ (objQ H[k].proto || H[k].proto.k == 1) = true ∧ holdsB H H[k].proto = true ∧ ∀ p ∈ H[k].props, holdsB H p.d.a = true ∧ holdsB H p.d.b = true ∧ holdsB H p.d.c = true := by
  have hb := (mayH_iff.1 h).2.1 k hk
  have hb2 := hb
  unfold mayB at hb2
  simp only [Bool.and_eq_true] at hb2
  refine ⟨hb, chkT_ok.1 (beq_iff_eq.1 hb2.1), hb2.2.1, may_holds hb (vm_p _), fun p hp => ?_⟩
  have hm : ∀ v ∈ [p.d.a, p.d.b, p.d.c], v ∈ valsO H[k] := fun v hv => by
    unfold valsO
    exact List.mem_append_right _ (List.mem_flatMap.2 ⟨p, hp, hv⟩)
  exact ⟨may_holds hb (hm _ (by simp)), may_holds hb (hm _ (by simp)), may_holds hb (hm _ (by simp))⟩
end Go.Proofs.YtkcikdggfbjedaaGreatDoor.S
