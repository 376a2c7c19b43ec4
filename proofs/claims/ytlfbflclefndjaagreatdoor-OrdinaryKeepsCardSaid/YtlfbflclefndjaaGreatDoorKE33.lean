/-
  OrdinaryKeeps: the walk, whatever comes in.
-/
import Derived.Test.YtlfbflclefndjaaGreatDoorKE32
import Derived.Test.YtlfbflclefndjaaGreatDoorKE22
import Derived.Test.YtlfbflclefndjaaGreatDoorKE31
namespace Go.Proofs.YtlfbflclefndjaaGreatDoor.S
open Go.RowKit Go.Lib Fl
open Classical

theorem OrdinaryKeeps_walk (A : Option Addr) (H : List Ob) (cap : Nat) (n : Int) (ky : Ky) (A3 : Option Addr) (L : List Ak) (cap3 : Nat) (w : World) (hH : HIn0 w A H cap) (hky : KyIn ky) (hL : RAk w A3 L) (hLi : ∀ a ∈ L, a.In) (hlc : L.length ≤ cap3) (hcm : cap3 ≤ maxLen) (htab : TabHere w) :
    Calls Tryz.prog 3 #[.agg #[.slice A H.length cap], .int .i64 n, .agg #[.string ky.str, .int .i64 ky.sym], .slice A3 L.length cap3] w fun e w' => e = .returned (.bool true) ∧ Below w.heap.size w w' := by
  show Calls Tryz.prog 3 #[.agg #[.slice A H.length cap], .int .i64 n, .agg #[.string ky.str, .int .i64 ky.sym], .slice A3 L.length cap3] w (KeepsTo w)
  by_cases hm : (60 < H.length ∧ H.length ≤ 4096) ∨ 5000 < H.length
  · exact keeps_large A H cap n ky _ w hH htab (.inl hm)
  · cases hl : lg12 H with
    | true => exact keeps_large A H cap n ky _ w hH htab (.inr hl)
    | false =>
      by_cases hz : chkH H = 0
      · by_cases hof : ofE H n = 0
        · by_cases hE : doE H (akq 5 n ky (dz 0) v0) = 0
          · obtain ⟨_, k, hA⟩ := do_ask hE
            have hn : n = (k : Int) := hA.n
            subst hn
            have h63 : L.length ≤ 9223372036854775807 := by unfold maxLen at hcm; omega
            exact keeps_main A H cap k ky A3 L cap3 w hH htab hky hL hLi hm hl hz hof hE h63
          · exact keeps_not A H cap n ky _ w hH htab hky hm hl hz (.inr hE)
        · exact keeps_not A H cap n ky _ w hH htab hky hm hl hz (.inl hof)
      · exact keeps_check A H cap n ky _ w hH htab hm hl hz
end Go.Proofs.YtlfbflclefndjaaGreatDoor.S
/-
  A heap that comes in, opened: the whole.
-/
namespace Go.Proofs.YtlfbflclefndjaaGreatDoor.S
open Go.ChangeShapes Go.WideShapes Go.Deep Go.RowKit Fl

section
variable {H : Type} {enc : TypeId × Value → H} {w : World} {base : Nat}
theorem oblist_of {n : Nat} {Q : Nat → Ob → Prop} (h : ∀ i, i < n → ∃ t, Q i t) : ∃ l : List Ob, l.length = n ∧ ∀ (i : Nat) (hi : i < l.length), Q i l[i] := by
  induction n with
  | zero => exact ⟨[], rfl, fun i hi => by simp at hi⟩
  | succ n ih =>
    obtain ⟨l, hl, hq⟩ := ih fun i hi => h i (by omega)
    obtain ⟨t, ht⟩ := h n (by omega)
    refine ⟨l ++ [t], by simp [hl], fun i hi => ?_⟩
    by_cases c : i < l.length
    · rw [List.getElem_append_left c]; exact hq i c
    · have e : i = l.length := by simp at hi; omega
      subst e
      rw [List.getElem_append_right (Nat.le_refl _)]
      simp only [Nat.sub_self, List.getElem_singleton]
      rw [hl]; exact ht
set_option maxRecDepth 100000 in
theorem oopen_one {a : Addr} {n : Nat} {cs : List Value} {x : DataW H × List MemPlace} (hc : w.cells? 0 a 18 = some cs) (ht : DataW.trod enc Tryz.prog w 0 (fun _ => true) true n 37 cs = some x) : ∃ o : Ob, o.In ∧ PR w o.pa o.props ∧ OF w a o := by
  obtain ⟨_, hl, hat⟩ := World.cells?_some hc
  obtain ⟨o, rfl, ho, hp⟩ := oopen_cells hl ht
  have h0 := hat 0 (by omega)
  refine ⟨o, ho, hp, of_cells ?_ fun j u hu => ?_⟩
  · have := klt_of_cell h0
    rw [kblock_add] at this
    exact this
  · have hj : j < 18 := by have := (List.getElem?_eq_some_iff.1 hu).1; rw [ocl_len] at this; exact this
    rw [hat j hj]
    have := (List.getElem?_eq_some_iff.1 hu).2
    simp [← this]
set_option maxRecDepth 100000 in
/-- a heap that comes in -/
theorem open_heap {v : Value} {d : DataW H} {p : List MemPlace} (hv : Value.okWide Tryz.prog w .any base 24 v) (h : DataW.Trod enc Tryz.prog w 0 (fun _ => true) true 24 v d p) :
    ∃ (A : Option Addr) (l : List Ob) (cap : Nat), v = .agg #[.slice A l.length cap] ∧ HIn0 w A l cap := by
  obtain ⟨cs, rfl, hsz⟩ := okWide_struct Tryz.underlying24 hv
  obtain ⟨fuel, hf⟩ := h
  have hcell1 : Tryz.prog.cellsOf 24 = 1 := by kernel_rfl
  have hcell2 : Tryz.prog.cellsOf 22 = 1 := by kernel_rfl
  have hcell : Tryz.prog.cellsOf 37 = 18 := by kernel_rfl
  rw [hcell1] at hsz
  have hf : DataW.trod enc Tryz.prog w 0 (fun _ => true) true fuel 24 cs.toList = some (d, p) := hf
  obtain ⟨xs, m0, _, _, _, hxl, hf2⟩ := DataW.trod_struct Tryz.underlying24 hf
  obtain ⟨c0, hc0⟩ : ∃ c0, cs.toList = [c0] := List.length_eq_one_iff.1 (by simpa using hsz)
  have hcs : cs = #[c0] := by apply Array.toList_inj.1; rw [hc0]
  subst hcs
  match xs, hxl with
  | [y0], _ =>
    have h0 : DataW.trod enc Tryz.prog w 0 (fun _ => true) true m0 22 (([c0].drop 0).take (Tryz.prog.cellsOf 22)) = some y0 := hf2 0 _ rfl
    rw [hcell2] at h0
    have h0 : DataW.trod enc Tryz.prog w 0 (fun _ => true) true m0 22 [c0] = some y0 := h0
    rcases open_slice Tryz.underlying22 h0 with ⟨h1, _⟩ | ⟨a, len', cap', m, n, D, Pl, hcs, _, hl, hm, hmm, _, hi⟩
    · have h1 : [c0] = [.slice none 0 0] := h1
      injection h1 with h1
      subst h1
      exact ⟨none, [], 0, rfl, (fun o ho => by cases ho), (fun hp => absurd hp (Nat.lt_irrefl 0)), Nat.le_refl _, (by decide), fun _ => rfl⟩
    · have hcs : [c0] = [.slice (some a) len' cap'] := hcs
      injection hcs with hcs
      subst hcs
      rw [if_pos rfl] at hmm
      subst hmm
      obtain ⟨l, hll, hq⟩ := oblist_of (n := len') (Q := fun i k => k.In ∧ PR w k.pa k.props ∧ OF w (a.add (i * 18)) k) fun i hilt => by
        obtain ⟨cs', hc, ht⟩ := hi i (by omega)
        rw [hcell] at hc
        exact oopen_one hc ht
      refine ⟨some a, l, _, by rw [hll], fun t ht => ?_, fun hpos => ?_, by omega, by unfold maxLen at *; omega, fun h => by cases h⟩
      · obtain ⟨i, hi'⟩ := List.getElem?_of_mem ht
        obtain ⟨hlt, he⟩ := List.getElem?_eq_some_iff.1 hi'
        rw [← he]; exact (hq i hlt).1
      · have hb := (hq 0 hpos).2.2.lt
        rw [kblock_add] at hb
        exact ⟨a, rfl, hb, fun i hi' => ⟨(hq i hi').2.2, (hq i hi').2.1⟩⟩
end
end Go.Proofs.YtlfbflclefndjaaGreatDoor.S
