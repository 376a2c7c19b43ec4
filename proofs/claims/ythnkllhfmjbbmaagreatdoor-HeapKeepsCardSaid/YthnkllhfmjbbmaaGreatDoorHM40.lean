/-
  TableNames: the five properties, their order, what Drop makes of them; a property made.
-/
import Derived.Test.YthnkllhfmjbbmaaGreatDoorHM28
import Derived.Test.YthnkllhfmjbbmaaGreatDoorHM39
namespace Go.Proofs.YthnkllhfmjbbmaaGreatDoor.S
open Go.RowKit Go.Lib Fl
open Classical

def q1 : Pq := pN (⟨#[98]⟩ : ByteArray) 0 4607182418800017408
def q2 : Pq := pN (⟨#[50]⟩ : ByteArray) 0 4611686018427387904
def q3 : Pq := pN ⟨#[]⟩ 1 4613937818241073152
def q4 : Pq := pN (⟨#[49]⟩ : ByteArray) 0 4616189618054758400
def q5 : Pq := pN (⟨#[97]⟩ : ByteArray) 0 4617315517961601024
def L5 : List Pq := [q1, q2, q3, q4, q5]
theorem n2_ok : (⟨3, 4611686018427387904, ⟨#[]⟩, 0⟩ : Vq).Ok := ⟨.num 4611686018427387904, ⟨.ours 2, ⟨by decide, by unfold SafeN; omega⟩, rfl⟩, rfl, rfl, rfl, rfl⟩
theorem n3_ok : (⟨3, 4613937818241073152, ⟨#[]⟩, 0⟩ : Vq).Ok := ⟨.num 4613937818241073152, ⟨.ours 3, ⟨by decide, by unfold SafeN; omega⟩, rfl⟩, rfl, rfl, rfl, rfl⟩
theorem n4_ok : (⟨3, 4616189618054758400, ⟨#[]⟩, 0⟩ : Vq).Ok := ⟨.num 4616189618054758400, ⟨.ours 4, ⟨by decide, by unfold SafeN; omega⟩, rfl⟩, rfl, rfl, rfl, rfl⟩
theorem n5_ok : (⟨3, 4617315517961601024, ⟨#[]⟩, 0⟩ : Vq).Ok := ⟨.num 4617315517961601024, ⟨.ours 5, ⟨by decide, by unfold SafeN; omega⟩, rfl⟩, rfl, rfl, rfl, rfl⟩
theorem q_ok : q1.Ok ∧ q2.Ok ∧ q3.Ok ∧ q4.Ok ∧ q5.Ok :=
  ⟨pN_ok (by decide) (by decide) (fun h => absurd h (by decide)) one_ok2, pN_ok (by decide) (by decide) (fun h => absurd h (by decide)) n2_ok, pN_ok (by decide) (by decide) (fun _ => rfl) n3_ok, pN_ok (by decide) (by decide) (fun h => absurd h (by decide)) n4_ok, pN_ok (by decide) (by decide) (fun h => absurd h (by decide)) n5_ok⟩
theorem q_in : ∀ p ∈ L5, p.In := by
  intro p hp
  simp only [L5, List.mem_cons, List.not_mem_nil, or_false] at hp
  rcases hp with rfl | rfl | rfl | rfl | rfl
  · exact pN_in (by decide) (by decide) one_ok2
  · exact pN_in (by decide) (by decide) n2_ok
  · exact pN_in (by decide) (by decide) n3_ok
  · exact pN_in (by decide) (by decide) n4_ok
  · exact pN_in (by decide) (by decide) n5_ok
theorem tab5 : TabOk L5 := by
  refine ⟨by decide, ?_, ?_⟩
  · intro p hp
    simp only [L5, List.mem_cons, List.not_mem_nil, or_false] at hp
    obtain ⟨a, b, c, d, e⟩ := q_ok
    rcases hp with rfl | rfl | rfl | rfl | rfl <;> assumption
  · have ne : ∀ a b : Ky, eqK a b = false → a ≠ b := fun a b h e => by rw [eqK_iff.2 e] at h; cases h
    refine List.pairwise_cons.2 ⟨fun b hb => ?_, List.pairwise_cons.2 ⟨fun b hb => ?_, List.pairwise_cons.2 ⟨fun b hb => ?_, List.pairwise_cons.2 ⟨fun b hb => ?_, List.pairwise_singleton _ _⟩⟩⟩⟩
    all_goals
      simp only [List.mem_cons, List.not_mem_nil, or_false] at hb
      rcases hb with rfl | rfl | rfl | rfl <;> exact ne _ _ rfl
end Go.Proofs.YthnkllhfmjbbmaaGreatDoor.S
/-
  TableNames: the order of the five keys, and the three lists that may not be.
-/
namespace Go.Proofs.YthnkllhfmjbbmaaGreatDoor.S
open Go.RowKit Go.Lib Fl
open Classical

def M5 : List Ky := [⟨(⟨#[49]⟩ : ByteArray), 0⟩, ⟨(⟨#[50]⟩ : ByteArray), 0⟩, ⟨(⟨#[98]⟩ : ByteArray), 0⟩, ⟨(⟨#[97]⟩ : ByteArray), 0⟩, ⟨⟨#[]⟩, 1⟩]
theorem rk_1 : rkKy ⟨(⟨#[49]⟩ : ByteArray), 0⟩ = 1 := by kernel_rfl
theorem rk_2 : rkKy ⟨(⟨#[50]⟩ : ByteArray), 0⟩ = 2 := by kernel_rfl
theorem rk_b : rkKy ⟨(⟨#[98]⟩ : ByteArray), 0⟩ = 1024 := by kernel_rfl
theorem rk_a : rkKy ⟨(⟨#[97]⟩ : ByteArray), 0⟩ = 1024 := by kernel_rfl
theorem rk_s : rkKy ⟨⟨#[]⟩, 1⟩ = 1025 := by kernel_rfl
theorem ord5 : OrdOf (keysL L5) M5 := by
  have e : keysL L5 = [⟨(⟨#[98]⟩ : ByteArray), 0⟩, ⟨(⟨#[50]⟩ : ByteArray), 0⟩, ⟨⟨#[]⟩, 1⟩, ⟨(⟨#[49]⟩ : ByteArray), 0⟩, ⟨(⟨#[97]⟩ : ByteArray), 0⟩] := rfl
  rw [e]
  refine ⟨?_, fun r => ?_, rfl⟩
  · unfold M5
    simp [rk_1, rk_2, rk_b, rk_a, rk_s]
  · unfold M5
    simp only [List.filter_cons, List.filter_nil, rk_1, rk_2, rk_b, rk_a, rk_s]
    by_cases c1 : 1 = r
    · subst c1; rfl
    · by_cases c2 : 2 = r
      · subst c2; rfl
      · by_cases c3 : 1024 = r
        · subst c3; rfl
        · by_cases c4 : 1025 = r
          · subst c4; rfl
          · simp [c1, c2, c3, c4]
def twA : List Pq := [pN (⟨#[97]⟩ : ByteArray) 0 4607182418800017408, pN (⟨#[97]⟩ : ByteArray) 0 4611686018427387904]
theorem chk_tw : chkT twA = 100 := by
  have h1 : mayT (pN (⟨#[97]⟩ : ByteArray) 0 4607182418800017408) = 0 := mayT_ok.2 (pN_ok (by decide) (by decide) (fun h => absurd h (by decide)) one_ok2)
  have h2 : mayT (pN (⟨#[97]⟩ : ByteArray) 0 4611686018427387904) = 0 := mayT_ok.2 (pN_ok (by decide) (by decide) (fun h => absurd h (by decide)) n2_ok)
  unfold chkT twA
  rw [if_neg (by decide)]
  unfold chkL
  rw [if_pos h1]
  show (bif false then (100 : Int) else chkL [pN (⟨#[97]⟩ : ByteArray) 0 4607182418800017408] [pN (⟨#[97]⟩ : ByteArray) 0 4611686018427387904]) = 100
  show chkL [pN (⟨#[97]⟩ : ByteArray) 0 4607182418800017408] [pN (⟨#[97]⟩ : ByteArray) 0 4611686018427387904] = 100
  unfold chkL
  rw [if_pos h2]
  rfl
def onA : List Pq := [⟨⟨(⟨#[97]⟩ : ByteArray), 0⟩, ⟨1, v0, v0, v0, false, false, false⟩⟩]
theorem chk_on : chkT onA = 90 := by
  have hk : mayKy (⟨(⟨#[97]⟩ : ByteArray), 0⟩ : Ky) := ⟨by decide, by decide, fun h => absurd h (by decide)⟩
  have hw : wholeQ (⟨1, v0, v0, v0, false, false, false⟩ : Dq) ≠ true := fun h => by
    unfold wholeQ at h
    simp at h
  have hm : mayT ⟨⟨(⟨#[97]⟩ : ByteArray), 0⟩, ⟨1, v0, v0, v0, false, false, false⟩⟩ = 90 := by
    unfold mayT
    rw [if_pos hk, if_neg hw]
  unfold chkT onA
  rw [if_neg (by decide)]
  unfold chkL
  rw [hm]
  rfl
def noS : List Pq := [⟨⟨⟨#[]⟩, -1⟩, dz 0⟩]
theorem chk_no : chkT noS = 9 := by
  have hk : ¬ mayKy (⟨⟨#[]⟩, -1⟩ : Ky) := fun h => absurd h.1 (by decide)
  have hm : mayT ⟨⟨⟨#[]⟩, -1⟩, dz 0⟩ = 9 := by
    unfold mayT
    rw [if_neg hk]
  unfold chkT noS
  rw [if_neg (by decide)]
  unfold chkL
  rw [hm]
  rfl
/-- the blocks of such lists -/
theorem pr_blk {w : World} {g : Nat} {L : List Pq} (h : w.heap[g]? = some (.cells (prCells L).toArray 93 (0, 0))) : PR w (some ⟨g, 0, none⟩) L := fun _ => by
  refine ⟨_, rfl, lt_blk h, fun i hi j u hu => ?_⟩
  have hj : j < 18 := by have := (List.getElem?_eq_some_iff.1 hu).1; rw [pcl_len] at this; exact this
  rw [Addr.add_mid, Nat.zero_add, vcells h, ← hu, ← prCells_at L i hi j hj]
  simp
theorem tab_blk {w : World} {g : Nat} {L : List Pq} {c : Nat} (h : w.heap[g]? = some (.cells (prCells L).toArray 93 (0, 0))) (ok : TabOk L) (hin : ∀ p ∈ L, p.In) (hc : c = L.length) : TabIn w (some ⟨g, 0, none⟩) L c :=
  ⟨ok, hin, pr_blk h, by omega, by have := ok.len; omega, fun e => by cases e⟩
end Go.Proofs.YthnkllhfmjbbmaaGreatDoor.S
/-
  TableNames: prop: the usual property of a number.
-/
namespace Go.Proofs.YthnkllhfmjbbmaaGreatDoor.S
open Go.RowKit Go.Lib Fl
open Classical

theorem p_end {f : Func} {i : Nat} {t : TypeId} {Q : Ending → World → Prop} {tmps : Array Value} {W : World} {g : Nat} {p : Pq} (hf : f.results = #[.cell i 93]) (h2 : tmps.getD i undef = .pointer (some ⟨g, 0, none⟩)) (hb : W.heap[g]? = some (.cells (prA p) t (0, 0)))
    (hQ : Q (.returned (.agg (prA p))) W) : bodyPost Tryz.prog f Q .ret { tmps := tmps, defers := [] } W :=
  bodyPost_ret (results_cell_row hf tmps W g t _ (0, 0) _ h2 hb Tryz.underlying93 rfl psz) rfl hQ
theorem f_1 : floatOfInt FloatKind.f64 1 = 4607182418800017408 := by kernel_rfl
theorem f_2 : floatOfInt FloatKind.f64 2 = 4611686018427387904 := by kernel_rfl
theorem f_4 : floatOfInt FloatKind.f64 4 = 4616189618054758400 := by kernel_rfl
theorem f_5 : floatOfInt FloatKind.f64 5 = 4617315517961601024 := by kernel_rfl
end Go.Proofs.YthnkllhfmjbbmaaGreatDoor.S
/-
  heap.Twin: a heap in memory of its own.
-/
namespace Go.Proofs.YthnkllhfmjbbmaaGreatDoor.S
open Go.RowKit Go.Lib Fl
open Classical

theorem hsz : (Tryz.prog.info? 24).map (·.size) = some 1 := by kernel_rfl
theorem h_end {f : Func} {i : Nat} {t : TypeId} {Q : Ending → World → Prop} {tmps : Array Value} {W : World} {g : Nat} {v : Value} (hf : f.results = #[.cell i 24]) (h2 : tmps.getD i undef = .pointer (some ⟨g, 0, none⟩)) (hb : W.heap[g]? = some (.cells #[v] t (0, 0)))
    (hQ : Q (.returned (.agg #[v])) W) : bodyPost Tryz.prog f Q .ret { tmps := tmps, defers := [] } W :=
  bodyPost_ret (results_cell_row hf tmps W g t _ (0, 0) _ h2 hb Tryz.underlying24 rfl hsz) rfl hQ
theorem hrow_r18 {w : World} {A : Option Addr} {H : List Ob} (h : HRow w A H) : R18 w A H.length (hcl H) := by
  refine ⟨hcl_len H, hcl_one H, fun hp => ?_⟩
  obtain ⟨a, rfl, _, hc⟩ := h hp
  refine ⟨a, rfl, fun j v hv => ?_⟩
  have hj : j < H.length * 18 := by have := (List.getElem?_eq_some_iff.1 hv).1; rw [hcl_len] at this; exact this
  have e : j = j / 18 * 18 + j % 18 := by omega
  rw [e, hcl_at H (j / 18) (by omega) (j % 18) (by omega)] at hv
  have := of_back (hc (j / 18) (by omega)).1 (j % 18) v hv
  rw [add_add] at this
  rw [e]
  exact this
/-- a heap in new memory: its objects in block B, their properties in blocks behind it -/
structure Tw (n0 B : Nat) (H M : List Ob) (W : World) : Prop where
  len : M.length = H.length
  all : ∀ j (h : j < M.length) (h' : j < H.length), Parted (B + 1) M[j] H[j] W
  b : W.heap[B]? = some (.cells (hcl M).toArray 34 (0, 0))
  le : n0 ≤ B
theorem Tw.up {n0 B : Nat} {H M : List Ob} {W W' : World} (h : Tw n0 B H M W) (hb : Below W.heap.size W W') : Tw n0 B H M W' := ⟨h.len, fun j h1 h2 => (h.all j h1 h2).up hb, vblkn hb h.b, h.le⟩
theorem tw_of {w W : World} {n0 B : Nat} {H M : List Ob} (h : Pt w B H H.length M W) (hw : B < w.heap.size) (hB : n0 ≤ B) : Tw n0 B H M W :=
  ⟨h.len, fun j h1 h2 => by obtain ⟨g, g1, g2, g3⟩ := (h.done j h1 h2 h2).out; exact ⟨g, by omega, g2, g3⟩, h.b, hB⟩
theorem Tw.other {n0 B r : Nat} {H M : List Ob} {W W' : World} (h : Tw n0 B H M W) (hO : ∀ j, j ≠ r → W'.heap[j]? = W.heap[j]?) (hr : r < B) : Tw n0 B H M W' :=
  ⟨h.len, fun j h1 h2 => by obtain ⟨g, g1, g2, g3⟩ := (h.all j h1 h2).out; exact ⟨g, g1, g2, (hO g (by omega)).trans g3⟩, (hO B (by omega)).trans h.b, h.le⟩
theorem ptin_of {w W : World} {A : Option Addr} {H : List Ob} {cap B : Nat} (hH : HIn w A H cap) (hp : ∀ o ∈ H, o.props.length ≤ 100000) (hb : Below w.heap.size w W) (hB : w.heap.size ≤ B) (hgb : W.heap[B]? = some (.cells (hcl H).toArray 34 (0, 0))) : PtIn W B H := by
  refine ⟨lt_blk hgb, hgb, fun i hi => ⟨fun hpos => ?_, hp _ (List.getElem_mem hi)⟩, by have := hH.few; omega⟩
  obtain ⟨_, _, _, _, hr⟩ := hH.at hi
  obtain ⟨a, h1, h2, h3⟩ := hr hpos
  exact ⟨a, h1, Nat.lt_of_lt_of_le h2 hB, fun k hk j u hu => (hb.cell (by rw [add_blk]; exact h2)).trans (h3 k hk j u hu)⟩
def TwTo (H : List Ob) (w : World) (e : Ending) (w' : World) : Prop := ∃ B M, e = .returned (.agg #[.slice (some ⟨B, 0, none⟩) H.length H.length]) ∧ Tw w.heap.size B H M w' ∧ Below w.heap.size w w'
set_option maxHeartbeats 4000000 in
set_option maxRecDepth 1000000 in
theorem Twin_h (A : Option Addr) (H : List Ob) (cap : Nat) (w : World) (hH : HIn w A H cap) (hp : ∀ o ∈ H, o.props.length ≤ 100000) : Calls Tryz.prog 22 #[.agg #[.slice A H.length cap]] w (TwTo H w) := by
  obtain ⟨b1, b2⟩ := vblk2 (w := w) (Below.refl _ ((w.alloc (.cells #[.slice A H.length cap] 24)).alloc (.cells #[.slice none 0 0] 24)))
  have hB0 : Below w.heap.size w ((w.alloc (.cells #[.slice A H.length cap] 24)).alloc (.cells #[.slice none 0 0] 24)) := vafter (vzero _ _)
  have hsz0 : ((w.alloc (.cells #[.slice A H.length cap] 24)).alloc (.cells #[.slice none 0 0] 24)).heap.size = w.heap.size + 2 := by simp
  have q0 : ((w.alloc (.cells #[.slice A H.length cap] 24)).alloc (.cells #[.slice none 0 0] 24)).cell? ⟨w.heap.size, 0, none⟩ = some (.slice A H.length cap) := (vcells b1 0).trans rfl
  have HW0 := Lib.hid (And.intro hB0 (And.intro b2 hsz0))
  have hfew := hH.few
  have cC := copiedO_h A H.length cap (hcl H) _ (hrow_r18 (hH.up hB0).row) (by omega)
  have hi1 : ∀ v : Value, (Tryz.prog.info? 24).map (·.size) = some (#[v] : Array Value).size := fun v => hsz
  have hc1 : ∀ B : Nat, (#[Value.slice (some ⟨B, 0, none⟩) H.length H.length] : Array Value).all (·.oneCell') = true := fun B => cells_one (l := [.slice (some ⟨B, 0, none⟩) H.length H.length]) rfl
  have HH := Lib.hid hH
  clear b1 hH
  go_enter Tryz.func22, Tryz.ntmps22
  go_wp2_with (first
    | (go_at_call 55; (with_reducible refine cC.mono ?_); rintro e W1 ⟨B, rfl, hB, hgb, h9⟩; have hb1 := vb hB0 h9; have hlB : w.heap.size + 2 ≤ B := (by omega); have hPI := ptin_of HH.out hp hb1 (by omega) hgb; have hr1 := (h9.block _ (lt_blk b2)).trans b2)
    | (go_at_call 56; (with_reducible refine (part_h B H.length H _ hPI).mono ?_); rintro e W2 ⟨rfl, M, hPt⟩; have HT := Lib.hid (tw_of (n0 := w.heap.size) hPt (lt_blk hgb) (by omega)); have hb2 := hb1.trans (hPt.below.mono (show w.heap.size ≤ B by omega)); have hr2 := (hPt.below.block (w.heap.size + 1) (by omega)).trans hr1; clear hPt)
    | ((with_reducible refine t_store rfl rfl rfl rfl hr2 (hi1 _) ?_ (hc1 B) hb2 (Nat.le_succ _) ?_); (rfl); intro W3 hb3 hW3 hO3 _))
  exact h_end Tryz.results22 rfl hW3 ⟨B, M, rfl, HT.out.other hO3 (by omega), hb3⟩
end Go.Proofs.YthnkllhfmjbbmaaGreatDoor.S
/-
  heap.with: a twin of a heap with an object in a place, or behind the others.
-/
namespace Go.Proofs.YthnkllhfmjbbmaaGreatDoor.S
open Go.RowKit Go.Lib Fl
open Classical

theorem run_copy_18g (w : World) (dT sT ty e t : TypeId) (g n d cap : Nat) (A : Option Addr) (cs : List Value) (cur : Array Value) (hT : Tryz.prog.underlying dT = some (.slice e)) (hs : (Tryz.prog.info? e).map (·.size) = some 18)
    (hg : w.heap[g]? = some (.cells cur t (0, 0))) (hcur : cur.size = d * 18) (hnd : n ≤ d) (hR : R18 w A n cs) :
    ∃ W : World, (Builtin.copy_ #[dT, sT] ty #[.slice (some ⟨g, 0, none⟩) d d, .slice A n cap]).run Tryz.prog w = .ok (goInt n) W ∧ (∀ B w0, Below B w0 w → B ≤ g → Below B w0 W) ∧ W.heap[g]? = some (.cells (cs ++ cur.toList.drop (n * 18)).toArray t (0, 0)) ∧ (∀ j, j ≠ g → W.heap[j]? = w.heap[j]?) := by
  obtain ⟨hl, h1, hr⟩ := hR
  have hmin : Nat.min n d = n := Nat.min_eq_left hnd
  rcases Nat.eq_zero_or_pos n with hz | hp
  · subst hz
    obtain rfl : cs = [] := List.eq_nil_of_length_eq_zero (by omega)
    refine ⟨w, ?_, fun _ _ h _ => h, by simpa using hg, fun _ _ => rfl⟩
    cases hq : Tryz.prog.info? e with
    | none => simp [hq] at hs
    | some i => cases A <;> simp [Builtin.copy_, run_underlying hT, Builtin.lenOf, Builtin.firstCells, sizeOf, typeInfo, hq, storeCells, loadCells, loadCellsFrom]
  · obtain ⟨ad, rfl, hsrc⟩ := hr hp
    have hll := run_loadCells_list (P := Tryz.prog) w ad cs hsrc
    have hst := run_storeCells_at Tryz.prog g 0 t cs 0 cur w hg (by simp; omega) h1
    rw [hl] at hll
    have ee : (cur.toList.take 0 ++ cs ++ cur.toList.drop (0 + cs.length)).toArray = (cs ++ cur.toList.drop (n * 18)).toArray := by
      rw [List.take_zero, List.nil_append, Nat.zero_add, hl]
    refine ⟨w.setRow g (cs ++ cur.toList.drop (n * 18)).toArray, ?_, fun _ _ h h2 => below_row h h2 _, setRow_heap _ _ _ _ _ _ hg, fun j hj => setRow_other w g j _ hj⟩
    cases hq : Tryz.prog.info? e with
    | none => simp [hq] at hs
    | some i =>
      have hi : i.size = 18 := by simpa [hq] using hs
      have hmin2 : min n d = n := hmin
      simp [Builtin.copy_, run_underlying hT, Builtin.lenOf, Builtin.firstCells, sizeOf, typeInfo, hq, hi, hmin2, hll]
      rw [hst]
      show Result.ok (goInt ↑n) (w.setRow g (cur.toList.take 0 ++ cs ++ cur.toList.drop (0 + cs.length)).toArray) = _
      rw [ee]
section
variable {ops : Array Oper} {rest : List Oper} {o : Oper} {a : Act} {w : World} {Q : Exit → Act → World → Prop} {x y : Operand} {g : Nat} {t : TypeId}
/-- an object in a block of the call's own, loaded -/
theorem ob_load {ob : Ob} (hw : Region.wanted o (yielded ops a.tmps) = true) (ho : o.op = .load 34 x) (hx : a.eval x = .pointer (some ⟨g, 0, none⟩)) (hg : w.heap[g]? = some (.cells (obA ob) t (0, 0)))
    (h : wpList Tryz.prog ops Q rest (a.put o.dst (.agg (obA ob))) w) : wpList Tryz.prog ops Q (o :: rest) a w :=
  wpList_wanted hw fun _ hK => wp_load_row 34 x ho g hx t _ (0, 0) _ hg Tryz.underlying34 rfl osz (hK _ _ h)
/-- an object stored into a row of the call's own -/
theorem ob_store {ob : Ob} {k : Nat} {cur : List Value} (hgd : o.guard = none) (ho : o.op = .store 34 x y) (hx : a.eval x = .pointer (some ⟨g, k, none⟩)) (hy : a.eval y = .agg (obA ob)) (hg : w.heap[g]? = some (.cells cur.toArray t (0, 0))) (hk : k + 18 ≤ cur.length)
    (h : ∀ W : World, (∀ B w0, Below B w0 w → B ≤ g → Below B w0 W) → W.heap[g]? = some (.cells (cur.take k ++ ocl ob ++ cur.drop (k + 18)).toArray t (0, 0)) → (∀ j, j ≠ g → W.heap[j]? = w.heap[j]?) → W.heap.size = w.heap.size → wpList Tryz.prog ops Q rest (a.put o.dst undef) W) : wpList Tryz.prog ops Q (o :: rest) a w := by
  refine wpList_plain hgd fun K hK => ?_
  have hst := run_storeCells_at Tryz.prog g k t (ocl ob) 0 cur.toArray w hg (by rw [ocl_len]; simpa using hk) (fun v hv => by have := obA_one ob; rw [obA, List.all_toArray, List.all_eq_true] at this; exact this v hv)
  rw [ocl_len, Nat.add_zero] at hst
  have e := h (w.setRow g (cur.take k ++ ocl ob ++ cur.drop (k + 18)).toArray) (fun _ _ h1 h2 => below_row h1 h2 _) (setRow_heap _ _ _ _ _ _ hg) (fun j hj => setRow_other w g j _ hj) (by simp [World.setRow])
  have hrun : (storeVar 34 ⟨g, k, none⟩ (.agg (obA ob))).run Tryz.prog w = .ok () (w.setRow g (cur.take k ++ ocl ob ++ cur.drop (k + 18)).toArray) := by
    have hq := osz
    cases hq2 : Tryz.prog.info? 34 with
    | none => rw [hq2] at hq; simp at hq
    | some i =>
      have hs : (obA ob).size = i.size := by rw [hq2] at hq; simp at hq; rw [obA_size]; omega
      have e2 : (obA ob).toList = ocl ob := rfl
      rw [← e2] at hst ⊢
      simp [storeVar, sizeOf, typeInfo, hq2, Value.cells, hs, hst]
  unfold Oper.wp execOp
  simp only [ho, hx, hy, Instr.storeAt, Instr.sureAddr, Sem.run_bind, Sem.run_pure, Result.andThen_ok, hrun]
  exact hK _ _ e
end
def hput (H : List Ob) (n : Nat) (o : Ob) : List Ob := if n < H.length then H.set n o else H ++ [o]
theorem hcl_app (H M : List Ob) : hcl (H ++ M) = hcl H ++ hcl M := List.flatMap_append
theorem hcl_take : ∀ (H : List Ob) (n : Nat), (hcl H).take (n * 18) = hcl (H.take n)
  | [], n => by rw [List.take_nil]; exact List.take_nil
  | x :: H, 0 => by rw [Nat.zero_mul]; rfl
  | x :: H, n + 1 => by
    rw [hcl_cons, List.take_succ_cons, hcl_cons, List.take_append, ocl_len, show (n + 1) * 18 - 18 = n * 18 by omega, hcl_take H n, List.take_of_length_le (by rw [ocl_len]; omega)]
theorem hcl_drop : ∀ (H : List Ob) (n : Nat), (hcl H).drop (n * 18) = hcl (H.drop n)
  | [], n => by rw [List.drop_nil]; exact List.drop_nil
  | x :: H, 0 => by rw [Nat.zero_mul]; rfl
  | x :: H, n + 1 => by
    rw [hcl_cons, List.drop_succ_cons, List.drop_append, ocl_len, show (n + 1) * 18 - 18 = n * 18 by omega, hcl_drop H n, List.drop_of_length_le (by rw [ocl_len]; omega), List.nil_append]
theorem hcl_put (H : List Ob) (n : Nat) (o : Ob) (h : n < H.length) : (hcl H).take (n * 18) ++ ocl o ++ (hcl H).drop (n * 18 + 18) = hcl (H.set n o) := by
  rw [hcl_take, show n * 18 + 18 = (n + 1) * 18 by omega, hcl_drop, List.set_eq_take_append_cons_drop, if_pos h, hcl_app, hcl_cons, List.append_assoc]
theorem hcl_new (H : List Ob) (o : Ob) (l : List Value) (hl : l.length = 18) : (hcl H ++ l).take (H.length * 18) ++ ocl o ++ (hcl H ++ l).drop (H.length * 18 + 18) = hcl (H ++ [o]) := by
  rw [List.take_left' (hcl_len H), List.drop_of_length_le (by rw [List.length_append, hcl_len, hl]; exact Nat.le_refl _), List.append_nil, hcl_app, hcl_cons]
  exact congrArg _ (List.append_nil _).symm
theorem hput_len (H : List Ob) (n : Nat) (o : Ob) (h : n < H.length) : (hput H n o).length = H.length := by unfold hput; rw [if_pos h, List.length_set]
theorem ptin_put {w W : World} {A : Option Addr} {H : List Ob} {cap B n : Nat} {o : Ob} (hH : HIn w A H cap) (hp : ∀ o ∈ H, o.props.length ≤ 100000) (ho : PR w o.pa o.props) (hop : o.props.length ≤ 100000) (hb : Below w.heap.size w W) (hB : w.heap.size ≤ B) (hgb : W.heap[B]? = some (.cells (hcl (hput H n o)).toArray 34 (0, 0))) : PtIn W B (hput H n o) := by
  have one : ∀ (x : Ob), PR w x.pa x.props → x.props.length ≤ 100000 → PRB B W x.pa x.props ∧ x.props.length ≤ 100000 := fun x hx h5 => ⟨fun hpos => by
    obtain ⟨a, h1, h2, h3⟩ := hx hpos
    exact ⟨a, h1, Nat.lt_of_lt_of_le h2 hB, fun k hk j u hu => (hb.cell (by rw [add_blk]; exact h2)).trans (h3 k hk j u hu)⟩, h5⟩
  have all : ∀ x ∈ H, PR w x.pa x.props := fun x hx => by
    obtain ⟨i, hi, rfl⟩ := List.getElem_of_mem hx
    exact (hH.at hi).choose_spec.2.2.2
  refine ⟨lt_blk hgb, hgb, fun i hi => ?_, ?_⟩
  · have hm := List.getElem_mem hi
    generalize (hput H n o)[i] = x at hm ⊢
    unfold hput at hm
    split at hm
    · rcases List.mem_or_eq_of_mem_set hm with h | rfl
      · exact one x (all x h) (hp x h)
      · exact one x ho hop
    · rcases List.mem_append.1 hm with h | h
      · exact one x (all x h) (hp x h)
      · obtain rfl := List.mem_singleton.1 h
        exact one x ho hop
  · have := hH.few
    unfold hput
    split
    · rw [List.length_set]; omega
    · rw [List.length_append]; simp; omega
end Go.Proofs.YthnkllhfmjbbmaaGreatDoor.S
/-
  heap.with: the walk.
-/
namespace Go.Proofs.YthnkllhfmjbbmaaGreatDoor.S
open Go.RowKit Go.Lib Fl
open Classical

/-- a heap with an object put into it, in memory of its own -/
def WithTo (H : List Ob) (n : Nat) (o : Ob) (w : World) (e : Ending) (w' : World) : Prop := ∃ B M, e = .returned (.agg #[.slice (some ⟨B, 0, none⟩) (hput H n o).length (hput H n o).length]) ∧ Tw w.heap.size B (hput H n o) M w' ∧ Below w.heap.size w w'
theorem hput_old (H : List Ob) (n : Nat) (o : Ob) (h : n < H.length) : hput H n o = H.set n o := by unfold hput; rw [if_pos h]
theorem hput_new (H : List Ob) (o : Ob) : hput H H.length o = H ++ [o] := by unfold hput; rw [if_neg (Nat.lt_irrefl _)]
theorem objs_blk {w : World} (c : Value) (cs : Array Value) (d : Value) (t1 t2 t3 : TypeId) :
    (((w.alloc (.cells #[c] t1)).alloc (.cells cs t2)).alloc (.cells #[d] t3)).heap[w.heap.size]? = some (.cells #[c] t1 (0, 0)) ∧ (((w.alloc (.cells #[c] t1)).alloc (.cells cs t2)).alloc (.cells #[d] t3)).heap[w.heap.size + 1]? = some (.cells cs t2 (0, 0)) ∧
      (((w.alloc (.cells #[c] t1)).alloc (.cells cs t2)).alloc (.cells #[d] t3)).heap[w.heap.size + 1 + 1]? = some (.cells #[d] t3 (0, 0)) ∧ (((w.alloc (.cells #[c] t1)).alloc (.cells cs t2)).alloc (.cells #[d] t3)).heap.size = w.heap.size + 3 ∧ Below w.heap.size w (((w.alloc (.cells #[c] t1)).alloc (.cells cs t2)).alloc (.cells #[d] t3)) := by
  obtain ⟨h1, h2⟩ := vblk2 (w := w) (Below.refl _ ((w.alloc (.cells #[c] t1)).alloc (.cells cs t2)))
  have hs : ((w.alloc (.cells #[c] t1)).alloc (.cells cs t2)).heap.size = w.heap.size + 1 + 1 := by simp
  have h3 := heap_alloc_new ((w.alloc (.cells #[c] t1)).alloc (.cells cs t2)) (.cells #[d] t3)
  rw [hs] at h3
  exact ⟨vblkn (vzero _ _) h1, vblkn (vzero _ _) h2, h3, by simp, vafter (vafter (vzero _ _))⟩
theorem shape_put (H : List Ob) (n d : Nat) (o : Ob) (cur : Array Value) (hcur : cur.size = d * 18) (hd : d = (hput H n o).length) (hn : n ≤ H.length) :
    (hcl H ++ cur.toList.drop (H.length * 18)).take (n * 18) ++ ocl o ++ (hcl H ++ cur.toList.drop (H.length * 18)).drop (n * 18 + 18) = hcl (hput H n o) := by
  subst hd
  by_cases c : n < H.length
  · have e : cur.toList.drop (H.length * 18) = [] := List.drop_of_length_le (by rw [hput_len H n o c] at hcur; simp; omega)
    rw [e, List.append_nil, hcl_put H n o c, hput_old H n o c]
  · obtain rfl : n = H.length := by omega
    rw [hcl_new H o _ (by rw [hput_new, List.length_append] at hcur; simp at hcur ⊢; omega), hput_new]
set_option maxHeartbeats 4000000 in
set_option maxRecDepth 1000000 in
theorem with_h (A : Option Addr) (H : List Ob) (cap n : Nat) (o : Ob) (w : World) (hH : HIn w A H cap) (hp : ∀ o ∈ H, o.props.length ≤ 100000) (ho : PR w o.pa o.props) (hop : o.props.length ≤ 100000) (hn : n ≤ H.length) :
    Calls Tryz.prog 43 #[.agg #[.slice A H.length cap], .int .i64 n, .agg (obA o)] w (WithTo H n o w) := by
  obtain ⟨b1, b2, b3, hsz0, hB0⟩ := objs_blk (w := w) (.slice A H.length cap) (obA o) (.slice none 0 0) 24 34 24
  have q0 : (((w.alloc (.cells #[.slice A H.length cap] 24)).alloc (.cells (obA o) 34)).alloc (.cells #[.slice none 0 0] 24)).cell? ⟨w.heap.size, 0, none⟩ = some (.slice A H.length cap) := (vcells b1 0).trans rfl
  have hfew := hH.few
  have hR := fun (W : World) (hb : Below w.heap.size w W) => hrow_r18 (hH.up hb).row
  obtain ⟨d, hd⟩ : ∃ d : Nat, d = (hput H n o).length := ⟨_, rfl⟩
  have hd2 : H.length ≤ d ∧ n < d ∧ d ≤ 5001 ∧ max (H.length : Int) ((n : Int) + 1) = (d : Int) := by
    by_cases c : n < H.length
    · rw [hput_len H n o c] at hd; omega
    · obtain rfl : n = H.length := by omega
      rw [hput_new, List.length_append] at hd; simp at hd; omega
  obtain ⟨hd3, hd4, hd5, hmx⟩ := hd2
  have hl0 : (0 : Int) ≤ (n : Int) := by omega
  have hlz : (n : Int) < (d : Int) := by omega
  have hsh := fun cur hcur => shape_put H n d o cur hcur hd hn
  have hPI := fun (W : World) B (hb : Below w.heap.size w W) hB hgb => ptin_put (n := n) (W := W) (B := B) hH hp ho hop hb hB hgb
  have hi1 : ∀ v : Value, (Tryz.prog.info? 24).map (·.size) = some (#[v] : Array Value).size := fun v => hsz
  have hc1 : ∀ B : Nat, (#[Value.slice (some ⟨B, 0, none⟩) d d] : Array Value).all (·.oneCell') = true := fun B => cells_one (l := [.slice (some ⟨B, 0, none⟩) d d]) rfl
  unfold WithTo
  rw [← hd]
  have cP := fun (W : World) B cp (hb : Below w.heap.size w W) (hB : w.heap.size ≤ B) hgb => part_h B cp (hput H n o) W (hPI W B hb hB hgb)
  rw [← hd] at cP
  have hlk : ∀ cur : Array Value, cur.size = d * 18 → n * 18 + 18 ≤ (hcl H ++ cur.toList.drop (H.length * 18)).length := fun cur hc => by
    rw [List.length_append, hcl_len, List.length_drop]; simp; omega
  have hcp : ∀ W0 : World, W0.heap.size = w.heap.size + 3 → Below w.heap.size w W0 → ∀ cur : Array Value, cur.size = d * 18 → ∃ W : World, (Builtin.copy_ #[22, 22] 3 #[.slice (some ⟨w.heap.size + 3, 0, none⟩) d d, .slice A H.length cap]).run Tryz.prog (W0.alloc (.cells cur 34)) = .ok (goInt H.length) W ∧ Below w.heap.size w W ∧
      W.heap[w.heap.size + 3]? = some (.cells (hcl H ++ cur.toList.drop (H.length * 18)).toArray 34 (0, 0)) ∧ (∀ j, j ≠ w.heap.size + 3 → W.heap[j]? = (W0.alloc (.cells cur 34)).heap[j]?) := fun W0 hs hb cur hc => by
    have h4 := heap_alloc_new W0 (.cells cur 34)
    rw [hs] at h4
    obtain ⟨W, e1, e2, e3, e4⟩ := run_copy_18g (W0.alloc (.cells cur 34)) 22 22 3 34 34 (w.heap.size + 3) H.length d cap A (hcl H) cur Tryz.underlying22 osz h4 hc hd3 (hR _ (vb hb (vzero _ _)))
    exact ⟨W, e1, e2 _ _ (vb hb (vzero _ _)) (by omega), e3, e4⟩
  have HD := Lib.hid hd
  generalize hput H n o = N at *
  have hmxd := hd5
  clear hH hp ho hop hd b1
  go_enter Tryz.func43, Tryz.ntmps43
  go_wp2_with (refine c18_make Tryz.underlying22 info_o (by decide) rfl rfl rfl rfl (by omega) ?_; intro cur hcur)
  obtain ⟨W, hrun, hbW, hgW, hOW⟩ := hcp _ hsz0 hB0 cur hcur
  rw [hrun]
  have b2W := (hOW _ (by omega)).trans (vblkn (vzero _ (.cells cur 34)) b2)
  have b3W := (hOW _ (by omega)).trans (vblkn (vzero _ (.cells cur 34)) b3)
  have hk := hlk cur hcur
  have hsc := hsh cur hcur
  have HQ := Lib.hid q0
  clear q0 b2 b3 hOW hrun
  go_wp2_with (first
    | ((with_reducible refine ob_load ?_ rfl rfl b2W ?_); (rfl))
    | ((with_reducible refine ob_store rfl rfl rfl rfl hgW hk ?_); intro W3 hb3 hg3 hO3 hs3; rw [hsc] at hg3; have hb4 := hb3 _ _ hbW (by omega); have b34 := (hO3 _ (by omega)).trans b3W)
    | (go_at_call 56; (with_reducible refine (cP _ _ _ hb4 (by omega) hg3).mono ?_); rintro e W5 ⟨rfl, M, hPt⟩; rw [HD.out] at hPt; have HT := Lib.hid (tw_of (n0 := w.heap.size) hPt (lt_blk hg3) (by omega)); have hb5 := hb4.trans (hPt.below.mono (by omega)); have b35 := (hPt.below.block (w.heap.size + 1 + 1) (by omega)).trans b34; clear hPt)
    | ((with_reducible refine t_store rfl rfl rfl rfl b35 (hi1 _) ?_ (hc1 _) hb5 (by omega) ?_); (rfl); intro W6 hb6 hW6 hO6 _))
  exact h_end Tryz.results43 rfl hW6 ⟨_, M, rfl, HT.out.other hO6 (by omega), hb6⟩
end Go.Proofs.YthnkllhfmjbbmaaGreatDoor.S
