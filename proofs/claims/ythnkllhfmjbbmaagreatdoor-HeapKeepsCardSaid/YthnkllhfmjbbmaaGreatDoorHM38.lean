/-
  heap.behind: what one comes to from some objects, in the order in which it is found.
-/
import Derived.Test.YthnkllhfmjbbmaaGreatDoorHM31
import Derived.Test.YthnkllhfmjbbmaaGreatDoorHM36
import Derived.Test.YthnkllhfmjbbmaaGreatDoorHM37
import Derived.Shelf.Sort.Plain
import Derived.Test.YthnkllhfmjbbmaaGreatDoorProg
namespace Go.Proofs.YthnkllhfmjbbmaaGreatDoor.S
open Go.RowKit Go.Lib Fl Go.Shelf
open Classical
attribute [local go_sem] Oper.semAt_some

/-- the marks of the loops over functions -/
structure Dfs (n0 : Nat) (Ds : List Nat) (W : World) : Prop where
  ge : ∀ D ∈ Ds, n0 ≤ D
  nd : Ds.Nodup
  all : ∀ D ∈ Ds, W.heap[D]? = some (.deferred (some []))
def dfl (Ds : List Nat) : List Deferred := Ds.map fun D => { target := .collected D, args := #[] }
/-- but for some blocks a world is as it was -/
structure SameBut (Ds : List Nat) (W W' : World) : Prop where
  os : W'.os = W.os
  tape : W'.tape = W.tape
  output : W'.output = W.output
  size : W'.heap.size = W.heap.size
  blk : ∀ b, b ∉ Ds → W'.heap[b]? = W.heap[b]?
theorem leaves_all {n0 : Nat} {F : Fence} {n : Nat} {fn : Func} {tmps : Array Value} {R : Ending → World → Prop} : ∀ (Ds : List Nat) (W : World), Dfs n0 Ds W → (∀ W', SameBut Ds W W' → LeavesInM F n Tryz.prog fn tmps R [] .returning W') → LeavesInM F n Tryz.prog fn tmps R (dfl Ds) .returning W
  | [], W, _, h => h W ⟨rfl, rfl, rfl, rfl, fun _ _ => rfl⟩
  | D :: Ds, W, hd, h => by
    have hD := hd.all D (by simp)
    have hnd := List.nodup_cons.1 hd.nd
    refine ⟨by simp, .inl ⟨D, _, rfl, run_takeDeferred hD, leaves_all Ds _ ⟨fun E hE => hd.ge E (List.mem_cons_of_mem _ hE), hnd.2, fun E hE => ?_⟩ fun W' hW' => h W' ⟨hW'.os, hW'.tape, hW'.output, ?_, fun b hb => ?_⟩⟩⟩
    · rw [World.putObj_heap_other (fun e => hnd.1 (by rw [← e]; exact hE))]
      exact hd.all E (List.mem_cons_of_mem _ hE)
    · rw [hW'.size]; simp [World.putObj]
    · have hb2 := fun h => hb (List.mem_cons_of_mem _ h)
      rw [hW'.blk b hb2]
      exact World.putObj_heap_other (fun e => hb (by rw [e]; simp))
theorem cells_own {β : Type} {B : Nat} {g : Nat} {c : Array Value} {t : TypeId} {z : Nat × Nat} : OwnFrom B (fun (_ : β) W => W.heap[g]? = some (.cells c t z)) := fun _ W W' row hs hg hr => by
  refine (hg.block g (lt_blk hs) (fun e => ?_)).trans hs
  obtain ⟨_, ob, ho, hc⟩ := hr g e.symm
  rw [hs] at ho
  cases ho
  cases hc
theorem row_own {B : Nat} {base : Nat} {e : TypeId} {v : Value} {n : Nat} {xs : List Value} {β : Type} : OwnFrom B (fun (_ : β) W => W.ownsRow base e 1 v n xs) := fun _ W W' row hs hg hr => by
  refine hs.kept hg ?_
  rcases hs.2 with ⟨e2, _⟩ | ⟨g, cp, cur, rfl, _, h2, _⟩
  · exact .inl (by rw [e2]; rfl)
  · refine .inr (fun e3 => ?_)
    obtain ⟨_, ob, ho, hc⟩ := hr g e3.symm
    rw [h2] at ho
    cases ho
    cases hc
theorem bw_own {β : Type} {B : Nat} {w : World} {A : Option Addr} {m cap X : Nat} {L : List Nat} (hB : w.heap.size ≤ B) : OwnFrom B (fun (_ : β) W => Bw w A m cap X L W) := fun s W W' row hs hg hr => by
  obtain ⟨v, hv⟩ := hs.wv
  exact ⟨ownFrom_below (Nat.le_refl _) hB s W W' row hs.below hg hr, cells_own (β := β) s W W' row hs.h hg hr, cells_own (β := β) s W W' row hs.f hg hr, cells_own (β := β) s W W' row hs.sv hg hr, cells_own (β := β) s W W' row hs.s hg hr,
    v, cells_own (β := β) s W W' row hv.b hg hr, row_own (β := β) s W W' row hv.own hg hr, hv.apart⟩
/-- upZ that come in, in a row -/
def IRow (w : World) (A : Option Addr) (Z : List Int) : Prop := 0 < Z.length → ∃ a, A = some a ∧ a.block < w.heap.size ∧ ∀ i (h : i < Z.length), w.cell? (a.add i) = some (.int .i64 Z[i])
theorem irow_up {w w' : World} {A : Option Addr} {Z : List Int} (h : IRow w A Z) (hb : Below w.heap.size w w') : IRow w' A Z := fun hp => by
  obtain ⟨a, h1, h2, h3⟩ := h hp
  exact ⟨a, h1, Nat.lt_of_lt_of_le h2 hb.size, fun i hi => (hb.cell (by rw [add_blk]; exact h2)).trans (h3 i hi)⟩
section
variable {F : Fence} {nF : Nat} {ops : Array Oper} {rest : List Oper} {o : Oper} {a : Act} {w : World} {Q : Exit → Act → World → Prop} {x y : Operand} {t : TypeId}
theorem bools_make_in {l c : Operand} {n : Nat} (hgd : o.guard = none) (ho : o.op = .makeSlice 137 l c) (hl : a.eval l = .int .i64 (n : Int)) (hc : a.eval c = .int .i64 (n : Int)) (hn : n ≤ 1000000)
    (h : wpListIn F nF Tryz.prog ops Q rest (a.put o.dst (.slice (some ⟨w.heap.size, 0, none⟩) n n)) (w.alloc (.cells (bks n []) 4))) : wpListIn F nF Tryz.prog ops Q (o :: rest) a w := by
  obtain ⟨i0, hi, hz0, hz1, hz2⟩ := info_parts (P := Tryz.prog) (e := 4) (z := .bool false) (size := 1) (bytes := 1) (by kernel_rfl)
  refine wpListIn_plain hgd fun K hK => ?_
  have hr := run_makeSlice (P := Tryz.prog) w 137 4 i0 (.bool false) Tryz.underlying137 hi hz0 .i64 .i64 (n : Int) (n : Int) (by omega) (by omega) (by rw [hz1]; omega) (by rw [hz2]; omega) (by omega)
  rw [hz1, Int.toNat_natCast, made_bools] at hr
  unfold Oper.wpIn
  refine ⟨by simp [Oper.about, ho], ?_⟩
  rw [Oper.semAt_plain F _ _ (by rw [ho]; intro c hc'; cases hc')]
  simp [execOp, ho, hl, hc, hr, Result.andThen]
  exact hK _ _ h
end
theorem bstore_fn (a : Addr) (f : Fn) (x c : Array Value) (m : Mode) (w : World) : (store a (.func f x c) m).run Tryz.prog w = stored Tryz.prog w a (.func f x c) m := run_store Tryz.prog w a _ m rfl
theorem bw_start (w : World) (A : Option Addr) (m cap : Nat) : Bw w A m cap w.heap.size [] (((((w.alloc (.cells #[.slice A m cap] 24)).alloc (.cells #[.slice none 0 0] 40)).alloc (.cells (bks m []) 4)).alloc (.cells #[.slice (some ⟨w.heap.size + 2, 0, none⟩) m m] 137)).alloc (.cells #[addF w.heap.size] 138)) := by
  obtain ⟨W1, hW1⟩ : ∃ W, W = (w.alloc (.cells #[.slice A m cap] 24)).alloc (.cells #[.slice none 0 0] 40) := ⟨_, rfl⟩
  rw [← hW1]
  have s1 : W1.heap.size = w.heap.size + 2 := by rw [hW1]; simp
  have hb : Below w.heap.size w W1 := by rw [hW1]; exact vafter (vzero _ _)
  obtain ⟨b0, b1⟩ : W1.heap[w.heap.size]? = some (.cells #[.slice A m cap] 24 (0, 0)) ∧ W1.heap[w.heap.size + 1]? = some (.cells #[.slice none 0 0] 40 (0, 0)) := by rw [hW1]; exact vblk2 (Below.refl _ _)
  have b2 := heap_alloc_new W1 (.cells (bks m []) 4)
  rw [s1] at b2
  have s2 : (W1.alloc (.cells (bks m []) 4)).heap.size = w.heap.size + 3 := by simp [s1]
  have h2 := vzero W1 (.cells (bks m []) 4)
  generalize W1.alloc (.cells (bks m []) 4) = W2 at *
  have b3 := heap_alloc_new W2 (.cells #[.slice (some ⟨w.heap.size + 2, 0, none⟩) m m] 137)
  rw [s2] at b3
  have s3 : (W2.alloc (.cells #[.slice (some ⟨w.heap.size + 2, 0, none⟩) m m] 137)).heap.size = w.heap.size + 4 := by simp [s2]
  have h3 := vzero W2 (.cells #[.slice (some ⟨w.heap.size + 2, 0, none⟩) m m] 137)
  generalize W2.alloc (.cells #[.slice (some ⟨w.heap.size + 2, 0, none⟩) m m] 137) = W3 at *
  have b4 := heap_alloc_new W3 (.cells #[addF w.heap.size] 138)
  rw [s3] at b4
  have h4 := vzero W3 (.cells #[addF w.heap.size] 138)
  generalize W3.alloc (.cells #[addF w.heap.size] 138) = W4 at *
  exact ⟨vb (vb (vb hb h2) h3) h4, vblkn h4 (vblkn h3 (vblkn h2 b0)), b4, vblkn h4 b3, vblkn h4 (vblkn h3 b2), .slice none 0 0, vblkn h4 (vblkn h3 (vblkn h2 b1)), World.ownsRow_nil _ _ _ _, by simp [Value.ownBlock]⟩
theorem may_holds {H : List Ob} {o : Ob} {n : Nat} {v : Vq} (h : mayB H o n = true) (hv : v ∈ valsO o) : holdsB H v = true := by
  unfold mayB at h
  simp only [Bool.and_eq_true] at h
  exact List.all_eq_true.1 h.2.2.1 v hv
theorem then_strong {K : Act → World → Prop} {Q : Exit → Act → World → Prop} : ∀ e a w, Exit.then K (fun _ _ _ => False) e a w → Exit.then K Q e a w := fun e a w h => by cases e <;> first | exact h | exact h.elim
/-- the loop's variable in its box -/
def Ay {o : Ob} (T : Act → Nat → Prop) (x : Vof o) (a' : Act) (W : World) : Prop := ∃ Bx, W.heap[Bx]? = some (.cells #[.int .u8 x.1.k, .float .f64 x.1.x, .string x.1.s, .int .i64 x.1.r] 31 (0, 0)) ∧ T a' Bx
theorem ay_own {o : Ob} {B : Nat} {T : Act → Nat → Prop} (x : Vof o) (a' : Act) : OwnFrom B (fun (_ : Unit) W => Ay T x a' W) := fun _ W W' row hs hg hr => by
  obtain ⟨Bx, e1, e2⟩ := hs
  exact ⟨Bx, cells_own (β := Unit) (B := B) () W W' row e1 hg hr, e2⟩
def BehindTo (H : List Ob) (F : List Nat) (w : World) (e : Ending) (w' : World) : Prop := ∃ L v, e = .returned v ∧ w'.ownsRow w.heap.size 3 1 v L.length (wkv L) ∧ L.Nodup ∧ (∀ y, y ∈ L ↔ RH H F y) ∧ Below w.heap.size w w'
set_option maxHeartbeats 8000000 in
set_option maxRecDepth 1000000 in
theorem behind_h (A FA : Option Addr) (H : List Ob) (F : List Nat) (cap fc : Nat) (w : World) (hH : HIn w A H cap) (hm : mayH H = true) (hF : ∀ x ∈ F, x < H.length) (hFr : IRow w FA (upZ F)) (hFn : F.length ≤ 5000) :
    Calls Tryz.prog 49 #[.agg #[.slice A H.length cap], .slice FA F.length fc] w (BehindTo H F w) := by
  have hfew := hH.few
  refine (callsIn_wide (n := 6)).1 ?_
  refine callsIn_of_wp_marks Tryz.func49 rfl trivial ?_ rfl
  simp only [Tryz.ntmps49, List.size_toArray, List.length_cons, List.length_nil, Nat.reduceAdd, Nat.reduceSub, Array.replicate_succ, Array.replicate_zero, List.push_toArray, List.append_toArray, List.nil_append, List.cons_append]
  have q0 : ((w.alloc (.cells #[.slice A H.length cap] 24)).alloc (.cells #[.slice none 0 0] 40)).cell? ⟨w.heap.size, 0, none⟩ = some (.slice A H.length cap) := (vcells (vblk2 (Below.refl _ _)).1 0).trans rfl
  have hst := bstore_fn
  gi_wp2_with (refine bools_make_in (n := H.length) rfl rfl rfl rfl (by omega) ?_)
  clear q0
  simp only [Nat.add_assoc, Nat.reduceAdd]
  have HH := Lib.hid hH
  have HF := Lib.hid hFr
  clear hH hFr
  gi_loopw [19] (fun s wr => ∃ (i : Nat) (L : List Nat), s = .int .i64 (i : Int) ∧ i ≤ F.length ∧ Hid (Bw w A H.length cap w.heap.size L wr ∧ Wa F L i)) (fun s _ => F.length - (intOf s).toNat)
  case atStart => exact ⟨0, [], rfl, Nat.zero_le _, Lib.hid ⟨bw_start w A H.length cap, Wa.zero F⟩⟩
  case round =>
    obtain ⟨i, L, rfl, hi, HR⟩ := hrel
    by_cases hlt : i < F.length
    · have hlz : (i : Int) < (F.length : Int) := by omega
      have hl0 : (0 : Int) ≤ (i : Int) := by omega
      have hul := upZ_len F
      obtain ⟨a, rfl, hab, hcl⟩ := irow_up HF.out HR.out.1.below (by omega)
      have q1 := hcl i (by omega)
      have q7 : wr.cell? ⟨w.heap.size + 4, 0, none⟩ = some (.func (.func 78) #[] #[.pointer (some ⟨w.heap.size + 3, 0, none⟩), .pointer (some ⟨w.heap.size + 1, 0, none⟩)]) := (vcells HR.out.1.f 0).trans rfl
      have hz : (upZ F)[i] = (F[i] : Int) := by simp [upZ]
      rw [hz] at q1
      have hLl : L.length ≤ H.length := nodup_len HR.out.2.nd fun x hx => hF x (HR.out.2.fr x hx)
      have cA := add_h F[i] HR.out.1 (hF _ (List.getElem_mem hlt)) hfew hLl (.inl rfl) (by have := HR.out.1.lt; omega)
      clear hcl
      gi_wp2_with (refine ⟨trivial, ?_⟩; gi_at_call 78; refine (callsIn_wide.2 cA).mono ?_; rintro e w1 ⟨rfl, hb1, hk1, hn1⟩)
      go_roundw
      case rel => exact ⟨i + 1, _, by congr 1, by omega, Lib.hid ⟨hb1, HR.out.2.step hlt⟩⟩
      case measure => simp [intOf]; omega
    · obtain rfl : i = F.length := by omega
      have hlz : ¬ (F.length : Int) < (F.length : Int) := by omega
      gi_wp2
      refine wpIn_loop (fun a' W => ∃ u9 u11 u12 u13 u14 u15 u16 u17 u18 u19 u20 u21 u22 u23 u24 u25 u26 u27 u28 u29 u30 u31 u32 u33 u34 u35 u36 u37 u38 u39 u40 u41 u42 u43 u44 u45 u46 u47 u48 : Value, ∃ (i : Nat) (L Ds : List Nat), a' = { tmps := #[.agg #[.slice A H.length cap], .slice FA F.length fc, .pointer (some ⟨w.heap.size, 0, none⟩), undef, .slice none 0 0, .pointer (some ⟨w.heap.size + 1, 0, none⟩), .pointer (some ⟨w.heap.size + 3, 0, none⟩), .pointer (some ⟨w.heap.size + 4, 0, none⟩), undef, u9, .int .i64 (i : Int), u11, u12, u13, u14, u15, u16, u17, u18, u19, u20, u21, u22, u23, u24, u25, u26, u27, u28, u29, u30, u31, u32, u33, u34, u35, u36, u37, u38, u39, u40, u41, u42, u43, u44, u45, u46, u47, u48], defers := dfl Ds } ∧ i ≤ L.length ∧ Hid (Bw w A H.length cap w.heap.size L W ∧ Wk H F L i ∧ Dfs w.heap.size Ds W)) (fun a' _ => H.length - (intOf (a'.tmps.getD 10 undef)).toNat) ?_ ?_
      · exact ⟨_, _, _, _, _, _, _, _, _, _, _, _, _, _, _, _, _, _, _, _, _, _, _, _, _, _, _, _, _, _, _, _, _, _, _, _, _, _, _, 0, L, [], rfl, Nat.zero_le _, Lib.hid ⟨HR.out.1, HR.out.2.wk, ⟨by simp, List.nodup_nil, by simp⟩⟩⟩
      · rintro _ W ⟨u9, u11, u12, u13, u14, u15, u16, u17, u18, u19, u20, u21, u22, u23, u24, u25, u26, u27, u28, u29, u30, u31, u32, u33, u34, u35, u36, u37, u38, u39, u40, u41, u42, u43, u44, u45, u46, u47, u48, i, L2, Ds, rfl, hi2, HR2⟩
        clear HR
        obtain ⟨v, hv⟩ := HR2.out.1.wv
        have hLl : L2.length ≤ H.length := nodup_len HR2.out.2.1.nd fun x hx => RH.lt hm hF (HR2.out.2.1.rh x hx)
        have q2 : W.cell? ⟨w.heap.size, 0, none⟩ = some (.slice A H.length cap) := (vcells HR2.out.1.h 0).trans rfl
        have q5 : W.cell? ⟨w.heap.size + 1, 0, none⟩ = some v := (vcells hv.b 0).trans rfl
        obtain ⟨va, vc, rfl⟩ := own_shape hv.own
        by_cases hlt2 : i < L2.length
        · obtain ⟨g, cp, cur, hve, hg5, hgb, hcc, _, hcs, htk⟩ := hv.own.2.resolve_left (fun e => by omega)
          cases hve
          have q8 : W.cell? ⟨g, i, none⟩ = some (.int .i64 (L2[i] : Int)) := by
            have := hv.own.cells (g := g) rfl i (.int .i64 (L2[i] : Int)) (by simp [wkv, upZ, hlt2])
            rwa [show (⟨g, 0, none⟩ : Addr).add i = ⟨g, i, none⟩ by unfold Addr.add; split <;> simp_all] at this
          obtain ⟨y, hy⟩ : ∃ y, y = L2[i] := ⟨_, rfl⟩
          have hLy : L2[i]? = some y := by rw [List.getElem?_eq_getElem hlt2, hy]
          rw [← hy] at q8
          have hRy : RH H F y := HR2.out.2.1.rh y (by rw [hy]; exact List.getElem_mem hlt2)
          have hyl := RH.lt hm hF hRy
          obtain ⟨a, rfl, hab, hof, hP⟩ := HH.out.at hyl
          have hyz : (y : Int) < (H.length : Int) := by omega
          have hy0 : (0 : Int) ≤ (y : Int) := by omega
          have hiz : (i : Int) < (L2.length : Int) := by omega
          have hi0 : (0 : Int) ≤ (i : Int) := by omega
          have hin := HH.out.inn H[y] (List.getElem_mem hyl)
          have hpf := HH.out.pfew H[y] (List.getElem_mem hyl)
          have cV := fun W => values_g (a.add (y * 18)) W
          have HV := Lib.hid hv
          have HY := Lib.hid hy
          have HO := Lib.hid (And.intro hof hP)
          clear hv hy hof hP hgb htk hab
          gi_wp2
          have hfol : Tryz.prog.follows .mixedOrders = true := by kernel_rfl
          refine Code.wpIn_mono then_strong ?_
          gi_region_with_o (refine ⟨trivial, ?_⟩; gi_at_call 75; refine (callsIn_wide.2 (cV _)).mono ?_; rintro e W0 ⟨Bn, rfl, hBn, h9, hsz, hBl⟩)
          all_goals gi_wp2
          all_goals
            have hdr : Below W.heap.size W W.drew := ⟨rfl, rfl, rfl, Nat.le_refl _, fun _ _ => rfl⟩
            have hW0 := vb hdr h9
            have hBl2 : W.heap.size ≤ Bn := hBl
            have hbw0 := (HR2.out.1.to hBl2).up hW0
            have hDs0 : ∀ D ∈ Ds, W0.heap[D]? = some (.deferred (some [])) := fun D hD => vblkn hW0 (HR2.out.2.2.all D hD)
            have hDl : ∀ D ∈ Ds, D < W0.heap.size := fun D hD => lt_blk (hDs0 D hD)
            have hwW := HR2.out.1.below.size
            have hWW := hW0.size
            have hw4 := HR2.out.1.lt
            have HMY := Lib.hid (mayH_iff.1 hm)
            refine wpIn_rangeFunc_ownH rfl (by omega) (gf := 114) (lb := #[.pointer (some ⟨Bn, 0, none⟩)]) rfl trivial (enters_of Tryz.func114 (by kernel_rfl) rfl)
              (values_stops2 Fence.wide _ trivial rfl (by omega) Bn w W0 (a.add (y * 18)) H[y] HO.out.1 HO.out.2 hin hpf ⟨Kw.of_below hbw0.below, hBn⟩) (fun h k => KB.trans h k) (fun W l o o' hl h _ _ => KB.putObj (by omega) (by omega)) (Below.refl _ _) (fun _ => rfl)
              (fun (pre : List (Vof H[y])) W => (∃ L', Wr H F L2 (pre.map Vof.out) L' ∧ Bw w (some a) H.length cap Bn L' W) ∧ (W.heap[Bn]? = some (.cells #[.pointer (some (a.add (y * 18)))] 121 (0, 0)) ∧ ∀ D ∈ Ds, W.heap[D]? = some (.deferred (some []))))
              (fun _ _ _ => False)
              (fun s W W' row hs hg hr => ⟨by obtain ⟨L', h1, h2⟩ := hs.1; exact ⟨L', h1, bw_own (β := Unit) (B := W0.heap.size) (by omega) () W W' row h2 hg hr⟩, cells_own (β := Unit) (B := W0.heap.size) () W W' row hs.2.1 hg hr, fun D hD => (hg.block D (lt_blk (hs.2.2 D hD)) (fun e => by have := (hr D e.symm).1; have := hDl D hD; omega)).trans (hs.2.2 D hD)⟩)
              (fun _ _ _ _ _ hs _ _ => hs)
              ⟨⟨L2, Wr.zero HR2.out.2.1, hbw0⟩, hBn, hDs0⟩
              (fun x => Ay (fun a' Bx => a' = { tmps := #[.agg #[.slice (some a) H.length cap], .slice FA F.length fc, .pointer (some ⟨w.heap.size, 0, none⟩), undef, .slice none 0 0, .pointer (some ⟨w.heap.size + 1, 0, none⟩), .pointer (some ⟨w.heap.size + 3, 0, none⟩), .pointer (some ⟨w.heap.size + 4, 0, none⟩), undef, u9, .int .i64 (i : Int), .pointer (some ⟨Bx, 0, none⟩), u12, u13, u14, u15, u16, u17, u18, u19, u20, u21, u22, u23, u24, u25, u26, .int .i64 (i : Int), .slice (some ⟨g, 0, none⟩) L2.length vc, .int .i64 (L2.length : Int), .bool true, u31, u32, .pointer (some ⟨w.heap.size, 0, none⟩), .slice (some a) H.length cap, .slice (some ⟨g, 0, none⟩) L2.length vc, .int .i64 (i : Int), .pointer (some ⟨g, i, none⟩), .int .i64 (y : Int), .pointer (some (a.add (y * 18))), .func (.func 114) #[] #[.pointer (some ⟨Bn, 0, none⟩)], .agg #[.int .u8 x.1.k, .float .f64 x.1.x, .string x.1.s, .int .i64 x.1.r], u42, u43, u44, u45, u46, u47, u48], defers := [] }) x)
              (fun x a' => ay_own x a') ?assign ?body ?done ?stop
            case assign =>
              intro l pre x W K hi hK
              have hst := vstore
              dsimp only [encJ, encV]
              gi_wp2
              have hbz := vzero W (.cells #[.int .u8 x.1.k, .float .f64 x.1.x, .string x.1.s, .int .i64 x.1.r] 31)
              exact hK _ _ (kf_below hbz) (KB.of_below hbz) ⟨by obtain ⟨L', h1, h2⟩ := hi.1; exact ⟨L', h1, h2.up hbz⟩, vblkn hbz hi.2.1, fun D hD => vblkn hbz (hi.2.2 D hD)⟩ ⟨W.heap.size, heap_alloc_new _ _, rfl⟩
            case body =>
              rintro l pre ⟨⟨xk, xx, xs, xr⟩, hxi, hxm⟩ a' W1 hl ⟨r, hr⟩ ⟨⟨L', hwr, hbw⟩, hBn1, hDs1⟩ ⟨Bx, hbx, rfl⟩ hlen
              dsimp only at hbx ⊢
              have cI := fun W => IsObject_q ⟨xk, xx, xs, xr⟩ hxi.1 W
              dsimp only at cI
              obtain ⟨x0, x1, x2, x3, _⟩ := vc4 hbx
              cases ho : objQ ⟨xk, xx, xs, xr⟩ with
              | false =>
                rw [ho] at cI
                gi_wp2_with (refine ⟨trivial, ?_⟩; gi_at_call 66; refine (CallsIn.inRound l (callsIn_wide.2 (cI _))).mono ?_; rintro e w1 ⟨rfl, h9b⟩)
                exact ⟨kf_below h9b, KB.of_below h9b, ⟨L', by rw [List.map_append]; exact hwr.skip ho, hbw.up h9b⟩, vblkn h9b hBn1, fun D hD => vblkn h9b (hDs1 D hD)⟩
              | true =>
                rw [ho] at cI
                have hr0 : RH H F xr.toNat := RH.ref (v := ⟨xk, xx, xs, xr⟩) hRy (List.getElem?_eq_getElem hyl) hxm ho
                have hh := may_holds (HMY.out.2.1 y hyl) hxm
                obtain ⟨k, rfl⟩ := Int.eq_ofNat_of_zero_le (holds_ref hh ho)
                rw [Int.toNat_natCast] at hr0
                have hkl := RH.lt hm hF hr0
                have hLl' : L'.length ≤ H.length := nodup_len hwr.nd fun x hx => RH.lt hm hF (hwr.rh x hx)
                have HBW := Lib.hid hbw
                have hbl1 := lt_blk hBn1
                have HB1 := Lib.hid hBn1
                clear hbw hBn1
                gi_wp2_with (first
                  | (refine ⟨trivial, ?_⟩; gi_at_call 66; refine (CallsIn.inRound l (callsIn_wide.2 (cI _))).mono ?_; rintro e w1 ⟨rfl, h9b⟩; have hbw2 := Lib.hid (HBW.out.up h9b); have q7 : w1.cell? ⟨w.heap.size + 4, 0, none⟩ = some (.func (.func 78) #[] #[.pointer (some ⟨w.heap.size + 3, 0, none⟩), .pointer (some ⟨w.heap.size + 1, 0, none⟩)]) := (vcells hbw2.out.f 0).trans rfl; obtain ⟨y0, y1, y2, y3, _⟩ := vc4 (vblkn h9b hbx); have H9 := Lib.hid h9b; have hs9 := h9b.size; clear h9b)
                  | (refine ⟨trivial, ?_⟩; gi_at_call 78; refine (CallsIn.inRound l (callsIn_wide.2 (add_h k hbw2.out hkl hfew hLl' (.inr (by omega)) (by omega)))).mono ?_; rintro e w2 ⟨rfl, hb3, hk3, hn3⟩))
                have hB1b := vblkn H9.out HB1.out
                refine ⟨kf_trans (kf_below H9.out) ⟨hk3.size, fun k o _ h0 hc => hn3 k o h0 hc⟩, KB.trans (KB.of_below H9.out) hk3, ⟨_, ?_, hb3⟩, (hk3.blk Bn (.inr rfl) (by omega)).trans hB1b, fun D hD => hn3 D _ (vblkn H9.out (hDs1 D hD)) rfl⟩
                rw [List.map_append]
                exact hwr.add (v := ⟨xk, xx, xs, (k : Int)⟩) hr0
            case done =>
              rintro D ys W3 hD hys ⟨⟨L', hwr, hbw⟩, hBn1, hDs1⟩ hK
              rw [hys] at hwr
              have hstep := HR2.out.2.1.step hLy (List.getElem?_eq_getElem hyl) hwr
              have HS := Lib.hid hstep
              have HK := Lib.hid (And.intro hbw (And.intro hDs1 hK))
              clear hstep hbw hDs1 hK hwr
              gi_wp2
              refine ⟨⟨_, _, _, _, _, _, _, _, _, _, _, _, _, _, _, _, _, _, _, _, _, _, _, _, _, _, _, _, _, _, _, _, _, _, _, _, _, _, _, i + 1, L', D :: Ds, rfl, HS.out.le, Lib.hid ⟨HK.out.1.dummy, HS.out, ⟨?_, ?_, ?_⟩⟩⟩, ?_⟩
              · intro E hE
                rcases List.mem_cons.1 hE with rfl | hE
                · omega
                · exact HR2.out.2.2.ge E hE
              · exact List.nodup_cons.2 ⟨fun h => by have := hDl D h; omega, HR2.out.2.2.nd⟩
              · intro E hE
                rcases List.mem_cons.1 hE with rfl | hE
                · exact HK.out.2.2
                · exact HK.out.2.1 E hE
              · simp [intOf]; omega
            case stop => rintro D c pre W3 hD hpre hf hK; exact hf.elim
        · obtain rfl : i = L2.length := by omega
          have hiz : ¬ (L2.length : Int) < (L2.length : Int) := by omega
          have HV := Lib.hid hv
          clear hv
          gi_wp2
          refine leaves_all Ds W HR2.out.2.2 fun W' hW' => ?_
          have hown := HV.out.own
          refine ⟨.slice va L2.length vc, by simp [results, Tryz.results49, go_sem], L2, _, rfl, ⟨hown.1, ?_⟩, HR2.out.2.1.nd, HR2.out.2.1.all, ?_⟩
          · rcases hown.2 with h | ⟨g, cp, cur, e, hb5, hg, rest⟩
            · exact .inl h
            · exact .inr ⟨g, cp, cur, e, by omega, (hW'.blk g (fun hm => by have := HR2.out.2.2.all g hm; rw [hg] at this; cases this)).trans hg, rest⟩
          · have hb := HR2.out.1.below
            exact ⟨hW'.os.trans hb.os, hW'.tape.trans hb.tape, hW'.output.trans hb.output, by rw [hW'.size]; exact hb.size, fun k hk => (hW'.blk k (fun hm => by have := HR2.out.2.2.ge k hm; omega)).trans (hb.block k hk)⟩
end Go.Proofs.YthnkllhfmjbbmaaGreatDoor.S
/-
  DERIVED: THE SHELF's CONTRACTS AT THIS DUMP, IN PLAIN WORDS (tools/lay-plain.mjs out of 'YthnkllhfmjbbmaaGreatDoorSortShelfTry.lean', which tools/lay-shelf.mjs wrote): THE SAME DECLARATIONS UNDER THE SAME NAMES: 'import', 'namespace', 'open', 'def', 'theorem' AND NOTHING ELSE: no command of the shelf's: FOR A HAND-IN. Each laying: the table of numbers ('.._ren') and one theorem, a field a fact of the dump's own or the kernel's comparison; each contract: ONE APPLICATION.
-/
namespace Go.Proofs
open Go.Shelf
def Tryz.lays189_ren : Go.Shelf.Ren := ⟨fun | 189 => 50 | 125 => 80 | 257 => 79 | 128 => 132 | 129 => 133 | 294 => 123 | 295 => 124 | 296 => 125 | 297 => 126 | 298 => 127 | 299 => 128 | 216 => 129 | 300 => 130 | 301 => 131 | 328 => 163 | 329 => 164 | 330 => 165 | 331 => 166 | 332 => 167 | 215 => 168 | 343 => 184 | n => n, fun | 28 => 40 | 3 => 3 | 46 => 141 | 0 => 0 | 51 => 178 | 53 => 180 | 4 => 4 | 183 => 170 | 182 => 169 | 131 => 175 | 5 => 5 | 9 => 9 | 218 => 206 | 222 => 210 | 228 => 228 | 229 => 229 | n => n, fun | n => n⟩
theorem Tryz.lays189 : Go.Proofs.Lays.n189 Tryz.prog Tryz.lays189_ren := {
  mixed := by kernel_rfl
  f125 := Tryz.func80.trans (congrArg some (by kernel_rfl))
  f128 := Tryz.func132.trans (congrArg some (by kernel_rfl))
  f129 := Tryz.func133.trans (congrArg some (by kernel_rfl))
  f189 := Tryz.func50.trans (congrArg some (by kernel_rfl))
  f215 := Tryz.func168.trans (congrArg some (by kernel_rfl))
  f216 := Tryz.func129.trans (congrArg some (by kernel_rfl))
  f257 := Tryz.func79.trans (congrArg some (by kernel_rfl))
  f294 := Tryz.func123.trans (congrArg some (by kernel_rfl))
  f295 := Tryz.func124.trans (congrArg some (by kernel_rfl))
  f296 := Tryz.func125.trans (congrArg some (by kernel_rfl))
  f297 := Tryz.func126.trans (congrArg some (by kernel_rfl))
  f298 := Tryz.func127.trans (congrArg some (by kernel_rfl))
  f299 := Tryz.func128.trans (congrArg some (by kernel_rfl))
  f300 := Tryz.func130.trans (congrArg some (by kernel_rfl))
  f301 := Tryz.func131.trans (congrArg some (by kernel_rfl))
  f328 := Tryz.func163.trans (congrArg some (by kernel_rfl))
  f329 := Tryz.func164.trans (congrArg some (by kernel_rfl))
  f330 := Tryz.func165.trans (congrArg some (by kernel_rfl))
  f331 := Tryz.func166.trans (congrArg some (by kernel_rfl))
  f332 := Tryz.func167.trans (congrArg some (by kernel_rfl))
  f343 := Tryz.func184.trans (congrArg some (by kernel_rfl))
  t0 := Tryz.underlying0
  a0 := Tryz.isAgg0
  z0 := Tryz.sizeOf0
  v0 := Tryz.zeroValue0
  t3 := Tryz.underlying3
  a3 := Tryz.isAgg3
  z3 := Tryz.sizeOf3
  v3 := Tryz.zeroValue3
  t4 := Tryz.underlying4
  a4 := Tryz.isAgg4
  z4 := Tryz.sizeOf4
  v4 := Tryz.zeroValue4
  t5 := Tryz.underlying5
  a5 := Tryz.isAgg5
  z5 := Tryz.sizeOf5
  v5 := Tryz.zeroValue5
  t9 := Tryz.underlying9
  a9 := Tryz.isAgg9
  z9 := Tryz.sizeOf9
  v9 := Tryz.zeroValue9
  t28 := Tryz.underlying40
  a28 := Tryz.isAgg40
  z28 := Tryz.sizeOf40
  v28 := Tryz.zeroValue40
  t46 := Tryz.underlying141
  a46 := Tryz.isAgg141
  z46 := Tryz.sizeOf141
  v46 := Tryz.zeroValue141
  t51 := Tryz.underlying178
  a51 := Tryz.isAgg178
  z51 := Tryz.sizeOf178
  v51 := Tryz.zeroValue178
  t53 := Tryz.underlying180
  a53 := Tryz.isAgg180
  z53 := Tryz.sizeOf180
  v53 := Tryz.zeroValue180
  t131 := Tryz.underlying175
  a131 := Tryz.isAgg175
  z131 := Tryz.sizeOf175
  v131 := Tryz.zeroValue175
  t182 := Tryz.underlying169
  a182 := Tryz.isAgg169
  z182 := Tryz.sizeOf169
  v182 := Tryz.zeroValue169
  t183 := Tryz.underlying170
  a183 := Tryz.isAgg170
  z183 := Tryz.sizeOf170
  v183 := Tryz.zeroValue170
  t218 := Tryz.underlying206
  a218 := Tryz.isAgg206
  z218 := Tryz.sizeOf206
  v218 := Tryz.zeroValue206
  t222 := Tryz.underlying210
  a222 := Tryz.isAgg210
  z222 := Tryz.sizeOf210
  v222 := Tryz.zeroValue210
  t228 := Tryz.underlying228
  a228 := Tryz.isAgg228
  z228 := Tryz.sizeOf228
  v228 := Tryz.zeroValue228
  t229 := Tryz.underlying229
  a229 := Tryz.isAgg229
  z229 := Tryz.sizeOf229
  v229 := Tryz.zeroValue229 }
open Go.Sort Go.RowKit in
/-- slices.Sort at []int. -/
theorem Tryz.slices_Sort_int (blk off cap : Nat) (zs : List Int) (w : World) (hH : Holds (Value.int .i64) w blk off zs.toArray) (hblk : blk < w.heap.size) (hsz : zs.length < 4611686018427387904) :
    Calls Tryz.prog 50 #[.slice (some ⟨blk, off, none⟩) zs.length cap] w fun e w' =>
      e = .returned (.tuple #[]) ∧ ∃ n os, w' = grow (putRow (Value.int .i64) (Sort.ahead w n) blk off (zs.mergeSort fun x y => decide (x ≤ y)).toArray) os := Any.slices_Sort_int Tryz.lays189 blk off cap zs w hH hblk hsz
end Go.Proofs
