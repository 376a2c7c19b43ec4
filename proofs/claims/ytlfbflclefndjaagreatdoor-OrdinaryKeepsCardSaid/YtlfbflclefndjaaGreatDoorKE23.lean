/-
  heap.Of.
-/
import Derived.Test.YtlfbflclefndjaaGreatDoorKE22
import Derived.Test.YtlfbflclefndjaaGreatDoorKE21
import Derived.Test.YtlfbflclefndjaaGreatDoorKE20
namespace Go.Proofs.YtlfbflclefndjaaGreatDoor.S
open Go.RowKit Go.Lib Fl
open Classical

/-- no object -/
def oZ : Ob := ⟨0, v0, false, none, 0, [], v0, v0, ⟨#[]⟩, false, false⟩
abbrev ozA : Array Value := #[.int .u8 0, .int .u8 0, .float .f64 0, .string ⟨#[]⟩, .int .i64 0, .bool false, .slice none 0 0, .int .u8 0, .float .f64 0, .string ⟨#[]⟩, .int .i64 0, .int .u8 0, .float .f64 0, .string ⟨#[]⟩, .int .i64 0, .string ⟨#[]⟩, .bool false, .bool false]
/-- Of's own blocks -/
structure Ow (w : World) (A : Option Addr) (n cap : Nat) (W : World) : Prop where
  below : Below w.heap.size w W
  h : W.heap[w.heap.size]? = some (.cells #[.slice A n cap] 24 (0, 0))
  r : W.heap[w.heap.size + 1]? = some (.cells ozA 37 (0, 0))
theorem Ow.up {w : World} {A : Option Addr} {n cap : Nat} {W W' : World} (h : Ow w A n cap W) (hb : Below W.heap.size W W') : Ow w A n cap W' := ⟨vb h.below hb, vblkn hb h.h, vblkn hb h.r⟩
theorem ow_start (w : World) (A : Option Addr) (n cap : Nat) : Ow w A n cap ((w.alloc (.cells #[.slice A n cap] 24)).alloc (.cells ozA 37)) := by
  obtain ⟨b1, b2⟩ := vblk2 (w := w) (Below.refl _ ((w.alloc (.cells #[.slice A n cap] 24)).alloc (.cells ozA 37)))
  exact ⟨vafter (vzero _ _), b1, b2⟩
noncomputable def ofE (H : List Ob) (n : Int) : Int := orE (chkH H) (thE H n)
/-- an object with its properties in block g -/
def Ob.at (o : Ob) (g : Nat) : Ob := { o with pa := some ⟨g, 0, none⟩, pc := o.props.length }
def OfTo (H : List Ob) (n : Int) (w : World) (e : Ending) (w' : World) : Prop := Below w.heap.size w w' ∧ ((ofE H n ≠ 0 ∧ e = .returned (.tuple #[.agg (obA oZ), .int .i64 (ofE H n)])) ∨
  (ofE H n = 0 ∧ ∃ (h : n.toNat < H.length) (g : Nat), e = .returned (.tuple #[.agg (obA (H[n.toNat].at g)), .int .i64 0]) ∧ w'.heap[g]? = some (.cells (prCells H[n.toNat].props).toArray 68 (0, 0))))
theorem of_end {f : Func} {i j : Nat} {t : TypeId} {Q : Ending → World → Prop} {tmps : Array Value} {W : World} {g : Nat} {o : Ob} {y : Int} (hf : f.results = #[.cell i 37, .tmp j])
    (h2 : tmps[i]?.getD undef = .pointer (some ⟨g, 0, none⟩)) (h3 : tmps[j]?.getD undef = .int .i64 y) (hb : W.heap[g]? = some (.cells (obA o) t (0, 0))) (hQ : Q (.returned (.tuple #[.agg (obA o), .int .i64 y])) W) :
    bodyPost Tryz.prog f Q .ret { tmps := tmps, defers := [] } W := by
  have hl := run_loadVar_row (P := Tryz.prog) W g t 37 (obA o) (0, 0) _ hb Tryz.underlying37 rfl osz
  refine bodyPost_ret (v := .tuple #[.agg (obA o), .int .i64 y]) ?_ rfl hQ
  simp [h2, h3, results, hf, hl, asAddr]
theorem obA_at (o : Ob) (g : Nat) : (obA o).setIfInBounds 6 (.slice (some ⟨g, 0, none⟩) o.props.length o.props.length) = obA (o.at g) := rfl
section
variable {ops : Array Oper} {rest : List Oper} {o : Oper} {a : Act} {w : World} {Q : Exit → Act → World → Prop} {x y : Operand} {t : TypeId}
theorem sl_store {cs : Array Value} {P : Option Addr} {B g m n c : Nat} {w0 : World} (hgd : o.guard = none) (ho : o.op = .store 35 x y) (hx : a.eval x = .pointer (some ⟨g, m, none⟩)) (hy : a.eval y = .slice P n c) (hg : w.heap[g]? = some (.cells cs t (0, 0))) (hm : m < cs.size) (hB : Below B w0 w) (hBg : B ≤ g)
    (h : ∀ W : World, Below B w0 W → W.heap[g]? = some (.cells (cs.setIfInBounds m (.slice P n c)) t (0, 0)) → (∀ j, j ≠ g → W.heap[j]? = w.heap[j]?) → W.heap.size = w.heap.size → wpList Tryz.prog ops Q rest (a.put o.dst undef) W) : wpList Tryz.prog ops Q (o :: rest) a w := by
  have hc : w.cell? ⟨g, m, none⟩ = some cs[m] := by rw [vcells hg m]; simp [hm]
  have hf : w.frozen? ⟨g, m, none⟩ = false := by simp [World.frozen?, hg]
  refine wpList_plain hgd fun K hK => ?_
  have hr : (Instr.storeAt 35 (.pointer (some ⟨g, m, none⟩)) (.slice P n c)).run Tryz.prog w = .ok () (w.setCell ⟨g, m, none⟩ (.slice P n c)) := by simp [go_sem, hc, hf]
  unfold Oper.wp execOp
  simp only [ho, hx, hy, hr, Sem.run_bind, Sem.run_pure, Result.andThen_ok]
  refine hK _ _ (h _ (hB.setCell (p := ⟨g, m, none⟩) hBg _) (vset1 hg m _) (fun j hj => ?_) (by simp))
  exact Below.heap_setCell w ⟨g, m, none⟩ _ j hj
end
set_option maxHeartbeats 4000000 in
set_option maxRecDepth 1000000 in
theorem Of_h (A : Option Addr) (H : List Ob) (cap : Nat) (n : Int) (w : World) (hH : HIn w A H cap) (hp : ∀ o ∈ H, o.props.length ≤ 100000) (htab : TabHere w) :
    Calls Tryz.prog 7 #[.agg #[.slice A H.length cap], .int .i64 n] w (OfTo H n w) := by
  have HN := Lib.hid (ow_start w A H.length cap)
  have cC := fun W (hb : Below w.heap.size w W) => Check_h A H cap W (hH.up hb) (tab_up htab hb)
  have cT : ∀ W, Calls Tryz.prog 21 #[.agg #[.slice A H.length cap], .int .i64 n] W fun e w' => e = .returned (.int .i64 (thE H n)) ∧ Below W.heap.size W w' := fun W => there_h H A cap n W
  have hi1 : ∀ o : Ob, (Tryz.prog.info? 37).map (·.size) = some (obA o).size := fun _ => osz
  have hofe : ofE H n = orE (chkH H) (thE H n) := rfl
  have hthz := fun h => th_zero (H := H) (n := n) h
  have HH := Lib.hid hH
  clear hH
  generalize hx : chkH H = x at *
  generalize thE H n = y at *
  go_enter Tryz.func7, Tryz.ntmps7
  go_upto_region 1 with (fail)
  have hS : Ow w A H.length cap _ := HN.out.up (Below.refl _ _).drew
  refine wp_region_held_drew (S := Ow w A H.length cap) (by kernel_rfl) hS (fun hHeld => ?_)
  refine hH_take (i := 0) (v := .agg #[.slice A H.length cap]) (d := 8) (l2 := #[true, false, false, false, false, false, false, false]) rfl (by kernel_rfl) (by kernel_rfl) (by kernel_rfl) (fun _ _ _ h => h) (by kernel_rfl) (fun w hSw => ?_) (by assumption) rfl (by kernel_rfl) ?_
  · exact ex_load_at (h1_load hSw.h) rfl rfl
  simp only [List.set]
  refine hH_take (i := 2) (v := .agg #[.slice A H.length cap]) (d := 10) (l2 := #[true, false, true, false, false, false, false, false]) rfl (by kernel_rfl) (by kernel_rfl) (by kernel_rfl) (fun _ _ _ h => h) (by kernel_rfl) (fun w hSw => ?_) (by assumption) rfl (by kernel_rfl) ?_
  · exact ex_load_at (h1_load hSw.h) rfl rfl
  simp only [List.set]
  refine hH_take (i := 3) (v := .int .i64 n) (d := 11) (l2 := #[true, false, true, true, false, false, false, false]) rfl (by kernel_rfl) (by kernel_rfl) (by kernel_rfl) (fun _ _ _ h => h) (by kernel_rfl) (fun w hSw => ?_) (by assumption) rfl (by kernel_rfl) ?_
  · go_simp
  simp only [List.set]
  refine wpAnyH_ready (rs := [1]) (by kernel_rfl) (by simp) ?_
  refine AllReadyH.cons rfl (fun K hK => ?_) AllReadyH.nil
  go_simp
  go_at_call 6
  (with_reducible refine (cC _ hS.below).mono ?_)
  rintro e w1 ⟨rfl, h1⟩
  have hS := hS.up h1
  clear h1
  refine hK.out _ _ hS (fun hHeld => ?_)
  clear hK K
  refine wpAnyH_ready (rs := [4]) (by kernel_rfl) (by simp) ?_
  refine AllReadyH.cons rfl (fun K hK => ?_) AllReadyH.nil
  go_simp
  go_at_call 21
  (with_reducible refine (cT _).mono ?_)
  rintro e w1 ⟨rfl, h1⟩
  have hS := hS.up h1
  clear h1
  refine hK.out _ _ hS (fun hHeld => ?_)
  clear hK K
  refine wpAnyH_ready (rs := [5]) (by kernel_rfl) (by simp) ?_
  refine AllReadyH.cons rfl (fun K hK => ?_) AllReadyH.nil
  go_simp
  have hS := hS.up (vzero _ (.cells #[.int .i64 x, .int .i64 y] 30))
  have hO := orS_new w1 x y
  refine hK.out _ _ hS (fun hHeld => ?_)
  clear hK K
  refine wpAnyH_ready (rs := [6]) (by kernel_rfl) (by simp) ?_
  refine AllReadyH.cons rfl (fun K hK => ?_) AllReadyH.nil
  go_simp
  go_at_call 20
  (with_reducible refine (Or_2 _ x y _ hO.1 hO.2).mono ?_)
  rintro e w2 ⟨rfl, rfl⟩
  refine hK.out _ _ hS (fun hHeld => ?_)
  clear hK K
  refine hH_take (i := 7) (v := .int .i64 (orE x y)) (d := 6) (l2 := #[true, true, true, true, true, true, true, true]) rfl (by kernel_rfl) (by kernel_rfl) (by kernel_rfl) (fun _ _ _ h => h) (by kernel_rfl) (fun w hSw => ?_) (by assumption) rfl (by kernel_rfl) ?_
  · go_simp
  simp only [List.set]
  refine wpAnyH_done (by kernel_rfl) ?_ _
  clear hO
  have HN := Lib.hid hS
  clear hS hHeld
  generalize w1.alloc (.cells #[.int .i64 x, .int .i64 y] 30) = W0 at *
  have HE := Lib.hid hofe
  clear hofe
  by_cases h0 : orE x y = 0
  · obtain ⟨hx0, hy0⟩ := orE_zero h0
    have hin := hthz hy0
    obtain ⟨k, rfl⟩ := Int.eq_ofNat_of_zero_le hin.1
    have hkz : (k : Int) < (H.length : Int) := hin.2
    have hk0 : (0 : Int) ≤ (k : Int) := hin.1
    have hkl : k < H.length := by omega
    rw [h0] at HE ⊢
    have hkn : ((k : Int)).toNat = k := Int.toNat_natCast k
    have hpk := hp H[k] (List.getElem_mem hkl)
    obtain ⟨a, rfl, hab, hof, hP⟩ := HH.out.at hkl
    have hoc := of_back hof
    have HOQ := Lib.hid (show ∃ o, o = H[k] from ⟨_, rfl⟩)
    obtain ⟨q, hq⟩ : ∃ q, q = H[k] := ⟨_, rfl⟩
    rw [← hq] at hof hP hpk hoc
    have HQ := Lib.hid hq
    have cP := fun W (hb : Below w.heap.size w W) => copiedP_h q.pa q.props.length q.pc (prCells q.props) W (pr_r18 (pr_up hP hb)) (by omega)
    clear hq hin hthz hx0 hy0 h0 cT cC HOQ hp
    have hq0 : W0.cell? ⟨w.heap.size, 0, none⟩ = some (.slice (some a) H.length cap) := (vcells HN.out.h 0).trans rfl
    have hcl := fun W (hb : Below w.heap.size w W) j u hu => (hb.cell (p := (a.add (k * 18)).add j) (by rw [add_blk]; exact hab)).trans (hoc j u hu)
    have hc5 := hcl _ HN.out.below
    go_wp2_with (first
      | ((with_reducible refine oa_load ?_ rfl rfl hc5 ?_); (rfl))
      | ((with_reducible refine t_store rfl rfl rfl rfl (heap_alloc_new W0 _) (hi1 q) ?_ (obA_one q) (vzero W0 _) (Nat.le_refl _) ?_); (rfl); intro W1 hb1 hW1 _ _; have HN1 := Lib.hid (HN.out.up hb1); have q6 : W1.cell? ⟨W0.heap.size, 6, none⟩ = some (.slice q.pa q.props.length q.pc) := (vcells hW1 6).trans rfl; have HB1 := Lib.hid hb1; clear hb1)
      | (go_at_call 22; (with_reducible refine (cP _ HN1.out.below).mono ?_); rintro e W2 ⟨g, rfl, hg1, hg2, h9⟩; have HN2 := Lib.hid (HN1.out.up h9); have hB2 := HN2.out.below; have hw7 := vblkn h9 hW1; have hlt7 := lt_blk hW1; have hle0 := HN.out.below.size; have HG2 := Lib.hid hg2; clear h9)
      | ((with_reducible refine sl_store rfl rfl rfl rfl hw7 (by rw [obA_size]; omega) hB2 hle0 ?_); intro W3 hb3 hW3 hO3 _; have hW3b := (obA_at q g) ▸ hW3; have hr3 := (hO3 _ (by have := lt_blk HN.out.r; omega)).trans HN2.out.r; have hg3 := (hO3 g (by omega)).trans HG2.out)
      | ((with_reducible refine ob_load ?_ rfl rfl hW3b ?_); (rfl))
      | ((with_reducible refine t_store rfl rfl rfl rfl hr3 (hi1 _) ?_ (obA_one (q.at g)) hb3 (by omega) ?_); (rfl); intro W6 hb6 hW6 hO6 _))
    refine of_end Tryz.results7 rfl rfl hW6 ⟨hb6, .inr ⟨HE.out, by rw [hkn]; exact hkl, g, ?_, ?_⟩⟩
    · simp only [hkn, ← HQ.out]
    · simp only [hkn, ← HQ.out]
      exact (hO6 g (by have := lt_blk HN.out.r; omega)).trans hg3
  · have hzb : (orE x y != 0) = true := by unfold bne; rw [beq_eq_false_iff_ne.2 h0]; rfl
    have HZ := Lib.hid h0
    have hr := HN.out.r
    have hB := HN.out.below
    clear h0 cT cC
    generalize orE x y = E at *
    have hoz : Value.agg (obA oZ) = Value.agg (obA oZ) := rfl
    go_wp2_with ((with_reducible refine t_store rfl rfl rfl rfl hr (hi1 oZ) ?_ (obA_one oZ) hB (by omega) ?_); (rfl); intro W6 hb6 hW6 hO6 _)
    exact of_end Tryz.results7 rfl rfl hW6 ⟨hb6, .inl ⟨by rw [HE.out]; exact HZ.out, by rw [HE.out]⟩⟩
end Go.Proofs.YtlfbflclefndjaaGreatDoor.S
/-
  HeapKeeps: heaps that lie somewhere, held against one another.
-/
namespace Go.Proofs.YtlfbflclefndjaaGreatDoor.S
open Go.RowKit Go.Lib Fl
open Classical

/-- a heap lies there -/
structure HL (w : World) (A : Option Addr) (M : List Ob) : Prop where
  row : ORow w A M
  pr : ∀ o ∈ M, PR w o.pa o.props
  few : ∀ o ∈ M, o.props.length ≤ 100000
theorem HL.up {w W : World} {A : Option Addr} {M : List Ob} (h : HL w A M) (hb : Below w.heap.size w W) : HL W A M := ⟨h.row.up hb, fun o ho => pr_up (h.pr o ho) hb, h.few⟩
theorem HL.take {w : World} {A : Option Addr} {M : List Ob} (h : HL w A M) (n : Nat) : HL w A (M.take n) := by
  refine ⟨fun hp => ?_, fun o ho => h.pr o (List.mem_of_mem_take ho), fun o ho => h.few o (List.mem_of_mem_take ho)⟩
  rw [List.length_take] at hp
  obtain ⟨a, h1, h2, h3⟩ := h.row (by omega)
  refine ⟨a, h1, h2, fun i hi j u hu => ?_⟩
  rw [List.length_take] at hi
  rw [List.getElem_take] at hu
  exact h3 i (by omega) j u hu
theorem HL.drop {w : World} {B : Nat} {M : List Ob} (h : HL w (some ⟨B, 0, none⟩) M) (n : Nat) : HL w (some ⟨B, n * 18, none⟩) (M.drop n) := by
  refine ⟨fun hp => ?_, fun o ho => h.pr o (List.mem_of_mem_drop ho), fun o ho => h.few o (List.mem_of_mem_drop ho)⟩
  rw [List.length_drop] at hp
  obtain ⟨a, h1, h2, h3⟩ := h.row (by omega)
  obtain rfl := Option.some.inj h1
  refine ⟨_, rfl, h2, fun i hi j u hu => ?_⟩
  rw [List.length_drop] at hi
  rw [List.getElem_drop] at hu
  have := h3 (n + i) (by omega) j u hu
  have e : ((⟨B, 0, none⟩ : Addr).add ((n + i) * 18)).add j = ((⟨B, n * 18, none⟩ : Addr).add (i * 18)).add j := by
    rw [add_add, add_add, Addr.add_mid, Addr.add_mid]
    congr 1
    omega
  rw [← e]
  exact this
section
variable {ops : Array Oper} {rest : List Oper} {o : Oper} {a : Act} {w : World} {Q : Exit → Act → World → Prop} {x y : Operand}
end
end Go.Proofs.YtlfbflclefndjaaGreatDoor.S
/-
  ordinary: kind, plain, eight, there.
-/
namespace Go.Proofs.YtlfbflclefndjaaGreatDoor.S
open Go.RowKit Go.Lib Fl
open Classical

def kindP (o : Ob) : Int := bif o.makes then 8 else bif o.calls then 7 else 6
theorem kind_o (o : Ob) (w : World) : Calls Tryz.prog 88 #[.agg (obA o)] w fun e w' => e = .returned (.int .u8 (kindP o)) ∧ Below w.heap.size w w' := by
  have hb := heap_alloc_new w (.cells (obA o) 37)
  have h1 : (w.alloc (.cells (obA o) 37)).cell? ⟨w.heap.size, 17, none⟩ = some (.bool o.makes) := (vcells hb 17).trans rfl
  have h2 : (w.alloc (.cells (obA o) 37)).cell? ⟨w.heap.size, 16, none⟩ = some (.bool o.calls) := (vcells hb 16).trans rfl
  have hB := vzero w (.cells (obA o) 37)
  unfold kindP
  cases e1 : o.makes <;> cases e2 : o.calls
  all_goals
    rw [e1] at h1
    rw [e2] at h2
    go_enter Tryz.func88, Tryz.ntmps88
    go_wp2
    go_ret
    exact ⟨rfl, hB⟩
def plainK (k : Int) : Bool := k == 1 || (k == 4 || k == 5)
theorem plain_o (o : Ob) (w : World) : Calls Tryz.prog 38 #[.agg (obA o)] w fun e w' => e = .returned (.bool (plainK o.kind)) ∧ Below w.heap.size w w' := by
  have hb := heap_alloc_new w (.cells (obA o) 37)
  have h1 : (w.alloc (.cells (obA o) 37)).cell? ⟨w.heap.size, 0, none⟩ = some (.int .u8 o.kind) := (vcells hb 0).trans rfl
  have hB := vzero w (.cells (obA o) 37)
  unfold plainK
  cases e1 : (o.kind == 1) <;> cases e2 : (o.kind == 4) <;> cases e3 : (o.kind == 5)
  all_goals
    go_enter Tryz.func38, Tryz.ntmps38
    go_wp2
    go_ret
    exact ⟨rfl, hB⟩
def eightM (m : Int) : Bool := m == 1 || (m == 2 || (m == 3 || (m == 4 || (m == 5 || (m == 6 || (m == 10 || m == 11))))))
theorem eight_o (m : Int) (w : World) : Calls Tryz.prog 36 #[.int .u8 m] w fun e w' => e = .returned (.bool (eightM m)) ∧ w' = w := by
  unfold eightM
  cases e1 : (m == 1)
  · cases e2 : (m == 2)
    · cases e3 : (m == 3)
      · cases e4 : (m == 4)
        · cases e5 : (m == 5)
          · cases e6 : (m == 6)
            · cases e7 : (m == 10)
              · cases e8 : (m == 11)
                all_goals
                  go_enter Tryz.func36, Tryz.ntmps36
                  go_wp2
                  go_ret
                  exact ⟨rfl, rfl⟩
              · go_enter Tryz.func36, Tryz.ntmps36
                go_wp2
                go_ret
                exact ⟨rfl, rfl⟩
            · go_enter Tryz.func36, Tryz.ntmps36
              go_wp2
              go_ret
              exact ⟨rfl, rfl⟩
          · go_enter Tryz.func36, Tryz.ntmps36
            go_wp2
            go_ret
            exact ⟨rfl, rfl⟩
        · go_enter Tryz.func36, Tryz.ntmps36
          go_wp2
          go_ret
          exact ⟨rfl, rfl⟩
      · go_enter Tryz.func36, Tryz.ntmps36
        go_wp2
        go_ret
        exact ⟨rfl, rfl⟩
    · go_enter Tryz.func36, Tryz.ntmps36
      go_wp2
      go_ret
      exact ⟨rfl, rfl⟩
  · go_enter Tryz.func36, Tryz.ntmps36
    go_wp2
    go_ret
    exact ⟨rfl, rfl⟩
noncomputable def inB (H : List Ob) (n : Int) : Bool := decide (0 ≤ n ∧ n < (H.length : Int))
theorem there_o (H : List Ob) (A : Option Addr) (cap : Nat) (n : Int) (w : World) : Calls Tryz.prog 37 #[.agg #[.slice A H.length cap], .int .i64 n] w fun e w' => e = .returned (.bool (inB H n)) ∧ Below w.heap.size w w' := by
  have hb := heap_alloc_new w (.cells #[.slice A H.length cap] 24)
  have q0 : (w.alloc (.cells #[.slice A H.length cap] 24)).cell? ⟨w.heap.size, 0, none⟩ = some (.slice A H.length cap) := (vcells hb 0).trans rfl
  have hB := vzero w (.cells #[.slice A H.length cap] 24)
  unfold inB
  by_cases c : 0 ≤ n
  · by_cases d : n < (H.length : Int)
    · rw [decide_eq_true ⟨c, d⟩]
      go_enter Tryz.func37, Tryz.ntmps37
      go_wp2
      go_ret
      exact ⟨rfl, hB⟩
    · rw [decide_eq_false (fun h => d h.2)]
      go_enter Tryz.func37, Tryz.ntmps37
      go_wp2
      go_ret
      exact ⟨rfl, hB⟩
  · rw [decide_eq_false (fun h => c h.1)]
    go_enter Tryz.func37, Tryz.ntmps37
    go_wp2
    go_ret
    exact ⟨rfl, hB⟩
theorem kind_eq {H : List Ob} {o : Ob} {n : Nat} (h : mayB H o n = true) : kindP o = kindO o := by
  unfold mayB at h
  simp only [Bool.and_eq_true] at h
  have hf := h.2.2.2
  unfold fitsB at hf
  unfold kindP kindO
  cases e1 : o.calls <;> cases e2 : o.makes
  · rfl
  · exfalso
    have hk : kindO o = 0 := by unfold kindO; rw [e1, e2]; rfl
    rw [hk, e1] at hf
    cases k1 : o.kind == 1 <;> rw [k1] at hf
    · cases k2 : o.kind == 2 <;> rw [k2] at hf
      · cases k3 : o.kind == 3 <;> rw [k3] at hf
        · cases k4 : o.kind == 4 <;> rw [k4] at hf
          · cases k5 : o.kind == 5 <;> rw [k5] at hf
            · cases k6 : o.kind == 6 <;> rw [k6] at hf
              · exact absurd hf (by simp)
              · simp only [cond_true, cond_false, Bool.and_eq_true] at hf
                have hl := hf.2.2.2.2
                unfold leadsB at hl
                rw [hk] at hl
                cases c : (o.target.k == 1 && o.handler.k == 1) with
                | true => rw [c] at hl; exact absurd hl (by simp)
                | false =>
                  rw [c] at hl
                  simp only [cond_false, Bool.and_eq_true, beq_iff_eq] at hl
                  have ha := hl.1
                  unfold aheadB objQ at ha
                  rw [← hl.2.2] at ha
                  exact absurd ha (by simp)
            · exact absurd hf (by simp)
          · exact absurd hf (by simp)
        · exact absurd hf (by simp)
      · exact absurd hf (by simp)
    · exact absurd hf (by simp)
  · rfl
  · rfl
end Go.Proofs.YtlfbflclefndjaaGreatDoor.S
/-
  ordinary: holds.
-/
namespace Go.Proofs.YtlfbflclefndjaaGreatDoor.S
open Go.RowKit Go.Lib Fl
open Classical

theorem h1_load2 {W : World} {v : Value} {g : Nat} (h : W.cell? ⟨g, 0, none⟩ = some v) : (Instr.loadAt 24 (.pointer (some ⟨g, 0, none⟩))).run Tryz.prog W = .ok (.agg #[v]) W :=
  run_loadAt_at (A := ⟨g, 0, none⟩) (cs := [v]) (fun j u hu => by
    match j, hu with
    | 0, hu => rw [Addr.add_mid]; cases hu; exact h
    | j + 1, hu => cases hu) Tryz.underlying24 rfl hsz
theorem oa_at {W : World} {A : Addr} {o : Ob} (h : ∀ j u, (ocl o)[j]? = some u → W.cell? (A.add j) = some u) : (Instr.loadAt 37 (.pointer (some A))).run Tryz.prog W = .ok (.agg (obA o)) W :=
  run_loadAt_at (cs := ocl o) h Tryz.underlying37 rfl osz
set_option maxHeartbeats 4000000 in
set_option maxRecDepth 1000000 in
theorem holds_o (A : Option Addr) (H : List Ob) (cap : Nat) (v : Vq) (w : World) (hH : HIn w A H cap) (hmH : mayH H = true) (hv : v.In) : Calls Tryz.prog 69 #[.agg #[.slice A H.length cap], .agg #[.int .u8 v.k, .float .f64 v.x, .string v.s, .int .i64 v.r]] w fun e w' => e = .returned (.bool (holdsB H v)) ∧ Below w.heap.size w w' := by
  have c1 := fun w => may_i (sa := v.s) hv w
  have c2 := fun w => IsObject_q v hv.1 w
  have HS := Lib.hid (hh_start w A H.length cap v.k v.x v.s v.r)
  have hmay : v.may = mayI v.k v.x v.s v.r := rfl
  rw [← hmay] at c1
  unfold holdsB
  obtain ⟨q0, q1, q2, q3, _⟩ := vc4 HS.out.v
  cases hm : v.may with
  | false =>
    rw [hm] at c1
    go_enter Tryz.func69, Tryz.ntmps69
    go_wp2_with (go_at_call 57; (with_reducible refine (c1 _).mono ?_); rintro e w1 ⟨rfl, h9⟩; have HS := Lib.hid (HS.out.up h9); obtain ⟨q0, q1, q2, q3, _⟩ := vc4 HS.out.v; clear h9)
    go_ret
    exact ⟨rfl, HS.out.below⟩
  | true =>
    rw [hm] at c1
    have hr0 := fun ho => ok_ref (may_ok hm) ho
    cases ho : objQ v with
    | false =>
      rw [ho] at c2
      go_enter Tryz.func69, Tryz.ntmps69
      go_wp2_with (first
        | (go_at_call 57; (with_reducible refine (c1 _).mono ?_); rintro e w1 ⟨rfl, h9⟩; have HS := Lib.hid (HS.out.up h9); obtain ⟨q0, q1, q2, q3, _⟩ := vc4 HS.out.v; clear h9)
        | (go_at_call 26; (with_reducible refine (c2 _).mono ?_); rintro e w2 ⟨rfl, h9⟩; have HS := Lib.hid (HS.out.up h9); obtain ⟨q0, q1, q2, q3, _⟩ := vc4 HS.out.v; clear h9))
      go_ret
      exact ⟨rfl, HS.out.below⟩
    | true =>
      rw [ho] at c2
      obtain ⟨n, hn⟩ := Int.eq_ofNat_of_zero_le (hr0 ho)
      have cT := fun W => there_o H A cap (n : Int) W
      by_cases hlt : n < H.length
      · rw [holds_at hlt hn]
        have hin : inB H (n : Int) = true := decide_eq_true ⟨by omega, by omega⟩
        rw [hin] at cT
        have cKd : ∀ W, Calls Tryz.prog 88 #[.agg (obA H[n])] W fun e w' => e = .returned (.int .u8 (kindO H[n])) ∧ Below W.heap.size W w' := fun W => by
          have := kind_o H[n] W
          rwa [kind_eq ((mayH_iff.1 hmH).2.1 n hlt)] at this
        obtain ⟨a, rfl, hab, hof, _⟩ := hH.at hlt
        have hoc := of_back hof
        generalize H[n] = o at *
        have hcl := fun W (hb : Below w.heap.size w W) j u hu => (hb.cell (p := (a.add (n * 18)).add j) (by rw [add_blk]; exact hab)).trans (hoc j u hu)
        obtain ⟨k, x, s, r⟩ := v
        dsimp only at *
        subst hn
        have hlz : (n : Int) < (H.length : Int) := by omega
        have hl0 : (0 : Int) ≤ (n : Int) := by omega
        clear hr0 hm ho hmay hin hof hoc hab hH hmH
        go_enter Tryz.func69, Tryz.ntmps69
        go_wp2_with (first
          | (go_at_call 57; (with_reducible refine (c1 _).mono ?_); rintro e w1 ⟨rfl, h9⟩; have HS := Lib.hid (HS.out.up h9); obtain ⟨q0, q1, q2, q3, _⟩ := vc4 HS.out.v; clear h9)
          | (go_at_call 26; (with_reducible refine (c2 _).mono ?_); rintro e w2 ⟨rfl, h9⟩; have HS := Lib.hid (HS.out.up h9); obtain ⟨q0, q1, q2, q3, _⟩ := vc4 HS.out.v; clear h9))
        have hS : Hh w (some a) H.length cap k x s (n : Int) (World.drew _) := HS.out.up (Below.refl _ _).drew
        refine wp_region_held_drew (S := Hh w (some a) H.length cap k x s (n : Int)) (by kernel_rfl) hS (fun hHeld => ?_)
        refine hH_take (i := 0) (v := .agg #[.slice (some a) H.length cap]) (d := 12) (l2 := #[true, false, false, false, false, false, false, false, false, false, false, false, false, false, false, false, false]) rfl (by kernel_rfl) (by kernel_rfl) (by kernel_rfl) (fun _ _ _ h => h) (by kernel_rfl) ?_ (by assumption) rfl (by kernel_rfl) ?_
        · intro w hSw; exact ex_load_at (h1_load2 hSw.h) rfl rfl
        simp only [List.set]
        refine hH_take (i := 1) (v := ?_) (d := 13) (l2 := #[true, true, false, false, false, false, false, false, false, false, false, false, false, false, false, false, false]) rfl (by kernel_rfl) (by kernel_rfl) (by kernel_rfl) (fun _ _ _ h => h) (by kernel_rfl) ?_ (by assumption) rfl (by kernel_rfl) ?_
        rotate_left
        · intro w hSw; (try dsimp only at hSw); go_simp; (try with_reducible rfl)
        simp only [List.set]
        refine hH_take (i := 2) (v := ?_) (d := 14) (l2 := #[true, true, true, false, false, false, false, false, false, false, false, false, false, false, false, false, false]) rfl (by kernel_rfl) (by kernel_rfl) (by kernel_rfl) (fun _ _ _ h => h) (by kernel_rfl) ?_ (by assumption) rfl (by kernel_rfl) ?_
        rotate_left
        · intro w hSw; have q := (vc4 hSw.v).2.2.2.1; go_simp; (try with_reducible rfl)
        simp only [List.set]
        refine wpAnyH_ready (rs := [3]) (by kernel_rfl) (by simp) ?_
        refine AllReadyH.cons rfl (fun K hK => ?_) AllReadyH.nil
        go_simp
        (go_at_call 37; (with_reducible refine (cT _).mono ?_); rintro e wt ⟨rfl, h9⟩; have hS := hS.up h9; clear h9)
        refine hK.out _ _ hS (fun hHeld => ?_)
        clear hK K
        refine hH_take (i := 4) (v := ?_) (d := 16) (l2 := #[true, true, true, true, true, false, false, false, false, false, false, false, false, false, false, false, false]) rfl (by kernel_rfl) (by kernel_rfl) (by kernel_rfl) (fun _ _ _ h => h) (by kernel_rfl) ?_ (by assumption) rfl (by kernel_rfl) ?_
        rotate_left
        · intro w hSw; (try dsimp only at hSw); go_simp; (try with_reducible rfl)
        simp only [List.set]
        refine hH_take (i := 5) (v := ?_) (d := 17) (l2 := #[true, true, true, true, true, true, false, false, false, false, false, false, false, false, false, false, false]) rfl (by kernel_rfl) (by kernel_rfl) (by kernel_rfl) (fun _ _ _ h => h) (by kernel_rfl) ?_ (by assumption) rfl (by kernel_rfl) ?_
        rotate_left
        · intro w hSw; (try dsimp only at hSw); go_simp; (try with_reducible rfl)
        simp only [List.set]
        refine hH_take (i := 6) (v := ?_) (d := 18) (l2 := #[true, true, true, true, true, true, true, false, false, false, false, false, false, false, false, false, false]) rfl (by kernel_rfl) (by kernel_rfl) (by kernel_rfl) (fun _ _ _ h => h) (by kernel_rfl) ?_ (by assumption) rfl (by kernel_rfl) ?_
        rotate_left
        · intro w hSw; have q := (vc4 hSw.v).1; go_simp; (try with_reducible rfl)
        simp only [List.set]
        refine hH_take (i := 7) (v := ?_) (d := 19) (l2 := #[true, true, true, true, true, true, true, true, false, false, false, false, false, false, false, false, false]) rfl (by kernel_rfl) (by kernel_rfl) (by kernel_rfl) (fun _ _ _ h => h) (by kernel_rfl) ?_ (by assumption) rfl (by kernel_rfl) ?_
        rotate_left
        · intro w hSw; (try dsimp only at hSw); go_simp; (try with_reducible rfl)
        simp only [List.set]
        refine hH_take (i := 8) (v := ?_) (d := 20) (l2 := #[true, true, true, true, true, true, true, true, true, false, false, false, false, false, false, false, false]) rfl (by kernel_rfl) (by kernel_rfl) (by kernel_rfl) (fun _ _ _ h => h) (by kernel_rfl) ?_ (by assumption) rfl (by kernel_rfl) ?_
        rotate_left
        · intro w hSw; have q := hSw.h; go_simp; (try with_reducible rfl)
        simp only [List.set]
        refine hH_take (i := 9) (v := ?_) (d := 21) (l2 := #[true, true, true, true, true, true, true, true, true, true, false, false, false, false, false, false, false]) rfl (by kernel_rfl) (by kernel_rfl) (by kernel_rfl) (fun _ _ _ h => h) (by kernel_rfl) ?_ (by assumption) rfl (by kernel_rfl) ?_
        rotate_left
        · intro w hSw; (try dsimp only at hSw); go_simp; (try with_reducible rfl)
        simp only [List.set]
        refine hH_take (i := 10) (v := ?_) (d := 22) (l2 := #[true, true, true, true, true, true, true, true, true, true, true, false, false, false, false, false, false]) rfl (by kernel_rfl) (by kernel_rfl) (by kernel_rfl) (fun _ _ _ h => h) (by kernel_rfl) ?_ (by assumption) rfl (by kernel_rfl) ?_
        rotate_left
        · intro w hSw; have q := (vc4 hSw.v).2.2.2.1; go_simp; (try with_reducible rfl)
        simp only [List.set]
        refine hH_take (i := 11) (v := ?_) (d := 23) (l2 := #[true, true, true, true, true, true, true, true, true, true, true, true, false, false, false, false, false]) rfl (by kernel_rfl) (by kernel_rfl) (by kernel_rfl) (fun _ _ _ h => h) (by kernel_rfl) ?_ (by assumption) rfl (by kernel_rfl) ?_
        rotate_left
        · intro w hSw; (try dsimp only at hSw); go_simp; (try with_reducible rfl)
        simp only [List.set]
        refine hH_take (i := 12) (v := .agg (obA o)) (d := 24) (l2 := #[true, true, true, true, true, true, true, true, true, true, true, true, true, false, false, false, false]) rfl (by kernel_rfl) (by kernel_rfl) (by kernel_rfl) (fun _ _ _ h => h) (by kernel_rfl) ?_ (by assumption) rfl (by kernel_rfl) ?_
        · intro w hSw; exact ex_load_at (oa_at (hcl _ hSw.below)) rfl rfl
        simp only [List.set]
        refine wpAnyH_ready (rs := [13]) (by kernel_rfl) (by simp) ?_
        refine AllReadyH.cons rfl (fun K hK => ?_) AllReadyH.nil
        go_simp
        (go_at_call 88; (with_reducible refine (cKd _).mono ?_); rintro e wk ⟨rfl, h9⟩; have hS := hS.up h9; clear h9)
        refine hK.out _ _ hS (fun hHeld => ?_)
        clear hK K
        refine hH_take (i := 14) (v := ?_) (d := 26) (l2 := #[true, true, true, true, true, true, true, true, true, true, true, true, true, true, true, false, false]) rfl (by kernel_rfl) (by kernel_rfl) (by kernel_rfl) (fun _ _ _ h => h) (by kernel_rfl) ?_ (by assumption) rfl (by kernel_rfl) ?_
        rotate_left
        · intro w hSw; (try dsimp only at hSw); go_simp; (try with_reducible rfl)
        simp only [List.set]
        refine hH_take (i := 15) (v := ?_) (d := 27) (l2 := #[true, true, true, true, true, true, true, true, true, true, true, true, true, true, true, true, false]) rfl (by kernel_rfl) (by kernel_rfl) (by kernel_rfl) (fun _ _ _ h => h) (by kernel_rfl) ?_ (by assumption) rfl (by kernel_rfl) ?_
        rotate_left
        · intro w hSw; (try dsimp only at hSw); go_simp; (try with_reducible rfl)
        simp only [List.set]
        refine hH_take (i := 16) (v := ?_) (d := 4) (l2 := #[true, true, true, true, true, true, true, true, true, true, true, true, true, true, true, true, true]) rfl (by kernel_rfl) (by kernel_rfl) (by kernel_rfl) (fun _ _ _ h => h) (by kernel_rfl) ?_ (by assumption) rfl (by kernel_rfl) ?_
        rotate_left
        · intro w hSw; (try dsimp only at hSw); go_simp; (try with_reducible rfl)
        simp only [List.set]
        refine wpAnyH_done (by kernel_rfl) ?_ _
        go_wp2_with (fail)
        go_ret
        exact ⟨rfl, hS.below⟩
      · rw [holds_out hlt hn]
        have hin : inB H (n : Int) = false := decide_eq_false (fun h => hlt (by omega))
        rw [hin] at cT
        obtain ⟨k, x, s, r⟩ := v
        dsimp only at *
        subst hn
        clear hr0 hm ho hmay hin hH hmH hlt
        go_enter Tryz.func69, Tryz.ntmps69
        go_wp2_with (first
          | (go_at_call 57; (with_reducible refine (c1 _).mono ?_); rintro e w1 ⟨rfl, h9⟩; have HS := Lib.hid (HS.out.up h9); obtain ⟨q0, q1, q2, q3, _⟩ := vc4 HS.out.v; clear h9)
          | (go_at_call 26; (with_reducible refine (c2 _).mono ?_); rintro e w2 ⟨rfl, h9⟩; have HS := Lib.hid (HS.out.up h9); obtain ⟨q0, q1, q2, q3, _⟩ := vc4 HS.out.v; clear h9))
        have hS : Hh w A H.length cap k x s (n : Int) (World.drew _) := HS.out.up (Below.refl _ _).drew
        refine wp_region_held_drew (S := Hh w A H.length cap k x s (n : Int)) (by kernel_rfl) hS (fun hHeld => ?_)
        refine hH_take (i := 0) (v := .agg #[.slice A H.length cap]) (d := 12) (l2 := #[true, false, false, false, false, false, false, false, false, false, false, false, false, false, false, false, false]) rfl (by kernel_rfl) (by kernel_rfl) (by kernel_rfl) (fun _ _ _ h => h) (by kernel_rfl) ?_ (by assumption) rfl (by kernel_rfl) ?_
        · intro w hSw; exact ex_load_at (h1_load2 hSw.h) rfl rfl
        simp only [List.set]
        refine hH_take (i := 1) (v := ?_) (d := 13) (l2 := #[true, true, false, false, false, false, false, false, false, false, false, false, false, false, false, false, false]) rfl (by kernel_rfl) (by kernel_rfl) (by kernel_rfl) (fun _ _ _ h => h) (by kernel_rfl) ?_ (by assumption) rfl (by kernel_rfl) ?_
        rotate_left
        · intro w hSw; (try dsimp only at hSw); go_simp; (try with_reducible rfl)
        simp only [List.set]
        refine hH_take (i := 2) (v := ?_) (d := 14) (l2 := #[true, true, true, false, false, false, false, false, false, false, false, false, false, false, false, false, false]) rfl (by kernel_rfl) (by kernel_rfl) (by kernel_rfl) (fun _ _ _ h => h) (by kernel_rfl) ?_ (by assumption) rfl (by kernel_rfl) ?_
        rotate_left
        · intro w hSw; have q := (vc4 hSw.v).2.2.2.1; go_simp; (try with_reducible rfl)
        simp only [List.set]
        refine wpAnyH_ready (rs := [3]) (by kernel_rfl) (by simp) ?_
        refine AllReadyH.cons rfl (fun K hK => ?_) AllReadyH.nil
        go_simp
        (go_at_call 37; (with_reducible refine (cT _).mono ?_); rintro e wt ⟨rfl, h9⟩; have hS := hS.up h9; clear h9)
        refine hK.out _ _ hS (fun hHeld => ?_)
        clear hK K
        refine hH_take (i := 4) (v := ?_) (d := 16) (l2 := #[true, true, true, true, true, false, false, false, false, false, false, false, false, false, false, false, false]) rfl (by kernel_rfl) (by kernel_rfl) (by kernel_rfl) (fun _ _ _ h => h) (by kernel_rfl) ?_ (by assumption) rfl (by kernel_rfl) ?_
        rotate_left
        · intro w hSw; (try dsimp only at hSw); go_simp; (try with_reducible rfl)
        simp only [List.set]
        refine hH_drop (i := 5) (d := 17) (l2 := #[true, true, true, true, true, true, false, false, false, false, false, false, false, false, false, false, false]) rfl (by kernel_rfl) (by kernel_rfl) (by kernel_rfl) (fun _ _ _ h => h) (by kernel_rfl) (by assumption) rfl (by kernel_rfl) ?_
        simp only [List.set]
        refine hH_drop (i := 6) (d := 18) (l2 := #[true, true, true, true, true, true, true, false, false, false, false, false, false, false, false, false, false]) rfl (by kernel_rfl) (by kernel_rfl) (by kernel_rfl) (fun _ _ _ h => h) (by kernel_rfl) (by assumption) rfl (by kernel_rfl) ?_
        simp only [List.set]
        refine hH_drop (i := 7) (d := 19) (l2 := #[true, true, true, true, true, true, true, true, false, false, false, false, false, false, false, false, false]) rfl (by kernel_rfl) (by kernel_rfl) (by kernel_rfl) (fun _ _ _ h => h) (by kernel_rfl) (by assumption) rfl (by kernel_rfl) ?_
        simp only [List.set]
        refine hH_drop (i := 8) (d := 20) (l2 := #[true, true, true, true, true, true, true, true, true, false, false, false, false, false, false, false, false]) rfl (by kernel_rfl) (by kernel_rfl) (by kernel_rfl) (fun _ _ _ h => h) (by kernel_rfl) (by assumption) rfl (by kernel_rfl) ?_
        simp only [List.set]
        refine hH_drop (i := 9) (d := 21) (l2 := #[true, true, true, true, true, true, true, true, true, true, false, false, false, false, false, false, false]) rfl (by kernel_rfl) (by kernel_rfl) (by kernel_rfl) (fun _ _ _ h => h) (by kernel_rfl) (by assumption) rfl (by kernel_rfl) ?_
        simp only [List.set]
        refine hH_drop (i := 10) (d := 22) (l2 := #[true, true, true, true, true, true, true, true, true, true, true, false, false, false, false, false, false]) rfl (by kernel_rfl) (by kernel_rfl) (by kernel_rfl) (fun _ _ _ h => h) (by kernel_rfl) (by assumption) rfl (by kernel_rfl) ?_
        simp only [List.set]
        refine hH_drop (i := 11) (d := 23) (l2 := #[true, true, true, true, true, true, true, true, true, true, true, true, false, false, false, false, false]) rfl (by kernel_rfl) (by kernel_rfl) (by kernel_rfl) (fun _ _ _ h => h) (by kernel_rfl) (by assumption) rfl (by kernel_rfl) ?_
        simp only [List.set]
        refine hH_drop (i := 12) (d := 24) (l2 := #[true, true, true, true, true, true, true, true, true, true, true, true, true, false, false, false, false]) rfl (by kernel_rfl) (by kernel_rfl) (by kernel_rfl) (fun _ _ _ h => h) (by kernel_rfl) (by assumption) rfl (by kernel_rfl) ?_
        simp only [List.set]
        refine hH_drop (i := 13) (d := 25) (l2 := #[true, true, true, true, true, true, true, true, true, true, true, true, true, true, false, false, false]) rfl (by kernel_rfl) (by kernel_rfl) (by kernel_rfl) (fun _ _ _ h => h) (by kernel_rfl) (by assumption) rfl (by kernel_rfl) ?_
        simp only [List.set]
        refine hH_drop (i := 14) (d := 26) (l2 := #[true, true, true, true, true, true, true, true, true, true, true, true, true, true, true, false, false]) rfl (by kernel_rfl) (by kernel_rfl) (by kernel_rfl) (fun _ _ _ h => h) (by kernel_rfl) (by assumption) rfl (by kernel_rfl) ?_
        simp only [List.set]
        refine hH_take (i := 15) (v := ?_) (d := 27) (l2 := #[true, true, true, true, true, true, true, true, true, true, true, true, true, true, true, true, false]) rfl (by kernel_rfl) (by kernel_rfl) (by kernel_rfl) (fun _ _ _ h => h) (by kernel_rfl) ?_ (by assumption) rfl (by kernel_rfl) ?_
        rotate_left
        · intro w hSw; (try dsimp only at hSw); go_simp; (try with_reducible rfl)
        simp only [List.set]
        refine hH_take (i := 16) (v := ?_) (d := 4) (l2 := #[true, true, true, true, true, true, true, true, true, true, true, true, true, true, true, true, true]) rfl (by kernel_rfl) (by kernel_rfl) (by kernel_rfl) (fun _ _ _ h => h) (by kernel_rfl) ?_ (by assumption) rfl (by kernel_rfl) ?_
        rotate_left
        · intro w hSw; (try dsimp only at hSw); go_simp; (try with_reducible rfl)
        simp only [List.set]
        refine wpAnyH_done (by kernel_rfl) ?_ _
        go_wp2_with (fail)
        go_ret
        exact ⟨rfl, hS.below⟩
end Go.Proofs.YtlfbflclefndjaaGreatDoor.S
/-
  ordinary: leads, behind, Loops.
-/
namespace Go.Proofs.YtlfbflclefndjaaGreatDoor.S
open Go.RowKit Go.Lib Fl
open Classical

noncomputable def leadsV (H : List Ob) (v : Vq) : Bool := (v.k == 1 || objQ v) && holdsB H v
set_option maxHeartbeats 4000000 in
set_option maxRecDepth 1000000 in
theorem leads_o (A : Option Addr) (H : List Ob) (cap : Nat) (v : Vq) (w : World) (hH : HIn w A H cap) (hmH : mayH H = true) (hv : v.In) : Calls Tryz.prog 42 #[.agg #[.slice A H.length cap], .agg #[.int .u8 v.k, .float .f64 v.x, .string v.s, .int .i64 v.r]] w fun e w' => e = .returned (.bool (leadsV H v)) ∧ Below w.heap.size w w' := by
  have c2 := fun w => IsObject_q v hv.1 w
  have cH := fun W (hb : Below w.heap.size w W) => holds_o A H cap v W (hH.up hb) hmH hv
  have HS := Lib.hid (hh_start w A H.length cap v.k v.x v.s v.r)
  have q4 := HS.out.h
  obtain ⟨q0, q1, q2, q3, _⟩ := vc4 HS.out.v
  unfold leadsV
  clear hH
  generalize holdsB H v = b at *
  cases e1 : (v.k == 1) <;> cases e2 : objQ v
  all_goals
    rw [e2] at c2
    go_enter Tryz.func42, Tryz.ntmps42
    go_wp2_with (first
      | (go_at_call 26; (with_reducible refine (c2 _).mono ?_); rintro e w2 ⟨rfl, h9⟩; have HS := Lib.hid (HS.out.up h9); have q4 := HS.out.h; obtain ⟨q0, q1, q2, q3, _⟩ := vc4 HS.out.v; clear h9)
      | (go_at_call 69; (with_reducible refine (cH _ HS.out.below).mono ?_); rintro e w3 ⟨rfl, h9⟩; have HS := Lib.hid (HS.out.up h9); clear h9))
    go_ret
    exact ⟨rfl, HS.out.below⟩
/-- the object n stands behind a value -/
inductive Bhd (H : List Ob) (n : Int) : Vq → Prop where
  | here {v : Vq} : objQ v = true → v.r = n → Bhd H n v
  | next {v : Vq} {o : Ob} : objQ v = true → H[v.r.toNat]? = some o → Bhd H n o.proto → Bhd H n v
/-- a line ends within f steps -/
def Fu (H : List Ob) : Nat → Vq → Prop
  | 0, v => objQ v = false
  | f + 1, v => objQ v = true → ∀ o, H[v.r.toNat]? = some o → Fu H f o.proto
theorem dep_fu {H : List Ob} {p d : Nat} (h : Dep H p d) : ∀ v : Vq, v.r.toNat = p → Fu H (d + 1) v := by
  induction h with
  | @zero p e =>
    intro v hv _ o ho
    rw [hv] at ho
    unfold nextO at e
    rw [ho] at e
    dsimp only at e
    show objQ o.proto = false
    cases c : objQ o.proto with
    | false => rfl
    | true => rw [c] at e; cases e
  | @succ p q d e _ ih =>
    intro v hv _ o ho
    rw [hv] at ho
    unfold nextO at e
    rw [ho] at e
    dsimp only at e
    cases c : objQ o.proto with
    | false => rw [c] at e; cases e
    | true =>
      rw [c] at e
      exact ih o.proto (Option.some.inj e)
theorem fu_some {H : List Ob} (hm : mayH H = true) (v : Vq) : ∃ f, Fu H f v := by
  obtain ⟨d, hd⟩ := (ends_all (mayH_iff.1 hm).2.2 v.r.toNat).dep
  exact ⟨d + 1, dep_fu hd v rfl⟩
theorem bhd_no {H : List Ob} {n : Int} {v : Vq} (h : objQ v = false) : ¬ Bhd H n v := fun hb => by
  cases hb with
  | here e _ => rw [h] at e; cases e
  | next e _ _ => rw [h] at e; cases e
theorem bhd_next {H : List Ob} {n : Int} {v : Vq} {o : Ob} (hq : objQ v = true) (hn : ¬ v.r = n) (ho : H[v.r.toNat]? = some o) : Bhd H n v ↔ Bhd H n o.proto := by
  refine ⟨fun hb => ?_, fun hb => .next hq ho hb⟩
  cases hb with
  | here _ e => exact absurd e hn
  | next _ e h => rw [ho] at e; obtain rfl := Option.some.inj e; exact h
/-- a value that may be asked about -/
def OkV (H : List Ob) (v : Vq) : Prop := objQ v = true → ∃ m : Nat, v.r = m ∧ m < H.length
theorem vok_holds {H : List Ob} {v : Vq} (h : holdsB H v = true) : OkV H v := fun ho => by
  obtain ⟨m, hm⟩ := Int.eq_ofNat_of_zero_le (holds_ref h ho)
  refine ⟨m, hm, ?_⟩
  unfold holdsB at h
  rw [Bool.and_eq_true, ho, Bool.not_true, Bool.false_or] at h
  have hr := h.2
  unfold refB at hr
  rw [hm, Int.toNat_natCast] at hr
  cases e2 : H[m]? with
  | none => rw [e2] at hr; cases hr
  | some u => exact (List.getElem?_eq_some_iff.1 e2).1
theorem vok_proto {H : List Ob} (hm : mayH H = true) {m : Nat} (h : m < H.length) : OkV H H[m].proto := vok_holds (may_holds ((mayH_iff.1 hm).2.1 m h) (vm_p _))
set_option maxHeartbeats 4000000 in
set_option maxRecDepth 1000000 in
theorem behind_o (A : Option Addr) (H : List Ob) (cap : Nat) (n : Int) (v : Vq) (w : World) (hH : HIn w A H cap) (hmH : mayH H = true) (hv : 0 ≤ v.k) (hok : OkV H v) :
    Calls Tryz.prog 71 #[.agg #[.slice A H.length cap], .int .i64 n, .agg #[.int .u8 v.k, .float .f64 v.x, .string v.s, .int .i64 v.r]] w fun e w' => e = .returned (.bool (decide (Bhd H n v))) ∧ Below w.heap.size w w' := by
  obtain ⟨f, hf⟩ := fu_some hmH v
  obtain ⟨R, hR⟩ : ∃ R, R = decide (Bhd H n v) := ⟨_, rfl⟩
  have HS := Lib.hid (hh_start w A H.length cap v.k v.x v.s v.r)
  have hst : Hid (∃ u : Vq, Hh w A H.length cap u.k u.x u.s u.r ((w.alloc (.cells #[.slice A H.length cap] 24)).alloc (.cells #[.int .u8 v.k, .float .f64 v.x, .string v.s, .int .i64 v.r] 34)) ∧ 0 ≤ u.k ∧ OkV H u ∧ Fu H f u ∧ R = decide (Bhd H n u)) := Lib.hid ⟨v, HS.out, hv, hok, hf, hR⟩
  rw [← hR]
  have HH := Lib.hid hH
  have hfew := hH.few
  clear hH hf hR hv hok HS
  go_enter Tryz.func71, Tryz.ntmps71
  go_wp2
  go_loopg [8] f (fun kx s8 wr => Hid (∃ u : Vq, Hh w A H.length cap u.k u.x u.s u.r wr ∧ 0 ≤ u.k ∧ OkV H u ∧ Fu H kx u ∧ R = decide (Bhd H n u)))
  case atStart => exact hst
  case round =>
    obtain ⟨u, hS, hu0, huk, huf, huR⟩ := hrel.out
    have HS := Lib.hid hS
    have q4 := hS.h
    obtain ⟨q0, q1, q2, q3, _⟩ := vc4 hS.v
    have c2 := fun w => IsObject_q u hu0 w
    clear hrel hS hst
    cases ho : objQ u with
    | false =>
      rw [ho] at c2
      obtain rfl : R = false := by rw [huR]; exact decide_eq_false (bhd_no ho)
      clear huR huf huk
      go_wp2_with (go_at_call 26; (with_reducible refine (c2 _).mono ?_); rintro e w2 ⟨rfl, h9⟩; have HS := Lib.hid (HS.out.up h9); clear h9)
      go_ret
      exact ⟨rfl, HS.out.below⟩
    | true =>
      rw [ho] at c2
      obtain ⟨m, hm, hml⟩ := huk ho
      cases gk with
      | zero => exact absurd huf (by unfold Fu; rw [ho]; simp)
      | succ kx =>
        by_cases hn : u.r = n
        · obtain rfl : R = true := by rw [huR]; exact decide_eq_true (.here ho hn)
          clear huR huf huk hml hm
          have hnb : (u.r == n) = true := beq_iff_eq.2 hn
          clear hn
          go_wp2_with (go_at_call 26; (with_reducible refine (c2 _).mono ?_); rintro e w2 ⟨rfl, h9⟩; have HS := Lib.hid (HS.out.up h9); have q4 := HS.out.h; obtain ⟨q0, q1, q2, q3, _⟩ := vc4 HS.out.v; clear h9)
          go_ret
          exact ⟨rfl, HS.out.below⟩
        · have hnb : (u.r == n) = false := beq_eq_false_iff_ne.2 hn
          have hHm : H[u.r.toNat]? = some H[m] := by rw [hm, Int.toNat_natCast, List.getElem?_eq_getElem hml]
          have hnext : Hid (OkV H H[m].proto ∧ Fu H kx H[m].proto ∧ R = decide (Bhd H n H[m].proto)) := Lib.hid ⟨vok_proto hmH hml, huf ho _ hHm, by rw [huR]; exact decide_eq_decide.2 (bhd_next ho hn hHm)⟩
          obtain ⟨a, rfl, hab, hof, _⟩ := HH.out.at hml
          have hp0 := (HH.out.inn H[m] (List.getElem_mem hml)).proto.1
          generalize H[m] = o at *
          obtain ⟨uk, ux, us, ur⟩ := u
          dsimp only at *
          subst hm
          have hmz : (m : Int) < (H.length : Int) := by omega
          have hm0 : (0 : Int) ≤ (m : Int) := by omega
          have hc1 := vq_one o.proto.k o.proto.x o.proto.s o.proto.r
          have hi1 : (Tryz.prog.info? 34).map (·.size) = some (#[Value.int .u8 o.proto.k, .float .f64 o.proto.x, .string o.proto.s, .int .i64 o.proto.r] : Array Value).size := vsz4
          clear huR huf huk hHm hu0 ho hn
          go_wp2_with (first
            | (go_at_call 26; (with_reducible refine (c2 _).mono ?_); rintro e w2 ⟨rfl, h9⟩; have HS := Lib.hid (HS.out.up h9); have q4 := HS.out.h; obtain ⟨q0, q1, q2, q3, _⟩ := vc4 HS.out.v; have hpp := (hof.up HS.out.below).proto; have hb1 := HS.out.v; have hB1 := HS.out.below; clear h9)
            | ((with_reducible refine va_load ?_ rfl rfl hpp ?_); (rfl))
            | ((with_reducible refine t_store rfl rfl rfl rfl hb1 hi1 ?_ hc1 hB1 (by omega) ?_); (rfl); intro W3 hb3 hW3 hO3 hz3))
          go_roundg kx
          case measure => omega
          case rel =>
            refine Lib.hid ⟨o.proto, ⟨hb3, ?_, hW3, by rw [hz3]; exact HS.out.lt⟩, hp0, hnext.out⟩
            exact (World.cell?_of_block (hO3 w.heap.size (by omega))).trans HS.out.h
def LoopsTo (H : List Ob) (n : Int) (v : Vq) (w : World) (e : Ending) (w' : World) : Prop := Below w.heap.size w w' ∧ e = .returned (.tuple #[.bool (bif chkH H == 0 && (inB H n && leadsV H v) then decide (Bhd H n v) else false), .int .i64 (bif chkH H == 0 then (bif inB H n then (bif leadsV H v then 0 else 9) else 2) else chkH H)])
end Go.Proofs.YtlfbflclefndjaaGreatDoor.S
/-
  ordinary: asks, what comes of them, and an object that is asked.
-/
namespace Go.Proofs.YtlfbflclefndjaaGreatDoor.S
open Go.RowKit Go.Lib Fl
open Classical

/-- an ask; where its args lie counts for nothing -/
structure Ak where
  m : Int
  n : Int
  k : Ky
  d : Dq
  v : Vq
  rv : Vq
  aa : Option Addr
  an : Nat
  ac : Nat
def akl (a : Ak) : List Value := [.int .u8 a.m, .int .i64 a.n, .string a.k.str, .int .i64 a.k.sym, .int .u8 a.d.h, .int .u8 a.d.a.k, .float .f64 a.d.a.x, .string a.d.a.s, .int .i64 a.d.a.r, .int .u8 a.d.b.k, .float .f64 a.d.b.x, .string a.d.b.s, .int .i64 a.d.b.r, .int .u8 a.d.c.k, .float .f64 a.d.c.x, .string a.d.c.s, .int .i64 a.d.c.r, .bool a.d.p, .bool a.d.q, .bool a.d.z,
  .int .u8 a.v.k, .float .f64 a.v.x, .string a.v.s, .int .i64 a.v.r, .int .u8 a.rv.k, .float .f64 a.rv.x, .string a.rv.s, .int .i64 a.rv.r, .slice a.aa a.an a.ac]
def akA (a : Ak) : Array Value := (akl a).toArray
theorem ask_sz : (Tryz.prog.info? 49).map (·.size) = some 29 := by kernel_rfl
theorem akA_one (a : Ak) : (akA a).all (·.oneCell') = true := cells_one (l := akl a) rfl
/-- what came of an ask -/
structure Oq where
  kind : Int
  v : Vq
  b : Bool
  found : Bool
  d : Dq
  ka : Option Addr
  kn : Nat
  kc : Nat
  err : Int
  text : ByteArray
def oql (o : Oq) : List Value := [.int .u8 o.kind, .int .u8 o.v.k, .float .f64 o.v.x, .string o.v.s, .int .i64 o.v.r, .bool o.b, .bool o.found, .int .u8 o.d.h, .int .u8 o.d.a.k, .float .f64 o.d.a.x, .string o.d.a.s, .int .i64 o.d.a.r, .int .u8 o.d.b.k, .float .f64 o.d.b.x, .string o.d.b.s, .int .i64 o.d.b.r, .int .u8 o.d.c.k, .float .f64 o.d.c.x, .string o.d.c.s, .int .i64 o.d.c.r, .bool o.d.p, .bool o.d.q, .bool o.d.z,
  .slice o.ka o.kn o.kc, .int .u8 o.err, .string o.text]
def oqA (o : Oq) : Array Value := (oql o).toArray
theorem out_sz : (Tryz.prog.info? 44).map (·.size) = some 26 := by kernel_rfl
theorem oqA_one (o : Oq) : (oqA o).all (·.oneCell') = true := cells_one (l := oql o) rfl
theorem oq_info (o : Oq) : (Tryz.prog.info? 44).map (·.size) = some (oqA o).size := out_sz
def yesO (b : Bool) : Oq := ⟨1, v0, b, false, dz 0, none, 0, 0, 0, ⟨#[]⟩⟩
/-- an object that is asked: its heap, where it lies, the ask -/
def asl (B m : Nat) (p : Addr) (a : Ak) : List Value := [.slice (some ⟨B, 0, none⟩) m m, .pointer (some p)] ++ akl a
def asA (B m : Nat) (p : Addr) (a : Ak) : Array Value := (asl B m p a).toArray
theorem as_sz : (Tryz.prog.info? 75).map (·.size) = some 31 := by kernel_rfl
theorem oq_end {f : Func} {i : Nat} {t : TypeId} {Q : Ending → World → Prop} {tmps : Array Value} {W : World} {g : Nat} {o : Oq} (hf : f.results = #[.cell i 44]) (h2 : tmps.getD i undef = .pointer (some ⟨g, 0, none⟩)) (hb : W.heap[g]? = some (.cells (oqA o) t (0, 0)))
    (hQ : Q (.returned (.agg (oqA o))) W) : bodyPost Tryz.prog f Q .ret { tmps := tmps, defers := [] } W :=
  bodyPost_ret (results_cell_row hf tmps W g t _ (0, 0) _ h2 hb Tryz.underlying44 rfl out_sz) rfl hQ
set_option maxHeartbeats 4000000 in
set_option maxRecDepth 1000000 in
theorem answer_o (b : Bool) (w : World) : Calls Tryz.prog 70 #[.bool b] w fun e w' => e = .returned (.agg (oqA (yesO b))) ∧ Below w.heap.size w w' := by
  go_enter Tryz.func70, Tryz.ntmps70
  go_wp2_with (refine t_store (cs := oqA (yesO b)) rfl rfl rfl rfl (heap_alloc_new w _) (oq_info _) rfl (oqA_one _) (vzero w _) (Nat.le_refl _) ?_; intro W1 hb1 hW1 _ _)
  exact oq_end Tryz.results70 rfl hW1 ⟨rfl, hb1⟩
abbrev oz26 : Array Value := #[.int .u8 0, .int .u8 0, .float .f64 0, .string ⟨#[]⟩, .int .i64 0, .bool false, .bool false, .int .u8 0, .int .u8 0, .float .f64 0, .string ⟨#[]⟩, .int .i64 0, .int .u8 0, .float .f64 0, .string ⟨#[]⟩, .int .i64 0, .int .u8 0, .float .f64 0, .string ⟨#[]⟩, .int .i64 0, .bool false, .bool false, .bool false, .slice none 0 0, .int .u8 0, .string ⟨#[]⟩]
/-- a method's own blocks: the object that is asked by value, its result -/
structure Mw (w : World) (B m : Nat) (p : Addr) (a : Ak) (W : World) : Prop where
  below : Below w.heap.size w W
  a : W.heap[w.heap.size]? = some (.cells (asA B m p a) 75 (0, 0))
  r : W.heap[w.heap.size + 1]? = some (.cells oz26 44 (0, 0))
theorem Mw.up {w : World} {B m : Nat} {p : Addr} {a : Ak} {W W' : World} (h : Mw w B m p a W) (hb : Below W.heap.size W W') : Mw w B m p a W' := ⟨vb h.below hb, vblkn hb h.a, vblkn hb h.r⟩
theorem mw_start (w : World) (B m : Nat) (p : Addr) (a : Ak) : Mw w B m p a ((w.alloc (.cells (asA B m p a) 75)).alloc (.cells oz26 44)) := by
  obtain ⟨b1, b2⟩ := vblk2 (w := w) (Below.refl _ ((w.alloc (.cells (asA B m p a) 75)).alloc (.cells oz26 44)))
  exact ⟨vafter (vzero _ _), b1, b2⟩
theorem Mw.p {w : World} {B m : Nat} {p : Addr} {a : Ak} {W : World} (h : Mw w B m p a W) : W.cell? ⟨w.heap.size, 1, none⟩ = some (.pointer (some p)) := (vcells h.a 1).trans rfl
theorem Mw.h {w : World} {B m : Nat} {p : Addr} {a : Ak} {W : World} (h : Mw w B m p a W) : W.cell? ⟨w.heap.size, 0, none⟩ = some (.slice (some ⟨B, 0, none⟩) m m) := (vcells h.a 0).trans rfl
set_option maxHeartbeats 4000000 in
set_option maxRecDepth 1000000 in
theorem isExt_o (B m k : Nat) (a : Ak) (o : Ob) (w : World) (ho : OF w ⟨B, k * 18, none⟩ o) : Calls Tryz.prog 47 #[.agg (asA B m ⟨B, k * 18, none⟩ a)] w fun e w' => e = .returned (.agg (oqA (yesO o.ext))) ∧ Below w.heap.size w w' := by
  have HS := Lib.hid (mw_start w B m ⟨B, k * 18, none⟩ a)
  have h1 := HS.out.p
  have h2 := (ho.up HS.out.below).ext
  have hl := (ho.up HS.out.below).lt
  dsimp only at h2 hl
  have cA := fun W => answer_o o.ext W
  clear ho
  go_enter Tryz.func47, Tryz.ntmps47
  go_wp2_with (first
    | (go_at_call 70; (with_reducible refine (cA _).mono ?_); rintro e w1 ⟨rfl, h9⟩; have HS := Lib.hid (HS.out.up h9); have hr := HS.out.r; have hB := HS.out.below; clear h9)
    | (refine t_store (cs := oqA (yesO o.ext)) rfl rfl rfl rfl hr (oq_info _) rfl (oqA_one _) hB (by omega) ?_; intro W1 hb1 hW1 _ _))
  exact oq_end Tryz.results47 rfl hW1 ⟨rfl, hb1⟩
def protoO (o : Ob) : Oq := ⟨1, o.proto, false, false, dz 0, none, 0, 0, 0, ⟨#[]⟩⟩
set_option maxHeartbeats 4000000 in
set_option maxRecDepth 1000000 in
theorem getProto_o (B m k : Nat) (a : Ak) (o : Ob) (w : World) (ho : OF w ⟨B, k * 18, none⟩ o) : Calls Tryz.prog 45 #[.agg (asA B m ⟨B, k * 18, none⟩ a)] w fun e w' => e = .returned (.agg (oqA (protoO o))) ∧ Below w.heap.size w w' := by
  have HS := Lib.hid (mw_start w B m ⟨B, k * 18, none⟩ a)
  have h1 := HS.out.p
  have h2 := (ho.up HS.out.below).proto
  have hl := (ho.up HS.out.below).lt
  dsimp only at h2 hl
  have hr := HS.out.r
  have hB := HS.out.below
  clear ho
  go_enter Tryz.func45, Tryz.ntmps45
  go_wp2_with (first
    | ((with_reducible refine va_load ?_ rfl rfl h2 ?_); (rfl))
    | (refine t_store (cs := oqA (protoO o)) rfl rfl rfl rfl hr (oq_info _) rfl (oqA_one _) hB (by omega) ?_; intro W1 hb1 hW1 _ _))
  exact oq_end Tryz.results45 rfl hW1 ⟨rfl, hb1⟩
end Go.Proofs.YtlfbflclefndjaaGreatDoor.S
