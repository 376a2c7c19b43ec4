/-
  PostTruth: six Checks of one input. Generated: gen_post24.py.
-/
import Derived.Test.YtkmgdaagannhkaaPT14
namespace Go.Proofs.Ytkmgdaagannhkaa.S
open Go.RowKit Go.Lib Fl
open Classical

/-- the input and the facts in blocks of their own -/
structure Tx (w : World) (c : Array Value) (gf : Nat) (fc : Array Value) (W : World) : Prop where
  below : Below w.heap.size w W
  c : W.heap[w.heap.size]? = some (.cells c 52 (0, 0))
  f : W.heap[gf]? = some (.cells fc 43 (0, 0))
theorem Tx.up {w W W' : World} {c fc : Array Value} {gf : Nat} (h : Tx w c gf fc W) (hb : Below W.heap.size W W') : Tx w c gf fc W' := ⟨vb h.below hb, vblkn hb h.c, vblkn hb h.f⟩
/-- and an answer -/
structure Ty (w : World) (c : Array Value) (gf : Nat) (fc : Array Value) (g : Nat) (X : Oq) (W : World) : Prop where
  t : Tx w c gf fc W
  o : W.heap[g]? = some (.cells (oql X).toArray 33 (0, 0))
theorem Ty.up {w W W' : World} {c fc : Array Value} {gf g : Nat} {X : Oq} (h : Ty w c gf fc g X W) (hb : Below W.heap.size W W') : Ty w c gf fc g X W' := ⟨h.t.up hb, vblkn hb h.o⟩
theorem val_rb (v : Vq) (w : World) : (Instr.build 33 #[(0, .int .u8 1), (1, .agg #[.int .u8 v.k, .float .f64 v.x, .string v.s, .int .i64 v.r])]).run Try.prog w = .ok (.agg (oqA (valO v))) w := by kernel_rfl
theorem key_rb (A : Option Addr) (n c : Nat) (w : World) : (Instr.build 33 #[(0, .int .u8 1), (5, .slice A n c)]).run Try.prog w = .ok (.agg (oqA (keyO A n c))) w := by kernel_rfl
theorem fnd_rb (b : Bool) (w : World) : (Instr.build 33 #[(0, .int .u8 1), (3, .bool b)]).run Try.prog w = .ok (.agg (oqA (fndO b (dz 0)))) w := by kernel_rfl
section
variable {o : Oper} {a : Act} {w : World} {y : Operand}
theorem val_ea {v : Vq} (ho : o.op = .build 33 #[(0, .const (.int .u8 1)), (1, y)]) (hy : a.eval y = .agg #[.int .u8 v.k, .float .f64 v.x, .string v.s, .int .i64 v.r]) : (execOp a.eval o).run Try.prog w = .ok (.value (.agg (oqA (valO v)))) w := by
  have h1 : a.eval (.const (.int .u8 1)) = .int .u8 1 := rfl
  unfold execOp
  simp only [ho, List.map_toArray, List.map_cons, List.map_nil, h1, hy, val_rb, Sem.run_bind, Sem.run_pure, Result.andThen_ok]
theorem key_ea {A : Option Addr} {n c : Nat} (ho : o.op = .build 33 #[(0, .const (.int .u8 1)), (5, y)]) (hy : a.eval y = .slice A n c) : (execOp a.eval o).run Try.prog w = .ok (.value (.agg (oqA (keyO A n c)))) w := by
  have h1 : a.eval (.const (.int .u8 1)) = .int .u8 1 := rfl
  unfold execOp
  simp only [ho, List.map_toArray, List.map_cons, List.map_nil, h1, hy, key_rb, Sem.run_bind, Sem.run_pure, Result.andThen_ok]
theorem fnd_ea {b : Bool} (ho : o.op = .build 33 #[(0, .const (.int .u8 1)), (3, y)]) (hy : a.eval y = .bool b) : (execOp a.eval o).run Try.prog w = .ok (.value (.agg (oqA (fndO b (dz 0))))) w := by
  have h1 : a.eval (.const (.int .u8 1)) = .int .u8 1 := rfl
  unfold execOp
  simp only [ho, List.map_toArray, List.map_cons, List.map_nil, h1, hy, fnd_rb, Sem.run_bind, Sem.run_pure, Result.andThen_ok]
end
set_option maxHeartbeats 16000000 in
set_option maxRecDepth 1000000 in
theorem truth_p (a : Ak) (q : Oq) (f : Fq) (K L : List Ky) (D : List Dq) (w : World) (hi : SIn w a q f K L D) (hll : L.length ≤ 70000) (hdl : D.length ≤ 70000) (h : longN (max (max q.kn f.kn) f.on) = false) : Calls Try.prog 4 #[.agg (clA a q f)] w fun e w' => e = .returned (.bool true) ∧ Below w.heap.size w w' := by
  have HS := Lib.hid (ow_start w (clA a q f) 52)
  have cL := fun W => long_p a q f W
  rw [h] at cL
  have HI := Lib.hid hi
  have H7 := Lib.hid (show L.length < 1000000000000 ∧ D.length < 1000000000000 ∧ L.length ≤ 70000 by omega)
  clear hi hll hdl h
  go_enter Try.func4, Try.ntmps4
  go_upto_region 4 with (first
    | ((with_reducible refine sx_ld (k := a) (q := q) (f := f) ?_ rfl rfl HS.out.c ?_); (rfl))
    | (go_at_call 14; (with_reducible refine (alive_p _).mono ?_); rintro e w1 ⟨rfl, h9⟩; have HS := Lib.hid (HS.out.up h9); clear h9)
    | (go_at_call 16; (with_reducible refine (cL _).mono ?_); rintro e w2 ⟨rfl, h9⟩; have HS := Lib.hid (HS.out.up h9); clear h9)
    | (fail))
  (try dsimp only [Act.put])
  clear cL
  go_cut [4] from 13 (fun s4 wx => ∃ gf, s4 = .pointer (some ⟨gf, 0, none⟩) ∧ Hid (Tx w (clA a q f) gf (fqA f) wx))
  case first => as_aux_lemma =>
    go_wp2_with (first
      | ((with_reducible refine sx_ld (k := a) (q := q) (f := f) ?_ rfl rfl HS.out.c ?_); (rfl))
      | (go_at_call 17; (with_reducible refine (facts_p a q f _).mono ?_); rintro e w3 ⟨rfl, h9⟩; have HS := Lib.hid (HS.out.up h9); clear h9)
      | ((with_reducible refine t_store (cs := fqA f) rfl rfl rfl rfl (heap_alloc_new w3 _) (fq_info2 f) ?_ (fqA_one f) (vzero w3 _) (Nat.le_refl _) ?_); (rfl); intro W1 hb1 hW1 _ _; have HT := Lib.hid (show Tx w (clA a q f) w3.heap.size (fqA f) W1 from ⟨vb HS.out.below hb1, vblkn hb1 HS.out.c, hW1⟩); clear hb1 hW1)
      | (fail))
    go_meet
    case rel => exact ⟨w3.heap.size, rfl, HT⟩
  case rest =>
    obtain ⟨gf, rfl, HT⟩ := hcut
    have cT : ∀ W, Below w.heap.size w W → Calls Try.prog 8 #[.agg (akA (akz 3)), .agg (oqA (yesO f.ext)), .agg (fqA f)] W fun e w' => ∃ (X : Oq) (b : Bool), e = .returned (.tuple #[.agg (oqA X), .bool b, .int .i64 0]) ∧ TrX 0 3 (yesO f.ext) 0 X b ∧ Below W.heap.size W w' := fun W hb => by
      have h := check_t W (akz 3) (yesO f.ext) f [] L D ((sin_cin HI.out 3 _ v0_in dz_in rfl (fun _ => rfl) H7.out.1 H7.out.2.1).up hb) (by decide) (fun _ => t_ext)
      rw [mayE_3 rfl] at h
      exact h
    go_upto_region 5 with (fail)
    (try dsimp only [Act.put])
    go_cut [5, 6, 7] from 13 (fun s1 s2 s3 wx => ∃ (g : Nat) (X : Oq) (b : Bool), s1 = .pointer (some ⟨g, 0, none⟩) ∧ s2 = .bool b ∧ s3 = .int .i64 0 ∧ TrX 0 3 (yesO f.ext) 0 X b ∧ Hid (Ty w (clA a q f) gf (fqA f) g X wx))
    case first => as_aux_lemma =>
      have HD := Lib.hid (HT.out.up (Below.refl _ _).drew)
      have hS : Below (World.drew wc).heap.size (World.drew wc) (World.drew wc) := Below.refl _ _
      refine wp_region_held_drew (S := fun V : World => Below (World.drew wc).heap.size (World.drew wc) V) (by kernel_rfl) hS (fun hHeld => ?_)
      clear HT
      generalize World.drew wc = W0 at *
      have HV : Hid (∀ V : World, Below W0.heap.size W0 V → Below w.heap.size w V) := Lib.hid fun V h => vb HD.out.below h
      have HW : Hid (∀ V : World, Below W0.heap.size W0 V → Tx w (clA a q f) gf (fqA f) V) := Lib.hid fun V h => HD.out.up h
      have HC : Hid (∀ V : World, Below W0.heap.size W0 V → V.heap[w.heap.size]? = some (.cells (cll a q f).toArray 52 (0, 0))) := Lib.hid fun V h => (HD.out.up h).c
      have HF : Hid (∀ V : World, Below W0.heap.size W0 V → V.heap[gf]? = some (.cells (fql f).toArray 43 (0, 0))) := Lib.hid fun V h => (HD.out.up h).f
      refine hT 1 25 (.pointer (some ⟨w.heap.size, 55, none⟩)) rfl rfl (fun w hSw => ?_) ?_
      · go_simp; (try with_reducible rfl)
      simp only [List.set]
      refine hT 2 26 (.bool f.ext) rfl rfl (fun w hSw => ?_) ?_
      · exact ex_load_at (n_bl ((vcells (HC.out _ hSw) 55).trans rfl)) rfl rfl
      simp only [List.set]
      refine hT 4 28 (.agg (fqA f)) rfl rfl (fun w hSw => ?_) ?_
      · exact ex_load_at (sub_run (cs := fql f) (all := fql f) (HF.out _ hSw) rfl Try.underlying43 rfl fq_sz) rfl rfl
      simp only [List.set]
      refine aH2 0 10 rfl rfl (fun J hJ => ?_) (fun J hJ => ?_)
      ·go_simp
       go_at_call 9
       (with_reducible refine (ask_p 3 _).mono ?_)
       rintro e _ ⟨rfl, h9⟩
       have hS := vb hS h9; clear h9; refine hJ.out _ _ hS (fun _ => ?_); clear hJ J
       refine aH2 3 10 rfl rfl (fun J hJ => ?_) (fun J hJ => ?_)
       ·go_simp
        go_at_call 12
        (with_reducible refine (yes_p f.ext _).mono ?_)
        rintro e _ ⟨rfl, h9⟩
        have hS := vb hS h9; clear h9; refine hJ.out _ _ hS (fun _ => ?_); clear hJ J
        refine aH2 5 10 rfl rfl (fun J hJ => ?_) (fun J hJ => ?_)
        ·go_simp
         go_at_call 8
         (with_reducible refine (cT _ (HV.out _ hS)).mono ?_)
         rintro e _ ⟨X, b, rfl, hX, h9⟩
         have hS := vb hS h9; clear h9; refine hJ.out _ _ hS (fun _ => ?_); clear hJ J
         refine hT 6 23 (.tuple #[.agg (oqA X), .bool b, .int .i64 0]) rfl rfl (fun w hSw => ?_) ?_
         · go_simp; (try with_reducible rfl)
         simp only [List.set]
         refine hT 7 30 (.agg (oqA X)) rfl rfl (fun w hSw => ?_) ?_
         · go_simp; (try with_reducible rfl)
         simp only [List.set]
         refine hT 8 31 (.bool b) rfl rfl (fun w hSw => ?_) ?_
         · go_simp; (try with_reducible rfl)
         simp only [List.set]
         refine hT 9 32 (.int .i64 0) rfl rfl (fun w hSw => ?_) ?_
         · go_simp; (try with_reducible rfl)
         simp only [List.set]
         refine aH1 10 rfl (fun J hJ => ?_)
         ·refine aNew (en_o26 rfl) rfl hS (Nat.le_refl _) hJ fun _ g hS hm hx h9 => ?_
          clear h9 hJ J; simp only [List.set]
          refine aH1 11 rfl (fun J hJ => ?_)
          refine aPut rfl rfl rfl hx (oq_info X) rfl (oqA_one X) rfl hS hm hJ fun _ hS hx _ => ?_
          clear hJ J
          refine hT 12 6 (.bool b) rfl rfl (fun w hSw => ?_) ?_
          · go_simp; (try with_reducible rfl)
          simp only [List.set]
          refine hT 13 7 (.int .i64 0) rfl rfl (fun w hSw => ?_) ?_
          · go_simp; (try with_reducible rfl)
          simp only [List.set]
          refine wpAnyH_done (by kernel_rfl) ?_ _
          go_wp2_with (fail)
          go_meet
          case rel => exact ⟨g, X, b, rfl, rfl, rfl, hX, Lib.hid ⟨HW.out _ hS, hx⟩⟩
        ·refine aNew (en_o26 rfl) rfl hS (Nat.le_refl _) hJ fun _ g hS hm hx h9 => ?_
         clear h9 hJ J; simp only [List.set]
         refine aH1 5 rfl (fun J hJ => ?_)
         ·go_simp
          go_at_call 8
          (with_reducible refine (cT _ (HV.out _ hS)).mono ?_)
          rintro e _ ⟨X, b, rfl, hX, h9⟩
          have hS := vb hS h9; have hx := vblkn h9 hx; clear h9; refine hJ.out _ _ hS (fun _ => ?_); clear hJ J
          refine hT 6 23 (.tuple #[.agg (oqA X), .bool b, .int .i64 0]) rfl rfl (fun w hSw => ?_) ?_
          · go_simp; (try with_reducible rfl)
          simp only [List.set]
          refine hT 7 30 (.agg (oqA X)) rfl rfl (fun w hSw => ?_) ?_
          · go_simp; (try with_reducible rfl)
          simp only [List.set]
          refine hT 8 31 (.bool b) rfl rfl (fun w hSw => ?_) ?_
          · go_simp; (try with_reducible rfl)
          simp only [List.set]
          refine hT 9 32 (.int .i64 0) rfl rfl (fun w hSw => ?_) ?_
          · go_simp; (try with_reducible rfl)
          simp only [List.set]
          refine aH1 11 rfl (fun J hJ => ?_)
          refine aPut rfl rfl rfl hx (oq_info X) rfl (oqA_one X) rfl hS hm hJ fun _ hS hx _ => ?_
          clear hJ J
          refine hT 12 6 (.bool b) rfl rfl (fun w hSw => ?_) ?_
          · go_simp; (try with_reducible rfl)
          simp only [List.set]
          refine hT 13 7 (.int .i64 0) rfl rfl (fun w hSw => ?_) ?_
          · go_simp; (try with_reducible rfl)
          simp only [List.set]
          refine wpAnyH_done (by kernel_rfl) ?_ _
          go_wp2_with (fail)
          go_meet
          case rel => exact ⟨g, X, b, rfl, rfl, rfl, hX, Lib.hid ⟨HW.out _ hS, hx⟩⟩
       ·refine aNew (en_o26 rfl) rfl hS (Nat.le_refl _) hJ fun _ g hS hm hx h9 => ?_
        clear h9 hJ J; simp only [List.set]
        refine aH1 3 rfl (fun J hJ => ?_)
        ·go_simp
         go_at_call 12
         (with_reducible refine (yes_p f.ext _).mono ?_)
         rintro e _ ⟨rfl, h9⟩
         have hS := vb hS h9; have hx := vblkn h9 hx; clear h9; refine hJ.out _ _ hS (fun _ => ?_); clear hJ J
         refine aH1 5 rfl (fun J hJ => ?_)
         ·go_simp
          go_at_call 8
          (with_reducible refine (cT _ (HV.out _ hS)).mono ?_)
          rintro e _ ⟨X, b, rfl, hX, h9⟩
          have hS := vb hS h9; have hx := vblkn h9 hx; clear h9; refine hJ.out _ _ hS (fun _ => ?_); clear hJ J
          refine hT 6 23 (.tuple #[.agg (oqA X), .bool b, .int .i64 0]) rfl rfl (fun w hSw => ?_) ?_
          · go_simp; (try with_reducible rfl)
          simp only [List.set]
          refine hT 7 30 (.agg (oqA X)) rfl rfl (fun w hSw => ?_) ?_
          · go_simp; (try with_reducible rfl)
          simp only [List.set]
          refine hT 8 31 (.bool b) rfl rfl (fun w hSw => ?_) ?_
          · go_simp; (try with_reducible rfl)
          simp only [List.set]
          refine hT 9 32 (.int .i64 0) rfl rfl (fun w hSw => ?_) ?_
          · go_simp; (try with_reducible rfl)
          simp only [List.set]
          refine aH1 11 rfl (fun J hJ => ?_)
          refine aPut rfl rfl rfl hx (oq_info X) rfl (oqA_one X) rfl hS hm hJ fun _ hS hx _ => ?_
          clear hJ J
          refine hT 12 6 (.bool b) rfl rfl (fun w hSw => ?_) ?_
          · go_simp; (try with_reducible rfl)
          simp only [List.set]
          refine hT 13 7 (.int .i64 0) rfl rfl (fun w hSw => ?_) ?_
          · go_simp; (try with_reducible rfl)
          simp only [List.set]
          refine wpAnyH_done (by kernel_rfl) ?_ _
          go_wp2_with (fail)
          go_meet
          case rel => exact ⟨g, X, b, rfl, rfl, rfl, hX, Lib.hid ⟨HW.out _ hS, hx⟩⟩
      ·refine aNew (en_o26 rfl) rfl hS (Nat.le_refl _) hJ fun _ g hS hm hx h9 => ?_
       clear h9 hJ J; simp only [List.set]
       refine aH1 0 rfl (fun J hJ => ?_)
       ·go_simp
        go_at_call 9
        (with_reducible refine (ask_p 3 _).mono ?_)
        rintro e _ ⟨rfl, h9⟩
        have hS := vb hS h9; have hx := vblkn h9 hx; clear h9; refine hJ.out _ _ hS (fun _ => ?_); clear hJ J
        refine aH1 3 rfl (fun J hJ => ?_)
        ·go_simp
         go_at_call 12
         (with_reducible refine (yes_p f.ext _).mono ?_)
         rintro e _ ⟨rfl, h9⟩
         have hS := vb hS h9; have hx := vblkn h9 hx; clear h9; refine hJ.out _ _ hS (fun _ => ?_); clear hJ J
         refine aH1 5 rfl (fun J hJ => ?_)
         ·go_simp
          go_at_call 8
          (with_reducible refine (cT _ (HV.out _ hS)).mono ?_)
          rintro e _ ⟨X, b, rfl, hX, h9⟩
          have hS := vb hS h9; have hx := vblkn h9 hx; clear h9; refine hJ.out _ _ hS (fun _ => ?_); clear hJ J
          refine hT 6 23 (.tuple #[.agg (oqA X), .bool b, .int .i64 0]) rfl rfl (fun w hSw => ?_) ?_
          · go_simp; (try with_reducible rfl)
          simp only [List.set]
          refine hT 7 30 (.agg (oqA X)) rfl rfl (fun w hSw => ?_) ?_
          · go_simp; (try with_reducible rfl)
          simp only [List.set]
          refine hT 8 31 (.bool b) rfl rfl (fun w hSw => ?_) ?_
          · go_simp; (try with_reducible rfl)
          simp only [List.set]
          refine hT 9 32 (.int .i64 0) rfl rfl (fun w hSw => ?_) ?_
          · go_simp; (try with_reducible rfl)
          simp only [List.set]
          refine aH1 11 rfl (fun J hJ => ?_)
          refine aPut rfl rfl rfl hx (oq_info X) rfl (oqA_one X) rfl hS hm hJ fun _ hS hx _ => ?_
          clear hJ J
          refine hT 12 6 (.bool b) rfl rfl (fun w hSw => ?_) ?_
          · go_simp; (try with_reducible rfl)
          simp only [List.set]
          refine hT 13 7 (.int .i64 0) rfl rfl (fun w hSw => ?_) ?_
          · go_simp; (try with_reducible rfl)
          simp only [List.set]
          refine wpAnyH_done (by kernel_rfl) ?_ _
          go_wp2_with (fail)
          go_meet
          case rel => exact ⟨g, X, b, rfl, rfl, rfl, hX, Lib.hid ⟨HW.out _ hS, hx⟩⟩
    case rest =>
      obtain ⟨g, X, b, rfl, rfl, rfl, hX, HY⟩ := hcut
      clear cT
      obtain ⟨rfl, ka, kc, hXX⟩ := hX rfl
      have hx : X = yesO f.ext := hXX
      clear hXX
      subst hx
      go_upto_region 6 with (fail)
      (try dsimp only [Act.put])
      go_cut [45] from 13 (fun s1 wx => s1 = .bool false ∧ Hid (Tx w (clA a q f) gf (fqA f) wx))
      case first => as_aux_lemma =>
        cases hfe : f.ext
        all_goals (go_wp2_with (first | ((with_reducible refine lb_l2 (all := oql (yesO f.ext)) ?_ rfl rfl HY.out.o ?_); (rfl); refine ⟨_, rfl, ?_⟩) | ((with_reducible refine lb_l2 (all := cll a q f) ?_ rfl rfl HY.out.t.c ?_); (rfl); refine ⟨_, rfl, ?_⟩) | (fail)))
        all_goals go_meet
        all_goals (case rel => exact ⟨rfl, Lib.hid HY.out.t⟩)
      case rest =>
        obtain ⟨rfl, HT⟩ := hcut
        clear HY
        obtain ⟨E2, hE2⟩ : ∃ E, E = mayE (akz 1) (valO f.proto) f [] L D := ⟨_, rfl⟩
        have cT : ∀ W, Below w.heap.size w W → Calls Try.prog 8 #[.agg (akA (akz 1)), .agg (oqA (valO f.proto)), .agg (fqA f)] W fun e w' => ∃ (X : Oq) (b : Bool), e = .returned (.tuple #[.agg (oqA X), .bool b, .int .i64 E2]) ∧ TrX E2 1 (valO f.proto) 0 X b ∧ Below W.heap.size W w' := fun W hb => by
          have h := check_t W (akz 1) (valO f.proto) f [] L D ((sin_cin HI.out 1 _ HI.out.fp dz_in rfl (fun _ => rfl) H7.out.1 H7.out.2.1).up hb) (by decide) t_proto
          rw [← hE2] at h
          exact h
        have HE2 := Lib.hid hE2
        clear hE2
        go_upto_region 8 with (fail)
        (try dsimp only [Act.put])
        go_cut [6, 7, 8] from 13 (fun s1 s2 s3 wx => ∃ (g : Nat) (X : Oq) (b : Bool), s3 = .pointer (some ⟨g, 0, none⟩) ∧ s1 = .bool b ∧ s2 = .int .i64 E2 ∧ TrX E2 1 (valO f.proto) 0 X b ∧ Hid (Ty w (clA a q f) gf (fqA f) g X wx))
        case first => as_aux_lemma =>
          have HD := Lib.hid (HT.out.up (Below.refl _ _).drew)
          have hS : Below (World.drew wc).heap.size (World.drew wc) (World.drew wc) := Below.refl _ _
          refine wp_region_held_drew (S := fun V : World => Below (World.drew wc).heap.size (World.drew wc) V) (by kernel_rfl) hS (fun hHeld => ?_)
          clear HT
          generalize World.drew wc = W0 at *
          have HV : Hid (∀ V : World, Below W0.heap.size W0 V → Below w.heap.size w V) := Lib.hid fun V h => vb HD.out.below h
          have HW : Hid (∀ V : World, Below W0.heap.size W0 V → Tx w (clA a q f) gf (fqA f) V) := Lib.hid fun V h => HD.out.up h
          have HC : Hid (∀ V : World, Below W0.heap.size W0 V → V.heap[w.heap.size]? = some (.cells (cll a q f).toArray 52 (0, 0))) := Lib.hid fun V h => (HD.out.up h).c
          have HF : Hid (∀ V : World, Below W0.heap.size W0 V → V.heap[gf]? = some (.cells (fql f).toArray 43 (0, 0))) := Lib.hid fun V h => (HD.out.up h).f
          refine hT 1 48 (.pointer (some ⟨w.heap.size, 56, none⟩)) rfl rfl (fun w hSw => ?_) ?_
          · go_simp; (try with_reducible rfl)
          simp only [List.set]
          refine hT 2 49 (.agg #[.int .u8 f.proto.k, .float .f64 f.proto.x, .string f.proto.s, .int .i64 f.proto.r]) rfl rfl (fun w hSw => ?_) ?_
          · exact ex_load_at (sub_run (cs := [.int .u8 f.proto.k, .float .f64 f.proto.x, .string f.proto.s, .int .i64 f.proto.r]) (all := cll a q f) (HC.out _ hSw) rfl Try.underlying24 rfl vsz) rfl rfl
          simp only [List.set]
          refine hT 3 50 (.agg (oqA (valO f.proto))) rfl rfl (fun w hSw => ?_) ?_
          · exact val_ea rfl rfl
          simp only [List.set]
          refine hT 4 51 (.agg (fqA f)) rfl rfl (fun w hSw => ?_) ?_
          · exact ex_load_at (sub_run (cs := fql f) (all := fql f) (HF.out _ hSw) rfl Try.underlying43 rfl fq_sz) rfl rfl
          simp only [List.set]
          refine aH2 0 10 rfl rfl (fun J hJ => ?_) (fun J hJ => ?_)
          ·go_simp
           go_at_call 9
           (with_reducible refine (ask_p 1 _).mono ?_)
           rintro e _ ⟨rfl, h9⟩
           have hS := vb hS h9; clear h9; refine hJ.out _ _ hS (fun _ => ?_); clear hJ J
           refine aH2 5 10 rfl rfl (fun J hJ => ?_) (fun J hJ => ?_)
           ·go_simp
            go_at_call 8
            (with_reducible refine (cT _ (HV.out _ hS)).mono ?_)
            rintro e _ ⟨X, b, rfl, hX, h9⟩
            have hS := vb hS h9; clear h9; refine hJ.out _ _ hS (fun _ => ?_); clear hJ J
            refine hT 6 46 (.tuple #[.agg (oqA X), .bool b, .int .i64 E2]) rfl rfl (fun w hSw => ?_) ?_
            · go_simp; (try with_reducible rfl)
            simp only [List.set]
            refine hT 7 53 (.agg (oqA X)) rfl rfl (fun w hSw => ?_) ?_
            · go_simp; (try with_reducible rfl)
            simp only [List.set]
            refine hT 8 54 (.bool b) rfl rfl (fun w hSw => ?_) ?_
            · go_simp; (try with_reducible rfl)
            simp only [List.set]
            refine hT 9 55 (.int .i64 E2) rfl rfl (fun w hSw => ?_) ?_
            · go_simp; (try with_reducible rfl)
            simp only [List.set]
            refine aH1 10 rfl (fun J hJ => ?_)
            ·refine aNew (en_o26 rfl) rfl hS (Nat.le_refl _) hJ fun _ g hS hm hx h9 => ?_
             clear h9 hJ J; simp only [List.set]
             refine aH1 11 rfl (fun J hJ => ?_)
             refine aPut rfl rfl rfl hx (oq_info X) rfl (oqA_one X) rfl hS hm hJ fun _ hS hx _ => ?_
             clear hJ J
             refine hT 12 6 (.bool b) rfl rfl (fun w hSw => ?_) ?_
             · go_simp; (try with_reducible rfl)
             simp only [List.set]
             refine hT 13 7 (.int .i64 E2) rfl rfl (fun w hSw => ?_) ?_
             · go_simp; (try with_reducible rfl)
             simp only [List.set]
             refine wpAnyH_done (by kernel_rfl) ?_ _
             go_wp2_with (fail)
             go_meet
             case rel => exact ⟨g, X, b, rfl, rfl, rfl, hX, Lib.hid ⟨HW.out _ hS, hx⟩⟩
           ·refine aNew (en_o26 rfl) rfl hS (Nat.le_refl _) hJ fun _ g hS hm hx h9 => ?_
            clear h9 hJ J; simp only [List.set]
            refine aH1 5 rfl (fun J hJ => ?_)
            ·go_simp
             go_at_call 8
             (with_reducible refine (cT _ (HV.out _ hS)).mono ?_)
             rintro e _ ⟨X, b, rfl, hX, h9⟩
             have hS := vb hS h9; have hx := vblkn h9 hx; clear h9; refine hJ.out _ _ hS (fun _ => ?_); clear hJ J
             refine hT 6 46 (.tuple #[.agg (oqA X), .bool b, .int .i64 E2]) rfl rfl (fun w hSw => ?_) ?_
             · go_simp; (try with_reducible rfl)
             simp only [List.set]
             refine hT 7 53 (.agg (oqA X)) rfl rfl (fun w hSw => ?_) ?_
             · go_simp; (try with_reducible rfl)
             simp only [List.set]
             refine hT 8 54 (.bool b) rfl rfl (fun w hSw => ?_) ?_
             · go_simp; (try with_reducible rfl)
             simp only [List.set]
             refine hT 9 55 (.int .i64 E2) rfl rfl (fun w hSw => ?_) ?_
             · go_simp; (try with_reducible rfl)
             simp only [List.set]
             refine aH1 11 rfl (fun J hJ => ?_)
             refine aPut rfl rfl rfl hx (oq_info X) rfl (oqA_one X) rfl hS hm hJ fun _ hS hx _ => ?_
             clear hJ J
             refine hT 12 6 (.bool b) rfl rfl (fun w hSw => ?_) ?_
             · go_simp; (try with_reducible rfl)
             simp only [List.set]
             refine hT 13 7 (.int .i64 E2) rfl rfl (fun w hSw => ?_) ?_
             · go_simp; (try with_reducible rfl)
             simp only [List.set]
             refine wpAnyH_done (by kernel_rfl) ?_ _
             go_wp2_with (fail)
             go_meet
             case rel => exact ⟨g, X, b, rfl, rfl, rfl, hX, Lib.hid ⟨HW.out _ hS, hx⟩⟩
          ·refine aNew (en_o26 rfl) rfl hS (Nat.le_refl _) hJ fun _ g hS hm hx h9 => ?_
           clear h9 hJ J; simp only [List.set]
           refine aH1 0 rfl (fun J hJ => ?_)
           ·go_simp
            go_at_call 9
            (with_reducible refine (ask_p 1 _).mono ?_)
            rintro e _ ⟨rfl, h9⟩
            have hS := vb hS h9; have hx := vblkn h9 hx; clear h9; refine hJ.out _ _ hS (fun _ => ?_); clear hJ J
            refine aH1 5 rfl (fun J hJ => ?_)
            ·go_simp
             go_at_call 8
             (with_reducible refine (cT _ (HV.out _ hS)).mono ?_)
             rintro e _ ⟨X, b, rfl, hX, h9⟩
             have hS := vb hS h9; have hx := vblkn h9 hx; clear h9; refine hJ.out _ _ hS (fun _ => ?_); clear hJ J
             refine hT 6 46 (.tuple #[.agg (oqA X), .bool b, .int .i64 E2]) rfl rfl (fun w hSw => ?_) ?_
             · go_simp; (try with_reducible rfl)
             simp only [List.set]
             refine hT 7 53 (.agg (oqA X)) rfl rfl (fun w hSw => ?_) ?_
             · go_simp; (try with_reducible rfl)
             simp only [List.set]
             refine hT 8 54 (.bool b) rfl rfl (fun w hSw => ?_) ?_
             · go_simp; (try with_reducible rfl)
             simp only [List.set]
             refine hT 9 55 (.int .i64 E2) rfl rfl (fun w hSw => ?_) ?_
             · go_simp; (try with_reducible rfl)
             simp only [List.set]
             refine aH1 11 rfl (fun J hJ => ?_)
             refine aPut rfl rfl rfl hx (oq_info X) rfl (oqA_one X) rfl hS hm hJ fun _ hS hx _ => ?_
             clear hJ J
             refine hT 12 6 (.bool b) rfl rfl (fun w hSw => ?_) ?_
             · go_simp; (try with_reducible rfl)
             simp only [List.set]
             refine hT 13 7 (.int .i64 E2) rfl rfl (fun w hSw => ?_) ?_
             · go_simp; (try with_reducible rfl)
             simp only [List.set]
             refine wpAnyH_done (by kernel_rfl) ?_ _
             go_wp2_with (fail)
             go_meet
             case rel => exact ⟨g, X, b, rfl, rfl, rfl, hX, Lib.hid ⟨HW.out _ hS, hx⟩⟩
        case rest =>
          obtain ⟨g, X, b, rfl, rfl, rfl, hX, HY⟩ := hcut
          clear cT
          go_upto_region 9 with (fail)
          (try dsimp only [Act.put])
          go_cut [69] from 13 (fun s1 wx => s1 = .bool false ∧ Hid (Tx w (clA a q f) gf (fqA f) wx))
          case first => as_aux_lemma =>
            by_cases hE : E2 = 0
            · obtain ⟨rfl, ka, kc, hXX⟩ := hX hE
              have hx : X = valO f.proto := hXX
              clear hXX hX
              subst hx
              have hok := what_ok (orE_0 (t_may1.symm.trans (HE2.out.symm.trans hE))).1
              have cS := fun W => samev (a := f.proto) (b := f.proto) hok.2 hok.2.1 W
              rw [same_refl hok.1] at cS
              clear hok
              subst hE
              go_wp2_with (first
                | ((with_reducible refine cv_ld (v := f.proto) (all := oql (valO f.proto)) ?_ rfl rfl HY.out.o ?_ ?_); (rfl); (rfl))
                | ((with_reducible refine cv_ld (v := f.proto) (all := cll a q f) ?_ rfl rfl HY.out.t.c ?_ ?_); (rfl); (rfl))
                | (go_at_call 18; (with_reducible refine (cS _).mono ?_); rintro e w6 ⟨rfl, h9⟩; have HY := Lib.hid (HY.out.up h9); clear h9)
                | (fail))
              go_meet
              case rel => exact ⟨rfl, Lib.hid HY.out.t⟩
            · have hEb : (E2 == 0) = false := by rw [beq_eq_false_iff_ne]; exact hE
              clear hX
              go_wp2_with (fail)
              go_meet
              case rel => exact ⟨rfl, Lib.hid HY.out.t⟩
          case rest =>
            obtain ⟨rfl, HT⟩ := hcut
            clear HY
            clear hX HE2
            obtain ⟨E3, hE3⟩ : ∃ E, E = mayE (akz 11) (keyO f.ka f.kn f.kc) f L L D := ⟨_, rfl⟩
            have cT : ∀ W, Below w.heap.size w W → Calls Try.prog 8 #[.agg (akA (akz 11)), .agg (oqA (keyO f.ka f.kn f.kc)), .agg (fqA f)] W fun e w' => ∃ (X : Oq) (b : Bool), e = .returned (.tuple #[.agg (oqA X), .bool b, .int .i64 E3]) ∧ TrX E3 11 (keyO f.ka f.kn f.kc) L.length X b ∧ Below W.heap.size W w' := fun W hb => by
              have h := check_t W (akz 11) (keyO f.ka f.kn f.kc) f L L D ((sin_cin2 HI.out H7.out.1 H7.out.2.1).up hb) H7.out.2.2 t_keys
              rw [← hE3] at h
              exact h
            have HE3 := Lib.hid hE3
            clear hE3
            go_upto_region 11 with (fail)
            (try dsimp only [Act.put])
            go_cut [6, 7, 9] from 13 (fun s1 s2 s3 wx => ∃ (g : Nat) (X : Oq) (b : Bool), s3 = .pointer (some ⟨g, 0, none⟩) ∧ s1 = .bool b ∧ s2 = .int .i64 E3 ∧ TrX E3 11 (keyO f.ka f.kn f.kc) L.length X b ∧ Hid (Ty w (clA a q f) gf (fqA f) g X wx))
            case first => as_aux_lemma =>
              have HD := Lib.hid (HT.out.up (Below.refl _ _).drew)
              have hS : Below (World.drew wc).heap.size (World.drew wc) (World.drew wc) := Below.refl _ _
              refine wp_region_held_drew (S := fun V : World => Below (World.drew wc).heap.size (World.drew wc) V) (by kernel_rfl) hS (fun hHeld => ?_)
              clear HT
              generalize World.drew wc = W0 at *
              have HV : Hid (∀ V : World, Below W0.heap.size W0 V → Below w.heap.size w V) := Lib.hid fun V h => vb HD.out.below h
              have HW : Hid (∀ V : World, Below W0.heap.size W0 V → Tx w (clA a q f) gf (fqA f) V) := Lib.hid fun V h => HD.out.up h
              have HC : Hid (∀ V : World, Below W0.heap.size W0 V → V.heap[w.heap.size]? = some (.cells (cll a q f).toArray 52 (0, 0))) := Lib.hid fun V h => (HD.out.up h).c
              have HF : Hid (∀ V : World, Below W0.heap.size W0 V → V.heap[gf]? = some (.cells (fql f).toArray 43 (0, 0))) := Lib.hid fun V h => (HD.out.up h).f
              refine hT 1 72 (.pointer (some ⟨w.heap.size, 77, none⟩)) rfl rfl (fun w hSw => ?_) ?_
              · go_simp; (try with_reducible rfl)
              simp only [List.set]
              refine hT 2 73 (.slice f.ka f.kn f.kc) rfl rfl (fun w hSw => ?_) ?_
              · exact ex_load_at (n_ks ((vcells (HC.out _ hSw) 77).trans rfl)) rfl rfl
              simp only [List.set]
              refine hT 3 74 (.agg (oqA (keyO f.ka f.kn f.kc))) rfl rfl (fun w hSw => ?_) ?_
              · exact key_ea rfl rfl
              simp only [List.set]
              refine hT 4 75 (.agg (fqA f)) rfl rfl (fun w hSw => ?_) ?_
              · exact ex_load_at (sub_run (cs := fql f) (all := fql f) (HF.out _ hSw) rfl Try.underlying43 rfl fq_sz) rfl rfl
              simp only [List.set]
              refine aH2 0 10 rfl rfl (fun J hJ => ?_) (fun J hJ => ?_)
              ·go_simp
               go_at_call 9
               (with_reducible refine (ask_p 11 _).mono ?_)
               rintro e _ ⟨rfl, h9⟩
               have hS := vb hS h9; clear h9; refine hJ.out _ _ hS (fun _ => ?_); clear hJ J
               refine aH2 5 10 rfl rfl (fun J hJ => ?_) (fun J hJ => ?_)
               ·go_simp
                go_at_call 8
                (with_reducible refine (cT _ (HV.out _ hS)).mono ?_)
                rintro e _ ⟨X, b, rfl, hX, h9⟩
                have hS := vb hS h9; clear h9; refine hJ.out _ _ hS (fun _ => ?_); clear hJ J
                refine hT 6 70 (.tuple #[.agg (oqA X), .bool b, .int .i64 E3]) rfl rfl (fun w hSw => ?_) ?_
                · go_simp; (try with_reducible rfl)
                simp only [List.set]
                refine hT 7 77 (.agg (oqA X)) rfl rfl (fun w hSw => ?_) ?_
                · go_simp; (try with_reducible rfl)
                simp only [List.set]
                refine hT 8 78 (.bool b) rfl rfl (fun w hSw => ?_) ?_
                · go_simp; (try with_reducible rfl)
                simp only [List.set]
                refine hT 9 79 (.int .i64 E3) rfl rfl (fun w hSw => ?_) ?_
                · go_simp; (try with_reducible rfl)
                simp only [List.set]
                refine aH1 10 rfl (fun J hJ => ?_)
                ·refine aNew (en_o26 rfl) rfl hS (Nat.le_refl _) hJ fun _ g hS hm hx h9 => ?_
                 clear h9 hJ J; simp only [List.set]
                 refine aH1 11 rfl (fun J hJ => ?_)
                 refine aPut rfl rfl rfl hx (oq_info X) rfl (oqA_one X) rfl hS hm hJ fun _ hS hx _ => ?_
                 clear hJ J
                 refine hT 12 6 (.bool b) rfl rfl (fun w hSw => ?_) ?_
                 · go_simp; (try with_reducible rfl)
                 simp only [List.set]
                 refine hT 13 7 (.int .i64 E3) rfl rfl (fun w hSw => ?_) ?_
                 · go_simp; (try with_reducible rfl)
                 simp only [List.set]
                 refine wpAnyH_done (by kernel_rfl) ?_ _
                 go_wp2_with (fail)
                 go_meet
                 case rel => exact ⟨g, X, b, rfl, rfl, rfl, hX, Lib.hid ⟨HW.out _ hS, hx⟩⟩
               ·refine aNew (en_o26 rfl) rfl hS (Nat.le_refl _) hJ fun _ g hS hm hx h9 => ?_
                clear h9 hJ J; simp only [List.set]
                refine aH1 5 rfl (fun J hJ => ?_)
                ·go_simp
                 go_at_call 8
                 (with_reducible refine (cT _ (HV.out _ hS)).mono ?_)
                 rintro e _ ⟨X, b, rfl, hX, h9⟩
                 have hS := vb hS h9; have hx := vblkn h9 hx; clear h9; refine hJ.out _ _ hS (fun _ => ?_); clear hJ J
                 refine hT 6 70 (.tuple #[.agg (oqA X), .bool b, .int .i64 E3]) rfl rfl (fun w hSw => ?_) ?_
                 · go_simp; (try with_reducible rfl)
                 simp only [List.set]
                 refine hT 7 77 (.agg (oqA X)) rfl rfl (fun w hSw => ?_) ?_
                 · go_simp; (try with_reducible rfl)
                 simp only [List.set]
                 refine hT 8 78 (.bool b) rfl rfl (fun w hSw => ?_) ?_
                 · go_simp; (try with_reducible rfl)
                 simp only [List.set]
                 refine hT 9 79 (.int .i64 E3) rfl rfl (fun w hSw => ?_) ?_
                 · go_simp; (try with_reducible rfl)
                 simp only [List.set]
                 refine aH1 11 rfl (fun J hJ => ?_)
                 refine aPut rfl rfl rfl hx (oq_info X) rfl (oqA_one X) rfl hS hm hJ fun _ hS hx _ => ?_
                 clear hJ J
                 refine hT 12 6 (.bool b) rfl rfl (fun w hSw => ?_) ?_
                 · go_simp; (try with_reducible rfl)
                 simp only [List.set]
                 refine hT 13 7 (.int .i64 E3) rfl rfl (fun w hSw => ?_) ?_
                 · go_simp; (try with_reducible rfl)
                 simp only [List.set]
                 refine wpAnyH_done (by kernel_rfl) ?_ _
                 go_wp2_with (fail)
                 go_meet
                 case rel => exact ⟨g, X, b, rfl, rfl, rfl, hX, Lib.hid ⟨HW.out _ hS, hx⟩⟩
              ·refine aNew (en_o26 rfl) rfl hS (Nat.le_refl _) hJ fun _ g hS hm hx h9 => ?_
               clear h9 hJ J; simp only [List.set]
               refine aH1 0 rfl (fun J hJ => ?_)
               ·go_simp
                go_at_call 9
                (with_reducible refine (ask_p 11 _).mono ?_)
                rintro e _ ⟨rfl, h9⟩
                have hS := vb hS h9; have hx := vblkn h9 hx; clear h9; refine hJ.out _ _ hS (fun _ => ?_); clear hJ J
                refine aH1 5 rfl (fun J hJ => ?_)
                ·go_simp
                 go_at_call 8
                 (with_reducible refine (cT _ (HV.out _ hS)).mono ?_)
                 rintro e _ ⟨X, b, rfl, hX, h9⟩
                 have hS := vb hS h9; have hx := vblkn h9 hx; clear h9; refine hJ.out _ _ hS (fun _ => ?_); clear hJ J
                 refine hT 6 70 (.tuple #[.agg (oqA X), .bool b, .int .i64 E3]) rfl rfl (fun w hSw => ?_) ?_
                 · go_simp; (try with_reducible rfl)
                 simp only [List.set]
                 refine hT 7 77 (.agg (oqA X)) rfl rfl (fun w hSw => ?_) ?_
                 · go_simp; (try with_reducible rfl)
                 simp only [List.set]
                 refine hT 8 78 (.bool b) rfl rfl (fun w hSw => ?_) ?_
                 · go_simp; (try with_reducible rfl)
                 simp only [List.set]
                 refine hT 9 79 (.int .i64 E3) rfl rfl (fun w hSw => ?_) ?_
                 · go_simp; (try with_reducible rfl)
                 simp only [List.set]
                 refine aH1 11 rfl (fun J hJ => ?_)
                 refine aPut rfl rfl rfl hx (oq_info X) rfl (oqA_one X) rfl hS hm hJ fun _ hS hx _ => ?_
                 clear hJ J
                 refine hT 12 6 (.bool b) rfl rfl (fun w hSw => ?_) ?_
                 · go_simp; (try with_reducible rfl)
                 simp only [List.set]
                 refine hT 13 7 (.int .i64 E3) rfl rfl (fun w hSw => ?_) ?_
                 · go_simp; (try with_reducible rfl)
                 simp only [List.set]
                 refine wpAnyH_done (by kernel_rfl) ?_ _
                 go_wp2_with (fail)
                 go_meet
                 case rel => exact ⟨g, X, b, rfl, rfl, rfl, hX, Lib.hid ⟨HW.out _ hS, hx⟩⟩
            case rest =>
              obtain ⟨g, X, b, rfl, rfl, rfl, hX, HY⟩ := hcut
              clear cT
              go_upto_region 12 with (fail)
              (try dsimp only [Act.put])
              go_cut [94] from 13 (fun s1 wx => s1 = .bool false ∧ Hid (Tx w (clA a q f) gf (fqA f) wx))
              case first => as_aux_lemma =>
                by_cases hE : E3 = 0
                · obtain ⟨rfl, ka, kc, hXX⟩ := hX hE
                  have hx : X = keyO ka L.length kc := hXX
                  clear hXX hX
                  subst hx
                  have hkn : f.kn = L.length := HI.out.fk
                  subst hE
                  go_wp2_with (first
                    | ((with_reducible refine lk_ld (all := oql (keyO ka L.length kc)) (A := ka) (l := L.length) (c := kc) ?_ rfl rfl HY.out.o ?_ ?_); (rfl); (rfl))
                    | ((with_reducible refine lk_ld (all := cll a q f) (A := f.ka) (l := f.kn) (c := f.kc) ?_ rfl rfl HY.out.t.c ?_ ?_); (rfl); (rfl))
                    | (fail))
                  go_meet
                  case rel => exact ⟨by first | rfl | (simp [hkn]; done), Lib.hid HY.out.t⟩
                · have hEb : (E3 == 0) = false := by rw [beq_eq_false_iff_ne]; exact hE
                  clear hX
                  go_wp2_with (fail)
                  go_meet
                  case rel => exact ⟨rfl, Lib.hid HY.out.t⟩
              case rest =>
                obtain ⟨rfl, HT⟩ := hcut
                clear HY
                clear hX HE3
                go_upto_region 14 with (fail)
                (try dsimp only [Act.put])
                go_cut [10] from 13 (fun s1 wx => ∃ gd, s1 = .pointer (some ⟨gd, 0, none⟩) ∧ Hid (w.heap.size < gd ∧ gf < gd) ∧ Hid (Ty w (clA a q f) gf (fqA f) gd (fndO f.found (dz 0)) wx))
                case first => as_aux_lemma =>
                  go_wp2_with (first
                    | ((with_reducible refine lb_l2 (all := cll a q f) ?_ rfl rfl HT.out.c ?_); (rfl); refine ⟨_, rfl, ?_⟩)
                    | ((refine w_val ?_ (fnd_ea (b := f.found) rfl rfl) ?_); (rfl))
                    | ((with_reducible refine t_store (cs := oqA (fndO f.found (dz 0))) rfl rfl rfl rfl (heap_alloc_new _ _) (oq_info _) ?_ (oqA_one _) (vzero _ _) (Nat.le_refl _) ?_); (rfl); intro W1 hb1 hW1 _ _)
                    | (fail))
                  go_meet
                  case rel => exact ⟨_, rfl, Lib.hid ⟨lt_blk HT.out.c, lt_blk HT.out.f⟩, Lib.hid ⟨HT.out.up hb1, hW1⟩⟩
                case rest =>
                  obtain ⟨gd, rfl, HG, HY⟩ := hcut
                  clear HT
                  go_upto_region 15 with (fail)
                  (try dsimp only [Act.put])
                  go_cut [99] from 13 (fun s1 wx => s1 = .bool f.found ∧ Hid (Ty w (clA a q f) gf (fqA f) gd (fndO f.found (dz 0)) wx))
                  case first => as_aux_lemma =>
                    go_wp2_with (first
                      | ((with_reducible refine lb_l2 (all := cll a q f) ?_ rfl rfl HY.out.t.c ?_); (rfl); refine ⟨_, rfl, ?_⟩)
                      | (fail))
                    go_meet
                    case rel => exact ⟨rfl, HY⟩
                  case rest =>
                    obtain ⟨rfl, HY⟩ := hcut
                    go_upto_if 99 with (fail)
                    go_cut [] from 13 (fun wx => Hid (Ty w (clA a q f) gf (fqA f) gd (fndO f.found (bif f.found then f.d else dz 0)) wx))
                    case first => as_aux_lemma =>
                      cases hff : f.found
                      · go_wp2_with (fail)
                        go_meet
                        case rel => rw [hff] at HY ⊢; exact HY
                      · rw [hff] at HY
                        have HG2 := HG.out
                        have hg1 : w.heap.size ≠ gd := by omega
                        have hg2 : gf ≠ gd := by omega
                        have hg3 : w.heap.size ≤ gd := by omega
                        clear HG2
                        go_wp2_with (first
                          | ((with_reducible refine cd_ld (d := f.d) (all := cll a q f) ?_ rfl rfl HY.out.t.c ?_ ?_); (rfl); (rfl))
                          | ((with_reducible refine mid_store (cs := f.d.cells.toList) rfl rfl rfl ?_ HY.out.o ?_ ?_ ?_ HY.out.t.below ?_ ?_); (rfl); (show 7 + 16 ≤ 26; decide); (exact dsz); (rfl); (exact hg3); intro W7 hb7 hW7 hO7; have HZ := Lib.hid (show Ty w (clA a q f) gf (fqA f) gd (fndO true f.d) W7 from ⟨⟨hb7, hO7 _ _ hg1 HY.out.t.c, hO7 _ _ hg2 HY.out.t.f⟩, hW7⟩); clear hb7 hW7 hO7 HY)
                          | (fail))
                        go_meet
                        case rel => rw [hff, cond_true]; exact HZ
                    case rest =>
                      have HT : Hid (Ty w (clA a q f) gf (fqA f) gd (fndO f.found (bif f.found then f.d else dz 0)) wc) := hcut
                      clear hcut HY HG
                      obtain ⟨E4, hE4⟩ : ∃ E, E = mayE (akz 5) (fndO f.found (bif f.found then f.d else dz 0)) f [] L D := ⟨_, rfl⟩
                      have cT : ∀ W, Below w.heap.size w W → Calls Try.prog 8 #[.agg (akA (akz 5)), .agg (oqA (fndO f.found (bif f.found then f.d else dz 0))), .agg (fqA f)] W fun e w' => ∃ (X : Oq) (b : Bool), e = .returned (.tuple #[.agg (oqA X), .bool b, .int .i64 E4]) ∧ TrX E4 5 (fndO f.found (bif f.found then f.d else dz 0)) 0 X b ∧ Below W.heap.size W w' := fun W hb => by
                        have h := check_t W (akz 5) (fndO f.found (bif f.found then f.d else dz 0)) f [] L D ((sin_cin HI.out 5 _ v0_in (by show (bif f.found then f.d else dz 0).In; cases f.found; exact dz_in; exact HI.out.fd) rfl (fun _ => rfl) H7.out.1 H7.out.2.1).up hb) (by decide) (t_told HI.out.fd f.found rfl)
                        rw [← hE4] at h
                        exact h
                      have HE4 := Lib.hid hE4
                      clear hE4
                      go_upto_region 17 with (fail)
                      (try dsimp only [Act.put])
                      go_cut [6, 7, 11] from 13 (fun s1 s2 s3 wx => ∃ (g : Nat) (X : Oq) (b : Bool), s3 = .pointer (some ⟨g, 0, none⟩) ∧ s1 = .bool b ∧ s2 = .int .i64 E4 ∧ TrX E4 5 (fndO f.found (bif f.found then f.d else dz 0)) 0 X b ∧ Hid (Ty w (clA a q f) gf (fqA f) g X wx))
                      case first => as_aux_lemma =>
                        have HD := Lib.hid (HT.out.up (Below.refl _ _).drew)
                        have hS : Below (World.drew wc).heap.size (World.drew wc) (World.drew wc) := Below.refl _ _
                        refine wp_region_held_drew (S := fun V : World => Below (World.drew wc).heap.size (World.drew wc) V) (by kernel_rfl) hS (fun hHeld => ?_)
                        clear HT
                        generalize World.drew wc = W0 at *
                        have HV : Hid (∀ V : World, Below W0.heap.size W0 V → Below w.heap.size w V) := Lib.hid fun V h => vb HD.out.t.below h
                        have HW : Hid (∀ V : World, Below W0.heap.size W0 V → Tx w (clA a q f) gf (fqA f) V) := Lib.hid fun V h => (HD.out.up h).t
                        have HC : Hid (∀ V : World, Below W0.heap.size W0 V → V.heap[w.heap.size]? = some (.cells (cll a q f).toArray 52 (0, 0))) := Lib.hid fun V h => (HD.out.up h).t.c
                        have HF : Hid (∀ V : World, Below W0.heap.size W0 V → V.heap[gf]? = some (.cells (fql f).toArray 43 (0, 0))) := Lib.hid fun V h => (HD.out.up h).t.f
                        have HP : Hid (∀ V : World, Below W0.heap.size W0 V → V.heap[gd]? = some (.cells (oql (fndO f.found (bif f.found then f.d else dz 0))).toArray 33 (0, 0))) := Lib.hid fun V h => (HD.out.up h).o
                        refine hT 1 105 (.agg (oqA (fndO f.found (bif f.found then f.d else dz 0)))) rfl rfl (fun w hSw => ?_) ?_
                        · exact ex_load_at (sub_run (cs := oql (fndO f.found (bif f.found then f.d else dz 0))) (all := oql (fndO f.found (bif f.found then f.d else dz 0))) (HP.out _ hSw) rfl Try.underlying33 rfl out_sz) rfl rfl
                        simp only [List.set]
                        refine hT 2 106 (.agg (fqA f)) rfl rfl (fun w hSw => ?_) ?_
                        · exact ex_load_at (sub_run (cs := fql f) (all := fql f) (HF.out _ hSw) rfl Try.underlying43 rfl fq_sz) rfl rfl
                        simp only [List.set]
                        refine aH2 0 8 rfl rfl (fun J hJ => ?_) (fun J hJ => ?_)
                        ·go_simp
                         go_at_call 9
                         (with_reducible refine (ask_p 5 _).mono ?_)
                         rintro e _ ⟨rfl, h9⟩
                         have hS := vb hS h9; clear h9; refine hJ.out _ _ hS (fun _ => ?_); clear hJ J
                         refine aH2 3 8 rfl rfl (fun J hJ => ?_) (fun J hJ => ?_)
                         ·go_simp
                          go_at_call 8
                          (with_reducible refine (cT _ (HV.out _ hS)).mono ?_)
                          rintro e _ ⟨X, b, rfl, hX, h9⟩
                          have hS := vb hS h9; clear h9; refine hJ.out _ _ hS (fun _ => ?_); clear hJ J
                          refine hT 4 103 (.tuple #[.agg (oqA X), .bool b, .int .i64 E4]) rfl rfl (fun w hSw => ?_) ?_
                          · go_simp; (try with_reducible rfl)
                          simp only [List.set]
                          refine hT 5 108 (.agg (oqA X)) rfl rfl (fun w hSw => ?_) ?_
                          · go_simp; (try with_reducible rfl)
                          simp only [List.set]
                          refine hT 6 109 (.bool b) rfl rfl (fun w hSw => ?_) ?_
                          · go_simp; (try with_reducible rfl)
                          simp only [List.set]
                          refine hT 7 110 (.int .i64 E4) rfl rfl (fun w hSw => ?_) ?_
                          · go_simp; (try with_reducible rfl)
                          simp only [List.set]
                          refine aH1 8 rfl (fun J hJ => ?_)
                          ·refine aNew (en_o26 rfl) rfl hS (Nat.le_refl _) hJ fun _ g hS hm hx h9 => ?_
                           clear h9 hJ J; simp only [List.set]
                           refine aH1 9 rfl (fun J hJ => ?_)
                           refine aPut rfl rfl rfl hx (oq_info X) rfl (oqA_one X) rfl hS hm hJ fun _ hS hx _ => ?_
                           clear hJ J
                           refine hT 10 6 (.bool b) rfl rfl (fun w hSw => ?_) ?_
                           · go_simp; (try with_reducible rfl)
                           simp only [List.set]
                           refine hT 11 7 (.int .i64 E4) rfl rfl (fun w hSw => ?_) ?_
                           · go_simp; (try with_reducible rfl)
                           simp only [List.set]
                           refine wpAnyH_done (by kernel_rfl) ?_ _
                           go_wp2_with (fail)
                           go_meet
                           case rel => exact ⟨g, X, b, rfl, rfl, rfl, hX, Lib.hid ⟨HW.out _ hS, hx⟩⟩
                         ·refine aNew (en_o26 rfl) rfl hS (Nat.le_refl _) hJ fun _ g hS hm hx h9 => ?_
                          clear h9 hJ J; simp only [List.set]
                          refine aH1 3 rfl (fun J hJ => ?_)
                          ·go_simp
                           go_at_call 8
                           (with_reducible refine (cT _ (HV.out _ hS)).mono ?_)
                           rintro e _ ⟨X, b, rfl, hX, h9⟩
                           have hS := vb hS h9; have hx := vblkn h9 hx; clear h9; refine hJ.out _ _ hS (fun _ => ?_); clear hJ J
                           refine hT 4 103 (.tuple #[.agg (oqA X), .bool b, .int .i64 E4]) rfl rfl (fun w hSw => ?_) ?_
                           · go_simp; (try with_reducible rfl)
                           simp only [List.set]
                           refine hT 5 108 (.agg (oqA X)) rfl rfl (fun w hSw => ?_) ?_
                           · go_simp; (try with_reducible rfl)
                           simp only [List.set]
                           refine hT 6 109 (.bool b) rfl rfl (fun w hSw => ?_) ?_
                           · go_simp; (try with_reducible rfl)
                           simp only [List.set]
                           refine hT 7 110 (.int .i64 E4) rfl rfl (fun w hSw => ?_) ?_
                           · go_simp; (try with_reducible rfl)
                           simp only [List.set]
                           refine aH1 9 rfl (fun J hJ => ?_)
                           refine aPut rfl rfl rfl hx (oq_info X) rfl (oqA_one X) rfl hS hm hJ fun _ hS hx _ => ?_
                           clear hJ J
                           refine hT 10 6 (.bool b) rfl rfl (fun w hSw => ?_) ?_
                           · go_simp; (try with_reducible rfl)
                           simp only [List.set]
                           refine hT 11 7 (.int .i64 E4) rfl rfl (fun w hSw => ?_) ?_
                           · go_simp; (try with_reducible rfl)
                           simp only [List.set]
                           refine wpAnyH_done (by kernel_rfl) ?_ _
                           go_wp2_with (fail)
                           go_meet
                           case rel => exact ⟨g, X, b, rfl, rfl, rfl, hX, Lib.hid ⟨HW.out _ hS, hx⟩⟩
                        ·refine aNew (en_o26 rfl) rfl hS (Nat.le_refl _) hJ fun _ g hS hm hx h9 => ?_
                         clear h9 hJ J; simp only [List.set]
                         refine aH1 0 rfl (fun J hJ => ?_)
                         ·go_simp
                          go_at_call 9
                          (with_reducible refine (ask_p 5 _).mono ?_)
                          rintro e _ ⟨rfl, h9⟩
                          have hS := vb hS h9; have hx := vblkn h9 hx; clear h9; refine hJ.out _ _ hS (fun _ => ?_); clear hJ J
                          refine aH1 3 rfl (fun J hJ => ?_)
                          ·go_simp
                           go_at_call 8
                           (with_reducible refine (cT _ (HV.out _ hS)).mono ?_)
                           rintro e _ ⟨X, b, rfl, hX, h9⟩
                           have hS := vb hS h9; have hx := vblkn h9 hx; clear h9; refine hJ.out _ _ hS (fun _ => ?_); clear hJ J
                           refine hT 4 103 (.tuple #[.agg (oqA X), .bool b, .int .i64 E4]) rfl rfl (fun w hSw => ?_) ?_
                           · go_simp; (try with_reducible rfl)
                           simp only [List.set]
                           refine hT 5 108 (.agg (oqA X)) rfl rfl (fun w hSw => ?_) ?_
                           · go_simp; (try with_reducible rfl)
                           simp only [List.set]
                           refine hT 6 109 (.bool b) rfl rfl (fun w hSw => ?_) ?_
                           · go_simp; (try with_reducible rfl)
                           simp only [List.set]
                           refine hT 7 110 (.int .i64 E4) rfl rfl (fun w hSw => ?_) ?_
                           · go_simp; (try with_reducible rfl)
                           simp only [List.set]
                           refine aH1 9 rfl (fun J hJ => ?_)
                           refine aPut rfl rfl rfl hx (oq_info X) rfl (oqA_one X) rfl hS hm hJ fun _ hS hx _ => ?_
                           clear hJ J
                           refine hT 10 6 (.bool b) rfl rfl (fun w hSw => ?_) ?_
                           · go_simp; (try with_reducible rfl)
                           simp only [List.set]
                           refine hT 11 7 (.int .i64 E4) rfl rfl (fun w hSw => ?_) ?_
                           · go_simp; (try with_reducible rfl)
                           simp only [List.set]
                           refine wpAnyH_done (by kernel_rfl) ?_ _
                           go_wp2_with (fail)
                           go_meet
                           case rel => exact ⟨g, X, b, rfl, rfl, rfl, hX, Lib.hid ⟨HW.out _ hS, hx⟩⟩
                      case rest =>
                        obtain ⟨g, X, b, rfl, rfl, rfl, hX, HY⟩ := hcut
                        clear cT HT
                        by_cases hE : E4 = 0
                        case neg =>
                          have hEb : (E4 != 0) = true := by rw [bne_iff_ne]; exact hE
                          have hff : f.found = true := by
                            cases hff : f.found with
                            | true => rfl
                            | false =>
                              exfalso
                              apply hE
                              rw [HE4.out, t_may5 rfl]
                              unfold descE thereE fndO
                              rw [hff]
                              rfl
                          clear hX hE
                          go_wp2_with (first
                            | ((with_reducible refine lb_l2 (all := cll a q f) ?_ rfl rfl HY.out.t.c ?_); (rfl); refine ⟨_, rfl, ?_⟩)
                            | (fail))
                          go_ret
                          exact ⟨by first | rfl | (rw [hff]; done) | (simp [hff]; done), HY.out.t.below⟩
                        case pos =>
                          obtain ⟨rfl, ka, kc, hXX⟩ := hX hE
                          have HXX := Lib.hid hXX
                          clear hXX hX
                          have HTH : Hid (thereE f = 0) := Lib.hid (orE_0 ((t_may5 (f := f) (q := (fndO f.found (bif f.found then f.d else dz 0))) (L := L) (D := D) rfl).symm.trans (HE4.out.symm.trans hE))).2
                          clear HE4
                          subst hE
                          go_upto_region 20 with (fail)
                          (try dsimp only [Act.put])
                          go_cut [135] from 13 (fun s1 wx => s1 = .bool false ∧ Hid (Tx w (clA a q f) gf (fqA f) wx))
                          case first => as_aux_lemma =>
                            cases hff : f.found
                            · have hx : X = yesO false := by rw [HXX.out, hff]; rfl
                              subst hx
                              go_wp2_with (first
                                | ((with_reducible refine lb_l2 (all := oql (yesO false)) ?_ rfl rfl HY.out.o ?_); (rfl); refine ⟨_, rfl, ?_⟩)
                                | ((with_reducible refine lb_l2 (all := cll a q f) ?_ rfl rfl HY.out.t.c ?_); (rfl); refine ⟨_, rfl, ?_⟩)
                                | (fail))
                              go_meet
                              case rel => exact ⟨rfl, Lib.hid HY.out.t⟩
                            · obtain ⟨g1, hh, hcc⟩ := there_good HI.out.fd HTH.out hff
                              have hx : X = ⟨1, v0, false, true, completeQ f.d, none, 0, 0, 0, ⟨#[]⟩⟩ := by rw [HXX.out, hff, ← hcc]; rfl
                              subst hx
                              have cM := fun W => self_desc (self_of g1 hh) g1 W
                              clear g1 hh hcc
                              generalize completeQ f.d = C at *
                              go_wp2_with (first
                                | ((with_reducible refine lb_l2 (all := oql ⟨1, v0, false, true, C, none, 0, 0, 0, ⟨#[]⟩⟩) ?_ rfl rfl HY.out.o ?_); (rfl); refine ⟨_, rfl, ?_⟩)
                                | ((with_reducible refine lb_l2 (all := cll a q f) ?_ rfl rfl HY.out.t.c ?_); (rfl); refine ⟨_, rfl, ?_⟩)
                                | ((with_reducible refine cd_ld (d := C) (all := oql ⟨1, v0, false, true, C, none, 0, 0, 0, ⟨#[]⟩⟩) ?_ rfl rfl HY.out.o ?_ ?_); (rfl); (rfl))
                                | ((with_reducible refine cd_ld (d := f.d) (all := cll a q f) ?_ rfl rfl HY.out.t.c ?_ ?_); (rfl); (rfl))
                                | (go_at_call 19; (with_reducible refine (cM _).mono ?_); rintro e w6 ⟨rfl, h9⟩; have HY := Lib.hid (HY.out.up h9); clear h9)
                                | (fail))
                              go_meet
                              case rel => exact ⟨rfl, Lib.hid HY.out.t⟩
                          case rest =>
                            obtain ⟨rfl, HT⟩ := hcut
                            clear HY
                            clear HXX
                            have cT : ∀ W, Below w.heap.size w W → Calls Try.prog 8 #[.agg (akA (akz 7)), .agg (oqA (yesO f.found)), .agg (fqA f)] W fun e w' => ∃ (X : Oq) (b : Bool), e = .returned (.tuple #[.agg (oqA X), .bool b, .int .i64 0]) ∧ TrX 0 7 (yesO f.found) 0 X b ∧ Below W.heap.size W w' := fun W hb => by
                              have h := check_t W (akz 7) (yesO f.found) f [] L D ((sin_cin HI.out 7 _ v0_in dz_in rfl (fun _ => rfl) H7.out.1 H7.out.2.1).up hb) (by decide) (fun _ => t_has)
                              rw [t_may7, HTH.out] at h
                              exact h
                            go_upto_region 22 with (fail)
                            (try dsimp only [Act.put])
                            go_cut [6, 7] from 13 (fun s1 s2 wx => s1 = .bool true ∧ s2 = .int .i64 0 ∧ Hid (Tx w (clA a q f) gf (fqA f) wx))
                            case first => as_aux_lemma =>
                              have HD := Lib.hid (HT.out.up (Below.refl _ _).drew)
                              have hS : Below (World.drew wc).heap.size (World.drew wc) (World.drew wc) := Below.refl _ _
                              refine wp_region_held_drew (S := fun V : World => Below (World.drew wc).heap.size (World.drew wc) V) (by kernel_rfl) hS (fun hHeld => ?_)
                              clear HT
                              generalize World.drew wc = W0 at *
                              have HV : Hid (∀ V : World, Below W0.heap.size W0 V → Below w.heap.size w V) := Lib.hid fun V h => vb HD.out.below h
                              have HW : Hid (∀ V : World, Below W0.heap.size W0 V → Tx w (clA a q f) gf (fqA f) V) := Lib.hid fun V h => HD.out.up h
                              have HC : Hid (∀ V : World, Below W0.heap.size W0 V → V.heap[w.heap.size]? = some (.cells (cll a q f).toArray 52 (0, 0))) := Lib.hid fun V h => (HD.out.up h).c
                              have HF : Hid (∀ V : World, Below W0.heap.size W0 V → V.heap[gf]? = some (.cells (fql f).toArray 43 (0, 0))) := Lib.hid fun V h => (HD.out.up h).f
                              refine hT 1 138 (.pointer (some ⟨w.heap.size, 60, none⟩)) rfl rfl (fun w hSw => ?_) ?_
                              · go_simp; (try with_reducible rfl)
                              simp only [List.set]
                              refine hT 2 139 (.bool f.found) rfl rfl (fun w hSw => ?_) ?_
                              · exact ex_load_at (n_bl ((vcells (HC.out _ hSw) 60).trans rfl)) rfl rfl
                              simp only [List.set]
                              refine hT 4 141 (.agg (fqA f)) rfl rfl (fun w hSw => ?_) ?_
                              · exact ex_load_at (sub_run (cs := fql f) (all := fql f) (HF.out _ hSw) rfl Try.underlying43 rfl fq_sz) rfl rfl
                              simp only [List.set]
                              refine aH1 0 rfl (fun J hJ => ?_)
                              ·go_simp
                               go_at_call 9
                               (with_reducible refine (ask_p 7 _).mono ?_)
                               rintro e _ ⟨rfl, h9⟩
                               have hS := vb hS h9; clear h9; refine hJ.out _ _ hS (fun _ => ?_); clear hJ J
                               refine aH1 3 rfl (fun J hJ => ?_)
                               ·go_simp
                                go_at_call 12
                                (with_reducible refine (yes_p f.found _).mono ?_)
                                rintro e _ ⟨rfl, h9⟩
                                have hS := vb hS h9; clear h9; refine hJ.out _ _ hS (fun _ => ?_); clear hJ J
                                refine aH1 5 rfl (fun J hJ => ?_)
                                ·go_simp
                                 go_at_call 8
                                 (with_reducible refine (cT _ (HV.out _ hS)).mono ?_)
                                 rintro e _ ⟨X, b, rfl, hX, h9⟩
                                 have hS := vb hS h9; clear h9; refine hJ.out _ _ hS (fun _ => ?_); clear hJ J
                                 refine hT 6 136 (.tuple #[.agg (oqA X), .bool b, .int .i64 0]) rfl rfl (fun w hSw => ?_) ?_
                                 · go_simp; (try with_reducible rfl)
                                 simp only [List.set]
                                 refine hT 7 143 (.agg (oqA X)) rfl rfl (fun w hSw => ?_) ?_
                                 · go_simp; (try with_reducible rfl)
                                 simp only [List.set]
                                 refine hT 8 144 (.bool b) rfl rfl (fun w hSw => ?_) ?_
                                 · go_simp; (try with_reducible rfl)
                                 simp only [List.set]
                                 refine hT 9 145 (.int .i64 0) rfl rfl (fun w hSw => ?_) ?_
                                 · go_simp; (try with_reducible rfl)
                                 simp only [List.set]
                                 refine hT 10 6 (.bool b) rfl rfl (fun w hSw => ?_) ?_
                                 · go_simp; (try with_reducible rfl)
                                 simp only [List.set]
                                 refine hT 11 7 (.int .i64 0) rfl rfl (fun w hSw => ?_) ?_
                                 · go_simp; (try with_reducible rfl)
                                 simp only [List.set]
                                 refine wpAnyH_done (by kernel_rfl) ?_ _
                                 go_wp2_with (fail)
                                 go_meet
                                 case rel => exact ⟨by rw [(hX rfl).1], rfl, Lib.hid (HW.out _ hS)⟩
                            case rest =>
                              obtain ⟨rfl, rfl, HT⟩ := hcut
                              clear cT
                              obtain ⟨DT, hDT⟩ : ∃ DT, DT = hasB f.d.h 3 := ⟨_, rfl⟩
                              have cD := fun W => isData_p f.d W
                              rw [← hDT] at cD
                              have HDT := Lib.hid hDT
                              clear hDT
                              cases hff : f.found
                              case false =>
                                go_wp2_with (first
                                  | ((with_reducible refine lb_l2 (all := cll a q f) ?_ rfl rfl HT.out.c ?_); (rfl); refine ⟨_, rfl, ?_⟩)
                                  | (fail))
                                go_ret
                                exact ⟨rfl, HT.out.below⟩
                              case true =>
                                cases DT
                                case false =>
                                  go_wp2_with (first
                                    | ((with_reducible refine lb_l2 (all := cll a q f) ?_ rfl rfl HT.out.c ?_); (rfl); refine ⟨_, rfl, ?_⟩)
                                    | ((with_reducible refine cd_ld (d := f.d) (all := cll a q f) ?_ rfl rfl HT.out.c ?_ ?_); (rfl); (rfl))
                                    | (go_at_call 20; (with_reducible refine (cD _).mono ?_); rintro e w5 ⟨rfl, h9⟩; have HT := Lib.hid (HT.out.up h9); clear h9)
                                    | (fail))
                                  go_ret
                                  exact ⟨rfl, HT.out.below⟩
                                case true =>
                                  have cT : ∀ W, Below w.heap.size w W → Calls Try.prog 8 #[.agg (akA (akz 8)), .agg (oqA (valO f.d.a)), .agg (fqA f)] W fun e w' => ∃ (X : Oq) (b : Bool), e = .returned (.tuple #[.agg (oqA X), .bool b, .int .i64 0]) ∧ TrX 0 8 (valO f.d.a) 0 X b ∧ Below W.heap.size W w' := fun W hb => by
                                    have h := check_t W (akz 8) (valO f.d.a) f [] L D ((sin_cin HI.out 8 _ HI.out.fd.a dz_in rfl (fun _ => rfl) H7.out.1 H7.out.2.1).up hb) (by decide) (fun _ => t_get HI.out.fd hff HTH.out HDT.out.symm)
                                    rw [t_may8z HI.out.fd hff HTH.out] at h
                                    exact h
                                  obtain ⟨g1, hh, hcc⟩ := there_good HI.out.fd HTH.out hff
                                  have cS := fun W => samev (a := f.d.a) (b := f.d.a) (good_kinds g1).1 (good_kinds g1).1.1 W
                                  rw [same_refl g1.a] at cS
                                  clear g1 hh hcc
                                  have HSM := Lib.hid cS
                                  clear cS
                                  go_upto_region 27 with (first
                                    | ((with_reducible refine lb_l2 (all := cll a q f) ?_ rfl rfl HT.out.c ?_); (rfl); refine ⟨_, rfl, ?_⟩)
                                    | ((with_reducible refine cd_ld (d := f.d) (all := cll a q f) ?_ rfl rfl HT.out.c ?_ ?_); (rfl); (rfl))
                                    | (go_at_call 20; (with_reducible refine (cD _).mono ?_); rintro e w5 ⟨rfl, h9⟩; have HT := Lib.hid (HT.out.up h9); clear h9)
                                    | (fail))
                                  (try dsimp only [Act.put])
                                  clear cD
                                  clear hff
                                  go_cut [6, 7, 12] from 13 (fun s1 s2 s3 wx => ∃ (g : Nat) (X : Oq) (b : Bool), s3 = .pointer (some ⟨g, 0, none⟩) ∧ s1 = .bool b ∧ s2 = .int .i64 0 ∧ TrX 0 8 (valO f.d.a) 0 X b ∧ Hid (Ty w (clA a q f) gf (fqA f) g X wx))
                                  case first => as_aux_lemma =>
                                    have HD := Lib.hid (HT.out.up (Below.refl _ _).drew)
                                    have hS : Below (World.drew w5).heap.size (World.drew w5) (World.drew w5) := Below.refl _ _
                                    refine wp_region_held_drew (S := fun V : World => Below (World.drew w5).heap.size (World.drew w5) V) (by kernel_rfl) hS (fun hHeld => ?_)
                                    clear HT
                                    generalize World.drew w5 = W0 at *
                                    have HV : Hid (∀ V : World, Below W0.heap.size W0 V → Below w.heap.size w V) := Lib.hid fun V h => vb HD.out.below h
                                    have HW : Hid (∀ V : World, Below W0.heap.size W0 V → Tx w (clA a q f) gf (fqA f) V) := Lib.hid fun V h => HD.out.up h
                                    have HC : Hid (∀ V : World, Below W0.heap.size W0 V → V.heap[w.heap.size]? = some (.cells (cll a q f).toArray 52 (0, 0))) := Lib.hid fun V h => (HD.out.up h).c
                                    have HF : Hid (∀ V : World, Below W0.heap.size W0 V → V.heap[gf]? = some (.cells (fql f).toArray 43 (0, 0))) := Lib.hid fun V h => (HD.out.up h).f
                                    refine hT 1 163 (.pointer (some ⟨w.heap.size, 61, none⟩)) rfl rfl (fun w hSw => ?_) ?_
                                    · go_simp; (try with_reducible rfl)
                                    simp only [List.set]
                                    refine hT 2 164 (.pointer (some ⟨w.heap.size, 62, none⟩)) rfl rfl (fun w hSw => ?_) ?_
                                    · go_simp; (try with_reducible rfl)
                                    simp only [List.set]
                                    refine hT 3 165 (.agg #[.int .u8 f.d.a.k, .float .f64 f.d.a.x, .string f.d.a.s, .int .i64 f.d.a.r]) rfl rfl (fun w hSw => ?_) ?_
                                    · exact ex_load_at (sub_run (cs := [.int .u8 f.d.a.k, .float .f64 f.d.a.x, .string f.d.a.s, .int .i64 f.d.a.r]) (all := cll a q f) (HC.out _ hSw) rfl Try.underlying24 rfl vsz) rfl rfl
                                    simp only [List.set]
                                    refine hT 4 166 (.agg (oqA (valO f.d.a))) rfl rfl (fun w hSw => ?_) ?_
                                    · exact val_ea rfl rfl
                                    simp only [List.set]
                                    refine hT 5 167 (.agg (fqA f)) rfl rfl (fun w hSw => ?_) ?_
                                    · exact ex_load_at (sub_run (cs := fql f) (all := fql f) (HF.out _ hSw) rfl Try.underlying43 rfl fq_sz) rfl rfl
                                    simp only [List.set]
                                    refine aH2 0 11 rfl rfl (fun J hJ => ?_) (fun J hJ => ?_)
                                    ·go_simp
                                     go_at_call 9
                                     (with_reducible refine (ask_p 8 _).mono ?_)
                                     rintro e _ ⟨rfl, h9⟩
                                     have hS := vb hS h9; clear h9; refine hJ.out _ _ hS (fun _ => ?_); clear hJ J
                                     refine aH2 6 11 rfl rfl (fun J hJ => ?_) (fun J hJ => ?_)
                                     ·go_simp
                                      go_at_call 8
                                      (with_reducible refine (cT _ (HV.out _ hS)).mono ?_)
                                      rintro e _ ⟨X, b, rfl, hX, h9⟩
                                      have hS := vb hS h9; clear h9; refine hJ.out _ _ hS (fun _ => ?_); clear hJ J
                                      refine hT 7 161 (.tuple #[.agg (oqA X), .bool b, .int .i64 0]) rfl rfl (fun w hSw => ?_) ?_
                                      · go_simp; (try with_reducible rfl)
                                      simp only [List.set]
                                      refine hT 8 169 (.agg (oqA X)) rfl rfl (fun w hSw => ?_) ?_
                                      · go_simp; (try with_reducible rfl)
                                      simp only [List.set]
                                      refine hT 9 170 (.bool b) rfl rfl (fun w hSw => ?_) ?_
                                      · go_simp; (try with_reducible rfl)
                                      simp only [List.set]
                                      refine hT 10 171 (.int .i64 0) rfl rfl (fun w hSw => ?_) ?_
                                      · go_simp; (try with_reducible rfl)
                                      simp only [List.set]
                                      refine aH1 11 rfl (fun J hJ => ?_)
                                      ·refine aNew (en_o26 rfl) rfl hS (Nat.le_refl _) hJ fun _ g hS hm hx h9 => ?_
                                       clear h9 hJ J; simp only [List.set]
                                       refine aH1 12 rfl (fun J hJ => ?_)
                                       refine aPut rfl rfl rfl hx (oq_info X) rfl (oqA_one X) rfl hS hm hJ fun _ hS hx _ => ?_
                                       clear hJ J
                                       refine hT 13 6 (.bool b) rfl rfl (fun w hSw => ?_) ?_
                                       · go_simp; (try with_reducible rfl)
                                       simp only [List.set]
                                       refine hT 14 7 (.int .i64 0) rfl rfl (fun w hSw => ?_) ?_
                                       · go_simp; (try with_reducible rfl)
                                       simp only [List.set]
                                       refine wpAnyH_done (by kernel_rfl) ?_ _
                                       go_wp2_with (fail)
                                       go_meet
                                       case rel => exact ⟨g, X, b, rfl, rfl, rfl, hX, Lib.hid ⟨HW.out _ hS, hx⟩⟩
                                     ·refine aNew (en_o26 rfl) rfl hS (Nat.le_refl _) hJ fun _ g hS hm hx h9 => ?_
                                      clear h9 hJ J; simp only [List.set]
                                      refine aH1 6 rfl (fun J hJ => ?_)
                                      ·go_simp
                                       go_at_call 8
                                       (with_reducible refine (cT _ (HV.out _ hS)).mono ?_)
                                       rintro e _ ⟨X, b, rfl, hX, h9⟩
                                       have hS := vb hS h9; have hx := vblkn h9 hx; clear h9; refine hJ.out _ _ hS (fun _ => ?_); clear hJ J
                                       refine hT 7 161 (.tuple #[.agg (oqA X), .bool b, .int .i64 0]) rfl rfl (fun w hSw => ?_) ?_
                                       · go_simp; (try with_reducible rfl)
                                       simp only [List.set]
                                       refine hT 8 169 (.agg (oqA X)) rfl rfl (fun w hSw => ?_) ?_
                                       · go_simp; (try with_reducible rfl)
                                       simp only [List.set]
                                       refine hT 9 170 (.bool b) rfl rfl (fun w hSw => ?_) ?_
                                       · go_simp; (try with_reducible rfl)
                                       simp only [List.set]
                                       refine hT 10 171 (.int .i64 0) rfl rfl (fun w hSw => ?_) ?_
                                       · go_simp; (try with_reducible rfl)
                                       simp only [List.set]
                                       refine aH1 12 rfl (fun J hJ => ?_)
                                       refine aPut rfl rfl rfl hx (oq_info X) rfl (oqA_one X) rfl hS hm hJ fun _ hS hx _ => ?_
                                       clear hJ J
                                       refine hT 13 6 (.bool b) rfl rfl (fun w hSw => ?_) ?_
                                       · go_simp; (try with_reducible rfl)
                                       simp only [List.set]
                                       refine hT 14 7 (.int .i64 0) rfl rfl (fun w hSw => ?_) ?_
                                       · go_simp; (try with_reducible rfl)
                                       simp only [List.set]
                                       refine wpAnyH_done (by kernel_rfl) ?_ _
                                       go_wp2_with (fail)
                                       go_meet
                                       case rel => exact ⟨g, X, b, rfl, rfl, rfl, hX, Lib.hid ⟨HW.out _ hS, hx⟩⟩
                                    ·refine aNew (en_o26 rfl) rfl hS (Nat.le_refl _) hJ fun _ g hS hm hx h9 => ?_
                                     clear h9 hJ J; simp only [List.set]
                                     refine aH1 0 rfl (fun J hJ => ?_)
                                     ·go_simp
                                      go_at_call 9
                                      (with_reducible refine (ask_p 8 _).mono ?_)
                                      rintro e _ ⟨rfl, h9⟩
                                      have hS := vb hS h9; have hx := vblkn h9 hx; clear h9; refine hJ.out _ _ hS (fun _ => ?_); clear hJ J
                                      refine aH1 6 rfl (fun J hJ => ?_)
                                      ·go_simp
                                       go_at_call 8
                                       (with_reducible refine (cT _ (HV.out _ hS)).mono ?_)
                                       rintro e _ ⟨X, b, rfl, hX, h9⟩
                                       have hS := vb hS h9; have hx := vblkn h9 hx; clear h9; refine hJ.out _ _ hS (fun _ => ?_); clear hJ J
                                       refine hT 7 161 (.tuple #[.agg (oqA X), .bool b, .int .i64 0]) rfl rfl (fun w hSw => ?_) ?_
                                       · go_simp; (try with_reducible rfl)
                                       simp only [List.set]
                                       refine hT 8 169 (.agg (oqA X)) rfl rfl (fun w hSw => ?_) ?_
                                       · go_simp; (try with_reducible rfl)
                                       simp only [List.set]
                                       refine hT 9 170 (.bool b) rfl rfl (fun w hSw => ?_) ?_
                                       · go_simp; (try with_reducible rfl)
                                       simp only [List.set]
                                       refine hT 10 171 (.int .i64 0) rfl rfl (fun w hSw => ?_) ?_
                                       · go_simp; (try with_reducible rfl)
                                       simp only [List.set]
                                       refine aH1 12 rfl (fun J hJ => ?_)
                                       refine aPut rfl rfl rfl hx (oq_info X) rfl (oqA_one X) rfl hS hm hJ fun _ hS hx _ => ?_
                                       clear hJ J
                                       refine hT 13 6 (.bool b) rfl rfl (fun w hSw => ?_) ?_
                                       · go_simp; (try with_reducible rfl)
                                       simp only [List.set]
                                       refine hT 14 7 (.int .i64 0) rfl rfl (fun w hSw => ?_) ?_
                                       · go_simp; (try with_reducible rfl)
                                       simp only [List.set]
                                       refine wpAnyH_done (by kernel_rfl) ?_ _
                                       go_wp2_with (fail)
                                       go_meet
                                       case rel => exact ⟨g, X, b, rfl, rfl, rfl, hX, Lib.hid ⟨HW.out _ hS, hx⟩⟩
                                  case rest =>
                                    obtain ⟨g, X, b, rfl, rfl, rfl, hX, HY⟩ := hcut
                                    clear cT
                                    obtain ⟨rfl, ka, kc, hXX⟩ := hX rfl
                                    have hx : X = valO f.d.a := hXX
                                    clear hXX hX
                                    subst hx
                                    have cS := HSM.out
                                    go_wp2_with (first
                                      | ((with_reducible refine cv_ld (v := f.d.a) (all := oql (valO f.d.a)) ?_ rfl rfl HY.out.o ?_ ?_); (rfl); (rfl))
                                      | ((with_reducible refine cv_ld (v := f.d.a) (all := cll a q f) ?_ rfl rfl HY.out.t.c ?_ ?_); (rfl); (rfl))
                                      | (go_at_call 18; (with_reducible refine (cS _).mono ?_); rintro e w6 ⟨rfl, h9⟩; have HY := Lib.hid (HY.out.up h9); clear h9)
                                      | (fail))
                                    go_ret
                                    exact ⟨rfl, HY.out.t.below⟩
end Go.Proofs.Ytkmgdaagannhkaa.S
