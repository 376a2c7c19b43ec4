/-
  PostLies: the call of Check, told of an input.
-/
import Derived.Test.YtkmgdaagannhkaaPL13
import Derived.Test.YtkmgdaagannhkaaPL03
import Derived.Deep.Slices
import Derived.Deep.Fields
import Derived.ChangeSame
import Derived.Carry
import Derived.OpenShut
import Derived.Laws.Cover2
import Derived.Test.YtkmgdaagannhkaaPL05
namespace Go.Proofs.Ytkmgdaagannhkaa.S
open Go.RowKit Go.Lib Fl
open Classical

/-- an input and an answer in blocks of their own -/
structure Sx (w : World) (c : Array Value) (g : Nat) (X : Oq) (W : World) : Prop where
  below : Below w.heap.size w W
  c : W.heap[w.heap.size]? = some (.cells c 52 (0, 0))
  o : W.heap[g]? = some (.cells (oql X).toArray 33 (0, 0))
theorem Sx.up {w W W' : World} {c : Array Value} {g : Nat} {X : Oq} (h : Sx w c g X W) (hb : Below W.heap.size W W') : Sx w c g X W' := ⟨vb h.below hb, vblkn hb h.c, vblkn hb h.o⟩
/-- what Check comes to, but for the world -/
def ChX (a : Ak) (q : Oq) (f : Fq) (K L : List Ky) (D : List Dq) (X : Oq) (b : Bool) : Prop :=
  (mayE a q f K L D ≠ 0 ∧ X = oz0 ∧ b = false) ∨ (mayE a q f K L D = 0 ∧ holdsB a q f K L D = false ∧ X = oz0 ∧ b = false) ∨ (mayE a q f K L D = 0 ∧ holdsB a q f K L D = true ∧ b = true ∧ ∃ ka kc, X = delQ a.m q K.length ka kc)
section
variable {o : Oper} {a : Act} {w : World}
theorem en_o26 (ho : o.op = .alloc 33) : (execOp a.eval o).run Try.prog w = .ok (.value (.pointer (some ⟨w.heap.size, 0, none⟩))) (w.alloc (.cells oz26 33)) := by
  unfold execOp
  simp only [ho]
  kernel_rfl
end
end Go.Proofs.Ytkmgdaagannhkaa.S
/-
  What a descriptor that is delivered keeps of a fixed property.
-/
namespace Go.Proofs.Ytkmgdaagannhkaa.S
open Go.RowKit Go.Lib Fl
open Classical

theorem there_ok {f : Fq} (h : thereE f = 0) (hf : f.found = true) : wholeQ f.d = true := by
  unfold thereE wholeE at h
  rw [hf] at h
  cases hw : wholeQ f.d
  · rw [hw] at h; exact absurd h (by decide)
  · rfl
theorem desc_ok {q : Oq} (h : descE q = 0) (hf : q.found = true) : chkQ q.d = true := by
  unfold descE errI at h
  rw [hf] at h
  cases hc : chkQ q.d
  · rw [hc] at h; exact absurd h (by decide)
  · rfl
theorem fixed_ways {f : Fq} (h : fixedB f = true) : f.found = true ∧ f.d.z = false := by
  unfold fixedB at h
  revert h
  cases f.found <;> cases f.d.z <;> decide
theorem free_fixed {f : Fq} (h : freeB f = true) : fixedB f = false := by
  unfold freeB at h
  cases hx : fixedB f
  · rfl
  · rw [hx, (fixed_ways hx).1] at h
    revert h
    cases f.ext <;> decide
structure Kept (c : Dq) (f : Fq) : Prop where
  h : c.h = 51 ∨ c.h = 60
  k : 0 ≤ c.a.k ∧ c.a.k ≤ 8
  z : fixedB f = true → c.z = false
  s : fixedB f = true → f.d.h = c.h
  q : fixedB f = true → c.q = f.d.q
  p : fixedB f = true → hasB f.d.h 3 = true → f.d.p = false → c.p = false ∧ sameQ c.a f.d.a = true
theorem fit_stays {c : Dq} {f : Fq} (g : Good c) (hn : f.d.In) (hx : fixedB f = true) (hf : fitsB f c = true) (h1 : thereE f = 0) : Stays (becomeQ c f.d) f.d ∧ (f.d.h = 51 ∨ f.d.h = 60) := by
  obtain ⟨x1, x2⟩ := fixed_ways hx
  have hw := there_ok h1 x1
  obtain ⟨n, hh⟩ := (whole_iff hn).1 hw
  unfold fitsB compatQ at hf
  rw [chk_of g, hw, x1] at hf
  exact ⟨stays g n hh x2 hf, hh⟩
theorem told_kept {q : Oq} {f : Fq} (hd : q.d.In) (hn : f.d.In) (hf : q.found = true) (ht : toldB q f = true) (h0 : descE q = 0) (h1 : thereE f = 0) : Kept (compQ q.d) f := by
  have hc := desc_ok h0 hf
  have e : compQ q.d = completeQ q.d := by unfold compQ; rw [hc]; rfl
  unfold toldB at ht
  rw [hf] at ht
  have hF : fitsB f (compQ q.d) = true := by
    revert ht
    cases fitsB f (compQ q.d)
    · intro ht; simp at ht
    · intro _; rfl
  rw [e] at hF ⊢
  obtain ⟨g, gh⟩ := complete_good (good_of hd hc)
  generalize completeQ q.d = c at *
  have b0 : hasB 51 32 = true ∧ hasB 51 16 = true ∧ hasB 51 3 = true ∧ hasB 51 2 = true ∧ hasB 51 1 = true ∧ hasB 51 12 = false := by decide +kernel
  have b1 : hasB 60 32 = true ∧ hasB 60 16 = true ∧ hasB 60 3 = false ∧ hasB 60 12 = true := by decide +kernel
  obtain ⟨b00, b01, b02, b03, b04, b05⟩ := b0
  obtain ⟨b10, b11, b12, b13⟩ := b1
  refine ⟨gh, vok_kind g.a, ?_, ?_, ?_, ?_⟩
  · intro hx
    obtain ⟨S, hh⟩ := fit_stays g hn hx hF h1
    rw [become_eq g.mem hh] at S
    have S1 := S.z
    dsimp only at S1
    rcases gh with e | e <;> rw [e] at S1
    · rw [b00] at S1; exact S1
    · rw [b10] at S1; exact S1
  · intro hx
    obtain ⟨S, hh⟩ := fit_stays g hn hx hF h1
    rw [become_eq g.mem hh] at S
    have S1 := S.h
    dsimp only at S1
    rcases gh with e | e <;> rw [e] at S1 ⊢
    · rw [b02] at S1; exact S1.symm
    · rw [b12, b13] at S1; exact S1.symm
  · intro hx
    obtain ⟨S, hh⟩ := fit_stays g hn hx hF h1
    rw [become_eq g.mem hh] at S
    have S1 := S.q
    dsimp only at S1
    rcases gh with e | e <;> rw [e] at S1
    · rw [b01] at S1; exact S1
    · rw [b11] at S1; exact S1
  · intro hx h3 hp
    obtain ⟨S, hh⟩ := fit_stays g hn hx hF h1
    rw [become_eq g.mem hh] at S
    have S1 := S.h
    have S2 := S.dat
    dsimp only at S1 S2
    rcases gh with e | e <;> rw [e] at S1 S2
    · rw [b02] at S1
      have S3 : (51 : Int) = f.d.h := S1
      rw [← S3] at S2
      rcases S2 b05 with h | ⟨h, h'⟩
      · rw [hp] at h; cases h
      · rw [b03] at h
        rw [b04] at h'
        exact ⟨h, h'⟩
    · rw [b12, b13] at S1
      have S3 : (60 : Int) = f.d.h := S1
      rw [← S3, b12] at h3
      cases h3
theorem got_still {v : Vq} {f : Fq} (h : gotB v f = true) (h1 : thereE f = 0) (hn : f.d.In) (hx : fixedB f = true) (h3 : hasB f.d.h 3 = true) (hp : f.d.p = false) : sameQ v f.d.a = true := by
  have hw := there_ok h1 (fixed_ways hx).1
  obtain ⟨_, hh⟩ := (whole_iff hn).1 hw
  have b05 : hasB 51 12 = false := by decide +kernel
  have b12 : hasB 60 3 = false := by decide +kernel
  unfold gotB at h
  rw [hx] at h
  rcases hh with e | e
  · rw [e, b05, hp] at h
    exact h
  · rw [e, b12] at h3
    cases h3
theorem and3 {x y z : Bool} (h : true = (x && (y && !z))) : x = true ∧ y = true ∧ z = false := by
  revert h; cases x <;> cases y <;> cases z <;> decide
end Go.Proofs.Ytkmgdaagannhkaa.S
/-
  PostLies: whatever is asked.
-/
namespace Go.Proofs.Ytkmgdaagannhkaa.S
open Go.RowKit Go.Lib Fl
open Classical

set_option maxHeartbeats 8000000 in
set_option maxRecDepth 1000000 in
theorem lies_p (a : Ak) (q : Oq) (f : Fq) (K L : List Ky) (D : List Dq) (w : World) (hi : CIn w a q f K L D) (hl : K.length ≤ 70000) (h : longN (max (max q.kn f.kn) f.on) = false) : Calls Try.prog 5 #[.agg (clA a q f)] w fun e w' => e = .returned (.bool true) ∧ Below w.heap.size w w' := by
  have HS := Lib.hid (ow_start w (clA a q f) 52)
  have cL := fun W => long_p a q f W
  rw [h] at cL
  have cC : ∀ W, Below w.heap.size w W → Calls Try.prog 8 #[.agg (akA a), .agg (oqA q), .agg (fqA f)] W fun e w' => ∃ (X : Oq) (b : Bool), e = .returned (.tuple #[.agg (oqA X), .bool b, .int .i64 (mayE a q f K L D)]) ∧ ChX a q f K L D X b ∧ Below W.heap.size W w' := fun W hb => check_p W a q f K L D (hi.up hb) hl
  obtain ⟨E, hE⟩ : ∃ E, E = mayE a q f K L D := ⟨_, rfl⟩
  rw [← hE] at cC
  go_enter Try.func5, Try.ntmps5
  go_upto_region 4 with (first
    | ((with_reducible refine sx_ld (k := a) (q := q) (f := f) ?_ rfl rfl HS.out.c ?_); (rfl))
    | (go_at_call 14; (with_reducible refine (alive_p _).mono ?_); rintro e w1 ⟨rfl, h9⟩; have HS := Lib.hid (HS.out.up h9); clear h9)
    | (go_at_call 16; (with_reducible refine (cL _).mono ?_); rintro e w2 ⟨rfl, h9⟩; have HS := Lib.hid (HS.out.up h9); clear h9)
    | (fail))
  (try dsimp only [Act.put])
  go_cut [4, 5, 6] from 10 (fun s4 s5 s6 wx => ∃ (g : Nat) (X : Oq) (b : Bool), s4 = .pointer (some ⟨g, 0, none⟩) ∧ s5 = .bool b ∧ s6 = .int .i64 E ∧ ChX a q f K L D X b ∧ Hid (Sx w (clA a q f) g X wx))
  case first =>
    have HD := Lib.hid (HS.out.up (Below.refl _ _).drew)
    have hS : Below w2.drew.heap.size w2.drew w2.drew := Below.refl _ _
    refine wp_region_held_drew (S := fun V : World => Below w2.drew.heap.size w2.drew V) (by kernel_rfl) hS (fun hHeld => ?_)
    clear HS
    generalize World.drew w2 = W0 at *
    have HV : Hid (∀ V : World, Below W0.heap.size W0 V → Below w.heap.size w V) := Lib.hid fun V h => vb HD.out.below h
    have HC : Hid (∀ V : World, Below W0.heap.size W0 V → V.heap[w.heap.size]? = some (.cells (cll a q f).toArray 52 (0, 0))) := Lib.hid fun V h => (HD.out.up h).c
    refine hT 0 19 (.pointer (some ⟨w.heap.size, 0, none⟩)) rfl rfl (fun w hSw => ?_) ?_
    · go_simp; (try with_reducible rfl)
    simp only [List.set]
    refine hT 1 20 (.agg (akA a)) rfl rfl (fun w hSw => ?_) ?_
    · exact ex_load_at (sub_run (cs := akl a) (all := cll a q f) (HC.out _ hSw) rfl Try.underlying39 rfl ask_sz) rfl rfl
    simp only [List.set]
    refine hT 2 21 (.pointer (some ⟨w.heap.size, 29, none⟩)) rfl rfl (fun w hSw => ?_) ?_
    · go_simp; (try with_reducible rfl)
    simp only [List.set]
    refine hT 3 22 (.agg (oqA q)) rfl rfl (fun w hSw => ?_) ?_
    · exact ex_load_at (sub_run (cs := oql q) (all := cll a q f) (HC.out _ hSw) rfl Try.underlying33 rfl out_sz) rfl rfl
    simp only [List.set]
    refine hT 4 23 (.agg (clA a q f)) rfl rfl (fun w hSw => ?_) ?_
    · exact ex_load_at (sub_run (cs := cll a q f) (all := cll a q f) (HC.out _ hSw) rfl Try.underlying52 rfl as_sz) rfl rfl
    simp only [List.set]
    refine aH2 5 11 rfl rfl (fun J hJ => ?_) (fun J hJ => ?_)
    ·go_simp
     go_at_call 17
     (with_reducible refine (facts_p a q f _).mono ?_)
     rintro e _ ⟨rfl, h9⟩
     have hS := vb hS h9; clear h9; refine hJ.out _ _ hS (fun _ => ?_); clear hJ J
     refine aH2 6 11 rfl rfl (fun J hJ => ?_) (fun J hJ => ?_)
     ·go_simp
      go_at_call 8
      (with_reducible refine (cC _ (HV.out _ hS)).mono ?_)
      rintro e _ ⟨X, b, rfl, hX, h9⟩
      have hS := vb hS h9; clear h9; refine hJ.out _ _ hS (fun _ => ?_); clear hJ J
      refine hT 7 18 (.tuple #[.agg (oqA X), .bool b, .int .i64 E]) rfl rfl (fun w hSw => ?_) ?_
      · go_simp; (try with_reducible rfl)
      simp only [List.set]
      refine hT 8 26 (.agg (oqA X)) rfl rfl (fun w hSw => ?_) ?_
      · go_simp; (try with_reducible rfl)
      simp only [List.set]
      refine hT 9 27 (.bool b) rfl rfl (fun w hSw => ?_) ?_
      · go_simp; (try with_reducible rfl)
      simp only [List.set]
      refine hT 10 28 (.int .i64 E) rfl rfl (fun w hSw => ?_) ?_
      · go_simp; (try with_reducible rfl)
      simp only [List.set]
      refine aH1 11 rfl (fun J hJ => ?_)
      ·refine aNew (en_o26 rfl) rfl hS (Nat.le_refl _) hJ fun _ g hS hm hx h9 => ?_
       clear h9 hJ J; simp only [List.set]
       refine aH1 12 rfl (fun J hJ => ?_)
       refine aPut rfl rfl rfl hx (oq_info X) rfl (oqA_one X) rfl hS hm hJ fun _ hS hx _ => ?_
       clear hJ J
       refine hT 13 5 (.bool b) rfl rfl (fun w hSw => ?_) ?_
       · go_simp; (try with_reducible rfl)
       simp only [List.set]
       refine hT 14 6 (.int .i64 E) rfl rfl (fun w hSw => ?_) ?_
       · go_simp; (try with_reducible rfl)
       simp only [List.set]
       refine wpAnyH_done (by kernel_rfl) ?_ _
       go_wp2_with (fail)
       go_meet
       case rel => exact ⟨g, X, b, rfl, rfl, rfl, hX, Lib.hid ⟨HV.out _ hS, HC.out _ hS, hx⟩⟩
     ·refine aNew (en_o26 rfl) rfl hS (Nat.le_refl _) hJ fun _ g hS hm hx h9 => ?_
      clear h9 hJ J; simp only [List.set]
      refine aH1 6 rfl (fun J hJ => ?_)
      ·go_simp
       go_at_call 8
       (with_reducible refine (cC _ (HV.out _ hS)).mono ?_)
       rintro e _ ⟨X, b, rfl, hX, h9⟩
       have hS := vb hS h9; have hx := vblkn h9 hx; clear h9; refine hJ.out _ _ hS (fun _ => ?_); clear hJ J
       refine hT 7 18 (.tuple #[.agg (oqA X), .bool b, .int .i64 E]) rfl rfl (fun w hSw => ?_) ?_
       · go_simp; (try with_reducible rfl)
       simp only [List.set]
       refine hT 8 26 (.agg (oqA X)) rfl rfl (fun w hSw => ?_) ?_
       · go_simp; (try with_reducible rfl)
       simp only [List.set]
       refine hT 9 27 (.bool b) rfl rfl (fun w hSw => ?_) ?_
       · go_simp; (try with_reducible rfl)
       simp only [List.set]
       refine hT 10 28 (.int .i64 E) rfl rfl (fun w hSw => ?_) ?_
       · go_simp; (try with_reducible rfl)
       simp only [List.set]
       refine aH1 12 rfl (fun J hJ => ?_)
       refine aPut rfl rfl rfl hx (oq_info X) rfl (oqA_one X) rfl hS hm hJ fun _ hS hx _ => ?_
       clear hJ J
       refine hT 13 5 (.bool b) rfl rfl (fun w hSw => ?_) ?_
       · go_simp; (try with_reducible rfl)
       simp only [List.set]
       refine hT 14 6 (.int .i64 E) rfl rfl (fun w hSw => ?_) ?_
       · go_simp; (try with_reducible rfl)
       simp only [List.set]
       refine wpAnyH_done (by kernel_rfl) ?_ _
       go_wp2_with (fail)
       go_meet
       case rel => exact ⟨g, X, b, rfl, rfl, rfl, hX, Lib.hid ⟨HV.out _ hS, HC.out _ hS, hx⟩⟩
    ·refine aNew (en_o26 rfl) rfl hS (Nat.le_refl _) hJ fun _ g hS hm hx h9 => ?_
     clear h9 hJ J; simp only [List.set]
     refine aH1 5 rfl (fun J hJ => ?_)
     ·go_simp
      go_at_call 17
      (with_reducible refine (facts_p a q f _).mono ?_)
      rintro e _ ⟨rfl, h9⟩
      have hS := vb hS h9; have hx := vblkn h9 hx; clear h9; refine hJ.out _ _ hS (fun _ => ?_); clear hJ J
      refine aH1 6 rfl (fun J hJ => ?_)
      ·go_simp
       go_at_call 8
       (with_reducible refine (cC _ (HV.out _ hS)).mono ?_)
       rintro e _ ⟨X, b, rfl, hX, h9⟩
       have hS := vb hS h9; have hx := vblkn h9 hx; clear h9; refine hJ.out _ _ hS (fun _ => ?_); clear hJ J
       refine hT 7 18 (.tuple #[.agg (oqA X), .bool b, .int .i64 E]) rfl rfl (fun w hSw => ?_) ?_
       · go_simp; (try with_reducible rfl)
       simp only [List.set]
       refine hT 8 26 (.agg (oqA X)) rfl rfl (fun w hSw => ?_) ?_
       · go_simp; (try with_reducible rfl)
       simp only [List.set]
       refine hT 9 27 (.bool b) rfl rfl (fun w hSw => ?_) ?_
       · go_simp; (try with_reducible rfl)
       simp only [List.set]
       refine hT 10 28 (.int .i64 E) rfl rfl (fun w hSw => ?_) ?_
       · go_simp; (try with_reducible rfl)
       simp only [List.set]
       refine aH1 12 rfl (fun J hJ => ?_)
       refine aPut rfl rfl rfl hx (oq_info X) rfl (oqA_one X) rfl hS hm hJ fun _ hS hx _ => ?_
       clear hJ J
       refine hT 13 5 (.bool b) rfl rfl (fun w hSw => ?_) ?_
       · go_simp; (try with_reducible rfl)
       simp only [List.set]
       refine hT 14 6 (.int .i64 E) rfl rfl (fun w hSw => ?_) ?_
       · go_simp; (try with_reducible rfl)
       simp only [List.set]
       refine wpAnyH_done (by kernel_rfl) ?_ _
       go_wp2_with (fail)
       go_meet
       case rel => exact ⟨g, X, b, rfl, rfl, rfl, hX, Lib.hid ⟨HV.out _ hS, HC.out _ hS, hx⟩⟩
  case rest =>
    obtain ⟨g, X, b, rfl, rfl, rfl, hX, HG⟩ := hcut
    unfold ChX at hX
    rw [← hE] at hX
    clear cC cL
    rcases hX with ⟨h0, rfl, rfl⟩ | ⟨h0, _, rfl, rfl⟩ | ⟨h0, h1, rfl, ka, kc, hXX⟩
    · have hEb : (E != 0) = true := by rw [bne_iff_ne]; exact h0
      clear h0 hE hi hl h
      go_wp2_with (first
        | ((with_reducible refine lu_l2 (all := oql oz0) ?_ rfl rfl HG.out.o ?_); (rfl); refine ⟨_, rfl, ?_⟩)
        | (fail))
      go_ret
      exact ⟨rfl, HG.out.below⟩
    · subst h0
      clear hE hi hl h
      go_wp2_with (first
        | ((with_reducible refine lu_l2 (all := oql oz0) ?_ rfl rfl HG.out.o ?_); (rfl); refine ⟨_, rfl, ?_⟩)
        | (fail))
      go_ret
      exact ⟨rfl, HG.out.below⟩
    · subst h0
      have HM := Lib.hid hE.symm
      have HX := Lib.hid hXX
      have H1 := Lib.hid h1
      have HI := Lib.hid hi
      clear hE hXX h1 hi hl h
      obtain ⟨FX, hFX⟩ : ∃ FX, FX = fixedB f := ⟨_, rfl⟩
      obtain ⟨DT, hDT⟩ : ∃ DT, DT = hasB f.d.h 3 := ⟨_, rfl⟩
      obtain ⟨ST, hST⟩ : ∃ ST, ST = (FX && (DT && !f.d.p)) := ⟨_, rfl⟩
      have cD := fun W => isData_p f.d W
      rw [← hDT] at cD
      have HFX := Lib.hid hFX
      have HDT := Lib.hid hDT
      have HST := Lib.hid hST
      clear hFX hDT hST
      go_upto_region 7 with (fail)
      (try dsimp only [Act.put])
      go_cut [7] from 10 (fun s7 wx => s7 = .bool FX ∧ Hid (Sx w (clA a q f) g X wx))
      case first =>
        cases hf : f.found <;> cases hz : f.d.z
        all_goals (go_wp2_with (first
          | ((with_reducible refine lb_l2 (all := cll a q f) ?_ rfl rfl HG.out.c ?_); (rfl); refine ⟨_, rfl, ?_⟩)
          | (fail)))
        all_goals go_meet
        all_goals (case rel => exact ⟨by rw [HFX.out]; unfold fixedB; rw [hf, hz]; rfl, HG⟩)
      case rest =>
        obtain ⟨rfl, HG⟩ := hcut
        go_upto_region 8 with (fail)
        (try dsimp only [Act.put])
        go_cut [8] from 10 (fun s8 wx => s8 = .bool ST ∧ Hid (Sx w (clA a q f) g X wx))
        case first =>
          cases FX <;> cases DT <;> cases hp : f.d.p
          all_goals (go_wp2_with (first
            | ((with_reducible refine lb_l2 (all := cll a q f) ?_ rfl rfl HG.out.c ?_); (rfl); refine ⟨_, rfl, ?_⟩)
            | ((with_reducible refine cd_ld (d := f.d) (all := cll a q f) ?_ rfl rfl HG.out.c ?_ ?_); (rfl); (rfl))
            | (go_at_call 20; (with_reducible refine (cD _).mono ?_); rintro e w5 ⟨rfl, h9⟩; have HG := Lib.hid (HG.out.up h9); clear h9)
            | (fail)))
          all_goals go_meet
          all_goals (case rel => exact ⟨by rw [HST.out]; simp [hp], HG⟩)
        case rest =>
          obtain ⟨rfl, HG⟩ := hcut
          clear cD
          obtain ⟨hk, hw⟩ := may_is HM.out
          have HK := Lib.hid hk
          clear hk
          rcases hw with hm | hm | hm | hm | hm | hm | hm | hm | hm | hm | hm | hm | hm
          · go_wp2_with (first
              | ((with_reducible refine lu_l2 (all := cll a q f) ?_ rfl rfl HG.out.c ?_); (rfl); refine ⟨_, rfl, ?_⟩)
              | (fail))
            go_ret
            exact ⟨rfl, HG.out.below⟩
          · go_wp2_with (first
              | ((with_reducible refine lu_l2 (all := cll a q f) ?_ rfl rfl HG.out.c ?_); (rfl); refine ⟨_, rfl, ?_⟩)
              | (fail))
            go_ret
            exact ⟨rfl, HG.out.below⟩
          · have hx : X = yesO q.b := by rw [HX.out, hm]; rfl
            subst hx
            have HH : Hid (q.b = f.ext) := Lib.hid (by have h := H1.out; unfold holdsB at h; simp [hm] at h; exact h)
            go_wp2_with (first
              | ((with_reducible refine lu_l2 (all := cll a q f) ?_ rfl rfl HG.out.c ?_); (rfl); refine ⟨_, rfl, ?_⟩)
              | ((with_reducible refine lb_l2 (all := oql (yesO q.b)) ?_ rfl rfl HG.out.o ?_); (rfl); refine ⟨_, rfl, ?_⟩)
              | ((with_reducible refine lb_l2 (all := cll a q f) ?_ rfl rfl HG.out.c ?_); (rfl); refine ⟨_, rfl, ?_⟩)
              | (fail))
            go_ret
            exact ⟨by have h := HH.out; first | (simp [yesO, h]; done) | (congr 2; simp [yesO, h]; done), HG.out.below⟩
          · go_wp2_with (first
              | ((with_reducible refine lu_l2 (all := cll a q f) ?_ rfl rfl HG.out.c ?_); (rfl); refine ⟨_, rfl, ?_⟩)
              | (fail))
            go_ret
            exact ⟨rfl, HG.out.below⟩
          · have hM := HM.out
            unfold mayE at hM
            simp only [hm] at hM
            have hO : descE q = 0 ∧ thereE f = 0 := orE_0 (by revert hM; simp [HK.out])
            clear hM
            have ht : toldB q f = true := by have h := H1.out; unfold holdsB at h; simp [hm] at h; exact h
            cases hqf : q.found
            · have hx : X = yesO false := by rw [HX.out, hm]; show (bif q.found then _ else yesO false) = _; rw [hqf]; rfl
              subst hx
              have hfx : FX = false := by rw [HFX.out]; refine free_fixed ?_; unfold toldB at ht; rw [hqf] at ht; exact ht
              subst hfx
              clear ht hO
              go_wp2_with (first
                | ((with_reducible refine lu_l2 (all := cll a q f) ?_ rfl rfl HG.out.c ?_); (rfl); refine ⟨_, rfl, ?_⟩)
                | ((with_reducible refine lb_l2 (all := oql (yesO false)) ?_ rfl rfl HG.out.o ?_); (rfl); refine ⟨_, rfl, ?_⟩)
                | (fail))
              go_ret
              exact ⟨rfl, HG.out.below⟩
            · have hkp := told_kept HI.out.qd HI.out.fd hqf ht hO.1 hO.2
              have hx : X = ⟨1, v0, false, true, compQ q.d, none, 0, 0, 0, ⟨#[]⟩⟩ := by rw [HX.out, hm]; show (bif q.found then _ else _) = _; rw [hqf]; rfl
              clear ht hO HX H1 HM hqf
              generalize compQ q.d = C at hx hkp
              subst hx
              obtain ⟨ch, ca, cb, cc, cp, cq, cz⟩ := C
              obtain ⟨k1, k2, k3, k4, k5, k6⟩ := hkp
              dsimp only at k1 k2 k3 k4 k5 k6
              rw [← HFX.out] at k3 k4 k5 k6
              rw [← HDT.out] at k6
              cases FX
              · have hst : ST = false := HST.out
                subst hst
                clear k2 k3 k4 k5 k6
                rcases k1 with rfl | rfl
                · go_wp2_with (first
                    | ((with_reducible refine lu_l2 (all := cll a q f) ?_ rfl rfl HG.out.c ?_); (rfl); refine ⟨_, rfl, ?_⟩)
                    | ((with_reducible refine lb_l2 (all := oql ⟨1, v0, false, true, ⟨51, ca, cb, cc, cp, cq, cz⟩, none, 0, 0, 0, ⟨#[]⟩⟩) ?_ rfl rfl HG.out.o ?_); (rfl); refine ⟨_, rfl, ?_⟩)
                    | ((with_reducible refine lu_l2 (all := oql ⟨1, v0, false, true, ⟨51, ca, cb, cc, cp, cq, cz⟩, none, 0, 0, 0, ⟨#[]⟩⟩) ?_ rfl rfl HG.out.o ?_); (rfl); refine ⟨_, rfl, ?_⟩)
                    | (fail))
                  go_ret
                  exact ⟨rfl, HG.out.below⟩
                · go_wp2_with (first
                    | ((with_reducible refine lu_l2 (all := cll a q f) ?_ rfl rfl HG.out.c ?_); (rfl); refine ⟨_, rfl, ?_⟩)
                    | ((with_reducible refine lb_l2 (all := oql ⟨1, v0, false, true, ⟨60, ca, cb, cc, cp, cq, cz⟩, none, 0, 0, 0, ⟨#[]⟩⟩) ?_ rfl rfl HG.out.o ?_); (rfl); refine ⟨_, rfl, ?_⟩)
                    | ((with_reducible refine lu_l2 (all := oql ⟨1, v0, false, true, ⟨60, ca, cb, cc, cp, cq, cz⟩, none, 0, 0, 0, ⟨#[]⟩⟩) ?_ rfl rfl HG.out.o ?_); (rfl); refine ⟨_, rfl, ?_⟩)
                    | (fail))
                  go_ret
                  exact ⟨rfl, HG.out.below⟩
              · have kz := k3 rfl
                have ks := k4 rfl
                have kq := k5 rfl
                subst kz kq
                clear k3 k4 k5
                cases ST
                · clear k2 k6
                  rcases k1 with rfl | rfl
                  · go_wp2_with (first
                      | ((with_reducible refine lu_l2 (all := cll a q f) ?_ rfl rfl HG.out.c ?_); (rfl); refine ⟨_, rfl, ?_⟩)
                      | ((with_reducible refine lb_l2 (all := oql ⟨1, v0, false, true, ⟨51, ca, cb, cc, cp, f.d.q, false⟩, none, 0, 0, 0, ⟨#[]⟩⟩) ?_ rfl rfl HG.out.o ?_); (rfl); refine ⟨_, rfl, ?_⟩)
                      | ((with_reducible refine lu_l2 (all := oql ⟨1, v0, false, true, ⟨51, ca, cb, cc, cp, f.d.q, false⟩, none, 0, 0, 0, ⟨#[]⟩⟩) ?_ rfl rfl HG.out.o ?_); (rfl); refine ⟨_, rfl, ?_⟩)
                      | ((with_reducible refine lb_l2 (all := cll a q f) ?_ rfl rfl HG.out.c ?_); (rfl); refine ⟨_, rfl, ?_⟩)
                      | (fail))
                    go_ret
                    exact ⟨by first | rfl | (simp; done), HG.out.below⟩
                  · go_wp2_with (first
                      | ((with_reducible refine lu_l2 (all := cll a q f) ?_ rfl rfl HG.out.c ?_); (rfl); refine ⟨_, rfl, ?_⟩)
                      | ((with_reducible refine lb_l2 (all := oql ⟨1, v0, false, true, ⟨60, ca, cb, cc, cp, f.d.q, false⟩, none, 0, 0, 0, ⟨#[]⟩⟩) ?_ rfl rfl HG.out.o ?_); (rfl); refine ⟨_, rfl, ?_⟩)
                      | ((with_reducible refine lu_l2 (all := oql ⟨1, v0, false, true, ⟨60, ca, cb, cc, cp, f.d.q, false⟩, none, 0, 0, 0, ⟨#[]⟩⟩) ?_ rfl rfl HG.out.o ?_); (rfl); refine ⟨_, rfl, ?_⟩)
                      | ((with_reducible refine lb_l2 (all := cll a q f) ?_ rfl rfl HG.out.c ?_); (rfl); refine ⟨_, rfl, ?_⟩)
                      | (fail))
                    go_ret
                    exact ⟨by first | rfl | (simp; done), HG.out.below⟩
                · obtain ⟨_, x2, x3⟩ := and3 HST.out
                  obtain ⟨kp, hs⟩ := k6 rfl x2 x3
                  subst kp
                  clear k6
                  have cS := fun W => samev (a := ca) (b := f.d.a) k2 HI.out.fd.a.1 W
                  rw [hs] at cS
                  clear hs k2 x2 x3
                  rcases k1 with rfl | rfl
                  · go_wp2_with (first
                      | ((with_reducible refine lu_l2 (all := cll a q f) ?_ rfl rfl HG.out.c ?_); (rfl); refine ⟨_, rfl, ?_⟩)
                      | ((with_reducible refine lb_l2 (all := oql ⟨1, v0, false, true, ⟨51, ca, cb, cc, false, f.d.q, false⟩, none, 0, 0, 0, ⟨#[]⟩⟩) ?_ rfl rfl HG.out.o ?_); (rfl); refine ⟨_, rfl, ?_⟩)
                      | ((with_reducible refine lu_l2 (all := oql ⟨1, v0, false, true, ⟨51, ca, cb, cc, false, f.d.q, false⟩, none, 0, 0, 0, ⟨#[]⟩⟩) ?_ rfl rfl HG.out.o ?_); (rfl); refine ⟨_, rfl, ?_⟩)
                      | ((with_reducible refine lb_l2 (all := cll a q f) ?_ rfl rfl HG.out.c ?_); (rfl); refine ⟨_, rfl, ?_⟩)
                      | ((with_reducible refine cv_ld (v := ca) (all := oql ⟨1, v0, false, true, ⟨51, ca, cb, cc, false, f.d.q, false⟩, none, 0, 0, 0, ⟨#[]⟩⟩) ?_ rfl rfl HG.out.o ?_ ?_); (rfl); (rfl))
                      | ((with_reducible refine cv_ld (v := f.d.a) (all := cll a q f) ?_ rfl rfl HG.out.c ?_ ?_); (rfl); (rfl))
                      | (go_at_call 18; (with_reducible refine (cS _).mono ?_); rintro e w6 ⟨rfl, h9⟩; have HG := Lib.hid (HG.out.up h9); clear h9)
                      | (fail))
                    go_ret
                    exact ⟨by first | rfl | (simp; done), HG.out.below⟩
                  · go_wp2_with (first
                      | ((with_reducible refine lu_l2 (all := cll a q f) ?_ rfl rfl HG.out.c ?_); (rfl); refine ⟨_, rfl, ?_⟩)
                      | ((with_reducible refine lb_l2 (all := oql ⟨1, v0, false, true, ⟨60, ca, cb, cc, false, f.d.q, false⟩, none, 0, 0, 0, ⟨#[]⟩⟩) ?_ rfl rfl HG.out.o ?_); (rfl); refine ⟨_, rfl, ?_⟩)
                      | ((with_reducible refine lu_l2 (all := oql ⟨1, v0, false, true, ⟨60, ca, cb, cc, false, f.d.q, false⟩, none, 0, 0, 0, ⟨#[]⟩⟩) ?_ rfl rfl HG.out.o ?_); (rfl); refine ⟨_, rfl, ?_⟩)
                      | ((with_reducible refine lb_l2 (all := cll a q f) ?_ rfl rfl HG.out.c ?_); (rfl); refine ⟨_, rfl, ?_⟩)
                      | ((with_reducible refine cv_ld (v := ca) (all := oql ⟨1, v0, false, true, ⟨60, ca, cb, cc, false, f.d.q, false⟩, none, 0, 0, 0, ⟨#[]⟩⟩) ?_ rfl rfl HG.out.o ?_ ?_); (rfl); (rfl))
                      | ((with_reducible refine cv_ld (v := f.d.a) (all := cll a q f) ?_ rfl rfl HG.out.c ?_ ?_); (rfl); (rfl))
                      | (go_at_call 18; (with_reducible refine (cS _).mono ?_); rintro e w6 ⟨rfl, h9⟩; have HG := Lib.hid (HG.out.up h9); clear h9)
                      | (fail))
                    go_ret
                    exact ⟨by first | rfl | (simp; done), HG.out.below⟩
          · go_wp2_with (first
              | ((with_reducible refine lu_l2 (all := cll a q f) ?_ rfl rfl HG.out.c ?_); (rfl); refine ⟨_, rfl, ?_⟩)
              | (fail))
            go_ret
            exact ⟨rfl, HG.out.below⟩
          · cases hqb : q.b
            · have hx : X = yesO false := by rw [HX.out, hm]; show yesO q.b = _; rw [hqb]
              subst hx
              have hfx : FX = false := by rw [HFX.out]; refine free_fixed ?_; have h := H1.out; unfold holdsB at h; simp [hm, hqb] at h; exact h
              subst hfx
              go_wp2_with (first
                | ((with_reducible refine lu_l2 (all := cll a q f) ?_ rfl rfl HG.out.c ?_); (rfl); refine ⟨_, rfl, ?_⟩)
                | ((with_reducible refine lb_l2 (all := oql (yesO false)) ?_ rfl rfl HG.out.o ?_); (rfl); refine ⟨_, rfl, ?_⟩)
                | (fail))
              go_ret
              exact ⟨rfl, HG.out.below⟩
            · have hx : X = yesO true := by rw [HX.out, hm]; show yesO q.b = _; rw [hqb]
              subst hx
              go_wp2_with (first
                | ((with_reducible refine lu_l2 (all := cll a q f) ?_ rfl rfl HG.out.c ?_); (rfl); refine ⟨_, rfl, ?_⟩)
                | ((with_reducible refine lb_l2 (all := oql (yesO true)) ?_ rfl rfl HG.out.o ?_); (rfl); refine ⟨_, rfl, ?_⟩)
                | (fail))
              go_ret
              exact ⟨rfl, HG.out.below⟩
          · have hx : X = ⟨1, q.v, false, false, dz 0, none, 0, 0, 0, ⟨#[]⟩⟩ := by rw [HX.out, hm]; rfl
            subst hx
            cases ST
            · go_wp2_with (first
                | ((with_reducible refine lu_l2 (all := cll a q f) ?_ rfl rfl HG.out.c ?_); (rfl); refine ⟨_, rfl, ?_⟩)
                | (fail))
              go_ret
              exact ⟨rfl, HG.out.below⟩
            · obtain ⟨x1, x2, x3⟩ := and3 HST.out
              have hM := HM.out
              unfold mayE at hM
              simp only [hm] at hM
              have hO : whatE q.v = 0 ∧ thereE f = 0 := orE_0 (by revert hM; simp [HK.out])
              have hs : sameQ q.v f.d.a = true := got_still (by have h := H1.out; unfold holdsB at h; simp [hm] at h; exact h) hO.2 HI.out.fd (by rw [← HFX.out]; exact x1) (by rw [← HDT.out]; exact x2) x3
              have cS := fun W => samev (a := q.v) (b := f.d.a) (what_ok hO.1).2 HI.out.fd.a.1 W
              rw [hs] at cS
              clear hs hO hM x1 x2 x3
              go_wp2_with (first
                | ((with_reducible refine lu_l2 (all := cll a q f) ?_ rfl rfl HG.out.c ?_); (rfl); refine ⟨_, rfl, ?_⟩)
                | ((with_reducible refine cv_ld (v := q.v) (all := oql ⟨1, q.v, false, false, dz 0, none, 0, 0, 0, ⟨#[]⟩⟩) ?_ rfl rfl HG.out.o ?_ ?_); (rfl); (rfl))
                | ((with_reducible refine cv_ld (v := f.d.a) (all := cll a q f) ?_ rfl rfl HG.out.c ?_ ?_); (rfl); (rfl))
                | (go_at_call 18; (with_reducible refine (cS _).mono ?_); rintro e w6 ⟨rfl, h9⟩; have HG := Lib.hid (HG.out.up h9); clear h9)
                | (fail))
              go_ret
              exact ⟨rfl, HG.out.below⟩
          · go_wp2_with (first
              | ((with_reducible refine lu_l2 (all := cll a q f) ?_ rfl rfl HG.out.c ?_); (rfl); refine ⟨_, rfl, ?_⟩)
              | (fail))
            go_ret
            exact ⟨rfl, HG.out.below⟩
          · cases hqb : q.b
            · have hx : X = yesO false := by rw [HX.out, hm]; show yesO q.b = _; rw [hqb]
              subst hx
              go_wp2_with (first
                | ((with_reducible refine lu_l2 (all := cll a q f) ?_ rfl rfl HG.out.c ?_); (rfl); refine ⟨_, rfl, ?_⟩)
                | ((with_reducible refine lb_l2 (all := oql (yesO false)) ?_ rfl rfl HG.out.o ?_); (rfl); refine ⟨_, rfl, ?_⟩)
                | (fail))
              go_ret
              exact ⟨rfl, HG.out.below⟩
            · have hx : X = yesO true := by rw [HX.out, hm]; show yesO q.b = _; rw [hqb]
              subst hx
              have hfx : FX = false := by rw [HFX.out]; refine free_fixed ?_; have h := H1.out; unfold holdsB at h; simp [hm, hqb] at h; exact h
              subst hfx
              go_wp2_with (first
                | ((with_reducible refine lu_l2 (all := cll a q f) ?_ rfl rfl HG.out.c ?_); (rfl); refine ⟨_, rfl, ?_⟩)
                | ((with_reducible refine lb_l2 (all := oql (yesO true)) ?_ rfl rfl HG.out.o ?_); (rfl); refine ⟨_, rfl, ?_⟩)
                | (fail))
              go_ret
              exact ⟨rfl, HG.out.below⟩
          · have hx : X = ⟨1, v0, false, false, dz 0, ka, K.length, kc, 0, ⟨#[]⟩⟩ := by rw [HX.out, hm]; rfl
            subst hx
            cases hex : f.ext
            · have hM := HM.out
              unfold mayE at hM
              simp only [hm] at hM
              have hO : keysE K = 0 ∧ ownedE L D = 0 := orE_0 (by revert hM; simp [HK.out])
              have hkl : f.kn = K.length := by rw [HI.out.fk]; refine (listed_len (D := D) ?_ (owned_nodup hO.2)).symm; have h := H1.out; unfold holdsB at h; simp [hm, hex] at h; exact h
              clear hM hO
              go_wp2_with (first
                | ((with_reducible refine lu_l2 (all := cll a q f) ?_ rfl rfl HG.out.c ?_); (rfl); refine ⟨_, rfl, ?_⟩)
                | ((with_reducible refine lb_l2 (all := cll a q f) ?_ rfl rfl HG.out.c ?_); (rfl); refine ⟨_, rfl, ?_⟩)
                | ((with_reducible refine lk_ld (all := oql ⟨1, v0, false, false, dz 0, ka, K.length, kc, 0, ⟨#[]⟩⟩) (A := ka) (l := K.length) (c := kc) ?_ rfl rfl HG.out.o ?_ ?_); (rfl); (rfl))
                | ((with_reducible refine lk_ld (all := cll a q f) (A := f.ka) (l := f.kn) (c := f.kc) ?_ rfl rfl HG.out.c ?_ ?_); (rfl); (rfl))
                | (fail))
              go_ret
              exact ⟨by first | rfl | (simp [hkl]; done), HG.out.below⟩
            · go_wp2_with (first
                | ((with_reducible refine lu_l2 (all := cll a q f) ?_ rfl rfl HG.out.c ?_); (rfl); refine ⟨_, rfl, ?_⟩)
                | ((with_reducible refine lb_l2 (all := cll a q f) ?_ rfl rfl HG.out.c ?_); (rfl); refine ⟨_, rfl, ?_⟩)
                | (fail))
              go_ret
              exact ⟨rfl, HG.out.below⟩
          · go_wp2_with (first
              | ((with_reducible refine lu_l2 (all := cll a q f) ?_ rfl rfl HG.out.c ?_); (rfl); refine ⟨_, rfl, ?_⟩)
              | (fail))
            go_ret
            exact ⟨rfl, HG.out.below⟩
          · go_wp2_with (first
              | ((with_reducible refine lu_l2 (all := cll a q f) ?_ rfl rfl HG.out.c ?_); (rfl); refine ⟨_, rfl, ?_⟩)
              | (fail))
            go_ret
            exact ⟨rfl, HG.out.below⟩
end Go.Proofs.Ytkmgdaagannhkaa.S
/-
  A value that comes in, opened: a struct of four fields.
-/
namespace Go.Proofs.Ytkmgdaagannhkaa.S
open Go.ChangeShapes Go.WideShapes Go.Deep Go.RowKit Fl

section
variable {H : Type} {enc : TypeId × Value → H} {w : World} {base : Nat} {spare : Nat → Bool} {held : Bool}
/-- a float, read -/
theorem vread_float {k : FloatKind} {t : TypeId} {fuel : Nat} {cs : List Value} {x : DataW H × List MemPlace} (ht : Try.prog.underlying t = some (.float k)) (h : DataW.trod enc Try.prog w base spare held fuel t cs = some x) : ∃ b, cs = [.float k b] ∧ (Lit.float k b).wf = true := by
  cases fuel with
  | zero => simp [DataW.trod] at h
  | succ n =>
    unfold DataW.trod at h
    rw [ht] at h
    split at h <;> simp_all
set_option maxRecDepth 100000 in
theorem vopen_cells {n : Nat} {cs : List Value} {y : DataW H × List MemPlace} (hl : cs.length = 4) (ht : DataW.trod enc Try.prog w base spare held n 24 cs = some y) :
    ∃ (k x : Nat) (s : ByteArray) (r : Int), cs = [.int .u8 (k : Int), .float .f64 x, .string s, .int .i64 r] ∧ k < 256 ∧ x < 2 ^ 64 ∧ s.size ≤ maxLen ∧ -2 ^ 63 ≤ r ∧ r < 2 ^ 63 := by
  obtain ⟨xs, m, _, _, _, hxl, hf⟩ := DataW.trod_struct Try.underlying24 ht
  match cs, hl with
  | [c0, c1, c2, c3], _ =>
    have e5 : Try.prog.cellsOf 5 = 1 := by kernel_rfl
    have e3 : Try.prog.cellsOf 3 = 1 := by kernel_rfl
    have e9 : Try.prog.cellsOf 9 = 1 := by kernel_rfl
    have ef : Try.prog.cellsOf 22 = 1 := by kernel_rfl
    match xs, hxl with
    | [y0, y1, y2, y3], _ =>
      have h0 : DataW.trod enc Try.prog w base spare held m 5 (([c0, c1, c2, c3].drop 0).take (Try.prog.cellsOf 5)) = some y0 := hf 0 _ rfl
      have h1 : DataW.trod enc Try.prog w base spare held m 22 (([c0, c1, c2, c3].drop 1).take (Try.prog.cellsOf 22)) = some y1 := hf 1 _ rfl
      have h2 : DataW.trod enc Try.prog w base spare held m 9 (([c0, c1, c2, c3].drop 2).take (Try.prog.cellsOf 9)) = some y2 := hf 2 _ rfl
      have h3 : DataW.trod enc Try.prog w base spare held m 3 (([c0, c1, c2, c3].drop 3).take (Try.prog.cellsOf 3)) = some y3 := hf 3 _ rfl
      rw [e5] at h0
      rw [ef] at h1
      rw [e9] at h2
      rw [e3] at h3
      obtain ⟨k, k1, _, k2⟩ := DataW.trod_int Try.underlying5 h0
      obtain ⟨b, b1, b2⟩ := vread_float Try.underlying22 h1
      obtain ⟨s, s1, _, s2⟩ := DataW.trod_string Try.underlying9 h2
      obtain ⟨p, p1, _, p2⟩ := DataW.trod_int Try.underlying3 h3
      obtain rfl : c0 = .int .u8 k := by simpa using k1
      obtain rfl : c1 = .float .f64 b := by simpa using b1
      obtain rfl : c2 = .string s := by simpa using s1
      obtain rfl : c3 = .int .i64 p := by simpa using p1
      have hk : 0 ≤ k ∧ k ≤ 255 := by
        have h2 : (decide (IntKind.u8.min ≤ k) && decide (k ≤ IntKind.u8.max)) = true := k2
        rw [show IntKind.u8.min = 0 by decide, show IntKind.u8.max = 255 by decide] at h2
        simpa using h2
      have hb : b < 2 ^ 64 := by
        have h2 : decide (b < 2 ^ 64) = true := b2
        simpa using h2
      have hp : -9223372036854775808 ≤ p ∧ p ≤ 9223372036854775807 := by
        have h2 : (decide (IntKind.i64.min ≤ p) && decide (p ≤ IntKind.i64.max)) = true := p2
        rw [show IntKind.i64.min = -9223372036854775808 by decide, show IntKind.i64.max = 9223372036854775807 by decide] at h2
        simpa using h2
      have e : ((k.toNat : Nat) : Int) = k := by omega
      exact ⟨k.toNat, b, s, p, by rw [e], by omega, hb, s2, by omega, by omega⟩
end
end Go.Proofs.Ytkmgdaagannhkaa.S
/-
  A descriptor that comes in, opened: a struct of seven fields, three of them structs.
-/
namespace Go.Proofs.Ytkmgdaagannhkaa.S
open Go.ChangeShapes Go.WideShapes Go.Deep Go.RowKit Fl

section
variable {H : Type} {enc : TypeId × Value → H} {w : World} {base : Nat} {spare : Nat → Bool} {held : Bool}
theorem dread_bool {t : TypeId} {fuel : Nat} {cs : List Value} {x : DataW H × List MemPlace} (ht : Try.prog.underlying t = some .bool) (h : DataW.trod enc Try.prog w base spare held fuel t cs = some x) : ∃ b, cs = [.bool b] := by
  cases fuel with
  | zero => simp [DataW.trod] at h
  | succ n =>
    unfold DataW.trod at h
    rw [ht] at h
    split at h <;> simp_all
set_option maxRecDepth 100000 in
theorem open_vq {n : Nat} {cs : List Value} {y : DataW H × List MemPlace} (hl : cs.length = 4) (ht : DataW.trod enc Try.prog w base spare held n 24 cs = some y) :
    ∃ v : Vq, cs = [.int .u8 v.k, .float .f64 v.x, .string v.s, .int .i64 v.r] ∧ v.In := by
  obtain ⟨k, x, s, r, e, h1, h2, h3, h4, h5⟩ := vopen_cells hl ht
  exact ⟨⟨(k : Int), x, s, r⟩, e, by dsimp only; omega, by dsimp only; omega, h2, h5⟩
set_option maxRecDepth 100000 in
theorem open_dq {n : Nat} {cs : List Value} {y : DataW H × List MemPlace} (hl : cs.length = 16) (ht : DataW.trod enc Try.prog w base spare held n 27 cs = some y) :
    ∃ q : Dq, cs = q.cells.toList ∧ q.In := by
  obtain ⟨xs, m, _, _, _, hxl, hf⟩ := DataW.trod_struct Try.underlying27 ht
  match cs, hl with
  | [c0, c1, c2, c3, c4, c5, c6, c7, c8, c9, c10, c11, c12, c13, c14, c15], _ =>
    have e5 : Try.prog.cellsOf 5 = 1 := by kernel_rfl
    have eb : Try.prog.cellsOf 4 = 1 := by kernel_rfl
    have ev : Try.prog.cellsOf 24 = 4 := by kernel_rfl
    match xs, hxl with
    | [y0, y1, y2, y3, y4, y5, y6], _ =>
      have h0 : DataW.trod enc Try.prog w base spare held m 5 (([c0, c1, c2, c3, c4, c5, c6, c7, c8, c9, c10, c11, c12, c13, c14, c15].drop 0).take (Try.prog.cellsOf 5)) = some y0 := hf 0 _ rfl
      have h1 : DataW.trod enc Try.prog w base spare held m 24 (([c0, c1, c2, c3, c4, c5, c6, c7, c8, c9, c10, c11, c12, c13, c14, c15].drop 1).take (Try.prog.cellsOf 24)) = some y1 := hf 1 _ rfl
      have h2 : DataW.trod enc Try.prog w base spare held m 24 (([c0, c1, c2, c3, c4, c5, c6, c7, c8, c9, c10, c11, c12, c13, c14, c15].drop 5).take (Try.prog.cellsOf 24)) = some y2 := hf 2 _ rfl
      have h3 : DataW.trod enc Try.prog w base spare held m 24 (([c0, c1, c2, c3, c4, c5, c6, c7, c8, c9, c10, c11, c12, c13, c14, c15].drop 9).take (Try.prog.cellsOf 24)) = some y3 := hf 3 _ rfl
      have h4 : DataW.trod enc Try.prog w base spare held m 4 (([c0, c1, c2, c3, c4, c5, c6, c7, c8, c9, c10, c11, c12, c13, c14, c15].drop 13).take (Try.prog.cellsOf 4)) = some y4 := hf 4 _ rfl
      have h5 : DataW.trod enc Try.prog w base spare held m 4 (([c0, c1, c2, c3, c4, c5, c6, c7, c8, c9, c10, c11, c12, c13, c14, c15].drop 14).take (Try.prog.cellsOf 4)) = some y5 := hf 5 _ rfl
      have h6 : DataW.trod enc Try.prog w base spare held m 4 (([c0, c1, c2, c3, c4, c5, c6, c7, c8, c9, c10, c11, c12, c13, c14, c15].drop 15).take (Try.prog.cellsOf 4)) = some y6 := hf 6 _ rfl
      rw [e5] at h0
      rw [ev] at h1 h2 h3
      rw [eb] at h4 h5 h6
      obtain ⟨k, k1, _, k2⟩ := DataW.trod_int Try.underlying5 h0
      obtain ⟨a, a1, a2⟩ := open_vq rfl h1
      obtain ⟨b, b1, b2⟩ := open_vq rfl h2
      obtain ⟨c, d1, d2⟩ := open_vq rfl h3
      obtain ⟨p, p1⟩ := dread_bool Try.underlying4 h4
      obtain ⟨q, q1⟩ := dread_bool Try.underlying4 h5
      obtain ⟨z, z1⟩ := dread_bool Try.underlying4 h6
      have hk : 0 ≤ k ∧ k ≤ 255 := by
        have h2 : (decide (IntKind.u8.min ≤ k) && decide (k ≤ IntKind.u8.max)) = true := k2
        rw [show IntKind.u8.min = 0 by decide, show IntKind.u8.max = 255 by decide] at h2
        simpa using h2
      refine ⟨⟨k, a, b, c, p, q, z⟩, ?_, ⟨hk.1, by dsimp only; omega, a2, b2, d2⟩⟩
      simp only [List.drop_succ_cons, List.drop_zero, List.take_succ_cons, List.take_zero, List.cons.injEq, and_true] at k1 a1 b1 d1 p1 q1 z1
      obtain rfl := k1
      obtain ⟨rfl, rfl, rfl, rfl⟩ := a1
      obtain ⟨rfl, rfl, rfl, rfl⟩ := b1
      obtain ⟨rfl, rfl, rfl, rfl⟩ := d1
      obtain rfl := p1
      obtain rfl := q1
      obtain rfl := z1
      rfl
end
end Go.Proofs.Ytkmgdaagannhkaa.S
