/-
  The document's own token of a number: walks.
-/
import Derived.Test.YtjjbefebpilhdaaDoorLexRefTok
import Derived.Test.YtjjbefebpilhdaaDoorLexPiece2
namespace Go.Proofs.YtjjbefebpilhdaaDoor.S
open Go.RowKit Fl

theorem fold_ge (l : List UInt8) : ∀ a : Nat, a * 10 ^ l.length ≤ l.foldl (fun n c => n * 10 + (c.toNat - 48)) a := by
  induction l with
  | nil => intro a; simp
  | cons c r ih =>
    intro a
    rw [List.foldl_cons, List.length_cons]
    refine Nat.le_trans ?_ (ih _)
    rw [Nat.pow_succ, Nat.mul_comm (10 ^ r.length), ← Nat.mul_assoc]
    exact Nat.mul_le_mul_right _ (by omega)
theorem valD_big {c : UInt8} {r : List UInt8} (hd : isDig c = true) (hc : ¬ c = 48) (h : 16 ≤ r.length) : 9007199254740991 < valD (c :: r) := by
  have h1 : 49 ≤ c.toNat := by
    have h2 := (isDig_iff c).1 hd
    have h3 : c.toNat ≠ 48 := fun e => hc (UInt8.toNat_inj.1 e)
    omega
  have h2 := fold_ge r (0 * 10 + (c.toNat - 48))
  have h3 : (10 : Nat) ^ 16 ≤ 10 ^ r.length := Nat.pow_le_pow_right (by omega) h
  have h4 : valD (c :: r) = r.foldl (fun n c => n * 10 + (c.toNat - 48)) (0 * 10 + (c.toNat - 48)) := rfl
  rw [h4]
  have h5 : 1 * 10 ^ r.length ≤ (0 * 10 + (c.toNat - 48)) * 10 ^ r.length := Nat.mul_le_mul_right _ (by omega)
  have h6 : (10 : Nat) ^ 16 = 10000000000000000 := by decide
  omega
theorem dig_inn {c : UInt8} (h : isDig c = true) : innB c = true := by unfold innB; rw [h, Bool.or_true]
def nxt (o : Option UInt8) : Bool := match o with | some d => innB d | none => false
theorem numBad_nxt (l : List UInt8) : numBad l = ((decide (runL isDig l > 1) && decide (l.head? = some 48)) || nxt l[runL isDig l]?) := rfl
/-- digits end where a name's bytes do, or a byte of a name stands behind them -/
theorem run_two (l : List UInt8) : runL isDig l ≤ runL innB l ∧ (runL innB l = runL isDig l ↔ nxt l[runL isDig l]? = false) := by
  induction l with
  | nil => exact ⟨Nat.le_refl _, by simp [runL, nxt]⟩
  | cons c r ih =>
    rw [runL_cons, runL_cons]
    by_cases h : isDig c = true
    · rw [if_pos h, if_pos (dig_inn h), List.getElem?_cons_succ]
      refine ⟨by omega, ?_⟩
      rw [← ih.2]; omega
    · rw [if_neg h, List.getElem?_cons_zero]
      refine ⟨by omega, ?_⟩
      by_cases g : innB c = true
      · rw [if_pos g]; show runL innB r + 1 = 0 ↔ innB c = false; rw [g]; simp
      · rw [if_neg g]; show 0 = 0 ↔ innB c = false; simpa using g

theorem far_blk {w : World} {g : Nat} {x : Option Obj} (h : w.heap[g]? = x) {p : Addr} (hp : g ≠ p.block) (u : Value) : (w.setCell p u).heap[g]? = x := (Below.heap_setCell w p u g hp).trans h
theorem after2_blk {w w1 : World} {A B : Obj} (h : Below ((w.alloc A).alloc B).heap.size ((w.alloc A).alloc B) w1) : w1.heap[w.heap.size]? = some A := by
  have e : ((w.alloc A).alloc B).heap.size = w.heap.size + 1 + 1 := by simp
  rw [h.block w.heap.size (by omega)]; exact two_blk w A B
theorem after2 {w w1 : World} {A B : Obj} (h : Below ((w.alloc A).alloc B).heap.size ((w.alloc A).alloc B) w1) : Below w.heap.size w w1 := (two_below w A B).trans (h.mono (two_below w A B).size)
theorem lt_after2 {w w1 : World} {A B : Obj} (h : Below ((w.alloc A).alloc B).heap.size ((w.alloc A).alloc B) w1) : w.heap.size + 1 < w1.heap.size := by
  have := h.size
  have e : ((w.alloc A).alloc B).heap.size = w.heap.size + 1 + 1 := by simp
  omega

set_option maxHeartbeats 4000000 in
set_option maxRecDepth 1000000 in
theorem reftok_num (s : ByteArray) (i : Nat) (w : World) (hs : s.size ≤ 70000) (hi : i < s.size) (hn : iniB s[i] = false) (hd : isDig s[i] = true) :
    Calls Tryd.prog 32 #[.string s, .int .i64 (i : Int)] w (RefTokTo (numberL (s.data.toList.drop i)) i w) := by
  have k1 := fun w => reffirst_any s[i] w
  rw [hn] at k1
  have k2 := fun w => refdigit_any s[i] w
  rw [hd] at k2
  have kn := fun w => named_any s i w hs (by omega)
  have hcons := drop_get s i hi
  have hle := runL_le innB (s.data.toList.drop i)
  rw [List.length_drop, ← size_len] at hle
  obtain ⟨hr1, hr2⟩ := run_two (s.data.toList.drop i)
  have hpos : 0 < runL isDig (s.data.toList.drop i) := by rw [hcons, runL_cons, if_pos hd]; omega
  have hall := run_take_all isDig (s.data.toList.drop i)
  have hne : (s.data.toList.drop i).take (runL isDig (s.data.toList.drop i)) ≠ [] := by
    intro e
    have := congrArg List.length e
    rw [List.length_take, List.length_drop, ← size_len, List.length_nil] at this
    omega
  have hrd := readR_dig hne hall
  have hbig : 16 < runL isDig (s.data.toList.drop i) → ¬ s[i] = 48 → 9007199254740991 < valD ((s.data.toList.drop i).take (runL isDig (s.data.toList.drop i))) := by
    intro h1 h2
    obtain ⟨q, hq⟩ : ∃ q, runL isDig (s.data.toList.drop i) = q + 1 := ⟨runL isDig (s.data.toList.drop i) - 1, by omega⟩
    have hl2 : q + 1 ≤ s.size - i := by omega
    rw [hq, hcons, List.take_succ_cons]
    exact valD_big hd h2 (by rw [List.length_take, List.length_drop, ← size_len]; omega)
  have kd := fun w => refRead_any (s.extract i (i + runL isDig (s.data.toList.drop i))) w (by unfold maxLen; simp; omega)
  rw [ext_take, mkB_list, hrd] at kd
  rw [← ext_take] at kd
  have HB : Hid (numBad (s.data.toList.drop i) = ((decide (runL isDig (s.data.toList.drop i) > 1) && decide (s[i] = 48)) || !decide (runL innB (s.data.toList.drop i) = runL isDig (s.data.toList.drop i)))) := Lib.hid (by
    rw [numBad_nxt]
    have e1 : decide ((s.data.toList.drop i).head? = some 48) = decide (s[i] = 48) := by rw [hcons, List.head?_cons]; simp
    rw [e1]
    congr 1
    by_cases c : runL innB (s.data.toList.drop i) = runL isDig (s.data.toList.drop i)
    · rw [hr2.1 c, decide_eq_true c]; rfl
    · rw [decide_eq_false c]
      cases hx : nxt (s.data.toList.drop i)[runL isDig (s.data.toList.drop i)]? with
      | true => rfl
      | false => exact absurd (hr2.2 hx) c)
  have HN : Hid (numberL (s.data.toList.drop i) = if numBad (s.data.toList.drop i) = true then PR.bad 0 else if valD ((s.data.toList.drop i).take (runL isDig (s.data.toList.drop i))) ≤ 9007199254740991 then .tok 3 ⟨#[]⟩ (F (valD ((s.data.toList.drop i).take (runL isDig (s.data.toList.drop i))) : Int)) (runL isDig (s.data.toList.drop i)) else .bad 0) := Lib.hid (by
    unfold numberL
    rw [hrd]
    by_cases hb : numBad (s.data.toList.drop i) = true
    · rw [if_pos hb, if_pos hb]
    · rw [if_neg hb, if_neg hb]
      by_cases hv : valD ((s.data.toList.drop i).take (runL isDig (s.data.toList.drop i))) ≤ 9007199254740991
      · rw [if_pos hv, if_pos hv]
      · rw [if_neg hv, if_neg hv])
  obtain ⟨M, hM⟩ : ∃ M, i + runL isDig (s.data.toList.drop i) = M := ⟨_, rfl⟩
  have HM := Lib.hid hM
  have hMs : M ≤ s.size := by omega
  generalize hV : valD ((s.data.toList.drop i).take (runL isDig (s.data.toList.drop i))) = V at *
  have hst := store_f
  clear hr2 hall hne hrd hcons hd hn
  generalize hq : numberL (s.data.toList.drop i) = R at *
  clear hq
  have hm : i + runL isDig (s.data.toList.drop i) = M := hM
  generalize hmm : runL isDig (s.data.toList.drop i) = m at *
  have hN' : ((i + runL innB (s.data.toList.drop i) : Nat) : Int) = (i : Int) + (runL innB (s.data.toList.drop i) : Int) := by omega
  rw [hN'] at kn
  generalize runL innB (s.data.toList.drop i) = n at *
  clear hN' hM
  have HMM := Lib.hid hmm
  clear hmm hV
  subst hm
  have e2 : ((i + m : Nat) : Int) = (i : Int) + (m : Int) := by omega
  have E2 := Lib.hid e2
  clear e2
  go_enter Tryd.func32, Tryd.ntmps32
  go_wp2_with (first
    | (go_at_call 46; refine (k1 _).mono ?_; rintro e w1 ⟨rfl, rfl⟩)
    | (go_at_call 48; refine (k2 _).mono ?_; rintro e w1 ⟨rfl, rfl⟩))
  go_loop [10] (fun v => ∃ k : Nat, i ≤ k ∧ k ≤ s.size ∧ v = .int .i64 k ∧ Hid (k + runL isDig (s.data.toList.drop k) = i + m)) (fun v => s.size - (intOf v).toNat)
  case atStart => exact ⟨i, Nat.le_refl _, by omega, rfl, Lib.hid (by rw [HMM.out])⟩
  case round =>
    obtain ⟨k, hik, hk, rfl, H⟩ := hrel
    clear HMM k1 k2
    by_cases hgo : ∃ h : k < s.size, isDig s[k] = true
    · obtain ⟨hlt, hp⟩ := hgo
      have hst2 := run_step isDig s k hlt
      rw [if_pos hp] at hst2
      have H2 : Hid ((k + 1) + runL isDig (s.data.toList.drop (k + 1)) = i + m) := Lib.hid (by have := H.out; omega)
      have kg := fun w => refdigit_any s[k] w
      rw [hp] at kg
      clear hst2 hp H hbig kd kn
      go_wp2_with (go_at_call 48; refine (kg _).mono ?_; rintro e w1 ⟨rfl, rfl⟩)
      go_round
      case rel => exact ⟨k + 1, by omega, by omega, by go_num, H2⟩
      case measure => simp [intOf]; omega
    · have hkm : k = i + m := by
        have := H.out
        by_cases hlt : k < s.size
        · have hst2 := run_step isDig s k hlt
          rw [if_neg (fun g => hgo ⟨hlt, g⟩)] at hst2
          omega
        · have := run_over isDig s k hlt; omega
      clear H
      subst hkm
      have e2 := E2.out
      have hki : ((i + m : Nat) : Int) - (i : Int) = (m : Int) := by omega
      have HR : Hid (R = if ((decide (m > 1) && decide (s[i] = 48)) || !decide (n = m)) = true then PR.bad 0 else if V ≤ 9007199254740991 then .tok 3 ⟨#[]⟩ (F (V : Int)) m else .bad 0) := Lib.hid (by rw [← HB.out]; exact HN.out)
      clear HB HN
      have hcont : (i + m < s.size ∧ ∃ h : i + m < s.size, (∀ w, Calls Tryd.prog 48 #[.int .u8 (s[i + m].toNat : Int)] w fun e w' => e = .returned (.bool false) ∧ w = w')) ∨ ¬ i + m < s.size := by
        by_cases hlt : i + m < s.size
        · refine Or.inl ⟨hlt, hlt, fun w => ?_⟩
          have := refdigit_any s[i + m] w
          rw [show isDig s[i + m] = false by cases hx : isDig s[i + m] with | false => rfl | true => exact absurd ⟨hlt, hx⟩ hgo] at this
          exact this
        · exact Or.inr hlt
      clear hgo
      have hw1 : i + m ≤ s.size := by omega
      rcases hcont with ⟨hlt, _, kg⟩ | hlt
      all_goals
        by_cases hA : n = m
        · subst hA
          have hAi : ((i : Int) + (n : Int) == (i : Int) + (n : Int)) = true := by simp
          by_cases c48 : s[i] = 48
          · have t48 : ((s[i].toNat : Nat) : Int) = 48 := by rw [c48]; rfl
            by_cases c1 : n > 1
            · have c1i : (i : Int) + 1 < (i : Int) + (n : Int) := by omega
              have HR2 : Hid (R = .bad 0) := Lib.hid (by rw [HR.out, if_pos (by rw [decide_eq_true c1, decide_eq_true c48]; rfl)])
              skip
              clear HR hbig kd
              go_wp2_with (first | (go_at_call 47; refine (kn _).mono ?_; rintro e w1 ⟨rfl, rfl⟩) | (go_at_call 48; refine (kg _).mono ?_; rintro e w1 ⟨rfl, rfl⟩))
              refine ref_end (a := 0) (p := 0) (b := ⟨#[]⟩) (c := 0) (x := (i : Int)) (y := false) rfl rfl rfl (two_blk _ _ _) (ref_ok (r := R) (by rw [HR2.out]; rfl) (by rw [HR2.out]; simp [prN]) (by rw [HR2.out]; rfl) (two_below _ _ _))
            · have c1i : ¬ (i : Int) + 1 < (i : Int) + (n : Int) := by omega
              have c16 : ¬ (16 : Int) < (i : Int) + (n : Int) - (i : Int) := by omega
              have HR2 : Hid (R = if V ≤ 9007199254740991 then .tok 3 ⟨#[]⟩ (F (V : Int)) n else .bad 0) := Lib.hid (by rw [HR.out, if_neg (by rw [decide_eq_false c1]; simp)])
              clear HR hbig
              by_cases hv : V ≤ 9007199254740991
              · rw [if_pos hv] at kd
                have hsafe : SafeN (V : Int) := by unfold SafeN; omega
                have kdr : ∀ w, Calls Tryd.prog 49 #[.string (s.extract i (i + n))] w (fun e w' => e = .returned (.tuple #[.float .f64 (F (V : Int)), .int .i64 0]) ∧ Below w.heap.size w w') := fun w => (kd w).mono fun e w' ⟨x, j, h1, h2, h3⟩ => ⟨by rw [h2, h1.1.1, h1.2], h3⟩
                have km : ∀ w, Calls Tryd.prog 50 #[.float .f64 (F (V : Int))] w (fun e w' => e = .returned (.bool true) ∧ w = w') := fun w => refMay_cls (c := .ours (V : Int)) ⟨rfl, hsafe⟩ w
                clear kd hsafe
                have HR3 : Hid (R = .tok 3 ⟨#[]⟩ (F (V : Int)) n) := Lib.hid (by rw [HR2.out, if_pos hv])
                skip
                clear HR2
                go_wp2_with (first | (go_at_call 47; refine (kn _).mono ?_; rintro e w1 ⟨rfl, rfl⟩) | (go_at_call 48; refine (kg _).mono ?_; rintro e w1 ⟨rfl, rfl⟩) | (go_at_call 49; refine (kdr _).mono ?_; rintro e w1 ⟨rfl, h1⟩; obtain ⟨hc, hf⟩ := bcell h1; have hz := lt_after2 h1; have hz2 : w.heap.size < w1.heap.size := by omega) | (go_at_call 50; refine (km _).mono ?_; rintro e w2 ⟨rfl, rfl⟩))
                refine ref_end (a := 3) (p := (i : Int)) (b := ⟨#[]⟩) (c := F (V : Int)) (x := (i : Int) + (n : Int)) (y := true) rfl rfl rfl ?_ (ref_ok (r := R) (by rw [HR3.out]; rfl) (by rw [HR3.out]; simp [prN]) (by rw [HR3.out]; rfl) ?_)
                · exact set4_blk (far_blk (far_blk (after2_blk h1) (by simp) _) (by simp) _) _ _ _ _
                · exact set4 (((after2 h1).setCell (p := ⟨w.heap.size + 1, 0, none⟩) (by simp) _).setCell (p := ⟨w.heap.size + 1, 3, none⟩) (by simp) _) (Nat.le_refl _) _ _ _ _
              · rw [if_neg hv] at kd
                have HR3 : Hid (R = .bad 0) := Lib.hid (by rw [HR2.out, if_neg hv])
                skip
                clear HR2
                go_wp2_with (first | (go_at_call 47; refine (kn _).mono ?_; rintro e w1 ⟨rfl, rfl⟩) | (go_at_call 48; refine (kg _).mono ?_; rintro e w1 ⟨rfl, rfl⟩) | (go_at_call 49; refine (kd _).mono ?_; rintro e w1 ⟨x, j, ⟨rfl, rfl⟩, rfl, h1⟩; obtain ⟨hc, hf⟩ := bcell h1; have hz := lt_after2 h1; have hz2 : w.heap.size < w1.heap.size := by omega))
                refine ref_end (a := 0) (p := 0) (b := ⟨#[]⟩) (c := 0) (x := (i : Int)) (y := false) rfl rfl rfl ?_ (ref_ok (r := R) (by rw [HR3.out]; rfl) (by rw [HR3.out]; simp [prN]) (by rw [HR3.out]; rfl) ?_)
                · exact set4_blk (after2_blk h1) _ _ _ _
                · exact set4 (after2 h1) (Nat.le_refl _) _ _ _ _
          · have t48 : (((s[i].toNat : Nat) : Int) == 48) = false := byte_nb' rfl c48
            by_cases c16 : 16 < n
            · have c16i : (16 : Int) < (i : Int) + (n : Int) - (i : Int) := by omega
              have hvb := hbig c16 c48
              have HR2 : Hid (R = .bad 0) := Lib.hid (by rw [HR.out, if_neg (by rw [decide_eq_false c48]; simp), if_neg (by omega)])
              skip
              clear HR hbig kd
              go_wp2_with (first | (go_at_call 47; refine (kn _).mono ?_; rintro e w1 ⟨rfl, rfl⟩) | (go_at_call 48; refine (kg _).mono ?_; rintro e w1 ⟨rfl, rfl⟩))
              refine ref_end (a := 0) (p := 0) (b := ⟨#[]⟩) (c := 0) (x := (i : Int)) (y := false) rfl rfl rfl (two_blk _ _ _) (ref_ok (r := R) (by rw [HR2.out]; rfl) (by rw [HR2.out]; simp [prN]) (by rw [HR2.out]; rfl) (two_below _ _ _))
            · have c16i : ¬ (16 : Int) < (i : Int) + (n : Int) - (i : Int) := by omega
              have HR2 : Hid (R = if V ≤ 9007199254740991 then .tok 3 ⟨#[]⟩ (F (V : Int)) n else .bad 0) := Lib.hid (by rw [HR.out, if_neg (by rw [decide_eq_false c48]; simp)])
              clear HR hbig
              by_cases hv : V ≤ 9007199254740991
              · rw [if_pos hv] at kd
                have hsafe : SafeN (V : Int) := by unfold SafeN; omega
                have kdr : ∀ w, Calls Tryd.prog 49 #[.string (s.extract i (i + n))] w (fun e w' => e = .returned (.tuple #[.float .f64 (F (V : Int)), .int .i64 0]) ∧ Below w.heap.size w w') := fun w => (kd w).mono fun e w' ⟨x, j, h1, h2, h3⟩ => ⟨by rw [h2, h1.1.1, h1.2], h3⟩
                have km : ∀ w, Calls Tryd.prog 50 #[.float .f64 (F (V : Int))] w (fun e w' => e = .returned (.bool true) ∧ w = w') := fun w => refMay_cls (c := .ours (V : Int)) ⟨rfl, hsafe⟩ w
                clear kd hsafe
                have HR3 : Hid (R = .tok 3 ⟨#[]⟩ (F (V : Int)) n) := Lib.hid (by rw [HR2.out, if_pos hv])
                skip
                clear HR2
                go_wp2_with (first | (go_at_call 47; refine (kn _).mono ?_; rintro e w1 ⟨rfl, rfl⟩) | (go_at_call 48; refine (kg _).mono ?_; rintro e w1 ⟨rfl, rfl⟩) | (go_at_call 49; refine (kdr _).mono ?_; rintro e w1 ⟨rfl, h1⟩; obtain ⟨hc, hf⟩ := bcell h1; have hz := lt_after2 h1; have hz2 : w.heap.size < w1.heap.size := by omega) | (go_at_call 50; refine (km _).mono ?_; rintro e w2 ⟨rfl, rfl⟩))
                refine ref_end (a := 3) (p := (i : Int)) (b := ⟨#[]⟩) (c := F (V : Int)) (x := (i : Int) + (n : Int)) (y := true) rfl rfl rfl ?_ (ref_ok (r := R) (by rw [HR3.out]; rfl) (by rw [HR3.out]; simp [prN]) (by rw [HR3.out]; rfl) ?_)
                · exact set4_blk (far_blk (far_blk (after2_blk h1) (by simp) _) (by simp) _) _ _ _ _
                · exact set4 (((after2 h1).setCell (p := ⟨w.heap.size + 1, 0, none⟩) (by simp) _).setCell (p := ⟨w.heap.size + 1, 3, none⟩) (by simp) _) (Nat.le_refl _) _ _ _ _
              · rw [if_neg hv] at kd
                have HR3 : Hid (R = .bad 0) := Lib.hid (by rw [HR2.out, if_neg hv])
                skip
                clear HR2
                go_wp2_with (first | (go_at_call 47; refine (kn _).mono ?_; rintro e w1 ⟨rfl, rfl⟩) | (go_at_call 48; refine (kg _).mono ?_; rintro e w1 ⟨rfl, rfl⟩) | (go_at_call 49; refine (kd _).mono ?_; rintro e w1 ⟨x, j, ⟨rfl, rfl⟩, rfl, h1⟩; obtain ⟨hc, hf⟩ := bcell h1; have hz := lt_after2 h1; have hz2 : w.heap.size < w1.heap.size := by omega))
                refine ref_end (a := 0) (p := 0) (b := ⟨#[]⟩) (c := 0) (x := (i : Int)) (y := false) rfl rfl rfl ?_ (ref_ok (r := R) (by rw [HR3.out]; rfl) (by rw [HR3.out]; simp [prN]) (by rw [HR3.out]; rfl) ?_)
                · exact set4_blk (after2_blk h1) _ _ _ _
                · exact set4 (after2 h1) (Nat.le_refl _) _ _ _ _
        · first
          | (exfalso; omega)
          | (have hAi : ((i : Int) + (n : Int) == (i : Int) + (m : Int)) = false := by rw [beq_eq_false_iff_ne]; omega
             have HR2 : Hid (R = .bad 0) := Lib.hid (by rw [HR.out, if_pos (by rw [decide_eq_false hA]; simp)])
             skip
             clear HR hbig kd
             go_wp2_with (first | (go_at_call 47; refine (kn _).mono ?_; rintro e w1 ⟨rfl, rfl⟩) | (go_at_call 48; refine (kg _).mono ?_; rintro e w1 ⟨rfl, rfl⟩))
             refine ref_end (a := 0) (p := 0) (b := ⟨#[]⟩) (c := 0) (x := (i : Int)) (y := false) rfl rfl rfl (two_blk _ _ _) (ref_ok (r := R) (by rw [HR2.out]; rfl) (by rw [HR2.out]; simp [prN]) (by rw [HR2.out]; rfl) (two_below _ _ _)))
end Go.Proofs.YtjjbefebpilhdaaDoor.S
