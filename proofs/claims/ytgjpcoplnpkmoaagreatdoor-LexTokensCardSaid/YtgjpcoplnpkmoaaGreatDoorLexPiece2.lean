/-
  What a text begins with: a sign, a number, a string: walks of package lex.
-/
import Derived.Test.YtgjpcoplnpkmoaaGreatDoorLexPiece
import Derived.Test.YtgjpcoplnpkmoaaGreatDoorNumAgain
namespace Go.Proofs.YtgjpcoplnpkmoaaGreatDoor.S
open Go.RowKit Fl

theorem zero_alloc (w : World) (o : Obj) : Below w.heap.size w (w.alloc o) := (Below.refl _ _).alloc (Nat.le_refl _) o
theorem drawn_alloc {w : World} {o : Obj} (n : Nat) : Below w.heap.size w ((w.alloc o).drewN n) := below_draw2 (zero_alloc w o) n
theorem after_drawn {w w1 : World} {o : Obj} {n : Nat} (h : Below ((w.alloc o).drewN n).heap.size ((w.alloc o).drewN n) w1) : Below w.heap.size w w1 := (drawn_alloc n).trans (h.mono (drawn_alloc n).size)

theorem lt_after {w w1 : World} {o : Obj} (h : Below (w.alloc o).heap.size (w.alloc o) w1) : w.heap.size < w1.heap.size := by
  have := h.size
  have e : (w.alloc o).heap.size = w.heap.size + 1 := by simp
  omega
theorem lt_after_n {w w1 : World} {o : Obj} {n : Nat} (h : Below ((w.alloc o).drewN n).heap.size ((w.alloc o).drewN n) w1) : w.heap.size < w1.heap.size := by
  have := h.size
  have e : (w.alloc o).heap.size = w.heap.size + 1 := by simp
  have := (below_drawn (w.alloc o) n).size
  omega

theorem signN_3 (l : List UInt8) : signN l ≤ 3 := by unfold signN; split <;> (try split) <;> (try split) <;> omega
set_option maxHeartbeats 1000000 in
theorem lexsign_any (s : ByteArray) (h0 : 0 < s.size) (hs : s.size ≤ 9223372036854775807) (w : World) : Calls Tryz.prog 95 #[.string s] w (Piece2To (signL s.data.toList) w) := by
  have ks := fun w => signed_any s h0 (by omega) w
  have hle := signN_le s.data.toList
  have hle3 := signN_3 s.data.toList
  rw [← size_len] at hle
  unfold signL
  rw [← take_ext s (signN s.data.toList)]
  generalize signN s.data.toList = n at *
  have kc := fun w => Clone_any (s.extract 0 n) w (by simp; omega)
  by_cases hn : n = 0
  · rw [if_pos hn]
    subst hn
    clear kc hle
    have hst := store_f
    go_enter Tryz.func95, Tryz.ntmps95
    go_wp2_with (go_at_call 125; refine (ks _).mono ?_; rintro e w1 ⟨q, rfl, rfl⟩)
    refine bodyPost_ret (v := .tuple #[tkV 0 0 ⟨#[]⟩ 0, .int .i64 0]) (by simp [tkV, results, Tryz.results95, go_sem]) rfl (piece2_ok rfl rfl ?_)
    exact set4 (drawn_alloc q) (Nat.le_refl _) _ _ _ _
  · rw [if_neg hn]
    have hn' : ¬ (n : Int) = 0 := by omega
    clear hn
    have hst := store_f
    go_enter Tryz.func95, Tryz.ntmps95
    go_wp2_with (first
      | (go_at_call 125; refine (ks _).mono ?_; rintro e w1 ⟨q, rfl, rfl⟩)
      | (go_at_call 69; refine (kc _).mono ?_; rintro e w1 ⟨rfl, h1⟩; obtain ⟨hc, hf⟩ := bcell h1; have hz := lt_after_n h1))
    refine bodyPost_ret (v := .tuple #[tkV 5 0 (s.extract 0 n) 0, .int .i64 n]) (by simp [tkV, hc, results, Tryz.results95, go_sem]) rfl (piece2_ok rfl rfl ?_)
    exact set4 (after_drawn h1) (Nat.le_refl _) _ _ _ _

theorem readR_dig {l : List UInt8} (h : l ≠ []) (ha : l.all isDig = true) : readR l = if valD l ≤ 9007199254740991 then .ok (valD l : Int) else .err 10 := by
  have hm : ∀ c ∈ l, isDig c = true := List.all_eq_true.1 ha
  unfold readR
  rw [trim_none l fun c hc => (dig_no_blank c (hm c hc)).1]
  cases l with
  | nil => exact absurd rfl h
  | cons c r =>
    obtain ⟨_, h1, h2⟩ := dig_no_blank c (hm c List.mem_cons_self)
    rw [bareR_cons, if_neg h1, if_neg h2]
    split
    · rename_i hv; rw [digR_ok false h ha hv (by intro h; cases h)]; rfl
    · rename_i hv; exact digR_big false h ha (by omega)
theorem run_take_all (p : UInt8 → Bool) (l : List UInt8) : (l.take (runL p l)).all p = true := by
  induction l with
  | nil => rfl
  | cons c r ih =>
    rw [runL_cons]
    split
    · rename_i h; rw [List.take_succ_cons, List.all_cons, h, ih]; rfl
    · rfl

theorem numBad_eq (s : ByteArray) (h0 : 0 < s.size) : numBad s.data.toList = ((decide (runL isDig s.data.toList > 1) && decide (s[0] = 48)) || (if h : runL isDig s.data.toList < s.size then innB s[runL isDig s.data.toList] else false)) := by
  unfold numBad
  have e1 : decide (s.data.toList.head? = some 48) = decide (s[0] = 48) := by
    have := drop_get s 0 h0
    rw [List.drop_zero] at this
    rw [this, List.head?_cons]; simp
  rw [e1]
  congr 1
  by_cases h : runL isDig s.data.toList < s.size
  · rw [dif_pos h, getElem_list s _ h]
  · rw [dif_neg h, List.getElem?_eq_none (by rw [← size_len]; omega)]

set_option maxHeartbeats 2000000 in
theorem number_any (s : ByteArray) (h0 : 0 < s.size) (hd : isDig s[0] = true) (hs : s.size ≤ 9223372036854775807) (w : World) : Calls Tryz.prog 93 #[.string s] w (Piece2To (numberL s.data.toList) w) := by
  have kr := fun w => run_digit s w (by unfold maxLen; omega)
  have hle := runL_le isDig s.data.toList
  rw [← size_len] at hle
  have hpos : 0 < runL isDig s.data.toList := by
    have := drop_get s 0 h0
    rw [List.drop_zero] at this
    rw [this, runL_cons, if_pos hd]; omega
  have hbad := numBad_eq s h0
  have kd := fun w => Read_any (s.extract 0 (runL isDig s.data.toList)) w (by unfold maxLen; simp; omega)
  rw [take_ext s, mkB_list] at kd
  rw [← take_ext s] at kd
  have hrd := readR_dig (l := s.data.toList.take (runL isDig s.data.toList)) (by
    intro e
    have := congrArg List.length e
    rw [List.length_take, ← size_len, List.length_nil] at this
    omega) (run_take_all isDig s.data.toList)
  rw [hrd] at kd
  have HN : Hid (numberL s.data.toList = if numBad s.data.toList = true then PR.bad 0 else if valD (s.data.toList.take (runL isDig s.data.toList)) ≤ 9007199254740991 then .tok 3 ⟨#[]⟩ (F (valD (s.data.toList.take (runL isDig s.data.toList)) : Int)) (runL isDig s.data.toList) else .bad 0) := Lib.hid (by
    unfold numberL
    rw [hrd]
    by_cases hb : numBad s.data.toList = true
    · rw [if_pos hb, if_pos hb]
    · rw [if_neg hb, if_neg hb]
      by_cases hv : valD (s.data.toList.take (runL isDig s.data.toList)) ≤ 9007199254740991
      · rw [if_pos hv, if_pos hv]
      · rw [if_neg hv, if_neg hv])
  rw [hbad] at HN
  generalize valD (s.data.toList.take (runL isDig s.data.toList)) = v at *
  clear hbad hrd hd
  generalize runL isDig s.data.toList = n at *
  by_cases cA : 1 < n ∧ s[0] = 48
  · have HN2 : Hid (numberL s.data.toList = .bad 0) := Lib.hid (by rw [HN.out, if_pos (by rw [decide_eq_true cA.1, decide_eq_true cA.2]; rfl)])
    have t0 : ((s[0].toNat : Nat) : Int) = 48 := by rw [cA.2]; rfl
    have hn1 : 1 < n := cA.1
    rw [HN2.out]
    clear HN HN2 cA kd
    have hst := store_f
    go_enter Tryz.func93, Tryz.ntmps93
    go_wp2_with (go_at_call 119; refine (kr _).mono ?_; rintro e w1 ⟨rfl, rfl⟩)
    refine bodyPost_ret (v := .tuple #[tkV 0 0 ⟨#[]⟩ 0, .int .i64 0]) (by simp [tkV, results, Tryz.results93, go_sem]) rfl (piece2_ok rfl rfl ?_)
    exact zero_alloc _ _
  · have hA : (decide (n > 1) && decide (s[0] = 48)) = false := by
      rw [Bool.and_eq_false_iff]
      by_cases c1 : 1 < n
      · exact Or.inr (decide_eq_false fun g => cA ⟨c1, g⟩)
      · exact Or.inl (decide_eq_false (by omega))
    rw [hA, Bool.false_or] at HN
    have cA' : 1 < n ∧ (((s[0].toNat : Nat) : Int) == 48) = false ∨ ¬ 1 < n := by
      by_cases c1 : 1 < n
      · exact Or.inl ⟨c1, byte_nb rfl fun g => cA ⟨c1, g⟩⟩
      · exact Or.inr c1
    clear cA hA
    by_cases cB : n < s.size
    · rw [dif_pos cB] at HN
      have ki := fun w => lexinner_any s[n] w
      generalize innB s[n] = b at *
      cases b with
      | true =>
        have HN2 : Hid (numberL s.data.toList = .bad 0) := Lib.hid (by rw [HN.out, if_pos rfl])
        rw [HN2.out]
        clear HN HN2 kd
        rcases cA' with ⟨c1, c2⟩ | c1
        all_goals
          have hst := store_f
          go_enter Tryz.func93, Tryz.ntmps93
          go_wp2_with (first | (go_at_call 119; refine (kr _).mono ?_; rintro e w1 ⟨rfl, rfl⟩) | (go_at_call 120; refine (ki _).mono ?_; rintro e w1 ⟨rfl, rfl⟩))
          refine bodyPost_ret (v := .tuple #[tkV 0 0 ⟨#[]⟩ 0, .int .i64 0]) (by simp [tkV, results, Tryz.results93, go_sem]) rfl (piece2_ok rfl rfl ?_)
          exact zero_alloc _ _
      | false =>
        have HN2 : Hid (numberL s.data.toList = if v ≤ 9007199254740991 then .tok 3 ⟨#[]⟩ (F (v : Int)) n else .bad 0) := Lib.hid (by rw [HN.out, if_neg (by decide)])
        rw [HN2.out]
        clear HN HN2
        by_cases hv : v ≤ 9007199254740991
        · rw [if_pos hv]
          rw [if_pos hv] at kd
          rcases cA' with ⟨c1, c2⟩ | c1
          all_goals
            have hst := store_f
            go_enter Tryz.func93, Tryz.ntmps93
            go_wp2_with (first | (go_at_call 119; refine (kr _).mono ?_; rintro e w1 ⟨rfl, rfl⟩) | (go_at_call 120; refine (ki _).mono ?_; rintro e w1 ⟨rfl, rfl⟩) | (go_at_call 122; refine (kd _).mono ?_; rintro e w1 ⟨x, j, ⟨⟨rfl, _⟩, rfl⟩, rfl, h1⟩; obtain ⟨hc, hf⟩ := bcell h1; have hz := lt_after h1))
            refine bodyPost_ret (v := .tuple #[tkV 3 0 ⟨#[]⟩ (F (v : Int)), .int .i64 n]) (by simp [tkV, hc, results, Tryz.results93, go_sem]) rfl (piece2_ok rfl rfl ?_)
            exact set4 (after_alloc h1) (Nat.le_refl _) _ _ _ _
        · rw [if_neg hv]
          rw [if_neg hv] at kd
          rcases cA' with ⟨c1, c2⟩ | c1
          all_goals
            have hst := store_f
            go_enter Tryz.func93, Tryz.ntmps93
            go_wp2_with (first | (go_at_call 119; refine (kr _).mono ?_; rintro e w1 ⟨rfl, rfl⟩) | (go_at_call 120; refine (ki _).mono ?_; rintro e w1 ⟨rfl, rfl⟩) | (go_at_call 122; refine (kd _).mono ?_; rintro e w1 ⟨x, j, ⟨rfl, rfl⟩, rfl, h1⟩; obtain ⟨hc, hf⟩ := bcell h1; have hz := lt_after h1))
            refine bodyPost_ret (v := .tuple #[tkV 0 0 ⟨#[]⟩ 0, .int .i64 0]) (by simp [tkV, hc, results, Tryz.results93, go_sem]) rfl (piece2_ok rfl rfl ?_)
            exact set4 (after_alloc h1) (Nat.le_refl _) _ _ _ _
    · rw [dif_neg cB] at HN
      have HN2 : Hid (numberL s.data.toList = if v ≤ 9007199254740991 then .tok 3 ⟨#[]⟩ (F (v : Int)) n else .bad 0) := Lib.hid (by rw [HN.out, if_neg (by decide)])
      rw [HN2.out]
      clear HN HN2
      by_cases hv : v ≤ 9007199254740991
      · rw [if_pos hv]
        rw [if_pos hv] at kd
        rcases cA' with ⟨c1, c2⟩ | c1
        all_goals
          have hst := store_f
          go_enter Tryz.func93, Tryz.ntmps93
          go_wp2_with (first | (go_at_call 119; refine (kr _).mono ?_; rintro e w1 ⟨rfl, rfl⟩) | (go_at_call 122; refine (kd _).mono ?_; rintro e w1 ⟨x, j, ⟨⟨rfl, _⟩, rfl⟩, rfl, h1⟩; obtain ⟨hc, hf⟩ := bcell h1; have hz := lt_after h1))
          refine bodyPost_ret (v := .tuple #[tkV 3 0 ⟨#[]⟩ (F (v : Int)), .int .i64 n]) (by simp [tkV, hc, results, Tryz.results93, go_sem]) rfl (piece2_ok rfl rfl ?_)
          exact set4 (after_alloc h1) (Nat.le_refl _) _ _ _ _
      · rw [if_neg hv]
        rw [if_neg hv] at kd
        rcases cA' with ⟨c1, c2⟩ | c1
        all_goals
          have hst := store_f
          go_enter Tryz.func93, Tryz.ntmps93
          go_wp2_with (first | (go_at_call 119; refine (kr _).mono ?_; rintro e w1 ⟨rfl, rfl⟩) | (go_at_call 122; refine (kd _).mono ?_; rintro e w1 ⟨x, j, ⟨rfl, rfl⟩, rfl, h1⟩; obtain ⟨hc, hf⟩ := bcell h1; have hz := lt_after h1))
          refine bodyPost_ret (v := .tuple #[tkV 0 0 ⟨#[]⟩ 0, .int .i64 0]) (by simp [tkV, hc, results, Tryz.results93, go_sem]) rfl (piece2_ok rfl rfl ?_)
          exact set4 (after_alloc h1) (Nat.le_refl _) _ _ _ _
end Go.Proofs.YtgjpcoplnpkmoaaGreatDoor.S
