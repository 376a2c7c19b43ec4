/-
  StrBack: a string, quoted and read, is itself: walks.
-/
import Derived.Test.YtgjnpgeagalcoaaStrFind2
import Derived.Test.YtgjnpgeagalcoaaStrPlain
namespace Go.Proofs.Ytgjnpgeagalcoaa
open Go.RowKit Fl

/-! ### the two calls that every statement of the chapter begins with -/
theorem gint_F (n : Nat) (h : n < 2 ^ 53) : gint (F n) = n := by
  unfold gint
  rw [rung_F (n : Int) (by omega), Int.natAbs_natCast, Nat.mul_div_cancel _ U_pos]
theorem placeN_F (m n : Nat) (h : n < 2 ^ 53) : placeN m (F n) = min n m := by
  rw [placeN_pos (not_nan_F n (by omega)) (Or.inl (by rw [sgn_F]; exact decide_eq_false (by omega))), gint_F n h]
def abcde : ByteArray := ⟨#[97, 98, 99, 100, 101]⟩
theorem alive_part : partT abcde 4607182418800017408 4613937818241073152 = ⟨#[98, 99]⟩ := by
  have e1 : (4607182418800017408 : Nat) = F ((1 : Nat) : Int) := by decide
  have e3 : (4613937818241073152 : Nat) = F ((3 : Nat) : Int) := by decide
  unfold partT
  rw [e1, e3, placeN_F _ 1 (by decide), placeN_F _ 3 (by decide)]
  decide
theorem alive_quote : (⟨(quoteL (⟨#[97]⟩ : ByteArray).data.toList).toArray⟩ : ByteArray) = ⟨#[34, 97, 34]⟩ := by decide

theorem alive_any (w : World) : Calls Try.prog 17 #[] w fun e w' => e = .returned (.bool true) ∧ Below w.heap.size w w' := by
  have k1 := fun w => Part_any abcde 4607182418800017408 4613937818241073152 w (by decide)
  have k2 := fun w => Quote_any ⟨#[97]⟩ w (by decide)
  rw [alive_part] at k1
  rw [alive_quote] at k2
  unfold abcde at k1
  go_enter Try.func17, Try.ntmps17
  go_wp2_with (first
    | (go_at_call 9; refine (k1 _).mono ?_; rintro e w1 ⟨rfl, h1⟩)
    | (go_at_call 12; refine (k2 _).mono ?_; rintro e w2 ⟨rfl, h2⟩))
  go_ret
  exact ⟨rfl, below_up h1 h2⟩

/-! ### what is between the quotes reads back -/
theorem hexN_rng (n : Nat) (h : n < 16) : (48 ≤ hexN n ∧ hexN n ≤ 57) ∨ (97 ≤ hexN n ∧ hexN n ≤ 102) := by unfold hexN; split <;> omega
theorem worth_hex (n : Nat) (h : n < 16) : worthN (hexN n) = n := by
  unfold worthN hexN
  by_cases c : n < 10
  · rw [if_pos c, if_pos (by omega)]; omega
  · rw [if_neg c, if_neg (by omega), if_pos (by omega)]; omega

theorem qb_rng (c : UInt8) : ∀ b ∈ qb c, 32 ≤ b.toNat ∧ b.toNat ≤ 126 := by
  intro b hb
  unfold qb at hb
  have hd := hexN_rng (c.toNat / 16) (by have := c.toNat_lt; omega)
  have hm := hexN_rng (c.toNat % 16) (by omega)
  split at hb
  · rename_i h
    simp at hb
    rcases hb with rfl | rfl
    · decide
    · omega
  · split at hb
    · simp at hb; rcases hb with rfl | rfl <;> decide
    · split at hb
      · simp at hb; rcases hb with rfl | rfl <;> decide
      · split at hb
        · simp at hb; rcases hb with rfl | rfl <;> decide
        · split at hb
          · simp only [List.mem_cons, List.not_mem_nil, or_false] at hb
            rcases hb with rfl | rfl | rfl | rfl
            · decide
            · decide
            · rw [toNat_of _ (by omega)]; omega
            · rw [toNat_of _ (by omega)]; omega
          · simp at hb; subst hb; omega
theorem quoteL_rng (l : List UInt8) : ∀ b ∈ quoteL l, 32 ≤ b.toNat ∧ b.toNat ≤ 126 := by
  intro b hb
  unfold quoteL quoteI at hb
  simp only [List.mem_cons, List.mem_append, List.mem_flatMap, List.not_mem_nil, or_false] at hb
  rcases hb with rfl | ⟨c, _, hc⟩ | rfl
  · decide
  · exact qb_rng c b hc
  · decide

/-- a byte of a string, from its list -/
theorem get_list {v : ByteArray} {L : List UInt8} (h : v.data.toList = L) (j : Nat) (b : UInt8) (hb : L[j]? = some b) : ∃ hj : j < v.size, v[j] = b := by
  subst h
  have hj : j < v.size := by
    rw [size_len]
    exact (List.getElem?_eq_some_iff.1 hb).1
  refine ⟨hj, ?_⟩
  rw [getElem_list v j hj] at hb
  exact Option.some.inj hb

theorem esc_qb (v : ByteArray) (c : UInt8) (rest : List UInt8) (h : v.data.toList = qb c ++ rest) : escS v = (c, (qb c).length) := by
  have hc := c.toNat_lt
  by_cases c1 : c.toNat = 34 ∨ c.toNat = 92
  · have e : qb c = [92, c] := by unfold qb; rw [if_pos c1]
    rw [e] at h ⊢
    obtain ⟨p0, q0⟩ := get_list h 0 92 rfl
    obtain ⟨p1, q1⟩ := get_list h 1 c rfl
    unfold escS
    rw [dif_neg (by omega), if_neg (by rw [q0]; decide), dif_neg (by omega), if_pos (by rw [q1]; omega), q1]; rfl
  · by_cases c2 : c.toNat = 10
    · have e : qb c = [92, 110] := by unfold qb; rw [if_neg c1, if_pos c2]
      rw [e] at h ⊢
      obtain ⟨p0, q0⟩ := get_list h 0 92 rfl
      obtain ⟨p1, q1⟩ := get_list h 1 110 rfl
      unfold escS
      rw [dif_neg (by omega), if_neg (by rw [q0]; decide), dif_neg (by omega), if_neg (by rw [q1]; decide), if_pos (by rw [q1]; decide)]
      have : c = 10 := UInt8.toNat_inj.1 c2
      rw [this]; rfl
    · by_cases c3 : c.toNat = 9
      · have e : qb c = [92, 116] := by unfold qb; rw [if_neg c1, if_neg c2, if_pos c3]
        rw [e] at h ⊢
        obtain ⟨p0, q0⟩ := get_list h 0 92 rfl
        obtain ⟨p1, q1⟩ := get_list h 1 116 rfl
        unfold escS
        rw [dif_neg (by omega), if_neg (by rw [q0]; decide), dif_neg (by omega), if_neg (by rw [q1]; decide), if_neg (by rw [q1]; decide), if_pos (by rw [q1]; decide)]
        have : c = 9 := UInt8.toNat_inj.1 c3
        rw [this]; rfl
      · by_cases c4 : c.toNat = 13
        · have e : qb c = [92, 114] := by unfold qb; rw [if_neg c1, if_neg c2, if_neg c3, if_pos c4]
          rw [e] at h ⊢
          obtain ⟨p0, q0⟩ := get_list h 0 92 rfl
          obtain ⟨p1, q1⟩ := get_list h 1 114 rfl
          unfold escS
          rw [dif_neg (by omega), if_neg (by rw [q0]; decide), dif_neg (by omega), if_neg (by rw [q1]; decide), if_neg (by rw [q1]; decide), if_neg (by rw [q1]; decide), if_pos (by rw [q1]; decide)]
          have : c = 13 := UInt8.toNat_inj.1 c4
          rw [this]; rfl
        · by_cases c5 : c.toNat < 32 ∨ 126 < c.toNat
          · have e : qb c = [92, 120, (hexN (c.toNat / 16)).toUInt8, (hexN (c.toNat % 16)).toUInt8] := by unfold qb; rw [if_neg c1, if_neg c2, if_neg c3, if_neg c4, if_pos c5]
            have hd := hexN_lt (c.toNat / 16) (by omega)
            have hm := hexN_lt (c.toNat % 16) (by omega)
            have wd := worth_hex (c.toNat / 16) (by omega)
            have wm := worth_hex (c.toNat % 16) (by omega)
            rw [e] at h ⊢
            obtain ⟨p0, q0⟩ := get_list h 0 92 rfl
            obtain ⟨p1, q1⟩ := get_list h 1 120 rfl
            obtain ⟨p2, q2⟩ := get_list h 2 _ rfl
            obtain ⟨p3, q3⟩ := get_list h 3 _ rfl
            have r2 : worthN v[2].toNat = ((c.toNat / 16 : Nat) : Int) := by rw [q2, toNat_of _ hd, wd]
            have r3 : worthN v[3].toNat = ((c.toNat % 16 : Nat) : Int) := by rw [q3, toNat_of _ hm, wm]
            unfold escS
            rw [dif_neg (by omega), if_neg (by rw [q0]; decide), dif_neg (by omega), if_neg (by rw [q1]; decide), if_neg (by rw [q1]; decide), if_neg (by rw [q1]; decide), if_neg (by rw [q1]; decide), if_pos (by rw [q1]; decide)]
            unfold sixR
            rw [dif_neg (by omega), if_neg (by rw [r2, r3]; omega), r2, r3]
            have : hexOf ((c.toNat / 16 : Nat) : Int) ((c.toNat % 16 : Nat) : Int) = c := by
              unfold hexOf
              refine UInt8.toNat_inj.1 ?_
              rw [toNat_of _ (by omega)]; omega
            rw [this]; rfl
          · have e : qb c = [c] := by unfold qb; rw [if_neg c1, if_neg c2, if_neg c3, if_neg c4, if_neg c5]
            rw [e] at h ⊢
            obtain ⟨p0, q0⟩ := get_list h 0 c rfl
            unfold escS
            rw [dif_neg (by omega), if_pos (by rw [q0]; omega), q0]; rfl

theorem plainR_quote (u : ByteArray) : ∀ (l pre acc : List UInt8) (f : Nat), u.data.toList = pre ++ quoteI l → (quoteI l).length ≤ f → plainR u f pre.length acc = .inr (acc ++ l)
  | [], pre, acc, f, h, _ => by
    have e : u.size = pre.length := by rw [size_len, h]; simp [quoteI]
    rw [plainR_end _ _ _ _ (by omega), List.append_nil]
  | c :: r, pre, acc, f, h, hf => by
    have e : quoteI (c :: r) = qb c ++ quoteI r := by simp [quoteI]
    have hl := (qb_len c).1
    rw [e] at h hf
    rw [List.length_append] at hf
    have hsz : u.size = pre.length + ((qb c).length + (quoteI r).length) := by rw [size_len, h, List.length_append, List.length_append]
    obtain ⟨g, rfl⟩ : ∃ g, f = g + 1 := ⟨f - 1, by omega⟩
    have ht : (u.extract pre.length u.size).data.toList = qb c ++ quoteI r := by rw [tail_list, h, List.drop_left]
    have he := esc_qb _ c _ ht
    rw [plainR, if_pos (by omega), he]
    dsimp only
    rw [if_neg (by omega)]
    have := plainR_quote u r (pre ++ qb c) (acc ++ [c]) g (by rw [h, List.append_assoc]) (by omega)
    rw [List.length_append] at this
    rw [this, List.append_assoc]; rfl

theorem plain_quote (u s : ByteArray) (h : u.data.toList = quoteI s.data.toList) (hs : s.size ≤ 4096) : plainO u = (s, 0, 0) := by
  have hl := quoteI_len s.data.toList
  rw [← h, ← size_len, ← size_len] at hl
  unfold plainO
  rw [if_neg (by omega)]
  have := plainR_quote u s.data.toList [] [] u.size h (by rw [← h, ← size_len]; exact Nat.le_refl _)
  rw [List.length_nil, List.nil_append] at this
  rw [this, outOf_short _ (by rw [← size_len]; omega), mk_of]

theorem StrBack_walk (s : ByteArray) (w : World) (_ : s.size ≤ maxLen) :
    Calls Try.prog 7 #[.string s] w fun e w' => e = .returned (.bool true) ∧ Below w.heap.size w w' := by
  by_cases hc : 4096 < s.size
  · go_enter Try.func7, Try.ntmps7
    go_wp2_with (go_at_call 17; refine (alive_any _).mono ?_; rintro e w1 ⟨rfl, h1⟩)
    go_ret
    exact ⟨rfl, h1⟩
  · have hs : s.size ≤ 4096 := by omega
    have kq := fun w => Quote_any s w (by omega)
    obtain ⟨q, hq⟩ : ∃ q : ByteArray, q = ⟨(quoteL s.data.toList).toArray⟩ := ⟨_, rfl⟩
    rw [← hq] at kq
    have hql : q.data.toList = quoteL s.data.toList := by rw [hq]
    have hqi := quoteI_len s.data.toList
    have hsz : q.size = (quoteI s.data.toList).length + 2 := by rw [size_len, hql]; unfold quoteL; simp
    rw [← size_len] at hqi
    have hu : (q.extract 1 (q.size - 1)).data.toList = quoteI s.data.toList := by
      rw [extract_list, hql, hsz]
      unfold quoteL
      rw [List.drop_succ_cons, List.drop_zero, List.take_append_of_le_length (by omega), List.take_of_length_le (by omega)]
    have kp := fun w => Plain_any (q.extract 1 (q.size - 1)) w (by rw [size_len, hu]; omega)
    rw [plain_quote _ s hu hs] at kp
    have hr : ∀ k (hk : k < q.size), 32 ≤ q[k].toNat ∧ q[k].toNat ≤ 126 := by
      intro k hk
      have h1 := getElem_list q k hk
      rw [hql] at h1
      exact quoteL_rng s.data.toList _ (List.mem_of_getElem? h1)
    have h2 : 2 ≤ q.size := by omega
    obtain ⟨_, g0⟩ := get_list hql 0 34 rfl
    obtain ⟨_, g1⟩ := get_list hql (q.size - 1) 34 (by
      rw [hsz]; unfold quoteL
      rw [show (quoteI s.data.toList).length + 2 - 1 = (quoteI s.data.toList).length + 1 by omega, List.getElem?_cons_succ, List.getElem?_append_right (Nat.le_refl _), Nat.sub_self]; rfl)
    have e0 : q[0].toNat = 34 := by rw [g0]; rfl
    have e1 : q[q.size - 1].toNat = 34 := by rw [g1]; rfl
    have hq4 : q.size ≤ 20000 := by omega
    have HR := Lib.hid hr
    clear hq hql hqi hsz hu hr hc g0 g1
    go_enter Try.func7, Try.ntmps7
    go_wp2_with (first
      | (go_at_call 17; refine (alive_any _).mono ?_; rintro e w1 ⟨rfl, h1⟩)
      | (go_at_call 12; refine (kq _).mono ?_; rintro e w2 ⟨rfl, h2⟩))
    go_loop [5] (fun i => ∃ k : Nat, k ≤ q.size ∧ i = .int .i64 (k : Int)) (fun i => q.size - (intOf i).toNat)
    case atStart => exact ⟨0, Nat.zero_le _, rfl⟩
    case round =>
      obtain ⟨k, hk, rfl⟩ := hrel
      by_cases hlt : k < q.size
      · obtain ⟨r1, r2⟩ := HR.out k hlt
        have i3 : (decide ((q[k].toNat : Int) < 32) || decide (126 < (q[k].toNat : Int))) = false := by
          rw [Bool.or_eq_false_iff, decide_eq_false_iff_not, decide_eq_false_iff_not]; omega
        clear e0 e1
        go_wp2
        go_round
        case rel => exact ⟨k + 1, hlt, by go_num⟩
        case measure => simp [intOf]; omega
      · go_wp2_with (go_at_call 11; refine (kp _).mono ?_; rintro e w3 ⟨rfl, h3⟩)
        go_ret
        exact ⟨rfl, below_up (below_up h1 h2) h3⟩
end Go.Proofs.Ytgjnpgeagalcoaa
