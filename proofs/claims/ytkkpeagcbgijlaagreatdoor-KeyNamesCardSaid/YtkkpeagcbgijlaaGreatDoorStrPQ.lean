/-
  Quoted and read it is itself: the facts of it without a walk.
-/
import Derived.Test.YtkkpeagcbgijlaaGreatDoorStrPlain
namespace Go.Proofs.YtkkpeagcbgijlaaGreatDoor.S
open Go.RowKit
theorem tail_list (s : ByteArray) (f : Nat) : (s.extract f s.size).data.toList = s.data.toList.drop f := by
  rw [extract_list, List.take_of_length_le]
  rw [List.length_drop, ← size_len]; exact Nat.le_refl _

theorem hexN_rng (n : Nat) (h : n < 16) : (48 ≤ hexN n ∧ hexN n ≤ 57) ∨ (97 ≤ hexN n ∧ hexN n ≤ 102) := by unfold hexN; split <;> omega
theorem worth_hex (n : Nat) (h : n < 16) : worthN (hexN n) = n := by
  unfold worthN hexN
  by_cases c : n < 10
  · rw [if_pos c, if_pos (by omega)]; omega
  · rw [if_neg c, if_neg (by omega), if_pos (by omega)]; omega

theorem qb_rng (c : UInt8) : ∀ b ∈ qb c, 32 ≤ b.toNat ∧ b.toNat ≤ 126 := by
  intro b hb
  unfold qb at hb
  have hd := hexN_rng (c.toNat / 16) (by have := c.toNat_lt; omega)
  have hm := hexN_rng (c.toNat % 16) (by omega)
  split at hb
  · rename_i h
    simp at hb
    rcases hb with rfl | rfl
    · decide
    · omega
  · split at hb
    · simp at hb; rcases hb with rfl | rfl <;> decide
    · split at hb
      · simp at hb; rcases hb with rfl | rfl <;> decide
      · split at hb
        · simp at hb; rcases hb with rfl | rfl <;> decide
        · split at hb
          · simp only [List.mem_cons, List.not_mem_nil, or_false] at hb
            rcases hb with rfl | rfl | rfl | rfl
            · decide
            · decide
            · rw [toNat_of _ (by omega)]; omega
            · rw [toNat_of _ (by omega)]; omega
          · simp at hb; subst hb; omega
theorem quoteL_rng (l : List UInt8) : ∀ b ∈ quoteL l, 32 ≤ b.toNat ∧ b.toNat ≤ 126 := by
  intro b hb
  unfold quoteL quoteI at hb
  simp only [List.mem_cons, List.mem_append, List.mem_flatMap, List.not_mem_nil, or_false] at hb
  rcases hb with rfl | ⟨c, _, hc⟩ | rfl
  · decide
  · exact qb_rng c b hc
  · decide

/-- a byte of a string, from its list -/
theorem get_list {v : ByteArray} {L : List UInt8} (h : v.data.toList = L) (j : Nat) (b : UInt8) (hb : L[j]? = some b) : ∃ hj : j < v.size, v[j] = b := by
  subst h
  have hj : j < v.size := by
    rw [size_len]
    exact (List.getElem?_eq_some_iff.1 hb).1
  refine ⟨hj, ?_⟩
  rw [getElem_list v j hj] at hb
  exact Option.some.inj hb

theorem esc_qb (v : ByteArray) (c : UInt8) (rest : List UInt8) (h : v.data.toList = qb c ++ rest) : escS v = (c, (qb c).length) := by
  have hc := c.toNat_lt
  by_cases c1 : c.toNat = 34 ∨ c.toNat = 92
  · have e : qb c = [92, c] := by unfold qb; rw [if_pos c1]
    rw [e] at h ⊢
    obtain ⟨p0, q0⟩ := get_list h 0 92 rfl
    obtain ⟨p1, q1⟩ := get_list h 1 c rfl
    unfold escS
    rw [dif_neg (by omega), if_neg (by rw [q0]; decide), dif_neg (by omega), if_pos (by rw [q1]; omega), q1]; rfl
  · by_cases c2 : c.toNat = 10
    · have e : qb c = [92, 110] := by unfold qb; rw [if_neg c1, if_pos c2]
      rw [e] at h ⊢
      obtain ⟨p0, q0⟩ := get_list h 0 92 rfl
      obtain ⟨p1, q1⟩ := get_list h 1 110 rfl
      unfold escS
      rw [dif_neg (by omega), if_neg (by rw [q0]; decide), dif_neg (by omega), if_neg (by rw [q1]; decide), if_pos (by rw [q1]; decide)]
      have : c = 10 := UInt8.toNat_inj.1 c2
      rw [this]; rfl
    · by_cases c3 : c.toNat = 9
      · have e : qb c = [92, 116] := by unfold qb; rw [if_neg c1, if_neg c2, if_pos c3]
        rw [e] at h ⊢
        obtain ⟨p0, q0⟩ := get_list h 0 92 rfl
        obtain ⟨p1, q1⟩ := get_list h 1 116 rfl
        unfold escS
        rw [dif_neg (by omega), if_neg (by rw [q0]; decide), dif_neg (by omega), if_neg (by rw [q1]; decide), if_neg (by rw [q1]; decide), if_pos (by rw [q1]; decide)]
        have : c = 9 := UInt8.toNat_inj.1 c3
        rw [this]; rfl
      · by_cases c4 : c.toNat = 13
        · have e : qb c = [92, 114] := by unfold qb; rw [if_neg c1, if_neg c2, if_neg c3, if_pos c4]
          rw [e] at h ⊢
          obtain ⟨p0, q0⟩ := get_list h 0 92 rfl
          obtain ⟨p1, q1⟩ := get_list h 1 114 rfl
          unfold escS
          rw [dif_neg (by omega), if_neg (by rw [q0]; decide), dif_neg (by omega), if_neg (by rw [q1]; decide), if_neg (by rw [q1]; decide), if_neg (by rw [q1]; decide), if_pos (by rw [q1]; decide)]
          have : c = 13 := UInt8.toNat_inj.1 c4
          rw [this]; rfl
        · by_cases c5 : c.toNat < 32 ∨ 126 < c.toNat
          · have e : qb c = [92, 120, (hexN (c.toNat / 16)).toUInt8, (hexN (c.toNat % 16)).toUInt8] := by unfold qb; rw [if_neg c1, if_neg c2, if_neg c3, if_neg c4, if_pos c5]
            have hd := hexN_lt (c.toNat / 16) (by omega)
            have hm := hexN_lt (c.toNat % 16) (by omega)
            have wd := worth_hex (c.toNat / 16) (by omega)
            have wm := worth_hex (c.toNat % 16) (by omega)
            rw [e] at h ⊢
            obtain ⟨p0, q0⟩ := get_list h 0 92 rfl
            obtain ⟨p1, q1⟩ := get_list h 1 120 rfl
            obtain ⟨p2, q2⟩ := get_list h 2 _ rfl
            obtain ⟨p3, q3⟩ := get_list h 3 _ rfl
            have r2 : worthN v[2].toNat = ((c.toNat / 16 : Nat) : Int) := by rw [q2, toNat_of _ hd, wd]
            have r3 : worthN v[3].toNat = ((c.toNat % 16 : Nat) : Int) := by rw [q3, toNat_of _ hm, wm]
            unfold escS
            rw [dif_neg (by omega), if_neg (by rw [q0]; decide), dif_neg (by omega), if_neg (by rw [q1]; decide), if_neg (by rw [q1]; decide), if_neg (by rw [q1]; decide), if_neg (by rw [q1]; decide), if_pos (by rw [q1]; decide)]
            unfold sixR
            rw [dif_neg (by omega), if_neg (by rw [r2, r3]; omega), r2, r3]
            have : hexOf ((c.toNat / 16 : Nat) : Int) ((c.toNat % 16 : Nat) : Int) = c := by
              unfold hexOf
              refine UInt8.toNat_inj.1 ?_
              rw [toNat_of _ (by omega)]; omega
            rw [this]; rfl
          · have e : qb c = [c] := by unfold qb; rw [if_neg c1, if_neg c2, if_neg c3, if_neg c4, if_neg c5]
            rw [e] at h ⊢
            obtain ⟨p0, q0⟩ := get_list h 0 c rfl
            unfold escS
            rw [dif_neg (by omega), if_pos (by rw [q0]; omega), q0]; rfl

theorem plainR_quote (u : ByteArray) : ∀ (l pre acc : List UInt8) (f : Nat), u.data.toList = pre ++ quoteI l → (quoteI l).length ≤ f → plainR u f pre.length acc = .inr (acc ++ l)
  | [], pre, acc, f, h, _ => by
    have e : u.size = pre.length := by rw [size_len, h]; simp [quoteI]
    rw [plainR_end _ _ _ _ (by omega), List.append_nil]
  | c :: r, pre, acc, f, h, hf => by
    have e : quoteI (c :: r) = qb c ++ quoteI r := by simp [quoteI]
    have hl := (qb_len c).1
    rw [e] at h hf
    rw [List.length_append] at hf
    have hsz : u.size = pre.length + ((qb c).length + (quoteI r).length) := by rw [size_len, h, List.length_append, List.length_append]
    obtain ⟨g, rfl⟩ : ∃ g, f = g + 1 := ⟨f - 1, by omega⟩
    have ht : (u.extract pre.length u.size).data.toList = qb c ++ quoteI r := by rw [tail_list, h, List.drop_left]
    have he := esc_qb _ c _ ht
    rw [plainR, if_pos (by omega), he]
    dsimp only
    rw [if_neg (by omega)]
    have := plainR_quote u r (pre ++ qb c) (acc ++ [c]) g (by rw [h, List.append_assoc]) (by omega)
    rw [List.length_append] at this
    rw [this, List.append_assoc]; rfl

theorem plain_quote (u s : ByteArray) (h : u.data.toList = quoteI s.data.toList) (hs : s.size ≤ 4096) : plainO u = (s, 0, 0) := by
  have hl := quoteI_len s.data.toList
  rw [← h, ← size_len, ← size_len] at hl
  unfold plainO
  rw [if_neg (by omega)]
  have := plainR_quote u s.data.toList [] [] u.size h (by rw [← h, ← size_len]; exact Nat.le_refl _)
  rw [List.length_nil, List.nil_append] at this
  rw [this, outOf_short _ (by rw [← size_len]; omega), mk_of]
end Go.Proofs.YtkkpeagcbgijlaaGreatDoor.S
