/-
  StrParts: parts at a place are the string; what is found is there, and not ahead of it; of two strings that are not the same just one is less; trimmed is trimmed: walks.
-/
import Derived.Test.YtgjnpgeagalcoaaStrBack
namespace Go.Proofs.Ytgjnpgeagalcoaa
open Go.RowKit Fl

/-! ### facts about the answers -/
theorem part_head (s : ByteArray) (n : Nat) (h : n ≤ s.size) (hs : s.size ≤ 9000) : partT s 0 (F n) = s.extract 0 n := by
  have e0 : (0 : Nat) = F ((0 : Nat) : Int) := by decide
  unfold partT
  rw [show placeN s.size 0 = 0 by rw [e0, placeN_F _ 0 (by decide)]; exact Nat.zero_min _, placeN_F _ n (by omega), Nat.min_eq_left h]
  by_cases c : n ≤ 0
  · obtain rfl : n = 0 := by omega
    rw [if_pos c]; refine str_ext ?_; rw [extract_list]; rfl
  · rw [if_neg c]
theorem part_tail (s : ByteArray) (n : Nat) (h : n ≤ s.size) (hs : s.size ≤ 9000) : partT s (F n) (F s.size) = s.extract n s.size := by
  unfold partT
  rw [placeN_F _ n (by omega), placeN_F _ s.size (by omega), Nat.min_eq_left h, Nat.min_self]
  by_cases c : s.size ≤ n
  · rw [if_pos c]; refine str_ext ?_; rw [extract_list, show s.size - n = 0 by omega]; rfl
  · rw [if_neg c]
theorem join_parts (s : ByteArray) (n : Nat) (h : n ≤ s.size) (hs : s.size ≤ 4096) : joinT (s.extract 0 n) (s.extract n s.size) = s ∧ joinE (s.extract 0 n) (s.extract n s.size) = 0 := by
  have z : (s.extract 0 n).size + (s.extract n s.size).size = s.size := by simp; omega
  unfold joinT joinE
  rw [if_neg (by omega), if_neg (by omega)]
  refine ⟨?_, rfl⟩
  refine str_ext ?_
  rw [mk_list, tail_list, extract_list, List.drop_zero, Nat.sub_zero, List.take_append_drop]

theorem bytesLess_irr : ∀ a : List UInt8, Op.bytesLess a a = false
  | [] => rfl
  | a :: x => by simp [Op.bytesLess, bytesLess_irr x]
theorem bytesLess_two : ∀ a b : List UInt8, a ≠ b → Op.bytesLess a b = !Op.bytesLess b a
  | [], [], h => absurd rfl h
  | [], _ :: _, _ => rfl
  | _ :: _, [], _ => rfl
  | a :: x, b :: y, h => by
    by_cases c : a = b
    · subst c
      have := bytesLess_two x y (fun e => h (by rw [e]))
      simp [Op.bytesLess, this]
    · have n1 : (a == b) = false := beq_false_of_ne c
      have n2 : (b == a) = false := beq_false_of_ne fun e => c e.symm
      simp only [Op.bytesLess, n1, n2, Bool.false_and, Bool.or_false]
      have h1 : a.toNat ≠ b.toNat := fun e => c (UInt8.toNat_inj.1 e)
      have e1 : decide (a < b) = decide (a.toNat < b.toNat) := by rw [decide_eq_decide, UInt8.lt_iff_toNat_lt]
      have e2 : decide (b < a) = decide (b.toNat < a.toNat) := by rw [decide_eq_decide, UInt8.lt_iff_toNat_lt]
      rw [e1, e2, Bool.eq_iff_iff]; simp; omega
/-- of two strings that are not the same just one is less -/
theorem less_row (s t : ByteArray) : (Op.bytesLess s.data.toList t.data.toList = false ∧ Op.bytesLess t.data.toList s.data.toList = false ∧ (s.toList == t.toList) = true) ∨
    (Op.bytesLess s.data.toList t.data.toList = true ∧ Op.bytesLess t.data.toList s.data.toList = false ∧ (s.toList == t.toList) = false) ∨
    (Op.bytesLess s.data.toList t.data.toList = false ∧ Op.bytesLess t.data.toList s.data.toList = true ∧ (s.toList == t.toList) = false) := by
  rw [toList_data, toList_data]
  by_cases c : s.data.toList = t.data.toList
  · exact Or.inl ⟨by rw [c]; exact bytesLess_irr _, by rw [c]; exact bytesLess_irr _, beq_iff_eq.2 c⟩
  · have h := bytesLess_two _ _ c
    have e : (s.data.toList == t.data.toList) = false := beq_false_of_ne c
    cases hb : Op.bytesLess t.data.toList s.data.toList
    · rw [hb] at h; exact Or.inr (Or.inl ⟨h, rfl, e⟩)
    · rw [hb] at h; exact Or.inr (Or.inr ⟨h, rfl, e⟩)

theorem dropWhile_twice (p : UInt8 → Bool) : ∀ l : List UInt8, (l.dropWhile p).dropWhile p = l.dropWhile p
  | [] => rfl
  | a :: r => by
    cases h : p a
    · simp [List.dropWhile, h]
    · simp [List.dropWhile, h, dropWhile_twice p r]
theorem dropWhile_prefix (p : UInt8 → Bool) (y w : List UInt8) (h : (y ++ w).dropWhile p = y ++ w) : y.dropWhile p = y := by
  cases y with
  | nil => rfl
  | cons a r =>
    cases hp : p a
    · simp [List.dropWhile, hp]
    · exfalso
      rw [List.cons_append, List.dropWhile_cons_of_pos hp] at h
      have h2 := (List.dropWhile_suffix p (l := r ++ w)).length_le
      rw [h, List.length_cons] at h2
      omega
theorem trimS_twice (l cs : List UInt8) : Lib.trimS (Lib.trimS l cs) cs = Lib.trimS l cs := by
  unfold Lib.trimS Lib.trimRightS Lib.trimLeftS
  obtain ⟨y, hy⟩ : ∃ y, y ++ (l.reverse.dropWhile (cs.contains ·)).reverse.dropWhile (cs.contains ·) = (l.reverse.dropWhile (cs.contains ·)).reverse := (List.dropWhile_suffix _)
  have h2 := congrArg List.reverse hy
  rw [List.reverse_append, List.reverse_reverse] at h2
  have h3 : (List.dropWhile (cs.contains ·) ((l.reverse.dropWhile (cs.contains ·)).reverse.dropWhile (cs.contains ·)).reverse) = ((l.reverse.dropWhile (cs.contains ·)).reverse.dropWhile (cs.contains ·)).reverse :=
    dropWhile_prefix _ _ y.reverse (by rw [h2]; exact dropWhile_twice _ _)
  rw [h3, List.reverse_reverse]
  exact dropWhile_twice _ _
theorem trim_trim (s : ByteArray) : trimT (trimT s) = trimT s := by
  have h := trimS_twice s.data.toList blanksL
  unfold trimT
  rw [mk_list, h]

/-- what Find tells -/
theorem find_told (s t : ByteArray) (n : Int) : (findI s t n = -1 ∨ ∃ k : Nat, findI s t n = k ∧ k + t.size ≤ s.size ∧ ((s.extract k (k + t.size)).toList == t.toList) = true ∧ (n ≤ k ∨ (s.size : Int) ≤ k)) ∧
    (n ≤ 0 → t.size ≤ s.size → findI s t n ≠ 0 → ((s.extract 0 t.size).toList == t.toList) = false) := by
  have hle := fromN_le s n
  have hfr : n ≤ (fromN s n : Int) ∨ fromN s n = s.size := by unfold fromN; repeat' split
                                                              all_goals omega
  have hz : n ≤ 0 → fromN s n = 0 := by
    intro h; unfold fromN; repeat' split
    all_goals omega
  unfold findI
  generalize fromN s n = f at *
  refine ⟨?_, ?_⟩
  · rcases Lib.index_spec (s.data.toList.drop f) t.data.toList with ⟨h1, _⟩ | ⟨i, h1, h2, h3, _⟩
    · left; rw [h1]; rfl
    · right
      rw [List.length_drop, ← size_len] at h2
      have ho := occ_eq s t (f + i) f (by omega)
      rw [Nat.add_sub_cancel_left, h3] at ho
      refine ⟨f + i, by rw [h1, if_neg (by omega)]; omega, ?_, ho.symm, by omega⟩
      by_cases c : s.size < f + i + t.size
      · have := occ_far s t (f + i) f (by omega) (by omega) c
        rw [Nat.add_sub_cancel_left, h3] at this; cases this
      · omega
  · intro h0 hts hne
    obtain rfl := hz h0
    cases hb : ((s.extract 0 t.size).toList == t.toList)
    · rfl
    · exfalso
      apply hne
      have ho := occ_eq s t 0 0 (Nat.le_refl _)
      rw [Nat.zero_add, hb] at ho
      have : Lib.index (s.data.toList.drop 0) t.data.toList = ((0 : Nat) : Int) := Lib.index_first (Nat.zero_le _) ho (fun j hj => by omega)
      rw [this]; rfl

theorem trimT_le (s : ByteArray) : (trimT s).size ≤ s.size := by
  unfold trimT
  rw [mk_size, size_len]
  unfold Lib.trimS Lib.trimLeftS Lib.trimRightS
  refine Nat.le_trans (List.dropWhile_suffix _).length_le ?_
  rw [List.length_reverse]
  refine Nat.le_trans (List.dropWhile_suffix _).length_le ?_
  rw [List.length_reverse]; exact Nat.le_refl _

set_option maxRecDepth 1000000 in
theorem parts_long (s t : ByteArray) (n : Int) (w : World) (hc : s.size > 3000 ∨ t.size > 3000) :
    Calls Try.prog 8 #[.string s, .string t, .int .i64 n] w fun e w' => e = .returned (.bool true) ∧ Below w.heap.size w w' := by
  go_enter Try.func8, Try.ntmps8
  go_wp2_with (go_at_call 17; refine (alive_any _).mono ?_; rintro e w1 ⟨rfl, h1⟩)
  all_goals (go_ret; exact ⟨rfl, h1⟩)
end Go.Proofs.Ytgjnpgeagalcoaa
