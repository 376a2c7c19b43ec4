/-
  Which tokens may be, and how each is written: walks of package lex.
-/
import Derived.Test.YtgjpcoplnpkmoaaGreatDoorLexText
namespace Go.Proofs.YtgjpcoplnpkmoaaGreatDoor.S
open Go.RowKit Fl

theorem emp_or (s : ByteArray) : s = ⟨#[]⟩ ∨ (s ≠ ⟨#[]⟩ ∧ s.toList.isEmpty = false ∧ (!s.data.toList.isEmpty) = true) := by
  by_cases h : s.data.toList = []
  · exact Or.inl (str_ext h)
  · have hz : s.data.toList.isEmpty = false := by simpa using h
    exact Or.inr ⟨fun e => h (by rw [e]), by rw [toList_data]; exact hz, by rw [hz]; rfl⟩
theorem told_end (p : Int) (s : ByteArray) (n : Nat) (w : World) :
    Calls Tryz.prog 51 #[.agg #[.int .u8 0, .int .i64 p, .string s, .float .f64 n]] w fun e w' => e = .returned (.bool (s.data.toList.isEmpty && zrB n)) ∧ Below w.heap.size w w' := by
  have hz : (FloatKind.f64.format.order n 0 == some .eq) = zrB n := rfl
  cases hc : zrB n
  all_goals
    rw [hc] at hz
    clear hc
    rcases emp_or s with rfl | ⟨_, h1, h2⟩
    all_goals
      go_enter Tryz.func51, Tryz.ntmps51
      go_wp2
      go_ret
      exact ⟨ret_bool (by first | rfl | (rw [← toList_data, h1]; rfl)), zero_alloc _ _⟩
theorem told_str (p : Int) (s : ByteArray) (n : Nat) (hs : s.size ≤ 9223372036854775807) (w : World) :
    Calls Tryz.prog 51 #[.agg #[.int .u8 4, .int .i64 p, .string s, .float .f64 n]] w fun e w' => e = .returned (.bool (decide (s.size ≤ 4096) && zrB n)) ∧ Below w.heap.size w w' := by
  have hz : (FloatKind.f64.format.order n 0 == some .eq) = zrB n := rfl
  cases hc : zrB n
  all_goals
    rw [hc] at hz
    clear hc
    by_cases h : s.size ≤ 4096
    · rw [decide_eq_true h]
      go_enter Tryz.func51, Tryz.ntmps51
      go_wp2
      go_ret
      exact ⟨rfl, zero_alloc _ _⟩
    · rw [decide_eq_false h]
      have h' : ¬ (s.size : Int) ≤ 4096 := by omega
      go_enter Tryz.func51, Tryz.ntmps51
      go_wp2
      go_ret
      exact ⟨rfl, zero_alloc _ _⟩
theorem told_num (p : Int) (s : ByteArray) {c : Cl} {n : Nat} (h : Is c n) (w : World) :
    Calls Tryz.prog 51 #[.agg #[.int .u8 3, .int .i64 p, .string s, .float .f64 n]] w fun e w' => e = .returned (.bool (s.data.toList.isEmpty && nmB c)) ∧ Below w.heap.size w w' := by
  have km := fun w => May_cls h w
  rcases emp_or s with rfl | ⟨_, h1, h2⟩
  · cases c with
    | nan =>
      have ho : FloatKind.f64.format.order n 0 = none := order_nan_l 0 h.2
      clear h
      go_enter Tryz.func51, Tryz.ntmps51
      go_wp2_with (go_at_call 76; refine (km _).mono ?_; rintro e w1 ⟨rfl, rfl⟩)
      go_ret
      exact ⟨rfl, zero_alloc _ _⟩
    | other =>
      have km : ∀ w, Calls Tryz.prog 76 #[.float .f64 n] w (fun e w' => e = .returned (.bool false) ∧ w = w') := km
      clear h
      go_enter Tryz.func51, Tryz.ntmps51
      go_wp2_with (go_at_call 76; refine (km _).mono ?_; rintro e w1 ⟨rfl, rfl⟩)
      go_ret
      exact ⟨rfl, zero_alloc _ _⟩
    | ours m =>
      have km : ∀ w, Calls Tryz.prog 76 #[.float .f64 n] w (fun e w' => e = .returned (.bool true) ∧ w = w') := km
      obtain ⟨hn, hs⟩ := h
      have ho := order_F m 0 hs.abs (by decide)
      rw [← hn, F_zero] at ho
      have ho : FloatKind.f64.format.order n 0 = some (compare m 0) := ho
      clear hn hs
      by_cases hm : 0 ≤ m
      · have hb : nmB (.ours m) = true := decide_eq_true hm
        rw [hb]
        have hcmp : compare m 0 = .gt ∨ compare m 0 = .eq := by
          show (if m < 0 then Ordering.lt else if m = 0 then .eq else .gt) = .gt ∨ (if m < 0 then Ordering.lt else if m = 0 then .eq else .gt) = .eq
          rw [if_neg (by omega)]
          by_cases h0 : m = 0
          · rw [if_pos h0]; exact Or.inr rfl
          · rw [if_neg h0]; exact Or.inl rfl
        rcases hcmp with hh | hh
        all_goals
          rw [hh] at ho
          clear hh hb hm
          go_enter Tryz.func51, Tryz.ntmps51
          go_wp2_with (go_at_call 76; refine (km _).mono ?_; rintro e w1 ⟨rfl, rfl⟩)
          go_ret
          exact ⟨rfl, zero_alloc _ _⟩
      · have hb : nmB (.ours m) = false := decide_eq_false hm
        rw [hb]
        have hcmp : compare m 0 = .lt := by
          have : m < 0 := by omega
          simp [compare, compareOfLessAndEq, this]
        rw [hcmp] at ho
        clear hcmp hb hm
        go_enter Tryz.func51, Tryz.ntmps51
        go_wp2_with (go_at_call 76; refine (km _).mono ?_; rintro e w1 ⟨rfl, rfl⟩)
        go_ret
        exact ⟨rfl, zero_alloc _ _⟩
  · have hb : s.data.toList.isEmpty = false := by rw [← toList_data]; exact h1
    rw [hb]
    clear km h
    go_enter Tryz.func51, Tryz.ntmps51
    go_wp2
    go_ret
    exact ⟨rfl, zero_alloc _ _⟩

theorem nm_ours {c : Cl} {x : Nat} (h : Is c x) : nmB c = true ↔ numOurs x := by
  cases c with
  | nan =>
    refine ⟨fun h => (by cases h), ?_⟩
    rintro ⟨n, h1, h2⟩
    have hs : SafeN (n : Int) := by unfold SafeN; omega
    exact absurd (by rw [← h2]; exact h.2) (not_nan_F (n : Int) hs.abs)
  | other =>
    refine ⟨fun h => (by cases h), ?_⟩
    rintro ⟨n, h1, h2⟩
    have hs : SafeN (n : Int) := by unfold SafeN; omega
    have := mayB_other h
    rw [h2, wholeB_ours _ hs.abs, inB_ours _ hs] at this
    cases this
  | ours m =>
    obtain ⟨rfl, hs⟩ := h
    show decide (0 ≤ m) = true ↔ _
    rw [decide_eq_true_eq]
    constructor
    · intro hm
      exact ⟨m.toNat, by have := hs.2; omega, by rw [show ((m.toNat : Nat) : Int) = m by omega]⟩
    · rintro ⟨n, h1, h2⟩
      have hn : SafeN (n : Int) := by unfold SafeN; omega
      have := congrArg numN h2
      rw [numN_F hs, numN_F hn] at this
      omega

/-- what a token that comes in is like -/
def TkIn (t : Tk) : Prop := t.kind < 256 ∧ t.text.size ≤ 9223372036854775807 ∧ t.num < 2 ^ 64
theorem told_yes (t : Tk) (hi : TkIn t) (h : TokP t) (w : World) :
    Calls Tryz.prog 51 #[.agg #[.int .u8 (t.kind : Int), .int .i64 t.pos, .string t.text, .float .f64 t.num]] w fun e w' => e = .returned (.bool true) ∧ Below w.heap.size w w' := by
  obtain ⟨k, p, s, n⟩ := t
  obtain ⟨h1, h2, h3⟩ := hi
  dsimp only at h1 h2 h3
  rcases h with ⟨hk, hs, hz⟩ | ⟨hk, hs, hn⟩ | ⟨hk, hs, hz⟩ | ⟨hk, hz, ha⟩
  · dsimp only at hk hs hz
    subst hk hs
    have := told_end p ⟨#[]⟩ n w
    rw [zrB_iff.2 hz] at this
    exact this
  · dsimp only at hk hs hn
    subst hk hs
    obtain ⟨c, hc⟩ := cls n h3
    have := told_num p ⟨#[]⟩ hc w
    rw [(nm_ours hc).2 hn] at this
    exact this
  · dsimp only at hk hs hz
    subst hk
    have := told_str p s n h2 w
    rw [zrB_iff.2 hz, decide_eq_true hs] at this
    exact this
  · dsimp only at hk hz ha
    have := told_alone k p s n hk h2 w
    rw [zrB_iff.2 hz, aloneB_iff.2 ha] at this
    exact this
theorem told_no (t : Tk) (hi : TkIn t) (h : ¬ TokP t) (w : World) :
    Calls Tryz.prog 51 #[.agg #[.int .u8 (t.kind : Int), .int .i64 t.pos, .string t.text, .float .f64 t.num]] w fun e w' => e = .returned (.bool false) ∧ Below w.heap.size w w' := by
  obtain ⟨k, p, s, n⟩ := t
  obtain ⟨h1, h2, h3⟩ := hi
  dsimp only at h1 h2 h3
  by_cases k0 : k = 0
  · subst k0
    refine (told_end p s n w).mono fun e w' ⟨he, hb⟩ => ⟨?_, hb⟩
    rw [he]; refine ret_bool (Bool.eq_false_iff.2 fun g => h ?_)
    rw [Bool.and_eq_true] at g
    exact Or.inl ⟨rfl, str_ext (List.isEmpty_iff.1 g.1), zrB_iff.1 g.2⟩
  · by_cases k3 : k = 3
    · subst k3
      obtain ⟨c, hc⟩ := cls n h3
      refine (told_num p s hc w).mono fun e w' ⟨he, hb⟩ => ⟨?_, hb⟩
      rw [he]; refine ret_bool (Bool.eq_false_iff.2 fun g => h ?_)
      rw [Bool.and_eq_true] at g
      exact Or.inr (Or.inl ⟨rfl, str_ext (List.isEmpty_iff.1 g.1), (nm_ours hc).1 g.2⟩)
    · by_cases k4 : k = 4
      · subst k4
        refine (told_str p s n h2 w).mono fun e w' ⟨he, hb⟩ => ⟨?_, hb⟩
        rw [he]; refine ret_bool (Bool.eq_false_iff.2 fun g => h ?_)
        rw [Bool.and_eq_true] at g
        exact Or.inr (Or.inr (Or.inl ⟨rfl, of_decide_eq_true g.1, zrB_iff.1 g.2⟩))
      · by_cases kk : k = 1 ∨ k = 2 ∨ k = 5
        · refine (told_alone k p s n kk h2 w).mono fun e w' ⟨he, hb⟩ => ⟨?_, hb⟩
          rw [he]; refine ret_bool (Bool.eq_false_iff.2 fun g => h ?_)
          rw [Bool.and_eq_true] at g
          exact Or.inr (Or.inr (Or.inr ⟨kk, zrB_iff.1 g.1, aloneB_iff.1 g.2⟩))
        · exact told_other k p s n (by omega) w

/-! ### how it is written -/
theorem writ_len {t : Tk} (h : TokP t) : (writL t).length ≤ 20000 := by
  rcases h with ⟨hk, hs, hz⟩ | ⟨hk, hs, m, hm, hn⟩ | ⟨hk, hs, hz⟩ | ⟨hk, hz, tt, n, ha⟩
  · have : writL t = t.text.data.toList := by unfold writL; rw [if_neg (by omega), if_neg (by omega)]
    rw [this, hs]; simp
  · have hsf : SafeN (m : Int) := by unfold SafeN; omega
    have : writL t = Lib.itoa (m : Int) := by unfold writL; rw [if_pos hk, hn, numN_F hsf]
    rw [this]; have := itoa_len m hm; omega
  · have : writL t = quoteL t.text.data.toList := by unfold writL; rw [if_neg (by omega), if_pos hk]
    rw [this]
    unfold quoteL
    have := quoteI_len t.text.data.toList
    rw [← size_len] at this
    simp; omega
  · have : writL t = t.text.data.toList := by unfold writL; rw [if_neg (by omega), if_neg (by omega)]
    rw [this]
    cases hl : t.text.data.toList with
    | nil => simp
    | cons c r =>
      rw [hl] at ha
      rcases kind_of ha with ⟨c1, kk, hna⟩ | ⟨_, _, kk, _⟩ | ⟨_, _, _, kk, _⟩ | ⟨c1, c2, c3, kk, hna⟩
      · have := (nameL_alone hna).2.1; omega
      · omega
      · omega
      · have hsn : signN (c :: r) = (c :: r).length := by
          unfold signL at hna
          split at hna
          · cases hna
          · injection hna
        have := signN_3 (c :: r)
        omega
theorem written_any (t : Tk) (h : TokP t) (w : World) (htab : TabHere w) :
    Calls Tryz.prog 31 #[.agg #[.int .u8 (t.kind : Int), .int .i64 t.pos, .string t.text, .float .f64 t.num]] w fun e w' => e = .returned (.string (mkB (writL t))) ∧ Below w.heap.size w w' := by
  obtain ⟨k, p, s, n⟩ := t
  rcases h with ⟨hk, hs, hz⟩ | ⟨hk, hs, m, hm, hn⟩ | ⟨hk, hs, hz⟩ | ⟨hk, hz, tt, n', ha⟩
  · dsimp only at hk hs hz
    subst hk hs
    have hw : Hid (mkB (writL ⟨0, p, ⟨#[]⟩, n⟩) = ⟨#[]⟩) := Lib.hid rfl
    clear hz htab
    rw [hw.out]
    go_enter Tryz.func31, Tryz.ntmps31
    go_wp2
    go_ret
    exact ⟨rfl, zero_alloc _ _⟩
  · dsimp only at hk hs hn
    subst hk hs
    have hsf : SafeN (m : Int) := by unfold SafeN; omega
    have hw : Hid (writL ⟨3, p, ⟨#[]⟩, n⟩ = Lib.itoa (m : Int)) := Lib.hid (by unfold writL; rw [if_pos rfl, hn, numN_F hsf])
    rw [hw.out]
    have hT := fun w ht => Text_cls (c := .ours (m : Int)) ⟨hn, hsf⟩ w ht
    have HTAB := Lib.hid htab
    clear hn hsf hm htab
    go_enter Tryz.func31, Tryz.ntmps31
    go_wp2_with (go_at_call 53; refine (hT _ (HTAB.out _ (zero_alloc _ _))).mono ?_; rintro e w1 ⟨t1, h1, rfl, b1⟩; have H1 := Lib.hid h1; have B1 := Lib.hid b1; clear h1 b1)
    go_ret
    exact ⟨ret_str (str_ext H1.out), after_alloc B1.out⟩
  · dsimp only at hk hs hz
    subst hk
    have hw : Hid (mkB (writL ⟨4, p, s, n⟩) = ⟨(quoteL s.data.toList).toArray⟩) := Lib.hid rfl
    rw [hw.out]
    have hq := fun w => Quote_any s w (by omega)
    clear hz htab
    go_enter Tryz.func31, Tryz.ntmps31
    go_wp2_with (go_at_call 54; refine (hq _).mono ?_; rintro e w1 ⟨rfl, b1⟩; have B1 := Lib.hid b1; clear b1)
    go_ret
    exact ⟨rfl, after_alloc B1.out⟩
  · dsimp only at hk hz ha
    have hw : Hid (mkB (writL ⟨k, p, s, n⟩) = s) := Lib.hid (by
      have : writL ⟨k, p, s, n⟩ = s.data.toList := by unfold writL; rw [if_neg (by show k ≠ 3; omega), if_neg (by show k ≠ 4; omega)]
      rw [this]; exact mkB_of s)
    rw [hw.out]
    clear hz htab ha
    rcases hk with rfl | rfl | rfl
    all_goals
      go_enter Tryz.func31, Tryz.ntmps31
      go_wp2
      go_ret
      exact ⟨rfl, zero_alloc _ _⟩
end Go.Proofs.YtgjpcoplnpkmoaaGreatDoor.S
