/-
  Which tokens may be: in the document's own words, and its walk.
-/
import Derived.Test.YtgjpcoplnpkmoaaGreatDoorLexText3
import Derived.Test.YtgjpcoplnpkmoaaGreatDoorLexAmong
namespace Go.Proofs.YtgjpcoplnpkmoaaGreatDoor.S
open Go.RowKit Fl

def NameP (k : Nat) (l : List UInt8) : Prop := l.length ≤ 4096 ∧ (∃ c r, l = c :: r ∧ iniB c = true) ∧ runL innB l = l.length ∧ wordB l = decide (k = 2)
theorem alone_name {k : Nat} (hk : k = 1 ∨ k = 2) (l : List UInt8) : aloneP k l ↔ NameP k l := by
  constructor
  · rintro ⟨t, n, h⟩
    cases l with
    | nil => cases h
    | cons c r =>
      rcases kind_of h with ⟨c1, kk, hn⟩ | ⟨_, _, kk, _⟩ | ⟨_, _, _, kk, _⟩ | ⟨_, _, _, kk, _⟩
      · obtain ⟨a1, a2, a3, _, _⟩ := nameL_alone hn
        refine ⟨a2, ⟨c, r, rfl, c1⟩, all_run _ a1, ?_⟩
        rw [a3]
        cases wordB (c :: r) <;> rfl
      · omega
      · omega
      · omega
  · rintro ⟨h1, ⟨c, r, rfl, hc⟩, h3, h4⟩
    refine ⟨mkB (c :: r), 0, ?_⟩
    rw [pieceL_cons, if_pos hc]
    unfold nameL
    rw [h3, if_neg (by omega), List.take_of_length_le (Nat.le_refl _), h4]
    rcases hk with rfl | rfl <;> rfl
theorem alone_sgn (l : List UInt8) : aloneP 5 l ↔ signB l = true := by
  constructor
  · rintro ⟨t, n, h⟩
    cases l with
    | nil => cases h
    | cons c r =>
      rcases kind_of h with ⟨_, kk, _⟩ | ⟨_, _, kk, _⟩ | ⟨_, _, _, kk, _⟩ | ⟨_, _, _, _, hn⟩
      · omega
      · omega
      · omega
      · have hsn : signN (c :: r) = (c :: r).length := by
          unfold signL at hn
          split at hn
          · cases hn
          · injection hn
        have hsb := (sg_1 _ _ (by simp) hsn).2
        rw [List.take_of_length_le (Nat.le_refl _)] at hsb
        exact hsb
  · intro h
    exact ⟨_, _, alone_sign (sign_mem.1 h)⟩
/-- may a token that is not the end be? -/
def OneP (t : Tk) : Prop := TokP t ∧ t.kind ≠ 0
theorem may_iff (l : List Tk) : MayP l ↔ ∃ b e, l = b ++ [e] ∧ (∀ t ∈ b, OneP t) ∧ e.kind = 0 ∧ e.text = ⟨#[]⟩ ∧ zeroP e.num := by
  constructor
  · rintro ⟨h0, h1⟩
    obtain ⟨b, e, rfl⟩ : ∃ b e, l = b ++ [e] := ⟨l.dropLast, l.getLast h0, (List.dropLast_concat_getLast h0).symm⟩
    refine ⟨b, e, rfl, ?_, ?_⟩
    · intro t ht
      obtain ⟨i, hi⟩ := List.getElem?_of_mem ht
      have hlt : i < b.length := (List.getElem?_eq_some_iff.1 hi).1
      obtain ⟨p, q⟩ := h1 i t (by rw [List.getElem?_append_left hlt]; exact hi)
      exact ⟨p, fun e => by have := q.1 e; rw [List.length_append, List.length_singleton] at this; omega⟩
    · obtain ⟨p, q⟩ := h1 b.length e (by rw [List.getElem?_append_right (Nat.le_refl _)]; simp)
      have hk : e.kind = 0 := q.2 (by simp)
      refine ⟨hk, ?_⟩
      rcases p with ⟨_, a, b⟩ | ⟨k, _⟩ | ⟨k, _⟩ | ⟨k, _⟩
      · exact ⟨a, b⟩
      all_goals omega
  · rintro ⟨b, e, rfl, h1, h2, h3, h4⟩
    refine ⟨by simp, fun i t hi => ?_⟩
    by_cases c : i < b.length
    · rw [List.getElem?_append_left c] at hi
      have := h1 t (List.mem_of_getElem? hi)
      exact ⟨this.1, fun e => absurd e this.2, fun e => by simp at e; omega⟩
    · by_cases d : i = b.length
      · subst d
        rw [List.getElem?_append_right (Nat.le_refl _), Nat.sub_self] at hi
        cases hi
        exact ⟨Or.inl ⟨h2, h3, h4⟩, fun _ => by simp, fun _ => h2⟩
      · rw [List.getElem?_append_right (by omega), List.getElem?_eq_none (by simp; omega)] at hi
        cases hi

theorem calls_flip {f : FuncId} {args : Array Value} {w : World} {v : Value} (h : Calls Tryz.prog f args w fun e w' => e = .returned v ∧ w = w') : Calls Tryz.prog f args w fun e w' => e = .returned v ∧ w' = w := h.mono fun _ _ ⟨a, b⟩ => ⟨a, b.symm⟩
theorem one_other (k : Nat) (p : Int) (s : ByteArray) (n : Nat) (h : k ≠ 1 ∧ k ≠ 2 ∧ k ≠ 3 ∧ k ≠ 4 ∧ k ≠ 5) (w : World) :
    Calls Tryz.prog 55 #[.agg #[.int .u8 (k : Int), .int .i64 p, .string s, .float .f64 n]] w fun e w' => e = .returned (.bool false) ∧ Below w.heap.size w w' := by
  have h1 : ((k : Int) == 1) = false := by rw [beq_eq_false_iff_ne]; omega
  have h2 : ((k : Int) == 2) = false := by rw [beq_eq_false_iff_ne]; omega
  have h3 : ((k : Int) == 3) = false := by rw [beq_eq_false_iff_ne]; omega
  have h4 : ((k : Int) == 4) = false := by rw [beq_eq_false_iff_ne]; omega
  have h5 : ((k : Int) == 5) = false := by rw [beq_eq_false_iff_ne]; omega
  clear h
  go_enter Tryz.func55, Tryz.ntmps55
  go_wp2
  go_ret
  exact ⟨rfl, zero_alloc _ _⟩
theorem one_str (p : Int) (s : ByteArray) (n : Nat) (hs : s.size ≤ 9223372036854775807) (w : World) :
    Calls Tryz.prog 55 #[.agg #[.int .u8 4, .int .i64 p, .string s, .float .f64 n]] w fun e w' => e = .returned (.bool (decide (s.size ≤ 4096) && zrB n)) ∧ Below w.heap.size w w' := by
  have hz : (FloatKind.f64.format.order n 0 == some .eq) = zrB n := rfl
  cases hc : zrB n
  all_goals
    rw [hc] at hz
    clear hc
    by_cases h : s.size ≤ 4096
    · rw [decide_eq_true h]
      go_enter Tryz.func55, Tryz.ntmps55
      go_wp2
      go_ret
      exact ⟨ret_bool (by first | rfl | (rw [decide_eq_true (by omega)]; rfl) | (rw [decide_eq_false (by omega)]; rfl)), zero_alloc _ _⟩
    · rw [decide_eq_false h]
      have h' : ¬ (s.size : Int) ≤ 4096 := by omega
      go_enter Tryz.func55, Tryz.ntmps55
      go_wp2
      go_ret
      exact ⟨ret_bool (by first | rfl | (rw [decide_eq_true (by omega)]; rfl) | (rw [decide_eq_false (by omega)]; rfl)), zero_alloc _ _⟩
theorem one_sgn (p : Int) (s : ByteArray) (n : Nat) (w : World) :
    Calls Tryz.prog 55 #[.agg #[.int .u8 5, .int .i64 p, .string s, .float .f64 n]] w fun e w' => e = .returned (.bool (zrB n && signB s.data.toList)) ∧ Below w.heap.size w w' := by
  have ks := fun w => refSign_any s w
  generalize signB s.data.toList = b at *
  have hz : (FloatKind.f64.format.order n 0 == some .eq) = zrB n := rfl
  cases hc : zrB n
  all_goals
    rw [hc] at hz
    clear hc
    go_enter Tryz.func55, Tryz.ntmps55
    go_wp2_with (go_at_call 84; refine (ks _).mono ?_; rintro e w1 ⟨rfl, rfl⟩)
    go_ret
    exact ⟨ret_bool (by simp), zero_alloc _ _⟩
theorem one_num (p : Int) (s : ByteArray) {c : Cl} {n : Nat} (h : Is c n) (w : World) :
    Calls Tryz.prog 55 #[.agg #[.int .u8 3, .int .i64 p, .string s, .float .f64 n]] w fun e w' => e = .returned (.bool (s.data.toList.isEmpty && nmB c)) ∧ Below w.heap.size w w' := by
  have km := fun w => refMay_cls h w
  rcases emp_or s with rfl | ⟨_, h1, h2⟩
  · have hself : FloatKind.f64.format.order n n = selfO c := self_cls h
    cases c with
    | nan =>
      have hself : FloatKind.f64.format.order n n = none := hself
      clear h
      go_enter Tryz.func55, Tryz.ntmps55
      go_wp2_with (go_at_call 83; refine (km _).mono ?_; rintro e w1 ⟨rfl, rfl⟩)
      go_ret
      exact ⟨rfl, zero_alloc _ _⟩
    | other =>
      have hself : FloatKind.f64.format.order n n = some .eq := hself
      have km : ∀ w, Calls Tryz.prog 83 #[.float .f64 n] w (fun e w' => e = .returned (.bool false) ∧ w = w') := km
      clear h
      obtain ⟨o, ho⟩ : ∃ o, FloatKind.f64.format.order n 0 = o := ⟨_, rfl⟩
      have hoc : o = none ∨ o = some .lt ∨ o = some .eq ∨ o = some .gt := by
        cases o with
        | none => exact Or.inl rfl
        | some x => cases x <;> simp
      rcases hoc with rfl | rfl | rfl | rfl
      all_goals
        go_enter Tryz.func55, Tryz.ntmps55
        go_wp2_with (go_at_call 83; refine (km _).mono ?_; rintro e w1 ⟨rfl, rfl⟩)
        go_ret
        exact ⟨rfl, zero_alloc _ _⟩
    | ours m =>
      have hself : FloatKind.f64.format.order n n = some .eq := hself
      have km : ∀ w, Calls Tryz.prog 83 #[.float .f64 n] w (fun e w' => e = .returned (.bool true) ∧ w = w') := km
      obtain ⟨hn, hs⟩ := h
      have ho := order_F m 0 hs.abs (by decide)
      rw [← hn, F_zero] at ho
      have ho : FloatKind.f64.format.order n 0 = some (compare m 0) := ho
      clear hn hs
      have hcmp : (compare m 0 = .gt ∧ nmB (.ours m) = true) ∨ (compare m 0 = .eq ∧ nmB (.ours m) = true) ∨ (compare m 0 = .lt ∧ nmB (.ours m) = false) := by
        show ((if m < 0 then Ordering.lt else if m = 0 then .eq else .gt) = .gt ∧ decide (0 ≤ m) = true) ∨ ((if m < 0 then Ordering.lt else if m = 0 then .eq else .gt) = .eq ∧ decide (0 ≤ m) = true) ∨ ((if m < 0 then Ordering.lt else if m = 0 then .eq else .gt) = .lt ∧ decide (0 ≤ m) = false)
        by_cases h1 : m < 0
        · rw [if_pos h1]; exact Or.inr (Or.inr ⟨rfl, decide_eq_false (by omega)⟩)
        · rw [if_neg h1]
          by_cases h0 : m = 0
          · rw [if_pos h0]; exact Or.inr (Or.inl ⟨rfl, decide_eq_true (by omega)⟩)
          · rw [if_neg h0]; exact Or.inl ⟨rfl, decide_eq_true (by omega)⟩
      rcases hcmp with ⟨hh, hb⟩ | ⟨hh, hb⟩ | ⟨hh, hb⟩
      all_goals
        rw [hh] at ho
        rw [hb]
        clear hh hb
        go_enter Tryz.func55, Tryz.ntmps55
        go_wp2_with (go_at_call 83; refine (km _).mono ?_; rintro e w1 ⟨rfl, rfl⟩)
        go_ret
        exact ⟨rfl, zero_alloc _ _⟩
  · have hb : s.data.toList.isEmpty = false := by rw [← toList_data]; exact h1
    rw [hb]
    clear km h
    go_enter Tryz.func55, Tryz.ntmps55
    go_wp2
    go_ret
    exact ⟨rfl, zero_alloc _ _⟩
set_option maxHeartbeats 4000000 in
set_option maxRecDepth 1000000 in
theorem one_nm (k : Nat) (hk : k = 1 ∨ k = 2) (p : Int) (s : ByteArray) (n : Nat) (hs : s.size ≤ 9223372036854775807) (b : Bool) (hb : b = true ↔ (zrB n = true ∧ NameP k s.data.toList)) (w : World) :
    Calls Tryz.prog 55 #[.agg #[.int .u8 (k : Int), .int .i64 p, .string s, .float .f64 n]] w fun e w' => e = .returned (.bool b) ∧ Below w.heap.size w w' := by
  have hz : (FloatKind.f64.format.order n 0 == some .eq) = zrB n := rfl
  have HB := Lib.hid hb
  clear hb
  have no : (¬ (zrB n = true ∧ NameP k s.data.toList)) → b = false := fun h => by
    cases b with
    | false => rfl
    | true => exact absurd (HB.out.1 rfl) h
  cases hc : zrB n with
  | false =>
    rw [hc] at hz no
    have hf := no (fun h => by simp at h)
    subst hf
    clear no HB hc
    rcases hk with rfl | rfl
    all_goals
      go_enter Tryz.func55, Tryz.ntmps55
      go_wp2_with (fail)
      go_quiet (fail)
      go_wp2
      go_ret
      exact ⟨rfl, below_draw2 (zero_alloc _ _) _⟩
  | true =>
    rw [hc] at hz no
    rcases emp_or s with rfl | ⟨_, h1, h2⟩
    · have hf := no (fun ⟨_, _, ⟨c, r, h, _⟩, _⟩ => by cases h)
      subst hf
      clear no HB hc
      rcases hk with rfl | rfl
      all_goals
        go_enter Tryz.func55, Tryz.ntmps55
        go_wp2_with (fail)
        go_quiet (fail)
        go_wp2
        go_ret
        exact ⟨rfl, below_draw2 (zero_alloc _ _) _⟩
    · have h0 : 0 < s.size := by
        rcases Nat.eq_zero_or_pos s.size with e | e
        · exfalso
          have : s.data.toList = [] := List.length_eq_zero_iff.1 (by rw [← size_len]; exact e)
          rw [this] at h2; simp at h2
        · exact e
      have hL : s.data.toList = s[0] :: s.data.toList.drop 1 := by have := drop_get s 0 h0; rwa [List.drop_zero] at this
      have h0' : (0 : Int) < (s.size : Int) := by omega
      by_cases hl : s.size ≤ 4096
      · have hl' : (s.size : Int) ≤ 4096 := by omega
        have kf := fun w => reffirst_any s[0] w
        by_cases hi : iniB s[0] = true
        · rw [hi] at kf
          have kn := fun w => named_any s 0 w (by omega) (Nat.zero_le _)
          rw [List.drop_zero, Nat.zero_add] at kn
          have kn : ∀ w, Calls Tryz.prog 86 #[.string s, .int .i64 0] w (fun e w' => e = .returned (.int .i64 ((runL innB s.data.toList : Nat) : Int)) ∧ w = w') := kn
          have kw := fun w => refWord_any s w
          by_cases hr : runL innB s.data.toList = s.size
          · have hbv : b = (wordB s.data.toList == decide (k = 2)) := by
              have hh := HB.out
              rw [hc] at hh
              rw [Bool.eq_iff_iff, hh]
              constructor
              · rintro ⟨_, _, _, _, h4⟩; rw [h4]; simp
              · intro h4
                refine ⟨rfl, by rw [← size_len]; exact hl, ⟨_, _, hL, hi⟩, by rw [hr, size_len], by simpa using h4⟩
            have hrr : (((runL innB s.data.toList : Nat) : Int) == (s.size : Int)) = true := by rw [hr]; simp
            have HBV := Lib.hid hbv
            clear no HB hc hL hi hr hbv
            generalize runL innB s.data.toList = R at *
            generalize wordB s.data.toList = W at *
            rcases hk with rfl | rfl
            all_goals
              go_enter Tryz.func55, Tryz.ntmps55
              go_wp2_with (fail)
              go_quiet ((first | (go_at_call 85; exact Calls.quiet_of_same (calls_flip (kf _))) | (go_at_call 86; exact Calls.quiet_of_same (calls_flip (kn _))) | (go_at_call 87; exact Calls.quiet_of_same (calls_flip (kw _)))))
              go_wp2
              go_ret
              exact ⟨ret_bool (by rw [HBV.out]; simp), below_draw2 (zero_alloc _ _) _⟩
          · have hf := no (fun ⟨_, _, _, h3, _⟩ => hr (by rw [h3, size_len]))
            subst hf
            have hrr : (((runL innB s.data.toList : Nat) : Int) == (s.size : Int)) = false := by rw [beq_eq_false_iff_ne]; omega
            clear no HB hc hL hi hr kw
            generalize runL innB s.data.toList = R at *
            rcases hk with rfl | rfl
            all_goals
              go_enter Tryz.func55, Tryz.ntmps55
              go_wp2_with (fail)
              go_quiet ((first | (go_at_call 85; exact Calls.quiet_of_same (calls_flip (kf _))) | (go_at_call 86; exact Calls.quiet_of_same (calls_flip (kn _)))))
              go_wp2
              go_ret
              exact ⟨rfl, below_draw2 (zero_alloc _ _) _⟩
        · have hif : iniB s[0] = false := by simpa using hi
          rw [hif] at kf
          have hf := no (fun ⟨_, _, ⟨c, r, h3, h4⟩, _⟩ => by
            rw [hL] at h3
            injection h3 with h5 h6
            rw [h5, h4] at hif
            cases hif)
          subst hf
          clear no HB hc hL hi hif
          rcases hk with rfl | rfl
          all_goals
            go_enter Tryz.func55, Tryz.ntmps55
            go_wp2_with (fail)
            go_quiet ((go_at_call 85; exact Calls.quiet_of_same (calls_flip (kf _))))
            go_wp2
            go_ret
            exact ⟨rfl, below_draw2 (zero_alloc _ _) _⟩
      · have hf := no (fun ⟨_, h3, _⟩ => by rw [← size_len] at h3; exact hl h3)
        subst hf
        have hl' : ¬ (s.size : Int) ≤ 4096 := by omega
        have hd1 : decide ((s.size : Int) ≤ 4096) = false := decide_eq_false (by omega)
        have hd2 : decide (s.size ≤ 4096) = false := decide_eq_false (by omega)
        clear no HB hc hL
        rcases hk with rfl | rfl
        all_goals
          go_enter Tryz.func55, Tryz.ntmps55
          go_wp2_with (fail)
          go_quiet (fail)
          go_wp2
          go_ret
          exact ⟨rfl, below_draw2 (zero_alloc _ _) _⟩

/-- one, both ways -/
theorem one_any (t : Tk) (hi : TkIn t) (b : Bool) (hb : b = true ↔ OneP t) (w : World) :
    Calls Tryz.prog 55 #[.agg #[.int .u8 (t.kind : Int), .int .i64 t.pos, .string t.text, .float .f64 t.num]] w fun e w' => e = .returned (.bool b) ∧ Below w.heap.size w w' := by
  obtain ⟨k, p, s, n⟩ := t
  obtain ⟨h1, h2, h3⟩ := hi
  dsimp only at h1 h2 h3
  unfold OneP TokP at hb
  dsimp only at hb
  by_cases k3 : k = 3
  · subst k3
    obtain ⟨c, hc⟩ := cls n h3
    have e : b = (s.data.toList.isEmpty && nmB c) := by
      rw [Bool.eq_iff_iff, hb, Bool.and_eq_true, nm_ours hc, List.isEmpty_iff]
      constructor
      · rintro ⟨⟨q, _⟩ | ⟨_, q1, q2⟩ | ⟨q, _⟩ | ⟨q, _⟩, _⟩
        · omega
        · exact ⟨by rw [q1], q2⟩
        · omega
        · omega
      · rintro ⟨q1, q2⟩; exact ⟨Or.inr (Or.inl ⟨rfl, str_ext q1, q2⟩), by decide⟩
    rw [e]; exact one_num p s hc w
  · by_cases k4 : k = 4
    · subst k4
      have e : b = (decide (s.size ≤ 4096) && zrB n) := by
        rw [Bool.eq_iff_iff, hb, Bool.and_eq_true, zrB_iff, decide_eq_true_eq]
        constructor
        · rintro ⟨⟨q, _⟩ | ⟨q, _⟩ | ⟨_, q1, q2⟩ | ⟨q, _⟩, _⟩
          · omega
          · omega
          · exact ⟨q1, q2⟩
          · omega
        · rintro ⟨q1, q2⟩; exact ⟨Or.inr (Or.inr (Or.inl ⟨rfl, q1, q2⟩)), by decide⟩
      rw [e]; exact one_str p s n h2 w
    · by_cases k5 : k = 5
      · subst k5
        have e : b = (zrB n && signB s.data.toList) := by
          rw [Bool.eq_iff_iff, hb, Bool.and_eq_true, zrB_iff, ← alone_sgn]
          constructor
          · rintro ⟨⟨q, _⟩ | ⟨q, _⟩ | ⟨q, _⟩ | ⟨_, q1, q2⟩, _⟩
            · omega
            · omega
            · omega
            · exact ⟨q1, q2⟩
          · rintro ⟨q1, q2⟩; exact ⟨Or.inr (Or.inr (Or.inr ⟨Or.inr (Or.inr rfl), q1, q2⟩)), by decide⟩
        rw [e]; exact one_sgn p s n w
      · by_cases kn : k = 1 ∨ k = 2
        · refine one_nm k kn p s n h2 b ?_ w
          rw [hb, zrB_iff, ← alone_name kn]
          constructor
          · rintro ⟨⟨q, _⟩ | ⟨q, _⟩ | ⟨q, _⟩ | ⟨_, q1, q2⟩, _⟩
            · omega
            · omega
            · omega
            · exact ⟨q1, q2⟩
          · rintro ⟨q1, q2⟩; exact ⟨Or.inr (Or.inr (Or.inr ⟨by omega, q1, q2⟩)), by omega⟩
        · have hf : b = false := by
            cases b with
            | false => rfl
            | true =>
              exfalso
              rcases hb.1 rfl with ⟨⟨q, _⟩ | ⟨q, _⟩ | ⟨q, _⟩ | ⟨q, _⟩, h0⟩ <;> omega
          rw [hf]; exact one_other k p s n (by omega) w
end Go.Proofs.YtgjpcoplnpkmoaaGreatDoor.S
