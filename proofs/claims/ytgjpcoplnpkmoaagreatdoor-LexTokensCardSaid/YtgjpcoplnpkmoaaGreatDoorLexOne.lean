/-
  LexOne: a name, a word, a sign is one token: walks.
-/
import Derived.Test.YtgjpcoplnpkmoaaGreatDoorLexAlive
namespace Go.Proofs.YtgjpcoplnpkmoaaGreatDoor.S
/-- is a text a name, or a word? -/
def nameB (l : List UInt8) : Bool := decide (0 < l.length) && decide (l.length ≤ 4096) && (match l with | [] => false | c :: _ => decide (c.toNat < 48) || decide (57 < c.toNat)) && l.all innB

theorem all_run (l : List UInt8) (h : l.all innB = true) : runL innB l = l.length := by
  induction l with
  | nil => rfl
  | cons c r ih =>
    rw [List.all_cons, Bool.and_eq_true] at h
    rw [runL_cons, if_pos h.1, ih h.2]; rfl
theorem toks_one {l : List UInt8} {k n : Nat} {t : ByteArray} (h0 : l ≠ []) (hl : l.length ≤ 65536) (hp : passM 0 0 0 l = (0, true)) (hk : pieceL l = .tok k t n l.length) :
    toks l = .ok [⟨k, 0, t, n⟩, ⟨0, (l.length : Int), ⟨#[]⟩, 0⟩] := by
  have h1 : 0 < l.length := List.length_pos_iff.2 h0
  unfold toks
  rw [if_neg (by omega)]
  have e : l = l.drop 0 := rfl
  have hs := toks_step (L := l) (f := l.length) (i := 0) (p := 0) (acc := []) (Nat.le_refl _) hp h1 hk (by decide)
  rw [List.drop_zero] at hs
  rw [hs]
  obtain ⟨f, hf⟩ : ∃ f, l.length = f + 1 := ⟨l.length - 1, by omega⟩
  rw [Nat.zero_add, hf, ← hf]
  have hd : l.drop l.length = [] := List.drop_eq_nil_of_le (Nat.le_refl _)
  have he := toks_end (L := l) (f := f) (i := l.length) (p := l.length) (acc := [] ++ [⟨k, ((0 : Nat) : Int), t, n⟩]) (Nat.le_refl _) (by rw [hd, passM_nil, if_pos (by omega)]) (Nat.le_refl _)
  rw [← hf] at he
  rw [he]; rfl
theorem name_ini {c : UInt8} (h : innB c = true) (hd : (decide (c.toNat < 48) || decide (57 < c.toNat)) = true) : iniB c = true := by
  unfold innB at h
  rw [Bool.or_eq_true] at h
  rcases h with h | h
  · exact h
  · unfold isDig at h
    simp at h hd; omega
theorem ini_pass {c : UInt8} (r : List UInt8) (h : iniB c = true) : passM 0 0 0 (c :: r) = (0, true) := by
  have hb : ¬ blankB c = true := by rw [blankB_eq]; unfold iniB at h; simp at h ⊢; omega
  have h47 : ¬ c = 47 := fun e => by subst e; revert h; decide
  rw [passM_0, if_neg hb, if_neg (fun g => h47 g.1), if_neg (fun g => h47 g.1)]
theorem name_toks (s : ByteArray) (h : nameB s.data.toList = true) : toks s.data.toList = .ok [⟨if wordB s.data.toList then 2 else 1, 0, s, 0⟩, ⟨0, (s.data.toList.length : Int), ⟨#[]⟩, 0⟩] := by
  unfold nameB at h
  simp only [Bool.and_eq_true] at h
  obtain ⟨⟨⟨h1, h2⟩, h3⟩, h4⟩ := h
  have h1 := of_decide_eq_true h1
  have h2 := of_decide_eq_true h2
  refine toks_one (fun e => by rw [e] at h1; simp at h1) (by omega) ?_ ?_
  · cases hl : s.data.toList with
    | nil => rw [hl] at h1; simp at h1
    | cons c r =>
      rw [hl] at h3 h4
      rw [List.all_cons, Bool.and_eq_true] at h4
      exact ini_pass r (name_ini h4.1 h3)
  · have hp : pieceL s.data.toList = nameL s.data.toList := by
      cases hl : s.data.toList with
      | nil => rw [hl] at h1; simp at h1
      | cons c r =>
        rw [hl] at h3 h4
        rw [List.all_cons, Bool.and_eq_true] at h4
        rw [pieceL_cons, if_pos (name_ini h4.1 h3)]
    rw [hp]
    unfold nameL
    rw [all_run _ h4, if_neg (by omega), List.take_of_length_le (Nat.le_refl _), mkB_of]
theorem name_no_sign (l : List UInt8) (h : nameB l = true) : signB l = false := by
  cases hs : signB l with
  | false => rfl
  | true =>
    have hm : l ∈ signsL := by unfold signB at hs; simpa using hs
    have : ∀ x ∈ signsL, nameB x = false := by decide
    rw [this l hm] at h; cases h
theorem no_name_word (l : List UInt8) (h : nameB l = false) : wordB l = false := by
  cases hs : wordB l with
  | false => rfl
  | true =>
    have hm : l ∈ wordsL := by unfold wordB at hs; simpa using hs
    have : ∀ x ∈ wordsL, nameB x = true := by decide
    rw [this l hm] at h; cases h
set_option maxRecDepth 100000 in
theorem sign_toks' : ∀ x ∈ signsL, toks x = .ok [⟨5, 0, mkB x, 0⟩, ⟨0, (x.length : Int), ⟨#[]⟩, 0⟩] := by
  have hp : ∀ x ∈ signsL, passM 0 0 0 x = (0, true) ∧ x ≠ [] ∧ x.length ≤ 65536 ∧ (∀ c ∈ x.head?, iniB c = false ∧ isDig c = false ∧ c ≠ 34 ∧ c ≠ 39) := by decide
  intro x hx
  obtain ⟨h1, h2, h3, h4⟩ := hp x hx
  have hb : signB x = true := by unfold signB; simpa using hx
  refine toks_one h2 h3 h1 ?_
  cases x with
  | nil => exact absurd rfl h2
  | cons c r =>
    obtain ⟨i1, i2, i3, i4⟩ := h4 c rfl
    rw [pieceL_cons, if_neg (by rw [i1]; decide), if_neg (by rw [i2]; decide), if_neg (by rintro (h | h); exact i3 h; exact i4 h)]
    unfold signL
    have hn := ((signB_iff _).1 hb).2
    rw [hn, if_neg (by simp), List.take_of_length_le (Nat.le_refl _)]
theorem sign_toks (s : ByteArray) (h : signB s.data.toList = true) : toks s.data.toList = .ok [⟨5, 0, s, 0⟩, ⟨0, (s.data.toList.length : Int), ⟨#[]⟩, 0⟩] := by
  have := sign_toks' s.data.toList (by unfold signB at h; simpa using h)
  rw [mkB_of] at this
  exact this
end Go.Proofs.YtgjpcoplnpkmoaaGreatDoor.S
