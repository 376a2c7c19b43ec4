/-
  LexBack: tokens written are read back, and stand at their places: facts, and the walk of same.
-/
import Derived.Test.YtgjpcoplnpkmoaaDoorLexText3
namespace Go.Proofs.YtgjpcoplnpkmoaaDoor.S
open Go.RowKit Fl

set_option maxHeartbeats 2000000 in
theorem same_yes (l m : List Tk) (A1 A2 : Option Addr) (c1 c2 : Nat) (w : World) (h1 : RdA w A1 l) (h2 : RdA w A2 m) (hs : SameL l m) (hl : l.length ≤ 70000) :
    Calls Tryd.prog 13 #[.slice A1 l.length c1, .slice A2 m.length c2] w fun e w' => e = .returned (.bool true) ∧ Below w.heap.size w w' := by
  obtain ⟨hsl, hst⟩ := hs
  have hsl' := hsl.symm
  have H2' : Hid (RdA w A2 m) := Lib.hid h2
  clear h2
  rw [hsl'] 
  have HST := Lib.hid hst
  have H1 := Lib.hid h1
  clear hst h1 
  have HSL := Lib.hid hsl
  clear hsl hsl'
  go_enter Tryd.func13, Tryd.ntmps13
  go_wp2_with (fail)
  go_loopw [5] (fun i wr => ∃ k : Nat, k ≤ l.length ∧ i = .int .i64 k ∧ Hid (Below w.heap.size w wr)) (fun i _ => l.length - (intOf i).toNat)
  case atStart => exact ⟨0, Nat.zero_le _, rfl, Lib.hid (Below.refl _ _)⟩
  case round =>
    obtain ⟨k, hk, rfl, H⟩ := hrel
    by_cases hlt : k < l.length
    · have hlt2 : k < m.length := by rw [← HSL.out]; exact hlt
      obtain ⟨a, rfl, hab, a0, a1, a2, a3⟩ := rda_cells (rda_up H1.out H.out) k hlt
      obtain ⟨b, rfl, hbb, b0, b1, b2, b3⟩ := rda_cells (rda_up H2'.out H.out) k hlt2
      obtain ⟨s1, s2, s3⟩ := HST.out k l[k] m[k] (List.getElem?_eq_getElem hlt) (List.getElem?_eq_getElem hlt2)
      generalize l[k] = x at *
      generalize m[k] = y at *
      rw [s1] at a0
      rw [s2] at a2
      have hf1 : (FloatKind.f64.format.order x.num y.num == some .eq) = true := by rw [s3]; rfl
      have hf2 : (FloatKind.f64.format.order x.num y.num != some .eq) = false := by rw [s3]; rfl
      have hki : (0 : Int) ≤ (k : Int) := by omega
      have hkl : (k : Int) < (l.length : Int) := by omega
      clear s1 s2 s3 hlt2
      go_wp2_with (fail)
      go_quiet (fail)
      go_wp2
      go_roundw
      case rel => exact ⟨k + 1, by omega, by go_num, Lib.hid (below_draw2 H.out _)⟩
      case measure => simp [intOf]; omega
    · go_wp2
      go_ret
      exact ⟨rfl, H.out⟩

theorem tok_text {t : Tk} (h : TokP t) : t.text.size ≤ 20000 := by
  have hw := writ_len h
  rcases h with ⟨hk, hs, hz⟩ | ⟨hk, hs, m, hm, hn⟩ | ⟨hk, hs, hz⟩ | ⟨hk, hz, tt, n, ha⟩
  · rw [hs]; decide
  · rw [hs]; decide
  · omega
  · have : writL t = t.text.data.toList := by unfold writL; rw [if_neg (by omega), if_neg (by omega)]
    rw [this, ← size_len] at hw
    exact hw
theorem good_in {t : Tk} (h : TokP t) (hx : t.num < 2 ^ 64) : TkIn t := by
  refine ⟨?_, by have := tok_text h; omega, hx⟩
  rcases h with ⟨hk, _⟩ | ⟨hk, _⟩ | ⟨hk, _⟩ | ⟨hk, _⟩ <;> omega
theorem told_in {L : List UInt8} {r : List Tk} (h : toks L = .ok r) : (∀ t ∈ r, TkIn t) ∧ MayP r ∧ r.length ≤ 16385 := by
  obtain ⟨b, rfl, hb, hl, _⟩ := toks_told h
  refine ⟨fun t ht => ?_, told_may fun t ht => (hb.1 t ht).1, by simp; omega⟩
  rw [List.mem_append, List.mem_singleton] at ht
  rcases ht with ht | rfl
  · have := (hb.1 t ht).1
    exact good_in this.1 this.2.2
  · exact ⟨by show (0 : Nat) < 256; decide, by show (⟨#[]⟩ : ByteArray).size ≤ _; decide, by show (0 : Nat) < 2 ^ 64; decide⟩
/-- a text's tokens, one by one -/
theorem told_at {s : ByteArray} {r : List Tk} (h : toks s.data.toList = .ok r) (k : Nat) (hk : k < r.length) :
    ∃ p : Nat, r[k].pos = (p : Int) ∧ p ≤ s.size ∧ (∀ (j : Nat) (hj : j < r.length), j + 1 = k → r[j].pos < (p : Int)) ∧ (r[k].kind = 0 ↔ k + 1 = r.length) ∧ ((r[k].kind = 1 ∨ r[k].kind = 2 ∨ r[k].kind = 5) → p + r[k].text.size ≤ s.size ∧ s.extract p (p + r[k].text.size) = r[k].text) := by
  have hm := may_at (told_in h).2.1 k hk
  obtain ⟨b, rfl, hb, hl, _⟩ := toks_told h
  rw [List.length_append, List.length_singleton] at hk
  by_cases c : k < b.length
  · have e : (b ++ [(⟨0, (s.data.toList.length : Int), ⟨#[]⟩, 0⟩ : Tk)])[k] = b[k] := List.getElem_append_left c
    rw [e] at hm ⊢
    obtain ⟨_, ⟨p, hp, hlt, hat⟩, _⟩ := hb.1 b[k] (List.getElem_mem c)
    rw [← size_len] at hlt hat
    refine ⟨p, hp, by omega, fun j hj hjk => ?_, hm.2, fun hh => ?_⟩
    · have hjb : j < b.length := by omega
      have e2 : (b ++ [(⟨0, (s.data.toList.length : Int), ⟨#[]⟩, 0⟩ : Tk)])[j] = b[j] := List.getElem_append_left hjb
      rw [e2, ← hp]
      exact List.pairwise_iff_getElem.1 hb.2 j k hjb c (by omega)
    · obtain ⟨q1, q2⟩ := hat hh
      refine ⟨q1, ?_⟩
      rw [mkB_ext, show p + b[k].text.size - p = b[k].text.size by omega, q2, mkB_of]
  · have hkb : k = b.length := by omega
    subst hkb
    have e : (b ++ [(⟨0, (s.data.toList.length : Int), ⟨#[]⟩, 0⟩ : Tk)])[b.length] = ⟨0, (s.data.toList.length : Int), ⟨#[]⟩, 0⟩ := by simp
    rw [e] at hm ⊢
    refine ⟨s.size, by rw [size_len], Nat.le_refl _, fun j hj hjk => ?_, hm.2, fun hh => by simp at hh⟩
    have hjb : j < b.length := by omega
    have e2 : (b ++ [(⟨0, (s.data.toList.length : Int), ⟨#[]⟩, 0⟩ : Tk)])[j] = b[j] := List.getElem_append_left hjb
    rw [e2, size_len]
    exact (hb.1 b[j] (List.getElem_mem hjb)).2.2
theorem toks_place {L : List UInt8} {a k : Int} (h : toks L = .err a k) : 0 ≤ a ∧ a ≤ L.length := by
  unfold toks at h
  split at h
  · cases h; constructor <;> omega
  · exact toksF_place L _ 0 [] a k (Nat.zero_le _) h
theorem toksF_err (L : List UInt8) : ∀ (f i : Nat) (acc : List Tk) (a k : Int), i ≤ L.length → L.length < i + f → toksF f i (L.drop i) acc = .err a k → k = 4 ∨ k = 5
  | 0, i, _, _, _, hi, hf, _ => by omega
  | f + 1, i, acc, a, k, hi, hf, h => by
    have hge := passM_ge (L.drop i) 0 i i
    have hle := (passM_le (L.drop i) 0 i i (Nat.le_refl _)).2
    rw [List.length_drop] at hle
    obtain ⟨⟨p, y⟩, hp⟩ : ∃ x, passM 0 i i (L.drop i) = x := ⟨_, rfl⟩
    rw [hp] at hge hle
    dsimp only at hge hle
    cases y with
    | false => rw [toks_stop hp] at h; cases h; exact Or.inr rfl
    | true =>
      have hip := hge rfl
      by_cases he : L.length ≤ p
      · rw [toks_end hip hp he] at h; cases h
      · cases hk : pieceL (L.drop p) with
        | bad j => rw [toks_bad hip hp (by omega) hk] at h; cases h; exact Or.inr rfl
        | tok kd t n wd =>
          by_cases hm : acc.length = 16384
          · rw [toks_many hip hp (by omega) hk hm] at h; cases h; exact Or.inl rfl
          · rw [toks_step hip hp (by omega) hk hm] at h
            obtain ⟨hw1, hw2⟩ := pieceL_wide hk
            rw [List.length_drop] at hw2
            exact toksF_err L f (p + wd) _ a k (by omega) (by omega) h
theorem toks_err {L : List UInt8} {a k : Int} (h : toks L = .err a k) : ¬ k = 0 := by
  unfold toks at h
  split at h
  · cases h; decide
  · have := toksF_err L _ 0 [] a k (Nat.zero_le _) (by omega) h
    omega
/-- what is written of tokens that may be is read as they are -/
theorem read_may {l : List Tk} (h : MayP l) (hin : ∀ t ∈ l, TkIn t) (hlen : l.length ≤ 16385) (hsz : (joinL l.dropLast).length ≤ 65536) : ∃ r, toks (joinL l.dropLast) = .ok r ∧ SameL r l := by
  obtain ⟨b, e, rfl, hb, hk, ht, hz⟩ := may_split h fun t ht => (hin t ht).2.2
  rw [List.dropLast_concat] at hsz ⊢
  obtain ⟨r, p, hr, hs⟩ := read_join b hb (by simp at hlen; omega) hsz
  refine ⟨_, hr, sameL_snoc hs ⟨hk.symm, ht.symm, ?_⟩⟩
  exact zero_sym (hin e (by simp)).2.2 hz
end Go.Proofs.YtgjpcoplnpkmoaaDoor.S
