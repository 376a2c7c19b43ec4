/-
  Tokens written as a text, in plain mathematics: which may be, how each is written, and that what is written is read back.
-/
import Derived.Test.YtgjpcoplnpkmoaaGreatDoorLexNum
import Derived.Test.YtgjpcoplnpkmoaaGreatDoorLexOne
import Derived.Test.YtgjpcoplnpkmoaaGreatDoorStrPQ
namespace Go.Proofs.YtgjpcoplnpkmoaaGreatDoor.S
open Go.RowKit Fl

def zeroP (x : Nat) : Prop := FloatKind.f64.format.order x 0 = some .eq
def numOurs (x : Nat) : Prop := ∃ n : Nat, n ≤ 9007199254740991 ∧ x = F (n : Int)
def aloneP (k : Nat) (l : List UInt8) : Prop := ∃ t n, pieceL l = .tok k t n l.length
/-- may a token be? -/
def TokP (t : Tk) : Prop :=
  (t.kind = 0 ∧ t.text = ⟨#[]⟩ ∧ zeroP t.num) ∨ (t.kind = 3 ∧ t.text = ⟨#[]⟩ ∧ numOurs t.num) ∨ (t.kind = 4 ∧ t.text.size ≤ 4096 ∧ zeroP t.num) ∨ ((t.kind = 1 ∨ t.kind = 2 ∨ t.kind = 5) ∧ zeroP t.num ∧ aloneP t.kind t.text.data.toList)
/-- may tokens be? -/
def MayP (l : List Tk) : Prop := l ≠ [] ∧ ∀ (i : Nat) (t : Tk), l[i]? = some t → TokP t ∧ (t.kind = 0 ↔ i + 1 = l.length)
def numN (x : Nat) : Int := (floatToIntVal .f64 x .i64).getD 0
theorem numN_F {n : Int} (h : SafeN n) : numN (F n) = n := by unfold numN; rw [floatToIntVal_F n h.abs]; rfl
def writL (t : Tk) : List UInt8 := if t.kind = 3 then Lib.itoa (numN t.num) else if t.kind = 4 then quoteL t.text.data.toList else t.text.data.toList
def tailL (l : List Tk) : List UInt8 := l.flatMap fun t => 32 :: writL t
/-- tokens with a blank between each two -/
def joinL : List Tk → List UInt8
  | [] => []
  | t :: r => writL t ++ tailL r
theorem joinL_snoc (l : List Tk) (t : Tk) : joinL (l ++ [t]) = joinL l ++ (if l = [] then [] else [32]) ++ writL t := by
  cases l with
  | nil => simp [joinL, tailL]
  | cons u r => simp [joinL, tailL]

theorem cmp_eq {n m : Int} (h : compare n m = .eq) : n = m := by
  simp [compare, compareOfLessAndEq] at h
  split at h
  · cases h
  · split at h
    · assumption
    · cases h
theorem zero_sym {x : Nat} (hx : x < 2 ^ 64) (h : zeroP x) : FloatKind.f64.format.order 0 x = some .eq := by
  have h : Ieee.double.order x (F 0) = some .eq := by rw [F_zero]; exact h
  have g : Ieee.double.order (F 0) x = some .eq := by
    obtain ⟨c, hc⟩ := cls x hx
    cases c with
    | nan => rw [order_nan_l _ hc.2] at h; cases h
    | other =>
      rcases hc.2 with b | f | e
      · rw [(order_big b 0 (by decide)).1] at h; revert h; split <;> (intro h; cases h)
      · exact absurd h (order_frac f 0 (by decide)).1
      · subst e; exact (order_m0 0 (by decide)).2
    | ours n =>
      obtain ⟨rfl, hs⟩ := hc
      rw [order_F n 0 hs.abs (by decide)] at h
      have := cmp_eq (Option.some.inj h)
      subst this
      exact h
  rw [F_zero] at g
  exact g
theorem zero_0 : zeroP 0 := by unfold zeroP; decide

/-! ### digits of a whole number -/
theorem head_app {l m : List UInt8} (h : l ≠ []) : (l ++ m).head? = l.head? := by
  cases l with
  | nil => exact absurd rfl h
  | cons c r => rfl
theorem dec_head (k : Nat) : ∀ c, (Lib.decDigits k).head? = some c → c = 48 → k = 0 ∧ (Lib.decDigits k).length = 1 := by
  induction k using Nat.strongRecOn with
  | _ k ih =>
    intro c hc h48
    by_cases hk : k < 10
    · rw [decDigits_one k hk] at hc ⊢
      rw [List.head?_cons] at hc
      have e := Option.some.inj hc
      rw [h48] at e
      have : k = 0 ∨ k = 1 ∨ k = 2 ∨ k = 3 ∨ k = 4 ∨ k = 5 ∨ k = 6 ∨ k = 7 ∨ k = 8 ∨ k = 9 := by omega
      rcases this with rfl | rfl | rfl | rfl | rfl | rfl | rfl | rfl | rfl | rfl
      · exact ⟨rfl, rfl⟩
      all_goals (exact absurd e (by decide))
    · exfalso
      rw [decDigits_big k (by omega)] at hc
      obtain ⟨_, _, ne⟩ := decDigits_val (k / 10)
      rw [head_app ne] at hc
      have := (ih (k / 10) (by omega) c hc h48).1
      omega
theorem dec_len (m : Nat) : ∀ k, k < 10 ^ (m + 1) → (Lib.decDigits k).length ≤ m + 1 := by
  induction m with
  | zero => intro k hk; rw [decDigits_one k (by simpa using hk)]; simp
  | succ m ih =>
    intro k hk
    by_cases h : k < 10
    · rw [decDigits_one k h]; simp
    · rw [decDigits_big k (by omega), List.length_append]
      have := ih (k / 10) (by rw [Nat.pow_succ] at hk; omega)
      simp; omega
theorem itoa_nat (n : Nat) : Lib.itoa (n : Int) = Lib.decDigits n := by
  unfold Lib.itoa; rw [if_neg (by omega)]; rfl
theorem itoa_len (n : Nat) (h : n ≤ 9007199254740991) : (Lib.itoa (n : Int)).length ≤ 20 := by
  rw [itoa_nat]
  have := dec_len 15 n (by omega)
  omega

/-! ### what a run is, with something behind -/
theorem run_app (p : UInt8 → Bool) : ∀ (l tail : List UInt8), l.all p = true → (∀ c, tail.head? = some c → p c = false) → runL p (l ++ tail) = l.length
  | [], tail, _, ht => by
    cases tail with
    | nil => rfl
    | cons c r => rw [List.nil_append, runL_cons, if_neg (by rw [ht c rfl]; decide)]; rfl
  | c :: r, tail, ha, ht => by
    rw [List.all_cons, Bool.and_eq_true] at ha
    rw [List.cons_append, runL_cons, if_pos ha.1, run_app p r tail ha.2 ht]; rfl
theorem run_all (p : UInt8 → Bool) (l : List UInt8) (h : runL p l = l.length) : l.all p = true := by
  have := run_take_all p l
  rw [h, List.take_of_length_le (Nat.le_refl _)] at this
  exact this
def BlankAhead (tail : List UInt8) : Prop := tail = [] ∨ tail.head? = some 32
theorem ahead_head {tail : List UInt8} (h : BlankAhead tail) (c : UInt8) (hc : tail.head? = some c) : c = 32 := by
  rcases h with rfl | h
  · cases hc
  · rw [h] at hc; exact (Option.some.inj hc).symm
theorem dig_no_ini {c : UInt8} (h : isDig c = true) : iniB c = false := by
  obtain ⟨h1, h2⟩ := (isDig_iff c).1 h
  have e : ∀ n, n < 48 ∨ 57 < n → (c.toNat == n) = false := fun n hn => by rw [beq_eq_false_iff_ne]; omega
  unfold iniB
  rw [decide_eq_false (by omega), decide_eq_false (p := 65 ≤ c.toNat) (by omega), e 95 (by omega), e 36 (by omega)]
  rfl

theorem piece_num (n : Nat) (hn : n ≤ 9007199254740991) (tail : List UInt8) (ht : BlankAhead tail) : pieceL (Lib.itoa (n : Int) ++ tail) = .tok 3 ⟨#[]⟩ (F (n : Int)) (Lib.itoa (n : Int)).length := by
  rw [itoa_nat]
  obtain ⟨v, a, ne⟩ := decDigits_val n
  have hh := dec_head n
  generalize Lib.decDigits n = D at *
  have hr : runL isDig (D ++ tail) = D.length := run_app isDig D tail a fun c hc => by rw [ahead_head ht c hc]; decide
  have htk : (D ++ tail).take D.length = D := by rw [List.take_left]
  have hnum : numberL (D ++ tail) = .tok 3 ⟨#[]⟩ (F (n : Int)) D.length := by
    have hb : numBad (D ++ tail) = false := by
      unfold numBad
      rw [hr, Bool.or_eq_false_iff]
      constructor
      · by_cases h1 : D.length > 1
        · rw [decide_eq_true h1, Bool.true_and, decide_eq_false]
          intro h48
          rw [head_app ne] at h48
          have := (hh 48 h48 rfl).2
          omega
        · rw [decide_eq_false h1]; rfl
      · rw [List.getElem?_append_right (Nat.le_refl _), Nat.sub_self]
        cases tail with
        | nil => rfl
        | cons c r =>
          have := ahead_head ht c rfl
          subst this
          rfl
    unfold numberL
    rw [if_neg (by rw [hb]; decide), hr, htk, readR_dig ne a, if_pos (by omega), v]
  cases D with
  | nil => exact absurd rfl ne
  | cons c r =>
    rw [List.all_cons, Bool.and_eq_true] at a
    rw [List.cons_append, pieceL_cons, if_neg (by rw [dig_no_ini a.1]; decide), if_pos a.1, ← List.cons_append]
    exact hnum

/-! ### which kind stands behind which first byte -/
theorem kind_of {c : UInt8} {r : List UInt8} {k : Nat} {t : ByteArray} {n wd : Nat} (h : pieceL (c :: r) = .tok k t n wd) :
    (iniB c = true ∧ (k = 1 ∨ k = 2) ∧ nameL (c :: r) = .tok k t n wd) ∨ (iniB c = false ∧ isDig c = true ∧ k = 3 ∧ numberL (c :: r) = .tok k t n wd) ∨
    (iniB c = false ∧ isDig c = false ∧ (c = 34 ∨ c = 39) ∧ k = 4 ∧ literalL c (c :: r) = .tok k t n wd) ∨ (iniB c = false ∧ isDig c = false ∧ ¬ (c = 34 ∨ c = 39) ∧ k = 5 ∧ signL (c :: r) = .tok k t n wd) := by
  rw [pieceL_cons] at h
  by_cases c1 : iniB c = true
  · rw [if_pos c1] at h
    refine Or.inl ⟨c1, ?_, h⟩
    unfold nameL at h
    split at h
    · cases h
    · injection h with h1 h2 h3 h4
      rw [← h1]; split
      · exact Or.inr rfl
      · exact Or.inl rfl
  · rw [if_neg c1] at h
    have c1 : iniB c = false := by simpa using c1
    by_cases c2 : isDig c = true
    · rw [if_pos c2] at h
      refine Or.inr (Or.inl ⟨c1, c2, ?_, h⟩)
      unfold numberL at h
      split at h
      · cases h
      · split at h
        · injection h with h1; exact h1.symm
        · cases h
    · rw [if_neg c2] at h
      have c2 : isDig c = false := by simpa using c2
      by_cases c3 : c = 34 ∨ c = 39
      · rw [if_pos c3] at h
        refine Or.inr (Or.inr (Or.inl ⟨c1, c2, c3, ?_, h⟩))
        unfold literalL at h
        split at h
        · cases h
        · exact (plainP_le h).2.1
      · rw [if_neg c3] at h
        refine Or.inr (Or.inr (Or.inr ⟨c1, c2, c3, ?_, h⟩))
        unfold signL at h
        split at h
        · cases h
        · injection h with h1; exact h1.symm

theorem nameL_alone {l : List UInt8} {k : Nat} {t : ByteArray} {n : Nat} (h : nameL l = .tok k t n l.length) : l.all innB = true ∧ l.length ≤ 4096 ∧ k = (if wordB l then 2 else 1) ∧ t = mkB l ∧ n = 0 := by
  unfold nameL at h
  split at h
  · cases h
  · rename_i hle
    injection h with h1 h2 h3 h4
    rw [h4, List.take_of_length_le (Nat.le_refl _)] at h1 h2
    exact ⟨run_all _ _ h4, by omega, h1.symm, h2.symm, h3.symm⟩
theorem nameL_app {l : List UInt8} (ha : l.all innB = true) (hl : l.length ≤ 4096) (tail : List UInt8) (ht : BlankAhead tail) : nameL (l ++ tail) = .tok (if wordB l then 2 else 1) (mkB l) 0 l.length := by
  have hr : runL innB (l ++ tail) = l.length := run_app innB l tail ha fun c hc => by rw [ahead_head ht c hc]; decide
  unfold nameL
  rw [hr, if_neg (by omega), List.take_left]

theorem sg_1 (l : List UInt8) (j : Nat) (hj : 1 ≤ j) (h : signN l = j) : j ≤ l.length ∧ signB (l.take j) = true := by
  unfold signN at h
  split at h
  · subst h; assumption
  · split at h
    · subst h; assumption
    · split at h
      · subst h; assumption
      · omega
theorem sg_at (l : List UInt8) (j : Nat) (h1 : 1 ≤ j) (h3 : j ≤ 3) (ha : ∀ k, j < k → k ≤ 3 → ¬ (k ≤ l.length ∧ signB (l.take k) = true)) (hh : j ≤ l.length ∧ signB (l.take j) = true) : signN l = j := by
  have : j = 1 ∨ j = 2 ∨ j = 3 := by omega
  unfold signN
  rcases this with rfl | rfl | rfl
  · rw [if_neg (ha 3 (by omega) (by omega)), if_neg (ha 2 (by omega) (by omega)), if_pos hh]
  · rw [if_neg (ha 3 (by omega) (by omega)), if_pos hh]
  · rw [if_pos hh]
theorem signs_no_blank : ∀ x ∈ signsL, ∀ c ∈ x, c ≠ 32 := by decide
theorem sign_mem {l : List UInt8} : signB l = true ↔ l ∈ signsL := by unfold signB; simp
theorem signs_len3 : ∀ x ∈ signsL, x.length ≤ 3 ∧ 1 ≤ x.length := by decide
theorem signs_first : ∀ x ∈ signsL, ∀ c ∈ x.head?, iniB c = false ∧ isDig c = false ∧ c ≠ 34 ∧ c ≠ 39 ∧ blankB c = false ∧ (c = 47 → x.tail.head? ≠ some 47 ∧ x.tail.head? ≠ some 42) := by decide
theorem signL_app {l : List UInt8} (hs : signB l = true) (tail : List UInt8) (ht : BlankAhead tail) : signL (l ++ tail) = .tok 5 (mkB l) 0 l.length := by
  obtain ⟨h3, h1⟩ := signs_len3 l (sign_mem.1 hs)
  have hn : signN (l ++ tail) = l.length := by
    refine sg_at _ _ h1 h3 ?_ ⟨by simp, by rw [List.take_left]; exact hs⟩
    rintro k hk1 hk2 ⟨hk3, hk4⟩
    rcases ht with rfl | ht
    · simp at hk3; omega
    · cases tail with
      | nil => cases ht
      | cons c r =>
        rw [List.head?_cons] at ht
        have := Option.some.inj ht
        subst this
        refine signs_no_blank _ (sign_mem.1 hk4) 32 ?_ rfl
        rw [List.take_append]
        obtain ⟨j, hj⟩ : ∃ j, k - l.length = j + 1 := ⟨k - l.length - 1, by omega⟩
        rw [hj, List.take_succ_cons]
        simp
  unfold signL
  rw [hn, if_neg (by omega), List.take_left]

theorem close_qb (c : UInt8) (i : Nat) (X : List UInt8) : closeL 34 false i (qb c ++ X) = closeL 34 false (i + (qb c).length) X := by
  have hc := c.toNat_lt
  have ne : ∀ {d : UInt8} (m : Nat), d.toNat = m → c.toNat ≠ m → ¬ c = d := fun m h1 h2 e => h2 (by rw [e, h1])
  by_cases c1 : c.toNat = 34 ∨ c.toNat = 92
  · have e : qb c = [92, c] := by unfold qb; rw [if_pos c1]
    rw [e]
    have n1 : ¬ (c = 10 ∨ c = 13) := by rintro (h | h) <;> (subst h; revert c1; decide)
    show closeL 34 false i (92 :: c :: X) = closeL 34 false (i + 2) X
    conv => lhs; unfold closeL
    rw [if_neg (by decide), if_neg (by decide), if_pos rfl]
    conv => lhs; unfold closeL
    rw [if_neg n1, if_pos rfl]
  · have esc : ∀ d : UInt8, ¬ (d = 10 ∨ d = 13) → ∀ Y, closeL 34 false i (92 :: d :: Y) = closeL 34 false (i + 2) Y := by
      intro d hd Y
      conv => lhs; unfold closeL
      rw [if_neg (by decide), if_neg (by decide), if_pos rfl]
      conv => lhs; unfold closeL
      rw [if_neg hd, if_pos rfl]
    by_cases c2 : c.toNat = 10
    · have e : qb c = [92, 110] := by unfold qb; rw [if_neg c1, if_pos c2]
      rw [e]; exact esc 110 (by decide) X
    · by_cases c3 : c.toNat = 9
      · have e : qb c = [92, 116] := by unfold qb; rw [if_neg c1, if_neg c2, if_pos c3]
        rw [e]; exact esc 116 (by decide) X
      · by_cases c4 : c.toNat = 13
        · have e : qb c = [92, 114] := by unfold qb; rw [if_neg c1, if_neg c2, if_neg c3, if_pos c4]
          rw [e]; exact esc 114 (by decide) X
        · have plain : ∀ (d : UInt8) (j : Nat) (Y : List UInt8), d.toNat ≠ 10 → d.toNat ≠ 13 → d.toNat ≠ 92 → d.toNat ≠ 34 → closeL 34 false j (d :: Y) = closeL 34 false (j + 1) Y := by
            intro d j Y h1 h2 h3 h4
            have n : ∀ {e : UInt8} (m : Nat), e.toNat = m → d.toNat ≠ m → ¬ d = e := fun m q1 q2 q => q2 (by rw [q, q1])
            conv => lhs; unfold closeL
            rw [if_neg (by rintro (h | h); exact n 10 rfl h1 h; exact n 13 rfl h2 h), if_neg (by decide), if_neg (n 92 rfl h3), if_neg (n 34 rfl h4)]
          by_cases c5 : c.toNat < 32 ∨ 126 < c.toNat
          · have e : qb c = [92, 120, (hexN (c.toNat / 16)).toUInt8, (hexN (c.toNat % 16)).toUInt8] := by unfold qb; rw [if_neg c1, if_neg c2, if_neg c3, if_neg c4, if_pos c5]
            rw [e]
            have d1 := hexN_rng (c.toNat / 16) (by omega)
            have d2 := hexN_rng (c.toNat % 16) (by omega)
            have t1 := toNat_of (hexN (c.toNat / 16)) (by omega)
            have t2 := toNat_of (hexN (c.toNat % 16)) (by omega)
            show closeL 34 false i (92 :: 120 :: (hexN (c.toNat / 16)).toUInt8 :: (hexN (c.toNat % 16)).toUInt8 :: X) = closeL 34 false (i + 4) X
            rw [esc 120 (by decide), plain _ _ _ (by omega) (by omega) (by omega) (by omega), plain _ _ _ (by omega) (by omega) (by omega) (by omega)]
          · have e : qb c = [c] := by unfold qb; rw [if_neg c1, if_neg c2, if_neg c3, if_neg c4, if_neg c5]
            rw [e]
            exact plain c i X c2 c4 (fun h => c1 (Or.inr h)) (fun h => c1 (Or.inl h))
theorem close_quoteI : ∀ (l : List UInt8) (i : Nat) (X : List UInt8), closeL 34 false i (quoteI l ++ 34 :: X) = some (i + (quoteI l).length)
  | [], i, X => by
    show closeL 34 false i (34 :: X) = some i
    unfold closeL
    rw [if_neg (by decide), if_neg (by decide), if_neg (by decide), if_pos rfl]
  | c :: r, i, X => by
    have e : quoteI (c :: r) = qb c ++ quoteI r := by simp [quoteI]
    rw [e, List.append_assoc, close_qb, close_quoteI r, List.length_append]
    congr 1; omega
theorem piece_str (s : ByteArray) (hs : s.size ≤ 4096) (tail : List UInt8) : pieceL (quoteL s.data.toList ++ tail) = .tok 4 s 0 (quoteL s.data.toList).length := by
  have e : quoteL s.data.toList ++ tail = 34 :: (quoteI s.data.toList ++ 34 :: tail) := by unfold quoteL; simp
  rw [e, pieceL_cons, if_neg (by decide), if_neg (by decide), if_pos (Or.inl rfl)]
  unfold literalL
  rw [List.drop_one, List.tail_cons, close_quoteI]
  dsimp only
  rw [show 1 + (quoteI s.data.toList).length - 1 = (quoteI s.data.toList).length by omega, List.take_left]
  have := plain_quote (mkB (quoteI s.data.toList)) s (mkB_list _) hs
  rw [this]
  unfold plainP
  rw [if_pos rfl]
  have : (quoteL s.data.toList).length = 1 + (quoteI s.data.toList).length + 1 := by unfold quoteL; simp; omega
  rw [this]

/-- a token that may be, written with a blank or nothing behind, is what a text begins with -/
theorem piece_back (t : Tk) (h : TokP t) (h0 : t.kind ≠ 0) (hx : t.num < 2 ^ 64) (tail : List UInt8) (ht : BlankAhead tail) : ∃ n, pieceL (writL t ++ tail) = .tok t.kind t.text n (writL t).length ∧ FloatKind.f64.format.order n t.num = some .eq := by
  rcases h with ⟨h, _, _⟩ | ⟨hk, hte, m, hm, hnum⟩ | ⟨hk, hsz, hz⟩ | ⟨hk, hz, tt, n, ha⟩
  · exact absurd h h0
  · have hs : SafeN (m : Int) := by unfold SafeN; omega
    have hw : writL t = Lib.itoa (m : Int) := by unfold writL; rw [if_pos hk, hnum, numN_F hs]
    refine ⟨F (m : Int), ?_, ?_⟩
    · rw [hw, hk, hte]; exact piece_num m hm tail ht
    · rw [hnum]; exact order_self (not_nan_F _ hs.abs)
  · have hw : writL t = quoteL t.text.data.toList := by unfold writL; rw [if_neg (by omega), if_pos hk]
    exact ⟨0, by rw [hw, hk]; exact piece_str t.text hsz tail, zero_sym hx hz⟩
  · have hw : writL t = t.text.data.toList := by unfold writL; rw [if_neg (by omega), if_neg (by omega)]
    refine ⟨0, ?_, zero_sym hx hz⟩
    rw [hw]
    cases hl : t.text.data.toList with
    | nil => rw [hl] at ha; cases ha
    | cons c r =>
      rw [hl] at ha
      have hmk : mkB (c :: r) = t.text := by rw [← hl]; exact mkB_of _
      rcases kind_of ha with ⟨c1, kk, hn⟩ | ⟨_, _, kk, _⟩ | ⟨_, _, _, kk, _⟩ | ⟨c1, c2, c3, kk, hn⟩
      · obtain ⟨a1, a2, a3, _, _⟩ := nameL_alone hn
        rw [List.cons_append, pieceL_cons, if_pos c1, ← List.cons_append, nameL_app a1 a2 tail ht, hmk, a3]
      · omega
      · omega
      · have hsn : signN (c :: r) = (c :: r).length := by
          unfold signL at hn
          split at hn
          · cases hn
          · injection hn
        have hsb := (sg_1 _ _ (by simp) hsn).2
        rw [List.take_of_length_le (Nat.le_refl _)] at hsb
        rw [List.cons_append, pieceL_cons, if_neg (by rw [c1]; decide), if_neg (by rw [c2]; decide), if_neg c3, ← List.cons_append, signL_app hsb tail ht, hmk, kk]
/-- blanks and comments end where a token stands -/
theorem pass_back (t : Tk) (h : TokP t) (h0 : t.kind ≠ 0) (tail : List UInt8) (ht : BlankAhead tail) (st i : Nat) : passM 0 st i (writL t ++ tail) = (i, true) ∧ writL t ≠ [] := by
  have here : ∀ (c : UInt8) (r : List UInt8), blankB c = false → (c = 47 → r.head? ≠ some 47 ∧ r.head? ≠ some 42) → passM 0 st i (c :: r) = (i, true) := by
    intro c r hb hs
    rw [passM_0, if_neg (by rw [hb]; decide), if_neg (fun g => (hs g.1).1 g.2), if_neg (fun g => (hs g.1).2 g.2)]
  rcases h with ⟨h, _, _⟩ | ⟨hk, hte, m, hm, hnum⟩ | ⟨hk, hsz, hz⟩ | ⟨hk, hz, tt, n, ha⟩
  · exact absurd h h0
  · have hs : SafeN (m : Int) := by unfold SafeN; omega
    have hw : writL t = Lib.decDigits m := by unfold writL; rw [if_pos hk, hnum, numN_F hs, itoa_nat]
    rw [hw]
    obtain ⟨v, a, ne⟩ := decDigits_val m
    refine ⟨?_, ne⟩
    cases hd : Lib.decDigits m with
    | nil => exact absurd hd ne
    | cons c r =>
      rw [hd, List.all_cons, Bool.and_eq_true] at a
      refine here c _ ?_ ?_
      · exact (dig_no_blank c a.1).1
      · intro e; subst e; exact absurd a.1 (by decide)
  · have hw : writL t = quoteL t.text.data.toList := by unfold writL; rw [if_neg (by omega), if_pos hk]
    rw [hw]
    unfold quoteL
    exact ⟨here 34 _ (by decide) (fun e => absurd e (by decide)), by simp⟩
  · have hw : writL t = t.text.data.toList := by unfold writL; rw [if_neg (by omega), if_neg (by omega)]
    rw [hw]
    cases hl : t.text.data.toList with
    | nil => rw [hl] at ha; cases ha
    | cons c r =>
      rw [hl] at ha
      refine ⟨?_, by simp⟩
      rcases kind_of ha with ⟨c1, kk, hn⟩ | ⟨_, _, kk, _⟩ | ⟨_, _, _, kk, _⟩ | ⟨c1, c2, c3, kk, hn⟩
      · have h47 : ¬ c = 47 := fun e => by subst e; revert c1; decide
        have hb : blankB c = false := by rw [blankB_eq]; unfold iniB at c1; simp at c1 ⊢; omega
        exact here c _ hb (fun e => absurd e h47)
      · omega
      · omega
      · have hsn : signN (c :: r) = (c :: r).length := by
          unfold signL at hn
          split at hn
          · cases hn
          · injection hn
        have hsb := (sg_1 _ _ (by simp) hsn).2
        rw [List.take_of_length_le (Nat.le_refl _)] at hsb
        obtain ⟨_, _, _, _, b, q⟩ := signs_first _ (sign_mem.1 hsb) c rfl
        refine here c _ b ?_
        intro e
        obtain ⟨q1, q2⟩ := q e
        rw [List.tail_cons] at q1 q2
        cases r with
        | nil =>
          show tail.head? ≠ some 47 ∧ tail.head? ≠ some 42
          constructor <;> (intro g; have := ahead_head ht _ g; revert this; decide)
        | cons d r' => exact ⟨q1, q2⟩
end Go.Proofs.YtgjpcoplnpkmoaaGreatDoor.S
