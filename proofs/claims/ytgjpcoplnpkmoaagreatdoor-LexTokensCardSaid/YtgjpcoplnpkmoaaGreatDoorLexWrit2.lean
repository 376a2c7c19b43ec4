/-
  Tokens laid one behind the other are read as they were; what is read may be, and stands at its place: plain mathematics.
-/
import Derived.Test.YtgjpcoplnpkmoaaGreatDoorLexWrit
namespace Go.Proofs.YtgjpcoplnpkmoaaGreatDoor.S
open Go.RowKit Fl

def SameT (a b : Tk) : Prop := a.kind = b.kind ∧ a.text = b.text ∧ FloatKind.f64.format.order a.num b.num = some .eq
def SameL (a b : List Tk) : Prop := a.length = b.length ∧ ∀ (i : Nat) (x y : Tk), a[i]? = some x → b[i]? = some y → SameT x y
theorem sameL_cons {x y : Tk} {a b : List Tk} (h : SameT x y) (g : SameL a b) : SameL (x :: a) (y :: b) := by
  refine ⟨by rw [List.length_cons, List.length_cons, g.1], fun i u v hu hv => ?_⟩
  cases i with
  | zero => rw [List.getElem?_cons_zero] at hu hv; cases hu; cases hv; exact h
  | succ i => rw [List.getElem?_cons_succ] at hu hv; exact g.2 i u v hu hv
theorem sameL_nil : SameL [] [] := ⟨rfl, fun i u v hu hv => by simp at hu⟩

/-- what stands between tokens, and what stands at the end -/
def skipS (sp : List UInt8) : Prop := ∀ i st X, ∃ st', passM 0 st i (sp ++ X) = passM 0 st' (i + sp.length) X
def skipE (e : List UInt8) : Prop := ∀ i st, passM 0 st i e = (i + e.length, true)
def laidB (sp e : List UInt8) : List Tk → List UInt8
  | [] => e
  | t :: r => sp ++ (writL t ++ laidB sp e r)
def GoodT (t : Tk) : Prop := TokP t ∧ t.kind ≠ 0 ∧ t.num < 2 ^ 64

theorem laid_ahead {sp e : List UInt8} (hs : sp.head? = some 32) (he : BlankAhead e) (l : List Tk) : BlankAhead (laidB sp e l) := by
  cases l with
  | nil => exact he
  | cons t r =>
    refine Or.inr ?_
    show (sp ++ _).head? = some 32
    cases sp with
    | nil => cases hs
    | cons c r => rw [List.cons_append, List.head?_cons]; rw [List.head?_cons] at hs; exact hs

theorem read_one {sp e : List UInt8} (hs : sp.head? = some 32) (he : BlankAhead e) {s0 : List UInt8} (h0 : skipS s0) (t : Tk) (r : List Tk) (ht : GoodT t) (f i : Nat) (acc : List Tk) (ha : acc.length < 16384) :
    ∃ u j, toksF (f + 1) i (s0 ++ (writL t ++ laidB sp e r)) acc = toksF f j (laidB sp e r) (acc ++ [u]) ∧ SameT u t := by
  have hA := laid_ahead hs he r
  obtain ⟨n, hp, hn⟩ := piece_back t ht.1 ht.2.1 ht.2.2 _ hA
  obtain ⟨st, hst⟩ := h0 i i (writL t ++ laidB sp e r)
  obtain ⟨hb, hne⟩ := pass_back t ht.1 ht.2.1 _ hA st (i + s0.length)
  rw [hb] at hst
  refine ⟨⟨t.kind, (i + s0.length : Nat), t.text, n⟩, i + s0.length + (writL t).length, ?_, rfl, rfl, hn⟩
  conv => lhs; unfold toksF
  have hd : (s0 ++ (writL t ++ laidB sp e r)).drop (i + s0.length - i) = writL t ++ laidB sp e r := by rw [show i + s0.length - i = s0.length by omega, List.drop_left]
  rw [hst]
  dsimp only
  rw [hd, if_neg (by simp), if_neg (by simp [hne]), hp]
  dsimp only
  rw [if_neg (by omega), List.drop_left]

theorem read_laid {sp e : List UInt8} (hs : sp.head? = some 32) (hsk : skipS sp) (he : BlankAhead e) (hek : skipE e) : ∀ (l : List Tk) (f i : Nat) (acc : List Tk), (∀ t ∈ l, GoodT t) → l.length < f → acc.length + l.length ≤ 16384 →
    ∃ r p, toksF f i (laidB sp e l) acc = .ok (acc ++ r ++ [⟨0, p, ⟨#[]⟩, 0⟩]) ∧ SameL r l
  | [], f, i, acc, _, hf, _ => by
    obtain ⟨g, rfl⟩ : ∃ g, f = g + 1 := ⟨f - 1, by simp at hf; omega⟩
    refine ⟨[], (i + e.length : Nat), ?_, sameL_nil⟩
    show toksF (g + 1) i e acc = _
    unfold toksF
    rw [hek i i]
    dsimp only
    rw [if_neg (by simp), if_pos (by rw [show i + e.length - i = e.length by omega]; exact List.drop_eq_nil_of_le (Nat.le_refl _)), List.append_nil]
  | t :: r, f, i, acc, hl, hf, ha => by
    obtain ⟨g, rfl⟩ : ∃ g, f = g + 1 := ⟨f - 1, by simp at hf; omega⟩
    rw [List.length_cons] at hf ha
    obtain ⟨u, j, hu, hsu⟩ := read_one hs he hsk t r (hl t List.mem_cons_self) g i acc (by omega)
    obtain ⟨q, p, hq, hsq⟩ := read_laid hs hsk he hek r g j (acc ++ [u]) (fun x hx => hl x (List.mem_cons_of_mem _ hx)) (by omega) (by simp; omega)
    refine ⟨u :: q, p, ?_, sameL_cons hsu hsq⟩
    show toksF (g + 1) i (sp ++ (writL t ++ laidB sp e r)) acc = _
    rw [hu, hq]; simp
/-- the same, whatever stands ahead of the first -/
theorem read_all {sp e : List UInt8} (hs : sp.head? = some 32) (hsk : skipS sp) (he : BlankAhead e) (hek : skipE e) {s0 e0 : List UInt8} (h0 : skipS s0) (he0 : skipE (s0 ++ e0)) (l : List Tk) (hl : ∀ t ∈ l, GoodT t) (L : List UInt8)
    (hL : L = s0 ++ (match l with | [] => e0 | t :: r => writL t ++ laidB sp e r)) (hlen : l.length ≤ 16384) (hsz : L.length ≤ 65536) (hf : l.length ≤ L.length) : ∃ r p, toks L = .ok (r ++ [⟨0, p, ⟨#[]⟩, 0⟩]) ∧ SameL r l := by
  unfold toks
  rw [if_neg (by omega)]
  cases l with
  | nil =>
    dsimp only at hL
    refine ⟨[], (0 + L.length : Nat), ?_, sameL_nil⟩
    unfold toksF
    rw [hL, he0 0 0]
    dsimp only
    rw [if_neg (by simp), if_pos (by rw [Nat.zero_add, Nat.sub_zero]; exact List.drop_eq_nil_of_le (Nat.le_refl _))]
  | cons t r =>
    dsimp only at hL
    rw [List.length_cons] at hlen hf
    obtain ⟨u, j, hu, hsu⟩ := read_one hs he h0 t r (hl t List.mem_cons_self) L.length 0 [] (by simp)
    obtain ⟨q, p, hq, hsq⟩ := read_laid hs hsk he hek r L.length j ([] ++ [u]) (fun x hx => hl x (List.mem_cons_of_mem _ hx)) (by omega) (by simp; omega)
    refine ⟨u :: q, p, ?_, sameL_cons hsu hsq⟩
    rw [← hL] at hu
    rw [hu, hq]; simp

theorem skip_nil : skipS [] := fun _ st _ => ⟨st, rfl⟩
theorem skip_blank : skipS [32] := fun i st X => ⟨st, by
  show passM 0 st i (32 :: X) = passM 0 st (i + 1) X
  rw [passM_0, if_pos (by decide)]⟩
theorem skipE_nil : skipE [] := fun i st => by rw [passM_nil, if_pos (by omega)]; rfl
theorem tailL_laid : ∀ l : List Tk, tailL l = laidB [32] [] l
  | [] => rfl
  | t :: r => by
    show 32 :: writL t ++ tailL r = [32] ++ (writL t ++ laidB [32] [] r)
    rw [tailL_laid r]; rfl
theorem writ_ne {t : Tk} (h : GoodT t) : 1 ≤ (writL t).length := by
  have := (pass_back t h.1 h.2.1 [] (Or.inl rfl) 0 0).2
  exact List.length_pos_iff.2 this
theorem tail_len : ∀ l : List Tk, l.length ≤ (tailL l).length
  | [] => Nat.zero_le _
  | t :: r => by
    have := tail_len r
    show r.length + 1 ≤ (32 :: writL t ++ tailL r).length
    simp; omega
theorem join_len (l : List Tk) (h : ∀ t ∈ l, GoodT t) : l.length ≤ (joinL l).length := by
  cases l with
  | nil => simp
  | cons t r =>
    have h1 := writ_ne (h t List.mem_cons_self)
    have h2 := tail_len r
    show r.length + 1 ≤ (writL t ++ tailL r).length
    rw [List.length_append]; omega
/-- tokens written as a text are read back -/
theorem read_join (l : List Tk) (hl : ∀ t ∈ l, GoodT t) (hlen : l.length ≤ 16384) (hsz : (joinL l).length ≤ 65536) : ∃ r p, toks (joinL l) = .ok (r ++ [⟨0, p, ⟨#[]⟩, 0⟩]) ∧ SameL r l := by
  refine read_all (sp := [32]) (e := []) rfl skip_blank (Or.inl rfl) skipE_nil (s0 := []) (e0 := []) skip_nil skipE_nil l hl (joinL l) ?_ hlen hsz (join_len l hl)
  cases l with
  | nil => rfl
  | cons t r => show writL t ++ tailL r = _; rw [tailL_laid]; rfl

theorem may_split {l : List Tk} (h : MayP l) (hx : ∀ t ∈ l, t.num < 2 ^ 64) : ∃ b e, l = b ++ [e] ∧ (∀ t ∈ b, GoodT t) ∧ e.kind = 0 ∧ e.text = ⟨#[]⟩ ∧ zeroP e.num := by
  obtain ⟨h0, h1⟩ := h
  obtain ⟨b, e, rfl⟩ : ∃ b e, l = b ++ [e] := ⟨l.dropLast, l.getLast h0, (List.dropLast_concat_getLast h0).symm⟩
  refine ⟨b, e, rfl, ?_, ?_⟩
  · intro t ht
    obtain ⟨i, hi⟩ := List.getElem?_of_mem ht
    have hlt : i < b.length := (List.getElem?_eq_some_iff.1 hi).1
    obtain ⟨p, q⟩ := h1 i t (by rw [List.getElem?_append_left hlt]; exact hi)
    refine ⟨p, fun e => ?_, hx t (List.mem_append_left _ ht)⟩
    have := q.1 e
    rw [List.length_append, List.length_singleton] at this; omega
  · obtain ⟨p, q⟩ := h1 b.length e (by rw [List.getElem?_append_right (Nat.le_refl _)]; simp)
    have hk : e.kind = 0 := q.2 (by simp)
    refine ⟨hk, ?_⟩
    rcases p with ⟨_, a, b⟩ | ⟨k, _⟩ | ⟨k, _⟩ | ⟨k, _⟩
    · exact ⟨a, b⟩
    all_goals omega
theorem sameL_snoc {a b : List Tk} {x y : Tk} (h : SameL a b) (g : SameT x y) : SameL (a ++ [x]) (b ++ [y]) := by
  refine ⟨by simp [h.1], fun i u v hu hv => ?_⟩
  by_cases c : i < a.length
  · rw [List.getElem?_append_left c] at hu
    rw [List.getElem?_append_left (by rw [← h.1]; exact c)] at hv
    exact h.2 i u v hu hv
  · by_cases d : i = a.length
    · subst d
      rw [List.getElem?_append_right (Nat.le_refl _), Nat.sub_self] at hu
      rw [h.1, List.getElem?_append_right (Nat.le_refl _), Nat.sub_self] at hv
      cases hu; cases hv; exact g
    · rw [List.getElem?_append_right (by omega), List.getElem?_eq_none (by simp; omega)] at hu
      cases hu

/-! ### what is read may be -/
/-- a token at its place in a text -/
def AtP (L : List UInt8) (t : Tk) : Prop := ∃ p : Nat, t.pos = (p : Int) ∧ p < L.length ∧ ((t.kind = 1 ∨ t.kind = 2 ∨ t.kind = 5) → p + t.text.size ≤ L.length ∧ (L.drop p).take t.text.size = t.text.data.toList)
theorem ours_nat (v : Nat) (h : v ≤ 9007199254740991) : numOurs (F (v : Int)) := ⟨v, h, rfl⟩
theorem plain_size {u t : ByteArray} {a : Int} (h : plainO u = (t, a, 0)) : t.size ≤ 4096 := by
  unfold plainO at h
  split at h
  · cases h
  · cases hr : plainR u u.size 0 [] with
    | inl j => rw [hr] at h; unfold outOf at h; cases h
    | inr acc =>
      rw [hr] at h
      by_cases c : acc.length > 4096
      · rw [outOf_long acc c] at h; cases h
      · rw [outOf_short acc c] at h; cases h; rw [mk_size]; omega
theorem alone_sign : ∀ {x : List UInt8}, x ∈ signsL → pieceL x = .tok 5 (mkB x) 0 x.length := by
  intro x hx
  have hs := signL_app (sign_mem.2 hx) [] (Or.inl rfl)
  rw [List.append_nil] at hs
  obtain ⟨_, h1⟩ := signs_len3 x hx
  cases x with
  | nil => simp at h1
  | cons c r =>
    obtain ⟨i1, i2, i3, i4, _⟩ := signs_first _ hx c rfl
    rw [pieceL_cons, if_neg (by rw [i1]; decide), if_neg (by rw [i2]; decide), if_neg (by rintro (h | h); exact i3 h; exact i4 h)]
    exact hs
theorem piece_may {l : List UInt8} {k : Nat} {t : ByteArray} {n wd : Nat} (h : pieceL l = .tok k t n wd) (p : Int) : GoodT ⟨k, p, t, n⟩ ∧ ((k = 1 ∨ k = 2 ∨ k = 5) → t.size = wd ∧ l.take wd = t.data.toList) := by
  cases l with
  | nil => cases h
  | cons c r =>
    rcases kind_of h with ⟨c1, kk, hn⟩ | ⟨c1, c2, kk, hn⟩ | ⟨c1, c2, c3, kk, hn⟩ | ⟨c1, c2, c3, kk, hn⟩
    · unfold nameL at hn
      split at hn
      · cases hn
      · rename_i hle
        injection hn with h1 h2 h3 h4
        subst h4 h3 h2
        have hr := runL_le innB (c :: r)
        have hlen : ((c :: r).take (runL innB (c :: r))).length = runL innB (c :: r) := by rw [List.length_take]; omega
        have hpos : 1 ≤ runL innB (c :: r) := by rw [runL_cons, if_pos (by unfold innB; rw [c1]; rfl)]; omega
        have hal := run_take_all innB (c :: r)
        refine ⟨⟨Or.inr (Or.inr (Or.inr ⟨by rcases kk with e | e <;> simp [e], zero_0, ?_⟩)), by simp; omega, by simp⟩, fun _ => ⟨by rw [mkB_size, hlen], rfl⟩⟩
        show aloneP k ((c :: r).take (runL innB (c :: r)))
        obtain ⟨j, hj⟩ : ∃ j, runL innB (c :: r) = j + 1 := ⟨runL innB (c :: r) - 1, by omega⟩
        have hna := nameL_app hal (by rw [hlen]; omega) [] (Or.inl rfl)
        rw [List.append_nil, h1] at hna
        refine ⟨mkB ((c :: r).take (runL innB (c :: r))), 0, ?_⟩
        rw [← hna]
        rw [hj, List.take_succ_cons, pieceL_cons, if_pos c1]
    · unfold numberL at hn
      split at hn
      · cases hn
      · have hne : (c :: r).take (runL isDig (c :: r)) ≠ [] := by
          rw [runL_cons, if_pos c2, List.take_succ_cons]; simp
        rw [readR_dig hne (run_take_all isDig (c :: r))] at hn
        by_cases hv : valD ((c :: r).take (runL isDig (c :: r))) ≤ 9007199254740991
        · rw [if_pos hv] at hn
          injection hn with h1 h2 h3 h4
          subst h3 h2 kk
          exact ⟨⟨Or.inr (Or.inl ⟨rfl, rfl, ours_nat _ hv⟩), by simp, F_lt _⟩, fun h => by omega⟩
        · rw [if_neg hv] at hn; cases hn
    · unfold literalL at hn
      split at hn
      · cases hn
      · rename_i e he
        have hh := plainP_le hn
        generalize hq : plainO (mkB (((c :: r).drop 1).take (e - 1))) = q at *
        obtain ⟨t', a', k'⟩ := q
        obtain ⟨_, h2, h3, h4, h5⟩ := hh
        dsimp only at h4 h5
        subst h4 h5 h3 kk
        exact ⟨⟨Or.inr (Or.inr (Or.inl ⟨rfl, plain_size hq, zero_0⟩)), by simp, by simp⟩, fun h => by omega⟩
    · unfold signL at hn
      split at hn
      · cases hn
      · rename_i hsn
        injection hn with h1 h2 h3 h4
        subst h4 h3 h2 kk
        obtain ⟨g1, g2⟩ := sg_1 (c :: r) _ (by omega) rfl
        have hlen : ((c :: r).take (signN (c :: r))).length = signN (c :: r) := by rw [List.length_take]; omega
        exact ⟨⟨Or.inr (Or.inr (Or.inr ⟨Or.inr (Or.inr rfl), zero_0, _, _, alone_sign (sign_mem.1 g2)⟩)), by simp, by simp⟩, fun _ => ⟨by rw [mkB_size, hlen], rfl⟩⟩

def BodyP (L : List UInt8) (l : List Tk) (i : Nat) : Prop := (∀ t ∈ l, GoodT t ∧ AtP L t ∧ t.pos < (i : Int)) ∧ l.Pairwise (fun a b => a.pos < b.pos)
theorem toksF_told (L : List UInt8) : ∀ (f i : Nat) (acc r : List Tk), i ≤ L.length → BodyP L acc i → toksF f i (L.drop i) acc = .ok r → ∃ b, r = b ++ [⟨0, (L.length : Int), ⟨#[]⟩, 0⟩] ∧ BodyP L b L.length ∧ (acc.length ≤ 16384 → b.length ≤ 16384)
  | 0, _, _, _, _, _, h => by cases h
  | f + 1, i, acc, r, hi, hb, h => by
    have hge := passM_ge (L.drop i) 0 i i
    have hle := (passM_le (L.drop i) 0 i i (Nat.le_refl _)).2
    rw [List.length_drop] at hle
    obtain ⟨⟨p, y⟩, hp⟩ : ∃ x, passM 0 i i (L.drop i) = x := ⟨_, rfl⟩
    rw [hp] at hge hle
    dsimp only at hge hle
    cases y with
    | false => rw [toks_stop hp] at h; cases h
    | true =>
      have hip := hge rfl
      by_cases he : L.length ≤ p
      · rw [toks_end hip hp he] at h
        cases h
        have : p = L.length := by omega
        subst this
        exact ⟨acc, rfl, ⟨fun t ht => ⟨(hb.1 t ht).1, (hb.1 t ht).2.1, by have := (hb.1 t ht).2.2; omega⟩, hb.2⟩, id⟩
      · cases hk : pieceL (L.drop p) with
        | bad j => rw [toks_bad hip hp (by omega) hk] at h; cases h
        | tok k t n wd =>
          by_cases hm : acc.length = 16384
          · rw [toks_many hip hp (by omega) hk hm] at h; cases h
          · rw [toks_step hip hp (by omega) hk hm] at h
            obtain ⟨hw1, hw2⟩ := pieceL_wide hk
            rw [List.length_drop] at hw2
            obtain ⟨hg, hat⟩ := piece_may hk (p : Int)
            have hb2 : BodyP L (acc ++ [⟨k, (p : Int), t, n⟩]) (p + wd) := by
              refine ⟨fun u hu => ?_, ?_⟩
              · rw [List.mem_append, List.mem_singleton] at hu
                rcases hu with hu | rfl
                · obtain ⟨q1, q2, q3⟩ := hb.1 u hu
                  exact ⟨q1, q2, by omega⟩
                · refine ⟨hg, ⟨p, rfl, by omega, fun hh => ?_⟩, by show (p : Int) < _; omega⟩
                  obtain ⟨e1, e2⟩ := hat hh
                  exact ⟨by show p + t.size ≤ _; omega, by show (L.drop p).take t.size = _; rw [e1]; exact e2⟩
              · rw [List.pairwise_append]
                refine ⟨hb.2, List.pairwise_singleton _ _, fun a ha b hb' => ?_⟩
                rw [List.mem_singleton] at hb'
                subst hb'
                have := (hb.1 a ha).2.2
                show a.pos < (p : Int)
                omega
            obtain ⟨b, h1, h2, h3⟩ := toksF_told L f (p + wd) _ r (by omega) hb2 h
            exact ⟨b, h1, h2, fun hl => h3 (by simp; omega)⟩
theorem toks_told {L : List UInt8} {r : List Tk} (h : toks L = .ok r) : ∃ b, r = b ++ [⟨0, (L.length : Int), ⟨#[]⟩, 0⟩] ∧ BodyP L b L.length ∧ b.length ≤ 16384 ∧ L.length ≤ 65536 := by
  unfold toks at h
  split at h
  · cases h
  · have h' : toksF (L.length + 1) 0 (L.drop 0) [] = .ok r := h
    obtain ⟨b, h1, h2, h3⟩ := toksF_told L _ 0 [] r (Nat.zero_le _) ⟨fun t ht => (by cases ht), List.Pairwise.nil⟩ h'
    exact ⟨b, h1, h2, h3 (Nat.zero_le _), by omega⟩
theorem told_may {b : List Tk} {p : Int} (h : ∀ t ∈ b, GoodT t) : MayP (b ++ [⟨0, p, ⟨#[]⟩, 0⟩]) := by
  refine ⟨by simp, fun i t hi => ?_⟩
  by_cases c : i < b.length
  · rw [List.getElem?_append_left c] at hi
    have := h t (List.mem_of_getElem? hi)
    exact ⟨this.1, fun e => absurd e this.2.1, fun e => by simp at e; omega⟩
  · by_cases d : i = b.length
    · subst d
      rw [List.getElem?_append_right (Nat.le_refl _), Nat.sub_self] at hi
      cases hi
      exact ⟨Or.inl ⟨rfl, rfl, zero_0⟩, fun _ => by simp, fun _ => rfl⟩
    · rw [List.getElem?_append_right (by omega), List.getElem?_eq_none (by simp; omega)] at hi
      cases hi
theorem pieceL_fault2 {l : List UInt8} {k : Int} (h : pieceL l = .bad k) : 0 ≤ k ∧ k ≤ l.length := by
  cases l with
  | nil => cases h; simp
  | cons c r =>
    rw [pieceL_cons] at h
    split at h
    · have := nameL_F (c :: r); rw [h] at this; have e : k = 0 := this; subst e; simp; omega
    · split at h
      · have := numberL_F (c :: r); rw [h] at this; have e : k = 0 := this; subst e; simp; omega
      · split at h
        · unfold literalL at h
          split at h
          · cases h; simp; omega
          · rename_i e he
            have hat := plainO_at (mkB (((c :: r).drop 1).take (e - 1)))
            rw [mkB_size, List.length_take] at hat
            generalize plainO (mkB (((c :: r).drop 1).take (e - 1))) = q at *
            unfold plainP at h
            split at h
            · cases h
            · split at h <;> cases h
              · simp at hat ⊢; omega
              · simp; omega
        · have := signL_F (c :: r); rw [h] at this; have e : k = 0 := this; subst e; simp; omega
/-- an error's place lies within the text -/
theorem toksF_place (L : List UInt8) : ∀ (f i : Nat) (acc : List Tk) (a k : Int), i ≤ L.length → toksF f i (L.drop i) acc = .err a k → 0 ≤ a ∧ a ≤ L.length
  | 0, _, _, _, _, _, h => by cases h; constructor <;> omega
  | f + 1, i, acc, a, k, hi, h => by
    have hge := passM_ge (L.drop i) 0 i i
    have hle := (passM_le (L.drop i) 0 i i (Nat.le_refl _)).2
    rw [List.length_drop] at hle
    obtain ⟨⟨p, y⟩, hp⟩ : ∃ x, passM 0 i i (L.drop i) = x := ⟨_, rfl⟩
    rw [hp] at hge hle
    dsimp only at hge hle
    cases y with
    | false => rw [toks_stop hp] at h; cases h; constructor <;> omega
    | true =>
      have hip := hge rfl
      by_cases he : L.length ≤ p
      · rw [toks_end hip hp he] at h; cases h
      · cases hk : pieceL (L.drop p) with
        | bad j =>
          rw [toks_bad hip hp (by omega) hk] at h; cases h
          have := pieceL_fault2 hk
          rw [List.length_drop] at this
          constructor <;> omega
        | tok kd t n wd =>
          by_cases hm : acc.length = 16384
          · rw [toks_many hip hp (by omega) hk hm] at h; cases h; constructor <;> omega
          · rw [toks_step hip hp (by omega) hk hm] at h
            obtain ⟨hw1, hw2⟩ := pieceL_wide hk
            rw [List.length_drop] at hw2
            exact toksF_place L f (p + wd) _ a k (by omega) h
end Go.Proofs.YtgjpcoplnpkmoaaGreatDoor.S
