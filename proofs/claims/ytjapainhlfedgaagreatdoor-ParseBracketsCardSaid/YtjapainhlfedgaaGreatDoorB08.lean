/-
  Tokens laid one behind the other are read as they were; what is read may be, and stands at its place: plain mathematics.
-/
import Derived.Test.YtjapainhlfedgaaGreatDoorB07
import Derived.Test.YtjapainhlfedgaaGreatDoorB06
import Derived.Test.YtjapainhlfedgaaGreatDoorB04
import Derived.Deep.AppendLies
import Derived.Deep.Draws
import Derived.Shelf.Strings.BuilderK
import Derived.Lib.OthersKept
namespace Go.Proofs.YtjapainhlfedgaaGreatDoor.S
open Go.RowKit Fl

def SameT (a b : Tk) : Prop := a.kind = b.kind ∧ a.text = b.text ∧ FloatKind.f64.format.order a.num b.num = some .eq
def SameL (a b : List Tk) : Prop := a.length = b.length ∧ ∀ (i : Nat) (x y : Tk), a[i]? = some x → b[i]? = some y → SameT x y
theorem sameL_cons {x y : Tk} {a b : List Tk} (h : SameT x y) (g : SameL a b) : SameL (x :: a) (y :: b) := by
  refine ⟨by rw [List.length_cons, List.length_cons, g.1], fun i u v hu hv => ?_⟩
  cases i with
  | zero => rw [List.getElem?_cons_zero] at hu hv; cases hu; cases hv; exact h
  | succ i => rw [List.getElem?_cons_succ] at hu hv; exact g.2 i u v hu hv
theorem sameL_nil : SameL [] [] := ⟨rfl, fun i u v hu hv => by simp at hu⟩

/-- what stands between tokens, and what stands at the end -/
def skipS (sp : List UInt8) : Prop := ∀ i st X, ∃ st', passM 0 st i (sp ++ X) = passM 0 st' (i + sp.length) X
def skipE (e : List UInt8) : Prop := ∀ i st, passM 0 st i e = (i + e.length, true)
def laidB (sp e : List UInt8) : List Tk → List UInt8
  | [] => e
  | t :: r => sp ++ (writL t ++ laidB sp e r)
def GoodT (t : Tk) : Prop := TokP t ∧ t.kind ≠ 0 ∧ t.num < 2 ^ 64

theorem laid_ahead {sp e : List UInt8} (hs : sp.head? = some 32) (he : BlankAhead e) (l : List Tk) : BlankAhead (laidB sp e l) := by
  cases l with
  | nil => exact he
  | cons t r =>
    refine Or.inr ?_
    show (sp ++ _).head? = some 32
    cases sp with
    | nil => cases hs
    | cons c r => rw [List.cons_append, List.head?_cons]; rw [List.head?_cons] at hs; exact hs

theorem read_one {sp e : List UInt8} (hs : sp.head? = some 32) (he : BlankAhead e) {s0 : List UInt8} (h0 : skipS s0) (t : Tk) (r : List Tk) (ht : GoodT t) (f i : Nat) (acc : List Tk) (ha : acc.length < 16384) :
    ∃ u j, toksF (f + 1) i (s0 ++ (writL t ++ laidB sp e r)) acc = toksF f j (laidB sp e r) (acc ++ [u]) ∧ SameT u t := by
  have hA := laid_ahead hs he r
  obtain ⟨n, hp, hn⟩ := piece_back t ht.1 ht.2.1 ht.2.2 _ hA
  obtain ⟨st, hst⟩ := h0 i i (writL t ++ laidB sp e r)
  obtain ⟨hb, hne⟩ := pass_back t ht.1 ht.2.1 _ hA st (i + s0.length)
  rw [hb] at hst
  refine ⟨⟨t.kind, (i + s0.length : Nat), t.text, n⟩, i + s0.length + (writL t).length, ?_, rfl, rfl, hn⟩
  conv => lhs; unfold toksF
  have hd : (s0 ++ (writL t ++ laidB sp e r)).drop (i + s0.length - i) = writL t ++ laidB sp e r := by rw [show i + s0.length - i = s0.length by omega, List.drop_left]
  rw [hst]
  dsimp only
  rw [hd, if_neg (by simp), if_neg (by simp [hne]), hp]
  dsimp only
  rw [if_neg (by omega), List.drop_left]

theorem read_laid {sp e : List UInt8} (hs : sp.head? = some 32) (hsk : skipS sp) (he : BlankAhead e) (hek : skipE e) : ∀ (l : List Tk) (f i : Nat) (acc : List Tk), (∀ t ∈ l, GoodT t) → l.length < f → acc.length + l.length ≤ 16384 →
    ∃ r p, toksF f i (laidB sp e l) acc = .ok (acc ++ r ++ [⟨0, p, ⟨#[]⟩, 0⟩]) ∧ SameL r l
  | [], f, i, acc, _, hf, _ => by
    obtain ⟨g, rfl⟩ : ∃ g, f = g + 1 := ⟨f - 1, by simp at hf; omega⟩
    refine ⟨[], (i + e.length : Nat), ?_, sameL_nil⟩
    show toksF (g + 1) i e acc = _
    unfold toksF
    rw [hek i i]
    dsimp only
    rw [if_neg (by simp), if_pos (by rw [show i + e.length - i = e.length by omega]; exact List.drop_eq_nil_of_le (Nat.le_refl _)), List.append_nil]
  | t :: r, f, i, acc, hl, hf, ha => by
    obtain ⟨g, rfl⟩ : ∃ g, f = g + 1 := ⟨f - 1, by simp at hf; omega⟩
    rw [List.length_cons] at hf ha
    obtain ⟨u, j, hu, hsu⟩ := read_one hs he hsk t r (hl t List.mem_cons_self) g i acc (by omega)
    obtain ⟨q, p, hq, hsq⟩ := read_laid hs hsk he hek r g j (acc ++ [u]) (fun x hx => hl x (List.mem_cons_of_mem _ hx)) (by omega) (by simp; omega)
    refine ⟨u :: q, p, ?_, sameL_cons hsu hsq⟩
    show toksF (g + 1) i (sp ++ (writL t ++ laidB sp e r)) acc = _
    rw [hu, hq]; simp
/-- the same, whatever stands ahead of the first -/
theorem read_all {sp e : List UInt8} (hs : sp.head? = some 32) (hsk : skipS sp) (he : BlankAhead e) (hek : skipE e) {s0 e0 : List UInt8} (h0 : skipS s0) (he0 : skipE (s0 ++ e0)) (l : List Tk) (hl : ∀ t ∈ l, GoodT t) (L : List UInt8)
    (hL : L = s0 ++ (match l with | [] => e0 | t :: r => writL t ++ laidB sp e r)) (hlen : l.length ≤ 16384) (hsz : L.length ≤ 65536) (hf : l.length ≤ L.length) : ∃ r p, toks L = .ok (r ++ [⟨0, p, ⟨#[]⟩, 0⟩]) ∧ SameL r l := by
  unfold toks
  rw [if_neg (by omega)]
  cases l with
  | nil =>
    dsimp only at hL
    refine ⟨[], (0 + L.length : Nat), ?_, sameL_nil⟩
    unfold toksF
    rw [hL, he0 0 0]
    dsimp only
    rw [if_neg (by simp), if_pos (by rw [Nat.zero_add, Nat.sub_zero]; exact List.drop_eq_nil_of_le (Nat.le_refl _))]
  | cons t r =>
    dsimp only at hL
    rw [List.length_cons] at hlen hf
    obtain ⟨u, j, hu, hsu⟩ := read_one hs he h0 t r (hl t List.mem_cons_self) L.length 0 [] (by simp)
    obtain ⟨q, p, hq, hsq⟩ := read_laid hs hsk he hek r L.length j ([] ++ [u]) (fun x hx => hl x (List.mem_cons_of_mem _ hx)) (by omega) (by simp; omega)
    refine ⟨u :: q, p, ?_, sameL_cons hsu hsq⟩
    rw [← hL] at hu
    rw [hu, hq]; simp

theorem skip_nil : skipS [] := fun _ st _ => ⟨st, rfl⟩
theorem skip_blank : skipS [32] := fun i st X => ⟨st, by
  show passM 0 st i (32 :: X) = passM 0 st (i + 1) X
  rw [passM_0, if_pos (by decide)]⟩
theorem skipE_nil : skipE [] := fun i st => by rw [passM_nil, if_pos (by omega)]; rfl
theorem tailL_laid : ∀ l : List Tk, tailL l = laidB [32] [] l
  | [] => rfl
  | t :: r => by
    show 32 :: writL t ++ tailL r = [32] ++ (writL t ++ laidB [32] [] r)
    rw [tailL_laid r]; rfl
theorem writ_ne {t : Tk} (h : GoodT t) : 1 ≤ (writL t).length := by
  have := (pass_back t h.1 h.2.1 [] (Or.inl rfl) 0 0).2
  exact List.length_pos_iff.2 this
theorem tail_len : ∀ l : List Tk, l.length ≤ (tailL l).length
  | [] => Nat.zero_le _
  | t :: r => by
    have := tail_len r
    show r.length + 1 ≤ (32 :: writL t ++ tailL r).length
    simp; omega
theorem join_len (l : List Tk) (h : ∀ t ∈ l, GoodT t) : l.length ≤ (joinL l).length := by
  cases l with
  | nil => simp
  | cons t r =>
    have h1 := writ_ne (h t List.mem_cons_self)
    have h2 := tail_len r
    show r.length + 1 ≤ (writL t ++ tailL r).length
    rw [List.length_append]; omega
/-- tokens written as a text are read back -/
theorem read_join (l : List Tk) (hl : ∀ t ∈ l, GoodT t) (hlen : l.length ≤ 16384) (hsz : (joinL l).length ≤ 65536) : ∃ r p, toks (joinL l) = .ok (r ++ [⟨0, p, ⟨#[]⟩, 0⟩]) ∧ SameL r l := by
  refine read_all (sp := [32]) (e := []) rfl skip_blank (Or.inl rfl) skipE_nil (s0 := []) (e0 := []) skip_nil skipE_nil l hl (joinL l) ?_ hlen hsz (join_len l hl)
  cases l with
  | nil => rfl
  | cons t r => show writL t ++ tailL r = _; rw [tailL_laid]; rfl

theorem may_split {l : List Tk} (h : MayP l) (hx : ∀ t ∈ l, t.num < 2 ^ 64) : ∃ b e, l = b ++ [e] ∧ (∀ t ∈ b, GoodT t) ∧ e.kind = 0 ∧ e.text = ⟨#[]⟩ ∧ zeroP e.num := by
  obtain ⟨h0, h1⟩ := h
  obtain ⟨b, e, rfl⟩ : ∃ b e, l = b ++ [e] := ⟨l.dropLast, l.getLast h0, (List.dropLast_concat_getLast h0).symm⟩
  refine ⟨b, e, rfl, ?_, ?_⟩
  · intro t ht
    obtain ⟨i, hi⟩ := List.getElem?_of_mem ht
    have hlt : i < b.length := (List.getElem?_eq_some_iff.1 hi).1
    obtain ⟨p, q⟩ := h1 i t (by rw [List.getElem?_append_left hlt]; exact hi)
    refine ⟨p, fun e => ?_, hx t (List.mem_append_left _ ht)⟩
    have := q.1 e
    rw [List.length_append, List.length_singleton] at this; omega
  · obtain ⟨p, q⟩ := h1 b.length e (by rw [List.getElem?_append_right (Nat.le_refl _)]; simp)
    have hk : e.kind = 0 := q.2 (by simp)
    refine ⟨hk, ?_⟩
    rcases p with ⟨_, a, b⟩ | ⟨k, _⟩ | ⟨k, _⟩ | ⟨k, _⟩
    · exact ⟨a, b⟩
    all_goals omega
theorem sameL_snoc {a b : List Tk} {x y : Tk} (h : SameL a b) (g : SameT x y) : SameL (a ++ [x]) (b ++ [y]) := by
  refine ⟨by simp [h.1], fun i u v hu hv => ?_⟩
  by_cases c : i < a.length
  · rw [List.getElem?_append_left c] at hu
    rw [List.getElem?_append_left (by rw [← h.1]; exact c)] at hv
    exact h.2 i u v hu hv
  · by_cases d : i = a.length
    · subst d
      rw [List.getElem?_append_right (Nat.le_refl _), Nat.sub_self] at hu
      rw [h.1, List.getElem?_append_right (Nat.le_refl _), Nat.sub_self] at hv
      cases hu; cases hv; exact g
    · rw [List.getElem?_append_right (by omega), List.getElem?_eq_none (by simp; omega)] at hu
      cases hu

/-! ### what is read may be -/
/-- a token at its place in a text -/
def AtP (L : List UInt8) (t : Tk) : Prop := ∃ p : Nat, t.pos = (p : Int) ∧ p < L.length ∧ ((t.kind = 1 ∨ t.kind = 2 ∨ t.kind = 5) → p + t.text.size ≤ L.length ∧ (L.drop p).take t.text.size = t.text.data.toList)
theorem ours_nat (v : Nat) (h : v ≤ 9007199254740991) : numOurs (F (v : Int)) := ⟨v, h, rfl⟩
theorem plain_size {u t : ByteArray} {a : Int} (h : plainO u = (t, a, 0)) : t.size ≤ 4096 := by
  unfold plainO at h
  split at h
  · cases h
  · cases hr : plainR u u.size 0 [] with
    | inl j => rw [hr] at h; unfold outOf at h; cases h
    | inr acc =>
      rw [hr] at h
      by_cases c : acc.length > 4096
      · rw [outOf_long acc c] at h; cases h
      · rw [outOf_short acc c] at h; cases h; rw [mk_size]; omega
theorem alone_sign : ∀ {x : List UInt8}, x ∈ signsL → pieceL x = .tok 5 (mkB x) 0 x.length := by
  intro x hx
  have hs := signL_app (sign_mem.2 hx) [] (Or.inl rfl)
  rw [List.append_nil] at hs
  obtain ⟨_, h1⟩ := signs_len3 x hx
  cases x with
  | nil => simp at h1
  | cons c r =>
    obtain ⟨i1, i2, i3, i4, _⟩ := signs_first _ hx c rfl
    rw [pieceL_cons, if_neg (by rw [i1]; decide), if_neg (by rw [i2]; decide), if_neg (by rintro (h | h); exact i3 h; exact i4 h)]
    exact hs
theorem piece_may {l : List UInt8} {k : Nat} {t : ByteArray} {n wd : Nat} (h : pieceL l = .tok k t n wd) (p : Int) : GoodT ⟨k, p, t, n⟩ ∧ ((k = 1 ∨ k = 2 ∨ k = 5) → t.size = wd ∧ l.take wd = t.data.toList) := by
  cases l with
  | nil => cases h
  | cons c r =>
    rcases kind_of h with ⟨c1, kk, hn⟩ | ⟨c1, c2, kk, hn⟩ | ⟨c1, c2, c3, kk, hn⟩ | ⟨c1, c2, c3, kk, hn⟩
    · unfold nameL at hn
      split at hn
      · cases hn
      · rename_i hle
        injection hn with h1 h2 h3 h4
        subst h4 h3 h2
        have hr := runL_le innB (c :: r)
        have hlen : ((c :: r).take (runL innB (c :: r))).length = runL innB (c :: r) := by rw [List.length_take]; omega
        have hpos : 1 ≤ runL innB (c :: r) := by rw [runL_cons, if_pos (by unfold innB; rw [c1]; rfl)]; omega
        have hal := run_take_all innB (c :: r)
        refine ⟨⟨Or.inr (Or.inr (Or.inr ⟨by rcases kk with e | e <;> simp [e], zero_0, ?_⟩)), by simp; omega, by simp⟩, fun _ => ⟨by rw [mkB_size, hlen], rfl⟩⟩
        show aloneP k ((c :: r).take (runL innB (c :: r)))
        obtain ⟨j, hj⟩ : ∃ j, runL innB (c :: r) = j + 1 := ⟨runL innB (c :: r) - 1, by omega⟩
        have hna := nameL_app hal (by rw [hlen]; omega) [] (Or.inl rfl)
        rw [List.append_nil, h1] at hna
        refine ⟨mkB ((c :: r).take (runL innB (c :: r))), 0, ?_⟩
        rw [← hna]
        rw [hj, List.take_succ_cons, pieceL_cons, if_pos c1]
    · unfold numberL at hn
      split at hn
      · cases hn
      · have hne : (c :: r).take (runL isDig (c :: r)) ≠ [] := by
          rw [runL_cons, if_pos c2, List.take_succ_cons]; simp
        rw [readR_dig hne (run_take_all isDig (c :: r))] at hn
        by_cases hv : valD ((c :: r).take (runL isDig (c :: r))) ≤ 9007199254740991
        · rw [if_pos hv] at hn
          injection hn with h1 h2 h3 h4
          subst h3 h2 kk
          exact ⟨⟨Or.inr (Or.inl ⟨rfl, rfl, ours_nat _ hv⟩), by simp, F_lt _⟩, fun h => by omega⟩
        · rw [if_neg hv] at hn; cases hn
    · unfold literalL at hn
      split at hn
      · cases hn
      · rename_i e he
        have hh := plainP_le hn
        generalize hq : plainO (mkB (((c :: r).drop 1).take (e - 1))) = q at *
        obtain ⟨t', a', k'⟩ := q
        obtain ⟨_, h2, h3, h4, h5⟩ := hh
        dsimp only at h4 h5
        subst h4 h5 h3 kk
        exact ⟨⟨Or.inr (Or.inr (Or.inl ⟨rfl, plain_size hq, zero_0⟩)), by simp, by simp⟩, fun h => by omega⟩
    · unfold signL at hn
      split at hn
      · cases hn
      · rename_i hsn
        injection hn with h1 h2 h3 h4
        subst h4 h3 h2 kk
        obtain ⟨g1, g2⟩ := sg_1 (c :: r) _ (by omega) rfl
        have hlen : ((c :: r).take (signN (c :: r))).length = signN (c :: r) := by rw [List.length_take]; omega
        exact ⟨⟨Or.inr (Or.inr (Or.inr ⟨Or.inr (Or.inr rfl), zero_0, _, _, alone_sign (sign_mem.1 g2)⟩)), by simp, by simp⟩, fun _ => ⟨by rw [mkB_size, hlen], rfl⟩⟩

def BodyP (L : List UInt8) (l : List Tk) (i : Nat) : Prop := (∀ t ∈ l, GoodT t ∧ AtP L t ∧ t.pos < (i : Int)) ∧ l.Pairwise (fun a b => a.pos < b.pos)
theorem toksF_told (L : List UInt8) : ∀ (f i : Nat) (acc r : List Tk), i ≤ L.length → BodyP L acc i → toksF f i (L.drop i) acc = .ok r → ∃ b, r = b ++ [⟨0, (L.length : Int), ⟨#[]⟩, 0⟩] ∧ BodyP L b L.length ∧ (acc.length ≤ 16384 → b.length ≤ 16384)
  | 0, _, _, _, _, _, h => by cases h
  | f + 1, i, acc, r, hi, hb, h => by
    have hge := passM_ge (L.drop i) 0 i i
    have hle := (passM_le (L.drop i) 0 i i (Nat.le_refl _)).2
    rw [List.length_drop] at hle
    obtain ⟨⟨p, y⟩, hp⟩ : ∃ x, passM 0 i i (L.drop i) = x := ⟨_, rfl⟩
    rw [hp] at hge hle
    dsimp only at hge hle
    cases y with
    | false => rw [toks_stop hp] at h; cases h
    | true =>
      have hip := hge rfl
      by_cases he : L.length ≤ p
      · rw [toks_end hip hp he] at h
        cases h
        have : p = L.length := by omega
        subst this
        exact ⟨acc, rfl, ⟨fun t ht => ⟨(hb.1 t ht).1, (hb.1 t ht).2.1, by have := (hb.1 t ht).2.2; omega⟩, hb.2⟩, id⟩
      · cases hk : pieceL (L.drop p) with
        | bad j => rw [toks_bad hip hp (by omega) hk] at h; cases h
        | tok k t n wd =>
          by_cases hm : acc.length = 16384
          · rw [toks_many hip hp (by omega) hk hm] at h; cases h
          · rw [toks_step hip hp (by omega) hk hm] at h
            obtain ⟨hw1, hw2⟩ := pieceL_wide hk
            rw [List.length_drop] at hw2
            obtain ⟨hg, hat⟩ := piece_may hk (p : Int)
            have hb2 : BodyP L (acc ++ [⟨k, (p : Int), t, n⟩]) (p + wd) := by
              refine ⟨fun u hu => ?_, ?_⟩
              · rw [List.mem_append, List.mem_singleton] at hu
                rcases hu with hu | rfl
                · obtain ⟨q1, q2, q3⟩ := hb.1 u hu
                  exact ⟨q1, q2, by omega⟩
                · refine ⟨hg, ⟨p, rfl, by omega, fun hh => ?_⟩, by show (p : Int) < _; omega⟩
                  obtain ⟨e1, e2⟩ := hat hh
                  exact ⟨by show p + t.size ≤ _; omega, by show (L.drop p).take t.size = _; rw [e1]; exact e2⟩
              · rw [List.pairwise_append]
                refine ⟨hb.2, List.pairwise_singleton _ _, fun a ha b hb' => ?_⟩
                rw [List.mem_singleton] at hb'
                subst hb'
                have := (hb.1 a ha).2.2
                show a.pos < (p : Int)
                omega
            obtain ⟨b, h1, h2, h3⟩ := toksF_told L f (p + wd) _ r (by omega) hb2 h
            exact ⟨b, h1, h2, fun hl => h3 (by simp; omega)⟩
theorem toks_told {L : List UInt8} {r : List Tk} (h : toks L = .ok r) : ∃ b, r = b ++ [⟨0, (L.length : Int), ⟨#[]⟩, 0⟩] ∧ BodyP L b L.length ∧ b.length ≤ 16384 ∧ L.length ≤ 65536 := by
  unfold toks at h
  split at h
  · cases h
  · have h' : toksF (L.length + 1) 0 (L.drop 0) [] = .ok r := h
    obtain ⟨b, h1, h2, h3⟩ := toksF_told L _ 0 [] r (Nat.zero_le _) ⟨fun t ht => (by cases ht), List.Pairwise.nil⟩ h'
    exact ⟨b, h1, h2, h3 (Nat.zero_le _), by omega⟩
theorem told_may {b : List Tk} {p : Int} (h : ∀ t ∈ b, GoodT t) : MayP (b ++ [⟨0, p, ⟨#[]⟩, 0⟩]) := by
  refine ⟨by simp, fun i t hi => ?_⟩
  by_cases c : i < b.length
  · rw [List.getElem?_append_left c] at hi
    have := h t (List.mem_of_getElem? hi)
    exact ⟨this.1, fun e => absurd e this.2.1, fun e => by simp at e; omega⟩
  · by_cases d : i = b.length
    · subst d
      rw [List.getElem?_append_right (Nat.le_refl _), Nat.sub_self] at hi
      cases hi
      exact ⟨Or.inl ⟨rfl, rfl, zero_0⟩, fun _ => by simp, fun _ => rfl⟩
    · rw [List.getElem?_append_right (by omega), List.getElem?_eq_none (by simp; omega)] at hi
      cases hi
theorem pieceL_fault2 {l : List UInt8} {k : Int} (h : pieceL l = .bad k) : 0 ≤ k ∧ k ≤ l.length := by
  cases l with
  | nil => cases h; simp
  | cons c r =>
    rw [pieceL_cons] at h
    split at h
    · have := nameL_F (c :: r); rw [h] at this; have e : k = 0 := this; subst e; simp; omega
    · split at h
      · have := numberL_F (c :: r); rw [h] at this; have e : k = 0 := this; subst e; simp; omega
      · split at h
        · unfold literalL at h
          split at h
          · cases h; simp; omega
          · rename_i e he
            have hat := plainO_at (mkB (((c :: r).drop 1).take (e - 1)))
            rw [mkB_size, List.length_take] at hat
            generalize plainO (mkB (((c :: r).drop 1).take (e - 1))) = q at *
            unfold plainP at h
            split at h
            · cases h
            · split at h <;> cases h
              · simp at hat ⊢; omega
              · simp; omega
        · have := signL_F (c :: r); rw [h] at this; have e : k = 0 := this; subst e; simp; omega
/-- an error's place lies within the text -/
theorem toksF_place (L : List UInt8) : ∀ (f i : Nat) (acc : List Tk) (a k : Int), i ≤ L.length → toksF f i (L.drop i) acc = .err a k → 0 ≤ a ∧ a ≤ L.length
  | 0, _, _, _, _, _, h => by cases h; constructor <;> omega
  | f + 1, i, acc, a, k, hi, h => by
    have hge := passM_ge (L.drop i) 0 i i
    have hle := (passM_le (L.drop i) 0 i i (Nat.le_refl _)).2
    rw [List.length_drop] at hle
    obtain ⟨⟨p, y⟩, hp⟩ : ∃ x, passM 0 i i (L.drop i) = x := ⟨_, rfl⟩
    rw [hp] at hge hle
    dsimp only at hge hle
    cases y with
    | false => rw [toks_stop hp] at h; cases h; constructor <;> omega
    | true =>
      have hip := hge rfl
      by_cases he : L.length ≤ p
      · rw [toks_end hip hp he] at h; cases h
      · cases hk : pieceL (L.drop p) with
        | bad j =>
          rw [toks_bad hip hp (by omega) hk] at h; cases h
          have := pieceL_fault2 hk
          rw [List.length_drop] at this
          constructor <;> omega
        | tok kd t n wd =>
          by_cases hm : acc.length = 16384
          · rw [toks_many hip hp (by omega) hk hm] at h; cases h; constructor <;> omega
          · rw [toks_step hip hp (by omega) hk hm] at h
            obtain ⟨hw1, hw2⟩ := pieceL_wide hk
            rw [List.length_drop] at hw2
            exact toksF_place L f (p + wd) _ a k (by omega) h
end Go.Proofs.YtjapainhlfedgaaGreatDoor.S
/-
  Two lists of tokens that hold the same are told to be the same: the document's own Same.
-/
namespace Go.Proofs.YtjapainhlfedgaaGreatDoor.S
open Go.RowKit Fl

/-- a slice at A reads as the tokens l -/
def RdT (w : World) (A : Option Addr) (l : List Tk) : Prop := 0 < l.length → ∃ g, A = some ⟨g, 0, none⟩ ∧ ∀ j, j < l.length * 4 → w.cell? ⟨g, j, none⟩ = (tkCells l)[j]?
theorem rd_of {B : Nat} {A : Option Addr} {n cap : Nat} {l : List Tk} {w0 w : World} (h : TB B (.slice A n cap) l w0 w) : RdT w A l := by
  intro hl
  have h0 := h.1
  rcases h.1.2 with ⟨_, h1⟩ | ⟨g, cap', cur, hv, hb, hh, _⟩
  · omega
  · injection hv with hA hn hc
    subst hA hn hc
    exact ⟨g, rfl, fun j hj => h0.cellAt j hj⟩
theorem tkCells_at (l : List Tk) : ∀ (k : Nat) (hk : k < l.length) (j : Nat), j < 4 → (tkCells l)[k * 4 + j]? = (tkC l[k])[j]? := by
  induction l with
  | nil => intro k hk; simp at hk
  | cons t r ih =>
    intro k hk j hj
    have e : tkCells (t :: r) = tkC t ++ tkCells r := by unfold tkCells; rw [List.flatMap_cons]
    rw [e]
    have hl : (tkC t).length = 4 := rfl
    cases k with
    | zero => rw [Nat.zero_mul, Nat.zero_add, List.getElem?_append_left (by omega)]; rfl
    | succ k =>
      rw [List.getElem?_append_right (by omega), hl, List.getElem_cons_succ]
      have e2 : (k + 1) * 4 + j - 4 = k * 4 + j := by omega
      rw [e2]
      exact ih k (by simpa using hk) j hj

end Go.Proofs.YtjapainhlfedgaaGreatDoor.S
/-
  Which tokens may be, and tokens written as a text: walks of package lex.
-/
namespace Go.Proofs.YtjapainhlfedgaaGreatDoor.S
open Go.RowKit Fl

/-! ### a slice that reads as tokens, wherever it lies -/
theorem block_of_add (a : Addr) (n : Nat) : (a.add n).block = a.block := by
  cases n with
  | zero => rfl
  | succ n => rfl
theorem add_of_add (a : Addr) (i j : Nat) : (a.add i).add j = a.add (i + j) := by
  cases i with
  | zero => rw [Nat.zero_add]; rfl
  | succ i =>
    cases j with
    | zero => rfl
    | succ j =>
      have e : i + 1 + (j + 1) = (i + 1 + j) + 1 := by omega
      rw [e]
      unfold Addr.add
      rw [if_neg (by omega), if_neg (by omega), if_neg (by omega)]
      congr 1
      dsimp only
      omega
def RdA (w : World) (A : Option Addr) (l : List Tk) : Prop := 0 < l.length → ∃ a, A = some a ∧ a.block < w.heap.size ∧ ∀ j, j < l.length * 4 → w.cell? (a.add j) = (tkCells l)[j]?
theorem rda_up {w w' : World} {A : Option Addr} {l : List Tk} (h : RdA w A l) (hb : Below w.heap.size w w') : RdA w' A l := fun hl => by
  obtain ⟨a, ha, hlt, hc⟩ := h hl
  exact ⟨a, ha, Nat.lt_of_lt_of_le hlt hb.size, fun j hj => (hb.cell (p := a.add j) (by rw [block_of_add]; exact hlt)).trans (hc j hj)⟩
theorem rda_tb {B : Nat} {A : Option Addr} {n cap : Nat} {l : List Tk} {w0 w : World} (h : TB B (.slice A n cap) l w0 w) : RdA w A l := fun hl => by
  have h0 := h.1
  rcases h.1.2 with ⟨_, h1⟩ | ⟨g, cap', cur, hv, hb, hh, _⟩
  · omega
  · injection hv with hA hn hc
    subst hA hn hc
    refine ⟨_, rfl, (h0.lt g rfl).2, fun j hj => ?_⟩
    have e : (⟨g, 0, none⟩ : Addr).add j = ⟨g, j, none⟩ := by unfold Addr.add; split <;> simp_all
    rw [e]
    exact h0.cellAt j hj
theorem tkCells_take (l : List Tk) (m : Nat) (hm : m ≤ l.length) (j : Nat) (hj : j < m * 4) : (tkCells (l.take m))[j]? = (tkCells l)[j]? := by
  have e : tkCells l = tkCells (l.take m) ++ tkCells (l.drop m) := by
    unfold tkCells; rw [← List.flatMap_append, List.take_append_drop]
  rw [e, List.getElem?_append_left]
  rw [tkCells_len, List.length_take]; omega
theorem rda_take {w : World} {A : Option Addr} {l : List Tk} (h : RdA w A l) (m : Nat) (hm : m ≤ l.length) : RdA w A (l.take m) := fun hl => by
  rw [List.length_take] at hl
  obtain ⟨a, ha, hlt, hc⟩ := h (by omega)
  refine ⟨a, ha, hlt, fun j hj => ?_⟩
  rw [List.length_take] at hj
  rw [tkCells_take l m hm j (by omega)]
  exact hc j (by omega)
/-- the four cells of one token -/
theorem rda_at {w : World} {A : Option Addr} {l : List Tk} (h : RdA w A l) (k : Nat) (hk : k < l.length) : ∃ a, A = some a ∧ a.block < w.heap.size ∧
    w.cell? (a.add (k * 4)) = some (.int .u8 (l[k].kind : Int)) ∧ w.cell? (a.add (k * 4 + 1)) = some (.int .i64 l[k].pos) ∧ w.cell? (a.add (k * 4 + 2)) = some (.string l[k].text) ∧ w.cell? (a.add (k * 4 + 3)) = some (.float .f64 l[k].num) := by
  obtain ⟨a, ha, hlt, hc⟩ := h (by omega)
  exact ⟨a, ha, hlt, (hc (k * 4 + 0) (by omega)).trans (tkCells_at l k hk 0 (by omega)), (hc (k * 4 + 1) (by omega)).trans (tkCells_at l k hk 1 (by omega)), (hc (k * 4 + 2) (by omega)).trans (tkCells_at l k hk 2 (by omega)), (hc (k * 4 + 3) (by omega)).trans (tkCells_at l k hk 3 (by omega))⟩
theorem bb_up {B b : Nat} {l : List UInt8} {w0 w w' : World} (h : BB B b l w0 w) (hb : Below w.heap.size w w') : BB B b l w0 w' := by
  have key : ∀ p, Lib.BuilderAt 82 5 B b p (Lib.byteCells l) w → Lib.BuilderAt 82 5 B b p (Lib.byteCells l) w' := by
    intro p g
    have hlt := g.lt
    obtain ⟨h1, v, h2, h3, h4⟩ := g
    refine ⟨h1, v, by rw [hb.block b hlt]; exact h2, h3.kept (row := none) ⟨hb.os, hb.tape, hb.output, hb.size, fun k hk _ => hb.block k hk⟩ ?_, h4⟩
    rcases h3.2 with ⟨rfl, _⟩ | ⟨g, cap, cur, rfl, _⟩
    · exact Or.inl rfl
    · exact Or.inr (by simp [Value.ownBlock])
  exact ⟨h.1.imp (key _) (key _), h.2.1.trans (hb.mono h.2.2), Nat.le_trans h.2.2 hb.size⟩
theorem bb_below {B b : Nat} {l : List UInt8} {w0 w : World} (h : BB B b l w0 w) : Below B w0 w := h.2.1

/-! ### is a token what its Text is read as? -/
def aloneB (k : Nat) (l : List UInt8) : Bool := match pieceL l with | .tok k' _ _ wd => decide (k' = k) && decide (wd = l.length) | .bad _ => false
theorem aloneB_iff {k : Nat} {l : List UInt8} : aloneB k l = true ↔ aloneP k l := by
  unfold aloneB aloneP
  cases h : pieceL l with
  | tok k' t n wd =>
    dsimp only
    rw [Bool.and_eq_true, decide_eq_true_eq, decide_eq_true_eq]
    constructor
    · rintro ⟨rfl, rfl⟩; exact ⟨t, n, rfl⟩
    · rintro ⟨t', n', e⟩; injection e with e1 e2 e3 e4; exact ⟨e1, e4⟩
  | bad f =>
    dsimp only
    constructor
    · intro h; cases h
    · rintro ⟨t', n', e⟩; cases e

set_option maxHeartbeats 2000000 in
theorem alone_any (k : Nat) (p : Int) (s : ByteArray) (n : Nat) (hk0 : k ≠ 0) (hs : s.size ≤ 9223372036854775807) (w : World) :
    Calls Tryz.prog 88 #[.agg #[.int .u8 (k : Int), .int .i64 p, .string s, .float .f64 n]] w fun e w' => e = .returned (.bool (aloneB k s.data.toList)) ∧ Below w.heap.size w w' := by
  by_cases h0 : 0 < s.size
  · have hz : s.toList.isEmpty = false := by rw [toList_data]; cases hl : s.data.toList with | nil => rw [size_len, hl] at h0; exact absurd h0 (by simp) | cons _ _ => rfl
    have hz2 : (!s.data.toList.isEmpty) = true := by rw [← toList_data, hz]; rfl
    have kp := fun w => piece_any s h0 hs w
    have hl : s.data.toList.length = s.size := (size_len s).symm
    unfold aloneB
    rw [hl]
    generalize pieceL s.data.toList = r at *
    cases r with
    | bad f =>
      have kp : ∀ w, Calls Tryz.prog 26 #[.string s] w (fun e w' => e = .returned (.tuple #[.agg #[.int .u8 0, .int .i64 0, .string ⟨#[]⟩, .float .f64 0], .int .i64 0, .int .i64 f]) ∧ Below w.heap.size w w') := kp
      have hst := store_f
      have hk : ((0 : Int) == (k : Int)) = false := by rw [beq_eq_false_iff_ne]; omega
      clear hl
      go_enter Tryz.func88, Tryz.ntmps88
      go_wp2_with (go_at_call 26; refine (kp _).mono ?_; rintro e w1 ⟨rfl, h1⟩; obtain ⟨hc, hf⟩ := bcell h1; have hzz := lt_after h1; have H1 := Lib.hid h1; clear h1)
      go_ret
      exact ⟨rfl, alloc_of (after_alloc H1.out) (Nat.le_refl _) _⟩
    | tok k' t n' wd =>
      have kp : ∀ w, Calls Tryz.prog 26 #[.string s] w (fun e w' => e = .returned (.tuple #[.agg #[.int .u8 (k' : Int), .int .i64 0, .string t, .float .f64 n'], .int .i64 (wd : Int), .int .i64 0]) ∧ Below w.heap.size w w') := kp
      have hst := store_f
      clear hl
      dsimp only
      by_cases c1 : k' = k
      · have hk : ((k' : Int) == (k : Int)) = true := by rw [c1]; simp
        rw [decide_eq_true c1]
        clear c1
        by_cases c2 : wd = s.size
        · have hk2 : ((wd : Int) == (s.size : Int)) = true := by rw [c2]; simp
          rw [decide_eq_true c2]
          clear c2
          go_enter Tryz.func88, Tryz.ntmps88
          go_wp2_with (go_at_call 26; refine (kp _).mono ?_; rintro e w1 ⟨rfl, h1⟩; obtain ⟨hc, hf⟩ := bcell h1; have hzz := lt_after h1; have H1 := Lib.hid h1; clear h1)
          go_ret
          exact ⟨rfl, alloc_of (after_alloc H1.out) (Nat.le_refl _) _⟩
        · have hk2 : ((wd : Int) == (s.size : Int)) = false := by rw [beq_eq_false_iff_ne]; omega
          rw [decide_eq_false c2]
          clear c2
          go_enter Tryz.func88, Tryz.ntmps88
          go_wp2_with (go_at_call 26; refine (kp _).mono ?_; rintro e w1 ⟨rfl, h1⟩; obtain ⟨hc, hf⟩ := bcell h1; have hzz := lt_after h1; have H1 := Lib.hid h1; clear h1)
          go_ret
          exact ⟨rfl, alloc_of (after_alloc H1.out) (Nat.le_refl _) _⟩
      · have hk : ((k' : Int) == (k : Int)) = false := by rw [beq_eq_false_iff_ne]; omega
        rw [decide_eq_false c1]
        clear c1
        go_enter Tryz.func88, Tryz.ntmps88
        go_wp2_with (go_at_call 26; refine (kp _).mono ?_; rintro e w1 ⟨rfl, h1⟩; obtain ⟨hc, hf⟩ := bcell h1; have hzz := lt_after h1; have H1 := Lib.hid h1; clear h1)
        go_ret
        exact ⟨rfl, alloc_of (after_alloc H1.out) (Nat.le_refl _) _⟩
  · have hn : s.data.toList = [] := List.length_eq_zero_iff.1 (by rw [← size_len]; omega)
    have hs0 : s = ⟨#[]⟩ := str_ext hn
    subst hs0
    clear hn h0 hs
    go_enter Tryz.func88, Tryz.ntmps88
    go_wp2
    go_ret
    exact ⟨rfl, zero_alloc _ _⟩

/-! ### told: may a token be? -/
def zrB (x : Nat) : Bool := FloatKind.f64.format.order x 0 == some .eq
def nmB (c : Cl) : Bool := match c with | .ours n => decide (0 ≤ n) | _ => false
theorem zrB_iff {x : Nat} : zrB x = true ↔ zeroP x := by unfold zrB zeroP; simp
theorem told_other (k : Nat) (p : Int) (s : ByteArray) (n : Nat) (h : k ≠ 0 ∧ k ≠ 1 ∧ k ≠ 2 ∧ k ≠ 3 ∧ k ≠ 4 ∧ k ≠ 5) (w : World) :
    Calls Tryz.prog 59 #[.agg #[.int .u8 (k : Int), .int .i64 p, .string s, .float .f64 n]] w fun e w' => e = .returned (.bool false) ∧ Below w.heap.size w w' := by
  have h0 : ((k : Int) == 0) = false := by rw [beq_eq_false_iff_ne]; omega
  have h1 : ((k : Int) == 1) = false := by rw [beq_eq_false_iff_ne]; omega
  have h2 : ((k : Int) == 2) = false := by rw [beq_eq_false_iff_ne]; omega
  have h3 : ((k : Int) == 3) = false := by rw [beq_eq_false_iff_ne]; omega
  have h4 : ((k : Int) == 4) = false := by rw [beq_eq_false_iff_ne]; omega
  have h5 : ((k : Int) == 5) = false := by rw [beq_eq_false_iff_ne]; omega
  clear h
  go_enter Tryz.func59, Tryz.ntmps59
  go_wp2
  go_ret
  exact ⟨rfl, zero_alloc _ _⟩
theorem told_alone (k : Nat) (p : Int) (s : ByteArray) (n : Nat) (h : k = 1 ∨ k = 2 ∨ k = 5) (hs : s.size ≤ 9223372036854775807) (w : World) :
    Calls Tryz.prog 59 #[.agg #[.int .u8 (k : Int), .int .i64 p, .string s, .float .f64 n]] w fun e w' => e = .returned (.bool (zrB n && aloneB k s.data.toList)) ∧ Below w.heap.size w w' := by
  have ka := fun w => alone_any k p s n (by omega) hs w
  generalize aloneB k s.data.toList = b at *
  have hz : (FloatKind.f64.format.order n 0 == some .eq) = zrB n := rfl
  cases hc : zrB n
  all_goals
    rw [hc] at hz
    clear hc
    rcases h with rfl | rfl | rfl
    all_goals
      go_enter Tryz.func59, Tryz.ntmps59
      go_wp2_with (go_at_call 88; refine (ka _).mono ?_; rintro e w1 ⟨rfl, h1⟩; have H1 := Lib.hid h1; clear h1)
      go_ret
      first | exact ⟨rfl, zero_alloc _ _⟩ | exact ⟨ret_bool (by simp), after_alloc H1.out⟩
end Go.Proofs.YtjapainhlfedgaaGreatDoor.S
/-
  Which tokens may be, and how each is written: walks of package lex.
-/
namespace Go.Proofs.YtjapainhlfedgaaGreatDoor.S
open Go.RowKit Fl

theorem emp_or (s : ByteArray) : s = ⟨#[]⟩ ∨ (s ≠ ⟨#[]⟩ ∧ s.toList.isEmpty = false ∧ (!s.data.toList.isEmpty) = true) := by
  by_cases h : s.data.toList = []
  · exact Or.inl (str_ext h)
  · have hz : s.data.toList.isEmpty = false := by simpa using h
    exact Or.inr ⟨fun e => h (by rw [e]), by rw [toList_data]; exact hz, by rw [hz]; rfl⟩
theorem told_end (p : Int) (s : ByteArray) (n : Nat) (w : World) :
    Calls Tryz.prog 59 #[.agg #[.int .u8 0, .int .i64 p, .string s, .float .f64 n]] w fun e w' => e = .returned (.bool (s.data.toList.isEmpty && zrB n)) ∧ Below w.heap.size w w' := by
  have hz : (FloatKind.f64.format.order n 0 == some .eq) = zrB n := rfl
  cases hc : zrB n
  all_goals
    rw [hc] at hz
    clear hc
    rcases emp_or s with rfl | ⟨_, h1, h2⟩
    all_goals
      go_enter Tryz.func59, Tryz.ntmps59
      go_wp2
      go_ret
      exact ⟨ret_bool (by first | rfl | (rw [← toList_data, h1]; rfl)), zero_alloc _ _⟩
theorem told_str (p : Int) (s : ByteArray) (n : Nat) (hs : s.size ≤ 9223372036854775807) (w : World) :
    Calls Tryz.prog 59 #[.agg #[.int .u8 4, .int .i64 p, .string s, .float .f64 n]] w fun e w' => e = .returned (.bool (decide (s.size ≤ 4096) && zrB n)) ∧ Below w.heap.size w w' := by
  have hz : (FloatKind.f64.format.order n 0 == some .eq) = zrB n := rfl
  cases hc : zrB n
  all_goals
    rw [hc] at hz
    clear hc
    by_cases h : s.size ≤ 4096
    · rw [decide_eq_true h]
      go_enter Tryz.func59, Tryz.ntmps59
      go_wp2
      go_ret
      exact ⟨rfl, zero_alloc _ _⟩
    · rw [decide_eq_false h]
      have h' : ¬ (s.size : Int) ≤ 4096 := by omega
      go_enter Tryz.func59, Tryz.ntmps59
      go_wp2
      go_ret
      exact ⟨rfl, zero_alloc _ _⟩
theorem told_num (p : Int) (s : ByteArray) {c : Cl} {n : Nat} (h : Is c n) (w : World) :
    Calls Tryz.prog 59 #[.agg #[.int .u8 3, .int .i64 p, .string s, .float .f64 n]] w fun e w' => e = .returned (.bool (s.data.toList.isEmpty && nmB c)) ∧ Below w.heap.size w w' := by
  have km := fun w => May_cls h w
  rcases emp_or s with rfl | ⟨_, h1, h2⟩
  · cases c with
    | nan =>
      have ho : FloatKind.f64.format.order n 0 = none := order_nan_l 0 h.2
      clear h
      go_enter Tryz.func59, Tryz.ntmps59
      go_wp2_with (go_at_call 87; refine (km _).mono ?_; rintro e w1 ⟨rfl, rfl⟩)
      go_ret
      exact ⟨rfl, zero_alloc _ _⟩
    | other =>
      have km : ∀ w, Calls Tryz.prog 87 #[.float .f64 n] w (fun e w' => e = .returned (.bool false) ∧ w = w') := km
      clear h
      go_enter Tryz.func59, Tryz.ntmps59
      go_wp2_with (go_at_call 87; refine (km _).mono ?_; rintro e w1 ⟨rfl, rfl⟩)
      go_ret
      exact ⟨rfl, zero_alloc _ _⟩
    | ours m =>
      have km : ∀ w, Calls Tryz.prog 87 #[.float .f64 n] w (fun e w' => e = .returned (.bool true) ∧ w = w') := km
      obtain ⟨hn, hs⟩ := h
      have ho := order_F m 0 hs.abs (by decide)
      rw [← hn, F_zero] at ho
      have ho : FloatKind.f64.format.order n 0 = some (compare m 0) := ho
      clear hn hs
      by_cases hm : 0 ≤ m
      · have hb : nmB (.ours m) = true := decide_eq_true hm
        rw [hb]
        have hcmp : compare m 0 = .gt ∨ compare m 0 = .eq := by
          show (if m < 0 then Ordering.lt else if m = 0 then .eq else .gt) = .gt ∨ (if m < 0 then Ordering.lt else if m = 0 then .eq else .gt) = .eq
          rw [if_neg (by omega)]
          by_cases h0 : m = 0
          · rw [if_pos h0]; exact Or.inr rfl
          · rw [if_neg h0]; exact Or.inl rfl
        rcases hcmp with hh | hh
        all_goals
          rw [hh] at ho
          clear hh hb hm
          go_enter Tryz.func59, Tryz.ntmps59
          go_wp2_with (go_at_call 87; refine (km _).mono ?_; rintro e w1 ⟨rfl, rfl⟩)
          go_ret
          exact ⟨rfl, zero_alloc _ _⟩
      · have hb : nmB (.ours m) = false := decide_eq_false hm
        rw [hb]
        have hcmp : compare m 0 = .lt := by
          have : m < 0 := by omega
          simp [compare, compareOfLessAndEq, this]
        rw [hcmp] at ho
        clear hcmp hb hm
        go_enter Tryz.func59, Tryz.ntmps59
        go_wp2_with (go_at_call 87; refine (km _).mono ?_; rintro e w1 ⟨rfl, rfl⟩)
        go_ret
        exact ⟨rfl, zero_alloc _ _⟩
  · have hb : s.data.toList.isEmpty = false := by rw [← toList_data]; exact h1
    rw [hb]
    clear km h
    go_enter Tryz.func59, Tryz.ntmps59
    go_wp2
    go_ret
    exact ⟨rfl, zero_alloc _ _⟩

theorem nm_ours {c : Cl} {x : Nat} (h : Is c x) : nmB c = true ↔ numOurs x := by
  cases c with
  | nan =>
    refine ⟨fun h => (by cases h), ?_⟩
    rintro ⟨n, h1, h2⟩
    have hs : SafeN (n : Int) := by unfold SafeN; omega
    exact absurd (by rw [← h2]; exact h.2) (not_nan_F (n : Int) hs.abs)
  | other =>
    refine ⟨fun h => (by cases h), ?_⟩
    rintro ⟨n, h1, h2⟩
    have hs : SafeN (n : Int) := by unfold SafeN; omega
    have := mayB_other h
    rw [h2, wholeB_ours _ hs.abs, inB_ours _ hs] at this
    cases this
  | ours m =>
    obtain ⟨rfl, hs⟩ := h
    show decide (0 ≤ m) = true ↔ _
    rw [decide_eq_true_eq]
    constructor
    · intro hm
      exact ⟨m.toNat, by have := hs.2; omega, by rw [show ((m.toNat : Nat) : Int) = m by omega]⟩
    · rintro ⟨n, h1, h2⟩
      have hn : SafeN (n : Int) := by unfold SafeN; omega
      have := congrArg numN h2
      rw [numN_F hs, numN_F hn] at this
      omega

/-- what a token that comes in is like -/
def TkIn (t : Tk) : Prop := t.kind < 256 ∧ t.text.size ≤ 9223372036854775807 ∧ t.num < 2 ^ 64
theorem told_yes (t : Tk) (hi : TkIn t) (h : TokP t) (w : World) :
    Calls Tryz.prog 59 #[.agg #[.int .u8 (t.kind : Int), .int .i64 t.pos, .string t.text, .float .f64 t.num]] w fun e w' => e = .returned (.bool true) ∧ Below w.heap.size w w' := by
  obtain ⟨k, p, s, n⟩ := t
  obtain ⟨h1, h2, h3⟩ := hi
  dsimp only at h1 h2 h3
  rcases h with ⟨hk, hs, hz⟩ | ⟨hk, hs, hn⟩ | ⟨hk, hs, hz⟩ | ⟨hk, hz, ha⟩
  · dsimp only at hk hs hz
    subst hk hs
    have := told_end p ⟨#[]⟩ n w
    rw [zrB_iff.2 hz] at this
    exact this
  · dsimp only at hk hs hn
    subst hk hs
    obtain ⟨c, hc⟩ := cls n h3
    have := told_num p ⟨#[]⟩ hc w
    rw [(nm_ours hc).2 hn] at this
    exact this
  · dsimp only at hk hs hz
    subst hk
    have := told_str p s n h2 w
    rw [zrB_iff.2 hz, decide_eq_true hs] at this
    exact this
  · dsimp only at hk hz ha
    have := told_alone k p s n hk h2 w
    rw [zrB_iff.2 hz, aloneB_iff.2 ha] at this
    exact this
theorem told_no (t : Tk) (hi : TkIn t) (h : ¬ TokP t) (w : World) :
    Calls Tryz.prog 59 #[.agg #[.int .u8 (t.kind : Int), .int .i64 t.pos, .string t.text, .float .f64 t.num]] w fun e w' => e = .returned (.bool false) ∧ Below w.heap.size w w' := by
  obtain ⟨k, p, s, n⟩ := t
  obtain ⟨h1, h2, h3⟩ := hi
  dsimp only at h1 h2 h3
  by_cases k0 : k = 0
  · subst k0
    refine (told_end p s n w).mono fun e w' ⟨he, hb⟩ => ⟨?_, hb⟩
    rw [he]; refine ret_bool (Bool.eq_false_iff.2 fun g => h ?_)
    rw [Bool.and_eq_true] at g
    exact Or.inl ⟨rfl, str_ext (List.isEmpty_iff.1 g.1), zrB_iff.1 g.2⟩
  · by_cases k3 : k = 3
    · subst k3
      obtain ⟨c, hc⟩ := cls n h3
      refine (told_num p s hc w).mono fun e w' ⟨he, hb⟩ => ⟨?_, hb⟩
      rw [he]; refine ret_bool (Bool.eq_false_iff.2 fun g => h ?_)
      rw [Bool.and_eq_true] at g
      exact Or.inr (Or.inl ⟨rfl, str_ext (List.isEmpty_iff.1 g.1), (nm_ours hc).1 g.2⟩)
    · by_cases k4 : k = 4
      · subst k4
        refine (told_str p s n h2 w).mono fun e w' ⟨he, hb⟩ => ⟨?_, hb⟩
        rw [he]; refine ret_bool (Bool.eq_false_iff.2 fun g => h ?_)
        rw [Bool.and_eq_true] at g
        exact Or.inr (Or.inr (Or.inl ⟨rfl, of_decide_eq_true g.1, zrB_iff.1 g.2⟩))
      · by_cases kk : k = 1 ∨ k = 2 ∨ k = 5
        · refine (told_alone k p s n kk h2 w).mono fun e w' ⟨he, hb⟩ => ⟨?_, hb⟩
          rw [he]; refine ret_bool (Bool.eq_false_iff.2 fun g => h ?_)
          rw [Bool.and_eq_true] at g
          exact Or.inr (Or.inr (Or.inr ⟨kk, zrB_iff.1 g.1, aloneB_iff.1 g.2⟩))
        · exact told_other k p s n (by omega) w

/-! ### how it is written -/
theorem writ_len {t : Tk} (h : TokP t) : (writL t).length ≤ 20000 := by
  rcases h with ⟨hk, hs, hz⟩ | ⟨hk, hs, m, hm, hn⟩ | ⟨hk, hs, hz⟩ | ⟨hk, hz, tt, n, ha⟩
  · have : writL t = t.text.data.toList := by unfold writL; rw [if_neg (by omega), if_neg (by omega)]
    rw [this, hs]; simp
  · have hsf : SafeN (m : Int) := by unfold SafeN; omega
    have : writL t = Lib.itoa (m : Int) := by unfold writL; rw [if_pos hk, hn, numN_F hsf]
    rw [this]; have := itoa_len m hm; omega
  · have : writL t = quoteL t.text.data.toList := by unfold writL; rw [if_neg (by omega), if_pos hk]
    rw [this]
    unfold quoteL
    have := quoteI_len t.text.data.toList
    rw [← size_len] at this
    simp; omega
  · have : writL t = t.text.data.toList := by unfold writL; rw [if_neg (by omega), if_neg (by omega)]
    rw [this]
    cases hl : t.text.data.toList with
    | nil => simp
    | cons c r =>
      rw [hl] at ha
      rcases kind_of ha with ⟨c1, kk, hna⟩ | ⟨_, _, kk, _⟩ | ⟨_, _, _, kk, _⟩ | ⟨c1, c2, c3, kk, hna⟩
      · have := (nameL_alone hna).2.1; omega
      · omega
      · omega
      · have hsn : signN (c :: r) = (c :: r).length := by
          unfold signL at hna
          split at hna
          · cases hna
          · injection hna
        have := signN_3 (c :: r)
        omega
theorem written_any (t : Tk) (h : TokP t) (w : World) (htab : TabHere w) :
    Calls Tryz.prog 36 #[.agg #[.int .u8 (t.kind : Int), .int .i64 t.pos, .string t.text, .float .f64 t.num]] w fun e w' => e = .returned (.string (mkB (writL t))) ∧ Below w.heap.size w w' := by
  obtain ⟨k, p, s, n⟩ := t
  rcases h with ⟨hk, hs, hz⟩ | ⟨hk, hs, m, hm, hn⟩ | ⟨hk, hs, hz⟩ | ⟨hk, hz, tt, n', ha⟩
  · dsimp only at hk hs hz
    subst hk hs
    have hw : Hid (mkB (writL ⟨0, p, ⟨#[]⟩, n⟩) = ⟨#[]⟩) := Lib.hid rfl
    clear hz htab
    rw [hw.out]
    go_enter Tryz.func36, Tryz.ntmps36
    go_wp2
    go_ret
    exact ⟨rfl, zero_alloc _ _⟩
  · dsimp only at hk hs hn
    subst hk hs
    have hsf : SafeN (m : Int) := by unfold SafeN; omega
    have hw : Hid (writL ⟨3, p, ⟨#[]⟩, n⟩ = Lib.itoa (m : Int)) := Lib.hid (by unfold writL; rw [if_pos rfl, hn, numN_F hsf])
    rw [hw.out]
    have hT := fun w ht => Text_cls (c := .ours (m : Int)) ⟨hn, hsf⟩ w ht
    have HTAB := Lib.hid htab
    clear hn hsf hm htab
    go_enter Tryz.func36, Tryz.ntmps36
    go_wp2_with (go_at_call 61; refine (hT _ (HTAB.out _ (zero_alloc _ _))).mono ?_; rintro e w1 ⟨t1, h1, rfl, b1⟩; have H1 := Lib.hid h1; have B1 := Lib.hid b1; clear h1 b1)
    go_ret
    exact ⟨ret_str (str_ext H1.out), after_alloc B1.out⟩
  · dsimp only at hk hs hz
    subst hk
    have hw : Hid (mkB (writL ⟨4, p, s, n⟩) = ⟨(quoteL s.data.toList).toArray⟩) := Lib.hid rfl
    rw [hw.out]
    have hq := fun w => Quote_any s w (by omega)
    clear hz htab
    go_enter Tryz.func36, Tryz.ntmps36
    go_wp2_with (go_at_call 62; refine (hq _).mono ?_; rintro e w1 ⟨rfl, b1⟩; have B1 := Lib.hid b1; clear b1)
    go_ret
    exact ⟨rfl, after_alloc B1.out⟩
  · dsimp only at hk hz ha
    have hw : Hid (mkB (writL ⟨k, p, s, n⟩) = s) := Lib.hid (by
      have : writL ⟨k, p, s, n⟩ = s.data.toList := by unfold writL; rw [if_neg (by show k ≠ 3; omega), if_neg (by show k ≠ 4; omega)]
      rw [this]; exact mkB_of s)
    rw [hw.out]
    clear hz htab ha
    rcases hk with rfl | rfl | rfl
    all_goals
      go_enter Tryz.func36, Tryz.ntmps36
      go_wp2
      go_ret
      exact ⟨rfl, zero_alloc _ _⟩
end Go.Proofs.YtjapainhlfedgaaGreatDoor.S
/-
  A builder of the call's own among other blocks: what is no row of bytes stays as it was.
-/
namespace Go.Proofs.YtjapainhlfedgaaGreatDoor.S
open Go.RowKit Fl

/-- a builder in block b that holds the bytes l, its row's head frozen or not -/
def BF (B b : Nat) (l : List UInt8) (w0 w : World) : Prop := Lib.IsBuilderF 82 5 B b (Lib.byteCells l) w ∧ Below B w0 w ∧ B ≤ w.heap.size
theorem bf_of {B b : Nat} {l : List UInt8} {w0 w : World} (h : BB B b l w0 w) : BF B b l w0 w := ⟨Lib.IsBuilderF.of h.1, h.2⟩
theorem bf_alloc (w : World) : BF w.heap.size w.heap.size [] w (w.alloc (.cells #[.pointer none, .slice none 0 0] 82)) := bf_of (bb_alloc w)
theorem bf_lt {B b : Nat} {l : List UInt8} {w0 w : World} (h : BF B b l w0 w) : b < w.heap.size := by
  rcases h.1 with g | g <;> exact g.lt
theorem bf_up {B b : Nat} {l : List UInt8} {w0 w w' : World} (h : BF B b l w0 w) (hb : Below w.heap.size w w') : BF B b l w0 w' := by
  have key : ∀ p, Lib.BuilderAtF 82 5 B b p (Lib.byteCells l) w → Lib.BuilderAtF 82 5 B b p (Lib.byteCells l) w' := by
    intro p g
    have hlt := g.lt
    obtain ⟨h1, v, h2, h3, h4⟩ := g
    refine ⟨h1, v, by rw [hb.block b hlt]; exact h2, h3.kept (row := none) ⟨hb.os, hb.tape, hb.output, hb.size, fun k hk _ => hb.block k hk⟩ ?_, h4⟩
    rcases h3.2 with ⟨rfl, _⟩ | ⟨g, cap, cur, fz, rfl, _⟩
    · exact Or.inl rfl
    · exact Or.inr (by simp [Value.ownBlock])
  exact ⟨h.1.imp (key _) (key _), h.2.1.trans (hb.mono h.2.2), Nat.le_trans h.2.2 hb.size⟩
/-- every block but the builder's own and the rows of bytes is as it was -/
def Kept (b : Nat) (w w' : World) : Prop := Lib.OthersKept 5 (some b) w w'
theorem kept_blk {b k : Nat} {w w' : World} {cs : Array Value} {t : TypeId} {fz : Nat × Nat} (h : Kept b w w') (hk : w.heap[k]? = some (.cells cs t fz)) (hb : k ≠ b) (ht : t ≠ 5) : w'.heap[k]? = some (.cells cs t fz) :=
  h k _ hk (fun e => hb (Option.some.inj e)) (fun c f e => ht (by injection e))
theorem bf_byte {B b : Nat} {l : List UInt8} (c : UInt8) {w0 w : World} (h : BF B b l w0 w) (hl : l.length + 1 ≤ 140737488355328) :
    Calls Tryz.prog 34 #[.pointer (some ⟨b, 0, none⟩), .int .u8 (c.toNat : Int)] w fun e w' => e = .returned .nilIface ∧ BF B b (l ++ [c]) w0 w' ∧ Kept b w w' := by
  refine (Any.Builder_WriteByte_k Tryz.lays167 Tryz.Builder_Extra_167 B b _ c.toNat w h.1 (by rw [Lib.byteCells_length]; exact hl) h.2.2).mono fun e w' ⟨he, hb, hw, hk⟩ => ⟨he, ⟨Or.inr (by rw [Lib.byteCells_append]; exact hb), h.2.1.trans hw, Nat.le_trans h.2.2 hw.size⟩, hk⟩
theorem bf_blank {B b : Nat} {l : List UInt8} {w0 w : World} (h : BF B b l w0 w) (hl : l.length + 1 ≤ 140737488355328) :
    Calls Tryz.prog 34 #[.pointer (some ⟨b, 0, none⟩), .int .u8 32] w fun e w' => e = .returned .nilIface ∧ BF B b (l ++ [32]) w0 w' ∧ Kept b w w' := bf_byte 32 h hl
theorem bf_str {B b : Nat} {l : List UInt8} (s : ByteArray) {w0 w : World} (h : BF B b l w0 w) (hl : l.length + s.size ≤ 140737488355328) :
    Calls Tryz.prog 35 #[.pointer (some ⟨b, 0, none⟩), .string s] w fun e w' => e = .returned (.tuple #[.int .i64 s.size, .nilIface]) ∧ BF B b (l ++ s.data.toList) w0 w' ∧ Kept b w w' := by
  refine (Any.Builder_WriteString_k Tryz.lays166 Tryz.Builder_Extra_166 B b _ s w h.1 (by rw [Lib.byteCells_length]; exact hl) h.2.2).mono fun e w' ⟨he, hb, hw, hk⟩ => ⟨he, ⟨Or.inr (by rw [Lib.byteCells_append, ← Lib.strCells_eq]; exact hb), h.2.1.trans hw, Nat.le_trans h.2.2 hw.size⟩, hk⟩
theorem bf_string {B b : Nat} {l : List UInt8} {w0 w : World} (h : BF B b l w0 w) :
    Calls Tryz.prog 38 #[.pointer (some ⟨b, 0, none⟩)] w fun e w' => e = .returned (.string ⟨l.toArray⟩) ∧ Below B w0 w' :=
  (Any.Builder_String_any_k Tryz.lays169 Tryz.Builder_Extra_169 B b l w h.1 h.2.2).mono fun _ _ ⟨he, _, hw, _⟩ => ⟨he, h.2.1.trans hw⟩
theorem bf_len {B b : Nat} {l : List UInt8} {w0 w : World} (h : BF B b l w0 w) :
    Calls Tryz.prog 37 #[.pointer (some ⟨b, 0, none⟩)] w fun e w' => e = .returned (.int .i64 (l.length : Int)) ∧ w = w' := by
  have hl : (Lib.byteCells l).length = l.length := Lib.byteCells_length l
  have key : ∃ A cap, w.cell? ⟨b, 1, none⟩ = some (.slice A l.length cap) := by
    have : ∀ p, Lib.BuilderAtF 82 5 B b p (Lib.byteCells l) w → ∃ A cap, w.cell? ⟨b, 1, none⟩ = some (.slice A l.length cap) := by
      intro p g
      obtain ⟨_, v, h2, h3, _⟩ := g
      have hc : w.cell? ⟨b, 1, none⟩ = some v := by simp [World.cell?, h2]
      rw [hl] at h3
      rcases h3.2 with ⟨rfl, h0⟩ | ⟨g, cap, cur, fz, rfl, _⟩
      · exact ⟨none, 0, by rw [hc, h0]⟩
      · exact ⟨_, _, hc⟩
    rcases h.1 with g | g
    · exact this _ g
    · exact this _ g
  obtain ⟨A, cap, hc⟩ := key
  clear h hl
  go_enter Tryz.func37, Tryz.ntmps37
  go_wp2
  go_ret
  exact ⟨rfl, rfl⟩
end Go.Proofs.YtjapainhlfedgaaGreatDoor.S
/-
  Tokens written as a text: walks of package lex's may and Text.
-/
namespace Go.Proofs.YtjapainhlfedgaaGreatDoor.S
open Go.RowKit Fl

/-- the four cells of one token, as a load spells them -/
theorem rda_cells {w : World} {A : Option Addr} {l : List Tk} (h : RdA w A l) (k : Nat) (hk : k < l.length) : ∃ a, A = some a ∧ a.block < w.heap.size ∧
    w.cell? (a.add (k * 4)) = some (.int .u8 (l[k].kind : Int)) ∧ w.cell? ⟨(a.add (k * 4)).block, (a.add (k * 4)).off + 1, none⟩ = some (.int .i64 l[k].pos) ∧ w.cell? ⟨(a.add (k * 4)).block, (a.add (k * 4)).off + 2, none⟩ = some (.string l[k].text) ∧ w.cell? ⟨(a.add (k * 4)).block, (a.add (k * 4)).off + 3, none⟩ = some (.float .f64 l[k].num) := by
  obtain ⟨a, ha, hlt, c0, c1, c2, c3⟩ := rda_at h k hk
  refine ⟨a, ha, hlt, c0, ?_, ?_, ?_⟩
  · rw [← add_of_add] at c1; exact c1
  · rw [← add_of_add] at c2; exact c2
  · rw [← add_of_add] at c3; exact c3
def PreP (l : List Tk) (k : Nat) : Prop := ∀ (j : Nat) (t : Tk), j < k → l[j]? = some t → TokP t ∧ (t.kind = 0 ↔ j + 1 = l.length)
theorem pre_step {l : List Tk} {k : Nat} (h : PreP l k) (hk : k < l.length) (h1 : TokP l[k]) (h2 : l[k].kind = 0 ↔ k + 1 = l.length) : PreP l (k + 1) := by
  intro j t hj ht
  by_cases c : j = k
  · subst c
    rw [List.getElem?_eq_getElem hk] at ht
    cases ht
    exact ⟨h1, h2⟩
  · exact h j t (by omega) ht
theorem pre_all {l : List Tk} (h : PreP l l.length) (h0 : l ≠ []) : MayP l := ⟨h0, fun i t ht => h i t (List.getElem?_eq_some_iff.1 ht).1 ht⟩
theorem may_at {l : List Tk} (h : MayP l) (k : Nat) (hk : k < l.length) : TokP l[k] ∧ (l[k].kind = 0 ↔ k + 1 = l.length) := h.2 k _ (List.getElem?_eq_getElem hk)

set_option maxHeartbeats 2000000 in
theorem may_any (l : List Tk) (A : Option Addr) (cap : Nat) (w : World) (hr : RdA w A l) (hin : ∀ t ∈ l, TkIn t) (hl : l.length ≤ 100000) (b : Bool) (hb : b = true ↔ MayP l) :
    Calls Tryz.prog 33 #[.slice A l.length cap] w fun e w' => e = .returned (.bool b) ∧ Below w.heap.size w w' := by
  have HR := Lib.hid hr
  have HIN := Lib.hid hin
  have HB := Lib.hid hb
  clear hr hin hb
  go_enter Tryz.func33, Tryz.ntmps33
  go_wp2_with (fail)
  go_loopw [11] (fun i wr => ∃ k : Nat, k ≤ l.length ∧ i = .int .i64 k ∧ Hid (Below w.heap.size w wr ∧ PreP l k)) (fun i _ => l.length - (intOf i).toNat)
  case atStart => exact ⟨0, Nat.zero_le _, rfl, Lib.hid ⟨Below.refl _ _, fun j t hj => by omega⟩⟩
  case round =>
    obtain ⟨k, hk, rfl, H⟩ := hrel
    by_cases hlt : k < l.length
    · obtain ⟨a, rfl, hab, a0, a1, a2, a3⟩ := rda_cells (rda_up HR.out H.out.1) k hlt
      have hti := HIN.out l[k] (List.getElem_mem _)
      have hst := store_f
      have ky := told_yes l[k] hti
      have kn := told_no l[k] hti
      by_cases ht : TokP l[k]
      · have kt := ky ht
        clear ky kn hti
        have hpre := fun h2 => pre_step H.out.2 hlt ht h2
        have hmay := fun h => (may_at (HB.out.1 h) k hlt).2
        clear ht
        generalize l[k] = t at *
        have H1 := Lib.hid H.out.1
        have HP := Lib.hid hpre
        have HM := Lib.hid hmay
        clear H hpre hmay HIN
        by_cases c1 : t.kind = 0
        · have t1 : ((t.kind : Int) == 0) = true := by rw [c1]; rfl
          by_cases c2 : k + 1 = l.length
          · have t2 : ((k : Int) == (l.length : Int) - 1) = true := by rw [beq_iff_eq]; omega
            have H3 := Lib.hid (HP.out ⟨fun _ => c2, fun _ => c1⟩)
            clear HM HP c1 c2
            go_wp2_with (go_at_call 59; refine (kt _).mono ?_; rintro e w1 ⟨rfl, h1⟩; obtain ⟨hc, hfz⟩ := bcell h1; have hzz := lt_after h1; have H2 := Lib.hid h1; clear h1)
            go_roundw
            case rel => exact ⟨k + 1, hlt, by go_num, Lib.hid ⟨below_up H1.out (after_alloc H2.out), H3.out⟩⟩
            case measure => simp [intOf]; omega
          · have t2 : ((k : Int) == (l.length : Int) - 1) = false := by rw [beq_eq_false_iff_ne]; omega
            have hf : b = false := by
              cases b with
              | false => rfl
              | true => exact absurd ((HM.out rfl).1 c1) c2
            subst hf
            clear HM HP c1 c2 HB
            go_wp2_with (go_at_call 59; refine (kt _).mono ?_; rintro e w1 ⟨rfl, h1⟩; obtain ⟨hc, hfz⟩ := bcell h1; have hzz := lt_after h1; have H2 := Lib.hid h1; clear h1)
            go_ret
            exact ⟨rfl, below_up H1.out (after_alloc H2.out)⟩
        · have t1 : ((t.kind : Int) == 0) = false := by rw [beq_eq_false_iff_ne]; omega
          by_cases c2 : k + 1 = l.length
          · have t2 : ((k : Int) == (l.length : Int) - 1) = true := by rw [beq_iff_eq]; omega
            have hf : b = false := by
              cases b with
              | false => rfl
              | true => exact absurd ((HM.out rfl).2 c2) c1
            subst hf
            clear HM HP c1 c2 HB
            go_wp2_with (go_at_call 59; refine (kt _).mono ?_; rintro e w1 ⟨rfl, h1⟩; obtain ⟨hc, hfz⟩ := bcell h1; have hzz := lt_after h1; have H2 := Lib.hid h1; clear h1)
            go_ret
            exact ⟨rfl, below_up H1.out (after_alloc H2.out)⟩
          · have t2 : ((k : Int) == (l.length : Int) - 1) = false := by rw [beq_eq_false_iff_ne]; omega
            have H3 := Lib.hid (HP.out ⟨fun h => absurd h c1, fun h => absurd h c2⟩)
            clear HM HP c1 c2
            go_wp2_with (go_at_call 59; refine (kt _).mono ?_; rintro e w1 ⟨rfl, h1⟩; obtain ⟨hc, hfz⟩ := bcell h1; have hzz := lt_after h1; have H2 := Lib.hid h1; clear h1)
            go_roundw
            case rel => exact ⟨k + 1, hlt, by go_num, Lib.hid ⟨below_up H1.out (after_alloc H2.out), H3.out⟩⟩
            case measure => simp [intOf]; omega
      · have kt := kn ht
        have hf : b = false := by
          cases b with
          | false => rfl
          | true => exact absurd (may_at (HB.out.1 rfl) k hlt).1 ht
        subst hf
        clear ky kn hti ht
        generalize l[k] = t at *
        have H1 := Lib.hid H.out.1
        clear H HIN HB
        go_wp2_with (go_at_call 59; refine (kt _).mono ?_; rintro e w1 ⟨rfl, h1⟩; obtain ⟨hc, hfz⟩ := bcell h1; have hzz := lt_after h1; have H2 := Lib.hid h1; clear h1)
        go_ret
        exact ⟨rfl, below_up H1.out (after_alloc H2.out)⟩
    · have hkl : k = l.length := by omega
      have H1 := Lib.hid H.out.1
      have hpre := H.out.2
      rw [hkl] at hpre
      by_cases h0 : l.length = 0
      · have hf : b = false := by
          cases b with
          | false => rfl
          | true => exact absurd (List.length_eq_zero_iff.1 h0) (HB.out.1 rfl).1
        subst hf
        have h0' : ¬ (0 : Int) ≤ (l.length : Int) - 1 := by omega
        clear hpre HB HIN H hkl
        go_wp2
        go_ret
        exact ⟨rfl, H1.out⟩
      · have hf : b = true := HB.out.2 (pre_all hpre (fun e => h0 (by rw [e]; rfl)))
        subst hf
        have h0' : (0 : Int) ≤ (l.length : Int) - 1 := by omega
        clear hpre HB HIN H hkl
        go_wp2
        go_ret
        exact ⟨ret_bool (decide_eq_true (by omega)), H1.out⟩

/-! ### Text -/
/-- what Text answers: the bytes and the error -/
def TextR (l : List Tk) (s : List UInt8) (k : Int) : Prop :=
  (16385 < l.length ∧ s = [] ∧ k = 4) ∨ (l.length ≤ 16385 ∧ ¬ MayP l ∧ s = [] ∧ k = 5) ∨ (l.length ≤ 16385 ∧ MayP l ∧ 65536 < (joinL l.dropLast).length ∧ s = [] ∧ k = 3) ∨ (l.length ≤ 16385 ∧ MayP l ∧ (joinL l.dropLast).length ≤ 65536 ∧ s = joinL l.dropLast ∧ k = 0)
theorem textR_any (l : List Tk) : ∃ s k, TextR l s k := by
  by_cases h1 : 16385 < l.length
  · exact ⟨_, _, Or.inl ⟨h1, rfl, rfl⟩⟩
  · by_cases h2 : MayP l
    · by_cases h3 : 65536 < (joinL l.dropLast).length
      · exact ⟨_, _, Or.inr (Or.inr (Or.inl ⟨by omega, h2, h3, rfl, rfl⟩))⟩
      · exact ⟨_, _, Or.inr (Or.inr (Or.inr ⟨by omega, h2, by omega, rfl, rfl⟩))⟩
    · exact ⟨_, _, Or.inr (Or.inl ⟨by omega, h2, rfl, rfl⟩)⟩
theorem join_take (l : List Tk) (k : Nat) (h : k < l.length) : joinL (l.take (k + 1)) = joinL (l.take k) ++ (if k = 0 then [] else [32]) ++ writL l[k] := by
  rw [List.take_succ_eq_append_getElem h, joinL_snoc]
  by_cases h0 : k = 0
  · subst h0; rfl
  · rw [if_neg h0, if_neg]
    intro e
    have := congrArg List.length e
    rw [List.length_take, List.length_nil] at this; omega
theorem join_pre (l : List Tk) (k : Nat) : (joinL (l.take k)).length ≤ (joinL l).length := by
  cases l with
  | nil => simp
  | cons t r =>
    cases k with
    | zero => simp [joinL]
    | succ k =>
      show (writL t ++ tailL (r.take k)).length ≤ (writL t ++ tailL r).length
      have : tailL r = tailL (r.take k) ++ tailL (r.drop k) := by unfold tailL; rw [← List.flatMap_append, List.take_append_drop]
      rw [this]; simp
theorem tab_below {w w' : World} (h : TabHere w) (hb : Below w.heap.size w w') : TabHere w' := fun x hx => h x (below_up hb hx)

def TextTo' (s : List UInt8) (k : Int) (w : World) (e : Ending) (w' : World) : Prop := e = .returned (.tuple #[.string (mkB s), .int .i64 k]) ∧ Below w.heap.size w w'
set_option maxHeartbeats 4000000 in
theorem Text_any (l : List Tk) (A : Option Addr) (cap : Nat) (w : World) (hr : RdA w A l) (hin : ∀ t ∈ l, TkIn t) (hl : l.length ≤ 100000) (hcap : l.length ≤ cap) (htab : TabHere w) (s : List UInt8) (k : Int) (h : TextR l s k) :
    Calls Tryz.prog 22 #[.slice A l.length cap] w (TextTo' s k w) := by
  rcases h with ⟨h1, rfl, rfl⟩ | ⟨h1, h2, rfl, rfl⟩ | h
  · have h1' : 16385 < (l.length : Int) := by omega
    clear hr hin htab
    go_enter Tryz.func22, Tryz.ntmps22
    go_wp2
    go_ret2
    exact ⟨rfl, Below.refl _ _⟩
  · have km := may_any l A cap w hr hin hl false ⟨fun h => (by cases h), fun h => absurd h h2⟩
    clear hr hin htab h2
    go_enter Tryz.func22, Tryz.ntmps22
    go_wp2_with (go_at_call 33; refine km.mono ?_; rintro e w1 ⟨rfl, h3⟩; have H3 := Lib.hid h3; clear h3)
    go_ret2
    exact ⟨rfl, H3.out⟩
  · have h1 : l.length ≤ 16385 := by rcases h with h | h <;> exact h.1
    have h2 : MayP l := by rcases h with h | h <;> exact h.2.1
    have km := may_any l A cap w hr hin hl true ⟨fun _ => h2, fun _ => rfl⟩
    have hpos : 0 < l.length := List.length_pos_iff.2 h2.1
    have hgood : ∀ (j : Nat) (hj : j < l.length), TokP l[j] := fun j hj => (may_at h2 j hj).1
    have HR := Lib.hid hr
    have HG := Lib.hid hgood
    have HT := Lib.hid htab
    have HH := Lib.hid h
    clear hr hin htab h2 hgood h hl
    go_enter Tryz.func22, Tryz.ntmps22
    go_wp2_with (go_at_call 33; refine km.mono ?_; rintro e w1 ⟨rfl, h3⟩; have H3 := Lib.hid h3; clear h3)
    have h4 := bf_alloc w1
    have hr1 := rda_up HR.out H3.out
    have ht1 := tab_below HT.out H3.out
    have H4 := Lib.hid h4
    have HR1 := Lib.hid hr1
    have HT1 := Lib.hid ht1
    clear h4 hr1 ht1 HR HT km
    go_loopw [19] (fun i wr => ∃ j : Nat, j + 1 ≤ l.length ∧ i = .int .i64 j ∧ Hid (BF w1.heap.size w1.heap.size (joinL (l.take j)) w1 wr ∧ (joinL (l.take j)).length ≤ 65536)) (fun i _ => l.length - (intOf i).toNat)
    case atStart => exact ⟨0, hpos, rfl, Lib.hid ⟨H4.out, by simp [joinL]⟩⟩
    case round =>
      obtain ⟨j, hj, rfl, H⟩ := hrel
      clear H4
      by_cases hlt : j + 1 < l.length
      · have hjl : j < l.length := by omega
        have hlt' : (j : Int) < (l.length : Int) - 1 := by omega
        obtain ⟨a, rfl, hab, a0, a1, a2, a3⟩ := rda_cells (rda_up HR1.out H.out.1.2.1) j hjl
        have ht := HG.out j hjl
        have kw := written_any l[j] ht
        have hjt := join_take l j hjl
        have hpre := join_pre l.dropLast (j + 1)
        rw [List.dropLast_eq_take, List.take_take, show min (j + 1) (l.length - 1) = j + 1 by omega, ← List.dropLast_eq_take] at hpre
        have hwl := writ_len ht
        generalize l[j] = t at *
        have H5 := Lib.hid H.out.1
        have HP := Lib.hid hpre
        have HJ := Lib.hid hjt
        have hlen := H.out.2
        have hst := store_f
        clear H ht hpre hjt
        generalize hQe : joinL (l.take (j + 1)) = Q at *
        have HQE := Lib.hid hQe
        clear hQe
        generalize joinL (l.take j) = P at *
        by_cases hj0 : j = 0
        · have hj1 : ¬ 0 < (j : Int) := by omega
          have HQ : Hid (P ++ (mkB (writL t)).data.toList = Q) := Lib.hid (by rw [HJ.out, if_pos hj0, List.append_nil, mkB_list])
          clear HJ hj0
          by_cases hbig : 65536 < Q.length
          · have hbig' : (65536 : Int) < (Q.length : Int) := by omega
            have HE : Hid (s = [] ∧ k = 3) := Lib.hid (by
              have h1 := HH.out
              have h2 := HP.out
              rcases h1 with h1 | h1
              · exact h1.2.2.2
              · have := h1.2.2.1; omega)
            clear hbig HH HP
            go_wp2_with (first
              | (go_at_call 36; refine (kw _ (tab_below HT1.out (bf_up H5.out (zero_alloc _ _)).2.1)).mono ?_; rintro e w3 ⟨rfl, h8⟩; have H8 := Lib.hid (bf_up (bf_up H5.out (zero_alloc _ _)) h8); clear h8)
              | (go_at_call 35; refine (bf_str _ H8.out (by rw [mkB_size]; omega)).mono ?_; rintro e w4 ⟨rfl, h9, _⟩; rw [HQ.out] at h9; have H9 := Lib.hid h9; clear h9)
              | (go_at_call 37; refine (bf_len H9.out).mono ?_; rintro e w5 ⟨rfl, rfl⟩))
            go_ret2
            rw [HE.out.1, HE.out.2]
            exact ⟨rfl, below_up H3.out H9.out.2.1⟩
          · have hbig' : ¬ (65536 : Int) < (Q.length : Int) := by omega
            go_wp2_with (first
              | (go_at_call 36; refine (kw _ (tab_below HT1.out (bf_up H5.out (zero_alloc _ _)).2.1)).mono ?_; rintro e w3 ⟨rfl, h8⟩; have H8 := Lib.hid (bf_up (bf_up H5.out (zero_alloc _ _)) h8); clear h8)
              | (go_at_call 35; refine (bf_str _ H8.out (by rw [mkB_size]; omega)).mono ?_; rintro e w4 ⟨rfl, h9, _⟩; rw [HQ.out] at h9; have H9 := Lib.hid h9; clear h9)
              | (go_at_call 37; refine (bf_len H9.out).mono ?_; rintro e w5 ⟨rfl, rfl⟩))
            go_roundw
            case rel => exact ⟨j + 1, hlt, by go_num, Lib.hid (by rw [HQE.out]; exact ⟨H9.out, by omega⟩)⟩
            case measure => simp [intOf]; omega
        · have hj1 : 0 < (j : Int) := by omega
          have HQ : Hid (P ++ [32] ++ (mkB (writL t)).data.toList = Q) := Lib.hid (by rw [HJ.out, if_neg hj0, mkB_list])
          have hne : wr.heap.size ≠ w1.heap.size := by have := bf_lt H5.out; omega
          have HNE := Lib.hid hne
          clear HJ hj0 hne
          by_cases hbig : 65536 < Q.length
          · have hbig' : (65536 : Int) < (Q.length : Int) := by omega
            have HE : Hid (s = [] ∧ k = 3) := Lib.hid (by
              have h1 := HH.out
              have h2 := HP.out
              rcases h1 with h1 | h1
              · exact h1.2.2.2
              · have := h1.2.2.1; omega)
            clear hbig HH HP
            go_wp2_with (first
              | (go_at_call 34; refine (bf_blank (bf_up H5.out (zero_alloc _ _)) (by omega)).mono ?_; rintro e w2 ⟨rfl, h6, hk6⟩; have H7 := Lib.hid h6; have hblk := kept_blk hk6 (heap_alloc_new wr _) HNE.out (by decide); have b0 : w2.cell? ⟨wr.heap.size, 0, none⟩ = some (.int .u8 (t.kind : Int)) := blk_cell hblk 0; have b1 : w2.cell? ⟨wr.heap.size, 1, none⟩ = some (.int .i64 t.pos) := blk_cell hblk 1; have b2 : w2.cell? ⟨wr.heap.size, 2, none⟩ = some (.string t.text) := blk_cell hblk 2; have b3 : w2.cell? ⟨wr.heap.size, 3, none⟩ = some (.float .f64 t.num) := blk_cell hblk 3; clear h6 hk6 hblk)
              | (go_at_call 36; refine (kw _ (tab_below HT1.out H7.out.2.1)).mono ?_; rintro e w3 ⟨rfl, h8⟩; have H8 := Lib.hid (bf_up H7.out h8); clear h8)
              | (go_at_call 35; refine (bf_str _ H8.out (by rw [mkB_size, List.length_append, List.length_singleton]; omega)).mono ?_; rintro e w4 ⟨rfl, h9, _⟩; rw [HQ.out] at h9; have H9 := Lib.hid h9; clear h9)
              | (go_at_call 37; refine (bf_len H9.out).mono ?_; rintro e w5 ⟨rfl, rfl⟩))
            go_ret2
            rw [HE.out.1, HE.out.2]
            exact ⟨rfl, below_up H3.out H9.out.2.1⟩
          · have hbig' : ¬ (65536 : Int) < (Q.length : Int) := by omega
            go_wp2_with (first
              | (go_at_call 34; refine (bf_blank (bf_up H5.out (zero_alloc _ _)) (by omega)).mono ?_; rintro e w2 ⟨rfl, h6, hk6⟩; have H7 := Lib.hid h6; have hblk := kept_blk hk6 (heap_alloc_new wr _) HNE.out (by decide); have b0 : w2.cell? ⟨wr.heap.size, 0, none⟩ = some (.int .u8 (t.kind : Int)) := blk_cell hblk 0; have b1 : w2.cell? ⟨wr.heap.size, 1, none⟩ = some (.int .i64 t.pos) := blk_cell hblk 1; have b2 : w2.cell? ⟨wr.heap.size, 2, none⟩ = some (.string t.text) := blk_cell hblk 2; have b3 : w2.cell? ⟨wr.heap.size, 3, none⟩ = some (.float .f64 t.num) := blk_cell hblk 3; clear h6 hk6 hblk)
              | (go_at_call 36; refine (kw _ (tab_below HT1.out H7.out.2.1)).mono ?_; rintro e w3 ⟨rfl, h8⟩; have H8 := Lib.hid (bf_up H7.out h8); clear h8)
              | (go_at_call 35; refine (bf_str _ H8.out (by rw [mkB_size, List.length_append, List.length_singleton]; omega)).mono ?_; rintro e w4 ⟨rfl, h9, _⟩; rw [HQ.out] at h9; have H9 := Lib.hid h9; clear h9)
              | (go_at_call 37; refine (bf_len H9.out).mono ?_; rintro e w5 ⟨rfl, rfl⟩))
            go_roundw
            case rel => exact ⟨j + 1, hlt, by go_num, Lib.hid (by rw [HQE.out]; exact ⟨H9.out, by omega⟩)⟩
            case measure => simp [intOf]; omega
      · have hjl : j + 1 = l.length := by omega
        have HE : Hid (s = joinL (l.take j) ∧ k = 0) := Lib.hid (by
          have h1 := HH.out
          have h2 := H.out.2
          have e : l.dropLast = l.take j := by rw [List.dropLast_eq_take, show l.length - 1 = j by omega]
          rw [e] at h1
          rcases h1 with h1 | h1
          · have := h1.2.2.1; omega
          · exact h1.2.2.2)
        have hlt' : ¬ (j : Int) < (l.length : Int) - 1 := by omega
        have H5 := Lib.hid H.out.1
        clear H HH
        go_wp2_with (go_at_call 38; refine (bf_string H5.out).mono ?_; rintro e w2 ⟨rfl, h6⟩; have H6 := Lib.hid h6; clear h6)
        go_ret2
        rw [HE.out.1, HE.out.2]
        exact ⟨rfl, below_up H3.out H6.out⟩
end Go.Proofs.YtjapainhlfedgaaGreatDoor.S
