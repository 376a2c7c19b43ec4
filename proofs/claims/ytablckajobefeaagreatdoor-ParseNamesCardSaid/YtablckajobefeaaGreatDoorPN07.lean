/-
  Tokens written as a text, in plain mathematics: which may be, how each is written, and that what is written is read back.
-/
import Derived.Test.YtablckajobefeaaGreatDoorPN06
import Derived.Test.YtablckajobefeaaGreatDoorPN04
namespace Go.Proofs.YtablckajobefeaaGreatDoor.S
open Go.RowKit Fl

def zeroP (x : Nat) : Prop := FloatKind.f64.format.order x 0 = some .eq
def numOurs (x : Nat) : Prop := ∃ n : Nat, n ≤ 9007199254740991 ∧ x = F (n : Int)
def aloneP (k : Nat) (l : List UInt8) : Prop := ∃ t n, pieceL l = .tok k t n l.length
/-- may a token be? -/
def TokP (t : Tk) : Prop :=
  (t.kind = 0 ∧ t.text = ⟨#[]⟩ ∧ zeroP t.num) ∨ (t.kind = 3 ∧ t.text = ⟨#[]⟩ ∧ numOurs t.num) ∨ (t.kind = 4 ∧ t.text.size ≤ 4096 ∧ zeroP t.num) ∨ ((t.kind = 1 ∨ t.kind = 2 ∨ t.kind = 5) ∧ zeroP t.num ∧ aloneP t.kind t.text.data.toList)
/-- may tokens be? -/
def MayP (l : List Tk) : Prop := l ≠ [] ∧ ∀ (i : Nat) (t : Tk), l[i]? = some t → TokP t ∧ (t.kind = 0 ↔ i + 1 = l.length)
def numN (x : Nat) : Int := (floatToIntVal .f64 x .i64).getD 0
theorem numN_F {n : Int} (h : SafeN n) : numN (F n) = n := by unfold numN; rw [floatToIntVal_F n h.abs]; rfl
def writL (t : Tk) : List UInt8 := if t.kind = 3 then Lib.itoa (numN t.num) else if t.kind = 4 then quoteL t.text.data.toList else t.text.data.toList
def tailL (l : List Tk) : List UInt8 := l.flatMap fun t => 32 :: writL t
/-- tokens with a blank between each two -/
def joinL : List Tk → List UInt8
  | [] => []
  | t :: r => writL t ++ tailL r
theorem joinL_snoc (l : List Tk) (t : Tk) : joinL (l ++ [t]) = joinL l ++ (if l = [] then [] else [32]) ++ writL t := by
  cases l with
  | nil => simp [joinL, tailL]
  | cons u r => simp [joinL, tailL]

theorem zero_0 : zeroP 0 := by unfold zeroP; decide

/-! ### digits of a whole number -/
theorem dec_len (m : Nat) : ∀ k, k < 10 ^ (m + 1) → (Lib.decDigits k).length ≤ m + 1 := by
  induction m with
  | zero => intro k hk; rw [decDigits_one k (by simpa using hk)]; simp
  | succ m ih =>
    intro k hk
    by_cases h : k < 10
    · rw [decDigits_one k h]; simp
    · rw [decDigits_big k (by omega), List.length_append]
      have := ih (k / 10) (by rw [Nat.pow_succ] at hk; omega)
      simp; omega
theorem itoa_nat (n : Nat) : Lib.itoa (n : Int) = Lib.decDigits n := by
  unfold Lib.itoa; rw [if_neg (by omega)]; rfl
theorem itoa_len (n : Nat) (h : n ≤ 9007199254740991) : (Lib.itoa (n : Int)).length ≤ 20 := by
  rw [itoa_nat]
  have := dec_len 15 n (by omega)
  omega

/-! ### what a run is, with something behind -/
theorem run_app (p : UInt8 → Bool) : ∀ (l tail : List UInt8), l.all p = true → (∀ c, tail.head? = some c → p c = false) → runL p (l ++ tail) = l.length
  | [], tail, _, ht => by
    cases tail with
    | nil => rfl
    | cons c r => rw [List.nil_append, runL_cons, if_neg (by rw [ht c rfl]; decide)]; rfl
  | c :: r, tail, ha, ht => by
    rw [List.all_cons, Bool.and_eq_true] at ha
    rw [List.cons_append, runL_cons, if_pos ha.1, run_app p r tail ha.2 ht]; rfl
theorem run_all (p : UInt8 → Bool) (l : List UInt8) (h : runL p l = l.length) : l.all p = true := by
  have := run_take_all p l
  rw [h, List.take_of_length_le (Nat.le_refl _)] at this
  exact this
def BlankAhead (tail : List UInt8) : Prop := tail = [] ∨ tail.head? = some 32
theorem ahead_head {tail : List UInt8} (h : BlankAhead tail) (c : UInt8) (hc : tail.head? = some c) : c = 32 := by
  rcases h with rfl | h
  · cases hc
  · rw [h] at hc; exact (Option.some.inj hc).symm
/-! ### which kind stands behind which first byte -/
theorem kind_of {c : UInt8} {r : List UInt8} {k : Nat} {t : ByteArray} {n wd : Nat} (h : pieceL (c :: r) = .tok k t n wd) :
    (iniB c = true ∧ (k = 1 ∨ k = 2) ∧ nameL (c :: r) = .tok k t n wd) ∨ (iniB c = false ∧ isDig c = true ∧ k = 3 ∧ numberL (c :: r) = .tok k t n wd) ∨
    (iniB c = false ∧ isDig c = false ∧ (c = 34 ∨ c = 39) ∧ k = 4 ∧ literalL c (c :: r) = .tok k t n wd) ∨ (iniB c = false ∧ isDig c = false ∧ ¬ (c = 34 ∨ c = 39) ∧ k = 5 ∧ signL (c :: r) = .tok k t n wd) := by
  rw [pieceL_cons] at h
  by_cases c1 : iniB c = true
  · rw [if_pos c1] at h
    refine Or.inl ⟨c1, ?_, h⟩
    unfold nameL at h
    split at h
    · cases h
    · injection h with h1 h2 h3 h4
      rw [← h1]; split
      · exact Or.inr rfl
      · exact Or.inl rfl
  · rw [if_neg c1] at h
    have c1 : iniB c = false := by simpa using c1
    by_cases c2 : isDig c = true
    · rw [if_pos c2] at h
      refine Or.inr (Or.inl ⟨c1, c2, ?_, h⟩)
      unfold numberL at h
      split at h
      · cases h
      · split at h
        · injection h with h1; exact h1.symm
        · cases h
    · rw [if_neg c2] at h
      have c2 : isDig c = false := by simpa using c2
      by_cases c3 : c = 34 ∨ c = 39
      · rw [if_pos c3] at h
        refine Or.inr (Or.inr (Or.inl ⟨c1, c2, c3, ?_, h⟩))
        unfold literalL at h
        split at h
        · cases h
        · exact (plainP_le h).2.1
      · rw [if_neg c3] at h
        refine Or.inr (Or.inr (Or.inr ⟨c1, c2, c3, ?_, h⟩))
        unfold signL at h
        split at h
        · cases h
        · injection h with h1; exact h1.symm

theorem nameL_alone {l : List UInt8} {k : Nat} {t : ByteArray} {n : Nat} (h : nameL l = .tok k t n l.length) : l.all innB = true ∧ l.length ≤ 4096 ∧ k = (if wordB l then 2 else 1) ∧ t = mkB l ∧ n = 0 := by
  unfold nameL at h
  split at h
  · cases h
  · rename_i hle
    injection h with h1 h2 h3 h4
    rw [h4, List.take_of_length_le (Nat.le_refl _)] at h1 h2
    exact ⟨run_all _ _ h4, by omega, h1.symm, h2.symm, h3.symm⟩
theorem nameL_app {l : List UInt8} (ha : l.all innB = true) (hl : l.length ≤ 4096) (tail : List UInt8) (ht : BlankAhead tail) : nameL (l ++ tail) = .tok (if wordB l then 2 else 1) (mkB l) 0 l.length := by
  have hr : runL innB (l ++ tail) = l.length := run_app innB l tail ha fun c hc => by rw [ahead_head ht c hc]; decide
  unfold nameL
  rw [hr, if_neg (by omega), List.take_left]

theorem sg_1 (l : List UInt8) (j : Nat) (hj : 1 ≤ j) (h : signN l = j) : j ≤ l.length ∧ signB (l.take j) = true := by
  unfold signN at h
  split at h
  · subst h; assumption
  · split at h
    · subst h; assumption
    · split at h
      · subst h; assumption
      · omega
theorem sg_at (l : List UInt8) (j : Nat) (h1 : 1 ≤ j) (h3 : j ≤ 3) (ha : ∀ k, j < k → k ≤ 3 → ¬ (k ≤ l.length ∧ signB (l.take k) = true)) (hh : j ≤ l.length ∧ signB (l.take j) = true) : signN l = j := by
  have : j = 1 ∨ j = 2 ∨ j = 3 := by omega
  unfold signN
  rcases this with rfl | rfl | rfl
  · rw [if_neg (ha 3 (by omega) (by omega)), if_neg (ha 2 (by omega) (by omega)), if_pos hh]
  · rw [if_neg (ha 3 (by omega) (by omega)), if_pos hh]
  · rw [if_pos hh]
theorem signs_no_blank : ∀ x ∈ signsL, ∀ c ∈ x, c ≠ 32 := by decide
theorem sign_mem {l : List UInt8} : signB l = true ↔ l ∈ signsL := by unfold signB; simp
theorem signs_len3 : ∀ x ∈ signsL, x.length ≤ 3 ∧ 1 ≤ x.length := by decide
theorem signs_first : ∀ x ∈ signsL, ∀ c ∈ x.head?, iniB c = false ∧ isDig c = false ∧ c ≠ 34 ∧ c ≠ 39 ∧ blankB c = false ∧ (c = 47 → x.tail.head? ≠ some 47 ∧ x.tail.head? ≠ some 42) := by decide
theorem signL_app {l : List UInt8} (hs : signB l = true) (tail : List UInt8) (ht : BlankAhead tail) : signL (l ++ tail) = .tok 5 (mkB l) 0 l.length := by
  obtain ⟨h3, h1⟩ := signs_len3 l (sign_mem.1 hs)
  have hn : signN (l ++ tail) = l.length := by
    refine sg_at _ _ h1 h3 ?_ ⟨by simp, by rw [List.take_left]; exact hs⟩
    rintro k hk1 hk2 ⟨hk3, hk4⟩
    rcases ht with rfl | ht
    · simp at hk3; omega
    · cases tail with
      | nil => cases ht
      | cons c r =>
        rw [List.head?_cons] at ht
        have := Option.some.inj ht
        subst this
        refine signs_no_blank _ (sign_mem.1 hk4) 32 ?_ rfl
        rw [List.take_append]
        obtain ⟨j, hj⟩ : ∃ j, k - l.length = j + 1 := ⟨k - l.length - 1, by omega⟩
        rw [hj, List.take_succ_cons]
        simp
  unfold signL
  rw [hn, if_neg (by omega), List.take_left]

end Go.Proofs.YtablckajobefeaaGreatDoor.S
/-
  The parser in plain mathematics: over a list of tokens; how far it is, what it reads, where it is refused. Open recursion: 'step rec' is one method's body, 'run n' is n bodies deep.
-/
namespace Go.Proofs.YtablckajobefeaaGreatDoor.S
open Go.RowKit Fl

/-- how far a parser is: the next token's number, the level, the parts made -/
structure Ps where
  next : Nat
  level : Int
  parts : Int
/-- a part: its kind, place, text, number (a float's word), kids -/
inductive Tr where
  | mk (kind : Nat) (p : Int) (text : ByteArray) (num : Nat) (kids : List Tr)
def Tr.kind : Tr → Nat | .mk k _ _ _ _ => k
def Tr.kids : Tr → List Tr | .mk _ _ _ _ l => l
/-- a result: what was read, and how far one is then; a fault at a place; or the depth of the recursion ran out -/
inductive Rs (α : Type) where
  | ok (a : α) (s : Ps)
  | bad (p : Int) (k : Int)
  | out
def Rs.bind {α β : Type} (r : Rs α) (f : α → Ps → Rs β) : Rs β :=
  match r with
  | .ok a s => f a s
  | .bad p k => .bad p k
  | .out => .out
theorem Rs.bind_ok {α β : Type} {r : Rs α} {a : α} {s : Ps} (h : r = .ok a s) (f : α → Ps → Rs β) : r.bind f = f a s := by rw [h]; rfl
theorem Rs.bind_bad {α β : Type} {r : Rs α} {p k : Int} (h : r = .bad p k) (f : α → Ps → Rs β) : r.bind f = .bad p k := by rw [h]; rfl
theorem Rs.bind_out {α β : Type} {r : Rs α} (h : r = .out) (f : α → Ps → Rs β) : r.bind f = .out := by rw [h]; rfl

def w64 (n : Int) : Int := wrap64 n

/-- what a token has in the text as it stands there -/
def saidT (t : Tk) : ByteArray := if t.kind = 4 then ⟨#[]⟩ else t.text
def noTk : Tk := ⟨0, 0, ⟨#[]⟩, 0⟩
def tkAt (T : List Tk) (i : Nat) : Tk := T.getD i noTk
def tok (T : List Tk) (s : Ps) : Tk := tkAt T s.next
def sd (T : List Tk) (s : Ps) : ByteArray := saidT (tok T s)
def here (T : List Tk) (s : Ps) : Int := (tok T s).pos
/-- one token further -/
def Ps.on (s : Ps) : Ps := { s with next := s.next + 1 }
def take1 (T : List Tk) (c : ByteArray) (s : Ps) : Rs Unit := if sd T s == c then .ok () s.on else .bad (here T s) 5
def takes (T : List Tk) : List ByteArray → Ps → Rs Unit
  | [], s => .ok () s
  | c :: r, s => (take1 T c s).bind fun _ s1 => takes T r s1
def mkP (k : Nat) (p : Int) (t : ByteArray) (x : Nat) (l : List Tr) (s : Ps) : Rs Tr := .ok (.mk k p t x l) { s with parts := w64 (s.parts + 1) }
def nameR (T : List Tk) (s : Ps) : Rs ByteArray := if (tok T s).kind = 1 then .ok (tok T s).text s.on else .bad (here T s) 5
def wordR (T : List Tk) (s : Ps) : Rs ByteArray := if (tok T s).kind = 2 then .ok (tok T s).text s.on else nameR T s
def deeperR (T : List Tk) (f : Ps → Rs Tr) (s : Ps) : Rs Tr :=
  if s.level = 200 then .bad (here T s) 6 else (f { s with level := w64 (s.level + 1) }).bind fun t s1 => .ok t { s1 with level := w64 (s1.level - 1) }
def bareR (T : List Tk) (k : Nat) (l : List ByteArray) (s : Ps) : Rs Tr := (takes T l s).bind fun _ s1 => mkP k (here T s) ⟨#[]⟩ 0 [] s1
def declR (T : List Tk) (s : Ps) : Rs Tr :=
  if sd T s == (⟨#[99, 111, 110, 115, 116]⟩ : ByteArray) then (nameR T s.on).bind fun n s1 => mkP 4 (here T s) n 0 [] s1
  else (take1 T (⟨#[108, 101, 116]⟩ : ByteArray) s).bind fun _ s1 => (nameR T s1).bind fun n s2 => mkP 3 (here T s) n 0 [] s2
def paramR (T : List Tk) (s : Ps) : Rs Tr := (nameR T s).bind fun n s1 => mkP 26 (here T s) n 0 [] s1
def numR (T : List Tk) (s : Ps) : Rs Tr := mkP 20 (here T s) ⟨#[]⟩ (tok T s).num [] s.on
/-- what stands between commas, up to the sign that ends it; l: what is read so far -/
def listedR (T : List Tk) (stop : ByteArray) (most : Nat) (f : Ps → Rs Tr) : Nat → List Tr → Ps → Rs (List Tr)
  | 0, _, _ => .out
  | n + 1, l, s =>
    if l.length = most then .bad (here T s) 5
    else (f s).bind fun t s1 => if sd T s1 == stop then .ok (l ++ [t]) s1.on else (take1 T (⟨#[44]⟩ : ByteArray) s1).bind fun _ s2 => listedR T stop most f n (l ++ [t]) s2
def listR (T : List Tk) (stop : ByteArray) (most : Nat) (f : Ps → Rs Tr) (s : Ps) : Rs (List Tr) :=
  if sd T s == stop then .ok [] s.on else listedR T stop most f (T.length + 1) [] s
/-- statements up to a } -/
def blockL (T : List Tk) (f : Ps → Rs Tr) : Nat → List Tr → Ps → Rs (List Tr)
  | 0, _, _ => .out
  | n + 1, l, s => if sd T s == (⟨#[125]⟩ : ByteArray) then .ok l s.on else (f s).bind fun t s1 => blockL T f n (l ++ [t]) s1
/-- statements up to the end -/
def scriptL (T : List Tk) (f : Ps → Rs Tr) : Nat → List Tr → Ps → Rs (List Tr)
  | 0, _, _ => .out
  | n + 1, l, s => if (tok T s).kind = 0 then .ok l s else (f s).bind fun t s1 => scriptL T f n (l ++ [t]) s1

def levelOf (c : ByteArray) : Nat :=
  if c == (⟨#[124, 124]⟩ : ByteArray) then 1 else if c == (⟨#[38, 38]⟩ : ByteArray) then 2 else if c == (⟨#[124]⟩ : ByteArray) then 3 else if c == (⟨#[94]⟩ : ByteArray) then 4 else if c == (⟨#[38]⟩ : ByteArray) then 5
  else if c == (⟨#[61, 61]⟩ : ByteArray) || c == (⟨#[33, 61]⟩ : ByteArray) || c == (⟨#[61, 61, 61]⟩ : ByteArray) || c == (⟨#[33, 61, 61]⟩ : ByteArray) then 6
  else if c == (⟨#[60]⟩ : ByteArray) || c == (⟨#[62]⟩ : ByteArray) || c == (⟨#[60, 61]⟩ : ByteArray) || c == (⟨#[62, 61]⟩ : ByteArray) || c == (⟨#[105, 110]⟩ : ByteArray) || c == (⟨#[105, 110, 115, 116, 97, 110, 99, 101, 111, 102]⟩ : ByteArray) then 7
  else if c == (⟨#[60, 60]⟩ : ByteArray) || c == (⟨#[62, 62]⟩ : ByteArray) || c == (⟨#[62, 62, 62]⟩ : ByteArray) then 8
  else if c == (⟨#[43]⟩ : ByteArray) || c == (⟨#[45]⟩ : ByteArray) then 9
  else if c == (⟨#[42]⟩ : ByteArray) || c == (⟨#[47]⟩ : ByteArray) || c == (⟨#[37]⟩ : ByteArray) then 10 else 0
def putsB (c : ByteArray) : Bool := c == (⟨#[61]⟩ : ByteArray) || c == (⟨#[43, 61]⟩ : ByteArray) || c == (⟨#[45, 61]⟩ : ByteArray) || c == (⟨#[42, 61]⟩ : ByteArray) || c == (⟨#[47, 61]⟩ : ByteArray) || c == (⟨#[37, 61]⟩ : ByteArray)
def leadsB (c : ByteArray) : Bool := c == (⟨#[33]⟩ : ByteArray) || c == (⟨#[45]⟩ : ByteArray) || c == (⟨#[43]⟩ : ByteArray) || c == (⟨#[126]⟩ : ByteArray) || c == (⟨#[116, 121, 112, 101, 111, 102]⟩ : ByteArray) || c == (⟨#[118, 111, 105, 100]⟩ : ByteArray) || c == (⟨#[100, 101, 108, 101, 116, 101]⟩ : ByteArray)
def targetB (k : Nat) : Bool := k == 26 || k == 34 || k == 35

/-- the methods that read by one another -/
inductive Mth where
  | statement | stated | body | bodyIn | block | declaration | branch | loop | answer | guarded | test | ended
  | assign | assigned | cond | unary | led | head | newIn | primary | nested | pair | key
  | function (k : Nat) (p : Int) (n : ByteArray)
  | sides (n : Nat)
  | chain (c : Bool)
  | accessor (k : Nat)

/-- signs and their right sides, as long as they bind at least so tight -/
def sidesL (T : List Tk) (rec : Mth → Ps → Rs Tr) (p : Int) (least : Nat) : Nat → Tr → Ps → Rs Tr
  | 0, _, _ => .out
  | n + 1, x, s =>
    if levelOf (sd T s) < least then .ok x s
    else (rec (.sides (levelOf (sd T s) + 1)) s.on).bind fun y s1 =>
      (mkP (if levelOf (sd T s) = 1 then 41 else if levelOf (sd T s) = 2 then 40 else 39) p (if levelOf (sd T s) = 1 ∨ levelOf (sd T s) = 2 then ⟨#[]⟩ else sd T s) 0 [x, y] s1).bind fun z s2 => sidesL T rec p least n z s2
/-- what is called, and what it is called with -/
def argsR (T : List Tk) (rec : Mth → Ps → Rs Tr) (x : Tr) (s : Ps) : Rs (List Tr) :=
  (take1 T (⟨#[40]⟩ : ByteArray) s).bind fun _ s1 => (listR T (⟨#[41]⟩ : ByteArray) 64 (rec .assign) s1).bind fun l s2 => .ok (x :: l) s2
def chainL (T : List Tk) (rec : Mth → Ps → Rs Tr) (p : Int) (c : Bool) : Nat → Tr → Ps → Rs Tr
  | 0, _, _ => .out
  | n + 1, x, s =>
    if sd T s == (⟨#[46]⟩ : ByteArray) then (wordR T s.on).bind fun d s1 => (mkP 34 p d 0 [x] s1).bind fun z s2 => chainL T rec p c n z s2
    else if sd T s == (⟨#[91]⟩ : ByteArray) then (rec .assign s.on).bind fun y s1 => (take1 T (⟨#[93]⟩ : ByteArray) s1).bind fun _ s2 => (mkP 35 p ⟨#[]⟩ 0 [x, y] s2).bind fun z s3 => chainL T rec p c n z s3
    else if c && (sd T s == (⟨#[40]⟩ : ByteArray)) then (argsR T rec x s).bind fun l s1 => (mkP 36 p ⟨#[]⟩ 0 l s1).bind fun z s2 => chainL T rec p c n z s2
    else .ok x s

/-- one method's body -/
def step (T : List Tk) (rec : Mth → Ps → Rs Tr) : Mth → Ps → Rs Tr
  | .statement, s => deeperR T (rec .stated) s
  | .body, s => deeperR T (rec .bodyIn) s
  | .bodyIn, s => if sd T s == (⟨#[108, 101, 116]⟩ : ByteArray) || sd T s == (⟨#[99, 111, 110, 115, 116]⟩ : ByteArray) || sd T s == (⟨#[102, 117, 110, 99, 116, 105, 111, 110]⟩ : ByteArray) then .bad (here T s) 5 else rec .stated s
  | .stated, s =>
    if sd T s == (⟨#[123]⟩ : ByteArray) then rec .block s
    else if sd T s == (⟨#[59]⟩ : ByteArray) then bareR T 15 [(⟨#[59]⟩ : ByteArray)] s
    else if sd T s == (⟨#[108, 101, 116]⟩ : ByteArray) || sd T s == (⟨#[99, 111, 110, 115, 116]⟩ : ByteArray) then rec .declaration s
    else if sd T s == (⟨#[102, 117, 110, 99, 116, 105, 111, 110]⟩ : ByteArray) then (take1 T (⟨#[102, 117, 110, 99, 116, 105, 111, 110]⟩ : ByteArray) s).bind fun _ s1 => (nameR T s1).bind fun n s2 => rec (.function 5 (here T s) n) s2
    else if sd T s == (⟨#[105, 102]⟩ : ByteArray) then rec .branch s
    else if sd T s == (⟨#[119, 104, 105, 108, 101]⟩ : ByteArray) then (take1 T (⟨#[119, 104, 105, 108, 101]⟩ : ByteArray) s).bind fun _ s1 => (rec .test s1).bind fun x s2 => (rec .body s2).bind fun y s3 => mkP 8 (here T s) ⟨#[]⟩ 0 [x, y] s3
    else if sd T s == (⟨#[102, 111, 114]⟩ : ByteArray) then rec .loop s
    else if sd T s == (⟨#[114, 101, 116, 117, 114, 110]⟩ : ByteArray) then rec .answer s
    else if sd T s == (⟨#[116, 104, 114, 111, 119]⟩ : ByteArray) then (take1 T (⟨#[116, 104, 114, 111, 119]⟩ : ByteArray) s).bind fun _ s1 => (rec .ended s1).bind fun x s2 => mkP 12 (here T s) ⟨#[]⟩ 0 [x] s2
    else if sd T s == (⟨#[98, 114, 101, 97, 107]⟩ : ByteArray) then bareR T 13 [(⟨#[98, 114, 101, 97, 107]⟩ : ByteArray), (⟨#[59]⟩ : ByteArray)] s
    else if sd T s == (⟨#[99, 111, 110, 116, 105, 110, 117, 101]⟩ : ByteArray) then bareR T 14 [(⟨#[99, 111, 110, 116, 105, 110, 117, 101]⟩ : ByteArray), (⟨#[59]⟩ : ByteArray)] s
    else if sd T s == (⟨#[116, 114, 121]⟩ : ByteArray) then rec .guarded s
    else (rec .ended s).bind fun x s1 => mkP 6 (here T s) ⟨#[]⟩ 0 [x] s1
  | .block, s => (take1 T (⟨#[123]⟩ : ByteArray) s).bind fun _ s1 => (blockL T (rec .statement) (T.length + 1) [] s1).bind fun l s2 => mkP 2 (here T s) ⟨#[]⟩ 0 l s2
  | .ended, s => (rec .assign s).bind fun x s1 => (take1 T (⟨#[59]⟩ : ByteArray) s1).bind fun _ s2 => .ok x s2
  | .test, s => (take1 T (⟨#[40]⟩ : ByteArray) s).bind fun _ s1 => (rec .assign s1).bind fun x s2 => (take1 T (⟨#[41]⟩ : ByteArray) s2).bind fun _ s3 => .ok x s3
  | .declaration, s => (declR T s).bind fun x s1 =>
      match x with
      | .mk k p n m _ => if k = 3 ∧ (sd T s1 == (⟨#[59]⟩ : ByteArray)) = true then .ok x s1.on
        else (take1 T (⟨#[61]⟩ : ByteArray) s1).bind fun _ s2 => (rec .ended s2).bind fun y s3 => .ok (.mk k p n m [y]) s3
  | .function k p n, s => (take1 T (⟨#[40]⟩ : ByteArray) s).bind fun _ s1 => (listR T (⟨#[41]⟩ : ByteArray) 64 (paramR T) s1).bind fun l s2 => (rec .block s2).bind fun x s3 => mkP k p n 0 (l ++ [x]) s3
  | .branch, s => (take1 T (⟨#[105, 102]⟩ : ByteArray) s).bind fun _ s1 => (rec .test s1).bind fun x s2 => (rec .body s2).bind fun y s3 =>
      if sd T s3 == (⟨#[101, 108, 115, 101]⟩ : ByteArray) then (rec .body s3.on).bind fun z s4 => mkP 7 (here T s) ⟨#[]⟩ 0 [x, y, z] s4 else mkP 7 (here T s) ⟨#[]⟩ 0 [x, y] s3
  | .loop, s => (takes T [(⟨#[102, 111, 114]⟩ : ByteArray), (⟨#[40]⟩ : ByteArray)] s).bind fun _ s1 => (declR T s1).bind fun x s2 =>
      if sd T s2 == (⟨#[105, 110]⟩ : ByteArray) then (rec .assign s2.on).bind fun y s3 => (take1 T (⟨#[41]⟩ : ByteArray) s3).bind fun _ s4 => (rec .body s4).bind fun z s5 => mkP 9 (here T s) ⟨#[]⟩ 0 [x, y, z] s5
      else (take1 T (⟨#[111, 102]⟩ : ByteArray) s2).bind fun _ s3 => (rec .assign s3).bind fun y s4 => (take1 T (⟨#[41]⟩ : ByteArray) s4).bind fun _ s5 => (rec .body s5).bind fun z s6 => mkP 10 (here T s) ⟨#[]⟩ 0 [x, y, z] s6
  | .answer, s => (take1 T (⟨#[114, 101, 116, 117, 114, 110]⟩ : ByteArray) s).bind fun _ s1 =>
      if sd T s1 == (⟨#[59]⟩ : ByteArray) then mkP 11 (here T s) ⟨#[]⟩ 0 [] s1.on else (rec .ended s1).bind fun x s2 => mkP 11 (here T s) ⟨#[]⟩ 0 [x] s2
  | .guarded, s => (take1 T (⟨#[116, 114, 121]⟩ : ByteArray) s).bind fun _ s1 => (rec .block s1).bind fun x s2 =>
      (if sd T s2 == (⟨#[99, 97, 116, 99, 104]⟩ : ByteArray) then (take1 T (⟨#[40]⟩ : ByteArray) s2.on).bind fun _ s3 => (nameR T s3).bind fun n s4 => (take1 T (⟨#[41]⟩ : ByteArray) s4).bind fun _ s5 => (rec .block s5).bind fun y s6 => (mkP 17 (here T s2) n 0 [y] s6).bind fun c s7 => .ok [x, c] s7
       else .ok [x] s2).bind fun l s8 =>
      (if sd T s8 == (⟨#[102, 105, 110, 97, 108, 108, 121]⟩ : ByteArray) then (rec .block s8.on).bind fun y s9 => (mkP 18 (here T s8) ⟨#[]⟩ 0 [y] s9).bind fun c s10 => .ok (l ++ [c]) s10
       else .ok l s8).bind fun m s11 =>
      if m.length = 1 then .bad (here T s11) 5 else mkP 16 (here T s) ⟨#[]⟩ 0 m s11
  | .assign, s => deeperR T (rec .assigned) s
  | .assigned, s => (rec .cond s).bind fun x s1 =>
      if putsB (sd T s1) then (if targetB x.kind then (take1 T (sd T s1) s1).bind fun _ s2 => (rec .assign s2).bind fun y s3 => mkP 43 (here T s) (sd T s1) 0 [x, y] s3 else .bad (here T s1) 5)
      else .ok x s1
  | .cond, s => (rec (.sides 1) s).bind fun x s1 =>
      if sd T s1 == (⟨#[63]⟩ : ByteArray) then (rec .assign s1.on).bind fun y s2 => (take1 T (⟨#[58]⟩ : ByteArray) s2).bind fun _ s3 => (rec .assign s3).bind fun z s4 => mkP 42 (here T s) ⟨#[]⟩ 0 [x, y, z] s4
      else .ok x s1
  | .sides n, s => (rec .unary s).bind fun x s1 => sidesL T rec (here T s) n (T.length + 1) x s1
  | .unary, s => if leadsB (sd T s) then deeperR T (rec .led) s else rec (.chain true) s
  | .led, s => (rec .unary s.on).bind fun x s1 => mkP 38 (here T s) (tok T s).text 0 [x] s1
  | .chain c, s => (rec .head s).bind fun x s1 => chainL T rec (here T s) c (T.length + 1) x s1
  | .head, s => if sd T s == (⟨#[110, 101, 119]⟩ : ByteArray) then (deeperR T (rec .newIn) s).bind fun x s1 => (argsR T rec x s1).bind fun l s2 => mkP 37 (here T s) ⟨#[]⟩ 0 l s2 else rec .primary s
  | .newIn, s => (take1 T (⟨#[110, 101, 119]⟩ : ByteArray) s).bind fun _ s1 => rec (.chain false) s1
  | .primary, s =>
    if (tok T s).kind = 3 then numR T s
    else if (tok T s).kind = 4 then mkP 21 (here T s) (tok T s).text 0 [] s.on
    else if (tok T s).kind = 1 then mkP 26 (here T s) (tok T s).text 0 [] s.on
    else if (tok T s).text == (⟨#[116, 114, 117, 101]⟩ : ByteArray) then bareR T 22 [(⟨#[116, 114, 117, 101]⟩ : ByteArray)] s
    else if (tok T s).text == (⟨#[102, 97, 108, 115, 101]⟩ : ByteArray) then bareR T 23 [(⟨#[102, 97, 108, 115, 101]⟩ : ByteArray)] s
    else if (tok T s).text == (⟨#[110, 117, 108, 108]⟩ : ByteArray) then bareR T 24 [(⟨#[110, 117, 108, 108]⟩ : ByteArray)] s
    else if (tok T s).text == (⟨#[116, 104, 105, 115]⟩ : ByteArray) then bareR T 25 [(⟨#[116, 104, 105, 115]⟩ : ByteArray)] s
    else if (tok T s).text == (⟨#[40]⟩ : ByteArray) then rec .test s
    else if (tok T s).text == (⟨#[102, 117, 110, 99, 116, 105, 111, 110]⟩ : ByteArray) then rec .nested s
    else if (tok T s).text == (⟨#[123]⟩ : ByteArray) then (take1 T (⟨#[123]⟩ : ByteArray) s).bind fun _ s1 => (listR T (⟨#[125]⟩ : ByteArray) 16384 (rec .pair) s1).bind fun l s2 => mkP 28 (here T s) ⟨#[]⟩ 0 l s2
    else if (tok T s).text == (⟨#[91]⟩ : ByteArray) then (take1 T (⟨#[91]⟩ : ByteArray) s).bind fun _ s1 => (listR T (⟨#[93]⟩ : ByteArray) 16384 (rec .assign) s1).bind fun l s2 => mkP 33 (here T s) ⟨#[]⟩ 0 l s2
    else .bad (here T s) 5
  | .nested, s => (take1 T (⟨#[102, 117, 110, 99, 116, 105, 111, 110]⟩ : ByteArray) s).bind fun _ s1 =>
      if sd T s1 == (⟨#[40]⟩ : ByteArray) then rec (.function 27 (here T s) ⟨#[]⟩) s1 else (nameR T s1).bind fun n s2 => rec (.function 27 (here T s) n) s2
  | .pair, s =>
    if (sd T s == (⟨#[103, 101, 116]⟩ : ByteArray)) && !(saidT (tkAt T (s.next + 1)) == (⟨#[58]⟩ : ByteArray)) then rec (.accessor 30) s
    else if (sd T s == (⟨#[115, 101, 116]⟩ : ByteArray)) && !(saidT (tkAt T (s.next + 1)) == (⟨#[58]⟩ : ByteArray)) then rec (.accessor 31) s
    else (rec .key s).bind fun x s1 => (take1 T (⟨#[58]⟩ : ByteArray) s1).bind fun _ s2 => (rec .assign s2).bind fun y s3 => mkP 29 (here T s) ⟨#[]⟩ 0 [x, y] s3
  | .accessor k, s => (rec .key s.on).bind fun x s1 => (take1 T (⟨#[40]⟩ : ByteArray) s1).bind fun _ s2 =>
      (if k = 31 then (paramR T s2).bind fun y s3 => .ok [y] s3 else .ok [] s2).bind fun l s4 =>
      (take1 T (⟨#[41]⟩ : ByteArray) s4).bind fun _ s5 => (rec .block s5).bind fun y s6 => (mkP 27 (here T s1) ⟨#[]⟩ 0 (l ++ [y]) s6).bind fun z s7 => mkP k (here T s) ⟨#[]⟩ 0 [x, z] s7
  | .key, s =>
    if (tok T s).kind = 3 then numR T s
    else if (tok T s).kind = 4 then mkP 21 (here T s) (tok T s).text 0 [] s.on
    else if sd T s == (⟨#[91]⟩ : ByteArray) then (rec .assign s.on).bind fun x s1 => (take1 T (⟨#[93]⟩ : ByteArray) s1).bind fun _ s2 => mkP 32 (here T s) ⟨#[]⟩ 0 [x] s2
    else (wordR T s).bind fun n s1 => mkP 21 (here T s) n 0 [] s1
/-- n bodies deep -/
def run (T : List Tk) : Nat → Mth → Ps → Rs Tr
  | 0 => fun _ _ => .out
  | n + 1 => step T (run T n)
def scriptR (T : List Tk) (n : Nat) (s : Ps) : Rs Tr := (scriptL T (run T n .statement) (T.length + 1) [] s).bind fun l s1 => mkP 1 (here T s) ⟨#[]⟩ 0 l s1
end Go.Proofs.YtablckajobefeaaGreatDoor.S
/-
  The parser in plain mathematics: deeper recursion changes no result; it goes on by a token at least; it always comes to an end.
-/
namespace Go.Proofs.YtablckajobefeaaGreatDoor.S
open Go.RowKit Fl

/-- r is out, or r' is r -/
def Rs.Le {α : Type} (r r' : Rs α) : Prop := r = .out ∨ r' = r
theorem Rs.Le.refl {α : Type} (r : Rs α) : r.Le r := Or.inr rfl
theorem Rs.Le.bind {α β : Type} {r r' : Rs α} {f f' : α → Ps → Rs β} (h : r.Le r') (k : ∀ a s, (f a s).Le (f' a s)) : (r.bind f).Le (r'.bind f') := by
  rcases h with h | h
  · exact Or.inl (by rw [h]; rfl)
  · subst h
    cases r' with
    | ok a s => exact k a s
    | bad p q => exact Or.inr rfl
    | out => exact Or.inl rfl
theorem Rs.Le.ite {α : Type} {c : Prop} [Decidable c] {a b a' b' : Rs α} (h : a.Le a') (k : b.Le b') : (if c then a else b).Le (if c then a' else b') := by
  by_cases hc : c
  · rw [if_pos hc, if_pos hc]; exact h
  · rw [if_neg hc, if_neg hc]; exact k
section
variable {T : List Tk}
theorem le_deeper {f f' : Ps → Rs Tr} (h : ∀ s, (f s).Le (f' s)) (s : Ps) : (deeperR T f s).Le (deeperR T f' s) := by
  unfold deeperR
  split
  · exact Rs.Le.refl _
  · exact (h _).bind fun a s => Rs.Le.refl _
theorem le_listed {f f' : Ps → Rs Tr} (h : ∀ s, (f s).Le (f' s)) (c : ByteArray) (m : Nat) : ∀ (n : Nat) (l : List Tr) (s : Ps), (listedR T c m f n l s).Le (listedR T c m f' n l s)
  | 0, _, _ => Or.inl rfl
  | n + 1, l, s => by
    unfold listedR
    split
    · exact Rs.Le.refl _
    · refine (h _).bind fun a s => ?_
      split
      · exact Rs.Le.refl _
      · exact (Rs.Le.refl _).bind fun a s => le_listed h c m n _ s
theorem le_list {f f' : Ps → Rs Tr} (h : ∀ s, (f s).Le (f' s)) (c : ByteArray) (m : Nat) (s : Ps) : (listR T c m f s).Le (listR T c m f' s) := by
  unfold listR
  split
  · exact Rs.Le.refl _
  · exact le_listed h c m _ _ _
theorem le_block {f f' : Ps → Rs Tr} (h : ∀ s, (f s).Le (f' s)) : ∀ (n : Nat) (l : List Tr) (s : Ps), (blockL T f n l s).Le (blockL T f' n l s)
  | 0, _, _ => Or.inl rfl
  | n + 1, l, s => by
    unfold blockL
    split
    · exact Rs.Le.refl _
    · exact (h _).bind fun a s => le_block h n _ s
theorem le_args {r r' : Mth → Ps → Rs Tr} (h : ∀ m s, (r m s).Le (r' m s)) (x : Tr) (s : Ps) : (argsR T r x s).Le (argsR T r' x s) := by
  unfold argsR
  exact (Rs.Le.refl _).bind fun a s => (le_list (h .assign) _ _ s).bind fun a s => Rs.Le.refl _
theorem le_sides {r r' : Mth → Ps → Rs Tr} (h : ∀ m s, (r m s).Le (r' m s)) (p : Int) (least : Nat) : ∀ (n : Nat) (x : Tr) (s : Ps), (sidesL T r p least n x s).Le (sidesL T r' p least n x s)
  | 0, _, _ => Or.inl rfl
  | n + 1, l, s => by
    unfold sidesL
    split
    · exact Rs.Le.refl _
    · exact (h _ _).bind fun a s => (Rs.Le.refl _).bind fun a s => le_sides h p least n _ s
theorem le_chain {r r' : Mth → Ps → Rs Tr} (h : ∀ m s, (r m s).Le (r' m s)) (p : Int) (c : Bool) : ∀ (n : Nat) (x : Tr) (s : Ps), (chainL T r p c n x s).Le (chainL T r' p c n x s)
  | 0, _, _ => Or.inl rfl
  | n + 1, x, s => by
    unfold chainL
    split
    · exact (Rs.Le.refl _).bind fun a s => (Rs.Le.refl _).bind fun a s => le_chain h p c n _ s
    · split
      · exact (h _ _).bind fun a s => (Rs.Le.refl _).bind fun a s => (Rs.Le.refl _).bind fun a s => le_chain h p c n _ s
      · split
        · exact (le_args h _ _).bind fun a s => (Rs.Le.refl _).bind fun a s => le_chain h p c n _ s
        · exact Rs.Le.refl _
set_option maxHeartbeats 2000000 in
theorem le_step {r r' : Mth → Ps → Rs Tr} (h : ∀ m s, (r m s).Le (r' m s)) : ∀ m s, (step T r m s).Le (step T r' m s) := by
  intro m s
  cases m <;> unfold step <;>
    repeat' (first
      | with_reducible exact Rs.Le.refl _
      | with_reducible exact h _ _
      | with_reducible exact le_deeper (h _) _
      | with_reducible exact le_list (h _) _ _ _
      | with_reducible exact le_block (h _) _ _ _
      | with_reducible exact le_args h _ _
      | with_reducible exact le_sides h _ _ _ _ _
      | with_reducible exact le_chain h _ _ _ _ _
      | (with_reducible refine Rs.Le.bind ?_ fun a s => ?_)
      | (with_reducible refine Rs.Le.ite ?_ ?_)
      | split)
theorem le_run (n : Nat) : ∀ m s, (run T n m s).Le (run T (n + 1) m s) := by
  induction n with
  | zero => exact fun _ _ => Or.inl rfl
  | succ n ih => exact le_step ih
theorem run_more {n k : Nat} (hk : n ≤ k) {m : Mth} {s : Ps} (h : run T n m s ≠ .out) : run T k m s = run T n m s := by
  induction hk with
  | refl => rfl
  | step _ ih => exact ((le_run _ m s).resolve_left (by rw [ih]; exact h)).trans ih
theorem str_beq {a b : ByteArray} (h : (a == b) = true) : a = b := by
  have h1 : a.data == b.data := h
  cases a; cases b
  exact congrArg _ (eq_of_beq h1)
theorem tok_end (hm : MayP T) {s : Ps} (hs : s.next < T.length) (hk : (tok T s).kind ≠ 0) : s.next + 1 < T.length := by
  have he : T[s.next]? = some (tok T s) := by
    unfold tok tkAt
    rw [List.getD_eq_getElem?_getD, List.getElem?_eq_getElem hs]; rfl
  have := (hm.2 _ _ he).2
  rcases Nat.lt_or_ge (s.next + 1) T.length with h | h
  · exact h
  · exact absurd (this.2 (by omega)) hk
theorem tokp_at (hm : MayP T) {s : Ps} (hs : s.next < T.length) : TokP (tok T s) := by
  have he : T[s.next]? = some (tok T s) := by
    unfold tok tkAt
    rw [List.getD_eq_getElem?_getD, List.getElem?_eq_getElem hs]; rfl
  exact (hm.2 _ _ he).1
theorem kind_of_sd (hm : MayP T) {s : Ps} (hs : s.next < T.length) {c : ByteArray} (h : (sd T s == c) = true) (hc : c ≠ ⟨#[]⟩) : (tok T s).kind ≠ 0 := by
  intro h0
  have e := str_beq h
  rcases tokp_at hm hs with ⟨_, h2, _⟩ | ⟨h1, _⟩ | ⟨h1, _⟩ | ⟨h1, _⟩
  · apply hc; rw [← e]; unfold sd saidT; rw [h0, if_neg (by decide), h2]
  · omega
  · omega
  · omega
theorem sd_empty {s : Ps} (h0 : (tok T s).kind = 0) (hm : MayP T) (hs : s.next < T.length) : sd T s = ⟨#[]⟩ := by
  rcases tokp_at hm hs with ⟨_, h2, _⟩ | ⟨h1, _⟩ | ⟨h1, _⟩ | ⟨h1, _⟩
  · unfold sd saidT; rw [h0, if_neg (by decide), h2]
  · omega
  · omega
  · omega
theorem kind_of_puts (hm : MayP T) {s : Ps} (hs : s.next < T.length) (h : putsB (sd T s) = true) : (tok T s).kind ≠ 0 := fun h0 => by rw [sd_empty h0 hm hs] at h; exact absurd h (by decide)
theorem kind_of_leads (hm : MayP T) {s : Ps} (hs : s.next < T.length) (h : leadsB (sd T s) = true) : (tok T s).kind ≠ 0 := fun h0 => by rw [sd_empty h0 hm hs] at h; exact absurd h (by decide)
theorem kind_of_level (hm : MayP T) {s : Ps} (hs : s.next < T.length) (h : levelOf (sd T s) ≠ 0) : (tok T s).kind ≠ 0 := fun h0 => by rw [sd_empty h0 hm hs] at h; exact absurd h (by decide)

/-- it ends, and where it reads something it is at k at least, within the tokens -/
def Gd {α : Type} (T : List Tk) (k : Nat) (r : Rs α) : Prop :=
  match r with
  | .ok _ s => k ≤ s.next ∧ s.next < T.length
  | .bad _ _ => True
  | .out => False
theorem gd_bind {α β : Type} {k k' : Nat} {r : Rs α} {f : α → Ps → Rs β} (h : Gd T k r) (g : ∀ a s, k ≤ s.next → s.next < T.length → Gd T k' (f a s)) : Gd T k' (r.bind f) := by
  cases r with
  | ok a s => exact g a s h.1 h.2
  | bad p q => trivial
  | out => exact h.elim
theorem gd_low {α : Type} {k k' : Nat} {r : Rs α} (h : Gd T k r) (hk : k' ≤ k) : Gd T k' r := by
  cases r with
  | ok a s => exact ⟨Nat.le_trans hk h.1, h.2⟩
  | bad p q => trivial
  | out => exact h
theorem gd_not_out {α : Type} {k : Nat} {r : Rs α} (h : Gd T k r) : r ≠ .out := by
  intro e; rw [e] at h; exact h
theorem gd_ite {α : Type} {c : Prop} [Decidable c] {k : Nat} {a b : Rs α} (h : c → Gd T k a) (g : ¬ c → Gd T k b) : Gd T k (if c then a else b) := by
  by_cases hc : c
  · rw [if_pos hc]; exact h hc
  · rw [if_neg hc]; exact g hc
theorem gd_take1 (hm : MayP T) {c : ByteArray} (hc : c ≠ ⟨#[]⟩) {s : Ps} (hs : s.next < T.length) : Gd T (s.next + 1) (take1 T c s) := by
  unfold take1
  split
  · rename_i h
    exact ⟨Nat.le_refl _, tok_end hm hs (kind_of_sd hm hs h hc)⟩
  · trivial
theorem gd_take1_any (hm : MayP T) {s s0 : Ps} (hs : s.next < T.length) (hk : (tok T s).kind ≠ 0) : Gd T (s.next + 1) (take1 T (sd T s0) s) := by
  unfold take1
  split
  · exact ⟨Nat.le_refl _, tok_end hm hs hk⟩
  · trivial
theorem gd_mkP {s : Ps} (hs : s.next < T.length) (k : Nat) (p : Int) (t : ByteArray) (x : Nat) (l : List Tr) : Gd T s.next (mkP k p t x l s) := ⟨Nat.le_refl _, hs⟩
theorem gd_name (hm : MayP T) {s : Ps} (hs : s.next < T.length) : Gd T (s.next + 1) (nameR T s) := by
  unfold nameR
  split
  · rename_i h
    exact ⟨Nat.le_refl _, tok_end hm hs (by omega)⟩
  · trivial
theorem gd_word (hm : MayP T) {s : Ps} (hs : s.next < T.length) : Gd T (s.next + 1) (wordR T s) := by
  unfold wordR
  split
  · rename_i h
    exact ⟨Nat.le_refl _, tok_end hm hs (by omega)⟩
  · exact gd_name hm hs
theorem gd_num (hm : MayP T) {s : Ps} (hs : s.next < T.length) (h : (tok T s).kind = 3) : Gd T (s.next + 1) (numR T s) := ⟨Nat.le_refl _, tok_end hm hs (by omega)⟩
theorem gd_decl (hm : MayP T) {s : Ps} (hs : s.next < T.length) : Gd T (s.next + 1) (declR T s) := by
  unfold declR
  split
  · rename_i h
    have h1 := tok_end hm hs (kind_of_sd hm hs h (by decide))
    refine gd_bind (gd_name hm (s := s.on) h1) fun n s1 h2 h3 => gd_low (gd_mkP h3 _ _ _ _ _) ?_
    have : s.on.next = s.next + 1 := rfl
    omega
  · refine gd_bind (gd_take1 hm (by decide) hs) fun _ s1 h1 h2 => gd_bind (gd_name hm h2) fun n s2 h3 h4 => gd_low (gd_mkP h4 _ _ _ _ _) (by omega)
theorem gd_param (hm : MayP T) {s : Ps} (hs : s.next < T.length) : Gd T (s.next + 1) (paramR T s) := gd_bind (gd_name hm hs) fun n s1 h1 h2 => gd_low (gd_mkP h2 _ _ _ _ _) (by omega)
theorem gd_bare (hm : MayP T) (k : Nat) {c : ByteArray} (hc : c ≠ ⟨#[]⟩) {s : Ps} (hs : s.next < T.length) : Gd T (s.next + 1) (bareR T k [c] s) := by
  unfold bareR takes takes
  refine gd_bind (gd_bind (k' := s.next + 1) (gd_take1 hm hc hs) fun _ s1 h1 h2 => ⟨h1, h2⟩) fun _ s1 h1 h2 => gd_low (gd_mkP h2 _ _ _ _ _) h1
theorem gd_bare2 (hm : MayP T) (k : Nat) {c d : ByteArray} (hc : c ≠ ⟨#[]⟩) (hd : d ≠ ⟨#[]⟩) {s : Ps} (hs : s.next < T.length) : Gd T (s.next + 1) (bareR T k [c, d] s) := by
  unfold bareR takes takes takes
  refine gd_bind (gd_bind (k' := s.next + 1) (gd_take1 hm hc hs) fun _ s1 h1 h2 => gd_bind (gd_take1 hm hd h2) fun _ s2 h3 h4 => ⟨by omega, h4⟩) fun _ s1 h1 h2 => gd_low (gd_mkP h2 _ _ _ _ _) h1
theorem gd_takes2 (hm : MayP T) {c d : ByteArray} (hc : c ≠ ⟨#[]⟩) (hd : d ≠ ⟨#[]⟩) {s : Ps} (hs : s.next < T.length) : Gd T (s.next + 1) (takes T [c, d] s) := by
  unfold takes takes takes
  exact gd_bind (k' := s.next + 1) (gd_take1 hm hc hs) fun _ s1 h1 h2 => gd_bind (gd_take1 hm hd h2) fun _ s2 h3 h4 => ⟨by omega, h4⟩
theorem gd_deeper {f : Ps → Rs Tr} {k : Nat} {s : Ps} (h : ∀ s1, s1.next = s.next → tok T s1 = tok T s → Gd T k (f s1)) : Gd T k (deeperR T f s) := by
  unfold deeperR
  split
  · trivial
  · exact gd_bind (h _ rfl rfl) fun t s1 h1 h2 => ⟨h1, h2⟩
theorem gd_listed (hm : MayP T) {f : Ps → Rs Tr} {c : ByteArray} (hc : c ≠ ⟨#[]⟩) (m k : Nat) (h : ∀ s1 : Ps, k ≤ s1.next → s1.next < T.length → Gd T (s1.next + 1) (f s1)) : ∀ (n : Nat) (l : List Tr) (s : Ps), k ≤ s.next → s.next < T.length → T.length - s.next < n → Gd T (k + 1) (listedR T c m f n l s)
  | 0, _, _, _, _, h0 => by omega
  | n + 1, l, s, hk, hs, hn => by
    unfold listedR
    split
    · trivial
    · refine gd_bind (h s hk hs) fun t s1 h1 h2 => ?_
      split
      · rename_i h3
        exact ⟨by show k + 1 ≤ s1.next + 1; omega, tok_end hm h2 (kind_of_sd hm h2 h3 hc)⟩
      · exact gd_bind (gd_take1 hm (by decide) h2) fun _ s2 h3 h4 => gd_listed hm hc m k h n _ s2 (by omega) h4 (by omega)
theorem gd_list (hm : MayP T) {f : Ps → Rs Tr} {c : ByteArray} (hc : c ≠ ⟨#[]⟩) (m : Nat) {s : Ps} (hs : s.next < T.length) (h : ∀ s1 : Ps, s.next ≤ s1.next → s1.next < T.length → Gd T (s1.next + 1) (f s1)) : Gd T (s.next + 1) (listR T c m f s) := by
  unfold listR
  split
  · rename_i h3
    exact ⟨Nat.le_refl _, tok_end hm hs (kind_of_sd hm hs h3 hc)⟩
  · exact gd_listed hm hc m s.next h _ _ _ (Nat.le_refl _) hs (by omega)
theorem gd_block (hm : MayP T) {f : Ps → Rs Tr} (k : Nat) (h : ∀ s1 : Ps, k ≤ s1.next → s1.next < T.length → Gd T (s1.next + 1) (f s1)) : ∀ (n : Nat) (l : List Tr) (s : Ps), k ≤ s.next → s.next < T.length → T.length - s.next < n → Gd T (k + 1) (blockL T f n l s)
  | 0, _, _, _, _, h0 => by omega
  | n + 1, l, s, hk, hs, hn => by
    unfold blockL
    split
    · rename_i h3
      exact ⟨by show k + 1 ≤ s.next + 1; omega, tok_end hm hs (kind_of_sd hm hs h3 (by decide))⟩
    · exact gd_bind (h s hk hs) fun t s1 h1 h2 => gd_block hm k h n _ s1 (by omega) h2 (by omega)
theorem gd_script (hm : MayP T) {f : Ps → Rs Tr} (k : Nat) (h : ∀ s1 : Ps, k ≤ s1.next → s1.next < T.length → Gd T (s1.next + 1) (f s1)) : ∀ (n : Nat) (l : List Tr) (s : Ps), k ≤ s.next → s.next < T.length → T.length - s.next < n → Gd T k (scriptL T f n l s)
  | 0, _, _, _, _, h0 => by omega
  | n + 1, l, s, hk, hs, hn => by
    unfold scriptL
    split
    · exact ⟨hk, hs⟩
    · exact gd_bind (h s hk hs) fun t s1 h1 h2 => gd_script hm k h n _ s1 (by omega) h2 (by omega)

/-- how far a method is from one that takes a token -/
def rank : Mth → Nat
  | .body => 17 | .bodyIn => 16 | .statement => 16 | .stated => 15 | .ended => 14 | .assign => 13 | .assigned => 12 | .cond => 11 | .sides _ => 10 | .unary => 9 | .led => 8 | .chain _ => 8 | .head => 7 | .primary => 6
  | .pair => 3 | .key => 2 | .accessor _ => 2
  | _ => 1
/-- what a method is only called for -/
def preM (T : List Tk) : Mth → Ps → Prop
  | .led, s => (tok T s).kind ≠ 0
  | .accessor _, s => (tok T s).kind ≠ 0
  | .sides n, _ => 1 ≤ n
  | _, _ => True
/-- with so much depth each method comes to an end, a token further at least -/
def AllGd (T : List Tk) (r : Mth → Ps → Rs Tr) (n : Nat) : Prop := ∀ m s, preM T m s → s.next < T.length → rank m + 20 * (T.length - s.next) < n → Gd T (s.next + 1) (r m s)
theorem gd_args (hm : MayP T) {r : Mth → Ps → Rs Tr} {n : Nat} (ih : AllGd T r n) (x : Tr) {s : Ps} (hs : s.next < T.length) (hn : 20 * (T.length - s.next) < n + 7) : Gd T (s.next + 1) (argsR T r x s) := by
  unfold argsR
  refine gd_bind (gd_take1 hm (by decide) hs) fun _ s1 h1 h2 => gd_bind (gd_list hm (by decide) _ h2 fun s2 h3 h4 => ih .assign s2 trivial h4 (by simp only [rank]; omega)) fun l s2 h3 h4 => ⟨by omega, h4⟩
theorem gd_sides (hm : MayP T) {r : Mth → Ps → Rs Tr} {n : Nat} (ih : AllGd T r n) (p : Int) {least : Nat} (hl : 1 ≤ least) (k : Nat) (hn : 20 * (T.length - k) < n + 9) : ∀ (j : Nat) (x : Tr) (s : Ps), k ≤ s.next → s.next < T.length → T.length - s.next < j → Gd T k (sidesL T r p least j x s)
  | 0, _, _, _, _, h0 => by omega
  | j + 1, x, s, hk, hs, hj => by
    unfold sidesL
    split
    · exact ⟨hk, hs⟩
    · rename_i h
      have h1 := tok_end hm hs (kind_of_level hm hs (by omega))
      have hon : s.on.next = s.next + 1 := rfl
      refine gd_bind (ih (.sides _) s.on (Nat.le_add_left 1 _) h1 (by simp only [rank]; omega)) fun y s1 h2 h3 => gd_bind (gd_mkP h3 _ _ _ _ _) fun z s2 h4 h5 => gd_sides hm ih p hl k hn j _ _ (by omega) h5 (by omega)
theorem gd_chain (hm : MayP T) {r : Mth → Ps → Rs Tr} {n : Nat} (ih : AllGd T r n) (p : Int) (c : Bool) (k : Nat) (hn : 20 * (T.length - k) < n + 6) : ∀ (j : Nat) (x : Tr) (s : Ps), k ≤ s.next → s.next < T.length → T.length - s.next < j → Gd T k (chainL T r p c j x s)
  | 0, _, _, _, _, h0 => by omega
  | j + 1, x, s, hk, hs, hj => by
    have hon : s.on.next = s.next + 1 := rfl
    unfold chainL
    split
    · rename_i h
      have h1 := tok_end hm hs (kind_of_sd hm hs h (by decide))
      exact gd_bind (gd_word hm (s := s.on) h1) fun d s1 h2 h3 => gd_bind (gd_mkP h3 _ _ _ _ _) fun z s2 h4 h5 => gd_chain hm ih p c k hn j _ _ (by omega) h5 (by omega)
    · split
      · rename_i h
        have h1 := tok_end hm hs (kind_of_sd hm hs h (by decide))
        exact gd_bind (ih .assign s.on trivial h1 (by simp only [rank]; omega)) fun y s1 h2 h3 => gd_bind (gd_take1 hm (by decide) h3) fun _ s2 h4 h5 => gd_bind (gd_mkP h5 _ _ _ _ _) fun z s2 h6 h7 => gd_chain hm ih p c k hn j _ _ (by omega) h7 (by omega)
      · split
        · exact gd_bind (gd_args hm ih _ hs (by omega)) fun d s1 h2 h3 => gd_bind (gd_mkP h3 _ _ _ _ _) fun z s2 h4 h5 => gd_chain hm ih p c k hn j _ _ (by omega) h5 (by omega)
        · exact ⟨hk, hs⟩
set_option maxHeartbeats 2000000 in
theorem gd_step (hm : MayP T) {r : Mth → Ps → Rs Tr} {n : Nat} (ih : AllGd T r n) : AllGd T (step T r) (n + 1) := by
  intro m s hp hs hn
  have hon : s.on.next = s.next + 1 := rfl
  cases m <;> simp only [rank] at hn <;> dsimp only [step]
  case statement => exact gd_deeper fun s1 h1 h2 => by rw [← h1]; exact ih .stated s1 trivial (by omega) (by simp only [rank]; omega)
  case body => exact gd_deeper fun s1 h1 h2 => by rw [← h1]; exact ih .bodyIn s1 trivial (by omega) (by simp only [rank]; omega)
  case bodyIn =>
    split
    · trivial
    · exact ih .stated s trivial hs (by simp only [rank]; omega)
  case stated =>
    refine gd_ite (fun _ => ih .block s trivial hs (by simp only [rank]; omega)) fun _ => ?_
    refine gd_ite (fun _ => gd_bare hm _ (by decide) hs) fun _ => ?_
    refine gd_ite (fun _ => ih .declaration s trivial hs (by simp only [rank]; omega)) fun _ => ?_
    refine gd_ite (fun _ => gd_bind (gd_take1 hm (by decide) hs) fun _ s1 h1 h2 => gd_bind (gd_name hm h2) fun x s2 h3 h4 => gd_low (ih (.function _ _ _) s2 trivial h4 (by simp only [rank]; omega)) (by omega)) fun _ => ?_
    refine gd_ite (fun _ => ih .branch s trivial hs (by simp only [rank]; omega)) fun _ => ?_
    refine gd_ite (fun _ => gd_bind (gd_take1 hm (by decide) hs) fun _ s1 h1 h2 => gd_bind (ih .test s1 trivial h2 (by simp only [rank]; omega)) fun x s2 h3 h4 => gd_bind (ih .body s2 trivial h4 (by simp only [rank]; omega)) fun y s3 h5 h6 => gd_low (gd_mkP h6 _ _ _ _ _) (by omega)) fun _ => ?_
    refine gd_ite (fun _ => ih .loop s trivial hs (by simp only [rank]; omega)) fun _ => ?_
    refine gd_ite (fun _ => ih .answer s trivial hs (by simp only [rank]; omega)) fun _ => ?_
    refine gd_ite (fun _ => gd_bind (gd_take1 hm (by decide) hs) fun _ s1 h1 h2 => gd_bind (ih .ended s1 trivial h2 (by simp only [rank]; omega)) fun x s2 h3 h4 => gd_low (gd_mkP h4 _ _ _ _ _) (by omega)) fun _ => ?_
    refine gd_ite (fun _ => gd_bare2 hm _ (by decide) (by decide) hs) fun _ => ?_
    refine gd_ite (fun _ => gd_bare2 hm _ (by decide) (by decide) hs) fun _ => ?_
    refine gd_ite (fun _ => ih .guarded s trivial hs (by simp only [rank]; omega)) fun _ => ?_
    exact gd_bind (ih .ended s trivial hs (by simp only [rank]; omega)) fun x s2 h3 h4 => gd_low (gd_mkP h4 _ _ _ _ _) (by omega)
  case block =>
    exact gd_bind (gd_take1 hm (by decide) hs) fun _ s1 h1 h2 => gd_bind (gd_block hm s1.next (fun s2 h3 h4 => ih .statement s2 trivial h4 (by simp only [rank]; omega)) _ _ _ (Nat.le_refl _) h2 (by omega)) fun l s2 h3 h4 => gd_low (gd_mkP h4 _ _ _ _ _) (by omega)
  case ended => exact gd_bind (ih .assign s trivial hs (by simp only [rank]; omega)) fun x s1 h1 h2 => gd_bind (gd_take1 hm (by decide) h2) fun _ s2 h3 h4 => ⟨by omega, h4⟩
  case test => exact gd_bind (gd_take1 hm (by decide) hs) fun _ s1 h1 h2 => gd_bind (ih .assign s1 trivial h2 (by simp only [rank]; omega)) fun x s2 h3 h4 => gd_bind (gd_take1 hm (by decide) h4) fun _ s3 h5 h6 => ⟨by omega, h6⟩
  case declaration =>
    refine gd_bind (gd_decl hm hs) fun x s1 h1 h2 => ?_
    cases x
    dsimp only
    split
    · rename_i h
      exact ⟨by show s.next + 1 ≤ s1.next + 1; omega, tok_end hm h2 (kind_of_sd hm h2 h.2 (by decide))⟩
    · exact gd_bind (gd_take1 hm (by decide) h2) fun _ s2 h3 h4 => gd_bind (ih .ended s2 trivial h4 (by simp only [rank]; omega)) fun y s3 h5 h6 => ⟨by omega, h6⟩
  case function =>
    exact gd_bind (gd_take1 hm (by decide) hs) fun _ s1 h1 h2 => gd_bind (gd_list hm (by decide) _ h2 fun s2 h3 h4 => gd_param hm h4) fun l s2 h3 h4 => gd_bind (ih .block s2 trivial h4 (by simp only [rank]; omega)) fun x s3 h5 h6 => gd_low (gd_mkP h6 _ _ _ _ _) (by omega)
  case branch =>
    refine gd_bind (gd_take1 hm (by decide) hs) fun _ s1 h1 h2 => gd_bind (ih .test s1 trivial h2 (by simp only [rank]; omega)) fun x s2 h3 h4 => gd_bind (ih .body s2 trivial h4 (by simp only [rank]; omega)) fun y s3 h5 h6 => ?_
    split
    · rename_i h
      have h7 := tok_end hm h6 (kind_of_sd hm h6 h (by decide))
      have hon3 : s3.on.next = s3.next + 1 := rfl
      exact gd_bind (ih .body s3.on trivial h7 (by simp only [rank]; omega)) fun z s4 h8 h9 => gd_low (gd_mkP h9 _ _ _ _ _) (by omega)
    · exact gd_low (gd_mkP h6 _ _ _ _ _) (by omega)
  case loop =>
    refine gd_bind (gd_takes2 hm (by decide) (by decide) hs) fun _ s1 h1 h2 => gd_bind (gd_decl hm h2) fun x s2 h3 h4 => ?_
    split
    · rename_i h
      have h7 := tok_end hm h4 (kind_of_sd hm h4 h (by decide))
      have hon3 : s2.on.next = s2.next + 1 := rfl
      exact gd_bind (ih .assign s2.on trivial h7 (by simp only [rank]; omega)) fun y s4 h8 h9 => gd_bind (gd_take1 hm (by decide) h9) fun _ s5 h10 h11 => gd_bind (ih .body s5 trivial h11 (by simp only [rank]; omega)) fun z s6 h12 h13 => gd_low (gd_mkP h13 _ _ _ _ _) (by omega)
    · exact gd_bind (gd_take1 hm (by decide) h4) fun _ s3 h5 h6 => gd_bind (ih .assign s3 trivial h6 (by simp only [rank]; omega)) fun y s4 h8 h9 => gd_bind (gd_take1 hm (by decide) h9) fun _ s5 h10 h11 => gd_bind (ih .body s5 trivial h11 (by simp only [rank]; omega)) fun z s6 h12 h13 => gd_low (gd_mkP h13 _ _ _ _ _) (by omega)
  case answer =>
    refine gd_bind (gd_take1 hm (by decide) hs) fun _ s1 h1 h2 => ?_
    split
    · rename_i h
      exact gd_low (gd_mkP (s := s1.on) (tok_end hm h2 (kind_of_sd hm h2 h (by decide))) _ _ _ _ _) (by show s.next + 1 ≤ s1.next + 1; omega)
    · exact gd_bind (ih .ended s1 trivial h2 (by simp only [rank]; omega)) fun y s4 h8 h9 => gd_low (gd_mkP h9 _ _ _ _ _) (by omega)
  case guarded =>
    refine gd_bind (gd_take1 hm (by decide) hs) fun _ s1 h1 h2 => gd_bind (ih .block s1 trivial h2 (by simp only [rank]; omega)) fun x s2 h3 h4 => ?_
    refine gd_bind (k := s2.next) ?_ fun l s8 h5 h6 => gd_bind (k := s8.next) ?_ fun m s11 h7 h8 => ?_
    · split
      · rename_i h
        have h7 := tok_end hm h4 (kind_of_sd hm h4 h (by decide))
        have hon3 : s2.on.next = s2.next + 1 := rfl
        exact gd_bind (gd_take1 hm (by decide) h7) fun _ s3 h8 h9 => gd_bind (gd_name hm h9) fun _ s4 h10 h11 => gd_bind (gd_take1 hm (by decide) h11) fun _ s5 h12 h13 => gd_bind (ih .block s5 trivial h13 (by simp only [rank]; omega)) fun y s6 h14 h15 => gd_bind (gd_mkP h15 _ _ _ _ _) fun z s7 h16 h17 => ⟨by omega, h17⟩
      · exact ⟨Nat.le_refl _, h4⟩
    · split
      · rename_i h
        have h7 := tok_end hm h6 (kind_of_sd hm h6 h (by decide))
        have hon3 : s8.on.next = s8.next + 1 := rfl
        exact gd_bind (ih .block s8.on trivial h7 (by simp only [rank]; omega)) fun y s6 h14 h15 => gd_bind (gd_mkP h15 _ _ _ _ _) fun z s7 h16 h17 => ⟨by omega, h17⟩
      · exact ⟨Nat.le_refl _, h6⟩
    · split
      · trivial
      · exact gd_low (gd_mkP h8 _ _ _ _ _) (by omega)
  case assign => exact gd_deeper fun s1 h1 h2 => by rw [← h1]; exact ih .assigned s1 trivial (by omega) (by simp only [rank]; omega)
  case assigned =>
    refine gd_bind (ih .cond s trivial hs (by simp only [rank]; omega)) fun x s1 h1 h2 => ?_
    split
    · rename_i h
      split
      · exact gd_bind (gd_take1_any hm h2 (kind_of_puts hm h2 h)) fun _ s2 h3 h4 => gd_bind (ih .assign s2 trivial h4 (by simp only [rank]; omega)) fun y s3 h5 h6 => gd_low (gd_mkP h6 _ _ _ _ _) (by omega)
      · trivial
    · exact ⟨h1, h2⟩
  case cond =>
    refine gd_bind (ih (.sides 1) s (Nat.le_refl 1) hs (by simp only [rank]; omega)) fun x s1 h1 h2 => ?_
    split
    · rename_i h
      have h7 := tok_end hm h2 (kind_of_sd hm h2 h (by decide))
      have hon3 : s1.on.next = s1.next + 1 := rfl
      exact gd_bind (ih .assign s1.on trivial h7 (by simp only [rank]; omega)) fun y s3 h5 h6 => gd_bind (gd_take1 hm (by decide) h6) fun _ s4 h8 h9 => gd_bind (ih .assign s4 trivial h9 (by simp only [rank]; omega)) fun y s5 h10 h11 => gd_low (gd_mkP h11 _ _ _ _ _) (by omega)
    · exact ⟨h1, h2⟩
  case unary =>
    split
    · rename_i h
      exact gd_deeper fun s1 h1 h2 => by
        rw [← h1]
        exact ih .led s1 (by show (tok T s1).kind ≠ 0; rw [h2]; exact kind_of_leads hm hs h) (by omega) (by simp only [rank]; omega)
    · exact ih (.chain true) s trivial hs (by simp only [rank]; omega)
  case led =>
    have h7 := tok_end hm hs hp
    exact gd_bind (ih .unary s.on trivial h7 (by simp only [rank]; omega)) fun y s3 h5 h6 => gd_low (gd_mkP h6 _ _ _ _ _) (by omega)
  case head =>
    split
    · exact gd_bind (gd_deeper (k := s.next + 1) fun s1 h1 h2 => by rw [← h1]; exact ih .newIn s1 trivial (by omega) (by simp only [rank]; omega)) fun x s1 h1 h2 => gd_bind (gd_args hm ih x h2 (by omega)) fun l s2 h3 h4 => gd_low (gd_mkP h4 _ _ _ _ _) (by omega)
    · exact ih .primary s trivial hs (by simp only [rank]; omega)
  case newIn => exact gd_bind (gd_take1 hm (by decide) hs) fun _ s1 h1 h2 => gd_low (ih (.chain false) s1 trivial h2 (by simp only [rank]; omega)) (by omega)
  case primary =>
    refine gd_ite (fun h => gd_num hm hs h) fun _ => ?_
    refine gd_ite (fun h => gd_low (gd_mkP (s := s.on) (tok_end hm hs (by omega)) _ _ _ _ _) (Nat.le_refl _)) fun _ => ?_
    refine gd_ite (fun h => gd_low (gd_mkP (s := s.on) (tok_end hm hs (by omega)) _ _ _ _ _) (Nat.le_refl _)) fun _ => ?_
    refine gd_ite (fun _ => gd_bare hm _ (by decide) hs) fun _ => ?_
    refine gd_ite (fun _ => gd_bare hm _ (by decide) hs) fun _ => ?_
    refine gd_ite (fun _ => gd_bare hm _ (by decide) hs) fun _ => ?_
    refine gd_ite (fun _ => gd_bare hm _ (by decide) hs) fun _ => ?_
    refine gd_ite (fun _ => ih .test s trivial hs (by simp only [rank]; omega)) fun _ => ?_
    refine gd_ite (fun _ => ih .nested s trivial hs (by simp only [rank]; omega)) fun _ => ?_
    refine gd_ite (fun _ => gd_bind (gd_take1 hm (by decide) hs) fun _ s1 h1 h2 => gd_bind (gd_list hm (by decide) _ h2 fun s2 h3 h4 => ih .pair s2 trivial h4 (by simp only [rank]; omega)) fun l s2 h3 h4 => gd_low (gd_mkP h4 _ _ _ _ _) (by omega)) fun _ => ?_
    refine gd_ite (fun _ => gd_bind (gd_take1 hm (by decide) hs) fun _ s1 h1 h2 => gd_bind (gd_list hm (by decide) _ h2 fun s2 h3 h4 => ih .assign s2 trivial h4 (by simp only [rank]; omega)) fun l s2 h3 h4 => gd_low (gd_mkP h4 _ _ _ _ _) (by omega)) fun _ => ?_
    trivial
  case nested =>
    refine gd_bind (gd_take1 hm (by decide) hs) fun _ s1 h1 h2 => ?_
    split
    · exact gd_low (ih (.function _ _ _) s1 trivial h2 (by simp only [rank]; omega)) (by omega)
    · exact gd_bind (gd_name hm h2) fun x s2 h3 h4 => gd_low (ih (.function _ _ _) s2 trivial h4 (by simp only [rank]; omega)) (by omega)
  case pair =>
    split
    · rename_i h
      exact ih (.accessor _) s (kind_of_sd hm hs ((Bool.and_eq_true_iff.1 h).1) (by decide)) hs (by simp only [rank]; omega)
    split
    · rename_i h
      exact ih (.accessor _) s (kind_of_sd hm hs ((Bool.and_eq_true_iff.1 h).1) (by decide)) hs (by simp only [rank]; omega)
    · exact gd_bind (ih .key s trivial hs (by simp only [rank]; omega)) fun x s1 h1 h2 => gd_bind (gd_take1 hm (by decide) h2) fun _ s2 h3 h4 => gd_bind (ih .assign s2 trivial h4 (by simp only [rank]; omega)) fun y s3 h5 h6 => gd_low (gd_mkP h6 _ _ _ _ _) (by omega)
  case key =>
    split
    · rename_i h; exact gd_num hm hs h
    split
    · rename_i h; exact gd_low (gd_mkP (s := s.on) (tok_end hm hs (by omega)) _ _ _ _ _) (Nat.le_refl _)
    split
    · rename_i h
      have h7 := tok_end hm hs (kind_of_sd hm hs h (by decide))
      exact gd_bind (ih .assign s.on trivial h7 (by simp only [rank]; omega)) fun y s3 h5 h6 => gd_bind (gd_take1 hm (by decide) h6) fun _ s4 h8 h9 => gd_low (gd_mkP h9 _ _ _ _ _) (by omega)
    · exact gd_bind (gd_word hm hs) fun x s1 h1 h2 => gd_low (gd_mkP h2 _ _ _ _ _) (by omega)
  case sides =>
    exact gd_bind (ih .unary s trivial hs (by simp only [rank]; omega)) fun x s1 h1 h2 => gd_low (gd_sides hm ih _ hp s1.next (by omega) _ _ _ (Nat.le_refl _) h2 (by omega)) (by omega)
  case chain =>
    exact gd_bind (ih .head s trivial hs (by simp only [rank]; omega)) fun x s1 h1 h2 => gd_low (gd_chain hm ih _ _ s1.next (by omega) _ _ _ (Nat.le_refl _) h2 (by omega)) (by omega)
  case accessor =>
    have h7 := tok_end hm hs hp
    refine gd_bind (ih .key s.on trivial h7 (by simp only [rank]; omega)) fun x s1 h1 h2 => gd_bind (gd_take1 hm (by decide) h2) fun _ s2 h3 h4 => gd_bind (k := s2.next) ?_ fun l s4 h5 h6 => gd_bind (gd_take1 hm (by decide) h6) fun _ s5 h8 h9 => gd_bind (ih .block s5 trivial h9 (by simp only [rank]; omega)) fun y s6 h10 h11 => gd_bind (gd_mkP h11 _ _ _ _ _) fun z s7 h12 h13 => gd_low (gd_mkP h13 _ _ _ _ _) (by omega)
    split
    · exact gd_bind (gd_param hm h4) fun y s3 h8 h9 => ⟨by omega, h9⟩
    · exact ⟨Nat.le_refl _, h4⟩
theorem gd_run (hm : MayP T) (n : Nat) : AllGd T (run T n) n := by
  induction n with
  | zero => intro m s _ _ h; omega
  | succ n ih => exact gd_step hm ih
theorem run_gd (hm : MayP T) {n : Nat} {m : Mth} {s : Ps} (hp : preM T m s) (hs : s.next < T.length) (hn : 20 * T.length + 20 ≤ n) : Gd T (s.next + 1) (run T n m s) :=
  gd_run hm n m s hp hs (by cases m <;> simp only [rank] <;> omega)
end
end Go.Proofs.YtablckajobefeaaGreatDoor.S
/-
  A tree's nodes in the order of their numbers; what a list of tokens is parsed to. Plain mathematics.
-/
namespace Go.Proofs.YtablckajobefeaaGreatDoor.S
open Go.RowKit Fl

/-- a node: its kind, place, text, number (a float's word), its kids' numbers -/
structure Nd where
  kind : Nat
  p : Int
  text : ByteArray
  num : Nat
  kids : List Nat
mutual
def Tr.size : Tr → Nat
  | .mk _ _ _ _ l => 1 + Tr.sizes l
def Tr.sizes : List Tr → Nat
  | [] => 0
  | t :: l => t.size + Tr.sizes l
end
def starts (n : Nat) : List Tr → List Nat
  | [] => []
  | t :: l => n :: starts (n + t.size) l
mutual
def flatT (n : Nat) : Tr → List Nd
  | .mk k p t x l => ⟨k, p, t, x, starts (n + 1) l⟩ :: flatL (n + 1) l
def flatL (n : Nat) : List Tr → List Nd
  | [] => []
  | t :: l => flatT n t ++ flatL (n + t.size) l
end
theorem starts_len (n : Nat) (l : List Tr) : (starts n l).length = l.length := by
  induction l generalizing n with
  | nil => rfl
  | cons t l ih => simp [starts, ih]
mutual
theorem flatT_len : ∀ (n : Nat) (t : Tr), (flatT n t).length = t.size
  | n, .mk k p t x l => by unfold flatT Tr.size; rw [List.length_cons, flatL_len]; omega
theorem flatL_len : ∀ (n : Nat) (l : List Tr), (flatL n l).length = Tr.sizes l
  | n, [] => rfl
  | n, t :: l => by unfold flatL Tr.sizes; rw [List.length_append, flatT_len, flatL_len]
end
theorem Tr.size_pos : ∀ t : Tr, 0 < t.size
  | .mk _ _ _ _ _ => by unfold Tr.size; omega

/-- what a list of tokens comes to -/
inductive PT where
  | ok (l : List Nd)
  | err (p : Int) (k : Int)
def depthOf (T : List Tk) : Nat := 20 * T.length + 20
def treeP (T : List Tk) : PT :=
  match scriptR T (depthOf T) ⟨0, 0, 0⟩ with
  | .ok t s => if s.parts > 16384 then .err 0 4 else .ok (flatT 0 t)
  | .bad p k => .err p k
  | .out => .err 0 0
theorem script_gd {T : List Tk} (hm : MayP T) : Gd T 0 (scriptR T (depthOf T) ⟨0, 0, 0⟩) := by
  have h0 : 0 < T.length := by
    cases T with
    | nil => exact absurd rfl hm.1
    | cons a l => simp
  unfold scriptR
  refine gd_bind (gd_script hm 0 (fun s1 h1 h2 => run_gd (m := .statement) hm trivial h2 (Nat.le_refl _)) _ _ ⟨0, 0, 0⟩ (Nat.zero_le _) h0 (by show T.length - 0 < T.length + 1; omega)) fun l s1 h1 h2 => gd_low (gd_mkP h2 _ _ _ _ _) (Nat.zero_le _)
end Go.Proofs.YtablckajobefeaaGreatDoor.S
