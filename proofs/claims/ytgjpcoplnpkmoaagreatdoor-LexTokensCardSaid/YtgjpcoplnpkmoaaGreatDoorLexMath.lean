/-
  The tokens of a text in plain mathematics, over lists of bytes: what stands where, what it is, how far it goes.
-/
import Derived.Test.YtgjpcoplnpkmoaaGreatDoorStrPlain
import Derived.Test.YtgjpcoplnpkmoaaGreatDoorTextRef
namespace Go.Proofs.YtgjpcoplnpkmoaaGreatDoor.S
open Go.RowKit Fl

def mkB (l : List UInt8) : ByteArray := ⟨l.toArray⟩
theorem mkB_list (l : List UInt8) : (mkB l).data.toList = l := rfl
theorem mkB_size (l : List UInt8) : (mkB l).size = l.length := by simp [mkB, ByteArray.size]
theorem mkB_of (s : ByteArray) : mkB s.data.toList = s := str_ext rfl
theorem mkB_ext (s : ByteArray) (a b : Nat) : s.extract a b = mkB ((s.data.toList.drop a).take (b - a)) := str_ext (by rw [extract_list, mkB_list])

/-- a token: its kind, place, text, number (a float's word) -/
structure Tk where
  kind : Nat
  pos : Int
  text : ByteArray
  num : Nat

def iniB (c : UInt8) : Bool := (decide (97 ≤ c.toNat) && decide (c.toNat ≤ 122)) || (decide (65 ≤ c.toNat) && decide (c.toNat ≤ 90)) || c.toNat == 95 || c.toNat == 36
def innB (c : UInt8) : Bool := iniB c || isDig c
def runL (p : UInt8 → Bool) (l : List UInt8) : Nat := (l.takeWhile p).length
theorem runL_le (p : UInt8 → Bool) (l : List UInt8) : runL p l ≤ l.length := by
  induction l with
  | nil => simp [runL]
  | cons c r ih => unfold runL at *; rw [List.takeWhile_cons]; split <;> simp_all
theorem runL_cons (p : UInt8 → Bool) (c : UInt8) (r : List UInt8) : runL p (c :: r) = if p c then runL p r + 1 else 0 := by
  unfold runL; rw [List.takeWhile_cons]; split <;> simp_all
theorem runL_nil (p : UInt8 → Bool) : runL p [] = 0 := rfl

def wordsL : List (List UInt8) := [[98, 114, 101, 97, 107], [99, 97, 115, 101], [99, 97, 116, 99, 104], [99, 108, 97, 115, 115], [99, 111, 110, 115, 116], [99, 111, 110, 116, 105, 110, 117, 101], [100, 101, 98, 117, 103, 103, 101, 114], [100, 101, 102, 97, 117, 108, 116], [100, 101, 108, 101, 116, 101], [100, 111], [101, 108, 115, 101], [101, 110, 117, 109], [101, 120, 112, 111, 114, 116], [101, 120, 116, 101, 110, 100, 115], [102, 97, 108, 115, 101], [102, 105, 110, 97, 108, 108, 121], [102, 111, 114], [102, 117, 110, 99, 116, 105, 111, 110], [105, 102], [105, 109, 112, 111, 114, 116], [105, 110], [105, 110, 115, 116, 97, 110, 99, 101, 111, 102], [108, 101, 116], [110, 101, 119], [110, 117, 108, 108], [114, 101, 116, 117, 114, 110], [115, 117, 112, 101, 114], [115, 119, 105, 116, 99, 104], [116, 104, 105, 115], [116, 104, 114, 111, 119], [116, 114, 117, 101], [116, 114, 121], [116, 121, 112, 101, 111, 102], [118, 97, 114], [118, 111, 105, 100], [119, 104, 105, 108, 101], [119, 105, 116, 104], [121, 105, 101, 108, 100]]
def signsL : List (List UInt8) := [[123], [125], [40], [41], [91], [93], [46], [59], [44], [63], [58], [60], [62], [60, 61], [62, 61], [61, 61], [33, 61], [61, 61, 61], [33, 61, 61], [43], [45], [42], [47], [37], [38], [124], [94], [33], [126], [38, 38], [124, 124], [61], [43, 61], [45, 61], [42, 61], [47, 61], [37, 61], [60, 60], [62, 62], [62, 62, 62]]
def wordB (l : List UInt8) : Bool := wordsL.contains l
def signB (l : List UInt8) : Bool := signsL.contains l
def wordsT : List UInt8 := [32, 98, 114, 101, 97, 107, 32, 99, 97, 115, 101, 32, 99, 97, 116, 99, 104, 32, 99, 108, 97, 115, 115, 32, 99, 111, 110, 115, 116, 32, 99, 111, 110, 116, 105, 110, 117, 101, 32, 100, 101, 98, 117, 103, 103, 101, 114, 32, 100, 101, 102, 97, 117, 108, 116, 32, 100, 101, 108, 101, 116, 101, 32, 100, 111, 32, 101, 108, 115, 101, 32, 101, 110, 117, 109, 32, 101, 120, 112, 111, 114, 116, 32, 101, 120, 116, 101, 110, 100, 115, 32, 102, 97, 108, 115, 101, 32, 102, 105, 110, 97, 108, 108, 121, 32, 102, 111, 114, 32, 102, 117, 110, 99, 116, 105, 111, 110, 32, 105, 102, 32, 105, 109, 112, 111, 114, 116, 32, 105, 110, 32, 105, 110, 115, 116, 97, 110, 99, 101, 111, 102, 32, 108, 101, 116, 32, 110, 101, 119, 32, 110, 117, 108, 108, 32, 114, 101, 116, 117, 114, 110, 32, 115, 117, 112, 101, 114, 32, 115, 119, 105, 116, 99, 104, 32, 116, 104, 105, 115, 32, 116, 104, 114, 111, 119, 32, 116, 114, 117, 101, 32, 116, 114, 121, 32, 116, 121, 112, 101, 111, 102, 32, 118, 97, 114, 32, 118, 111, 105, 100, 32, 119, 104, 105, 108, 101, 32, 119, 105, 116, 104, 32, 121, 105, 101, 108, 100, 32]
def signsT : List UInt8 := [32, 123, 32, 125, 32, 40, 32, 41, 32, 91, 32, 93, 32, 46, 32, 59, 32, 44, 32, 63, 32, 58, 32, 60, 32, 62, 32, 60, 61, 32, 62, 61, 32, 61, 61, 32, 33, 61, 32, 61, 61, 61, 32, 33, 61, 61, 32, 43, 32, 45, 32, 42, 32, 47, 32, 37, 32, 38, 32, 124, 32, 94, 32, 33, 32, 126, 32, 38, 38, 32, 124, 124, 32, 61, 32, 43, 61, 32, 45, 61, 32, 42, 61, 32, 47, 61, 32, 37, 61, 32, 60, 60, 32, 62, 62, 32, 62, 62, 62, 32]

/-- past blanks and comments: mode 0 between them, 1 in one up to the line's end, 2 at the star that opens one, 3 in one up to star and slash, 4 at that slash; st: where the comment began -/
def passM : Nat → Nat → Nat → List UInt8 → Nat × Bool
  | m, st, i, [] => if m ≤ 1 then (i, true) else (st, false)
  | m, st, i, c :: r =>
    match m with
    | 0 => if blankB c then passM 0 st (i + 1) r
           else if c = 47 ∧ r.head? = some 47 then passM 1 st (i + 1) r
           else if c = 47 ∧ r.head? = some 42 then passM 2 i (i + 1) r
           else (i, true)
    | 1 => if c = 10 then passM 0 st (i + 1) r else passM 1 st (i + 1) r
    | 2 => passM 3 st (i + 1) r
    | 3 => if c = 42 ∧ r.head? = some 47 then passM 4 st (i + 1) r else passM 3 st (i + 1) r
    | _ => passM 0 st (i + 1) r

theorem passM_nil (m st i : Nat) : passM m st i [] = if m ≤ 1 then (i, true) else (st, false) := by cases m <;> rfl
theorem passM_0 (st i : Nat) (c : UInt8) (r : List UInt8) : passM 0 st i (c :: r) = if blankB c then passM 0 st (i + 1) r else if c = 47 ∧ r.head? = some 47 then passM 1 st (i + 1) r else if c = 47 ∧ r.head? = some 42 then passM 2 i (i + 1) r else (i, true) := rfl
theorem passM_1 (st i : Nat) (c : UInt8) (r : List UInt8) : passM 1 st i (c :: r) = if c = 10 then passM 0 st (i + 1) r else passM 1 st (i + 1) r := rfl
theorem passM_2 (st i : Nat) (c : UInt8) (r : List UInt8) : passM 2 st i (c :: r) = passM 3 st (i + 1) r := rfl
theorem passM_3 (st i : Nat) (c : UInt8) (r : List UInt8) : passM 3 st i (c :: r) = if c = 42 ∧ r.head? = some 47 then passM 4 st (i + 1) r else passM 3 st (i + 1) r := rfl
theorem passM_4 (st i : Nat) (c : UInt8) (r : List UInt8) : passM 4 st i (c :: r) = passM 0 st (i + 1) r := rfl
theorem passM_le : ∀ (l : List UInt8) (m st i : Nat), st ≤ i → st ≤ (passM m st i l).1 ∧ (passM m st i l).1 ≤ i + l.length
  | [], m, st, i, h => by unfold passM; split <;> simp <;> omega
  | c :: r, m, st, i, h => by
    have e : (c :: r).length = r.length + 1 := rfl
    rw [e]
    have key : ∀ m' st', st ≤ st' → st' ≤ i + 1 → st ≤ (passM m' st' (i + 1) r).1 ∧ (passM m' st' (i + 1) r).1 ≤ i + (r.length + 1) := by
      intro m' st' h1 h2
      have := passM_le r m' st' (i + 1) h2
      omega
    unfold passM
    split
    · split
      · exact key 0 st (Nat.le_refl _) (by omega)
      · split
        · exact key 1 st (Nat.le_refl _) (by omega)
        · split
          · exact key 2 i h (by omega)
          · exact ⟨h, by simp⟩
    · split
      · exact key 0 st (Nat.le_refl _) (by omega)
      · exact key 1 st (Nat.le_refl _) (by omega)
    · exact key 3 st (Nat.le_refl _) (by omega)
    · split
      · exact key 4 st (Nat.le_refl _) (by omega)
      · exact key 3 st (Nat.le_refl _) (by omega)
    · exact key 0 st (Nat.le_refl _) (by omega)
theorem passM_ge : ∀ (l : List UInt8) (m st i : Nat), (passM m st i l).2 = true → i ≤ (passM m st i l).1
  | [], m, st, i => by unfold passM; split <;> simp
  | c :: r, m, st, i => by
    have key : ∀ m' st', (passM m' st' (i + 1) r).2 = true → i ≤ (passM m' st' (i + 1) r).1 := by
      intro m' st' h
      have := passM_ge r m' st' (i + 1) h
      omega
    unfold passM
    split
    · split
      · exact key _ _
      · split
        · exact key _ _
        · split
          · exact key _ _
          · intro _; exact Nat.le_refl _
    · split
      · exact key _ _
      · exact key _ _
    · exact key _ _
    · split
      · exact key _ _
      · exact key _ _
    · exact key _ _

/-- the quote that ends a string: how many bytes stand ahead of it -/
def closeL (q : UInt8) : Bool → Nat → List UInt8 → Option Nat
  | _, _, [] => none
  | t, i, c :: r => if c = 10 ∨ c = 13 then none else if t then closeL q false (i + 1) r else if c = 92 then closeL q true (i + 1) r else if c = q then some i else closeL q false (i + 1) r
theorem closeL_lt (q : UInt8) : ∀ (l : List UInt8) (t : Bool) (i k : Nat), closeL q t i l = some k → i ≤ k ∧ k < i + l.length
  | [], _, _, _, h => by cases h
  | c :: r, t, i, k, h => by
    have e : (c :: r).length = r.length + 1 := rfl
    rw [e]
    unfold closeL at h
    split at h
    · cases h
    · split at h
      · have := closeL_lt q r _ _ _ h; omega
      · split at h
        · have := closeL_lt q r _ _ _ h; omega
        · split at h
          · injection h with h; omega
          · have := closeL_lt q r _ _ _ h; omega

/-- what a text begins with: a token and how far it goes, or none and where that shows -/
inductive PR where
  | tok (kind : Nat) (text : ByteArray) (num : Nat) (wide : Nat)
  | bad (fault : Int)

def nameL (l : List UInt8) : PR :=
  if runL innB l > 4096 then .bad 0 else .tok (if wordB (l.take (runL innB l)) then 2 else 1) (mkB (l.take (runL innB l))) 0 (runL innB l)
def numBad (l : List UInt8) : Bool :=
  (decide (runL isDig l > 1) && decide (l.head? = some 48)) || (match l[runL isDig l]? with | some d => innB d | none => false)
def numberL (l : List UInt8) : PR :=
  if numBad l then .bad 0 else match readR (l.take (runL isDig l)) with | .ok n => .tok 3 ⟨#[]⟩ (F n) (runL isDig l) | _ => .bad 0
def plainP (r : ByteArray × Int × Int) (e : Nat) : PR := if r.2.2 = 0 then .tok 4 r.1 0 (e + 1) else if r.2.2 = 5 then .bad (1 + r.2.1) else .bad 0
def literalL (q : UInt8) (l : List UInt8) : PR :=
  match closeL q false 1 (l.drop 1) with
  | none => .bad 0
  | some e => plainP (plainO (mkB ((l.drop 1).take (e - 1)))) e
def signN (l : List UInt8) : Nat :=
  if 3 ≤ l.length ∧ signB (l.take 3) = true then 3 else if 2 ≤ l.length ∧ signB (l.take 2) = true then 2 else if 1 ≤ l.length ∧ signB (l.take 1) = true then 1 else 0
def signL (l : List UInt8) : PR := if signN l = 0 then .bad 0 else .tok 5 (mkB (l.take (signN l))) 0 (signN l)
def pieceL : List UInt8 → PR
  | [] => .bad 0
  | c :: r => if iniB c then nameL (c :: r) else if isDig c then numberL (c :: r) else if c = 34 ∨ c = 39 then literalL c (c :: r) else signL (c :: r)

theorem pieceL_cons (c : UInt8) (r : List UInt8) : pieceL (c :: r) = if iniB c then nameL (c :: r) else if isDig c then numberL (c :: r) else if c = 34 ∨ c = 39 then literalL c (c :: r) else signL (c :: r) := rfl
theorem plainP_le {r : ByteArray × Int × Int} {e k : Nat} {t : ByteArray} {n wd : Nat} (h : plainP r e = .tok k t n wd) : wd = e + 1 ∧ k = 4 ∧ n = 0 ∧ t = r.1 ∧ r.2.2 = 0 := by
  unfold plainP at h
  split at h
  · cases h; exact ⟨rfl, rfl, rfl, rfl, by assumption⟩
  · split at h <;> cases h
theorem signN_le (l : List UInt8) : signN l ≤ l.length := by unfold signN; split <;> (try split) <;> (try split) <;> omega

theorem pieceL_wide {l : List UInt8} {k : Nat} {t : ByteArray} {n wd : Nat} (h : pieceL l = .tok k t n wd) : 1 ≤ wd ∧ wd ≤ l.length := by
  cases l with
  | nil => cases h
  | cons c r =>
    rw [pieceL_cons] at h
    by_cases c1 : iniB c = true
    · rw [if_pos c1] at h
      unfold nameL at h
      have hr := runL_le innB (c :: r)
      have h1 : 1 ≤ runL innB (c :: r) := by rw [runL_cons, if_pos (by unfold innB; rw [c1]; rfl)]; omega
      split at h
      · cases h
      · cases h; exact ⟨h1, hr⟩
    · rw [if_neg c1] at h
      by_cases c2 : isDig c = true
      · rw [if_pos c2] at h
        unfold numberL at h
        have hr := runL_le isDig (c :: r)
        have h1 : 1 ≤ runL isDig (c :: r) := by rw [runL_cons, if_pos c2]; omega
        split at h
        · cases h
        · split at h
          · cases h; exact ⟨h1, hr⟩
          · cases h
      · rw [if_neg c2] at h
        by_cases c3 : c = 34 ∨ c = 39
        · rw [if_pos c3] at h
          unfold literalL at h
          split at h
          · cases h
          · rename_i e he
            have := closeL_lt c _ _ _ _ he
            have h2 := (plainP_le h).1
            rw [List.drop_one, List.tail_cons] at this
            rw [List.length_cons]; omega
        · rw [if_neg c3] at h
          unfold signL at h
          split at h
          · cases h
          · cases h; exact ⟨by omega, signN_le _⟩

inductive TR where
  | ok (l : List Tk)
  | err (place : Int) (e : Int)

def toksF : Nat → Nat → List UInt8 → List Tk → TR
  | 0, _, _, _ => .err 0 0
  | f + 1, i, l, acc =>
    if (passM 0 i i l).2 = false then .err (passM 0 i i l).1 5
    else if l.drop ((passM 0 i i l).1 - i) = [] then .ok (acc ++ [⟨0, (passM 0 i i l).1, ⟨#[]⟩, 0⟩])
    else match pieceL (l.drop ((passM 0 i i l).1 - i)) with
      | .bad k => .err ((passM 0 i i l).1 + k) 5
      | .tok kind text num wide =>
        if acc.length = 16384 then .err (passM 0 i i l).1 4
        else toksF f ((passM 0 i i l).1 + wide) ((l.drop ((passM 0 i i l).1 - i)).drop wide) (acc ++ [⟨kind, (passM 0 i i l).1, text, num⟩])
def toks (l : List UInt8) : TR := if l.length > 65536 then .err 0 3 else toksF (l.length + 1) 0 l []

/-! ### one round of the reading, at a place of a whole text -/
theorem drop_pos (L : List UInt8) (i p : Nat) (h : i ≤ p) : (L.drop i).drop (p - i) = L.drop p := by rw [List.drop_drop]; congr 1; omega
theorem toks_stop {L : List UInt8} {f i p : Nat} {acc : List Tk} (hp : passM 0 i i (L.drop i) = (p, false)) : toksF (f + 1) i (L.drop i) acc = .err p 5 := by
  unfold toksF; rw [hp]; rfl
theorem toks_end {L : List UInt8} {f i p : Nat} {acc : List Tk} (hip : i ≤ p) (hp : passM 0 i i (L.drop i) = (p, true)) (h : L.length ≤ p) : toksF (f + 1) i (L.drop i) acc = .ok (acc ++ [⟨0, p, ⟨#[]⟩, 0⟩]) := by
  unfold toksF; rw [hp, drop_pos L i p hip, if_neg (by simp), if_pos (List.drop_eq_nil_of_le h)]
theorem toks_bad {L : List UInt8} {f i p : Nat} {k : Int} {acc : List Tk} (hip : i ≤ p) (hp : passM 0 i i (L.drop i) = (p, true)) (h : p < L.length) (hk : pieceL (L.drop p) = .bad k) : toksF (f + 1) i (L.drop i) acc = .err (p + k) 5 := by
  unfold toksF; rw [hp, drop_pos L i p hip, if_neg (by simp), if_neg (by simp; omega), hk]
theorem toks_many {L : List UInt8} {f i p : Nat} {kd : Nat} {t : ByteArray} {n wd : Nat} {acc : List Tk} (hip : i ≤ p) (hp : passM 0 i i (L.drop i) = (p, true)) (h : p < L.length) (hk : pieceL (L.drop p) = .tok kd t n wd) (hl : acc.length = 16384) :
    toksF (f + 1) i (L.drop i) acc = .err p 4 := by
  unfold toksF; rw [hp, drop_pos L i p hip, if_neg (by simp), if_neg (by simp; omega), hk]; dsimp only; rw [if_pos hl]
theorem toks_step {L : List UInt8} {f i p : Nat} {kd : Nat} {t : ByteArray} {n wd : Nat} {acc : List Tk} (hip : i ≤ p) (hp : passM 0 i i (L.drop i) = (p, true)) (h : p < L.length) (hk : pieceL (L.drop p) = .tok kd t n wd) (hl : ¬ acc.length = 16384) :
    toksF (f + 1) i (L.drop i) acc = toksF f (p + wd) (L.drop (p + wd)) (acc ++ [⟨kd, p, t, n⟩]) := by
  conv => lhs; unfold toksF
  rw [hp, drop_pos L i p hip, if_neg (by simp), if_neg (by simp; omega), hk]; dsimp only; rw [if_neg hl, List.drop_drop]
end Go.Proofs.YtgjpcoplnpkmoaaGreatDoor.S
