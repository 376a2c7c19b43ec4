/-
  Text of package num beside the document's own, for every float: walks.
-/
import Derived.Test.YtablckajobefeaaGreatDoorPN03
import Derived.Lib.AppendIntMem
import Derived.Test.YtablckajobefeaaGreatDoorPN01
import Derived.Shelf.Strings.Prefix
import Derived.Shelf.Strconv.Clone
import Derived.Shelf.LaysM
import Derived.Test.YtablckajobefeaaGreatDoorProg
import Derived.Outline
namespace Go.Proofs.YtablckajobefeaaGreatDoor
open Go.RowKit Fl

def textL (c : Cl) : List UInt8 := match c with
  | .nan => [78, 97, 78]
  | .other => []
  | .ours n => Lib.itoa n
def TextTo (l : List UInt8) (w : World) (e : Ending) (w' : World) : Prop := ∃ t : ByteArray, t.data.toList = l ∧ e = .returned (.string t) ∧ Below w.heap.size w w'

theorem grow_below (w : World) (k : Nat) (os : Array Obj) : Below w.heap.size w (Sort.grow (w.drewN k) os) := by
  refine ⟨rfl, rfl, rfl, ?_, fun i hi => ?_⟩
  · show w.heap.size ≤ (w.heap ++ os).size
    simp
  · show (w.heap ++ os)[i]? = w.heap[i]?
    rw [Array.getElem?_append_left hi]

theorem decDigits_big (k : Nat) (h : 10 ≤ k) : Lib.decDigits k = Lib.decDigits (k / 10) ++ [UInt8.ofNat (48 + k % 10)] := by
  rw [Lib.decDigits]; rw [dif_neg (by omega)]
theorem decDigits_one (k : Nat) (h : k < 10) : Lib.decDigits k = [UInt8.ofNat (48 + k)] := by
  rw [Lib.decDigits]; rw [dif_pos h]

theorem Text_cls {c : Cl} {x : Nat} (h : Is c x) (w : World) (htab : Lib.TabIs Tryz.prog w "internal/strconv.uint64pow10" .u64 Lib.pow10Tab) :
    Calls Tryz.prog 58 #[.float .f64 x] w (TextTo (textL c) w) := by
  have m := fun w => May_cls h w
  have ho := self_cls h
  cases c with
  | nan =>
    dsimp only [selfO] at ho
    go_enter Tryz.func58, Tryz.ntmps58
    go_wp2_with (go_at_call 87; refine (none_any _ _).mono ?_; rintro e w' ⟨rfl, rfl⟩)
    go_ret
    exact ⟨_, rfl, rfl, Below.refl _ _⟩
  | other =>
    dsimp only [selfO] at ho
    dsimp only [mayC] at m
    go_enter Tryz.func58, Tryz.ntmps58
    go_wp2_with (first | (go_at_call 87; refine (none_any _ _).mono ?_; rintro e w' ⟨rfl, rfl⟩) | (go_at_call 84; refine (m _).mono ?_; rintro e w' ⟨rfl, rfl⟩))
    go_ret
    exact ⟨_, rfl, rfl, Below.refl _ _⟩
  | ours n =>
    dsimp only [selfO] at ho
    dsimp only [mayC] at m
    obtain ⟨rfl, hs⟩ := h
    have hc := fun w => conv_run (floatToIntVal_F n hs.abs) w
    have hF := Tryz.strconv_FormatInt_10 n (by have := hs.1; omega) (by have := hs.2; omega) w htab
    have hF' : Calls Tryz.prog 88 #[.int .i64 n, .int .i64 10] w (TextTo (Lib.itoa n) w) := hF.mono fun e w' ⟨he, k, os, hw⟩ => ⟨_, rfl, he, by rw [hw]; exact grow_below w k os⟩
    clear hF htab hs
    show Calls _ _ _ _ (TextTo (Lib.itoa n) w)
    generalize F n = x at *
    go_enter Tryz.func58, Tryz.ntmps58
    go_wp2_with (first | (go_at_call 87; refine (none_any _ _).mono ?_; rintro e w' ⟨rfl, rfl⟩) | (go_at_call 84; refine (m _).mono ?_; rintro e w' ⟨rfl, rfl⟩) | (go_at_call 88; refine hF'.mono ?_; rintro e w' ⟨t, ht, rfl, hB⟩))
    go_ret
    exact ⟨t, ht, rfl, hB⟩
end Go.Proofs.YtablckajobefeaaGreatDoor
/-
  The document's own Read, and NumTexts: walks.
-/
namespace Go.Proofs.YtablckajobefeaaGreatDoor
open Go.RowKit Fl

def blankB (c : UInt8) : Bool := blanksL.contains c
theorem blankB_eq (c : UInt8) : blankB c = (c.toNat == 9 || c.toNat == 10 || c.toNat == 13 || c.toNat == 32) := by
  unfold blankB blanksL
  have e : ∀ d : UInt8, (c == d) = (c.toNat == d.toNat) := by
    intro d
    rw [Bool.eq_iff_iff, beq_iff_eq, beq_iff_eq]
    exact ⟨fun h => by rw [h], fun h => UInt8.toNat_inj.1 h⟩
  simp only [List.contains_cons, List.contains_nil, Bool.or_false, e]
  simp only [Bool.or_assoc]
  rfl

theorem getElem_list (s : ByteArray) (k : Nat) (h : k < s.size) : s.data.toList[k]? = some s[k] := by
  rw [List.getElem?_eq_getElem (by rw [← size_len]; exact h)]
  simp [ByteArray.getElem_eq_getElem_data]

def BlankTo (l : List UInt8) (k : Nat) : Prop := ∀ (j : Nat) b, j < k → l[j]? = some b → blanksL.contains b = true
def BlankFrom (l : List UInt8) (k : Nat) : Prop := ∀ (j : Nat) b, k ≤ j → l[j]? = some b → blanksL.contains b = true
def StopAt (l : List UInt8) (k : Nat) : Prop := ∀ b, l[k]? = some b → blanksL.contains b = false

/-- where the two looks for blanks end, there the trimmed text stands -/
theorem trim_at (l : List UInt8) (f t : Nat) (hft : f ≤ t) (ht : t ≤ l.length) (h1 : BlankTo l f) (h2 : StopAt l f) (h3 : BlankFrom l t) (h4 : f < t → StopAt l (t - 1)) : (l.drop f).take (t - f) = Lib.trimS l blanksL := by
  unfold Lib.trimS
  rcases Nat.lt_or_eq_of_le hft with c | c
  · rw [Lib.trimRightS_take l blanksL t ht h3 (fun b _ hb => h4 c b hb)]
    rw [Lib.trimLeftS_drop (l.take t) blanksL f (by rw [List.length_take]; omega)
      (fun j b hj hb => h1 j b hj (by rw [List.getElem?_take_of_lt (by omega)] at hb; exact hb))
      (fun b hb => h2 b (by rw [List.getElem?_take_of_lt c] at hb; exact hb))]
    rw [List.drop_take]
  · subst c
    have hall : f = l.length := by
      by_cases d : f < l.length
      · exfalso
        have e := List.getElem?_eq_getElem d
        have a := h2 _ e
        have b := h3 f _ (Nat.le_refl _) e
        rw [a] at b; cases b
      · omega
    rw [Nat.sub_self, List.take_zero]
    have : Lib.trimRightS l blanksL = l.take 0 := Lib.trimRightS_take l blanksL 0 (Nat.zero_le _) (fun j b _ hb => by
      by_cases d : j < f
      · exact h1 j b d hb
      · exact h3 j b (by omega) hb) (fun b hb => by omega)
    rw [this, List.take_zero]
    rfl

end Go.Proofs.YtablckajobefeaaGreatDoor
/-
  The tokens of a text in plain mathematics, over lists of bytes: what stands where, what it is, how far it goes.
-/
namespace Go.Proofs.YtablckajobefeaaGreatDoor.S
open Go.RowKit Fl

def mkB (l : List UInt8) : ByteArray := ⟨l.toArray⟩
theorem mkB_list (l : List UInt8) : (mkB l).data.toList = l := rfl
theorem mkB_size (l : List UInt8) : (mkB l).size = l.length := by simp [mkB, ByteArray.size]
theorem mkB_of (s : ByteArray) : mkB s.data.toList = s := str_ext rfl
theorem mkB_ext (s : ByteArray) (a b : Nat) : s.extract a b = mkB ((s.data.toList.drop a).take (b - a)) := str_ext (by rw [extract_list, mkB_list])

/-- a token: its kind, place, text, number (a float's word) -/
structure Tk where
  kind : Nat
  pos : Int
  text : ByteArray
  num : Nat

def iniB (c : UInt8) : Bool := (decide (97 ≤ c.toNat) && decide (c.toNat ≤ 122)) || (decide (65 ≤ c.toNat) && decide (c.toNat ≤ 90)) || c.toNat == 95 || c.toNat == 36
def innB (c : UInt8) : Bool := iniB c || isDig c
def runL (p : UInt8 → Bool) (l : List UInt8) : Nat := (l.takeWhile p).length
theorem runL_le (p : UInt8 → Bool) (l : List UInt8) : runL p l ≤ l.length := by
  induction l with
  | nil => simp [runL]
  | cons c r ih => unfold runL at *; rw [List.takeWhile_cons]; split <;> simp_all
theorem runL_cons (p : UInt8 → Bool) (c : UInt8) (r : List UInt8) : runL p (c :: r) = if p c then runL p r + 1 else 0 := by
  unfold runL; rw [List.takeWhile_cons]; split <;> simp_all
def wordsL : List (List UInt8) := [[98, 114, 101, 97, 107], [99, 97, 115, 101], [99, 97, 116, 99, 104], [99, 108, 97, 115, 115], [99, 111, 110, 115, 116], [99, 111, 110, 116, 105, 110, 117, 101], [100, 101, 98, 117, 103, 103, 101, 114], [100, 101, 102, 97, 117, 108, 116], [100, 101, 108, 101, 116, 101], [100, 111], [101, 108, 115, 101], [101, 110, 117, 109], [101, 120, 112, 111, 114, 116], [101, 120, 116, 101, 110, 100, 115], [102, 97, 108, 115, 101], [102, 105, 110, 97, 108, 108, 121], [102, 111, 114], [102, 117, 110, 99, 116, 105, 111, 110], [105, 102], [105, 109, 112, 111, 114, 116], [105, 110], [105, 110, 115, 116, 97, 110, 99, 101, 111, 102], [108, 101, 116], [110, 101, 119], [110, 117, 108, 108], [114, 101, 116, 117, 114, 110], [115, 117, 112, 101, 114], [115, 119, 105, 116, 99, 104], [116, 104, 105, 115], [116, 104, 114, 111, 119], [116, 114, 117, 101], [116, 114, 121], [116, 121, 112, 101, 111, 102], [118, 97, 114], [118, 111, 105, 100], [119, 104, 105, 108, 101], [119, 105, 116, 104], [121, 105, 101, 108, 100]]
def signsL : List (List UInt8) := [[123], [125], [40], [41], [91], [93], [46], [59], [44], [63], [58], [60], [62], [60, 61], [62, 61], [61, 61], [33, 61], [61, 61, 61], [33, 61, 61], [43], [45], [42], [47], [37], [38], [124], [94], [33], [126], [38, 38], [124, 124], [61], [43, 61], [45, 61], [42, 61], [47, 61], [37, 61], [60, 60], [62, 62], [62, 62, 62]]
def wordB (l : List UInt8) : Bool := wordsL.contains l
def signB (l : List UInt8) : Bool := signsL.contains l
def wordsT : List UInt8 := [32, 98, 114, 101, 97, 107, 32, 99, 97, 115, 101, 32, 99, 97, 116, 99, 104, 32, 99, 108, 97, 115, 115, 32, 99, 111, 110, 115, 116, 32, 99, 111, 110, 116, 105, 110, 117, 101, 32, 100, 101, 98, 117, 103, 103, 101, 114, 32, 100, 101, 102, 97, 117, 108, 116, 32, 100, 101, 108, 101, 116, 101, 32, 100, 111, 32, 101, 108, 115, 101, 32, 101, 110, 117, 109, 32, 101, 120, 112, 111, 114, 116, 32, 101, 120, 116, 101, 110, 100, 115, 32, 102, 97, 108, 115, 101, 32, 102, 105, 110, 97, 108, 108, 121, 32, 102, 111, 114, 32, 102, 117, 110, 99, 116, 105, 111, 110, 32, 105, 102, 32, 105, 109, 112, 111, 114, 116, 32, 105, 110, 32, 105, 110, 115, 116, 97, 110, 99, 101, 111, 102, 32, 108, 101, 116, 32, 110, 101, 119, 32, 110, 117, 108, 108, 32, 114, 101, 116, 117, 114, 110, 32, 115, 117, 112, 101, 114, 32, 115, 119, 105, 116, 99, 104, 32, 116, 104, 105, 115, 32, 116, 104, 114, 111, 119, 32, 116, 114, 117, 101, 32, 116, 114, 121, 32, 116, 121, 112, 101, 111, 102, 32, 118, 97, 114, 32, 118, 111, 105, 100, 32, 119, 104, 105, 108, 101, 32, 119, 105, 116, 104, 32, 121, 105, 101, 108, 100, 32]
def signsT : List UInt8 := [32, 123, 32, 125, 32, 40, 32, 41, 32, 91, 32, 93, 32, 46, 32, 59, 32, 44, 32, 63, 32, 58, 32, 60, 32, 62, 32, 60, 61, 32, 62, 61, 32, 61, 61, 32, 33, 61, 32, 61, 61, 61, 32, 33, 61, 61, 32, 43, 32, 45, 32, 42, 32, 47, 32, 37, 32, 38, 32, 124, 32, 94, 32, 33, 32, 126, 32, 38, 38, 32, 124, 124, 32, 61, 32, 43, 61, 32, 45, 61, 32, 42, 61, 32, 47, 61, 32, 37, 61, 32, 60, 60, 32, 62, 62, 32, 62, 62, 62, 32]

/-- past blanks and comments: mode 0 between them, 1 in one up to the line's end, 2 at the star that opens one, 3 in one up to star and slash, 4 at that slash; st: where the comment began -/
def passM : Nat → Nat → Nat → List UInt8 → Nat × Bool
  | m, st, i, [] => if m ≤ 1 then (i, true) else (st, false)
  | m, st, i, c :: r =>
    match m with
    | 0 => if blankB c then passM 0 st (i + 1) r
           else if c = 47 ∧ r.head? = some 47 then passM 1 st (i + 1) r
           else if c = 47 ∧ r.head? = some 42 then passM 2 i (i + 1) r
           else (i, true)
    | 1 => if c = 10 then passM 0 st (i + 1) r else passM 1 st (i + 1) r
    | 2 => passM 3 st (i + 1) r
    | 3 => if c = 42 ∧ r.head? = some 47 then passM 4 st (i + 1) r else passM 3 st (i + 1) r
    | _ => passM 0 st (i + 1) r

theorem passM_nil (m st i : Nat) : passM m st i [] = if m ≤ 1 then (i, true) else (st, false) := by cases m <;> rfl
theorem passM_0 (st i : Nat) (c : UInt8) (r : List UInt8) : passM 0 st i (c :: r) = if blankB c then passM 0 st (i + 1) r else if c = 47 ∧ r.head? = some 47 then passM 1 st (i + 1) r else if c = 47 ∧ r.head? = some 42 then passM 2 i (i + 1) r else (i, true) := rfl
theorem passM_1 (st i : Nat) (c : UInt8) (r : List UInt8) : passM 1 st i (c :: r) = if c = 10 then passM 0 st (i + 1) r else passM 1 st (i + 1) r := rfl
theorem passM_2 (st i : Nat) (c : UInt8) (r : List UInt8) : passM 2 st i (c :: r) = passM 3 st (i + 1) r := rfl
theorem passM_3 (st i : Nat) (c : UInt8) (r : List UInt8) : passM 3 st i (c :: r) = if c = 42 ∧ r.head? = some 47 then passM 4 st (i + 1) r else passM 3 st (i + 1) r := rfl
theorem passM_4 (st i : Nat) (c : UInt8) (r : List UInt8) : passM 4 st i (c :: r) = passM 0 st (i + 1) r := rfl
theorem passM_le : ∀ (l : List UInt8) (m st i : Nat), st ≤ i → st ≤ (passM m st i l).1 ∧ (passM m st i l).1 ≤ i + l.length
  | [], m, st, i, h => by unfold passM; split <;> simp <;> omega
  | c :: r, m, st, i, h => by
    have e : (c :: r).length = r.length + 1 := rfl
    rw [e]
    have key : ∀ m' st', st ≤ st' → st' ≤ i + 1 → st ≤ (passM m' st' (i + 1) r).1 ∧ (passM m' st' (i + 1) r).1 ≤ i + (r.length + 1) := by
      intro m' st' h1 h2
      have := passM_le r m' st' (i + 1) h2
      omega
    unfold passM
    split
    · split
      · exact key 0 st (Nat.le_refl _) (by omega)
      · split
        · exact key 1 st (Nat.le_refl _) (by omega)
        · split
          · exact key 2 i h (by omega)
          · exact ⟨h, by simp⟩
    · split
      · exact key 0 st (Nat.le_refl _) (by omega)
      · exact key 1 st (Nat.le_refl _) (by omega)
    · exact key 3 st (Nat.le_refl _) (by omega)
    · split
      · exact key 4 st (Nat.le_refl _) (by omega)
      · exact key 3 st (Nat.le_refl _) (by omega)
    · exact key 0 st (Nat.le_refl _) (by omega)
theorem passM_ge : ∀ (l : List UInt8) (m st i : Nat), (passM m st i l).2 = true → i ≤ (passM m st i l).1
  | [], m, st, i => by unfold passM; split <;> simp
  | c :: r, m, st, i => by
    have key : ∀ m' st', (passM m' st' (i + 1) r).2 = true → i ≤ (passM m' st' (i + 1) r).1 := by
      intro m' st' h
      have := passM_ge r m' st' (i + 1) h
      omega
    unfold passM
    split
    · split
      · exact key _ _
      · split
        · exact key _ _
        · split
          · exact key _ _
          · intro _; exact Nat.le_refl _
    · split
      · exact key _ _
      · exact key _ _
    · exact key _ _
    · split
      · exact key _ _
      · exact key _ _
    · exact key _ _

/-- the quote that ends a string: how many bytes stand ahead of it -/
def closeL (q : UInt8) : Bool → Nat → List UInt8 → Option Nat
  | _, _, [] => none
  | t, i, c :: r => if c = 10 ∨ c = 13 then none else if t then closeL q false (i + 1) r else if c = 92 then closeL q true (i + 1) r else if c = q then some i else closeL q false (i + 1) r
theorem closeL_lt (q : UInt8) : ∀ (l : List UInt8) (t : Bool) (i k : Nat), closeL q t i l = some k → i ≤ k ∧ k < i + l.length
  | [], _, _, _, h => by cases h
  | c :: r, t, i, k, h => by
    have e : (c :: r).length = r.length + 1 := rfl
    rw [e]
    unfold closeL at h
    split at h
    · cases h
    · split at h
      · have := closeL_lt q r _ _ _ h; omega
      · split at h
        · have := closeL_lt q r _ _ _ h; omega
        · split at h
          · injection h with h; omega
          · have := closeL_lt q r _ _ _ h; omega

/-- what a text begins with: a token and how far it goes, or none and where that shows -/
inductive PR where
  | tok (kind : Nat) (text : ByteArray) (num : Nat) (wide : Nat)
  | bad (fault : Int)

def nameL (l : List UInt8) : PR :=
  if runL innB l > 4096 then .bad 0 else .tok (if wordB (l.take (runL innB l)) then 2 else 1) (mkB (l.take (runL innB l))) 0 (runL innB l)
def numBad (l : List UInt8) : Bool :=
  (decide (runL isDig l > 1) && decide (l.head? = some 48)) || (match l[runL isDig l]? with | some d => innB d | none => false)
def numberL (l : List UInt8) : PR :=
  if numBad l then .bad 0 else match readR (l.take (runL isDig l)) with | .ok n => .tok 3 ⟨#[]⟩ (F n) (runL isDig l) | _ => .bad 0
def plainP (r : ByteArray × Int × Int) (e : Nat) : PR := if r.2.2 = 0 then .tok 4 r.1 0 (e + 1) else if r.2.2 = 5 then .bad (1 + r.2.1) else .bad 0
def literalL (q : UInt8) (l : List UInt8) : PR :=
  match closeL q false 1 (l.drop 1) with
  | none => .bad 0
  | some e => plainP (plainO (mkB ((l.drop 1).take (e - 1)))) e
def signN (l : List UInt8) : Nat :=
  if 3 ≤ l.length ∧ signB (l.take 3) = true then 3 else if 2 ≤ l.length ∧ signB (l.take 2) = true then 2 else if 1 ≤ l.length ∧ signB (l.take 1) = true then 1 else 0
def signL (l : List UInt8) : PR := if signN l = 0 then .bad 0 else .tok 5 (mkB (l.take (signN l))) 0 (signN l)
def pieceL : List UInt8 → PR
  | [] => .bad 0
  | c :: r => if iniB c then nameL (c :: r) else if isDig c then numberL (c :: r) else if c = 34 ∨ c = 39 then literalL c (c :: r) else signL (c :: r)

theorem pieceL_cons (c : UInt8) (r : List UInt8) : pieceL (c :: r) = if iniB c then nameL (c :: r) else if isDig c then numberL (c :: r) else if c = 34 ∨ c = 39 then literalL c (c :: r) else signL (c :: r) := rfl
theorem plainP_le {r : ByteArray × Int × Int} {e k : Nat} {t : ByteArray} {n wd : Nat} (h : plainP r e = .tok k t n wd) : wd = e + 1 ∧ k = 4 ∧ n = 0 ∧ t = r.1 ∧ r.2.2 = 0 := by
  unfold plainP at h
  split at h
  · cases h; exact ⟨rfl, rfl, rfl, rfl, by assumption⟩
  · split at h <;> cases h
theorem signN_le (l : List UInt8) : signN l ≤ l.length := by unfold signN; split <;> (try split) <;> (try split) <;> omega

theorem pieceL_wide {l : List UInt8} {k : Nat} {t : ByteArray} {n wd : Nat} (h : pieceL l = .tok k t n wd) : 1 ≤ wd ∧ wd ≤ l.length := by
  cases l with
  | nil => cases h
  | cons c r =>
    rw [pieceL_cons] at h
    by_cases c1 : iniB c = true
    · rw [if_pos c1] at h
      unfold nameL at h
      have hr := runL_le innB (c :: r)
      have h1 : 1 ≤ runL innB (c :: r) := by rw [runL_cons, if_pos (by unfold innB; rw [c1]; rfl)]; omega
      split at h
      · cases h
      · cases h; exact ⟨h1, hr⟩
    · rw [if_neg c1] at h
      by_cases c2 : isDig c = true
      · rw [if_pos c2] at h
        unfold numberL at h
        have hr := runL_le isDig (c :: r)
        have h1 : 1 ≤ runL isDig (c :: r) := by rw [runL_cons, if_pos c2]; omega
        split at h
        · cases h
        · split at h
          · cases h; exact ⟨h1, hr⟩
          · cases h
      · rw [if_neg c2] at h
        by_cases c3 : c = 34 ∨ c = 39
        · rw [if_pos c3] at h
          unfold literalL at h
          split at h
          · cases h
          · rename_i e he
            have := closeL_lt c _ _ _ _ he
            have h2 := (plainP_le h).1
            rw [List.drop_one, List.tail_cons] at this
            rw [List.length_cons]; omega
        · rw [if_neg c3] at h
          unfold signL at h
          split at h
          · cases h
          · cases h; exact ⟨by omega, signN_le _⟩

inductive TR where
  | ok (l : List Tk)
  | err (place : Int) (e : Int)

def toksF : Nat → Nat → List UInt8 → List Tk → TR
  | 0, _, _, _ => .err 0 0
  | f + 1, i, l, acc =>
    if (passM 0 i i l).2 = false then .err (passM 0 i i l).1 5
    else if l.drop ((passM 0 i i l).1 - i) = [] then .ok (acc ++ [⟨0, (passM 0 i i l).1, ⟨#[]⟩, 0⟩])
    else match pieceL (l.drop ((passM 0 i i l).1 - i)) with
      | .bad k => .err ((passM 0 i i l).1 + k) 5
      | .tok kind text num wide =>
        if acc.length = 16384 then .err (passM 0 i i l).1 4
        else toksF f ((passM 0 i i l).1 + wide) ((l.drop ((passM 0 i i l).1 - i)).drop wide) (acc ++ [⟨kind, (passM 0 i i l).1, text, num⟩])
def toks (l : List UInt8) : TR := if l.length > 65536 then .err 0 3 else toksF (l.length + 1) 0 l []

/-! ### one round of the reading, at a place of a whole text -/
theorem drop_pos (L : List UInt8) (i p : Nat) (h : i ≤ p) : (L.drop i).drop (p - i) = L.drop p := by rw [List.drop_drop]; congr 1; omega
theorem toks_stop {L : List UInt8} {f i p : Nat} {acc : List Tk} (hp : passM 0 i i (L.drop i) = (p, false)) : toksF (f + 1) i (L.drop i) acc = .err p 5 := by
  unfold toksF; rw [hp]; rfl
theorem toks_end {L : List UInt8} {f i p : Nat} {acc : List Tk} (hip : i ≤ p) (hp : passM 0 i i (L.drop i) = (p, true)) (h : L.length ≤ p) : toksF (f + 1) i (L.drop i) acc = .ok (acc ++ [⟨0, p, ⟨#[]⟩, 0⟩]) := by
  unfold toksF; rw [hp, drop_pos L i p hip, if_neg (by simp), if_pos (List.drop_eq_nil_of_le h)]
theorem toks_bad {L : List UInt8} {f i p : Nat} {k : Int} {acc : List Tk} (hip : i ≤ p) (hp : passM 0 i i (L.drop i) = (p, true)) (h : p < L.length) (hk : pieceL (L.drop p) = .bad k) : toksF (f + 1) i (L.drop i) acc = .err (p + k) 5 := by
  unfold toksF; rw [hp, drop_pos L i p hip, if_neg (by simp), if_neg (by simp; omega), hk]
theorem toks_many {L : List UInt8} {f i p : Nat} {kd : Nat} {t : ByteArray} {n wd : Nat} {acc : List Tk} (hip : i ≤ p) (hp : passM 0 i i (L.drop i) = (p, true)) (h : p < L.length) (hk : pieceL (L.drop p) = .tok kd t n wd) (hl : acc.length = 16384) :
    toksF (f + 1) i (L.drop i) acc = .err p 4 := by
  unfold toksF; rw [hp, drop_pos L i p hip, if_neg (by simp), if_neg (by simp; omega), hk]; dsimp only; rw [if_pos hl]
theorem toks_step {L : List UInt8} {f i p : Nat} {kd : Nat} {t : ByteArray} {n wd : Nat} {acc : List Tk} (hip : i ≤ p) (hp : passM 0 i i (L.drop i) = (p, true)) (h : p < L.length) (hk : pieceL (L.drop p) = .tok kd t n wd) (hl : ¬ acc.length = 16384) :
    toksF (f + 1) i (L.drop i) acc = toksF f (p + wd) (L.drop (p + wd)) (acc ++ [⟨kd, p, t, n⟩]) := by
  conv => lhs; unfold toksF
  rw [hp, drop_pos L i p hip, if_neg (by simp), if_neg (by simp; omega), hk]; dsimp only; rw [if_neg hl, List.drop_drop]
end Go.Proofs.YtablckajobefeaaGreatDoor.S
/-
  DERIVED: THE SHELF's CONTRACTS AT THIS DUMP, IN PLAIN WORDS (tools/lay-plain.mjs out of 'YtablckajobefeaaGreatDoorLexShelfTry.lean', which tools/lay-shelf.mjs wrote): THE SAME DECLARATIONS UNDER THE SAME NAMES: 'import', 'namespace', 'open', 'def', 'theorem' AND NOTHING ELSE: no command of the shelf's: FOR A HAND-IN. Each laying: the table of numbers ('.._ren') and one theorem, a field a fact of the dump's own or the kernel's comparison; each contract: ONE APPLICATION.
-/
namespace Go.Proofs
open Go.Shelf
def Tryz.laysM316_ren : Go.Shelf.Ren := ⟨fun | 316 => 70 | n => n, fun | 9 => 9 | 3 => 3 | 4 => 4 | 37 => 23 | 0 => 0 | 127 => 104 | 5 => 5 | n => n, fun | n => n⟩
theorem Tryz.laysM316 : Go.Proofs.LaysM.n316 Tryz.prog Tryz.laysM316_ren := {
  mixed := by kernel_rfl
  f316 := Tryz.func70.trans (congrArg some (by kernel_rfl))
  t0 := Tryz.underlying0
  a0 := Tryz.isAgg0
  z0 := Tryz.sizeOf0
  v0 := Tryz.zeroValue0
  t3 := Tryz.underlying3
  a3 := Tryz.isAgg3
  z3 := Tryz.sizeOf3
  v3 := Tryz.zeroValue3
  t4 := Tryz.underlying4
  a4 := Tryz.isAgg4
  z4 := Tryz.sizeOf4
  v4 := Tryz.zeroValue4
  t9 := Tryz.underlying9
  a9 := Tryz.isAgg9
  z9 := Tryz.sizeOf9
  v9 := Tryz.zeroValue9
  t37 := Tryz.underlying23
  a37 := Tryz.isAgg23
  z37 := Tryz.sizeOf23
  v37 := Tryz.zeroValue23
  t127 := Tryz.underlying104
  a127 := Tryz.isAgg104
  z127 := Tryz.sizeOf104
  v127 := Tryz.zeroValue104
  t5 := Tryz.underlying5
  a5 := Tryz.isAgg5
  z5 := Tryz.sizeOf5
  v5 := Tryz.zeroValue5
  i0 := by kernel_rfl
  i3 := by kernel_rfl
  i4 := by kernel_rfl
  i5 := by kernel_rfl
  i9 := by kernel_rfl
  i37 := by kernel_rfl
  i127 := by kernel_rfl }
open Go.RowKit in
/-- internal/stringslite.Clone: the same bytes. -/
theorem Tryz.stringslite_Clone (s : ByteArray) (w : World) (hlim : s.size ≤ 281474976710656) :
    Calls Tryz.prog 70 #[.string s] w fun e w' => e = .returned (.string s) ∧ Below w.heap.size w w' := Any.stringslite_Clone Tryz.laysM316 s w hlim
def Tryz.lays99_ren : Go.Shelf.Ren := ⟨fun | 99 => 39 | 206 => 60 | n => n, fun | 9 => 9 | 4 => 4 | 3 => 3 | n => n, fun | n => n⟩
theorem Tryz.lays99 : Go.Proofs.Lays.n99 Tryz.prog Tryz.lays99_ren := {
  mixed := by kernel_rfl
  f99 := Tryz.func39.trans (congrArg some (by kernel_rfl))
  f206 := Tryz.func60.trans (congrArg some (by kernel_rfl))
  t3 := Tryz.underlying3
  a3 := Tryz.isAgg3
  z3 := Tryz.sizeOf3
  v3 := Tryz.zeroValue3
  t4 := Tryz.underlying4
  a4 := Tryz.isAgg4
  z4 := Tryz.sizeOf4
  v4 := Tryz.zeroValue4
  t9 := Tryz.underlying9
  a9 := Tryz.isAgg9
  z9 := Tryz.sizeOf9
  v9 := Tryz.zeroValue9 }
open Go.RowKit in
/-- strings.HasPrefix. -/
theorem Tryz.strings_HasPrefix (s p : ByteArray) (w : World) :
    Calls Tryz.prog 39 #[.string s, .string p] w fun e w' => e = .returned (.bool (Lib.hasPrefix s.data.toList p.data.toList)) ∧ w' = w := Any.strings_HasPrefix Tryz.lays99 s p w
end Go.Proofs
/-
  What a byte is, how far a run of them goes, what is passed over: walks of package lex.
-/
namespace Go.Proofs.YtablckajobefeaaGreatDoor.S
open Go.RowKit Fl

theorem lexblank_any (c : UInt8) (w : World) :
    Calls Tryz.prog 38 #[.int .u8 (c.toNat : Int)] w fun e w' => e = .returned (.bool (blankB c)) ∧ w = w' := by
  have hb := Lib.hid (blankB_eq c)
  have h255 : c.toNat < 256 := c.toNat_lt
  go_enter Tryz.func38, Tryz.ntmps38
  go_wp2
  all_goals (go_ret; refine ⟨ret_bool ?_, rfl⟩; rw [hb.out]; clear hb; simp only [beq_iff_eq, beq_eq_false_iff_ne, ne_eq] at *; rw [Bool.eq_iff_iff]; simp; omega)

theorem lexdigit_any (c : UInt8) (w : World) :
    Calls Tryz.prog 42 #[.int .u8 (c.toNat : Int)] w fun e w' => e = .returned (.bool (isDig c)) ∧ w = w' := by
  have hb : Hid (isDig c = (decide (48 ≤ c.toNat) && decide (c.toNat ≤ 57))) := Lib.hid rfl
  go_enter Tryz.func42, Tryz.ntmps42
  go_wp2
  all_goals (go_ret; refine ⟨ret_bool ?_, rfl⟩; rw [hb.out, Bool.eq_iff_iff]; simp; omega)

theorem lexinitial_any (c : UInt8) (w : World) :
    Calls Tryz.prog 40 #[.int .u8 (c.toNat : Int)] w fun e w' => e = .returned (.bool (iniB c)) ∧ w = w' := by
  have hb : Hid (iniB c = ((decide (97 ≤ c.toNat) && decide (c.toNat ≤ 122)) || (decide (65 ≤ c.toNat) && decide (c.toNat ≤ 90)) || c.toNat == 95 || c.toNat == 36)) := Lib.hid rfl
  go_enter Tryz.func40, Tryz.ntmps40
  go_wp2
  all_goals (go_ret; refine ⟨ret_bool ?_, rfl⟩; rw [hb.out, Bool.eq_iff_iff]; simp; omega)

theorem lexinner_any (c : UInt8) (w : World) :
    Calls Tryz.prog 62 #[.int .u8 (c.toNat : Int)] w fun e w' => e = .returned (.bool (innB c)) ∧ w = w' := by
  have hb : Hid (innB c = (iniB c || isDig c)) := Lib.hid rfl
  have k1 := fun w => lexinitial_any c w
  have k2 := fun w => lexdigit_any c w
  generalize iniB c = x at *
  generalize isDig c = y at *
  cases x <;> cases y
  all_goals
    go_enter Tryz.func62, Tryz.ntmps62
    go_wp2_with (first | (go_at_call 40; refine (k1 _).mono ?_; rintro e w1 ⟨rfl, rfl⟩) | (go_at_call 42; refine (k2 _).mono ?_; rintro e w1 ⟨rfl, rfl⟩))
    go_ret
    exact ⟨ret_bool (by rw [hb.out]; rfl), rfl⟩

theorem run_step (p : UInt8 → Bool) (s : ByteArray) (k : Nat) (h : k < s.size) : runL p (s.data.toList.drop k) = if p s[k] then runL p (s.data.toList.drop (k + 1)) + 1 else 0 := by
  rw [List.drop_eq_getElem_cons (by rw [← size_len]; exact h), runL_cons]
  have : s.data.toList[k]'(by rw [← size_len]; exact h) = s[k] := by simp [ByteArray.getElem_eq_getElem_data]
  rw [this]
theorem run_over (p : UInt8 → Bool) (s : ByteArray) (k : Nat) (h : ¬ k < s.size) : runL p (s.data.toList.drop k) = 0 := by
  rw [List.drop_eq_nil_of_le (by rw [← size_len]; omega)]; rfl

theorem run_inner (s : ByteArray) (w : World) (hs : s.size ≤ maxLen) :
    Calls Tryz.prog 61 #[.string s, .func (.func 62) #[] #[]] w fun e w' => e = .returned (.int .i64 (runL innB s.data.toList : Int)) ∧ w = w' := by
  unfold maxLen at hs
  obtain ⟨N, hN⟩ : ∃ N, runL innB s.data.toList = N := ⟨_, rfl⟩
  have HN := Lib.hid hN
  rw [hN]
  clear hN
  go_enter Tryz.func61, Tryz.ntmps61
  go_wp2_with (fail)
  go_loop [5] (fun i => ∃ k : Nat, k ≤ s.size ∧ i = .int .i64 k ∧ Hid (runL innB (s.data.toList.drop k) + k = N)) (fun i => s.size - (intOf i).toNat)
  case atStart => exact ⟨0, Nat.zero_le _, rfl, Lib.hid (by rw [List.drop_zero]; exact HN.out)⟩
  case round =>
    obtain ⟨k, hk, rfl, H⟩ := hrel
    by_cases hlt : k < s.size
    · have hst := run_step innB s k hlt
      by_cases hp : innB s[k] = true
      · rw [if_pos hp] at hst
        have H2 : Hid (runL innB (s.data.toList.drop (k + 1)) + (k + 1) = N) := Lib.hid (by have := H.out; omega)
        have kc := fun w => lexinner_any s[k] w
        rw [hp] at kc
        clear hst hp H
        go_wp2_with (go_at_call 62; refine (kc _).mono ?_; rintro e w1 ⟨rfl, rfl⟩)
        go_round
        case rel => exact ⟨k + 1, by omega, by go_num, H2⟩
        case measure => simp [intOf]; omega
      · rw [if_neg hp] at hst
        have H2 : Hid (k = N) := Lib.hid (by have := H.out; omega)
        have hp' : innB s[k] = false := by simpa using hp
        have kc := fun w => lexinner_any s[k] w
        rw [hp'] at kc
        clear hst hp H hp'
        go_wp2_with (go_at_call 62; refine (kc _).mono ?_; rintro e w1 ⟨rfl, rfl⟩)
        go_ret
        exact ⟨ret_int (by rw [H2.out]), rfl⟩
    · have H2 : Hid (k = N) := Lib.hid (by have := H.out; have := run_over innB s k hlt; omega)
      clear H
      go_wp2
      go_ret
      exact ⟨ret_int (by rw [H2.out]), rfl⟩
theorem run_digit (s : ByteArray) (w : World) (hs : s.size ≤ maxLen) :
    Calls Tryz.prog 61 #[.string s, .func (.func 42) #[] #[]] w fun e w' => e = .returned (.int .i64 (runL isDig s.data.toList : Int)) ∧ w = w' := by
  unfold maxLen at hs
  obtain ⟨N, hN⟩ : ∃ N, runL isDig s.data.toList = N := ⟨_, rfl⟩
  have HN := Lib.hid hN
  rw [hN]
  clear hN
  go_enter Tryz.func61, Tryz.ntmps61
  go_wp2_with (fail)
  go_loop [5] (fun i => ∃ k : Nat, k ≤ s.size ∧ i = .int .i64 k ∧ Hid (runL isDig (s.data.toList.drop k) + k = N)) (fun i => s.size - (intOf i).toNat)
  case atStart => exact ⟨0, Nat.zero_le _, rfl, Lib.hid (by rw [List.drop_zero]; exact HN.out)⟩
  case round =>
    obtain ⟨k, hk, rfl, H⟩ := hrel
    by_cases hlt : k < s.size
    · have hst := run_step isDig s k hlt
      by_cases hp : isDig s[k] = true
      · rw [if_pos hp] at hst
        have H2 : Hid (runL isDig (s.data.toList.drop (k + 1)) + (k + 1) = N) := Lib.hid (by have := H.out; omega)
        have kc := fun w => lexdigit_any s[k] w
        rw [hp] at kc
        clear hst hp H
        go_wp2_with (go_at_call 42; refine (kc _).mono ?_; rintro e w1 ⟨rfl, rfl⟩)
        go_round
        case rel => exact ⟨k + 1, by omega, by go_num, H2⟩
        case measure => simp [intOf]; omega
      · rw [if_neg hp] at hst
        have H2 : Hid (k = N) := Lib.hid (by have := H.out; omega)
        have hp' : isDig s[k] = false := by simpa using hp
        have kc := fun w => lexdigit_any s[k] w
        rw [hp'] at kc
        clear hst hp H hp'
        go_wp2_with (go_at_call 42; refine (kc _).mono ?_; rintro e w1 ⟨rfl, rfl⟩)
        go_ret
        exact ⟨ret_int (by rw [H2.out]), rfl⟩
    · have H2 : Hid (k = N) := Lib.hid (by have := H.out; have := run_over isDig s k hlt; omega)
      clear H
      go_wp2
      go_ret
      exact ⟨ret_int (by rw [H2.out]), rfl⟩
end Go.Proofs.YtablckajobefeaaGreatDoor.S
/-
  Quoted and read it is itself: the facts of it without a walk.
-/
namespace Go.Proofs.YtablckajobefeaaGreatDoor.S
open Go.RowKit
theorem tail_list (s : ByteArray) (f : Nat) : (s.extract f s.size).data.toList = s.data.toList.drop f := by
  rw [extract_list, List.take_of_length_le]
  rw [List.length_drop, ← size_len]; exact Nat.le_refl _

end Go.Proofs.YtablckajobefeaaGreatDoor.S
/-
  Past blanks and comments: walks of package lex.
-/
namespace Go.Proofs.YtablckajobefeaaGreatDoor.S
open Go.RowKit Fl

theorem drop_get (s : ByteArray) (k : Nat) (h : k < s.size) : s.data.toList.drop k = s[k] :: s.data.toList.drop (k + 1) := by
  rw [List.drop_eq_getElem_cons (by rw [← size_len]; exact h)]
  have : s.data.toList[k]'(by rw [← size_len]; exact h) = s[k] := by simp [ByteArray.getElem_eq_getElem_data]
  rw [this]
theorem drop_over (s : ByteArray) (k : Nat) (h : ¬ k < s.size) : s.data.toList.drop k = [] := List.drop_eq_nil_of_le (by rw [← size_len]; omega)
theorem head_at (s : ByteArray) (k : Nat) (d : UInt8) : (s.data.toList.drop k).head? = some d ↔ ∃ h : k < s.size, s[k] = d := by
  by_cases h : k < s.size
  · rw [drop_get s k h]; simp [h]
  · rw [drop_over s k h]; simp [h]
theorem prefix2 (s : ByteArray) (k : Nat) (a b : UInt8) : Lib.hasPrefix (s.extract k s.size).data.toList [a, b] = true ↔ ∃ h : k + 1 < s.size, s[k] = a ∧ s[k + 1] = b := by
  rw [tail_list]
  unfold Lib.hasPrefix
  by_cases h : k < s.size
  · rw [drop_get s k h]
    by_cases h1 : k + 1 < s.size
    · rw [drop_get s (k + 1) h1]
      simp only [List.isPrefixOf, Bool.and_true, Bool.and_eq_true, beq_iff_eq]
      exact ⟨fun g => ⟨h1, g.1.symm, g.2.symm⟩, fun ⟨_, g⟩ => ⟨g.1.symm, g.2.symm⟩⟩
    · rw [drop_over s (k + 1) h1]
      simp only [List.isPrefixOf, Bool.and_false, Bool.false_eq_true, false_iff]
      exact fun ⟨g, _⟩ => h1 g
  · rw [drop_over s k h]
    simp only [List.isPrefixOf, Bool.false_eq_true, false_iff]
    exact fun ⟨g, _⟩ => h (by omega)

section
variable (s : ByteArray) (st k : Nat)
theorem pass_blank (h : k < s.size) (hb : blankB s[k] = true) : passM 0 st k (s.data.toList.drop k) = passM 0 st (k + 1) (s.data.toList.drop (k + 1)) := by
  rw [drop_get s k h, passM_0, if_pos hb]
theorem pass_over (h : ¬ k < s.size) (m : Nat) (hm : m ≤ 1) : passM m st k (s.data.toList.drop k) = (k, true) := by
  rw [drop_over s k h, passM_nil, if_pos hm]
theorem pass_line (h : k + 1 < s.size) (h1 : s[k] = 47) (h2 : s[k + 1] = 47) : passM 0 st k (s.data.toList.drop k) = passM 1 st k (s.data.toList.drop k) := by
  rw [drop_get s k (by omega), passM_0, passM_1]
  rw [h1, if_neg (by decide), if_pos ⟨rfl, (head_at s (k + 1) 47).2 ⟨h, h2⟩⟩, if_neg (by decide)]
theorem pass_line_end (h : k < s.size) (h1 : s[k] = 10) : passM 1 st k (s.data.toList.drop k) = passM 0 st k (s.data.toList.drop k) := by
  rw [drop_get s k h, passM_0, passM_1, h1, if_pos rfl, if_pos (by decide)]
theorem pass_line_on (h : k < s.size) (h1 : ¬ s[k] = 10) : passM 1 st k (s.data.toList.drop k) = passM 1 st (k + 1) (s.data.toList.drop (k + 1)) := by
  rw [drop_get s k h, passM_1, if_neg h1]
theorem pass_block (h : k + 1 < s.size) (h1 : s[k] = 47) (h2 : s[k + 1] = 42) : passM 0 st k (s.data.toList.drop k) = passM 3 k (k + 2) (s.data.toList.drop (k + 2)) := by
  rw [drop_get s k (by omega), passM_0, h1, if_neg (show ¬ blankB 47 = true by decide), if_neg (show ¬ ((47 : UInt8) = 47 ∧ _) by rw [head_at]; rintro ⟨_, _, h3⟩; rw [h2] at h3; exact absurd h3 (by decide)), if_pos ⟨rfl, (head_at s (k + 1) 42).2 ⟨h, h2⟩⟩, drop_get s (k + 1) h, passM_2]
theorem pass_block_on (h : k + 1 < s.size) (h1 : ¬ (s[k] = 42 ∧ s[k + 1] = 47)) : passM 3 st k (s.data.toList.drop k) = passM 3 st (k + 1) (s.data.toList.drop (k + 1)) := by
  rw [drop_get s k (by omega), passM_3, if_neg (by rw [head_at]; rintro ⟨h2, _, h3⟩; exact h1 ⟨h2, h3⟩)]
theorem pass_block_close (h : k + 1 < s.size) (h1 : s[k] = 42) (h2 : s[k + 1] = 47) : passM 3 st k (s.data.toList.drop k) = passM 0 st (k + 2) (s.data.toList.drop (k + 2)) := by
  rw [drop_get s k (by omega), passM_3, if_pos ⟨h1, (head_at s (k + 1) 47).2 ⟨h, h2⟩⟩, drop_get s (k + 1) h, passM_4]
theorem pass_block_over (h : ¬ k + 1 < s.size) : passM 3 st k (s.data.toList.drop k) = (st, false) := by
  by_cases hk : k < s.size
  · rw [drop_get s k hk, drop_over s (k + 1) h, passM_3, if_neg (by rintro ⟨_, h3⟩; cases h3), passM_nil, if_neg (by omega)]
  · rw [drop_over s k hk, passM_nil, if_neg (by omega)]
theorem pass_other (h : k < s.size) (hb : ¬ blankB s[k] = true) (h1 : ∀ g : k + 1 < s.size, ¬ (s[k] = 47 ∧ s[k + 1] = 47)) (h2 : ∀ g : k + 1 < s.size, ¬ (s[k] = 47 ∧ s[k + 1] = 42)) : passM 0 st k (s.data.toList.drop k) = (k, true) := by
  rw [drop_get s k h, passM_0, if_neg hb, if_neg (by rw [head_at]; rintro ⟨h3, h4, h5⟩; exact h1 h4 ⟨h3, h5⟩), if_neg (by rw [head_at]; rintro ⟨h3, h4, h5⟩; exact h2 h4 ⟨h3, h5⟩)]
end

def PassTo (r : Nat × Bool) (w : World) (e : Ending) (w' : World) : Prop := e = .returned (.tuple #[.int .i64 (r.1 : Int), .bool r.2]) ∧ w = w'
theorem ret_pass {r : Nat × Bool} {k : Nat} {b : Bool} {w : World} (h : Hid ((k, b) = r)) : PassTo r w (.returned (.tuple #[.int .i64 (k : Int), .bool b])) w := by rw [← h.out]; exact ⟨rfl, rfl⟩

theorem pre2_yes (s : ByteArray) (k : Nat) (a b : UInt8) (h : k + 1 < s.size) (h1 : s[k] = a) (h2 : s[k + 1] = b) (w : World) :
    Calls Tryz.prog 39 #[.string (s.extract k s.size), .string ⟨#[a, b]⟩] w fun e w' => e = .returned (.bool true) ∧ w = w' :=
  (Tryz.strings_HasPrefix (s.extract k s.size) ⟨#[a, b]⟩ w).mono fun e w' ⟨he, hw⟩ => ⟨by rw [he]; exact ret_bool ((prefix2 s k a b).2 ⟨h, h1, h2⟩), hw.symm⟩
theorem pre2_no (s : ByteArray) (k : Nat) (a b : UInt8) (h : ¬ ∃ h : k + 1 < s.size, s[k] = a ∧ s[k + 1] = b) (w : World) :
    Calls Tryz.prog 39 #[.string (s.extract k s.size), .string ⟨#[a, b]⟩] w fun e w' => e = .returned (.bool false) ∧ w = w' :=
  (Tryz.strings_HasPrefix (s.extract k s.size) ⟨#[a, b]⟩ w).mono fun e w' ⟨he, hw⟩ => ⟨by rw [he]; exact ret_bool (by rw [Bool.eq_false_iff]; exact fun g => h ((prefix2 s k a b).1 g)), hw.symm⟩
theorem byte_ne {c : UInt8} {n : Nat} {d : UInt8} (hd : d.toNat = n) (h : ¬ c = d) : ¬ ((c.toNat : Int) = (n : Int)) := fun g => h (UInt8.toNat_inj.1 (by omega))
theorem two_bytes (s : ByteArray) (j : Nat) (h : j + 1 < s.size) : (s.extract j (j + 2)).data.toList = [s[j], s[j + 1]] := by
  rw [extract_list, drop_get s j (by omega), drop_get s (j + 1) h]
  have : j + 2 - j = 2 := by omega
  rw [this]; rfl

theorem pass_any (s : ByteArray) (i : Nat) (w : World) (hs : s.size ≤ 70000) (hi : i ≤ s.size) :
    Calls Tryz.prog 22 #[.string s, .int .i64 (i : Int)] w (PassTo (passM 0 i i (s.data.toList.drop i)) w) := by
  generalize hR : passM 0 i i (s.data.toList.drop i) = R
  have HR := Lib.hid hR
  clear hR
  go_enter Tryz.func22, Tryz.ntmps22
  go_wp2_with (fail)
  go_step3
  go_wp2_with (fail)
  go_step3
  go_wp2_with (fail)
  go_loop [1] (fun i => ∃ k st : Nat, k ≤ s.size ∧ i = .int .i64 k ∧ Hid (passM 0 st k (s.data.toList.drop k) = R)) (fun i => s.size - (intOf i).toNat)
  case atStart => exact ⟨i, i, hi, rfl, HR⟩
  case round =>
    clear HR
    obtain ⟨k, st, hk, rfl, H⟩ := hrel
    by_cases hlt : k < s.size
    · have kb := fun w => lexblank_any s[k] w
      by_cases hb : blankB s[k] = true
      · have H2 := Lib.hid ((pass_blank s st k hlt hb).symm.trans H.out)
        rw [hb] at kb
        clear H hb
        go_wp2_with (go_at_call 38; refine (kb _).mono ?_; rintro e w1 ⟨rfl, rfl⟩)
        go_round
        case rel => exact ⟨k + 1, st, by omega, by go_num, H2⟩
        case measure => simp [intOf]; omega
      · have hb' : blankB s[k] = false := by simpa using hb
        rw [hb'] at kb
        by_cases hl : ∃ h : k + 1 < s.size, s[k] = 47 ∧ s[k + 1] = 47
        · obtain ⟨h1, h2, h3⟩ := hl
          have kl := fun w => pre2_yes s k 47 47 h1 h2 h3 w
          have h47 : Hid (s[k] = 47) := Lib.hid h2
          have H2 := Lib.hid ((pass_line s st k h1 h2 h3).symm.trans H.out)
          clear H hb hb' h2 h3
          go_wp2_with (first | (go_at_call 38; refine (kb _).mono ?_; rintro e w1 ⟨rfl, rfl⟩) | (go_at_call 39; refine (kl _).mono ?_; rintro e w1 ⟨rfl, rfl⟩))
          clear kb kl
          go_loop [1] (fun i => ∃ j st : Nat, k ≤ j ∧ j ≤ s.size ∧ i = .int .i64 j ∧ Hid (passM 1 st j (s.data.toList.drop j) = R)) (fun i => s.size - (intOf i).toNat)
          case atStart => exact ⟨k, st, Nat.le_refl _, hk, rfl, H2⟩
          case round =>
            clear H2
            obtain ⟨j, st, hkj, hj, rfl, H⟩ := hrel
            by_cases hlj : j < s.size
            · by_cases h10 : s[j] = 10
              · have hne : j ≠ k := fun e => by subst e; have := h47.out; rw [h10] at this; exact absurd this (by decide)
                have H2 := Lib.hid ((pass_line_end s st j hlj h10).symm.trans H.out)
                have t10 : ((s[j].toNat : Nat) : Int) = 10 := by rw [h10]; rfl
                clear H h10
                go_wp2
                go_round
                case rel => exact ⟨j, st, by omega, by go_num, H2⟩
                case measure => simp [intOf]; omega
              · have H2 := Lib.hid ((pass_line_on s st j hlj h10).symm.trans H.out)
                have t10 : ¬ ((s[j].toNat : Nat) : Int) = 10 := byte_ne rfl h10
                clear H h10
                go_wp2
                go_round
                case rel => exact ⟨j + 1, st, by omega, by omega, by go_num, H2⟩
                case measure => simp [intOf]; omega
            · have H2 := Lib.hid ((pass_over s st j hlj 1 (by omega)).symm.trans H.out)
              clear H
              go_wp2
              go_ret2
              exact ret_pass H2
        · have kl := fun w => pre2_no s k 47 47 hl w
          by_cases hs2 : ∃ h : k + 1 < s.size, s[k] = 47 ∧ s[k + 1] = 42
          · obtain ⟨h1, h2, h3⟩ := hs2
            have kl2 := fun w => pre2_yes s k 47 42 h1 h2 h3 w
            have H2 := Lib.hid ((pass_block s st k h1 h2 h3).symm.trans H.out)
            clear H hb hb' h2 h3 hl
            go_wp2_with (first | (go_at_call 38; refine (kb _).mono ?_; rintro e w1 ⟨rfl, rfl⟩) | (go_at_call 39; ((with_reducible refine (kl _).mono ?_); rintro e w1 ⟨rfl, rfl⟩)) | (go_at_call 39; ((with_reducible refine (kl2 _).mono ?_); rintro e w1 ⟨rfl, rfl⟩)))
            clear kb kl kl2
            go_loop [1, 6] (fun a i => ∃ j : Nat, k + 2 ≤ j ∧ j ≤ s.size ∧ a = .int .i64 k ∧ i = .int .i64 ((j : Int) + 2) ∧ Hid (passM 3 k j (s.data.toList.drop j) = R)) (fun _ i => s.size + 2 - (intOf i).toNat)
            case atStart => exact ⟨k + 2, Nat.le_refl _, by omega, rfl, by go_num, H2⟩
            case round =>
              clear H2
              obtain ⟨j, hkj, hj, rfl, rfl, H⟩ := hrel
              by_cases hlj : j + 1 < s.size
              · have h2b := two_bytes s j hlj
                have w1 : (j : Int) + 2 ≤ (s.size : Int) := by omega
                by_cases hc : s[j] = 42 ∧ s[j + 1] = 47
                · have H2 := Lib.hid ((pass_block_close s k j hlj hc.1 hc.2).symm.trans H.out)
                  have t2 : (s.extract j (j + 2)).toList = [42, 47] := by rw [toList_data, h2b, hc.1, hc.2]
                  clear H hc h2b
                  go_wp2
                  go_round
                  case rel => exact ⟨j + 2, k, by omega, by go_num, H2⟩
                  case measure => simp [intOf]; omega
                · have H2 := Lib.hid ((pass_block_on s k j hlj hc).symm.trans H.out)
                  have t2 : ((s.extract j (j + 2)).toList == [42, 47]) = false := by rw [toList_data, h2b]; simpa using hc
                  clear H hc h2b
                  go_wp2
                  go_round
                  case rel => exact ⟨j + 1, by omega, by omega, rfl, by go_num, H2⟩
                  case measure => simp [intOf]; omega
              · have H2 := Lib.hid ((pass_block_over s k j hlj).symm.trans H.out)
                clear H
                go_wp2
                go_ret2
                exact ret_pass H2
          · have kl2 := fun w => pre2_no s k 47 42 hs2 w
            have H2 := Lib.hid ((pass_other s st k hlt hb (fun g h => hl ⟨g, h⟩) (fun g h => hs2 ⟨g, h⟩)).symm.trans H.out)
            clear H hb hb' hl hs2
            go_wp2_with (first | (go_at_call 38; refine (kb _).mono ?_; rintro e w1 ⟨rfl, rfl⟩) | (go_at_call 39; ((with_reducible refine (kl _).mono ?_); rintro e w1 ⟨rfl, rfl⟩)) | (go_at_call 39; ((with_reducible refine (kl2 _).mono ?_); rintro e w1 ⟨rfl, rfl⟩)))
            go_ret2
            exact ret_pass H2
    · have H2 := Lib.hid ((pass_over s st k hlt 0 (by omega)).symm.trans H.out)
      clear H
      go_wp2
      go_ret2
      exact ret_pass H2
end Go.Proofs.YtablckajobefeaaGreatDoor.S
