/-
  The builder in the words of lists of bytes; a string laid anew: walks.
-/
import Derived.Test.YtbeggameiedjgaaGreatDoorChecked
import Derived.Test.YtbeggameiedjgaaGreatDoorTN15
import Derived.WalkKit
import Derived.WalkSpells
import Derived.WalkLawsBesides
import Derived.BigCall
import Derived.Lib.Hide
namespace Go.Proofs.YtbeggameiedjgaaGreatDoor.S
open Go.RowKit

theorem ret_bool {a b : Bool} (h : a = b) : Ending.returned (.bool a) = .returned (.bool b) := by rw [h]
theorem ret_int {k : IntKind} {a b : Int} (h : a = b) : Ending.returned (.int k a) = .returned (.int k b) := by rw [h]
theorem ret_str {a b : ByteArray} (h : a = b) : Ending.returned (.string a) = .returned (.string b) := by rw [h]

theorem size_len (t : ByteArray) : t.size = t.data.toList.length := by simp
theorem toList_data (s : ByteArray) : s.toList = s.data.toList := Go.ByteArray.toList_eq s
theorem mk_list (l : List UInt8) : (⟨l.toArray⟩ : ByteArray).data.toList = l := rfl
theorem mk_size (l : List UInt8) : (⟨l.toArray⟩ : ByteArray).size = l.length := by simp [ByteArray.size]
theorem str_ext {a b : ByteArray} (h : a.data.toList = b.data.toList) : a = b := by
  cases a with | mk a => cases b with | mk b => exact congrArg ByteArray.mk (Array.toList_inj.1 h)
theorem mk_of (s : ByteArray) : (⟨s.data.toList.toArray⟩ : ByteArray) = s := str_ext rfl
theorem getElem_list (s : ByteArray) (k : Nat) (h : k < s.size) : s.data.toList[k]? = some s[k] := by
  rw [List.getElem?_eq_getElem (by rw [← size_len]; exact h)]
  simp [ByteArray.getElem_eq_getElem_data]

/-- a fresh builder in block b -/
def FB (B b : Nat) (w0 w : World) : Prop := B ≤ b ∧ w.heap[b]? = some (.cells #[.pointer none, .slice none 0 0] 97 (0, 0)) ∧ Below B w0 w ∧ B ≤ w.heap.size
/-- a builder in block b that holds the bytes l -/
def BB (B b : Nat) (l : List UInt8) (w0 w : World) : Prop := Lib.IsBuilder 97 5 B b (Lib.byteCells l) w ∧ Below B w0 w ∧ B ≤ w.heap.size

theorem fb_alloc (w : World) : FB w.heap.size w.heap.size w (w.alloc (.cells #[.pointer none, .slice none 0 0] 97)) :=
  ⟨Nat.le_refl _, heap_alloc_new w _, (Below.refl _ w).alloc (Nat.le_refl _) _, (((Below.refl _ w).alloc (Nat.le_refl _) (.cells #[.pointer none, .slice none 0 0] 97))).size⟩
theorem FB.drew {B b : Nat} {w0 w : World} (h : FB B b w0 w) : FB B b w0 w.drew := ⟨h.1, h.2.1, h.2.2.1.drew, h.2.2.2⟩
theorem BB.drew {B b : Nat} {l : List UInt8} {w0 w : World} (h : BB B b l w0 w) : BB B b l w0 w.drew := ⟨h.1.imp Lib.BuilderAt.drew Lib.BuilderAt.drew, h.2.1.drew, h.2.2⟩
theorem bb_alloc (w : World) : BB w.heap.size w.heap.size [] w (w.alloc (.cells #[.pointer none, .slice none 0 0] 97)) :=
  ⟨Lib.fresh_isBuilder _ _ w, (Below.refl _ w).alloc (Nat.le_refl _) _, ((Below.refl _ w).alloc (Nat.le_refl _) (.cells #[.pointer none, .slice none 0 0] 97)).size⟩

theorem wb_grow {B b : Nat} (n : Int) {w0 w : World} (h : FB B b w0 w) (h0 : 0 ≤ n) (hn : n ≤ 281474976710656) :
    Calls Tryz.prog 144 #[.pointer (some ⟨b, 0, none⟩), .int .i64 n] w fun e w' => e = .returned (.tuple #[]) ∧ BB B b [] w0 w' := by
  obtain ⟨k, rfl⟩ := Int.eq_ofNat_of_zero_le h0
  refine (Tryz.Builder_Grow_fresh B b k w h.1 h.2.1 h.2.2.2 (by omega)).mono fun e w' ⟨he, hb, hw⟩ => ⟨he, Or.inr hb, h.2.2.1.trans hw, Nat.le_trans h.2.2.2 hw.size⟩
theorem wb_byte {B b : Nat} {l : List UInt8} (c : UInt8) {w0 w : World} (h : BB B b l w0 w) (hl : l.length + 1 ≤ 140737488355328) :
    Calls Tryz.prog 145 #[.pointer (some ⟨b, 0, none⟩), .int .u8 (c.toNat : Int)] w fun e w' => e = .returned .nilIface ∧ BB B b (l ++ [c]) w0 w' := by
  refine (Tryz.Builder_WriteByte B b _ c.toNat w h.1 (by rw [Lib.byteCells_length]; exact hl) h.2.2).mono fun e w' ⟨he, hb, hw⟩ => ⟨he, Or.inr (by rw [Lib.byteCells_append]; exact hb), h.2.1.trans hw, Nat.le_trans h.2.2 hw.size⟩
theorem wb_str {B b : Nat} {l : List UInt8} (s : ByteArray) {w0 w : World} (h : BB B b l w0 w) (hl : l.length + s.size ≤ 140737488355328) :
    Calls Tryz.prog 55 #[.pointer (some ⟨b, 0, none⟩), .string s] w fun e w' => e = .returned (.tuple #[.int .i64 s.size, .nilIface]) ∧ BB B b (l ++ s.data.toList) w0 w' := by
  refine (Tryz.Builder_WriteString B b _ s w h.1 (by rw [Lib.byteCells_length]; exact hl) h.2.2).mono fun e w' ⟨he, hb, hw⟩ => ⟨he, Or.inr (by rw [Lib.byteCells_append, ← Lib.strCells_eq]; exact hb), h.2.1.trans hw, Nat.le_trans h.2.2 hw.size⟩
theorem wb_string {B b : Nat} {l : List UInt8} {w0 w : World} (h : BB B b l w0 w) :
    Calls Tryz.prog 56 #[.pointer (some ⟨b, 0, none⟩)] w fun e w' => e = .returned (.string ⟨l.toArray⟩) ∧ Below B w0 w' :=
  (Tryz.Builder_String_any B b l w h.1 h.2.2).mono fun _ _ ⟨he, hw⟩ => ⟨he, h.2.1.trans hw⟩
theorem wb_len {B b : Nat} {l : List UInt8} {w0 w : World} (h : BB B b l w0 w) :
    Calls Tryz.prog 54 #[.pointer (some ⟨b, 0, none⟩)] w fun e w' => e = .returned (.int .i64 (l.length : Int)) ∧ w = w' :=
  (Tryz.Builder_Len B b _ w h.1).mono fun _ _ ⟨he, hw⟩ => ⟨by rw [he, Lib.byteCells_length], hw.symm⟩

/-- the answer is a string -/
def StrTo (t : ByteArray) (w : World) (e : Ending) (w' : World) : Prop := e = .returned (.string t) ∧ Below w.heap.size w w'
/-- the answer is a string and a number -/
def StrIntTo (t : ByteArray) (k : Int) (w : World) (e : Ending) (w' : World) : Prop := e = .returned (.tuple #[.string t, .int .i64 k]) ∧ Below w.heap.size w w'

theorem int_wf {n : Int} (h : (Lit.int .i64 n).wf = true) : -9223372036854775808 ≤ n ∧ n ≤ 9223372036854775807 := by
  have h2 : (decide (IntKind.i64.min ≤ n) && decide (n ≤ IntKind.i64.max)) = true := h
  rw [show IntKind.i64.min = -9223372036854775808 by decide, show IntKind.i64.max = 9223372036854775807 by decide] at h2
  simpa using h2
end Go.Proofs.YtbeggameiedjgaaGreatDoor.S
/-
  StrMade: Join and Repeat, the program's and the document's own: walks.
-/
namespace Go.Proofs.YtbeggameiedjgaaGreatDoor.S
open Go.RowKit

theorem append_list (a b : ByteArray) : (a ++ b).data.toList = a.data.toList ++ b.data.toList := by simp
theorem append_size (a b : ByteArray) : (a ++ b).size = a.size + b.size := by simp

def joinE (a b : ByteArray) : Int := if a.size + b.size > 4096 then 20 else 0
def joinT (a b : ByteArray) : ByteArray := if a.size + b.size > 4096 then ⟨#[]⟩ else ⟨(a.data.toList ++ b.data.toList).toArray⟩

/-- a list of bytes so many times -/
def reps (l : List UInt8) : Nat → List UInt8
  | 0 => []
  | k + 1 => reps l k ++ l
theorem reps_len (l : List UInt8) (k : Nat) : (reps l k).length = k * l.length := by
  induction k with
  | zero => simp [reps]
  | succ k ih => rw [reps, List.length_append, ih, Nat.succ_mul]

def repE (s : ByteArray) (n : Int) : Int := if n < 0 then 2 else if s.size = 0 then 0 else if n.toNat * s.size > 4096 then 20 else 0
def repT (s : ByteArray) (n : Int) : ByteArray := if n < 0 then ⟨#[]⟩ else if s.size = 0 then ⟨#[]⟩ else if n.toNat * s.size > 4096 then ⟨#[]⟩ else ⟨(reps s.data.toList n.toNat).toArray⟩

theorem over_div (n m : Nat) (hm : 0 < m) : n * m > 4096 ↔ 4096 / m < n := by
  rw [Nat.div_lt_iff_lt_mul hm]
theorem quo_nat (m : Nat) : (4096 : Int) / (m : Int) = ((4096 / m : Nat) : Int) := by rw [Int.natCast_ediv]; rfl
theorem mul_nat (k m : Nat) (h : k * m ≤ 4096) : wrap64 ((k : Int) * (m : Int)) = ((k * m : Nat) : Int) := by
  rw [← Int.natCast_mul]; generalize k * m = p at *; unfold wrap64; omega

theorem below_size {B : Nat} {w w' : World} (h : Below B w w') : w.heap.size ≤ w'.heap.size := h.size
theorem below_up {w w1 w2 : World} (h1 : Below w.heap.size w w1) (h2 : Below w1.heap.size w1 w2) : Below w.heap.size w w2 := h1.trans (h2.mono (below_size h1))

end Go.Proofs.YtbeggameiedjgaaGreatDoor.S
/-
  Quote, the program's and the document's own: walks.
-/
namespace Go.Proofs.YtbeggameiedjgaaGreatDoor.S
open Go.RowKit

/-- a sixteen's byte -/
def hexN (n : Nat) : Nat := if n < 10 then 48 + n else 87 + n
theorem hexN_lt (n : Nat) (h : n < 16) : hexN n < 256 := by unfold hexN; split <;> omega
/-- what stands for a byte between quotes -/
def qb (c : UInt8) : List UInt8 :=
  if c.toNat = 34 ∨ c.toNat = 92 then [92, c] else if c.toNat = 10 then [92, 110] else if c.toNat = 9 then [92, 116] else if c.toNat = 13 then [92, 114]
  else if c.toNat < 32 ∨ 126 < c.toNat then [92, 120, (hexN (c.toNat / 16)).toUInt8, (hexN (c.toNat % 16)).toUInt8] else [c]
theorem qb_len (c : UInt8) : 1 ≤ (qb c).length ∧ (qb c).length ≤ 4 := by
  unfold qb; repeat' split
  all_goals simp
def quoteI (l : List UInt8) : List UInt8 := l.flatMap qb
def quoteL (l : List UInt8) : List UInt8 := 34 :: (quoteI l ++ [34])
theorem quoteI_snoc (l : List UInt8) (c : UInt8) : quoteI (l ++ [c]) = quoteI l ++ qb c := by simp [quoteI]
theorem quoteI_len (l : List UInt8) : (quoteI l).length ≤ 4 * l.length := by
  induction l with
  | nil => simp [quoteI]
  | cons c r ih =>
    have e : quoteI (c :: r) = qb c ++ quoteI r := by simp [quoteI]
    have := (qb_len c).2
    rw [e, List.length_append, List.length_cons]; omega

theorem toNat_of (n : Nat) (h : n < 256) : (n.toUInt8).toNat = n := by simp; omega

theorem wb_byteN {B b : Nat} {l : List UInt8} (n : Int) (h0 : 0 ≤ n ∧ n < 256) {w0 w : World} (h : BB B b l w0 w) (hl : l.length + 1 ≤ 140737488355328) :
    Calls Tryz.prog 145 #[.pointer (some ⟨b, 0, none⟩), .int .u8 n] w fun e w' => e = .returned .nilIface ∧ BB B b (l ++ [n.toNat.toUInt8]) w0 w' := by
  have := wb_byte n.toNat.toUInt8 h hl
  rw [toNat_of _ (by omega), Int.toNat_of_nonneg h0.1] at this
  exact this

theorem digit_any (n : Nat) (h : n < 16) (w : World) : Calls Tryz.prog 176 #[.int .u8 (n : Int)] w fun e w' => e = .returned (.int .u8 (hexN n : Int)) ∧ w = w' := by
  unfold hexN
  by_cases c : n < 10
  · rw [if_pos c]
    go_enter Tryz.func176, Tryz.ntmps176
    go_wp2
    go_ret
    refine ⟨ret_int ?_, rfl⟩
    first | done | omega | (simp; omega)
  · rw [if_neg c]
    go_enter Tryz.func176, Tryz.ntmps176
    go_wp2
    go_ret
    refine ⟨ret_int ?_, rfl⟩
    first | done | omega | (simp; omega)

theorem write_any (c : UInt8) {B b : Nat} {l : List UInt8} {w0 w : World} (h : BB B b l w0 w) (hl : l.length + 4 ≤ 140737488355328) :
    Calls Tryz.prog 146 #[.pointer (some ⟨b, 0, none⟩), .int .u8 (c.toNat : Int)] w fun e w' => e = .returned (.tuple #[]) ∧ BB B b (l ++ qb c) w0 w' := by
  have hc := c.toNat_lt
  unfold qb
  by_cases c1 : c.toNat = 34 ∨ c.toNat = 92
  · rw [if_pos c1]
    rcases c1 with c1 | c1
    · obtain rfl : c = 34 := UInt8.toNat_inj.1 c1
      go_enter Tryz.func146, Tryz.ntmps146
      go_wp2_with (first
        | (go_at_call 145; ((with_reducible refine (wb_byteN 92 (by omega) h (by omega)).mono ?_); rintro e w1 ⟨rfl, h1⟩))
        | (go_at_call 145; ((with_reducible refine (wb_byteN 34 (by omega) h1 (by simp; omega)).mono ?_); rintro e w2 ⟨rfl, h2⟩)))
      go_end0; refine ⟨rfl, ?_⟩; rw [List.append_assoc] at h2; exact h2
    · obtain rfl : c = 92 := UInt8.toNat_inj.1 c1
      go_enter Tryz.func146, Tryz.ntmps146
      go_wp2_with (first
        | (go_at_call 145; ((refine (wb_byteN 92 (by omega) h (by omega)).mono ?_); rintro e w1 ⟨rfl, h1⟩; have H := Lib.hid h; clear h))
        | (go_at_call 145; ((refine (wb_byteN 92 (by omega) h1 (by simp; omega)).mono ?_); rintro e w2 ⟨rfl, h2⟩)))
      go_end0; refine ⟨rfl, ?_⟩; rw [List.append_assoc] at h2; exact h2
  · rw [if_neg c1]
    obtain ⟨n1, n2⟩ := not_or.1 c1
    clear c1
    have i1 : ((c.toNat : Int) == 34) = false := beq_false_of_ne (by omega)
    have i2 : ((c.toNat : Int) == 92) = false := beq_false_of_ne (by omega)
    by_cases c2 : c.toNat = 10
    · rw [if_pos c2]
      go_enter Tryz.func146, Tryz.ntmps146
      go_wp2_with (go_at_call 55; refine (wb_str ⟨#[92, 110]⟩ h (by simp [ByteArray.size]; omega)).mono ?_; rintro e w1 ⟨rfl, h1⟩)
      go_end0
      exact ⟨rfl, h1⟩
    · rw [if_neg c2]
      by_cases c3 : c.toNat = 9
      · rw [if_pos c3]
        go_enter Tryz.func146, Tryz.ntmps146
        go_wp2_with (go_at_call 55; refine (wb_str ⟨#[92, 116]⟩ h (by simp [ByteArray.size]; omega)).mono ?_; rintro e w1 ⟨rfl, h1⟩)
        go_end0
        exact ⟨rfl, h1⟩
      · rw [if_neg c3]
        by_cases c4 : c.toNat = 13
        · rw [if_pos c4]
          go_enter Tryz.func146, Tryz.ntmps146
          go_wp2_with (go_at_call 55; refine (wb_str ⟨#[92, 114]⟩ h (by simp [ByteArray.size]; omega)).mono ?_; rintro e w1 ⟨rfl, h1⟩)
          go_end0
          exact ⟨rfl, h1⟩
        · rw [if_neg c4]
          by_cases c5 : c.toNat < 32 ∨ 126 < c.toNat
          · rw [if_pos c5]
            have hmask0 : bits .and .u8 (c.toNat : Int) 15 = ((c.toNat % 16 : Nat) : Int) := by
              have := bits_mask .u8 8 (by decide) (fun n a c => by rw [IntKind.wrap_u8]; omega) 4 (by decide) (c.toNat : Int) (by omega) (by omega)
              rw [Int.natCast_emod]; exact this
            have hq0 : ((c.toNat : Int) / 16) = ((c.toNat / 16 : Nat) : Int) := by rw [Int.natCast_ediv]; rfl
            have q1 : c.toNat / 16 < 16 := by omega
            have r1 : c.toNat % 16 < 16 := by omega
            generalize c.toNat / 16 = q at *
            generalize c.toNat % 16 = r at *
            have hd := hexN_lt q q1
            have hm := hexN_lt r r1
            have k1 := fun w => digit_any q q1 w
            have k2 := fun w => digit_any r r1 w
            generalize hexN q = x at *
            generalize hexN r = y at *
            have i3 : (decide ((c.toNat : Int) < 32) || decide (126 < (c.toNat : Int))) = true := by
              rw [Bool.or_eq_true, decide_eq_true_iff, decide_eq_true_iff]; omega
            clear c5
            go_enter Tryz.func146, Tryz.ntmps146
            go_wp2_with (first
              | (go_at_call 55; refine (wb_str ⟨#[92, 120]⟩ h (by simp [ByteArray.size]; omega)).mono ?_; rintro e w1 ⟨rfl, h1⟩)
              | (go_at_call 176; ((with_reducible refine (k1 _).mono ?_); rintro e w' ⟨rfl, rfl⟩))
              | (go_at_call 176; ((with_reducible refine (k2 _).mono ?_); rintro e w' ⟨rfl, rfl⟩))
              | (go_at_call 145; ((with_reducible refine (wb_byteN (x : Int) (by omega) h1 (by simp; omega)).mono ?_); rintro e w2 ⟨rfl, h2⟩))
              | (go_at_call 145; ((with_reducible refine (wb_byteN (y : Int) (by omega) h2 (by simp; omega)).mono ?_); rintro e w3 ⟨rfl, h3⟩)))
            all_goals (go_end0; refine ⟨rfl, ?_⟩; simp only [List.append_assoc] at h3; exact h3)
          · rw [if_neg c5]
            obtain ⟨n5, n6⟩ := not_or.1 c5
            clear c5
            have i3 : (decide ((c.toNat : Int) < 32) || decide (126 < (c.toNat : Int))) = false := by
              rw [Bool.or_eq_false_iff, decide_eq_false_iff_not, decide_eq_false_iff_not]; omega
            go_enter Tryz.func146, Tryz.ntmps146
            go_wp2_with (go_at_call 145; with_reducible refine (wb_byte c h (by omega)).mono ?_; rintro e w1 ⟨rfl, h1⟩)
            go_end0
            exact ⟨rfl, h1⟩

theorem list_take_snoc (s : ByteArray) (k : Nat) (h : k < s.size) : s.data.toList.take (k + 1) = s.data.toList.take k ++ [s[k]] := by
  rw [List.take_add_one, getElem_list s k h]; rfl
theorem quote_step (s : ByteArray) (k : Nat) (h : k < s.size) : quoteI (s.data.toList.take (k + 1)) = quoteI (s.data.toList.take k) ++ qb s[k] := by
  rw [list_take_snoc s k h, quoteI_snoc]
theorem quote_take_len (s : ByteArray) (k : Nat) (h : k ≤ s.size) : (quoteI (s.data.toList.take k)).length ≤ 4 * k := by
  refine Nat.le_trans (quoteI_len _) ?_
  rw [List.length_take, ← size_len]; omega

theorem Quote_any (s : ByteArray) (w : World) (hs : s.size ≤ 9000) : Calls Tryz.prog 114 #[.string s] w (StrTo ⟨(quoteL s.data.toList).toArray⟩ w) := by
  have h0 := fb_alloc w
  go_enter Tryz.func114, Tryz.ntmps114
  go_wp2_with (first
    | (go_at_call 144; refine (wb_grow _ (FB.drew h0) (by omega) (by omega)).mono ?_; rintro e w1 ⟨rfl, h1⟩)
    | (go_at_call 144; refine (wb_grow _ h0 (by omega) (by omega)).mono ?_; rintro e w1 ⟨rfl, h1⟩)
    | (go_at_call 145; refine (wb_byteN 34 (by omega) h1 (by simp)).mono ?_; rintro e w2 ⟨rfl, h2⟩))
  go_loopw [4] (fun i wr => ∃ k : Nat, k ≤ s.size ∧ i = .int .i64 k ∧ BB w.heap.size w.heap.size (34 :: quoteI (s.data.toList.take k)) w wr) (fun i _ => s.size - (intOf i).toNat)
  case atStart => exact ⟨0, Nat.zero_le _, rfl, h2⟩
  case round =>
    obtain ⟨k, hk, rfl, h3⟩ := hrel
    have hlen := quote_take_len s k hk
    by_cases hlt : k < s.size
    · have hst := Lib.hid (quote_step s k hlt)
      go_wp2_with (go_at_call 146; refine (write_any s[k] h3 (by rw [List.length_cons]; omega)).mono ?_; rintro e w3 ⟨rfl, h4⟩)
      go_roundw
      case rel => exact ⟨k + 1, hlt, by go_num, by rw [hst.out]; exact h4⟩
      case measure => simp [intOf]; omega
    · have he : s.data.toList.take k = s.data.toList := List.take_of_length_le (by rw [← size_len]; omega)
      rw [he] at h3 hlen
      go_wp2_with (first
        | (go_at_call 145; refine (wb_byteN 34 (by omega) h3 (by rw [List.length_cons]; omega)).mono ?_; rintro e w3 ⟨rfl, h4⟩)
        | (go_at_call 56; refine (wb_string h4).mono ?_; rintro e w4 ⟨rfl, h5⟩))
      go_ret
      exact ⟨rfl, h5⟩

/-- ### the document's own -/
theorem extract_list (s : ByteArray) (a b : Nat) : (s.extract a b).data.toList = (s.data.toList.drop a).take (b - a) := by
  rw [ByteArray.data_extract, Array.toList_extract, List.extract_eq_take_drop]
theorem extract_one (s : ByteArray) (k : Nat) (h : k < s.size) : (s.extract k (k + 1)).data.toList = [s[k]] := by
  rw [extract_list, Nat.add_sub_cancel_left]
  have h2 : k < s.data.toList.length := by rw [← size_len]; exact h
  rw [List.drop_eq_getElem_cons h2, List.take_succ_cons, List.take_zero]
  simp [ByteArray.getElem_eq_getElem_data]

def signT (n : Nat) : ByteArray := (⟨#[48, 49, 50, 51, 52, 53, 54, 55, 56, 57, 97, 98, 99, 100, 101, 102]⟩ : ByteArray).extract n (n + 1)
theorem signT_list (n : Nat) (h : n < 16) : (signT n).data.toList = [(hexN n).toUInt8] := by
  have : ∀ m : Fin 16, (signT m).data.toList = [(hexN m).toUInt8] := by decide
  exact this ⟨n, h⟩
theorem app2 (t : ByteArray) (l : List UInt8) (u : ByteArray) (m : List UInt8) (h : t.data.toList = l) (g : u.data.toList = m) : (t ++ u).data.toList = l ++ m := by rw [append_list, h, g]
theorem app3 (t : ByteArray) (l : List UInt8) (u v : ByteArray) (m n : List UInt8) (h : t.data.toList = l) (g : u.data.toList = m) (f : v.data.toList = n) : (t ++ u ++ v).data.toList = l ++ (m ++ n) := by rw [append_list, append_list, h, g, f, List.append_assoc]
theorem app4 (t : ByteArray) (l : List UInt8) (u v x : ByteArray) (m n o : List UInt8) (h : t.data.toList = l) (g : u.data.toList = m) (f : v.data.toList = n) (d : x.data.toList = o) : (t ++ u ++ v ++ x).data.toList = l ++ (m ++ n ++ o) := by rw [append_list, append_list, append_list, h, g, f, d]; simp only [List.append_assoc]

end Go.Proofs.YtbeggameiedjgaaGreatDoor.S
