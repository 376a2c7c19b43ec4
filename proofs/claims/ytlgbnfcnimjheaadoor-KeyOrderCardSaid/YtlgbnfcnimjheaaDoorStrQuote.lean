/-
  Quote, the program's and the document's own: walks.
-/
import Derived.Test.YtlgbnfcnimjheaaDoorStrMade
namespace Go.Proofs.YtlgbnfcnimjheaaDoor.S
open Go.RowKit

/-- a sixteen's byte -/
def hexN (n : Nat) : Nat := if n < 10 then 48 + n else 87 + n
theorem hexN_lt (n : Nat) (h : n < 16) : hexN n < 256 := by unfold hexN; split <;> omega
/-- what stands for a byte between quotes -/
def qb (c : UInt8) : List UInt8 :=
  if c.toNat = 34 ∨ c.toNat = 92 then [92, c] else if c.toNat = 10 then [92, 110] else if c.toNat = 9 then [92, 116] else if c.toNat = 13 then [92, 114]
  else if c.toNat < 32 ∨ 126 < c.toNat then [92, 120, (hexN (c.toNat / 16)).toUInt8, (hexN (c.toNat % 16)).toUInt8] else [c]
theorem qb_len (c : UInt8) : 1 ≤ (qb c).length ∧ (qb c).length ≤ 4 := by
  unfold qb; repeat' split
  all_goals simp
def quoteI (l : List UInt8) : List UInt8 := l.flatMap qb
def quoteL (l : List UInt8) : List UInt8 := 34 :: (quoteI l ++ [34])
theorem quoteI_snoc (l : List UInt8) (c : UInt8) : quoteI (l ++ [c]) = quoteI l ++ qb c := by simp [quoteI]
theorem quoteI_len (l : List UInt8) : (quoteI l).length ≤ 4 * l.length := by
  induction l with
  | nil => simp [quoteI]
  | cons c r ih =>
    have e : quoteI (c :: r) = qb c ++ quoteI r := by simp [quoteI]
    have := (qb_len c).2
    rw [e, List.length_append, List.length_cons]; omega

theorem toNat_of (n : Nat) (h : n < 256) : (n.toUInt8).toNat = n := by simp; omega

theorem wb_byteN {B b : Nat} {l : List UInt8} (n : Int) (h0 : 0 ≤ n ∧ n < 256) {w0 w : World} (h : BB B b l w0 w) (hl : l.length + 1 ≤ 140737488355328) :
    Calls Tryd.prog 77 #[.pointer (some ⟨b, 0, none⟩), .int .u8 n] w fun e w' => e = .returned .nilIface ∧ BB B b (l ++ [n.toNat.toUInt8]) w0 w' := by
  have := wb_byte n.toNat.toUInt8 h hl
  rw [toNat_of _ (by omega), Int.toNat_of_nonneg h0.1] at this
  exact this

theorem digit_any (n : Nat) (h : n < 16) (w : World) : Calls Tryd.prog 89 #[.int .u8 (n : Int)] w fun e w' => e = .returned (.int .u8 (hexN n : Int)) ∧ w = w' := by
  unfold hexN
  by_cases c : n < 10
  · rw [if_pos c]
    go_enter Tryd.func89, Tryd.ntmps89
    go_wp2
    go_ret
    refine ⟨ret_int ?_, rfl⟩
    first | done | omega | (simp; omega)
  · rw [if_neg c]
    go_enter Tryd.func89, Tryd.ntmps89
    go_wp2
    go_ret
    refine ⟨ret_int ?_, rfl⟩
    first | done | omega | (simp; omega)

theorem write_any (c : UInt8) {B b : Nat} {l : List UInt8} {w0 w : World} (h : BB B b l w0 w) (hl : l.length + 4 ≤ 140737488355328) :
    Calls Tryd.prog 78 #[.pointer (some ⟨b, 0, none⟩), .int .u8 (c.toNat : Int)] w fun e w' => e = .returned (.tuple #[]) ∧ BB B b (l ++ qb c) w0 w' := by
  have hc := c.toNat_lt
  unfold qb
  by_cases c1 : c.toNat = 34 ∨ c.toNat = 92
  · rw [if_pos c1]
    rcases c1 with c1 | c1
    · obtain rfl : c = 34 := UInt8.toNat_inj.1 c1
      go_enter Tryd.func78, Tryd.ntmps78
      go_wp2_with (first
        | (go_at_call 77; ((with_reducible refine (wb_byteN 92 (by omega) h (by omega)).mono ?_); rintro e w1 ⟨rfl, h1⟩))
        | (go_at_call 77; ((with_reducible refine (wb_byteN 34 (by omega) h1 (by simp; omega)).mono ?_); rintro e w2 ⟨rfl, h2⟩)))
      go_end0; refine ⟨rfl, ?_⟩; rw [List.append_assoc] at h2; exact h2
    · obtain rfl : c = 92 := UInt8.toNat_inj.1 c1
      go_enter Tryd.func78, Tryd.ntmps78
      go_wp2_with (first
        | (go_at_call 77; ((refine (wb_byteN 92 (by omega) h (by omega)).mono ?_); rintro e w1 ⟨rfl, h1⟩; have H := Lib.hid h; clear h))
        | (go_at_call 77; ((refine (wb_byteN 92 (by omega) h1 (by simp; omega)).mono ?_); rintro e w2 ⟨rfl, h2⟩)))
      go_end0; refine ⟨rfl, ?_⟩; rw [List.append_assoc] at h2; exact h2
  · rw [if_neg c1]
    obtain ⟨n1, n2⟩ := not_or.1 c1
    clear c1
    have i1 : ((c.toNat : Int) == 34) = false := beq_false_of_ne (by omega)
    have i2 : ((c.toNat : Int) == 92) = false := beq_false_of_ne (by omega)
    by_cases c2 : c.toNat = 10
    · rw [if_pos c2]
      go_enter Tryd.func78, Tryd.ntmps78
      go_wp2_with (go_at_call 54; refine (wb_str ⟨#[92, 110]⟩ h (by simp [ByteArray.size]; omega)).mono ?_; rintro e w1 ⟨rfl, h1⟩)
      go_end0
      exact ⟨rfl, h1⟩
    · rw [if_neg c2]
      by_cases c3 : c.toNat = 9
      · rw [if_pos c3]
        go_enter Tryd.func78, Tryd.ntmps78
        go_wp2_with (go_at_call 54; refine (wb_str ⟨#[92, 116]⟩ h (by simp [ByteArray.size]; omega)).mono ?_; rintro e w1 ⟨rfl, h1⟩)
        go_end0
        exact ⟨rfl, h1⟩
      · rw [if_neg c3]
        by_cases c4 : c.toNat = 13
        · rw [if_pos c4]
          go_enter Tryd.func78, Tryd.ntmps78
          go_wp2_with (go_at_call 54; refine (wb_str ⟨#[92, 114]⟩ h (by simp [ByteArray.size]; omega)).mono ?_; rintro e w1 ⟨rfl, h1⟩)
          go_end0
          exact ⟨rfl, h1⟩
        · rw [if_neg c4]
          by_cases c5 : c.toNat < 32 ∨ 126 < c.toNat
          · rw [if_pos c5]
            have hmask0 : bits .and .u8 (c.toNat : Int) 15 = ((c.toNat % 16 : Nat) : Int) := by
              have := bits_mask .u8 8 (by decide) (fun n a c => by rw [IntKind.wrap_u8]; omega) 4 (by decide) (c.toNat : Int) (by omega) (by omega)
              rw [Int.natCast_emod]; exact this
            have hq0 : ((c.toNat : Int) / 16) = ((c.toNat / 16 : Nat) : Int) := by rw [Int.natCast_ediv]; rfl
            have q1 : c.toNat / 16 < 16 := by omega
            have r1 : c.toNat % 16 < 16 := by omega
            generalize c.toNat / 16 = q at *
            generalize c.toNat % 16 = r at *
            have hd := hexN_lt q q1
            have hm := hexN_lt r r1
            have k1 := fun w => digit_any q q1 w
            have k2 := fun w => digit_any r r1 w
            generalize hexN q = x at *
            generalize hexN r = y at *
            have i3 : (decide ((c.toNat : Int) < 32) || decide (126 < (c.toNat : Int))) = true := by
              rw [Bool.or_eq_true, decide_eq_true_iff, decide_eq_true_iff]; omega
            clear c5
            go_enter Tryd.func78, Tryd.ntmps78
            go_wp2_with (first
              | (go_at_call 54; refine (wb_str ⟨#[92, 120]⟩ h (by simp [ByteArray.size]; omega)).mono ?_; rintro e w1 ⟨rfl, h1⟩)
              | (go_at_call 89; ((with_reducible refine (k1 _).mono ?_); rintro e w' ⟨rfl, rfl⟩))
              | (go_at_call 89; ((with_reducible refine (k2 _).mono ?_); rintro e w' ⟨rfl, rfl⟩))
              | (go_at_call 77; ((with_reducible refine (wb_byteN (x : Int) (by omega) h1 (by simp; omega)).mono ?_); rintro e w2 ⟨rfl, h2⟩))
              | (go_at_call 77; ((with_reducible refine (wb_byteN (y : Int) (by omega) h2 (by simp; omega)).mono ?_); rintro e w3 ⟨rfl, h3⟩)))
            all_goals (go_end0; refine ⟨rfl, ?_⟩; simp only [List.append_assoc] at h3; exact h3)
          · rw [if_neg c5]
            obtain ⟨n5, n6⟩ := not_or.1 c5
            clear c5
            have i3 : (decide ((c.toNat : Int) < 32) || decide (126 < (c.toNat : Int))) = false := by
              rw [Bool.or_eq_false_iff, decide_eq_false_iff_not, decide_eq_false_iff_not]; omega
            go_enter Tryd.func78, Tryd.ntmps78
            go_wp2_with (go_at_call 77; with_reducible refine (wb_byte c h (by omega)).mono ?_; rintro e w1 ⟨rfl, h1⟩)
            go_end0
            exact ⟨rfl, h1⟩

theorem list_take_snoc (s : ByteArray) (k : Nat) (h : k < s.size) : s.data.toList.take (k + 1) = s.data.toList.take k ++ [s[k]] := by
  rw [List.take_add_one, getElem_list s k h]; rfl
theorem quote_step (s : ByteArray) (k : Nat) (h : k < s.size) : quoteI (s.data.toList.take (k + 1)) = quoteI (s.data.toList.take k) ++ qb s[k] := by
  rw [list_take_snoc s k h, quoteI_snoc]
theorem quote_take_len (s : ByteArray) (k : Nat) (h : k ≤ s.size) : (quoteI (s.data.toList.take k)).length ≤ 4 * k := by
  refine Nat.le_trans (quoteI_len _) ?_
  rw [List.length_take, ← size_len]; omega

theorem Quote_any (s : ByteArray) (w : World) (hs : s.size ≤ 9000) : Calls Tryd.prog 51 #[.string s] w (StrTo ⟨(quoteL s.data.toList).toArray⟩ w) := by
  have h0 := fb_alloc w
  go_enter Tryd.func51, Tryd.ntmps51
  go_wp2_with (first
    | (go_at_call 53; refine (wb_grow _ (FB.drew h0) (by omega) (by omega)).mono ?_; rintro e w1 ⟨rfl, h1⟩)
    | (go_at_call 53; refine (wb_grow _ h0 (by omega) (by omega)).mono ?_; rintro e w1 ⟨rfl, h1⟩)
    | (go_at_call 77; refine (wb_byteN 34 (by omega) h1 (by simp)).mono ?_; rintro e w2 ⟨rfl, h2⟩))
  go_loopw [4] (fun i wr => ∃ k : Nat, k ≤ s.size ∧ i = .int .i64 k ∧ BB w.heap.size w.heap.size (34 :: quoteI (s.data.toList.take k)) w wr) (fun i _ => s.size - (intOf i).toNat)
  case atStart => exact ⟨0, Nat.zero_le _, rfl, h2⟩
  case round =>
    obtain ⟨k, hk, rfl, h3⟩ := hrel
    have hlen := quote_take_len s k hk
    by_cases hlt : k < s.size
    · have hst := Lib.hid (quote_step s k hlt)
      go_wp2_with (go_at_call 78; refine (write_any s[k] h3 (by rw [List.length_cons]; omega)).mono ?_; rintro e w3 ⟨rfl, h4⟩)
      go_roundw
      case rel => exact ⟨k + 1, hlt, by go_num, by rw [hst.out]; exact h4⟩
      case measure => simp [intOf]; omega
    · have he : s.data.toList.take k = s.data.toList := List.take_of_length_le (by rw [← size_len]; omega)
      rw [he] at h3 hlen
      go_wp2_with (first
        | (go_at_call 77; refine (wb_byteN 34 (by omega) h3 (by rw [List.length_cons]; omega)).mono ?_; rintro e w3 ⟨rfl, h4⟩)
        | (go_at_call 55; refine (wb_string h4).mono ?_; rintro e w4 ⟨rfl, h5⟩))
      go_ret
      exact ⟨rfl, h5⟩

/-- ### the document's own -/
theorem extract_list (s : ByteArray) (a b : Nat) : (s.extract a b).data.toList = (s.data.toList.drop a).take (b - a) := by
  rw [ByteArray.data_extract, Array.toList_extract, List.extract_eq_take_drop]
theorem extract_one (s : ByteArray) (k : Nat) (h : k < s.size) : (s.extract k (k + 1)).data.toList = [s[k]] := by
  rw [extract_list, Nat.add_sub_cancel_left]
  have h2 : k < s.data.toList.length := by rw [← size_len]; exact h
  rw [List.drop_eq_getElem_cons h2, List.take_succ_cons, List.take_zero]
  simp [ByteArray.getElem_eq_getElem_data]

def signT (n : Nat) : ByteArray := (⟨#[48, 49, 50, 51, 52, 53, 54, 55, 56, 57, 97, 98, 99, 100, 101, 102]⟩ : ByteArray).extract n (n + 1)
theorem signT_list (n : Nat) (h : n < 16) : (signT n).data.toList = [(hexN n).toUInt8] := by
  have : ∀ m : Fin 16, (signT m).data.toList = [(hexN m).toUInt8] := by decide
  exact this ⟨n, h⟩
theorem app2 (t : ByteArray) (l : List UInt8) (u : ByteArray) (m : List UInt8) (h : t.data.toList = l) (g : u.data.toList = m) : (t ++ u).data.toList = l ++ m := by rw [append_list, h, g]
theorem app3 (t : ByteArray) (l : List UInt8) (u v : ByteArray) (m n : List UInt8) (h : t.data.toList = l) (g : u.data.toList = m) (f : v.data.toList = n) : (t ++ u ++ v).data.toList = l ++ (m ++ n) := by rw [append_list, append_list, h, g, f, List.append_assoc]
theorem app4 (t : ByteArray) (l : List UInt8) (u v x : ByteArray) (m n o : List UInt8) (h : t.data.toList = l) (g : u.data.toList = m) (f : v.data.toList = n) (d : x.data.toList = o) : (t ++ u ++ v ++ x).data.toList = l ++ (m ++ n ++ o) := by rw [append_list, append_list, append_list, h, g, f, d]; simp only [List.append_assoc]

end Go.Proofs.YtlgbnfcnimjheaaDoor.S
