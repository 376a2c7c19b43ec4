/-
  Quote, the program's and the document's own: walks.
-/
import Derived.Test.YthnkllhfmjbbmaaGreatDoorHM13
import Derived.Deep.RegionHeld3
import Derived.Deep.QuietTactic
import Derived.BigQuiet
namespace Go.Proofs.YthnkllhfmjbbmaaGreatDoor.S
open Go.RowKit

/-- a sixteen's byte -/
def hexN (n : Nat) : Nat := if n < 10 then 48 + n else 87 + n
theorem hexN_lt (n : Nat) (h : n < 16) : hexN n < 256 := by unfold hexN; split <;> omega
/-- what stands for a byte between quotes -/
def qb (c : UInt8) : List UInt8 :=
  if c.toNat = 34 ∨ c.toNat = 92 then [92, c] else if c.toNat = 10 then [92, 110] else if c.toNat = 9 then [92, 116] else if c.toNat = 13 then [92, 114]
  else if c.toNat < 32 ∨ 126 < c.toNat then [92, 120, (hexN (c.toNat / 16)).toUInt8, (hexN (c.toNat % 16)).toUInt8] else [c]
theorem qb_len (c : UInt8) : 1 ≤ (qb c).length ∧ (qb c).length ≤ 4 := by
  unfold qb; repeat' split
  all_goals simp
def quoteI (l : List UInt8) : List UInt8 := l.flatMap qb
def quoteL (l : List UInt8) : List UInt8 := 34 :: (quoteI l ++ [34])
theorem quoteI_snoc (l : List UInt8) (c : UInt8) : quoteI (l ++ [c]) = quoteI l ++ qb c := by simp [quoteI]
theorem quoteI_len (l : List UInt8) : (quoteI l).length ≤ 4 * l.length := by
  induction l with
  | nil => simp [quoteI]
  | cons c r ih =>
    have e : quoteI (c :: r) = qb c ++ quoteI r := by simp [quoteI]
    have := (qb_len c).2
    rw [e, List.length_append, List.length_cons]; omega

theorem toNat_of (n : Nat) (h : n < 256) : (n.toUInt8).toNat = n := by simp; omega

theorem wb_byteN {B b : Nat} {l : List UInt8} (n : Int) (h0 : 0 ≤ n ∧ n < 256) {w0 w : World} (h : BB B b l w0 w) (hl : l.length + 1 ≤ 140737488355328) :
    Calls Tryz.prog 173 #[.pointer (some ⟨b, 0, none⟩), .int .u8 n] w fun e w' => e = .returned .nilIface ∧ BB B b (l ++ [n.toNat.toUInt8]) w0 w' := by
  have := wb_byte n.toNat.toUInt8 h hl
  rw [toNat_of _ (by omega), Int.toNat_of_nonneg h0.1] at this
  exact this

theorem digit_any (n : Nat) (h : n < 16) (w : World) : Calls Tryz.prog 193 #[.int .u8 (n : Int)] w fun e w' => e = .returned (.int .u8 (hexN n : Int)) ∧ w = w' := by
  unfold hexN
  by_cases c : n < 10
  · rw [if_pos c]
    go_enter Tryz.func193, Tryz.ntmps193
    go_wp2
    go_ret
    refine ⟨ret_int ?_, rfl⟩
    first | done | omega | (simp; omega)
  · rw [if_neg c]
    go_enter Tryz.func193, Tryz.ntmps193
    go_wp2
    go_ret
    refine ⟨ret_int ?_, rfl⟩
    first | done | omega | (simp; omega)

theorem write_any (c : UInt8) {B b : Nat} {l : List UInt8} {w0 w : World} (h : BB B b l w0 w) (hl : l.length + 4 ≤ 140737488355328) :
    Calls Tryz.prog 174 #[.pointer (some ⟨b, 0, none⟩), .int .u8 (c.toNat : Int)] w fun e w' => e = .returned (.tuple #[]) ∧ BB B b (l ++ qb c) w0 w' := by
  have hc := c.toNat_lt
  unfold qb
  by_cases c1 : c.toNat = 34 ∨ c.toNat = 92
  · rw [if_pos c1]
    rcases c1 with c1 | c1
    · obtain rfl : c = 34 := UInt8.toNat_inj.1 c1
      go_enter Tryz.func174, Tryz.ntmps174
      go_wp2_with (first
        | (go_at_call 173; ((with_reducible refine (wb_byteN 92 (by omega) h (by omega)).mono ?_); rintro e w1 ⟨rfl, h1⟩))
        | (go_at_call 173; ((with_reducible refine (wb_byteN 34 (by omega) h1 (by simp; omega)).mono ?_); rintro e w2 ⟨rfl, h2⟩)))
      go_end0; refine ⟨rfl, ?_⟩; rw [List.append_assoc] at h2; exact h2
    · obtain rfl : c = 92 := UInt8.toNat_inj.1 c1
      go_enter Tryz.func174, Tryz.ntmps174
      go_wp2_with (first
        | (go_at_call 173; ((refine (wb_byteN 92 (by omega) h (by omega)).mono ?_); rintro e w1 ⟨rfl, h1⟩; have H := Lib.hid h; clear h))
        | (go_at_call 173; ((refine (wb_byteN 92 (by omega) h1 (by simp; omega)).mono ?_); rintro e w2 ⟨rfl, h2⟩)))
      go_end0; refine ⟨rfl, ?_⟩; rw [List.append_assoc] at h2; exact h2
  · rw [if_neg c1]
    obtain ⟨n1, n2⟩ := not_or.1 c1
    clear c1
    have i1 : ((c.toNat : Int) == 34) = false := beq_false_of_ne (by omega)
    have i2 : ((c.toNat : Int) == 92) = false := beq_false_of_ne (by omega)
    by_cases c2 : c.toNat = 10
    · rw [if_pos c2]
      go_enter Tryz.func174, Tryz.ntmps174
      go_wp2_with (go_at_call 53; refine (wb_str ⟨#[92, 110]⟩ h (by simp [ByteArray.size]; omega)).mono ?_; rintro e w1 ⟨rfl, h1⟩)
      go_end0
      exact ⟨rfl, h1⟩
    · rw [if_neg c2]
      by_cases c3 : c.toNat = 9
      · rw [if_pos c3]
        go_enter Tryz.func174, Tryz.ntmps174
        go_wp2_with (go_at_call 53; refine (wb_str ⟨#[92, 116]⟩ h (by simp [ByteArray.size]; omega)).mono ?_; rintro e w1 ⟨rfl, h1⟩)
        go_end0
        exact ⟨rfl, h1⟩
      · rw [if_neg c3]
        by_cases c4 : c.toNat = 13
        · rw [if_pos c4]
          go_enter Tryz.func174, Tryz.ntmps174
          go_wp2_with (go_at_call 53; refine (wb_str ⟨#[92, 114]⟩ h (by simp [ByteArray.size]; omega)).mono ?_; rintro e w1 ⟨rfl, h1⟩)
          go_end0
          exact ⟨rfl, h1⟩
        · rw [if_neg c4]
          by_cases c5 : c.toNat < 32 ∨ 126 < c.toNat
          · rw [if_pos c5]
            have hmask0 : bits .and .u8 (c.toNat : Int) 15 = ((c.toNat % 16 : Nat) : Int) := by
              have := bits_mask .u8 8 (by decide) (fun n a c => by rw [IntKind.wrap_u8]; omega) 4 (by decide) (c.toNat : Int) (by omega) (by omega)
              rw [Int.natCast_emod]; exact this
            have hq0 : ((c.toNat : Int) / 16) = ((c.toNat / 16 : Nat) : Int) := by rw [Int.natCast_ediv]; rfl
            have q1 : c.toNat / 16 < 16 := by omega
            have r1 : c.toNat % 16 < 16 := by omega
            generalize c.toNat / 16 = q at *
            generalize c.toNat % 16 = r at *
            have hd := hexN_lt q q1
            have hm := hexN_lt r r1
            have k1 := fun w => digit_any q q1 w
            have k2 := fun w => digit_any r r1 w
            generalize hexN q = x at *
            generalize hexN r = y at *
            have i3 : (decide ((c.toNat : Int) < 32) || decide (126 < (c.toNat : Int))) = true := by
              rw [Bool.or_eq_true, decide_eq_true_iff, decide_eq_true_iff]; omega
            clear c5
            go_enter Tryz.func174, Tryz.ntmps174
            go_wp2_with (first
              | (go_at_call 53; refine (wb_str ⟨#[92, 120]⟩ h (by simp [ByteArray.size]; omega)).mono ?_; rintro e w1 ⟨rfl, h1⟩)
              | (go_at_call 193; ((with_reducible refine (k1 _).mono ?_); rintro e w' ⟨rfl, rfl⟩))
              | (go_at_call 193; ((with_reducible refine (k2 _).mono ?_); rintro e w' ⟨rfl, rfl⟩))
              | (go_at_call 173; ((with_reducible refine (wb_byteN (x : Int) (by omega) h1 (by simp; omega)).mono ?_); rintro e w2 ⟨rfl, h2⟩))
              | (go_at_call 173; ((with_reducible refine (wb_byteN (y : Int) (by omega) h2 (by simp; omega)).mono ?_); rintro e w3 ⟨rfl, h3⟩)))
            all_goals (go_end0; refine ⟨rfl, ?_⟩; simp only [List.append_assoc] at h3; exact h3)
          · rw [if_neg c5]
            obtain ⟨n5, n6⟩ := not_or.1 c5
            clear c5
            have i3 : (decide ((c.toNat : Int) < 32) || decide (126 < (c.toNat : Int))) = false := by
              rw [Bool.or_eq_false_iff, decide_eq_false_iff_not, decide_eq_false_iff_not]; omega
            go_enter Tryz.func174, Tryz.ntmps174
            go_wp2_with (go_at_call 173; with_reducible refine (wb_byte c h (by omega)).mono ?_; rintro e w1 ⟨rfl, h1⟩)
            go_end0
            exact ⟨rfl, h1⟩

theorem list_take_snoc (s : ByteArray) (k : Nat) (h : k < s.size) : s.data.toList.take (k + 1) = s.data.toList.take k ++ [s[k]] := by
  rw [List.take_add_one, getElem_list s k h]; rfl
theorem quote_step (s : ByteArray) (k : Nat) (h : k < s.size) : quoteI (s.data.toList.take (k + 1)) = quoteI (s.data.toList.take k) ++ qb s[k] := by
  rw [list_take_snoc s k h, quoteI_snoc]
theorem quote_take_len (s : ByteArray) (k : Nat) (h : k ≤ s.size) : (quoteI (s.data.toList.take k)).length ≤ 4 * k := by
  refine Nat.le_trans (quoteI_len _) ?_
  rw [List.length_take, ← size_len]; omega

theorem Quote_any (s : ByteArray) (w : World) (hs : s.size ≤ 9000) : Calls Tryz.prog 141 #[.string s] w (StrTo ⟨(quoteL s.data.toList).toArray⟩ w) := by
  have h0 := fb_alloc w
  go_enter Tryz.func141, Tryz.ntmps141
  go_wp2_with (first
    | (go_at_call 172; refine (wb_grow _ (FB.drew h0) (by omega) (by omega)).mono ?_; rintro e w1 ⟨rfl, h1⟩)
    | (go_at_call 172; refine (wb_grow _ h0 (by omega) (by omega)).mono ?_; rintro e w1 ⟨rfl, h1⟩)
    | (go_at_call 173; refine (wb_byteN 34 (by omega) h1 (by simp)).mono ?_; rintro e w2 ⟨rfl, h2⟩))
  go_loopw [4] (fun i wr => ∃ k : Nat, k ≤ s.size ∧ i = .int .i64 k ∧ BB w.heap.size w.heap.size (34 :: quoteI (s.data.toList.take k)) w wr) (fun i _ => s.size - (intOf i).toNat)
  case atStart => exact ⟨0, Nat.zero_le _, rfl, h2⟩
  case round =>
    obtain ⟨k, hk, rfl, h3⟩ := hrel
    have hlen := quote_take_len s k hk
    by_cases hlt : k < s.size
    · have hst := Lib.hid (quote_step s k hlt)
      go_wp2_with (go_at_call 174; refine (write_any s[k] h3 (by rw [List.length_cons]; omega)).mono ?_; rintro e w3 ⟨rfl, h4⟩)
      go_roundw
      case rel => exact ⟨k + 1, hlt, by go_num, by rw [hst.out]; exact h4⟩
      case measure => simp [intOf]; omega
    · have he : s.data.toList.take k = s.data.toList := List.take_of_length_le (by rw [← size_len]; omega)
      rw [he] at h3 hlen
      go_wp2_with (first
        | (go_at_call 173; refine (wb_byteN 34 (by omega) h3 (by rw [List.length_cons]; omega)).mono ?_; rintro e w3 ⟨rfl, h4⟩)
        | (go_at_call 54; refine (wb_string h4).mono ?_; rintro e w4 ⟨rfl, h5⟩))
      go_ret
      exact ⟨rfl, h5⟩

/-- ### the document's own -/
theorem extract_list (s : ByteArray) (a b : Nat) : (s.extract a b).data.toList = (s.data.toList.drop a).take (b - a) := by
  rw [ByteArray.data_extract, Array.toList_extract, List.extract_eq_take_drop]
theorem extract_one (s : ByteArray) (k : Nat) (h : k < s.size) : (s.extract k (k + 1)).data.toList = [s[k]] := by
  rw [extract_list, Nat.add_sub_cancel_left]
  have h2 : k < s.data.toList.length := by rw [← size_len]; exact h
  rw [List.drop_eq_getElem_cons h2, List.take_succ_cons, List.take_zero]
  simp [ByteArray.getElem_eq_getElem_data]

def signT (n : Nat) : ByteArray := (⟨#[48, 49, 50, 51, 52, 53, 54, 55, 56, 57, 97, 98, 99, 100, 101, 102]⟩ : ByteArray).extract n (n + 1)
theorem signT_list (n : Nat) (h : n < 16) : (signT n).data.toList = [(hexN n).toUInt8] := by
  have : ∀ m : Fin 16, (signT m).data.toList = [(hexN m).toUInt8] := by decide
  exact this ⟨n, h⟩
theorem app2 (t : ByteArray) (l : List UInt8) (u : ByteArray) (m : List UInt8) (h : t.data.toList = l) (g : u.data.toList = m) : (t ++ u).data.toList = l ++ m := by rw [append_list, h, g]
theorem app3 (t : ByteArray) (l : List UInt8) (u v : ByteArray) (m n : List UInt8) (h : t.data.toList = l) (g : u.data.toList = m) (f : v.data.toList = n) : (t ++ u ++ v).data.toList = l ++ (m ++ n) := by rw [append_list, append_list, h, g, f, List.append_assoc]
theorem app4 (t : ByteArray) (l : List UInt8) (u v x : ByteArray) (m n o : List UInt8) (h : t.data.toList = l) (g : u.data.toList = m) (f : v.data.toList = n) (d : x.data.toList = o) : (t ++ u ++ v ++ x).data.toList = l ++ (m ++ n ++ o) := by rw [append_list, append_list, append_list, h, g, f, d]; simp only [List.append_assoc]

end Go.Proofs.YthnkllhfmjbbmaaGreatDoor.S
/-
  Keys: the order is one; key.Sym, key.Text; the law's alive.
-/
namespace Go.Proofs.YthnkllhfmjbbmaaGreatDoor.S
open Go.RowKit Fl

theorem ord_mem {L M : List Ky} (h : OrdOf L M) (k : Ky) : k ∈ M ↔ k ∈ L := by
  have := h.fil (rkKy k)
  have e1 : k ∈ M ↔ k ∈ M.filter (fun x => rkKy x == rkKy k) := by simp
  have e2 : k ∈ L ↔ k ∈ L.filter (fun x => rkKy x == rkKy k) := by simp
  rw [e1, e2, this]
/-- two lists in order that have the same keys of each rank, in the same order, are one -/
theorem ord_unique : ∀ {M M' : List Ky}, M.Pairwise (fun a b => rkKy a ≤ rkKy b) → M'.Pairwise (fun a b => rkKy a ≤ rkKy b) → (∀ r, M.filter (fun k => rkKy k == r) = M'.filter (fun k => rkKy k == r)) → M = M'
  | [], M', _, _, h => by
    cases M' with
    | nil => rfl
    | cons y ys =>
      have := h (rkKy y)
      simp at this
  | x :: xs, [], _, _, h => by
    have := h (rkKy x)
    simp at this
  | x :: xs, y :: ys, h1, h2, h => by
    rw [List.pairwise_cons] at h1 h2
    have hxy : rkKy x = rkKy y := by
      have a1 : x ∈ (y :: ys) := by
        have : x ∈ (y :: ys).filter (fun k => rkKy k == rkKy x) := by rw [← h]; simp
        exact (List.mem_filter.1 this).1
      have a2 : y ∈ (x :: xs) := by
        have : y ∈ (x :: xs).filter (fun k => rkKy k == rkKy y) := by rw [h]; simp
        exact (List.mem_filter.1 this).1
      have b1 : rkKy y ≤ rkKy x := by
        rcases List.mem_cons.1 a1 with e | e
        · rw [e]; exact Nat.le_refl _
        · exact h2.1 x e
      have b2 : rkKy x ≤ rkKy y := by
        rcases List.mem_cons.1 a2 with e | e
        · rw [e]; exact Nat.le_refl _
        · exact h1.1 y e
      omega
    have hh := h (rkKy x)
    rw [List.filter_cons_of_pos (by simp), List.filter_cons_of_pos (by simp [hxy])] at hh
    injection hh with e1 e2
    subst e1
    have := ord_unique h1.2 h2.2 fun r => by
      by_cases c : rkKy x = r
      · subst c; exact e2
      · have := h r
        rw [List.filter_cons_of_neg (by simp [c]), List.filter_cons_of_neg (by simp [c])] at this
        exact this
    rw [this]
theorem ord_eq {L M M' : List Ky} (h : OrdOf L M) (h' : OrdOf L M') : M = M' := ord_unique h.sorted h'.sorted fun r => (h.fil r).trans (h'.fil r).symm
def kA : Ky := ⟨⟨#[97]⟩, 0⟩
def k3 : Ky := ⟨⟨#[51]⟩, 0⟩
theorem in_A3 : ∀ k ∈ [kA, k3], KyIn k := by
  intro k hk
  simp at hk
  rcases hk with rfl | rfl
  · exact ⟨by decide, by decide, by decide⟩
  · exact ⟨by decide, by decide, by decide⟩
theorem rk_A : rkKy kA = 1024 := by kernel_rfl
theorem rk_3 : rkKy k3 = 3 := by kernel_rfl
theorem ord_A3 : OrdOf [kA, k3] [k3, kA] := by
  refine ⟨?_, fun r => ?_, rfl⟩
  · simp [rk_A, rk_3]
  · simp only [List.filter_cons, List.filter_nil, rk_A, rk_3]
    by_cases c : 3 = r
    · subst c; rfl
    · by_cases d : 1024 = r
      · subst d; rfl
      · simp [c, d]

/-- a key's text -/
def symText (n : Int) : ByteArray := (⟨#[115, 121, 109, 98, 111, 108, 32]⟩ : ByteArray) ++ ⟨(Lib.itoa n).toArray⟩
set_option maxHeartbeats 1000000 in
theorem TextSym_k (s : ByteArray) (y : Int) (h0 : 0 < y) (h1 : y < 9223372036854775808) (w : World) (htab : TabHere w) : Calls Tryz.prog 84 #[.agg #[.string s, .int .i64 y]] w fun e w' => e = .returned (.string (symText (y - 1))) ∧ Below w.heap.size w w' := by
  have hI := fun w ht => Itoa_k (y - 1) (by omega) (by omega) w ht
  have hS := fun w => keysymbol_k s y w
  have hd : decide (0 < y) = true := by simp; exact h0
  rw [hd] at hS
  have HTAB := Lib.hid htab
  unfold symText
  have hlen : (⟨(Lib.itoa (y - 1)).toArray⟩ : ByteArray).size ≤ 21 := by
    have := Lib.itoa_length_le (y - 1) (by omega) (by omega)
    show (Lib.itoa (y - 1)).toArray.size ≤ 21
    simpa using this
  generalize (⟨(Lib.itoa (y - 1)).toArray⟩ : ByteArray) = t at *
  clear htab hd
  go_enter Tryz.func84, Tryz.ntmps84
  go_wp2_with (first
    | (go_at_call 140; refine (hS _).mono ?_; rintro e w1 ⟨rfl, h2⟩; have hb1 := vblk1 h2; have hz1 := vlt1 h2; obtain ⟨hc0, hc1, hfr⟩ := kc2 hb1; clear hb1; have H1 := Lib.hid (vafter h2); clear h2)
    | (go_at_call 82; refine (hI _ (HTAB.out _ H1.out)).mono ?_; rintro e w2 ⟨rfl, h2⟩; have H2 := Lib.hid (vb H1.out h2); clear h2))
  go_ret
  exact ⟨rfl, H2.out⟩

/-- keys in a block of their own -/
theorem rk_blk {w : World} {O : Nat} {M : List Ky} (h : w.heap[O]? = some (.cells (kyCells M).toArray 63 (0, 0))) : RK w (some ⟨O, 0, none⟩) M := fun hp => by
  have hadd : ∀ k, (⟨O, 0, none⟩ : Addr).add k = ⟨O, k, none⟩ := fun k => by unfold Addr.add; split <;> simp_all
  refine ⟨⟨O, 0, none⟩, rfl, lt_blk h, fun i hi => ?_⟩
  obtain ⟨k1, k2⟩ := kyCells_at M i hi
  rw [hadd]
  exact ⟨(vcells h (i * 2)).trans (by simpa using k1), (vcells h (i * 2 + 1)).trans (by simpa using k2)⟩
theorem of_keep (s : ByteArray) (g : Nat) (w0 w : World) (hg : g < w.heap.size) (hb : Below w0.heap.size w0 w) :
    Calls Tryz.prog 156 #[.string s] w fun e w' => e = .returned (.agg #[.string s, .int .i64 0]) ∧ g < w'.heap.size ∧ Below w0.heap.size w0 w' ∧ ∀ o, w'.cell? ⟨g, o, none⟩ = w.cell? ⟨g, o, none⟩ :=
  (keyOf_k s w).mono fun _ _ ⟨he, h⟩ => ⟨he, Nat.lt_of_lt_of_le hg h.size, vb hb h, fun o => h.cell (p := ⟨g, o, none⟩) hg⟩
theorem text_keep (s : ByteArray) (y : Int) (h0 : 0 < y) (h1 : y < 9223372036854775808) (g : Nat) (w0 w : World) (hg : g < w.heap.size) (hb : Below w0.heap.size w0 w) (htab : TabHere w0) :
    Calls Tryz.prog 84 #[.agg #[.string s, .int .i64 y]] w fun e w' => e = .returned (.string (symText (y - 1))) ∧ g < w'.heap.size ∧ Below w0.heap.size w0 w' ∧ ∀ o, w'.cell? ⟨g, o, none⟩ = w.cell? ⟨g, o, none⟩ :=
  (TextSym_k s y h0 h1 w (tab_up htab hb)).mono fun _ _ ⟨he, h⟩ => ⟨he, Nat.lt_of_lt_of_le hg h.size, vb hb h, fun o => h.cell (p := ⟨g, o, none⟩) hg⟩
theorem ix_3 : ixK ⟨#[51]⟩ 0 = some 3 := by kernel_rfl
theorem sym_1 : symText (2 - 1) = ⟨#[115, 121, 109, 98, 111, 108, 32, 49]⟩ := by kernel_rfl

end Go.Proofs.YthnkllhfmjbbmaaGreatDoor.S
/-
  Plain, the program's and the document's own: what an escape stands for: walks.
-/
namespace Go.Proofs.YthnkllhfmjbbmaaGreatDoor.S
open Go.RowKit

/-- what a digit of sixteens is worth -/
def worthN (n : Nat) : Int := if 48 ≤ n ∧ n ≤ 57 then (n : Int) - 48 else if 97 ≤ n ∧ n ≤ 102 then (n : Int) - 87 else -1
theorem worthN_le (n : Nat) : -1 ≤ worthN n ∧ worthN n ≤ 15 := by unfold worthN; repeat' split
                                                                  all_goals omega

/-- what two digits of sixteens stand for -/
def hexOf (a b : Int) : UInt8 := (16 * a + b).toNat.toUInt8
def sixR (s : ByteArray) : UInt8 × Nat :=
  if h : s.size < 4 then (0, 0) else if worthN s[2].toNat < 0 ∨ worthN s[3].toNat < 0 then (0, 0) else (hexOf (worthN s[2].toNat) (worthN s[3].toNat), 4)
/-- the answer is a byte and how many bytes it is written with -/
def ByteTo (r : UInt8 × Nat) (w : World) (e : Ending) (w' : World) : Prop := e = .returned (.tuple #[.int .u8 (r.1.toNat : Int), .int .i64 (r.2 : Int)]) ∧ ∃ n, w' = w.drewN n

theorem ret_byte {a b k j : Int} (h : a = b) (g : k = j) : Ending.returned (.tuple #[.int .u8 a, .int .i64 k]) = .returned (.tuple #[.int .u8 b, .int .i64 j]) := by rw [h, g]
theorem or_nat (a b : Nat) (ha : a < 16) (hb : b < 16) : bits .or .i64 ((a : Int) * 16) (b : Int) = 16 * (a : Int) + b := by
  have : ∀ m n : Fin 16, bits .or .i64 ((m.val : Int) * 16) (n.val : Int) = 16 * (m.val : Int) + n.val := by decide +kernel
  exact this ⟨a, ha⟩ ⟨b, hb⟩

/-- what stands at a string's beginning: a byte, and how many bytes it is written with -/
def escS (s : ByteArray) : UInt8 × Nat :=
  if h0 : s.size < 1 then (0, 0)
  else if s[0].toNat ≠ 92 then (s[0], 1)
  else if h1 : s.size < 2 then (0, 0)
  else if s[1].toNat = 92 ∨ s[1].toNat = 34 ∨ s[1].toNat = 39 then (s[1], 2)
  else if s[1].toNat = 110 then (10, 2)
  else if s[1].toNat = 116 then (9, 2)
  else if s[1].toNat = 114 then (13, 2)
  else if s[1].toNat = 120 then sixR s
  else (0, 0)

theorem sixR_w (s : ByteArray) : (sixR s).2 ≤ 4 := by unfold sixR; repeat' split
                                                      all_goals simp
theorem escS_w (s : ByteArray) : (escS s).2 ≤ 4 := by
  unfold escS; repeat' split
  all_goals first | exact sixR_w s | simp

/-- a literal's inside, gone through from a place on: the place of the backslash that begins no escape, or the bytes -/
def plainR (s : ByteArray) : Nat → Nat → List UInt8 → Nat ⊕ List UInt8
  | 0, _, acc => .inr acc
  | f + 1, i, acc => if i < s.size then (if (escS (s.extract i s.size)).2 = 0 then .inl i else plainR s f (i + (escS (s.extract i s.size)).2) (acc ++ [(escS (s.extract i s.size)).1])) else .inr acc
def outOf (r : Nat ⊕ List UInt8) : ByteArray × Int × Int :=
  match r with
  | .inl i => (⟨#[]⟩, (i : Int), 5)
  | .inr acc => if acc.length > 4096 then (⟨#[]⟩, 0, 20) else (⟨acc.toArray⟩, 0, 0)
def plainO (s : ByteArray) : ByteArray × Int × Int := if s.size > 65536 then (⟨#[]⟩, 0, 3) else outOf (plainR s s.size 0 [])
/-- the answer is a string, a place and a number -/
def Str3To (r : ByteArray × Int × Int) (w : World) (e : Ending) (w' : World) : Prop := e = .returned (.tuple #[.string r.1, .int .i64 r.2.1, .int .i64 r.2.2]) ∧ Below w.heap.size w w'

theorem outOf_long (acc : List UInt8) (h : acc.length > 4096) : outOf (.inr acc) = (⟨#[]⟩, 0, 20) := by unfold outOf; exact if_pos h
theorem outOf_short (acc : List UInt8) (h : ¬ acc.length > 4096) : outOf (.inr acc) = (⟨acc.toArray⟩, 0, 0) := by unfold outOf; exact if_neg h
theorem plainR_stop (s : ByteArray) (f i : Nat) (acc : List UInt8) (h : i < s.size) (hf : s.size ≤ i + f) (hr : (escS (s.extract i s.size)).2 = 0) : plainR s f i acc = .inl i := by
  obtain ⟨g, rfl⟩ : ∃ g, f = g + 1 := ⟨f - 1, by omega⟩
  unfold plainR; rw [if_pos h, if_pos hr]
theorem plainR_step (s : ByteArray) (f i : Nat) (acc : List UInt8) (h : i < s.size) (hf : s.size ≤ i + f) (hr : (escS (s.extract i s.size)).2 ≠ 0) :
    ∃ g, plainR s f i acc = plainR s g (i + (escS (s.extract i s.size)).2) (acc ++ [(escS (s.extract i s.size)).1]) ∧ s.size ≤ i + (escS (s.extract i s.size)).2 + g := by
  obtain ⟨g, rfl⟩ : ∃ g, f = g + 1 := ⟨f - 1, by omega⟩
  refine ⟨g, ?_, by omega⟩
  rw [plainR, if_pos h, if_neg hr]
theorem plainR_end (s : ByteArray) (f i : Nat) (acc : List UInt8) (h : ¬ i < s.size) : plainR s f i acc = .inr acc := by
  cases f with
  | zero => rfl
  | succ g => unfold plainR; rw [if_neg h]

theorem BB.drewN {B b : Nat} {l : List UInt8} {w0 w : World} (h : BB B b l w0 w) (n : Nat) : BB B b l w0 (w.drewN n) := by
  induction n with
  | zero => exact h
  | succ n ih => exact ih.drew

end Go.Proofs.YthnkllhfmjbbmaaGreatDoor.S
/-
  Quoted and read it is itself: the facts of it without a walk.
-/
namespace Go.Proofs.YthnkllhfmjbbmaaGreatDoor.S
open Go.RowKit
theorem tail_list (s : ByteArray) (f : Nat) : (s.extract f s.size).data.toList = s.data.toList.drop f := by
  rw [extract_list, List.take_of_length_le]
  rw [List.length_drop, ← size_len]; exact Nat.le_refl _

theorem hexN_rng (n : Nat) (h : n < 16) : (48 ≤ hexN n ∧ hexN n ≤ 57) ∨ (97 ≤ hexN n ∧ hexN n ≤ 102) := by unfold hexN; split <;> omega
theorem worth_hex (n : Nat) (h : n < 16) : worthN (hexN n) = n := by
  unfold worthN hexN
  by_cases c : n < 10
  · rw [if_pos c, if_pos (by omega)]; omega
  · rw [if_neg c, if_neg (by omega), if_pos (by omega)]; omega

theorem qb_rng (c : UInt8) : ∀ b ∈ qb c, 32 ≤ b.toNat ∧ b.toNat ≤ 126 := by
  intro b hb
  unfold qb at hb
  have hd := hexN_rng (c.toNat / 16) (by have := c.toNat_lt; omega)
  have hm := hexN_rng (c.toNat % 16) (by omega)
  split at hb
  · rename_i h
    simp at hb
    rcases hb with rfl | rfl
    · decide
    · omega
  · split at hb
    · simp at hb; rcases hb with rfl | rfl <;> decide
    · split at hb
      · simp at hb; rcases hb with rfl | rfl <;> decide
      · split at hb
        · simp at hb; rcases hb with rfl | rfl <;> decide
        · split at hb
          · simp only [List.mem_cons, List.not_mem_nil, or_false] at hb
            rcases hb with rfl | rfl | rfl | rfl
            · decide
            · decide
            · rw [toNat_of _ (by omega)]; omega
            · rw [toNat_of _ (by omega)]; omega
          · simp at hb; subst hb; omega
theorem quoteL_rng (l : List UInt8) : ∀ b ∈ quoteL l, 32 ≤ b.toNat ∧ b.toNat ≤ 126 := by
  intro b hb
  unfold quoteL quoteI at hb
  simp only [List.mem_cons, List.mem_append, List.mem_flatMap, List.not_mem_nil, or_false] at hb
  rcases hb with rfl | ⟨c, _, hc⟩ | rfl
  · decide
  · exact qb_rng c b hc
  · decide

/-- a byte of a string, from its list -/
theorem get_list {v : ByteArray} {L : List UInt8} (h : v.data.toList = L) (j : Nat) (b : UInt8) (hb : L[j]? = some b) : ∃ hj : j < v.size, v[j] = b := by
  subst h
  have hj : j < v.size := by
    rw [size_len]
    exact (List.getElem?_eq_some_iff.1 hb).1
  refine ⟨hj, ?_⟩
  rw [getElem_list v j hj] at hb
  exact Option.some.inj hb

theorem esc_qb (v : ByteArray) (c : UInt8) (rest : List UInt8) (h : v.data.toList = qb c ++ rest) : escS v = (c, (qb c).length) := by
  have hc := c.toNat_lt
  by_cases c1 : c.toNat = 34 ∨ c.toNat = 92
  · have e : qb c = [92, c] := by unfold qb; rw [if_pos c1]
    rw [e] at h ⊢
    obtain ⟨p0, q0⟩ := get_list h 0 92 rfl
    obtain ⟨p1, q1⟩ := get_list h 1 c rfl
    unfold escS
    rw [dif_neg (by omega), if_neg (by rw [q0]; decide), dif_neg (by omega), if_pos (by rw [q1]; omega), q1]; rfl
  · by_cases c2 : c.toNat = 10
    · have e : qb c = [92, 110] := by unfold qb; rw [if_neg c1, if_pos c2]
      rw [e] at h ⊢
      obtain ⟨p0, q0⟩ := get_list h 0 92 rfl
      obtain ⟨p1, q1⟩ := get_list h 1 110 rfl
      unfold escS
      rw [dif_neg (by omega), if_neg (by rw [q0]; decide), dif_neg (by omega), if_neg (by rw [q1]; decide), if_pos (by rw [q1]; decide)]
      have : c = 10 := UInt8.toNat_inj.1 c2
      rw [this]; rfl
    · by_cases c3 : c.toNat = 9
      · have e : qb c = [92, 116] := by unfold qb; rw [if_neg c1, if_neg c2, if_pos c3]
        rw [e] at h ⊢
        obtain ⟨p0, q0⟩ := get_list h 0 92 rfl
        obtain ⟨p1, q1⟩ := get_list h 1 116 rfl
        unfold escS
        rw [dif_neg (by omega), if_neg (by rw [q0]; decide), dif_neg (by omega), if_neg (by rw [q1]; decide), if_neg (by rw [q1]; decide), if_pos (by rw [q1]; decide)]
        have : c = 9 := UInt8.toNat_inj.1 c3
        rw [this]; rfl
      · by_cases c4 : c.toNat = 13
        · have e : qb c = [92, 114] := by unfold qb; rw [if_neg c1, if_neg c2, if_neg c3, if_pos c4]
          rw [e] at h ⊢
          obtain ⟨p0, q0⟩ := get_list h 0 92 rfl
          obtain ⟨p1, q1⟩ := get_list h 1 114 rfl
          unfold escS
          rw [dif_neg (by omega), if_neg (by rw [q0]; decide), dif_neg (by omega), if_neg (by rw [q1]; decide), if_neg (by rw [q1]; decide), if_neg (by rw [q1]; decide), if_pos (by rw [q1]; decide)]
          have : c = 13 := UInt8.toNat_inj.1 c4
          rw [this]; rfl
        · by_cases c5 : c.toNat < 32 ∨ 126 < c.toNat
          · have e : qb c = [92, 120, (hexN (c.toNat / 16)).toUInt8, (hexN (c.toNat % 16)).toUInt8] := by unfold qb; rw [if_neg c1, if_neg c2, if_neg c3, if_neg c4, if_pos c5]
            have hd := hexN_lt (c.toNat / 16) (by omega)
            have hm := hexN_lt (c.toNat % 16) (by omega)
            have wd := worth_hex (c.toNat / 16) (by omega)
            have wm := worth_hex (c.toNat % 16) (by omega)
            rw [e] at h ⊢
            obtain ⟨p0, q0⟩ := get_list h 0 92 rfl
            obtain ⟨p1, q1⟩ := get_list h 1 120 rfl
            obtain ⟨p2, q2⟩ := get_list h 2 _ rfl
            obtain ⟨p3, q3⟩ := get_list h 3 _ rfl
            have r2 : worthN v[2].toNat = ((c.toNat / 16 : Nat) : Int) := by rw [q2, toNat_of _ hd, wd]
            have r3 : worthN v[3].toNat = ((c.toNat % 16 : Nat) : Int) := by rw [q3, toNat_of _ hm, wm]
            unfold escS
            rw [dif_neg (by omega), if_neg (by rw [q0]; decide), dif_neg (by omega), if_neg (by rw [q1]; decide), if_neg (by rw [q1]; decide), if_neg (by rw [q1]; decide), if_neg (by rw [q1]; decide), if_pos (by rw [q1]; decide)]
            unfold sixR
            rw [dif_neg (by omega), if_neg (by rw [r2, r3]; omega), r2, r3]
            have : hexOf ((c.toNat / 16 : Nat) : Int) ((c.toNat % 16 : Nat) : Int) = c := by
              unfold hexOf
              refine UInt8.toNat_inj.1 ?_
              rw [toNat_of _ (by omega)]; omega
            rw [this]; rfl
          · have e : qb c = [c] := by unfold qb; rw [if_neg c1, if_neg c2, if_neg c3, if_neg c4, if_neg c5]
            rw [e] at h ⊢
            obtain ⟨p0, q0⟩ := get_list h 0 c rfl
            unfold escS
            rw [dif_neg (by omega), if_pos (by rw [q0]; omega), q0]; rfl

theorem plainR_quote (u : ByteArray) : ∀ (l pre acc : List UInt8) (f : Nat), u.data.toList = pre ++ quoteI l → (quoteI l).length ≤ f → plainR u f pre.length acc = .inr (acc ++ l)
  | [], pre, acc, f, h, _ => by
    have e : u.size = pre.length := by rw [size_len, h]; simp [quoteI]
    rw [plainR_end _ _ _ _ (by omega), List.append_nil]
  | c :: r, pre, acc, f, h, hf => by
    have e : quoteI (c :: r) = qb c ++ quoteI r := by simp [quoteI]
    have hl := (qb_len c).1
    rw [e] at h hf
    rw [List.length_append] at hf
    have hsz : u.size = pre.length + ((qb c).length + (quoteI r).length) := by rw [size_len, h, List.length_append, List.length_append]
    obtain ⟨g, rfl⟩ : ∃ g, f = g + 1 := ⟨f - 1, by omega⟩
    have ht : (u.extract pre.length u.size).data.toList = qb c ++ quoteI r := by rw [tail_list, h, List.drop_left]
    have he := esc_qb _ c _ ht
    rw [plainR, if_pos (by omega), he]
    dsimp only
    rw [if_neg (by omega)]
    have := plainR_quote u r (pre ++ qb c) (acc ++ [c]) g (by rw [h, List.append_assoc]) (by omega)
    rw [List.length_append] at this
    rw [this, List.append_assoc]; rfl

theorem plain_quote (u s : ByteArray) (h : u.data.toList = quoteI s.data.toList) (hs : s.size ≤ 4096) : plainO u = (s, 0, 0) := by
  have hl := quoteI_len s.data.toList
  rw [← h, ← size_len, ← size_len] at hl
  unfold plainO
  rw [if_neg (by omega)]
  have := plainR_quote u s.data.toList [] [] u.size h (by rw [← h, ← size_len]; exact Nat.le_refl _)
  rw [List.length_nil, List.nil_append] at this
  rw [this, outOf_short _ (by rw [← size_len]; omega), mk_of]
end Go.Proofs.YthnkllhfmjbbmaaGreatDoor.S
