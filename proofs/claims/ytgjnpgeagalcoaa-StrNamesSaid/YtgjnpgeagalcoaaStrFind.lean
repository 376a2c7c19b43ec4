/-
  Part, At, Find and Less, the program's and the document's own: walks.
-/
import Derived.Test.YtgjnpgeagalcoaaStrPlace
import Derived.Test.YtgjnpgeagalcoaaStrQuote
import Derived.Lib.IndexMore
import Derived.Lib.IndexBytes
namespace Go.Proofs.Ytgjnpgeagalcoaa
open Go.RowKit Fl

theorem placeN_le (n x : Nat) : placeN n x ≤ n := by
  unfold placeN; repeat' split
  all_goals omega

/-- ### Part -/
def partT (s : ByteArray) (x y : Nat) : ByteArray := if placeN s.size y ≤ placeN s.size x then ⟨#[]⟩ else s.extract (placeN s.size x) (placeN s.size y)

theorem World.drewN_below {B : Nat} {w0 w : World} (h : Below B w0 w) (n : Nat) : Below B w0 (w.drewN n) := by
  induction n with
  | zero => exact h
  | succ n ih => exact ih.drew

theorem Part_any (s : ByteArray) (x y : Nat) (w : World) (hs : s.size ≤ 9000) : Calls Try.prog 9 #[.string s, .float .f64 x, .float .f64 y] w (StrTo (partT s x y) w) := by
  have k1 := fun w => place_any s x w hs
  have k2 := fun w => place_any s y w hs
  have b1 := placeN_le s.size x
  have b2 := placeN_le s.size y
  unfold partT
  generalize placeN s.size x = i at *
  generalize placeN s.size y = j at *
  by_cases c : j ≤ i
  · rw [if_pos c]
    go_enter Try.func9, Try.ntmps9
    go_wp2_with (first
      | (go_at_call 28; ((with_reducible refine (k1 _).mono ?_); rintro e w' ⟨rfl, rfl⟩))
      | (go_at_call 28; ((with_reducible refine (k2 _).mono ?_); rintro e w' ⟨rfl, rfl⟩)))
    go_ret
    exact ⟨rfl, Below.refl _ _⟩
  · rw [if_neg c]
    have kf := fun w => fresh_any (s.extract i j) w (by simp; omega)
    go_enter Try.func9, Try.ntmps9
    go_wp2_with (first
      | (go_at_call 28; ((with_reducible refine (k1 _).mono ?_); rintro e w' ⟨rfl, rfl⟩))
      | (go_at_call 28; ((with_reducible refine (k2 _).mono ?_); rintro e w' ⟨rfl, rfl⟩))
      | (go_at_call 29; refine (kf _).mono ?_; rintro e w1 ⟨rfl, h1⟩))
    go_ret
    exact ⟨rfl, h1⟩

theorem refPart_any (s : ByteArray) (x y : Nat) (w : World) (hs : s.size ≤ 9000) : Calls Try.prog 22 #[.string s, .float .f64 x, .float .f64 y] w (StrTo (partT s x y) w) := by
  have k1 := fun w => refPlace_any s x w hs
  have k2 := fun w => refPlace_any s y w hs
  have b1 := placeN_le s.size x
  have b2 := placeN_le s.size y
  unfold partT
  generalize placeN s.size x = i at *
  generalize placeN s.size y = j at *
  by_cases c : j ≤ i
  · rw [if_pos c]
    go_enter Try.func22, Try.ntmps22
    go_wp2_with (first
      | (go_at_call 39; ((with_reducible refine (k1 _).mono ?_); rintro e w' ⟨rfl, rfl⟩))
      | (go_at_call 39; ((with_reducible refine (k2 _).mono ?_); rintro e w' ⟨rfl, rfl⟩)))
    go_ret
    exact ⟨rfl, Below.refl _ _⟩
  · rw [if_neg c]
    go_enter Try.func22, Try.ntmps22
    go_wp2_with (first
      | (go_at_call 39; ((with_reducible refine (k1 _).mono ?_); rintro e w' ⟨rfl, rfl⟩))
      | (go_at_call 39; ((with_reducible refine (k2 _).mono ?_); rintro e w' ⟨rfl, rfl⟩)))
    go_ret
    exact ⟨rfl, Below.refl _ _⟩

/-- ### At -/
def atT (s : ByteArray) (i : Int) : ByteArray := if i < 0 ∨ (s.size : Int) ≤ i then ⟨#[]⟩ else s.extract i.toNat (i.toNat + 1)
def atB (s : ByteArray) (i : Int) : Bool := if i < 0 ∨ (s.size : Int) ≤ i then false else true
def StrBoolTo (t : ByteArray) (b : Bool) (w : World) (e : Ending) (w' : World) : Prop := e = .returned (.tuple #[.string t, .bool b]) ∧ Below w.heap.size w w'

theorem At_any (s : ByteArray) (i : Int) (w : World) (hs : s.size ≤ 9000) : Calls Try.prog 14 #[.string s, .int .i64 i] w (StrBoolTo (atT s i) (atB s i) w) := by
  unfold atT atB
  by_cases c : i < 0 ∨ (s.size : Int) ≤ i
  · rw [if_pos c, if_pos c]
    rcases c with c | c
    · go_enter Try.func14, Try.ntmps14
      go_wp2
      all_goals (go_ret2; exact ⟨rfl, Below.refl _ _⟩)
    · go_enter Try.func14, Try.ntmps14
      go_wp2
      all_goals (go_ret2; exact ⟨rfl, Below.refl _ _⟩)
  · rw [if_neg c, if_neg c]
    obtain ⟨k, rfl⟩ := Int.eq_ofNat_of_zero_le (show 0 ≤ i by omega)
    have hk : k < s.size := by omega
    simp only [Int.toNat_natCast]
    have kf := fun w => fresh_any (s.extract k (k + 1)) w (by simp; omega)
    clear c
    go_enter Try.func14, Try.ntmps14
    go_wp2_with (go_at_call 29; refine (kf _).mono ?_; rintro e w1 ⟨rfl, h1⟩)
    go_ret2
    exact ⟨rfl, h1⟩

theorem refAt_any (s : ByteArray) (i : Int) (w : World) (hs : s.size ≤ 9000) : Calls Try.prog 21 #[.string s, .int .i64 i] w (StrBoolTo (atT s i) (atB s i) w) := by
  unfold atT atB
  by_cases c : i < 0 ∨ (s.size : Int) ≤ i
  · rw [if_pos c, if_pos c]
    rcases c with c | c
    · go_enter Try.func21, Try.ntmps21
      go_wp2
      all_goals (go_ret2; exact ⟨rfl, Below.refl _ _⟩)
    · go_enter Try.func21, Try.ntmps21
      go_wp2
      all_goals (go_ret2; exact ⟨rfl, Below.refl _ _⟩)
  · rw [if_neg c, if_neg c]
    obtain ⟨k, rfl⟩ := Int.eq_ofNat_of_zero_le (show 0 ≤ i by omega)
    have hk : k < s.size := by omega
    simp only [Int.toNat_natCast]
    clear c
    go_enter Try.func21, Try.ntmps21
    go_wp2
    go_ret2
    exact ⟨rfl, Below.refl _ _⟩

/-- ### Less -/
theorem less_step (a b : ByteArray) (k : Nat) (h1 : k < a.size) (h2 : k < b.size) (he : a[k] = b[k]) :
    Op.bytesLess (a.data.toList.drop k) (b.data.toList.drop k) = Op.bytesLess (a.data.toList.drop (k + 1)) (b.data.toList.drop (k + 1)) := by
  have l1 : k < a.data.toList.length := by rw [← size_len]; exact h1
  have l2 : k < b.data.toList.length := by rw [← size_len]; exact h2
  rw [List.drop_eq_getElem_cons l1, List.drop_eq_getElem_cons l2]
  have e : a.data.toList[k] = b.data.toList[k] := by
    have := he
    simpa [ByteArray.getElem_eq_getElem_data] using this
  rw [e]
  simp [Op.bytesLess]
theorem less_stop (a b : ByteArray) (k : Nat) (h1 : k < a.size) (h2 : k < b.size) (he : a[k].toNat ≠ b[k].toNat) :
    Op.bytesLess (a.data.toList.drop k) (b.data.toList.drop k) = decide (a[k].toNat < b[k].toNat) := by
  have l1 : k < a.data.toList.length := by rw [← size_len]; exact h1
  have l2 : k < b.data.toList.length := by rw [← size_len]; exact h2
  rw [List.drop_eq_getElem_cons l1, List.drop_eq_getElem_cons l2]
  have e1 : a.data.toList[k] = a[k] := by simp [ByteArray.getElem_eq_getElem_data]
  have e2 : b.data.toList[k] = b[k] := by simp [ByteArray.getElem_eq_getElem_data]
  rw [e1, e2]
  have hne : (a[k] == b[k]) = false := beq_false_of_ne fun h => he (by rw [h])
  simp only [Op.bytesLess, hne, Bool.false_and, Bool.or_false]
  rw [decide_eq_decide, UInt8.lt_iff_toNat_lt]
theorem less_end (a b : ByteArray) (k : Nat) (ha : k ≤ a.size) (h : ¬ k < a.size ∨ ¬ k < b.size) :
    Op.bytesLess (a.data.toList.drop k) (b.data.toList.drop k) = decide (a.size < b.size) := by
  by_cases c : k < b.size
  · have h1 : a.data.toList.drop k = [] := List.drop_eq_nil_of_le (by rw [← size_len]; omega)
    have l2 : k < b.data.toList.length := by rw [← size_len]; exact c
    rw [h1, List.drop_eq_getElem_cons l2, decide_eq_true (by omega)]; rfl
  · have h1 : b.data.toList.drop k = [] := List.drop_eq_nil_of_le (by rw [← size_len]; omega)
    rw [h1, decide_eq_false (by omega)]
    cases a.data.toList.drop k <;> rfl

theorem Less_any (a b : ByteArray) (w : World) : Calls Try.prog 16 #[.string a, .string b] w fun e w' => e = .returned (.bool (Op.bytesLess a.data.toList b.data.toList)) ∧ w = w' := by
  have ea := toList_data a
  have eb := toList_data b
  go_enter Try.func16, Try.ntmps16
  go_wp2
  go_ret
  exact ⟨rfl, rfl⟩

theorem drewN_drewN (w : World) (n m : Nat) : (w.drewN n).drewN m = w.drewN (n + m) := by
  induction m with
  | zero => rfl
  | succ m ih => show ((w.drewN n).drewN m).drew = (w.drewN (n + m)).drew; rw [ih]

theorem refLess_any (a b : ByteArray) (w : World) (ha : a.size ≤ 9000) : Calls Try.prog 24 #[.string a, .string b] w fun e w' => e = .returned (.bool (Op.bytesLess a.data.toList b.data.toList)) ∧ ∃ n, w' = w.drewN n := by
  generalize hR : Op.bytesLess a.data.toList b.data.toList = R
  have HR := Lib.hid hR
  clear hR
  go_enter Try.func24, Try.ntmps24
  go_wp2_with (fail)
  go_loopw [5] (fun i wr => ∃ k n : Nat, k ≤ a.size ∧ k ≤ b.size ∧ i = .int .i64 (k : Int) ∧ Hid (Op.bytesLess (a.data.toList.drop k) (b.data.toList.drop k) = R) ∧ wr = w.drewN n) (fun i _ => a.size - (intOf i).toNat)
  case atStart => exact ⟨0, 0, Nat.zero_le _, Nat.zero_le _, rfl, HR, rfl⟩
  case round =>
    obtain ⟨k, n, h1, h2, rfl, H, rfl⟩ := hrel
    by_cases c1 : k < a.size
    · by_cases c2 : k < b.size
      · have j1 : (k : Int) < (a.size : Int) := by omega
        have j2 : (k : Int) < (b.size : Int) := by omega
        by_cases c3 : a[k].toNat = b[k].toNat
        · have H2 : Hid (Op.bytesLess (a.data.toList.drop (k + 1)) (b.data.toList.drop (k + 1)) = R) := Lib.hid ((less_step a b k c1 c2 (UInt8.toNat_inj.1 c3)).symm.trans H.out)
          clear H
          go_wp2_with (fail)
          go_quiet (fail)
          go_wp2
          go_roundw
          case rel => exact ⟨k + 1, _, c1, c2, by go_num, H2, rfl⟩
          case measure => simp [intOf]; omega
        · have e : R = _ := H.out.symm.trans (less_stop a b k c1 c2 c3)
          subst e
          clear H HR
          go_wp2_with (fail)
          go_quiet (fail)
          go_wp2
          go_quiet (fail)
          go_wp2
          go_ret
          exact ⟨rfl, _, (congrArg (fun v : World => v.drewN _) (drewN_drewN _ _ _)).trans (drewN_drewN _ _ _)⟩
      · have e : R = _ := H.out.symm.trans (less_end a b k h1 (Or.inr c2))
        subst e
        clear H HR
        go_wp2
        go_ret
        exact ⟨rfl, n, rfl⟩
    · have e : R = _ := H.out.symm.trans (less_end a b k h1 (Or.inl c1))
      subst e
      clear H HR
      go_wp2
      go_ret
      exact ⟨rfl, n, rfl⟩

/-- ### Find -/
def ML (w : World) : Prop := ∃ m, w.cell? ⟨1, 0, none⟩ = some (.int .i64 m)
theorem ml_shaped {w : World} (h : w.ShapedOpen Try.prog) : ML w := Try.strings_MaxLen w h
theorem ml_lt {w : World} (h : ML w) : 1 < w.heap.size := by
  obtain ⟨m, h⟩ := h
  rcases Nat.lt_or_ge 1 w.heap.size with c | c
  · exact c
  · unfold World.cell? at h
    rw [Array.getElem?_eq_none c] at h; cases h
theorem ML.below {w w' : World} (h : ML w) (b : Below w.heap.size w w') : ML w' := by
  have hl := ml_lt h
  obtain ⟨m, h⟩ := h
  exact ⟨m, (b.cell hl).trans h⟩

/-- where the search begins -/
def fromN (s : ByteArray) (i : Int) : Nat := if i < 0 then 0 else if (s.size : Int) < i then s.size else i.toNat
theorem fromN_le (s : ByteArray) (i : Int) : fromN s i ≤ s.size := by unfold fromN; repeat' split
                                                                      all_goals omega
def findI (s t : ByteArray) (i : Int) : Int := if Lib.index (s.data.toList.drop (fromN s i)) t.data.toList < 0 then -1 else (fromN s i : Int) + Lib.index (s.data.toList.drop (fromN s i)) t.data.toList

theorem tail_list (s : ByteArray) (f : Nat) : (s.extract f s.size).data.toList = s.data.toList.drop f := by
  rw [extract_list, List.take_of_length_le]
  rw [List.length_drop, ← size_len]; exact Nat.le_refl _

theorem Find_any (s t : ByteArray) (i : Int) (w : World) (hw : ML w) (hs : s.size ≤ 9000) : Calls Try.prog 10 #[.string s, .string t, .int .i64 i] w fun e w' => e = .returned (.int .i64 (findI s t i)) ∧ w = w' := by
  obtain ⟨m, hm⟩ := hw
  have hle := fromN_le s i
  have ki : ∀ u : ByteArray, u.data.toList = s.data.toList.drop (fromN s i) → u.size ≤ 9000 → Calls Try.prog 30 #[.string u, .string t] w fun e w' => e = .returned (.int .i64 (Lib.index (s.data.toList.drop (fromN s i)) t.data.toList)) ∧ w = w' := by
    intro u hu hz
    have := (Try.strings_Index u t m w (by omega) hm).mono fun e w' (h : _ ∧ _) => show e = _ ∧ w = w' from ⟨h.1, h.2.symm⟩
    rw [hu] at this
    exact this
  have hge := Lib.index_ge (s.data.toList.drop (fromN s i)) t.data.toList
  have hup := Lib.index_le (s.data.toList.drop (fromN s i)) t.data.toList
  rw [List.length_drop, ← size_len] at hup
  unfold findI
  generalize Lib.index (s.data.toList.drop (fromN s i)) t.data.toList = r at *
  have hf : min (max i 0) (s.size : Int) = (fromN s i : Int) := by
    unfold fromN; repeat' split
    all_goals omega
  generalize fromN s i = f at *
  by_cases c : r < 0
  · rw [if_pos c]
    go_enter Try.func10, Try.ntmps10
    go_wp2_with (go_at_call 30; refine (ki _ (tail_list _ _) (by simp; omega)).mono ?_; rintro e w' ⟨rfl, rfl⟩)
    go_ret
    exact ⟨rfl, rfl⟩
  · rw [if_neg c]
    go_enter Try.func10, Try.ntmps10
    go_wp2_with (go_at_call 30; refine (ki _ (tail_list _ _) (by simp; omega)).mono ?_; rintro e w' ⟨rfl, rfl⟩)
    go_ret
    exact ⟨ret_int (by omega), rfl⟩
end Go.Proofs.Ytgjnpgeagalcoaa
