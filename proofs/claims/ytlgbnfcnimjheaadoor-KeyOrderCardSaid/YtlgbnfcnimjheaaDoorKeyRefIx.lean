/-
  The document's own Index of a key: a walk.
-/
import Derived.Test.YtlgbnfcnimjheaaDoorKeyIndex2
import Derived.Test.YtlgbnfcnimjheaaDoorNumAgain
namespace Go.Proofs.YtlgbnfcnimjheaaDoor.S
open Go.RowKit Fl

theorem tens7 (n : Nat) (h : n < 1024) (w : World) : Calls Tryd.prog 42 #[.int .i64 (n : Int)] w (TextTo (Lib.itoa (n : Int)) w) := by
  have hT := fun w => Tens_int (n : Int) w ⟨by omega, by omega⟩
  have hd : decide ((n : Int) < 0) = false := by simp
  have hn : -9223372036854775808 ≤ (n : Int) ∧ (n : Int) < 9223372036854775808 := by omega
  clear h
  generalize Lib.itoa (n : Int) = l at *
  generalize (n : Int) = m at *
  go_enter Tryd.func42, Tryd.ntmps42
  go_wp2_with (go_at_call 70; refine (hT _).mono ?_; rintro e w1 ⟨t, ht, rfl, h1⟩; have HH := Lib.hid (And.intro ht h1); clear ht h1)
  go_ret
  exact ⟨_, HH.out.1, rfl, HH.out.2⟩
theorem lt_blk0 {w : World} {g : Nat} {o : Obj} (hb : w.heap[g]? = some o) : g < w.heap.size := by
  rcases Nat.lt_or_ge g w.heap.size with c | c
  · exact c
  · rw [Array.getElem?_eq_none c] at hb; cases hb
theorem below_drew0 (w : World) : Below w.heap.size w w.drew := ⟨rfl, rfl, rfl, Nat.le_refl _, fun _ _ => rfl⟩
theorem tens7_keep (n : Nat) (h : n < 1024) (g : Nat) (w0 W : World) (hg : g < w0.heap.size) (hb : Below w0.heap.size w0 W) : Calls Tryd.prog 42 #[.int .i64 (n : Int)] W fun e w' => e = .returned (.string ⟨(Lib.itoa (n : Int)).toArray⟩) ∧ Below w0.heap.size w0 w' ∧ ∀ o, w'.cell? ⟨g, o, none⟩ = W.cell? ⟨g, o, none⟩ :=
  (tens7 n h W).mono fun e w' ⟨t, ht, he, h1⟩ => ⟨by rw [he, bytes_ext (a := t) (b := ⟨(Lib.itoa (n : Int)).toArray⟩) (by rw [ht])], vb hb h1, fun o => h1.cell (p := ⟨g, o, none⟩) (Nat.lt_of_lt_of_le hg hb.size)⟩
theorem idxO_hit {s : ByteArray} {n : Nat} (hn : n < 1024) (h : s.data.toList = Lib.itoa (n : Int)) : idxO s = some n := by
  unfold idxO
  rw [h, readR_itoa (n : Int) ⟨by omega, by omega⟩]
  show (if 0 ≤ (n : Int) ∧ (n : Int) < 1024 ∧ Lib.itoa (n : Int) = Lib.itoa (n : Int) then some (n : Int).toNat else none) = some n
  rw [if_pos ⟨by omega, by omega, rfl⟩]
  rfl
theorem idxO_miss {s : ByteArray} (h : ∀ n : Nat, n < 1024 → s.data.toList ≠ Lib.itoa (n : Int)) : idxO s = none := by
  cases c : idxO s with
  | none => rfl
  | some n => exact absurd (idxO_lt c).2 (h n (idxO_lt c).1)
theorem itoa_short (n : Nat) (h : n < 1024) : (Lib.itoa (n : Int)).length ≤ 4 := by
  have e : Lib.itoa (n : Int) = Lib.decDigits n := by unfold Lib.itoa; rw [if_neg (by omega)]; rfl
  rw [e]
  have b : ∀ k, k < 10 → (Lib.decDigits k).length = 1 := fun k hk => by rw [decDigits_one k hk]; rfl
  have g : ∀ k, 10 ≤ k → (Lib.decDigits k).length = (Lib.decDigits (k / 10)).length + 1 := fun k hk => by rw [decDigits_big k hk, List.length_append]; rfl
  by_cases c1 : n < 10
  · rw [b n c1]; omega
  · rw [g n (by omega)]
    by_cases c2 : n / 10 < 10
    · rw [b _ c2]; omega
    · rw [g _ (by omega)]
      by_cases c3 : n / 10 / 10 < 10
      · rw [b _ c3]; omega
      · rw [g _ (by omega), b _ (by omega)]; omega
theorem str_no {a b : ByteArray} (h : a.data.toList ≠ b.data.toList) : (a == b) = false := by
  cases c : (a == b)
  · rfl
  · exact absurd (by rw [str_beq c]) h

set_option maxHeartbeats 1000000 in
set_option maxRecDepth 100000 in
theorem refIndex_k (s : ByteArray) (y : Int) (w : World) : Calls Tryd.prog 19 #[.agg #[.string s, .int .i64 y]] w (IdxTo (ixK s y) w) := by
  by_cases hy : 0 < y
  · have e : ixK s y = none := if_neg (by omega)
    rw [e]
    clear e
    go_enter Tryd.func19, Tryd.ntmps19
    go_wp2_with (fail)
    go_ret2
    exact ⟨rfl, vzero _ _⟩
  · have e : ixK s y = idxO s := if_pos (by omega)
    rw [e]
    clear e
    have hd : decide (0 < y) = false := by simp; omega
    by_cases h4 : 4 < s.size
    · have e : idxO s = none := idxO_miss fun n hn he => by
        have h1 := itoa_short n hn
        rw [← he] at h1
        have h2 := size_len s
        omega
      rw [e]
      clear e
      have hz : (4 : Int) < (s.size : Int) := by omega
      go_enter Tryd.func19, Tryd.ntmps19
      go_wp2_with (fail)
      go_ret2
      exact ⟨rfl, vzero _ _⟩
    · have hz : decide ((4 : Int) < (s.size : Int)) = false := by simp; omega
      go_enter Tryd.func19, Tryd.ntmps19
      go_wp2_with (fail)
      go_loopg [4] 1024 (fun kx s4 wr => ∃ i : Nat, s4 = .int .i64 i ∧ i + kx = 1024 ∧ Hid ((∀ n : Nat, n < i → s.data.toList ≠ Lib.itoa (n : Int)) ∧ Below w.heap.size w wr ∧ wr.heap[w.heap.size]? = some (.cells #[.string s, .int .i64 y] 24 (0, 0))))
      case atStart => exact ⟨0, rfl, by omega, Lib.hid ⟨fun n hn => absurd hn (Nat.not_lt_zero n), vzero _ _, heap_alloc_new _ _⟩⟩
      case round =>
        obtain ⟨i, rfl, hik, H⟩ := hrel
        cases gk with
        | zero =>
          obtain rfl : i = 1024 := by omega
          have E := Lib.hid (idxO_miss H.out.1)
          go_wp2_with (fail)
          go_ret2
          exact ⟨by rw [E.out]; rfl, H.out.2.1⟩
        | succ kx =>
          have hlt : i < 1024 := by omega
          have hlz : (i : Int) < 1024 := by omega
          obtain ⟨T, hTe⟩ : ∃ T : ByteArray, T = ⟨(Lib.itoa (i : Int)).toArray⟩ := ⟨_, rfl⟩
          have hg := lt_blk0 H.out.2.2
          have hk := fun W hb => tens7_keep i hlt w.heap.size wr W hg hb
          rw [← hTe] at hk
          have hd0 := below_drew0 wr
          have c0 : wr.drew.cell? ⟨w.heap.size, 0, none⟩ = some (.string s) := (kc2 H.out.2.2).1
          clear hg
          by_cases c : s.data.toList = Lib.itoa (i : Int)
          · have e : idxO s = some i := idxO_hit hlt c
            have E := Lib.hid e
            obtain rfl : T = s := bytes_ext (by rw [hTe, c])
            clear e c hTe hik
            go_wp2_with (fail)
            go_region_held3 (fun w' => Below wr.heap.size wr w' ∧ w'.cell? ⟨w.heap.size, 0, none⟩ = some (.string T)) (first | exact ⟨hd0, c0⟩ | go_keep)
              ((go_at_call 42; (with_reducible refine (hk _ ?_).mono ?_); (assumption); rintro e w' ⟨rfl, hb1, hb2⟩))
            have H1 := Lib.hid (vb H.out.2.1 (show Below wr.heap.size wr w' by assumption))
            go_wp2_with (fail)
            go_ret2
            exact ⟨by rw [E.out]; rfl, H1.out⟩
          · have hX : ∀ n : Nat, n < i + 1 → s.data.toList ≠ Lib.itoa (n : Int) := fun n hn => by
              rcases Nat.lt_or_ge n i with d | d
              · exact H.out.1 n d
              · obtain rfl : n = i := by omega
                exact c
            have HX := Lib.hid hX
            have hq : (T.toList == s.toList) = false := by
              rw [beq_eq_false_iff_ne, toList_data, toList_data, hTe]
              exact fun h => c h.symm
            clear c hX hTe
            go_wp2_with (fail)
            go_region_held3 (fun w' => Below wr.heap.size wr w' ∧ w'.cell? ⟨w.heap.size, 0, none⟩ = some (.string s)) (first | exact ⟨hd0, c0⟩ | go_keep)
              ((go_at_call 42; (with_reducible refine (hk _ ?_).mono ?_); (assumption); rintro e w' ⟨rfl, hb1, hb2⟩))
            have H1 := Lib.hid (show Below wr.heap.size wr w' by assumption)
            go_wp2_with (fail)
            go_roundg kx
            case measure => omega
            case rel => exact ⟨i + 1, by simp, by omega, Lib.hid ⟨HX.out, vb H.out.2.1 H1.out, vblkn H1.out H.out.2.2⟩⟩
end Go.Proofs.YtlgbnfcnimjheaaDoor.S
