/-
  Plain, the program's and the document's own: what an escape stands for: walks.
-/
import Derived.Test.YtgjpcoplnpkmoaaGreatDoorStrQuote
import Derived.Deep.QuietTactic
import Derived.BigQuiet
namespace Go.Proofs.YtgjpcoplnpkmoaaGreatDoor.S
open Go.RowKit

/-- what a digit of sixteens is worth -/
def worthN (n : Nat) : Int := if 48 ≤ n ∧ n ≤ 57 then (n : Int) - 48 else if 97 ≤ n ∧ n ≤ 102 then (n : Int) - 87 else -1
theorem worthN_le (n : Nat) : -1 ≤ worthN n ∧ worthN n ≤ 15 := by unfold worthN; repeat' split
                                                                  all_goals omega

theorem worth_any (n : Nat) (h : n < 256) (w : World) : Calls Tryz.prog 226 #[.int .u8 (n : Int)] w fun e w' => e = .returned (.int .i64 (worthN n)) ∧ w = w' := by
  unfold worthN
  by_cases c1 : 48 ≤ n ∧ n ≤ 57
  · rw [if_pos c1]
    go_enter Tryz.func226, Tryz.ntmps226
    go_wp2
    go_ret
    exact ⟨ret_int (by omega), rfl⟩
  · rw [if_neg c1]
    by_cases c2 : 97 ≤ n ∧ n ≤ 102
    · rw [if_pos c2]
      go_enter Tryz.func226, Tryz.ntmps226
      go_wp2
      go_ret
      exact ⟨ret_int (by omega), rfl⟩
    · rw [if_neg c2]
      go_enter Tryz.func226, Tryz.ntmps226
      go_wp2
      all_goals (go_ret; exact ⟨rfl, rfl⟩)

theorem sixteen_any (n : Nat) (h : n < 256) (w : World) : Calls Tryz.prog 128 #[.int .u8 (n : Int)] w fun e w' => e = .returned (.int .i64 (worthN n)) ∧ w = w' := by
  unfold worthN
  by_cases c1 : 48 ≤ n ∧ n ≤ 57
  · rw [if_pos c1]
    go_enter Tryz.func128, Tryz.ntmps128
    go_wp2
    go_ret
    exact ⟨ret_int (by omega), rfl⟩
  · rw [if_neg c1]
    by_cases c2 : 97 ≤ n ∧ n ≤ 102
    · rw [if_pos c2]
      go_enter Tryz.func128, Tryz.ntmps128
      go_wp2
      go_ret
      exact ⟨ret_int (by omega), rfl⟩
    · rw [if_neg c2]
      go_enter Tryz.func128, Tryz.ntmps128
      go_wp2
      all_goals (go_ret; exact ⟨rfl, rfl⟩)

/-- what two digits of sixteens stand for -/
def hexOf (a b : Int) : UInt8 := (16 * a + b).toNat.toUInt8
def sixR (s : ByteArray) : UInt8 × Nat :=
  if h : s.size < 4 then (0, 0) else if worthN s[2].toNat < 0 ∨ worthN s[3].toNat < 0 then (0, 0) else (hexOf (worthN s[2].toNat) (worthN s[3].toNat), 4)
/-- the answer is a byte and how many bytes it is written with -/
def ByteTo (r : UInt8 × Nat) (w : World) (e : Ending) (w' : World) : Prop := e = .returned (.tuple #[.int .u8 (r.1.toNat : Int), .int .i64 (r.2 : Int)]) ∧ ∃ n, w' = w.drewN n

theorem ret_byte {a b k j : Int} (h : a = b) (g : k = j) : Ending.returned (.tuple #[.int .u8 a, .int .i64 k]) = .returned (.tuple #[.int .u8 b, .int .i64 j]) := by rw [h, g]
theorem or_nat (a b : Nat) (ha : a < 16) (hb : b < 16) : bits .or .i64 ((a : Int) * 16) (b : Int) = 16 * (a : Int) + b := by
  have : ∀ m n : Fin 16, bits .or .i64 ((m.val : Int) * 16) (n.val : Int) = 16 * (m.val : Int) + n.val := by decide +kernel
  exact this ⟨a, ha⟩ ⟨b, hb⟩

theorem sixteens_any (s : ByteArray) (w : World) (hs : s.size ≤ 70000) : Calls Tryz.prog 210 #[.string s] w (ByteTo (sixR s) w) := by
  unfold sixR
  by_cases c : s.size < 4
  · rw [dif_pos c]
    go_enter Tryz.func210, Tryz.ntmps210
    go_wp2
    go_ret2
    exact ⟨rfl, 0, rfl⟩
  · rw [dif_neg c]
    have h2 : 2 < s.size := by omega
    have h3 : 3 < s.size := by omega
    have j2 : (2 : Int) < (s.size : Int) := by omega
    have j3 : (3 : Int) < (s.size : Int) := by omega
    have k2 := fun (w : World) n => (worth_any s[2].toNat s[2].toNat_lt (w.drewN n)).mono fun e w' (h : _ ∧ _) => show e = _ ∧ w' = w.drewN n from ⟨h.1, h.2.symm⟩
    have k3 := fun (w : World) n => (worth_any s[3].toNat s[3].toNat_lt (w.drewN n)).mono fun e w' (h : _ ∧ _) => show e = _ ∧ w' = w.drewN n from ⟨h.1, h.2.symm⟩
    have b2 := worthN_le s[2].toNat
    have b3 := worthN_le s[3].toNat
    generalize worthN s[2].toNat = a at *
    generalize worthN s[3].toNat = b at *
    by_cases c1 : a < 0 ∨ b < 0
    · rw [if_pos c1]
      have i1 : (decide (a < 0) || decide (b < 0)) = true := by
        rw [Bool.or_eq_true, decide_eq_true_iff, decide_eq_true_iff]; exact c1
      clear c1
      go_enter Tryz.func210, Tryz.ntmps210
      go_wp2_with (fail)
      go_quiet (first | (go_at_call 226; with_reducible refine Calls.quiet_of_same (k2 _ _)) | (go_at_call 226; with_reducible refine Calls.quiet_of_same (k3 _ _)))
      go_wp2
      all_goals (go_ret2; exact ⟨rfl, _, rfl⟩)
    · rw [if_neg c1]
      obtain ⟨n1, n2⟩ := not_or.1 c1
      have i1 : (decide (a < 0) || decide (b < 0)) = false := by
        rw [Bool.or_eq_false_iff, decide_eq_false_iff_not, decide_eq_false_iff_not]; exact ⟨n1, n2⟩
      obtain ⟨x, rfl⟩ := Int.eq_ofNat_of_zero_le (show 0 ≤ a by omega)
      obtain ⟨y, rfl⟩ := Int.eq_ofNat_of_zero_le (show 0 ≤ b by omega)
      have hor := or_nat x y (by omega) (by omega)
      clear c1
      go_enter Tryz.func210, Tryz.ntmps210
      go_wp2_with (fail)
      go_quiet (first | (go_at_call 226; with_reducible refine Calls.quiet_of_same (k2 _ _)) | (go_at_call 226; with_reducible refine Calls.quiet_of_same (k3 _ _)))
      go_wp2
      go_ret2
      refine ⟨ret_byte ?_ rfl, _, rfl⟩
      unfold hexOf; rw [toNat_of _ (by omega)]; omega

/-- what stands at a string's beginning: a byte, and how many bytes it is written with -/
def escS (s : ByteArray) : UInt8 × Nat :=
  if h0 : s.size < 1 then (0, 0)
  else if s[0].toNat ≠ 92 then (s[0], 1)
  else if h1 : s.size < 2 then (0, 0)
  else if s[1].toNat = 92 ∨ s[1].toNat = 34 ∨ s[1].toNat = 39 then (s[1], 2)
  else if s[1].toNat = 110 then (10, 2)
  else if s[1].toNat = 116 then (9, 2)
  else if s[1].toNat = 114 then (13, 2)
  else if s[1].toNat = 120 then sixR s
  else (0, 0)

theorem first_any (s : ByteArray) (w : World) (h0 : 0 < s.size) (hs : s.size ≤ 70000) : Calls Tryz.prog 177 #[.string s] w (ByteTo (escS s) w) := by
  unfold escS
  rw [dif_neg (by omega)]
  by_cases c0 : s[0].toNat ≠ 92
  · rw [if_pos c0]
    go_enter Tryz.func177, Tryz.ntmps177
    go_wp2
    go_ret2
    exact ⟨rfl, 0, rfl⟩
  · rw [if_neg c0]
    have c0' : s[0].toNat = 92 := by omega
    clear c0
    by_cases c1 : s.size < 2
    · rw [dif_pos c1]
      go_enter Tryz.func177, Tryz.ntmps177
      go_wp2
      go_ret2
      exact ⟨rfl, 0, rfl⟩
    · rw [dif_neg c1]
      have h1 : 1 < s.size := by omega
      by_cases c2 : s[1].toNat = 92 ∨ s[1].toNat = 34 ∨ s[1].toNat = 39
      · rw [if_pos c2]
        go_enter Tryz.func177, Tryz.ntmps177
        rcases c2 with c2 | c2 | c2
        all_goals (go_wp2; go_ret2; refine ⟨ret_byte (by show _ = ((s[1].toNat : Nat) : Int); omega) rfl, 0, rfl⟩)
      · rw [if_neg c2]
        have n1 : s[1].toNat ≠ 92 := fun h => c2 (Or.inl h)
        have n2 : s[1].toNat ≠ 34 := fun h => c2 (Or.inr (Or.inl h))
        have n3 : s[1].toNat ≠ 39 := fun h => c2 (Or.inr (Or.inr h))
        clear c2
        by_cases c3 : s[1].toNat = 110
        · rw [if_pos c3]
          go_enter Tryz.func177, Tryz.ntmps177
          go_wp2; go_ret2; exact ⟨rfl, 0, rfl⟩
        · rw [if_neg c3]
          by_cases c4 : s[1].toNat = 116
          · rw [if_pos c4]
            go_enter Tryz.func177, Tryz.ntmps177
            go_wp2; go_ret2; exact ⟨rfl, 0, rfl⟩
          · rw [if_neg c4]
            by_cases c5 : s[1].toNat = 114
            · rw [if_pos c5]
              go_enter Tryz.func177, Tryz.ntmps177
              go_wp2; go_ret2; exact ⟨rfl, 0, rfl⟩
            · rw [if_neg c5]
              by_cases c6 : s[1].toNat = 120
              · rw [if_pos c6]
                have k := fun w => sixteens_any s w hs
                generalize sixR s = r at *
                go_enter Tryz.func177, Tryz.ntmps177
                go_wp2_with (go_at_call 210; refine (k _).mono ?_; rintro e w1 ⟨rfl, n, rfl⟩)
                go_ret2; exact ⟨rfl, _, rfl⟩
              · rw [if_neg c6]
                go_enter Tryz.func177, Tryz.ntmps177
                go_wp2; go_ret2; exact ⟨rfl, 0, rfl⟩

theorem sixR_w (s : ByteArray) : (sixR s).2 ≤ 4 := by unfold sixR; repeat' split
                                                      all_goals simp
theorem escS_w (s : ByteArray) : (escS s).2 ≤ 4 := by
  unfold escS; repeat' split
  all_goals first | exact sixR_w s | simp

/-- a literal's inside, gone through from a place on: the place of the backslash that begins no escape, or the bytes -/
def plainR (s : ByteArray) : Nat → Nat → List UInt8 → Nat ⊕ List UInt8
  | 0, _, acc => .inr acc
  | f + 1, i, acc => if i < s.size then (if (escS (s.extract i s.size)).2 = 0 then .inl i else plainR s f (i + (escS (s.extract i s.size)).2) (acc ++ [(escS (s.extract i s.size)).1])) else .inr acc
def outOf (r : Nat ⊕ List UInt8) : ByteArray × Int × Int :=
  match r with
  | .inl i => (⟨#[]⟩, (i : Int), 5)
  | .inr acc => if acc.length > 4096 then (⟨#[]⟩, 0, 20) else (⟨acc.toArray⟩, 0, 0)
def plainO (s : ByteArray) : ByteArray × Int × Int := if s.size > 65536 then (⟨#[]⟩, 0, 3) else outOf (plainR s s.size 0 [])
/-- the answer is a string, a place and a number -/
def Str3To (r : ByteArray × Int × Int) (w : World) (e : Ending) (w' : World) : Prop := e = .returned (.tuple #[.string r.1, .int .i64 r.2.1, .int .i64 r.2.2]) ∧ Below w.heap.size w w'

theorem outOf_long (acc : List UInt8) (h : acc.length > 4096) : outOf (.inr acc) = (⟨#[]⟩, 0, 20) := by unfold outOf; exact if_pos h
theorem outOf_short (acc : List UInt8) (h : ¬ acc.length > 4096) : outOf (.inr acc) = (⟨acc.toArray⟩, 0, 0) := by unfold outOf; exact if_neg h
theorem plainR_stop (s : ByteArray) (f i : Nat) (acc : List UInt8) (h : i < s.size) (hf : s.size ≤ i + f) (hr : (escS (s.extract i s.size)).2 = 0) : plainR s f i acc = .inl i := by
  obtain ⟨g, rfl⟩ : ∃ g, f = g + 1 := ⟨f - 1, by omega⟩
  unfold plainR; rw [if_pos h, if_pos hr]
theorem plainR_step (s : ByteArray) (f i : Nat) (acc : List UInt8) (h : i < s.size) (hf : s.size ≤ i + f) (hr : (escS (s.extract i s.size)).2 ≠ 0) :
    ∃ g, plainR s f i acc = plainR s g (i + (escS (s.extract i s.size)).2) (acc ++ [(escS (s.extract i s.size)).1]) ∧ s.size ≤ i + (escS (s.extract i s.size)).2 + g := by
  obtain ⟨g, rfl⟩ : ∃ g, f = g + 1 := ⟨f - 1, by omega⟩
  refine ⟨g, ?_, by omega⟩
  rw [plainR, if_pos h, if_neg hr]
theorem plainR_end (s : ByteArray) (f i : Nat) (acc : List UInt8) (h : ¬ i < s.size) : plainR s f i acc = .inr acc := by
  cases f with
  | zero => rfl
  | succ g => unfold plainR; rw [if_neg h]

theorem BB.drewN {B b : Nat} {l : List UInt8} {w0 w : World} (h : BB B b l w0 w) (n : Nat) : BB B b l w0 (w.drewN n) := by
  induction n with
  | zero => exact h
  | succ n ih => exact ih.drew

theorem Plain_any (s : ByteArray) (w : World) (hs : s.size ≤ 70000) : Calls Tryz.prog 124 #[.string s] w (Str3To (plainO s) w) := by
  have b0 := bb_alloc w
  unfold plainO
  by_cases hb : s.size > 65536
  · rw [if_pos hb]
    go_enter Tryz.func124, Tryz.ntmps124
    go_wp2
    go_ret3
    exact ⟨rfl, Below.refl _ _⟩
  · rw [if_neg hb]
    generalize hR : plainR s s.size 0 [] = R
    have HR := Lib.hid hR
    clear hR
    go_enter Tryz.func124, Tryz.ntmps124
    go_wp2_with (fail)
    go_loopw [6] (fun v wr => ∃ (i f : Nat) (acc : List UInt8), v = .int .i64 i ∧ BB w.heap.size w.heap.size acc w wr ∧ Hid (plainR s f i acc = R ∧ s.size ≤ i + f) ∧ acc.length ≤ i ∧ i ≤ s.size + 4) (fun v _ => s.size - (intOf v).toNat)
    case atStart => exact ⟨0, s.size, [], rfl, b0, Lib.hid ⟨HR.out, by omega⟩, Nat.le_refl _, by omega⟩
    case round =>
      obtain ⟨i, f, acc, rfl, h1, H, hal, hi4⟩ := hrel
      by_cases hlt : i < s.size
      · have k := fun w => first_any (s.extract i s.size) w (by simp; omega) (by simp; omega)
        have hw4 := escS_w (s.extract i s.size)
        by_cases hr : (escS (s.extract i s.size)).2 = 0
        · have hq : R = .inl i := H.out.1.symm.trans (plainR_stop s f i acc hlt H.out.2 hr)
          subst hq
          generalize escS (s.extract i s.size) = r at *
          obtain ⟨c, wd⟩ := r
          obtain rfl : wd = 0 := hr
          go_wp2_with (go_at_call 177; refine (k _).mono ?_; rintro e w1 ⟨rfl, n, rfl⟩)
          go_ret3
          exact ⟨rfl, (h1.drewN n).2.1⟩
        · obtain ⟨g, hg1, hg2⟩ := plainR_step s f i acc hlt H.out.2 hr
          have H2 := Lib.hid (And.intro (hg1.symm.trans H.out.1) hg2)
          clear hg1 hg2
          generalize escS (s.extract i s.size) = r at *
          obtain ⟨c, wd⟩ := r
          dsimp only at hr hw4 H2
          have hwd : 0 < wd := by omega
          clear hr
          go_wp2_with (first
            | (go_at_call 177; refine (k _).mono ?_; rintro e w1 ⟨rfl, n, rfl⟩; have h2 := h1.drewN n)
            | (go_at_call 29; refine (wb_byte c h2 (by omega)).mono ?_; rintro e w2 ⟨rfl, h3⟩))
          go_roundw
          case rel => exact ⟨i + wd, g, acc ++ [c], by go_num, h3, H2, by simp; omega, by omega⟩
          case measure => simp [intOf]; omega
      · have hq : R = .inr acc := H.out.1.symm.trans (plainR_end s f i acc hlt)
        subst hq
        by_cases hl : acc.length > 4096
        · go_wp2_with (go_at_call 32; refine (wb_len h1).mono ?_; rintro e w1 ⟨rfl, rfl⟩)
          go_ret3
          refine ⟨?_, h1.2.1⟩
          rw [outOf_long acc hl]; rfl
        · go_wp2_with (first
            | (go_at_call 32; refine (wb_len h1).mono ?_; rintro e w1 ⟨rfl, rfl⟩)
            | (go_at_call 33; refine (wb_string h1).mono ?_; rintro e w2 ⟨rfl, h2⟩))
          go_ret3
          refine ⟨?_, h2⟩
          rw [outOf_short acc hl]; rfl
theorem Plain_all (s : ByteArray) (w : World) (hs : s.size ≤ 9223372036854775807) : Calls Tryz.prog 124 #[.string s] w (Str3To (plainO s) w) := by
  by_cases h : s.size ≤ 70000
  · exact Plain_any s w h
  · have hb : s.size > 65536 := by omega
    unfold plainO
    rw [if_pos hb]
    clear h
    go_enter Tryz.func124, Tryz.ntmps124
    go_wp2
    go_ret3
    exact ⟨rfl, Below.refl _ _⟩
end Go.Proofs.YtgjpcoplnpkmoaaGreatDoor.S
