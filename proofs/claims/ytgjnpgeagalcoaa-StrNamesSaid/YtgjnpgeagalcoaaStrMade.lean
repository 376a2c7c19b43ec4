/-
  StrMade: Join and Repeat, the program's and the document's own: walks.
-/
import Derived.Test.YtgjnpgeagalcoaaStrBase
namespace Go.Proofs.Ytgjnpgeagalcoaa
open Go.RowKit

theorem append_list (a b : ByteArray) : (a ++ b).data.toList = a.data.toList ++ b.data.toList := by simp
theorem append_size (a b : ByteArray) : (a ++ b).size = a.size + b.size := by simp

def joinE (a b : ByteArray) : Int := if a.size + b.size > 4096 then 20 else 0
def joinT (a b : ByteArray) : ByteArray := if a.size + b.size > 4096 then ⟨#[]⟩ else ⟨(a.data.toList ++ b.data.toList).toArray⟩

theorem Join_any (a b : ByteArray) (w : World) (ha : a.size ≤ 9000) (hb : b.size ≤ 9000) : Calls Try.prog 18 #[.string a, .string b] w (StrIntTo (joinT a b) (joinE a b) w) := by
  have h0 := fb_alloc w
  unfold joinT joinE
  by_cases hc : a.size + b.size > 4096
  · rw [if_pos hc, if_pos hc]
    go_enter Try.func18, Try.ntmps18
    go_wp2
    go_ret2
    exact ⟨rfl, Below.refl _ _⟩
  · rw [if_neg hc, if_neg hc]
    go_enter Try.func18, Try.ntmps18
    go_wp2_with (first
      | (go_at_call 35; refine (wb_grow _ (FB.drew h0) (by omega) (by omega)).mono ?_; rintro e w1 ⟨rfl, h1⟩)
      | (go_at_call 35; refine (wb_grow _ h0 (by omega) (by omega)).mono ?_; rintro e w1 ⟨rfl, h1⟩)
      | (go_at_call 37; ((with_reducible refine (wb_str a h1 (by simp; omega)).mono ?_); rintro e w2 ⟨rfl, h2⟩))
      | (go_at_call 37; ((with_reducible refine (wb_str b h2 (by simp; omega)).mono ?_); rintro e w2 ⟨rfl, h3⟩))
      | (go_at_call 34; refine (wb_string h3).mono ?_; rintro e w3 ⟨rfl, h4⟩))
    go_ret2
    exact ⟨rfl, h4⟩

theorem refJoin_any (a b : ByteArray) (w : World) (ha : a.size ≤ 9000) (hb : b.size ≤ 9000) : Calls Try.prog 19 #[.string a, .string b] w (StrIntTo (joinT a b) (joinE a b) w) := by
  unfold joinT joinE
  by_cases hc : a.size + b.size > 4096
  · rw [if_pos hc, if_pos hc]
    go_enter Try.func19, Try.ntmps19
    go_wp2
    go_ret2
    exact ⟨rfl, Below.refl _ _⟩
  · rw [if_neg hc, if_neg hc]
    have e1 : (⟨(a.data.toList ++ b.data.toList).toArray⟩ : ByteArray) = a ++ b := str_ext (append_list a b).symm
    rw [e1]
    clear e1
    go_enter Try.func19, Try.ntmps19
    go_wp2
    go_ret2
    exact ⟨rfl, Below.refl _ _⟩

/-- a list of bytes so many times -/
def reps (l : List UInt8) : Nat → List UInt8
  | 0 => []
  | k + 1 => reps l k ++ l
theorem reps_len (l : List UInt8) (k : Nat) : (reps l k).length = k * l.length := by
  induction k with
  | zero => simp [reps]
  | succ k ih => rw [reps, List.length_append, ih, Nat.succ_mul]

def repE (s : ByteArray) (n : Int) : Int := if n < 0 then 2 else if s.size = 0 then 0 else if n.toNat * s.size > 4096 then 20 else 0
def repT (s : ByteArray) (n : Int) : ByteArray := if n < 0 then ⟨#[]⟩ else if s.size = 0 then ⟨#[]⟩ else if n.toNat * s.size > 4096 then ⟨#[]⟩ else ⟨(reps s.data.toList n.toNat).toArray⟩

theorem over_div (n m : Nat) (hm : 0 < m) : n * m > 4096 ↔ 4096 / m < n := by
  rw [Nat.div_lt_iff_lt_mul hm]
theorem quo_nat (m : Nat) : (4096 : Int) / (m : Int) = ((4096 / m : Nat) : Int) := by rw [Int.natCast_ediv]; rfl
theorem mul_nat (k m : Nat) (h : k * m ≤ 4096) : wrap64 ((k : Int) * (m : Int)) = ((k * m : Nat) : Int) := by
  rw [← Int.natCast_mul]; generalize k * m = p at *; unfold wrap64; omega

theorem Repeat_any (s : ByteArray) (n : Int) (w : World) (hs : s.size ≤ 9000) (hn : -9223372036854775808 ≤ n ∧ n ≤ 9223372036854775807) : Calls Try.prog 13 #[.string s, .int .i64 n] w (StrIntTo (repT s n) (repE s n) w) := by
  have h0 := fb_alloc w
  have b0 := bb_alloc w
  unfold repT repE
  by_cases c1 : n < 0
  · rw [if_pos c1, if_pos c1]
    go_enter Try.func13, Try.ntmps13
    go_wp2
    go_ret2
    exact ⟨rfl, Below.refl _ _⟩
  · rw [if_neg c1, if_neg c1]
    by_cases c2 : s.size = 0
    · rw [if_pos c2, if_pos c2]
      have hz : s.toList = [] := by rw [toList_data]; exact List.eq_nil_of_length_eq_zero (by rw [← size_len]; exact c2)
      go_enter Try.func13, Try.ntmps13
      go_wp2
      go_ret2
      exact ⟨rfl, Below.refl _ _⟩
    · rw [if_neg c2, if_neg c2]
      have hz : s.toList.isEmpty = false := by
        rw [toList_data]
        cases h : s.data.toList with
        | nil => exact absurd (by rw [size_len, h]; rfl) c2
        | cons a b => rfl
      obtain ⟨k, rfl⟩ := Int.eq_ofNat_of_zero_le (show 0 ≤ n by omega)
      simp only [Int.toNat_natCast]
      have hm : 0 < s.size := by omega
      have hq := quo_nat s.size
      by_cases c3 : k * s.size > 4096
      · rw [if_pos c3, if_pos c3]
        have c4 := (over_div k s.size hm).1 c3
        obtain ⟨q, hq2⟩ : ∃ q, q = 4096 / s.size := ⟨_, rfl⟩
        rw [← hq2] at hq c4
        clear c3 hq2
        go_enter Try.func13, Try.ntmps13
        go_wp2
        go_ret2
        exact ⟨rfl, Below.refl _ _⟩
      · rw [if_neg c3, if_neg c3]
        have c4 : ¬ 4096 / s.size < k := fun h => c3 ((over_div k s.size hm).2 h)
        have c5 : k * s.size ≤ 4096 := by omega
        have hmul := mul_nat k s.size c5
        have HK := Lib.hid c5
        obtain ⟨q, hq2⟩ : ∃ q, q = 4096 / s.size := ⟨_, rfl⟩
        rw [← hq2] at hq c4
        obtain ⟨p, hp⟩ : ∃ p, p = k * s.size := ⟨_, rfl⟩
        rw [← hp] at hmul c5
        clear c3 hq2 hp
        go_enter Try.func13, Try.ntmps13
        go_wp2_with (first
          | (go_at_call 35; refine (wb_grow _ (FB.drew h0) (by omega) (by omega)).mono ?_; rintro e w1 ⟨rfl, h1⟩)
          | (go_at_call 35; refine (wb_grow _ h0 (by omega) (by omega)).mono ?_; rintro e w1 ⟨rfl, h1⟩))
        go_loopw [25] (fun i wr => ∃ j : Nat, j ≤ k ∧ i = .int .i64 j ∧ BB w.heap.size w.heap.size (reps s.data.toList j) w wr) (fun i _ => k - (intOf i).toNat)
        case atStart => exact ⟨0, Nat.zero_le _, rfl, h1⟩
        case round =>
          obtain ⟨j, hj, rfl, h2⟩ := hrel
          by_cases hlt : j < k
          · have hlen : (reps s.data.toList j).length + s.size ≤ 140737488355328 := by
              rw [reps_len, ← size_len, ← Nat.succ_mul]
              exact Nat.le_trans (Nat.mul_le_mul_right _ hlt) (Nat.le_trans HK.out (by decide))
            go_wp2_with (go_at_call 37; refine (wb_str s h2 hlen).mono ?_; rintro e w2 ⟨rfl, h3⟩)
            go_roundw
            case rel => exact ⟨j + 1, hlt, by go_num, h3⟩
            case measure => simp [intOf]; omega
          · obtain rfl : j = k := by omega
            go_wp2_with (go_at_call 34; refine (wb_string h2).mono ?_; rintro e w2 ⟨rfl, h3⟩)
            go_ret2
            exact ⟨rfl, h3⟩

theorem refRepeat_any (s : ByteArray) (n : Int) (w : World) (hs : s.size ≤ 9000) (hn : -9223372036854775808 ≤ n ∧ n ≤ 9223372036854775807) : Calls Try.prog 20 #[.string s, .int .i64 n] w (StrIntTo (repT s n) (repE s n) w) := by
  unfold repT repE
  by_cases c1 : n < 0
  · rw [if_pos c1, if_pos c1]
    go_enter Try.func20, Try.ntmps20
    go_wp2
    go_ret2
    exact ⟨rfl, Below.refl _ _⟩
  · rw [if_neg c1, if_neg c1]
    by_cases c2 : s.size = 0
    · rw [if_pos c2, if_pos c2]
      have hz : s.toList = [] := by rw [toList_data]; exact List.eq_nil_of_length_eq_zero (by rw [← size_len]; exact c2)
      go_enter Try.func20, Try.ntmps20
      go_wp2
      go_ret2
      exact ⟨rfl, Below.refl _ _⟩
    · rw [if_neg c2, if_neg c2]
      have hz : s.toList.isEmpty = false := by
        rw [toList_data]
        cases h : s.data.toList with
        | nil => exact absurd (by rw [size_len, h]; rfl) c2
        | cons a b => rfl
      obtain ⟨k, rfl⟩ := Int.eq_ofNat_of_zero_le (show 0 ≤ n by omega)
      simp only [Int.toNat_natCast]
      have hm : 0 < s.size := by omega
      clear c2
      generalize hT : (if k * s.size > 4096 then (⟨#[]⟩ : ByteArray) else ⟨(reps s.data.toList k).toArray⟩) = T
      generalize hE : (if k * s.size > 4096 then (20 : Int) else 0) = E
      have HT := Lib.hid hT
      have HE := Lib.hid hE
      clear hT hE
      go_enter Try.func20, Try.ntmps20
      go_wp2_with (fail)
      clear hz
      go_loop [6, 7] (fun o i => ∃ (j : Nat) (t : ByteArray), j ≤ k ∧ i = .int .i64 j ∧ o = .string t ∧ t.data.toList = reps s.data.toList j ∧ t.size ≤ 4096) (fun _ i => k - (intOf i).toNat)
      case atStart => exact ⟨0, ⟨#[]⟩, Nat.zero_le _, rfl, rfl, rfl, by decide⟩
      case round =>
        obtain ⟨j, t, hj, rfl, rfl, ht, htz⟩ := hrel
        have htl : t.size = j * s.size := by rw [size_len, ht, reps_len, size_len]
        by_cases hlt : j < k
        · have hs1 : t.size + s.size = (j + 1) * s.size := by rw [htl, Nat.succ_mul]
          have hap : (t ++ s).data.toList = reps s.data.toList (j + 1) := by rw [append_list, ht]; rfl
          have hasz := append_size t s
          have HAP := Lib.hid hap
          by_cases c3 : t.size + s.size > 4096
          · have c4 : k * s.size > 4096 := Nat.lt_of_lt_of_le (by rw [← hs1]; exact c3) (Nat.mul_le_mul_right _ hlt)
            have e1 := HT.out
            have e2 := HE.out
            rw [if_pos c4] at e1 e2
            subst e1 e2
            clear c4 htl hs1 hap ht
            go_wp2
            go_ret2
            exact ⟨rfl, Below.refl _ _⟩
          · clear htl hs1 hap ht
            go_wp2
            go_round
            case rel => exact ⟨j + 1, t ++ s, hlt, by go_num, rfl, HAP.out, by omega⟩
            case measure => simp [intOf]; omega
        · obtain rfl : j = k := by omega
          have c4 : ¬ j * s.size > 4096 := by rw [← htl]; omega
          have e1 := HT.out
          have e2 := HE.out
          rw [if_neg c4] at e1 e2
          rw [← ht, mk_of] at e1
          subst e1 e2
          clear ht htl c4
          go_wp2
          go_ret2
          exact ⟨rfl, Below.refl _ _⟩

theorem below_size {B : Nat} {w w' : World} (h : Below B w w') : w.heap.size ≤ w'.heap.size := h.size
theorem below_up {w w1 w2 : World} (h1 : Below w.heap.size w w1) (h2 : Below w1.heap.size w1 w2) : Below w.heap.size w w2 := h1.trans (h2.mono (below_size h1))

/-- two calls that give the same string and the same number -/
theorem StrMade_walk (a b : ByteArray) (n : Int) (w : World) (_ : a.size ≤ maxLen) (_ : b.size ≤ maxLen) (hn0 : (Lit.int .i64 n).wf = true) :
    Calls Try.prog 4 #[.string a, .string b, .int .i64 n] w fun e w' => e = .returned (.bool true) ∧ Below w.heap.size w w' := by
  have hn := int_wf hn0
  clear hn0
  by_cases hc : a.size > 9000 ∨ b.size > 9000
  · go_enter Try.func4, Try.ntmps4
    go_wp2
    all_goals (go_ret; exact ⟨rfl, Below.refl _ _⟩)
  · have ha : a.size ≤ 9000 := by omega
    have hb : b.size ≤ 9000 := by omega
    have k1 := fun w => Join_any a b w ha hb
    have k2 := fun w => refJoin_any a b w ha hb
    have k3 := fun w => Repeat_any a n w ha hn
    have k4 := fun w => refRepeat_any a n w ha hn
    generalize joinT a b = t at *
    generalize joinE a b = j at *
    generalize repT a n = u at *
    generalize repE a n = i at *
    clear hc
    go_enter Try.func4, Try.ntmps4
    go_wp2_with (first
      | (go_at_call 18; refine (k1 _).mono ?_; rintro e w1 ⟨rfl, h1⟩)
      | (go_at_call 19; refine (k2 _).mono ?_; rintro e w2 ⟨rfl, h2⟩)
      | (go_at_call 13; refine (k3 _).mono ?_; rintro e w3 ⟨rfl, h3⟩)
      | (go_at_call 20; refine (k4 _).mono ?_; rintro e w4 ⟨rfl, h4⟩))
    go_ret
    exact ⟨rfl, below_up (below_up (below_up h1 h2) h3) h4⟩
end Go.Proofs.Ytgjnpgeagalcoaa
