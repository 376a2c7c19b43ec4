/-
  Keys: key.Index, rank: walks.
-/
import Derived.Test.YtlfbflclefndjaaGreatDoorKE03
import Derived.Deep.QuietTactic
import Derived.Deep.RegionHeld3
namespace Go.Proofs.YtlfbflclefndjaaGreatDoor.S
open Go.RowKit Fl

def IdxTo (o : Option Nat) (w : World) (e : Ending) (w' : World) : Prop := e = .returned (.tuple #[.int .i64 (o.getD 0 : Nat), .bool o.isSome]) ∧ Below w.heap.size w w'

theorem eq_strs (d : Nat) (s t : ByteArray) (W : World) : (Op.equalIn (d + 1) 9 (.string s) (.string t)).run Tryz.prog W = .ok (s == t) W := by
  simp [Op.equalIn, run_underlying Tryz.underlying9]
theorem eq_ints (d : Nat) (s t : Int) (W : World) : (Op.equalIn (d + 1) 3 (.int .i64 s) (.int .i64 t)).run Tryz.prog W = .ok (s == t) W := by
  simp [Op.equalIn, run_underlying Tryz.underlying3]
theorem part_0 (s : ByteArray) (m : Int) (W : World) : (part 9 #[.string s, .int .i64 m] 0).run Tryz.prog W = .ok (.string s) W := by
  simp [part, Tryz.isAgg9]
theorem part_1 (s : ByteArray) (m : Int) (W : World) : (part 3 #[.string s, .int .i64 m] 1).run Tryz.prog W = .ok (.int .i64 m) W := by
  simp [part, Tryz.isAgg3]
theorem key_eq (d : Nat) (s t : ByteArray) (m k : Int) (W : World) : (Op.equalIn (d + 2) 26 (.agg #[.string s, .int .i64 m]) (.agg #[.string t, .int .i64 k])).run Tryz.prog W = .ok ((s == t) && (m == k)) W := by
  have e1 := eq_strs d s t
  have e2 := eq_ints d m k
  have p0 := part_0
  have p1 := part_1
  generalize (s == t) = b1 at *
  generalize (m == k) = b2 at *
  unfold Op.equalIn
  simp [run_underlying Tryz.underlying26, e1, e2, p0, p1]
  cases b1 <;> cases b2 <;> simp
theorem str_beq {a b : ByteArray} (h : (a == b) = true) : a = b := by
  cases a; cases b
  exact congrArg ByteArray.mk (eq_of_beq h)
theorem str_same (a : ByteArray) : (a == a) = true := by
  cases a with
  | mk d => exact beq_self_eq_true d
theorem str_is {s : ByteArray} {l : List UInt8} (h : s.data.toList = l) : (s == ⟨l.toArray⟩) = true := by
  have e : s = ⟨l.toArray⟩ := bytes_ext (by rw [h])
  rw [← e]
  exact str_same s
theorem str_was {s : ByteArray} {l : List UInt8} (h : (s == ⟨l.toArray⟩) = true) : s.data.toList = l := by
  rw [str_beq h]
theorem tab_up {w w1 : World} (h : TabHere w) (g : Below w.heap.size w w1) : TabHere w1 := fun w2 h2 => h w2 (vb g h2)
theorem kb0 {w w1 : World} (h : Below w.heap.size w w1) (a : Nat) : Below w.heap.size w (w1.drewN a) := h.trans ((below_drawn w1 a).mono h.size)
theorem kb1 {w w1 : World} (h : Below w.heap.size w w1) (a b i : Nat) (v : Value) : Below w.heap.size w (((w1.drewN a).setCell ⟨w.heap.size, i, none⟩ v).drewN b) :=
  kb0 ((kb0 h a).setCell (p := ⟨w.heap.size, i, none⟩) (Nat.le_refl _) v) b

theorem idx_no {c : Cl} {x : Nat} (h : Is c x) (hB : idxB c = false) (w : World) : Calls Tryz.prog 109 #[.float .f64 x] w fun e w' => ∃ n, e = .returned (.tuple #[.int .i64 0, .bool false]) ∧ w' = w.drewN n := by
  have hI : idxI c = 0 := by unfold idxI; rw [hB]; rfl
  have := Index_cls h w
  rw [show DrawnIdx c = fun w e w' => ∃ n, e = .returned (.tuple #[.int .i64 0, .bool false]) ∧ w' = w.drewN n by unfold DrawnIdx; rw [hB, hI]] at this
  exact this
set_option maxHeartbeats 1000000 in
/-- read, but no index' number -/
theorem Index_no (s : ByteArray) (y : Int) (w : World) (hy : -2 ^ 63 ≤ y ∧ y < 2 ^ 63)
    (hr : ∀ w, Calls Tryz.prog 108 #[.string s] w fun e w' => ∃ v' c, (Is c v' ∧ idxB c = false) ∧ e = .returned (.tuple #[.float .f64 v', .int .i64 0]) ∧ Below w.heap.size w w') :
    Calls Tryz.prog 100 #[.agg #[.string s, .int .i64 y]] w (IdxTo none w) := by
  have hm : -2 ^ 63 ≤ max y 0 ∧ max y 0 < 2 ^ 63 := by omega
  generalize hmm : max y 0 = m at *
  have HM := Lib.hid hmm
  go_enter Tryz.func100, Tryz.ntmps100
  go_wp2_with (first
    | (go_at_call 108; refine (hr _).mono ?_; rintro e w1 ⟨v', c, ⟨hc, hB⟩, rfl, h1⟩; have hi := fun w => idx_no hc hB w; have HC := Lib.hid hc; have HBB := Lib.hid hB; clear hc hB; have hb1 := vblk1 h1; have hz1 := vlt1 h1; obtain ⟨hc0, hc1, hfr⟩ := kc2 hb1; have HB1 := Lib.hid hb1; clear hb1; have H1 := Lib.hid (vafter h1); clear h1)
    | (go_at_call 109; refine (hi _).mono ?_; rintro e w2 ⟨nq, rfl, rfl⟩))
  go_quiet (fail)
  go_wp2
  go_ret2
  refine ⟨rfl, ?_⟩
  exact kb1 H1.out _ _ _ _
set_option maxHeartbeats 1000000 in
/-- not read -/
theorem Index_bad (s : ByteArray) (y : Int) (w : World) (hy : -2 ^ 63 ≤ y ∧ y < 2 ^ 63)
    (hr : ∀ w, Calls Tryz.prog 108 #[.string s] w fun e w' => e = .returned (.tuple #[.float .f64 0, .int .i64 10]) ∧ Below w.heap.size w w') :
    Calls Tryz.prog 100 #[.agg #[.string s, .int .i64 y]] w (IdxTo none w) := by
  have hi := fun w => Index_cls (show Is (.ours 0) 0 from ⟨F_zero.symm, by unfold SafeN; omega⟩) w
  have hB : idxB (.ours 0) = true := by decide
  have hI : idxI (.ours 0) = 0 := by unfold idxI; rw [hB]; rfl
  rw [show DrawnIdx (.ours 0) = fun w e w' => ∃ q, e = .returned (.tuple #[.int .i64 0, .bool true]) ∧ w' = w.drewN q by unfold DrawnIdx; rw [hB, hI]] at hi
  clear hB hI
  have hm : -2 ^ 63 ≤ max y 0 ∧ max y 0 < 2 ^ 63 := by omega
  generalize hmm : max y 0 = m at *
  have HM := Lib.hid hmm
  go_enter Tryz.func100, Tryz.ntmps100
  go_wp2_with (first
    | (go_at_call 108; refine (hr _).mono ?_; rintro e w1 ⟨rfl, h1⟩; have hb1 := vblk1 h1; have hz1 := vlt1 h1; obtain ⟨hc0, hc1, hfr⟩ := kc2 hb1; have HB1 := Lib.hid hb1; clear hb1; have H1 := Lib.hid (vafter h1); clear h1)
    | (go_at_call 109; refine (hi _).mono ?_; rintro e w2 ⟨nq, rfl, rfl⟩))
  go_quiet (fail)
  go_wp2
  go_ret2
  refine ⟨rfl, ?_⟩
  exact kb1 H1.out _ _ _ _
theorem number_keep (n : Int) (h0 : -9223372036854775808 ≤ n) (h1 : n ≤ 9223372036854775807) (g : Nat) (w0 w : World) (hg : g < w.heap.size) (hb : Below w0.heap.size w0 w) (htab : TabHere w0) :
    Calls Tryz.prog 110 #[.int .i64 n] w fun e w' => e = .returned (.agg #[.string ⟨(Lib.itoa n).toArray⟩, .int .i64 0]) ∧ g < w'.heap.size ∧ Below w0.heap.size w0 w' ∧ ∀ o, w'.cell? ⟨g, o, none⟩ = w.cell? ⟨g, o, none⟩ :=
  (Number_k n h0 h1 w (tab_up htab hb)).mono fun _ _ ⟨he, h⟩ => ⟨he, Nat.lt_of_lt_of_le hg h.size, vb hb h, fun o => h.cell (p := ⟨g, o, none⟩) hg⟩

set_option maxHeartbeats 1000000 in
/-- an index' number: whether its own text is the key's -/
theorem Index_yes (s : ByteArray) (y : Int) (w : World) (hy : -2 ^ 63 ≤ y ∧ y < 2 ^ 63) (n : Int) (hn : 0 ≤ n ∧ n < 1024) (htab : TabHere w)
    (hr : ∀ w, Calls Tryz.prog 108 #[.string s] w fun e w' => ∃ v' k', (v' = F n ∧ k' = 0) ∧ e = .returned (.tuple #[.float .f64 v', .int .i64 k']) ∧ Below w.heap.size w w') :
    Calls Tryz.prog 100 #[.agg #[.string s, .int .i64 y]] w (IdxTo (if y ≤ 0 ∧ s.data.toList = Lib.itoa n then some n.toNat else none) w) := by
  have hi := fun w => Index_cls (show Is (.ours n) (F n) from ⟨rfl, by unfold SafeN; omega⟩) w
  have hB : idxB (.ours n) = true := by unfold idxB; simp; omega
  have hI : idxI (.ours n) = n := by unfold idxI; rw [hB]; rfl
  rw [show DrawnIdx (.ours n) = fun w e w' => ∃ q, e = .returned (.tuple #[.int .i64 n, .bool true]) ∧ w' = w.drewN q by unfold DrawnIdx; rw [hB, hI]] at hi
  have hN := fun w ht => Number_k n (by omega) (by omega) w ht
  have HTAB := Lib.hid htab
  generalize hv : F n = v at *
  have hm : -2 ^ 63 ≤ max y 0 ∧ max y 0 < 2 ^ 63 := by omega
  generalize hmm : max y 0 = m at *
  have HM := Lib.hid hmm
  generalize ht : (⟨(Lib.itoa n).toArray⟩ : ByteArray) = t at *
  have HT := Lib.hid ht
  generalize ho : (if y ≤ 0 ∧ s.data.toList = Lib.itoa n then some n.toNat else none) = o at *
  have HO := Lib.hid ho
  clear hB hI htab ht hv ho
  go_enter Tryz.func100, Tryz.ntmps100
  go_wp2_with (first
    | (go_at_call 108; refine (hr _).mono ?_; rintro e w1 ⟨v', k', ⟨rfl, rfl⟩, rfl, h1⟩; have hb1 := vblk1 h1; have hz1 := vlt1 h1; obtain ⟨hc0, hc1, hfr⟩ := kc2 hb1; have HB1 := Lib.hid hb1; clear hb1; have H1 := Lib.hid (vafter h1); clear h1)
    | (go_at_call 109; refine (hi _).mono ?_; rintro e w2 ⟨nq, rfl, rfl⟩))
  have hc2 := kc2 (w := (w1.drewN nq).setCell ⟨w.heap.size, 1, none⟩ (.int .i64 m)) (vset1 (w := w1.drewN nq) HB1.out 1 (.int .i64 m))
  have H2 : Below w.heap.size w ((w1.drewN nq).setCell ⟨w.heap.size, 1, none⟩ (.int .i64 m)) := kb1 H1.out nq 0 1 (.int .i64 m)
  have hz2 : w.heap.size < ((w1.drewN nq).setCell ⟨w.heap.size, 1, none⟩ (.int .i64 m)).heap.size := by simp; exact hz1
  generalize (w1.drewN nq).setCell ⟨w.heap.size, 1, none⟩ (.int .i64 m) = w2 at *
  obtain ⟨hd0, hd1, _⟩ := hc2
  clear hc0 hc1 hfr HB1 H1 hz1 hr hi
  have hd := H2.drew
  have kk := fun W hg hb => number_keep n (by omega) (by omega) w.heap.size w W hg hb HTAB.out
  rw [HT.out] at kk
  clear hN
  have q1 := eq_strs 9998 s t
  have q2 := eq_ints 9998 m 0
  have q3 := key_eq 9998 s t m 0
  cases hst : (s == t) <;> cases hm0 : (m == 0) <;> rw [hst] at q1 q3 <;> rw [hm0] at q2 q3
  all_goals
    go_region_held3 (fun w' => w.heap.size < w'.heap.size ∧ Below w.heap.size w w' ∧ w'.cell? ⟨w.heap.size, 0, none⟩ = some (.string s) ∧ w'.cell? ⟨w.heap.size, 1, none⟩ = some (.int .i64 m)) (first | exact ⟨hz2, hd, hd0, hd1⟩ | go_keep)
      (first | (go_at_call 110; refine (kk _ ?_ ?_).mono ?_; (simp [*]); (simp [*]); rintro e w' ⟨rfl, hb1, hb2, hb3⟩))
  all_goals
    have HS := Lib.hid hst
    have HM0 := Lib.hid hm0
    clear hst hm0 q1 q2 q3
    go_wp2
    go_ret2
    refine ⟨?_, by assumption⟩
    have ho := HO.out
    have ht := HT.out
    have hmm := HM.out
    have hs' := HS.out
    have hm' := HM0.out
    subst ht
  · rw [if_neg (fun g => by rw [str_is g.2] at hs'; cases hs')] at ho
    rw [← ho]; rfl
  · rw [if_neg (fun g => by rw [str_is g.2] at hs'; cases hs')] at ho
    rw [← ho]; rfl
  · have : m ≠ 0 := by simpa using hm'
    rw [if_neg (fun g => by omega)] at ho
    rw [← ho]; rfl
  · have : m = 0 := by simpa using hm'
    rw [if_pos ⟨by omega, str_was hs'⟩] at ho
    rw [← ho]
    have e : ((n.toNat : Nat) : Int) = n := by omega
    show Ending.returned (.tuple #[.int .i64 n, .bool true]) = .returned (.tuple #[.int .i64 ((n.toNat : Nat) : Int), .bool true])
    rw [e]

/-- key.Index, for any key -/
theorem Index_k (s : ByteArray) (y : Int) (w : World) (hs : s.size ≤ maxLen) (hy : -2 ^ 63 ≤ y ∧ y < 2 ^ 63) (htab : TabHere w) : Calls Tryz.prog 100 #[.agg #[.string s, .int .i64 y]] w (IdxTo (ixK s y) w) := by
  have hr := fun w => Read_any s w hs
  unfold ixK idxO
  cases hR : readR s.data.toList with
  | nan =>
    rw [hR] at hr
    have := Index_no s y w hy fun w => (hr w).mono fun e w' ⟨v, k, ⟨h1, h2⟩, h3, h4⟩ => ⟨v, .nan, ⟨h1, rfl⟩, by rw [h3, h2], h4⟩
    simpa using this
  | err j =>
    rw [hR] at hr
    have hj := bareR_err hR
    subst hj
    have := Index_bad s y w hy fun w => (hr w).mono fun e w' ⟨v, k, ⟨h1, h2⟩, h3, h4⟩ => ⟨by rw [h3, h1, h2], h4⟩
    simpa using this
  | ok n =>
    rw [hR] at hr
    by_cases hn : 0 ≤ n ∧ n < 1024
    · have := Index_yes s y w hy n hn htab fun w => (hr w).mono fun e w' ⟨v, k, ⟨h1, h2⟩, h3, h4⟩ => ⟨v, k, ⟨h1.1, h2⟩, h3, h4⟩
      have e : (if y ≤ 0 then (if 0 ≤ n ∧ n < 1024 ∧ s.data.toList = Lib.itoa n then some n.toNat else none) else none) = if y ≤ 0 ∧ s.data.toList = Lib.itoa n then some n.toNat else none := by
        by_cases c1 : y ≤ 0
        · by_cases c2 : s.data.toList = Lib.itoa n
          · rw [if_pos c1, if_pos ⟨hn.1, hn.2, c2⟩, if_pos ⟨c1, c2⟩]
          · rw [if_pos c1, if_neg (fun h => c2 h.2.2), if_neg (fun h => c2 h.2)]
        · rw [if_neg c1, if_neg (fun h => c1 h.1)]
      show Calls _ _ _ w (IdxTo (if y ≤ 0 then (if 0 ≤ n ∧ n < 1024 ∧ s.data.toList = Lib.itoa n then some n.toNat else none) else none) w)
      rw [e]; exact this
    · have hB : idxB (.ours n) = false := by
        unfold idxB
        simp only [Bool.and_eq_false_iff, decide_eq_false_iff_not]
        omega
      have := Index_no s y w hy fun w => (hr w).mono fun e w' ⟨v, k, ⟨h1, h2⟩, h3, h4⟩ => ⟨v, .ours n, ⟨h1, hB⟩, by rw [h3, h2], h4⟩
      have e : (if y ≤ 0 then (if 0 ≤ n ∧ n < 1024 ∧ s.data.toList = Lib.itoa n then some n.toNat else none) else none) = none := by
        by_cases c1 : y ≤ 0
        · rw [if_pos c1, if_neg (fun h => hn ⟨h.1, h.2.1⟩)]
        · rw [if_neg c1]
      show Calls _ _ _ w (IdxTo (if y ≤ 0 then (if 0 ≤ n ∧ n < 1024 ∧ s.data.toList = Lib.itoa n then some n.toNat else none) else none) w)
      rw [e]; exact this

theorem rank_k (s : ByteArray) (y : Int) (w : World) (hs : s.size ≤ maxLen) (hy : -2 ^ 63 ≤ y ∧ y < 2 ^ 63) (htab : TabHere w) : Calls Tryz.prog 111 #[.agg #[.string s, .int .i64 y]] w fun e w' => e = .returned (.int .i64 (rkK s y : Nat)) ∧ Below w.heap.size w w' := by
  have hI := fun w ht => Index_k s y w hs hy ht
  have hS := fun w => keysymbol_k s y w
  have HTAB := Lib.hid htab
  obtain ⟨o, ho⟩ : ∃ o, o = ixK s y := ⟨_, rfl⟩
  have hr : rkK s y = rkO o y := by rw [ho]; rfl
  rw [← ho] at hI
  generalize rkK s y = r at *
  clear htab ho
  cases o with
  | some n =>
    have hr2 : r = n := hr
    clear hr
    subst hr2
    clear hS hy hs
    unfold IdxTo at hI
    simp only [Option.getD_some, Option.isSome_some] at hI
    go_enter Tryz.func111, Tryz.ntmps111
    go_wp2_with (go_at_call 100; refine (hI _ (tab_up HTAB.out (vzero _ _))).mono ?_; rintro e w1 ⟨rfl, h1⟩; have hb1 := vblk1 h1; have hz1 := vlt1 h1; obtain ⟨hc0, hc1, hfr⟩ := kc2 hb1; clear hb1; have H1 := Lib.hid (vafter h1); clear h1)
    go_ret
    exact ⟨rfl, H1.out⟩
  | none =>
    unfold IdxTo at hI
    simp only [Option.getD_none, Option.isSome_none] at hI
    by_cases c1 : y ≤ 0
    · have hr2 : r = 1024 := by rw [hr]; show (if y ≤ 0 then 1024 else 1025) = 1024; rw [if_pos c1]
      clear hr
      subst hr2
      have hd : decide (0 < y) = false := by simp; omega
      rw [hd] at hS
      go_enter Tryz.func111, Tryz.ntmps111
      go_wp2_with (first
        | (go_at_call 100; refine (hI _ (tab_up HTAB.out (vzero _ _))).mono ?_; rintro e w1 ⟨rfl, h1⟩; have hb1 := vblk1 h1; have hz1 := vlt1 h1; obtain ⟨hc0, hc1, hfr⟩ := kc2 hb1; clear hb1; have H1 := Lib.hid (vafter h1); clear h1)
        | (go_at_call 65; refine (hS _).mono ?_; rintro e w2 ⟨rfl, h2⟩; have H2 := Lib.hid (vb H1.out h2); clear h2))
      go_ret
      exact ⟨rfl, H2.out⟩
    · have hr2 : r = 1025 := by rw [hr]; show (if y ≤ 0 then 1024 else 1025) = 1025; rw [if_neg c1]
      clear hr
      subst hr2
      have hd : decide (0 < y) = true := by simp; omega
      rw [hd] at hS
      go_enter Tryz.func111, Tryz.ntmps111
      go_wp2_with (first
        | (go_at_call 100; refine (hI _ (tab_up HTAB.out (vzero _ _))).mono ?_; rintro e w1 ⟨rfl, h1⟩; have hb1 := vblk1 h1; have hz1 := vlt1 h1; obtain ⟨hc0, hc1, hfr⟩ := kc2 hb1; clear hb1; have H1 := Lib.hid (vafter h1); clear h1)
        | (go_at_call 65; refine (hS _).mono ?_; rintro e w2 ⟨rfl, h2⟩; have H2 := Lib.hid (vb H1.out h2); clear h2))
      go_ret
      exact ⟨rfl, H2.out⟩
end Go.Proofs.YtlfbflclefndjaaGreatDoor.S
