/-
  Keys: key.Index, rank: walks.
-/
import Derived.Test.YtlgbnfcnimjheaaDoorDN05
import Derived.Deep.QuietTactic
import Derived.Deep.RegionHeld3
import Derived.Test.YtlgbnfcnimjheaaDoorDN02
import Derived.Deep.CutRange
namespace Go.Proofs.YtlgbnfcnimjheaaDoor.S
open Go.RowKit Fl

def IdxTo (o : Option Nat) (w : World) (e : Ending) (w' : World) : Prop := e = .returned (.tuple #[.int .i64 (o.getD 0 : Nat), .bool o.isSome]) ∧ Below w.heap.size w w'

theorem eq_strs (d : Nat) (s t : ByteArray) (W : World) : (Op.equalIn (d + 1) 9 (.string s) (.string t)).run Tryd.prog W = .ok (s == t) W := by
  simp [Op.equalIn, run_underlying Tryd.underlying9]
theorem eq_ints (d : Nat) (s t : Int) (W : World) : (Op.equalIn (d + 1) 3 (.int .i64 s) (.int .i64 t)).run Tryd.prog W = .ok (s == t) W := by
  simp [Op.equalIn, run_underlying Tryd.underlying3]
theorem part_0 (s : ByteArray) (m : Int) (W : World) : (part 9 #[.string s, .int .i64 m] 0).run Tryd.prog W = .ok (.string s) W := by
  simp [part, Tryd.isAgg9]
theorem part_1 (s : ByteArray) (m : Int) (W : World) : (part 3 #[.string s, .int .i64 m] 1).run Tryd.prog W = .ok (.int .i64 m) W := by
  simp [part, Tryd.isAgg3]
theorem key_eq (d : Nat) (s t : ByteArray) (m k : Int) (W : World) : (Op.equalIn (d + 2) 24 (.agg #[.string s, .int .i64 m]) (.agg #[.string t, .int .i64 k])).run Tryd.prog W = .ok ((s == t) && (m == k)) W := by
  have e1 := eq_strs d s t
  have e2 := eq_ints d m k
  have p0 := part_0
  have p1 := part_1
  generalize (s == t) = b1 at *
  generalize (m == k) = b2 at *
  unfold Op.equalIn
  simp [run_underlying Tryd.underlying24, e1, e2, p0, p1]
  cases b1 <;> cases b2 <;> simp
theorem str_beq {a b : ByteArray} (h : (a == b) = true) : a = b := by
  cases a; cases b
  exact congrArg ByteArray.mk (eq_of_beq h)
theorem str_same (a : ByteArray) : (a == a) = true := by
  cases a with
  | mk d => exact beq_self_eq_true d
theorem str_is {s : ByteArray} {l : List UInt8} (h : s.data.toList = l) : (s == ⟨l.toArray⟩) = true := by
  have e : s = ⟨l.toArray⟩ := bytes_ext (by rw [h])
  rw [← e]
  exact str_same s
theorem str_was {s : ByteArray} {l : List UInt8} (h : (s == ⟨l.toArray⟩) = true) : s.data.toList = l := by
  rw [str_beq h]
theorem tab_up {w w1 : World} (h : TabHere w) (g : Below w.heap.size w w1) : TabHere w1 := fun w2 h2 => h w2 (vb g h2)
theorem kb0 {w w1 : World} (h : Below w.heap.size w w1) (a : Nat) : Below w.heap.size w (w1.drewN a) := h.trans ((below_drawn w1 a).mono h.size)
theorem kb1 {w w1 : World} (h : Below w.heap.size w w1) (a b i : Nat) (v : Value) : Below w.heap.size w (((w1.drewN a).setCell ⟨w.heap.size, i, none⟩ v).drewN b) :=
  kb0 ((kb0 h a).setCell (p := ⟨w.heap.size, i, none⟩) (Nat.le_refl _) v) b

theorem idx_no {c : Cl} {x : Nat} (h : Is c x) (hB : idxB c = false) (w : World) : Calls Tryd.prog 57 #[.float .f64 x] w fun e w' => ∃ n, e = .returned (.tuple #[.int .i64 0, .bool false]) ∧ w' = w.drewN n := by
  have hI : idxI c = 0 := by unfold idxI; rw [hB]; rfl
  have := Index_cls h w
  rw [show DrawnIdx c = fun w e w' => ∃ n, e = .returned (.tuple #[.int .i64 0, .bool false]) ∧ w' = w.drewN n by unfold DrawnIdx; rw [hB, hI]] at this
  exact this
set_option maxHeartbeats 1000000 in
/-- read, but no index' number -/
theorem Index_no (s : ByteArray) (y : Int) (w : World) (hy : -2 ^ 63 ≤ y ∧ y < 2 ^ 63)
    (hr : ∀ w, Calls Tryd.prog 56 #[.string s] w fun e w' => ∃ v' c, (Is c v' ∧ idxB c = false) ∧ e = .returned (.tuple #[.float .f64 v', .int .i64 0]) ∧ Below w.heap.size w w') :
    Calls Tryd.prog 36 #[.agg #[.string s, .int .i64 y]] w (IdxTo none w) := by
  have hm : -2 ^ 63 ≤ max y 0 ∧ max y 0 < 2 ^ 63 := by omega
  generalize hmm : max y 0 = m at *
  have HM := Lib.hid hmm
  go_enter Tryd.func36, Tryd.ntmps36
  go_wp2_with (first
    | (go_at_call 56; refine (hr _).mono ?_; rintro e w1 ⟨v', c, ⟨hc, hB⟩, rfl, h1⟩; have hi := fun w => idx_no hc hB w; have HC := Lib.hid hc; have HBB := Lib.hid hB; clear hc hB; have hb1 := vblk1 h1; have hz1 := vlt1 h1; obtain ⟨hc0, hc1, hfr⟩ := kc2 hb1; have HB1 := Lib.hid hb1; clear hb1; have H1 := Lib.hid (vafter h1); clear h1)
    | (go_at_call 57; refine (hi _).mono ?_; rintro e w2 ⟨nq, rfl, rfl⟩))
  go_quiet (fail)
  go_wp2
  go_ret2
  refine ⟨rfl, ?_⟩
  exact kb1 H1.out _ _ _ _
set_option maxHeartbeats 1000000 in
/-- not read -/
theorem Index_bad (s : ByteArray) (y : Int) (w : World) (hy : -2 ^ 63 ≤ y ∧ y < 2 ^ 63)
    (hr : ∀ w, Calls Tryd.prog 56 #[.string s] w fun e w' => e = .returned (.tuple #[.float .f64 0, .int .i64 10]) ∧ Below w.heap.size w w') :
    Calls Tryd.prog 36 #[.agg #[.string s, .int .i64 y]] w (IdxTo none w) := by
  have hi := fun w => Index_cls (show Is (.ours 0) 0 from ⟨F_zero.symm, by unfold SafeN; omega⟩) w
  have hB : idxB (.ours 0) = true := by decide
  have hI : idxI (.ours 0) = 0 := by unfold idxI; rw [hB]; rfl
  rw [show DrawnIdx (.ours 0) = fun w e w' => ∃ q, e = .returned (.tuple #[.int .i64 0, .bool true]) ∧ w' = w.drewN q by unfold DrawnIdx; rw [hB, hI]] at hi
  clear hB hI
  have hm : -2 ^ 63 ≤ max y 0 ∧ max y 0 < 2 ^ 63 := by omega
  generalize hmm : max y 0 = m at *
  have HM := Lib.hid hmm
  go_enter Tryd.func36, Tryd.ntmps36
  go_wp2_with (first
    | (go_at_call 56; refine (hr _).mono ?_; rintro e w1 ⟨rfl, h1⟩; have hb1 := vblk1 h1; have hz1 := vlt1 h1; obtain ⟨hc0, hc1, hfr⟩ := kc2 hb1; have HB1 := Lib.hid hb1; clear hb1; have H1 := Lib.hid (vafter h1); clear h1)
    | (go_at_call 57; refine (hi _).mono ?_; rintro e w2 ⟨nq, rfl, rfl⟩))
  go_quiet (fail)
  go_wp2
  go_ret2
  refine ⟨rfl, ?_⟩
  exact kb1 H1.out _ _ _ _
theorem number_keep (n : Int) (h0 : -9223372036854775808 ≤ n) (h1 : n ≤ 9223372036854775807) (g : Nat) (w0 w : World) (hg : g < w.heap.size) (hb : Below w0.heap.size w0 w) (htab : TabHere w0) :
    Calls Tryd.prog 58 #[.int .i64 n] w fun e w' => e = .returned (.agg #[.string ⟨(Lib.itoa n).toArray⟩, .int .i64 0]) ∧ g < w'.heap.size ∧ Below w0.heap.size w0 w' ∧ ∀ o, w'.cell? ⟨g, o, none⟩ = w.cell? ⟨g, o, none⟩ :=
  (Number_k n h0 h1 w (tab_up htab hb)).mono fun _ _ ⟨he, h⟩ => ⟨he, Nat.lt_of_lt_of_le hg h.size, vb hb h, fun o => h.cell (p := ⟨g, o, none⟩) hg⟩

set_option maxHeartbeats 1000000 in
/-- an index' number: whether its own text is the key's -/
theorem Index_yes (s : ByteArray) (y : Int) (w : World) (hy : -2 ^ 63 ≤ y ∧ y < 2 ^ 63) (n : Int) (hn : 0 ≤ n ∧ n < 1024) (htab : TabHere w)
    (hr : ∀ w, Calls Tryd.prog 56 #[.string s] w fun e w' => ∃ v' k', (v' = F n ∧ k' = 0) ∧ e = .returned (.tuple #[.float .f64 v', .int .i64 k']) ∧ Below w.heap.size w w') :
    Calls Tryd.prog 36 #[.agg #[.string s, .int .i64 y]] w (IdxTo (if y ≤ 0 ∧ s.data.toList = Lib.itoa n then some n.toNat else none) w) := by
  have hi := fun w => Index_cls (show Is (.ours n) (F n) from ⟨rfl, by unfold SafeN; omega⟩) w
  have hB : idxB (.ours n) = true := by unfold idxB; simp; omega
  have hI : idxI (.ours n) = n := by unfold idxI; rw [hB]; rfl
  rw [show DrawnIdx (.ours n) = fun w e w' => ∃ q, e = .returned (.tuple #[.int .i64 n, .bool true]) ∧ w' = w.drewN q by unfold DrawnIdx; rw [hB, hI]] at hi
  have hN := fun w ht => Number_k n (by omega) (by omega) w ht
  have HTAB := Lib.hid htab
  generalize hv : F n = v at *
  have hm : -2 ^ 63 ≤ max y 0 ∧ max y 0 < 2 ^ 63 := by omega
  generalize hmm : max y 0 = m at *
  have HM := Lib.hid hmm
  generalize ht : (⟨(Lib.itoa n).toArray⟩ : ByteArray) = t at *
  have HT := Lib.hid ht
  generalize ho : (if y ≤ 0 ∧ s.data.toList = Lib.itoa n then some n.toNat else none) = o at *
  have HO := Lib.hid ho
  clear hB hI htab ht hv ho
  go_enter Tryd.func36, Tryd.ntmps36
  go_wp2_with (first
    | (go_at_call 56; refine (hr _).mono ?_; rintro e w1 ⟨v', k', ⟨rfl, rfl⟩, rfl, h1⟩; have hb1 := vblk1 h1; have hz1 := vlt1 h1; obtain ⟨hc0, hc1, hfr⟩ := kc2 hb1; have HB1 := Lib.hid hb1; clear hb1; have H1 := Lib.hid (vafter h1); clear h1)
    | (go_at_call 57; refine (hi _).mono ?_; rintro e w2 ⟨nq, rfl, rfl⟩))
  have hc2 := kc2 (w := (w1.drewN nq).setCell ⟨w.heap.size, 1, none⟩ (.int .i64 m)) (vset1 (w := w1.drewN nq) HB1.out 1 (.int .i64 m))
  have H2 : Below w.heap.size w ((w1.drewN nq).setCell ⟨w.heap.size, 1, none⟩ (.int .i64 m)) := kb1 H1.out nq 0 1 (.int .i64 m)
  have hz2 : w.heap.size < ((w1.drewN nq).setCell ⟨w.heap.size, 1, none⟩ (.int .i64 m)).heap.size := by simp; exact hz1
  generalize (w1.drewN nq).setCell ⟨w.heap.size, 1, none⟩ (.int .i64 m) = w2 at *
  obtain ⟨hd0, hd1, _⟩ := hc2
  clear hc0 hc1 hfr HB1 H1 hz1 hr hi
  have hd := H2.drew
  have kk := fun W hg hb => number_keep n (by omega) (by omega) w.heap.size w W hg hb HTAB.out
  rw [HT.out] at kk
  clear hN
  have q1 := eq_strs 9998 s t
  have q2 := eq_ints 9998 m 0
  have q3 := key_eq 9998 s t m 0
  cases hst : (s == t) <;> cases hm0 : (m == 0) <;> rw [hst] at q1 q3 <;> rw [hm0] at q2 q3
  all_goals
    go_region_held3 (fun w' => w.heap.size < w'.heap.size ∧ Below w.heap.size w w' ∧ w'.cell? ⟨w.heap.size, 0, none⟩ = some (.string s) ∧ w'.cell? ⟨w.heap.size, 1, none⟩ = some (.int .i64 m)) (first | exact ⟨hz2, hd, hd0, hd1⟩ | go_keep)
      (first | (go_at_call 58; refine (kk _ ?_ ?_).mono ?_; (simp [*]); (simp [*]); rintro e w' ⟨rfl, hb1, hb2, hb3⟩))
  all_goals
    have HS := Lib.hid hst
    have HM0 := Lib.hid hm0
    clear hst hm0 q1 q2 q3
    go_wp2
    go_ret2
    refine ⟨?_, by assumption⟩
    have ho := HO.out
    have ht := HT.out
    have hmm := HM.out
    have hs' := HS.out
    have hm' := HM0.out
    subst ht
  · rw [if_neg (fun g => by rw [str_is g.2] at hs'; cases hs')] at ho
    rw [← ho]; rfl
  · rw [if_neg (fun g => by rw [str_is g.2] at hs'; cases hs')] at ho
    rw [← ho]; rfl
  · have : m ≠ 0 := by simpa using hm'
    rw [if_neg (fun g => by omega)] at ho
    rw [← ho]; rfl
  · have : m = 0 := by simpa using hm'
    rw [if_pos ⟨by omega, str_was hs'⟩] at ho
    rw [← ho]
    have e : ((n.toNat : Nat) : Int) = n := by omega
    show Ending.returned (.tuple #[.int .i64 n, .bool true]) = .returned (.tuple #[.int .i64 ((n.toNat : Nat) : Int), .bool true])
    rw [e]

/-- key.Index, for any key -/
theorem Index_k (s : ByteArray) (y : Int) (w : World) (hs : s.size ≤ maxLen) (hy : -2 ^ 63 ≤ y ∧ y < 2 ^ 63) (htab : TabHere w) : Calls Tryd.prog 36 #[.agg #[.string s, .int .i64 y]] w (IdxTo (ixK s y) w) := by
  have hr := fun w => Read_any s w hs
  unfold ixK idxO
  cases hR : readR s.data.toList with
  | nan =>
    rw [hR] at hr
    have := Index_no s y w hy fun w => (hr w).mono fun e w' ⟨v, k, ⟨h1, h2⟩, h3, h4⟩ => ⟨v, .nan, ⟨h1, rfl⟩, by rw [h3, h2], h4⟩
    simpa using this
  | err j =>
    rw [hR] at hr
    have hj := bareR_err hR
    subst hj
    have := Index_bad s y w hy fun w => (hr w).mono fun e w' ⟨v, k, ⟨h1, h2⟩, h3, h4⟩ => ⟨by rw [h3, h1, h2], h4⟩
    simpa using this
  | ok n =>
    rw [hR] at hr
    by_cases hn : 0 ≤ n ∧ n < 1024
    · have := Index_yes s y w hy n hn htab fun w => (hr w).mono fun e w' ⟨v, k, ⟨h1, h2⟩, h3, h4⟩ => ⟨v, k, ⟨h1.1, h2⟩, h3, h4⟩
      have e : (if y ≤ 0 then (if 0 ≤ n ∧ n < 1024 ∧ s.data.toList = Lib.itoa n then some n.toNat else none) else none) = if y ≤ 0 ∧ s.data.toList = Lib.itoa n then some n.toNat else none := by
        by_cases c1 : y ≤ 0
        · by_cases c2 : s.data.toList = Lib.itoa n
          · rw [if_pos c1, if_pos ⟨hn.1, hn.2, c2⟩, if_pos ⟨c1, c2⟩]
          · rw [if_pos c1, if_neg (fun h => c2 h.2.2), if_neg (fun h => c2 h.2)]
        · rw [if_neg c1, if_neg (fun h => c1 h.1)]
      show Calls _ _ _ w (IdxTo (if y ≤ 0 then (if 0 ≤ n ∧ n < 1024 ∧ s.data.toList = Lib.itoa n then some n.toNat else none) else none) w)
      rw [e]; exact this
    · have hB : idxB (.ours n) = false := by
        unfold idxB
        simp only [Bool.and_eq_false_iff, decide_eq_false_iff_not]
        omega
      have := Index_no s y w hy fun w => (hr w).mono fun e w' ⟨v, k, ⟨h1, h2⟩, h3, h4⟩ => ⟨v, .ours n, ⟨h1, hB⟩, by rw [h3, h2], h4⟩
      have e : (if y ≤ 0 then (if 0 ≤ n ∧ n < 1024 ∧ s.data.toList = Lib.itoa n then some n.toNat else none) else none) = none := by
        by_cases c1 : y ≤ 0
        · rw [if_pos c1, if_neg (fun h => hn ⟨h.1, h.2.1⟩)]
        · rw [if_neg c1]
      show Calls _ _ _ w (IdxTo (if y ≤ 0 then (if 0 ≤ n ∧ n < 1024 ∧ s.data.toList = Lib.itoa n then some n.toNat else none) else none) w)
      rw [e]; exact this

theorem rank_k (s : ByteArray) (y : Int) (w : World) (hs : s.size ≤ maxLen) (hy : -2 ^ 63 ≤ y ∧ y < 2 ^ 63) (htab : TabHere w) : Calls Tryd.prog 16 #[.agg #[.string s, .int .i64 y]] w fun e w' => e = .returned (.int .i64 (rkK s y : Nat)) ∧ Below w.heap.size w w' := by
  have hI := fun w ht => Index_k s y w hs hy ht
  have hS := fun w => keysymbol_k s y w
  have HTAB := Lib.hid htab
  obtain ⟨o, ho⟩ : ∃ o, o = ixK s y := ⟨_, rfl⟩
  have hr : rkK s y = rkO o y := by rw [ho]; rfl
  rw [← ho] at hI
  generalize rkK s y = r at *
  clear htab ho
  cases o with
  | some n =>
    have hr2 : r = n := hr
    clear hr
    subst hr2
    clear hS hy hs
    unfold IdxTo at hI
    simp only [Option.getD_some, Option.isSome_some] at hI
    go_enter Tryd.func16, Tryd.ntmps16
    go_wp2_with (go_at_call 36; refine (hI _ (tab_up HTAB.out (vzero _ _))).mono ?_; rintro e w1 ⟨rfl, h1⟩; have hb1 := vblk1 h1; have hz1 := vlt1 h1; obtain ⟨hc0, hc1, hfr⟩ := kc2 hb1; clear hb1; have H1 := Lib.hid (vafter h1); clear h1)
    go_ret
    exact ⟨rfl, H1.out⟩
  | none =>
    unfold IdxTo at hI
    simp only [Option.getD_none, Option.isSome_none] at hI
    by_cases c1 : y ≤ 0
    · have hr2 : r = 1024 := by rw [hr]; show (if y ≤ 0 then 1024 else 1025) = 1024; rw [if_pos c1]
      clear hr
      subst hr2
      have hd : decide (0 < y) = false := by simp; omega
      rw [hd] at hS
      go_enter Tryd.func16, Tryd.ntmps16
      go_wp2_with (first
        | (go_at_call 36; refine (hI _ (tab_up HTAB.out (vzero _ _))).mono ?_; rintro e w1 ⟨rfl, h1⟩; have hb1 := vblk1 h1; have hz1 := vlt1 h1; obtain ⟨hc0, hc1, hfr⟩ := kc2 hb1; clear hb1; have H1 := Lib.hid (vafter h1); clear h1)
        | (go_at_call 37; refine (hS _).mono ?_; rintro e w2 ⟨rfl, h2⟩; have H2 := Lib.hid (vb H1.out h2); clear h2))
      go_ret
      exact ⟨rfl, H2.out⟩
    · have hr2 : r = 1025 := by rw [hr]; show (if y ≤ 0 then 1024 else 1025) = 1025; rw [if_neg c1]
      clear hr
      subst hr2
      have hd : decide (0 < y) = true := by simp; omega
      rw [hd] at hS
      go_enter Tryd.func16, Tryd.ntmps16
      go_wp2_with (first
        | (go_at_call 36; refine (hI _ (tab_up HTAB.out (vzero _ _))).mono ?_; rintro e w1 ⟨rfl, h1⟩; have hb1 := vblk1 h1; have hz1 := vlt1 h1; obtain ⟨hc0, hc1, hfr⟩ := kc2 hb1; clear hb1; have H1 := Lib.hid (vafter h1); clear h1)
        | (go_at_call 37; refine (hS _).mono ?_; rintro e w2 ⟨rfl, h2⟩; have H2 := Lib.hid (vb H1.out h2); clear h2))
      go_ret
      exact ⟨rfl, H2.out⟩
end Go.Proofs.YtlgbnfcnimjheaaDoor.S
/-
  Descriptors: lay: what d has in the place of what stood there. Generated: gen_desclay.py.
-/
namespace Go.Proofs.YtlgbnfcnimjheaaDoor.S
open Go.RowKit Fl

def sel (b : Bool) (x y : Value) : Value := bif b then x else y
theorem sel_one {b : Bool} {x y : Value} (h : x.oneCell' = true) (g : y.oneCell' = true) : (sel b x y).oneCell' = true := by cases b <;> assumption
/-- the cells of what lay answers -/
abbrev layC (h h' : Int) (ka : Int) (xa : Nat) (sa : ByteArray) (ra : Int) (kb : Int) (xb : Nat) (sb : ByteArray) (rb : Int) (kc : Int) (xc : Nat) (sc : ByteArray) (rc : Int) (kd : Int) (xd : Nat) (sd : ByteArray) (rd : Int) (kf : Int) (xf : Nat) (sf : ByteArray) (rf : Int) (kg : Int) (xg : Nat) (sg : ByteArray) (rg : Int) (p q z p' q' z' : Bool) : Array Value := #[.int .u8 (bits .or .u8 h h'), sel (hasB h' 1) (.int .u8 kd) (.int .u8 ka), sel (hasB h' 1) (.float .f64 xd) (.float .f64 xa), sel (hasB h' 1) (.string sd) (.string sa), sel (hasB h' 1) (.int .i64 rd) (.int .i64 ra), sel (hasB h' 4) (.int .u8 kf) (.int .u8 kb), sel (hasB h' 4) (.float .f64 xf) (.float .f64 xb), sel (hasB h' 4) (.string sf) (.string sb), sel (hasB h' 4) (.int .i64 rf) (.int .i64 rb), sel (hasB h' 8) (.int .u8 kg) (.int .u8 kc), sel (hasB h' 8) (.float .f64 xg) (.float .f64 xc), sel (hasB h' 8) (.string sg) (.string sc), sel (hasB h' 8) (.int .i64 rg) (.int .i64 rc), sel (hasB h' 2) (.bool p') (.bool p), sel (hasB h' 16) (.bool q') (.bool q), sel (hasB h' 32) (.bool z') (.bool z)]
theorem vbel4' {B g i j k l : Nat} {w0 w : World} (h : Below B w0 w) (hg : B ≤ g) (a b c d : Value) :
    Below B w0 ((((w.setCell ⟨g, i, none⟩ a).setCell ⟨g, j, none⟩ b).setCell ⟨g, k, none⟩ c).setCell ⟨g, l, none⟩ d) :=
  (((h.setCell (p := ⟨g, i, none⟩) hg a).setCell (p := ⟨g, j, none⟩) hg b).setCell (p := ⟨g, k, none⟩) hg c).setCell (p := ⟨g, l, none⟩) hg d
/-- a function whose one result is a descriptor in a block of its own -/
theorem d_end {f : Func} {i : Nat} {t : TypeId} {Q : Ending → World → Prop} {tmps : Array Value} {W : World} {g : Nat} {c0 c1 c2 c3 c4 c5 c6 c7 c8 c9 c10 c11 c12 c13 c14 c15 : Value} (hf : f.results = #[.cell i 33])
    (h2 : tmps.getD i undef = .pointer (some ⟨g, 0, none⟩)) (hb : W.heap[g]? = some (.cells #[c0, c1, c2, c3, c4, c5, c6, c7, c8, c9, c10, c11, c12, c13, c14, c15] t (0, 0))) (hQ : Q (.returned (.agg #[c0, c1, c2, c3, c4, c5, c6, c7, c8, c9, c10, c11, c12, c13, c14, c15])) W) :
    bodyPost Tryd.prog f Q .ret { tmps := tmps, defers := [] } W :=
  bodyPost_ret (results_cell_row hf tmps W g t _ (0, 0) _ h2 hb Tryd.underlying33 rfl dsz) rfl hQ

set_option maxRecDepth 1000000 in
set_option maxHeartbeats 4000000 in
theorem lay_c (h h' : Int) (ka : Int) (xa : Nat) (sa : ByteArray) (ra : Int) (kb : Int) (xb : Nat) (sb : ByteArray) (rb : Int) (kc : Int) (xc : Nat) (sc : ByteArray) (rc : Int) (kd : Int) (xd : Nat) (sd : ByteArray) (rd : Int) (kf : Int) (xf : Nat) (sf : ByteArray) (rf : Int) (kg : Int) (xg : Nat) (sg : ByteArray) (rg : Int) (p q z p' q' z' : Bool) (w : World) : Calls Tryd.prog 22 #[.agg #[.int .u8 h, .int .u8 ka, .float .f64 xa, .string sa, .int .i64 ra, .int .u8 kb, .float .f64 xb, .string sb, .int .i64 rb, .int .u8 kc, .float .f64 xc, .string sc, .int .i64 rc, .bool p, .bool q, .bool z], .agg #[.int .u8 h', .int .u8 kd, .float .f64 xd, .string sd, .int .i64 rd, .int .u8 kf, .float .f64 xf, .string sf, .int .i64 rf, .int .u8 kg, .float .f64 xg, .string sg, .int .i64 rg, .bool p', .bool q', .bool z']] w fun e w' => e = .returned (.agg (layC h h' ka xa sa ra kb xb sb rb kc xc sc rc kd xd sd rd kf xf sf rf kg xg sg rg p q z p' q' z')) ∧ Below w.heap.size w w' := by
  have hst := vstore
  have hB0 : Below w.heap.size w (((w.alloc (.cells #[.int .u8 (bits .or .u8 h h'), .int .u8 ka, .float .f64 xa, .string sa, .int .i64 ra, .int .u8 kb, .float .f64 xb, .string sb, .int .i64 rb, .int .u8 kc, .float .f64 xc, .string sc, .int .i64 rc, .bool p, .bool q, .bool z] 33)).alloc (.cells #[.int .u8 h', .int .u8 kd, .float .f64 xd, .string sd, .int .i64 rd, .int .u8 kf, .float .f64 xf, .string sf, .int .i64 rf, .int .u8 kg, .float .f64 xg, .string sg, .int .i64 rg, .bool p', .bool q', .bool z'] 33)).alloc (.cells #[.int .u8 0, .int .u8 0, .float .f64 0, .string ⟨#[]⟩, .int .i64 0, .int .u8 0, .float .f64 0, .string ⟨#[]⟩, .int .i64 0, .int .u8 0, .float .f64 0, .string ⟨#[]⟩, .int .i64 0, .bool false, .bool false, .bool false] 33)) := vafter2 (vzero _ _)
  obtain ⟨b1, b2, b3⟩ := vblk3 (w := w) (Below.refl _ (((w.alloc (.cells #[.int .u8 (bits .or .u8 h h'), .int .u8 ka, .float .f64 xa, .string sa, .int .i64 ra, .int .u8 kb, .float .f64 xb, .string sb, .int .i64 rb, .int .u8 kc, .float .f64 xc, .string sc, .int .i64 rc, .bool p, .bool q, .bool z] 33)).alloc (.cells #[.int .u8 h', .int .u8 kd, .float .f64 xd, .string sd, .int .i64 rd, .int .u8 kf, .float .f64 xf, .string sf, .int .i64 rf, .int .u8 kg, .float .f64 xg, .string sg, .int .i64 rg, .bool p', .bool q', .bool z'] 33)).alloc (.cells #[.int .u8 0, .int .u8 0, .float .f64 0, .string ⟨#[]⟩, .int .i64 0, .int .u8 0, .float .f64 0, .string ⟨#[]⟩, .int .i64 0, .int .u8 0, .float .f64 0, .string ⟨#[]⟩, .int .i64 0, .bool false, .bool false, .bool false] 33)))
  go_enter Tryd.func22, Tryd.ntmps22
  go_upto_if 12 with (first | ((with_reducible refine d_load ?_ rfl rfl b2 ?_); (rfl)) | (go_at_call 24; (with_reducible refine (has_c _ _ _ _ _ _ _ _ _ _ _ _ _ _ _ _ _ _).mono ?_); rintro e w1 ⟨rfl, h1⟩; have b1 := vblkn h1 b1; have b2 := vblkn h1 b2; have b3 := vblkn h1 b3; have hB0 := vb hB0 h1))
  go_cut [] from 5 to 41 (fun wx => wx.heap[w.heap.size]? = some (.cells #[.int .u8 (bits .or .u8 h h'), sel (hasB h' 1) (.int .u8 kd) (.int .u8 ka), sel (hasB h' 1) (.float .f64 xd) (.float .f64 xa), sel (hasB h' 1) (.string sd) (.string sa), sel (hasB h' 1) (.int .i64 rd) (.int .i64 ra), .int .u8 kb, .float .f64 xb, .string sb, .int .i64 rb, .int .u8 kc, .float .f64 xc, .string sc, .int .i64 rc, .bool p, .bool q, .bool z] 33 (0, 0)) ∧ wx.heap[w.heap.size + 1]? = some (.cells #[.int .u8 h', .int .u8 kd, .float .f64 xd, .string sd, .int .i64 rd, .int .u8 kf, .float .f64 xf, .string sf, .int .i64 rf, .int .u8 kg, .float .f64 xg, .string sg, .int .i64 rg, .bool p', .bool q', .bool z'] 33 (0, 0)) ∧ wx.heap[w.heap.size + 1 + 1]? = some (.cells #[.int .u8 0, .int .u8 0, .float .f64 0, .string ⟨#[]⟩, .int .i64 0, .int .u8 0, .float .f64 0, .string ⟨#[]⟩, .int .i64 0, .int .u8 0, .float .f64 0, .string ⟨#[]⟩, .int .i64 0, .bool false, .bool false, .bool false] 33 (0, 0)) ∧ Below w.heap.size w wx)
  case first =>
    cases hs : hasB h' 1
    · go_wp2
      go_meet
      case rel => rw [hs]; exact ⟨b1, b2, b3, hB0⟩
    · go_wp2_with (first | ((with_reducible refine v_load ?_ rfl rfl b2 rfl rfl rfl rfl ?_); (rfl)) | ((with_reducible refine v_store rfl rfl rfl rfl b1 ?_ ?_ ?_); (exact of_decide_eq_true rfl); (rfl)))
      go_meet
      case rel => rw [hs]; exact ⟨vset1 (vset1 (vset1 (vset1 b1 _ _) _ _) _ _) _ _, vset1o (vset1o (vset1o (vset1o b2 (by simp) _ _) (by simp) _ _) (by simp) _ _) (by simp) _ _, vset1o (vset1o (vset1o (vset1o b3 (by simp; omega) _ _) (by simp; omega) _ _) (by simp; omega) _ _) (by simp; omega) _ _, vbel4' hB0 (Nat.le_refl _) _ _ _ _⟩
  case rest =>
  obtain ⟨b1, b2, b3, hB0⟩ := hcut
  go_upto_if 17 with (first | ((with_reducible refine d_load ?_ rfl rfl b2 ?_); (rfl)) | (go_at_call 24; (with_reducible refine (has_c _ _ _ _ _ _ _ _ _ _ _ _ _ _ _ _ _ _).mono ?_); rintro e w1 ⟨rfl, h1⟩; have b1 := vblkn h1 b1; have b2 := vblkn h1 b2; have b3 := vblkn h1 b3; have hB0 := vb hB0 h1))
  go_cut [] from 5 to 41 (fun wx => wx.heap[w.heap.size]? = some (.cells #[.int .u8 (bits .or .u8 h h'), sel (hasB h' 1) (.int .u8 kd) (.int .u8 ka), sel (hasB h' 1) (.float .f64 xd) (.float .f64 xa), sel (hasB h' 1) (.string sd) (.string sa), sel (hasB h' 1) (.int .i64 rd) (.int .i64 ra), .int .u8 kb, .float .f64 xb, .string sb, .int .i64 rb, .int .u8 kc, .float .f64 xc, .string sc, .int .i64 rc, sel (hasB h' 2) (.bool p') (.bool p), .bool q, .bool z] 33 (0, 0)) ∧ wx.heap[w.heap.size + 1]? = some (.cells #[.int .u8 h', .int .u8 kd, .float .f64 xd, .string sd, .int .i64 rd, .int .u8 kf, .float .f64 xf, .string sf, .int .i64 rf, .int .u8 kg, .float .f64 xg, .string sg, .int .i64 rg, .bool p', .bool q', .bool z'] 33 (0, 0)) ∧ wx.heap[w.heap.size + 1 + 1]? = some (.cells #[.int .u8 0, .int .u8 0, .float .f64 0, .string ⟨#[]⟩, .int .i64 0, .int .u8 0, .float .f64 0, .string ⟨#[]⟩, .int .i64 0, .int .u8 0, .float .f64 0, .string ⟨#[]⟩, .int .i64 0, .bool false, .bool false, .bool false] 33 (0, 0)) ∧ Below w.heap.size w wx)
  case first =>
    cases hs : hasB h' 2
    · go_wp2
      go_meet
      case rel => rw [hs]; exact ⟨b1, b2, b3, hB0⟩
    · have q2 := vcells b2 13
      have f1 := vfz b1 13
      have q1 := vcells b1 13
      go_wp2
      go_meet
      case rel => rw [hs]; exact ⟨vset1 b1 _ _, vset1o b2 (by simp) _ _, vset1o b3 (by simp; omega) _ _, hB0.setCell (p := ⟨w.heap.size, 13, none⟩) (Nat.le_refl _) _⟩
  case rest =>
  obtain ⟨b1, b2, b3, hB0⟩ := hcut
  go_upto_if 22 with (first | ((with_reducible refine d_load ?_ rfl rfl b2 ?_); (rfl)) | (go_at_call 24; (with_reducible refine (has_c _ _ _ _ _ _ _ _ _ _ _ _ _ _ _ _ _ _).mono ?_); rintro e w1 ⟨rfl, h1⟩; have b1 := vblkn h1 b1; have b2 := vblkn h1 b2; have b3 := vblkn h1 b3; have hB0 := vb hB0 h1))
  go_cut [] from 5 to 41 (fun wx => wx.heap[w.heap.size]? = some (.cells #[.int .u8 (bits .or .u8 h h'), sel (hasB h' 1) (.int .u8 kd) (.int .u8 ka), sel (hasB h' 1) (.float .f64 xd) (.float .f64 xa), sel (hasB h' 1) (.string sd) (.string sa), sel (hasB h' 1) (.int .i64 rd) (.int .i64 ra), sel (hasB h' 4) (.int .u8 kf) (.int .u8 kb), sel (hasB h' 4) (.float .f64 xf) (.float .f64 xb), sel (hasB h' 4) (.string sf) (.string sb), sel (hasB h' 4) (.int .i64 rf) (.int .i64 rb), .int .u8 kc, .float .f64 xc, .string sc, .int .i64 rc, sel (hasB h' 2) (.bool p') (.bool p), .bool q, .bool z] 33 (0, 0)) ∧ wx.heap[w.heap.size + 1]? = some (.cells #[.int .u8 h', .int .u8 kd, .float .f64 xd, .string sd, .int .i64 rd, .int .u8 kf, .float .f64 xf, .string sf, .int .i64 rf, .int .u8 kg, .float .f64 xg, .string sg, .int .i64 rg, .bool p', .bool q', .bool z'] 33 (0, 0)) ∧ wx.heap[w.heap.size + 1 + 1]? = some (.cells #[.int .u8 0, .int .u8 0, .float .f64 0, .string ⟨#[]⟩, .int .i64 0, .int .u8 0, .float .f64 0, .string ⟨#[]⟩, .int .i64 0, .int .u8 0, .float .f64 0, .string ⟨#[]⟩, .int .i64 0, .bool false, .bool false, .bool false] 33 (0, 0)) ∧ Below w.heap.size w wx)
  case first =>
    cases hs : hasB h' 4
    · go_wp2
      go_meet
      case rel => rw [hs]; exact ⟨b1, b2, b3, hB0⟩
    · go_wp2_with (first | ((with_reducible refine v_load ?_ rfl rfl b2 rfl rfl rfl rfl ?_); (rfl)) | ((with_reducible refine v_store rfl rfl rfl rfl b1 ?_ ?_ ?_); (exact of_decide_eq_true rfl); (rfl)))
      go_meet
      case rel => rw [hs]; exact ⟨vset1 (vset1 (vset1 (vset1 b1 _ _) _ _) _ _) _ _, vset1o (vset1o (vset1o (vset1o b2 (by simp) _ _) (by simp) _ _) (by simp) _ _) (by simp) _ _, vset1o (vset1o (vset1o (vset1o b3 (by simp; omega) _ _) (by simp; omega) _ _) (by simp; omega) _ _) (by simp; omega) _ _, vbel4' hB0 (Nat.le_refl _) _ _ _ _⟩
  case rest =>
  obtain ⟨b1, b2, b3, hB0⟩ := hcut
  go_upto_if 27 with (first | ((with_reducible refine d_load ?_ rfl rfl b2 ?_); (rfl)) | (go_at_call 24; (with_reducible refine (has_c _ _ _ _ _ _ _ _ _ _ _ _ _ _ _ _ _ _).mono ?_); rintro e w1 ⟨rfl, h1⟩; have b1 := vblkn h1 b1; have b2 := vblkn h1 b2; have b3 := vblkn h1 b3; have hB0 := vb hB0 h1))
  go_cut [] from 5 to 41 (fun wx => wx.heap[w.heap.size]? = some (.cells #[.int .u8 (bits .or .u8 h h'), sel (hasB h' 1) (.int .u8 kd) (.int .u8 ka), sel (hasB h' 1) (.float .f64 xd) (.float .f64 xa), sel (hasB h' 1) (.string sd) (.string sa), sel (hasB h' 1) (.int .i64 rd) (.int .i64 ra), sel (hasB h' 4) (.int .u8 kf) (.int .u8 kb), sel (hasB h' 4) (.float .f64 xf) (.float .f64 xb), sel (hasB h' 4) (.string sf) (.string sb), sel (hasB h' 4) (.int .i64 rf) (.int .i64 rb), sel (hasB h' 8) (.int .u8 kg) (.int .u8 kc), sel (hasB h' 8) (.float .f64 xg) (.float .f64 xc), sel (hasB h' 8) (.string sg) (.string sc), sel (hasB h' 8) (.int .i64 rg) (.int .i64 rc), sel (hasB h' 2) (.bool p') (.bool p), .bool q, .bool z] 33 (0, 0)) ∧ wx.heap[w.heap.size + 1]? = some (.cells #[.int .u8 h', .int .u8 kd, .float .f64 xd, .string sd, .int .i64 rd, .int .u8 kf, .float .f64 xf, .string sf, .int .i64 rf, .int .u8 kg, .float .f64 xg, .string sg, .int .i64 rg, .bool p', .bool q', .bool z'] 33 (0, 0)) ∧ wx.heap[w.heap.size + 1 + 1]? = some (.cells #[.int .u8 0, .int .u8 0, .float .f64 0, .string ⟨#[]⟩, .int .i64 0, .int .u8 0, .float .f64 0, .string ⟨#[]⟩, .int .i64 0, .int .u8 0, .float .f64 0, .string ⟨#[]⟩, .int .i64 0, .bool false, .bool false, .bool false] 33 (0, 0)) ∧ Below w.heap.size w wx)
  case first =>
    cases hs : hasB h' 8
    · go_wp2
      go_meet
      case rel => rw [hs]; exact ⟨b1, b2, b3, hB0⟩
    · go_wp2_with (first | ((with_reducible refine v_load ?_ rfl rfl b2 rfl rfl rfl rfl ?_); (rfl)) | ((with_reducible refine v_store rfl rfl rfl rfl b1 ?_ ?_ ?_); (exact of_decide_eq_true rfl); (rfl)))
      go_meet
      case rel => rw [hs]; exact ⟨vset1 (vset1 (vset1 (vset1 b1 _ _) _ _) _ _) _ _, vset1o (vset1o (vset1o (vset1o b2 (by simp) _ _) (by simp) _ _) (by simp) _ _) (by simp) _ _, vset1o (vset1o (vset1o (vset1o b3 (by simp; omega) _ _) (by simp; omega) _ _) (by simp; omega) _ _) (by simp; omega) _ _, vbel4' hB0 (Nat.le_refl _) _ _ _ _⟩
  case rest =>
  obtain ⟨b1, b2, b3, hB0⟩ := hcut
  go_upto_if 32 with (first | ((with_reducible refine d_load ?_ rfl rfl b2 ?_); (rfl)) | (go_at_call 24; (with_reducible refine (has_c _ _ _ _ _ _ _ _ _ _ _ _ _ _ _ _ _ _).mono ?_); rintro e w1 ⟨rfl, h1⟩; have b1 := vblkn h1 b1; have b2 := vblkn h1 b2; have b3 := vblkn h1 b3; have hB0 := vb hB0 h1))
  go_cut [] from 5 to 41 (fun wx => wx.heap[w.heap.size]? = some (.cells #[.int .u8 (bits .or .u8 h h'), sel (hasB h' 1) (.int .u8 kd) (.int .u8 ka), sel (hasB h' 1) (.float .f64 xd) (.float .f64 xa), sel (hasB h' 1) (.string sd) (.string sa), sel (hasB h' 1) (.int .i64 rd) (.int .i64 ra), sel (hasB h' 4) (.int .u8 kf) (.int .u8 kb), sel (hasB h' 4) (.float .f64 xf) (.float .f64 xb), sel (hasB h' 4) (.string sf) (.string sb), sel (hasB h' 4) (.int .i64 rf) (.int .i64 rb), sel (hasB h' 8) (.int .u8 kg) (.int .u8 kc), sel (hasB h' 8) (.float .f64 xg) (.float .f64 xc), sel (hasB h' 8) (.string sg) (.string sc), sel (hasB h' 8) (.int .i64 rg) (.int .i64 rc), sel (hasB h' 2) (.bool p') (.bool p), sel (hasB h' 16) (.bool q') (.bool q), .bool z] 33 (0, 0)) ∧ wx.heap[w.heap.size + 1]? = some (.cells #[.int .u8 h', .int .u8 kd, .float .f64 xd, .string sd, .int .i64 rd, .int .u8 kf, .float .f64 xf, .string sf, .int .i64 rf, .int .u8 kg, .float .f64 xg, .string sg, .int .i64 rg, .bool p', .bool q', .bool z'] 33 (0, 0)) ∧ wx.heap[w.heap.size + 1 + 1]? = some (.cells #[.int .u8 0, .int .u8 0, .float .f64 0, .string ⟨#[]⟩, .int .i64 0, .int .u8 0, .float .f64 0, .string ⟨#[]⟩, .int .i64 0, .int .u8 0, .float .f64 0, .string ⟨#[]⟩, .int .i64 0, .bool false, .bool false, .bool false] 33 (0, 0)) ∧ Below w.heap.size w wx)
  case first =>
    cases hs : hasB h' 16
    · go_wp2
      go_meet
      case rel => rw [hs]; exact ⟨b1, b2, b3, hB0⟩
    · have q2 := vcells b2 14
      have f1 := vfz b1 14
      have q1 := vcells b1 14
      go_wp2
      go_meet
      case rel => rw [hs]; exact ⟨vset1 b1 _ _, vset1o b2 (by simp) _ _, vset1o b3 (by simp; omega) _ _, hB0.setCell (p := ⟨w.heap.size, 14, none⟩) (Nat.le_refl _) _⟩
  case rest =>
  obtain ⟨b1, b2, b3, hB0⟩ := hcut
  go_upto_if 37 with (first | ((with_reducible refine d_load ?_ rfl rfl b2 ?_); (rfl)) | (go_at_call 24; (with_reducible refine (has_c _ _ _ _ _ _ _ _ _ _ _ _ _ _ _ _ _ _).mono ?_); rintro e w1 ⟨rfl, h1⟩; have b1 := vblkn h1 b1; have b2 := vblkn h1 b2; have b3 := vblkn h1 b3; have hB0 := vb hB0 h1))
  go_cut [] from 5 to 41 (fun wx => wx.heap[w.heap.size]? = some (.cells #[.int .u8 (bits .or .u8 h h'), sel (hasB h' 1) (.int .u8 kd) (.int .u8 ka), sel (hasB h' 1) (.float .f64 xd) (.float .f64 xa), sel (hasB h' 1) (.string sd) (.string sa), sel (hasB h' 1) (.int .i64 rd) (.int .i64 ra), sel (hasB h' 4) (.int .u8 kf) (.int .u8 kb), sel (hasB h' 4) (.float .f64 xf) (.float .f64 xb), sel (hasB h' 4) (.string sf) (.string sb), sel (hasB h' 4) (.int .i64 rf) (.int .i64 rb), sel (hasB h' 8) (.int .u8 kg) (.int .u8 kc), sel (hasB h' 8) (.float .f64 xg) (.float .f64 xc), sel (hasB h' 8) (.string sg) (.string sc), sel (hasB h' 8) (.int .i64 rg) (.int .i64 rc), sel (hasB h' 2) (.bool p') (.bool p), sel (hasB h' 16) (.bool q') (.bool q), sel (hasB h' 32) (.bool z') (.bool z)] 33 (0, 0)) ∧ wx.heap[w.heap.size + 1]? = some (.cells #[.int .u8 h', .int .u8 kd, .float .f64 xd, .string sd, .int .i64 rd, .int .u8 kf, .float .f64 xf, .string sf, .int .i64 rf, .int .u8 kg, .float .f64 xg, .string sg, .int .i64 rg, .bool p', .bool q', .bool z'] 33 (0, 0)) ∧ wx.heap[w.heap.size + 1 + 1]? = some (.cells #[.int .u8 0, .int .u8 0, .float .f64 0, .string ⟨#[]⟩, .int .i64 0, .int .u8 0, .float .f64 0, .string ⟨#[]⟩, .int .i64 0, .int .u8 0, .float .f64 0, .string ⟨#[]⟩, .int .i64 0, .bool false, .bool false, .bool false] 33 (0, 0)) ∧ Below w.heap.size w wx)
  case first =>
    cases hs : hasB h' 32
    · go_wp2
      go_meet
      case rel => rw [hs]; exact ⟨b1, b2, b3, hB0⟩
    · have q2 := vcells b2 15
      have f1 := vfz b1 15
      have q1 := vcells b1 15
      go_wp2
      go_meet
      case rel => rw [hs]; exact ⟨vset1 b1 _ _, vset1o b2 (by simp) _ _, vset1o b3 (by simp; omega) _ _, hB0.setCell (p := ⟨w.heap.size, 15, none⟩) (Nat.le_refl _) _⟩
  case rest =>
  obtain ⟨b1, b2, b3, hB0⟩ := hcut
  have hone : ([.int .u8 (bits .or .u8 h h'), sel (hasB h' 1) (.int .u8 kd) (.int .u8 ka), sel (hasB h' 1) (.float .f64 xd) (.float .f64 xa), sel (hasB h' 1) (.string sd) (.string sa), sel (hasB h' 1) (.int .i64 rd) (.int .i64 ra), sel (hasB h' 4) (.int .u8 kf) (.int .u8 kb), sel (hasB h' 4) (.float .f64 xf) (.float .f64 xb), sel (hasB h' 4) (.string sf) (.string sb), sel (hasB h' 4) (.int .i64 rf) (.int .i64 rb), sel (hasB h' 8) (.int .u8 kg) (.int .u8 kc), sel (hasB h' 8) (.float .f64 xg) (.float .f64 xc), sel (hasB h' 8) (.string sg) (.string sc), sel (hasB h' 8) (.int .i64 rg) (.int .i64 rc), sel (hasB h' 2) (.bool p') (.bool p), sel (hasB h' 16) (.bool q') (.bool q), sel (hasB h' 32) (.bool z') (.bool z)] : List Value).all (·.oneCell') = true := by
    simp only [List.all_cons, List.all_nil, Bool.and_eq_true]
    exact ⟨rfl, sel_one rfl rfl, sel_one rfl rfl, sel_one rfl rfl, sel_one rfl rfl, sel_one rfl rfl, sel_one rfl rfl, sel_one rfl rfl, sel_one rfl rfl, sel_one rfl rfl, sel_one rfl rfl, sel_one rfl rfl, sel_one rfl rfl, sel_one rfl rfl, sel_one rfl rfl, sel_one rfl rfl, trivial⟩
  go_wp2_with (first | ((with_reducible refine d_load ?_ rfl rfl b1 ?_); (rfl)) | (with_reducible refine d_store rfl rfl rfl rfl b3 rfl hone ?_))
  exact d_end Tryd.results22 rfl (setRow_heap _ _ _ _ _ _ b3) ⟨rfl, below_row hB0 (by omega) _⟩
end Go.Proofs.YtlgbnfcnimjheaaDoor.S
/-
  Descriptors: Same: the walk. Generated: gen_descsame.py.
-/
namespace Go.Proofs.YtlgbnfcnimjheaaDoor.S
open Go.RowKit Fl

theorem has_b {h m : Int} {t : Bool} (ht : hasB h m = t) (ka : Int) (xa : Nat) (sa : ByteArray) (ra : Int) (kb : Int) (xb : Nat) (sb : ByteArray) (rb : Int) (kc : Int) (xc : Nat) (sc : ByteArray) (rc : Int) (p q z : Bool) (w : World) : Calls Tryd.prog 24 #[.agg #[.int .u8 h, .int .u8 ka, .float .f64 xa, .string sa, .int .i64 ra, .int .u8 kb, .float .f64 xb, .string sb, .int .i64 rb, .int .u8 kc, .float .f64 xc, .string sc, .int .i64 rc, .bool p, .bool q, .bool z], .int .u8 m] w fun e w' => e = .returned (.bool t) ∧ Below w.heap.size w w' := ht ▸ has_c h m ka xa sa ra kb xb sb rb kc xc sc rc p q z w
theorem dret {a b : Bool} (h : a = b) : Ending.returned (.bool a) = .returned (.bool b) := by rw [h]
def same7 (t0 f1 f2 f3 f4 f5 f6 : Bool) : Bool := t0 && !f1 && !f2 && !f3 && !f4 && !f5 && !f6
/-- what Same answers, from what is told of the three values -/
def sameD (h h' : Int) (sA sB sC p p' q q' z z' : Bool) : Bool :=
  same7 (h == h') (hasB h 1 && !sA) (hasB h 2 && (p != p')) (hasB h 4 && !sB) (hasB h 8 && !sC) (hasB h 16 && (q != q')) (hasB h 32 && (z != z'))

set_option maxRecDepth 1000000 in
set_option maxHeartbeats 4000000 in
theorem Same_d (h h' : Int) (ka : Int) (xa : Nat) (sa : ByteArray) (ra : Int) (kb : Int) (xb : Nat) (sb : ByteArray) (rb : Int) (kc : Int) (xc : Nat) (sc : ByteArray) (rc : Int) (kd : Int) (xd : Nat) (sd : ByteArray) (rd : Int) (kf : Int) (xf : Nat) (sf : ByteArray) (rf : Int) (kg : Int) (xg : Nat) (sg : ByteArray) (rg : Int) (p q z p' q' z' : Bool) {sA sB sC : Bool} (cA : ∀ w, Calls Tryd.prog 30 #[.agg #[.int .u8 ka, .float .f64 xa, .string sa, .int .i64 ra], .agg #[.int .u8 kd, .float .f64 xd, .string sd, .int .i64 rd]] w fun e w' => e = .returned (.bool sA) ∧ Below w.heap.size w w') (cB : ∀ w, Calls Tryd.prog 30 #[.agg #[.int .u8 kb, .float .f64 xb, .string sb, .int .i64 rb], .agg #[.int .u8 kf, .float .f64 xf, .string sf, .int .i64 rf]] w fun e w' => e = .returned (.bool sB) ∧ Below w.heap.size w w') (cC : ∀ w, Calls Tryd.prog 30 #[.agg #[.int .u8 kc, .float .f64 xc, .string sc, .int .i64 rc], .agg #[.int .u8 kg, .float .f64 xg, .string sg, .int .i64 rg]] w fun e w' => e = .returned (.bool sC) ∧ Below w.heap.size w w') (w : World) : Calls Tryd.prog 13 #[.agg #[.int .u8 h, .int .u8 ka, .float .f64 xa, .string sa, .int .i64 ra, .int .u8 kb, .float .f64 xb, .string sb, .int .i64 rb, .int .u8 kc, .float .f64 xc, .string sc, .int .i64 rc, .bool p, .bool q, .bool z], .agg #[.int .u8 h', .int .u8 kd, .float .f64 xd, .string sd, .int .i64 rd, .int .u8 kf, .float .f64 xf, .string sf, .int .i64 rf, .int .u8 kg, .float .f64 xg, .string sg, .int .i64 rg, .bool p', .bool q', .bool z']] w fun e w' => e = .returned (.bool (sameD h h' sA sB sC p p' q q' z z')) ∧ Below w.heap.size w w' := by
  have hB0 : Below w.heap.size w ((w.alloc (.cells #[.int .u8 h, .int .u8 ka, .float .f64 xa, .string sa, .int .i64 ra, .int .u8 kb, .float .f64 xb, .string sb, .int .i64 rb, .int .u8 kc, .float .f64 xc, .string sc, .int .i64 rc, .bool p, .bool q, .bool z] 33)).alloc (.cells #[.int .u8 h', .int .u8 kd, .float .f64 xd, .string sd, .int .i64 rd, .int .u8 kf, .float .f64 xf, .string sf, .int .i64 rf, .int .u8 kg, .float .f64 xg, .string sg, .int .i64 rg, .bool p', .bool q', .bool z'] 33)) := vafter (vzero _ _)
  obtain ⟨b1, b2⟩ := vblk2 (w := w) (Below.refl _ ((w.alloc (.cells #[.int .u8 h, .int .u8 ka, .float .f64 xa, .string sa, .int .i64 ra, .int .u8 kb, .float .f64 xb, .string sb, .int .i64 rb, .int .u8 kc, .float .f64 xc, .string sc, .int .i64 rc, .bool p, .bool q, .bool z] 33)).alloc (.cells #[.int .u8 h', .int .u8 kd, .float .f64 xd, .string sd, .int .i64 rd, .int .u8 kf, .float .f64 xf, .string sf, .int .i64 rf, .int .u8 kg, .float .f64 xg, .string sg, .int .i64 rg, .bool p', .bool q', .bool z'] 33)))
  have d1 := vcells b1 0
  have d2 := vcells b2 0
  rcases Bool.eq_false_or_eq_true (h == h') with t0 | t0
  rotate_left
  · have n0 : (h != h') = true := by rw [bne, t0]; rfl
    go_enter Tryd.func13, Tryd.ntmps13
    go_upto_region 3 with (fail)
    go_ret
    exact ⟨dret (by unfold sameD same7; rw [t0]; rfl), hB0⟩
  have n0 : (h != h') = false := by rw [bne, t0]; rfl
  have T0 := Lib.hid t0
  clear t0
  go_enter Tryd.func13, Tryd.ntmps13
  go_upto_region 3 with (fail)
  go_cut [11] from 5 to 73 (fun u wx => u = .bool ((hasB h 1 && !sA)) ∧ wx.heap[w.heap.size]? = some (.cells #[.int .u8 h, .int .u8 ka, .float .f64 xa, .string sa, .int .i64 ra, .int .u8 kb, .float .f64 xb, .string sb, .int .i64 rb, .int .u8 kc, .float .f64 xc, .string sc, .int .i64 rc, .bool p, .bool q, .bool z] 33 (0, 0)) ∧ wx.heap[w.heap.size + 1]? = some (.cells #[.int .u8 h', .int .u8 kd, .float .f64 xd, .string sd, .int .i64 rd, .int .u8 kf, .float .f64 xf, .string sf, .int .i64 rf, .int .u8 kg, .float .f64 xg, .string sg, .int .i64 rg, .bool p', .bool q', .bool z'] 33 (0, 0)) ∧ Below w.heap.size w wx)
  case first =>
    rcases Bool.eq_false_or_eq_true (hasB h 1) with hs | hs
    · go_wp2_with (first | ((with_reducible refine d_load ?_ rfl rfl b1 ?_); (rfl)) | ((with_reducible refine v_load ?_ rfl rfl b1 rfl rfl rfl rfl ?_); (rfl)) | ((with_reducible refine v_load ?_ rfl rfl b2 rfl rfl rfl rfl ?_); (rfl)) | (go_at_call 24; (with_reducible refine (has_b hs _ _ _ _ _ _ _ _ _ _ _ _ _ _ _ _).mono ?_); rintro e w1 ⟨rfl, h1⟩; have b1 := vblkn h1 b1; have b2 := vblkn h1 b2; have hB0 := vb hB0 h1) | (go_at_call 30; (with_reducible refine (cA _).mono ?_); rintro e w2 ⟨rfl, h1⟩; have b1 := vblkn h1 b1; have b2 := vblkn h1 b2; have hB0 := vb hB0 h1))
      go_meet
      case rel => rw [hs]; exact ⟨rfl, b1, b2, hB0⟩
    · go_wp2_with (first | ((with_reducible refine d_load ?_ rfl rfl b1 ?_); (rfl)) | ((with_reducible refine v_load ?_ rfl rfl b1 rfl rfl rfl rfl ?_); (rfl)) | ((with_reducible refine v_load ?_ rfl rfl b2 rfl rfl rfl rfl ?_); (rfl)) | (go_at_call 24; (with_reducible refine (has_b hs _ _ _ _ _ _ _ _ _ _ _ _ _ _ _ _).mono ?_); rintro e w1 ⟨rfl, h1⟩; have b1 := vblkn h1 b1; have b2 := vblkn h1 b2; have hB0 := vb hB0 h1))
      go_meet
      case rel => rw [hs]; exact ⟨rfl, b1, b2, hB0⟩
  case rest =>
  obtain ⟨rfl, b1, b2, hB0⟩ := hcut
  rcases Bool.eq_false_or_eq_true (hasB h 1 && !sA) with t1 | t1
  · rw [t1]
    go_wp2
    go_ret
    exact ⟨dret (by unfold sameD same7; rw [T0, t1]; rfl), hB0⟩
  rw [t1]
  have T1 := Lib.hid t1
  clear t1
  go_upto_region 5 with (fail)
  go_cut [22] from 5 to 73 (fun u wx => u = .bool ((hasB h 2 && (p != p'))) ∧ wx.heap[w.heap.size]? = some (.cells #[.int .u8 h, .int .u8 ka, .float .f64 xa, .string sa, .int .i64 ra, .int .u8 kb, .float .f64 xb, .string sb, .int .i64 rb, .int .u8 kc, .float .f64 xc, .string sc, .int .i64 rc, .bool p, .bool q, .bool z] 33 (0, 0)) ∧ wx.heap[w.heap.size + 1]? = some (.cells #[.int .u8 h', .int .u8 kd, .float .f64 xd, .string sd, .int .i64 rd, .int .u8 kf, .float .f64 xf, .string sf, .int .i64 rf, .int .u8 kg, .float .f64 xg, .string sg, .int .i64 rg, .bool p', .bool q', .bool z'] 33 (0, 0)) ∧ Below w.heap.size w wx)
  case first =>
    rcases Bool.eq_false_or_eq_true (hasB h 2) with hs | hs
    · go_wp2_with (first | ((with_reducible refine d_load ?_ rfl rfl b1 ?_); (rfl)) | ((with_reducible refine v_load ?_ rfl rfl b1 rfl rfl rfl rfl ?_); (rfl)) | ((with_reducible refine v_load ?_ rfl rfl b2 rfl rfl rfl rfl ?_); (rfl)) | (go_at_call 24; (with_reducible refine (has_b hs _ _ _ _ _ _ _ _ _ _ _ _ _ _ _ _).mono ?_); rintro e w1 ⟨rfl, h1⟩; have b1 := vblkn h1 b1; have b2 := vblkn h1 b2; have hB0 := vb hB0 h1; have e1 := vcells b1 13; have e2 := vcells b2 13))
      go_meet
      case rel => rw [hs]; exact ⟨rfl, b1, b2, hB0⟩
    · go_wp2_with (first | ((with_reducible refine d_load ?_ rfl rfl b1 ?_); (rfl)) | ((with_reducible refine v_load ?_ rfl rfl b1 rfl rfl rfl rfl ?_); (rfl)) | ((with_reducible refine v_load ?_ rfl rfl b2 rfl rfl rfl rfl ?_); (rfl)) | (go_at_call 24; (with_reducible refine (has_b hs _ _ _ _ _ _ _ _ _ _ _ _ _ _ _ _).mono ?_); rintro e w1 ⟨rfl, h1⟩; have b1 := vblkn h1 b1; have b2 := vblkn h1 b2; have hB0 := vb hB0 h1))
      go_meet
      case rel => rw [hs]; exact ⟨rfl, b1, b2, hB0⟩
  case rest =>
  obtain ⟨rfl, b1, b2, hB0⟩ := hcut
  rcases Bool.eq_false_or_eq_true (hasB h 2 && (p != p')) with t2 | t2
  · rw [t2]
    go_wp2
    go_ret
    exact ⟨dret (by unfold sameD same7; rw [T0, T1, t2]; rfl), hB0⟩
  rw [t2]
  have T2 := Lib.hid t2
  clear t2
  go_upto_region 7 with (fail)
  go_cut [32] from 5 to 73 (fun u wx => u = .bool ((hasB h 4 && !sB)) ∧ wx.heap[w.heap.size]? = some (.cells #[.int .u8 h, .int .u8 ka, .float .f64 xa, .string sa, .int .i64 ra, .int .u8 kb, .float .f64 xb, .string sb, .int .i64 rb, .int .u8 kc, .float .f64 xc, .string sc, .int .i64 rc, .bool p, .bool q, .bool z] 33 (0, 0)) ∧ wx.heap[w.heap.size + 1]? = some (.cells #[.int .u8 h', .int .u8 kd, .float .f64 xd, .string sd, .int .i64 rd, .int .u8 kf, .float .f64 xf, .string sf, .int .i64 rf, .int .u8 kg, .float .f64 xg, .string sg, .int .i64 rg, .bool p', .bool q', .bool z'] 33 (0, 0)) ∧ Below w.heap.size w wx)
  case first =>
    rcases Bool.eq_false_or_eq_true (hasB h 4) with hs | hs
    · go_wp2_with (first | ((with_reducible refine d_load ?_ rfl rfl b1 ?_); (rfl)) | ((with_reducible refine v_load ?_ rfl rfl b1 rfl rfl rfl rfl ?_); (rfl)) | ((with_reducible refine v_load ?_ rfl rfl b2 rfl rfl rfl rfl ?_); (rfl)) | (go_at_call 24; (with_reducible refine (has_b hs _ _ _ _ _ _ _ _ _ _ _ _ _ _ _ _).mono ?_); rintro e w1 ⟨rfl, h1⟩; have b1 := vblkn h1 b1; have b2 := vblkn h1 b2; have hB0 := vb hB0 h1) | (go_at_call 30; (with_reducible refine (cB _).mono ?_); rintro e w2 ⟨rfl, h1⟩; have b1 := vblkn h1 b1; have b2 := vblkn h1 b2; have hB0 := vb hB0 h1))
      go_meet
      case rel => rw [hs]; exact ⟨rfl, b1, b2, hB0⟩
    · go_wp2_with (first | ((with_reducible refine d_load ?_ rfl rfl b1 ?_); (rfl)) | ((with_reducible refine v_load ?_ rfl rfl b1 rfl rfl rfl rfl ?_); (rfl)) | ((with_reducible refine v_load ?_ rfl rfl b2 rfl rfl rfl rfl ?_); (rfl)) | (go_at_call 24; (with_reducible refine (has_b hs _ _ _ _ _ _ _ _ _ _ _ _ _ _ _ _).mono ?_); rintro e w1 ⟨rfl, h1⟩; have b1 := vblkn h1 b1; have b2 := vblkn h1 b2; have hB0 := vb hB0 h1))
      go_meet
      case rel => rw [hs]; exact ⟨rfl, b1, b2, hB0⟩
  case rest =>
  obtain ⟨rfl, b1, b2, hB0⟩ := hcut
  rcases Bool.eq_false_or_eq_true (hasB h 4 && !sB) with t3 | t3
  · rw [t3]
    go_wp2
    go_ret
    exact ⟨dret (by unfold sameD same7; rw [T0, T1, T2, t3]; rfl), hB0⟩
  rw [t3]
  have T3 := Lib.hid t3
  clear t3
  go_upto_region 9 with (fail)
  go_cut [43] from 5 to 73 (fun u wx => u = .bool ((hasB h 8 && !sC)) ∧ wx.heap[w.heap.size]? = some (.cells #[.int .u8 h, .int .u8 ka, .float .f64 xa, .string sa, .int .i64 ra, .int .u8 kb, .float .f64 xb, .string sb, .int .i64 rb, .int .u8 kc, .float .f64 xc, .string sc, .int .i64 rc, .bool p, .bool q, .bool z] 33 (0, 0)) ∧ wx.heap[w.heap.size + 1]? = some (.cells #[.int .u8 h', .int .u8 kd, .float .f64 xd, .string sd, .int .i64 rd, .int .u8 kf, .float .f64 xf, .string sf, .int .i64 rf, .int .u8 kg, .float .f64 xg, .string sg, .int .i64 rg, .bool p', .bool q', .bool z'] 33 (0, 0)) ∧ Below w.heap.size w wx)
  case first =>
    rcases Bool.eq_false_or_eq_true (hasB h 8) with hs | hs
    · go_wp2_with (first | ((with_reducible refine d_load ?_ rfl rfl b1 ?_); (rfl)) | ((with_reducible refine v_load ?_ rfl rfl b1 rfl rfl rfl rfl ?_); (rfl)) | ((with_reducible refine v_load ?_ rfl rfl b2 rfl rfl rfl rfl ?_); (rfl)) | (go_at_call 24; (with_reducible refine (has_b hs _ _ _ _ _ _ _ _ _ _ _ _ _ _ _ _).mono ?_); rintro e w1 ⟨rfl, h1⟩; have b1 := vblkn h1 b1; have b2 := vblkn h1 b2; have hB0 := vb hB0 h1) | (go_at_call 30; (with_reducible refine (cC _).mono ?_); rintro e w2 ⟨rfl, h1⟩; have b1 := vblkn h1 b1; have b2 := vblkn h1 b2; have hB0 := vb hB0 h1))
      go_meet
      case rel => rw [hs]; exact ⟨rfl, b1, b2, hB0⟩
    · go_wp2_with (first | ((with_reducible refine d_load ?_ rfl rfl b1 ?_); (rfl)) | ((with_reducible refine v_load ?_ rfl rfl b1 rfl rfl rfl rfl ?_); (rfl)) | ((with_reducible refine v_load ?_ rfl rfl b2 rfl rfl rfl rfl ?_); (rfl)) | (go_at_call 24; (with_reducible refine (has_b hs _ _ _ _ _ _ _ _ _ _ _ _ _ _ _ _).mono ?_); rintro e w1 ⟨rfl, h1⟩; have b1 := vblkn h1 b1; have b2 := vblkn h1 b2; have hB0 := vb hB0 h1))
      go_meet
      case rel => rw [hs]; exact ⟨rfl, b1, b2, hB0⟩
  case rest =>
  obtain ⟨rfl, b1, b2, hB0⟩ := hcut
  rcases Bool.eq_false_or_eq_true (hasB h 8 && !sC) with t4 | t4
  · rw [t4]
    go_wp2
    go_ret
    exact ⟨dret (by unfold sameD same7; rw [T0, T1, T2, T3, t4]; rfl), hB0⟩
  rw [t4]
  have T4 := Lib.hid t4
  clear t4
  go_upto_region 11 with (fail)
  go_cut [54] from 5 to 73 (fun u wx => u = .bool ((hasB h 16 && (q != q'))) ∧ wx.heap[w.heap.size]? = some (.cells #[.int .u8 h, .int .u8 ka, .float .f64 xa, .string sa, .int .i64 ra, .int .u8 kb, .float .f64 xb, .string sb, .int .i64 rb, .int .u8 kc, .float .f64 xc, .string sc, .int .i64 rc, .bool p, .bool q, .bool z] 33 (0, 0)) ∧ wx.heap[w.heap.size + 1]? = some (.cells #[.int .u8 h', .int .u8 kd, .float .f64 xd, .string sd, .int .i64 rd, .int .u8 kf, .float .f64 xf, .string sf, .int .i64 rf, .int .u8 kg, .float .f64 xg, .string sg, .int .i64 rg, .bool p', .bool q', .bool z'] 33 (0, 0)) ∧ Below w.heap.size w wx)
  case first =>
    rcases Bool.eq_false_or_eq_true (hasB h 16) with hs | hs
    · go_wp2_with (first | ((with_reducible refine d_load ?_ rfl rfl b1 ?_); (rfl)) | ((with_reducible refine v_load ?_ rfl rfl b1 rfl rfl rfl rfl ?_); (rfl)) | ((with_reducible refine v_load ?_ rfl rfl b2 rfl rfl rfl rfl ?_); (rfl)) | (go_at_call 24; (with_reducible refine (has_b hs _ _ _ _ _ _ _ _ _ _ _ _ _ _ _ _).mono ?_); rintro e w1 ⟨rfl, h1⟩; have b1 := vblkn h1 b1; have b2 := vblkn h1 b2; have hB0 := vb hB0 h1; have e1 := vcells b1 14; have e2 := vcells b2 14))
      go_meet
      case rel => rw [hs]; exact ⟨rfl, b1, b2, hB0⟩
    · go_wp2_with (first | ((with_reducible refine d_load ?_ rfl rfl b1 ?_); (rfl)) | ((with_reducible refine v_load ?_ rfl rfl b1 rfl rfl rfl rfl ?_); (rfl)) | ((with_reducible refine v_load ?_ rfl rfl b2 rfl rfl rfl rfl ?_); (rfl)) | (go_at_call 24; (with_reducible refine (has_b hs _ _ _ _ _ _ _ _ _ _ _ _ _ _ _ _).mono ?_); rintro e w1 ⟨rfl, h1⟩; have b1 := vblkn h1 b1; have b2 := vblkn h1 b2; have hB0 := vb hB0 h1))
      go_meet
      case rel => rw [hs]; exact ⟨rfl, b1, b2, hB0⟩
  case rest =>
  obtain ⟨rfl, b1, b2, hB0⟩ := hcut
  rcases Bool.eq_false_or_eq_true (hasB h 16 && (q != q')) with t5 | t5
  · rw [t5]
    go_wp2
    go_ret
    exact ⟨dret (by unfold sameD same7; rw [T0, T1, T2, T3, T4, t5]; rfl), hB0⟩
  rw [t5]
  have T5 := Lib.hid t5
  clear t5
  go_upto_region 13 with (fail)
  go_cut [4] from 5 to 73 (fun u wx => u = .bool (!(hasB h 32 && (z != z'))) ∧ wx.heap[w.heap.size]? = some (.cells #[.int .u8 h, .int .u8 ka, .float .f64 xa, .string sa, .int .i64 ra, .int .u8 kb, .float .f64 xb, .string sb, .int .i64 rb, .int .u8 kc, .float .f64 xc, .string sc, .int .i64 rc, .bool p, .bool q, .bool z] 33 (0, 0)) ∧ wx.heap[w.heap.size + 1]? = some (.cells #[.int .u8 h', .int .u8 kd, .float .f64 xd, .string sd, .int .i64 rd, .int .u8 kf, .float .f64 xf, .string sf, .int .i64 rf, .int .u8 kg, .float .f64 xg, .string sg, .int .i64 rg, .bool p', .bool q', .bool z'] 33 (0, 0)) ∧ Below w.heap.size w wx)
  case first =>
    rcases Bool.eq_false_or_eq_true (hasB h 32) with hs | hs
    · go_wp2_with (first | ((with_reducible refine d_load ?_ rfl rfl b1 ?_); (rfl)) | ((with_reducible refine v_load ?_ rfl rfl b1 rfl rfl rfl rfl ?_); (rfl)) | ((with_reducible refine v_load ?_ rfl rfl b2 rfl rfl rfl rfl ?_); (rfl)) | (go_at_call 24; (with_reducible refine (has_b hs _ _ _ _ _ _ _ _ _ _ _ _ _ _ _ _).mono ?_); rintro e w1 ⟨rfl, h1⟩; have b1 := vblkn h1 b1; have b2 := vblkn h1 b2; have hB0 := vb hB0 h1; have e1 := vcells b1 15; have e2 := vcells b2 15))
      go_meet
      case rel => rw [hs]; exact ⟨by rw [Bool.true_and, bne, Bool.not_not], b1, b2, hB0⟩
    · go_wp2_with (first | ((with_reducible refine d_load ?_ rfl rfl b1 ?_); (rfl)) | ((with_reducible refine v_load ?_ rfl rfl b1 rfl rfl rfl rfl ?_); (rfl)) | ((with_reducible refine v_load ?_ rfl rfl b2 rfl rfl rfl rfl ?_); (rfl)) | (go_at_call 24; (with_reducible refine (has_b hs _ _ _ _ _ _ _ _ _ _ _ _ _ _ _ _).mono ?_); rintro e w1 ⟨rfl, h1⟩; have b1 := vblkn h1 b1; have b2 := vblkn h1 b2; have hB0 := vb hB0 h1))
      go_meet
      case rel => rw [hs]; exact ⟨rfl, b1, b2, hB0⟩
  case rest =>
  obtain ⟨rfl, b1, b2, hB0⟩ := hcut
  go_wp2
  go_ret
  exact ⟨dret (by unfold sameD same7; rw [T0, T1, T2, T3, T4, T5]; rfl), hB0⟩
end Go.Proofs.YtlgbnfcnimjheaaDoor.S
/-
  Values in letters, their kinds whole numbers: what may be, what can stand as a Get or Set, when two are the same: contracts that hang on the letters alone.
-/
namespace Go.Proofs.YtlgbnfcnimjheaaDoor.S
open Go.RowKit Fl

/-- a value that may come in -/
def VIn (k : Int) (x : Nat) (r : Int) : Prop := 0 ≤ k ∧ k < 256 ∧ x < 2 ^ 64 ∧ r < 2 ^ 63
/-- a value that may be -/
def VOk (k : Int) (x : Nat) (s : ByteArray) (r : Int) : Prop := ∃ v : Vl, v.ok ∧ (v.kd : Int) = k ∧ v.fl = x ∧ v.st = s ∧ v.rf = r
noncomputable def mayI (k : Int) (x : Nat) (s : ByteArray) (r : Int) : Bool := @decide (VOk k x s r) (Classical.propDecidable _)
theorem mayI_iff {k : Int} {x : Nat} {s : ByteArray} {r : Int} : mayI k x s r = true ↔ VOk k x s r := by unfold mayI; exact @decide_eq_true_iff _ (Classical.propDecidable _)
theorem may_i {ka : Int} {xa : Nat} {sa : ByteArray} {ra : Int} (h : VIn ka xa ra) (w : World) : Calls Tryd.prog 23 #[.agg #[.int .u8 ka, .float .f64 xa, .string sa, .int .i64 ra]] w fun e w' => e = .returned (.bool (mayI ka xa sa ra)) ∧ Below w.heap.size w w' := by
  obtain ⟨h0, h1, hx, hr⟩ := h
  obtain ⟨n, rfl⟩ := Int.eq_ofNat_of_zero_le h0
  by_cases hv : VOk (n : Int) xa sa ra
  · rw [mayI_iff.2 hv]
    obtain ⟨v, ok, hk, rfl, rfl, rfl⟩ := hv
    obtain rfl : v.kd = n := by omega
    exact May_ok ok w
  · refine (May_any n xa sa ra w hx hr).mono fun e w' ⟨b, he, hb, g⟩ => ⟨?_, hb⟩
    have hm : mayI (n : Int) xa sa ra = false := by cases hh : mayI (n : Int) xa sa ra with | false => rfl | true => exact absurd (mayI_iff.1 hh) hv
    rw [hm]
    cases b with
    | false => exact he
    | true =>
      obtain ⟨v, ok, hk, h3, h4, h5⟩ := g rfl
      exact absurd ⟨v, ok, by rw [hk], h3, h4, h5⟩ hv
/-- of a value that may stand as a Get or Set -/
def calI (k : Int) : Bool := k == 0 || (k == 7 || k == 8)
noncomputable def callsI (k : Int) (x : Nat) (s : ByteArray) (r : Int) : Bool := mayI k x s r && calI k
theorem Calls_i {ka : Int} {xa : Nat} {sa : ByteArray} {ra : Int} (h : 0 ≤ ka) (w : World) : Calls Tryd.prog 46 #[.agg #[.int .u8 ka, .float .f64 xa, .string sa, .int .i64 ra]] w fun e w' => e = .returned (.bool (ka == 7 || ka == 8)) ∧ Below w.heap.size w w' := by
  obtain ⟨n, rfl⟩ := Int.eq_ofNat_of_zero_le h
  have := Calls_v n xa sa ra w
  unfold calB at this
  rw [← kd_eq n 7, ← kd_eq n 8] at this
  exact this
theorem calls_i {ka : Int} {xa : Nat} {sa : ByteArray} {ra : Int} (h : VIn ka xa ra) (w : World) : Calls Tryd.prog 25 #[.agg #[.int .u8 ka, .float .f64 xa, .string sa, .int .i64 ra]] w fun e w' => e = .returned (.bool (callsI ka xa sa ra)) ∧ Below w.heap.size w w' := by
  have c1 := fun w => may_i (sa := sa) h w
  have c2 := fun w => Calls_i (xa := xa) (sa := sa) (ra := ra) h.1 w
  have hb := heap_alloc_new w (.cells #[.int .u8 ka, .float .f64 xa, .string sa, .int .i64 ra] 30)
  obtain ⟨q0, q1, q2, q3, _⟩ := vc4 hb
  unfold callsI calI
  rcases Bool.eq_false_or_eq_true (mayI ka xa sa ra) with hm | hm
  · rw [hm] at c1
    rcases Bool.eq_false_or_eq_true (ka == 0) with h0 | h0
    all_goals
      go_enter Tryd.func25, Tryd.ntmps25
      go_wp2_with (first
        | (go_at_call 23; (with_reducible refine (c1 _).mono ?_); rintro e w1 ⟨rfl, h1⟩; obtain ⟨q0, q1, q2, q3, _⟩ := vc4 (vblkn h1 hb); have hB := vafter h1)
        | (go_at_call 46; (with_reducible refine (c2 _).mono ?_); rintro e w2 ⟨rfl, h2⟩; have hB := vb hB h2))
      go_ret
      exact ⟨dret (by rw [hm, h0]; simp), hB⟩
  · rw [hm] at c1
    go_enter Tryd.func25, Tryd.ntmps25
    go_wp2_with (go_at_call 23; (with_reducible refine (c1 _).mono ?_); rintro e w1 ⟨rfl, h1⟩; have hB := vafter h1)
    go_ret
    exact ⟨dret (by rw [hm]; rfl), hB⟩
/-- whether two values are the same -/
def sameI (k : Int) (x : Nat) (s : ByteArray) (r : Int) (k' : Int) (x' : Nat) (s' : ByteArray) (r' : Int) : Bool := sameG k.toNat x s r k'.toNat x' s' r'
theorem same_i {ka : Int} {xa : Nat} {sa : ByteArray} {ra : Int} {kb : Int} {xb : Nat} {sb : ByteArray} {rb : Int} (h : 0 ≤ ka ∧ ka ≤ 8) (h' : 0 ≤ kb) (w : World) : Calls Tryd.prog 30 #[.agg #[.int .u8 ka, .float .f64 xa, .string sa, .int .i64 ra], .agg #[.int .u8 kb, .float .f64 xb, .string sb, .int .i64 rb]] w fun e w' => e = .returned (.bool (sameI ka xa sa ra kb xb sb rb)) ∧ Below w.heap.size w w' := by
  obtain ⟨n, rfl⟩ := Int.eq_ofNat_of_zero_le h.1
  obtain ⟨m, rfl⟩ := Int.eq_ofNat_of_zero_le h'
  exact Same_any n xa sa ra m xb sb rb (by omega) w
theorem same_i_refl {ka : Int} {xa : Nat} {sa : ByteArray} {ra : Int} (h : VOk ka xa sa ra) : sameI ka xa sa ra ka xa sa ra = true := by
  obtain ⟨v, ok, rfl, rfl, rfl, rfl⟩ := h
  exact sameV_refl ok
theorem vok_kind {ka : Int} {xa : Nat} {sa : ByteArray} {ra : Int} (h : VOk ka xa sa ra) : 0 ≤ ka ∧ ka ≤ 8 := by
  obtain ⟨v, ok, rfl, rfl, rfl, rfl⟩ := h
  cases v with
  | obj k r => have := ok.1; simp only [Vl.kd]; omega
  | _ => simp only [Vl.kd]; omega
theorem vok_und : VOk 0 0 ⟨#[]⟩ 0 := ⟨.und, trivial, rfl, rfl, rfl, rfl⟩
end Go.Proofs.YtlgbnfcnimjheaaDoor.S
