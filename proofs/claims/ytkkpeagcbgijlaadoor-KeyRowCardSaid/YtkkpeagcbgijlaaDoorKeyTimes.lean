/-
  The law's times and third: walks.
-/
import Derived.Test.YtkkpeagcbgijlaaDoorKeyAlive
namespace Go.Proofs.YtkkpeagcbgijlaaDoor.S
open Go.RowKit Fl

/-- two keys, compared -/
def eqK (a b : Ky) : Bool := (a.str == b.str) && (a.sym == b.sym)
theorem eqK_iff {a b : Ky} : eqK a b = true ↔ a = b := by
  unfold eqK
  rw [Bool.and_eq_true]
  constructor
  · rintro ⟨h1, h2⟩
    cases a; cases b
    have := str_beq h1
    have := eq_of_beq h2
    simp_all
  · rintro rfl
    exact ⟨str_same _, beq_self_eq_true _⟩
theorem eqK_no {a b : Ky} (h : a ≠ b) : eqK a b = false := by
  cases c : eqK a b
  · rfl
  · exact absurd (eqK_iff.1 c) h
def timesL (L : List Ky) (k : Ky) : Nat := (L.filter fun x => eqK x k).length
theorem times_ord {L M : List Ky} (h : OrdOf L M) (k : Ky) : timesL M k = timesL L k := by
  have e : ∀ X : List Ky, timesL X k = ((X.filter fun x => rkKy x == rkKy k).filter fun x => eqK x k).length := fun X => by
    unfold timesL
    rw [List.filter_filter]
    congr 1
    refine List.filter_congr fun x _ => ?_
    cases c : eqK x k
    · rfl
    · rw [eqK_iff.1 c]; simp
  rw [e, e, h.fil]
def thR (r : Nat) : Nat := if r < 1024 then 0 else if r = 1024 then 1 else 2
def thK (k : Ky) : Nat := thR (rkKy k)
def ixN (k : Ky) : Nat := (ixK k.str k.sym).getD 0
theorem th_some {k : Ky} {n : Nat} (h : ixK k.str k.sym = some n) : thK k = 0 ∧ rkKy k = n := by
  have e : rkKy k = n := by unfold rkKy rkK rkO; rw [h]
  unfold thK thR
  have := (ixK_lt h).1
  rw [e, if_pos this]
  exact ⟨rfl, rfl⟩
theorem th_none {k : Ky} (h : ixK k.str k.sym = none) : thK k = if 0 < k.sym then 2 else 1 := by
  have e : rkKy k = if k.sym ≤ 0 then 1024 else 1025 := by unfold rkKy rkK rkO; rw [h]
  unfold thK thR
  rw [e]
  clear e
  by_cases c : k.sym ≤ 0
  · rw [if_pos c, if_neg (show ¬ 0 < k.sym by omega)]; rfl
  · rw [if_neg c, if_pos (show 0 < k.sym by omega)]; rfl

set_option maxHeartbeats 1000000 in
theorem third_k (s : ByteArray) (y : Int) (w : World) (hs : s.size ≤ maxLen) (hy : -2 ^ 63 ≤ y ∧ y < 2 ^ 63) (htab : TabHere w) : Calls Tryd.prog 10 #[.agg #[.string s, .int .i64 y]] w fun e w' => e = .returned (.int .i64 (thK ⟨s, y⟩ : Nat)) ∧ Below w.heap.size w w' := by
  have hI := fun w ht => Index_k s y w hs hy ht
  have HTAB := Lib.hid htab
  clear htab
  cases ho : ixK s y with
  | some n =>
    rw [ho] at hI
    have e := (th_some (k := ⟨s, y⟩) ho).1
    rw [e]
    unfold IdxTo at hI
    simp only [Option.getD_some, Option.isSome_some] at hI
    clear e ho
    go_enter Tryd.func10, Tryd.ntmps10
    go_wp2_with (go_at_call 11; refine (hI _ (tab_up HTAB.out (vzero _ _))).mono ?_; rintro e w1 ⟨rfl, h1⟩; have hb1 := vblk1 h1; have hz1 := vlt1 h1; obtain ⟨hc0, hc1, hfr⟩ := kc2 hb1; clear hb1; have H1 := Lib.hid (vafter h1); clear h1)
    go_ret
    exact ⟨rfl, H1.out⟩
  | none =>
    rw [ho] at hI
    have e := th_none (k := ⟨s, y⟩) ho
    unfold IdxTo at hI
    simp only [Option.getD_none, Option.isSome_none] at hI
    by_cases c1 : 0 < y
    · have e2 : thK ⟨s, y⟩ = 2 := by rw [e]; exact if_pos c1
      rw [e2]
      clear e e2 ho
      go_enter Tryd.func10, Tryd.ntmps10
      go_wp2_with (go_at_call 11; refine (hI _ (tab_up HTAB.out (vzero _ _))).mono ?_; rintro e w1 ⟨rfl, h1⟩; have hb1 := vblk1 h1; have hz1 := vlt1 h1; obtain ⟨hc0, hc1, hfr⟩ := kc2 hb1; clear hb1; have H1 := Lib.hid (vafter h1); clear h1)
      go_ret
      exact ⟨rfl, H1.out⟩
    · have e2 : thK ⟨s, y⟩ = 1 := by rw [e]; exact if_neg c1
      rw [e2]
      clear e e2 ho
      go_enter Tryd.func10, Tryd.ntmps10
      go_wp2_with (go_at_call 11; refine (hI _ (tab_up HTAB.out (vzero _ _))).mono ?_; rintro e w1 ⟨rfl, h1⟩; have hb1 := vblk1 h1; have hz1 := vlt1 h1; obtain ⟨hc0, hc1, hfr⟩ := kc2 hb1; clear hb1; have H1 := Lib.hid (vafter h1); clear h1)
      go_ret
      exact ⟨rfl, H1.out⟩

theorem times_succ (L : List Ky) (k : Ky) (i : Nat) (h : i < L.length) : timesL (L.take (i + 1)) k = timesL (L.take i) k + if eqK L[i] k = true then 1 else 0 := by
  unfold timesL
  rw [List.take_add_one, List.getElem?_eq_getElem h, List.filter_append, List.length_append]
  congr 1
  simp only [Option.toList_some, List.filter_cons, List.filter_nil]
  split <;> rfl
theorem times_le (L : List Ky) (k : Ky) (i : Nat) : timesL (L.take i) k ≤ i := by
  unfold timesL
  have := List.length_filter_le (fun x => eqK x k) (L.take i)
  have h2 := List.length_take_le i L
  omega
set_option maxHeartbeats 1000000 in
set_option maxRecDepth 100000 in
theorem times_k (A : Option Addr) (L : List Ky) (cap : Nat) (k : Ky) (w : World) (hl : L.length < 1000000000000) (hL : RK w A L) : Calls Tryd.prog 9 #[.slice A L.length cap, .agg #[.string k.str, .int .i64 k.sym]] w fun e w' => e = .returned (.int .i64 (timesL L k : Nat)) ∧ Below w.heap.size w w' := by
  go_enter Tryd.func9, Tryd.ntmps9
  go_wp2
  go_loopg [5, 6] L.length (fun kx s5 s6 wr => ∃ (i n : Nat), s6 = .int .i64 i ∧ s5 = .int .i64 n ∧ i + kx = L.length ∧ n ≤ i ∧ Hid (n = timesL (L.take i) k ∧ Below w.heap.size w wr ∧ wr.heap[w.heap.size]? = some (.cells #[.string k.str, .int .i64 k.sym] 24 (0, 0))))
  case atStart => exact ⟨0, 0, rfl, rfl, by omega, Nat.le_refl _, Lib.hid ⟨rfl, vzero _ _, heap_alloc_new _ _⟩⟩
  case round =>
    obtain ⟨i, n, rfl, rfl, hik, hni, H⟩ := hrel
    cases gk with
    | zero =>
      obtain rfl : i = L.length := by omega
      go_wp2
      go_ret
      have e := H.out.1
      rw [List.take_length] at e
      exact ⟨by rw [← e]; rfl, H.out.2.1⟩
    | succ kx =>
      have hlt : i < L.length := by omega
      have hlz : (i : Int) < (L.length : Int) := by omega
      obtain ⟨a, rfl, ha, hcs⟩ := rk_up hL H.out.2.1 (by omega)
      obtain ⟨c0, c1⟩ := hcs i hlt
      obtain ⟨k0, k1, kf⟩ := kc2 H.out.2.2
      have hab : ∀ j, (a.add j).block < wr.heap.size := fun j => by
        have : (a.add j).block = a.block := by unfold Addr.add; split <;> rfl
        rw [this]; exact ha
      have qe := key_eq 9998 L[i].str k.str L[i].sym k.sym
      have hsu := times_succ L k i hlt
      have hle := times_le L k (i + 1)
      rw [show (L[i].str == k.str && L[i].sym == k.sym) = eqK L[i] k from rfl] at qe
      clear hcs
      cases he : eqK L[i] k
      · rw [he] at qe hsu
        rw [if_neg (by decide)] at hsu
        have H' := Lib.hid (And.intro (H.out.1.trans hsu.symm) H.out.2)
        clear he hsu hle
        generalize L[i].str = s at *
        generalize L[i].sym = y at *
        go_wp2
        go_quiet (fail)
        go_wp2
        go_roundg kx
        case measure => omega
        case rel => exact ⟨i + 1, n, by simp, rfl, by omega, by omega, Lib.hid ⟨H'.out.1, H'.out.2.1.trans ⟨rfl, rfl, rfl, Nat.le_refl _, fun _ _ => rfl⟩, H'.out.2.2⟩⟩
      · rw [he] at qe hsu
        rw [if_pos rfl] at hsu
        have H' := Lib.hid (And.intro ((congrArg (· + 1) H.out.1).trans hsu.symm) H.out.2)
        clear he hsu hle
        generalize L[i].str = s at *
        generalize L[i].sym = y at *
        go_wp2
        go_quiet (fail)
        go_wp2
        go_roundg kx
        case measure => omega
        case rel => exact ⟨i + 1, n + 1, by simp, by simp, by omega, by omega, Lib.hid ⟨H'.out.1, H'.out.2.1.trans ⟨rfl, rfl, rfl, Nat.le_refl _, fun _ _ => rfl⟩, H'.out.2.2⟩⟩
end Go.Proofs.YtkkpeagcbgijlaaDoor.S
