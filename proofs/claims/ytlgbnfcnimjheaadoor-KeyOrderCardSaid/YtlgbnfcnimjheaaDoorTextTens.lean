/-
  Text of package num beside the document's own, for every float: walks.
-/
import Derived.Test.YtlgbnfcnimjheaaDoorTextRead
import Derived.Test.YtlgbnfcnimjheaaDoorNumBack
import Derived.Lib.AppendIntMem
namespace Go.Proofs.YtlgbnfcnimjheaaDoor
open Go.RowKit Fl

def textL (c : Cl) : List UInt8 := match c with
  | .nan => [78, 97, 78]
  | .other => []
  | .ours n => Lib.itoa n
def TextTo (l : List UInt8) (w : World) (e : Ending) (w' : World) : Prop := ∃ t : ByteArray, t.data.toList = l ∧ e = .returned (.string t) ∧ Below w.heap.size w w'

theorem grow_below (w : World) (k : Nat) (os : Array Obj) : Below w.heap.size w (Sort.grow (w.drewN k) os) := by
  refine ⟨rfl, rfl, rfl, ?_, fun i hi => ?_⟩
  · show w.heap.size ≤ (w.heap ++ os).size
    simp
  · show (w.heap ++ os)[i]? = w.heap[i]?
    rw [Array.getElem?_append_left hi]

theorem encode_one (k : Nat) (hk : k < 10) : Utf8.encode (48 + (k : Int)) = ⟨#[UInt8.ofNat (48 + k)]⟩ := by
  have : k = 0 ∨ k = 1 ∨ k = 2 ∨ k = 3 ∨ k = 4 ∨ k = 5 ∨ k = 6 ∨ k = 7 ∨ k = 8 ∨ k = 9 := by omega
  rcases this with rfl | rfl | rfl | rfl | rfl | rfl | rfl | rfl | rfl | rfl <;> decide

theorem size_one (b : UInt8) : (⟨#[b]⟩ : ByteArray).size = 1 := rfl
theorem decDigits_big (k : Nat) (h : 10 ≤ k) : Lib.decDigits k = Lib.decDigits (k / 10) ++ [UInt8.ofNat (48 + k % 10)] := by
  rw [Lib.decDigits]; rw [dif_neg (by omega)]
theorem decDigits_one (k : Nat) (h : k < 10) : Lib.decDigits k = [UInt8.ofNat (48 + k)] := by
  rw [Lib.decDigits]; rw [dif_pos h]

set_option maxHeartbeats 400000 in
theorem Tens_nat (n : Nat) (w : World) (hn : n ≤ 9007199254740991) :
    Calls Tryd.prog 70 #[.int .i64 (n : Int)] w (TextTo (Lib.decDigits n) w) := by
  go_enter Tryd.func70, Tryd.ntmps70
  go_wp2_with (fail)
  go_loop [0, 3] (fun n' o => ∃ (k : Nat) (t : ByteArray), k ≤ n ∧ t.size + k ≤ n ∧ n' = .int .i64 (k : Int) ∧ o = .string t ∧ Lib.decDigits n = Lib.decDigits k ++ t.data.toList) (fun n' _ => (intOf n').toNat)
  case atStart => exact ⟨n, ByteArray.empty, Nat.le_refl _, Nat.le_of_eq (Nat.zero_add n), rfl, rfl, by simp⟩
  case round =>
    obtain ⟨k, t, hk, hks, rfl, rfl, hd⟩ := hrel
    have HD := Lib.hid hd
    have HK := Lib.hid hks
    clear hd hks
    by_cases c : 10 ≤ k
    · go_wp2
      · exfalso
        have hbig : 9223372036854775807 < (Utf8.encode (48 + (k : Int) % 10)).size + t.size := by assumption
        have he' : Utf8.encode (48 + (k : Int) % 10) = ⟨#[UInt8.ofNat (48 + k % 10)]⟩ := encode_one (k % 10) (by omega)
        have hks := HK.out
        rw [he', size_one] at hbig; omega
      · go_round
        case rel =>
          have he' : Utf8.encode (48 + (k : Int) % 10) = ⟨#[UInt8.ofNat (48 + k % 10)]⟩ := encode_one (k % 10) (by omega)
          have hb := decDigits_big k c
          have hks := HK.out
          exact ⟨k / 10, Utf8.encode (48 + (k : Int) % 10) ++ t, by omega, by rw [ByteArray.size_append, he', size_one]; omega, by go_num, rfl, by rw [HD.out, hb, ByteArray.data_append, Array.toList_append, he', List.append_assoc]⟩
        case measure => simp [intOf]; omega
    · go_wp2
      · exfalso
        have hbig : 9223372036854775807 < (Utf8.encode (48 + (k : Int))).size + t.size := by assumption
        have he' : Utf8.encode (48 + (k : Int)) = ⟨#[UInt8.ofNat (48 + k)]⟩ := encode_one k (by omega)
        have hks := HK.out
        rw [he', size_one] at hbig; omega
      · go_ret
        have he' : Utf8.encode (48 + (k : Int)) = ⟨#[UInt8.ofNat (48 + k)]⟩ := encode_one k (by omega)
        have hb := decDigits_one k (by omega)
        exact ⟨Utf8.encode (48 + (k : Int)) ++ t, by rw [HD.out, hb, ByteArray.data_append, Array.toList_append, he'], rfl, Below.refl _ _⟩

theorem decDigits_len (k : Nat) : (Lib.decDigits k).length ≤ k + 1 := by
  induction k using Nat.strongRecOn with
  | _ k ih =>
    by_cases c : k < 10
    · rw [decDigits_one k c]; simp
    · rw [decDigits_big k (by omega), List.length_append]
      have := ih (k / 10) (by omega)
      simp only [List.length_cons, List.length_nil]; omega

theorem Tens_int (n : Int) (w : World) (h : SafeN n) : Calls Tryd.prog 70 #[.int .i64 n] w (TextTo (Lib.itoa n) w) := by
  obtain ⟨h1, h2⟩ := h
  by_cases c : n < 0
  · have hT := fun w => Tens_nat n.natAbs w (by omega)
    have e : ((n.natAbs : Nat) : Int) = -n := by omega
    rw [e] at hT
    have hlen := decDigits_len n.natAbs
    have hi : Lib.itoa n = 45 :: Lib.decDigits n.natAbs := by unfold Lib.itoa; rw [if_pos c]
    rw [hi]
    have HL : Hid ((Lib.decDigits n.natAbs).length ≤ 9007199254740992) := Lib.hid (by omega)
    clear hlen hi e
    generalize Lib.decDigits n.natAbs = l at *
    go_enter Tryd.func70, Tryd.ntmps70
    go_wp2_with (go_at_call 70; refine (hT _).mono ?_; rintro e w' ⟨t, ht, rfl, hB⟩; have H1 := Lib.hid ht; have H2 := Lib.hid hB; clear ht hB)
    · exfalso
      have hbig : 9223372036854775807 < 1 + t.size := by assumption
      have h1 := H1.out
      have h2 := HL.out
      have h3 := size_len t
      rw [h1] at h3
      omega
    · go_ret
      exact ⟨⟨#[45]⟩ ++ t, by rw [ByteArray.data_append, Array.toList_append, H1.out]; rfl, rfl, H2.out⟩
  · have hT := Tens_nat n.toNat w (by omega)
    have e : ((n.toNat : Nat) : Int) = n := by omega
    rw [e] at hT
    have hi : Lib.itoa n = Lib.decDigits n.toNat := by unfold Lib.itoa; rw [if_neg c]
    rw [hi]; exact hT

theorem Text_cls {c : Cl} {x : Nat} (h : Is c x) (w : World) (htab : Lib.TabIs Tryd.prog w "internal/strconv.uint64pow10" .u64 Lib.pow10Tab) :
    Calls Tryd.prog 50 #[.float .f64 x] w (TextTo (textL c) w) := by
  have m := fun w => May_cls h w
  have ho := self_cls h
  cases c with
  | nan =>
    dsimp only [selfO] at ho
    go_enter Tryd.func50, Tryd.ntmps50
    go_wp2_with (go_at_call 75; refine (none_any _ _).mono ?_; rintro e w' ⟨rfl, rfl⟩)
    go_ret
    exact ⟨_, rfl, rfl, Below.refl _ _⟩
  | other =>
    dsimp only [selfO] at ho
    dsimp only [mayC] at m
    go_enter Tryd.func50, Tryd.ntmps50
    go_wp2_with (first | (go_at_call 75; refine (none_any _ _).mono ?_; rintro e w' ⟨rfl, rfl⟩) | (go_at_call 71; refine (m _).mono ?_; rintro e w' ⟨rfl, rfl⟩))
    go_ret
    exact ⟨_, rfl, rfl, Below.refl _ _⟩
  | ours n =>
    dsimp only [selfO] at ho
    dsimp only [mayC] at m
    obtain ⟨rfl, hs⟩ := h
    have hc := fun w => conv_run (floatToIntVal_F n hs.abs) w
    have hF := Tryd.strconv_FormatInt_10 n (by have := hs.1; omega) (by have := hs.2; omega) w htab
    have hF' : Calls Tryd.prog 76 #[.int .i64 n, .int .i64 10] w (TextTo (Lib.itoa n) w) := hF.mono fun e w' ⟨he, k, os, hw⟩ => ⟨_, rfl, he, by rw [hw]; exact grow_below w k os⟩
    clear hF htab hs
    show Calls _ _ _ _ (TextTo (Lib.itoa n) w)
    generalize F n = x at *
    go_enter Tryd.func50, Tryd.ntmps50
    go_wp2_with (first | (go_at_call 75; refine (none_any _ _).mono ?_; rintro e w' ⟨rfl, rfl⟩) | (go_at_call 71; refine (m _).mono ?_; rintro e w' ⟨rfl, rfl⟩) | (go_at_call 76; refine hF'.mono ?_; rintro e w' ⟨t, ht, rfl, hB⟩))
    go_ret
    exact ⟨t, ht, rfl, hB⟩
end Go.Proofs.YtlgbnfcnimjheaaDoor
