/-
  The document's own Read at every text: a walk.
-/
import Derived.Test.YtgjpcoplnpkmoaaGreatDoorTextRef
namespace Go.Proofs.YtgjpcoplnpkmoaaGreatDoor
open Go.RowKit Fl

def seg (t : ByteArray) (a k : Nat) : List UInt8 := (t.data.toList.take k).drop a
theorem seg_succ (t : ByteArray) (a k : Nat) (h : a ≤ k) (hk : k < t.size) : seg t a (k + 1) = seg t a k ++ [t[k]] := by
  unfold seg
  rw [take_snoc t k hk, List.drop_append_of_le_length]
  rw [List.length_take]
  have := size_len t
  omega
theorem seg_self (t : ByteArray) (a : Nat) : seg t a a = [] := by unfold seg; exact List.drop_eq_nil_of_le (List.length_take_le _ _)
theorem seg_all (t : ByteArray) (a k : Nat) (h : t.size ≤ k) : seg t a k = t.data.toList.drop a := by unfold seg; rw [List.take_of_length_le (by rw [← size_len]; exact h)]
theorem valD_app (x y : List UInt8) : valD x ≤ valD (x ++ y) := by
  unfold valD
  rw [List.foldl_append]
  generalize x.foldl (fun n c => n * 10 + (c.toNat - 48)) 0 = n
  induction y generalizing n with
  | nil => exact Nat.le_refl _
  | cons c r ih => exact Nat.le_trans (by omega) (ih (n * 10 + (c.toNat - 48)))
theorem seg_le (t : ByteArray) (a k : Nat) : valD (seg t a k) ≤ valD (t.data.toList.drop a) := by
  have : t.data.toList.drop a = seg t a k ++ (t.data.toList.drop (max a k)) := by
    unfold seg
    by_cases c : a ≤ k
    · rw [Nat.max_eq_right c, List.drop_take]
      have e : t.data.toList.drop k = (t.data.toList.drop a).drop (k - a) := by rw [List.drop_drop]; congr 1; omega
      rw [e, List.take_append_drop]
    · have e1 : (t.data.toList.take k).drop a = [] := List.drop_eq_nil_of_le (by rw [List.length_take]; omega)
      rw [Nat.max_eq_left (by omega), e1]; rfl
  rw [this]; exact valD_app _ _
theorem drop_dig (t : ByteArray) (a k : Nat) (h : a ≤ k) (hk : k < t.size) (hd : isDig t[k] = false) : (t.data.toList.drop a).all isDig = false := by
  rw [List.all_eq_false]
  refine ⟨t[k], ?_, by simp [hd]⟩
  rw [List.mem_iff_getElem?]
  exact ⟨k - a, by rw [List.getElem?_drop, show a + (k - a) = k by omega]; exact getElem_list t k hk⟩
theorem drop_dig_at (t : ByteArray) (a k : Nat) (h : a ≤ k) (hk : k < t.size) (hd : (t.data.toList.drop a).all isDig = true) : isDig t[k] = true := by
  cases c : isDig t[k]
  · rw [drop_dig t a k h hk c] at hd; cases hd
  · rfl

theorem below_draw2 {w W : World} (h : Below w.heap.size w W) (n : Nat) : Below w.heap.size w (W.drewN n) := ⟨h.os, h.tape, h.output, h.size, h.block⟩
theorem digR_nan (neg : Bool) {l : List UInt8} (h : l = [] ∨ l.all isDig = false) : digR neg l = .nan := by unfold digR; rw [if_pos h]
theorem digR_big (neg : Bool) {l : List UInt8} (h1 : l ≠ []) (h2 : l.all isDig = true) (h3 : 9007199254740991 < valD l) : digR neg l = .err 10 := by
  unfold digR; rw [if_neg (by rintro (h | h); exact h1 h; rw [h2] at h; cases h), if_pos h3]
theorem digR_zero {l : List UInt8} (h1 : l ≠ []) (h2 : l.all isDig = true) (h3 : valD l = 0) : digR true l = .err 10 := by
  unfold digR; rw [if_neg (by rintro (h | h); exact h1 h; rw [h2] at h; cases h), if_neg (by omega), if_pos ⟨rfl, h3⟩]
theorem digR_ok (neg : Bool) {l : List UInt8} (h1 : l ≠ []) (h2 : l.all isDig = true) (h3 : valD l ≤ 9007199254740991) (h4 : neg = true → valD l ≠ 0) : digR neg l = .ok (if neg then -(valD l : Int) else (valD l : Int)) := by
  unfold digR; rw [if_neg (by rintro (h | h); exact h1 h; rw [h2] at h; cases h), if_neg (by omega), if_neg (by rintro ⟨a, b⟩; exact h4 a b)]


set_option maxHeartbeats 1000000 in
theorem refRead_minus (s t : ByteArray) (l : List UInt8) (hl : t.data.toList.drop 1 = l) (w : World) (hB : ∀ w, Calls Tryz.prog 126 #[.string s] w fun e w' => e = .returned (.string t) ∧ Below w.heap.size w w') (ht : t.size ≤ maxLen) (h0 : 0 < t.size) (hz : t.toList.isEmpty = false) (h45 : (t[0].toNat : Int) = 45) (h1 : 1 < t.size) :
    Calls Tryz.prog 97 #[.string s] w (RetRead (digR true l) w) := by
  unfold maxLen at ht
  have HLL : Hid (t.data.toList.drop 1 = l) := Lib.hid hl
  clear hl
  have hsz : ¬ (1 : Int) = (t.size : Int) := by omega
  go_enter Tryz.func97, Tryz.ntmps97
  go_wp2_with (go_at_call 126; refine (hB _).mono ?_; rintro e w1 ⟨rfl, hb1⟩; have HB1 := Lib.hid hb1; clear hb1)
  clear hz
  go_loop [6] (fun i => ∃ k : Nat, 1 ≤ k ∧ k ≤ t.size ∧ i = .int .i64 (k : Int) ∧ (seg t 1 k).all isDig = true) (fun i => t.size - (intOf i).toNat)
  case atStart => exact ⟨1, Nat.le_refl _, by omega, rfl, by rw [seg_self]; rfl⟩
  case round =>
    obtain ⟨k, hak, hk, rfl, hall⟩ := hrel
    have HA := Lib.hid hall
    clear hall
    by_cases hlt : k < t.size
    · cases hd : isDig t[k]
      · have hna : Hid (l.all isDig = false) := Lib.hid (by rw [← HLL.out]; exact drop_dig t 1 k hak hlt hd)
        have hcase : (t[k].toNat : Int) < 48 ∨ (¬ (t[k].toNat : Int) < 48 ∧ 57 < (t[k].toNat : Int)) := by
          by_cases c1 : t[k].toNat < 48
          · exact Or.inl (by omega)
          · refine Or.inr ⟨by omega, ?_⟩
            by_cases c2 : 57 < t[k].toNat
            · omega
            · rw [(isDig_iff t[k]).2 ⟨by omega, by omega⟩] at hd; cases hd
        clear hd
        rcases hcase with c1 | ⟨c1, c2⟩
        all_goals
          go_wp2_with (go_at_call 127; refine (refNaN_any _).mono ?_; rintro e w' ⟨v, n, hv, rfl, rfl⟩)
          go_ret2
          exact ⟨v, 0, by rw [digR_nan true (Or.inr hna.out)]; exact ⟨hv, rfl⟩, rfl, below_draw2 HB1.out _⟩
      · have hdd := (isDig_iff t[k]).1 hd
        have c1 : ¬ (t[k].toNat : Int) < 48 := by omega
        have c2 : ¬ 57 < (t[k].toNat : Int) := by omega
        have HA2 : Hid ((seg t 1 (k + 1)).all isDig = true) := Lib.hid (by rw [seg_succ t 1 k hak hlt, List.all_append, HA.out]; simp [hd])
        clear hd hdd
        go_wp2
        go_round
        case rel => exact ⟨k + 1, by omega, by omega, by go_num, HA2.out⟩
        case measure => simp [intOf]; omega
    · have hall : l.all isDig = true := by rw [← HLL.out, ← seg_all t 1 k (by omega)]; exact HA.out
      have hne : l ≠ [] := by
        intro e
        rw [← HLL.out] at e
        have := congrArg List.length e
        rw [List.length_drop, ← size_len] at this
        simp only [List.length_nil] at this
        omega
      have HALL := Lib.hid hall
      have HNE := Lib.hid hne
      clear hall hne HA
      go_wp2_with (fail)
      go_loop [7, 8] (fun n i => ∃ m : Nat, 1 ≤ m ∧ m ≤ t.size ∧ i = .int .i64 (m : Int) ∧ n = .int .i64 ((valD (seg t 1 m) : Nat) : Int) ∧ valD (seg t 1 m) ≤ 9007199254740991) (fun _ i => t.size - (intOf i).toNat)
      case atStart => exact ⟨1, Nat.le_refl _, by omega, rfl, by rw [seg_self]; rfl, by rw [seg_self]; decide⟩
      case round =>
        obtain ⟨m, ham, hm, rfl, rfl, hval⟩ := hrel
        by_cases hlt2 : m < t.size
        · have hdd := (isDig_iff t[m]).1 (drop_dig_at t 1 m ham hlt2 (by rw [HLL.out]; exact HALL.out))
          have hsn : valD (seg t 1 (m + 1)) = valD (seg t 1 m) * 10 + (t[m].toNat - 48) := by rw [seg_succ t 1 m ham hlt2, valD_snoc]
          have HSN := Lib.hid hsn
          have hle : Hid (valD (seg t 1 (m + 1)) ≤ valD l) := Lib.hid (by rw [← HLL.out]; exact seg_le t 1 (m + 1))
          obtain ⟨v, hv⟩ : ∃ v, v = valD (seg t 1 m) := ⟨_, rfl⟩
          have HV := Lib.hid hv
          rw [← hv] at hval ⊢
          clear hsn hv
          obtain ⟨d1, d2⟩ := hdd
          obtain ⟨c, hc⟩ : ∃ c : Int, c = (t[m].toNat : Int) := ⟨_, rfl⟩
          by_cases hbig : 9007199254740991 < 10 * (v : Int) + (t[m].toNat : Int) - 48
          · have hB2 : Hid (9007199254740991 < valD l) := Lib.hid (by have := HSN.out; have := hle.out; have := HV.out; omega)
            clear hc
            go_wp2
            go_ret2
            exact ⟨0, 10, by rw [digR_big true HNE.out HALL.out hB2.out]; exact ⟨rfl, rfl⟩, rfl, HB1.out⟩
          · have HN : Hid (valD (seg t 1 (m + 1)) ≤ 9007199254740991) := Lib.hid (by have := HSN.out; have := HV.out; omega)
            have HE : Hid ((10 * (v : Int) + (t[m].toNat : Int) - 48) = ((valD (seg t 1 (m + 1)) : Nat) : Int)) := Lib.hid (by have := HSN.out; have := HV.out; omega)
            clear hc
            go_wp2
            go_round
            case rel => exact ⟨m + 1, by omega, by omega, by go_num, by rw [HE.out], HN.out⟩
            case measure => simp [intOf]; omega
        · have he : seg t 1 m = l := (seg_all t 1 m (by omega)).trans HLL.out
          rw [he] at hval ⊢
          clear he
          obtain ⟨v, hv⟩ : ∃ v, v = valD l := ⟨_, rfl⟩
          have HV := Lib.hid hv
          rw [← hv] at hval ⊢
          clear hv
          by_cases hv0 : v = 0
          · subst hv0
            go_wp2
            go_ret2
            exact ⟨0, 10, by rw [digR_zero HNE.out HALL.out HV.out.symm]; exact ⟨rfl, rfl⟩, rfl, HB1.out⟩
          · have hv1 : ((v : Int) == 0) = false := by simp; exact hv0
            go_wp2
            go_ret2
            refine ⟨F (-(v : Int)), 0, ?_, rfl, HB1.out⟩
            rw [digR_ok true HNE.out HALL.out (by have := HV.out; omega) (fun _ => by have := HV.out; omega)]
            have := HV.out
            rw [← this]
            exact ⟨⟨rfl, by unfold SafeN; simp only [if_true]; omega⟩, rfl⟩

set_option maxHeartbeats 1000000 in
theorem refRead_plus (s t : ByteArray) (l : List UInt8) (hl : t.data.toList.drop 1 = l) (w : World) (hB : ∀ w, Calls Tryz.prog 126 #[.string s] w fun e w' => e = .returned (.string t) ∧ Below w.heap.size w w') (ht : t.size ≤ maxLen) (h0 : 0 < t.size) (hz : t.toList.isEmpty = false) (h43 : (t[0].toNat : Int) = 43) (h1 : 1 < t.size) :
    Calls Tryz.prog 97 #[.string s] w (RetRead (digR false l) w) := by
  unfold maxLen at ht
  have HLL : Hid (t.data.toList.drop 1 = l) := Lib.hid hl
  clear hl
  have hsz : ¬ (1 : Int) = (t.size : Int) := by omega
  go_enter Tryz.func97, Tryz.ntmps97
  go_wp2_with (go_at_call 126; refine (hB _).mono ?_; rintro e w1 ⟨rfl, hb1⟩; have HB1 := Lib.hid hb1; clear hb1)
  clear hz
  go_loop [6] (fun i => ∃ k : Nat, 1 ≤ k ∧ k ≤ t.size ∧ i = .int .i64 (k : Int) ∧ (seg t 1 k).all isDig = true) (fun i => t.size - (intOf i).toNat)
  case atStart => exact ⟨1, Nat.le_refl _, by omega, rfl, by rw [seg_self]; rfl⟩
  case round =>
    obtain ⟨k, hak, hk, rfl, hall⟩ := hrel
    have HA := Lib.hid hall
    clear hall
    by_cases hlt : k < t.size
    · cases hd : isDig t[k]
      · have hna : Hid (l.all isDig = false) := Lib.hid (by rw [← HLL.out]; exact drop_dig t 1 k hak hlt hd)
        have hcase : (t[k].toNat : Int) < 48 ∨ (¬ (t[k].toNat : Int) < 48 ∧ 57 < (t[k].toNat : Int)) := by
          by_cases c1 : t[k].toNat < 48
          · exact Or.inl (by omega)
          · refine Or.inr ⟨by omega, ?_⟩
            by_cases c2 : 57 < t[k].toNat
            · omega
            · rw [(isDig_iff t[k]).2 ⟨by omega, by omega⟩] at hd; cases hd
        clear hd
        rcases hcase with c1 | ⟨c1, c2⟩
        all_goals
          go_wp2_with (go_at_call 127; refine (refNaN_any _).mono ?_; rintro e w' ⟨v, n, hv, rfl, rfl⟩)
          go_ret2
          exact ⟨v, 0, by rw [digR_nan false (Or.inr hna.out)]; exact ⟨hv, rfl⟩, rfl, below_draw2 HB1.out _⟩
      · have hdd := (isDig_iff t[k]).1 hd
        have c1 : ¬ (t[k].toNat : Int) < 48 := by omega
        have c2 : ¬ 57 < (t[k].toNat : Int) := by omega
        have HA2 : Hid ((seg t 1 (k + 1)).all isDig = true) := Lib.hid (by rw [seg_succ t 1 k hak hlt, List.all_append, HA.out]; simp [hd])
        clear hd hdd
        go_wp2
        go_round
        case rel => exact ⟨k + 1, by omega, by omega, by go_num, HA2.out⟩
        case measure => simp [intOf]; omega
    · have hall : l.all isDig = true := by rw [← HLL.out, ← seg_all t 1 k (by omega)]; exact HA.out
      have hne : l ≠ [] := by
        intro e
        rw [← HLL.out] at e
        have := congrArg List.length e
        rw [List.length_drop, ← size_len] at this
        simp only [List.length_nil] at this
        omega
      have HALL := Lib.hid hall
      have HNE := Lib.hid hne
      clear hall hne HA
      go_wp2_with (fail)
      go_loop [7, 8] (fun n i => ∃ m : Nat, 1 ≤ m ∧ m ≤ t.size ∧ i = .int .i64 (m : Int) ∧ n = .int .i64 ((valD (seg t 1 m) : Nat) : Int) ∧ valD (seg t 1 m) ≤ 9007199254740991) (fun _ i => t.size - (intOf i).toNat)
      case atStart => exact ⟨1, Nat.le_refl _, by omega, rfl, by rw [seg_self]; rfl, by rw [seg_self]; decide⟩
      case round =>
        obtain ⟨m, ham, hm, rfl, rfl, hval⟩ := hrel
        by_cases hlt2 : m < t.size
        · have hdd := (isDig_iff t[m]).1 (drop_dig_at t 1 m ham hlt2 (by rw [HLL.out]; exact HALL.out))
          have hsn : valD (seg t 1 (m + 1)) = valD (seg t 1 m) * 10 + (t[m].toNat - 48) := by rw [seg_succ t 1 m ham hlt2, valD_snoc]
          have HSN := Lib.hid hsn
          have hle : Hid (valD (seg t 1 (m + 1)) ≤ valD l) := Lib.hid (by rw [← HLL.out]; exact seg_le t 1 (m + 1))
          obtain ⟨v, hv⟩ : ∃ v, v = valD (seg t 1 m) := ⟨_, rfl⟩
          have HV := Lib.hid hv
          rw [← hv] at hval ⊢
          clear hsn hv
          obtain ⟨d1, d2⟩ := hdd
          obtain ⟨c, hc⟩ : ∃ c : Int, c = (t[m].toNat : Int) := ⟨_, rfl⟩
          by_cases hbig : 9007199254740991 < 10 * (v : Int) + (t[m].toNat : Int) - 48
          · have hB2 : Hid (9007199254740991 < valD l) := Lib.hid (by have := HSN.out; have := hle.out; have := HV.out; omega)
            clear hc
            go_wp2
            go_ret2
            exact ⟨0, 10, by rw [digR_big false HNE.out HALL.out hB2.out]; exact ⟨rfl, rfl⟩, rfl, HB1.out⟩
          · have HN : Hid (valD (seg t 1 (m + 1)) ≤ 9007199254740991) := Lib.hid (by have := HSN.out; have := HV.out; omega)
            have HE : Hid ((10 * (v : Int) + (t[m].toNat : Int) - 48) = ((valD (seg t 1 (m + 1)) : Nat) : Int)) := Lib.hid (by have := HSN.out; have := HV.out; omega)
            clear hc
            go_wp2
            go_round
            case rel => exact ⟨m + 1, by omega, by omega, by go_num, by rw [HE.out], HN.out⟩
            case measure => simp [intOf]; omega
        · have he : seg t 1 m = l := (seg_all t 1 m (by omega)).trans HLL.out
          rw [he] at hval ⊢
          clear he
          obtain ⟨v, hv⟩ : ∃ v, v = valD l := ⟨_, rfl⟩
          have HV := Lib.hid hv
          rw [← hv] at hval ⊢
          clear hv
          go_wp2
          go_ret2
          refine ⟨F (v : Int), 0, ?_, rfl, HB1.out⟩
          rw [digR_ok false HNE.out HALL.out (by have := HV.out; omega) (by intro h; cases h)]
          have := HV.out
          rw [← this]
          exact ⟨⟨rfl, by unfold SafeN; simp only [Bool.false_eq_true, if_false]; omega⟩, rfl⟩

set_option maxHeartbeats 1000000 in
theorem refRead_bare (s t : ByteArray) (l : List UInt8) (hl : t.data.toList.drop 0 = l) (w : World) (hB : ∀ w, Calls Tryz.prog 126 #[.string s] w fun e w' => e = .returned (.string t) ∧ Below w.heap.size w w') (ht : t.size ≤ maxLen) (h0 : 0 < t.size) (hz : t.toList.isEmpty = false) (h45 : ((t[0].toNat : Int) == 45) = false) (h43 : ((t[0].toNat : Int) == 43) = false) :
    Calls Tryz.prog 97 #[.string s] w (RetRead (digR false l) w) := by
  unfold maxLen at ht
  have HLL : Hid (t.data.toList.drop 0 = l) := Lib.hid hl
  clear hl
  have hsz : ¬ (0 : Int) = (t.size : Int) := by omega
  go_enter Tryz.func97, Tryz.ntmps97
  go_wp2_with (go_at_call 126; refine (hB _).mono ?_; rintro e w1 ⟨rfl, hb1⟩; have HB1 := Lib.hid hb1; clear hb1)
  clear hz
  go_loop [6] (fun i => ∃ k : Nat, 0 ≤ k ∧ k ≤ t.size ∧ i = .int .i64 (k : Int) ∧ (seg t 0 k).all isDig = true) (fun i => t.size - (intOf i).toNat)
  case atStart => exact ⟨0, Nat.le_refl _, by omega, rfl, by rw [seg_self]; rfl⟩
  case round =>
    obtain ⟨k, hak, hk, rfl, hall⟩ := hrel
    have HA := Lib.hid hall
    clear hall
    by_cases hlt : k < t.size
    · cases hd : isDig t[k]
      · have hna : Hid (l.all isDig = false) := Lib.hid (by rw [← HLL.out]; exact drop_dig t 0 k hak hlt hd)
        have hcase : (t[k].toNat : Int) < 48 ∨ (¬ (t[k].toNat : Int) < 48 ∧ 57 < (t[k].toNat : Int)) := by
          by_cases c1 : t[k].toNat < 48
          · exact Or.inl (by omega)
          · refine Or.inr ⟨by omega, ?_⟩
            by_cases c2 : 57 < t[k].toNat
            · omega
            · rw [(isDig_iff t[k]).2 ⟨by omega, by omega⟩] at hd; cases hd
        clear hd
        rcases hcase with c1 | ⟨c1, c2⟩
        all_goals
          go_wp2_with (go_at_call 127; refine (refNaN_any _).mono ?_; rintro e w' ⟨v, n, hv, rfl, rfl⟩)
          go_ret2
          exact ⟨v, 0, by rw [digR_nan false (Or.inr hna.out)]; exact ⟨hv, rfl⟩, rfl, below_draw2 HB1.out _⟩
      · have hdd := (isDig_iff t[k]).1 hd
        have c1 : ¬ (t[k].toNat : Int) < 48 := by omega
        have c2 : ¬ 57 < (t[k].toNat : Int) := by omega
        have HA2 : Hid ((seg t 0 (k + 1)).all isDig = true) := Lib.hid (by rw [seg_succ t 0 k hak hlt, List.all_append, HA.out]; simp [hd])
        clear hd hdd
        go_wp2
        go_round
        case rel => exact ⟨k + 1, by omega, by omega, by go_num, HA2.out⟩
        case measure => simp [intOf]; omega
    · have hall : l.all isDig = true := by rw [← HLL.out, ← seg_all t 0 k (by omega)]; exact HA.out
      have hne : l ≠ [] := by
        intro e
        rw [← HLL.out] at e
        have := congrArg List.length e
        rw [List.length_drop, ← size_len] at this
        simp only [List.length_nil] at this
        omega
      have HALL := Lib.hid hall
      have HNE := Lib.hid hne
      clear hall hne HA
      go_wp2_with (fail)
      go_loop [7, 8] (fun n i => ∃ m : Nat, 0 ≤ m ∧ m ≤ t.size ∧ i = .int .i64 (m : Int) ∧ n = .int .i64 ((valD (seg t 0 m) : Nat) : Int) ∧ valD (seg t 0 m) ≤ 9007199254740991) (fun _ i => t.size - (intOf i).toNat)
      case atStart => exact ⟨0, Nat.le_refl _, by omega, rfl, by rw [seg_self]; rfl, by rw [seg_self]; decide⟩
      case round =>
        obtain ⟨m, ham, hm, rfl, rfl, hval⟩ := hrel
        by_cases hlt2 : m < t.size
        · have hdd := (isDig_iff t[m]).1 (drop_dig_at t 0 m ham hlt2 (by rw [HLL.out]; exact HALL.out))
          have hsn : valD (seg t 0 (m + 1)) = valD (seg t 0 m) * 10 + (t[m].toNat - 48) := by rw [seg_succ t 0 m ham hlt2, valD_snoc]
          have HSN := Lib.hid hsn
          have hle : Hid (valD (seg t 0 (m + 1)) ≤ valD l) := Lib.hid (by rw [← HLL.out]; exact seg_le t 0 (m + 1))
          obtain ⟨v, hv⟩ : ∃ v, v = valD (seg t 0 m) := ⟨_, rfl⟩
          have HV := Lib.hid hv
          rw [← hv] at hval ⊢
          clear hsn hv
          obtain ⟨d1, d2⟩ := hdd
          obtain ⟨c, hc⟩ : ∃ c : Int, c = (t[m].toNat : Int) := ⟨_, rfl⟩
          by_cases hbig : 9007199254740991 < 10 * (v : Int) + (t[m].toNat : Int) - 48
          · have hB2 : Hid (9007199254740991 < valD l) := Lib.hid (by have := HSN.out; have := hle.out; have := HV.out; omega)
            clear hc
            go_wp2
            go_ret2
            exact ⟨0, 10, by rw [digR_big false HNE.out HALL.out hB2.out]; exact ⟨rfl, rfl⟩, rfl, HB1.out⟩
          · have HN : Hid (valD (seg t 0 (m + 1)) ≤ 9007199254740991) := Lib.hid (by have := HSN.out; have := HV.out; omega)
            have HE : Hid ((10 * (v : Int) + (t[m].toNat : Int) - 48) = ((valD (seg t 0 (m + 1)) : Nat) : Int)) := Lib.hid (by have := HSN.out; have := HV.out; omega)
            clear hc
            go_wp2
            go_round
            case rel => exact ⟨m + 1, by omega, by omega, by go_num, by rw [HE.out], HN.out⟩
            case measure => simp [intOf]; omega
        · have he : seg t 0 m = l := (seg_all t 0 m (by omega)).trans HLL.out
          rw [he] at hval ⊢
          clear he
          obtain ⟨v, hv⟩ : ∃ v, v = valD l := ⟨_, rfl⟩
          have HV := Lib.hid hv
          rw [← hv] at hval ⊢
          clear hv
          go_wp2
          go_ret2
          refine ⟨F (v : Int), 0, ?_, rfl, HB1.out⟩
          rw [digR_ok false HNE.out HALL.out (by have := HV.out; omega) (by intro h; cases h)]
          have := HV.out
          rw [← this]
          exact ⟨⟨rfl, by unfold SafeN; simp only [Bool.false_eq_true, if_false]; omega⟩, rfl⟩
end Go.Proofs.YtgjpcoplnpkmoaaGreatDoor
