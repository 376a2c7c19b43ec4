/-
  parse.rowed: whether a node has as many kids, and a text or none, as its kind's row has: walks.
-/
import Derived.Test.YtablckajobefeaaGreatDoorPN25
import Derived.Deep.MidRow
import Derived.Deep.CutRange
import Derived.Test.YtablckajobefeaaGreatDoorPN09
import Derived.Test.YtablckajobefeaaGreatDoorPN12
namespace Go.Proofs.YtablckajobefeaaGreatDoor.S
open Go.RowKit Fl

def kidsI (k n : Nat) : Bool := !(decide ((n : Int) < leastI k)) && !(decide (mostI k < (n : Int)))
theorem nodeBox (w : World) (o : Obj) : Below w.heap.size w (w.alloc o) := (Below.refl _ _).alloc (Nat.le_refl _) o
theorem empty_str (t : ByteArray) : (t == (⟨#[]⟩ : ByteArray)) = t.toList.isEmpty := by
  rw [toList_data]
  show (t.data == #[]) = t.data.toList.isEmpty
  cases t with
  | mk d =>
    cases d with
    | mk l => cases l <;> rfl
set_option maxHeartbeats 8000000 in
theorem rowed_w (k : Nat) (p : Int) (t : ByteArray) (x : Nat) (K : Option Addr) (n : Nat) (cap : Nat) (w : World) :
    Calls Tryz.prog 54 #[.agg #[.int .u8 (k : Int), .int .i64 p, .string t, .float .f64 x, .slice K n cap]] w fun e w' => e = .returned (.bool (kidsI k n && textB k t)) ∧ Below w.heap.size w w' := by
  have kk := fun w => kids_w k w
  have ht := empty_str t
  cases h1 : decide ((n : Int) < leastI k)
  · have g1 : ¬ (n : Int) < leastI k := of_decide_eq_false h1
    cases h2 : decide (mostI k < (n : Int))
    · have g2 : ¬ mostI k < (n : Int) := of_decide_eq_false h2
      have e : (kidsI k n && textB k t) = textB k t := by unfold kidsI; rw [h1, h2]; rfl
      rw [e]
      clear e h1 h2
      generalize leastI k = a at *
      generalize mostI k = b at *
      have grp : (k = 21 ∨ k = 27) ∨ (k = 3 ∨ k = 4 ∨ k = 5 ∨ k = 17 ∨ k = 26 ∨ k = 34 ∨ k = 38 ∨ k = 39 ∨ k = 43) ∨ (k ≠ 21 ∧ k ≠ 27 ∧ k ≠ 3 ∧ k ≠ 4 ∧ k ≠ 5 ∧ k ≠ 17 ∧ k ≠ 26 ∧ k ≠ 34 ∧ k ≠ 38 ∧ k ≠ 39 ∧ k ≠ 43) := by omega
      rcases grp with (rfl | rfl) | (rfl | rfl | rfl | rfl | rfl | rfl | rfl | rfl | rfl) | ⟨q1, q2, q3, q4, q5, q6, q7, q8, q9, q10, q11⟩
      · have kk : ∀ w, Calls Tryz.prog 71 #[.int .u8 21] w (fun e w' => e = .returned (.tuple #[.int .i64 a, .int .i64 b]) ∧ w = w') := kk
        have e : textB 21 t = (true) := by unfold textB; first | rfl | (rw [← ht]; rfl)
        rw [e]
        clear e ht
        show Calls _ _ #[.agg #[.int .u8 21, .int .i64 p, .string t, .float .f64 x, .slice K n cap]] _ _
        go_enter Tryz.func54, Tryz.ntmps54
        go_wp2_with (go_at_call 71; (with_reducible refine (kk _).mono ?_); rintro e w1 ⟨rfl, rfl⟩)
        go_ret
        exact ⟨ret_bool (by simp), nodeBox _ _⟩
      · have kk : ∀ w, Calls Tryz.prog 71 #[.int .u8 27] w (fun e w' => e = .returned (.tuple #[.int .i64 a, .int .i64 b]) ∧ w = w') := kk
        have e : textB 27 t = (true) := by unfold textB; first | rfl | (rw [← ht]; rfl)
        rw [e]
        clear e ht
        show Calls _ _ #[.agg #[.int .u8 27, .int .i64 p, .string t, .float .f64 x, .slice K n cap]] _ _
        go_enter Tryz.func54, Tryz.ntmps54
        go_wp2_with (go_at_call 71; (with_reducible refine (kk _).mono ?_); rintro e w1 ⟨rfl, rfl⟩)
        go_ret
        exact ⟨ret_bool (by simp), nodeBox _ _⟩
      · have kk : ∀ w, Calls Tryz.prog 71 #[.int .u8 3] w (fun e w' => e = .returned (.tuple #[.int .i64 a, .int .i64 b]) ∧ w = w') := kk
        have e : textB 3 t = (!t.toList.isEmpty) := by unfold textB; first | rfl | (rw [← ht]; rfl)
        rw [e]
        clear e ht
        show Calls _ _ #[.agg #[.int .u8 3, .int .i64 p, .string t, .float .f64 x, .slice K n cap]] _ _
        go_enter Tryz.func54, Tryz.ntmps54
        go_wp2_with (go_at_call 71; (with_reducible refine (kk _).mono ?_); rintro e w1 ⟨rfl, rfl⟩)
        go_ret
        exact ⟨ret_bool (by simp), nodeBox _ _⟩
      · have kk : ∀ w, Calls Tryz.prog 71 #[.int .u8 4] w (fun e w' => e = .returned (.tuple #[.int .i64 a, .int .i64 b]) ∧ w = w') := kk
        have e : textB 4 t = (!t.toList.isEmpty) := by unfold textB; first | rfl | (rw [← ht]; rfl)
        rw [e]
        clear e ht
        show Calls _ _ #[.agg #[.int .u8 4, .int .i64 p, .string t, .float .f64 x, .slice K n cap]] _ _
        go_enter Tryz.func54, Tryz.ntmps54
        go_wp2_with (go_at_call 71; (with_reducible refine (kk _).mono ?_); rintro e w1 ⟨rfl, rfl⟩)
        go_ret
        exact ⟨ret_bool (by simp), nodeBox _ _⟩
      · have kk : ∀ w, Calls Tryz.prog 71 #[.int .u8 5] w (fun e w' => e = .returned (.tuple #[.int .i64 a, .int .i64 b]) ∧ w = w') := kk
        have e : textB 5 t = (!t.toList.isEmpty) := by unfold textB; first | rfl | (rw [← ht]; rfl)
        rw [e]
        clear e ht
        show Calls _ _ #[.agg #[.int .u8 5, .int .i64 p, .string t, .float .f64 x, .slice K n cap]] _ _
        go_enter Tryz.func54, Tryz.ntmps54
        go_wp2_with (go_at_call 71; (with_reducible refine (kk _).mono ?_); rintro e w1 ⟨rfl, rfl⟩)
        go_ret
        exact ⟨ret_bool (by simp), nodeBox _ _⟩
      · have kk : ∀ w, Calls Tryz.prog 71 #[.int .u8 17] w (fun e w' => e = .returned (.tuple #[.int .i64 a, .int .i64 b]) ∧ w = w') := kk
        have e : textB 17 t = (!t.toList.isEmpty) := by unfold textB; first | rfl | (rw [← ht]; rfl)
        rw [e]
        clear e ht
        show Calls _ _ #[.agg #[.int .u8 17, .int .i64 p, .string t, .float .f64 x, .slice K n cap]] _ _
        go_enter Tryz.func54, Tryz.ntmps54
        go_wp2_with (go_at_call 71; (with_reducible refine (kk _).mono ?_); rintro e w1 ⟨rfl, rfl⟩)
        go_ret
        exact ⟨ret_bool (by simp), nodeBox _ _⟩
      · have kk : ∀ w, Calls Tryz.prog 71 #[.int .u8 26] w (fun e w' => e = .returned (.tuple #[.int .i64 a, .int .i64 b]) ∧ w = w') := kk
        have e : textB 26 t = (!t.toList.isEmpty) := by unfold textB; first | rfl | (rw [← ht]; rfl)
        rw [e]
        clear e ht
        show Calls _ _ #[.agg #[.int .u8 26, .int .i64 p, .string t, .float .f64 x, .slice K n cap]] _ _
        go_enter Tryz.func54, Tryz.ntmps54
        go_wp2_with (go_at_call 71; (with_reducible refine (kk _).mono ?_); rintro e w1 ⟨rfl, rfl⟩)
        go_ret
        exact ⟨ret_bool (by simp), nodeBox _ _⟩
      · have kk : ∀ w, Calls Tryz.prog 71 #[.int .u8 34] w (fun e w' => e = .returned (.tuple #[.int .i64 a, .int .i64 b]) ∧ w = w') := kk
        have e : textB 34 t = (!t.toList.isEmpty) := by unfold textB; first | rfl | (rw [← ht]; rfl)
        rw [e]
        clear e ht
        show Calls _ _ #[.agg #[.int .u8 34, .int .i64 p, .string t, .float .f64 x, .slice K n cap]] _ _
        go_enter Tryz.func54, Tryz.ntmps54
        go_wp2_with (go_at_call 71; (with_reducible refine (kk _).mono ?_); rintro e w1 ⟨rfl, rfl⟩)
        go_ret
        exact ⟨ret_bool (by simp), nodeBox _ _⟩
      · have kk : ∀ w, Calls Tryz.prog 71 #[.int .u8 38] w (fun e w' => e = .returned (.tuple #[.int .i64 a, .int .i64 b]) ∧ w = w') := kk
        have e : textB 38 t = (!t.toList.isEmpty) := by unfold textB; first | rfl | (rw [← ht]; rfl)
        rw [e]
        clear e ht
        show Calls _ _ #[.agg #[.int .u8 38, .int .i64 p, .string t, .float .f64 x, .slice K n cap]] _ _
        go_enter Tryz.func54, Tryz.ntmps54
        go_wp2_with (go_at_call 71; (with_reducible refine (kk _).mono ?_); rintro e w1 ⟨rfl, rfl⟩)
        go_ret
        exact ⟨ret_bool (by simp), nodeBox _ _⟩
      · have kk : ∀ w, Calls Tryz.prog 71 #[.int .u8 39] w (fun e w' => e = .returned (.tuple #[.int .i64 a, .int .i64 b]) ∧ w = w') := kk
        have e : textB 39 t = (!t.toList.isEmpty) := by unfold textB; first | rfl | (rw [← ht]; rfl)
        rw [e]
        clear e ht
        show Calls _ _ #[.agg #[.int .u8 39, .int .i64 p, .string t, .float .f64 x, .slice K n cap]] _ _
        go_enter Tryz.func54, Tryz.ntmps54
        go_wp2_with (go_at_call 71; (with_reducible refine (kk _).mono ?_); rintro e w1 ⟨rfl, rfl⟩)
        go_ret
        exact ⟨ret_bool (by simp), nodeBox _ _⟩
      · have kk : ∀ w, Calls Tryz.prog 71 #[.int .u8 43] w (fun e w' => e = .returned (.tuple #[.int .i64 a, .int .i64 b]) ∧ w = w') := kk
        have e : textB 43 t = (!t.toList.isEmpty) := by unfold textB; first | rfl | (rw [← ht]; rfl)
        rw [e]
        clear e ht
        show Calls _ _ #[.agg #[.int .u8 43, .int .i64 p, .string t, .float .f64 x, .slice K n cap]] _ _
        go_enter Tryz.func54, Tryz.ntmps54
        go_wp2_with (go_at_call 71; (with_reducible refine (kk _).mono ?_); rintro e w1 ⟨rfl, rfl⟩)
        go_ret
        exact ⟨ret_bool (by simp), nodeBox _ _⟩
      · have e : textB k t = t.toList.isEmpty := by
          unfold textB
          rw [if_neg (by omega), if_neg (by omega)]
          exact ht
        rw [e]
        clear e ht
        have f21 : ((k : Int) == 21) = false := by rw [beq_eq_false_iff_ne]; omega
        have f27 : ((k : Int) == 27) = false := by rw [beq_eq_false_iff_ne]; omega
        have f3 : ((k : Int) == 3) = false := by rw [beq_eq_false_iff_ne]; omega
        have f4 : ((k : Int) == 4) = false := by rw [beq_eq_false_iff_ne]; omega
        have f5 : ((k : Int) == 5) = false := by rw [beq_eq_false_iff_ne]; omega
        have f17 : ((k : Int) == 17) = false := by rw [beq_eq_false_iff_ne]; omega
        have f26 : ((k : Int) == 26) = false := by rw [beq_eq_false_iff_ne]; omega
        have f34 : ((k : Int) == 34) = false := by rw [beq_eq_false_iff_ne]; omega
        have f38 : ((k : Int) == 38) = false := by rw [beq_eq_false_iff_ne]; omega
        have f39 : ((k : Int) == 39) = false := by rw [beq_eq_false_iff_ne]; omega
        have f43 : ((k : Int) == 43) = false := by rw [beq_eq_false_iff_ne]; omega
        clear q1 q2 q3 q4 q5 q6 q7 q8 q9 q10 q11
        go_enter Tryz.func54, Tryz.ntmps54
        go_wp2_with (go_at_call 71; (with_reducible refine (kk _).mono ?_); rintro e w1 ⟨rfl, rfl⟩)
        go_ret
        exact ⟨ret_bool (by simp), nodeBox _ _⟩
    · have g2 : mostI k < (n : Int) := of_decide_eq_true h2
      have e : (kidsI k n && textB k t) = false := by unfold kidsI; rw [h1, h2]; rfl
      rw [e]
      clear e h1 h2
      generalize leastI k = a at *
      generalize mostI k = b at *
      go_enter Tryz.func54, Tryz.ntmps54
      go_wp2_with (go_at_call 71; (with_reducible refine (kk _).mono ?_); rintro e w1 ⟨rfl, rfl⟩)
      go_ret
      exact ⟨rfl, nodeBox _ _⟩
  · have h2 : (n : Int) < leastI k := of_decide_eq_true h1
    have e : (kidsI k n && textB k t) = false := by unfold kidsI; rw [h1]; rfl
    rw [e]
    clear e h1
    generalize leastI k = a at *
    generalize mostI k = b at *
    go_enter Tryz.func54, Tryz.ntmps54
    go_wp2_with (go_at_call 71; (with_reducible refine (kk _).mono ?_); rintro e w1 ⟨rfl, rfl⟩)
    go_ret
    exact ⟨rfl, nodeBox _ _⟩
end Go.Proofs.YtablckajobefeaaGreatDoor.S
/-
  parse.Kind: a walk.
-/
namespace Go.Proofs.YtablckajobefeaaGreatDoor.S
open Go.RowKit Fl

def kindCells : Array Value := #[.string ⟨#[]⟩, .string (⟨#[115, 99, 114, 105, 112, 116]⟩ : ByteArray), .string (⟨#[98, 108, 111, 99, 107]⟩ : ByteArray), .string (⟨#[108, 101, 116]⟩ : ByteArray), .string (⟨#[99, 111, 110, 115, 116]⟩ : ByteArray), .string (⟨#[102, 117, 110, 99, 116, 105, 111, 110]⟩ : ByteArray), .string (⟨#[101, 120, 112, 114]⟩ : ByteArray), .string (⟨#[105, 102]⟩ : ByteArray), .string (⟨#[119, 104, 105, 108, 101]⟩ : ByteArray), .string (⟨#[102, 111, 114, 105, 110]⟩ : ByteArray), .string (⟨#[102, 111, 114, 111, 102]⟩ : ByteArray), .string (⟨#[114, 101, 116, 117, 114, 110]⟩ : ByteArray), .string (⟨#[116, 104, 114, 111, 119]⟩ : ByteArray), .string (⟨#[98, 114, 101, 97, 107]⟩ : ByteArray), .string (⟨#[99, 111, 110, 116, 105, 110, 117, 101]⟩ : ByteArray), .string (⟨#[101, 109, 112, 116, 121]⟩ : ByteArray), .string (⟨#[116, 114, 121]⟩ : ByteArray), .string (⟨#[99, 97, 116, 99, 104]⟩ : ByteArray), .string (⟨#[102, 105, 110, 97, 108, 108, 121]⟩ : ByteArray), .string ⟨#[]⟩, .string (⟨#[110, 117, 109, 98, 101, 114]⟩ : ByteArray), .string (⟨#[115, 116, 114, 105, 110, 103]⟩ : ByteArray), .string (⟨#[116, 114, 117, 101]⟩ : ByteArray), .string (⟨#[102, 97, 108, 115, 101]⟩ : ByteArray), .string (⟨#[110, 117, 108, 108]⟩ : ByteArray), .string (⟨#[116, 104, 105, 115]⟩ : ByteArray), .string (⟨#[110, 97, 109, 101]⟩ : ByteArray), .string (⟨#[102, 117, 110, 99]⟩ : ByteArray), .string (⟨#[111, 98, 106, 101, 99, 116]⟩ : ByteArray), .string (⟨#[112, 97, 105, 114]⟩ : ByteArray), .string (⟨#[103, 101, 116, 116, 101, 114]⟩ : ByteArray), .string (⟨#[115, 101, 116, 116, 101, 114]⟩ : ByteArray), .string (⟨#[99, 111, 109, 112, 117, 116, 101, 100]⟩ : ByteArray), .string (⟨#[97, 114, 114, 97, 121]⟩ : ByteArray), .string (⟨#[109, 101, 109, 98, 101, 114]⟩ : ByteArray), .string (⟨#[105, 110, 100, 101, 120]⟩ : ByteArray), .string (⟨#[99, 97, 108, 108]⟩ : ByteArray), .string (⟨#[110, 101, 119]⟩ : ByteArray), .string (⟨#[117, 110, 97, 114, 121]⟩ : ByteArray), .string (⟨#[98, 105, 110, 97, 114, 121]⟩ : ByteArray), .string (⟨#[97, 110, 100]⟩ : ByteArray), .string (⟨#[111, 114]⟩ : ByteArray), .string (⟨#[99, 111, 110, 100]⟩ : ByteArray), .string (⟨#[97, 115, 115, 105, 103, 110]⟩ : ByteArray)]
theorem kindCells_at (k : Nat) (hk : k < 44) : kindCells.toList[k]? = some (.string (kindW k)) := by
  have : ∀ k, k < 44 → kindCells.toList[k]? = some (.string (kindW k)) := by
    intro k hk
    rcases (show k = 0 ∨ k = 1 ∨ k = 2 ∨ k = 3 ∨ k = 4 ∨ k = 5 ∨ k = 6 ∨ k = 7 ∨ k = 8 ∨ k = 9 ∨ k = 10 ∨ k = 11 ∨ k = 12 ∨ k = 13 ∨ k = 14 ∨ k = 15 ∨ k = 16 ∨ k = 17 ∨ k = 18 ∨ k = 19 ∨ k = 20 ∨ k = 21 ∨ k = 22 ∨ k = 23 ∨ k = 24 ∨ k = 25 ∨ k = 26 ∨ k = 27 ∨ k = 28 ∨ k = 29 ∨ k = 30 ∨ k = 31 ∨ k = 32 ∨ k = 33 ∨ k = 34 ∨ k = 35 ∨ k = 36 ∨ k = 37 ∨ k = 38 ∨ k = 39 ∨ k = 40 ∨ k = 41 ∨ k = 42 ∨ k = 43 by omega) with rfl | rfl | rfl | rfl | rfl | rfl | rfl | rfl | rfl | rfl | rfl | rfl | rfl | rfl | rfl | rfl | rfl | rfl | rfl | rfl | rfl | rfl | rfl | rfl | rfl | rfl | rfl | rfl | rfl | rfl | rfl | rfl | rfl | rfl | rfl | rfl | rfl | rfl | rfl | rfl | rfl | rfl | rfl | rfl <;> rfl
  exact this k hk
theorem there_new (w : World) (cs : Array Value) (t : TypeId) : (w.alloc (.cells cs t)).there w.heap.size 0 cs.size := fun j hj => by
  have h := cell_of_row (w.alloc (.cells cs t)) w.heap.size (0 + j) cs t (0, 0) (heap_alloc_new w (.cells cs t))
  rw [h, Nat.zero_add, Array.getElem?_eq_getElem hj]
  refine ⟨rfl, ?_⟩
  unfold World.frozen?
  rw [heap_alloc_new]
  simp
theorem below_setCells {B : Nat} {w0 : World} {b : Nat} (hb : B ≤ b) : ∀ (vs : List Value) (o : Nat) (w : World), Below B w0 w → Below B w0 (w.setCells b o vs)
  | [], _, _, h => h
  | v :: r, o, w, h => below_setCells hb r (o + 1) (w.setCell ⟨b, o, none⟩ v) (h.setCell (p := ⟨b, o, none⟩) hb v)
set_option maxHeartbeats 4000000 in
set_option maxRecDepth 100000 in
theorem Kind_w (k : Nat) (hk : k < 44) (w : World) : Calls Tryz.prog 9 #[.int .u8 (k : Int)] w fun e w' => e = .returned (.string (kindW k)) ∧ Below w.heap.size w w' := by
  have h1 : (k : Int) < 44 := by omega
  have h0 : (0 : Int) ≤ (k : Int) := by omega
  have h2 : ((k : Int)).toNat = k := by omega
  have hc := kindCells_at k hk
  go_enter Tryz.func9, Tryz.ntmps9
  go_upto_region 1 with (fail)
  refine wp_region_lit ?_
  refine wpList_plain rfl (fun K1 hK1 => ?_)
  go_simp
  refine hK1 _ _ ?_
  clear hK1 K1
  refine wpList_plain rfl (fun K2 hK2 => ?_)
  go_simp
  refine hK2 _ _ ?_
  clear hK2 K2
  refine wpList_store_mid rfl 45 _ _ rfl w.heap.size 0 kindCells rfl rfl (there_new w #[.string ⟨#[]⟩, .string ⟨#[]⟩, .string ⟨#[]⟩, .string ⟨#[]⟩, .string ⟨#[]⟩, .string ⟨#[]⟩, .string ⟨#[]⟩, .string ⟨#[]⟩, .string ⟨#[]⟩, .string ⟨#[]⟩, .string ⟨#[]⟩, .string ⟨#[]⟩, .string ⟨#[]⟩, .string ⟨#[]⟩, .string ⟨#[]⟩, .string ⟨#[]⟩, .string ⟨#[]⟩, .string ⟨#[]⟩, .string ⟨#[]⟩, .string ⟨#[]⟩, .string ⟨#[]⟩, .string ⟨#[]⟩, .string ⟨#[]⟩, .string ⟨#[]⟩, .string ⟨#[]⟩, .string ⟨#[]⟩, .string ⟨#[]⟩, .string ⟨#[]⟩, .string ⟨#[]⟩, .string ⟨#[]⟩, .string ⟨#[]⟩, .string ⟨#[]⟩, .string ⟨#[]⟩, .string ⟨#[]⟩, .string ⟨#[]⟩, .string ⟨#[]⟩, .string ⟨#[]⟩, .string ⟨#[]⟩, .string ⟨#[]⟩, .string ⟨#[]⟩, .string ⟨#[]⟩, .string ⟨#[]⟩, .string ⟨#[]⟩, .string ⟨#[]⟩] 45) (by kernel_rfl) (by kernel_rfl) ?_
  have hB := Lib.hid (below_setCells (Nat.le_refl _) kindCells.toList 0 _ (nodeBox w (.cells #[.string ⟨#[]⟩, .string ⟨#[]⟩, .string ⟨#[]⟩, .string ⟨#[]⟩, .string ⟨#[]⟩, .string ⟨#[]⟩, .string ⟨#[]⟩, .string ⟨#[]⟩, .string ⟨#[]⟩, .string ⟨#[]⟩, .string ⟨#[]⟩, .string ⟨#[]⟩, .string ⟨#[]⟩, .string ⟨#[]⟩, .string ⟨#[]⟩, .string ⟨#[]⟩, .string ⟨#[]⟩, .string ⟨#[]⟩, .string ⟨#[]⟩, .string ⟨#[]⟩, .string ⟨#[]⟩, .string ⟨#[]⟩, .string ⟨#[]⟩, .string ⟨#[]⟩, .string ⟨#[]⟩, .string ⟨#[]⟩, .string ⟨#[]⟩, .string ⟨#[]⟩, .string ⟨#[]⟩, .string ⟨#[]⟩, .string ⟨#[]⟩, .string ⟨#[]⟩, .string ⟨#[]⟩, .string ⟨#[]⟩, .string ⟨#[]⟩, .string ⟨#[]⟩, .string ⟨#[]⟩, .string ⟨#[]⟩, .string ⟨#[]⟩, .string ⟨#[]⟩, .string ⟨#[]⟩, .string ⟨#[]⟩, .string ⟨#[]⟩, .string ⟨#[]⟩] 45)))
  have hR := World.rangeAt_setCells_same _ w.heap.size 0 kindCells.toList (there_new w #[.string ⟨#[]⟩, .string ⟨#[]⟩, .string ⟨#[]⟩, .string ⟨#[]⟩, .string ⟨#[]⟩, .string ⟨#[]⟩, .string ⟨#[]⟩, .string ⟨#[]⟩, .string ⟨#[]⟩, .string ⟨#[]⟩, .string ⟨#[]⟩, .string ⟨#[]⟩, .string ⟨#[]⟩, .string ⟨#[]⟩, .string ⟨#[]⟩, .string ⟨#[]⟩, .string ⟨#[]⟩, .string ⟨#[]⟩, .string ⟨#[]⟩, .string ⟨#[]⟩, .string ⟨#[]⟩, .string ⟨#[]⟩, .string ⟨#[]⟩, .string ⟨#[]⟩, .string ⟨#[]⟩, .string ⟨#[]⟩, .string ⟨#[]⟩, .string ⟨#[]⟩, .string ⟨#[]⟩, .string ⟨#[]⟩, .string ⟨#[]⟩, .string ⟨#[]⟩, .string ⟨#[]⟩, .string ⟨#[]⟩, .string ⟨#[]⟩, .string ⟨#[]⟩, .string ⟨#[]⟩, .string ⟨#[]⟩, .string ⟨#[]⟩, .string ⟨#[]⟩, .string ⟨#[]⟩, .string ⟨#[]⟩, .string ⟨#[]⟩, .string ⟨#[]⟩] 45)
  have hC : ((w.alloc (.cells #[.string ⟨#[]⟩, .string ⟨#[]⟩, .string ⟨#[]⟩, .string ⟨#[]⟩, .string ⟨#[]⟩, .string ⟨#[]⟩, .string ⟨#[]⟩, .string ⟨#[]⟩, .string ⟨#[]⟩, .string ⟨#[]⟩, .string ⟨#[]⟩, .string ⟨#[]⟩, .string ⟨#[]⟩, .string ⟨#[]⟩, .string ⟨#[]⟩, .string ⟨#[]⟩, .string ⟨#[]⟩, .string ⟨#[]⟩, .string ⟨#[]⟩, .string ⟨#[]⟩, .string ⟨#[]⟩, .string ⟨#[]⟩, .string ⟨#[]⟩, .string ⟨#[]⟩, .string ⟨#[]⟩, .string ⟨#[]⟩, .string ⟨#[]⟩, .string ⟨#[]⟩, .string ⟨#[]⟩, .string ⟨#[]⟩, .string ⟨#[]⟩, .string ⟨#[]⟩, .string ⟨#[]⟩, .string ⟨#[]⟩, .string ⟨#[]⟩, .string ⟨#[]⟩, .string ⟨#[]⟩, .string ⟨#[]⟩, .string ⟨#[]⟩, .string ⟨#[]⟩, .string ⟨#[]⟩, .string ⟨#[]⟩, .string ⟨#[]⟩, .string ⟨#[]⟩] 45)).setCells w.heap.size 0 kindCells.toList).cell? ⟨w.heap.size, k, none⟩ = some (.string (kindW k)) := by
    have := hR k _ hc
    rwa [Nat.zero_add] at this
  clear hR hc
  generalize (w.alloc (.cells #[.string ⟨#[]⟩, .string ⟨#[]⟩, .string ⟨#[]⟩, .string ⟨#[]⟩, .string ⟨#[]⟩, .string ⟨#[]⟩, .string ⟨#[]⟩, .string ⟨#[]⟩, .string ⟨#[]⟩, .string ⟨#[]⟩, .string ⟨#[]⟩, .string ⟨#[]⟩, .string ⟨#[]⟩, .string ⟨#[]⟩, .string ⟨#[]⟩, .string ⟨#[]⟩, .string ⟨#[]⟩, .string ⟨#[]⟩, .string ⟨#[]⟩, .string ⟨#[]⟩, .string ⟨#[]⟩, .string ⟨#[]⟩, .string ⟨#[]⟩, .string ⟨#[]⟩, .string ⟨#[]⟩, .string ⟨#[]⟩, .string ⟨#[]⟩, .string ⟨#[]⟩, .string ⟨#[]⟩, .string ⟨#[]⟩, .string ⟨#[]⟩, .string ⟨#[]⟩, .string ⟨#[]⟩, .string ⟨#[]⟩, .string ⟨#[]⟩, .string ⟨#[]⟩, .string ⟨#[]⟩, .string ⟨#[]⟩, .string ⟨#[]⟩, .string ⟨#[]⟩, .string ⟨#[]⟩, .string ⟨#[]⟩, .string ⟨#[]⟩, .string ⟨#[]⟩] 45)).setCells w.heap.size 0 kindCells.toList = W at *
  go_wp2_with (fail)
  go_ret
  exact ⟨rfl, hB.out⟩
end Go.Proofs.YtablckajobefeaaGreatDoor.S
/-
  parse.tight: how tight a value holds together: walks. Generated: gen_writtight.py.
-/
namespace Go.Proofs.YtablckajobefeaaGreatDoor.S
open Go.RowKit Fl

/-- how tight a node of a kind holds together -/
def tightK (k : Nat) (t : ByteArray) : Int :=
  if k = 20 ∨ k = 21 ∨ k = 22 ∨ k = 23 ∨ k = 24 ∨ k = 25 ∨ k = 26 ∨ k = 27 ∨ k = 28 ∨ k = 33 ∨ k = 37 ∨ k = 34 ∨ k = 35 then 13
  else if k = 36 then 12
  else if k = 38 then (if leadsB t then 11 else -1)
  else if k = 39 then (if levelOf t > 2 then (levelOf t : Int) else -1)
  else if k = 40 then 2
  else if k = 41 then 1
  else if k = 42 then 0
  else if k = 43 then (if putsB t then 0 else -1)
  else -1
set_option maxHeartbeats 8000000 in
theorem tight_w (k : Nat) (p : Int) (t : ByteArray) (x : Nat) (K : Option Addr) (n : Nat) (cap : Nat) (w : World) :
    Calls Tryz.prog 136 #[.agg #[.int .u8 (k : Int), .int .i64 p, .string t, .float .f64 x, .slice K n cap]] w fun e w' => e = .returned (.int .i64 (tightK k t)) ∧ Below w.heap.size w w' := by
  have grp : k = 20 ∨ k = 21 ∨ k = 22 ∨ k = 23 ∨ k = 24 ∨ k = 25 ∨ k = 26 ∨ k = 27 ∨ k = 28 ∨ k = 33 ∨ k = 37 ∨ k = 34 ∨ k = 35 ∨ k = 36 ∨ k = 40 ∨ k = 41 ∨ k = 42 ∨ k = 38 ∨ k = 39 ∨ k = 43 ∨ (k ≠ 20 ∧ k ≠ 21 ∧ k ≠ 22 ∧ k ≠ 23 ∧ k ≠ 24 ∧ k ≠ 25 ∧ k ≠ 26 ∧ k ≠ 27 ∧ k ≠ 28 ∧ k ≠ 33 ∧ k ≠ 37 ∧ k ≠ 34 ∧ k ≠ 35 ∧ k ≠ 36 ∧ k ≠ 40 ∧ k ≠ 41 ∧ k ≠ 42 ∧ k ≠ 38 ∧ k ≠ 39 ∧ k ≠ 43) := by omega
  rcases grp with rfl | rfl | rfl | rfl | rfl | rfl | rfl | rfl | rfl | rfl | rfl | rfl | rfl | rfl | rfl | rfl | rfl | rfl | rfl | rfl | ⟨q0, q1, q2, q3, q4, q5, q6, q7, q8, q9, q10, q11, q12, q13, q14, q15, q16, q17, q18, q19⟩
  · show Calls _ _ #[.agg #[.int .u8 20, .int .i64 p, .string t, .float .f64 x, .slice K n cap]] _ fun e w' => e = .returned (.int .i64 (13)) ∧ Below w.heap.size w w'
    go_enter Tryz.func136, Tryz.ntmps136
    go_wp2_with (fail)
    go_ret
    exact ⟨rfl, nodeBox _ _⟩
  · show Calls _ _ #[.agg #[.int .u8 21, .int .i64 p, .string t, .float .f64 x, .slice K n cap]] _ fun e w' => e = .returned (.int .i64 (13)) ∧ Below w.heap.size w w'
    go_enter Tryz.func136, Tryz.ntmps136
    go_wp2_with (fail)
    go_ret
    exact ⟨rfl, nodeBox _ _⟩
  · show Calls _ _ #[.agg #[.int .u8 22, .int .i64 p, .string t, .float .f64 x, .slice K n cap]] _ fun e w' => e = .returned (.int .i64 (13)) ∧ Below w.heap.size w w'
    go_enter Tryz.func136, Tryz.ntmps136
    go_wp2_with (fail)
    go_ret
    exact ⟨rfl, nodeBox _ _⟩
  · show Calls _ _ #[.agg #[.int .u8 23, .int .i64 p, .string t, .float .f64 x, .slice K n cap]] _ fun e w' => e = .returned (.int .i64 (13)) ∧ Below w.heap.size w w'
    go_enter Tryz.func136, Tryz.ntmps136
    go_wp2_with (fail)
    go_ret
    exact ⟨rfl, nodeBox _ _⟩
  · show Calls _ _ #[.agg #[.int .u8 24, .int .i64 p, .string t, .float .f64 x, .slice K n cap]] _ fun e w' => e = .returned (.int .i64 (13)) ∧ Below w.heap.size w w'
    go_enter Tryz.func136, Tryz.ntmps136
    go_wp2_with (fail)
    go_ret
    exact ⟨rfl, nodeBox _ _⟩
  · show Calls _ _ #[.agg #[.int .u8 25, .int .i64 p, .string t, .float .f64 x, .slice K n cap]] _ fun e w' => e = .returned (.int .i64 (13)) ∧ Below w.heap.size w w'
    go_enter Tryz.func136, Tryz.ntmps136
    go_wp2_with (fail)
    go_ret
    exact ⟨rfl, nodeBox _ _⟩
  · show Calls _ _ #[.agg #[.int .u8 26, .int .i64 p, .string t, .float .f64 x, .slice K n cap]] _ fun e w' => e = .returned (.int .i64 (13)) ∧ Below w.heap.size w w'
    go_enter Tryz.func136, Tryz.ntmps136
    go_wp2_with (fail)
    go_ret
    exact ⟨rfl, nodeBox _ _⟩
  · show Calls _ _ #[.agg #[.int .u8 27, .int .i64 p, .string t, .float .f64 x, .slice K n cap]] _ fun e w' => e = .returned (.int .i64 (13)) ∧ Below w.heap.size w w'
    go_enter Tryz.func136, Tryz.ntmps136
    go_wp2_with (fail)
    go_ret
    exact ⟨rfl, nodeBox _ _⟩
  · show Calls _ _ #[.agg #[.int .u8 28, .int .i64 p, .string t, .float .f64 x, .slice K n cap]] _ fun e w' => e = .returned (.int .i64 (13)) ∧ Below w.heap.size w w'
    go_enter Tryz.func136, Tryz.ntmps136
    go_wp2_with (fail)
    go_ret
    exact ⟨rfl, nodeBox _ _⟩
  · show Calls _ _ #[.agg #[.int .u8 33, .int .i64 p, .string t, .float .f64 x, .slice K n cap]] _ fun e w' => e = .returned (.int .i64 (13)) ∧ Below w.heap.size w w'
    go_enter Tryz.func136, Tryz.ntmps136
    go_wp2_with (fail)
    go_ret
    exact ⟨rfl, nodeBox _ _⟩
  · show Calls _ _ #[.agg #[.int .u8 37, .int .i64 p, .string t, .float .f64 x, .slice K n cap]] _ fun e w' => e = .returned (.int .i64 (13)) ∧ Below w.heap.size w w'
    go_enter Tryz.func136, Tryz.ntmps136
    go_wp2_with (fail)
    go_ret
    exact ⟨rfl, nodeBox _ _⟩
  · show Calls _ _ #[.agg #[.int .u8 34, .int .i64 p, .string t, .float .f64 x, .slice K n cap]] _ fun e w' => e = .returned (.int .i64 (13)) ∧ Below w.heap.size w w'
    go_enter Tryz.func136, Tryz.ntmps136
    go_wp2_with (fail)
    go_ret
    exact ⟨rfl, nodeBox _ _⟩
  · show Calls _ _ #[.agg #[.int .u8 35, .int .i64 p, .string t, .float .f64 x, .slice K n cap]] _ fun e w' => e = .returned (.int .i64 (13)) ∧ Below w.heap.size w w'
    go_enter Tryz.func136, Tryz.ntmps136
    go_wp2_with (fail)
    go_ret
    exact ⟨rfl, nodeBox _ _⟩
  · show Calls _ _ #[.agg #[.int .u8 36, .int .i64 p, .string t, .float .f64 x, .slice K n cap]] _ fun e w' => e = .returned (.int .i64 (12)) ∧ Below w.heap.size w w'
    go_enter Tryz.func136, Tryz.ntmps136
    go_wp2_with (fail)
    go_ret
    exact ⟨rfl, nodeBox _ _⟩
  · show Calls _ _ #[.agg #[.int .u8 40, .int .i64 p, .string t, .float .f64 x, .slice K n cap]] _ fun e w' => e = .returned (.int .i64 (2)) ∧ Below w.heap.size w w'
    go_enter Tryz.func136, Tryz.ntmps136
    go_wp2_with (fail)
    go_ret
    exact ⟨rfl, nodeBox _ _⟩
  · show Calls _ _ #[.agg #[.int .u8 41, .int .i64 p, .string t, .float .f64 x, .slice K n cap]] _ fun e w' => e = .returned (.int .i64 (1)) ∧ Below w.heap.size w w'
    go_enter Tryz.func136, Tryz.ntmps136
    go_wp2_with (fail)
    go_ret
    exact ⟨rfl, nodeBox _ _⟩
  · show Calls _ _ #[.agg #[.int .u8 42, .int .i64 p, .string t, .float .f64 x, .slice K n cap]] _ fun e w' => e = .returned (.int .i64 (0)) ∧ Below w.heap.size w w'
    go_enter Tryz.func136, Tryz.ntmps136
    go_wp2_with (fail)
    go_ret
    exact ⟨rfl, nodeBox _ _⟩
  · have e : tightK 38 t = (if leadsB t then 11 else -1) := rfl
    rw [e]
    have kl := fun w => leads_p t w
    cases h : leadsB t
    all_goals
      rw [h] at kl
      show Calls _ _ #[.agg #[.int .u8 38, .int .i64 p, .string t, .float .f64 x, .slice K n cap]] _ fun e w' => e = .returned _ ∧ Below w.heap.size w w'
      go_enter Tryz.func136, Tryz.ntmps136
      go_wp2_with (go_at_call 153; (with_reducible refine (kl _).mono ?_); rintro e w1 ⟨rfl, rfl⟩)
      go_ret
      exact ⟨rfl, nodeBox _ _⟩
  · have e : tightK 39 t = (if levelOf t > 2 then (levelOf t : Int) else -1) := rfl
    rw [e]
    have kl := fun w => level_p t w
    generalize levelOf t = m at *
    by_cases h : m > 2
    · rw [if_pos h]
      have h2 : (2 : Int) < (m : Int) := by omega
      show Calls _ _ #[.agg #[.int .u8 39, .int .i64 p, .string t, .float .f64 x, .slice K n cap]] _ fun e w' => e = .returned (.int .i64 ((m : Int))) ∧ Below w.heap.size w w'
      go_enter Tryz.func136, Tryz.ntmps136
      go_wp2_with (go_at_call 154; (with_reducible refine (kl _).mono ?_); rintro e w1 ⟨rfl, rfl⟩)
      go_ret
      exact ⟨rfl, nodeBox _ _⟩
    · rw [if_neg h]
      have h2 : ¬ (2 : Int) < (m : Int) := by omega
      show Calls _ _ #[.agg #[.int .u8 39, .int .i64 p, .string t, .float .f64 x, .slice K n cap]] _ fun e w' => e = .returned (.int .i64 (-1)) ∧ Below w.heap.size w w'
      go_enter Tryz.func136, Tryz.ntmps136
      go_wp2_with (go_at_call 154; (with_reducible refine (kl _).mono ?_); rintro e w1 ⟨rfl, rfl⟩)
      go_ret
      exact ⟨rfl, nodeBox _ _⟩
  · have e : tightK 43 t = (if putsB t then 0 else -1) := rfl
    rw [e]
    have kl := fun w => puts_p t w
    cases h : putsB t
    all_goals
      rw [h] at kl
      show Calls _ _ #[.agg #[.int .u8 43, .int .i64 p, .string t, .float .f64 x, .slice K n cap]] _ fun e w' => e = .returned _ ∧ Below w.heap.size w w'
      go_enter Tryz.func136, Tryz.ntmps136
      go_wp2_with (go_at_call 155; (with_reducible refine (kl _).mono ?_); rintro e w1 ⟨rfl, rfl⟩)
      go_ret
      exact ⟨rfl, nodeBox _ _⟩
  · have e : tightK k t = -1 := by
      unfold tightK
      rw [if_neg (by omega), if_neg q13, if_neg q17, if_neg q18, if_neg q14, if_neg q15, if_neg q16, if_neg q19]
    rw [e]
    have f20 : ((k : Int) == 20) = false := by rw [beq_eq_false_iff_ne]; omega
    have f21 : ((k : Int) == 21) = false := by rw [beq_eq_false_iff_ne]; omega
    have f22 : ((k : Int) == 22) = false := by rw [beq_eq_false_iff_ne]; omega
    have f23 : ((k : Int) == 23) = false := by rw [beq_eq_false_iff_ne]; omega
    have f24 : ((k : Int) == 24) = false := by rw [beq_eq_false_iff_ne]; omega
    have f25 : ((k : Int) == 25) = false := by rw [beq_eq_false_iff_ne]; omega
    have f26 : ((k : Int) == 26) = false := by rw [beq_eq_false_iff_ne]; omega
    have f27 : ((k : Int) == 27) = false := by rw [beq_eq_false_iff_ne]; omega
    have f28 : ((k : Int) == 28) = false := by rw [beq_eq_false_iff_ne]; omega
    have f33 : ((k : Int) == 33) = false := by rw [beq_eq_false_iff_ne]; omega
    have f37 : ((k : Int) == 37) = false := by rw [beq_eq_false_iff_ne]; omega
    have f34 : ((k : Int) == 34) = false := by rw [beq_eq_false_iff_ne]; omega
    have f35 : ((k : Int) == 35) = false := by rw [beq_eq_false_iff_ne]; omega
    have f36 : ((k : Int) == 36) = false := by rw [beq_eq_false_iff_ne]; omega
    have f40 : ((k : Int) == 40) = false := by rw [beq_eq_false_iff_ne]; omega
    have f41 : ((k : Int) == 41) = false := by rw [beq_eq_false_iff_ne]; omega
    have f42 : ((k : Int) == 42) = false := by rw [beq_eq_false_iff_ne]; omega
    have f38 : ((k : Int) == 38) = false := by rw [beq_eq_false_iff_ne]; omega
    have f39 : ((k : Int) == 39) = false := by rw [beq_eq_false_iff_ne]; omega
    have f43 : ((k : Int) == 43) = false := by rw [beq_eq_false_iff_ne]; omega
    clear e q0 q1 q2 q3 q4 q5 q6 q7 q8 q9 q10 q11 q12 q13 q14 q15 q16 q17 q18 q19
    go_enter Tryz.func136, Tryz.ntmps136
    go_wp2_with (fail)
    go_ret
    exact ⟨rfl, nodeBox _ _⟩
end Go.Proofs.YtablckajobefeaaGreatDoor.S
/-
  What is asked of all the writer's methods; test: a walk.
-/
namespace Go.Proofs.YtablckajobefeaaGreatDoor.S
open Go.RowKit Fl

/-- a node by value -/
def nodeV (x : Tr) (K : Option Addr) (ck : Nat) : Value := .agg #[.int .u8 (x.kind : Int), .int .i64 x.pos, .string x.text, .float .f64 x.num, .slice K x.kids.length ck]
/-- a method that takes a node's number -/
def ByNo (z : Wz) (f : FuncId) (g : Tr → Wr → WR) : Prop :=
  ∀ (x : Tr) (s : Wr) (n h : Nat) (w : World), SubT z.N n x → RowT x = true → WA z s h w → g x s ≠ .out → Calls Tryz.prog f #[.pointer (some ⟨z.b, 0, none⟩), .int .i64 (n : Int)] w (WRes z h w (g x s))
/-- a method that takes a node's number and a number -/
def ByNo2 (z : Wz) (f : FuncId) (g : Nat → Tr → Wr → WR) : Prop :=
  ∀ (k : Nat) (x : Tr) (s : Wr) (n h : Nat) (w : World), k ≤ 20 → SubT z.N n x → RowT x = true → WA z s h w → g k x s ≠ .out → Calls Tryz.prog f #[.pointer (some ⟨z.b, 0, none⟩), .int .i64 (n : Int), .int .i64 (k : Int)] w (WRes z h w (g k x s))
/-- a method that takes a node -/
def ByNode (z : Wz) (f : FuncId) (g : Tr → Wr → WR) : Prop :=
  ∀ (x : Tr) (s : Wr) (n h : Nat) (w : World) (K : Option Addr) (ck : Nat), SubT z.N n x → RowT x = true → KidsI w (fun k => k < z.b) K ck (intsI (KidsT (n + 1) x.kids)) → WA z s h w → g x s ≠ .out →
    Calls Tryz.prog f #[.pointer (some ⟨z.b, 0, none⟩), nodeV x K ck] w (WRes z h w (g x s))
/-- a method that takes a node and a number -/
def ByNode2 (z : Wz) (f : FuncId) (g : Nat → Tr → Wr → WR) : Prop :=
  ∀ (k : Nat) (x : Tr) (s : Wr) (n h : Nat) (w : World) (K : Option Addr) (ck : Nat), k ≤ 20 → SubT z.N n x → RowT x = true → KidsI w (fun k => k < z.b) K ck (intsI (KidsT (n + 1) x.kids)) → WA z s h w → g k x s ≠ .out →
    Calls Tryz.prog f #[.pointer (some ⟨z.b, 0, none⟩), nodeV x K ck, .int .i64 (k : Int)] w (WRes z h w (g k x s))
/-- the same, of nodes of some kinds -/
def ByNodeP (P : Tr → Prop) (z : Wz) (f : FuncId) (g : Tr → Wr → WR) : Prop :=
  ∀ (x : Tr) (s : Wr) (n h : Nat) (w : World) (K : Option Addr) (ck : Nat), P x → SubT z.N n x → RowT x = true → KidsI w (fun k => k < z.b) K ck (intsI (KidsT (n + 1) x.kids)) → WA z s h w → g x s ≠ .out →
    Calls Tryz.prog f #[.pointer (some ⟨z.b, 0, none⟩), nodeV x K ck] w (WRes z h w (g x s))
def ByNode2P (P : Tr → Prop) (z : Wz) (f : FuncId) (g : Nat → Tr → Wr → WR) : Prop :=
  ∀ (k : Nat) (x : Tr) (s : Wr) (n h : Nat) (w : World) (K : Option Addr) (ck : Nat), k ≤ 20 → P x → SubT z.N n x → RowT x = true → KidsI w (fun k => k < z.b) K ck (intsI (KidsT (n + 1) x.kids)) → WA z s h w → g k x s ≠ .out →
    Calls Tryz.prog f #[.pointer (some ⟨z.b, 0, none⟩), nodeV x K ck, .int .i64 (k : Int)] w (WRes z h w (g k x s))
def isDecl (x : Tr) : Prop := x.kind = 3 ∨ x.kind = 4
def isLoop (x : Tr) : Prop := x.kind = 9 ∨ x.kind = 10
def hasKid (x : Tr) : Prop := 0 < x.kids.length
def isKind (k : Nat) (x : Tr) : Prop := x.kind = k
def isChain (x : Tr) : Prop := x.kind = 34 ∨ x.kind = 35 ∨ x.kind = 36
/-- the method that takes a node and a sign -/
def BySign (z : Wz) (g : ByteArray → Tr → Wr → WR) : Prop :=
  ∀ (c : ByteArray) (x : Tr) (s : Wr) (n h : Nat) (w : World) (K : Option Addr) (ck : Nat), x.kids.length = 2 → SubT z.N n x → RowT x = true → KidsI w (fun k => k < z.b) K ck (intsI (KidsT (n + 1) x.kids)) → WA z s h w → g c x s ≠ .out →
    Calls Tryz.prog 159 #[.pointer (some ⟨z.b, 0, none⟩), nodeV x K ck, .string c] w (WRes z h w (g c x s))
structure AllWr (z : Wz) (r : Wm → Tr → Wr → WR) : Prop where
  statement : ByNo z 55 (r .statement)
  body : ByNo z 80 (r .body)
  block : ByNo z 72 (r .block)
  test : ByNo z 79 (r .test)
  value : ByNo z 77 (r .value)
  held : ByNo2 z 114 (fun k => r (.held k))
  pair : ByNo z 156 (r .pair)
  key : ByNo z 174 (r .key)
  accessor : ByNo2 z 175 (fun k => r (.accessor k))
  declaration : ByNodeP isDecl z 74 (r .declaration)
  function : ByNodeP hasKid z 76 (r .function)
  branch : ByNodeP (isKind 7) z 78 (r .branch)
  loop : ByNodeP isLoop z 81 (r .loop)
  guarded : ByNodeP (isKind 16) z 82 (r .guarded)
  args : ByNodeP hasKid z 158 (r .args)
  bare : ByNode2 z 138 (fun k => r (.bare k))
  sides : BySign z (fun c => r (.sides c))
  chain : ByNode2P isChain z 157 (fun k => r (.chain k))
theorem says_out (l : List ByteArray) (s : Wr) : saysW l s ≠ .out := by
  induction l generalizing s with
  | nil => intro h; cases h
  | cons c r ih =>
    unfold saysW sayW putW
    split
    · intro h; cases h
    · exact ih _
theorem name_out (c : ByteArray) (s : Wr) : nameW c s ≠ .out := by
  unfold nameW putW
  split
  · intro h; cases h
  · intro h; cases h
set_option maxHeartbeats 2000000 in
theorem ww_test {z : Wz} {r : Wm → Tr → Wr → WR} (A : AllWr z r) : ByNo z 79 (wstep r .test) := by
  intro x s n h w hx hrow H ho
  generalize hR : wstep r .test x s = R at ho ⊢
  have HO := Lib.hid ho
  dsimp only [wstep] at hR
  have E := Lib.hid hR.symm
  clear hR ho
  have G := Fr.refl z.b h w
  go_enter Tryz.func79, Tryz.ntmps79
  go_wp2_with (fail)
  go_at_call 73
  refine (say_one H (⟨#[40]⟩ : ByteArray) _).mono ?_
  rintro e w1 hr
  cases hm1 : saysW [(⟨#[40]⟩ : ByteArray)] s with
  | out => exact absurd hm1 (says_out _ _)
  | bad q => rw [hm1] at hr; obtain ⟨rfl, g⟩ := hr; exact ⟨rfl, wres_bad (E.out.trans (WR.bind_bad hm1 _)) (G.trans (.inl rfl) g)⟩
  | ok s1 =>
    rw [hm1] at hr
    obtain ⟨rfl, h1, H, e1, g⟩ := hr
    have E := Lib.hid (E.out.trans (WR.bind_ok hm1 _))
    have hH1 := Lib.hid (hor (.inl rfl) G.size e1)
    have G := G.trans (.inl rfl) g
    go_wp2_with (fail)
    have hno2 : r .value x s1 ≠ .out := fun e => HO.out (E.out.trans (WR.bind_out e _))
    go_at_call 77
    refine (A.value x s1 n h1 _ hx hrow H hno2).mono ?_
    rintro e w2 hr
    cases hm2 : r .value x s1 with
    | out => exact absurd hm2 hno2
    | bad q => rw [hm2] at hr; obtain ⟨rfl, g⟩ := hr; exact ⟨rfl, wres_bad (E.out.trans (WR.bind_bad hm2 _)) (G.trans hH1.out g)⟩
    | ok s2 =>
      rw [hm2] at hr
      obtain ⟨rfl, h2, H, e2, g⟩ := hr
      have E := Lib.hid (E.out.trans (WR.bind_ok hm2 _))
      have hH2 := Lib.hid (hor hH1.out G.size e2)
      have G := G.trans hH1.out g
      go_wp2_with (fail)
      go_at_call 73
      refine (say_one H (⟨#[41]⟩ : ByteArray) _).mono ?_
      rintro e w3 hr
      cases hm3 : saysW [(⟨#[41]⟩ : ByteArray)] s2 with
      | out => exact absurd hm3 (says_out _ _)
      | bad q => rw [hm3] at hr; obtain ⟨rfl, g⟩ := hr; exact ⟨rfl, wres_bad (E.out.trans hm3) (G.trans hH2.out g)⟩
      | ok s3 =>
        rw [hm3] at hr
        obtain ⟨rfl, h3, H, e3, g⟩ := hr
        go_wp2_with (fail)
        go_end0
        exact wres_ok (E.out.trans hm3) H (hor hH2.out G.size e3) (G.trans hH2.out g)
end Go.Proofs.YtablckajobefeaaGreatDoor.S
/-
  The writer's kid: a node that must be of one of some kinds: a walk.
-/
namespace Go.Proofs.YtablckajobefeaaGreatDoor.S
open Go.RowKit Fl

def RowK (w : World) (g : Nat) (ks : List Nat) : Prop := g < w.heap.size ∧ ∀ (i k : Nat), ks[i]? = some k → w.cell? ⟨g, i, none⟩ = some (.int .u8 (k : Int))
/-- what kid comes to -/
def KidRes (z : Wz) (n : Nat) (x : Tr) (ks : List Nat) (w : World) (e : Ending) (w' : World) : Prop :=
  Below w.heap.size w w' ∧ (x.kind ∈ ks → ∃ K ck, e = .returned (nodeV x K ck) ∧ KidsI w (fun k => k < z.b) K ck (intsI (KidsT (n + 1) x.kids))) ∧
    (x.kind ∉ ks → e = .panicked [{ v := .iface 67 (.agg #[.int .i64 0, .int .i64 5]), recovered := false }])
theorem node_end {f : Func} {i : Nat} {t : TypeId} {Q : Ending → World → Prop} {tmps : Array Value} {W : World} {g : Nat} {k p : Int} {c : ByteArray} {x : Nat} {s : Value} (hf : f.results = #[.cell i 44])
    (h2 : tmps[i]?.getD undef = .pointer (some ⟨g, 0, none⟩)) (hb : W.heap[g]? = some (.cells #[.int .u8 k, .int .i64 p, .string c, .float .f64 x, s] t (0, 0))) (hQ : Q (.returned (.agg #[.int .u8 k, .int .i64 p, .string c, .float .f64 x, s])) W) :
    bodyPost Tryz.prog f Q .ret { tmps := tmps, defers := [] } W := by
  have c0 : W.cell? ⟨g, 0, none⟩ = some (.int .u8 k) := blk_cell hb 0
  have c1 : W.cell? ⟨g, 1, none⟩ = some (.int .i64 p) := blk_cell hb 1
  have c2 : W.cell? ⟨g, 2, none⟩ = some (.string c) := blk_cell hb 2
  have c3 : W.cell? ⟨g, 3, none⟩ = some (.float .f64 x) := blk_cell hb 3
  have c4 : W.cell? ⟨g, 4, none⟩ = some s := blk_cell hb 4
  clear hb
  refine bodyPost_ret (v := .agg #[.int .u8 k, .int .i64 p, .string c, .float .f64 x, s]) ?_ rfl hQ
  simp [h2, c0, c1, c2, c3, c4, results, hf, go_sem]
set_option maxHeartbeats 4000000 in
theorem kid_w {z : Wz} {s : Wr} {h : Nat} {w : World} (H : WA z s h w) {n : Nat} {x : Tr} (hx : SubT z.N n x) (g cap : Nat) (ks : List Nat) (hr : RowK w g ks) (hfew : ks.length ≤ 10) :
    Calls Tryz.prog 110 #[.pointer (some ⟨z.b, 0, none⟩), .int .i64 (n : Int), .slice (some ⟨g, 0, none⟩) ks.length cap] w (KidRes z n x ks w) := by
  obtain ⟨v, hb, _, _⟩ := H.blk
  obtain ⟨a, K, ck, ha, hal, hn, a0, a1, a2, a3, a4, hK⟩ := node_at H hx
  have c0 : w.cell? ⟨z.b, 0, none⟩ = some (.slice z.A z.N.length z.cap) := blk_cell hb 0
  rw [ha] at c0
  have hn1 : (n : Int) < (z.N.length : Int) := by omega
  have hn0 : (0 : Int) ≤ (n : Int) := by omega
  have hn2 : ((n : Int)).toNat = n := by omega
  have hst := store_f
  have hab : (a.add (n * 5)).block < w.heap.size := by rw [block_of_add]; exact hal
  have hzl := lt_of_blk hb
  have HK := Lib.hid hK
  have hR := hr.2
  have hgl := hr.1
  clear hK hb hx hr
  go_enter Tryz.func110, Tryz.ntmps110
  go_wp2_with (fail)
  go_loopw [11] (fun i wr => ∃ k : Nat, i = .int .i64 k ∧ k ≤ ks.length ∧ Hid (wr = w.alloc (.cells #[.int .u8 0, .int .i64 0, .string ⟨#[]⟩, .float .f64 0, .slice none 0 0] 44) ∧ ∀ j, j < k → ks[j]? ≠ some x.kind)) (fun i _ => ks.length - (intOf i).toNat)
  case atStart => exact ⟨0, rfl, Nat.zero_le _, Lib.hid ⟨rfl, fun j hj => by omega⟩⟩
  case round =>
    obtain ⟨k, rfl, hk, HH⟩ := hrel
    obtain ⟨hw, hno⟩ := HH.out
    subst hw
    clear HH
    by_cases hlt : k < ks.length
    · have hc := hR k ks[k] (List.getElem?_eq_getElem hlt)
      have HN := Lib.hid hno
      by_cases he : x.kind = ks[k]
      · have hm : x.kind ∈ ks := he ▸ List.getElem_mem hlt
        rw [← he] at hc
        have HM := Lib.hid hm
        clear hm he hno hR
        go_wp2_with (fail)
        exact node_end Tryz.results110 rfl (heap_alloc_new w _) ⟨zero_alloc _ _, fun _ => ⟨K, ck, rfl, HK.out⟩, fun h => absurd HM.out h⟩
      · have HE := Lib.hid (show ks[k]? ≠ some x.kind by rw [List.getElem?_eq_getElem hlt]; exact fun e => he (Option.some.inj e).symm)
        have hq : ((x.kind : Int) == (ks[k] : Int)) = false := by rw [beq_eq_false_iff_ne]; omega
        clear hno hR
        generalize ks[k] = q at *
        have hq2 : (x.kind == q) = false := by rw [beq_eq_false_iff_ne]; exact he
        go_wp2_with (fail)
        go_roundw
        case rel => exact ⟨k + 1, by go_num, by omega, Lib.hid ⟨by first | trivial | rfl, fun j hj => by
          by_cases e : j = k
          · subst e; exact HE.out
          · exact HN.out j (by omega)⟩⟩
        case measure => simp [intOf]; omega
    · have hm : x.kind ∉ ks := fun hm => by
        obtain ⟨j, hj⟩ := List.getElem?_of_mem hm
        have := (List.getElem?_eq_some_iff.1 hj).1
        exact hno j (by omega) hj
      have HM := Lib.hid hm
      clear hm hno
      go_wp2_with (fail)
      go_at_call 83
      refine (refuse_w z _).mono ?_
      rintro e w1 ⟨rfl, g1⟩
      exact ⟨rfl, after_alloc g1, fun h => absurd h HM.out, fun _ => rfl⟩
end Go.Proofs.YtablckajobefeaaGreatDoor.S
/-
  The writer's block: a walk.
-/
namespace Go.Proofs.YtablckajobefeaaGreatDoor.S
open Go.RowKit Fl

theorem each_drop {f : Tr → Wr → WR} {l : List Tr} {i : Nat} (hi : i < l.length) (s : Wr) : eachW f (l.drop i) s = (f l[i] s).bind (eachW f (l.drop (i + 1))) := by
  rw [List.drop_eq_getElem_cons hi]; rfl
theorem kid_get {x : Tr} {i : Nat} (hi : i < x.kids.length) : x.kid i = x.kids[i] := by
  unfold Tr.kid
  rw [List.getD_eq_getElem?_getD, List.getElem?_eq_getElem hi]
  rfl
theorem rowk_one (w : World) (k : Nat) (t : TypeId) : RowK (w.alloc (.cells #[.int .u8 (k : Int)] t)) w.heap.size [k] := by
  refine ⟨by simp, fun i c hc => ?_⟩
  have hb := heap_alloc_new w (.cells #[.int .u8 (k : Int)] t)
  rw [blk_cell hb i]
  match i with
  | 0 => cases hc; rfl
  | i + 1 => simp at hc
set_option maxHeartbeats 4000000 in
theorem ww_block {z : Wz} {r : Wm → Tr → Wr → WR} (A : AllWr z r) : ByNo z 72 (wstep r .block) := by
  intro x s n h w hx hrow H ho
  generalize hR : wstep r .block x s = R at ho ⊢
  have HO := Lib.hid ho
  dsimp only [wstep] at hR
  have E := Lib.hid hR.symm
  clear hR ho
  have hst := store_f
  go_enter Tryz.func72, Tryz.ntmps72
  go_wp2_with (fail)
  go_at_call 110
  refine (kid_w (wa_up H (zero_alloc _ _)) hx w.heap.size 1 [2] (rowk_one w 2 _) (by simp)).mono ?_
  rintro e w1 ⟨g1, k1, k2⟩
  have g0 := after_alloc g1
  by_cases hk : x.kind = 2
  · have E := Lib.hid (E.out.trans (if_pos hk))
    obtain ⟨K, ck, rfl, hK⟩ := k1 (by simp [hk])
    have hfew : x.kids.length ≤ 16384 := by
      have h := (rowT_kids hrow).1
      rw [hk] at h
      exact of_decide_eq_true h
    unfold nodeV
    have H := wa_up H g0
    have hK := Lib.hid (kidsi_up (ok' := fun k => k < z.b) hK g1.size fun k hk hlt => ⟨hk, g1.block k hlt⟩)
    have G := Lib.hid (Fr.below (b := z.b) (h := h) g0)
    clear k1 k2 g1
    go_wp2_with (fail)
    have H2 := wa_up H (zero_alloc w1 (.cells #[.int .u8 2, .int .i64 x.pos, .string x.text, .float .f64 x.num, .slice K x.kids.length ck] 44))
    have G2 := Lib.hid (G.out.trans (.inl rfl) (Fr.below (b := z.b) (h := h) (zero_alloc w1 (.cells #[.int .u8 2, .int .i64 x.pos, .string x.text, .float .f64 x.num, .slice K x.kids.length ck] 44))))
    have hzl := wa_lt H
    have hhl := H.hlt
    have hbn : w1.heap.size ≠ z.b := by omega
    have hbh : w1.heap.size ≠ h := by omega
    have hs2 : (w1.alloc (.cells #[.int .u8 2, .int .i64 x.pos, .string x.text, .float .f64 x.num, .slice K x.kids.length ck] 44)).heap.size = w1.heap.size + 1 := by simp
    have hb1 := heap_alloc_new w1 (.cells #[.int .u8 2, .int .i64 x.pos, .string x.text, .float .f64 x.num, .slice K x.kids.length ck] 44)
    have ks := say_one H2 (⟨#[123]⟩ : ByteArray) 9
    rw [hs2] at ks
    refine ks.mono ?_
    clear ks
    rintro e w2 hr
    cases hm1 : saysW [(⟨#[123]⟩ : ByteArray)] s with
    | out => exact absurd hm1 (says_out _ _)
    | bad q => rw [hm1] at hr; obtain ⟨rfl, g⟩ := hr; exact ⟨rfl, wres_bad (E.out.trans (WR.bind_bad hm1 _)) (G2.out.trans (.inl rfl) g)⟩
    | ok s1 =>
      rw [hm1] at hr
      obtain ⟨rfl, h2, H3, e2, g⟩ := hr
      have E := Lib.hid (E.out.trans (WR.bind_ok hm1 _))
      have HH2 := Lib.hid (hor (.inl rfl) G2.out.size e2)
      have G3 := Lib.hid (G2.out.trans (.inl rfl) g)
      have hb2 := (g.block w1.heap.size (by omega) hbn hbh).trans hb1
      have hK3 := Lib.hid (kidsi_up (ok' := fun k => k < z.b) hK.out (Nat.le_trans (by omega) g.size) fun k hk hlt => ⟨hk, (g.block k (by omega) (by omega) (by have := H.hz; omega)).trans ((zero_alloc w1 (.cells #[.int .u8 2, .int .i64 x.pos, .string x.text, .float .f64 x.num, .slice K x.kids.length ck] 44)).block k hlt)⟩)
      have c4 : w2.cell? ⟨w1.heap.size, 4, none⟩ = some (.slice K x.kids.length ck) := blk_cell hb2 4
      have HE := Lib.hid (And.intro H3 (And.intro HH2.out (And.intro G3.out (And.intro hK3.out E.out))))
      clear H H2 H3 hb1 hb2 e2 g hm1 G G2 G3 HH2 hK hK3 E
      go_wp2_with (fail)
      go_loopw [17] (fun i wr => ∃ (k : Nat) (s2 : Wr) (h3 : Nat), i = .int .i64 k ∧ k ≤ x.kids.length ∧ Hid (WA z s2 h3 wr ∧ (h3 = h ∨ w.heap.size ≤ h3) ∧ Fr z.b h w wr ∧ KidsI wr (fun k => k < z.b) K ck (intsI (KidsT (n + 1) x.kids)) ∧ R = (eachW (r .statement) (x.kids.drop k) s2).bind fun s3 => saysW [(⟨#[125]⟩ : ByteArray)] s3)) (fun i _ => x.kids.length - (intOf i).toNat)
      case atStart => exact ⟨0, s1, h2, rfl, Nat.zero_le _, HE⟩
      case round =>
        obtain ⟨k, s2, h3, rfl, hk2, HH⟩ := hrel
        obtain ⟨H4, e4, G4, hK4, E4⟩ := HH.out
        clear HH HE
        by_cases hlt : k < x.kids.length
        · obtain ⟨a, m, ha, hal, hc, hxk⟩ := kid_at hx hK4 hlt
          rw [kid_get hlt] at hxk
          subst ha
          have hrk := rowT_kid hrow hlt
          rw [kid_get hlt] at hrk
          have E5 := Lib.hid (E4.trans (by rw [each_drop hlt]))
          have hno : r .statement x.kids[k] s2 ≠ .out := fun e => HO.out (E5.out.trans (WR.bind_out (WR.bind_out e _) _))
          have ky := A.statement x.kids[k] s2 m h3 wr hxk hrk H4 hno
          have hK5 := Lib.hid hK4
          have hH4 := Lib.hid H4
          have G5 := Lib.hid G4
          have he4 := Lib.hid e4
          clear H4 hK4 G4 e4 E4
          go_wp2_with (fail)
          go_at_call 55
          refine ky.mono ?_
          rintro e w5 hr
          cases hm : r .statement x.kids[k] s2 with
          | out => exact absurd hm hno
          | bad q => rw [hm] at hr; obtain ⟨rfl, g⟩ := hr; exact ⟨rfl, wres_bad (E5.out.trans (WR.bind_bad (WR.bind_bad hm _) _)) (G5.out.trans he4.out g)⟩
          | ok s5 =>
            rw [hm] at hr
            obtain ⟨rfl, h5, H5, e5, g5⟩ := hr
            have E6 := Lib.hid (E5.out.trans (by rw [WR.bind_ok hm]))
            have HN := Lib.hid (And.intro H5 (And.intro (hor he4.out G5.out.size e5) (And.intro (G5.out.trans he4.out g5) (And.intro (kids_up hK5.out hH4.out.hz g5) E6.out))))
            clear ky H5 e5 g5 E5 E6 hm
            have hl1 := Lib.hid hlt
            go_wp2_with (fail)
            go_roundw
            case rel => exact ⟨k + 1, s5, h5, by go_num, hl1.out, HN⟩
            case measure => have := hl1.out; simp [intOf]; omega
        · have hkl : k = x.kids.length := by omega
          subst hkl
          have E5 := Lib.hid (E4.trans (by rw [List.drop_length]; rfl) : R = saysW [(⟨#[125]⟩ : ByteArray)] s2)
          have ks := say_one H4 (⟨#[125]⟩ : ByteArray) 9
          have G5 := Lib.hid G4
          have he4 := Lib.hid e4
          clear H4 hK4 G4 e4 E4
          go_wp2_with (fail)
          go_at_call 73
          refine ks.mono ?_
          rintro e w5 hr
          cases hm : saysW [(⟨#[125]⟩ : ByteArray)] s2 with
          | out => exact absurd hm (says_out _ _)
          | bad q => rw [hm] at hr; obtain ⟨rfl, g⟩ := hr; exact ⟨rfl, wres_bad (E5.out.trans hm) (G5.out.trans he4.out g)⟩
          | ok s5 =>
            rw [hm] at hr
            obtain ⟨rfl, h5, H5, e5, g5⟩ := hr
            have HN := Lib.hid (And.intro H5 (And.intro (hor he4.out G5.out.size e5) (G5.out.trans he4.out g5)))
            clear ks H5 e5 g5
            go_wp2_with (fail)
            go_end0
            exact wres_ok (E5.out.trans hm) HN.out.1 HN.out.2.1 HN.out.2.2
  · have E := Lib.hid (E.out.trans (if_neg hk))
    rw [k2 (by simp [hk])]
    exact ⟨rfl, wres_bad E.out (Fr.below g0)⟩
end Go.Proofs.YtablckajobefeaaGreatDoor.S
/-
  The writer's misread, held: walks.
-/
namespace Go.Proofs.YtablckajobefeaaGreatDoor.S
open Go.RowKit Fl

set_option maxHeartbeats 2000000 in
theorem misread_w {z : Wz} {s : Wr} {h : Nat} {w : World} (H : WA z s h w) (k : Nat) (p : Int) (t : ByteArray) (x : Nat) (K : Option Addr) (n ck : Nat) :
    Calls Tryz.prog 137 #[.pointer (some ⟨z.b, 0, none⟩), .agg #[.int .u8 (k : Int), .int .i64 p, .string t, .float .f64 x, .slice K n ck]] w fun e w' => e = .returned (.bool ((s.toks.length : Int) == s.first && (k == 28 || k == 27))) ∧ Below w.heap.size w w' := by
  obtain ⟨v, hb, hv, _⟩ := H.blk
  obtain ⟨A, cap, rfl⟩ := wown_shape hv
  have hbl := lt_of_blk hb
  have c1 : w.cell? ⟨z.b, 1, none⟩ = some (.slice A s.toks.length cap) := blk_cell hb 1
  have c2 : w.cell? ⟨z.b, 2, none⟩ = some (.int .i64 s.first) := blk_cell hb 2
  have e28 : ((k : Int) == 28) = (k == 28) := by rw [Bool.eq_iff_iff]; simp only [beq_iff_eq]; omega
  have e27 : ((k : Int) == 27) = (k == 27) := by rw [Bool.eq_iff_iff]; simp only [beq_iff_eq]; omega
  clear hv hb H
  cases h1 : ((s.toks.length : Int) == s.first) <;> cases h2 : (k == 28) <;> cases h3 : (k == 27)
  all_goals
    rw [h2] at e28
    rw [h3] at e27
    clear h2 h3
    go_enter Tryz.func137, Tryz.ntmps137
    go_wp2_with (fail)
    go_quiet (fail)
    go_wp2_with (fail)
    go_ret
    exact ⟨rfl, below_draw2 (zero_alloc _ _) _⟩
theorem nc5 {w : World} {g : Nat} {t : TypeId} {c0 c1 c2 c3 c4 : Value} (h : w.heap[g]? = some (.cells #[c0, c1, c2, c3, c4] t (0, 0))) :
    w.cell? ⟨g, 0, none⟩ = some c0 ∧ w.cell? ⟨g, 1, none⟩ = some c1 ∧ w.cell? ⟨g, 2, none⟩ = some c2 ∧ w.cell? ⟨g, 3, none⟩ = some c3 ∧ w.cell? ⟨g, 4, none⟩ = some c4 := ⟨blk_cell h 0, blk_cell h 1, blk_cell h 2, blk_cell h 3, blk_cell h 4⟩
theorem blk_up {w1 w2 : World} {g : Nat} {o : Obj} (h : Below w1.heap.size w1 w2) (hb : w1.heap[g]? = some o) : w2.heap[g]? = some o := by
  have hg : g < w1.heap.size := by
    rcases Nat.lt_or_ge g w1.heap.size with c | c
    · exact c
    · rw [Array.getElem?_eq_none c] at hb; cases hb
  rw [h.block g hg]; exact hb
theorem tight_eq (x : Tr) : tightK x.kind x.text = tightI x := rfl
set_option maxHeartbeats 4000000 in
theorem ww_held {z : Wz} {r : Wm → Tr → Wr → WR} (A : AllWr z r) : ByNo2 z 114 (fun k => wstep r (.held k)) := by
  intro q x s n h w hq hx hrow H ho
  dsimp only at ho ⊢
  generalize hR : wstep r (.held q) x s = R at ho ⊢
  have HO := Lib.hid ho
  dsimp only [wstep] at hR
  have E := Lib.hid hR.symm
  clear hR ho
  have hst := store_f
  obtain ⟨v, hb, _, _⟩ := H.blk
  obtain ⟨a, K, ck, ha, hal, hn, a0, a1, a2, a3, a4, hK⟩ := node_at H hx
  have c0 : w.cell? ⟨z.b, 0, none⟩ = some (.slice z.A z.N.length z.cap) := blk_cell hb 0
  rw [ha] at c0
  have hn1 : (n : Int) < (z.N.length : Int) := by omega
  have hn0 : (0 : Int) ≤ (n : Int) := by omega
  have hn2 : ((n : Int)).toNat = n := by omega
  have hab : (a.add (n * 5)).block < w.heap.size := by rw [block_of_add]; exact hal
  have hzl := lt_of_blk hb
  have hhl := H.hlt
  have hs1 : (w.alloc (.cells #[.int .u8 (x.kind : Int), .int .i64 x.pos, .string x.text, .float .f64 x.num, .slice K x.kids.length ck] 44)).heap.size = w.heap.size + 1 := by simp
  have H1 := wa_up H (zero_alloc w (.cells #[.int .u8 (x.kind : Int), .int .i64 x.pos, .string x.text, .float .f64 x.num, .slice K x.kids.length ck] 44))
  have hK1 := Lib.hid (kidsi_up (ok' := fun k => k < z.b) hK (zero_alloc w (.cells #[.int .u8 (x.kind : Int), .int .i64 x.pos, .string x.text, .float .f64 x.num, .slice K x.kids.length ck] 44)).size fun k hk hlt => ⟨hk, (zero_alloc w (.cells #[.int .u8 (x.kind : Int), .int .i64 x.pos, .string x.text, .float .f64 x.num, .slice K x.kids.length ck] 44)).block k hlt⟩)
  have hbx := heap_alloc_new w (.cells #[.int .u8 (x.kind : Int), .int .i64 x.pos, .string x.text, .float .f64 x.num, .slice K x.kids.length ck] 44)
  have kt := fun w => tight_w x.kind x.pos x.text x.num K x.kids.length ck w
  rw [tight_eq] at kt
  have HH := Lib.hid (And.intro H1 hbx)
  clear hb hK H1 hbx H
  go_enter Tryz.func114, Tryz.ntmps114
  obtain ⟨H1, hbx⟩ := HH.out
  clear HH
  have hmq : misreadB x s = ((s.toks.length : Int) == s.first && (x.kind == 28 || x.kind == 27)) := rfl
  by_cases ht : tightI x < 0
  · replace E := Lib.hid (E.out.trans (if_pos ht))
    have H1 := Lib.hid H1
    generalize tightI x = T at *
    go_wp2_with (go_at_call 136; (with_reducible refine (kt _).mono ?_); rintro e w1 ⟨rfl, g1⟩)
    go_at_call 83
    refine (refuse_w z _).mono ?_
    rintro e w2 ⟨rfl, g2⟩
    exact ⟨rfl, wres_bad E.out (Fr.below ((after_alloc g1).trans (g2.mono (after_alloc g1).size)))⟩
  · replace E := Lib.hid (E.out.trans (if_neg ht))
    by_cases hc : (q : Int) ≤ tightI x ∧ misreadB x s = false
    · replace E := Lib.hid (E.out.trans (if_pos hc))
      obtain ⟨hc1, hc2⟩ := hc
      rw [hmq] at hc2
      have H1 := Lib.hid H1
      have hno1 := Lib.hid (show r (.bare q) x s ≠ .out from fun e => HO.out (E.out.trans e))
      clear hmq
      generalize tightI x = T at *
      go_wp2_with (first
        | (go_at_call 136; (with_reducible refine (kt _).mono ?_); rintro e w1 ⟨rfl, g1⟩; have HB1 := Lib.hid (after_alloc g1); have HB3 := Lib.hid g1; have H2 := Lib.hid (wa_up H1.out g1); have hb1 := after_blk g1; obtain ⟨d0, d1, d2, d3, d4⟩ := nc5 hb1)
        | (go_at_call 137; refine (misread_w H2.out _ _ _ _ _ _ _).mono ?_; rintro e w2 ⟨rfl, g2⟩; have HB1 := Lib.hid (HB1.out.trans (g2.mono HB1.out.size)); have HB3 := Lib.hid (HB3.out.trans (g2.mono HB3.out.size)); have H2 := Lib.hid (wa_up H2.out g2); have hb1 := blk_up g2 hb1; obtain ⟨b0, b1, b2, b3, b4⟩ := nc5 hb1))
      have hK3 := kidsi_up (ok' := fun k => k < z.b) hK1.out HB3.out.size fun k hk hlt => ⟨hk, HB3.out.block k hlt⟩
      have G := Fr.below (b := z.b) (h := h) HB1.out
      go_at_call 138
      refine (A.bare q x s n h _ K ck hq hx hrow hK3 H2.out hno1.out).mono ?_
      rintro e w3 hr
      dsimp only at hr
      cases hm1 : r (.bare q) x s with
      | out => exact absurd hm1 hno1.out
      | bad u => rw [hm1] at hr; obtain ⟨rfl, g⟩ := hr; exact ⟨rfl, wres_bad (E.out.trans hm1) (G.trans (.inl rfl) g)⟩
      | ok s1 =>
        rw [hm1] at hr
        obtain ⟨rfl, h1, H, e1, g⟩ := hr
        have HN := Lib.hid (And.intro H (And.intro (hor (.inl rfl) G.size e1) (G.trans (.inl rfl) g)))
        have E := Lib.hid (E.out.trans hm1)
        clear hm1 H e1 g G hK3
        go_wp2_with (fail)
        first | go_ret | go_end0
        exact wres_ok E.out HN.out.1 HN.out.2.1 HN.out.2.2
    · replace E := Lib.hid (E.out.trans (if_neg hc))
      have ways : ¬ ((q : Int) ≤ tightI x) ∨ ((q : Int) ≤ tightI x ∧ misreadB x s = true) := by
        by_cases h1 : (q : Int) ≤ tightI x
        · right
          refine ⟨h1, ?_⟩
          cases h2 : misreadB x s
          · exact absurd ⟨h1, h2⟩ hc
          · rfl
        · exact .inl h1
      rw [hmq] at ways
      clear hmq hc
      have H1 := Lib.hid H1
      generalize tightI x = T at *
      have hbn : w.heap.size ≠ z.b := by omega
      have hbh : w.heap.size ≠ h := by omega
      rcases ways with hc1 | ⟨hc1, hc2⟩
      all_goals
        go_wp2_with (first
          | (go_at_call 136; (with_reducible refine (kt _).mono ?_); rintro e w1 ⟨rfl, g1⟩; have HB1 := Lib.hid (after_alloc g1); have HB3 := Lib.hid g1; have H2 := Lib.hid (wa_up H1.out g1); have hb1 := after_blk g1; obtain ⟨d0, d1, d2, d3, d4⟩ := nc5 hb1)
          | (go_at_call 137; refine (misread_w H2.out _ _ _ _ _ _ _).mono ?_; rintro e w2 ⟨rfl, g2⟩; have HB1 := Lib.hid (HB1.out.trans (g2.mono HB1.out.size)); have HB3 := Lib.hid (HB3.out.trans (g2.mono HB3.out.size)); have H2 := Lib.hid (wa_up H2.out g2); have hb1 := blk_up g2 hb1; obtain ⟨b0, b1, b2, b3, b4⟩ := nc5 hb1))
        have G := Lib.hid (Fr.below (b := z.b) (h := h) HB1.out)
        have hK3 := Lib.hid (kidsi_up (ok' := fun k => k < z.b) hK1.out HB3.out.size fun k hk hlt => ⟨hk, HB3.out.block k hlt⟩)
        go_at_call 73
        refine (say_one H2.out (⟨#[40]⟩ : ByteArray) _).mono ?_
        rintro e w3 hr
        cases hm1 : saysW [(⟨#[40]⟩ : ByteArray)] s with
        | out => exact absurd hm1 (says_out _ _)
        | bad u => rw [hm1] at hr; obtain ⟨rfl, g⟩ := hr; exact ⟨rfl, wres_bad (E.out.trans (WR.bind_bad hm1 _)) (G.out.trans (.inl rfl) g)⟩
        | ok s1 =>
          rw [hm1] at hr
          obtain ⟨rfl, h1, H, e1, g⟩ := hr
          have hb3 := (g.block w.heap.size (lt_of_blk hb1) hbn hbh).trans hb1
          obtain ⟨f0, f1, f2, f3, f4⟩ := nc5 hb3
          have hK4 := Lib.hid (kids_up hK3.out H2.out.hz g)
          have E2 := Lib.hid (E.out.trans (WR.bind_ok hm1 _))
          have HN := Lib.hid (And.intro (hor (.inl rfl) G.out.size e1) (G.out.trans (.inl rfl) g))
          have HH := Lib.hid H
          clear hm1 H e1 g
          go_wp2_with (fail)
          have hno2 : r (.bare 0) x s1 ≠ .out := fun e => HO.out (E2.out.trans (WR.bind_out e _))
          go_at_call 138
          refine (A.bare 0 x s1 n h1 _ K ck (by omega) hx hrow hK4.out HH.out hno2).mono ?_
          rintro e w4 hr
          dsimp only at hr
          cases hm2 : r (.bare 0) x s1 with
          | out => exact absurd hm2 hno2
          | bad u => rw [hm2] at hr; obtain ⟨rfl, g⟩ := hr; exact ⟨rfl, wres_bad (E2.out.trans (WR.bind_bad hm2 _)) (HN.out.2.trans HN.out.1 g)⟩
          | ok s2 =>
            rw [hm2] at hr
            obtain ⟨rfl, h2, H, e2, g⟩ := hr
            have E3 := Lib.hid (E2.out.trans (WR.bind_ok hm2 _))
            have HN2 := Lib.hid (And.intro (hor HN.out.1 HN.out.2.size e2) (HN.out.2.trans HN.out.1 g))
            have HH2 := Lib.hid H
            clear hm2 H e2 g hno2
            go_wp2_with (fail)
            go_at_call 73
            refine (say_one HH2.out (⟨#[41]⟩ : ByteArray) _).mono ?_
            rintro e w5 hr
            cases hm3 : saysW [(⟨#[41]⟩ : ByteArray)] s2 with
            | out => exact absurd hm3 (says_out _ _)
            | bad u => rw [hm3] at hr; obtain ⟨rfl, g⟩ := hr; exact ⟨rfl, wres_bad (E3.out.trans hm3) (HN2.out.2.trans HN2.out.1 g)⟩
            | ok s3 =>
              rw [hm3] at hr
              obtain ⟨rfl, h3, H, e3, g⟩ := hr
              have HN3 := Lib.hid (And.intro H (And.intro (hor HN2.out.1 HN2.out.2.size e3) (HN2.out.2.trans HN2.out.1 g)))
              have E4 := Lib.hid (E3.out.trans hm3)
              clear hm3 H e3 g
              go_wp2_with (fail)
              first | go_ret | go_end0
              exact wres_ok E4.out HN3.out.1 HN3.out.2.1 HN3.out.2.2
end Go.Proofs.YtablckajobefeaaGreatDoor.S
/-
  The writer in the middle of a method that has a node in a block of its own: what stands, and how it goes on.
-/
namespace Go.Proofs.YtablckajobefeaaGreatDoor.S
open Go.RowKit Fl

structure St (z : Wz) (x : Tr) (n : Nat) (K : Option Addr) (ck nb : Nat) (w0 : World) (h0 : Nat) (s : Wr) (h : Nat) (w : World) : Prop where
  H : WA z s h w
  e : h = h0 ∨ w0.heap.size ≤ h
  G : Fr z.b h0 w0 w
  blk : w.heap[nb]? = some (.cells #[.int .u8 (x.kind : Int), .int .i64 x.pos, .string x.text, .float .f64 x.num, .slice K x.kids.length ck] 44 (0, 0))
  nz : nb ≠ z.b
  nh : nb ≠ h
  kids : KidsI w (fun k => k < z.b) K ck (intsI (KidsT (n + 1) x.kids))
section
variable {z : Wz} {x : Tr} {n : Nat} {K : Option Addr} {ck nb : Nat} {w0 : World} {h0 : Nat} {s : Wr} {h : Nat} {w : World}
/-- it begins where the node is laid down -/
theorem st_begin {w1 : World} (H : WA z s h w1) (e : h = h0 ∨ w0.heap.size ≤ h) (G : Fr z.b h0 w0 w1) (hK : KidsI w1 (fun k => k < z.b) K ck (intsI (KidsT (n + 1) x.kids))) :
    St z x n K ck w1.heap.size w0 h0 s h (w1.alloc (.cells #[.int .u8 (x.kind : Int), .int .i64 x.pos, .string x.text, .float .f64 x.num, .slice K x.kids.length ck] 44)) := by
  have g := zero_alloc w1 (.cells #[.int .u8 (x.kind : Int), .int .i64 x.pos, .string x.text, .float .f64 x.num, .slice K x.kids.length ck] 44)
  have h1 := wa_lt H
  have h2 := H.hlt
  exact ⟨wa_up H g, e, G.trans e (Fr.below g), heap_alloc_new _ _, by omega, by omega, kidsi_up hK g.size fun k hk hlt => ⟨hk, g.block k hlt⟩⟩
theorem st_next (S : St z x n K ck nb w0 h0 s h w) {s' : Wr} {h' : Nat} {w' : World} (H : WA z s' h' w') (e : h' = h ∨ w.heap.size ≤ h') (g : Fr z.b h w w') : St z x n K ck nb w0 h0 s' h' w' := by
  have hl := lt_of_blk S.blk
  exact ⟨H, hor S.e S.G.size e, S.G.trans S.e g, (g.block nb hl S.nz S.nh).trans S.blk, S.nz, by have := S.nh; omega, kids_up S.kids S.H.hz g⟩
theorem st_up (S : St z x n K ck nb w0 h0 s h w) {w' : World} (g : Below w.heap.size w w') : St z x n K ck nb w0 h0 s h w' :=
  st_next S (wa_up S.H g) (.inl rfl) (Fr.below g)
theorem st_bad (S : St z x n K ck nb w0 h0 s h w) {w' : World} (g : Fr z.b h w w') : Fr z.b h0 w0 w' := S.G.trans S.e g
theorem st_fin (S : St z x n K ck nb w0 h0 s h w) {R : WR} (hr : R = .ok s) : WRes z h0 w0 R (.returned (.tuple #[])) w := wres_ok hr S.H S.e S.G
/-- the number of a kid -/
def kidNo (n : Nat) (x : Tr) (i : Nat) : Nat := (starts (n + 1) x.kids).getD i 0
theorem st_kid {a : Addr} (S : St z x n (some a) ck nb w0 h0 s h w) (hx : SubT z.N n x) {i : Nat} (hi : i < x.kids.length) :
    a.block < w.heap.size ∧ w.cell? (a.add i) = some (.int .i64 (kidNo n x i : Nat)) ∧ SubT z.N (kidNo n x i) (x.kid i) := by
  obtain ⟨_, h2⟩ := subT_node hx
  have hl : (intsI (KidsT (n + 1) x.kids)).length = x.kids.length := by unfold intsI; rw [List.length_map, kidsT_len]
  obtain ⟨b, e, _, hlt, hc⟩ := S.kids.2 (by omega)
  cases e
  have hs : i < (starts (n + 1) x.kids).length := by rw [starts_len]; exact hi
  have ek : kidNo n x i = (starts (n + 1) x.kids)[i] := by unfold kidNo; rw [List.getD_eq_getElem?_getD, List.getElem?_eq_getElem hs]; rfl
  rw [ek]
  refine ⟨hlt, hc i _ ?_, ?_⟩
  · unfold intsI KidsT
    simp only [List.getElem?_map, List.getElem?_eq_getElem hs, Option.map_some]
  · have := subL_get x.kids (n + 1) i hi hs h2
    unfold Tr.kid
    rw [List.getD_eq_getElem?_getD, List.getElem?_eq_getElem hi]
    exact this
end
theorem kids_addr {w : World} {ok : Nat → Prop} {K : Option Addr} {ck n : Nat} {x : Tr} (hK : KidsI w ok K ck (intsI (KidsT (n + 1) x.kids))) (h : 0 < x.kids.length) : ∃ a, K = some a := by
  obtain ⟨a, e, _⟩ := hK.2 (by unfold intsI; rw [List.length_map, kidsT_len]; exact h)
  exact ⟨a, e⟩
/-- how many kids a node of a kind has -/
theorem kids_two {x : Tr} (h : RowT x = true) (k : Nat) (hk : x.kind = k) (n : Nat) (hb : ∀ m, kidsB k m = true → m = n) : x.kids.length = n := by
  have := (rowT_kids h).1
  rw [hk] at this
  exact hb _ this
end Go.Proofs.YtablckajobefeaaGreatDoor.S
