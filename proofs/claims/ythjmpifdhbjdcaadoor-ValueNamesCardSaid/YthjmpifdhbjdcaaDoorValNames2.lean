/-
  ValueNames: the walk.
-/
import Derived.Test.YthjmpifdhbjdcaaDoorValNames
import Derived.Deep.CutRange
namespace Go.Proofs.YthjmpifdhbjdcaaDoor.S
open Go.RowKit Fl

theorem is_half2 : Is .other 4602678819172646912 := ⟨by decide, Or.inr (Or.inl (by unfold Frac IsFin; decide +kernel))⟩
/-- the law's no number stands in its block -/
def N1 (w : World) (g v : Nat) (w' : World) : Prop :=
  w'.cell? ⟨g, 0, none⟩ = some (.int .u8 3) ∧ w'.cell? ⟨g, 1, none⟩ = some (.float .f64 v) ∧ w'.cell? ⟨g, 2, none⟩ = some (.string ⟨#[]⟩) ∧ w'.cell? ⟨g, 3, none⟩ = some (.int .i64 0) ∧ g < w'.heap.size ∧ Below w.heap.size w w'
theorem n1_up {w w1 w2 : World} {g v : Nat} (h : N1 w g v w1) (b : Below w1.heap.size w1 w2) : N1 w g v w2 := by
  obtain ⟨h0, h1, h2, h3, hl, hb⟩ := h
  obtain ⟨c, _⟩ := vcell b
  exact ⟨(c _ _ hl).trans h0, (c _ _ hl).trans h1, (c _ _ hl).trans h2, (c _ _ hl).trans h3, vltn b hl, vb hb b⟩
theorem n1_start {w w1 : World} {v : Nat} {t : TypeId} (b : Below w.heap.size w w1) : N1 w w1.heap.size v (w1.alloc (.cells #[.int .u8 3, .float .f64 v, .string ⟨#[]⟩, .int .i64 0] t)) := by
  obtain ⟨h0, h1, h2, h3, _⟩ := vc4 (heap_alloc_new w1 (.cells #[.int .u8 3, .float .f64 v, .string ⟨#[]⟩, .int .i64 0] t))
  exact ⟨h0, h1, h2, h3, by simp, vb b (vzero _ _)⟩
theorem n1_c {f : FuncId} {args : Array Value} {u : Value} {w : World} {g v : Nat} (h : ∀ w, Calls Tryd.prog f args w fun e w' => e = .returned u ∧ Below w.heap.size w w') (w1 : World) (hS : N1 w g v w1) :
    Calls Tryd.prog f args w1 fun e w2 => e = .returned u ∧ N1 w g v w2 := (h w1).mono fun _ _ ⟨he, hb⟩ => ⟨he, n1_up hS hb⟩
theorem n1_text {args : Array Value} {l : List UInt8} {w : World} {g v : Nat} (htab : TabHere w) (h : ∀ w, TabHere w → Calls Tryd.prog 14 args w fun e w' => ∃ t : ByteArray, e = .returned (.string t) ∧ t.data.toList = l ∧ Below w.heap.size w w') (w1 : World) (hS : N1 w g v w1) :
    Calls Tryd.prog 14 args w1 fun e w2 => e = .returned (.string ⟨l.toArray⟩) ∧ N1 w g v w2 := by
  obtain ⟨h0, h1, h2, h3, hl, hb⟩ := id hS
  exact (h w1 (fun w' h' => htab w' (vb hb h'))).mono fun e w2 ⟨t, he, ht, hb⟩ => ⟨by rw [he]; congr 2; exact bytes_ext ht, n1_up hS hb⟩
set_option maxHeartbeats 8000000 in
set_option maxRecDepth 1000000 in
theorem ValueNames_walk (w : World) (htab : TabHere w) : Calls Tryd.prog 3 #[] w fun e w' => e = .returned (.bool true) ∧ Below w.heap.size w w' := by
  obtain ⟨v, v1, v2, hr⟩ := run_float_none (P := Tryd.prog) (op := .quo) (x := 0) (y := 0) (by simp) (by decide) w
  have hr := hr 22
  have hcN : Is .nan v := ⟨v1, v2⟩
  have hok : (Vl.num v).ok := ⟨.nan, hcN, rfl⟩
  have hf : feq v v = false := by unfold feq; rw [show FloatKind.f64.format.order v v = none from order_nan_l _ v2]; rfl
  have hf0 : feq v 0 = false := by unfold feq; rw [show FloatKind.f64.format.order v 0 = none from order_nan_l _ v2]; rfl
  have hc0 : (Vl.num 0).ok := ⟨.ours 0, ⟨F_zero.symm, by unfold SafeN; omega⟩, rfl⟩
  have hc7 : (Vl.num 4619567317775286272).ok := ⟨.ours 7, ⟨by decide, by unfold SafeN; omega⟩, rfl⟩
  have s1 : ∀ w, Calls Tryd.prog 6 #[.agg #[.int .u8 3, .float .f64 v, .string ⟨#[]⟩, .int .i64 0], .agg #[.int .u8 3, .float .f64 v, .string ⟨#[]⟩, .int .i64 0]] w (fun e w' => e = .returned (.bool true) ∧ Below w.heap.size w w') := fun w => by
    have h := Same_any 3 v ⟨#[]⟩ 0 3 v ⟨#[]⟩ 0 (by omega) w
    rw [show sameG 3 v ⟨#[]⟩ 0 3 v ⟨#[]⟩ 0 = true from sameV_refl hok] at h
    exact h
  have s2 : ∀ w, Calls Tryd.prog 7 #[.agg #[.int .u8 3, .float .f64 v, .string ⟨#[]⟩, .int .i64 0], .agg #[.int .u8 3, .float .f64 v, .string ⟨#[]⟩, .int .i64 0]] w (fun e w' => e = .returned (.bool false) ∧ Below w.heap.size w w') := fun w => by
    have h := Strict_any 3 v ⟨#[]⟩ 0 3 v ⟨#[]⟩ 0 (by omega) w
    rw [hf, show (sameG 3 v ⟨#[]⟩ 0 3 v ⟨#[]⟩ 0 && !(3 == 3 && !false)) = false by simp] at h
    exact h
  have s3 : ∀ w, Calls Tryd.prog 6 #[.agg #[.int .u8 7, .float .f64 0, .string ⟨#[]⟩, .int .i64 3], .agg #[.int .u8 6, .float .f64 0, .string ⟨#[]⟩, .int .i64 3]] w (fun e w' => e = .returned (.bool true) ∧ Below w.heap.size w w') := fun w => Same_any 7 0 ⟨#[]⟩ 3 6 0 ⟨#[]⟩ 3 (by omega) w
  have s4 : ∀ w, Calls Tryd.prog 6 #[.agg #[.int .u8 3, .float .f64 4607182418800017408, .string ⟨#[]⟩, .int .i64 0], .agg #[.int .u8 2, .float .f64 4607182418800017408, .string ⟨#[]⟩, .int .i64 0]] w (fun e w' => e = .returned (.bool false) ∧ Below w.heap.size w w') := fun w => Same_any 3 4607182418800017408 ⟨#[]⟩ 0 2 4607182418800017408 ⟨#[]⟩ 0 (by omega) w
  have t1 : ∀ w, Calls Tryd.prog 10 #[.agg #[.int .u8 3, .float .f64 v, .string ⟨#[]⟩, .int .i64 0]] w (fun e w' => e = .returned (.bool false) ∧ Below w.heap.size w w') := fun w => by
    have h := Truth_v hok w
    rw [show truthV (.num v) = false by show (!feq v 0 && feq v v) = false; rw [hf, Bool.and_false]] at h
    exact h
  have t2 : ∀ w, Calls Tryd.prog 10 #[.agg #[.int .u8 6, .float .f64 0, .string ⟨#[]⟩, .int .i64 0]] w (fun e w' => e = .returned (.bool true) ∧ Below w.heap.size w w') := fun w => Truth_v (v := .obj 6 0) ⟨.inl rfl, by omega, by omega⟩ w
  have y1 : ∀ w, Calls Tryd.prog 11 #[.agg #[.int .u8 1, .float .f64 0, .string ⟨#[]⟩, .int .i64 0]] w (fun e w' => e = .returned (.string ⟨#[111, 98, 106, 101, 99, 116]⟩) ∧ Below w.heap.size w w') := fun w => Type_v (v := .nul) trivial w
  have p1 : ∀ w, Calls Tryd.prog 12 #[.agg #[.int .u8 4, .float .f64 0, .string ⟨#[32, 55, 32]⟩, .int .i64 0], .agg #[.int .u8 3, .float .f64 4619567317775286272, .string ⟨#[]⟩, .int .i64 0]] w (fun e w' => e = .returned (.tuple #[.bool true, .int .i64 0]) ∧ Below w.heap.size w w') := fun w => by
    have h := Plain_v (a := .str ⟨#[32, 55, 32]⟩) (b := .num 4619567317775286272) (by show (3 : Nat) ≤ 4096; omega) hc7 w
    rw [ex1] at h
    exact h
  have p2 : ∀ w, Calls Tryd.prog 12 #[.agg #[.int .u8 2, .float .f64 4607182418800017408, .string ⟨#[]⟩, .int .i64 0], .agg #[.int .u8 4, .float .f64 0, .string ⟨#[49]⟩, .int .i64 0]] w (fun e w' => e = .returned (.tuple #[.bool true, .int .i64 0]) ∧ Below w.heap.size w w') := fun w => by
    have h := Plain_v (a := .boo 4607182418800017408) (b := .str ⟨#[49]⟩) (.inr (.inr rfl)) (by show (1 : Nat) ≤ 4096; omega) w
    rw [ex2] at h
    exact h
  have p3 : ∀ w, Calls Tryd.prog 12 #[.agg #[.int .u8 0, .float .f64 0, .string ⟨#[]⟩, .int .i64 0], .agg #[.int .u8 1, .float .f64 0, .string ⟨#[]⟩, .int .i64 0]] w (fun e w' => e = .returned (.tuple #[.bool true, .int .i64 0]) ∧ Below w.heap.size w w') := fun w => by
    have h := Plain_v (a := .und) (b := .nul) trivial trivial w
    rw [ex3] at h
    exact h
  have p4 : ∀ w, Calls Tryd.prog 12 #[.agg #[.int .u8 1, .float .f64 0, .string ⟨#[]⟩, .int .i64 0], .agg #[.int .u8 3, .float .f64 0, .string ⟨#[]⟩, .int .i64 0]] w (fun e w' => e = .returned (.tuple #[.bool false, .int .i64 0]) ∧ Below w.heap.size w w') := fun w => by
    have h := Plain_v (a := .nul) (b := .num 0) trivial hc0 w
    rw [ex4] at h
    exact h
  have p5 : ∀ w, Calls Tryd.prog 12 #[.agg #[.int .u8 4, .float .f64 0, .string ⟨#[45, 48]⟩, .int .i64 0], .agg #[.int .u8 3, .float .f64 0, .string ⟨#[]⟩, .int .i64 0]] w (fun e w' => e = .returned (.tuple #[.bool false, .int .i64 10]) ∧ Below w.heap.size w w') := fun w => by
    have h := Plain_v (a := .str ⟨#[45, 48]⟩) (b := .num 0) (by show (2 : Nat) ≤ 4096; omega) hc0 w
    rw [ex5] at h
    exact h
  have p6 : ∀ w, Calls Tryd.prog 12 #[.agg #[.int .u8 6, .float .f64 0, .string ⟨#[]⟩, .int .i64 1], .agg #[.int .u8 3, .float .f64 0, .string ⟨#[]⟩, .int .i64 0]] w (fun e w' => e = .returned (.tuple #[.bool false, .int .i64 9]) ∧ Below w.heap.size w w') := fun w => by
    have h := Plain_v (a := .obj 6 1) (b := .num 0) ⟨.inl rfl, by omega, by omega⟩ hc0 w
    rw [ex6] at h
    exact h
  have x1 : ∀ w, TabHere w → Calls Tryd.prog 14 #[.agg #[.int .u8 4, .float .f64 0, .string ⟨#[97, 10]⟩, .int .i64 0]] w (fun e w' => ∃ t : ByteArray, e = .returned (.string t) ∧ t.data.toList = [34, 97, 92, 110, 34] ∧ Below w.heap.size w w') := fun w ht => (Text_v (v := .str ⟨#[97, 10]⟩) (by show (2 : Nat) ≤ 4096; omega) w ht).mono fun e w' ⟨t, he, h, hb⟩ => ⟨t, he, h.trans ex7, hb⟩
  have x2 : ∀ w, TabHere w → Calls Tryd.prog 14 #[.agg #[.int .u8 7, .float .f64 0, .string ⟨#[]⟩, .int .i64 4]] w (fun e w' => ∃ t : ByteArray, e = .returned (.string t) ∧ t.data.toList = [111, 98, 106, 101, 99, 116, 32, 52] ∧ Below w.heap.size w w') := fun w ht => (Text_v (v := .obj 7 4) ⟨.inr (.inl rfl), by omega, by omega⟩ w ht).mono fun e w' ⟨t, he, h, hb⟩ => ⟨t, he, h.trans ex8, hb⟩
  have x3 : ∀ w, TabHere w → Calls Tryd.prog 14 #[.agg #[.int .u8 5, .float .f64 0, .string ⟨#[]⟩, .int .i64 2]] w (fun e w' => ∃ t : ByteArray, e = .returned (.string t) ∧ t.data.toList = [115, 121, 109, 98, 111, 108, 32, 50] ∧ Below w.heap.size w w') := fun w ht => (Text_v (v := .sym 2) ⟨by omega, by omega⟩ w ht).mono fun e w' ⟨t, he, h, hb⟩ => ⟨t, he, h.trans ex9, hb⟩
  have m1 : ∀ w, Calls Tryd.prog 16 #[.agg #[.int .u8 9, .float .f64 0, .string ⟨#[]⟩, .int .i64 0]] w (fun e w' => e = .returned (.bool false) ∧ Below w.heap.size w w') := fun w => May_no 0 ⟨#[]⟩ 0 w 9 (by decide) rfl rfl rfl rfl rfl rfl rfl
  have m2 : ∀ w, Calls Tryd.prog 16 #[.agg #[.int .u8 3, .float .f64 4602678819172646912, .string ⟨#[]⟩, .int .i64 0]] w (fun e w' => e = .returned (.bool false) ∧ Below w.heap.size w w') := fun w => May_k3 4602678819172646912 ⟨#[]⟩ 0 w is_half2
  have m3 : ∀ w, Calls Tryd.prog 16 #[.agg #[.int .u8 1, .float .f64 0, .string ⟨#[]⟩, .int .i64 1]] w (fun e w' => e = .returned (.bool false) ∧ Below w.heap.size w w') := fun w => by
    have h := May_k1 0 ⟨#[]⟩ 1 w (by decide)
    rw [show ((true : Bool) && restB 0 ⟨#[]⟩ 1) = false by unfold restB; rw [show ((1 : Int) == 0) = false by decide, Bool.and_false, Bool.false_and]; rfl] at h
    exact h
  have nv := fun w => Num_v v w
  have n1 := fun w => Num_v 4607182418800017408 w
  have n2 := fun w => Num_v 4619567317775286272 w
  have n3 := fun w => Num_v 0 w
  have n4 := fun w => Num_v 4602678819172646912 w
  have b1 : ∀ w, Calls Tryd.prog 9 #[.bool true] w (fun e w' => e = .returned (.agg #[.int .u8 2, .float .f64 4607182418800017408, .string ⟨#[]⟩, .int .i64 0]) ∧ Below w.heap.size w w') := fun w => Bool_v true w
  clear hcN hok hf hf0 hc0 hc7 v1 v2
  have HTAB := Lib.hid htab
  clear htab
  have hst := vstore
  go_enter Tryd.func3, Tryd.ntmps3
  go_upto_region 3 with (go_at_call 5; refine (nv _).mono ?_; rintro e w1 ⟨rfl, h1⟩)
  have hS := n1_start (t := 24) (v := v) (vb (below_drawn _ _) h1)
  clear h1 hr nv hst
  have s1 := n1_c (w := w) (g := w1.heap.size) (v := v) s1
  have s2 := n1_c (w := w) (g := w1.heap.size) (v := v) s2
  have s3 := n1_c (w := w) (g := w1.heap.size) (v := v) s3
  have s4 := n1_c (w := w) (g := w1.heap.size) (v := v) s4
  have t1 := n1_c (w := w) (g := w1.heap.size) (v := v) t1
  have t2 := n1_c (w := w) (g := w1.heap.size) (v := v) t2
  have y1 := n1_c (w := w) (g := w1.heap.size) (v := v) y1
  have p1 := n1_c (w := w) (g := w1.heap.size) (v := v) p1
  have p2 := n1_c (w := w) (g := w1.heap.size) (v := v) p2
  have p3 := n1_c (w := w) (g := w1.heap.size) (v := v) p3
  have p4 := n1_c (w := w) (g := w1.heap.size) (v := v) p4
  have p5 := n1_c (w := w) (g := w1.heap.size) (v := v) p5
  have p6 := n1_c (w := w) (g := w1.heap.size) (v := v) p6
  have m1 := n1_c (w := w) (g := w1.heap.size) (v := v) m1
  have m2 := n1_c (w := w) (g := w1.heap.size) (v := v) m2
  have m3 := n1_c (w := w) (g := w1.heap.size) (v := v) m3
  have n1 := n1_c (w := w) (g := w1.heap.size) (v := v) n1
  have n2 := n1_c (w := w) (g := w1.heap.size) (v := v) n2
  have n3 := n1_c (w := w) (g := w1.heap.size) (v := v) n3
  have n4 := n1_c (w := w) (g := w1.heap.size) (v := v) n4
  have b1 := n1_c (w := w) (g := w1.heap.size) (v := v) b1
  have x1 := n1_text (w := w) (g := w1.heap.size) (v := v) HTAB.out x1
  have x2 := n1_text (w := w) (g := w1.heap.size) (v := v) HTAB.out x2
  have x3 := n1_text (w := w) (g := w1.heap.size) (v := v) HTAB.out x3
  have k1 := n1_c (w := w) (g := w1.heap.size) (v := v) (Check_neg v)
  have k2 := n1_c (w := w) (g := w1.heap.size) (v := v) (Check_obj)
  have k3 := n1_c (w := w) (g := w1.heap.size) (v := v) (Check_sym)
  have y2 := n1_c (w := w) (g := w1.heap.size) (v := v) (Type_9)
  have x4 := n1_c (w := w) (g := w1.heap.size) (v := v) (Text_9)
  have al := n1_c (w := w) (g := w1.heap.size) (v := v) (valalive_any)
  have o1 := fun k n => n1_c (w := w) (g := w1.heap.size) (v := v) (fun w => object_v k n w)
  generalize w1.alloc (.cells #[.int .u8 3, .float .f64 v, .string ⟨#[]⟩, .int .i64 0] 24) = W at hS ⊢
  generalize w1.heap.size = g at *
  clear HTAB w1
  obtain ⟨d0, d1, d2, d3, _⟩ := id hS
  go_wp2_with (first
    | (go_at_call 6; first | ((with_reducible refine (s1 _ hS).mono ?_); rintro e wx ⟨rfl, hS⟩; obtain ⟨d0, d1, d2, d3, _⟩ := id hS) | ((with_reducible refine (s3 _ hS).mono ?_); rintro e wx ⟨rfl, hS⟩; obtain ⟨d0, d1, d2, d3, _⟩ := id hS) | ((with_reducible refine (s4 _ hS).mono ?_); rintro e wx ⟨rfl, hS⟩; obtain ⟨d0, d1, d2, d3, _⟩ := id hS))
    | (go_at_call 7; ((with_reducible refine (s2 _ hS).mono ?_); rintro e wx ⟨rfl, hS⟩; obtain ⟨d0, d1, d2, d3, _⟩ := id hS))
    | (go_at_call 10; first | ((with_reducible refine (t1 _ hS).mono ?_); rintro e wx ⟨rfl, hS⟩; obtain ⟨d0, d1, d2, d3, _⟩ := id hS) | ((with_reducible refine (t2 _ hS).mono ?_); rintro e wx ⟨rfl, hS⟩; obtain ⟨d0, d1, d2, d3, _⟩ := id hS))
    | (go_at_call 11; first | ((with_reducible refine (y1 _ hS).mono ?_); rintro e wx ⟨rfl, hS⟩; obtain ⟨d0, d1, d2, d3, _⟩ := id hS) | ((with_reducible refine (y2 _ hS).mono ?_); rintro e wx ⟨rfl, hS⟩; obtain ⟨d0, d1, d2, d3, _⟩ := id hS))
    | (go_at_call 12; first | ((with_reducible refine (p1 _ hS).mono ?_); rintro e wx ⟨rfl, hS⟩; obtain ⟨d0, d1, d2, d3, _⟩ := id hS) | ((with_reducible refine (p2 _ hS).mono ?_); rintro e wx ⟨rfl, hS⟩; obtain ⟨d0, d1, d2, d3, _⟩ := id hS) | ((with_reducible refine (p3 _ hS).mono ?_); rintro e wx ⟨rfl, hS⟩; obtain ⟨d0, d1, d2, d3, _⟩ := id hS) | ((with_reducible refine (p4 _ hS).mono ?_); rintro e wx ⟨rfl, hS⟩; obtain ⟨d0, d1, d2, d3, _⟩ := id hS) | ((with_reducible refine (p5 _ hS).mono ?_); rintro e wx ⟨rfl, hS⟩; obtain ⟨d0, d1, d2, d3, _⟩ := id hS) | ((with_reducible refine (p6 _ hS).mono ?_); rintro e wx ⟨rfl, hS⟩; obtain ⟨d0, d1, d2, d3, _⟩ := id hS))
    | (go_at_call 16; first | ((with_reducible refine (m1 _ hS).mono ?_); rintro e wx ⟨rfl, hS⟩; obtain ⟨d0, d1, d2, d3, _⟩ := id hS) | ((with_reducible refine (m2 _ hS).mono ?_); rintro e wx ⟨rfl, hS⟩; obtain ⟨d0, d1, d2, d3, _⟩ := id hS) | ((with_reducible refine (m3 _ hS).mono ?_); rintro e wx ⟨rfl, hS⟩; obtain ⟨d0, d1, d2, d3, _⟩ := id hS))
    | (go_at_call 5; first | ((with_reducible refine (n1 _ hS).mono ?_); rintro e wx ⟨rfl, hS⟩; obtain ⟨d0, d1, d2, d3, _⟩ := id hS) | ((with_reducible refine (n2 _ hS).mono ?_); rintro e wx ⟨rfl, hS⟩; obtain ⟨d0, d1, d2, d3, _⟩ := id hS) | ((with_reducible refine (n3 _ hS).mono ?_); rintro e wx ⟨rfl, hS⟩; obtain ⟨d0, d1, d2, d3, _⟩ := id hS) | ((with_reducible refine (n4 _ hS).mono ?_); rintro e wx ⟨rfl, hS⟩; obtain ⟨d0, d1, d2, d3, _⟩ := id hS))
    | (go_at_call 9; ((with_reducible refine (b1 _ hS).mono ?_); rintro e wx ⟨rfl, hS⟩; obtain ⟨d0, d1, d2, d3, _⟩ := id hS))
    | (go_at_call 14; first | ((with_reducible refine (x1 _ hS).mono ?_); rintro e wx ⟨rfl, hS⟩; obtain ⟨d0, d1, d2, d3, _⟩ := id hS) | ((with_reducible refine (x2 _ hS).mono ?_); rintro e wx ⟨rfl, hS⟩; obtain ⟨d0, d1, d2, d3, _⟩ := id hS) | ((with_reducible refine (x3 _ hS).mono ?_); rintro e wx ⟨rfl, hS⟩; obtain ⟨d0, d1, d2, d3, _⟩ := id hS) | ((with_reducible refine (x4 _ hS).mono ?_); rintro e wx ⟨rfl, hS⟩; obtain ⟨d0, d1, d2, d3, _⟩ := id hS))
    | (go_at_call 15; first | ((with_reducible refine (k1 _ hS).mono ?_); rintro e wx ⟨rfl, hS⟩; obtain ⟨d0, d1, d2, d3, _⟩ := id hS) | ((with_reducible refine (k2 _ hS).mono ?_); rintro e wx ⟨rfl, hS⟩; obtain ⟨d0, d1, d2, d3, _⟩ := id hS) | ((with_reducible refine (k3 _ hS).mono ?_); rintro e wx ⟨rfl, hS⟩; obtain ⟨d0, d1, d2, d3, _⟩ := id hS))
    | (go_at_call 17; ((with_reducible refine (al _ hS).mono ?_); rintro e wx ⟨rfl, hS⟩; obtain ⟨d0, d1, d2, d3, _⟩ := id hS))
    | (go_at_call 8; ((with_reducible refine (o1 _ _ _ hS).mono ?_); rintro e wx ⟨rfl, hS⟩; obtain ⟨d0, d1, d2, d3, _⟩ := id hS))
    | (go_at_call 13; (with_reducible refine (n1_c (fun w => Str_v _ w) _ hS).mono ?_); rintro e wx ⟨rfl, hS⟩; obtain ⟨d0, d1, d2, d3, _⟩ := id hS))
  go_ret
  exact ⟨rfl, hS.2.2.2.2.2⟩
end Go.Proofs.YthjmpifdhbjdcaaDoor.S
