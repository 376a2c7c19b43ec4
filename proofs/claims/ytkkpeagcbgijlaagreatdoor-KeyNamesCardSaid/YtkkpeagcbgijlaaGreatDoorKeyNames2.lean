/-
  KeyNames: the walk.
-/
import Derived.Test.YtkkpeagcbgijlaaGreatDoorKeyNames
import Derived.Deep.CutRange
import Derived.Deep.DeepCutAuto
namespace Go.Proofs.YtkkpeagcbgijlaaGreatDoor.S
open Go.RowKit Fl

def l7 : List Ky := [(⟨(⟨#[98]⟩ : ByteArray), 0⟩ : Ky), (⟨(⟨#[49, 48]⟩ : ByteArray), 0⟩ : Ky), (⟨(⟨#[]⟩ : ByteArray), 2⟩ : Ky), (⟨(⟨#[50]⟩ : ByteArray), 0⟩ : Ky), (⟨(⟨#[97]⟩ : ByteArray), 0⟩ : Ky), (⟨(⟨#[48, 49]⟩ : ByteArray), 0⟩ : Ky), (⟨(⟨#[]⟩ : ByteArray), 1⟩ : Ky)]
def m7 : List Ky := [(⟨(⟨#[50]⟩ : ByteArray), 0⟩ : Ky), (⟨(⟨#[49, 48]⟩ : ByteArray), 0⟩ : Ky), (⟨(⟨#[98]⟩ : ByteArray), 0⟩ : Ky), (⟨(⟨#[97]⟩ : ByteArray), 0⟩ : Ky), (⟨(⟨#[48, 49]⟩ : ByteArray), 0⟩ : Ky), (⟨(⟨#[]⟩ : ByteArray), 2⟩ : Ky), (⟨(⟨#[]⟩ : ByteArray), 1⟩ : Ky)]
theorem rk7_0 : rkKy (⟨(⟨#[50]⟩ : ByteArray), 0⟩ : Ky) = 2 := by kernel_rfl
theorem rk7_1 : rkKy (⟨(⟨#[49, 48]⟩ : ByteArray), 0⟩ : Ky) = 10 := by kernel_rfl
theorem rk7_2 : rkKy (⟨(⟨#[98]⟩ : ByteArray), 0⟩ : Ky) = 1024 := by kernel_rfl
theorem rk7_3 : rkKy (⟨(⟨#[97]⟩ : ByteArray), 0⟩ : Ky) = 1024 := by kernel_rfl
theorem rk7_4 : rkKy (⟨(⟨#[48, 49]⟩ : ByteArray), 0⟩ : Ky) = 1024 := by kernel_rfl
theorem rk7_5 : rkKy (⟨(⟨#[]⟩ : ByteArray), 2⟩ : Ky) = 1025 := by kernel_rfl
theorem rk7_6 : rkKy (⟨(⟨#[]⟩ : ByteArray), 1⟩ : Ky) = 1025 := by kernel_rfl
theorem in_7 : ∀ k ∈ l7, KyIn k := by
  intro k hk
  simp only [l7, List.mem_cons, List.not_mem_nil, or_false] at hk
  rcases hk with rfl | rfl | rfl | rfl | rfl | rfl | rfl
  · exact ⟨by decide, by decide, by decide⟩
  · exact ⟨by decide, by decide, by decide⟩
  · exact ⟨by decide, by decide, by decide⟩
  · exact ⟨by decide, by decide, by decide⟩
  · exact ⟨by decide, by decide, by decide⟩
  · exact ⟨by decide, by decide, by decide⟩
  · exact ⟨by decide, by decide, by decide⟩
theorem ord_7 : OrdOf l7 m7 := by
  refine ⟨?_, fun r => ?_, rfl⟩
  · unfold m7
    simp [rk7_0, rk7_1, rk7_2, rk7_3, rk7_4, rk7_5, rk7_6]
  · unfold l7 m7
    simp only [List.filter_cons, List.filter_nil, rk7_0, rk7_1, rk7_2, rk7_3, rk7_4, rk7_5, rk7_6]
    by_cases c1 : 2 = r
    · subst c1; rfl
    · by_cases c2 : 10 = r
      · subst c2; rfl
      · by_cases c3 : 1024 = r
        · subst c3; rfl
        · by_cases c4 : 1025 = r
          · subst c4; rfl
          · simp [c1, c2, c3, c4]
theorem ix7_0 : ixK (⟨#[49, 48, 50, 51]⟩ : ByteArray) 0 = some 1023 := by kernel_rfl
theorem ix7_1 : ixK (⟨#[49, 48, 50, 52]⟩ : ByteArray) 0 = none := by kernel_rfl
theorem ix7_2 : ixK (⟨#[48, 49]⟩ : ByteArray) 0 = none := by kernel_rfl
theorem ix7_3 : ixK (⟨#[45, 49]⟩ : ByteArray) 0 = none := by kernel_rfl
theorem ix7_4 : ixK (⟨#[51]⟩ : ByteArray) 4 = none := by kernel_rfl
theorem may_0 : ¬ mayKy (⟨(⟨#[]⟩ : ByteArray), -1⟩ : Ky) := fun h => by have := h.1; revert this; decide
theorem may_1 : ¬ mayKy (⟨(⟨#[97]⟩ : ByteArray), 1⟩ : Ky) := fun h => by have := h.2.2 (by decide); revert this; decide
theorem may_2 : mayKy (⟨(⟨#[]⟩ : ByteArray), 6⟩ : Ky) := ⟨by decide, by decide, fun _ => rfl⟩
theorem txt_7 : (⟨(textL (.ours 7)).toArray⟩ : ByteArray) = (⟨#[55]⟩ : ByteArray) := by kernel_rfl
theorem txt_n : (⟨(textL .nan).toArray⟩ : ByteArray) = (⟨#[78, 97, 78]⟩ : ByteArray) := by kernel_rfl
theorem txt_m : (⟨(Lib.itoa (-3)).toArray⟩ : ByteArray) = (⟨#[45, 51]⟩ : ByteArray) := by kernel_rfl
theorem text_one (w : World) (htab : TabHere w) : Calls Tryz.prog 22 #[.agg #[.int .u8 2, .float .f64 4607182418800017408, .string ⟨#[]⟩, .int .i64 0]] w fun e w' => e = .returned (.string (⟨#[116, 114, 117, 101]⟩ : ByteArray)) ∧ Below w.heap.size w w' :=
  (Text_v (v := .boo 4607182418800017408) (.inr (.inr rfl)) w htab).mono fun e w' ⟨t, he, ht, hb⟩ => ⟨by
    have hf : feq 4607182418800017408 0 = false := by decide
    have ht : t.data.toList = if feq 4607182418800017408 0 then [102, 97, 108, 115, 101] else [116, 114, 117, 101] := ht
    rw [hf] at ht
    rw [he, bytes_ext (a := t) (b := (⟨#[116, 114, 117, 101]⟩ : ByteArray)) (by rw [ht]; rfl)], hb⟩
/-- what the calls of the last examples keep -/
def Has (l : List (Nat × Ky)) (wr : World) : Prop := ∀ p ∈ l, wr.heap[p.1]? = some (.cells #[.string p.2.str, .int .i64 p.2.sym] 25 (0, 0))
theorem of_keep4 (s : ByteArray) (g1 g2 g3 g4 : Nat) (w0 W : World) (h1 : g1 < w0.heap.size) (h2 : g2 < w0.heap.size) (h3 : g3 < w0.heap.size) (h4 : g4 < w0.heap.size) (hb : Below w0.heap.size w0 W) :
    Calls Tryz.prog 6 #[.string s] W fun e w' => e = .returned (.agg #[.string s, .int .i64 0]) ∧ Below w0.heap.size w0 w' ∧ (∀ o, w'.cell? ⟨g1, o, none⟩ = W.cell? ⟨g1, o, none⟩) ∧ (∀ o, w'.cell? ⟨g2, o, none⟩ = W.cell? ⟨g2, o, none⟩) ∧ (∀ o, w'.cell? ⟨g3, o, none⟩ = W.cell? ⟨g3, o, none⟩) ∧ ∀ o, w'.cell? ⟨g4, o, none⟩ = W.cell? ⟨g4, o, none⟩ :=
  (keyOf_k s W).mono fun _ _ ⟨he, h⟩ => ⟨he, vb hb h, fun o => h.cell (p := ⟨g1, o, none⟩) (Nat.lt_of_lt_of_le h1 hb.size), fun o => h.cell (p := ⟨g2, o, none⟩) (Nat.lt_of_lt_of_le h2 hb.size), fun o => h.cell (p := ⟨g3, o, none⟩) (Nat.lt_of_lt_of_le h3 hb.size), fun o => h.cell (p := ⟨g4, o, none⟩) (Nat.lt_of_lt_of_le h4 hb.size)⟩
theorem sym_keep4 (n : Int) (n0 : 0 ≤ n) (n1 : n < 9223372036854775807) (g1 g2 g3 g4 : Nat) (w0 W : World) (h1 : g1 < w0.heap.size) (h2 : g2 < w0.heap.size) (h3 : g3 < w0.heap.size) (h4 : g4 < w0.heap.size) (hb : Below w0.heap.size w0 W) :
    Calls Tryz.prog 7 #[.int .i64 n] W fun e w' => e = .returned (.agg #[.string ⟨#[]⟩, .int .i64 (n + 1)]) ∧ Below w0.heap.size w0 w' ∧ (∀ o, w'.cell? ⟨g1, o, none⟩ = W.cell? ⟨g1, o, none⟩) ∧ (∀ o, w'.cell? ⟨g2, o, none⟩ = W.cell? ⟨g2, o, none⟩) ∧ (∀ o, w'.cell? ⟨g3, o, none⟩ = W.cell? ⟨g3, o, none⟩) ∧ ∀ o, w'.cell? ⟨g4, o, none⟩ = W.cell? ⟨g4, o, none⟩ :=
  (Sym_k n n0 n1 W).mono fun _ _ ⟨he, h⟩ => ⟨he, vb hb h, fun o => h.cell (p := ⟨g1, o, none⟩) (Nat.lt_of_lt_of_le h1 hb.size), fun o => h.cell (p := ⟨g2, o, none⟩) (Nat.lt_of_lt_of_le h2 hb.size), fun o => h.cell (p := ⟨g3, o, none⟩) (Nat.lt_of_lt_of_le h3 hb.size), fun o => h.cell (p := ⟨g4, o, none⟩) (Nat.lt_of_lt_of_le h4 hb.size)⟩


theorem p_7 (w : World) (htab : TabHere w) : Calls Tryz.prog 9 #[.agg #[.int .u8 3, .float .f64 4619567317775286272, .string ⟨#[]⟩, .int .i64 0]] w (PrimTo (⟨#[55]⟩ : ByteArray) 0 0 w) :=
  Prim_txt 3 4619567317775286272 (⟨#[55]⟩ : ByteArray) (.inr rfl) (fun w => May_ok (v := .num 4619567317775286272) ⟨.ours 7, ⟨by decide, by unfold SafeN; omega⟩, rfl⟩ w) (fun w ht => by
    have h := TextNum_v (x := 4619567317775286272) (c := .ours 7) ⟨by decide, by unfold SafeN; omega⟩ w ht
    rw [txt_7] at h
    exact h) w htab
theorem p_t (w : World) (htab : TabHere w) : Calls Tryz.prog 9 #[.agg #[.int .u8 2, .float .f64 4607182418800017408, .string ⟨#[]⟩, .int .i64 0]] w (PrimTo (⟨#[116, 114, 117, 101]⟩ : ByteArray) 0 0 w) :=
  Prim_txt 2 4607182418800017408 (⟨#[116, 114, 117, 101]⟩ : ByteArray) (.inl rfl) (fun w => May_ok (v := .boo 4607182418800017408) (.inr (.inr rfl)) w) (fun w ht => text_one w ht) w htab
theorem p_n (x : Nat) (x1 : x < 2 ^ 64) (x2 : IsNaN x) (w : World) (htab : TabHere w) : Calls Tryz.prog 9 #[.agg #[.int .u8 3, .float .f64 x, .string ⟨#[]⟩, .int .i64 0]] w (PrimTo (⟨#[78, 97, 78]⟩ : ByteArray) 0 0 w) :=
  Prim_txt 3 x (⟨#[78, 97, 78]⟩ : ByteArray) (.inr rfl) (fun w => May_ok (v := .num x) ⟨.nan, ⟨x1, x2⟩, rfl⟩ w) (fun w ht => by
    have h := TextNum_v (x := x) (c := .nan) ⟨x1, x2⟩ w ht
    rw [txt_n] at h
    exact h) w htab
theorem p_s (w : World) : Calls Tryz.prog 9 #[.agg #[.int .u8 5, .float .f64 0, .string ⟨#[]⟩, .int .i64 2]] w (PrimTo ⟨#[]⟩ 3 0 w) := Prim_sym 2 (by decide) (by decide) w
theorem p_o (w : World) : Calls Tryz.prog 9 #[.agg #[.int .u8 6, .float .f64 0, .string ⟨#[]⟩, .int .i64 2]] w (PrimTo ⟨#[]⟩ 0 9 w) := Prim_obj 6 2 (.inl rfl) (by decide) (by decide) w
theorem n_m (w : World) (htab : TabHere w) : Calls Tryz.prog 11 #[.int .i64 (-3)] w fun e w' => e = .returned (.agg #[.string (⟨#[45, 51]⟩ : ByteArray), .int .i64 0]) ∧ Below w.heap.size w w' := by
  have h := Number_k (-3) (by decide) (by decide) w htab
  rw [txt_m] at h
  exact h

set_option maxHeartbeats 8000000 in
set_option maxRecDepth 1000000 in
theorem KeyNames_walk (w : World) (htab : TabHere w) : Calls Tryz.prog 3 #[] w fun e w' => e = .returned (.bool true) ∧ Below w.heap.size w w' := by
  have HTAB := Lib.hid htab
  have H := Lib.hid (Below.refl w.heap.size w)
  clear htab
  go_enter Tryz.func3, Tryz.ntmps3
  go_wp2_with (first
    | (go_at_call 6; (with_reducible refine (keyOf_k _ _).mono ?_); rintro e v ⟨rfl, hb⟩; have H := Lib.hid (vb H.out hb); clear hb)
    | (go_at_call 7; first
      | ((with_reducible refine (Sym_k 1 ?_ ?_ _).mono ?_); decide; decide; rintro e v ⟨rfl, hb⟩; have H := Lib.hid (vb H.out hb); clear hb)
      | ((with_reducible refine (Sym_k 0 ?_ ?_ _).mono ?_); decide; decide; rintro e v ⟨rfl, hb⟩; have H := Lib.hid (vb H.out hb); clear hb)))
  go_at_call 5
  refine (Order_k (some ⟨v.heap.size, 0, none⟩) l7 7 (v.alloc (.cells #[.string (⟨#[98]⟩ : ByteArray), .int .i64 0, .string (⟨#[49, 48]⟩ : ByteArray), .int .i64 0, .string (⟨#[]⟩ : ByteArray), .int .i64 2, .string (⟨#[50]⟩ : ByteArray), .int .i64 0, .string (⟨#[97]⟩ : ByteArray), .int .i64 0, .string (⟨#[48, 49]⟩ : ByteArray), .int .i64 0, .string (⟨#[]⟩ : ByteArray), .int .i64 1] 25)) in_7 (by decide) (rk_blk (heap_alloc_new v _)) (tab_up HTAB.out (vb H.out (vzero _ _)))).mono ?_
  rintro e w3 ⟨M, O, rfl, hO, _, hOb, h3⟩
  obtain rfl := ord_eq hO ord_7
  have H3 : Hid (Below w.heap.size w w3) := Lib.hid (vb (vb H.out (vzero _ _)) h3)
  have hOl := lt_blk hOb
  clear hO h3 H
  rw [show l7.length = 7 from rfl]
  go_wp2_with (fail)
  go_cut [2] from 36 to 87 (fun q wx => q = .bool true ∧ Hid (Below w.heap.size w wx))
  case first =>
   have hd := H3.out.drew
   have c0 := vcells hOb 0
   rw [show (kyCells m7).toArray[0]? = some (.string (⟨#[50]⟩ : ByteArray)) from rfl] at c0
   have c1 := vcells hOb 1
   rw [show (kyCells m7).toArray[1]? = some (.int .i64 0) from rfl] at c1
   have q0 := key_eq 9998 (⟨#[50]⟩ : ByteArray) (⟨#[50]⟩ : ByteArray) 0 0
   rw [show ((⟨#[50]⟩ : ByteArray) == (⟨#[50]⟩ : ByteArray) && (0 : Int) == 0) = true from rfl] at q0
   have c2 := vcells hOb 2
   rw [show (kyCells m7).toArray[2]? = some (.string (⟨#[49, 48]⟩ : ByteArray)) from rfl] at c2
   have c3 := vcells hOb 3
   rw [show (kyCells m7).toArray[3]? = some (.int .i64 0) from rfl] at c3
   have q1 := key_eq 9998 (⟨#[49, 48]⟩ : ByteArray) (⟨#[49, 48]⟩ : ByteArray) 0 0
   rw [show ((⟨#[49, 48]⟩ : ByteArray) == (⟨#[49, 48]⟩ : ByteArray) && (0 : Int) == 0) = true from rfl] at q1
   have c4 := vcells hOb 4
   rw [show (kyCells m7).toArray[4]? = some (.string (⟨#[98]⟩ : ByteArray)) from rfl] at c4
   have c5 := vcells hOb 5
   rw [show (kyCells m7).toArray[5]? = some (.int .i64 0) from rfl] at c5
   have q2 := key_eq 9998 (⟨#[98]⟩ : ByteArray) (⟨#[98]⟩ : ByteArray) 0 0
   rw [show ((⟨#[98]⟩ : ByteArray) == (⟨#[98]⟩ : ByteArray) && (0 : Int) == 0) = true from rfl] at q2
   have c6 := vcells hOb 6
   rw [show (kyCells m7).toArray[6]? = some (.string (⟨#[97]⟩ : ByteArray)) from rfl] at c6
   have c7 := vcells hOb 7
   rw [show (kyCells m7).toArray[7]? = some (.int .i64 0) from rfl] at c7
   have q3 := key_eq 9998 (⟨#[97]⟩ : ByteArray) (⟨#[97]⟩ : ByteArray) 0 0
   rw [show ((⟨#[97]⟩ : ByteArray) == (⟨#[97]⟩ : ByteArray) && (0 : Int) == 0) = true from rfl] at q3
   have c8 := vcells hOb 8
   rw [show (kyCells m7).toArray[8]? = some (.string (⟨#[48, 49]⟩ : ByteArray)) from rfl] at c8
   have c9 := vcells hOb 9
   rw [show (kyCells m7).toArray[9]? = some (.int .i64 0) from rfl] at c9
   have q4 := key_eq 9998 (⟨#[48, 49]⟩ : ByteArray) (⟨#[48, 49]⟩ : ByteArray) 0 0
   rw [show ((⟨#[48, 49]⟩ : ByteArray) == (⟨#[48, 49]⟩ : ByteArray) && (0 : Int) == 0) = true from rfl] at q4
   have c10 := vcells hOb 10
   rw [show (kyCells m7).toArray[10]? = some (.string (⟨#[]⟩ : ByteArray)) from rfl] at c10
   have c11 := vcells hOb 11
   rw [show (kyCells m7).toArray[11]? = some (.int .i64 2) from rfl] at c11
   have q5 := key_eq 9998 (⟨#[]⟩ : ByteArray) (⟨#[]⟩ : ByteArray) 2 2
   rw [show ((⟨#[]⟩ : ByteArray) == (⟨#[]⟩ : ByteArray) && (2 : Int) == 2) = true from rfl] at q5
   have c12 := vcells hOb 12
   rw [show (kyCells m7).toArray[12]? = some (.string (⟨#[]⟩ : ByteArray)) from rfl] at c12
   have c13 := vcells hOb 13
   rw [show (kyCells m7).toArray[13]? = some (.int .i64 1) from rfl] at c13
   have q6 := key_eq 9998 (⟨#[]⟩ : ByteArray) (⟨#[]⟩ : ByteArray) 1 1
   rw [show ((⟨#[]⟩ : ByteArray) == (⟨#[]⟩ : ByteArray) && (1 : Int) == 1) = true from rfl] at q6
   have ko := fun s W hg hb => of_keep s O w W hg hb
   have k1 := fun W hg hb => sym_keep 1 (by decide) (by decide) O w W hg hb
   have k0 := fun W hg hb => sym_keep 0 (by decide) (by decide) O w W hg hb
   clear hOb
   go_region_held3 (fun w' => O < w'.heap.size ∧ Below w.heap.size w w' ∧ w'.cell? ⟨O, 0, none⟩ = some (.string (⟨#[50]⟩ : ByteArray)) ∧ w'.cell? ⟨O, 1, none⟩ = some (.int .i64 0) ∧ w'.cell? ⟨O, 2, none⟩ = some (.string (⟨#[49, 48]⟩ : ByteArray)) ∧ w'.cell? ⟨O, 3, none⟩ = some (.int .i64 0) ∧ w'.cell? ⟨O, 4, none⟩ = some (.string (⟨#[98]⟩ : ByteArray)) ∧ w'.cell? ⟨O, 5, none⟩ = some (.int .i64 0) ∧ w'.cell? ⟨O, 6, none⟩ = some (.string (⟨#[97]⟩ : ByteArray)) ∧ w'.cell? ⟨O, 7, none⟩ = some (.int .i64 0) ∧ w'.cell? ⟨O, 8, none⟩ = some (.string (⟨#[48, 49]⟩ : ByteArray)) ∧ w'.cell? ⟨O, 9, none⟩ = some (.int .i64 0) ∧ w'.cell? ⟨O, 10, none⟩ = some (.string (⟨#[]⟩ : ByteArray)) ∧ w'.cell? ⟨O, 11, none⟩ = some (.int .i64 2) ∧ w'.cell? ⟨O, 12, none⟩ = some (.string (⟨#[]⟩ : ByteArray)) ∧ w'.cell? ⟨O, 13, none⟩ = some (.int .i64 1)) (first | exact ⟨hOl, hd, c0, c1, c2, c3, c4, c5, c6, c7, c8, c9, c10, c11, c12, c13⟩ | go_keep)
    (first
      | (go_at_call 6; ((with_reducible refine (ko _ _ ?_ ?_).mono ?_); (simp [*]); (simp [*]); rintro e w' ⟨rfl, hb1, hb2, hb3⟩))
      | (go_at_call 7; first
        | ((with_reducible refine (k1 _ ?_ ?_).mono ?_); (simp [*]); (simp [*]); rintro e w' ⟨rfl, hb1, hb2, hb3⟩)
        | ((with_reducible refine (k0 _ ?_ ?_).mono ?_); (simp [*]); (simp [*]); rintro e w' ⟨rfl, hb1, hb2, hb3⟩)))
   have H := Lib.hid (show Below w.heap.size w w' by assumption)
   go_wp2_with (fail)
   go_meet
   exact ⟨rfl, H⟩
  case rest =>
   obtain ⟨rfl, H⟩ := hcut
   clear hOb hOl H3

   go_upto_region 12 with (first
    | (go_at_call 6; (with_reducible refine (keyOf_k _ _).mono ?_); rintro e v ⟨rfl, hb⟩; have H := Lib.hid (vb H.out hb); clear hb)
    | (go_at_call 8; first | ((with_reducible refine (Index_k (⟨#[49, 48, 50, 51]⟩ : ByteArray) 0 _ ?_ ?_ ?_).mono ?_); decide; decide; exact tab_up HTAB.out H.out; rw [ix7_0]; rintro e v ⟨rfl, hb⟩; have H := Lib.hid (vb H.out hb); clear hb) | ((with_reducible refine (Index_k (⟨#[49, 48, 50, 52]⟩ : ByteArray) 0 _ ?_ ?_ ?_).mono ?_); decide; decide; exact tab_up HTAB.out H.out; rw [ix7_1]; rintro e v ⟨rfl, hb⟩; have H := Lib.hid (vb H.out hb); clear hb) | ((with_reducible refine (Index_k (⟨#[48, 49]⟩ : ByteArray) 0 _ ?_ ?_ ?_).mono ?_); decide; decide; exact tab_up HTAB.out H.out; rw [ix7_2]; rintro e v ⟨rfl, hb⟩; have H := Lib.hid (vb H.out hb); clear hb) | ((with_reducible refine (Index_k (⟨#[45, 49]⟩ : ByteArray) 0 _ ?_ ?_ ?_).mono ?_); decide; decide; exact tab_up HTAB.out H.out; rw [ix7_3]; rintro e v ⟨rfl, hb⟩; have H := Lib.hid (vb H.out hb); clear hb) | ((with_reducible refine (Index_k (⟨#[51]⟩ : ByteArray) 4 _ ?_ ?_ ?_).mono ?_); decide; decide; exact tab_up HTAB.out H.out; rw [ix7_4]; rintro e v ⟨rfl, hb⟩; have H := Lib.hid (vb H.out hb); clear hb))
    | (go_at_call 9; first
      | ((with_reducible refine (p_7 _ (tab_up HTAB.out H.out)).mono ?_); rintro e v1 ⟨rfl, hb⟩; have H := Lib.hid (vb H.out hb); clear hb)
      | ((with_reducible refine (p_t _ (tab_up HTAB.out (vb H.out (vzero _ _)))).mono ?_); rintro e v2 ⟨rfl, hb⟩; have K1 := Lib.hid (vblk1 hb); have H := Lib.hid (vb (vb H.out (vzero _ _)) hb); clear hb)))
   obtain ⟨x, x1, x2, hr⟩ := run_float_none (P := Tryz.prog) (op := .quo) (x := 0) (y := 0) (by simp) (by decide) (v2.alloc (.cells #[.string (⟨#[116, 114, 117, 101]⟩ : ByteArray), .int .i64 0] 25))
   have hr := hr 30
   have X1 := Lib.hid x1
   have X2 := Lib.hid x2
   clear x1 x2
   go_upto_region 15 with (go_at_call 9; first
      | ((with_reducible refine (p_n _ X1.out X2.out _ (tab_up HTAB.out (kb0 (vb H.out (vzero _ _)) _))).mono ?_); rintro e v3 ⟨rfl, hb⟩; have hb := vb (below_drawn _ _) hb; have K2 := Lib.hid (vblk1 hb); have K1 := Lib.hid (vblkn (vafter hb) K1.out); have H := Lib.hid (vb (vb H.out (vzero _ _)) hb); clear hb hr)
      | ((with_reducible refine (p_s _).mono ?_); rintro e v4 ⟨rfl, hb⟩; have K3 := Lib.hid (vblk1 hb); have K2 := Lib.hid (vblkn (vafter hb) K2.out); have K1 := Lib.hid (vblkn (vafter hb) K1.out); have H := Lib.hid (vb (vb H.out (vzero _ _)) hb); clear hb)
      | ((with_reducible refine (p_o _).mono ?_); rintro e v5 ⟨rfl, hb⟩; have K4 := Lib.hid (vblk1 hb); have K3 := Lib.hid (vblkn (vafter hb) K3.out); have K2 := Lib.hid (vblkn (vafter hb) K2.out); have K1 := Lib.hid (vblkn (vafter hb) K1.out); have H := Lib.hid (vb (vb H.out (vzero _ _)) hb); clear hb))
   have l1 := lt_blk K1.out
   obtain ⟨a1, b1, _⟩ := kc2 (vblkn (vzero v5 (.cells #[.string ⟨#[]⟩, .int .i64 0] 25)) K1.out)
   have q0 := key_eq 9998 (⟨#[55]⟩ : ByteArray) (⟨#[55]⟩ : ByteArray) 0 0
   rw [show ((⟨#[55]⟩ : ByteArray) == (⟨#[55]⟩ : ByteArray) && (0 : Int) == 0) = true from rfl] at q0
   have l2 := lt_blk K2.out
   obtain ⟨a2, b2, _⟩ := kc2 (vblkn (vzero v5 (.cells #[.string ⟨#[]⟩, .int .i64 0] 25)) K2.out)
   have q1 := key_eq 9998 (⟨#[116, 114, 117, 101]⟩ : ByteArray) (⟨#[116, 114, 117, 101]⟩ : ByteArray) 0 0
   rw [show ((⟨#[116, 114, 117, 101]⟩ : ByteArray) == (⟨#[116, 114, 117, 101]⟩ : ByteArray) && (0 : Int) == 0) = true from rfl] at q1
   have l3 := lt_blk K3.out
   obtain ⟨a3, b3, _⟩ := kc2 (vblkn (vzero v5 (.cells #[.string ⟨#[]⟩, .int .i64 0] 25)) K3.out)
   have q2 := key_eq 9998 (⟨#[78, 97, 78]⟩ : ByteArray) (⟨#[78, 97, 78]⟩ : ByteArray) 0 0
   rw [show ((⟨#[78, 97, 78]⟩ : ByteArray) == (⟨#[78, 97, 78]⟩ : ByteArray) && (0 : Int) == 0) = true from rfl] at q2
   have l4 := lt_blk K4.out
   obtain ⟨a4, b4, _⟩ := kc2 (vblkn (vzero v5 (.cells #[.string ⟨#[]⟩, .int .i64 0] 25)) K4.out)
   have q3 := key_eq 9998 (⟨#[]⟩ : ByteArray) (⟨#[]⟩ : ByteArray) 3 3
   rw [show ((⟨#[]⟩ : ByteArray) == (⟨#[]⟩ : ByteArray) && (3 : Int) == 3) = true from rfl] at q3
   have hd := (vzero v5 (.cells #[.string ⟨#[]⟩, .int .i64 0] 25)).drew
   have ko := fun s W hb => of_keep4 s v1.heap.size v2.heap.size v3.heap.size v4.heap.size v5 W l1 l2 l3 l4 hb
   have ks := fun W hb => sym_keep4 2 (by decide) (by decide) v1.heap.size v2.heap.size v3.heap.size v4.heap.size v5 W l1 l2 l3 l4 hb
   clear l1 l2 l3 l4
   clear K1 K2 K3 K4
   go_region_held3 (fun w' => Below v5.heap.size v5 w' ∧ w'.cell? ⟨v1.heap.size, 0, none⟩ = some (.string (⟨#[55]⟩ : ByteArray)) ∧ w'.cell? ⟨v1.heap.size, 1, none⟩ = some (.int .i64 0) ∧ w'.cell? ⟨v2.heap.size, 0, none⟩ = some (.string (⟨#[116, 114, 117, 101]⟩ : ByteArray)) ∧ w'.cell? ⟨v2.heap.size, 1, none⟩ = some (.int .i64 0) ∧ w'.cell? ⟨v3.heap.size, 0, none⟩ = some (.string (⟨#[78, 97, 78]⟩ : ByteArray)) ∧ w'.cell? ⟨v3.heap.size, 1, none⟩ = some (.int .i64 0) ∧ w'.cell? ⟨v4.heap.size, 0, none⟩ = some (.string (⟨#[]⟩ : ByteArray)) ∧ w'.cell? ⟨v4.heap.size, 1, none⟩ = some (.int .i64 3)) (first | exact ⟨hd, a1, b1, a2, b2, a3, b3, a4, b4⟩ | go_keep)
    (first
      | (go_at_call 6; ((with_reducible refine (ko _ _ ?_).mono ?_); (assumption); rintro e w' ⟨rfl, hb1, f1, f2, f3, f4⟩))
      | (go_at_call 7; ((with_reducible refine (ks _ ?_).mono ?_); (assumption); rintro e w' ⟨rfl, hb1, f1, f2, f3, f4⟩)))
   have H := Lib.hid (vb H.out (show Below v5.heap.size v5 w' by assumption))
   clear hb1 f1 f2 f3 f4 q0 q1 q2 q3 ko ks hd a1 a2 a3 a4 b1 b2 b3 b4
   have q5 := key_eq 9998 ⟨#[]⟩ ⟨#[]⟩ 0 0
   rw [show ((⟨#[]⟩ : ByteArray) == ⟨#[]⟩ && (0 : Int) == 0) = true from rfl] at q5
   have q6 := key_eq 9998 (⟨#[45, 51]⟩ : ByteArray) (⟨#[45, 51]⟩ : ByteArray) 0 0
   rw [show ((⟨#[45, 51]⟩ : ByteArray) == (⟨#[45, 51]⟩ : ByteArray) && (0 : Int) == 0) = true from rfl] at q6
   go_wp2_with (first
    | (go_at_call 10; first
      | ((with_reducible refine (keyCheck_bad ⟨#[]⟩ (-1) _ may_0).mono ?_); rintro e v ⟨rfl, hb⟩; have H := Lib.hid (vb H.out hb); clear hb)
      | ((with_reducible refine (keyCheck_bad ⟨#[97]⟩ 1 _ may_1).mono ?_); rintro e v ⟨rfl, hb⟩; have H := Lib.hid (vb H.out hb); clear hb)
      | ((with_reducible refine (keyCheck_ok ⟨#[]⟩ 6 _ may_2).mono ?_); rintro e v ⟨rfl, hb⟩; have H := Lib.hid (vb H.out hb); clear hb))
    | (go_at_call 7; first
      | ((with_reducible refine (Sym_k 5 ?_ ?_ _).mono ?_); decide; decide; rintro e v ⟨rfl, hb⟩; have H := Lib.hid (vb H.out hb); clear hb)
      | ((with_reducible refine (Sym_neg (-1) ?_ _).mono ?_); decide; rintro e v ⟨rfl, hb⟩; have H := Lib.hid (vb H.out hb); clear hb))
    | (go_at_call 11; (with_reducible refine (n_m _ (tab_up HTAB.out H.out)).mono ?_); rintro e v ⟨rfl, hb⟩; have H := Lib.hid (vb H.out hb); clear hb)
    | (go_at_call 6; (with_reducible refine (keyOf_k _ _).mono ?_); rintro e v ⟨rfl, hb⟩; have H := Lib.hid (vb H.out hb); clear hb)
    | (go_at_call 12; (with_reducible refine (keyalive_any _ (tab_up HTAB.out H.out)).mono ?_); rintro e v ⟨rfl, hb⟩; have H := Lib.hid (vb H.out hb); clear hb))
   go_ret
   exact ⟨rfl, H.out⟩
end Go.Proofs.YtkkpeagcbgijlaaGreatDoor.S
