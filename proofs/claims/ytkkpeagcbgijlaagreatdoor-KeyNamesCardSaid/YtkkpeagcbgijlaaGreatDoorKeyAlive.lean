/-
  Keys: the order is one; key.Sym, key.Text; the law's alive.
-/
import Derived.Test.YtkkpeagcbgijlaaGreatDoorKeyOrd
import Derived.Test.YtkkpeagcbgijlaaGreatDoorStrQuote
import Derived.Deep.RegionHeld3
namespace Go.Proofs.YtkkpeagcbgijlaaGreatDoor.S
open Go.RowKit Fl

theorem ord_mem {L M : List Ky} (h : OrdOf L M) (k : Ky) : k ∈ M ↔ k ∈ L := by
  have := h.fil (rkKy k)
  have e1 : k ∈ M ↔ k ∈ M.filter (fun x => rkKy x == rkKy k) := by simp
  have e2 : k ∈ L ↔ k ∈ L.filter (fun x => rkKy x == rkKy k) := by simp
  rw [e1, e2, this]
/-- two lists in order that have the same keys of each rank, in the same order, are one -/
theorem ord_unique : ∀ {M M' : List Ky}, M.Pairwise (fun a b => rkKy a ≤ rkKy b) → M'.Pairwise (fun a b => rkKy a ≤ rkKy b) → (∀ r, M.filter (fun k => rkKy k == r) = M'.filter (fun k => rkKy k == r)) → M = M'
  | [], M', _, _, h => by
    cases M' with
    | nil => rfl
    | cons y ys =>
      have := h (rkKy y)
      simp at this
  | x :: xs, [], _, _, h => by
    have := h (rkKy x)
    simp at this
  | x :: xs, y :: ys, h1, h2, h => by
    rw [List.pairwise_cons] at h1 h2
    have hxy : rkKy x = rkKy y := by
      have a1 : x ∈ (y :: ys) := by
        have : x ∈ (y :: ys).filter (fun k => rkKy k == rkKy x) := by rw [← h]; simp
        exact (List.mem_filter.1 this).1
      have a2 : y ∈ (x :: xs) := by
        have : y ∈ (x :: xs).filter (fun k => rkKy k == rkKy y) := by rw [h]; simp
        exact (List.mem_filter.1 this).1
      have b1 : rkKy y ≤ rkKy x := by
        rcases List.mem_cons.1 a1 with e | e
        · rw [e]; exact Nat.le_refl _
        · exact h2.1 x e
      have b2 : rkKy x ≤ rkKy y := by
        rcases List.mem_cons.1 a2 with e | e
        · rw [e]; exact Nat.le_refl _
        · exact h1.1 y e
      omega
    have hh := h (rkKy x)
    rw [List.filter_cons_of_pos (by simp), List.filter_cons_of_pos (by simp [hxy])] at hh
    injection hh with e1 e2
    subst e1
    have := ord_unique h1.2 h2.2 fun r => by
      by_cases c : rkKy x = r
      · subst c; exact e2
      · have := h r
        rw [List.filter_cons_of_neg (by simp [c]), List.filter_cons_of_neg (by simp [c])] at this
        exact this
    rw [this]
theorem ord_eq {L M M' : List Ky} (h : OrdOf L M) (h' : OrdOf L M') : M = M' := ord_unique h.sorted h'.sorted fun r => (h.fil r).trans (h'.fil r).symm
def kA : Ky := ⟨⟨#[97]⟩, 0⟩
def k3 : Ky := ⟨⟨#[51]⟩, 0⟩
theorem in_A3 : ∀ k ∈ [kA, k3], KyIn k := by
  intro k hk
  simp at hk
  rcases hk with rfl | rfl
  · exact ⟨by decide, by decide, by decide⟩
  · exact ⟨by decide, by decide, by decide⟩
theorem rk_A : rkKy kA = 1024 := by kernel_rfl
theorem rk_3 : rkKy k3 = 3 := by kernel_rfl
theorem ord_A3 : OrdOf [kA, k3] [k3, kA] := by
  refine ⟨?_, fun r => ?_, rfl⟩
  · simp [rk_A, rk_3]
  · simp only [List.filter_cons, List.filter_nil, rk_A, rk_3]
    by_cases c : 3 = r
    · subst c; rfl
    · by_cases d : 1024 = r
      · subst d; rfl
      · simp [c, d]

theorem Sym_k (n : Int) (h0 : 0 ≤ n) (h1 : n < 9223372036854775807) (w : World) : Calls Tryz.prog 7 #[.int .i64 n] w fun e w' => e = .returned (.agg #[.string ⟨#[]⟩, .int .i64 (n + 1)]) ∧ Below w.heap.size w w' := by
  have hn : (n == 9223372036854775807) = false := by rw [beq_eq_false_iff_ne]; omega
  go_enter Tryz.func7, Tryz.ntmps7
  go_wp2
  refine bodyPost_ret (v := .agg #[.string ⟨#[]⟩, .int .i64 (n + 1)]) (by simp [results, Tryz.results7, go_sem]) rfl ⟨rfl, ?_⟩
  exact vzero _ _

/-- a key's text -/
def symText (n : Int) : ByteArray := (⟨#[115, 121, 109, 98, 111, 108, 32]⟩ : ByteArray) ++ ⟨(Lib.itoa n).toArray⟩
set_option maxHeartbeats 1000000 in
theorem TextSym_k (s : ByteArray) (y : Int) (h0 : 0 < y) (h1 : y < 9223372036854775808) (w : World) (htab : TabHere w) : Calls Tryz.prog 14 #[.agg #[.string s, .int .i64 y]] w fun e w' => e = .returned (.string (symText (y - 1))) ∧ Below w.heap.size w w' := by
  have hI := fun w ht => Itoa_k (y - 1) (by omega) (by omega) w ht
  have hS := fun w => keysymbol_k s y w
  have hd : decide (0 < y) = true := by simp; exact h0
  rw [hd] at hS
  have HTAB := Lib.hid htab
  unfold symText
  have hlen : (⟨(Lib.itoa (y - 1)).toArray⟩ : ByteArray).size ≤ 21 := by
    have := Lib.itoa_length_le (y - 1) (by omega) (by omega)
    show (Lib.itoa (y - 1)).toArray.size ≤ 21
    simpa using this
  generalize (⟨(Lib.itoa (y - 1)).toArray⟩ : ByteArray) = t at *
  clear htab hd
  go_enter Tryz.func14, Tryz.ntmps14
  go_wp2_with (first
    | (go_at_call 23; refine (hS _).mono ?_; rintro e w1 ⟨rfl, h2⟩; have hb1 := vblk1 h2; have hz1 := vlt1 h2; obtain ⟨hc0, hc1, hfr⟩ := kc2 hb1; clear hb1; have H1 := Lib.hid (vafter h2); clear h2)
    | (go_at_call 24; refine (hI _ (HTAB.out _ H1.out)).mono ?_; rintro e w2 ⟨rfl, h2⟩; have H2 := Lib.hid (vb H1.out h2); clear h2))
  go_ret
  exact ⟨rfl, H2.out⟩

/-- keys in a block of their own -/
theorem rk_blk {w : World} {O : Nat} {M : List Ky} (h : w.heap[O]? = some (.cells (kyCells M).toArray 25 (0, 0))) : RK w (some ⟨O, 0, none⟩) M := fun hp => by
  have hadd : ∀ k, (⟨O, 0, none⟩ : Addr).add k = ⟨O, k, none⟩ := fun k => by unfold Addr.add; split <;> simp_all
  refine ⟨⟨O, 0, none⟩, rfl, lt_blk h, fun i hi => ?_⟩
  obtain ⟨k1, k2⟩ := kyCells_at M i hi
  rw [hadd]
  exact ⟨(vcells h (i * 2)).trans (by simpa using k1), (vcells h (i * 2 + 1)).trans (by simpa using k2)⟩
theorem of_keep (s : ByteArray) (g : Nat) (w0 w : World) (hg : g < w.heap.size) (hb : Below w0.heap.size w0 w) :
    Calls Tryz.prog 6 #[.string s] w fun e w' => e = .returned (.agg #[.string s, .int .i64 0]) ∧ g < w'.heap.size ∧ Below w0.heap.size w0 w' ∧ ∀ o, w'.cell? ⟨g, o, none⟩ = w.cell? ⟨g, o, none⟩ :=
  (keyOf_k s w).mono fun _ _ ⟨he, h⟩ => ⟨he, Nat.lt_of_lt_of_le hg h.size, vb hb h, fun o => h.cell (p := ⟨g, o, none⟩) hg⟩
theorem sym_keep (n : Int) (h0 : 0 ≤ n) (h1 : n < 9223372036854775807) (g : Nat) (w0 w : World) (hg : g < w.heap.size) (hb : Below w0.heap.size w0 w) :
    Calls Tryz.prog 7 #[.int .i64 n] w fun e w' => e = .returned (.agg #[.string ⟨#[]⟩, .int .i64 (n + 1)]) ∧ g < w'.heap.size ∧ Below w0.heap.size w0 w' ∧ ∀ o, w'.cell? ⟨g, o, none⟩ = w.cell? ⟨g, o, none⟩ :=
  (Sym_k n h0 h1 w).mono fun _ _ ⟨he, h⟩ => ⟨he, Nat.lt_of_lt_of_le hg h.size, vb hb h, fun o => h.cell (p := ⟨g, o, none⟩) hg⟩
theorem text_keep (s : ByteArray) (y : Int) (h0 : 0 < y) (h1 : y < 9223372036854775808) (g : Nat) (w0 w : World) (hg : g < w.heap.size) (hb : Below w0.heap.size w0 w) (htab : TabHere w0) :
    Calls Tryz.prog 14 #[.agg #[.string s, .int .i64 y]] w fun e w' => e = .returned (.string (symText (y - 1))) ∧ g < w'.heap.size ∧ Below w0.heap.size w0 w' ∧ ∀ o, w'.cell? ⟨g, o, none⟩ = w.cell? ⟨g, o, none⟩ :=
  (TextSym_k s y h0 h1 w (tab_up htab hb)).mono fun _ _ ⟨he, h⟩ => ⟨he, Nat.lt_of_lt_of_le hg h.size, vb hb h, fun o => h.cell (p := ⟨g, o, none⟩) hg⟩
theorem ix_3 : ixK ⟨#[51]⟩ 0 = some 3 := by kernel_rfl
theorem sym_1 : symText (2 - 1) = ⟨#[115, 121, 109, 98, 111, 108, 32, 49]⟩ := by kernel_rfl

set_option maxHeartbeats 4000000 in
set_option maxRecDepth 1000000 in
theorem keyalive_any (w : World) (htab : TabHere w) : Calls Tryz.prog 12 #[] w fun e w' => e = .returned (.bool true) ∧ Below w.heap.size w w' := by
  have HTAB := Lib.hid htab
  have kO := fun s w => keyOf_k s w
  have kI := fun w ht => Index_k ⟨#[51]⟩ 0 w (by decide) (by decide) ht
  rw [ix_3] at kI
  unfold IdxTo at kI
  simp only [Option.getD_some, Option.isSome_some] at kI
  clear htab
  go_enter Tryz.func12, Tryz.ntmps12
  go_wp2_with (go_at_call 6; first
    | (refine (kO ⟨#[97]⟩ _).mono ?_; rintro e w1 ⟨rfl, h1⟩; have H1 := Lib.hid h1; clear h1)
    | (refine (kO ⟨#[51]⟩ _).mono ?_; rintro e w2 ⟨rfl, h2⟩; have H2 := Lib.hid (vb H1.out h2); clear h2))
  have hob := Order_k (some ⟨w2.heap.size, 0, none⟩) [kA, k3] 2 (w2.alloc (.cells #[.string ⟨#[97]⟩, .int .i64 0, .string ⟨#[51]⟩, .int .i64 0] 25)) in_A3 (by decide) (rk_blk (heap_alloc_new w2 _)) (tab_up HTAB.out (vb H2.out (vzero _ _)))
  go_at_call 5
  refine hob.mono ?_
  rintro e w3 ⟨M, O, rfl, hO, hOz, hOb, h3⟩
  obtain rfl := ord_eq hO ord_A3
  have H3 := Lib.hid (vb (vb H2.out (vzero _ _)) h3)
  have hOl := lt_blk hOb
  clear hob hO h3 hOz
  go_wp2_with (first
    | (go_at_call 6; refine (kO ⟨#[51]⟩ _).mono ?_; rintro e w4 ⟨rfl, h4⟩; have hb4 := vblkn h4 hOb; have hz4 := vltn h4 hOl; have H4 := Lib.hid (vb H3.out h4); clear h4)
    | (go_at_call 8; refine (kI _ (tab_up HTAB.out H4.out)).mono ?_; rintro e w5 ⟨rfl, h5⟩; have hb5 := vblkn h5 hb4; have hz5 := vltn h5 hz4; have H5 := Lib.hid (vb H4.out h5); clear h5 hb4))
  have hd := H5.out.drew
  have c0 := vcells hb5 0
  have c1 := vcells hb5 1
  rw [show (kyCells [k3, kA]).toArray[0]? = some (.string ⟨#[51]⟩) from rfl] at c0
  rw [show (kyCells [k3, kA]).toArray[1]? = some (.int .i64 0) from rfl] at c1
  have ko := fun s W hg hb => of_keep s O w W hg hb
  have ks := fun W hg hb => sym_keep 1 (by decide) (by decide) O w W hg hb
  have kt := fun W hg hb => text_keep ⟨#[]⟩ 2 (by decide) (by decide) O w W hg hb HTAB.out
  rw [sym_1] at kt
  have q3 := key_eq 9998 ⟨#[51]⟩ ⟨#[51]⟩ 0 0
  rw [show ((⟨#[51]⟩ : ByteArray) == ⟨#[51]⟩) = true from rfl] at q3
  clear kO kI hOb hb5
  go_region_held3 (fun w' => O < w'.heap.size ∧ Below w.heap.size w w' ∧ w'.cell? ⟨O, 0, none⟩ = some (.string ⟨#[51]⟩) ∧ w'.cell? ⟨O, 1, none⟩ = some (.int .i64 0)) (first | exact ⟨hz5, hd, c0, c1⟩ | go_keep)
    (first
      | (go_at_call 6; refine (ko _ _ ?_ ?_).mono ?_; (simp [*]); (simp [*]); rintro e w' ⟨rfl, hb1, hb2, hb3⟩)
      | (go_at_call 7; refine (ks _ ?_ ?_).mono ?_; (simp [*]); (simp [*]); rintro e w' ⟨rfl, hb1, hb2, hb3⟩)
      | (go_at_call 14; refine (kt _ ?_ ?_).mono ?_; (simp [*]); (simp [*]); rintro e w' ⟨rfl, hb1, hb2, hb3⟩))
  go_wp2
  go_ret
  exact ⟨rfl, by assumption⟩
end Go.Proofs.YtkkpeagcbgijlaaGreatDoor.S
